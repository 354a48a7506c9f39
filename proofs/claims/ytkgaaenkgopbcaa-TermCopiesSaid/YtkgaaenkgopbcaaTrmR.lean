/-
  What is proved: how many parts package term's Parts returns for a term of fewer than twenty parts that are all apart.
-/
import Derived.Test.YtkgaaenkgopbcaaTrmL
import Derived.Test.YtkgaaenkgopbcaaTrmQ
import Derived.OwnWalk
namespace Go.Proofs.Ytkgaaenkgopbcaa.T
open Go.RowKit L
set_option linter.unusedVariables false
set_option linter.unusedSimpArgs false

theorem collect_any (B g : Nat) (w0 w : World) (t : Tm) (a : Option Addr) (m c : Nat) (hsz : size t ≤ 1000000) (hA : Ar B w0 t a m c) (hB : Below B w0 w) (hBw : B ≤ w.heap.size) (hT : TBox w g (opT t) (nameT t) (numT t) a m c) :
    Calls Try.prog 55 #[.func (.func 60) #[] #[.pointer (some ⟨g, 0, none⟩)]] w fun e w' => ∃ v, e = .returned v ∧ (∃ pts : List (Pt B w0), pts.map Pt.t = all t ∧ OwnT w' w.heap.size v (pts.map hdP)) ∧ Below w.heap.size w w' := by
  have cA := (callsIn_wide (n := 5)).1 (AppendSeq_in B g w0 w t a m c hsz hA hB hBw hT)
  clear hT hA
  go_enter Try.func55, Try.ntmps55
  go_wp2_with (go_at_call 68; ((with_reducible refine cA.mono ?_); rintro e w1 ⟨v, rfl, ho, hb1⟩; have Ho := Lib.hid ho; clear ho))
  go_ret
  exact ⟨_, rfl, Ho.out, hb1⟩
/-- append(l, t) for the walk: l a row of the call's own -/
theorem app_term {w : World} {ops : Array Oper} {rest : List Oper} {o : Oper} {a : Act} {Q : Exit → Act → World → Prop} (hgd : o.guard = none) (s x : Operand)
    (ho : o.op = .call { callee := .builtin .append, args := #[s, x], argTypes := #[22, 22] })
    (base : Nat) (v : Value) (hs : List Hd) (hv : a.eval s = v) (hown : OwnT w base v hs) (z : Nat) (h : Hd) (hx : a.eval x = .slice (some ⟨z, 0, none⟩) 1 1) (hz : TBox w z h.op h.nm h.nu h.a h.n h.c)
    (hn : hs.length < 1000000) (hbase : base ≤ w.heap.size)
    (hK : ∀ v' w', OwnT w' base v' (hs ++ [h]) → w.grownBy w' v.ownBlock → wpList Try.prog ops Q rest (a.put o.dst v') w') : wpList Try.prog ops Q (o :: rest) a w := by
  obtain ⟨i0, hi, hz0, hz1, hz2⟩ := info_parts termI
  refine wpList_append_own w hgd s x 22 ho base 24 i0 _ 4 56 Try.underlying22 hi hz0 hz1 hz2 rfl (by decide) v hs.length (flatH hs) hv hown ⟨z, 0, none⟩ 1 1 (flatH [h]) hx (by rw [flat_len]; rfl) (fun j u hj => ?_) (hd_one _) (by unfold maxLen; omega) (by omega) hbase fun v' w' h1 h2 _ => hK v' w' ?_ h2
  · rw [Addr.add_lit, Nat.zero_add, Blk.cell hz j, ← hj]
    have : (flatH [h]).toArray = #[.int .i64 h.op, .string h.nm, .int .i64 h.nu, .slice h.a h.n h.c] := rfl
    rw [← this]; simp
  · unfold OwnT
    rw [List.length_append, flat_app]
    exact h1

set_option maxRecDepth 100000 in
set_option maxHeartbeats 8000000 in
theorem Parts_few (t : Tm) (a : Option Addr) (m c : Nat) (w : World) (hsz : size t < 20) (hd : (all t).Nodup) (hA : ArW w t a m c) :
    Calls Try.prog 29 #[.agg #[.int .i64 (opT t), .string (nameT t), .int .i64 (numT t), .slice a m c]] w fun e w' => (∃ A C, e = .returned (.slice A (size t) C)) ∧ Below w.heap.size w w' := by
  obtain ⟨W1, hW1, hB1, hs1, S1⟩ := box1 w (opT t) (nameT t) (numT t) a m c
  obtain ⟨W2, hW2, hB2, hs2, S2⟩ := box1 W1 (opT t) (nameT t) (numT t) a m c
  have cAll := all_any (opT t) (nameT t) (numT t) a m c W1
  rw [hW2] at cAll
  have hB12 := bel_trans hB1 hB2
  have cC := collect_any w.heap.size W1.heap.size w W2 t a m c (by omega) hA hB12 hB12.size S2
  have hAw := hA
  rw [hs1] at cC cAll
  obtain ⟨s0, s1, s2, s3⟩ := S1.four
  have hp := size_pos t
  have hal : (all t).length = size t := all_len t
  have HF := Lib.hid (show ∀ (w3 : World) (v : Value), Below W2.heap.size W2 w3 → (∃ pts : List (Pt w.heap.size w), pts.map Pt.t = all t ∧ OwnT w3 W2.heap.size v (pts.map hdP)) → ∃ g1 C1, v = .slice (some ⟨g1, 0, none⟩) (size t) C1 ∧ TsW w3 (some ⟨g1, 0, none⟩) (size t) C1 (all t) from fun w3 v hb3 ⟨pts, hm, ho⟩ => by
    have hpl : pts.length = size t := by rw [← hal, ← hm]; simp
    obtain ⟨A1, C1, hv, _, _, _, hg⟩ := ho.slice
    have hpl2 : (pts.map hdP).length = size t := by simp [hpl]
    rw [hpl2] at hv hg
    obtain ⟨g1, hg1, _, _⟩ := hg hp
    subst hg1 hv
    refine ⟨g1, C1, rfl, ho.isT (Nat.le_refl _) (by rw [hpl2, hal]) fun k hk hk2 => ?_⟩
    have hk3 : k < pts.length := by simpa using hk2
    have e1 : (pts.map hdP)[k] = hdP pts[k] := by simp
    have e2 : (all t)[k] = pts[k].t := by
      have : (all t)[k]? = some pts[k].t := by rw [← hm]; simp [hk3]
      exact (List.getElem?_eq_some_iff.1 this).2
    rw [e1, e2]
    have hbw := (bel_trans hB12 hb3)
    exact ⟨rfl, rfl, rfl, Ar.mono hbw.size _ (Ar.bel hbw _ pts[k].ok)⟩)
  have HS := Lib.hid (show ∀ x ∈ all t, size x ≤ 1000000 from fun x hx => by
    have : ∀ (t : Tm), ∀ x ∈ all t, size x ≤ size t := fun t => by
      refine Tm.ind (P := fun t => ∀ x ∈ all t, size x ≤ size t) (fun t ih x hx => ?_) t
      rw [all_mk] at hx
      rcases List.mem_cons.1 hx with rfl | hx
      · exact Nat.le_refl _
      · have : ∀ l : List Tm, (∀ y ∈ l, ∀ x ∈ all y, size x ≤ size y) → ∀ x ∈ alls l, size x ≤ sizes l := fun l => by
          induction l with
          | nil => intro _ x hx; simp [alls] at hx
          | cons y l ih2 =>
            intro h x hx
            rw [alls] at hx
            rw [sizes]
            rcases List.mem_append.1 hx with hx | hx
            · have := h y (by simp) x hx; omega
            · have := ih2 (fun z hz => h z (by simp [hz])) x hx; omega
        have h1 := this (argsT t) ih x hx
        have h2 : size t = 1 + sizes (argsT t) := by cases t; rw [size]; rfl
        omega
    have := this t x hx
    omega)
  clear hA S1 S2 hAw
  generalize hall : all t = pl at *
  generalize hn : size t = n at *
  generalize opT t = op at *
  generalize nameT t = nm at *
  generalize numT t = nu at *
  clear hall hn
  go_enter Try.func29, Try.ntmps29
  go_wp2_with (first
    | (go_at_call 37; ((with_reducible refine cAll.mono ?_); rintro e w1 ⟨rfl, rfl⟩))
    | (go_at_call 55; ((with_reducible refine cC.mono ?_); rintro e w3 ⟨v, rfl, ho, hb3⟩; obtain ⟨g1, C1, rfl, hT3⟩ := HF.out w3 v hb3 ho; clear ho; have HT3 := Lib.hid hT3; clear hT3))
    | (go_at_call 56; ((with_reducible refine (firsts_few _ _ _ _ _ HT3.out hp hsz hd).mono ?_); rintro e w4 ⟨rfl, hR4, hb4⟩; have H4 := Lib.hid hR4; clear hR4; have HT4 := Lib.hid (TsW.b HT3.out hb4))))
  have hb34 := bel_trans hb3 hb4
  have hpl : pl.length = n := HT3.out.1.symm
  go_loopw [4, 13] (fun q i wr0 => ∃ (v : Value) (wr : World) (k : Nat), v = q ∧ wr = wr0 ∧ k ≤ n ∧ i = .int .i64 k ∧ Below w4.heap.size w4 wr ∧ Hid (∃ hs : List Hd, OwnT wr w4.heap.size v hs ∧ hs.length = k)) (fun q i _ => n - (intOf i).toNat)
  case atStart => exact ⟨_, _, 0, rfl, rfl, by omega, rfl, Below.refl _ _, Lib.hid ⟨[], OwnT.nil _ _, rfl⟩⟩
  case round =>
    obtain ⟨v, wr, k, rfl, rfl, hk, rfl, hB, hR⟩ := hrel
    obtain ⟨hs, ho, hlen⟩ := hR.out
    by_cases hlt : k < n
    · have hr4 := H4.out
      have hkk : (List.range n)[k]? = some k := by simp [hlt]
      have c0 := (hB.cell (p := ⟨_, k, none⟩) (Blk.lt hr4)).trans (RowN.at hr4 hkk)
      obtain ⟨bb, o, x, A, M, Cc, hA1, hb, y0, y1, y2, y3, hx, hok⟩ := (TsW.b HT4.out hB).at hlt
      injection hA1 with hA1
      injection hA1 with e1 e2
      subst e1 e2
      rw [Nat.zero_add] at y0 y1 y2 y3
      have cc := Copy_any x A M Cc wr (HS.out x (List.mem_of_getElem? hx)) hok
      have Hx := Lib.hid hx
      have Ho := Lib.hid ho
      have Hlen := Lib.hid hlen
      clear hx hok hR ho hlen hr4 hkk hpl
      generalize opT x = op' at *
      generalize nameT x = nm' at *
      generalize numT x = nu' at *
      have hk0 : 0 ≤ (k : Int) := by omega
      have hk1 : (k : Int) < (n : Int) := by omega
      go_wp2_with (first
        | (go_at_call 35; ((with_reducible refine cc.mono ?_); rintro e w5 ⟨h, rfl, hF, hb5⟩; have hB5 := bel_trans hB hb5; have ho5 := Lib.hid (Ho.out.below hb5); clear hF))
        | (at_builtin; ((refine app_term rfl (.tmp 17) (.tmp 23) rfl w4.heap.size v hs rfl (ho5.out.below (bel_alloc (Below.refl _ _) _)) w5.heap.size h rfl (TBox.new w5 h.op h.nm h.nu h.a h.n h.c) (by have := Hlen.out; omega) (by have := hB5.size; simp; omega) ?_); intro v6 w6 ho6 hg6; have H6 := Lib.hid ho6; clear ho6)))
      go_roundw
      case rel => exact ⟨_, _, k + 1, rfl, rfl, by omega, by go_num, (bel_alloc hB5 _).grown hg6 (by have := hB5.size; simp; omega) (fun j hj => (World.ownsRow.lt Ho.out j hj).1), Lib.hid ⟨hs ++ [h], H6.out, by rw [List.length_append, Hlen.out]; rfl⟩⟩
      case measure => simp [intOf]; omega
    · obtain rfl : k = n := by omega
      obtain ⟨A9, C9, hv, _⟩ := ho.slice
      rw [hlen] at hv
      subst hv
      have Hb := Lib.hid ((bel_trans hB12 hb34).trans (hB.mono (bel_trans hB12 hb34).size))
      clear hR ho hlen
      go_wp2
      go_ret
      exact ⟨⟨_, _, rfl⟩, Hb.out⟩
end Go.Proofs.Ytkgaaenkgopbcaa.T
