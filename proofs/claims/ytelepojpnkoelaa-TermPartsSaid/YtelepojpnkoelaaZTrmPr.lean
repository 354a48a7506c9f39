/-
  What is proved: the reference's In and Parts.
-/
import Derived.Test.YtelepojpnkoelaaZTrmPa
import Derived.Test.YtelepojpnkoelaaZTrmBb
import Derived.Test.YtelepojpnkoelaaZLibTe
import Derived.Deep.AppendLies
import Derived.Deep.RegionHeld3
namespace Go.Proofs.Ytelepojpnkoelaa.T
open Go.RowKit L
set_option linter.unusedVariables false
set_option linter.unusedSimpArgs false

theorem app_oneP {w : World} {ops : Array Oper} {rest : List Oper} {o : Oper} {a : Act} {Q : Exit → Act → World → Prop} (hgd : o.guard = none) (s x : Operand)
    (ho : o.op = .call { callee := .builtin .append, args := #[s, x], argTypes := #[22, 22] })
    (base : Nat) (v : Value) (Y : List Hd) (hs : a.eval s = v) (hown : OwnT w base v Y) (z : Nat) (h : Hd) (hx : a.eval x = .slice (some ⟨z, 0, none⟩) 1 1) (hz : Blk w z #[.int .i64 h.op, .string h.nm, .int .i64 h.nu, .slice h.a h.n h.c] 24)
    (hn : Y.length + 1 ≤ 1000000000) (hbase : base ≤ w.heap.size)
    (hK : ∀ g cap w', OwnT w' base (.slice (some ⟨g, 0, none⟩) (Y.length + 1) cap) (Y ++ [h]) → w.grownBy w' v.ownBlock → (v.ownBlock = some g ∨ g = w.heap.size) → wpList Try.prog ops Q rest (a.put o.dst (.slice (some ⟨g, 0, none⟩) (Y.length + 1) cap)) w') : wpList Try.prog ops Q (o :: rest) a w := by
  obtain ⟨i0, hi, hz0, hz1, hz2⟩ := info_parts termI
  refine wpList_append_lies w hgd s x 22 ho base 24 i0 _ 4 56 Try.underlying22 hi hz0 hz1 hz2 rfl (by decide) v Y.length (flatH Y) hs hown ⟨z, 0, none⟩ 1 1 (flatH [h]) hx (by rw [flat_len]; rfl) (fun j u hj => by rw [show flatH [h] = h.cells ++ [] from rfl] at hj; exact World.news_of_block hz j u (by simpa [Hd.cells] using hj)) (hd_one _) (by omega) (by unfold maxLen; omega) (by omega) hbase _ rfl fun g cap w' h1 h2 h3 _ => hK g cap w' ?_ h2 h3
  unfold OwnT
  rw [List.length_append, flat_app]
  exact h1

set_option maxRecDepth 100000 in
set_option maxHeartbeats 8000000 in
theorem refIn_any (l : List Tm) (x : Tm) (A : Option Addr) (n c : Nat) (a' : Option Addr) (n' c' : Nat) (w : World) (hT : TsW w A n c l) (hA : ArW w x a' n' c') :
    Calls Try.prog 11 #[.slice A n c, .agg #[.int .i64 (opT x), .string (nameT x), .int .i64 (numT x), .slice a' n' c']] w fun e w' => e = .returned (.bool (inT l x)) ∧ Below w.heap.size w w' := by
  obtain ⟨W1, hW1, hB1, hs1, S1⟩ := box1 w (opT x) (nameT x) (numT x) a' n' c'
  have hn : n = l.length := hT.1
  have hn63 : n ≤ 9223372036854775807 := by have h1 := hT.2.1; have h2 := hT.2.2.1; unfold maxLen at h2; omega
  have HT := Lib.hid hT
  have HA := Lib.hid hA
  have HS := Lib.hid S1
  have HN := Lib.hid (show inT (l.take 0) x = false from rfl)
  have HE := Lib.hid (show inT (l.take n) x = inT l x from by rw [hn, List.take_length])
  have HK := Lib.hid (show ∀ k t, l[k]? = some t → inT (l.take (k + 1)) x = (inT (l.take k) x || eqT t x) ∧ (eqT t x = true → inT l x = true) from fun k t h => by
    refine ⟨?_, fun h2 => inT_iff.2 (by rw [← eqT_iff.1 h2]; exact List.mem_of_getElem? h)⟩
    rw [List.take_add_one, h]
    simp [inT])
  clear hT hA S1 hn hs1
  generalize hr : inT l x = r at *
  clear hr
  go_enter Try.func11, Try.ntmps11
  go_wp2
  go_loopw [5] (fun i wr0 => ∃ (wr : World) (k : Nat), wr = wr0 ∧ k ≤ n ∧ i = .int .i64 k ∧ Below w.heap.size w wr ∧ Hid (Below W1.heap.size W1 wr ∧ inT (l.take k) x = false)) (fun i _ => n - (intOf i).toNat)
  case atStart => exact ⟨_, 0, rfl, by omega, rfl, hB1, Lib.hid ⟨Below.refl _ _, HN.out⟩⟩
  case round =>
    obtain ⟨wr, k, rfl, hk, rfl, hB, hR⟩ := hrel
    by_cases hlt : k < n
    · obtain ⟨bb, o, t, A1, M, Cc, rfl, hb, y0', y1', y2', y3', hx, hok⟩ := IsT.at HT.out hlt
      have y0 := (hB.cell (p := ⟨bb, _, none⟩) hb).trans y0'
      have y1 := (hB.cell (p := ⟨bb, _, none⟩) hb).trans y1'
      have y2 := (hB.cell (p := ⟨bb, _, none⟩) hb).trans y2'
      have y3 := (hB.cell (p := ⟨bb, _, none⟩) hb).trans y3'
      have hbl : bb < wr.heap.size := Nat.lt_of_lt_of_le hb hB.size
      have S2 := TBox.b HS.out hR.out.1
      have lS := Blk.lt S2
      obtain ⟨s0, s1, s2, s3⟩ := S2.four
      have hBd : Below wr.heap.size wr wr.drew := (Below.refl _ _).drew
      have hBw : Below w.heap.size w wr.drew := hB.drew
      have cs := Term_any t x A1 M Cc a' n' c' wr.drew (ArW.b hok hBw) (ArW.b HA.out hBw)
      obtain ⟨hk1, hk2⟩ := HK.out k t hx
      rw [hR.out.2] at hk1
      have HR1 := Lib.hid hR.out.1
      have i0 : 0 ≤ (k : Int) := by omega
      have i1 : (k : Int) < (n : Int) := by omega
      clear hx hok hR S2 y0' y1' y2' y3'
      generalize opT t = op' at *
      generalize nameT t = nm' at *
      generalize numT t = nu' at *
      cases heq : eqT t x with
      | true =>
        have hk3 := hk2 heq
        rw [heq] at cs
        clear hk1 hk2 heq
        subst hk3
        go_upto_region 4 with fail
        go_region_held3 (fun w' => w'.cell? ⟨bb, o + k * 4, none⟩ = some (.int .i64 op') ∧ w'.cell? ⟨bb, o + k * 4 + 1, none⟩ = some (.string nm') ∧ w'.cell? ⟨bb, o + k * 4 + 1 + 1, none⟩ = some (.int .i64 nu') ∧ w'.cell? ⟨bb, o + k * 4 + 1 + 1 + 1, none⟩ = some (.slice A1 M Cc) ∧ w'.cell? ⟨w.heap.size, 0, none⟩ = some (.int .i64 (opT x)) ∧ w'.cell? ⟨w.heap.size, 1, none⟩ = some (.string (nameT x)) ∧ w'.cell? ⟨w.heap.size, 2, none⟩ = some (.int .i64 (numT x)) ∧ w'.cell? ⟨w.heap.size, 3, none⟩ = some (.slice a' n' c'))
          (first | go_keep | (exact ⟨(B4.cell hbl).trans y0, (B4.cell hbl).trans y1, (B4.cell hbl).trans y2, (B4.cell hbl).trans y3, (B4.cell lS).trans s0, (B4.cell lS).trans s1, (B4.cell lS).trans s2, (B4.cell lS).trans s3⟩))
          (first | (go_at_call 22; ((with_reducible refine cs.mono ?_); rintro e w4 ⟨rfl, hb4⟩; have B4 := bel_trans hBd hb4)))
        go_wp2
        go_ret
        exact ⟨rfl, bel_trans hB B4⟩
      | false =>
        have Hn := Lib.hid (show inT (l.take (k + 1)) x = false from by rw [hk1, heq]; rfl)
        rw [heq] at cs
        clear hk1 hk2 heq
        go_upto_region 4 with fail
        go_region_held3 (fun w' => w'.cell? ⟨bb, o + k * 4, none⟩ = some (.int .i64 op') ∧ w'.cell? ⟨bb, o + k * 4 + 1, none⟩ = some (.string nm') ∧ w'.cell? ⟨bb, o + k * 4 + 1 + 1, none⟩ = some (.int .i64 nu') ∧ w'.cell? ⟨bb, o + k * 4 + 1 + 1 + 1, none⟩ = some (.slice A1 M Cc) ∧ w'.cell? ⟨w.heap.size, 0, none⟩ = some (.int .i64 (opT x)) ∧ w'.cell? ⟨w.heap.size, 1, none⟩ = some (.string (nameT x)) ∧ w'.cell? ⟨w.heap.size, 2, none⟩ = some (.int .i64 (numT x)) ∧ w'.cell? ⟨w.heap.size, 3, none⟩ = some (.slice a' n' c'))
          (first | go_keep | (exact ⟨(B4.cell hbl).trans y0, (B4.cell hbl).trans y1, (B4.cell hbl).trans y2, (B4.cell hbl).trans y3, (B4.cell lS).trans s0, (B4.cell lS).trans s1, (B4.cell lS).trans s2, (B4.cell lS).trans s3⟩))
          (first | (go_at_call 22; ((with_reducible refine cs.mono ?_); rintro e w4 ⟨rfl, hb4⟩; have B4 := bel_trans hBd hb4)))
        go_wp2
        go_roundw
        case rel => exact ⟨_, k + 1, rfl, by omega, by go_num, bel_trans hB B4, Lib.hid ⟨bel_trans HR1.out B4, Hn.out⟩⟩
        case measure => simp [intOf]; omega
    · obtain rfl : k = n := by omega
      have Hf := Lib.hid (show r = false from by rw [← HE.out]; exact hR.out.2)
      clear hR
      go_wp2
      go_ret
      exact ⟨by rw [Hf.out]; rfl, hB⟩
theorem own_ts {w wr : World} {base : Nat} {A : Option Addr} {n C : Nat} {l : List Tm} (hbw : Below w.heap.size w wr) (pts : List (Pt w.heap.size w)) (hm : pts.map Pt.t = l) (ho : OwnT wr base (.slice A n C) (pts.map hdP)) : TsW wr A n C l := by
  have hl : l.length = (pts.map hdP).length := by rw [← hm]; simp
  refine ho.isT (Nat.le_refl _) hl fun k hk hk2 => ?_
  have hk3 : k < pts.length := by simpa using hk2
  have e1 : (pts.map hdP)[k] = hdP pts[k] := by simp
  have e2 : l[k] = pts[k].t := by
    have : l[k]? = some pts[k].t := by rw [← hm]; simp [hk3]
    exact (List.getElem?_eq_some_iff.1 this).2
  rw [e1, e2]
  exact ⟨rfl, rfl, rfl, Ar.mono hbw.size _ (Ar.bel hbw _ pts[k].ok)⟩
set_option maxRecDepth 100000 in
set_option maxHeartbeats 8000000 in
theorem refParts_any (t : Tm) (a : Option Addr) (m c : Nat) (w : World) (hsz : size t ≤ 1000) (hA : ArW w t a m c) :
    Calls Try.prog 7 #[.agg #[.int .i64 (opT t), .string (nameT t), .int .i64 (numT t), .slice a m c]] w fun e w' => (∃ A n C, e = .returned (.slice A n C) ∧ TsW w' A n C (uq [] (all t))) ∧ Below w.heap.size w w' := by
  obtain ⟨W1, hW1, hB1, hs1, S1⟩ := box1 w (opT t) (nameT t) (numT t) a m c
  have cAll := RefAll_any t w.heap.size w a m c W1 (by omega) hB1.size hB1 hA
  obtain ⟨s0, s1, s2, s3⟩ := S1.four
  have hal : (all t).length = size t := all_len t
  obtain ⟨sz, hz⟩ : ∃ sz, size t = sz := ⟨_, rfl⟩
  rw [hz] at cAll hal hsz
  have Hal := Lib.hid hal
  clear hA S1 hz hal hs1
  generalize all t = l at *
  generalize opT t = op at *
  generalize nameT t = nm at *
  generalize numT t = nu at *
  go_enter Try.func7, Try.ntmps7
  go_wp2_with (go_at_call 21; ((with_reducible refine cAll.mono ?_); rintro e w3 ⟨g, cap, rfl, ⟨pts0, hp0, ho0⟩, hb3⟩; have HP0 := Lib.hid hp0; have HO0 := Lib.hid ho0; clear hp0 ho0 cAll))
  have hb13 : Below w.heap.size w w3 := bel_trans hB1 hb3
  go_loopw [3, 5] (fun v i wr0 => ∃ (wr : World) (k n : Nat) (A : Option Addr) (C : Nat), wr = wr0 ∧ k ≤ sz ∧ v = .slice A n C ∧ i = .int .i64 k ∧ Below w3.heap.size w3 wr ∧ Hid (∃ pts : List (Pt w.heap.size w), pts.map Pt.t = uq [] (l.take k) ∧ OwnT wr w3.heap.size (.slice A n C) (pts.map hdP))) (fun v i _ => sz - (intOf i).toNat)
  case atStart => exact ⟨_, 0, 0, none, 0, rfl, by omega, rfl, rfl, Below.refl _ _, Lib.hid ⟨[], rfl, rfl, .inl ⟨rfl, rfl⟩⟩⟩
  case round =>
    obtain ⟨wr, k, n, A, C, rfl, hk, rfl, rfl, hB, hR⟩ := hrel
    obtain ⟨pts, hp, ho⟩ := hR.out
    have hBw : Below w.heap.size w wr := bel_trans hb13 hB
    have hTs := own_ts hBw pts hp ho
    by_cases hlt : k < sz
    · have hpl : pts0.length = sz := by rw [← Hal.out, ← HP0.out]; simp
      have hlt0 : k < (pts0.map hdP).length := by rw [List.length_map, hpl]; exact hlt
      obtain ⟨c0, c1, c2, c3⟩ := HO0.out.at hlt0
      have hgl : g < w3.heap.size := HO0.out.row.lt
      rw [show (pts0.map hdP)[k] = hdP pts0[k] by simp] at c0 c1 c2 c3
      have hx : l[k]? = some pts0[k].t := by rw [← HP0.out, List.getElem?_map, List.getElem?_eq_getElem (show k < pts0.length by omega)]; rfl
      obtain ⟨p, hpk⟩ : ∃ p, pts0[k] = p := ⟨_, rfl⟩
      rw [hpk] at c0 c1 c2 c3 hx
      have y0 := (hB.cell (p := ⟨g, _, none⟩) hgl).trans c0
      have y1 := (hB.cell (p := ⟨g, _, none⟩) hgl).trans c1
      have y2 := (hB.cell (p := ⟨g, _, none⟩) hgl).trans c2
      have y3 := (hB.cell (p := ⟨g, _, none⟩) hgl).trans c3
      have cI := refIn_any (uq [] (l.take k)) p.t A n C p.a p.n p.c wr hTs (Ar.mono hBw.size _ (Ar.bel hBw _ p.ok))
      have hun : uq [] (l.take (k + 1)) = if inT (uq [] (l.take k)) p.t then uq [] (l.take k) else uq [] (l.take k) ++ [p.t] := by
        rw [List.take_add_one, hx]; exact uq_snoc p.t (l.take k) []
      have hnl : n ≤ 1000 := by
        have h1 := hTs.1
        have h2 := uq_len (l.take k) []
        simp at h2
        omega
      have Hp := Lib.hid hp
      have Ho := Lib.hid ho
      have hnpl : n = (pts.map hdP).length := by have h1 := hTs.1; rw [h1, ← hp]; simp
      have Hnp := Lib.hid hnpl
      have i0 : 0 ≤ (k : Int) := by omega
      have i1 : (k : Int) < (sz : Int) := by omega
      unfold hdP hdOf at y0 y1 y2 y3
      dsimp only at y0 y1 y2 y3
      clear hR hp ho hTs hx hpk c0 c1 c2 c3 hpl hlt0 hnpl
      cases hin : inT (uq [] (l.take k)) p.t with
      | true =>
        rw [hin] at cI
        have Hn := Lib.hid (show uq [] (l.take (k + 1)) = uq [] (l.take k) from by rw [hun, hin]; rfl)
        clear hun hin
        go_wp2_with (go_at_call 11; ((with_reducible refine cI.mono ?_); rintro e w4 ⟨rfl, hb4⟩))
        go_roundw
        case rel => exact ⟨_, k + 1, n, A, C, rfl, by omega, rfl, by go_num, bel_trans hB hb4, Lib.hid ⟨pts, by rw [Hn.out]; exact Hp.out, OwnT.below Ho.out hb4⟩⟩
        case measure => simp [intOf]; omega
      | false =>
        rw [hin] at cI
        have Hn := Lib.hid (show uq [] (l.take (k + 1)) = uq [] (l.take k) ++ [p.t] from by rw [hun, hin]; rfl)
        clear hun hin
        go_wp2_with (first
          | (go_at_call 11; ((with_reducible refine cI.mono ?_); rintro e w4 ⟨rfl, hb4⟩; have z0 := (hb4.cell (p := ⟨g, _, none⟩) (Nat.lt_of_lt_of_le hgl hB.size)).trans y0; have z1 := (hb4.cell (p := ⟨g, _, none⟩) (Nat.lt_of_lt_of_le hgl hB.size)).trans y1; have z2 := (hb4.cell (p := ⟨g, _, none⟩) (Nat.lt_of_lt_of_le hgl hB.size)).trans y2; have z3 := (hb4.cell (p := ⟨g, _, none⟩) (Nat.lt_of_lt_of_le hgl hB.size)).trans y3; clear y0 y1 y2 y3 cI; have hB4 := bel_trans hB hb4; obtain ⟨W5, hW5, hB5, hs5, S5⟩ := box1 w4 (opT p.t) (nameT p.t) (numT p.t) p.a p.n p.c; have Ho5 := Lib.hid (OwnT.below (OwnT.below Ho.out hb4) hB5); have HS5 := Lib.hid S5; clear S5))
          | (at_builtin; ((refine app_oneP rfl (.tmp 21) (.tmp 26) rfl w3.heap.size (.slice A n C) (pts.map hdP) rfl Ho5.out w4.heap.size (hdP p) rfl HS5.out (by rw [← Hnp.out]; omega) (by have := hB4.size; have := hB5.size; omega) ?_); intro gn cn w6 hown6 hgrow hat; rw [← Hnp.out] at hown6; have Hown6 := Lib.hid hown6; have B6 : Below w3.heap.size w3 w6 := (bel_trans hB4 hB5).grown hgrow (bel_trans hB4 hB5).size (fun q hq => (Ho5.out.lt q hq).1); clear hown6 hgrow hat)))
        go_roundw
        case rel => exact ⟨_, k + 1, n + 1, some ⟨gn, 0, none⟩, cn, rfl, by omega, by (have h := Hnp.out; rw [List.length_map] at h; rw [h]), by go_num, B6, Lib.hid ⟨pts ++ [p], by rw [List.map_append, Hp.out, Hn.out]; rfl, by rw [List.map_append]; exact Hown6.out⟩⟩
        case measure => simp [intOf]; omega
    · obtain rfl : k = sz := by omega
      have Hf := Lib.hid (show TsW wr A n C (uq [] l) from by rw [← Hal.out, List.take_length] at hTs; exact hTs)
      clear hR hp ho hTs
      go_wp2
      go_ret
      exact ⟨⟨A, n, C, rfl, Hf.out⟩, hBw⟩
end Go.Proofs.Ytelepojpnkoelaa.T
