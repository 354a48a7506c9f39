/-
  What is proved: how many parts package term's Parts returns for a term of fewer than twenty parts that are all apart.
-/
import Derived.Test.YtelepojpnkoelaaZTrmL
import Derived.Test.YtelepojpnkoelaaZTrmQ
import Derived.OwnWalk
namespace Go.Proofs.Ytelepojpnkoelaa.T
open Go.RowKit L
set_option linter.unusedVariables false
set_option linter.unusedSimpArgs false

theorem collect_any (B g g2 : Nat) (w0 w : World) (t : Tm) (a : Option Addr) (m c : Nat) (hsz : size t ≤ 1000000) (hA : Ar B w0 t a m c) (hB : Below B w0 w) (hBw : B ≤ w.heap.size) (hT : TBox w g (opT t) (nameT t) (numT t) a m c) (hF : Blk w g2 #[.func (.func 39) #[] #[]] 27) :
    Calls Try.prog 25 #[.func (.func 75) #[] #[.pointer (some ⟨g, 0, none⟩), .pointer (some ⟨g2, 0, none⟩)]] w fun e w' => ∃ v, e = .returned v ∧ (∃ pts : List (Pt B w0), pts.map Pt.t = all t ∧ OwnT w' w.heap.size v (pts.map hdP)) ∧ Below w.heap.size w w' := by
  have cA := (callsIn_wide (n := 5)).1 (AppendSeq_in B g g2 w0 w t a m c hsz hA hB hBw hT hF)
  clear hT hA hF
  go_enter Try.func25, Try.ntmps25
  go_wp2_with (go_at_call 52; ((with_reducible refine cA.mono ?_); rintro e w1 ⟨v, rfl, ho, hb1⟩; have Ho := Lib.hid ho; clear ho))
  go_ret
  exact ⟨_, rfl, Ho.out, hb1⟩
set_option maxRecDepth 100000 in
set_option maxHeartbeats 8000000 in
theorem Parts_few (t : Tm) (a : Option Addr) (m c : Nat) (w : World) (hsz : size t < 20) (hd : (all t).Nodup) (hA : ArW w t a m c) :
    Calls Try.prog 9 #[.agg #[.int .i64 (opT t), .string (nameT t), .int .i64 (numT t), .slice a m c]] w fun e w' => (∃ A C, e = .returned (.slice A (size t) C)) ∧ Below w.heap.size w w' := by
  obtain ⟨W1, hW1, hB1, hs1, S1⟩ := box1 w (opT t) (nameT t) (numT t) a m c
  obtain ⟨W2, hW2, hB2, hs2, S2, F2⟩ := box_all W1 (opT t) (nameT t) (numT t) a m c
  have cAll := all_any (opT t) (nameT t) (numT t) a m c W1
  rw [hW2] at cAll
  have hB12 := bel_trans hB1 hB2
  have cC := collect_any w.heap.size (W1.heap.size + 1) (W1.heap.size + 2) w W2 t a m c (by omega) hA hB12 hB12.size S2 F2
  have hAw := hA
  rw [hs1] at cC cAll
  obtain ⟨s0, s1, s2, s3⟩ := S1.four
  have hp := size_pos t
  have hal : (all t).length = size t := all_len t
  have HF := Lib.hid (show ∀ (w3 : World) (v : Value), Below W2.heap.size W2 w3 → (∃ pts : List (Pt w.heap.size w), pts.map Pt.t = all t ∧ OwnT w3 W2.heap.size v (pts.map hdP)) → ∃ g1 C1, v = .slice (some ⟨g1, 0, none⟩) (size t) C1 ∧ TsW w3 (some ⟨g1, 0, none⟩) (size t) C1 (all t) from fun w3 v hb3 ⟨pts, hm, ho⟩ => by
    have hpl : pts.length = size t := by rw [← hal, ← hm]; simp
    obtain ⟨A1, C1, hv, _, _, _, hg⟩ := ho.slice
    have hpl2 : (pts.map hdP).length = size t := by simp [hpl]
    rw [hpl2] at hv hg
    obtain ⟨g1, hg1, _, _⟩ := hg hp
    subst hg1 hv
    refine ⟨g1, C1, rfl, ho.isT (Nat.le_refl _) (by rw [hpl2, hal]) fun k hk hk2 => ?_⟩
    have hk3 : k < pts.length := by simpa using hk2
    have e1 : (pts.map hdP)[k] = hdP pts[k] := by simp
    have e2 : (all t)[k] = pts[k].t := by
      have : (all t)[k]? = some pts[k].t := by rw [← hm]; simp [hk3]
      exact (List.getElem?_eq_some_iff.1 this).2
    rw [e1, e2]
    have hbw := (bel_trans hB12 hb3)
    exact ⟨rfl, rfl, rfl, Ar.mono hbw.size _ (Ar.bel hbw _ pts[k].ok)⟩)
  have HS := Lib.hid (show sizes (all t) ≤ 1000000 from by
    have h1 : ∀ x ∈ all t, size x ≤ size t := by
      refine Tm.ind (P := fun t => ∀ x ∈ all t, size x ≤ size t) (fun t ih x hx => ?_) t
      rw [all_mk] at hx
      rcases List.mem_cons.1 hx with rfl | hx
      · exact Nat.le_refl _
      · have : ∀ l : List Tm, (∀ y ∈ l, ∀ x ∈ all y, size x ≤ size y) → ∀ x ∈ alls l, size x ≤ sizes l := fun l => by
          induction l with
          | nil => intro _ x hx; simp [alls] at hx
          | cons y l ih2 =>
            intro h x hx
            rw [alls] at hx
            rw [sizes]
            rcases List.mem_append.1 hx with hx | hx
            · have := h y (by simp) x hx; omega
            · have := ih2 (fun z hz => h z (by simp [hz])) x hx; omega
        have h1 := this (argsT t) ih x hx
        have h2 : size t = 1 + sizes (argsT t) := by cases t; rw [size]; rfl
        omega
    have h2 : ∀ l : List Tm, (∀ x ∈ l, size x ≤ 20) → sizes l ≤ l.length * 20 := fun l => by
      induction l with
      | nil => intro _; simp [sizes]
      | cons y l ih => intro h; rw [sizes, List.length_cons]; have := h y (by simp); have := ih (fun z hz => h z (by simp [hz])); omega
    have := h2 (all t) (fun x hx => by have := h1 x hx; omega)
    rw [hal] at this
    omega)
  clear hA S1 S2 hAw F2
  generalize hall : all t = pl at *
  generalize hn : size t = n at *
  generalize opT t = op at *
  generalize nameT t = nm at *
  generalize numT t = nu at *
  clear hall hn
  go_enter Try.func9, Try.ntmps9
  go_wp2_with (first
    | (go_at_call 26; ((with_reducible refine cAll.mono ?_); rintro e w1 ⟨rfl, rfl⟩))
    | (go_at_call 25; ((with_reducible refine cC.mono ?_); rintro e w3 ⟨v, rfl, ho, hb3⟩; obtain ⟨g1, C1, rfl, hT3⟩ := HF.out w3 v hb3 ho; clear ho; have HT3 := Lib.hid hT3; clear hT3))
    | (go_at_call 24; ((with_reducible refine (firsts_few _ _ _ _ _ HT3.out hp hsz hd).mono ?_); rintro e w4 ⟨g4, rfl, hT4, hb4⟩; have HT4 := Lib.hid hT4; clear hT4))
    | (go_at_call 23; ((with_reducible refine (mapCopy_of _ (fun t _ => Copy_any t) HS.out _ _ _ _ HT4.out).mono ?_); rintro e w5 ⟨A5, C5, rfl, _, _, hb5⟩)))
  go_ret
  exact ⟨⟨_, _, rfl⟩, bel_trans hB12 (bel_trans (bel_trans hb3 hb4) hb5)⟩
end Go.Proofs.Ytelepojpnkoelaa.T
