/-
  What is proved: term.Parts: the parts of any term, each once, in new memory.
-/
import Derived.Test.YtelepojpnkoelaaZTrmFq
import Derived.Test.YtelepojpnkoelaaZTrmR
namespace Go.Proofs.Ytelepojpnkoelaa.T
open Go.RowKit L
set_option linter.unusedVariables false
set_option linter.unusedSimpArgs false

theorem uq_mem : ∀ (l out : List Tm) {x : Tm}, x ∈ uq out l → x ∉ out → x ∈ l
  | [], out, x, h, h2 => absurd h h2
  | y :: l, out, x, h, h2 => by
    rw [uq] at h
    split at h
    · exact List.mem_cons_of_mem _ (uq_mem l out h h2)
    · by_cases hxy : x = y
      · rw [hxy]; simp
      · exact List.mem_cons_of_mem _ (uq_mem l (out ++ [y]) h (by simp [h2, hxy]))
theorem uq_len : ∀ (l out : List Tm), (uq out l).length ≤ out.length + l.length
  | [], out => by simp [uq]
  | y :: l, out => by
    rw [uq]
    split
    · have := uq_len l out; simp; omega
    · have := uq_len l (out ++ [y]); simp at this ⊢; omega
theorem uq_in : ∀ (l out : List Tm) {x : Tm}, x ∈ uq out l ↔ x ∈ out ∨ x ∈ l
  | [], out, x => by simp [uq]
  | y :: l, out, x => by
    rw [uq]
    split
    · rename_i h
      rw [uq_in l out]
      have := inT_iff.1 h
      constructor
      · rintro (h | h) <;> simp [h]
      · rintro (h | h)
        · exact .inl h
        · rcases List.mem_cons.1 h with rfl | h
          · exact .inl this
          · exact .inr h
    · rw [uq_in l (out ++ [y])]
      simp [or_assoc]
/-- a row of terms that has been made, as a list of terms -/
theorem made_ts {w4 w5 : World} {A : Option Addr} {m C : Nat} {l : List Tm} (hc : m ≤ C ∧ C ≤ maxLen ∧ (A = none → C = 0)) (hr : ∃ g hs, A = some ⟨g, 0, none⟩ ∧ w4.heap.size ≤ g ∧ Row w5 g hs ∧ FrL w5 l (g + 1) w5.heap.size hs) (hm : m = l.length) : TsW w5 A m C l := by
  obtain ⟨g, hs, e1, e2, e3, e4⟩ := hr
  have hg : g < w5.heap.size := by have := e3.lt; omega
  have hf : Fr w5 (.mk 0 ⟨#[]⟩ 0 l) 0 w5.heap.size ⟨0, ⟨#[]⟩, 0, A, m, C⟩ := by
    rw [Fr]
    exact ⟨⟨rfl, rfl, rfl⟩, ⟨hm, hc⟩, Nat.zero_le _, fun _ => ⟨g, hs, e1, Nat.zero_le _, e3, e4⟩⟩
  exact ArW.args (Fr.ar (.mk 0 ⟨#[]⟩ 0 l) (Nat.le_refl _) hf)
set_option maxRecDepth 100000 in
set_option maxHeartbeats 8000000 in
theorem Parts_any (t : Tm) (a : Option Addr) (m c : Nat) (w : World) (hsz : size t ≤ 1000) (hA : ArW w t a m c) :
    Calls Try.prog 9 #[.agg #[.int .i64 (opT t), .string (nameT t), .int .i64 (numT t), .slice a m c]] w fun e w' => (∃ A m C, e = .returned (.slice A m C) ∧ TsW w' A m C (uq [] (all t))) ∧ Below w.heap.size w w' := by
  obtain ⟨W1, hW1, hB1, hs1, S1⟩ := box1 w (opT t) (nameT t) (numT t) a m c
  obtain ⟨W2, hW2, hB2, hs2, S2, F2⟩ := box_all W1 (opT t) (nameT t) (numT t) a m c
  have cAll := all_any (opT t) (nameT t) (numT t) a m c W1
  rw [hW2] at cAll
  have hB12 := bel_trans hB1 hB2
  have cC := collect_any w.heap.size (W1.heap.size + 1) (W1.heap.size + 2) w W2 t a m c (by omega) hA hB12 hB12.size S2 F2
  have hAw := hA
  rw [hs1] at cC cAll
  obtain ⟨s0, s1, s2, s3⟩ := S1.four
  have hp := size_pos t
  have hal : (all t).length = size t := all_len t
  have HF := Lib.hid (show ∀ (w3 : World) (v : Value), Below W2.heap.size W2 w3 → (∃ pts : List (Pt w.heap.size w), pts.map Pt.t = all t ∧ OwnT w3 W2.heap.size v (pts.map hdP)) → ∃ g1 C1, v = .slice (some ⟨g1, 0, none⟩) (size t) C1 ∧ TsW w3 (some ⟨g1, 0, none⟩) (size t) C1 (all t) from fun w3 v hb3 ⟨pts, hm, ho⟩ => by
    have hpl : pts.length = size t := by rw [← hal, ← hm]; simp
    obtain ⟨A1, C1, hv, _, _, _, hg⟩ := ho.slice
    have hpl2 : (pts.map hdP).length = size t := by simp [hpl]
    rw [hpl2] at hv hg
    obtain ⟨g1, hg1, _, _⟩ := hg hp
    subst hg1 hv
    refine ⟨g1, C1, rfl, ho.isT (Nat.le_refl _) (by rw [hpl2, hal]) fun k hk hk2 => ?_⟩
    have hk3 : k < pts.length := by simpa using hk2
    have e1 : (pts.map hdP)[k] = hdP pts[k] := by simp
    have e2 : (all t)[k] = pts[k].t := by
      have : (all t)[k]? = some pts[k].t := by rw [← hm]; simp [hk3]
      exact (List.getElem?_eq_some_iff.1 this).2
    rw [e1, e2]
    have hbw := (bel_trans hB12 hb3)
    exact ⟨rfl, rfl, rfl, Ar.mono hbw.size _ (Ar.bel hbw _ pts[k].ok)⟩)
  have HS := Lib.hid (show sizes (uq [] (all t)) ≤ 1000000 from by
    have h1 : ∀ x ∈ all t, size x ≤ size t := by
      refine Tm.ind (P := fun t => ∀ x ∈ all t, size x ≤ size t) (fun t ih x hx => ?_) t
      rw [all_mk] at hx
      rcases List.mem_cons.1 hx with rfl | hx
      · exact Nat.le_refl _
      · have : ∀ l : List Tm, (∀ y ∈ l, ∀ x ∈ all y, size x ≤ size y) → ∀ x ∈ alls l, size x ≤ sizes l := fun l => by
          induction l with
          | nil => intro _ x hx; simp [alls] at hx
          | cons y l ih2 =>
            intro h x hx
            rw [alls] at hx
            rw [sizes]
            rcases List.mem_append.1 hx with hx | hx
            · have := h y (by simp) x hx; omega
            · have := ih2 (fun z hz => h z (by simp [hz])) x hx; omega
        have h1 := this (argsT t) ih x hx
        have h2 : size t = 1 + sizes (argsT t) := by cases t; rw [size]; rfl
        omega
    have h2 : ∀ l : List Tm, (∀ x ∈ l, size x ≤ 1000) → sizes l ≤ l.length * 1000 := fun l => by
      induction l with
      | nil => intro _; simp [sizes]
      | cons y l ih => intro h; rw [sizes, List.length_cons]; have := h y (by simp); have := ih (fun z hz => h z (by simp [hz])); omega
    have := h2 (uq [] (all t)) (fun x hx => by have := h1 x (uq_mem _ _ hx (by simp)); omega)
    have h3 := uq_len (all t) []
    rw [hal] at h3
    simp at h3
    have : (uq [] (all t)).length * 1000 ≤ 1000 * 1000 := Nat.mul_le_mul_right _ (by omega)
    omega)
  clear hA S1 S2 hAw F2
  generalize hall : all t = pl at *
  generalize hn : size t = n at *
  generalize opT t = op at *
  generalize nameT t = nm at *
  generalize numT t = nu at *
  clear hall hn
  go_enter Try.func9, Try.ntmps9
  go_wp2_with (first
    | (go_at_call 26; ((with_reducible refine cAll.mono ?_); rintro e w1 ⟨rfl, rfl⟩))
    | (go_at_call 25; ((with_reducible refine cC.mono ?_); rintro e w3 ⟨v, rfl, ho, hb3⟩; obtain ⟨g1, C1, rfl, hT3⟩ := HF.out w3 v hb3 ho; clear ho; have HT3 := Lib.hid hT3; clear hT3))
    | (go_at_call 24; ((with_reducible refine (firsts_all _ _ _ _ _ HT3.out hp (by omega)).mono ?_); rintro e w4 ⟨g4, m4, rfl, hm4, hm5, hT4, hb4⟩; have HT4 := Lib.hid hT4; clear hT4))
    | (go_at_call 23; ((with_reducible refine (mapCopy_of _ (fun t _ => Copy_any t) HS.out _ _ _ _ HT4.out).mono ?_); rintro e w5 ⟨A5, C5, rfl, hc5, hr5, hb5⟩; have H5 := Lib.hid (made_ts hc5 (hr5 hm4) HT4.out.1); clear hc5 hr5)))
  go_ret
  exact ⟨⟨_, _, _, rfl, H5.out⟩, bel_trans hB12 (bel_trans (bel_trans hb3 hb4) hb5)⟩
end Go.Proofs.Ytelepojpnkoelaa.T
