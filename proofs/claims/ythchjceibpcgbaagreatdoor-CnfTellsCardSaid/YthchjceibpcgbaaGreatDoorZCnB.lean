/-
  What is proved: mathematics of sets of clauses' text: what is written is read as it was; what is read is right, and written and read again is the same.
-/
import Derived.Test.YthchjceibpcgbaaGreatDoorZCnM
namespace Go.Proofs.YthchjceibpcgbaaGreatDoor.Cn
open Lt
set_option linter.unusedVariables false
set_option linter.unusedSimpArgs false

def okB (b : UInt8) : Bool := Dig.isD b || b == 45
theorem okB_ne {b : UInt8} (h : okB b = true) : b ≠ 32 ∧ b ≠ 10 ∧ b ≠ 99 := by
  refine ⟨?_, ?_, ?_⟩ <;> (rintro rfl; revert h; decide +kernel)
theorem itoa_ok (n : Int) : ∀ b ∈ Lib.itoa n, okB b = true := by
  intro b hb
  by_cases h : 0 ≤ n
  · rw [Dig.itoa_pos h] at hb
    have := List.all_eq_true.1 (Dig.dec_all n.toNat) b hb
    simp [okB, this]
  · rw [Dig.itoa_neg (by omega)] at hb
    rcases List.mem_cons.1 hb with rfl | hb
    · decide +kernel
    · have := List.all_eq_true.1 (Dig.dec_all n.natAbs) b hb
      simp [okB, this]
theorem itoa_zero : Lib.itoa 0 = [48] := by decide +kernel
theorem spl_lnT : ∀ (c : List Int), spl 32 (lnT c) = (c ++ [0]).map Lib.itoa
  | [] => by rw [lnT]; simp [itoa_zero]; decide +kernel
  | x :: c => by
    have e : lnT (x :: c) = Lib.itoa x ++ 32 :: lnT c := by simp [lnT]
    rw [e, spl_free (fun b hb => (okB_ne (itoa_ok x b hb)).1), spl_lnT c]; rfl
theorem lnT_b (c : List Int) : ∀ b ∈ lnT c, okB b = true ∨ b = 32 := by
  intro b hb
  unfold lnT at hb
  rcases List.mem_append.1 hb with hb | hb
  · obtain ⟨x, _, hb⟩ := List.mem_flatMap.1 hb
    rcases List.mem_append.1 hb with hb | hb
    · exact Or.inl (itoa_ok x b hb)
    · exact Or.inr (by simpa using hb)
  · refine Or.inl ?_
    obtain rfl : b = 48 := by simpa using hb
    decide +kernel
theorem lnT_10 (c : List Int) : ∀ b ∈ lnT c, b ≠ 10 := fun b hb => by
  rcases lnT_b c b hb with h | rfl
  · exact (okB_ne h).2.1
  · decide
theorem lnT_head (c : List Int) : (lnT c).head? ≠ some 99 := by
  intro h
  have hm : (99 : UInt8) ∈ lnT c := List.mem_of_mem_head? h
  rcases lnT_b c 99 hm with h | h
  · exact (okB_ne h).2.2 rfl
  · revert h; decide
theorem nums_map {l : List Int} (h : R64s l) : nums (l.map Lib.itoa) = some l := by
  have h1 : (l.map Lib.itoa).all (fun w => Dig.rdE w == 0) = true := by
    rw [List.all_eq_true]; intro w hw
    obtain ⟨x, hx, rfl⟩ := List.mem_map.1 hw
    have := h x hx
    unfold R64 at this
    simp [(Dig.rd_itoa this.1 (by omega)).2]
  unfold nums
  rw [if_pos h1, List.map_map]
  congr 1
  have : ∀ (m : List Int), R64s m → m.map (Dig.rdV ∘ Lib.itoa) = m := by
    intro m
    induction m with
    | nil => intro _; rfl
    | cons x m ih =>
      intro hm
      have hx := hm x (by simp)
      unfold R64 at hx
      rw [List.map_cons, ih (fun y hy => hm y (by simp [hy]))]
      show Dig.rdV (Lib.itoa x) :: m = _
      rw [(Dig.rd_itoa hx.1 (by omega)).1]
  exact this l h
theorem clR_ln {c : List Int} {n : Int} (hr : R64s c) (h : rg1 c n = 0) : clR' (lnT c) n = .ok c := by
  unfold clR'
  have h0 : R64s (c ++ [0]) := by
    intro x hx
    rcases List.mem_append.1 hx with hx | hx
    · exact hr x hx
    · obtain rfl : x = 0 := by simpa using hx
      exact ⟨by decide, by decide⟩
  rw [spl_lnT, nums_map h0]
  have h1 : c.any (· == 0) = false := by
    rw [List.any_eq_false]; intro x hx
    have := ((rg1_ok.1 h).2 x hx).1
    rw [isL_iff] at this
    simp [this.1]
  simp only [List.getLast?_append, List.getLast?_singleton, Option.some_or, List.dropLast_concat, if_true, h1, h, Bool.false_eq_true, if_false]
theorem hdT_10 (N : Int) (m : Nat) : ∀ b ∈ hdT N m, b ≠ 10 := by
  intro b hb
  unfold hdT at hb
  rcases List.mem_append.1 hb with hb | hb
  · rcases List.mem_append.1 hb with hb | hb
    · rcases List.mem_append.1 hb with hb | hb
      · rintro rfl; revert hb; decide
      · exact (okB_ne (itoa_ok N b hb)).2.1
    · rintro rfl; revert hb; decide
  · exact (okB_ne (itoa_ok _ b hb)).2.1
theorem hdR_hd {N : Int} {m : Nat} (h0 : 0 ≤ N) (h1 : N ≤ 1024) (h2 : m ≤ 4096) : hdR (hdT N m) = .ok (N, m) := by
  have e : hdT N m = [112] ++ 32 :: ([99, 110, 102] ++ 32 :: (Lib.itoa N ++ 32 :: Lib.itoa (m : Int))) := by simp [hdT]
  have e2 : spl 32 (hdT N m) = [[112], [99, 110, 102], Lib.itoa N, Lib.itoa (m : Int)] := by
    rw [e, spl_free (by decide), spl_free (by decide), spl_free (fun b hb => (okB_ne (itoa_ok N b hb)).1), spl_one (fun b hb => (okB_ne (itoa_ok _ b hb)).1)]
  have e3 : nums [Lib.itoa N, Lib.itoa (m : Int)] = some [N, (m : Int)] := nums_map (l := [N, (m : Int)]) (fun x hx => by
    rcases List.mem_cons.1 hx with rfl | hx
    · exact ⟨by omega, by omega⟩
    · obtain rfl : x = (m : Int) := by simpa using hx
      exact ⟨by omega, by omega⟩)
  unfold hdR
  rw [e2]
  simp only [List.length_cons, List.length_nil, List.drop, e3, List.getElem?_cons_zero, List.getElem?_cons_succ, and_self, if_true]
  rw [if_neg (by omega), if_neg (by omega), if_neg (by omega)]
theorem hdT_head (N : Int) (m : Nat) : (hdT N m).head? ≠ some 99 := by
  have e : hdT N m = 112 :: ([32, 99, 110, 102, 32] ++ Lib.itoa N ++ [32] ++ Lib.itoa (m : Int)) := by simp [hdT]
  rw [e]; simp
theorem spl_lines : ∀ (L : List (List Int)), spl 10 (L.flatMap fun c => lnT c ++ [10]) = L.map lnT ++ [[]]
  | [] => rfl
  | c :: L => by
    have e : ((c :: L).flatMap fun c => lnT c ++ [10]) = lnT c ++ 10 :: (L.flatMap fun c => lnT c ++ [10]) := by simp
    rw [e, spl_free (lnT_10 c), spl_lines L]; rfl
theorem spl_txT (N : Int) (L : List (List Int)) : spl 10 (txT N L) = (hdT N L.length :: L.map lnT) ++ [[]] := by
  have e : txT N L = hdT N L.length ++ 10 :: (L.flatMap fun c => lnT c ++ [10]) := by simp [txT]
  rw [e, spl_free (hdT_10 N _), spl_lines]; rfl
theorem rdL_lns (N : Int) (M : Int) : ∀ (L1 L0 : List (List Int)) (k : Nat), (∀ c ∈ L1, R64s c ∧ rg1 c N = 0) → ((L0.length + L1.length : Nat) : Int) = M →
    rdL ⟨true, N, M, L0⟩ k (L1.map lnT) = .ok (⟨true, N, M, L0 ++ L1⟩, k + L1.length)
  | [], L0, k, _, _ => by simp [rdL]
  | c :: L1, L0, k, h, hM => by
    have hc := h c (by simp)
    have e : stL ⟨true, N, M, L0⟩ (lnT c) = .ok ⟨true, N, M, L0 ++ [c]⟩ := by
      unfold stL
      rw [if_neg (lnT_head c)]
      simp only [Bool.true_eq_false, if_false]
      rw [if_neg (by simp at hM; omega), clR_ln hc.1 hc.2]
    rw [List.map_cons, rdL, e]
    show rdL ⟨true, N, M, L0 ++ [c]⟩ (k + 1) (L1.map lnT) = _
    rw [rdL_lns N M L1 (L0 ++ [c]) (k + 1) (fun d hd => h d (by simp [hd])) (by simp at hM ⊢; omega)]
    simp; omega
/-- what is written is read as it was -/
theorem rd_tx {N : Int} {L : List (List Int)} (h : (rgC N L).2 = 0) (hr : ∀ c ∈ L, R64s c) : rdC (txT N L) = ⟨N, L, 0, 0⟩ := by
  obtain ⟨⟨h0, h1⟩, h2, h3⟩ := rgC_ok.1 h
  have e1 : (lns (txT N L)).1 = hdT N L.length :: L.map lnT := by unfold lns; simp only [spl_txT, List.dropLast_concat]
  have e2 : (lns (txT N L)).2 = [] := by unfold lns; simp only [spl_txT, List.getLast_concat]
  have e3 : stL ⟨false, 0, 0, []⟩ (hdT N L.length) = .ok ⟨true, N, L.length, []⟩ := by
    unfold stL
    rw [if_neg (hdT_head N _), if_pos rfl, hdR_hd h0 h1 h2]
  have e4 : rdL ⟨false, 0, 0, []⟩ 0 (hdT N L.length :: L.map lnT) = .ok (⟨true, N, L.length, L⟩, 1 + L.length) := by
    rw [rdL, e3]
    show rdL ⟨true, N, L.length, []⟩ (0 + 1) (L.map lnT) = _
    rw [rdL_lns N L.length L [] (0 + 1) (fun c hc => ⟨hr c hc, h3 c hc⟩) (by simp)]
    simp
  unfold rdC
  rw [e1, e4, e2]
  simp

/-! what is read is right -/
theorem nums_r {l : List (List UInt8)} {m : List Int} (h : nums l = some m) : R64s m := by
  unfold nums at h
  split at h
  · injection h with h; subst h
    intro x hx
    obtain ⟨w, _, rfl⟩ := List.mem_map.1 hx
    have := Dig.rdV_bd w
    exact ⟨this.1, by omega⟩
  · cases h
theorem clR_r {t : List UInt8} {n : Int} {l : List Int} (h : clR' t n = .ok l) : R64s l ∧ rg1 l n = 0 := by
  unfold clR' at h
  split at h
  · cases h
  · next m hm =>
    split at h
    · split at h
      · cases h
      · split at h
        · next h1 =>
          injection h with h; subst h
          exact ⟨fun x hx => nums_r hm x (List.dropLast_subset _ hx), h1⟩
        · cases h
    · cases h
theorem hdR_r {t : List UInt8} {n m : Int} (h : hdR t = .ok (n, m)) : (0 ≤ n ∧ n ≤ 1024) ∧ 0 ≤ m ∧ m ≤ 4096 := by
  unfold hdR at h
  simp only at h
  split at h
  · split at h
    · split at h
      · cases h
      · split at h
        · cases h
        · split at h
          · cases h
          · injection h with h; injection h with h1 h2; subst h1 h2
            omega
    · cases h
  · cases h
def Inv (s : St) : Prop := (0 ≤ s.n ∧ s.n ≤ 1024) ∧ (0 ≤ s.many ∧ s.many ≤ 4096) ∧ (s.L.length : Int) ≤ s.many ∧ ∀ c ∈ s.L, R64s c ∧ rg1 c s.n = 0
theorem stL_r {s s' : St} {t : List UInt8} (hi : Inv s) (h0 : s.seen = false → s.L = []) (h : stL s t = .ok s') : Inv s' ∧ (s'.seen = false → s'.L = []) := by
  unfold stL at h
  split at h
  · injection h with h; subst h; exact ⟨hi, h0⟩
  · split at h
    · next hs =>
      split at h
      · cases h
      · next n m hh =>
        injection h with h; subst h
        have := hdR_r hh
        have e := h0 hs
        refine ⟨⟨this.1, this.2, ?_, ?_⟩, fun e => by cases e⟩
        · show ((s.L.length : Nat) : Int) ≤ m
          rw [e]; exact this.2.1
        · show ∀ c ∈ s.L, _
          rw [e]; intro c hc; cases hc
    · next hs =>
      split at h
      · cases h
      · next hm =>
        split at h
        · cases h
        · next l hl =>
          injection h with h; subst h
          have hc := clR_r hl
          refine ⟨⟨hi.1, hi.2.1, ?_, ?_⟩, fun e => absurd e hs⟩
          · show ((s.L ++ [l]).length : Int) ≤ s.many
            have := hi.2.2.1
            simp; omega
          · intro c hc'
            rcases List.mem_append.1 hc' with hc' | hc'
            · exact hi.2.2.2 c hc'
            · obtain rfl : c = l := by simpa using hc'
              exact hc
theorem rdL_r : ∀ (r : List (List UInt8)) (s : St) (k : Nat) (s' : St) (k' : Nat), Inv s → (s.seen = false → s.L = []) → rdL s k r = .ok (s', k') → Inv s'
  | [], s, k, s', k', hi, _, h => by rw [rdL] at h; injection h with h; injection h with h1 h2; subst h1; exact hi
  | t :: r, s, k, s', k', hi, h0, h => by
    rw [rdL] at h
    split at h
    · cases h
    · next s1 hs =>
      have := stL_r hi h0 hs
      exact rdL_r r s1 (k + 1) s' k' this.1 this.2 h
/-- what is read is right, and stands for nothing where there is an error -/
theorem rdC_r (s : List UInt8) : (rgC (rdC s).n (rdC s).L).2 = 0 ∧ (∀ c ∈ (rdC s).L, R64s c) ∧ ((rdC s).e ≠ 0 → (rdC s).n = 0 ∧ (rdC s).L = []) := by
  have hz : (rgC 0 []).2 = 0 ∧ (∀ c ∈ ([] : List (List Int)), R64s c) := ⟨by decide +kernel, fun c hc => by cases hc⟩
  unfold rdC
  split
  · exact ⟨hz.1, hz.2, fun _ => ⟨rfl, rfl⟩⟩
  · next st k hst =>
    split
    · exact ⟨hz.1, hz.2, fun _ => ⟨rfl, rfl⟩⟩
    · split
      · exact ⟨hz.1, hz.2, fun _ => ⟨rfl, rfl⟩⟩
      · have hi := rdL_r (lns s).1 ⟨false, 0, 0, []⟩ 0 st k ⟨⟨by decide, by decide⟩, ⟨by decide, by decide⟩, by decide, fun c hc => by cases hc⟩ (fun _ => rfl) hst
        refine ⟨rgC_ok.2 ⟨hi.1, ?_, fun c hc => (hi.2.2.2 c hc).2⟩, fun c hc => (hi.2.2.2 c hc).1, fun h => absurd rfl h⟩
        have := hi.2.2.1
        have := hi.2.1.2
        show st.L.length ≤ 4096
        omega
theorem rd_tx_rd (s : List UInt8) : rdC (txT (rdC s).n (rdC s).L) = ⟨(rdC s).n, (rdC s).L, 0, 0⟩ := rd_tx (rdC_r s).1 (rdC_r s).2.1
end Go.Proofs.YthchjceibpcgbaaGreatDoor.Cn
