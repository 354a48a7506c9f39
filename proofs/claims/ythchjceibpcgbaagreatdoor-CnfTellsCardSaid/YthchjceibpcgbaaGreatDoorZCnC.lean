/-
  What is proved: mathematics of cleaned sets of clauses: they hold by just the same values, stay when cleaned again, and are not longer.
-/
import Derived.Test.YthchjceibpcgbaaGreatDoorZCnM
namespace Go.Proofs.YthchjceibpcgbaaGreatDoor.Cn
open Lt
set_option linter.unusedVariables false
set_option linter.unusedSimpArgs false

/-- one clause more: its clean form, unless it holds by any values or stands there -/
def clS (out : List (List Int)) (c : List Int) : List (List Int) := if opp (cl c) || out.any (fun d => same d (cl c)) then out else out ++ [cl c]
def clC (L : List (List Int)) : List (List Int) := L.foldl clS []
theorem same_up {a b : List Int} (ha : Up a) (hb : Up b) (h1 : ∀ x ∈ a, isL x = true) (h2 : ∀ x ∈ b, isL x = true) (h : same a b = true) : a = b := by
  unfold same at h
  simp only [Bool.and_eq_true] at h
  exact up_eq ha hb fun y => ⟨fun hy => (Lt.within_iff _ _).1 h.1 y hy (h1 y hy), fun hy => (Lt.within_iff _ _).1 h.2 y hy (h2 y hy)⟩
theorem cl_lit (c : List Int) : ∀ x ∈ cl c, isL x = true := fun x hx => ((mem_cl c x).1 hx).2
theorem same_clean {d c : List Int} (hd : cl d = d) : same d (cl c) = true ↔ d = cl c := by
  constructor
  · intro h
    have hu : Up d := by rw [← hd]; exact up_cl d
    exact same_up hu (up_cl c) (by rw [← hd]; exact cl_lit d) (cl_lit c) h
  · intro e
    have := same_cl d
    rw [← e]; rw [hd] at this; exact this
/-- what a cleaned list keeps -/
def Cl (out : List (List Int)) : Prop := out.Nodup ∧ ∀ d ∈ out, cl d = d ∧ opp d = false
theorem clS_eq {out : List (List Int)} (h : Cl out) (c : List Int) : clS out c = if opp (cl c) = true ∨ cl c ∈ out then out else out ++ [cl c] := by
  have e : out.any (fun d => same d (cl c)) = true ↔ cl c ∈ out := by
    rw [List.any_eq_true]
    constructor
    · rintro ⟨d, hd, hs⟩
      rw [← (same_clean (h.2 d hd).1).1 hs]; exact hd
    · intro hm
      exact ⟨cl c, hm, (same_clean (cl_cl c)).2 rfl⟩
  unfold clS
  by_cases h1 : opp (cl c) = true ∨ cl c ∈ out
  · rw [if_pos h1, if_pos]
    rcases h1 with h1 | h1
    · simp [h1]
    · simp [e.2 h1]
  · rw [if_neg h1, if_neg]
    intro h2
    simp only [Bool.or_eq_true] at h2
    rcases h2 with h2 | h2
    · exact h1 (Or.inl h2)
    · exact h1 (Or.inr (e.1 h2))
theorem clS_cl {out : List (List Int)} (h : Cl out) (c : List Int) : Cl (clS out c) := by
  rw [clS_eq h]
  split
  · exact h
  · next hn =>
    refine ⟨?_, fun d hd => ?_⟩
    · rw [List.nodup_append]
      refine ⟨h.1, by simp, fun a ha b hb hab => ?_⟩
      obtain rfl : b = cl c := by simpa using hb
      exact hn (Or.inr (hab ▸ ha))
    · rcases List.mem_append.1 hd with hd | hd
      · exact h.2 d hd
      · obtain rfl : d = cl c := by simpa using hd
        exact ⟨cl_cl c, by cases ho : opp (cl c) with | false => rfl | true => exact absurd (Or.inl ho) hn⟩
theorem fold_cl : ∀ (L : List (List Int)) {out : List (List Int)}, Cl out → Cl (L.foldl clS out)
  | [], _, h => h
  | c :: L, _, h => fold_cl L (clS_cl h c)
theorem clC_cl (L : List (List Int)) : Cl (clC L) := fold_cl L ⟨List.nodup_nil, fun d hd => by cases hd⟩
theorem clS_len (out : List (List Int)) (c : List Int) : (clS out c).length ≤ out.length + 1 := by unfold clS; split <;> simp
theorem fold_len : ∀ (L out : List (List Int)), (L.foldl clS out).length ≤ out.length + L.length
  | [], out => by simp
  | c :: L, out => by
    have := fold_len L (clS out c)
    have := clS_len out c
    simp only [List.foldl_cons, List.length_cons]; omega
theorem clC_len (L : List (List Int)) : (clC L).length ≤ L.length := by have := fold_len L []; simpa [clC] using this
theorem fold_same : ∀ (L out : List (List Int)), Cl (out ++ L) → L.foldl clS out = out ++ L
  | [], out, _ => by simp
  | c :: L, out, h => by
    have h' : Cl out := ⟨(List.nodup_append.1 h.1).1, fun d hd => h.2 d (List.mem_append_left _ hd)⟩
    have hc := h.2 c (by simp)
    have hn : c ∉ out := fun hm => (List.nodup_append.1 h.1).2.2 c hm c (by simp) rfl
    have e : clS out c = out ++ [c] := by
      rw [clS_eq h', hc.1, if_neg]
      rintro (h1 | h1)
      · rw [hc.2] at h1; cases h1
      · exact hn h1
    rw [List.foldl_cons, e, fold_same L (out ++ [c]) (by simpa using h)]
    simp
/-- cleaned again it stays -/
theorem clC_clC (L : List (List Int)) : clC (clC L) = clC L := fold_same (clC L) [] (by simpa using clC_cl L)
theorem clS_mem {out : List (List Int)} (h : Cl out) (c d : List Int) : d ∈ clS out c ↔ d ∈ out ∨ (d = cl c ∧ opp d = false) := by
  rw [clS_eq h]
  split
  · next hn =>
    constructor
    · exact Or.inl
    · rintro (hd | ⟨rfl, ho⟩)
      · exact hd
      · rcases hn with hn | hn
        · rw [ho] at hn; cases hn
        · exact hn
  · next hn =>
    rw [List.mem_append]
    constructor
    · rintro (hd | hd)
      · exact Or.inl hd
      · obtain rfl : d = cl c := by simpa using hd
        exact Or.inr ⟨rfl, by cases ho : opp (cl c) with | false => rfl | true => exact absurd (Or.inl ho) hn⟩
    · rintro (hd | ⟨rfl, _⟩)
      · exact Or.inl hd
      · exact Or.inr (by simp)
theorem fold_mem : ∀ (L : List (List Int)) {out : List (List Int)}, Cl out → ∀ d, d ∈ L.foldl clS out ↔ d ∈ out ∨ ∃ c ∈ L, d = cl c ∧ opp d = false
  | [], out, h, d => by simp
  | c :: L, out, h, d => by
    rw [List.foldl_cons, fold_mem L (clS_cl h c), clS_mem h]
    constructor
    · rintro ((h1 | h1) | ⟨c', hc', h1⟩)
      · exact Or.inl h1
      · exact Or.inr ⟨c, by simp, h1⟩
      · exact Or.inr ⟨c', by simp [hc'], h1⟩
    · rintro (h1 | ⟨c', hc', h1⟩)
      · exact Or.inl (Or.inl h1)
      · rcases List.mem_cons.1 hc' with rfl | hc'
        · exact Or.inl (Or.inr h1)
        · exact Or.inr ⟨c', hc', h1⟩
theorem clC_mem (L : List (List Int)) (d : List Int) : d ∈ clC L ↔ ∃ c ∈ L, d = cl c ∧ opp d = false := by
  have := fold_mem L (out := []) ⟨List.nodup_nil, fun d hd => by cases hd⟩ d
  unfold clC; rw [this]; simp
/-- a clause with a literal and its opposite holds by any values -/
theorem opp_hld {c : List Int} {vs : List Bool} (hr : R64s c) (hv : ∀ x ∈ c, vr x ≤ vs.length) (ho : opp (cl c) = true) : hld c vs = true := by
  unfold opp at ho
  obtain ⟨x, hx, hn⟩ := List.any_eq_true.1 ho
  have hn' : ng x ∈ cl c := by simpa using hn
  obtain ⟨hxc, hxl⟩ := (mem_cl c x).1 hx
  obtain ⟨hnc, hnl⟩ := (mem_cl c (ng x)).1 hn'
  have hx64 := hr x hxc
  have hvx := hv x hxc
  have hp := vr_pos hx64 hxl
  have hx0 : x ≠ 0 := ((isL_iff x).1 hxl).1
  rw [hld_iff]
  have key : (vs.getD (vr x - 1).toNat false == decide (0 < x)) = true ∨ (vs.getD (vr x - 1).toNat false == decide (0 < ng x)) = true := by
    have e : decide (0 < ng x) = !decide (0 < x) := by
      rw [ng_lit hx64 hxl]
      by_cases h : 0 < x
      · simp [h]; omega
      · simp [h]; omega
    rw [e]
    cases vs.getD (vr x - 1).toNat false <;> cases decide (0 < x) <;> simp
  rcases key with k | k
  · exact ⟨x, hxc, by unfold tru; simp only [hxl, k, Bool.true_and, Bool.and_true, decide_eq_true_eq]; exact hvx⟩
  · refine ⟨ng x, hnc, ?_⟩
    unfold tru
    rw [vr_ng hx64]
    simp only [hnl, k, Bool.true_and, Bool.and_true, decide_eq_true_eq]; exact hvx
/-- it holds by just the same values -/
theorem clC_hld {L : List (List Int)} {vs : List Bool} (hr : ∀ c ∈ L, R64s c) (hv : ∀ c ∈ L, ∀ x ∈ c, vr x ≤ vs.length) : (clC L).all (fun c => hld c vs) = L.all (fun c => hld c vs) := by
  rw [Bool.eq_iff_iff, List.all_eq_true, List.all_eq_true]
  constructor
  · intro h c hc
    cases ho : opp (cl c) with
    | true => exact opp_hld (hr c hc) (hv c hc) ho
    | false =>
      have := h (cl c) ((clC_mem L _).2 ⟨c, hc, rfl, ho⟩)
      rw [hld_cl] at this; exact this
  · intro h d hd
    obtain ⟨c, hc, rfl, _⟩ := (clC_mem L d).1 hd
    rw [hld_cl]; exact h c hc

/-! variables, holding, sets that are the same -/
def put (l : List Int) (n : Int) : List Int := if n ∈ l then l else l.takeWhile (· < n) ++ n :: l.dropWhile (· < n)
def vrC (L : List (List Int)) : List Int := (L.flatMap fun c => (cl c).map vr).foldl put []
def hdC : Nat → List (List Int) → List Bool → Int × Bool
  | _, [], _ => (0, true)
  | i, c :: r, vs => if hld c vs then hdC (i + 1) r vs else (i, false)
theorem hdC_all : ∀ (L : List (List Int)) (i : Nat) (vs : List Bool), (hdC i L vs).2 = L.all fun c => hld c vs
  | [], _, _ => rfl
  | c :: r, i, vs => by
    rw [hdC, List.all_cons]
    cases h : hld c vs
    · simp
    · simp [hdC_all r (i + 1) vs]
def smC (M : Int) (A : List (List Int)) (N : Int) (B : List (List Int)) : Bool := M == N && (A.length == B.length) && (A.zip B).all fun p => same p.1 p.2
end Go.Proofs.YthchjceibpcgbaaGreatDoor.Cn
