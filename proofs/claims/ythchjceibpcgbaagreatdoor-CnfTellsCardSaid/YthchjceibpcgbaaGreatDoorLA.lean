/-
  What is proved: mathematics of literals and clauses: what is cleaned, in both ways; what is within, holds, is resolved.
  What is proved: literals, variables, their order: the program's and the document's small calls.
  What is proved: rows of integers, read and of the call's own; rows of truth values.
  What is proved: whether a literal holds, in the program and in the document; the document's Has, Count and Holds, the program's Count.
-/
import Derived.Lib.SlicesCompact
import Derived.Lib.Hide
import Derived.Test.YthchjceibpcgbaaGreatDoorLO
import Derived.ArgAppend
import Derived.Sort.OwnSortedInts
namespace Go.Proofs.YthchjceibpcgbaaGreatDoor.Lt
set_option linter.unusedVariables false
set_option linter.unusedSimpArgs false

def ng (x : Int) : Int := IntKind.i64.wrap (-x)
def isL (x : Int) : Bool := x != 0 && x != -9223372036854775808
/-- a literal's variable, as the program says it -/
def vr (x : Int) : Int := if x < ng x then ng x else x
def R64 (x : Int) : Prop := -9223372036854775808 ≤ x ∧ x < 9223372036854775808
def R64s (c : List Int) : Prop := ∀ x ∈ c, R64 x
def ahd (a b : Int) : Bool := decide (vr a < vr b) || (decide (vr a = vr b) && decide (a < b))

theorem wrap_id {z : Int} (h : R64 z) : IntKind.i64.wrap z = z := by
  unfold R64 at h
  simp [IntKind.wrap, IntKind.bits, IntKind.signed]
  omega
theorem ng_of {x : Int} (h : R64 x) (hm : x ≠ -9223372036854775808) : ng x = -x := by
  unfold ng; unfold R64 at h
  exact wrap_id ⟨by omega, by omega⟩
theorem ng_min : ng (-9223372036854775808) = -9223372036854775808 := by decide +kernel
theorem ng_r {x : Int} (h : R64 x) : R64 (ng x) := by
  by_cases hm : x = -9223372036854775808
  · rw [hm, ng_min]; unfold R64; omega
  · rw [ng_of h hm]; unfold R64 at *; omega
theorem isL_iff (x : Int) : isL x = true ↔ x ≠ 0 ∧ x ≠ -9223372036854775808 := by simp [isL]
theorem ng_lit {x : Int} (h : R64 x) (hl : isL x = true) : ng x = -x := ng_of h ((isL_iff x).1 hl).2
theorem isL_ng {x : Int} (h : R64 x) : isL (ng x) = isL x := by
  by_cases hm : x = -9223372036854775808
  · rw [hm, ng_min]
  · rw [ng_of h hm]; unfold R64 at h; rw [Bool.eq_iff_iff, isL_iff, isL_iff]; omega
theorem ng_ng {x : Int} (h : R64 x) : ng (ng x) = x := by
  by_cases hm : x = -9223372036854775808
  · rw [hm, ng_min, ng_min]
  · rw [ng_of h hm]; unfold R64 at h
    rw [ng_of ⟨by omega, by omega⟩ (by omega)]; omega
theorem vr_abs {x : Int} (h : R64 x) (hm : x ≠ -9223372036854775808) : vr x = if x < 0 then -x else x := by
  unfold vr; rw [ng_of h hm]
  split <;> split <;> omega
theorem vr_min : vr (-9223372036854775808) = -9223372036854775808 := by decide +kernel
/-- the document's way -/
theorem vr_of {x : Int} (h : R64 x) : (if x < 0 then ng x else x) = vr x := by
  by_cases hm : x = -9223372036854775808
  · rw [hm, ng_min, vr_min]; rfl
  · rw [vr_abs h hm, ng_of h hm]
theorem vr_pos {x : Int} (h : R64 x) (hl : isL x = true) : 1 ≤ vr x := by
  have h1 := (isL_iff x).1 hl
  rw [vr_abs h h1.2]; split <;> omega
theorem vr_ng {x : Int} (h : R64 x) : vr (ng x) = vr x := by
  by_cases hm : x = -9223372036854775808
  · rw [hm, ng_min]
  · rw [ng_of h hm]; unfold R64 at h
    rw [vr_abs ⟨by omega, by omega⟩ (by omega), vr_abs h hm]
    split <;> split <;> omega

theorem ahd_iff (a b : Int) : ahd a b = true ↔ vr a < vr b ∨ (vr a = vr b ∧ a < b) := by simp [ahd]
theorem ahd_irr (a : Int) : ahd a a = false := by
  rw [Bool.eq_false_iff]; intro h; rw [ahd_iff] at h; omega
theorem ahd_trans {a b c : Int} (h1 : ahd a b = true) (h2 : ahd b c = true) : ahd a c = true := by
  rw [ahd_iff] at *; omega
theorem ahd_tot {a b : Int} (h1 : ahd a b = false) (h2 : ahd b a = false) : a = b := by
  rw [Bool.eq_false_iff] at h1 h2
  have h3 : ¬(vr a < vr b ∨ (vr a = vr b ∧ a < b)) := fun h => h1 ((ahd_iff a b).2 h)
  have h4 : ¬(vr b < vr a ∨ (vr b = vr a ∧ b < a)) := fun h => h2 ((ahd_iff b a).2 h)
  omega
theorem ahd_nt {a b c : Int} (h1 : ahd a b = false) (h2 : ahd b c = false) : ahd a c = false := by
  rw [Bool.eq_false_iff] at *
  have h3 : ¬(vr a < vr b ∨ (vr a = vr b ∧ a < b)) := fun h => h1 ((ahd_iff a b).2 h)
  have h4 : ¬(vr b < vr c ∨ (vr b = vr c ∧ b < c)) := fun h => h2 ((ahd_iff b c).2 h)
  intro h; rw [ahd_iff] at h; omega
abbrev Up (X : List Int) : Prop := X.Pairwise (fun a b => ahd a b = true)
theorem up_eq : ∀ {X Y : List Int}, Up X → Up Y → (∀ y, y ∈ X ↔ y ∈ Y) → X = Y
  | [], [], _, _, _ => rfl
  | [], y :: Y, _, _, h => by have := (h y).2 (by simp); simp at this
  | x :: X, [], _, _, h => by have := (h x).1 (by simp); simp at this
  | x :: X, y :: Y, hx, hy, h => by
    have px := List.pairwise_cons.1 hx
    have py := List.pairwise_cons.1 hy
    have e : x = y := by
      rcases List.mem_cons.1 ((h x).1 (by simp)) with e | hm
      · exact e
      · rcases List.mem_cons.1 ((h y).2 (by simp)) with e | hm'
        · exact e.symm
        · have h1 := py.1 x hm
          have h2 := px.1 y hm'
          have := ahd_trans h1 h2
          rw [ahd_irr] at this; cases this
    subst e
    refine congrArg (List.cons x) (up_eq px.2 py.2 fun z => ?_)
    have hz := h z
    simp only [List.mem_cons] at hz
    constructor
    · intro hm
      rcases hz.1 (.inr hm) with e | h'
      · subst e; have := px.1 z hm; rw [ahd_irr] at this; cases this
      · exact h'
    · intro hm
      rcases hz.2 (.inr hm) with e | h'
      · subst e; have := py.1 z hm; rw [ahd_irr] at this; cases this
      · exact h'

/-- the document's way: one by one, each put in its place -/
def ins (x : Int) (out : List Int) : List Int := out.takeWhile (fun y => ahd y x) ++ x :: out.dropWhile (fun y => ahd y x)
def step (out : List Int) (x : Int) : List Int := if !isL x || out.contains x then out else ins x out
def clF (out : List Int) (c : List Int) : List Int := c.foldl step out
def cl (c : List Int) : List Int := clF [] c
theorem mem_ins (x y : Int) (out : List Int) : y ∈ ins x out ↔ y = x ∨ y ∈ out := by
  unfold ins
  have h : out.takeWhile (fun y => ahd y x) ++ out.dropWhile (fun y => ahd y x) = out := List.takeWhile_append_dropWhile
  have h2 : y ∈ out ↔ y ∈ out.takeWhile (fun y => ahd y x) ∨ y ∈ out.dropWhile (fun y => ahd y x) := by
    rw [← List.mem_append, h]
  rw [h2, List.mem_append, List.mem_cons]
  constructor
  · rintro (h | h | h)
    · exact .inr (.inl h)
    · exact .inl h
    · exact .inr (.inr h)
  · rintro (h | h | h)
    · exact .inr (.inl h)
    · exact .inl h
    · exact .inr (.inr h)
theorem ins_len (x : Int) (out : List Int) : (ins x out).length = out.length + 1 := by
  unfold ins
  have h : (out.takeWhile (fun y => ahd y x) ++ out.dropWhile (fun y => ahd y x)).length = out.length := by rw [List.takeWhile_append_dropWhile]
  rw [List.length_append] at h
  rw [List.length_append, List.length_cons]; omega
theorem up_ins {x : Int} : ∀ {out : List Int}, Up out → x ∉ out → Up (ins x out)
  | [], _, _ => by simp [ins]
  | y :: l, h, hn => by
    have hy := List.pairwise_cons.1 h
    have hne : x ≠ y := fun e => hn (by simp [e])
    have hnl : x ∉ l := fun e => hn (by simp [e])
    by_cases ha : ahd y x = true
    · have e : ins x (y :: l) = y :: ins x l := by simp [ins, ha]
      rw [e]
      refine List.pairwise_cons.2 ⟨fun z hz => ?_, up_ins hy.2 hnl⟩
      rcases (mem_ins x z l).1 hz with rfl | hz
      · exact ha
      · exact hy.1 z hz
    · have e : ins x (y :: l) = x :: y :: l := by simp [ins, ha]
      rw [e]
      have hb : ahd x y = true := by
        by_cases hb : ahd x y = true
        · exact hb
        · exact absurd (ahd_tot (by simpa using hb) (by simpa using ha)) hne
      refine List.pairwise_cons.2 ⟨fun z hz => ?_, h⟩
      rcases List.mem_cons.1 hz with rfl | hz
      · exact hb
      · exact ahd_trans hb (hy.1 z hz)
theorem up_step {out : List Int} (h : Up out) (x : Int) : Up (step out x) := by
  unfold step; split
  · exact h
  · rename_i hn
    simp at hn
    exact up_ins h (fun e => hn.2 e)
theorem mem_step (out : List Int) (x y : Int) : y ∈ step out x ↔ y ∈ out ∨ (y = x ∧ isL y = true) := by
  unfold step; split
  · rename_i hn
    simp at hn
    constructor
    · exact .inl
    · rintro (h | ⟨rfl, h⟩)
      · exact h
      · rcases hn with hn | hn
        · rw [hn] at h; cases h
        · exact hn
  · rename_i hn
    simp at hn
    rw [mem_ins]
    constructor
    · rintro (rfl | h)
      · exact .inr ⟨rfl, hn.1⟩
      · exact .inl h
    · rintro (h | ⟨rfl, _⟩)
      · exact .inr h
      · exact .inl rfl
theorem step_len (out : List Int) (x : Int) : (step out x).length ≤ out.length + 1 := by
  unfold step; split
  · omega
  · rw [ins_len]; omega
theorem up_clF : ∀ (c : List Int) {out : List Int}, Up out → Up (clF out c)
  | [], _, h => h
  | x :: c, _, h => up_clF c (up_step h x)
theorem mem_clF : ∀ (c : List Int) (out : List Int) (y : Int), y ∈ clF out c ↔ y ∈ out ∨ (y ∈ c ∧ isL y = true)
  | [], out, y => by simp [clF]
  | x :: c, out, y => by
    show y ∈ clF (step out x) c ↔ _
    rw [mem_clF c, mem_step]
    simp only [List.mem_cons]
    constructor
    · rintro ((h | ⟨h, h'⟩) | ⟨h, h'⟩)
      · exact .inl h
      · exact .inr ⟨.inl h, h'⟩
      · exact .inr ⟨.inr h, h'⟩
    · rintro (h | ⟨h | h, h'⟩)
      · exact .inl (.inl h)
      · exact .inl (.inr ⟨h, h'⟩)
      · exact .inr ⟨h, h'⟩
theorem clF_len : ∀ (c out : List Int), (clF out c).length ≤ out.length + c.length
  | [], out => by simp [clF]
  | x :: c, out => by
    show (clF (step out x) c).length ≤ _
    have h1 := clF_len c (step out x)
    have h2 := step_len out x
    rw [List.length_cons]; omega
theorem up_cl (c : List Int) : Up (cl c) := up_clF c List.Pairwise.nil
theorem mem_cl (c : List Int) (y : Int) : y ∈ cl c ↔ y ∈ c ∧ isL y = true := by unfold cl; rw [mem_clF]; simp
theorem cl_len (c : List Int) : (cl c).length ≤ c.length := by have := clF_len c []; simpa [cl] using this
theorem cl_r {c : List Int} (h : R64s c) : R64s (cl c) := fun x hx => h x ((mem_cl c x).1 hx).1

/-- the program's way: sorted, neighbours once -/
def srtL (X : List Int) : List Int := X.mergeSort fun x y => !ahd y x
theorem srtL_len (X : List Int) : (srtL X).length = X.length := by unfold srtL; exact List.length_mergeSort X
theorem compact_upL (X : List Int) (hs : X.Pairwise (fun x y => ahd y x = false)) : Up (Lib.compact X) ∧ ∀ y, y ∈ Lib.compact X ↔ y ∈ X := by
  have gen : ∀ m, m ≤ X.length → Up (Lib.compactUpTo X.toArray m) ∧ (∀ y, y ∈ Lib.compactUpTo X.toArray m ↔ ∃ k, k < m ∧ X[k]? = some y) := by
    intro m
    induction m with
    | zero => intro _; simp [Lib.compactUpTo]
    | succ m ih =>
      intro hm
      obtain ⟨h1, h2⟩ := ih (by omega)
      have hmX : m < X.length := by omega
      have gm : X.toArray[m]! = X[m] := by rw [getElem!_pos X.toArray m (by simpa using hmX)]; simp
      rw [Lib.compactUpTo_succ]
      by_cases hk : Lib.keeps X.toArray m = true
      · rw [if_pos hk, gm]
        refine ⟨?_, fun y => ?_⟩
        · refine List.pairwise_append.2 ⟨h1, List.pairwise_singleton _ _, fun a ha b hb => ?_⟩
          obtain rfl := List.mem_singleton.1 hb
          obtain ⟨k, hkm, hka⟩ := (h2 a).1 ha
          obtain ⟨hkl, hka'⟩ := List.getElem?_eq_some_iff.1 hka
          simp [Lib.keeps] at hk
          have hne : X[m] ≠ X[m - 1]'(by omega) := by
            rcases hk with h0 | hk
            · omega
            · rw [List.getElem?_eq_getElem hmX, List.getElem?_eq_getElem (by omega : m - 1 < X.length)] at hk
              simpa using hk
          have q1 : ahd X[m] (X[m-1]'(by omega)) = false := List.pairwise_iff_getElem.1 hs (m - 1) m (by omega) hmX (by omega)
          have q2 : ahd (X[m-1]'(by omega)) X[m] = true := by
            cases hq : ahd (X[m-1]'(by omega)) X[m]
            · exact absurd (ahd_tot q1 hq) hne
            · rfl
          subst hka'
          by_cases e : k = m - 1
          · subst e; exact q2
          · have q3 : ahd (X[m-1]'(by omega)) X[k] = false := List.pairwise_iff_getElem.1 hs k (m - 1) hkl (by omega) (by omega)
            cases hq : ahd X[k] X[m]
            · have := ahd_nt q3 hq
              rw [q2] at this; cases this
            · rfl
        · rw [List.mem_append, List.mem_singleton, h2]
          constructor
          · rintro (⟨k, hk, e⟩ | rfl)
            · exact ⟨k, by omega, e⟩
            · exact ⟨m, by omega, List.getElem?_eq_getElem hmX⟩
          · rintro ⟨k, hk, e⟩
            by_cases ek : k = m
            · subst ek; rw [List.getElem?_eq_getElem hmX] at e; injection e with e; exact .inr e.symm
            · exact .inl ⟨k, by omega, e⟩
      · rw [if_neg hk, List.append_nil]
        refine ⟨h1, fun y => ?_⟩
        rw [h2]
        constructor
        · rintro ⟨k, hk, e⟩; exact ⟨k, by omega, e⟩
        · rintro ⟨k, hk', e⟩
          by_cases ek : k = m
          · subst ek
            simp [Lib.keeps] at hk
            have e1 : X[k] = X[k - 1]'(by omega) := by
              have := hk.2
              rw [List.getElem?_eq_getElem hmX, List.getElem?_eq_getElem (by omega : k - 1 < X.length)] at this
              simpa using this
            rw [List.getElem?_eq_getElem hmX, e1] at e
            exact ⟨k - 1, by omega, by rw [List.getElem?_eq_getElem (by omega : k - 1 < X.length)]; exact e⟩
          · exact ⟨k, by omega, e⟩
  obtain ⟨h1, h2⟩ := gen X.length (Nat.le_refl _)
  refine ⟨h1, fun y => ?_⟩
  unfold Lib.compact
  rw [h2, List.mem_iff_getElem?]
  constructor
  · rintro ⟨k, _, e⟩; exact ⟨k, e⟩
  · rintro ⟨k, e⟩; exact ⟨k, (List.getElem?_eq_some_iff.1 e).1, e⟩
theorem srtL_sorted (X : List Int) : (srtL X).Pairwise (fun x y => ahd y x = false) := by
  unfold srtL
  have h := List.pairwise_mergeSort (le := fun x y => !ahd y x) (fun a b c h1 h2 => by
    simp only [Bool.not_eq_true'] at *; exact ahd_nt h2 h1) (fun a b => by
    cases h : ahd b a
    · rfl
    · cases h' : ahd a b
      · rfl
      · have := ahd_trans h h'; rw [ahd_irr] at this; cases this) X
  exact h.imp (fun h => by simpa using h)
theorem clean_eq (c : List Int) : Lib.compact (srtL (c.filter isL)) = cl c := by
  obtain ⟨h1, h2⟩ := compact_upL (srtL (c.filter isL)) (srtL_sorted _)
  refine up_eq h1 (up_cl c) fun y => ?_
  rw [h2, mem_cl]
  unfold srtL
  rw [List.mem_mergeSort, List.mem_filter]

/-- no two opposites: the document's way and the program's -/
def opp (X : List Int) : Bool := X.any fun x => X.contains (ng x)
def adj : List Int → Bool
  | a :: b :: r => (a == ng b) || adj (b :: r)
  | _ => false
theorem adj_opp : ∀ {X : List Int}, Up X → R64s X → (∀ x ∈ X, isL x = true) → adj X = opp X
  | [], _, _, _ => rfl
  | [a], _, hr, hl => by
    have ha := (isL_iff a).1 (hl a (by simp))
    have : ng a ≠ a := by rw [ng_of (hr a (by simp)) ha.2]; omega
    simp [adj, opp, this]
  | a :: b :: r, hu, hr, hl => by
    have hu' := List.pairwise_cons.1 hu
    have hu2 := List.pairwise_cons.1 hu'.2
    have ih := adj_opp hu'.2 (fun x hx => hr x (List.mem_cons_of_mem _ hx)) (fun x hx => hl x (List.mem_cons_of_mem _ hx))
    have la := (isL_iff a).1 (hl a (by simp))
    have lb := (isL_iff b).1 (hl b (by simp))
    have ra := hr a (by simp)
    have rb := hr b (by simp)
    have na := ng_of ra la.2
    have nb := ng_of rb lb.2
    show ((a == ng b) || adj (b :: r)) = _
    rw [Bool.eq_iff_iff]
    constructor
    · intro h
      rcases Bool.or_eq_true_iff.1 h with h | h
      · have e : a = ng b := by simpa using h
        refine List.any_eq_true.2 ⟨b, by simp, ?_⟩
        simp [e]
      · rw [ih] at h
        obtain ⟨x, hx, hc⟩ := List.any_eq_true.1 h
        refine List.any_eq_true.2 ⟨x, List.mem_cons_of_mem _ hx, ?_⟩
        have hc' : ng x ∈ b :: r := by simpa using hc
        simp only [List.contains_eq_mem, decide_eq_true_eq]
        exact List.mem_cons_of_mem _ hc'
    · intro h
      obtain ⟨x, hx, hc⟩ := List.any_eq_true.1 h
      have hc' : ng x ∈ a :: b :: r := by simpa using hc
      -- some y behind a that is a's opposite, or both behind
      have key : ∀ y, y ∈ b :: r → ng y = a → a = ng b := by
        intro y hy hya
        have ry := hr y (List.mem_cons_of_mem _ hy)
        have ly := (isL_iff y).1 (hl y (List.mem_cons_of_mem _ hy))
        rcases List.mem_cons.1 hy with rfl | hy
        · exact hya.symm
        · have h1 := (ahd_iff _ _).1 (hu'.1 b (by simp))
          have h2 := (ahd_iff _ _).1 (hu2.1 y hy)
          have hv : vr a = vr y := by rw [← hya, vr_ng ry]
          rw [ng_of ry ly.2] at hya
          have hvb : vr b = vr a := by omega
          rw [vr_abs ra la.2, vr_abs rb lb.2] at hvb
          rw [nb]
          split at hvb <;> split at hvb <;> omega
      rcases List.mem_cons.1 hx with rfl | hx
      · rcases List.mem_cons.1 hc' with e | hc'
        · rw [na] at e; omega
        · rw [key (ng x) hc' (ng_ng ra)]; simp
      · rcases List.mem_cons.1 hc' with e | hc'
        · rw [key x hx e]; simp
        · have : opp (b :: r) = true := List.any_eq_true.2 ⟨x, hx, by simp only [List.contains_eq_mem, decide_eq_true_eq]; exact hc'⟩
          rw [ih, this]; simp

def hasL (c : List Int) (l : Int) : Bool := isL l && c.contains l
def within (a b : List Int) : Bool := a.all fun x => !isL x || b.contains x
def same (a b : List Int) : Bool := within a b && within b a
def tru (vs : List Bool) (l : Int) : Bool := isL l && decide (vr l ≤ vs.length) && (vs.getD (vr l - 1).toNat false == decide (0 < l))
def cnt (c : List Int) (vs : List Bool) : Nat := (c.filter (tru vs)).length
def hld (c : List Int) (vs : List Bool) : Bool := c.any (tru vs)
theorem hld_cnt (c : List Int) (vs : List Bool) : hld c vs = decide (0 < cnt c vs) := by
  unfold hld cnt
  rw [Bool.eq_iff_iff, decide_eq_true_eq, List.length_pos_iff_exists_mem, List.any_eq_true]
  constructor
  · rintro ⟨x, h1, h2⟩; exact ⟨x, List.mem_filter.2 ⟨h1, h2⟩⟩
  · rintro ⟨x, h⟩; exact ⟨x, List.mem_filter.1 h⟩
theorem hasL_iff (c : List Int) (l : Int) : hasL c l = true ↔ isL l = true ∧ l ∈ c := by simp [hasL]
theorem within_iff (a b : List Int) : within a b = true ↔ ∀ x ∈ a, isL x = true → x ∈ b := by
  unfold within
  rw [List.all_eq_true]
  constructor
  · intro h x hx hl
    have := h x hx
    simp [hl] at this
    exact this
  · intro h x hx
    by_cases hl : isL x = true
    · simp [h x hx hl]
    · simp at hl; simp [hl]
theorem hld_iff (c : List Int) (vs : List Bool) : hld c vs = true ↔ ∃ x ∈ c, tru vs x = true := by unfold hld; exact List.any_eq_true
theorem tru_lit {vs : List Bool} {l : Int} (h : tru vs l = true) : isL l = true := by
  unfold tru at h; simp at h; exact h.1.1
theorem tru_not {vs : List Bool} {l : Int} (hr : R64 l) (h : tru vs l = true) : tru vs (ng l) = false := by
  have hl := tru_lit h
  have h1 := (isL_iff l).1 hl
  rw [Bool.eq_false_iff]; intro h'
  unfold tru at h h'
  rw [vr_ng hr, ng_of hr h1.2] at h'
  simp at h h'
  have e := h.2.symm.trans h'.2
  by_cases hp : 0 < l
  · rw [decide_eq_true hp, decide_eq_false (by omega)] at e; cases e
  · rw [decide_eq_false hp, decide_eq_true (by omega)] at e; cases e

/-- what is resolved -/
def res (a b : List Int) (v : Int) : List Int := a.filter (fun x => !(x == v)) ++ b.filter (fun x => !(x == ng v))
def can (a b : List Int) (v : Int) : Bool := hasL a v && hasL b (ng v)
/-- the answer of Resolve -/
def rsL (a b : List Int) (v : Int) : List Int := if can a b v then (if opp (cl (res a b v)) then [] else cl (res a b v)) else []

/-- Pivot -/
def pvP (b : List Int) : Int → List Int → Int × Bool
  | p, [] => (p, p != 0)
  | p, l :: r => if !hasL b (ng l) || vr l == p then pvP b p r else if p != 0 then (0, false) else pvP b (vr l) r
def pvF (b : List Int) : Int → Nat → List Int → Int × Nat
  | f, n, [] => (f, n)
  | f, n, l :: r => if hasL b (ng l) && vr l != f then pvF b (vr l) (n + 1) r else pvF b f n r
def pvR (b : List Int) (X : List Int) : Int × Bool := if (pvF b 0 0 X).2 ≠ 1 then (0, false) else ((pvF b 0 0 X).1, true)
def vs (b X : List Int) : List Int := (X.filter fun l => hasL b (ng l)).map vr
def onlyV : List Int → Int × Bool
  | [] => (0, false)
  | v :: r => if r.all (· == v) then (v, true) else (0, false)
theorem vs_cons (b : List Int) (l : Int) (r : List Int) : vs b (l :: r) = if hasL b (ng l) then vr l :: vs b r else vs b r := by
  unfold vs; rw [List.filter_cons]; split <;> simp
theorem pvP_go (b : List Int) : ∀ (X : List Int) (p : Int), p ≠ 0 → pvP b p X = if (vs b X).all (· == p) then (p, true) else (0, false)
  | [], p, hp => by simp [pvP, vs, hp]
  | l :: r, p, hp => by
    rw [pvP, vs_cons]
    by_cases h1 : hasL b (ng l) = true
    · by_cases h2 : vr l = p
      · simp [h1, h2, pvP_go b r p hp]
      · simp [h1, h2, hp]
    · simp [h1, pvP_go b r p hp]
theorem lit_ng {b : List Int} {l : Int} (hr : R64 l) (h : hasL b (ng l) = true) : isL l = true := by
  have := ((hasL_iff _ _).1 h).1; rwa [isL_ng hr] at this
theorem pvP_one (b : List Int) : ∀ (X : List Int), R64s X → pvP b 0 X = onlyV (vs b X)
  | [], _ => by simp [pvP, vs, onlyV]
  | l :: r, hr => by
    have ih := pvP_one b r (fun x hx => hr x (List.mem_cons_of_mem _ hx))
    rw [pvP, vs_cons]
    by_cases h1 : hasL b (ng l) = true
    · have hp := vr_pos (hr l (by simp)) (lit_ng (hr l (by simp)) h1)
      have h0 : vr l ≠ 0 := by omega
      simp [h1, h0, pvP_go b r (vr l) h0, onlyV]
    · simp [h1, ih]
theorem pvF_go (b : List Int) : ∀ (X : List Int) (f : Int) (n : Nat), n ≤ (pvF b f n X).2 ∧ ((vs b X).all (· == f) = true → pvF b f n X = (f, n)) ∧ ((vs b X).all (· == f) = false → n < (pvF b f n X).2)
  | [], f, n => by simp [pvF, vs]
  | l :: r, f, n => by
    rw [pvF, vs_cons]
    by_cases h1 : hasL b (ng l) = true
    · by_cases h2 : vr l = f
      · have := pvF_go b r f n
        simp [h1, h2] at this ⊢
        exact this
      · have := pvF_go b r (vr l) (n + 1)
        simp [h1, h2]
        omega
    · have := pvF_go b r f n
      simp [h1] at this ⊢
      exact this
theorem pvR_one (b : List Int) : ∀ (X : List Int), R64s X → pvR b X = onlyV (vs b X)
  | [], _ => by simp [pvR, pvF, vs, onlyV]
  | l :: r, hr => by
    have ih := pvR_one b r (fun x hx => hr x (List.mem_cons_of_mem _ hx))
    unfold pvR at ih ⊢
    rw [pvF, vs_cons]
    by_cases h1 : hasL b (ng l) = true
    · have hp := vr_pos (hr l (by simp)) (lit_ng (hr l (by simp)) h1)
      have h0 : vr l ≠ 0 := by omega
      have := pvF_go b r (vr l) 1
      have hc : (hasL b (ng l) && vr l != 0) = true := by simp [h1, h0]
      rw [if_pos hc, if_pos h1, Nat.zero_add]
      show _ = (if (vs b r).all (· == vr l) then (vr l, true) else (0, false))
      cases ha : (vs b r).all (· == vr l)
      · have h2 := this.2.2 ha
        have h3 : (pvF b (vr l) 1 r).2 ≠ 1 := by omega
        rw [if_pos h3]; rfl
      · rw [this.2.1 ha]; rfl
    · simp [h1]; simpa using ih
theorem onlyV_mem : ∀ {X Y : List Int}, (∀ y, y ∈ X ↔ y ∈ Y) → onlyV X = onlyV Y
  | [], [], _ => rfl
  | [], y :: Y, h => by have := (h y).2 (by simp); simp at this
  | x :: X, [], h => by have := (h x).1 (by simp); simp at this
  | x :: X, y :: Y, h => by
    show (if X.all (· == x) then (x, true) else (0, false)) = (if Y.all (· == y) then (y, true) else (0, false))
    have e1 : (X.all (· == x) = true) ↔ ∀ z ∈ x :: X, z = x := by simp
    have e2 : (Y.all (· == y) = true) ↔ ∀ z ∈ y :: Y, z = y := by simp
    by_cases ha : X.all (· == x) = true
    · have h1 := e1.1 ha
      have hyx : y = x := h1 y ((h y).2 (by simp))
      have hb : Y.all (· == y) = true := e2.2 fun z hz => by rw [hyx]; exact h1 z ((h z).2 hz)
      rw [if_pos ha, if_pos hb, hyx]
    · have hb : ¬ Y.all (· == y) = true := fun hb => by
        have h2 := e2.1 hb
        have hxy : x = y := h2 x ((h x).1 (by simp))
        exact ha (e1.2 fun z hz => by rw [hxy]; exact h2 z ((h z).1 hz))
      rw [if_neg ha, if_neg hb]
theorem pivot_eq (a b : List Int) (ha : R64s a) : pvP b 0 a = pvR b (cl a) := by
  rw [pvP_one b a ha, pvR_one b (cl a) (cl_r ha)]
  refine onlyV_mem fun y => ?_
  unfold vs
  simp only [List.mem_map, List.mem_filter]
  constructor
  · rintro ⟨l, ⟨h1, h2⟩, e⟩
    exact ⟨l, ⟨(mem_cl a l).2 ⟨h1, lit_ng (ha l h1) h2⟩, h2⟩, e⟩
  · rintro ⟨l, ⟨h1, h2⟩, e⟩
    exact ⟨l, ⟨((mem_cl a l).1 h1).1, h2⟩, e⟩
theorem res_r {a b : List Int} {v : Int} (ha : R64s a) (hb : R64s b) : R64s (res a b v) := fun x hx => by
  unfold res at hx
  rcases List.mem_append.1 hx with h | h
  · exact ha x (List.mem_filter.1 h).1
  · exact hb x (List.mem_filter.1 h).1
theorem mem_res {a b : List Int} {v x : Int} : x ∈ cl (res a b v) ↔ ((x ∈ a ∧ x ≠ v) ∨ (x ∈ b ∧ x ≠ ng v)) ∧ isL x = true := by
  rw [mem_cl]; unfold res; simp
theorem cl_cl (c : List Int) : cl (cl c) = cl c := up_eq (up_cl _) (up_cl _) fun y => by
  rw [mem_cl]; constructor
  · exact fun h => h.1
  · exact fun h => ⟨h, ((mem_cl c y).1 h).2⟩
theorem same_cl (c : List Int) : same c (cl c) = true := by
  unfold same
  rw [Bool.and_eq_true, within_iff, within_iff]
  exact ⟨fun x hx hl => (mem_cl c x).2 ⟨hx, hl⟩, fun x hx _ => ((mem_cl c x).1 hx).1⟩
theorem hld_cl (c : List Int) (vs : List Bool) : hld (cl c) vs = hld c vs := by
  rw [Bool.eq_iff_iff, hld_iff, hld_iff]
  constructor
  · rintro ⟨x, hx, h⟩; exact ⟨x, ((mem_cl c x).1 hx).1, h⟩
  · rintro ⟨x, hx, h⟩; exact ⟨x, (mem_cl c x).2 ⟨hx, tru_lit h⟩, h⟩
/-- neighbours of what is cleaned -/
theorem cl_next (c : List Int) (hr : R64s c) (k : Nat) (x y : Int) (hx : (cl c)[k]? = some x) (hy : (cl c)[k + 1]? = some y) : vr x ≤ vr y ∧ (vr x = vr y → opp (cl c) = true ∧ x = ng y ∧ 0 < y) := by
  obtain ⟨hk, rfl⟩ := List.getElem?_eq_some_iff.1 hx
  obtain ⟨hk1, rfl⟩ := List.getElem?_eq_some_iff.1 hy
  have h := (ahd_iff _ _).1 (List.pairwise_iff_getElem.1 (up_cl c) k (k + 1) hk hk1 (by omega))
  refine ⟨by omega, fun e => ?_⟩
  have mx := (mem_cl c _).1 (List.getElem_mem hk)
  have my := (mem_cl c _).1 (List.getElem_mem hk1)
  have lx := (isL_iff _).1 mx.2
  have ly := (isL_iff _).1 my.2
  have e' := e
  rw [vr_abs (hr _ mx.1) lx.2, vr_abs (hr _ my.1) ly.2] at e'
  have hng := ng_of (hr _ my.1) ly.2
  have e2 : (cl c)[k] = ng (cl c)[k + 1] := by
    rw [hng]; split at e' <;> split at e' <;> omega
  refine ⟨List.any_eq_true.2 ⟨(cl c)[k + 1], List.getElem_mem hk1, ?_⟩, e2, ?_⟩
  · rw [← e2]; simp
  · split at e' <;> split at e' <;> omega
theorem res_sound (a b : List Int) (v : Int) (vs : List Bool) (hr : R64 v) (hv : hasL a v = true) (ha : hld a vs = true) (hb : hld b vs = true) : hld (cl (res a b v)) vs = true := by
  obtain ⟨x, hx, tx⟩ := (hld_iff _ _).1 ha
  obtain ⟨y, hy, ty⟩ := (hld_iff _ _).1 hb
  rw [hld_iff]
  by_cases h1 : x = v
  · by_cases h2 : y = ng v
    · subst h1 h2
      rw [tru_not hr tx] at ty; cases ty
    · exact ⟨y, mem_res.2 ⟨.inr ⟨hy, h2⟩, tru_lit ty⟩, ty⟩
  · exact ⟨x, mem_res.2 ⟨.inl ⟨hx, h1⟩, tru_lit tx⟩, tx⟩
theorem within_sound (a b : List Int) (vs : List Bool) (h : within a b = true) (ha : hld a vs = true) : hld b vs = true := by
  obtain ⟨x, hx, tx⟩ := (hld_iff _ _).1 ha
  exact (hld_iff _ _).2 ⟨x, (within_iff a b).1 h x hx (tru_lit tx), tx⟩
theorem within_app1 (a b : List Int) : within a (a ++ b) = true := (within_iff _ _).2 fun x hx _ => List.mem_append_left _ hx
theorem within_app2 (a b : List Int) : within b (a ++ b) = true := (within_iff _ _).2 fun x hx _ => List.mem_append_right _ hx
theorem hld_app (a b : List Int) (vs : List Bool) : hld (a ++ b) vs = (hld a vs || hld b vs) := by unfold hld; rw [List.any_append]
end Go.Proofs.YthchjceibpcgbaaGreatDoor.Lt
namespace Go.Proofs.YthchjceibpcgbaaGreatDoor.Lt
open Go.RowKit L
set_option linter.unusedVariables false
set_option linter.unusedSimpArgs false

theorem literal_any (x : Int) (w : World) : Calls Tryz.prog 51 #[.int .i64 x] w fun e w' => e = .returned (.bool (isL x)) ∧ w = w' := by
  have hr : Hid (isL x = (x != 0 && x != -9223372036854775808)) := rfl
  generalize isL x = R at *
  cases h1 : (x != 0)
  · have hR : Hid (false = R) := by show _ = _; rw [hr.out, h1]; rfl
    clear hr
    go_enter Tryz.func51, Tryz.ntmps51
    go_wp2
    go_ret
    exact ⟨oneB hR.out, rfl⟩
  · cases h2 : (x != -9223372036854775808)
    · have hR : Hid (false = R) := by show _ = _; rw [hr.out, h1, h2]; rfl
      clear hr
      go_enter Tryz.func51, Tryz.ntmps51
      go_wp2
      go_ret
      exact ⟨oneB hR.out, rfl⟩
    · have hR : Hid (true = R) := by show _ = _; rw [hr.out, h1, h2]; rfl
      clear hr
      go_enter Tryz.func51, Tryz.ntmps51
      go_wp2
      go_ret
      exact ⟨oneB hR.out, rfl⟩
theorem is_any (x : Int) (w : World) : Calls Tryz.prog 65 #[.int .i64 x] w fun e w' => e = .returned (.bool (isL x)) ∧ w = w' := by
  have hr : Hid (isL x = (x != 0 && x != -9223372036854775808)) := rfl
  generalize isL x = R at *
  cases h1 : (x != 0)
  · have hR : Hid (false = R) := by show _ = _; rw [hr.out, h1]; rfl
    clear hr
    go_enter Tryz.func65, Tryz.ntmps65
    go_wp2
    go_ret
    exact ⟨oneB hR.out, rfl⟩
  · cases h2 : (x != -9223372036854775808)
    · have hR : Hid (false = R) := by show _ = _; rw [hr.out, h1, h2]; rfl
      clear hr
      go_enter Tryz.func65, Tryz.ntmps65
      go_wp2
      go_ret
      exact ⟨oneB hR.out, rfl⟩
    · have hR : Hid (true = R) := by show _ = _; rw [hr.out, h1, h2]; rfl
      clear hr
      go_enter Tryz.func65, Tryz.ntmps65
      go_wp2
      go_ret
      exact ⟨oneB hR.out, rfl⟩
theorem w64 (n : Int) : wrap64 n = IntKind.i64.wrap n := by
  simp [IntKind.wrap, IntKind.bits, IntKind.signed, wrap64]
  split <;> omega
theorem variable_any (x : Int) (w : World) : Calls Tryz.prog 56 #[.int .i64 x] w fun e w' => e = .returned (.int .i64 (vr x)) ∧ w = w' := by
  have hr : Hid (vr x = if x < wrap64 (-x) then wrap64 (-x) else x) := by show _ = _; rw [w64]; rfl
  generalize vr x = R at *
  go_enter Tryz.func56, Tryz.ntmps56
  go_wp2
  all_goals go_ret
  all_goals exact ⟨L.one (by rw [hr.out]; split <;> omega), rfl⟩
theorem Of_any (x : Int) (w : World) (h : R64 x) : Calls Tryz.prog 35 #[.int .i64 x] w fun e w' => e = .returned (.int .i64 (vr x)) ∧ w = w' := by
  have hr : Hid ((if x < 0 then IntKind.i64.wrap (-x) else x) = vr x) := vr_of h
  generalize vr x = R at *
  clear h
  by_cases h1 : x < 0
  · have hR : Hid (wrap64 (-x) = R) := by show _ = _; rw [← hr.out, if_pos h1, w64]
    clear hr
    have q1 : decide (x < 0) = true := decide_eq_true h1
    go_enter Tryz.func35, Tryz.ntmps35
    go_wp2
    go_ret
    exact ⟨L.one hR.out, rfl⟩
  · have hR : Hid (x = R) := by show _ = _; rw [← hr.out, if_neg h1]
    clear hr
    have q1 : decide (x < 0) = false := decide_eq_false h1
    go_enter Tryz.func35, Tryz.ntmps35
    go_wp2
    go_ret
    exact ⟨L.one hR.out, rfl⟩
theorem isNaN_int (x : Int) (w : World) : Calls Tryz.prog 85 #[.int .i64 x] w fun e w' => e = .returned (.bool false) ∧ w = w' := by
  go_enter Tryz.func85, Tryz.ntmps85
  go_wp2
  go_ret
  exact ⟨by simp, rfl⟩
def cmpI (x y : Int) : Int := if x < y then -1 else if y < x then 1 else 0
theorem cmp_int (x y : Int) (w : World) : Calls Tryz.prog 55 #[.int .i64 x, .int .i64 y] w fun e w' => e = .returned (.int .i64 (cmpI x y)) ∧ w = w' := by
  have c1 := isNaN_int x w
  have c2 := isNaN_int y w
  have hr : Hid (cmpI x y = if x < y then -1 else if y < x then 1 else 0) := rfl
  generalize cmpI x y = R at *
  by_cases h1 : x < y
  · have hR : Hid ((-1 : Int) = R) := by show _ = _; rw [hr.out, if_pos h1]
    clear hr
    go_enter Tryz.func55, Tryz.ntmps55
    go_wp2_with (first
      | (go_at_call 85; ((with_reducible refine c1.mono ?_); rintro e w1 ⟨rfl, rfl⟩))
      | (go_at_call 85; ((with_reducible refine c2.mono ?_); rintro e w1 ⟨rfl, rfl⟩)))
    go_ret
    exact ⟨L.one hR.out, rfl⟩
  · by_cases h2 : y < x
    · have hR : Hid ((1 : Int) = R) := by show _ = _; rw [hr.out, if_neg h1, if_pos h2]
      clear hr
      go_enter Tryz.func55, Tryz.ntmps55
      go_wp2_with (first
        | (go_at_call 85; ((with_reducible refine c1.mono ?_); rintro e w1 ⟨rfl, rfl⟩))
        | (go_at_call 85; ((with_reducible refine c2.mono ?_); rintro e w1 ⟨rfl, rfl⟩)))
      go_ret
      exact ⟨L.one hR.out, rfl⟩
    · have hR : Hid ((0 : Int) = R) := by show _ = _; rw [hr.out, if_neg h1, if_neg h2]
      clear hr
      go_enter Tryz.func55, Tryz.ntmps55
      go_wp2_with (first
        | (go_at_call 85; ((with_reducible refine c1.mono ?_); rintro e w1 ⟨rfl, rfl⟩))
        | (go_at_call 85; ((with_reducible refine c2.mono ?_); rintro e w1 ⟨rfl, rfl⟩)))
      go_ret
      exact ⟨L.one hR.out, rfl⟩
/-- the literals' order as the program's comparison tells it -/
def cf (a b : Int) : Int := if cmpI (vr a) (vr b) ≠ 0 then cmpI (vr a) (vr b) else cmpI a b
theorem cf_ahd (a b : Int) : decide (cf a b < 0) = ahd a b := by
  unfold cf cmpI ahd
  rw [Bool.eq_iff_iff, decide_eq_true_eq]
  simp only [Bool.or_eq_true, Bool.and_eq_true, decide_eq_true_eq]
  constructor
  · intro h; repeat' split at h
    all_goals omega
  · intro h; repeat' split
    all_goals omega
theorem ahead_any (a b : Int) (w : World) (ha : R64 a) (hb : R64 b) : Calls Tryz.prog 67 #[.int .i64 a, .int .i64 b] w fun e w' => e = .returned (.bool (ahd a b)) ∧ w = w' := by
  have ca := Of_any a w ha
  have cb := Of_any b w hb
  have hr : Hid (ahd a b = (decide (vr a < vr b) || (decide (vr a = vr b) && decide (a < b)))) := rfl
  clear ha hb
  generalize ahd a b = R at *
  generalize vr a = x at *
  generalize vr b = y at *
  by_cases h1 : x < y
  · have hR : Hid (true = R) := by show _ = _; rw [hr.out, decide_eq_true h1]; rfl
    clear hr
    have q1 : decide (x < y) = true := decide_eq_true h1
    go_enter Tryz.func67, Tryz.ntmps67
    go_wp2_with (first
      | (go_at_call 35; ((with_reducible refine ca.mono ?_); rintro e w1 ⟨rfl, rfl⟩))
      | (go_at_call 35; ((with_reducible refine cb.mono ?_); rintro e w1 ⟨rfl, rfl⟩)))
    go_ret
    exact ⟨oneB hR.out, rfl⟩
  · by_cases h2 : x = y
    · subst h2
      have hR : Hid (decide (a < b) = R) := by show _ = _; rw [hr.out]; simp
      clear hr
      have q1 : decide (x < x) = false := decide_eq_false (by omega)
      have q2 : (x == x) = true := by simp
      generalize hq : decide (a < b) = r at hR
      go_enter Tryz.func67, Tryz.ntmps67
      go_wp2_with (first
        | (go_at_call 35; ((with_reducible refine ca.mono ?_); rintro e w1 ⟨rfl, rfl⟩))
        | (go_at_call 35; ((with_reducible refine cb.mono ?_); rintro e w1 ⟨rfl, rfl⟩)))
      all_goals go_ret
      all_goals exact ⟨oneB (by first | exact hR.out | (rw [← hR.out, ← hq]; simp) | (rw [← hR.out]; simp_all)), rfl⟩
    · have hR : Hid (false = R) := by show _ = _; rw [hr.out, decide_eq_false h1, decide_eq_false h2]; rfl
      clear hr
      have q1 : decide (x < y) = false := decide_eq_false h1
      have q2 : (x == y) = false := beq_no' h2
      go_enter Tryz.func67, Tryz.ntmps67
      go_wp2_with (first
        | (go_at_call 35; ((with_reducible refine ca.mono ?_); rintro e w1 ⟨rfl, rfl⟩))
        | (go_at_call 35; ((with_reducible refine cb.mono ?_); rintro e w1 ⟨rfl, rfl⟩)))
      go_ret
      exact ⟨oneB hR.out, rfl⟩
end Go.Proofs.YthchjceibpcgbaaGreatDoor.Lt
namespace Go.Proofs.YthchjceibpcgbaaGreatDoor.Lt
open Go.RowKit L
set_option linter.unusedVariables false
set_option linter.unusedSimpArgs false

def vsI (X : List Int) : List Value := X.map (Value.int .i64)
theorem vsI_len (X : List Int) : (vsI X).length = X.length := by simp [vsI]
theorem vsI_app (X Y : List Int) : vsI (X ++ Y) = vsI X ++ vsI Y := by simp [vsI]
theorem vsI_one (X : List Int) : ∀ u ∈ vsI X, u.oneCell' = true := fun u hu => by
  unfold vsI at hu
  obtain ⟨x, _, rfl⟩ := List.mem_map.1 hu
  rfl
theorem intI : (Tryz.prog.info? 3).map (fun i => (i.zero, i.size, i.bytes)) = some (some (.int .i64 0), 1, 8) := by kernel_rfl
/-- a slice's address, length and room read as a list of integers -/
def SlI (w : World) (a : Option Addr) (n c : Nat) (X : List Int) : Prop :=
  n = X.length ∧ n ≤ c ∧ (a = none → c = 0) ∧ (0 < n → ∃ b o, a = some ⟨b, o, none⟩ ∧ b < w.heap.size ∧ ∀ i (h : i < X.length), w.cell? ⟨b, o + i, none⟩ = some (.int .i64 X[i]))
theorem SlI.below {w w' : World} {a : Option Addr} {n c : Nat} {X : List Int} (h : SlI w a n c X) (hb : Below w.heap.size w w') : SlI w' a n c X :=
  ⟨h.1, h.2.1, h.2.2.1, fun hn => by
    obtain ⟨b, o, ha, hlt, hr⟩ := h.2.2.2 hn
    exact ⟨b, o, ha, Nat.lt_of_lt_of_le hlt hb.size, fun i hi => (hb.cell (p := ⟨b, _, none⟩) hlt).trans (hr i hi)⟩⟩
theorem SlI.nil (w : World) : SlI w none 0 0 [] := ⟨rfl, Nat.le_refl _, fun _ => rfl, fun h => absurd h (by omega)⟩
theorem SlI.at {w : World} {A : Option Addr} {n c : Nat} {X : List Int} (h : SlI w A n c X) {k : Nat} (hk : k < n) : ∃ g o x, A = some ⟨g, o, none⟩ ∧ g < w.heap.size ∧ w.cell? ⟨g, o + k, none⟩ = some (.int .i64 x) ∧ X[k]? = some x := by
  obtain ⟨g, o, e, hg, hc⟩ := h.2.2.2 (by omega)
  have hk2 : k < X.length := by rw [← h.1]; exact hk
  exact ⟨g, o, X[k], e, hg, hc k hk2, List.getElem?_eq_getElem hk2⟩
/-- a row of the call's own -/
def OwnI (w : World) (base : Nat) (v : Value) (X : List Int) : Prop := w.ownsRow base 3 1 v X.length (vsI X)
theorem OwnI.nil (w : World) (base : Nat) : OwnI w base (.slice none 0 0) [] := World.ownsRow_nil _ _ _ _
theorem OwnI.slice {w : World} {base : Nat} {v : Value} {X : List Int} (h : OwnI w base v X) : ∃ A c, v = .slice A X.length c ∧ X.length ≤ c ∧ c ≤ maxLen ∧ (A = none → c = 0) ∧ (0 < X.length → ∃ g, A = some ⟨g, 0, none⟩ ∧ base ≤ g ∧ g < w.heap.size) := by
  rcases h.2 with ⟨rfl, hn⟩ | ⟨g, cap, cur, rfl, hb, hg, hnc, hcm, hcs, ht⟩
  · exact ⟨none, 0, by rw [hn], by omega, Nat.zero_le _, fun _ => rfl, fun h => absurd h (by omega)⟩
  · exact ⟨_, _, rfl, hnc, hcm, (fun h => by cases h), fun _ => ⟨g, rfl, hb, (Array.getElem?_eq_some_iff.1 hg).1⟩⟩
theorem OwnI.lt {w : World} {base : Nat} {v : Value} {X : List Int} (h : OwnI w base v X) : ∀ k, v.ownBlock = some k → base ≤ k ∧ k < w.heap.size := fun k hk => by
  rcases h.2 with ⟨rfl, hn⟩ | ⟨g, cap, cur, rfl, hb, hg, _⟩
  · cases hk
  · injection hk with hk
    subst hk
    exact ⟨hb, (Array.getElem?_eq_some_iff.1 hg).1⟩
theorem OwnI.keep {w w' : World} {base : Nat} {v : Value} {X : List Int} (h : OwnI w base v X) (hb : ∀ k, base ≤ k → k < w.heap.size → w'.heap[k]? = w.heap[k]?) : OwnI w' base v X := by
  refine ⟨h.1, ?_⟩
  rcases h.2 with hn | ⟨g, cap, cur, rfl, h1, hg, rest⟩
  · exact .inl hn
  · exact .inr ⟨g, cap, cur, rfl, h1, by rw [hb g h1 (Array.getElem?_eq_some_iff.1 hg).1]; exact hg, rest⟩
theorem OwnI.b {w w' : World} {base : Nat} {v : Value} {X : List Int} (h : OwnI w base v X) (hb : Below w.heap.size w w') : OwnI w' base v X := h.keep (fun k _ hk => hb.block k hk)
theorem OwnI.less {w : World} {base base' : Nat} {v : Value} {X : List Int} (h : OwnI w base v X) (hb : base' ≤ base) : OwnI w base' v X := by
  refine ⟨h.1, ?_⟩
  rcases h.2 with hn | ⟨g, cap, cur, rfl, h1, hg, rest⟩
  · exact .inl hn
  · exact .inr ⟨g, cap, cur, rfl, Nat.le_trans hb h1, hg, rest⟩
theorem OwnI.at {w : World} {base g n c : Nat} {X : List Int} (h : OwnI w base (.slice (some ⟨g, 0, none⟩) n c) X) {k : Nat} (hk : k < X.length) : w.cell? ⟨g, k, none⟩ = some (.int .i64 X[k]) := by
  rcases h.2 with ⟨hv, _⟩ | ⟨g', cap, cur, hv, hb, hg, hnc, hcm, hcs, ht⟩
  · cases hv
  · injection hv with h1 h2 h3
    injection h1 with h1
    injection h1 with h1
    subst h1
    have e : (cur.toList.take (X.length * 1))[k]? = (vsI X)[k]? := by rw [ht]
    rw [List.getElem?_take_of_lt (by omega), Array.getElem?_toList] at e
    rw [cell_of_row w g k _ _ _ hg, e]
    simp [vsI, hk]
theorem OwnI.sl {w : World} {base : Nat} {A : Option Addr} {n c : Nat} {X : List Int} (h : OwnI w base (.slice A n c) X) : n = X.length ∧ c ≤ maxLen ∧ SlI w A n c X := by
  obtain ⟨A', c', hv, h1, h2, h3, h4⟩ := h.slice
  injection hv with e1 e2 e3
  subst e1 e2 e3
  refine ⟨rfl, h2, rfl, h1, h3, fun hn => ?_⟩
  obtain ⟨g, rfl, _, hg⟩ := h4 hn
  exact ⟨g, 0, rfl, hg, fun k hk => by rw [Nat.zero_add]; exact h.at hk⟩
theorem news_int {w : World} {A : Option Addr} {n c : Nat} {X : List Int} (h : SlI w A n c X) : ∀ ad, A = some ad → ∀ j u, (vsI X)[j]? = some u → w.cell? (ad.add j) = some u := fun ad ha j u hj => by
  obtain ⟨hj2, hu⟩ := List.getElem?_eq_some_iff.1 hj
  rw [vsI_len] at hj2
  obtain ⟨b', o, ha', _, hr⟩ := h.2.2.2 (by rw [h.1]; omega)
  rw [ha] at ha'
  injection ha' with ha'
  subst ha'
  rw [Addr.add_lit, hr j hj2, ← hu]
  simp [vsI]
/-- append(s, x...) for the walk: s a row of the call's own -/
theorem app_ints {w : World} {ops : Array Oper} {rest : List Oper} {o : Oper} {a : Act} {Q : Exit → Act → World → Prop} (hgd : o.guard = none) (s x : Operand)
    (ho : o.op = .call { callee := .builtin .append, args := #[s, x], argTypes := #[34, 34] })
    (base : Nat) (v : Value) (Y : List Int) (hs : a.eval s = v) (hown : OwnI w base v Y) (A : Option Addr) (m c : Nat) (X : List Int) (hx : a.eval x = .slice A m c) (hX : SlI w A m c X)
    (hn : Y.length + m ≤ 1000000000) (hbase : base ≤ w.heap.size)
    (h : ∀ v' w', OwnI w' base v' (Y ++ X) → w.grownBy w' v.ownBlock → wpList Tryz.prog ops Q rest (a.put o.dst v') w') : wpList Tryz.prog ops Q (o :: rest) a w := by
  obtain ⟨i0, hi, hz0, hz1, hz2⟩ := info_parts intI
  have hm : m = X.length := hX.1
  have hl : Y.length + m ≤ maxLen := by unfold maxLen; omega
  cases A with
  | none =>
    have hc : c = 0 := hX.2.2.1 rfl
    have hm0 : m = 0 := by have := hX.2.1; omega
    have hX0 : X = [] := List.eq_nil_of_length_eq_zero (by omega)
    subst hX0 hc hm0
    refine wpList_append_own_none hgd s x 34 ho base 3 i0 1 Tryz.underlying34 hi v Y.length (vsI Y) hs hown hx (h v w ?_ ⟨rfl, rfl, rfl, Nat.le_refl _, fun _ _ _ => rfl⟩)
    rw [List.append_nil]; exact hown
  | some ad =>
    refine wpList_append_own w hgd s x 34 ho base 3 i0 _ 1 8 Tryz.underlying34 hi hz0 hz1 hz2 rfl (by decide) v Y.length (vsI Y) hs hown ad m c (vsI X) hx (by rw [vsI_len, hm]; omega) (news_int hX ad rfl) (vsI_one X) hl (by omega) hbase fun v' w' h1 h2 _ => h v' w' ?_ h2
    unfold OwnI
    rw [List.length_append, vsI_app, ← hm]
    exact h1
/-- a slice's address, length and room read as a list of truth values -/
def SlB (w : World) (a : Option Addr) (n c : Nat) (X : List Bool) : Prop :=
  n = X.length ∧ n ≤ c ∧ (0 < n → ∃ b o, a = some ⟨b, o, none⟩ ∧ b < w.heap.size ∧ ∀ i (h : i < X.length), w.cell? ⟨b, o + i, none⟩ = some (.bool X[i]))
theorem SlB.below {w w' : World} {a : Option Addr} {n c : Nat} {X : List Bool} (h : SlB w a n c X) (hb : Below w.heap.size w w') : SlB w' a n c X :=
  ⟨h.1, h.2.1, fun hn => by
    obtain ⟨b, o, ha, hlt, hr⟩ := h.2.2 hn
    exact ⟨b, o, ha, Nat.lt_of_lt_of_le hlt hb.size, fun i hi => (hb.cell (p := ⟨b, _, none⟩) hlt).trans (hr i hi)⟩⟩
theorem SlB.at {w : World} {A : Option Addr} {n c : Nat} {X : List Bool} (h : SlB w A n c X) {k : Nat} (hk : k < n) : ∃ g o x, A = some ⟨g, o, none⟩ ∧ g < w.heap.size ∧ w.cell? ⟨g, o + k, none⟩ = some (.bool x) ∧ X[k]? = some x := by
  obtain ⟨g, o, e, hg, hc⟩ := h.2.2 (by omega)
  have hk2 : k < X.length := by rw [← h.1]; exact hk
  exact ⟨g, o, X[k], e, hg, hc k hk2, List.getElem?_eq_getElem hk2⟩
end Go.Proofs.YthchjceibpcgbaaGreatDoor.Lt
namespace Go.Proofs.YthchjceibpcgbaaGreatDoor.Lt
open Go.RowKit L
set_option linter.unusedVariables false
set_option linter.unusedSimpArgs false

set_option maxRecDepth 100000 in
theorem holds_any (l : Int) (a : Option Addr) (n c : Nat) (V : List Bool) (w : World) (hR : R64 l) (hV : SlB w a n c V) (hn : n ≤ 9223372036854775807) :
    Calls Tryz.prog 47 #[.int .i64 l, .slice a n c] w fun e w' => e = .returned (.bool (tru V l)) ∧ w = w' := by
  have c1 := literal_any l w
  have c2 := variable_any l w
  have hVn := hV.1
  cases h1 : isL l
  · have e : Hid (false = tru V l) := by show _ = _; simp [tru, h1]
    rw [h1] at c1
    generalize tru V l = r at *
    clear hV
    generalize vr l = v at *
    go_enter Tryz.func47, Tryz.ntmps47
    go_wp2_with (first
      | (go_at_call 51; ((with_reducible refine c1.mono ?_); rintro e w1 ⟨rfl, rfl⟩))
      | (go_at_call 56; ((with_reducible refine c2.mono ?_); rintro e w1 ⟨rfl, rfl⟩)))
    go_ret
    exact ⟨oneB e.out, rfl⟩
  · rw [h1] at c1
    obtain ⟨k, hk⟩ : ∃ k : Nat, vr l = (k : Int) + 1 := ⟨(vr l - 1).toNat, by have := vr_pos hR h1; omega⟩
    rw [hk] at c2
    by_cases h2 : k < n
    · obtain ⟨g, o, x, rfl, hg, hc, hx⟩ := hV.at h2
      have hd : V.getD k false = x := by simp [List.getD, hx]
      have e : Hid ((x == decide (0 < l)) = tru V l) := by
        show _ = _
        unfold tru
        rw [h1, hk, show (((k : Int) + 1 - 1).toNat) = k by omega, hd, decide_eq_true (p := (k : Int) + 1 ≤ (V.length : Int)) (by omega)]
        rfl
      generalize tru V l = r at *
      have q0 : decide ((k : Int) + 1 ≤ (n : Int)) = true := decide_eq_true (by omega)
      have q3 : IntKind.i64.wrap ((k : Int) + 1 - 1) = k := (wrap_id (z := (k : Int) + 1 - 1) ⟨by omega, by omega⟩).trans (by omega)
      have q4 : wrap64 ((k : Int) + 1 - 1) = k := by rw [w64]; exact q3
      have q5 : 0 ≤ (k : Int) := by omega
      have q6 : (k : Int) < (n : Int) := by omega
      generalize hp : decide (0 < l) = p at *
      have hp' : decide (l > 0) = p := hp
      clear hV hx hd hk hVn h1 hR
      go_enter Tryz.func47, Tryz.ntmps47
      go_wp2_with (first
        | (go_at_call 51; ((with_reducible refine c1.mono ?_); rintro e w1 ⟨rfl, rfl⟩))
        | (go_at_call 56; ((with_reducible refine c2.mono ?_); rintro e w1 ⟨rfl, rfl⟩)))
      go_ret
      exact ⟨oneB e.out, rfl⟩
    · have e : Hid (false = tru V l) := by
        show _ = _
        unfold tru
        rw [h1, hk, decide_eq_false (p := (k : Int) + 1 ≤ (V.length : Int)) (by omega)]
        rfl
      generalize tru V l = r at *
      have q0 : decide ((k : Int) + 1 ≤ (n : Int)) = false := decide_eq_false (by omega)
      clear hV hk hVn h1 hR
      go_enter Tryz.func47, Tryz.ntmps47
      go_wp2_with (first
        | (go_at_call 51; ((with_reducible refine c1.mono ?_); rintro e w1 ⟨rfl, rfl⟩))
        | (go_at_call 56; ((with_reducible refine c2.mono ?_); rintro e w1 ⟨rfl, rfl⟩)))
      go_ret
      exact ⟨oneB e.out, rfl⟩
set_option maxRecDepth 100000 in
theorem True_any (l : Int) (a : Option Addr) (n c : Nat) (V : List Bool) (w : World) (hR : R64 l) (hV : SlB w a n c V) (hn : n ≤ 9223372036854775807) :
    Calls Tryz.prog 81 #[.int .i64 l, .slice a n c] w fun e w' => e = .returned (.bool (tru V l)) ∧ w = w' := by
  have c1 := is_any l w
  have c2 := Of_any l w hR
  have hVn := hV.1
  cases h1 : isL l
  · have e : Hid (false = tru V l) := by show _ = _; simp [tru, h1]
    rw [h1] at c1
    generalize tru V l = r at *
    clear hV
    generalize vr l = v at *
    go_enter Tryz.func81, Tryz.ntmps81
    go_wp2_with (first
      | (go_at_call 65; ((with_reducible refine c1.mono ?_); rintro e w1 ⟨rfl, rfl⟩))
      | (go_at_call 35; ((with_reducible refine c2.mono ?_); rintro e w1 ⟨rfl, rfl⟩)))
    go_ret
    exact ⟨oneB e.out, rfl⟩
  · rw [h1] at c1
    obtain ⟨k, hk⟩ : ∃ k : Nat, vr l = (k : Int) + 1 := ⟨(vr l - 1).toNat, by have := vr_pos hR h1; omega⟩
    rw [hk] at c2
    by_cases h2 : k < n
    · obtain ⟨g, o, x, rfl, hg, hc, hx⟩ := hV.at h2
      have hd : V.getD k false = x := by simp [List.getD, hx]
      have e : Hid ((x == decide (0 < l)) = tru V l) := by
        show _ = _
        unfold tru
        rw [h1, hk, show (((k : Int) + 1 - 1).toNat) = k by omega, hd, decide_eq_true (p := (k : Int) + 1 ≤ (V.length : Int)) (by omega)]
        rfl
      generalize tru V l = r at *
      have q0 : decide ((k : Int) + 1 ≤ (n : Int)) = true := decide_eq_true (by omega)
      have q3 : IntKind.i64.wrap ((k : Int) + 1 - 1) = k := (wrap_id (z := (k : Int) + 1 - 1) ⟨by omega, by omega⟩).trans (by omega)
      have q4 : wrap64 ((k : Int) + 1 - 1) = k := by rw [w64]; exact q3
      have q5 : 0 ≤ (k : Int) := by omega
      have q6 : (k : Int) < (n : Int) := by omega
      generalize hp : decide (0 < l) = p at *
      have hp' : decide (l > 0) = p := hp
      clear hV hx hd hk hVn h1 hR
      go_enter Tryz.func81, Tryz.ntmps81
      go_wp2_with (first
        | (go_at_call 65; ((with_reducible refine c1.mono ?_); rintro e w1 ⟨rfl, rfl⟩))
        | (go_at_call 35; ((with_reducible refine c2.mono ?_); rintro e w1 ⟨rfl, rfl⟩)))
      go_ret
      exact ⟨oneB e.out, rfl⟩
    · have e : Hid (false = tru V l) := by
        show _ = _
        unfold tru
        rw [h1, hk, decide_eq_false (p := (k : Int) + 1 ≤ (V.length : Int)) (by omega)]
        rfl
      generalize tru V l = r at *
      have q0 : decide ((k : Int) + 1 ≤ (n : Int)) = false := decide_eq_false (by omega)
      clear hV hk hVn h1 hR
      go_enter Tryz.func81, Tryz.ntmps81
      go_wp2_with (first
        | (go_at_call 65; ((with_reducible refine c1.mono ?_); rintro e w1 ⟨rfl, rfl⟩))
        | (go_at_call 35; ((with_reducible refine c2.mono ?_); rintro e w1 ⟨rfl, rfl⟩)))
      go_ret
      exact ⟨oneB e.out, rfl⟩
theorem hasL_take (X : List Int) (l : Int) (k : Nat) (x : Int) (hx : X[k]? = some x) : hasL (X.take (k + 1)) l = (hasL (X.take k) l || (isL l && x == l)) := by
  rw [List.take_add_one, hx]
  unfold hasL
  rw [Bool.eq_iff_iff]
  simp
  constructor
  · rintro ⟨h, h' | h'⟩
    · exact .inl ⟨h, h'⟩
    · exact .inr ⟨h, h'.symm⟩
  · rintro (⟨h, h'⟩ | ⟨h, h'⟩)
    · exact ⟨h, .inl h'⟩
    · exact ⟨h, .inr h'.symm⟩
theorem hasL_mem {X : List Int} {l : Int} (k : Nat) (hx : X[k]? = some l) (hl : isL l = true) : hasL X l = true := (hasL_iff _ _).2 ⟨hl, List.mem_of_getElem? hx⟩
set_option maxRecDepth 100000 in
theorem RHas_any (A : Option Addr) (n c : Nat) (X : List Int) (l : Int) (w : World) (h : SlI w A n c X) (hn : n ≤ 9223372036854775807) :
    Calls Tryz.prog 66 #[.slice A n c, .int .i64 l] w fun e w' => e = .returned (.bool (hasL X l)) ∧ w = w' := by
  have c1 := fun W => is_any l W
  have hX := h.1
  have H := Lib.hid h
  have HX := Lib.hid hX
  have Hr : Hid (hasL X l = hasL X l) := rfl
  generalize hq : hasL X l = r at Hr
  have Hq := Lib.hid hq
  have HE : Hid (hasL (X.take 0) l = false) := by show _ = _; simp [hasL]
  have hil : Hid (isL l = isL l) := rfl
  generalize hi : isL l = i0 at *
  have Hi := Lib.hid hi
  clear h hX hq Hr hil hi
  go_enter Tryz.func66, Tryz.ntmps66
  go_wp2
  go_loopw [5] (fun i wr0 => ∃ (wr : World) (k : Nat), wr = wr0 ∧ k ≤ n ∧ i = .int .i64 k ∧ Hid (hasL (X.take k) l = false) ∧ Hid (w = wr)) (fun i _ => n - (intOf i).toNat)
  case atStart => exact ⟨_, 0, rfl, by omega, rfl, HE, Lib.hid rfl⟩
  case round =>
    obtain ⟨wr, k, rfl, hk, rfl, hE, hW⟩ := hrel
    by_cases hlt : k < n
    · obtain ⟨g, o, x, rfl, hg, z0, hx⟩ := SlI.at H.out hlt
      have y0 : wr.cell? ⟨g, o + k, none⟩ = some (.int .i64 x) := by rw [← hW.out]; exact z0
      have HE1 : Hid (hasL (X.take (k + 1)) l = (false || (i0 && x == l))) := by
        show _ = _
        rw [hasL_take X l k x hx, hE.out, Hi.out]
      have HM : Hid (i0 = true → x = l → r = true) := by
        show _ → _ → _
        rintro h1 rfl
        rw [← Hq.out]; exact hasL_mem k hx (Hi.out.trans h1)
      have hk0 : 0 ≤ (k : Int) := by omega
      have hk1 : (k : Int) < (n : Int) := by omega
      clear z0 hx hE H
      cases i0
      · go_wp2_with (go_at_call 65; ((with_reducible refine (c1 _).mono ?_); rintro e w1 ⟨rfl, rfl⟩))
        go_roundw
        case rel => exact ⟨_, k + 1, rfl, by omega, by go_num, Lib.hid (by rw [HE1.out]; rfl), hW⟩
        case measure => simp [intOf]; omega
      · by_cases hxl : x = l
        · have q1 : (x == l) = true := by simp [hxl]
          have q2 : Hid (true = r) := (HM.out rfl hxl).symm
          clear HE1 HM hxl
          go_wp2_with (go_at_call 65; ((with_reducible refine (c1 _).mono ?_); rintro e w1 ⟨rfl, rfl⟩))
          go_ret
          exact ⟨oneB q2.out, hW.out⟩
        · have q1 : (x == l) = false := by simp [hxl]
          have HE2 : Hid (hasL (X.take (k + 1)) l = false) := by show _ = _; rw [HE1.out, q1]; rfl
          clear HE1 HM hxl
          go_wp2_with (go_at_call 65; ((with_reducible refine (c1 _).mono ?_); rintro e w1 ⟨rfl, rfl⟩))
          go_roundw
          case rel => exact ⟨_, k + 1, rfl, by omega, by go_num, HE2, hW⟩
          case measure => simp [intOf]; omega
    · obtain rfl : k = n := by omega
      have q2 : Hid (false = r) := by show _ = _; rw [← Hq.out, ← hE.out, List.take_of_length_le (by have := HX.out; omega)]
      clear hE
      go_wp2
      go_ret
      exact ⟨oneB q2.out, hW.out⟩
set_option maxRecDepth 100000 in
theorem RCount_any (A : Option Addr) (n c : Nat) (X : List Int) (a : Option Addr) (m d : Nat) (V : List Bool) (w : World) (h : SlI w A n c X) (hr : R64s X) (hV : SlB w a m d V) (hn : n ≤ 1000000000) (hm : m ≤ 9223372036854775807) :
    Calls Tryz.prog 48 #[.slice A n c, .slice a m d] w fun e w' => e = .returned (.int .i64 (cnt X V : Nat)) ∧ w = w' := by
  have c1 := fun l (hl : R64 l) => True_any l a m d V w hl hV hm
  have C1 := Lib.hid c1
  have H := Lib.hid h
  have HX := Lib.hid h.1
  have HR := Lib.hid hr
  generalize hq : cnt X V = r
  have Hq := Lib.hid hq
  have HE : Hid (cnt (X.take 0) V = 0) := by show _ = _; simp [cnt]
  clear h hq hV c1 hr
  go_enter Tryz.func48, Tryz.ntmps48
  go_wp2
  go_loopw [5, 6] (fun u i wr0 => ∃ (wr : World) (k q : Nat), wr = wr0 ∧ k ≤ n ∧ q ≤ k ∧ i = .int .i64 k ∧ u = .int .i64 q ∧ Hid (cnt (X.take k) V = q) ∧ Hid (w = wr)) (fun u i _ => n - (intOf i).toNat)
  case atStart => exact ⟨_, 0, 0, rfl, by omega, by omega, rfl, rfl, HE, Lib.hid rfl⟩
  case round =>
    obtain ⟨wr, k, q, rfl, hk, hqk, rfl, rfl, hE, hW⟩ := hrel
    by_cases hlt : k < n
    · obtain ⟨g, o, x, rfl, hg, z0, hx⟩ := SlI.at H.out hlt
      have y0 : wr.cell? ⟨g, o + k, none⟩ = some (.int .i64 x) := by rw [← hW.out]; exact z0
      have cx := C1.out x (HR.out x (List.mem_of_getElem? hx))
      rw [hW.out] at cx
      have HE1 : Hid (cnt (X.take (k + 1)) V = q + (if tru V x then 1 else 0)) := by
        show _ = _
        have := hE.out
        unfold cnt at this ⊢
        rw [List.take_add_one, hx, List.filter_append, List.length_append, this]
        congr 1
        simp only [Option.toList_some, List.filter_cons, List.filter_nil]
        split <;> rfl
      have hk0 : 0 ≤ (k : Int) := by omega
      have hk1 : (k : Int) < (n : Int) := by omega
      clear z0 hx hE H
      generalize tru V x = b at *
      cases b
      · go_wp2_with (go_at_call 81; ((with_reducible refine cx.mono ?_); rintro e w1 ⟨rfl, rfl⟩))
        go_roundw
        case rel => exact ⟨_, k + 1, q, rfl, by omega, by omega, by go_num, rfl, Lib.hid (by rw [HE1.out]; rfl), hW⟩
        case measure => simp [intOf]; omega
      · go_wp2_with (go_at_call 81; ((with_reducible refine cx.mono ?_); rintro e w1 ⟨rfl, rfl⟩))
        go_roundw
        case rel => exact ⟨_, k + 1, q + 1, rfl, by omega, by omega, by go_num, by go_num, Lib.hid (by rw [HE1.out]; rfl), hW⟩
        case measure => simp [intOf]; omega
    · obtain rfl : k = n := by omega
      have q2 : Hid (q = r) := by show _ = _; rw [← Hq.out, ← hE.out, List.take_of_length_le (by have := HX.out; omega)]
      clear hE
      go_wp2
      go_ret
      exact ⟨by rw [q2.out]; rfl, hW.out⟩
theorem RHolds_any (A : Option Addr) (n c : Nat) (X : List Int) (a : Option Addr) (m d : Nat) (V : List Bool) (w : World) (h : SlI w A n c X) (hr : R64s X) (hV : SlB w a m d V) (hn : n ≤ 1000000000) (hm : m ≤ 9223372036854775807) :
    Calls Tryz.prog 22 #[.slice A n c, .slice a m d] w fun e w' => e = .returned (.bool (hld X V)) ∧ w = w' := by
  have c1 := RCount_any A n c X a m d V w h hr hV hn hm
  have e : Hid (decide (0 < cnt X V) = hld X V) := (hld_cnt X V).symm
  generalize hld X V = r at *
  generalize cnt X V = q at *
  clear h hr hV
  go_enter Tryz.func22, Tryz.ntmps22
  go_wp2_with (go_at_call 48; ((with_reducible refine c1.mono ?_); rintro e1 w1 ⟨rfl, rfl⟩))
  go_ret
  exact ⟨oneB (by rw [← e.out] <;> simp), rfl⟩
end Go.Proofs.YthchjceibpcgbaaGreatDoor.Lt
