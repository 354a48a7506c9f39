/-
  What is proved: terms in plain words: the depth counted up to a bound, the errors, the parts without repetition, the names in order. No program is spoken of.
-/
import Derived.Test.YtelepojpnkoelaaZLibM
namespace Go.Proofs.Ytelepojpnkoelaa.T
open L
set_option linter.unusedVariables false
set_option linter.unusedSimpArgs false

/-! the depth, counted up to a bound -/
mutual
def dpTo : Nat → Tm → Nat
  | most, .mk _ _ _ l => dpTos most 1 l
def dpTos : Nat → Nat → List Tm → Nat
  | _, d, [] => d
  | most, d, t :: l => if d ≤ most then dpTos most (max d (1 + dpTo (most - 1) t)) l else d
end
mutual
theorem dpTo_small : ∀ (t : Tm) (most : Nat), depth t ≤ most → dpTo most t = depth t
  | .mk o s n l, most, h => by
    rw [depth] at h ⊢
    rw [dpTo, dpTos_small l most 1 (Nat.le_refl _) (by omega) h]
    omega
theorem dpTos_small : ∀ (l : List Tm) (most d : Nat), 1 ≤ d → d ≤ most → 1 + depths l ≤ most → dpTos most d l = max d (1 + depths l)
  | [], most, d, h1, h0, h => by rw [dpTos, depths]; omega
  | t :: l, most, d, h1, h0, h => by
    rw [depths] at h ⊢
    rw [dpTos, if_pos h0, dpTo_small t (most - 1) (by omega), dpTos_small l most _ (by omega) (by omega) (by omega)]
    omega
end
theorem depth_pos : ∀ t : Tm, 0 < depth t
  | .mk _ _ _ l => by rw [depth]; omega
mutual
theorem dpTo_big : ∀ (t : Tm) (most : Nat), most < depth t → most < dpTo most t
  | .mk o s n l, most, h => by
    rw [depth] at h
    rw [dpTo]
    by_cases h1 : 1 ≤ most
    · exact dpTos_big l most 1 (Nat.le_refl _) h1 h
    · cases l with
      | nil => rw [dpTos]; omega
      | cons t l => rw [dpTos, if_neg h1]; omega
theorem dpTos_big : ∀ (l : List Tm) (most d : Nat), 1 ≤ d → d ≤ most → most < 1 + depths l → most < dpTos most d l
  | [], most, d, hd, h0, h => by rw [depths] at h; omega
  | t :: l, most, d, hd, h0, h => by
    rw [depths] at h
    rw [dpTos, if_pos h0]
    by_cases h1 : depth t ≤ most - 1
    · rw [dpTo_small t _ h1]
      by_cases h2 : max d (1 + depth t) ≤ most
      · exact dpTos_big l most _ (by omega) h2 (by omega)
      · exact Nat.lt_of_lt_of_le (by omega) (dpTos_ge l most _)
    · have := dpTo_big t (most - 1) (by omega)
      exact Nat.lt_of_lt_of_le (by omega) (dpTos_ge l most _)
theorem dpTos_ge : ∀ (l : List Tm) (most d : Nat), d ≤ dpTos most d l
  | [], most, d => by rw [dpTos]; exact Nat.le_refl _
  | t :: l, most, d => by
    rw [dpTos]; split
    · exact Nat.le_trans (Nat.le_max_left _ _) (dpTos_ge l most _)
    · exact Nat.le_refl _
end
theorem dpTo_min (t : Tm) (most : Nat) : min (dpTo most t) (most + 1) = min (depth t) (most + 1) := by
  by_cases h : depth t ≤ most
  · rw [dpTo_small t most h]
  · have := dpTo_big t most (by omega); omega

/-! the errors -/
def formB (o : Int) (s : ByteArray) (n : Int) : Bool :=
  (decide (o < 1) || (decide (8 < o) || (o == 2 && decide (n < 0)))) || (((o != 2 && (o != 4 && o != 8)) && n != 0) || ((o != 1 && o != 3) && !s.toList.isEmpty))
def argsI (o : Int) : Int := if o = 3 then -1 else if o = 5 ∨ o = 6 then 2 else if o = 7 ∨ o = 8 then 1 else 0
def arityB (o : Int) (k : Nat) : Bool := (decide (0 ≤ argsI o) && (k : Int) != argsI o) || decide (8 < k)
mutual
def partE : Tm → Int
  | .mk o s n l => if formB o s n = true then 7 else if arityB o l.length = true then 12 else partsE l
def partsE : List Tm → Int
  | [] => 0
  | t :: l => if partE t ≠ 0 then partE t else partsE l
end
def rightE (t : Tm) : Int := if 64 < depth t then 6 else if 4096 < size t then 2 else partE t

/-! without repetition: each where it first occurs -/
def inT (l : List Tm) (t : Tm) : Bool := l.any (fun x => eqT x t)
theorem inT_iff {l : List Tm} {t : Tm} : inT l t = true ↔ t ∈ l := by
  unfold inT
  rw [List.any_eq_true]
  constructor
  · rintro ⟨x, hx, h⟩; rw [← eqT_iff.1 h]; exact hx
  · intro h; exact ⟨t, h, eqT_refl t⟩
def uniq : List Tm → List Tm → List Tm
  | acc, [] => acc
  | acc, t :: l => if inT acc t = true then uniq acc l else uniq (acc ++ [t]) l
def parts (t : Tm) : List Tm := uniq [] (all t)
theorem uniq_app : ∀ (l m acc : List Tm), uniq acc (l ++ m) = uniq (uniq acc l) m
  | [], m, acc => rfl
  | t :: l, m, acc => by
    rw [List.cons_append, uniq, uniq]
    split
    · exact uniq_app l m acc
    · exact uniq_app l m (acc ++ [t])
theorem mem_uniq : ∀ (l acc : List Tm) (t : Tm), t ∈ uniq acc l ↔ t ∈ acc ∨ t ∈ l
  | [], acc, t => by rw [uniq]; simp
  | u :: l, acc, t => by
    rw [uniq]; split
    · rename_i h
      rw [mem_uniq l acc t]
      have := inT_iff.1 h
      simp only [List.mem_cons]
      constructor
      · rintro (h1 | h1)
        · exact .inl h1
        · exact .inr (.inr h1)
      · rintro (h1 | rfl | h1)
        · exact .inl h1
        · exact .inl this
        · exact .inr h1
    · rw [mem_uniq l _ t]; simp [or_assoc]
theorem has_parts (t p : Tm) : inT (parts t) p = has t p := by
  rw [Bool.eq_iff_iff, inT_iff, has_iff]
  unfold parts
  rw [mem_uniq]; simp
theorem uniq_len : ∀ (l acc : List Tm), (uniq acc l).length ≤ acc.length + l.length
  | [], acc => by rw [uniq]; simp
  | u :: l, acc => by
    rw [uniq]; split
    · have := uniq_len l acc; simp; omega
    · have := uniq_len l (acc ++ [u]); simp at this ⊢; omega
theorem parts_len (t : Tm) : (parts t).length ≤ size t := by
  have := uniq_len (all t) []
  rw [all_len] at this
  simpa [parts] using this

/-! names in order -/
def Up (l : List (ByteArray)) : Prop := l.Pairwise (fun x y => cmpN x y = -1)
/-- a name put among rising ones, as long as it is not there -/
def putN (s : ByteArray) : List (ByteArray) → List (ByteArray)
  | [] => [s]
  | x :: l => if cmpN s x = -1 then s :: x :: l else if s = x then x :: l else x :: putN s l
theorem mem_put (s x : ByteArray) : ∀ l : List (ByteArray), x ∈ putN s l ↔ x = s ∨ x ∈ l
  | [] => by simp [putN]
  | y :: l => by
    rw [putN]; split
    · simp
    · split
      · rename_i h; subst h; simp
      · rw [List.mem_cons, mem_put s x l, List.mem_cons]
        constructor
        · rintro (h | h | h) <;> simp [h]
        · rintro (h | h | h) <;> simp [h]
theorem up_put (s : ByteArray) : ∀ l : List (ByteArray), Up l → Up (putN s l)
  | [], _ => by unfold Up putN; simp
  | y :: l, h => by
    have h2 := List.pairwise_cons.1 h
    rw [putN]; split
    · rename_i hs
      refine List.pairwise_cons.2 ⟨fun z hz => ?_, h⟩
      rcases List.mem_cons.1 hz with rfl | hz
      · exact hs
      · exact linN.trans _ _ _ hs (h2.1 z hz)
    · split
      · exact h
      · rename_i h3 h4
        refine List.pairwise_cons.2 ⟨fun z hz => ?_, up_put s l h2.2⟩
        rcases (mem_put s z l).1 hz with rfl | hz
        · rcases linN.rng z y with e | e | e
          · exact absurd e h3
          · exact absurd ((linN.eq _ _).1 e) h4
          · rw [linN.anti, e]
        · exact h2.1 z hz
/-- rising lists with the same elements are the same -/
theorem up_same : ∀ {l m : List (ByteArray)}, Up l → Up m → (∀ x, x ∈ l ↔ x ∈ m) → l = m
  | [], [], _, _, _ => rfl
  | [], y :: m, _, _, h => absurd ((h y).2 (by simp)) (by simp)
  | x :: l, [], _, _, h => absurd ((h x).1 (by simp)) (by simp)
  | x :: l, y :: m, hl, hm, h => by
    have hl2 := List.pairwise_cons.1 hl
    have hm2 := List.pairwise_cons.1 hm
    have irr : ∀ z : ByteArray, cmpN z z ≠ -1 := fun z e => by have := (linN.eq z z).2 rfl; omega
    have hxy : x = y := by
      rcases List.mem_cons.1 ((h x).1 (by simp)) with e | e
      · exact e
      · rcases List.mem_cons.1 ((h y).2 (by simp)) with e2 | e2
        · exact e2.symm
        · have h1 := hm2.1 x e
          have h2 := hl2.1 y e2
          exact absurd (linN.trans _ _ _ h1 h2) (irr y)
    subst hxy
    have hrest : ∀ z, z ∈ l ↔ z ∈ m := fun z => by
      constructor
      · intro hz
        rcases List.mem_cons.1 ((h z).1 (by simp [hz])) with rfl | e
        · exact absurd (hl2.1 z hz) (irr z)
        · exact e
      · intro hz
        rcases List.mem_cons.1 ((h z).2 (by simp [hz])) with rfl | e
        · exact absurd (hm2.1 z hz) (irr z)
        · exact e
    rw [up_same hl2.2 hm2.2 hrest]
def opT : Tm → Int | .mk o _ _ _ => o
def nameT : Tm → ByteArray | .mk _ s _ _ => s
/-- the names of the variables among some parts, put in one by one -/
def namesF : List (ByteArray) → List Tm → List (ByteArray)
  | acc, [] => acc
  | acc, t :: l => namesF (if opT t = 1 then putN (nameT t) acc else acc) l
def names (l : List Tm) : List (ByteArray) := namesF [] (alls l)
theorem namesF_app : ∀ (l m : List Tm) (acc : List (ByteArray)), namesF acc (l ++ m) = namesF (namesF acc l) m
  | [], m, acc => rfl
  | t :: l, m, acc => by rw [List.cons_append, namesF, namesF, namesF_app l m]
theorem up_namesF : ∀ (l : List Tm) (acc : List (ByteArray)), Up acc → Up (namesF acc l)
  | [], acc, h => h
  | t :: l, acc, h => by
    rw [namesF]
    split
    · exact up_namesF l _ (up_put _ _ h)
    · exact up_namesF l _ h
theorem mem_namesF : ∀ (l : List Tm) (acc : List (ByteArray)) (x : ByteArray), x ∈ namesF acc l ↔ x ∈ acc ∨ ∃ t ∈ l, opT t = 1 ∧ nameT t = x
  | [], acc, x => by rw [namesF]; simp
  | t :: l, acc, x => by
    rw [namesF, mem_namesF l _ x]
    split
    · rename_i h
      rw [mem_put]
      simp only [List.mem_cons, exists_eq_or_imp, h, true_and]
      constructor
      · rintro ((h1 | h1) | h1)
        · exact .inr (.inl h1.symm)
        · exact .inl h1
        · exact .inr (.inr h1)
      · rintro (h1 | h1 | h1)
        · exact .inl (.inr h1)
        · exact .inl (.inl h1.symm)
        · exact .inr h1
    · rename_i h
      simp only [List.mem_cons, exists_eq_or_imp, h, false_and, false_or]
theorem names_up (l : List Tm) : Up (names l) := up_namesF _ _ (by unfold Up; simp)
theorem mem_names (l : List Tm) (x : ByteArray) : x ∈ names l ↔ ∃ t ∈ alls l, opT t = 1 ∧ nameT t = x := by
  unfold names; rw [mem_namesF]; simp
/-- whatever is rising and has just these names is their list -/
theorem names_only {l : List Tm} {m : List (ByteArray)} (hm : Up m) (h : ∀ x, x ∈ m ↔ ∃ t ∈ alls l, opT t = 1 ∧ nameT t = x) : m = names l :=
  up_same hm (names_up l) (fun x => by rw [h, mem_names])
end Go.Proofs.Ytelepojpnkoelaa.T
