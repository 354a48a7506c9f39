/-
  What is proved: the mathematics of promise 13.4: further variables change nothing of what is well sorted; a way leads to a part.
-/
import Derived.Test.YtacncbkcnhlpcaaZWlD
namespace Go.Proofs.Ytacncbkcnhlpcaa.Wl
open Go.RowKit L T C
open Sgn (Core hasN findC)
set_option linter.unusedVariables false
set_option linter.unusedSimpArgs false

theorem sortV_more {s x : ByteArray} {M : List Vr} : ∀ {V : List Vr}, sortV V s = some x → sortV (V ++ M) s = some x
  | [], h => by simp [sortV] at h
  | v :: l, h => by
    rw [sortV] at h
    rw [List.cons_append, sortV]
    split at h
    · rename_i hc; rw [if_pos hc]; exact h
    · rename_i hc; rw [if_neg hc]; exact sortV_more h
theorem opW_more {K : List Core} {V M : List Vr} {B : List ByteArray} {o : Int} {s : ByteArray} {z : Int} {got : List ByteArray} (h : (opW K V B o s z got).e = 0) : opW K (V ++ M) B o s z got = opW K V B o s z got := by
  unfold opW at h ⊢
  by_cases h1 : o = 1
  · rw [if_pos h1] at h ⊢
    rw [if_pos h1]
    cases hs : sortV V s with
    | none => rw [hs] at h; cases h
    | some x => rw [sortV_more hs]
  · rw [if_neg h1, if_neg h1]
mutual
theorem wlT_more {K : List Core} {V M : List Vr} {B : List ByteArray} : ∀ {t : Tm}, (wlT K V B t).e = 0 → wlT K (V ++ M) B t = wlT K V B t
  | .mk o s z l, h => by
    rw [wlT] at h ⊢
    rw [wlT]
    by_cases h1 : (wlTs K V B 0 l).1 ≠ 0
    · rw [if_pos h1] at h; exact absurd h h1
    · rw [if_neg h1] at h
      have ih := wlTs_more (M := M) (Classical.not_not.1 h1)
      rw [ih, if_neg h1, if_neg h1, opW_more h]
theorem wlTs_more {K : List Core} {V M : List Vr} {B : List ByteArray} : ∀ {l : List Tm} {k : Nat}, (wlTs K V B k l).1 = 0 → wlTs K (V ++ M) B k l = wlTs K V B k l
  | [], k, h => by rw [wlTs, wlTs]
  | t :: l, k, h => by
    rw [wlTs] at h ⊢
    rw [wlTs]
    by_cases h1 : (wlT K V B t).e ≠ 0
    · rw [if_pos h1] at h; exact absurd h h1
    · rw [if_neg h1] at h
      by_cases h2 : (wlTs K V B (k + 1) l).1 ≠ 0
      · rw [if_pos h2] at h; exact absurd h h2
      · rw [wlT_more (M := M) (Classical.not_not.1 h1), wlTs_more (M := M) (Classical.not_not.1 h2)]
end
mutual
theorem wlC_more {S : List ByteArray} {K : List Core} {V M : List Vr} : ∀ {c : Cl} {B : List ByteArray}, (wlC S K V B c).e = 0 → wlC S K (V ++ M) B c = wlC S K V B c
  | .mk o s z ts l, B, h => by
    rw [wlC] at h ⊢
    rw [wlC]
    by_cases h1 : (wlTs K V B 0 ts).1 ≠ 0
    · rw [if_pos h1] at h; exact absurd h h1
    · rw [if_neg h1] at h
      rw [wlTs_more (M := M) (Classical.not_not.1 h1), if_neg h1, if_neg h1]
      by_cases h2 : ((o == 11 || o == 12) && !rangeB S z) = true
      · rw [if_pos h2] at h; cases h
      · rw [if_neg h2] at h
        rw [if_neg h2, if_neg h2]
        by_cases h3 : (wlCs S K V (if (o == 11 || o == 12) = true then B ++ [z] else B) ts.length l).1 ≠ 0
        · rw [if_pos h3] at h; exact absurd h h3
        · rw [wlCs_more (M := M) (Classical.not_not.1 h3)]
theorem wlCs_more {S : List ByteArray} {K : List Core} {V M : List Vr} : ∀ {l : List Cl} {B : List ByteArray} {k : Nat}, (wlCs S K V B k l).1 = 0 → wlCs S K (V ++ M) B k l = wlCs S K V B k l
  | [], B, k, h => by rw [wlCs, wlCs]
  | c :: l, B, k, h => by
    rw [wlCs] at h ⊢
    rw [wlCs]
    by_cases h1 : (wlC S K V B c).e ≠ 0
    · rw [if_pos h1] at h; exact absurd h h1
    · rw [if_neg h1] at h
      rw [wlC_more (M := M) (Classical.not_not.1 h1), if_neg h1, if_neg h1, wlCs_more (M := M) h]
end
/-! ways -/
def leadsT : List Int → Tm → Bool
  | [], _ => true
  | n :: r, t => if n < 0 then false else match (argsT t)[n.toNat]? with | some x => leadsT r x | none => false
def leadsC : List Int → Cl → Bool
  | [], _ => true
  | n :: r, c => if n < 0 then false else if n.toNat < (tsC c).length then (match (tsC c)[n.toNat]? with | some t => leadsT r t | none => false)
    else match (subC c)[n.toNat - (tsC c).length]? with | some x => leadsC r x | none => false
theorem leadsT_at {t x : Tm} {i : Nat} {r : List Int} (h : (argsT t)[i]? = some x) (hr : leadsT r x = true) : leadsT ((i : Int) :: r) t = true := by
  rw [leadsT, if_neg (by omega), Int.toNat_natCast, h]; exact hr
theorem leadsC_t {c : Cl} {x : Tm} {i : Nat} {r : List Int} (h : (tsC c)[i]? = some x) (hr : leadsT r x = true) : leadsC ((i : Int) :: r) c = true := by
  have hi := (List.getElem?_eq_some_iff.1 h).1
  rw [leadsC, if_neg (by omega), Int.toNat_natCast, if_pos hi, h]; exact hr
theorem leadsC_c {c x : Cl} {i : Nat} {r : List Int} (h : (subC c)[i]? = some x) (hr : leadsC r x = true) : leadsC ((((tsC c).length + i : Nat) : Int) :: r) c = true := by
  rw [leadsC, if_neg (by omega), Int.toNat_natCast, if_neg (by omega), Nat.add_sub_cancel_left, h]; exact hr
theorem diff_lt : ∀ {got want : List ByteArray} {i : Nat}, diff got want = some i → i < got.length
  | [], _, i, h => by simp [diff] at h
  | g :: l, [], i, h => by simp [diff] at h
  | g :: l, d :: m, i, h => by
    rw [diff] at h
    split at h
    · cases hd : diff l m with
      | none => rw [hd] at h; cases h
      | some j => rw [hd] at h; have := diff_lt hd; simp at h; simp; omega
    · simp at h; simp; omega
theorem askW_way {got want : List ByteArray} {z : ByteArray} : (askW got want z).way = [] ∨ ∃ i : Nat, i < got.length ∧ (askW got want z).way = [(i : Int)] := by
  unfold askW
  cases h : diff got want with
  | none => exact .inl rfl
  | some i => exact .inr ⟨i, diff_lt h, rfl⟩
theorem wlTs_err {K : List Core} {V : List Vr} {B : List ByteArray} : ∀ {l : List Tm} {k : Nat}, (wlTs K V B k l).1 ≠ 0 → ∃ (i : Nat) (t : Tm), l[i]? = some t ∧ (wlT K V B t).e ≠ 0 ∧ (wlTs K V B k l).2.1 = ((k + i : Nat) : Int) :: (wlT K V B t).way
  | [], k, h => by rw [wlTs] at h; exact absurd rfl h
  | t :: l, k, h => by
    rw [wlTs] at h ⊢
    by_cases h1 : (wlT K V B t).e ≠ 0
    · rw [if_pos h1]; exact ⟨0, t, rfl, h1, rfl⟩
    · rw [if_neg h1] at h ⊢
      by_cases h2 : (wlTs K V B (k + 1) l).1 ≠ 0
      · obtain ⟨i, x, e1, e2, e3⟩ := wlTs_err h2
        rw [if_pos h2]
        exact ⟨i + 1, x, by simpa using e1, e2, by rw [e3, show k + 1 + i = k + (i + 1) by omega]⟩
      · rw [if_neg h2] at h; exact absurd rfl h
theorem wlTs_len2 {K : List Core} {V : List Vr} {B : List ByteArray} : ∀ {l : List Tm} (k : Nat), (wlTs K V B k l).1 = 0 → (wlTs K V B k l).2.2.length = l.length
  | [], k, _ => by rw [wlTs]; rfl
  | t :: l, k, h => by
    rw [wlTs] at h ⊢
    by_cases h1 : (wlT K V B t).e ≠ 0
    · rw [if_pos h1] at h; exact absurd h h1
    · rw [if_neg h1] at h ⊢
      by_cases h2 : (wlTs K V B (k + 1) l).1 ≠ 0
      · rw [if_pos h2] at h; exact absurd h h2
      · rw [if_neg h2]
        have := wlTs_len2 (l := l) (k + 1) (Classical.not_not.1 h2)
        simp [this]
theorem wlT_way {K : List Core} {V : List Vr} {B : List ByteArray} (t : Tm) : (wlT K V B t).e ≠ 0 → leadsT (wlT K V B t).way t = true := by
  refine Tm.ind (P := fun t => (wlT K V B t).e ≠ 0 → leadsT (wlT K V B t).way t = true) (fun t ih h => ?_) t
  rw [wlT_mk] at h ⊢
  by_cases h1 : (wlTs K V B 0 (argsT t)).1 ≠ 0
  · obtain ⟨i, x, e1, e2, e3⟩ := wlTs_err h1
    rw [if_pos h1]
    show leadsT (wlTs K V B 0 (argsT t)).2.1 t = true
    rw [e3, Nat.zero_add]
    exact leadsT_at e1 (ih x (List.mem_of_getElem? e1) e2)
  · rw [if_neg h1]
    have hl := wlTs_len2 (l := argsT t) 0 (Classical.not_not.1 h1)
    generalize (wlTs K V B 0 (argsT t)).2.2 = got at *
    have hw : (opW K V B (opT t) (nameT t) (numT t) got).way = [] ∨ ∃ i : Nat, i < got.length ∧ (opW K V B (opT t) (nameT t) (numT t) got).way = [(i : Int)] := by
      unfold opW
      split
      · split <;> exact .inl rfl
      · split
        · split <;> exact .inl rfl
        · split
          · split
            · exact .inl rfl
            · split
              · exact .inl rfl
              · exact askW_way
          · exact askW_way
    rcases hw with hw | ⟨i, hi, hw⟩
    · rw [hw]; rfl
    · rw [hw]
      obtain ⟨x, hx⟩ : ∃ x, (argsT t)[i]? = some x := ⟨_, List.getElem?_eq_getElem (by omega)⟩
      exact leadsT_at hx rfl
theorem wlCs_err {S : List ByteArray} {K : List Core} {V : List Vr} {B : List ByteArray} : ∀ {l : List Cl} {k : Nat}, (wlCs S K V B k l).1 ≠ 0 → ∃ (i : Nat) (t : Cl), l[i]? = some t ∧ (wlC S K V B t).e ≠ 0 ∧ (wlCs S K V B k l).2 = ((k + i : Nat) : Int) :: (wlC S K V B t).way
  | [], k, h => by rw [wlCs] at h; exact absurd rfl h
  | t :: l, k, h => by
    rw [wlCs] at h ⊢
    by_cases h1 : (wlC S K V B t).e ≠ 0
    · rw [if_pos h1]; exact ⟨0, t, rfl, h1, rfl⟩
    · rw [if_neg h1] at h ⊢
      obtain ⟨i, x, e1, e2, e3⟩ := wlCs_err h
      exact ⟨i + 1, x, by simpa using e1, e2, by rw [e3, show k + 1 + i = k + (i + 1) by omega]⟩
theorem wlC_way {S : List ByteArray} {K : List Core} {V : List Vr} (c : Cl) : ∀ B : List ByteArray, (wlC S K V B c).e ≠ 0 → leadsC (wlC S K V B c).way c = true := by
  refine Cl.ind (P := fun c => ∀ B : List ByteArray, (wlC S K V B c).e ≠ 0 → leadsC (wlC S K V B c).way c = true) (fun c ih B h => ?_) c
  rw [wlC_mk] at h ⊢
  by_cases h1 : (wlTs K V B 0 (tsC c)).1 ≠ 0
  · obtain ⟨i, x, e1, e2, e3⟩ := wlTs_err h1
    rw [if_pos h1]
    show leadsC (wlTs K V B 0 (tsC c)).2.1 c = true
    rw [e3, Nat.zero_add]
    exact leadsC_t e1 (wlT_way x e2)
  · rw [if_neg h1] at h ⊢
    have hl := wlTs_len2 (l := tsC c) 0 (Classical.not_not.1 h1)
    split
    · rfl
    · rename_i h2
      rw [if_neg h2] at h
      by_cases h3 : (wlCs S K V (if (opC c == 11 || opC c == 12) = true then B ++ [soC c] else B) (tsC c).length (subC c)).1 ≠ 0
      · obtain ⟨i, x, e1, e2, e3⟩ := wlCs_err h3
        rw [if_pos h3]
        show leadsC (wlCs S K V (if (opC c == 11 || opC c == 12) = true then B ++ [soC c] else B) (tsC c).length (subC c)).2 c = true
        rw [e3]
        exact leadsC_c e1 (ih x (List.mem_of_getElem? e1) _ e2)
      · rw [if_neg h3]
        generalize (wlTs K V B 0 (tsC c)).2.2 = got at *
        have hw : (wantC K (opC c) (nmC c) got).way = [] ∨ ∃ i : Nat, i < got.length ∧ (wantC K (opC c) (nmC c) got).way = [(i : Int)] := by
          rw [wantC_eq]
          split
          · exact .inl rfl
          · exact askW_way
        rcases hw with hw | ⟨i, hi, hw⟩
        · rw [hw]; rfl
        · rw [hw]
          obtain ⟨x, hx⟩ : ∃ x, (tsC c)[i]? = some x := ⟨_, List.getElem?_eq_getElem (by omega)⟩
          exact leadsC_t hx rfl
end Go.Proofs.Ytacncbkcnhlpcaa.Wl
