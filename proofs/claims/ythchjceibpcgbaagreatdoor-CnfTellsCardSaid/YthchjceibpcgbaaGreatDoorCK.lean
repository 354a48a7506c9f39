/-
  What is proved: mathematics of the loop that reads a set of clauses line by line.
  What is proved: mathematics of a text that is cut piece by piece: its numbers, its first line, its clauses, its lines.
-/
import Derived.Test.YthchjceibpcgbaaGreatDoorZCnG
namespace Go.Proofs.YthchjceibpcgbaaGreatDoor.Cn
open Go.RowKit L Lt
set_option linter.unusedVariables false
set_option linter.unusedSimpArgs false

theorem lns_line {u t : List UInt8} (h : ∀ c ∈ u, c ≠ 10) : lns (u ++ 10 :: t) = (u :: (lns t).1, (lns t).2) := by
  have e := spl_free h t
  have hne := spl_ne 10 t
  have h1 : (u :: spl 10 t).dropLast = u :: (spl 10 t).dropLast := by cases hs : spl 10 t with | nil => exact absurd hs hne | cons a b => rfl
  have h2 : ∀ hn, (u :: spl 10 t).getLast hn = (spl 10 t).getLast hne := fun hn => List.getLast_cons hne
  unfold lns
  refine Prod.ext ?_ ?_
  · show (spl 10 (u ++ 10 :: t)).dropLast = _
    rw [e]; exact h1
  · show (spl 10 (u ++ 10 :: t)).getLast _ = _
    simp only [e]; exact h2 _
theorem lns_end {u : List UInt8} (h : ∀ c ∈ u, c ≠ 10) : lns u = ([], u) := by
  have e := spl_one h
  unfold lns
  refine Prod.ext ?_ ?_
  · show (spl 10 u).dropLast = _
    rw [e]; rfl
  · show (spl 10 u).getLast _ = _
    simp only [e]; rfl
def st0 : St := ⟨false, 0, 0, []⟩
/-- where the loop stands -/
def RAt (l : List UInt8) (st : St) (line q k : Nat) : Prop :=
  (k ≤ l.length ∧ q ≤ k ∧ line ≤ k ∧ rdL st0 0 (lns l).1 = rdL st line (lns (l.drop q)).1 ∧ (lns l).2 = (lns (l.drop q)).2 ∧ ∀ c ∈ (l.drop q).take (k - q), c ≠ 10) ∧ Inv st ∧ (st.seen = false → st.L = [] ∧ st.n = 0)
theorem RAt.zero (l : List UInt8) : RAt l st0 0 0 0 :=
  ⟨⟨by omega, Nat.le_refl _, Nat.le_refl _, by rw [List.drop_zero], by rw [List.drop_zero], by simp⟩, ⟨⟨by decide, by decide⟩, ⟨by decide, by decide⟩, by decide, fun c hc => by cases hc⟩, fun _ => ⟨rfl, rfl⟩⟩
theorem stL_n {s s' : St} {t : List UInt8} (h0 : s.seen = false → s.L = [] ∧ s.n = 0) (h : stL s t = .ok s') : s'.seen = false → s'.L = [] ∧ s'.n = 0 := by
  unfold stL at h
  split at h
  · injection h with h; subst h; exact h0
  · split at h
    · next hs =>
      split at h
      · cases h
      · injection h with h; subst h; exact fun e => by cases e
    · next hs =>
      split at h
      · cases h
      · split at h
        · cases h
        · injection h with h; subst h; exact fun e => absurd e hs
theorem RAt.feed {s : ByteArray} {st st' : St} {line q k : Nat} (h : RAt s.data.toList st line q k) (hk : k < s.size) (hb : s[k] = 10) (hs : stL st (s.extract q k).data.toList = .ok st') : RAt s.data.toList st' (line + 1) (k + 1) (k + 1) := by
  have hlen := Dig.len_list s
  obtain ⟨⟨h1, h2, h3, h4, h5, h6⟩, h7, h8⟩ := h
  have ha : s.data.toList[k]? = some 10 := by rw [← hb, ← Dig.at_list s k hk]; exact List.getElem?_eq_getElem _
  rw [sub_list s q k (by omega)] at hs
  have e := drop_at h2 ha
  rw [e, lns_line h6] at h4 h5
  refine ⟨⟨by omega, Nat.le_refl _, by omega, ?_, h5, by simp⟩, (stL_r h7 (fun e => (h8 e).1) hs).1, stL_n h8 hs⟩
  rw [h4, rdL, hs]
theorem RAt.fail {s : ByteArray} {st : St} {line q k : Nat} {e : Int} (h : RAt s.data.toList st line q k) (hk : k < s.size) (hb : s[k] = 10) (hs : stL st (s.extract q k).data.toList = .error e) : rdC s.data.toList = ⟨0, [], line, e⟩ := by
  have hlen := Dig.len_list s
  obtain ⟨⟨h1, h2, h3, h4, h5, h6⟩, h7, h8⟩ := h
  have ha : s.data.toList[k]? = some 10 := by rw [← hb, ← Dig.at_list s k hk]; exact List.getElem?_eq_getElem _
  rw [sub_list s q k (by omega)] at hs
  have e := drop_at h2 ha
  rw [e, lns_line h6] at h4
  unfold rdC
  have h4' : rdL ⟨false, 0, 0, []⟩ 0 (lns s.data.toList).1 = _ := h4
  rw [h4', rdL, hs]
theorem RAt.more {s : ByteArray} {st : St} {line q k : Nat} (h : RAt s.data.toList st line q k) (hk : k < s.size) (hb : s[k] ≠ 10) : RAt s.data.toList st line q (k + 1) := by
  have hlen := Dig.len_list s
  obtain ⟨⟨h1, h2, h3, h4, h5, h6⟩, h7, h8⟩ := h
  have ha : s.data.toList[k]? = some s[k] := by rw [← Dig.at_list s k hk]; exact List.getElem?_eq_getElem _
  refine ⟨⟨by omega, by omega, by omega, h4, h5, fun c hc => ?_⟩, h7, h8⟩
  rw [take_more h2 ha] at hc
  rcases List.mem_append.1 hc with hc | hc
  · exact h6 c hc
  · obtain rfl : c = s[k] := by simpa using hc
    exact hb
theorem RAt.done {s : ByteArray} {st : St} {line q : Nat} (h : RAt s.data.toList st line q s.size) :
    rdC s.data.toList = if q < s.size then ⟨0, [], line, 7⟩ else if st.seen = false ∨ (st.L.length : Int) < st.many then ⟨0, [], line, 8⟩ else ⟨st.n, st.L, 0, 0⟩ := by
  have hlen := Dig.len_list s
  obtain ⟨⟨h1, h2, h3, h4, h5, h6⟩, h7, h8⟩ := h
  have e : (s.data.toList.drop q).take (s.size - q) = s.data.toList.drop q := List.take_of_length_le (by rw [List.length_drop]; omega)
  rw [e] at h6
  rw [lns_end h6] at h4 h5
  have h4' : rdL ⟨false, 0, 0, []⟩ 0 (lns s.data.toList).1 = .ok (st, line) := h4
  unfold rdC
  rw [h4']
  simp only
  rw [h5]
  have e2 : (s.data.toList.drop q ≠ []) ↔ q < s.size := by
    rw [ne_eq, List.drop_eq_nil_iff]; omega
  simp only [e2]
theorem RAt.le {s : ByteArray} {st : St} {line q k : Nat} (h : RAt s.data.toList st line q k) : q ≤ k ∧ line ≤ k ∧ k ≤ s.size := by
  have hlen := Dig.len_list s
  obtain ⟨⟨h1, h2, h3, _⟩, _⟩ := h
  exact ⟨h2, h3, by omega⟩
end Go.Proofs.YthchjceibpcgbaaGreatDoor.Cn
namespace Go.Proofs.YthchjceibpcgbaaGreatDoor.Cn
open Go.RowKit L Lt
set_option linter.unusedVariables false
set_option linter.unusedSimpArgs false

theorem cutAt (b : UInt8) : ∀ (s : List UInt8), (∀ c ∈ s, c ≠ b) ∨ ∃ x y, s = x ++ b :: y ∧ ∀ c ∈ x, c ≠ b
  | [] => .inl (by simp)
  | c :: s => by
    by_cases h : c = b
    · exact .inr ⟨[], s, by simp [h], by simp⟩
    · rcases cutAt b s with h2 | ⟨x, y, rfl, h2⟩
      · refine .inl fun d hd => ?_
        rcases List.mem_cons.1 hd with rfl | hd
        · exact h
        · exact h2 d hd
      · refine .inr ⟨c :: x, y, rfl, fun d hd => ?_⟩
        rcases List.mem_cons.1 hd with rfl | hd
        · exact h
        · exact h2 d hd
theorem index_hit {b : UInt8} : ∀ {x : List UInt8} (y : List UInt8), (∀ c ∈ x, c ≠ b) → Lib.indexByte (x ++ b :: y) b = x.length
  | [], y, _ => by simp [Lib.indexByte]
  | c :: x, y, h => by
    have ih := index_hit (x := x) y (fun d hd => h d (by simp [hd]))
    have hc : (c == b) = false := by simpa using h c (by simp)
    rw [List.cons_append, Lib.indexByte, hc, ih]
    simp
theorem index_miss {b : UInt8} : ∀ {s : List UInt8}, (∀ c ∈ s, c ≠ b) → Lib.indexByte s b = -1
  | [], _ => rfl
  | c :: s, h => by
    have ih := index_miss (s := s) (fun d hd => h d (by simp [hd]))
    have hc : (c == b) = false := by simpa using h c (by simp)
    rw [Lib.indexByte, hc, ih]; rfl

/-! numbers -/
def numL (s : List UInt8) : List Int := (nums (spl 32 s)).getD []
theorem nums_cons (w : List UInt8) (l : List (List UInt8)) : nums (w :: l) = if Dig.rdE w = 0 then (nums l).map (Dig.rdV w :: ·) else none := by
  unfold nums
  rw [List.all_cons]
  by_cases h : Dig.rdE w = 0
  · rw [if_pos h]
    have : (Dig.rdE w == 0) = true := by simp [h]
    rw [this, Bool.true_and]
    split <;> rfl
  · have : (Dig.rdE w == 0) = false := by simp [h]
    rw [if_neg h, this]; rfl
theorem nums_len {l : List (List UInt8)} {m : List Int} (h : nums l = some m) : m.length = l.length := by
  unfold nums at h
  split at h
  · injection h with h; rw [← h]; simp
  · cases h
/-- what has been read, and what the rest says -/
def NS (X : List Int) (s : List UInt8) : Option (List Int) := (nums (spl 32 s)).map (X ++ ·)
theorem NS_zero (s : List UInt8) : NS [] s = nums (spl 32 s) := by unfold NS; cases nums (spl 32 s) <;> rfl
theorem NS_hit {X : List Int} {x y : List UInt8} (h : ∀ c ∈ x, c ≠ 32) (h0 : Dig.rdE x = 0) : NS X (x ++ 32 :: y) = NS (X ++ [Dig.rdV x]) y := by
  unfold NS; rw [spl_free h, nums_cons, if_pos h0]
  cases nums (spl 32 y) with
  | none => rfl
  | some m => simp
theorem NS_hit_bad {X : List Int} {x y : List UInt8} (h : ∀ c ∈ x, c ≠ 32) (h0 : Dig.rdE x ≠ 0) : NS X (x ++ 32 :: y) = none := by
  unfold NS; rw [spl_free h, nums_cons, if_neg h0]; rfl
theorem NS_end {X : List Int} {x : List UInt8} (h : ∀ c ∈ x, c ≠ 32) (h0 : Dig.rdE x = 0) : NS X x = some (X ++ [Dig.rdV x]) := by
  unfold NS; rw [spl_one h, nums_cons, if_pos h0]; rfl
theorem NS_end_bad {X : List Int} {x : List UInt8} (h : ∀ c ∈ x, c ≠ 32) (h0 : Dig.rdE x ≠ 0) : NS X x = none := by
  unfold NS; rw [spl_one h, nums_cons, if_neg h0]; rfl
theorem numL_none {s : List UInt8} (h : nums (spl 32 s) = none) : numL s = [] := by unfold numL; rw [h]; rfl
theorem numL_some {s : List UInt8} {m : List Int} (h : nums (spl 32 s) = some m) : numL s = m := by unfold numL; rw [h]; rfl
theorem numL_r (s : List UInt8) : R64s (numL s) := by
  unfold numL
  cases h : nums (spl 32 s) with
  | none => intro x hx; cases hx
  | some m => exact nums_r h
theorem spl_len (b : UInt8) : ∀ s, (spl b s).length ≤ s.length + 1
  | [] => by simp [spl]
  | c :: r => by
    have ih := spl_len b r
    rw [spl]
    split
    · simp; omega
    · split
      · simp
      · next h => rw [h] at ih; simpa using Nat.le_succ_of_le ih
theorem numL_len (s : List UInt8) : (numL s).length ≤ s.length + 1 := by
  unfold numL
  cases h : nums (spl 32 s) with
  | none => simp
  | some m => rw [Option.getD_some, nums_len h]; exact spl_len _ _

/-! the first line -/
theorem spl_inv {b : UInt8} : ∀ {s x : List UInt8} {xs : List (List UInt8)}, spl b s = x :: xs → xs ≠ [] → ∃ t, s = x ++ b :: t ∧ spl b t = xs
  | [], x, xs, h, hne => by simp [spl] at h; exact absurd h.2.symm (fun e => hne e.symm)
  | c :: r, x, xs, h, hne => by
    rw [spl] at h
    split at h
    · next hc =>
      injection h with h1 h2
      subst h1
      exact ⟨r, by simp [hc], h2⟩
    · next hc =>
      split at h
      · injection h with h1 h2; exact absurd h2.symm hne
      · next w ws hs =>
        injection h with h1 h2
        subst h1 h2
        obtain ⟨t, rfl, ht⟩ := spl_inv hs hne
        exact ⟨t, rfl, ht⟩
def hdP : List UInt8 := [112, 32, 99, 110, 102, 32]
/-- the numbers of the first line -/
def fsR : List Int → Except Int (Int × Int)
  | [n, m] => if m < 0 then .error 7 else if n < 0 ∨ 1024 < n then .error 1 else if 4096 < m then .error 2 else .ok (n, m)
  | _ => .error 7
theorem hdR_pre (a : List UInt8) : hdR (hdP ++ a) = fsR (numL a) := by
  have e : spl 32 (hdP ++ a) = [112] :: [99, 110, 102] :: spl 32 a := by
    have : hdP ++ a = [112] ++ 32 :: ([99, 110, 102] ++ 32 :: a) := rfl
    rw [this, spl_free (by decide), spl_free (by decide)]
  unfold hdR
  rw [e]
  simp only [List.length_cons, List.drop_succ_cons, List.drop_zero, List.getElem?_cons_zero, List.getElem?_cons_succ, true_and, and_true]
  by_cases h : (spl 32 a).length = 2
  · rw [if_pos (by omega)]
    cases hn : nums (spl 32 a) with
    | none => rw [numL_none hn]; rfl
    | some m =>
      rw [numL_some hn]
      have := nums_len hn
      match m, this with
      | [n, k], _ => rfl
      | [], h3 => simp at h3; omega
      | [_], h3 => simp at h3; omega
      | _ :: _ :: _ :: _, h3 => simp at h3; omega
  · rw [if_neg (by omega)]
    cases hn : nums (spl 32 a) with
    | none => rw [numL_none hn]; rfl
    | some m =>
      rw [numL_some hn]
      have := nums_len hn
      match m, this with
      | [n, k], h3 => simp at h3; omega
      | [], _ => rfl
      | [_], _ => rfl
      | _ :: _ :: _ :: _, _ => rfl
theorem hdR_not {t : List UInt8} (h : ¬ hdP.isPrefixOf t = true) : hdR t = .error 7 := by
  unfold hdR
  simp only
  split
  · next hc =>
    exfalso
    obtain ⟨h1, h2, h3⟩ := hc
    match hs : spl 32 t, h1, h2, h3 with
    | [x, y, z, u], _, h2, h3 =>
      simp at h2 h3
      subst h2 h3
      obtain ⟨t1, rfl, e1⟩ := spl_inv hs (by simp)
      obtain ⟨t2, rfl, e2⟩ := spl_inv e1 (by simp)
      exact h (List.isPrefixOf_iff_prefix.2 ⟨t2, rfl⟩)
  · rfl

/-! a clause's line -/
theorem clR_numL (t : List UInt8) (n : Int) : clR' t n = if numL t = [] then .error 7 else if (numL t).getLast? = some 0 ∧ (numL t).dropLast.any (· == 0) = false then (if rg1 (numL t).dropLast n = 0 then .ok (numL t).dropLast else .error (rg1 (numL t).dropLast n)) else .error 7 := by
  unfold clR'
  cases hn : nums (spl 32 t) with
  | none => rw [numL_none hn]; rfl
  | some m =>
    rw [numL_some hn]
    have hne : m ≠ [] := fun e => by
      have h1 := nums_len hn
      rw [e] at h1
      exact spl_ne 32 t (List.eq_nil_of_length_eq_zero h1.symm)
    rw [if_neg hne]
    show (if m.getLast? = some 0 then _ else _) = _
    by_cases h1 : m.getLast? = some 0
    · rw [if_pos h1]
      cases h2 : m.dropLast.any (· == 0)
      · simp [h1]
      · simp
    · rw [if_neg h1, if_neg (fun h => h1 h.1)]

/-! line by line -/
/-- where the loop stands: what has been read, the line's number, the rest -/
def RSt (l : List UInt8) (st : St) (line : Nat) (s : List UInt8) : Prop :=
  (s.length + line ≤ l.length ∧ rdL st0 0 (lns l).1 = rdL st line (lns s).1 ∧ (lns l).2 = (lns s).2) ∧ Inv st ∧ (st.seen = false → st.L = [] ∧ st.n = 0)
theorem RSt.zero (l : List UInt8) : RSt l st0 0 l :=
  ⟨⟨by omega, rfl, rfl⟩, ⟨⟨by decide, by decide⟩, ⟨by decide, by decide⟩, by decide, fun c hc => by cases hc⟩, fun _ => ⟨rfl, rfl⟩⟩
theorem RSt.feed {l x y : List UInt8} {st st' : St} {line : Nat} (h : RSt l st line (x ++ 10 :: y)) (hx : ∀ c ∈ x, c ≠ 10) (hs : stL st x = .ok st') : RSt l st' (line + 1) y := by
  obtain ⟨⟨h1, h2, h3⟩, h7, h8⟩ := h
  rw [lns_line hx] at h2 h3
  refine ⟨⟨by simp at h1; omega, ?_, h3⟩, (stL_r h7 (fun e => (h8 e).1) hs).1, stL_n h8 hs⟩
  rw [h2, rdL, hs]
theorem RSt.fail {l x y : List UInt8} {st : St} {line : Nat} {e : Int} (h : RSt l st line (x ++ 10 :: y)) (hx : ∀ c ∈ x, c ≠ 10) (hs : stL st x = .error e) : rdC l = ⟨0, [], line, e⟩ := by
  obtain ⟨⟨h1, h2, h3⟩, h7, h8⟩ := h
  rw [lns_line hx] at h2
  unfold rdC
  have h2' : rdL ⟨false, 0, 0, []⟩ 0 (lns l).1 = _ := h2
  rw [h2', rdL, hs]
theorem RSt.rest {l x : List UInt8} {st : St} {line : Nat} (h : RSt l st line x) (hx : ∀ c ∈ x, c ≠ 10) (h0 : x ≠ []) : rdC l = ⟨0, [], line, 7⟩ := by
  obtain ⟨⟨h1, h2, h3⟩, h7, h8⟩ := h
  rw [lns_end hx] at h2 h3
  unfold rdC
  have h2' : rdL ⟨false, 0, 0, []⟩ 0 (lns l).1 = _ := h2
  rw [h2', rdL]
  simp only
  rw [h3, if_pos h0]
theorem RSt.done {l : List UInt8} {st : St} {line : Nat} (h : RSt l st line []) : rdC l = if st.seen = false ∨ (st.L.length : Int) < st.many then ⟨0, [], line, 8⟩ else ⟨st.n, st.L, 0, 0⟩ := by
  obtain ⟨⟨h1, h2, h3⟩, h7, h8⟩ := h
  rw [lns_end (u := []) (by simp)] at h2 h3
  unfold rdC
  have h2' : rdL ⟨false, 0, 0, []⟩ 0 (lns l).1 = _ := h2
  rw [h2', rdL]
  simp only
  rw [h3, if_neg (by simp)]
end Go.Proofs.YthchjceibpcgbaaGreatDoor.Cn
