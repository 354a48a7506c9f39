/-
  What is proved: basics of texts of digits, without any function of the program.
-/
import Derived.Test.YthchjceibpcgbaaDoorProg
import Derived.Test.YthchjceibpcgbaaDoorDigM
import Derived.WalkKit
import Derived.WalkSpells
import Derived.WalkLawsBesides
import Derived.Laws.ResultCell
import Derived.Deep.QuietTactic
import Derived.LoopTactic
import Derived.Outline
import Derived.Lib.Hide
import Derived.WalkMore
import Derived.Deep.LoopGhost
import Derived.Lib.AppendIntMem
import Derived.Lib.SmallJoins
import Derived.Lib.IndexBytes
namespace Go.Proofs.YthchjceibpcgbaaDoor.Dig
open Go.RowKit
set_option linter.unusedVariables false
set_option linter.unusedSimpArgs false

theorem bne_yes {p q : Prop} [Decidable p] [Decidable q] (h : (!decide p == decide q) = true) : ¬(p ↔ q) := by
  by_cases p <;> by_cases q <;> simp_all
theorem bne_no {p q : Prop} [Decidable p] [Decidable q] (h : (!decide p == decide q) = false) : (p ↔ q) := by
  by_cases p <;> by_cases q <;> simp_all
theorem beq_yes {p q : Prop} [Decidable p] [Decidable q] (h : (decide p == decide q) = true) : (p ↔ q) := by
  by_cases p <;> by_cases q <;> simp_all
theorem beq_no {p q : Prop} [Decidable p] [Decidable q] (h : (decide p == decide q) = false) : ¬(p ↔ q) := by
  by_cases p <;> by_cases q <;> simp_all
theorem pair {k : IntKind} {a b : Int} {p q : Bool} (h : b = a ∧ q = p) : Ending.returned (.tuple #[.int k a, .bool p]) = .returned (.tuple #[.int k b, .bool q]) := by
  obtain ⟨rfl, rfl⟩ := h; rfl
theorem one {k : IntKind} {a b : Int} (h : a = b) : Ending.returned (.int k a) = .returned (.int k b) := by rw [h]
theorem bel_trans {a b c : World} (h : Below a.heap.size a b) (k : Below b.heap.size b c) : Below a.heap.size a c := h.trans (k.mono h.size)
theorem bel_alloc {a b : World} (h : Below a.heap.size a b) (o : Obj) : Below a.heap.size a (b.alloc o) := h.alloc h.size o
theorem bcell {W w1 : World} (hb : Below W.heap.size W w1) : (∀ b o, b < W.heap.size → w1.cell? ⟨b, o, none⟩ = W.cell? ⟨b, o, none⟩) ∧ (∀ b o, b < W.heap.size → w1.frozen? ⟨b, o, none⟩ = W.frozen? ⟨b, o, none⟩) :=
  ⟨fun b o h => hb.cell (p := ⟨b, o, none⟩) h, fun b o h => hb.frozen (p := ⟨b, o, none⟩) h⟩
theorem at_list (s : ByteArray) (k : Nat) (h : k < s.size) : s.data.toList[k]'(by simpa using h) = s[k] := rfl
theorem len_list (s : ByteArray) : s.data.toList.length = s.size := Array.length_toList
theorem take_snoc (s : ByteArray) (k : Nat) (h : k < s.size) : s.data.toList.take (k + 1) = s.data.toList.take k ++ [s[k]] := by
  rw [List.take_succ_eq_append_getElem (by simpa using h)]; rfl
theorem beq_no' {a b : Int} (h : a ≠ b) : (a == b) = false := by simp [h]
theorem beq_yes' {a b : Int} (h : a = b) : (a == b) = true := by simp [h]
theorem plain_of {l : List UInt8} (h0 : l ≠ []) (h1 : l.all isD = true) (h2 : l.head? ≠ some 48 ∨ l.length = 1) : plainB l = true := by
  unfold plainB
  rw [h1]
  cases l with
  | nil => exact absurd rfl h0
  | cons c l =>
    rcases h2 with h2 | h2
    · simp at h2; simp [h2]
    · simp at h2; simp [h2]
theorem plain_no1 {l : List UInt8} (h1 : l.all isD = false) : plainB l = false := by
  unfold plainB; rw [h1]; simp
theorem plain_no2 {l : List UInt8} (h1 : l.head? = some 48) (h2 : l.length ≠ 1) : plainB l = false := by
  unfold plainB; simp [h1, h2]
theorem head_at (s : ByteArray) (h : 0 < s.size) : s.data.toList.head? = some s[0] := by
  rw [← at_list s 0 h, List.head?_eq_getElem?, List.getElem?_eq_getElem (by simpa using h)]
def lead (l : List UInt8) : Nat := (l.takeWhile isD).length
theorem lead_of {l : List UInt8} {k : Nat} (h : (l.take k).all isD = true) (hk : k ≤ l.length) (he : ∀ h : k < l.length, isD l[k] = false) : lead l = k := by
  induction l generalizing k with
  | nil => simp at hk; subst hk; rfl
  | cons c l ih =>
    cases k with
    | zero =>
      have := he (by simp)
      simp at this
      simp [lead, List.takeWhile, this]
    | succ k =>
      simp only [List.take_succ_cons, List.all_cons, Bool.and_eq_true] at h
      have := ih (k := k) h.2 (by simpa using hk) (fun hlt => by have := he (by simp only [List.length_cons]; omega); rwa [List.getElem_cons_succ] at this)
      simp [lead, List.takeWhile, h.1] at this ⊢
      exact this
theorem lead_all (l : List UInt8) : (lead l = l.length) ↔ l.all isD = true := by
  constructor
  · intro h
    unfold lead at h
    have : l.takeWhile isD = l := by
      have h1 := List.takeWhile_prefix (l := l) isD
      exact h1.eq_of_length h
    rw [← this]
    simp [List.all_takeWhile]
  · intro h
    exact lead_of (by rw [List.take_length]; exact h) (Nat.le_refl _) (fun hlt => by omega)
theorem fit_low {v u : Nat} (h : v ≤ u) (hf : fitB (-(v : Int)) = false) : fitV (-(u : Int)) = 0 ∧ fitB (-(u : Int)) = false := by
  have h1 := of_decide_eq_false (show decide _ = false from hf)
  exact fit_no (by omega)
theorem val_take_le {l : List UInt8} {k : Nat} : val (l.take k) ≤ val l := by
  have h := List.take_append_drop k l
  have : val l = val (l.take k ++ l.drop k) := by rw [h]
  rw [this]
  generalize l.take k = a
  generalize l.drop k = b
  have : val (a ++ b) = val a * 10 ^ b.length + val b := by
    rw [val, List.foldl_append, fold_add]; rfl
  rw [this]
  have : val a * 1 ≤ val a * 10 ^ b.length := Nat.mul_le_mul_left _ (Nat.one_le_pow _ _ (by decide))
  omega
theorem pair2 {k : IntKind} {a b : Int} {p q : Bool} (h : b = a ∧ q = p) : Ending.returned (.tuple #[.int k a, .bool p]) = .returned (.tuple #[.int k b, .bool q]) := by
  obtain ⟨rfl, rfl⟩ := h; rfl
def BA (l : List UInt8) : ByteArray := ⟨l.toArray⟩
theorem BA_list (l : List UInt8) : (BA l).data.toList = l := rfl
theorem BA_size (l : List UInt8) : (BA l).size = l.length := by simp [BA, ByteArray.size]
theorem BA_toList (l : List UInt8) : (BA l).toList = l := by rw [ByteArray.toList_eq]; rfl
theorem BA_of (s : ByteArray) : BA s.data.toList = s := rfl
theorem body_len (l : List UInt8) : (body l).length ≤ l.length := by
  unfold body; split <;> simp
theorem rd_form1 {l : List UInt8} (h : plainB (body l) = false) : rdV l = 0 ∧ rdE l = 7 := by
  unfold rdV rdE isNum; rw [h]; exact ⟨rfl, rfl⟩
theorem rd_form2 {l : List UInt8} (h : isNeg l = true) (h2 : body l = [48]) : rdV l = 0 ∧ rdE l = 7 := by
  unfold rdV rdE isNum; rw [h, h2]; exact ⟨rfl, rfl⟩
theorem rd_neg {l : List UInt8} (h : plainB (body l) = true) (hn : isNeg l = true) (h2 : body l ≠ [48]) :
    rdV l = fitV (-(val (body l) : Int)) ∧ rdE l = if fitB (-(val (body l) : Int)) then 0 else 5 := by
  have : isNum l = true := by unfold isNum; rw [h, hn]; simp [h2]
  unfold rdV rdE num; rw [if_pos this, if_pos this, if_pos hn]; exact ⟨rfl, rfl⟩
theorem rd_pos {l : List UInt8} (h : plainB (body l) = true) (hn : isNeg l = false) :
    rdV l = fitV (val (body l) : Int) ∧ rdE l = if fitB (val (body l) : Int) then 0 else 5 := by
  have : isNum l = true := by unfold isNum; rw [h, hn]; rfl
  unfold rdV rdE num; rw [if_pos this, if_pos this, hn]; exact ⟨rfl, rfl⟩
theorem fit_zero (n : Int) (h : fitB n = false) : fitV n = 0 := (fit_no (of_decide_eq_false (show decide _ = false from h))).1
theorem pairE {a b c d : Int} (h : b = a ∧ d = c) : Ending.returned (.tuple #[.int .i64 a, .int .i64 c]) = .returned (.tuple #[.int .i64 b, .int .i64 d]) := by
  obtain ⟨rfl, rfl⟩ := h; rfl
theorem nDig_le (u : Nat) (h : u < 10 ^ 19) : (Lib.decDigits u).length ≤ 19 := by
  apply Classical.byContradiction
  intro hgt
  have hp := dec_plain u
  have := val_ge hp (plain_head hp (by omega))
  rw [dec_val] at this
  have h2 : 10 ^ 19 ≤ 10 ^ ((Lib.decDigits u).length - 1) := Nat.pow_le_pow_right (by decide) (by omega)
  omega
theorem itoa_len {n : Int} (n0 : -9223372036854775808 ≤ n) (n1 : n ≤ 9223372036854775807) : (Lib.itoa n).length ≤ 20 := by
  by_cases h : n < 0
  · rw [itoa_neg h]
    have := nDig_le n.natAbs (by omega)
    simp; omega
  · rw [itoa_pos (by omega)]
    have := nDig_le n.toNat (by omega)
    omega
theorem BA_app (s : ByteArray) (b : List UInt8) : s ++ BA b = BA (s.data.toList ++ b) := by
  apply ByteArray.ext; simp [BA]
theorem BA_take (s : ByteArray) (k : Nat) : BA (s.data.toList.take k) = s.extract 0 k := by
  apply ByteArray.ext; apply Array.ext'
  show s.data.toList.take k = (s.extract 0 k).data.toList
  rw [Lib.extract_data]; simp
end Go.Proofs.YthchjceibpcgbaaDoor.Dig
