/-
  What is proved: plain mathematics of decimal digits: which texts are the digits of a number, which number, that digits and numbers tell one another.
  What is proved: basics of texts of digits, without any function of the program.
  What is proved: what the document's own answers for package digit return.
  What is proved: what the document's own answers for package digit return (2).
  What is proved: what the document's own answer for Read returns.
  What is proved: what Read and Text of package digit return.
-/
import Derived.Lib.ItoaNum
import Derived.Lib.Strings
import GoSem.Op.String
import Derived.Test.YthchjceibpcgbaaGreatDoorProg
import Derived.WalkKit
import Derived.WalkSpells
import Derived.WalkLawsBesides
import Derived.Laws.ResultCell
import Derived.Deep.QuietTactic
import Derived.LoopTactic
import Derived.Outline
import Derived.Lib.Hide
import Derived.WalkMore
import Derived.Deep.LoopGhost
import Derived.Lib.AppendIntMem
import Derived.Lib.SmallJoins
import Derived.Lib.IndexBytes
import Derived.Deep.RegionWith
import Derived.Laws.BytesArg
import Derived.Laws.IdiomStrings
import Derived.Deep.Cut
import Derived.Deep.CutRange
import Derived.Test.YthchjceibpcgbaaGreatDoorShelf
import Derived.Shelf.Bits.Mul64
import Derived.BigQuiet
import Derived.Laws.Bits64b
import Derived.Lib.LaidTab
namespace Go.Proofs.YthchjceibpcgbaaGreatDoor.Dig
open Go.Lib

def isD (c : UInt8) : Bool := decide (48 ≤ c.toNat) && decide (c.toNat ≤ 57)
def val (l : List UInt8) : Nat := l.foldl (fun n c => 10 * n + (c.toNat - 48)) 0
def plainB (l : List UInt8) : Bool := !l.isEmpty && l.all isD && (l.head? != some 48 || l.length == 1)

theorem isD_iff {c : UInt8} : isD c = true ↔ 48 ≤ c.toNat ∧ c.toNat ≤ 57 := by simp [isD]
theorem isD_of {k : Nat} (h : k < 10) : isD (UInt8.ofNat (48 + k)) = true := by
  rw [isD_iff, UInt8.toNat_ofNat']; omega
theorem toNat_of {k : Nat} (h : k < 10) : (UInt8.ofNat (48 + k)).toNat - 48 = k := by
  rw [UInt8.toNat_ofNat']; omega
theorem of_toNat {c : UInt8} (h : isD c = true) : UInt8.ofNat (48 + (c.toNat - 48)) = c := by
  have h := isD_iff.1 h
  rw [show 48 + (c.toNat - 48) = c.toNat by omega, UInt8.ofNat_toNat]

theorem val_nil : val [] = 0 := rfl
theorem val_one (c : UInt8) : val [c] = c.toNat - 48 := by simp [val]
theorem val_snoc (l : List UInt8) (c : UInt8) : val (l ++ [c]) = 10 * val l + (c.toNat - 48) := by simp [val]
theorem fold_add (l : List UInt8) : ∀ n, l.foldl (fun n c => 10 * n + (c.toNat - 48)) n = n * 10 ^ l.length + val l := by
  induction l with
  | nil => intro n; simp [val]
  | cons c l ih =>
    intro n
    rw [val, List.foldl_cons, List.foldl_cons, ih, ih (10 * 0 + (c.toNat - 48)), List.length_cons, Nat.pow_succ]
    rw [Nat.add_mul, Nat.mul_zero, Nat.zero_add]
    have : 10 * n * 10 ^ l.length = n * (10 ^ l.length * 10) := by
      rw [Nat.mul_comm 10 n, Nat.mul_assoc, Nat.mul_comm 10]
    omega
theorem val_cons (c : UInt8) (l : List UInt8) : val (c :: l) = (c.toNat - 48) * 10 ^ l.length + val l := by
  rw [val, List.foldl_cons, fold_add]; simp
theorem val_lt {l : List UInt8} (h : l.all isD = true) : val l < 10 ^ l.length := by
  induction l with
  | nil => simp [val]
  | cons c l ih =>
    simp only [List.all_cons, Bool.and_eq_true] at h
    have hc := isD_iff.1 h.1
    have hl := ih h.2
    rw [val_cons, List.length_cons, Nat.pow_succ]
    have : (c.toNat - 48) * 10 ^ l.length ≤ 9 * 10 ^ l.length := Nat.mul_le_mul_right _ (by omega)
    omega
theorem val_ge {l : List UInt8} (h : plainB l = true) (h1 : l.head? ≠ some 48) : 10 ^ (l.length - 1) ≤ val l := by
  cases l with
  | nil => simp [plainB] at h
  | cons c l =>
    simp only [plainB, List.all_cons, Bool.and_eq_true] at h
    have hc := isD_iff.1 h.1.2.1
    have : c.toNat ≠ 48 := fun e => h1 (by simp; exact UInt8.toNat_inj.1 e)
    rw [val_cons, List.length_cons, Nat.add_sub_cancel]
    have : 1 * 10 ^ l.length ≤ (c.toNat - 48) * 10 ^ l.length := Nat.mul_le_mul_right _ (by omega)
    omega
theorem plain_head {l : List UInt8} (h : plainB l = true) (h1 : 2 ≤ l.length) : l.head? ≠ some 48 := by
  simp only [plainB, Bool.and_eq_true, Bool.or_eq_true] at h
  rcases h.2 with h | h
  · simpa using h
  · simp at h; omega
theorem plain_all {l : List UInt8} (h : plainB l = true) : l.all isD = true := by
  simp only [plainB, Bool.and_eq_true] at h; exact h.1.2
theorem plain_pos {l : List UInt8} (h : plainB l = true) : 0 < l.length := by
  cases l with
  | nil => simp [plainB] at h
  | cons => simp

/-! ### less: of two numbers' digits -/
theorem bytesLess_val : ∀ (a b : List UInt8), a.length = b.length → a.all isD = true → b.all isD = true → Go.Op.bytesLess a b = decide (val a < val b)
  | [], [], _, _, _ => by simp [Go.Op.bytesLess]
  | [], _ :: _, h, _, _ => by simp at h
  | _ :: _, [], h, _, _ => by simp at h
  | x :: a, y :: b, h, ha, hb => by
    simp only [List.all_cons, Bool.and_eq_true] at ha hb
    have hl : a.length = b.length := by simpa using h
    have ih := bytesLess_val a b hl ha.2 hb.2
    have va := val_lt ha.2
    have vb := val_lt hb.2
    have hx := isD_iff.1 ha.1
    have hy := isD_iff.1 hb.1
    rw [Go.Op.bytesLess, ih, val_cons, val_cons, hl]
    rw [hl] at va
    by_cases e : x = y
    · subst e
      simp
    · have ne : x.toNat ≠ y.toNat := fun e' => e (UInt8.toNat_inj.1 e')
      have e2 : (x == y) = false := by simp [e]
      rw [e2, Bool.false_and, Bool.or_false]
      apply decide_eq_decide.2
      rw [UInt8.lt_iff_toNat_lt]
      generalize 10 ^ b.length = p at *
      constructor
      · intro hlt
        have : (x.toNat - 48 + 1) * p ≤ (y.toNat - 48) * p := Nat.mul_le_mul_right _ (by omega)
        rw [Nat.add_mul] at this
        omega
      · intro hlt
        apply Classical.byContradiction
        intro hge
        have : (y.toNat - 48 + 1) * p ≤ (x.toNat - 48) * p := Nat.mul_le_mul_right _ (by omega)
        rw [Nat.add_mul] at this
        omega

/-- what 'less' answers -/
def lessB (a b : List UInt8) : Bool := if a.length = b.length then Go.Op.bytesLess a b else decide (a.length < b.length)
theorem lessB_val {a b : List UInt8} (ha : plainB a = true) (hb : plainB b = true) : lessB a b = decide (val a < val b) := by
  unfold lessB
  by_cases h : a.length = b.length
  · rw [if_pos h, bytesLess_val a b h (plain_all ha) (plain_all hb)]
  · rw [if_neg h]
    apply decide_eq_decide.2
    have pa := plain_pos ha
    have pb := plain_pos hb
    have va := val_lt (plain_all ha)
    have vb := val_lt (plain_all hb)
    constructor
    · intro hlt
      have := val_ge hb (plain_head hb (by omega))
      have : 10 ^ a.length ≤ 10 ^ (b.length - 1) := Nat.pow_le_pow_right (by decide) (by omega)
      omega
    · intro hlt
      apply Classical.byContradiction
      intro hge
      have := val_ge ha (plain_head ha (by omega))
      have : 10 ^ b.length ≤ 10 ^ (a.length - 1) := Nat.pow_le_pow_right (by decide) (by omega)
      omega

theorem head_app {a b : List UInt8} (h : a ≠ []) : (a ++ b).head? = a.head? := by
  cases a with
  | nil => exact absurd rfl h
  | cons => rfl
/-! ### the digits of a number -/
theorem dec_all (u : Nat) : (decDigits u).all isD = true := by
  induction u using Nat.strongRecOn with
  | _ u ih =>
    rw [decDigits]
    by_cases h : u < 10
    · rw [dif_pos h, List.all_cons, isD_of h]; rfl
    · rw [dif_neg h, List.all_append, ih _ (by omega), List.all_cons, isD_of (Nat.mod_lt u (by decide : 0 < 10))]; rfl
theorem dec_val (u : Nat) : val (decDigits u) = u := by
  induction u using Nat.strongRecOn with
  | _ u ih =>
    rw [decDigits]
    by_cases h : u < 10
    · rw [dif_pos h, val_one, toNat_of h]
    · rw [dif_neg h, val_snoc, ih _ (by omega), toNat_of (Nat.mod_lt u (by decide : 0 < 10))]; omega
theorem dec_ne (u : Nat) : decDigits u ≠ [] := by
  rw [decDigits]
  by_cases h : u < 10
  · rw [dif_pos h]; simp
  · rw [dif_neg h]; simp
theorem dec_head (u : Nat) (hu : 0 < u) : (decDigits u).head? ≠ some 48 := by
  induction u using Nat.strongRecOn with
  | _ u ih =>
    rw [decDigits]
    by_cases h : u < 10
    · rw [dif_pos h]
      simp only [List.head?_cons, ne_eq, Option.some.injEq]
      intro e
      have := congrArg UInt8.toNat e
      rw [UInt8.toNat_ofNat'] at this
      simp at this
      omega
    · rw [dif_neg h, head_app (dec_ne _)]
      exact ih _ (by omega) (by omega)
theorem dec_plain (u : Nat) : plainB (decDigits u) = true := by
  unfold plainB
  rw [dec_all u]
  have h1 : (decDigits u).isEmpty = false := by
    cases h : decDigits u with
    | nil => exact absurd h (dec_ne u)
    | cons => rfl
  rw [h1]
  by_cases hu : 0 < u
  · have := dec_head u hu
    simp [this]
  · have : u = 0 := by omega
    subst this
    rw [decDigits]; simp
theorem dec_of_val : ∀ (n : Nat) (l : List UInt8), l.length = n → plainB l = true → decDigits (val l) = l
  | 0, l, h, hp => by have := plain_pos hp; omega
  | 1, l, h, hp => by
    obtain ⟨c, rfl⟩ : ∃ c, l = [c] := by
      match l, h with
      | [c], _ => exact ⟨c, rfl⟩
    have hc : isD c = true := by simpa using plain_all hp
    have := isD_iff.1 hc
    rw [val_one, decDigits, dif_pos (by omega), of_toNat hc]
  | n + 2, l, h, hp => by
    obtain ⟨l', c, rfl⟩ : ∃ l' c, l = l' ++ [c] := ⟨l.dropLast, l.getLast (by intro e; simp [e] at h), (List.dropLast_concat_getLast _).symm⟩
    have hl : l'.length = n + 1 := by simpa using h
    have hne : l' ≠ [] := by intro e; simp [e] at hl
    have hh := plain_head hp (by omega)
    rw [head_app hne] at hh
    have ha := plain_all hp
    rw [List.all_append, Bool.and_eq_true] at ha
    have hc : isD c = true := by simpa using ha.2
    have hp' : plainB l' = true := by
      unfold plainB
      rw [ha.1]
      cases l' with
      | nil => exact absurd rfl hne
      | cons => simp at hh; simp [hh]
    have ih := dec_of_val (n + 1) l' hl hp'
    have hv := val_ge hp' hh
    have : 1 ≤ 10 ^ (l'.length - 1) := Nat.one_le_pow _ _ (by decide)
    have hcd := isD_iff.1 hc
    rw [val_snoc, decDigits, dif_neg (by omega)]
    rw [show (10 * val l' + (c.toNat - 48)) / 10 = val l' by omega, show (10 * val l' + (c.toNat - 48)) % 10 = c.toNat - 48 by omega, ih, of_toNat hc]

/-! ### the number whose digits a text is -/
def fitB (n : Int) : Bool := decide (-9223372036854775808 ≤ n ∧ n ≤ 9223372036854775807)
def fitV (n : Int) : Int := if -9223372036854775808 ≤ n ∧ n ≤ 9223372036854775807 then n else 0
theorem fit_yes {n : Int} (h : -9223372036854775808 ≤ n ∧ n ≤ 9223372036854775807) : fitV n = n ∧ fitB n = true := by
  unfold fitB fitV; simp [h]
theorem fit_no {n : Int} (h : ¬(-9223372036854775808 ≤ n ∧ n ≤ 9223372036854775807)) : fitV n = 0 ∧ fitB n = false := by
  unfold fitB fitV; simp [h]
theorem fit_bd (n : Int) : -9223372036854775808 ≤ fitV n ∧ fitV n ≤ 9223372036854775807 := by unfold fitV; split <;> omega
def isNeg (l : List UInt8) : Bool := l.head? == some 45
def body (l : List UInt8) : List UInt8 := if isNeg l then l.tail else l
def isNum (l : List UInt8) : Bool := plainB (body l) && !(isNeg l && body l == [48])
def num (l : List UInt8) : Int := if isNeg l then -(val (body l) : Int) else (val (body l) : Int)
def rdV (l : List UInt8) : Int := if isNum l then fitV (num l) else 0
def rdE (l : List UInt8) : Int := if isNum l then (if fitB (num l) then 0 else 5) else 7

theorem rdV_bd (l : List UInt8) : -9223372036854775808 ≤ rdV l ∧ rdV l ≤ 9223372036854775807 := by
  unfold rdV; split
  · exact fit_bd _
  · omega
theorem rd_ok {l : List UInt8} (h : rdE l = 0) : isNum l = true ∧ fitB (num l) = true ∧ rdV l = num l := by
  unfold rdE at h
  by_cases h1 : isNum l = true
  · rw [if_pos h1] at h
    by_cases h2 : fitB (num l) = true
    · refine ⟨h1, h2, ?_⟩
      unfold rdV; rw [if_pos h1]
      exact (fit_yes (of_decide_eq_true (show decide _ = true from h2))).1
    · rw [if_neg h2] at h; omega
  · rw [if_neg h1] at h; omega
theorem rdE_cases (l : List UInt8) : rdE l = 0 ∨ rdE l = 5 ∨ rdE l = 7 := by
  unfold rdE; split
  · split <;> simp
  · simp
theorem rdV_zero {l : List UInt8} (h : rdE l ≠ 0) : rdV l = 0 := by
  unfold rdE at h
  unfold rdV
  by_cases h1 : isNum l = true
  · rw [if_pos h1] at h ⊢
    by_cases h2 : fitB (num l) = true
    · rw [if_pos h2] at h; omega
    · exact (fit_no (fun h3 => h2 (show decide _ = true from decide_eq_true h3))).1
  · rw [if_neg h1]

theorem dec_noneg (u : Nat) : isNeg (decDigits u) = false := by
  unfold isNeg
  cases h : decDigits u with
  | nil => rfl
  | cons c r =>
    have ha := dec_all u
    rw [h] at ha
    simp only [List.all_cons, Bool.and_eq_true] at ha
    have := isD_iff.1 ha.1
    simp only [List.head?_cons]
    have : c ≠ 45 := by rintro rfl; simp at this
    simp [this]
theorem itoa_pos {n : Int} (h : 0 ≤ n) : itoa n = decDigits n.toNat := by unfold itoa; rw [if_neg (by omega)]
theorem itoa_neg {n : Int} (h : n < 0) : itoa n = 45 :: decDigits n.natAbs := by unfold itoa; rw [if_pos h]
/-- what is written is read as it was -/
theorem num_itoa (n : Int) : isNum (itoa n) = true ∧ num (itoa n) = n := by
  by_cases h : n < 0
  · rw [itoa_neg h]
    have e1 : isNeg (45 :: decDigits n.natAbs) = true := rfl
    have e2 : body (45 :: decDigits n.natAbs) = decDigits n.natAbs := by unfold body; rw [e1]; rfl
    constructor
    · unfold isNum
      rw [e1, e2, dec_plain]
      have : decDigits n.natAbs ≠ [48] := by
        intro e
        have := dec_val n.natAbs
        rw [e] at this
        simp [val] at this
        omega
      simp [this]
    · unfold num
      rw [e1, e2, dec_val]; simp; omega
  · rw [itoa_pos (by omega)]
    have e1 := dec_noneg n.toNat
    have e2 : body (decDigits n.toNat) = decDigits n.toNat := by unfold body; rw [e1]; rfl
    constructor
    · unfold isNum; rw [e1, e2, dec_plain]; rfl
    · unfold num; rw [e1, e2, dec_val]; simp; omega
theorem rd_itoa {n : Int} (h0 : -9223372036854775808 ≤ n) (h1 : n ≤ 9223372036854775807) : rdV (itoa n) = n ∧ rdE (itoa n) = 0 := by
  obtain ⟨e1, e2⟩ := num_itoa n
  obtain ⟨f1, f2⟩ := fit_yes ⟨h0, h1⟩
  unfold rdV rdE
  rw [if_pos e1, if_pos e1, e2, f1, if_pos f2]
  exact ⟨rfl, rfl⟩
/-- what is read is written just so -/
theorem itoa_num {l : List UInt8} (h : isNum l = true) : itoa (num l) = l := by
  unfold isNum at h
  rw [Bool.and_eq_true] at h
  obtain ⟨hp, hz⟩ := h
  have hd := dec_of_val _ (body l) rfl hp
  unfold num
  by_cases hn : isNeg l = true
  · rw [hn] at hz
    rw [if_pos hn]
    have hl : l = 45 :: body l := by
      unfold body; rw [hn]
      cases l with
      | nil => simp [isNeg] at hn
      | cons c r => simp [isNeg] at hn; simp [hn]
    have hv : 0 < val (body l) := by
      apply Classical.byContradiction
      intro h0
      have h0 : val (body l) = 0 := by omega
      rw [h0] at hd
      have : decDigits 0 = [48] := by rw [decDigits]; simp
      rw [this] at hd
      simp [← hd] at hz
    rw [itoa_neg (by omega)]
    rw [show (-(val (body l) : Int)).natAbs = val (body l) by omega, hd]
    exact hl.symm
  · rw [if_neg hn, itoa_pos (by omega), Int.toNat_natCast, hd]
    unfold body; simp [hn]
theorem itoa_rd {l : List UInt8} (h : rdE l = 0) : itoa (rdV l) = l := by
  obtain ⟨h1, _, h3⟩ := rd_ok h
  rw [h3, itoa_num h1]
theorem itoa_inj {a b : Int} (h : itoa a = itoa b) : a = b := by
  have := (num_itoa a).2
  rw [h, (num_itoa b).2] at this
  exact this.symm

/-! ### Nat -/
def ntE (l : List UInt8) (m : Int) : Int := if rdE l = 0 then (if rdV l < 0 ∨ m < rdV l then 5 else 0) else rdE l
def ntV (l : List UInt8) (m : Int) : Int := if ntE l m = 0 then rdV l else 0

/-! ### Index -/
def ixL (l : List UInt8) (n : Int) : List UInt8 := if n ≤ 0 then l else l ++ itoa n

/-! ### Part -/
/-- a number from 1 to 2^31 - 1 -/
def gd (l : List UInt8) : Bool := decide (rdE l = 0 ∧ 1 ≤ rdV l ∧ rdV l ≤ 2147483647)
def cutAt (l : List UInt8) : Option Nat := (List.range l.length).find? fun i => gd (l.drop i)
def ptK (l : List UInt8) : Bool := match cutAt l with | some (_ + 1) => true | _ => false
def ptL (l : List UInt8) : List UInt8 := match cutAt l with | some (i + 1) => l.take (i + 1) | _ => l
def ptN (l : List UInt8) : Int := match cutAt l with | some (i + 1) => rdV (l.drop (i + 1)) | _ => 0

theorem gd_len {l : List UInt8} (h : gd l = true) : l.length ≤ 10 ∧ 0 < l.length ∧ isNeg l = false := by
  obtain ⟨h1, h2, h3⟩ := of_decide_eq_true (show decide _ = true from h)
  obtain ⟨e1, e2, e3⟩ := rd_ok h1
  have hn : isNeg l = false := by
    apply Bool.eq_false_iff.2
    intro hn
    rw [e3] at h2
    unfold num at h2
    rw [if_pos hn] at h2
    omega
  have hb : body l = l := by unfold body; rw [hn]; rfl
  unfold isNum at e1
  rw [Bool.and_eq_true, hb] at e1
  have hp := plain_pos e1.1
  refine ⟨?_, hp, hn⟩
  apply Classical.byContradiction
  intro hgt
  have := val_ge e1.1 (plain_head e1.1 (by omega))
  have : 10 ^ 10 ≤ 10 ^ (l.length - 1) := Nat.pow_le_pow_right (by decide) (by omega)
  rw [e3] at h3
  unfold num at h3
  rw [hn, hb] at h3
  simp at h3
  omega
theorem cut_some {l : List UInt8} {i : Nat} (hi : i < l.length) (hg : gd (l.drop i) = true) (hj : ∀ j, j < i → gd (l.drop j) = false) : cutAt l = some i := by
  unfold cutAt
  rw [List.find?_range_eq_some]
  exact ⟨hg, by simpa using hi, fun j h => by rw [hj j h]; rfl⟩
theorem cut_none {l : List UInt8} (hj : ∀ j, j < l.length → gd (l.drop j) = false) : cutAt l = none := by
  unfold cutAt
  rw [List.find?_eq_none]
  intro j h
  rw [hj j (List.mem_range.1 h)]
  simp
theorem cut_is {l : List UInt8} {i : Nat} (h : cutAt l = some i) : i < l.length ∧ gd (l.drop i) = true := by
  unfold cutAt at h
  rw [List.find?_range_eq_some] at h
  exact ⟨by simpa using h.2.1, h.1⟩
theorem pt_zero {l : List UInt8} (h : cutAt l = some 0 ∨ cutAt l = none) : ptL l = l ∧ ptN l = 0 ∧ ptK l = false := by
  unfold ptL ptN ptK
  rcases h with h | h <;> rw [h] <;> exact ⟨rfl, rfl, rfl⟩
theorem pt_some {l : List UInt8} {i : Nat} (h : cutAt l = some i) (hi : i ≠ 0) : ptL l = l.take i ∧ ptN l = rdV (l.drop i) ∧ ptK l = true := by
  obtain ⟨j, rfl⟩ : ∃ j, i = j + 1 := ⟨i - 1, by omega⟩
  unfold ptL ptN ptK
  rw [h]; exact ⟨rfl, rfl, rfl⟩
/-- either nothing is split, or what is split is put together again -/
theorem pt_cases (l : List UInt8) : (ptK l = false ∧ ptL l = l ∧ ptN l = 0) ∨ (ptK l = true ∧ ptL l ≠ [] ∧ 1 ≤ ptN l ∧ ptN l ≤ 2147483647 ∧ ixL (ptL l) (ptN l) = l) := by
  cases h : cutAt l with
  | none => obtain ⟨a, b, c⟩ := pt_zero (Or.inr h); exact Or.inl ⟨c, a, b⟩
  | some i =>
    by_cases hi : i = 0
    · subst hi; obtain ⟨a, b, c⟩ := pt_zero (Or.inl h); exact Or.inl ⟨c, a, b⟩
    · obtain ⟨a, b, c⟩ := pt_some h hi
      obtain ⟨h1, h2⟩ := cut_is h
      obtain ⟨g1, g2, g3⟩ := of_decide_eq_true (show decide _ = true from h2)
      refine Or.inr ⟨c, ?_, by rw [b]; exact g2, by rw [b]; exact g3, ?_⟩
      · rw [a]; intro e; have := congrArg List.length e; rw [List.length_take, List.length_nil] at this; omega
      · unfold ixL
        rw [a, b, if_neg (by omega), itoa_rd g1, List.take_append_drop]
/-- what is put together is taken apart -/
theorem pt_ix {l : List UInt8} {n : Int} (h0 : 1 ≤ n) (h1 : n ≤ 2147483647) (hl : l ≠ []) (hd : isD (l.getLast hl) = false) :
    ptL (ixL l n) = l ∧ ptN (ixL l n) = n ∧ ptK (ixL l n) = true := by
  have e : ixL l n = l ++ itoa n := by unfold ixL; rw [if_neg (by omega)]
  rw [e]
  obtain ⟨r1, r2⟩ := rd_itoa (n := n) (by omega) (by omega)
  have hlen : 0 < l.length := by cases l with | nil => exact absurd rfl hl | cons => simp
  have hne : itoa n ≠ [] := by rw [itoa_pos (by omega)]; exact dec_ne _
  have hc : cutAt (l ++ itoa n) = some l.length := by
    apply cut_some
    · have : 0 < (itoa n).length := by cases h : itoa n with | nil => exact absurd h hne | cons => simp
      simp; omega
    · rw [List.drop_left]
      exact decide_eq_true ⟨r2, by omega, by omega⟩
    · intro j hj
      apply Bool.eq_false_iff.2
      intro hg
      obtain ⟨_, _, hn⟩ := gd_len hg
      obtain ⟨g1, _, _⟩ := of_decide_eq_true (show decide _ = true from hg)
      obtain ⟨i1, _, _⟩ := rd_ok g1
      unfold isNum at i1
      rw [Bool.and_eq_true] at i1
      have hb : body (List.drop j (l ++ itoa n)) = List.drop j (l ++ itoa n) := by unfold body; rw [hn]; rfl
      rw [hb] at i1
      have ha := plain_all i1.1
      rw [List.drop_append_of_le_length (by omega), List.all_append, Bool.and_eq_true] at ha
      have hm : l.getLast hl ∈ l.drop j := by
        have h2 : l.drop j ≠ [] := by intro e; have := congrArg List.length e; simp at this; omega
        have := List.getLast_mem h2
        rwa [List.getLast_drop h2] at this
      have := List.all_eq_true.1 ha.1 _ hm
      rw [hd] at this
      exact absurd this (by decide)
  obtain ⟨a, b, c⟩ := pt_some hc (by omega)
  rw [a, b, c, List.take_left, List.drop_left, r1]
  exact ⟨rfl, rfl, rfl⟩
end Go.Proofs.YthchjceibpcgbaaGreatDoor.Dig
namespace Go.Proofs.YthchjceibpcgbaaGreatDoor.Dig
open Go.RowKit
set_option linter.unusedVariables false
set_option linter.unusedSimpArgs false

theorem bne_yes {p q : Prop} [Decidable p] [Decidable q] (h : (!decide p == decide q) = true) : ¬(p ↔ q) := by
  by_cases p <;> by_cases q <;> simp_all
theorem bne_no {p q : Prop} [Decidable p] [Decidable q] (h : (!decide p == decide q) = false) : (p ↔ q) := by
  by_cases p <;> by_cases q <;> simp_all
theorem beq_yes {p q : Prop} [Decidable p] [Decidable q] (h : (decide p == decide q) = true) : (p ↔ q) := by
  by_cases p <;> by_cases q <;> simp_all
theorem beq_no {p q : Prop} [Decidable p] [Decidable q] (h : (decide p == decide q) = false) : ¬(p ↔ q) := by
  by_cases p <;> by_cases q <;> simp_all
theorem pair {k : IntKind} {a b : Int} {p q : Bool} (h : b = a ∧ q = p) : Ending.returned (.tuple #[.int k a, .bool p]) = .returned (.tuple #[.int k b, .bool q]) := by
  obtain ⟨rfl, rfl⟩ := h; rfl
theorem one {k : IntKind} {a b : Int} (h : a = b) : Ending.returned (.int k a) = .returned (.int k b) := by rw [h]
theorem bel_trans {a b c : World} (h : Below a.heap.size a b) (k : Below b.heap.size b c) : Below a.heap.size a c := h.trans (k.mono h.size)
theorem bel_alloc {a b : World} (h : Below a.heap.size a b) (o : Obj) : Below a.heap.size a (b.alloc o) := h.alloc h.size o
theorem bcell {W w1 : World} (hb : Below W.heap.size W w1) : (∀ b o, b < W.heap.size → w1.cell? ⟨b, o, none⟩ = W.cell? ⟨b, o, none⟩) ∧ (∀ b o, b < W.heap.size → w1.frozen? ⟨b, o, none⟩ = W.frozen? ⟨b, o, none⟩) :=
  ⟨fun b o h => hb.cell (p := ⟨b, o, none⟩) h, fun b o h => hb.frozen (p := ⟨b, o, none⟩) h⟩
theorem at_list (s : ByteArray) (k : Nat) (h : k < s.size) : s.data.toList[k]'(by simpa using h) = s[k] := rfl
theorem len_list (s : ByteArray) : s.data.toList.length = s.size := Array.length_toList
theorem take_snoc (s : ByteArray) (k : Nat) (h : k < s.size) : s.data.toList.take (k + 1) = s.data.toList.take k ++ [s[k]] := by
  rw [List.take_succ_eq_append_getElem (by simpa using h)]; rfl
theorem beq_no' {a b : Int} (h : a ≠ b) : (a == b) = false := by simp [h]
theorem beq_yes' {a b : Int} (h : a = b) : (a == b) = true := by simp [h]
theorem plain_of {l : List UInt8} (h0 : l ≠ []) (h1 : l.all isD = true) (h2 : l.head? ≠ some 48 ∨ l.length = 1) : plainB l = true := by
  unfold plainB
  rw [h1]
  cases l with
  | nil => exact absurd rfl h0
  | cons c l =>
    rcases h2 with h2 | h2
    · simp at h2; simp [h2]
    · simp at h2; simp [h2]
theorem plain_no1 {l : List UInt8} (h1 : l.all isD = false) : plainB l = false := by
  unfold plainB; rw [h1]; simp
theorem plain_no2 {l : List UInt8} (h1 : l.head? = some 48) (h2 : l.length ≠ 1) : plainB l = false := by
  unfold plainB; simp [h1, h2]
theorem head_at (s : ByteArray) (h : 0 < s.size) : s.data.toList.head? = some s[0] := by
  rw [← at_list s 0 h, List.head?_eq_getElem?, List.getElem?_eq_getElem (by simpa using h)]
def lead (l : List UInt8) : Nat := (l.takeWhile isD).length
theorem lead_of {l : List UInt8} {k : Nat} (h : (l.take k).all isD = true) (hk : k ≤ l.length) (he : ∀ h : k < l.length, isD l[k] = false) : lead l = k := by
  induction l generalizing k with
  | nil => simp at hk; subst hk; rfl
  | cons c l ih =>
    cases k with
    | zero =>
      have := he (by simp)
      simp at this
      simp [lead, List.takeWhile, this]
    | succ k =>
      simp only [List.take_succ_cons, List.all_cons, Bool.and_eq_true] at h
      have := ih (k := k) h.2 (by simpa using hk) (fun hlt => by have := he (by simp only [List.length_cons]; omega); rwa [List.getElem_cons_succ] at this)
      simp [lead, List.takeWhile, h.1] at this ⊢
      exact this
theorem lead_all (l : List UInt8) : (lead l = l.length) ↔ l.all isD = true := by
  constructor
  · intro h
    unfold lead at h
    have : l.takeWhile isD = l := by
      have h1 := List.takeWhile_prefix (l := l) isD
      exact h1.eq_of_length h
    rw [← this]
    simp [List.all_takeWhile]
  · intro h
    exact lead_of (by rw [List.take_length]; exact h) (Nat.le_refl _) (fun hlt => by omega)
theorem fit_low {v u : Nat} (h : v ≤ u) (hf : fitB (-(v : Int)) = false) : fitV (-(u : Int)) = 0 ∧ fitB (-(u : Int)) = false := by
  have h1 := of_decide_eq_false (show decide _ = false from hf)
  exact fit_no (by omega)
theorem val_take_le {l : List UInt8} {k : Nat} : val (l.take k) ≤ val l := by
  have h := List.take_append_drop k l
  have : val l = val (l.take k ++ l.drop k) := by rw [h]
  rw [this]
  generalize l.take k = a
  generalize l.drop k = b
  have : val (a ++ b) = val a * 10 ^ b.length + val b := by
    rw [val, List.foldl_append, fold_add]; rfl
  rw [this]
  have : val a * 1 ≤ val a * 10 ^ b.length := Nat.mul_le_mul_left _ (Nat.one_le_pow _ _ (by decide))
  omega
theorem pair2 {k : IntKind} {a b : Int} {p q : Bool} (h : b = a ∧ q = p) : Ending.returned (.tuple #[.int k a, .bool p]) = .returned (.tuple #[.int k b, .bool q]) := by
  obtain ⟨rfl, rfl⟩ := h; rfl
def BA (l : List UInt8) : ByteArray := ⟨l.toArray⟩
theorem BA_list (l : List UInt8) : (BA l).data.toList = l := rfl
theorem BA_size (l : List UInt8) : (BA l).size = l.length := by simp [BA, ByteArray.size]
theorem BA_toList (l : List UInt8) : (BA l).toList = l := by rw [ByteArray.toList_eq]; rfl
theorem BA_of (s : ByteArray) : BA s.data.toList = s := rfl
theorem body_len (l : List UInt8) : (body l).length ≤ l.length := by
  unfold body; split <;> simp
theorem rd_form1 {l : List UInt8} (h : plainB (body l) = false) : rdV l = 0 ∧ rdE l = 7 := by
  unfold rdV rdE isNum; rw [h]; exact ⟨rfl, rfl⟩
theorem rd_form2 {l : List UInt8} (h : isNeg l = true) (h2 : body l = [48]) : rdV l = 0 ∧ rdE l = 7 := by
  unfold rdV rdE isNum; rw [h, h2]; exact ⟨rfl, rfl⟩
theorem rd_neg {l : List UInt8} (h : plainB (body l) = true) (hn : isNeg l = true) (h2 : body l ≠ [48]) :
    rdV l = fitV (-(val (body l) : Int)) ∧ rdE l = if fitB (-(val (body l) : Int)) then 0 else 5 := by
  have : isNum l = true := by unfold isNum; rw [h, hn]; simp [h2]
  unfold rdV rdE num; rw [if_pos this, if_pos this, if_pos hn]; exact ⟨rfl, rfl⟩
theorem rd_pos {l : List UInt8} (h : plainB (body l) = true) (hn : isNeg l = false) :
    rdV l = fitV (val (body l) : Int) ∧ rdE l = if fitB (val (body l) : Int) then 0 else 5 := by
  have : isNum l = true := by unfold isNum; rw [h, hn]; rfl
  unfold rdV rdE num; rw [if_pos this, if_pos this, hn]; exact ⟨rfl, rfl⟩
theorem fit_zero (n : Int) (h : fitB n = false) : fitV n = 0 := (fit_no (of_decide_eq_false (show decide _ = false from h))).1
theorem pairE {a b c d : Int} (h : b = a ∧ d = c) : Ending.returned (.tuple #[.int .i64 a, .int .i64 c]) = .returned (.tuple #[.int .i64 b, .int .i64 d]) := by
  obtain ⟨rfl, rfl⟩ := h; rfl
theorem nDig_le (u : Nat) (h : u < 10 ^ 19) : (Lib.decDigits u).length ≤ 19 := by
  apply Classical.byContradiction
  intro hgt
  have hp := dec_plain u
  have := val_ge hp (plain_head hp (by omega))
  rw [dec_val] at this
  have h2 : 10 ^ 19 ≤ 10 ^ ((Lib.decDigits u).length - 1) := Nat.pow_le_pow_right (by decide) (by omega)
  omega
theorem itoa_len {n : Int} (n0 : -9223372036854775808 ≤ n) (n1 : n ≤ 9223372036854775807) : (Lib.itoa n).length ≤ 20 := by
  by_cases h : n < 0
  · rw [itoa_neg h]
    have := nDig_le n.natAbs (by omega)
    simp; omega
  · rw [itoa_pos (by omega)]
    have := nDig_le n.toNat (by omega)
    omega
theorem BA_app (s : ByteArray) (b : List UInt8) : s ++ BA b = BA (s.data.toList ++ b) := by
  apply ByteArray.ext; simp [BA]
theorem BA_take (s : ByteArray) (k : Nat) : BA (s.data.toList.take k) = s.extract 0 k := by
  apply ByteArray.ext; apply Array.ext'
  show s.data.toList.take k = (s.extract 0 k).data.toList
  rw [Lib.extract_data]; simp
end Go.Proofs.YthchjceibpcgbaaGreatDoor.Dig
namespace Go.Proofs.YthchjceibpcgbaaGreatDoor.Dig
open Go.RowKit
set_option linter.unusedVariables false
set_option linter.unusedSimpArgs false

theorem conv_at (w : World) (n : Nat) (v : Int) (h : w.cell? ⟨n, 0, none⟩ = some (.int .u8 v)) :
    (convert 64 9 (.slice (some ⟨n, 0, none⟩) 1 1)).run Tryz.prog w = .ok (.string ⟨#[UInt8.ofNat v.toNat]⟩) w := by
  rw [run_convert_bytes_arg w 64 5 Tryz.underlying64 Tryz.underlying5 n 0 1 1 [v] rfl (fun i hi => by
    have : i = 0 := by omega
    subst this
    exact h) 9 Tryz.underlying9]
  rfl
theorem conv_new (w : World) (v : Int) :
    (convert 64 9 (.slice (some ⟨w.heap.size, 0, none⟩) 1 1)).run Tryz.prog (w.alloc (.cells #[.int .u8 v] 5)) = .ok (.string ⟨#[UInt8.ofNat v.toNat]⟩) (w.alloc (.cells #[.int .u8 v] 5)) :=
  conv_at _ _ _ (by rw [World.cell?_alloc_mark]; rfl)
theorem retS {a b : ByteArray} (h : a = b) : Ending.returned (.string a) = .returned (.string b) := by rw [h]

end Go.Proofs.YthchjceibpcgbaaGreatDoor.Dig
namespace Go.Proofs.YthchjceibpcgbaaGreatDoor.Dig
open Go.RowKit
set_option linter.unusedVariables false
set_option linter.unusedSimpArgs false

theorem plain_not (s : ByteArray) (k : Nat) (h : k < s.size) (hD : isD s[k] = false) : plainB s.data.toList = false := by
  apply plain_no1
  rw [List.all_eq_false]
  exact ⟨s[k], by rw [← at_list s k h]; exact List.getElem_mem _, by simp [hD]⟩
end Go.Proofs.YthchjceibpcgbaaGreatDoor.Dig
namespace Go.Proofs.YthchjceibpcgbaaGreatDoor.Dig
open Go.RowKit
set_option linter.unusedVariables false
set_option linter.unusedSimpArgs false

def m7 : List UInt8 := [57, 50, 50, 51, 51, 55, 50, 48, 51, 54, 56, 53, 52, 55, 55, 53, 56, 48, 55]
def m8 : List UInt8 := [57, 50, 50, 51, 51, 55, 50, 48, 51, 54, 56, 53, 52, 55, 55, 53, 56, 48, 56]
theorem less7 {l : List UInt8} (h : plainB l = true) : lessB m7 l = decide (9223372036854775807 < val l) := by
  rw [lessB_val (by decide) h]; rfl
theorem less8 {l : List UInt8} (h : plainB l = true) : lessB m8 l = decide (9223372036854775808 < val l) := by
  rw [lessB_val (by decide) h]; rfl

theorem rd_cases_pos {l : List UInt8} (hn : isNeg l = false) : (rdV l = 0 ∧ rdE l = 7 ∧ plainB (body l) = false) ∨
    (plainB (body l) = true ∧ lessB m7 (body l) = true ∧ rdV l = 0 ∧ rdE l = 5) ∨
    (plainB (body l) = true ∧ lessB m7 (body l) = false ∧ val (body l) ≤ 9223372036854775807 ∧ rdV l = (val (body l) : Int) ∧ rdE l = 0) := by
  cases hp : plainB (body l) with
  | false => obtain ⟨a, b⟩ := rd_form1 hp; exact Or.inl ⟨a, b, rfl⟩
  | true =>
    obtain ⟨a, b⟩ := rd_pos hp hn
    rw [less7 hp]
    by_cases hv : 9223372036854775807 < val (body l)
    · obtain ⟨f1, f2⟩ := fit_no (n := (val (body l) : Int)) (by omega)
      rw [f1] at a; rw [f2] at b
      exact Or.inr (Or.inl ⟨rfl, by simpa using hv, a, b⟩)
    · obtain ⟨f1, f2⟩ := fit_yes (n := (val (body l) : Int)) (by omega)
      rw [f1] at a; rw [f2] at b
      exact Or.inr (Or.inr ⟨rfl, by simpa using hv, by omega, a, b⟩)
theorem rd_cases_neg {l : List UInt8} (hn : isNeg l = true) : (rdV l = 0 ∧ rdE l = 7 ∧ plainB (body l) = false) ∨ (rdV l = 0 ∧ rdE l = 7 ∧ plainB (body l) = true ∧ body l = [48]) ∨
    (plainB (body l) = true ∧ body l ≠ [48] ∧ lessB m8 (body l) = true ∧ rdV l = 0 ∧ rdE l = 5) ∨
    (plainB (body l) = true ∧ body l ≠ [48] ∧ lessB m8 (body l) = false ∧ val (body l) ≤ 9223372036854775808 ∧ rdV l = -(val (body l) : Int) ∧ rdE l = 0) := by
  cases hp : plainB (body l) with
  | false => obtain ⟨a, b⟩ := rd_form1 hp; exact Or.inl ⟨a, b, rfl⟩
  | true =>
    by_cases hb : body l = [48]
    · obtain ⟨a, b⟩ := rd_form2 hn hb
      exact Or.inr (Or.inl ⟨a, b, rfl, hb⟩)
    · obtain ⟨a, b⟩ := rd_neg hp hn hb
      rw [less8 hp]
      by_cases hv : 9223372036854775808 < val (body l)
      · obtain ⟨f1, f2⟩ := fit_no (n := -(val (body l) : Int)) (by omega)
        rw [f1] at a; rw [f2] at b
        exact Or.inr (Or.inr (Or.inl ⟨rfl, hb, by simpa using hv, a, b⟩))
      · obtain ⟨f1, f2⟩ := fit_yes (n := -(val (body l) : Int)) (by omega)
        rw [f1] at a; rw [f2] at b
        exact Or.inr (Or.inr (Or.inr ⟨rfl, hb, by simpa using hv, by omega, a, b⟩))

/-- a text's beginning, as the program takes it apart -/
theorem start_cases (s : ByteArray) : (s.size = 0 ∧ isNeg s.data.toList = false ∧ BA (body s.data.toList) = s) ∨
    (∃ h : 0 < s.size, s[0].toNat ≠ 45 ∧ isNeg s.data.toList = false ∧ BA (body s.data.toList) = s) ∨
    (∃ h : 0 < s.size, s[0].toNat = 45 ∧ isNeg s.data.toList = true ∧ BA (body s.data.toList) = s.extract 1 s.size) := by
  by_cases h0 : s.size = 0
  · have : s.data.toList = [] := List.length_eq_zero_iff.1 (by rw [len_list]; exact h0)
    have hn : isNeg s.data.toList = false := by rw [this]; rfl
    refine Or.inl ⟨h0, hn, ?_⟩
    unfold body; rw [hn]; exact BA_of s
  · have hp : 0 < s.size := by omega
    have hh := head_at s hp
    by_cases h45 : s[0].toNat = 45
    · have hc : s[0] = 45 := UInt8.toNat_inj.1 h45
      have hn : isNeg s.data.toList = true := by unfold isNeg; rw [hh, hc]; rfl
      refine Or.inr (Or.inr ⟨hp, h45, hn, ?_⟩)
      unfold body; rw [hn]
      apply ByteArray.ext; apply Array.ext'
      show s.data.toList.tail = (s.extract 1 s.size).data.toList
      rw [Lib.extract_to_end]; simp
    · have hn : isNeg s.data.toList = false := by
        unfold isNeg; rw [hh]
        have : s[0] ≠ 45 := fun e => h45 (by rw [e]; rfl)
        simp [this]
      refine Or.inr (Or.inl ⟨hp, h45, hn, ?_⟩)
      unfold body; rw [hn]; exact BA_of s

end Go.Proofs.YthchjceibpcgbaaGreatDoor.Dig
namespace Go.Proofs.YthchjceibpcgbaaGreatDoor.Dig
open Go.RowKit
set_option linter.unusedVariables false
set_option linter.unusedSimpArgs false

/-- how far from 0 -/
def ab (a : Int) : Int := if a < 0 then -a else a
/-- the number of the size n that is negative if s -/
def sg (s : Bool) (n : Int) : Int := if s then -n else n
theorem ab_neg {a : Int} (h : a < 0) : ab a = -a := by unfold ab; simp [h]
theorem ab_pos {a : Int} (h : 0 ≤ a) : ab a = a := by unfold ab; rw [if_neg (by omega)]
theorem ab_bd {a : Int} (a0 : -9223372036854775808 ≤ a) (a1 : a ≤ 9223372036854775807) : 0 ≤ ab a ∧ ab a ≤ 9223372036854775808 := by unfold ab; split <;> omega
theorem fit_eq {n v : Int} {b : Bool} (h : (-9223372036854775808 ≤ n ∧ n ≤ 9223372036854775807) ∧ v = n ∧ b = true ∨ ¬(-9223372036854775808 ≤ n ∧ n ≤ 9223372036854775807) ∧ v = 0 ∧ b = false) : fitV n = v ∧ fitB n = b := by
  rcases h with ⟨h, rfl, rfl⟩ | ⟨h, rfl, rfl⟩
  · exact fit_yes h
  · exact fit_no h
theorem sub_any (a b : Int) (a0 : -9223372036854775808 ≤ a) (a1 : a ≤ 9223372036854775807) (b0 : -9223372036854775808 ≤ b) (b1 : b ≤ 9223372036854775807) (w : World) :
    Calls Tryz.prog 153 #[.int .i64 a, .int .i64 b] w fun e w' => e = .returned (.tuple #[.int .i64 (fitV (a - b)), .bool (fitB (a - b))]) ∧ w = w' := by
  go_enter Tryz.func153, Tryz.ntmps153
  go_wp2
  · rename_i h
    have h := bne_yes h
    unfold wrap64 at h
    go_ret2
    exact ⟨pair (fit_no (by omega)), rfl⟩
  · rename_i h
    have h := bne_no h
    unfold wrap64 at h
    go_ret2
    exact ⟨pair (fit_eq (Or.inl ⟨by omega, by unfold wrap64; omega, rfl⟩)), rfl⟩
theorem neg_any (a : Int) (a0 : -9223372036854775808 ≤ a) (a1 : a ≤ 9223372036854775807) (w : World) :
    Calls Tryz.prog 143 #[.int .i64 a] w fun e w' => e = .returned (.tuple #[.int .i64 (fitV (-a)), .bool (fitB (-a))]) ∧ w = w' := by
  have hs := sub_any 0 a (by omega) (by omega) a0 a1
  rw [show (0 : Int) - a = -a by omega] at hs
  go_enter Tryz.func143, Tryz.ntmps143
  go_wp2_with (go_at_call 153; refine (hs _).mono ?_; rintro e w' ⟨rfl, rfl⟩)
  go_ret2
  exact ⟨rfl, rfl⟩
theorem size_any (a : Int) (a0 : -9223372036854775808 ≤ a) (a1 : a ≤ 9223372036854775807) (w : World) :
    Calls Tryz.prog 157 #[.int .i64 a] w fun e w' => e = .returned (.int .u64 (ab a)) ∧ w = w' := by
  go_enter Tryz.func157, Tryz.ntmps157
  go_wp2
  · go_ret
    exact ⟨one (by rw [ab_neg (by assumption), IntKind.wrap_u64, IntKind.wrap_u64]; omega), rfl⟩
  · go_ret
    exact ⟨one (by rw [ab_pos (by assumption)]), rfl⟩
theorem signed_any (n : Int) (s : Bool) (n0 : 0 ≤ n) (n1 : n ≤ 18446744073709551615) (w : World) :
    Calls Tryz.prog 159 #[.int .u64 n, .bool s] w fun e w' => e = .returned (.tuple #[.int .i64 (fitV (sg s n)), .bool (fitB (sg s n))]) ∧ w = w' := by
  cases s
  · by_cases h : n ≤ 9223372036854775807
    · have h1 : decide (n > 9223372036854775808) = false := by simp; omega
      have h2 : (n == 9223372036854775808) = false := by simp; omega
      go_enter Tryz.func159, Tryz.ntmps159
      go_wp2
      go_ret2
      exact ⟨pair (fit_eq (Or.inl ⟨by unfold sg; simp; omega, by unfold sg; simp, rfl⟩)), rfl⟩
    · by_cases h1 : n = 9223372036854775808
      · subst h1
        go_enter Tryz.func159, Tryz.ntmps159
        go_wp2
        go_ret2
        exact ⟨pair (by decide), rfl⟩
      · have h2 : 9223372036854775808 < n := by omega
        go_enter Tryz.func159, Tryz.ntmps159
        go_wp2
        go_ret2
        exact ⟨pair (fit_no (by unfold sg; simp; omega)), rfl⟩
  · by_cases h : n ≤ 9223372036854775808
    · go_enter Tryz.func159, Tryz.ntmps159
      go_wp2
      all_goals
        go_ret2
        exact ⟨pair (fit_eq (Or.inl ⟨by unfold sg; simp; omega, by rw [IntKind.wrap_u64]; unfold wrap64 sg; simp; try omega, rfl⟩)), rfl⟩
    · have h2 : 9223372036854775808 < n := by omega
      go_enter Tryz.func159, Tryz.ntmps159
      go_wp2
      go_ret2
      exact ⟨pair (fit_no (by unfold sg; simp; omega)), rfl⟩
/-- the library's contract for Mul64, laid at this program (the shelf's command prints these numbers) -/
def mulRen : Go.Shelf.Ren := ⟨fun | 264 => 158 | n => n, fun | 53 => 124 | 46 => 101 | n => n, fun | n => n⟩
theorem mulLays : Go.Proofs.Lays.n264 Tryz.prog mulRen := {
  mixed := by kernel_rfl
  f264 := Tryz.func158.trans (congrArg some (by kernel_rfl))
  t46 := Tryz.underlying101
  a46 := Tryz.isAgg101
  z46 := Tryz.sizeOf101
  v46 := Tryz.zeroValue101
  t53 := Tryz.underlying124
  a53 := Tryz.isAgg124
  z53 := Tryz.sizeOf124
  v53 := Tryz.zeroValue124 }
theorem mul64_nat (x y : Nat) (hx : x < 18446744073709551616) (hy : y < 18446744073709551616) (w : World) :
    Calls Tryz.prog 158 #[.int .u64 x, .int .u64 y] w fun e w' => e = .returned (.tuple #[.int .u64 ((x * y / 18446744073709551616 : Nat) : Int), .int .u64 ((x * y % 18446744073709551616 : Nat) : Int)]) ∧ w' = w :=
  Any.bits_Mul64 mulLays x y hx hy w
theorem mul64_any (x y : Int) (x0 : 0 ≤ x) (x1 : x ≤ 18446744073709551615) (y0 : 0 ≤ y) (y1 : y ≤ 18446744073709551615) (w : World) :
    Calls Tryz.prog 158 #[.int .u64 x, .int .u64 y] w fun e w' => e = .returned (.tuple #[.int .u64 (x * y / 18446744073709551616), .int .u64 (x * y % 18446744073709551616)]) ∧ w = w' := by
  obtain ⟨m, rfl⟩ := Int.eq_ofNat_of_zero_le x0
  obtain ⟨n, rfl⟩ := Int.eq_ofNat_of_zero_le y0
  refine (mul64_nat m n (by omega) (by omega) w).mono fun e w' ⟨h, hw⟩ => ⟨?_, hw.symm⟩
  rw [h, ← Int.natCast_mul]
  congr 5 <;> omega
theorem product_any (m n : Int) (s : Bool) (m0 : 0 ≤ m) (m1 : m ≤ 18446744073709551615) (n0 : 0 ≤ n) (n1 : n ≤ 18446744073709551615) (w : World) :
    Calls Tryz.prog 156 #[.int .u64 m, .int .u64 n, .bool s] w fun e w' => e = .returned (.tuple #[.int .i64 (fitV (sg s (m * n))), .bool (fitB (sg s (m * n)))]) ∧ w = w' := by
  have p0 : 0 ≤ m * n := Int.mul_nonneg m0 n0
  have hm := fun (w : World) => mul64_any m n m0 m1 n0 n1 w
  have hs := fun (k : Int) (k0 : 0 ≤ k) (k1 : k ≤ 18446744073709551615) (w : World) => signed_any k s k0 k1 w
  generalize m * n = p at *
  go_enter Tryz.func156, Tryz.ntmps156
  go_wp2_with (first | (go_at_call 158; refine (hm _).mono ?_; rintro e w' ⟨rfl, rfl⟩) | (go_at_call 159; refine (hs _ (by omega) (by omega) _).mono ?_; rintro e w' ⟨rfl, rfl⟩))
  · rename_i h
    simp only [bne_iff_ne, ne_eq] at h
    go_ret2
    exact ⟨pair (fit_no (by unfold sg; split <;> omega)), rfl⟩
  · rename_i h
    simp only [bne_eq_false_iff_eq] at h
    have e : p % 18446744073709551616 = p := by omega
    go_ret2
    exact ⟨pair (by rw [e]; exact ⟨rfl, rfl⟩), rfl⟩
theorem mul_any (a b : Int) (a0 : -9223372036854775808 ≤ a) (a1 : a ≤ 9223372036854775807) (b0 : -9223372036854775808 ≤ b) (b1 : b ≤ 9223372036854775807) (w : World) :
    Calls Tryz.prog 152 #[.int .i64 a, .int .i64 b] w fun e w' => e = .returned (.tuple #[.int .i64 (fitV (a * b)), .bool (fitB (a * b))]) ∧ w = w' := by
  have e : sg (!decide (a < 0) == decide (b < 0)) (ab a * ab b) = a * b := by
    unfold sg
    by_cases h1 : a < 0
    · by_cases h2 : b < 0
      · simp [h1, h2, ab_neg h1, ab_neg h2, Int.neg_mul_neg]
      · simp [h1, h2, ab_neg h1, ab_pos (by omega : 0 ≤ b), Int.neg_mul]
    · by_cases h2 : b < 0
      · simp [h1, h2, ab_pos (by omega : 0 ≤ a), ab_neg h2, Int.mul_neg]
      · simp [h1, h2, ab_pos (by omega : 0 ≤ a), ab_pos (by omega : 0 ≤ b)]
  have ba := ab_bd a0 a1
  have bb := ab_bd b0 b1
  have hp := fun (w : World) => product_any (ab a) (ab b) (!decide (a < 0) == decide (b < 0)) ba.1 (by omega) bb.1 (by omega) w
  rw [e] at hp
  clear e
  go_enter Tryz.func152, Tryz.ntmps152
  go_wp2_with (first | (go_at_call 156; refine (hp _).mono ?_; rintro e w' ⟨rfl, rfl⟩) | (go_at_call 157; refine (size_any _ (by assumption) (by assumption) _).mono ?_; rintro e w' ⟨rfl, rfl⟩))
  go_ret2
  exact ⟨rfl, rfl⟩
theorem leading_any (s : ByteArray) (w : World) (hs : s.size ≤ 9223372036854775807) :
    Calls Tryz.prog 151 #[.string s] w fun e w' => e = .returned (.int .i64 (lead s.data.toList)) ∧ w = w' := by
  have H : ∀ k, (s.data.toList.take k).all isD = true → k ≤ s.size → (∀ h : k < s.size, isD s[k] = false) → lead s.data.toList = k := fun k h1 h2 h3 => lead_of h1 (by rw [len_list]; exact h2) (fun h => h3 (by rw [len_list] at h; exact h))
  go_enter Tryz.func151, Tryz.ntmps151
  go_wp2
  go_step3
  go_wp2
  go_step3
  go_wp2
  go_loop [3] (fun n => ∃ k : Nat, k ≤ s.size ∧ n = .int .i64 k ∧ Hid ((s.data.toList.take k).all isD = true)) (fun n => s.size - (intOf n).toNat)
  case atStart => exact ⟨0, by omega, rfl, by simp [Hid]⟩
  case round =>
    obtain ⟨k, hk, rfl, hd⟩ := hrel
    by_cases hlt : k < s.size
    · have hc : Hid (s.data.toList.take (k + 1) = s.data.toList.take k ++ [s[k]]) := take_snoc s k hlt
      by_cases hD : isD s[k] = true
      · have hdd := isD_iff.1 hD
        have hcc : s[k].toNat = 48 ∨ s[k].toNat = 49 ∨ s[k].toNat = 50 ∨ s[k].toNat = 51 ∨ s[k].toNat = 52 ∨ s[k].toNat = 53 ∨ s[k].toNat = 54 ∨ s[k].toNat = 55 ∨ s[k].toNat = 56 ∨ s[k].toNat = 57 := by omega
        have hall : Hid ((s.data.toList.take (k + 1)).all isD = true) := by
          show _ = _
          rw [hc.out, List.all_append, hd.out, List.all_cons, hD]; rfl
        clear hdd hc hd hD H
        rcases hcc with hcc | hcc | hcc | hcc | hcc | hcc | hcc | hcc | hcc | hcc
        all_goals
          go_wp2
          go_round
          case rel => exact ⟨k + 1, by omega, by go_num, hall⟩
          case measure => simp [intOf]; omega
      · have hn : ∀ j : Nat, 48 ≤ j → j ≤ 57 → ((s[k].toNat : Int) == j) = false := by
          intro j h1 h2
          apply beq_no'
          intro e
          exact hD (isD_iff.2 (by omega))
        have n0 := hn 48 (by omega) (by omega)
        have n1 := hn 49 (by omega) (by omega)
        have n2 := hn 50 (by omega) (by omega)
        have n3 := hn 51 (by omega) (by omega)
        have n4 := hn 52 (by omega) (by omega)
        have n5 := hn 53 (by omega) (by omega)
        have n6 := hn 54 (by omega) (by omega)
        have n7 := hn 55 (by omega) (by omega)
        have n8 := hn 56 (by omega) (by omega)
        have n9 := hn 57 (by omega) (by omega)
        have hr := Lib.hid (H k hd.out hk (fun _ => by simpa using hD))
        clear hn hD hc hd H
        go_wp2
        try rw [Exit.noGoto_ret]
        go_ret
        exact ⟨one (by rw [hr.out]), rfl⟩
    · have hr := Lib.hid (H k hd.out hk (fun h => absurd h hlt))
      clear H hd
      go_wp2
      try rw [Exit.noGoto_ret]
      go_ret
      exact ⟨one (by rw [hr.out]), rfl⟩
theorem plain_any (s : ByteArray) (w : World) (hs : s.size ≤ 9223372036854775807) :
    Calls Tryz.prog 141 #[.string s] w fun e w' => e = .returned (.bool (plainB s.data.toList)) ∧ w = w' := by
  have c1 := fun (w : World) => leading_any s w hs
  by_cases h0 : s.data.toList = []
  · have he : plainB s.data.toList = false := by rw [h0]; rfl
    rw [he]
    have h1 : s.toList = [] := by rw [ByteArray.toList_eq]; exact h0
    have h2 : s.toList.isEmpty = true := by rw [h1]; rfl
    clear c1 h0 he
    go_enter Tryz.func141, Tryz.ntmps141
    go_wp2
    go_ret
    exact ⟨rfl, rfl⟩
  · have hp : 0 < s.size := by rw [← len_list]; exact List.length_pos_iff.2 h0
    have h1 : ¬ s.toList = [] := by rw [ByteArray.toList_eq]; exact h0
    have h2 : s.toList.isEmpty = false := by simp [h1]
    by_cases ha : s.data.toList.all isD = true
    · have hl : lead s.data.toList = s.size := by rw [← len_list]; exact (lead_all _).2 ha
      rw [hl] at c1
      have hh := head_at s hp
      by_cases h48 : s[0].toNat = 48
      · have hh2 : s.data.toList.head? = some 48 := by rw [hh]; congr 1; exact UInt8.toNat_inj.1 h48
        by_cases h3 : s.size = 1
        · have he : plainB s.data.toList = true := plain_of h0 ha (Or.inr (by rw [len_list]; exact h3))
          rw [he]
          have h4 : ((s.size : Int) == 1) = true := beq_yes' (by omega)
          have h5 : ((s[0].toNat : Int) == 48) = true := beq_yes' (by omega)
          have h6 : ((s[0].toNat : Int) != 48) = false := by simp [h48]
          have hsz := Lib.hid h3
          clear h0 hl ha hh hh2 he h3 h48
          go_enter Tryz.func141, Tryz.ntmps141
          go_wp2_with (go_at_call 151; ((with_reducible refine (c1 _).mono ?_); rintro e w' ⟨rfl, rfl⟩))
          go_ret
          exact ⟨rfl, rfl⟩
        · have he : plainB s.data.toList = false := plain_no2 hh2 (by rw [len_list]; exact h3)
          rw [he]
          have h4 : ((s.size : Int) == 1) = false := beq_no' (by omega)
          have h5 : ((s[0].toNat : Int) == 48) = true := beq_yes' (by omega)
          have h6 : ((s[0].toNat : Int) != 48) = false := by simp [h48]
          clear h0 hl ha hh hh2 he h3 h48
          go_enter Tryz.func141, Tryz.ntmps141
          go_wp2_with (go_at_call 151; ((with_reducible refine (c1 _).mono ?_); rintro e w' ⟨rfl, rfl⟩))
          go_ret
          exact ⟨rfl, rfl⟩
      · have he : plainB s.data.toList = true := plain_of h0 ha (Or.inl (by rw [hh]; intro e; simp at e; rw [e] at h48; exact h48 rfl))
        rw [he]
        have h5 : ((s[0].toNat : Int) == 48) = false := beq_no' (by omega)
        have h6 : ((s[0].toNat : Int) != 48) = true := by simp; omega
        clear h0 hl ha hh he h48
        go_enter Tryz.func141, Tryz.ntmps141
        go_wp2_with (go_at_call 151; ((with_reducible refine (c1 _).mono ?_); rintro e w' ⟨rfl, rfl⟩))
        go_ret
        exact ⟨rfl, rfl⟩
    · have he : plainB s.data.toList = false := plain_no1 (by simpa using ha)
      rw [he]
      have hl : lead s.data.toList ≠ s.size := by rw [← len_list]; intro e; exact ha ((lead_all _).1 e)
      generalize lead s.data.toList = m at *
      have h4 : ((m : Int) == (s.size : Int)) = false := beq_no' (by omega)
      have h5 : ((m : Int) != (s.size : Int)) = true := by simp; omega
      have h7 : (m == s.size) = false := by simp [hl]
      have h8 : (m != s.size) = true := by simp [hl]
      clear h0 hl ha he
      go_enter Tryz.func141, Tryz.ntmps141
      go_wp2_with (go_at_call 151; ((with_reducible refine (c1 _).mono ?_); rintro e w' ⟨rfl, rfl⟩))
      go_ret
      exact ⟨rfl, rfl⟩
set_option maxHeartbeats 1000000 in
theorem negative_any (s : ByteArray) (w : World) (hs : s.size ≤ 9223372036854775807) (hD : s.data.toList.all isD = true) :
    Calls Tryz.prog 142 #[.string s] w fun e w' => e = .returned (.tuple #[.int .i64 (fitV (-(val s.data.toList : Int))), .bool (fitB (-(val s.data.toList : Int)))]) ∧ w = w' := by
  have hdig : ∀ k (h : k < s.size), 48 ≤ s[k].toNat ∧ s[k].toNat ≤ 57 := fun k h => isD_iff.1 (List.all_eq_true.1 hD _ (by rw [← at_list s k h]; exact List.getElem_mem _))
  have hend : s.data.toList.take s.size = s.data.toList := by rw [← len_list]; exact List.take_length
  have hlow : ∀ k, val (s.data.toList.take k) ≤ val s.data.toList := fun k => val_take_le
  have hst : ∀ k (h : k < s.size), val (s.data.toList.take (k + 1)) = 10 * val (s.data.toList.take k) + (s[k].toNat - 48) := fun k h => by rw [take_snoc s k h, val_snoc]
  obtain ⟨V, hV⟩ : ∃ V : Nat → Nat, ∀ k, val (s.data.toList.take k) = V k := ⟨fun k => val (s.data.toList.take k), fun k => rfl⟩
  have hV0 : V 0 = 0 := by rw [← hV]; rfl
  obtain ⟨T, hT⟩ : ∃ T, val s.data.toList = T := ⟨_, rfl⟩
  have hVT : V s.size = T := by rw [← hV, hend, hT]
  simp only [hV, hT] at hlow hst
  rw [hT]
  clear hV hT hend hD
  have Hst := Lib.hid hst
  have HVT := Lib.hid hVT
  have HV0 := Lib.hid hV0
  clear hst hVT hV0
  go_enter Tryz.func142, Tryz.ntmps142
  go_wp2
  go_loop [4, 5, 6] (fun n o i => ∃ k : Nat, k ≤ s.size ∧ i = .int .i64 k ∧ n = .int .i64 (fitV (-(V k : Int))) ∧ o = .bool (fitB (-(V k : Int)))) (fun _ _ i => s.size - (intOf i).toNat)
  case atStart => exact ⟨0, by omega, rfl, by rw [HV0.out]; rfl, by rw [HV0.out]; rfl⟩
  case round =>
    obtain ⟨k, hk, rfl, rfl, rfl⟩ := hrel
    cases hf : fitB (-(V k : Int)) with
    | false =>
      obtain ⟨f1, f2⟩ := fit_low (hlow k) hf
      rw [(fit_low (Nat.le_refl (V k)) hf).1]
      have g1 := Lib.hid f1
      have g2 := Lib.hid f2
      clear hf hlow hdig f1 f2
      go_wp2
      go_ret2
      exact ⟨pair2 ⟨g1.out, g2.out⟩, rfl⟩
    | true =>
      have hb := of_decide_eq_true (show decide _ = true from hf)
      rw [(fit_yes hb).1]
      by_cases hlt : k < s.size
      · have hc := hdig k hlt
        have hs1 := Hst.out k hlt
        obtain ⟨c1, c2⟩ := hc
        have hm := fun (w : World) => mul_any (-(V k : Int)) 10 hb.1 hb.2 (by omega) (by omega) w
        obtain ⟨b1, b2⟩ := hb
        by_cases hf2 : fitB (-(V k : Int) * 10) = true
        · have hb2 := of_decide_eq_true (show decide _ = true from hf2)
          rw [(fit_yes hb2).1, hf2] at hm
          have hsb := fun (w : World) => sub_any (-(V k : Int) * 10) ((s[k].toNat : Int) - 48) hb2.1 hb2.2 (by omega) (by omega) w
          rw [show -(V k : Int) * 10 - ((s[k].toNat : Int) - 48) = -(V (k + 1) : Int) by omega] at hsb
          obtain ⟨b3, b4⟩ := hb2
          clear hf hf2 hlow hdig hs1
          generalize -(V k : Int) * 10 = p at *
          generalize -(V k : Int) = q at *
          go_wp2_with (first | (go_at_call 152; ((with_reducible refine (hm _).mono ?_); rintro e w' ⟨rfl, rfl⟩)) | (go_at_call 153; ((with_reducible refine (hsb _).mono ?_); rintro e w' ⟨rfl, rfl⟩)))
          go_round
          case rel => exact ⟨k + 1, by omega, by go_num, rfl, rfl⟩
          case measure => simp [intOf]; omega
        · have hf3 : fitB (-(V k : Int) * 10) = false := by simpa using hf2
          have hno := of_decide_eq_false (show decide _ = false from hf3)
          have hz := fit_no hno
          rw [hz.1, hf3] at hm
          have hz2 : fitV (-(V (k + 1) : Int)) = 0 ∧ fitB (-(V (k + 1) : Int)) = false := fit_no (by omega)
          have f1 := Lib.hid hz2.1
          have f2 := Lib.hid hz2.2
          clear hf hf2 hlow hdig hs1 hz hz2 hno hf3
          generalize -(V k : Int) = q at *
          go_wp2_with (first | (go_at_call 152; ((with_reducible refine (hm _).mono ?_); rintro e w' ⟨rfl, rfl⟩)))
          go_round
          case rel => exact ⟨k + 1, by omega, by go_num, by rw [f1.out], by rw [f2.out]⟩
          case measure => simp [intOf]; omega
      · have hkk : k = s.size := by omega
        have f1 : Hid (fitV (-(T : Int)) = -(V k : Int)) := by
          show _ = _
          rw [← HVT.out, ← hkk, (fit_yes hb).1]
        have f2 : Hid (fitB (-(T : Int)) = true) := by
          show _ = _
          rw [← HVT.out, ← hkk, hf]
        clear hf hlow hdig hb hkk
        generalize -(V k : Int) = q at *
        go_wp2
        go_ret2
        exact ⟨pair2 ⟨f1.out, f2.out⟩, rfl⟩
theorem cut_any (s : ByteArray) (w : World) :
    Calls Tryz.prog 96 #[.string s, .string ⟨#[45]⟩] w fun e w' => e = .returned (.tuple #[.string (BA (body s.data.toList)), .bool (isNeg s.data.toList)]) ∧ w = w' := by
  refine (Tryz.strings_CutPrefix s ⟨#[45]⟩ w).mono fun e w' ⟨h, hw⟩ => ⟨?_, hw.symm⟩
  have h1 : Lib.hasPrefix s.data.toList [45] = isNeg s.data.toList := by
    unfold Lib.hasPrefix isNeg
    cases s.data.toList with
    | nil => rfl
    | cons c r => simp [List.isPrefixOf, Bool.beq_comm (a := c)]
  have h2 : Lib.trimPrefix s.data.toList [45] = body s.data.toList := by
    unfold Lib.trimPrefix body
    rw [h1]
    simp
  rw [h]
  show Ending.returned (.tuple #[.string ⟨(Lib.trimPrefix s.data.toList [45]).toArray⟩, .bool (Lib.hasPrefix s.data.toList [45])]) = _
  rw [h1, h2]; rfl
set_option maxHeartbeats 1000000 in
theorem read_any (s : ByteArray) (w : World) (hs : s.size ≤ 9223372036854775807) :
    Calls Tryz.prog 125 #[.string s] w fun e w' => e = .returned (.tuple #[.int .i64 (rdV s.data.toList), .int .i64 (rdE s.data.toList)]) ∧ w = w' := by
  have hsz : (BA (body s.data.toList)).size ≤ 9223372036854775807 := by
    rw [BA_size]; have := body_len s.data.toList; rw [len_list] at this; omega
  have c0 := fun (w : World) => cut_any s w
  have c1 := fun (w : World) => plain_any (BA (body s.data.toList)) w hsz
  have c2 := fun (w : World) (h : (body s.data.toList).all isD = true) => negative_any (BA (body s.data.toList)) w hsz h
  simp only [BA_list] at c1 c2
  have e1 := @rd_form1 s.data.toList
  have e2 := @rd_form2 s.data.toList
  have e3 := @rd_neg s.data.toList
  have e4 := @rd_pos s.data.toList
  generalize rdV s.data.toList = v at *
  generalize rdE s.data.toList = e at *
  generalize isNeg s.data.toList = g at *
  have hall := @plain_all (body s.data.toList)
  have ht := BA_toList (body s.data.toList)
  generalize body s.data.toList = b at *
  generalize hB : BA b = t at *
  clear hB
  cases hp : plainB b with
  | false =>
    obtain ⟨rfl, rfl⟩ := e1 hp
    rw [hp] at c1
    clear e1 e2 e3 e4 hp hall ht c2
    go_enter Tryz.func125, Tryz.ntmps125
    go_wp2_with (first | (go_at_call 96; ((with_reducible refine (c0 _).mono ?_); rintro e w' ⟨rfl, rfl⟩)) | (go_at_call 141; ((with_reducible refine (c1 _).mono ?_); rintro e w' ⟨rfl, rfl⟩)))
    go_ret2
    exact ⟨rfl, rfl⟩
  | true =>
    rw [hp] at c1
    have c2 := fun (w : World) => c2 w (hall hp)
    cases g with
    | true =>
      by_cases hb : b = [48]
      · obtain ⟨rfl, rfl⟩ := e2 rfl hb
        have ht1 : t.toList = [48] := by rw [ht]; exact hb
        clear e1 e2 e3 e4 hp hall ht c2 hb
        go_enter Tryz.func125, Tryz.ntmps125
        go_wp2_with (first | (go_at_call 96; ((with_reducible refine (c0 _).mono ?_); rintro e w' ⟨rfl, rfl⟩)) | (go_at_call 141; ((with_reducible refine (c1 _).mono ?_); rintro e w' ⟨rfl, rfl⟩)))
        go_ret2
        exact ⟨rfl, rfl⟩
      · obtain ⟨rfl, rfl⟩ := e3 hp rfl hb
        have ht1 : (t.toList = [48]) = False := by rw [ht]; simp [hb]
        have ht2 : (t.toList == [48]) = false := by rw [ht]; simp [hb]
        clear e1 e2 e3 e4 hp hall ht hb
        have hx := fit_zero (-(val b : Int))
        generalize fitV (-(val b : Int)) = x at *
        generalize fitB (-(val b : Int)) = y at *
        cases y
        all_goals
          try (obtain rfl := hx rfl)
          clear hx
          go_enter Tryz.func125, Tryz.ntmps125
          go_wp2_with (first | (go_at_call 96; ((with_reducible refine (c0 _).mono ?_); rintro e w' ⟨rfl, rfl⟩)) | (go_at_call 141; ((with_reducible refine (c1 _).mono ?_); rintro e w' ⟨rfl, rfl⟩)) | (go_at_call 142; ((with_reducible refine (c2 _).mono ?_); rintro e w' ⟨rfl, rfl⟩)))
          go_ret2
          exact ⟨rfl, rfl⟩
    | false =>
      obtain ⟨rfl, rfl⟩ := e4 hp rfl
      have hv : 0 ≤ (val b : Int) := by omega
      clear e1 e2 e3 e4 hp hall ht
      generalize (val b : Int) = z at *
      cases hf : fitB (-z) with
      | true =>
        have hb := of_decide_eq_true (show decide _ = true from hf)
        rw [(fit_yes hb).1, hf] at c2
        have c3 := fun (w : World) => neg_any (-z) hb.1 hb.2 w
        rw [Int.neg_neg] at c3
        clear hf hb
        have hx := fit_zero z
        generalize -z = z' at *
        generalize fitV z = x at *
        generalize fitB z = y at *
        cases y
        all_goals
          try (obtain rfl := hx rfl)
          clear hx
          go_enter Tryz.func125, Tryz.ntmps125
          go_wp2_with (first | (go_at_call 96; ((with_reducible refine (c0 _).mono ?_); rintro e w' ⟨rfl, rfl⟩)) | (go_at_call 141; ((with_reducible refine (c1 _).mono ?_); rintro e w' ⟨rfl, rfl⟩)) | (go_at_call 142; ((with_reducible refine (c2 _).mono ?_); rintro e w' ⟨rfl, rfl⟩)) | (go_at_call 143; ((with_reducible refine (c3 _).mono ?_); rintro e w' ⟨rfl, rfl⟩)))
          go_ret2
          exact ⟨rfl, rfl⟩
      | false =>
        have hn := of_decide_eq_false (show decide _ = false from hf)
        obtain ⟨z1, z2⟩ := fit_no hn
        have hn2 : ¬(-9223372036854775808 ≤ z ∧ z ≤ 9223372036854775807) := by omega
        obtain ⟨z3, z4⟩ := fit_no hn2
        rw [z1, z2] at c2
        rw [z3, z4]
        clear hf hn z1 z2 hn2 z3 z4 hv
        go_enter Tryz.func125, Tryz.ntmps125
        go_wp2_with (first | (go_at_call 96; ((with_reducible refine (c0 _).mono ?_); rintro e w' ⟨rfl, rfl⟩)) | (go_at_call 141; ((with_reducible refine (c1 _).mono ?_); rintro e w' ⟨rfl, rfl⟩)) | (go_at_call 142; ((with_reducible refine (c2 _).mono ?_); rintro e w' ⟨rfl, rfl⟩)))
        go_ret2
        exact ⟨rfl, rfl⟩
/-- the library's table reads as it was laid, in every world that has grown since W -/
def Tab (W : World) : Prop := Lib.TabBelow Tryz.prog W.heap.size W "internal/strconv.uint64pow10" .u64 Lib.pow10Tab
theorem text_any {W : World} (HT : Tab W) (n : Int) (n0 : -9223372036854775808 ≤ n) (n1 : n ≤ 9223372036854775807) (w : World) (hw : Below W.heap.size W w) :
    Calls Tryz.prog 75 #[.int .i64 n] w fun e w' => e = .returned (.string (BA (Lib.itoa n))) ∧ Below W.heap.size W w' := by
  have c1 : Calls Tryz.prog 93 #[.int .i64 n, .int .i64 10] w fun e w' => e = .returned (.string (BA (Lib.itoa n))) ∧ Below W.heap.size W w' := by
    refine (Tryz.strconv_FormatInt_10 n n0 n1 w (HT w hw)).mono fun e w' ⟨h, k, os, hk⟩ => ⟨h, ?_⟩
    rw [hk]
    exact hw.trans (Lib.below_grow _ w hw.size k os)
  clear HT
  go_enter Tryz.func75, Tryz.ntmps75
  go_wp2_with (go_at_call 93; ((with_reducible refine c1.mono ?_); rintro e w' ⟨rfl, hw'⟩))
  go_ret
  exact ⟨rfl, hw'⟩
end Go.Proofs.YthchjceibpcgbaaGreatDoor.Dig
