/-
  What is proved: plain mathematics of decimal digits: which texts are the digits of a number, which number, that digits and numbers tell one another.
-/
import Derived.Lib.ItoaNum
import Derived.Lib.Strings
import GoSem.Op.String
namespace Go.Proofs.YthchjceibpcgbaaDoor.Dig
open Go.Lib

def isD (c : UInt8) : Bool := decide (48 ≤ c.toNat) && decide (c.toNat ≤ 57)
def val (l : List UInt8) : Nat := l.foldl (fun n c => 10 * n + (c.toNat - 48)) 0
def plainB (l : List UInt8) : Bool := !l.isEmpty && l.all isD && (l.head? != some 48 || l.length == 1)

theorem isD_iff {c : UInt8} : isD c = true ↔ 48 ≤ c.toNat ∧ c.toNat ≤ 57 := by simp [isD]
theorem isD_of {k : Nat} (h : k < 10) : isD (UInt8.ofNat (48 + k)) = true := by
  rw [isD_iff, UInt8.toNat_ofNat']; omega
theorem toNat_of {k : Nat} (h : k < 10) : (UInt8.ofNat (48 + k)).toNat - 48 = k := by
  rw [UInt8.toNat_ofNat']; omega
theorem of_toNat {c : UInt8} (h : isD c = true) : UInt8.ofNat (48 + (c.toNat - 48)) = c := by
  have h := isD_iff.1 h
  rw [show 48 + (c.toNat - 48) = c.toNat by omega, UInt8.ofNat_toNat]

theorem val_nil : val [] = 0 := rfl
theorem val_one (c : UInt8) : val [c] = c.toNat - 48 := by simp [val]
theorem val_snoc (l : List UInt8) (c : UInt8) : val (l ++ [c]) = 10 * val l + (c.toNat - 48) := by simp [val]
theorem fold_add (l : List UInt8) : ∀ n, l.foldl (fun n c => 10 * n + (c.toNat - 48)) n = n * 10 ^ l.length + val l := by
  induction l with
  | nil => intro n; simp [val]
  | cons c l ih =>
    intro n
    rw [val, List.foldl_cons, List.foldl_cons, ih, ih (10 * 0 + (c.toNat - 48)), List.length_cons, Nat.pow_succ]
    rw [Nat.add_mul, Nat.mul_zero, Nat.zero_add]
    have : 10 * n * 10 ^ l.length = n * (10 ^ l.length * 10) := by
      rw [Nat.mul_comm 10 n, Nat.mul_assoc, Nat.mul_comm 10]
    omega
theorem val_cons (c : UInt8) (l : List UInt8) : val (c :: l) = (c.toNat - 48) * 10 ^ l.length + val l := by
  rw [val, List.foldl_cons, fold_add]; simp
theorem val_lt {l : List UInt8} (h : l.all isD = true) : val l < 10 ^ l.length := by
  induction l with
  | nil => simp [val]
  | cons c l ih =>
    simp only [List.all_cons, Bool.and_eq_true] at h
    have hc := isD_iff.1 h.1
    have hl := ih h.2
    rw [val_cons, List.length_cons, Nat.pow_succ]
    have : (c.toNat - 48) * 10 ^ l.length ≤ 9 * 10 ^ l.length := Nat.mul_le_mul_right _ (by omega)
    omega
theorem val_ge {l : List UInt8} (h : plainB l = true) (h1 : l.head? ≠ some 48) : 10 ^ (l.length - 1) ≤ val l := by
  cases l with
  | nil => simp [plainB] at h
  | cons c l =>
    simp only [plainB, List.all_cons, Bool.and_eq_true] at h
    have hc := isD_iff.1 h.1.2.1
    have : c.toNat ≠ 48 := fun e => h1 (by simp; exact UInt8.toNat_inj.1 e)
    rw [val_cons, List.length_cons, Nat.add_sub_cancel]
    have : 1 * 10 ^ l.length ≤ (c.toNat - 48) * 10 ^ l.length := Nat.mul_le_mul_right _ (by omega)
    omega
theorem plain_head {l : List UInt8} (h : plainB l = true) (h1 : 2 ≤ l.length) : l.head? ≠ some 48 := by
  simp only [plainB, Bool.and_eq_true, Bool.or_eq_true] at h
  rcases h.2 with h | h
  · simpa using h
  · simp at h; omega
theorem plain_all {l : List UInt8} (h : plainB l = true) : l.all isD = true := by
  simp only [plainB, Bool.and_eq_true] at h; exact h.1.2
theorem plain_pos {l : List UInt8} (h : plainB l = true) : 0 < l.length := by
  cases l with
  | nil => simp [plainB] at h
  | cons => simp

/-! ### less: of two numbers' digits -/
theorem bytesLess_val : ∀ (a b : List UInt8), a.length = b.length → a.all isD = true → b.all isD = true → Go.Op.bytesLess a b = decide (val a < val b)
  | [], [], _, _, _ => by simp [Go.Op.bytesLess]
  | [], _ :: _, h, _, _ => by simp at h
  | _ :: _, [], h, _, _ => by simp at h
  | x :: a, y :: b, h, ha, hb => by
    simp only [List.all_cons, Bool.and_eq_true] at ha hb
    have hl : a.length = b.length := by simpa using h
    have ih := bytesLess_val a b hl ha.2 hb.2
    have va := val_lt ha.2
    have vb := val_lt hb.2
    have hx := isD_iff.1 ha.1
    have hy := isD_iff.1 hb.1
    rw [Go.Op.bytesLess, ih, val_cons, val_cons, hl]
    rw [hl] at va
    by_cases e : x = y
    · subst e
      simp
    · have ne : x.toNat ≠ y.toNat := fun e' => e (UInt8.toNat_inj.1 e')
      have e2 : (x == y) = false := by simp [e]
      rw [e2, Bool.false_and, Bool.or_false]
      apply decide_eq_decide.2
      rw [UInt8.lt_iff_toNat_lt]
      generalize 10 ^ b.length = p at *
      constructor
      · intro hlt
        have : (x.toNat - 48 + 1) * p ≤ (y.toNat - 48) * p := Nat.mul_le_mul_right _ (by omega)
        rw [Nat.add_mul] at this
        omega
      · intro hlt
        apply Classical.byContradiction
        intro hge
        have : (y.toNat - 48 + 1) * p ≤ (x.toNat - 48) * p := Nat.mul_le_mul_right _ (by omega)
        rw [Nat.add_mul] at this
        omega

/-- what 'less' answers -/
def lessB (a b : List UInt8) : Bool := if a.length = b.length then Go.Op.bytesLess a b else decide (a.length < b.length)
theorem lessB_val {a b : List UInt8} (ha : plainB a = true) (hb : plainB b = true) : lessB a b = decide (val a < val b) := by
  unfold lessB
  by_cases h : a.length = b.length
  · rw [if_pos h, bytesLess_val a b h (plain_all ha) (plain_all hb)]
  · rw [if_neg h]
    apply decide_eq_decide.2
    have pa := plain_pos ha
    have pb := plain_pos hb
    have va := val_lt (plain_all ha)
    have vb := val_lt (plain_all hb)
    constructor
    · intro hlt
      have := val_ge hb (plain_head hb (by omega))
      have : 10 ^ a.length ≤ 10 ^ (b.length - 1) := Nat.pow_le_pow_right (by decide) (by omega)
      omega
    · intro hlt
      apply Classical.byContradiction
      intro hge
      have := val_ge ha (plain_head ha (by omega))
      have : 10 ^ b.length ≤ 10 ^ (a.length - 1) := Nat.pow_le_pow_right (by decide) (by omega)
      omega

theorem head_app {a b : List UInt8} (h : a ≠ []) : (a ++ b).head? = a.head? := by
  cases a with
  | nil => exact absurd rfl h
  | cons => rfl
/-! ### the digits of a number -/
theorem dec_all (u : Nat) : (decDigits u).all isD = true := by
  induction u using Nat.strongRecOn with
  | _ u ih =>
    rw [decDigits]
    by_cases h : u < 10
    · rw [dif_pos h, List.all_cons, isD_of h]; rfl
    · rw [dif_neg h, List.all_append, ih _ (by omega), List.all_cons, isD_of (Nat.mod_lt u (by decide : 0 < 10))]; rfl
theorem dec_val (u : Nat) : val (decDigits u) = u := by
  induction u using Nat.strongRecOn with
  | _ u ih =>
    rw [decDigits]
    by_cases h : u < 10
    · rw [dif_pos h, val_one, toNat_of h]
    · rw [dif_neg h, val_snoc, ih _ (by omega), toNat_of (Nat.mod_lt u (by decide : 0 < 10))]; omega
theorem dec_ne (u : Nat) : decDigits u ≠ [] := by
  rw [decDigits]
  by_cases h : u < 10
  · rw [dif_pos h]; simp
  · rw [dif_neg h]; simp
theorem dec_head (u : Nat) (hu : 0 < u) : (decDigits u).head? ≠ some 48 := by
  induction u using Nat.strongRecOn with
  | _ u ih =>
    rw [decDigits]
    by_cases h : u < 10
    · rw [dif_pos h]
      simp only [List.head?_cons, ne_eq, Option.some.injEq]
      intro e
      have := congrArg UInt8.toNat e
      rw [UInt8.toNat_ofNat'] at this
      simp at this
      omega
    · rw [dif_neg h, head_app (dec_ne _)]
      exact ih _ (by omega) (by omega)
theorem dec_plain (u : Nat) : plainB (decDigits u) = true := by
  unfold plainB
  rw [dec_all u]
  have h1 : (decDigits u).isEmpty = false := by
    cases h : decDigits u with
    | nil => exact absurd h (dec_ne u)
    | cons => rfl
  rw [h1]
  by_cases hu : 0 < u
  · have := dec_head u hu
    simp [this]
  · have : u = 0 := by omega
    subst this
    rw [decDigits]; simp
theorem dec_of_val : ∀ (n : Nat) (l : List UInt8), l.length = n → plainB l = true → decDigits (val l) = l
  | 0, l, h, hp => by have := plain_pos hp; omega
  | 1, l, h, hp => by
    obtain ⟨c, rfl⟩ : ∃ c, l = [c] := by
      match l, h with
      | [c], _ => exact ⟨c, rfl⟩
    have hc : isD c = true := by simpa using plain_all hp
    have := isD_iff.1 hc
    rw [val_one, decDigits, dif_pos (by omega), of_toNat hc]
  | n + 2, l, h, hp => by
    obtain ⟨l', c, rfl⟩ : ∃ l' c, l = l' ++ [c] := ⟨l.dropLast, l.getLast (by intro e; simp [e] at h), (List.dropLast_concat_getLast _).symm⟩
    have hl : l'.length = n + 1 := by simpa using h
    have hne : l' ≠ [] := by intro e; simp [e] at hl
    have hh := plain_head hp (by omega)
    rw [head_app hne] at hh
    have ha := plain_all hp
    rw [List.all_append, Bool.and_eq_true] at ha
    have hc : isD c = true := by simpa using ha.2
    have hp' : plainB l' = true := by
      unfold plainB
      rw [ha.1]
      cases l' with
      | nil => exact absurd rfl hne
      | cons => simp at hh; simp [hh]
    have ih := dec_of_val (n + 1) l' hl hp'
    have hv := val_ge hp' hh
    have : 1 ≤ 10 ^ (l'.length - 1) := Nat.one_le_pow _ _ (by decide)
    have hcd := isD_iff.1 hc
    rw [val_snoc, decDigits, dif_neg (by omega)]
    rw [show (10 * val l' + (c.toNat - 48)) / 10 = val l' by omega, show (10 * val l' + (c.toNat - 48)) % 10 = c.toNat - 48 by omega, ih, of_toNat hc]

/-! ### the number whose digits a text is -/
def fitB (n : Int) : Bool := decide (-9223372036854775808 ≤ n ∧ n ≤ 9223372036854775807)
def fitV (n : Int) : Int := if -9223372036854775808 ≤ n ∧ n ≤ 9223372036854775807 then n else 0
theorem fit_yes {n : Int} (h : -9223372036854775808 ≤ n ∧ n ≤ 9223372036854775807) : fitV n = n ∧ fitB n = true := by
  unfold fitB fitV; simp [h]
theorem fit_no {n : Int} (h : ¬(-9223372036854775808 ≤ n ∧ n ≤ 9223372036854775807)) : fitV n = 0 ∧ fitB n = false := by
  unfold fitB fitV; simp [h]
theorem fit_bd (n : Int) : -9223372036854775808 ≤ fitV n ∧ fitV n ≤ 9223372036854775807 := by unfold fitV; split <;> omega
def isNeg (l : List UInt8) : Bool := l.head? == some 45
def body (l : List UInt8) : List UInt8 := if isNeg l then l.tail else l
def isNum (l : List UInt8) : Bool := plainB (body l) && !(isNeg l && body l == [48])
def num (l : List UInt8) : Int := if isNeg l then -(val (body l) : Int) else (val (body l) : Int)
def rdV (l : List UInt8) : Int := if isNum l then fitV (num l) else 0
def rdE (l : List UInt8) : Int := if isNum l then (if fitB (num l) then 0 else 5) else 7

theorem rdV_bd (l : List UInt8) : -9223372036854775808 ≤ rdV l ∧ rdV l ≤ 9223372036854775807 := by
  unfold rdV; split
  · exact fit_bd _
  · omega
theorem rd_ok {l : List UInt8} (h : rdE l = 0) : isNum l = true ∧ fitB (num l) = true ∧ rdV l = num l := by
  unfold rdE at h
  by_cases h1 : isNum l = true
  · rw [if_pos h1] at h
    by_cases h2 : fitB (num l) = true
    · refine ⟨h1, h2, ?_⟩
      unfold rdV; rw [if_pos h1]
      exact (fit_yes (of_decide_eq_true (show decide _ = true from h2))).1
    · rw [if_neg h2] at h; omega
  · rw [if_neg h1] at h; omega
theorem rdE_cases (l : List UInt8) : rdE l = 0 ∨ rdE l = 5 ∨ rdE l = 7 := by
  unfold rdE; split
  · split <;> simp
  · simp
theorem rdV_zero {l : List UInt8} (h : rdE l ≠ 0) : rdV l = 0 := by
  unfold rdE at h
  unfold rdV
  by_cases h1 : isNum l = true
  · rw [if_pos h1] at h ⊢
    by_cases h2 : fitB (num l) = true
    · rw [if_pos h2] at h; omega
    · exact (fit_no (fun h3 => h2 (show decide _ = true from decide_eq_true h3))).1
  · rw [if_neg h1]

theorem dec_noneg (u : Nat) : isNeg (decDigits u) = false := by
  unfold isNeg
  cases h : decDigits u with
  | nil => rfl
  | cons c r =>
    have ha := dec_all u
    rw [h] at ha
    simp only [List.all_cons, Bool.and_eq_true] at ha
    have := isD_iff.1 ha.1
    simp only [List.head?_cons]
    have : c ≠ 45 := by rintro rfl; simp at this
    simp [this]
theorem itoa_pos {n : Int} (h : 0 ≤ n) : itoa n = decDigits n.toNat := by unfold itoa; rw [if_neg (by omega)]
theorem itoa_neg {n : Int} (h : n < 0) : itoa n = 45 :: decDigits n.natAbs := by unfold itoa; rw [if_pos h]
/-- what is written is read as it was -/
theorem num_itoa (n : Int) : isNum (itoa n) = true ∧ num (itoa n) = n := by
  by_cases h : n < 0
  · rw [itoa_neg h]
    have e1 : isNeg (45 :: decDigits n.natAbs) = true := rfl
    have e2 : body (45 :: decDigits n.natAbs) = decDigits n.natAbs := by unfold body; rw [e1]; rfl
    constructor
    · unfold isNum
      rw [e1, e2, dec_plain]
      have : decDigits n.natAbs ≠ [48] := by
        intro e
        have := dec_val n.natAbs
        rw [e] at this
        simp [val] at this
        omega
      simp [this]
    · unfold num
      rw [e1, e2, dec_val]; simp; omega
  · rw [itoa_pos (by omega)]
    have e1 := dec_noneg n.toNat
    have e2 : body (decDigits n.toNat) = decDigits n.toNat := by unfold body; rw [e1]; rfl
    constructor
    · unfold isNum; rw [e1, e2, dec_plain]; rfl
    · unfold num; rw [e1, e2, dec_val]; simp; omega
theorem rd_itoa {n : Int} (h0 : -9223372036854775808 ≤ n) (h1 : n ≤ 9223372036854775807) : rdV (itoa n) = n ∧ rdE (itoa n) = 0 := by
  obtain ⟨e1, e2⟩ := num_itoa n
  obtain ⟨f1, f2⟩ := fit_yes ⟨h0, h1⟩
  unfold rdV rdE
  rw [if_pos e1, if_pos e1, e2, f1, if_pos f2]
  exact ⟨rfl, rfl⟩
/-- what is read is written just so -/
theorem itoa_num {l : List UInt8} (h : isNum l = true) : itoa (num l) = l := by
  unfold isNum at h
  rw [Bool.and_eq_true] at h
  obtain ⟨hp, hz⟩ := h
  have hd := dec_of_val _ (body l) rfl hp
  unfold num
  by_cases hn : isNeg l = true
  · rw [hn] at hz
    rw [if_pos hn]
    have hl : l = 45 :: body l := by
      unfold body; rw [hn]
      cases l with
      | nil => simp [isNeg] at hn
      | cons c r => simp [isNeg] at hn; simp [hn]
    have hv : 0 < val (body l) := by
      apply Classical.byContradiction
      intro h0
      have h0 : val (body l) = 0 := by omega
      rw [h0] at hd
      have : decDigits 0 = [48] := by rw [decDigits]; simp
      rw [this] at hd
      simp [← hd] at hz
    rw [itoa_neg (by omega)]
    rw [show (-(val (body l) : Int)).natAbs = val (body l) by omega, hd]
    exact hl.symm
  · rw [if_neg hn, itoa_pos (by omega), Int.toNat_natCast, hd]
    unfold body; simp [hn]
theorem itoa_rd {l : List UInt8} (h : rdE l = 0) : itoa (rdV l) = l := by
  obtain ⟨h1, _, h3⟩ := rd_ok h
  rw [h3, itoa_num h1]
theorem itoa_inj {a b : Int} (h : itoa a = itoa b) : a = b := by
  have := (num_itoa a).2
  rw [h, (num_itoa b).2] at this
  exact this.symm

/-! ### Nat -/
def ntE (l : List UInt8) (m : Int) : Int := if rdE l = 0 then (if rdV l < 0 ∨ m < rdV l then 5 else 0) else rdE l
def ntV (l : List UInt8) (m : Int) : Int := if ntE l m = 0 then rdV l else 0

/-! ### Index -/
def ixL (l : List UInt8) (n : Int) : List UInt8 := if n ≤ 0 then l else l ++ itoa n

/-! ### Part -/
/-- a number from 1 to 2^31 - 1 -/
def gd (l : List UInt8) : Bool := decide (rdE l = 0 ∧ 1 ≤ rdV l ∧ rdV l ≤ 2147483647)
def cutAt (l : List UInt8) : Option Nat := (List.range l.length).find? fun i => gd (l.drop i)
def ptK (l : List UInt8) : Bool := match cutAt l with | some (_ + 1) => true | _ => false
def ptL (l : List UInt8) : List UInt8 := match cutAt l with | some (i + 1) => l.take (i + 1) | _ => l
def ptN (l : List UInt8) : Int := match cutAt l with | some (i + 1) => rdV (l.drop (i + 1)) | _ => 0

theorem gd_len {l : List UInt8} (h : gd l = true) : l.length ≤ 10 ∧ 0 < l.length ∧ isNeg l = false := by
  obtain ⟨h1, h2, h3⟩ := of_decide_eq_true (show decide _ = true from h)
  obtain ⟨e1, e2, e3⟩ := rd_ok h1
  have hn : isNeg l = false := by
    apply Bool.eq_false_iff.2
    intro hn
    rw [e3] at h2
    unfold num at h2
    rw [if_pos hn] at h2
    omega
  have hb : body l = l := by unfold body; rw [hn]; rfl
  unfold isNum at e1
  rw [Bool.and_eq_true, hb] at e1
  have hp := plain_pos e1.1
  refine ⟨?_, hp, hn⟩
  apply Classical.byContradiction
  intro hgt
  have := val_ge e1.1 (plain_head e1.1 (by omega))
  have : 10 ^ 10 ≤ 10 ^ (l.length - 1) := Nat.pow_le_pow_right (by decide) (by omega)
  rw [e3] at h3
  unfold num at h3
  rw [hn, hb] at h3
  simp at h3
  omega
theorem cut_some {l : List UInt8} {i : Nat} (hi : i < l.length) (hg : gd (l.drop i) = true) (hj : ∀ j, j < i → gd (l.drop j) = false) : cutAt l = some i := by
  unfold cutAt
  rw [List.find?_range_eq_some]
  exact ⟨hg, by simpa using hi, fun j h => by rw [hj j h]; rfl⟩
theorem cut_none {l : List UInt8} (hj : ∀ j, j < l.length → gd (l.drop j) = false) : cutAt l = none := by
  unfold cutAt
  rw [List.find?_eq_none]
  intro j h
  rw [hj j (List.mem_range.1 h)]
  simp
theorem cut_is {l : List UInt8} {i : Nat} (h : cutAt l = some i) : i < l.length ∧ gd (l.drop i) = true := by
  unfold cutAt at h
  rw [List.find?_range_eq_some] at h
  exact ⟨by simpa using h.2.1, h.1⟩
theorem pt_zero {l : List UInt8} (h : cutAt l = some 0 ∨ cutAt l = none) : ptL l = l ∧ ptN l = 0 ∧ ptK l = false := by
  unfold ptL ptN ptK
  rcases h with h | h <;> rw [h] <;> exact ⟨rfl, rfl, rfl⟩
theorem pt_some {l : List UInt8} {i : Nat} (h : cutAt l = some i) (hi : i ≠ 0) : ptL l = l.take i ∧ ptN l = rdV (l.drop i) ∧ ptK l = true := by
  obtain ⟨j, rfl⟩ : ∃ j, i = j + 1 := ⟨i - 1, by omega⟩
  unfold ptL ptN ptK
  rw [h]; exact ⟨rfl, rfl, rfl⟩
/-- either nothing is split, or what is split is put together again -/
theorem pt_cases (l : List UInt8) : (ptK l = false ∧ ptL l = l ∧ ptN l = 0) ∨ (ptK l = true ∧ ptL l ≠ [] ∧ 1 ≤ ptN l ∧ ptN l ≤ 2147483647 ∧ ixL (ptL l) (ptN l) = l) := by
  cases h : cutAt l with
  | none => obtain ⟨a, b, c⟩ := pt_zero (Or.inr h); exact Or.inl ⟨c, a, b⟩
  | some i =>
    by_cases hi : i = 0
    · subst hi; obtain ⟨a, b, c⟩ := pt_zero (Or.inl h); exact Or.inl ⟨c, a, b⟩
    · obtain ⟨a, b, c⟩ := pt_some h hi
      obtain ⟨h1, h2⟩ := cut_is h
      obtain ⟨g1, g2, g3⟩ := of_decide_eq_true (show decide _ = true from h2)
      refine Or.inr ⟨c, ?_, by rw [b]; exact g2, by rw [b]; exact g3, ?_⟩
      · rw [a]; intro e; have := congrArg List.length e; rw [List.length_take, List.length_nil] at this; omega
      · unfold ixL
        rw [a, b, if_neg (by omega), itoa_rd g1, List.take_append_drop]
/-- what is put together is taken apart -/
theorem pt_ix {l : List UInt8} {n : Int} (h0 : 1 ≤ n) (h1 : n ≤ 2147483647) (hl : l ≠ []) (hd : isD (l.getLast hl) = false) :
    ptL (ixL l n) = l ∧ ptN (ixL l n) = n ∧ ptK (ixL l n) = true := by
  have e : ixL l n = l ++ itoa n := by unfold ixL; rw [if_neg (by omega)]
  rw [e]
  obtain ⟨r1, r2⟩ := rd_itoa (n := n) (by omega) (by omega)
  have hlen : 0 < l.length := by cases l with | nil => exact absurd rfl hl | cons => simp
  have hne : itoa n ≠ [] := by rw [itoa_pos (by omega)]; exact dec_ne _
  have hc : cutAt (l ++ itoa n) = some l.length := by
    apply cut_some
    · have : 0 < (itoa n).length := by cases h : itoa n with | nil => exact absurd h hne | cons => simp
      simp; omega
    · rw [List.drop_left]
      exact decide_eq_true ⟨r2, by omega, by omega⟩
    · intro j hj
      apply Bool.eq_false_iff.2
      intro hg
      obtain ⟨_, _, hn⟩ := gd_len hg
      obtain ⟨g1, _, _⟩ := of_decide_eq_true (show decide _ = true from hg)
      obtain ⟨i1, _, _⟩ := rd_ok g1
      unfold isNum at i1
      rw [Bool.and_eq_true] at i1
      have hb : body (List.drop j (l ++ itoa n)) = List.drop j (l ++ itoa n) := by unfold body; rw [hn]; rfl
      rw [hb] at i1
      have ha := plain_all i1.1
      rw [List.drop_append_of_le_length (by omega), List.all_append, Bool.and_eq_true] at ha
      have hm : l.getLast hl ∈ l.drop j := by
        have h2 : l.drop j ≠ [] := by intro e; have := congrArg List.length e; simp at this; omega
        have := List.getLast_mem h2
        rwa [List.getLast_drop h2] at this
      have := List.all_eq_true.1 ha.1 _ hm
      rw [hd] at this
      exact absurd this (by decide)
  obtain ⟨a, b, c⟩ := pt_some hc (by omega)
  rw [a, b, c, List.take_left, List.drop_left, r1]
  exact ⟨rfl, rfl, rfl⟩
end Go.Proofs.YthchjceibpcgbaaDoor.Dig
