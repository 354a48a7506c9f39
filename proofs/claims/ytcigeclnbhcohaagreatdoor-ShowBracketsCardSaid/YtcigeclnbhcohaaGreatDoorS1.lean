/-
  What is proved: the mathematics of printing: the text of a term and of a claim as functions of trees, and their lengths.
  What is proved: the mathematics of printing, second part: names that are not taken; the text of a claim; the lengths of texts.
  What is proved: which texts are words, by the document's answer.
-/
import Derived.Test.YtcigeclnbhcohaaGreatDoorBC
import Derived.Test.YtcigeclnbhcohaaGreatDoorBL
import Derived.Lib.Join
import Derived.Lib.ItoaNum
import Derived.Test.YtcigeclnbhcohaaGreatDoorL2
import Derived.Lib.ItoaLen
namespace Go.Proofs.YtcigeclnbhcohaaGreatDoor.Sh
open Go.RowKit L T C
set_option linter.unusedVariables false
set_option linter.unusedSimpArgs false

/-! pieces of text -/
def par (b : Bool) (s : ByteArray) : ByteArray := if b = true then ⟨#[40]⟩ ++ s ++ ⟨#[41]⟩ else s
theorem par_t (s : ByteArray) : par true s = ⟨#[40]⟩ ++ s ++ ⟨#[41]⟩ := rfl
theorem par_f (s : ByteArray) : par false s = s := rfl
theorem par_size (b : Bool) (s : ByteArray) : (par b s).size ≤ s.size + 2 := by
  cases b
  · rw [par_f]; omega
  · rw [par_t, ByteArray.size_append, ByteArray.size_append]; show 1 + s.size + 1 ≤ _; omega
def dig (z : Int) : ByteArray := BA (Lib.itoa z)
def joinC : List ByteArray → ByteArray
  | [] => ⟨#[]⟩
  | [x] => x
  | x :: y :: l => x ++ (⟨#[44, 32]⟩ ++ joinC (y :: l))
theorem app_nil (x : ByteArray) : x ++ (⟨#[]⟩ : ByteArray) = x := by apply ByteArray.ext; simp
theorem nil_app (x : ByteArray) : (⟨#[]⟩ : ByteArray) ++ x = x := by apply ByteArray.ext; simp
theorem joinC_snoc : ∀ (X : List ByteArray) (x : ByteArray), X ≠ [] → joinC (X ++ [x]) = joinC X ++ (⟨#[44, 32]⟩ ++ x)
  | [], _, h => absurd rfl h
  | [a], x, _ => by simp only [List.cons_append, List.nil_append, joinC]
  | a :: b :: l, x, _ => by
    have := joinC_snoc (b :: l) x (by simp)
    simp only [List.cons_append] at this ⊢
    rw [joinC, this, joinC, ByteArray.append_assoc, ByteArray.append_assoc]
def tot : List ByteArray → Nat
  | [] => 0
  | x :: l => x.size + tot l
theorem joinC_size : ∀ X : List ByteArray, (joinC X).size ≤ tot X + 2 * X.length
  | [] => by rw [joinC]; show 0 ≤ _; omega
  | [x] => by rw [joinC, tot, tot]; simp
  | x :: y :: l => by
    have := joinC_size (y :: l)
    rw [joinC, ByteArray.size_append, ByteArray.size_append, tot]
    simp only [List.length_cons] at this ⊢
    have h2 : (⟨#[44, 32]⟩ : ByteArray).size = 2 := rfl
    omega
def lst (x : ByteArray) : List UInt8 := x.data.toList
theorem BA_lst (x : ByteArray) : BA (lst x) = x := rfl
theorem lst_app (x y : ByteArray) : lst (x ++ y) = lst x ++ lst y := by simp [lst]
theorem lst_len (x : ByteArray) : (lst x).length = x.size := Array.length_toList
theorem joinC_list : ∀ X : List ByteArray, Lib.join (X.map lst) [44, 32] = lst (joinC X)
  | [] => rfl
  | [x] => by rw [joinC]; exact Lib.join_one _ _
  | x :: y :: l => by
    have h := joinC_list (y :: l)
    rw [joinC, lst_app, lst_app, ← h]
    simp only [List.map_cons]
    rw [Lib.join_cons, Lib.join_cons]
    simp only [Lib.joinTail, List.map_cons, List.flatten_cons, List.append_assoc]
    rfl
theorem lens_tot : ∀ X : List ByteArray, Lib.lens (X.map lst) = tot X
  | [] => rfl
  | x :: l => by
    have h := lens_tot l
    simp only [Lib.lens, List.map_cons, List.sum_cons, lst_len, tot] at h ⊢
    rw [h]

/-! terms -/
def loT (o : Int) : Int := if o = 5 ∨ o = 6 then 2 else if o = 8 then 1 else 0
def minus (t : Tm) : Bool := (opT t == 4) && decide (numT t < 0)
def need (t : Tm) (m : Int) : Bool := decide (m < loT (opT t)) || (minus t && decide (m < 5))
def needN (t : Tm) : Bool := (opT t == 4) || need t 0
def bnd (bs : List ByteArray) (z : Int) : ByteArray := if z < (bs.length : Int) then bs.getD (((bs.length : Int) - 1 - z).toNat) ⟨#[]⟩ else ⟨#[39]⟩ ++ dig (z - (bs.length : Int))
def apX (s : ByteArray) (X : List ByteArray) : ByteArray := if X.length = 0 then s else s ++ par true (joinC X)
def sdX (l : List Tm) (X : List ByteArray) (i : Nat) (f : Tm → Bool) : ByteArray := par ((l[i]?.map f).getD false) (X.getD i ⟨#[]⟩)
def txB (bs : List ByteArray) (o : Int) (s : ByteArray) (z : Int) (l : List Tm) (X : List ByteArray) : ByteArray :=
  if o = 2 then bnd bs z
  else if o = 4 then dig z
  else if o = 5 then sdX l X 0 (fun t => need t 2) ++ (⟨#[32, 43, 32]⟩ ++ sdX l X 1 (fun t => need t 1))
  else if o = 6 then sdX l X 0 (fun t => need t 2) ++ (⟨#[32, 45, 32]⟩ ++ sdX l X 1 (fun t => need t 1))
  else if o = 7 then ⟨#[45]⟩ ++ sdX l X 0 needN
  else if o = 8 then par (decide (z < 0)) (dig z) ++ (⟨#[32, 42, 32]⟩ ++ sdX l X 0 (fun t => need t 0))
  else apX s X
mutual
def tX (bs : List ByteArray) : Tm → ByteArray
  | .mk o s z l => txB bs o s z l (tXs bs l)
def tXs (bs : List ByteArray) : List Tm → List ByteArray
  | [] => []
  | t :: l => tX bs t :: tXs bs l
end
theorem tXs_map (bs : List ByteArray) : ∀ l : List Tm, tXs bs l = l.map (tX bs)
  | [] => rfl
  | t :: l => by rw [tXs, tXs_map bs l]; rfl
/-- where it may be so loose at most -/
def tP (bs : List ByteArray) (m : Int) (t : Tm) : ByteArray := par (need t m) (tX bs t)
theorem need5 (t : Tm) : need t 5 = false := by
  unfold need loT
  have : decide ((5 : Int) < if opT t = 5 ∨ opT t = 6 then 2 else if opT t = 8 then 1 else 0) = false := by
    apply decide_eq_false
    split
    · omega
    · split <;> omega
  rw [this]; simp
theorem tP5 (bs : List ByteArray) (t : Tm) : tP bs 5 t = tX bs t := by unfold tP; rw [need5]; rfl
theorem tX_bound (bs : List ByteArray) (s : ByteArray) (z : Int) (l : List Tm) : tX bs (.mk 2 s z l) = bnd bs z := by rw [tX]; rfl
theorem tX_num (bs : List ByteArray) (s : ByteArray) (z : Int) (l : List Tm) : tX bs (.mk 4 s z l) = dig z := by rw [tX]; rfl
theorem tX_add (bs : List ByteArray) (s : ByteArray) (z : Int) (a b : Tm) : tX bs (.mk 5 s z [a, b]) = tP bs 2 a ++ (⟨#[32, 43, 32]⟩ ++ tP bs 1 b) := by rw [tX]; rfl
theorem tX_sub (bs : List ByteArray) (s : ByteArray) (z : Int) (a b : Tm) : tX bs (.mk 6 s z [a, b]) = tP bs 2 a ++ (⟨#[32, 45, 32]⟩ ++ tP bs 1 b) := by rw [tX]; rfl
theorem tX_neg (bs : List ByteArray) (s : ByteArray) (z : Int) (a : Tm) : tX bs (.mk 7 s z [a]) = ⟨#[45]⟩ ++ par (needN a) (tX bs a) := by rw [tX]; rfl
theorem tX_mul (bs : List ByteArray) (s : ByteArray) (z : Int) (a : Tm) : tX bs (.mk 8 s z [a]) = par (decide (z < 0)) (dig z) ++ (⟨#[32, 42, 32]⟩ ++ tP bs 0 a) := by rw [tX]; rfl
theorem tX_app (bs : List ByteArray) (o : Int) (s : ByteArray) (z : Int) (l : List Tm) (h : o = 1 ∨ o = 3) : tX bs (.mk o s z l) = apX s (tXs bs l) := by
  rw [tX]; unfold txB
  rw [if_neg (by omega), if_neg (by omega), if_neg (by omega), if_neg (by omega), if_neg (by omega), if_neg (by omega)]

/-! what a right term with short names is: arities, numbers of 64 bits, names of at most 100 bytes -/
def arT (o z : Int) (n : Nat) : Prop := (o = 1 ∧ n = 0) ∨ (o = 2 ∧ 0 ≤ z ∧ n = 0) ∨ o = 3 ∨ (o = 4 ∧ n = 0) ∨ (o = 5 ∧ n = 2) ∨ (o = 6 ∧ n = 2) ∨ (o = 7 ∧ n = 1) ∨ (o = 8 ∧ n = 1)
mutual
def okT : Tm → Prop
  | .mk o s z l => arT o z l.length ∧ s.size ≤ 100 ∧ (-9223372036854775808 ≤ z ∧ z ≤ 9223372036854775807) ∧ okTs l
def okTs : List Tm → Prop
  | [] => True
  | t :: l => okT t ∧ okTs l
end
theorem okTs_mem : ∀ {l : List Tm} {t : Tm}, okTs l → t ∈ l → okT t
  | [], _, _, h => by cases h
  | u :: l, t, hk, h => by
    rw [okTs] at hk
    rcases List.mem_cons.1 h with rfl | h
    · exact hk.1
    · exact okTs_mem hk.2 h
theorem okT_mk {t : Tm} (h : okT t) : arT (opT t) (numT t) (argsT t).length ∧ (nameT t).size ≤ 100 ∧ (-9223372036854775808 ≤ numT t ∧ numT t ≤ 9223372036854775807) ∧ okTs (argsT t) := by
  cases t; rw [okT] at h; exact h
end Go.Proofs.YtcigeclnbhcohaaGreatDoor.Sh
namespace Go.Proofs.YtcigeclnbhcohaaGreatDoor.Sh
open Go.RowKit L T C
set_option linter.unusedVariables false
set_option linter.unusedSimpArgs false

/-! names with numbers -/
def ixN (b : ByteArray) (n : Nat) : ByteArray := if n = 0 then b else b ++ dig n
theorem ixN_zero (b : ByteArray) : ixN b 0 = b := rfl
theorem ixN_pos (b : ByteArray) {n : Nat} (h : n ≠ 0) : ixN b n = b ++ dig n := if_neg h
theorem lst_inj {x y : ByteArray} (h : lst x = lst y) : x = y := by rw [← BA_lst x, ← BA_lst y, h]
theorem dig_ne (n : Int) : lst (dig n) ≠ [] := by
  show Lib.itoa n ≠ []
  have := (Dig.num_itoa n).1
  intro h
  rw [h] at this
  revert this
  decide
theorem ixN_inj (b : ByteArray) {m n : Nat} (h : ixN b m = ixN b n) : m = n := by
  have hl := congrArg lst h
  by_cases hm : m = 0
  · subst hm
    by_cases hn : n = 0
    · exact hn.symm
    · rw [ixN_zero, ixN_pos b hn, lst_app] at hl
      have := congrArg List.length hl
      rw [List.length_append] at this
      exact absurd (List.length_eq_zero_iff.1 (by omega)) (dig_ne n)
  · by_cases hn : n = 0
    · subst hn
      rw [ixN_zero, ixN_pos b hm, lst_app] at hl
      have := congrArg List.length hl
      rw [List.length_append] at this
      exact absurd (List.length_eq_zero_iff.1 (by omega)) (dig_ne m)
    · rw [ixN_pos b hm, ixN_pos b hn, lst_app, lst_app] at hl
      have := List.append_cancel_left hl
      have h2 : Lib.itoa (m : Int) = Lib.itoa (n : Int) := this
      have := Dig.itoa_inj h2
      omega
theorem nodup_sub {α : Type} [BEq α] [LawfulBEq α] : ∀ (A B : List α), A.Nodup → (∀ x ∈ A, x ∈ B) → A.length ≤ B.length
  | [], B, _, _ => Nat.zero_le _
  | a :: A, B, h, hs => by
    rw [List.nodup_cons] at h
    have ha : a ∈ B := hs a (by simp)
    have := nodup_sub A (B.erase a) h.2 (fun x hx => by
      rw [List.mem_erase_of_ne]
      · exact hs x (by simp [hx])
      · rintro rfl; exact h.1 hx)
    rw [List.length_erase_of_mem ha] at this
    have := List.length_pos_of_mem ha
    simp only [List.length_cons]
    omega
theorem range_nodup (b : ByteArray) : ∀ k : Nat, ((List.range k).map (ixN b)).Nodup := fun k =>
  List.Pairwise.map (ixN b) (fun m n h e => h (ixN_inj b e)) List.nodup_range
theorem taken_some (X : List ByteArray) (b : ByteArray) : ∃ n, n ≤ X.length ∧ hasS X (ixN b n) = false := by
  apply Classical.byContradiction
  intro hno
  have hall : ∀ n, n ≤ X.length → ixN b n ∈ X := fun n hn => by
    cases hc : hasS X (ixN b n) with
    | true => exact hasS_iff.1 hc
    | false => exact absurd ⟨n, hn, hc⟩ hno
  have hle : ((List.range (X.length + 1)).map fun n => (ixN b n).data.toList).length ≤ (X.map fun x => x.data.toList).length := by
    apply nodup_sub
    · have := range_nodup b (X.length + 1)
      have h2 := List.Pairwise.map (S := (· ≠ ·)) (fun x : ByteArray => x.data.toList) (fun x y h e => h (lst_inj e)) this
      rw [List.map_map] at h2
      exact h2
    · intro x hx
      obtain ⟨n, hn, rfl⟩ := List.mem_map.1 hx
      rw [List.mem_range] at hn
      exact List.mem_map.2 ⟨_, hall n (by omega), rfl⟩
  simp at hle
  omega
/-- is it the first number whose name is not taken? -/
def First (X : List ByteArray) (b : ByteArray) (n : Nat) : Prop := hasS X (ixN b n) = false ∧ ∀ m, m < n → hasS X (ixN b m) = true
theorem first_from (X : List ByteArray) (b : ByteArray) : ∀ k n : Nat, n + k = X.length + 1 → (∀ m, m < n → hasS X (ixN b m) = true) → ∃ n, n ≤ X.length ∧ First X b n
  | 0, n, h, hm => by
    obtain ⟨j, hj, hf⟩ := taken_some X b
    have := hm j (by omega)
    rw [hf] at this; cases this
  | k + 1, n, h, hm => by
    cases hc : hasS X (ixN b n) with
    | false => exact ⟨n, by omega, hc, hm⟩
    | true =>
      refine first_from X b k (n + 1) (by omega) fun m hlt => ?_
      by_cases e : m = n
      · rw [e]; exact hc
      · exact hm m (by omega)
theorem first_some (X : List ByteArray) (b : ByteArray) : ∃ n, n ≤ X.length ∧ First X b n := first_from X b (X.length + 1) 0 (by omega) fun m h => by omega
noncomputable def frN (X : List ByteArray) (b : ByteArray) : Nat := Classical.choose (first_some X b)
theorem frN_le (X : List ByteArray) (b : ByteArray) : frN X b ≤ X.length := (Classical.choose_spec (first_some X b)).1
theorem frN_first (X : List ByteArray) (b : ByteArray) : First X b (frN X b) := (Classical.choose_spec (first_some X b)).2
theorem first_one {X : List ByteArray} {b : ByteArray} {m n : Nat} (h : First X b m) (k : First X b n) : m = n := by
  by_cases h1 : m < n
  · have := k.2 m h1; rw [h.1] at this; cases this
  · by_cases h2 : n < m
    · have := h.2 n h2; rw [k.1] at this; cases this
    · omega
theorem frN_is {X : List ByteArray} {b : ByteArray} {n : Nat} (h : First X b n) : frN X b = n := first_one (frN_first X b) h
theorem frN_congr {X Y : List ByteArray} (h : ∀ x, hasS X x = hasS Y x) (b : ByteArray) : frN X b = frN Y b :=
  frN_is ⟨by rw [h]; exact (frN_first Y b).1, fun m hm => by rw [h]; exact (frN_first Y b).2 m hm⟩
noncomputable def frB (X : List ByteArray) (b : ByteArray) : ByteArray := ixN b (frN X b)
theorem frB_congr {X Y : List ByteArray} (h : ∀ x, hasS X x = hasS Y x) (b : ByteArray) : frB X b = frB Y b := by unfold frB; rw [frN_congr h]
theorem dig_size {z : Int} (h0 : -9223372036854775808 ≤ z) (h1 : z ≤ 9223372036854775807) : (dig z).size ≤ 21 := by
  show (BA _).size ≤ 21
  rw [BA_size]; exact Lib.itoa_length_le z h0 h1
theorem ixN_size (b : ByteArray) (n : Nat) (h : n ≤ 1000000000) : (ixN b n).size ≤ b.size + 21 := by
  by_cases hn : n = 0
  · subst hn; rw [ixN_zero]; omega
  · rw [ixN_pos b hn, ByteArray.size_append]
    have := dig_size (z := (n : Int)) (by omega) (by omega)
    omega
theorem frB_size {X : List ByteArray} (b : ByteArray) (h : X.length ≤ 1000000000) : (frB X b).size ≤ b.size + 21 := ixN_size b _ (Nat.le_trans (frN_le X b) h)

/-! claims -/
def xS : ByteArray := ⟨#[120]⟩
def loC (o : Int) : Int := if o = 10 then 4 else if o = 9 then 3 else if o = 8 then 2 else if o = 7 then 1 else 0
def nd (c : Cl) (m : Int) (fol : Bool) : Bool := decide (m < loC (opC c)) || (bindsC c && fol)
abbrev Tx := List ByteArray → Bool → ByteArray
def cP (c : Cl) (F : Tx) (bs : List ByteArray) (m : Int) (fol : Bool) : ByteArray := if nd c m fol = true then par true (F bs false) else F bs fol
/-- what a binder is called where nothing is taken yet -/
def base (s : ByteArray) : ByteArray := if nameB (lst s) = true ∧ wordB (lst s) = false then s else xS
noncomputable def bname (X : List ByteArray) (s : ByteArray) : ByteArray := if (frB X (base s)).size ≤ 32 then frB X (base s) else frB X xS
def sgC (o : Int) : ByteArray := if o = 7 then ⟨#[32, 38, 32]⟩ else if o = 8 then ⟨#[32, 124, 32]⟩ else if o = 9 then ⟨#[32, 45, 62, 32]⟩ else ⟨#[32, 60, 45, 62, 32]⟩
def scX (l : List Cl) (X : List Tx) (i : Nat) (bs : List ByteArray) (m : Int) (fol : Bool) : ByteArray := cP (l.getD i (.mk 0 ⟨#[]⟩ ⟨#[]⟩ [] [])) (X.getD i (fun _ _ => ⟨#[]⟩)) bs m fol
def stX (bs : List ByteArray) (ts : List Tm) (i : Nat) : ByteArray := (tXs bs ts).getD i ⟨#[]⟩
noncomputable def cxB (fr : List ByteArray) (o : Int) (s z : ByteArray) (ts : List Tm) (l : List Cl) (X : List Tx) : Tx := fun bs fol =>
  if o = 1 then ⟨#[116, 114, 117, 101]⟩
  else if o = 2 then ⟨#[102, 97, 108, 115, 101]⟩
  else if o = 3 then apX s (tXs bs ts)
  else if o = 4 then stX bs ts 0 ++ (⟨#[32, 61, 32]⟩ ++ stX bs ts 1)
  else if o = 5 then stX bs ts 0 ++ (⟨#[32, 60, 61, 32]⟩ ++ stX bs ts 1)
  else if o = 6 then ⟨#[126]⟩ ++ scX l X 0 bs 0 fol
  else if o = 11 ∨ o = 12 then (if o = 11 then ⟨#[33]⟩ else ⟨#[63]⟩) ++ ((bname (fr ++ bs) s ++ (⟨#[58, 32]⟩ ++ z)) ++ (⟨#[46, 32]⟩ ++ scX l X 0 (bs ++ [bname (fr ++ bs) s]) 5 false))
  else scX l X 0 bs (loC o - 1) true ++ (sgC o ++ scX l X 1 bs (loC o) fol)
mutual
noncomputable def cX (fr : List ByteArray) : Cl → Tx
  | .mk o s z ts l => cxB fr o s z ts l (cXs fr l)
noncomputable def cXs (fr : List ByteArray) : List Cl → List Tx
  | [] => []
  | c :: l => cX fr c :: cXs fr l
end
/-- the text of a claim where it may be so loose at most -/
noncomputable def cT (fr : List ByteArray) (c : Cl) (bs : List ByteArray) (m : Int) (fol : Bool) : ByteArray := cP c (cX fr c) bs m fol
theorem cX_true (fr : List ByteArray) (s z : ByteArray) (ts : List Tm) (l : List Cl) (bs : List ByteArray) (fol : Bool) : cX fr (.mk 1 s z ts l) bs fol = ⟨#[116, 114, 117, 101]⟩ := by rw [cX]; rfl
theorem cX_false (fr : List ByteArray) (s z : ByteArray) (ts : List Tm) (l : List Cl) (bs : List ByteArray) (fol : Bool) : cX fr (.mk 2 s z ts l) bs fol = ⟨#[102, 97, 108, 115, 101]⟩ := by rw [cX]; rfl
theorem cX_pred (fr : List ByteArray) (s z : ByteArray) (ts : List Tm) (l : List Cl) (bs : List ByteArray) (fol : Bool) : cX fr (.mk 3 s z ts l) bs fol = apX s (tXs bs ts) := by rw [cX]; rfl
theorem cX_eq (fr : List ByteArray) (s z : ByteArray) (a b : Tm) (l : List Cl) (bs : List ByteArray) (fol : Bool) : cX fr (.mk 4 s z [a, b] l) bs fol = tX bs a ++ (⟨#[32, 61, 32]⟩ ++ tX bs b) := by rw [cX]; rfl
theorem cX_le (fr : List ByteArray) (s z : ByteArray) (a b : Tm) (l : List Cl) (bs : List ByteArray) (fol : Bool) : cX fr (.mk 5 s z [a, b] l) bs fol = tX bs a ++ (⟨#[32, 60, 61, 32]⟩ ++ tX bs b) := by rw [cX]; rfl
theorem cX_not (fr : List ByteArray) (s z : ByteArray) (ts : List Tm) (a : Cl) (bs : List ByteArray) (fol : Bool) : cX fr (.mk 6 s z ts [a]) bs fol = ⟨#[126]⟩ ++ cT fr a bs 0 fol := by rw [cX]; rfl
theorem cX_bind (fr : List ByteArray) (o : Int) (ho : o = 11 ∨ o = 12) (s z : ByteArray) (ts : List Tm) (a : Cl) (bs : List ByteArray) (fol : Bool) :
    cX fr (.mk o s z ts [a]) bs fol = (if o = 11 then ⟨#[33]⟩ else ⟨#[63]⟩) ++ ((bname (fr ++ bs) s ++ (⟨#[58, 32]⟩ ++ z)) ++ (⟨#[46, 32]⟩ ++ cT fr a (bs ++ [bname (fr ++ bs) s]) 5 false)) := by
  rw [cX]; unfold cxB
  rw [if_neg (by omega), if_neg (by omega), if_neg (by omega), if_neg (by omega), if_neg (by omega), if_neg (by omega), if_pos ho]; rfl
theorem cX_two (fr : List ByteArray) (o : Int) (ho : 7 ≤ o ∧ o ≤ 10) (s z : ByteArray) (ts : List Tm) (a b : Cl) (bs : List ByteArray) (fol : Bool) :
    cX fr (.mk o s z ts [a, b]) bs fol = cT fr a bs (loC o - 1) true ++ (sgC o ++ cT fr b bs (loC o) fol) := by
  rw [cX]; unfold cxB
  rw [if_neg (by omega), if_neg (by omega), if_neg (by omega), if_neg (by omega), if_neg (by omega), if_neg (by omega), if_neg (by omega)]; rfl

/-! what a right claim with short names is -/
def arC (o : Int) (nt ns : Nat) : Prop := ((o = 1 ∨ o = 2) ∧ nt = 0 ∧ ns = 0) ∨ (o = 3 ∧ ns = 0) ∨ ((o = 4 ∨ o = 5) ∧ nt = 2 ∧ ns = 0) ∨ ((o = 6 ∨ o = 11 ∨ o = 12) ∧ nt = 0 ∧ ns = 1) ∨ ((7 ≤ o ∧ o ≤ 10) ∧ nt = 0 ∧ ns = 2)
mutual
def okC : Cl → Prop
  | .mk o s z ts l => arC o ts.length l.length ∧ s.size ≤ 100 ∧ z.size ≤ 100 ∧ okTs ts ∧ okCs l
def okCs : List Cl → Prop
  | [] => True
  | c :: l => okC c ∧ okCs l
end
theorem okCs_mem : ∀ {l : List Cl} {t : Cl}, okCs l → t ∈ l → okC t
  | [], _, _, h => by cases h
  | u :: l, t, hk, h => by
    rw [okCs] at hk
    rcases List.mem_cons.1 h with rfl | h
    · exact hk.1
    · exact okCs_mem hk.2 h
theorem okC_mk {t : Cl} (h : okC t) : arC (opC t) (tsC t).length (subC t).length ∧ (nmC t).size ≤ 100 ∧ (soC t).size ≤ 100 ∧ okTs (tsC t) ∧ okCs (subC t) := by
  cases t; rw [okC] at h; exact h

/-! lengths -/
def shB (bs : List ByteArray) : Prop := bs.length ≤ 1000000 ∧ ∀ x ∈ bs, x.size ≤ 40
theorem bnd_size {bs : List ByteArray} (hb : shB bs) {z : Int} (h0 : 0 ≤ z) (h1 : z ≤ 9223372036854775807) : (bnd bs z).size ≤ 40 := by
  unfold bnd
  split
  · rename_i h
    rw [List.getD_eq_getElem?_getD]
    cases hc : bs[((bs.length : Int) - 1 - z).toNat]? with
    | none => show 0 ≤ 40; omega
    | some x => exact hb.2 x (List.mem_of_getElem? hc)
  · rename_i h
    rw [ByteArray.size_append]
    have := dig_size (z := z - (bs.length : Int)) (by omega) (by omega)
    have h2 : (⟨#[39]⟩ : ByteArray).size = 1 := rfl
    omega
theorem sdX_one (a : Tm) (X : ByteArray) (f : Tm → Bool) : sdX [a] [X] 0 f = par (f a) X := rfl
mutual
theorem tX_size {bs : List ByteArray} (hb : shB bs) : ∀ t : Tm, okT t → (tX bs t).size + 4 ≤ 200 * size t
  | .mk o s z l, h => by
    rw [okT] at h
    obtain ⟨ha, hs, hz, hl⟩ := h
    have ih := tXs_size hb l hl
    rw [size]
    rcases ha with ⟨rfl, hn⟩ | ⟨rfl, h0, hn⟩ | rfl | ⟨rfl, hn⟩ | ⟨rfl, hn⟩ | ⟨rfl, hn⟩ | ⟨rfl, hn⟩ | ⟨rfl, hn⟩
    · obtain rfl := List.eq_nil_of_length_eq_zero hn
      rw [tX_app _ _ _ _ _ (Or.inl rfl)]
      show s.size + 4 ≤ _; omega
    · rw [tX_bound]
      have := bnd_size hb h0 hz.2
      omega
    · rw [tX_app _ _ _ _ _ (Or.inr rfl)]
      unfold apX
      split
      · omega
      · rw [ByteArray.size_append]
        have h1 := par_size true (joinC (tXs bs l))
        have h2 := joinC_size (tXs bs l)
        rw [tXs_map, List.length_map, ← tXs_map] at h2
        omega
    · rw [tX_num]
      have := dig_size hz.1 hz.2
      omega
    · match l, hn with
      | [a, b], _ =>
        rw [tX_add, ByteArray.size_append, ByteArray.size_append]
        rw [tXs, tXs, tXs, tot, tot, tot] at ih
        simp only [List.length_cons, List.length_nil] at ih
        have h1 := par_size (need a 2) (tX bs a)
        have h2 := par_size (need b 1) (tX bs b)
        have h3 : (⟨#[32, 43, 32]⟩ : ByteArray).size = 3 := rfl
        unfold tP
        omega
    · match l, hn with
      | [a, b], _ =>
        rw [tX_sub, ByteArray.size_append, ByteArray.size_append]
        rw [tXs, tXs, tXs, tot, tot, tot] at ih
        simp only [List.length_cons, List.length_nil] at ih
        have h1 := par_size (need a 2) (tX bs a)
        have h2 := par_size (need b 1) (tX bs b)
        have h3 : (⟨#[32, 45, 32]⟩ : ByteArray).size = 3 := rfl
        unfold tP
        omega
    · match l, hn with
      | [a], _ =>
        rw [tX_neg, ByteArray.size_append]
        rw [tXs, tXs, tot, tot] at ih
        simp only [List.length_cons, List.length_nil] at ih
        have h1 := par_size (needN a) (tX bs a)
        have h3 : (⟨#[45]⟩ : ByteArray).size = 1 := rfl
        omega
    · match l, hn with
      | [a], _ =>
        rw [tX_mul, ByteArray.size_append, ByteArray.size_append]
        rw [tXs, tXs, tot, tot] at ih
        simp only [List.length_cons, List.length_nil] at ih
        have h1 := par_size (need a 0) (tX bs a)
        have h2 := par_size (decide (z < 0)) (dig z)
        have h4 := dig_size hz.1 hz.2
        have h3 : (⟨#[32, 42, 32]⟩ : ByteArray).size = 3 := rfl
        unfold tP
        omega
theorem tXs_size {bs : List ByteArray} (hb : shB bs) : ∀ l : List Tm, okTs l → tot (tXs bs l) + 4 * l.length ≤ 200 * sizes l
  | [], _ => by rw [tXs, tot]; simp
  | t :: l, h => by
    rw [okTs] at h
    have h1 := tX_size hb t h.1
    have h2 := tXs_size hb l h.2
    rw [tXs, tot, sizes, List.length_cons]
    omega
end
theorem apX_size {bs : List ByteArray} (hb : shB bs) (s : ByteArray) (hs : s.size ≤ 100) (l : List Tm) (h : okTs l) : (apX s (tXs bs l)).size ≤ 110 + 200 * sizes l := by
  have ih := tXs_size hb l h
  unfold apX
  split
  · omega
  · rw [ByteArray.size_append]
    have h1 := par_size true (joinC (tXs bs l))
    have h2 := joinC_size (tXs bs l)
    rw [tXs_map, List.length_map, ← tXs_map] at h2
    omega
theorem bname_size {X : List ByteArray} (h : X.length ≤ 1000000000) (s : ByteArray) : (bname X s).size ≤ 32 := by
  unfold bname
  split
  · assumption
  · have := frB_size (X := X) xS h
    have h1 : xS.size = 1 := rfl
    omega
theorem cP_size (c : Cl) (F : Tx) (bs : List ByteArray) (m : Int) (fol : Bool) (K : Nat) (h : ∀ f, (F bs f).size ≤ K) : (cP c F bs m fol).size ≤ K + 2 := by
  unfold cP
  split
  · have := par_size true (F bs false); have := h false; omega
  · have := h fol; omega
theorem shB_snoc {bs : List ByteArray} (hb : shB bs) {K : Nat} (hk : bs.length + 1 ≤ 1000000) {x : ByteArray} (hx : x.size ≤ 40) : shB (bs ++ [x]) :=
  ⟨by simp; omega, fun y hy => by
    rcases List.mem_append.1 hy with h | h
    · exact hb.2 y h
    · simp at h; subst h; exact hx⟩
theorem sgC_size (o : Int) : (sgC o).size ≤ 5 := by
  unfold sgC
  split
  · decide
  · split
    · decide
    · split <;> decide
theorem cX_size {fr : List ByteArray} (hf : fr.length ≤ 900000000) : ∀ (k : Nat) (c : Cl), wt c ≤ k → okC c → ∀ bs : List ByteArray, shB bs → bs.length + k ≤ 1000000 → ∀ fol, (cX fr c bs fol).size + 4 ≤ 400 * wt c
  | 0, c, hk, h, bs, hb, hl, fol => by have := wt_pos c; omega
  | k + 1, .mk o s z ts l, hk, h, bs, hb, hl, fol => by
    rw [okC] at h
    obtain ⟨ha, hs, hz, ht, hc⟩ := h
    rw [wt] at hk ⊢
    rcases ha with ⟨ho, hnt, hns⟩ | ⟨rfl, hns⟩ | ⟨ho, hnt, hns⟩ | ⟨ho, hnt, hns⟩ | ⟨ho, hnt, hns⟩
    · rcases ho with rfl | rfl
      · rw [cX_true]; show 4 + 4 ≤ _; omega
      · rw [cX_false]; show 5 + 4 ≤ _; omega
    · rw [cX_pred]
      have := apX_size hb s hs ts ht
      omega
    · match ts, hnt with
      | [a, b], _ =>
        rw [okTs, okTs] at ht
        have h1 := tX_size hb a ht.1
        have h2 := tX_size hb b ht.2.1
        rw [sizes, sizes, sizes]
        rcases ho with rfl | rfl
        · rw [cX_eq, ByteArray.size_append, ByteArray.size_append]
          have h3 : (⟨#[32, 61, 32]⟩ : ByteArray).size = 3 := rfl
          omega
        · rw [cX_le, ByteArray.size_append, ByteArray.size_append]
          have h3 : (⟨#[32, 60, 61, 32]⟩ : ByteArray).size = 4 := rfl
          omega
    · match l, hns with
      | [a], _ =>
        rw [okCs] at hc
        rw [wts, wts] at hk ⊢
        have hB : (bname (fr ++ bs) s).size ≤ 32 := bname_size (by rw [List.length_append]; have := hb.1; omega) s
        by_cases h6 : o = 6
        · subst h6
          rw [cX_not, ByteArray.size_append]
          have h1 := cP_size a (cX fr a) bs 0 fol (400 * wt a - 4) fun f => by
            have := cX_size hf k a (by omega) hc.1 bs hb (by omega) f
            omega
          have h3 : (⟨#[126]⟩ : ByteArray).size = 1 := rfl
          have := wt_pos a
          unfold cT
          omega
        · rw [cX_bind fr o (by omega), ByteArray.size_append, ByteArray.size_append, ByteArray.size_append, ByteArray.size_append, ByteArray.size_append]
          have h1 := cP_size a (cX fr a) (bs ++ [bname (fr ++ bs) s]) 5 false (400 * wt a - 4) fun f => by
            have := cX_size hf k a (by omega) hc.1 _ (shB_snoc (K := 0) (x := bname (fr ++ bs) s) hb (by omega) (by omega)) (by simp; omega) f
            omega
          have h3 : (if o = 11 then (⟨#[33]⟩ : ByteArray) else ⟨#[63]⟩).size = 1 := by split <;> rfl
          have h4 : (⟨#[58, 32]⟩ : ByteArray).size = 2 := rfl
          have h5 : (⟨#[46, 32]⟩ : ByteArray).size = 2 := rfl
          have := wt_pos a
          unfold cT
          omega
    · match l, hns with
      | [a, b], _ =>
        rw [okCs, okCs] at hc
        rw [wts, wts, wts] at hk ⊢
        rw [cX_two fr o ho, ByteArray.size_append, ByteArray.size_append]
        have h1 := cP_size a (cX fr a) bs (loC o - 1) true (400 * wt a - 4) fun f => by
          have := cX_size hf k a (by omega) hc.1 bs hb (by omega) f
          omega
        have h2 := cP_size b (cX fr b) bs (loC o) fol (400 * wt b - 4) fun f => by
          have := cX_size hf k b (by omega) hc.2.1 bs hb (by omega) f
          omega
        have h3 := sgC_size o
        have := wt_pos a
        have := wt_pos b
        unfold cT
        omega
end Go.Proofs.YtcigeclnbhcohaaGreatDoor.Sh
namespace Go.Proofs.YtcigeclnbhcohaaGreatDoor.Sh
open Go.RowKit L
set_option linter.unusedVariables false
set_option linter.unusedSimpArgs false

theorem refWord_any (s : ByteArray) (w : World) :
    Calls Tryz.prog 108 #[.string s] w fun e w' => e = .returned (.bool (wordB s.data.toList)) ∧ Below w.heap.size w w' := by
  have ch := Has_words s w
  generalize wordB s.data.toList = R at *
  unfold WDc WD at ch
  simp only [List.map_cons, List.map_nil, BA] at ch
  go_enter Tryz.func108, Tryz.ntmps108
  go_wp2_with (go_at_call 26; ((with_reducible refine ch.mono ?_); rintro e w1 ⟨rfl, rfl⟩))
  go_ret
  exact ⟨rfl, bel_alloc (Below.refl _ _) _⟩

end Go.Proofs.YtcigeclnbhcohaaGreatDoor.Sh
