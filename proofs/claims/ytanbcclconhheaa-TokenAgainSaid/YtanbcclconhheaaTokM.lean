/-
  What is proved: plain mathematics of tokens, over lists of bytes.
-/
import Derived.Lib.Join
namespace Go.Proofs.Ytanbcclconhheaa.Tok

def isL (c : UInt8) : Bool := decide ((65 ≤ c.toNat ∧ c.toNat ≤ 90) ∨ (97 ≤ c.toNat ∧ c.toNat ≤ 122) ∨ c.toNat = 95)
def isD (c : UInt8) : Bool := decide (48 ≤ c.toNat ∧ c.toNat ≤ 57)
def isN (c : UInt8) : Bool := isL c || (isD c || decide (c.toNat = 39))
theorem isL_iff {c : UInt8} : isL c = true ↔ (65 ≤ c.toNat ∧ c.toNat ≤ 90) ∨ (97 ≤ c.toNat ∧ c.toNat ≤ 122) ∨ c.toNat = 95 := by simp [isL]
theorem isD_iff {c : UInt8} : isD c = true ↔ 48 ≤ c.toNat ∧ c.toNat ≤ 57 := by simp [isD]
theorem isN_iff {c : UInt8} : isN c = true ↔ isL c = true ∨ isD c = true ∨ c.toNat = 39 := by simp [isN]

def bl : Bool → List UInt8 → Nat
  | _, [] => 0
  | r, c :: l => if c.toNat = 10 then 1 + bl false l else if c.toNat = 35 then 1 + bl true l else if r = true then 1 + bl true l else if c.toNat = 9 ∨ c.toNat = 13 ∨ c.toNat = 32 then 1 + bl false l else 0
theorem bl_nil (r : Bool) : bl r [] = 0 := by cases r <;> rfl
theorem bl_10 {r : Bool} {c : UInt8} {l : List UInt8} (h : c.toNat = 10) : bl r (c :: l) = 1 + bl false l := by cases r <;> simp [bl, h]
theorem bl_35 {r : Bool} {c : UInt8} {l : List UInt8} (h : c.toNat = 35) : bl r (c :: l) = 1 + bl true l := by cases r <;> simp [bl, h]
theorem bl_true {c : UInt8} {l : List UInt8} (h : c.toNat ≠ 10) : bl true (c :: l) = 1 + bl true l := by
  by_cases h2 : c.toNat = 35 <;> simp [bl, h, h2]
theorem bl_yes {c : UInt8} {l : List UInt8} (h : c.toNat = 9 ∨ c.toNat = 13 ∨ c.toNat = 32) : bl false (c :: l) = 1 + bl false l := by
  rw [bl, if_neg (by omega), if_neg (by omega), if_neg (by simp), if_pos h]
theorem bl_no {c : UInt8} {l : List UInt8} (h1 : c.toNat ≠ 10) (h2 : c.toNat ≠ 35) (h3 : c.toNat ≠ 9) (h4 : c.toNat ≠ 13) (h5 : c.toNat ≠ 32) : bl false (c :: l) = 0 := by
  rw [bl, if_neg (by omega), if_neg (by omega), if_neg (by simp), if_neg (by omega)]
theorem bl_le (r : Bool) (l : List UInt8) : bl r l ≤ l.length := by
  induction l generalizing r with
  | nil => rw [bl_nil]; exact Nat.zero_le _
  | cons c l ih =>
    have := ih false
    have := ih true
    rw [bl]
    simp only [List.length_cons]
    repeat' split
    all_goals omega

/-- how many bytes stand ahead of the first end of a line -/
def lineN : List UInt8 → Nat
  | [] => 0
  | c :: l => if c.toNat = 10 then 0 else 1 + lineN l
theorem lineN_le (l : List UInt8) : lineN l ≤ l.length := by
  induction l with
  | nil => exact Nat.le_refl _
  | cons c l ih => rw [lineN]; split <;> simp <;> omega
theorem bl_line (l : List UInt8) : bl true l = lineN l + bl false (l.drop (lineN l)) := by
  induction l with
  | nil => rfl
  | cons c l ih =>
    by_cases h : c.toNat = 10
    · rw [lineN, if_pos h, bl_10 h, List.drop_zero, bl_10 h]; omega
    · rw [lineN, if_neg h, bl_true h, ih, Nat.add_comm 1 (lineN l), List.drop_succ_cons]; omega
theorem bl_hash {c : UInt8} {l : List UInt8} (h : c.toNat = 35) : bl false (c :: l) = lineN (c :: l) + bl false ((c :: l).drop (lineN (c :: l))) ∧ 0 < lineN (c :: l) := by
  have h2 : lineN (c :: l) = lineN l + 1 := by rw [lineN, if_neg (by omega)]; omega
  rw [bl_35 h, h2, List.drop_succ_cons, bl_line]; omega

def nameN : List UInt8 → Nat
  | [] => 0
  | c :: l => if isL c = true then 1 + (l.takeWhile isN).length else 0
def numN (l : List UInt8) : Nat := (l.takeWhile isD).length
def SG : List (List UInt8) := [[40], [41], [91], [93], [123], [125], [44], [46], [58], [59], [61], [58, 61], [60, 61], [60], [62, 61], [62], [43], [45], [42], [126], [38], [124], [45, 62], [60, 45, 62], [124, 45], [33], [63]]
def sgS (l : List UInt8) (n : Nat) (x : List UInt8) : Nat := if n < x.length ∧ x.isPrefixOf l = true then x.length else n
def sgN (l : List UInt8) : Nat := SG.foldl (sgS l) 0

theorem tw_le (p : UInt8 → Bool) (l : List UInt8) : (l.takeWhile p).length ≤ l.length := (List.takeWhile_prefix p).length_le
theorem nameN_le (l : List UInt8) : nameN l ≤ l.length := by
  cases l with
  | nil => exact Nat.le_refl _
  | cons c l => rw [nameN]; have := tw_le isN l; split <;> simp <;> omega
theorem numN_le (l : List UInt8) : numN l ≤ l.length := tw_le _ _
/-- what a fold over signs tells -/
theorem fold_sg (l : List UInt8) (G : List (List UInt8)) : ∀ n, (∃ x, x.length = n ∧ x.isPrefixOf l = true ∧ (n = 0 ∨ x ∈ SG)) → (∀ x ∈ G, x ∈ SG) →
    (∃ x, x.length = G.foldl (sgS l) n ∧ x.isPrefixOf l = true ∧ (G.foldl (sgS l) n = 0 ∨ x ∈ SG)) ∧ n ≤ G.foldl (sgS l) n ∧ ∀ x ∈ G, x.isPrefixOf l = true → x.length ≤ G.foldl (sgS l) n := by
  induction G with
  | nil => intro n h _; exact ⟨h, Nat.le_refl _, fun x hx => by cases hx⟩
  | cons y G ih =>
    intro n h hG
    rw [List.foldl_cons]
    have hs : n ≤ sgS l n y ∧ (∃ x, x.length = sgS l n y ∧ x.isPrefixOf l = true ∧ (sgS l n y = 0 ∨ x ∈ SG)) ∧ (y.isPrefixOf l = true → y.length ≤ sgS l n y) := by
      unfold sgS
      by_cases hc : n < y.length ∧ y.isPrefixOf l = true
      · rw [if_pos hc]
        exact ⟨by omega, ⟨y, rfl, hc.2, .inr (hG y (List.mem_cons_self ..))⟩, fun _ => Nat.le_refl _⟩
      · rw [if_neg hc]
        refine ⟨Nat.le_refl _, h, fun hy => ?_⟩
        rcases Nat.lt_or_ge n y.length with h1 | h1
        · exact absurd ⟨h1, hy⟩ hc
        · exact h1
    obtain ⟨h1, h2, h3⟩ := ih _ hs.2.1 (fun x hx => hG x (List.mem_cons_of_mem _ hx))
    refine ⟨h1, by omega, fun x hx hp => ?_⟩
    rcases List.mem_cons.1 hx with rfl | hx
    · have := hs.2.2 hp; omega
    · exact h3 x hx hp
theorem sg_of (l : List UInt8) : (∃ x, x.length = sgN l ∧ x.isPrefixOf l = true ∧ (sgN l = 0 ∨ x ∈ SG)) ∧ ∀ x ∈ SG, x.isPrefixOf l = true → x.length ≤ sgN l :=
  have h := fold_sg l SG 0 ⟨[], rfl, rfl, .inl rfl⟩ (fun _ h => h)
  ⟨h.1, h.2.2⟩
theorem pre_iff {x l : List UInt8} : x.isPrefixOf l = true ↔ x <+: l := List.isPrefixOf_iff_prefix
theorem sgN_le (l : List UInt8) : sgN l ≤ l.length := by
  obtain ⟨⟨x, h1, h2, _⟩, _⟩ := sg_of l
  have := (pre_iff.1 h2).length_le
  omega
theorem fold_le (l : List UInt8) (n : Nat) (G : List (List UInt8)) (hn : n ≤ 3) (hG : ∀ x ∈ G, x.length ≤ 3) : G.foldl (sgS l) n ≤ 3 := by
  induction G generalizing n with
  | nil => exact hn
  | cons y G ih =>
    rw [List.foldl_cons]
    refine ih _ ?_ (fun x hx => hG x (List.mem_cons_of_mem _ hx))
    have := hG y (List.mem_cons_self ..)
    unfold sgS; split <;> omega

/-- kind, size and code of what stands first -/
def fst3 (l : List UInt8) : Int × Nat × Int :=
  if 32 < nameN l then (0, 0, 2) else if 0 < nameN l then (1, nameN l, 0) else if 0 < numN l then (2, numN l, 0) else if 0 < sgN l then (3, sgN l, 0) else (0, 0, 7)
def fK (l : List UInt8) : Int := (fst3 l).1
def fN (l : List UInt8) : Nat := (fst3 l).2.1
def fE (l : List UInt8) : Int := (fst3 l).2.2
theorem fE_or (l : List UInt8) : fE l = 0 ∨ fE l = 2 ∨ fE l = 7 := by
  unfold fE fst3; repeat' split
  all_goals simp
theorem fK_bd (l : List UInt8) : 0 ≤ fK l ∧ fK l ≤ 3 := by
  unfold fK fst3; repeat' split
  all_goals simp
theorem fN_le (l : List UInt8) : fN l ≤ l.length := by
  have := nameN_le l
  have := numN_le l
  have := sgN_le l
  unfold fN fst3; repeat' split
  all_goals simp only []; omega
theorem fN_pos {l : List UInt8} (h : fE l = 0) : 0 < fN l := by
  unfold fE fst3 at h; unfold fN fst3; repeat' split
  all_goals simp_all
theorem fN_zero {l : List UInt8} (h : fE l ≠ 0) : fN l = 0 ∧ fK l = 0 := by
  unfold fE fst3 at h; unfold fN fK fst3; repeat' split
  all_goals simp_all

structure Tok where
  k : Int
  t : List UInt8
  a : Nat
inductive Res where
  | ok (l : List Tok)
  | err (a : Nat) (e : Int)
def run : Nat → Nat → List UInt8 → List Tok → Res
  | 0, _, _, acc => .ok acc
  | f + 1, a, l, acc => if l = [] then .ok acc else if fE l = 0 then run f (a + (fN l + bl false (l.drop (fN l)))) (l.drop (fN l + bl false (l.drop (fN l)))) (acc ++ [⟨fK l, l.take (fN l), a⟩]) else .err a (fE l)
def ofS (s : List UInt8) : Res := if 65536 < s.length then .err 0 2 else run (s.length + 1) (bl false s) (s.drop (bl false s)) []
def Res.T : Res → List Tok | .ok l => l | .err _ _ => []
def Res.A : Res → Nat | .ok _ => 0 | .err a _ => a
def Res.E : Res → Int | .ok _ => 0 | .err _ e => e
theorem run_nil (f a : Nat) (acc : List Tok) : run f a [] acc = .ok acc := by cases f <;> simp [run]
theorem run_ok {f a : Nat} {l : List UInt8} {acc : List Tok} (h : l ≠ []) (he : fE l = 0) :
    run (f + 1) a l acc = run f (a + (fN l + bl false (l.drop (fN l)))) (l.drop (fN l + bl false (l.drop (fN l)))) (acc ++ [⟨fK l, l.take (fN l), a⟩]) := by
  rw [run, if_neg h, if_pos he]
theorem run_err {f a : Nat} {l : List UInt8} {acc : List Tok} (h : l ≠ []) (he : fE l ≠ 0) : run (f + 1) a l acc = .err a (fE l) := by
  rw [run, if_neg h, if_neg he]

inductive Toks : Nat → List UInt8 → List Tok → Prop
  | nil (a : Nat) : Toks a [] []
  | cons {a : Nat} {l : List UInt8} {T : List Tok} (h : l ≠ []) (he : fE l = 0) (ht : Toks (a + (fN l + bl false (l.drop (fN l)))) (l.drop (fN l + bl false (l.drop (fN l)))) T) :
      Toks a l (⟨fK l, l.take (fN l), a⟩ :: T)
theorem toks_run {a : Nat} {l : List UInt8} {T : List Tok} (h : Toks a l T) : ∀ f acc, l.length < f → run f a l acc = .ok (acc ++ T) := by
  induction h with
  | nil a => intro f acc _; rw [run_nil, List.append_nil]
  | @cons a l T h he ht ih =>
    intro f acc hf
    cases f with
    | zero => omega
    | succ f =>
      rw [run_ok h he, ih _ _ (by rw [List.length_drop]; have := fN_pos he; have := List.length_pos_iff.2 h; omega)]
      simp
theorem run_toks {f a : Nat} {l : List UInt8} {acc T : List Tok} (h : run f a l acc = .ok T) (hf : l.length < f) : ∃ T', T = acc ++ T' ∧ Toks a l T' := by
  induction f generalizing a l acc with
  | zero => omega
  | succ f ih =>
    by_cases hl : l = []
    · subst hl
      rw [run_nil] at h
      injection h with h
      exact ⟨[], by simp [h], .nil _⟩
    · by_cases he : fE l = 0
      · rw [run_ok hl he] at h
        obtain ⟨T', h1, h2⟩ := ih h (by rw [List.length_drop]; have := fN_pos he; have := List.length_pos_iff.2 hl; omega)
        exact ⟨_ :: T', by rw [h1, List.append_assoc]; rfl, .cons hl he h2⟩
      · rw [run_err hl he] at h; cases h
theorem ofS_toks {s : List UInt8} {T : List Tok} (h : ofS s = .ok T) : s.length ≤ 65536 ∧ Toks (bl false s) (s.drop (bl false s)) T := by
  unfold ofS at h
  split at h
  · cases h
  · obtain ⟨T', h1, h2⟩ := run_toks h (by rw [List.length_drop]; omega)
    rw [List.nil_append] at h1
    subst h1
    exact ⟨by omega, h2⟩
theorem toks_ofS {s : List UInt8} {T : List Tok} (hs : s.length ≤ 65536) (h : Toks (bl false s) (s.drop (bl false s)) T) : ofS s = .ok T := by
  unfold ofS
  rw [if_neg (by omega), toks_run h _ _ (by rw [List.length_drop]; omega), List.nil_append]
end Go.Proofs.Ytanbcclconhheaa.Tok
