/-
  What is proved: mathematics of sets of clauses and their text: what is written is read as it was; what is read is right; what is cleaned holds by the same values.
-/
import Derived.Test.YthchjceibpcgbaaGreatDoorLA
import Derived.Test.YthchjceibpcgbaaGreatDoorDG
namespace Go.Proofs.YthchjceibpcgbaaGreatDoor.Cn
open Lt
set_option linter.unusedVariables false
set_option linter.unusedSimpArgs false

/-! right -/
def rg1 (X : List Int) (m : Int) : Int := if X.length > 64 then 2 else if X.any (fun x => !isL x || decide (m < vr x)) then 1 else 0
def bad (N : Int) : Nat → List (List Int) → Int × Int
  | _, [] => (0, 0)
  | i, c :: r => if rg1 c N = 0 then bad N (i + 1) r else (i, rg1 c N)
def rgC (N : Int) (L : List (List Int)) : Int × Int := if N < 0 ∨ 1024 < N then (-1, 1) else if 4096 < L.length then (-1, 2) else bad N 0 L
theorem bad_ok (N : Int) : ∀ (L : List (List Int)) (i : Nat), (bad N i L).2 = 0 ↔ ∀ c ∈ L, rg1 c N = 0
  | [], i => by simp [bad]
  | c :: r, i => by
    rw [bad]
    by_cases h : rg1 c N = 0
    · rw [if_pos h, bad_ok N r (i + 1)]; simp [h]
    · rw [if_neg h]; simp [h]
theorem bad_at (N : Int) : ∀ (L : List (List Int)) (i : Nat), (∀ c ∈ L, rg1 c N = 0) → bad N i L = (0, 0)
  | [], i, _ => rfl
  | c :: r, i, h => by rw [bad, if_pos (h c (by simp))]; exact bad_at N r (i + 1) (fun d hd => h d (by simp [hd]))
theorem rgC_ok {N : Int} {L : List (List Int)} : (rgC N L).2 = 0 ↔ (0 ≤ N ∧ N ≤ 1024) ∧ L.length ≤ 4096 ∧ ∀ c ∈ L, rg1 c N = 0 := by
  unfold rgC
  by_cases h1 : N < 0 ∨ 1024 < N
  · rw [if_pos h1]; constructor
    · intro h; cases h
    · rintro ⟨h, _⟩; omega
  · rw [if_neg h1]
    by_cases h2 : 4096 < L.length
    · rw [if_pos h2]; constructor
      · intro h; cases h
      · rintro ⟨_, h, _⟩; omega
    · rw [if_neg h2, bad_ok]
      exact ⟨fun h => ⟨by omega, by omega, h⟩, fun h => h.2.2⟩
theorem rg1_ok {X : List Int} {m : Int} : rg1 X m = 0 ↔ X.length ≤ 64 ∧ ∀ x ∈ X, isL x = true ∧ vr x ≤ m := by
  unfold rg1
  by_cases h : X.length > 64
  · rw [if_pos h]; constructor
    · intro h; cases h
    · intro h'; omega
  · rw [if_neg h]
    cases h2 : X.any (fun x => !isL x || decide (m < vr x))
    · simp only [Bool.false_eq_true, if_false, true_iff]
      refine ⟨by omega, fun x hx => ?_⟩
      have := (List.any_eq_false.1 h2) x hx
      simp at this
      exact ⟨by simpa using this.1, by omega⟩
    · simp only [if_true]
      obtain ⟨x, hx, hb⟩ := List.any_eq_true.1 h2
      constructor
      · intro h; cases h
      · rintro ⟨_, h3⟩
        have := h3 x hx
        simp [this.1] at hb
        omega

/-! text -/
def lnT (c : List Int) : List UInt8 := (c.flatMap fun x => Lib.itoa x ++ [32]) ++ [48]
def hdT (N : Int) (m : Nat) : List UInt8 := [112, 32, 99, 110, 102, 32] ++ Lib.itoa N ++ [32] ++ Lib.itoa (m : Int)
def txT (N : Int) (L : List (List Int)) : List UInt8 := hdT N L.length ++ [10] ++ L.flatMap fun c => lnT c ++ [10]

/-! words at single blanks, lines -/
def spl (b : UInt8) : List UInt8 → List (List UInt8)
  | [] => [[]]
  | c :: r => if c = b then [] :: spl b r else match spl b r with
    | [] => [[c]]
    | w :: ws => (c :: w) :: ws
theorem spl_ne (b : UInt8) : ∀ s, spl b s ≠ []
  | [] => by simp [spl]
  | c :: r => by
    rw [spl]; split
    · simp
    · split <;> simp
theorem spl_free {b : UInt8} : ∀ {s : List UInt8}, (∀ c ∈ s, c ≠ b) → ∀ t, spl b (s ++ b :: t) = s :: spl b t
  | [], _, t => by simp [spl]
  | c :: s, h, t => by
    rw [List.cons_append, spl, if_neg (h c (by simp)), spl_free (fun x hx => h x (by simp [hx])) t]
theorem spl_one {b : UInt8} : ∀ {s : List UInt8}, (∀ c ∈ s, c ≠ b) → spl b s = [s]
  | [], _ => by simp [spl]
  | c :: s, h => by rw [spl, if_neg (h c (by simp)), spl_one (fun x hx => h x (by simp [hx]))]
/-- the complete lines of a text, and what follows the last line feed -/
def lns (s : List UInt8) : List (List UInt8) × List UInt8 := ((spl 10 s).dropLast, (spl 10 s).getLast (spl_ne 10 s))

/-! reading -/
def nums (l : List (List UInt8)) : Option (List Int) := if l.all (fun w => Dig.rdE w == 0) then some (l.map Dig.rdV) else none
/-- the line p: its two numbers, or the error -/
def hdR (t : List UInt8) : Except Int (Int × Int) :=
  let l := spl 32 t
  if l.length = 4 ∧ l[0]? = some [112] ∧ l[1]? = some [99, 110, 102] then
    match nums (l.drop 2) with
    | some [n, m] => if m < 0 then .error 7 else if n < 0 ∨ 1024 < n then .error 1 else if 4096 < m then .error 2 else .ok (n, m)
    | _ => .error 7
  else .error 7
/-- a clause's line: its numbers, or the error -/
def clR' (t : List UInt8) (n : Int) : Except Int (List Int) :=
  match nums (spl 32 t) with
  | none => .error 7
  | some l => if l.getLast? = some 0 then (if l.dropLast.any (· == 0) then .error 7 else if rg1 l.dropLast n = 0 then .ok l.dropLast else .error (rg1 l.dropLast n)) else .error 7
structure St where
  seen : Bool
  n : Int
  many : Int
  L : List (List Int)
/-- one line more -/
def stL (s : St) (t : List UInt8) : Except Int St :=
  if t.head? = some 99 then .ok s
  else if s.seen = false then (match hdR t with
    | .error e => .error e
    | .ok (n, m) => .ok { s with seen := true, n := n, many := m })
  else if (s.L.length : Int) = s.many then .error 7
  else match clR' t s.n with
    | .error e => .error e
    | .ok l => .ok { s with L := s.L ++ [l] }
/-- all lines from one on: what has been read, or the error and its line -/
def rdL : St → Nat → List (List UInt8) → Except (Nat × Int) (St × Nat)
  | s, k, [] => .ok (s, k)
  | s, k, t :: r => match stL s t with
    | .error e => .error (k, e)
    | .ok s' => rdL s' (k + 1) r
structure Rd where
  n : Int
  L : List (List Int)
  line : Int
  e : Int
def rdC (s : List UInt8) : Rd :=
  match rdL ⟨false, 0, 0, []⟩ 0 (lns s).1 with
  | .error (k, e) => ⟨0, [], k, e⟩
  | .ok (st, k) => if (lns s).2 ≠ [] then ⟨0, [], k, 7⟩ else if st.seen = false ∨ (st.L.length : Int) < st.many then ⟨0, [], k, 8⟩ else ⟨st.n, st.L, 0, 0⟩
end Go.Proofs.YthchjceibpcgbaaGreatDoor.Cn
