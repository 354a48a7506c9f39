/-
  What is proved: what the document's own Text of a set of clauses returns.
-/
import Derived.Test.YthchjceibpcgbaaGreatDoorZCnD
import Derived.Test.YthchjceibpcgbaaGreatDoorDG
import Derived.Deep.Cut
import Derived.Deep.CutRange
import Derived.Deep.RegionHeld3
namespace Go.Proofs.YthchjceibpcgbaaGreatDoor.Cn
open Go.RowKit L Lt
set_option linter.unusedVariables false
set_option linter.unusedSimpArgs false

theorem flat_len {f : List Int → List UInt8} {M : Nat} : ∀ {L : List (List Int)}, (∀ c ∈ L, (f c).length ≤ M) → (L.flatMap f).length ≤ L.length * M
  | [], _ => by simp
  | c :: L, h => by
    have h1 := flat_len (fun d hd => h d (List.mem_cons_of_mem _ hd) : ∀ d ∈ L, _)
    have h2 := h c (by simp)
    rw [List.flatMap_cons, List.length_append, List.length_cons, Nat.add_mul]; omega
/-- the numbers of a clause, a blank behind each -/
def nmT (c : List Int) : List UInt8 := c.flatMap fun x => Lib.itoa x ++ [32]
theorem nmT_len : ∀ {c : List Int}, R64s c → (nmT c).length ≤ c.length * 21
  | [], _ => by simp [nmT]
  | x :: c, h => by
    have h1 := nmT_len (fun y hy => h y (List.mem_cons_of_mem _ hy) : R64s c)
    have hx := h x (by simp)
    have h2 := Dig.itoa_len (n := x) hx.1 (by have := hx.2; omega)
    have e : nmT (x :: c) = Lib.itoa x ++ [32] ++ nmT c := by simp [nmT]
    rw [e, List.length_append, List.length_append]; simp only [List.length_cons, List.length_nil]; omega
theorem nmT_take {c : List Int} {j : Nat} {x : Int} (h : c[j]? = some x) : nmT (c.take (j + 1)) = nmT (c.take j) ++ (Lib.itoa x ++ [32]) := by
  unfold nmT; rw [List.take_add_one, h, List.flatMap_append]; simp
/-- the text of the first clauses -/
def tkT (N : Int) (n : Nat) (L : List (List Int)) : List UInt8 := hdT N n ++ [10] ++ L.flatMap fun c => lnT c ++ [10]
theorem tkT_take {N : Int} {n : Nat} {G : List (List Int)} {k : Nat} {X : List Int} (h : G[k]? = some X) : tkT N n (G.take (k + 1)) = tkT N n (G.take k) ++ nmT X ++ [48, 10] := by
  unfold tkT; rw [List.take_add_one, h, List.flatMap_append]
  simp [lnT, nmT]
theorem tkT_len {N : Int} {n : Nat} {L : List (List Int)} (hN : R64 N) (hn : n ≤ 9223372036854775807) (h : ∀ c ∈ L, R64s c ∧ c.length ≤ 64) : (tkT N n L).length ≤ 60 + L.length * 1346 := by
  have h1 := Dig.itoa_len (n := N) hN.1 (by have := hN.2; omega)
  have h2 := Dig.itoa_len (n := (n : Int)) (by omega) (by omega)
  have h3 := flat_len (f := fun c => lnT c ++ [10]) (M := 1346) (L := L) (fun c hc => by
    have := nmT_len (h c hc).1
    have := (h c hc).2
    have e : lnT c = nmT c ++ [48] := rfl
    rw [e]; simp; omega)
  unfold tkT hdT
  simp only [List.length_append, List.length_cons, List.length_nil]
  omega
theorem BA_ap (a b : List UInt8) : Dig.BA a ++ Dig.BA b = Dig.BA (a ++ b) := by rw [Dig.BA_app, Dig.BA_list]
theorem strI {a b : ByteArray} {x y : Int} (h : a = b) (h2 : x = y) : Ending.returned (.tuple #[.string a, .int .i64 x]) = .returned (.tuple #[.string b, .int .i64 y]) := by rw [h, h2]

end Go.Proofs.YthchjceibpcgbaaGreatDoor.Cn
