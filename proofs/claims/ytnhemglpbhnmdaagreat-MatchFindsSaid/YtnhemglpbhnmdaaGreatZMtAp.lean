/-
  What is proved: append(append([]api.Pair{}, l...), m...), two appends of lists of pairs.
-/
import Derived.Test.YtnhemglpbhnmdaaGreatG5
import Derived.Test.YtnhemglpbhnmdaaGreatZSbD
import Derived.Test.YtnhemglpbhnmdaaGreatMX
namespace Go.Proofs.YtnhemglpbhnmdaaGreat.Mt
open Go.RowKit L T C B U
set_option linter.unusedVariables false
set_option linter.unusedSimpArgs false

/-- an empty list of pairs of the call's own -/
theorem own_empty (w : World) : OwnP (w.alloc (.cells #[] 33)) w.heap.size (.slice (some ⟨w.heap.size, 0, none⟩) 0 0) [] :=
  ⟨[], ⟨rfl, .inr ⟨w.heap.size, 0, #[], rfl, Nat.le_refl _, Blk.new w #[] 33, Nat.le_refl _, Nat.zero_le _, rfl, rfl⟩⟩, rfl, fun i h p hi => by simp at hi⟩
/-- append([]api.Pair{}, l...) -/
theorem app_first {w : World} {ops : Array Oper} {rest : List Oper} {o : Oper} {a : Act} {Q : Exit → Act → World → Prop} (hgd : o.guard = none) (s x : Operand)
    (ho : o.op = .call { callee := .builtin .append, args := #[s, x], argTypes := #[34, 34] })
    (hs : a.eval s = .slice (some ⟨w.heap.size, 0, none⟩) 0 0) (A : Option Addr) (n c : Nat) (X : List Pr) (hx : a.eval x = .slice A n c) (hX : UsW w A n c X) (hn : X.length ≤ 1000000)
    (h : ∀ v' w', OwnP w' w.heap.size v' X → Below w.heap.size w w' → wpList Tryz.prog ops Q rest (a.put o.dst v') w') : wpList Tryz.prog ops Q (o :: rest) a (w.alloc (.cells #[] 33)) := by
  have hb : Below w.heap.size w (w.alloc (.cells #[] 33)) := bel_alloc (Below.refl _ _) _
  refine app_pairs hgd s x ho w.heap.size _ [] hs (own_empty w) (fun b => b < w.heap.size) (fun b hb2 => ⟨by simp; omega, fun e => by simp [Value.ownBlock] at e; omega⟩) A n c X hx (IsU.up (hX.bel hb)) (by simp; omega) (by simp) fun v' w' h1 h2 => h v' w' h1 ?_
  exact hb.grown h2 (by simp) (fun q hq => by simp [Value.ownBlock] at hq; omega)
/-- append(.., m...), a row of the call's own and a list that was there before it -/
theorem app_second {w0 w : World} {ops : Array Oper} {rest : List Oper} {o : Oper} {a : Act} {Q : Exit → Act → World → Prop} (hgd : o.guard = none) (s x : Operand)
    (ho : o.op = .call { callee := .builtin .append, args := #[s, x], argTypes := #[34, 34] })
    (v : Value) (Y : List Pr) (hs : a.eval s = v) (hown : OwnP w w0.heap.size v Y) (hb : Below w0.heap.size w0 w) (A : Option Addr) (n c : Nat) (X : List Pr) (hx : a.eval x = .slice A n c) (hX : UsW w0 A n c X) (hn : Y.length + X.length ≤ 1000000)
    (h : ∀ A' N' C' w', UsW w' A' N' C' (Y ++ X) → Below w0.heap.size w0 w' → wpList Tryz.prog ops Q rest (a.put o.dst (.slice A' N' C')) w') : wpList Tryz.prog ops Q (o :: rest) a w := by
  refine app_pairs hgd s x ho w0.heap.size v Y hs hown (fun b => b < w0.heap.size) (fun b hb2 => ⟨Nat.lt_of_lt_of_le hb2 hb.size, fun e => by have := hown.lt b e; omega⟩) A n c X hx (IsU.up (hX.bel hb)) (by omega) hb.size fun v' w' h1 h2 => ?_
  obtain ⟨A', C', rfl, -⟩ := h1.slice
  exact h A' _ C' w' h1.us (hb.grown h2 hb.size (fun q hq => (hown.lt q hq).1))
end Go.Proofs.YtnhemglpbhnmdaaGreat.Mt
