/-
  What is proved: memory of the loop that reads a set of clauses, as the document does it.
-/
import Derived.Test.YthchjceibpcgbaaGreatDoorZCnI
import Derived.Test.YthchjceibpcgbaaGreatDoorCK
import Derived.Test.YthchjceibpcgbaaGreatDoorCB
namespace Go.Proofs.YthchjceibpcgbaaGreatDoor.Cn
open Go.RowKit L Lt
set_option linter.unusedVariables false
set_option linter.unusedSimpArgs false

theorem CBox.free {w : World} {g : Nat} {N : Int} {a : Option Addr} {n c : Nat} (h : CBox w g N a n c) : w.frozen? ⟨g, 0, none⟩ = false ∧ w.frozen? ⟨g, 1, none⟩ = false := ⟨Blk.free h 0, Blk.free h 1⟩
theorem CBox.put0 {w : World} {g : Nat} {N : Int} {a : Option Addr} {n c : Nat} (h : CBox w g N a n c) (M : Int) : CBox (w.setCell ⟨g, 0, none⟩ (.int .i64 M)) g M a n c := Blk.set h 0 _
theorem CBox.put1 {w : World} {g : Nat} {N : Int} {a : Option Addr} {n c : Nat} (h : CBox w g N a n c) (b : Option Addr) (m d : Nat) : CBox (w.setCell ⟨g, 1, none⟩ (.slice b m d)) g N b m d := Blk.set h 1 _
theorem CBox.far {w : World} {g g' : Nat} {N : Int} {a : Option Addr} {n c : Nat} (h : CBox w g N a n c) (hne : g' ≠ g) (k : Nat) (v : Value) : CBox (w.setCell ⟨g', k, none⟩ v) g N a n c := Blk.far h hne k v
theorem CBox.ownG {w w' : World} {g : Nat} {N : Int} {a : Option Addr} {n c : Nat} {v : Value} {G : List (List Int)} {base : Nat} (h : CBox w g N a n c) (hg : w.grownBy w' v.ownBlock) (ho : OwnG w base v G) (hlt : g < base) : CBox w' g N a n c :=
  Blk.grown h hg (fun e => by have := (ho.lt g e.symm).1; omega)
def RM (w wr : World) (n : Int) (A : Option Addr) (r k : Nat) (G : List (List Int)) : Prop :=
  CBox wr w.heap.size 0 none 0 0 ∧ CBox wr (w.heap.size + 1) n A r k ∧ OwnG wr (w.heap.size + 2) (.slice A r k) G ∧ r = G.length ∧ w.heap.size + 2 ≤ wr.heap.size ∧ Below w.heap.size w wr
theorem RM.b {w wr wr' : World} {n : Int} {A : Option Addr} {r k : Nat} {G : List (List Int)} (h : RM w wr n A r k G) (hb : Below wr.heap.size wr wr') : RM w wr' n A r k G :=
  ⟨h.1.b hb, h.2.1.b hb, h.2.2.1.below hb, h.2.2.2.1, Nat.le_trans h.2.2.2.2.1 hb.size, bel_trans h.2.2.2.2.2 hb⟩
theorem RM.start (w : World) : ∃ W, (w.alloc (.cells #[.int .i64 0, .slice none 0 0] 24)).alloc (.cells #[.int .i64 0, .slice none 0 0] 24) = W ∧ RM w W 0 none 0 0 [] := by
  obtain ⟨W, h1, h2, h3, h4⟩ := boxC2 w 0 none 0 0 0 none 0 0
  exact ⟨W, h1, h3, h4, OwnG.nil _ _, rfl, by rw [← h1]; simp, h2⟩
theorem RM.setN {w wr : World} {n : Int} {A : Option Addr} {r k : Nat} {G : List (List Int)} (h : RM w wr n A r k G) (m : Int) : RM w (wr.setCell ⟨w.heap.size + 1, 0, none⟩ (.int .i64 m)) m A r k G :=
  ⟨h.1.far (by omega) 0 _, h.2.1.put0 m, h.2.2.1.far (by omega) 0 _, h.2.2.2.1, by have := h.2.2.2.2.1; simpa using this, h.2.2.2.2.2.setCell (p := ⟨w.heap.size + 1, 0, none⟩) (by show w.heap.size ≤ w.heap.size + 1; omega) _⟩
theorem RM.fin {w wr : World} {n : Int} {A : Option Addr} {r k : Nat} {G : List (List Int)} (h : RM w wr n A r k G) (N : Int) (B : Option Addr) (m c : Nat) :
    CBox ((wr.setCell ⟨w.heap.size, 0, none⟩ (.int .i64 N)).setCell ⟨w.heap.size, 1, none⟩ (.slice B m c)) w.heap.size N B m c ∧ Below w.heap.size w ((wr.setCell ⟨w.heap.size, 0, none⟩ (.int .i64 N)).setCell ⟨w.heap.size, 1, none⟩ (.slice B m c)) ∧ OwnG ((wr.setCell ⟨w.heap.size, 0, none⟩ (.int .i64 N)).setCell ⟨w.heap.size, 1, none⟩ (.slice B m c)) (w.heap.size + 2) (.slice A r k) G :=
  ⟨(h.1.put0 N).put1 B m c, (h.2.2.2.2.2.setCell (p := ⟨w.heap.size, 0, none⟩) (Nat.le_refl _) _).setCell (p := ⟨w.heap.size, 1, none⟩) (Nat.le_refl _) _, (h.2.2.1.far (by omega) 0 _).far (by omega) 1 _⟩
/-- one row more -/
theorem RM.app {w wr w6 : World} {n : Int} {A : Option Addr} {r k : Nat} {G : List (List Int)} {X : List Int} {v : Value} (h : RM w wr n A r k G) (ho : OwnG w6 (w.heap.size + 2) v (G ++ [X])) (hg : wr.grownBy w6 (Value.slice A r k).ownBlock) :
    ∃ A' k', v = .slice A' (r + 1) k' ∧ RM w (w6.setCell ⟨w.heap.size + 1, 1, none⟩ v) n A' (r + 1) k' (G ++ [X]) ∧ w6.frozen? ⟨w.heap.size + 1, 1, none⟩ = false ∧ w6.cell? ⟨w.heap.size + 1, 1, none⟩ = some (.slice A r k) := by
  obtain ⟨A', k', e, _, _⟩ := ho.slG
  have el : (G ++ [X]).length = r + 1 := by rw [List.length_append, h.2.2.2.1]; rfl
  rw [el] at e
  subst e
  have c1 := h.1.ownG hg h.2.2.1 (by omega)
  have c2 := h.2.1.ownG hg h.2.2.1 (by omega)
  exact ⟨A', k', rfl, ⟨c1.far (by omega) 1 _, c2.put1 _ _ _, ho.far (by omega) 1 _, el.symm, by have h1 := hg.size; have h2 := h.2.2.2.2.1; simp; omega, (h.2.2.2.2.2.grown hg h.2.2.2.2.2.size (fun q hq => by have := (h.2.2.1.lt q hq).1; omega)).setCell (p := ⟨w.heap.size + 1, 1, none⟩) (by show w.heap.size ≤ w.heap.size + 1; omega) _⟩, c2.free.2, c2.two.2⟩
/-- the clause that was read, as a row that lies apart -/
theorem RM.row {w wr w' : World} {n : Int} {A : Option Addr} {r k : Nat} {G : List (List Int)} (h : RM w wr n A r k G) (hb : Below wr.heap.size wr w') {B : Option Addr} {m c : Nat} {X : List Int} (hS : SlI w' B m c X) (hB : ∀ ad, B = some ad → wr.heap.size ≤ ad.block) :
    RwI (fun b => w.heap.size + 2 ≤ b ∧ b < w'.heap.size ∧ (Value.slice A r k).ownBlock ≠ some b) w' (.slice B m c) X :=
  ⟨B, m, c, rfl, hS, fun hm ad ha => by
    have h1 := hB ad ha
    have h2 := h.2.2.2.2.1
    obtain ⟨b, o, e, hlt, _⟩ := hS.2.2.2 hm
    rw [ha] at e
    injection e with e
    subst e
    have h1 : wr.heap.size ≤ b := h1
    exact ⟨by show w.heap.size + 2 ≤ b; omega, hlt, fun e => by have := (h.2.2.1.lt b e).2; omega⟩⟩
end Go.Proofs.YthchjceibpcgbaaGreatDoor.Cn
