/-
  What is proved: rows of rows of integers, read and of the call's own; arguments that are sets of clauses.
-/
import Derived.Test.YthchjceibpcgbaaDoorLtB
import Derived.Deep.Matrix
import Derived.Lib.SmallJoins
import Derived.SliceStrings
import Derived.Deep.Slices
import Derived.ChangeArms
import Derived.ChangeSlices
import Derived.OpenShut
namespace Go.Proofs.YthchjceibpcgbaaDoor.Cn
open Go.RowKit Go.Deep Go.ChangeShapes Go.WideShapes Go.Joins L Lt
set_option linter.unusedVariables false
set_option linter.unusedSimpArgs false
set_option maxRecDepth 100000

/-- a slice's address, length and room read as a list of lists of integers -/
def SlG (w : World) (a : Option Addr) (n c : Nat) (G : List (List Int)) : Prop :=
  n = G.length ∧ n ≤ c ∧ (a = none → c = 0) ∧ (0 < n → ∃ b o, a = some ⟨b, o, none⟩ ∧ b < w.heap.size ∧ ∀ i (h : i < G.length), ∃ A m k, w.cell? ⟨b, o + i, none⟩ = some (.slice A m k) ∧ SlI w A m k G[i])
theorem SlG.below {w w' : World} {a : Option Addr} {n c : Nat} {G : List (List Int)} (h : SlG w a n c G) (hb : Below w.heap.size w w') : SlG w' a n c G :=
  ⟨h.1, h.2.1, h.2.2.1, fun hn => by
    obtain ⟨b, o, ha, hlt, hr⟩ := h.2.2.2 hn
    refine ⟨b, o, ha, Nat.lt_of_lt_of_le hlt hb.size, fun i hi => ?_⟩
    obtain ⟨A, m, k, h1, h2⟩ := hr i hi
    exact ⟨A, m, k, (hb.cell (p := ⟨b, _, none⟩) hlt).trans h1, h2.below hb⟩⟩
theorem SlG.nil (w : World) : SlG w none 0 0 [] := ⟨rfl, Nat.le_refl _, fun _ => rfl, fun h => absurd h (by omega)⟩
theorem SlG.at {w : World} {A : Option Addr} {n c : Nat} {G : List (List Int)} (h : SlG w A n c G) {k : Nat} (hk : k < n) :
    ∃ g o B m q X, A = some ⟨g, o, none⟩ ∧ g < w.heap.size ∧ w.cell? ⟨g, o + k, none⟩ = some (.slice B m q) ∧ G[k]? = some X ∧ SlI w B m q X := by
  obtain ⟨g, o, e, hg, hc⟩ := h.2.2.2 (by omega)
  have hk2 : k < G.length := by rw [← h.1]; exact hk
  obtain ⟨B, m, q, h1, h2⟩ := hc k hk2
  exact ⟨g, o, B, m, q, G[k], e, hg, h1, List.getElem?_eq_getElem hk2, h2⟩

structure CfZ where
  N : Int
  a : Option Addr
  n : Nat
  c : Nat
  G : List (List Int)
def CfZ.val (z : CfZ) : Value := .agg #[.int .i64 z.N, .slice z.a z.n z.c]
def sizG (G : List (List Int)) : Prop := ∀ X ∈ G, R64s X ∧ X.length ≤ 9223372036854775807
def CfZ.ok (z : CfZ) (W : World) : Prop := R64 z.N ∧ z.n ≤ 9223372036854775807 ∧ SlG W z.a z.n z.c z.G ∧ sizG z.G
theorem CfZ.ok.below {z : CfZ} {W W' : World} (h : z.ok W) (hb : Below W.heap.size W W') : z.ok W' := ⟨h.1, h.2.1, h.2.2.1.below hb, h.2.2.2⟩

/-- a block that holds a set of clauses -/
def CBox (w : World) (g : Nat) (N : Int) (a : Option Addr) (n c : Nat) : Prop := Blk w g #[.int .i64 N, .slice a n c] 24
theorem CBox.two {w : World} {g : Nat} {N : Int} {a : Option Addr} {n c : Nat} (h : CBox w g N a n c) : w.cell? ⟨g, 0, none⟩ = some (.int .i64 N) ∧ w.cell? ⟨g, 1, none⟩ = some (.slice a n c) := ⟨Blk.cell h 0, Blk.cell h 1⟩
theorem CBox.b {w w' : World} {g : Nat} {N : Int} {a : Option Addr} {n c : Nat} (h : CBox w g N a n c) (hb : Below w.heap.size w w') : CBox w' g N a n c := Blk.below h (hb)
theorem CBox.new (w : World) (N : Int) (a : Option Addr) (n c : Nat) : CBox (w.alloc (.cells #[.int .i64 N, .slice a n c] 24)) w.heap.size N a n c := Blk.new w _ _
theorem boxC (w : World) (N : Int) (a : Option Addr) (n c : Nat) :
    ∃ W, w.alloc (.cells #[.int .i64 N, .slice a n c] 24) = W ∧ Below w.heap.size w W ∧ CBox W w.heap.size N a n c := ⟨_, rfl, bel_alloc (Below.refl _ _) _, CBox.new w N a n c⟩
theorem boxC2 (w : World) (N : Int) (a : Option Addr) (n c : Nat) (M : Int) (b : Option Addr) (m d : Nat) :
    ∃ W, (w.alloc (.cells #[.int .i64 N, .slice a n c] 24)).alloc (.cells #[.int .i64 M, .slice b m d] 24) = W ∧ Below w.heap.size w W ∧ CBox W w.heap.size N a n c ∧ CBox W (w.heap.size + 1) M b m d := by
  refine ⟨_, rfl, bel_alloc (bel_alloc (Below.refl _ _) _) _, Blk.alloc (CBox.new w N a n c) _, ?_⟩
  have := CBox.new (w.alloc (.cells #[.int .i64 N, .slice a n c] 24)) M b m d
  rwa [show (w.alloc (.cells #[.int .i64 N, .slice a n c] 24)).heap.size = w.heap.size + 1 by simp] at this

theorem row_of {w : World} {A : Option Addr} {m q : Nat} {Z : List Int} (hl : m ≤ q) (hz : Z.length = q) (hn : A = none → q = 0) (hc : ∀ a', A = some a' → ∀ c, c < q → w.cell? (a'.add c) = some (.int .i64 (Z.getD c 0))) : SlI w A m q (Z.take m) := by
  have hlen : (Z.take m).length = m := by rw [List.length_take]; omega
  refine ⟨hlen.symm, hl, hn, fun hm => ?_⟩
  cases A with
  | none => have := hn rfl; omega
  | some a' =>
    obtain ⟨b, off, spot⟩ := a'
    have h0 := hc _ rfl 0 (by omega)
    have hspot : spot = none := by simpa [Addr.add] using World.cell?_spot h0
    subst hspot
    refine ⟨b, off, rfl, ?_, fun i hi => ?_⟩
    · rw [Go.WideShapes.add_plain] at h0
      exact World.block_lt_of_cell? _ _ h0
    · have hi2 : i < Z.length := by omega
      have := hc _ rfl i (by omega)
      rw [Go.WideShapes.add_plain] at this
      rw [this, List.getElem_take, List.getD_eq_getElem?_getD, List.getElem?_eq_getElem hi2]; rfl
section
variable {H : Type} {enc : TypeId × Value → H} {W : World}
theorem grid_cell {v : Value} {fuel : Nat} {y : DataW H × List MemPlace} (h : DataW.trod enc Tryd.prog W 0 (fun _ => true) true fuel 22 [v] = some y) :
    ∃ A n c G, v = .slice A n c ∧ n ≤ 9223372036854775807 ∧ SlG W A n c G ∧ sizG G := by
  rcases open_int_rows Tryd.underlying22 Tryd.underlying38 Tryd.underlying3 (by kernel_rfl) (by kernel_rfl) h with ⟨hcs, _⟩ | ⟨a, len, cap, A, Ln, C, Z, hcs, _, hl, hm, _, hr⟩
  · obtain rfl : v = .slice none 0 0 := by simpa using hcs
    exact ⟨none, 0, 0, [], rfl, by omega, SlG.nil W, fun X hX => by cases hX⟩
  · obtain rfl : v = .slice (some a) len cap := by simpa using hcs
    have hrow : ∀ r, r < cap → SlI W (A r) (Ln r) (C r) ((Z r).take (Ln r)) := fun r hr' => by
      obtain ⟨_, h1, _, h3, _, h5, h6⟩ := hr r hr'
      exact row_of h1 h3 h5 (fun a' ha => (h6 a' ha).2)
    refine ⟨_, _, _, (List.range len).map fun r => (Z r).take (Ln r), rfl, by unfold maxLen at hm; omega, ⟨by simp, hl, (fun h => by cases h), fun hn => ?_⟩, fun X hX => ?_⟩
    · obtain ⟨b, off, spot⟩ := a
      have h0 := (hr 0 (by omega)).1
      have hspot : spot = none := by simpa [Addr.add] using World.cell?_spot h0
      subst hspot
      refine ⟨b, off, rfl, ?_, fun i hi => ?_⟩
      · rw [Go.WideShapes.add_plain] at h0
        exact World.block_lt_of_cell? _ _ h0
      · have hi2 : i < len := by simpa using hi
        have := (hr i (by omega)).1
        rw [Go.WideShapes.add_plain] at this
        refine ⟨A i, Ln i, C i, this, ?_⟩
        simpa using hrow i (by omega)
    · obtain ⟨r, hr', rfl⟩ := List.mem_map.1 hX
      have hr2 : r < len := List.mem_range.1 hr'
      obtain ⟨_, h1, h2, h3, h4, _⟩ := hr r (by omega)
      refine ⟨fun x hx => ?_, ?_⟩
      · have := Go.bounds_i64 (h4 x (List.mem_of_mem_take hx))
        exact ⟨this.1, by have := this.2; omega⟩
      · rw [List.length_take]; unfold maxLen at h2; omega
theorem grid_open_all {a : Option Addr} {n c : Nat} {d : DataW H} {p : List MemPlace} (h : DataW.Trod enc Tryd.prog W 0 (fun _ => true) true 22 (.slice a n c) d p) : ∃ G, n ≤ 9223372036854775807 ∧ (SlG W a n c G ∧ sizG G) := by
  obtain ⟨fuel, hf⟩ := h
  obtain ⟨A', n', c', G, e, h1, h2, h3⟩ := grid_cell (v := .slice a n c) (y := (d, p)) (by simpa [Value.cells] using hf)
  injection e with e1 e2 e3
  subst e1 e2 e3
  exact ⟨G, h1, h2, h3⟩
theorem cnf_open_all {r : Reach} {b0 : Nat} {v : Value} {d : DataW H} {p : List MemPlace} (hv : Value.okWide Tryd.prog W r b0 24 v) (h : DataW.Trod enc Tryd.prog W 0 (fun _ => true) true 24 v d p) :
    ∃ z : CfZ, v = z.val ∧ z.ok W := by
  obtain ⟨v0, v1, y0, y1, n, rfl, _, _, g0, g1⟩ := open_agg2 Tryd.underlying24 (by kernel_rfl) (by kernel_rfl) hv h
  obtain ⟨N, e0, _, hN⟩ := DataW.trod_int Tryd.underlying3 g0
  obtain rfl : v0 = .int .i64 N := by simpa using e0
  obtain ⟨A, k, c, G, rfl, h1, h2, h3⟩ := grid_cell g1
  have := Go.bounds_i64 hN
  exact ⟨⟨N, A, k, c, G⟩, rfl, ⟨this.1, by have := this.2; show N < 9223372036854775808; omega⟩, h1, h2, h3⟩
end
end Go.Proofs.YthchjceibpcgbaaDoor.Cn
