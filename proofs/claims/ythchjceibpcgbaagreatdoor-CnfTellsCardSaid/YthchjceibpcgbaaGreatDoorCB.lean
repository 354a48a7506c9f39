/-
  What is proved: rows of rows of integers, read and of the call's own; arguments that are sets of clauses.
  What is proved: rows of rows of integers of the call's own, and appends of one row more.
-/
import Derived.Test.YthchjceibpcgbaaGreatDoorLA
import Derived.Deep.Matrix
import Derived.Lib.SmallJoins
import Derived.SliceStrings
import Derived.Deep.Slices
import Derived.ChangeArms
import Derived.ChangeSlices
import Derived.OpenShut
namespace Go.Proofs.YthchjceibpcgbaaGreatDoor.Cn
open Go.RowKit Go.Deep Go.ChangeShapes Go.WideShapes Go.Joins L Lt
set_option linter.unusedVariables false
set_option linter.unusedSimpArgs false
set_option maxRecDepth 100000

/-- a slice's address, length and room read as a list of lists of integers -/
def SlG (w : World) (a : Option Addr) (n c : Nat) (G : List (List Int)) : Prop :=
  n = G.length ∧ n ≤ c ∧ (a = none → c = 0) ∧ (0 < n → ∃ b o, a = some ⟨b, o, none⟩ ∧ b < w.heap.size ∧ ∀ i (h : i < G.length), ∃ A m k, w.cell? ⟨b, o + i, none⟩ = some (.slice A m k) ∧ SlI w A m k G[i])
theorem SlG.below {w w' : World} {a : Option Addr} {n c : Nat} {G : List (List Int)} (h : SlG w a n c G) (hb : Below w.heap.size w w') : SlG w' a n c G :=
  ⟨h.1, h.2.1, h.2.2.1, fun hn => by
    obtain ⟨b, o, ha, hlt, hr⟩ := h.2.2.2 hn
    refine ⟨b, o, ha, Nat.lt_of_lt_of_le hlt hb.size, fun i hi => ?_⟩
    obtain ⟨A, m, k, h1, h2⟩ := hr i hi
    exact ⟨A, m, k, (hb.cell (p := ⟨b, _, none⟩) hlt).trans h1, h2.below hb⟩⟩
theorem SlG.nil (w : World) : SlG w none 0 0 [] := ⟨rfl, Nat.le_refl _, fun _ => rfl, fun h => absurd h (by omega)⟩
theorem SlG.at {w : World} {A : Option Addr} {n c : Nat} {G : List (List Int)} (h : SlG w A n c G) {k : Nat} (hk : k < n) :
    ∃ g o B m q X, A = some ⟨g, o, none⟩ ∧ g < w.heap.size ∧ w.cell? ⟨g, o + k, none⟩ = some (.slice B m q) ∧ G[k]? = some X ∧ SlI w B m q X := by
  obtain ⟨g, o, e, hg, hc⟩ := h.2.2.2 (by omega)
  have hk2 : k < G.length := by rw [← h.1]; exact hk
  obtain ⟨B, m, q, h1, h2⟩ := hc k hk2
  exact ⟨g, o, B, m, q, G[k], e, hg, h1, List.getElem?_eq_getElem hk2, h2⟩

structure CfZ where
  N : Int
  a : Option Addr
  n : Nat
  c : Nat
  G : List (List Int)
def CfZ.val (z : CfZ) : Value := .agg #[.int .i64 z.N, .slice z.a z.n z.c]
def sizG (G : List (List Int)) : Prop := ∀ X ∈ G, R64s X ∧ X.length ≤ 9223372036854775807
def CfZ.ok (z : CfZ) (W : World) : Prop := R64 z.N ∧ z.n ≤ 9223372036854775807 ∧ SlG W z.a z.n z.c z.G ∧ sizG z.G
theorem CfZ.ok.below {z : CfZ} {W W' : World} (h : z.ok W) (hb : Below W.heap.size W W') : z.ok W' := ⟨h.1, h.2.1, h.2.2.1.below hb, h.2.2.2⟩

/-- a block that holds a set of clauses -/
def CBox (w : World) (g : Nat) (N : Int) (a : Option Addr) (n c : Nat) : Prop := Blk w g #[.int .i64 N, .slice a n c] 24
theorem CBox.two {w : World} {g : Nat} {N : Int} {a : Option Addr} {n c : Nat} (h : CBox w g N a n c) : w.cell? ⟨g, 0, none⟩ = some (.int .i64 N) ∧ w.cell? ⟨g, 1, none⟩ = some (.slice a n c) := ⟨Blk.cell h 0, Blk.cell h 1⟩
theorem CBox.b {w w' : World} {g : Nat} {N : Int} {a : Option Addr} {n c : Nat} (h : CBox w g N a n c) (hb : Below w.heap.size w w') : CBox w' g N a n c := Blk.below h (hb)
theorem CBox.new (w : World) (N : Int) (a : Option Addr) (n c : Nat) : CBox (w.alloc (.cells #[.int .i64 N, .slice a n c] 24)) w.heap.size N a n c := Blk.new w _ _
theorem boxC (w : World) (N : Int) (a : Option Addr) (n c : Nat) :
    ∃ W, w.alloc (.cells #[.int .i64 N, .slice a n c] 24) = W ∧ Below w.heap.size w W ∧ CBox W w.heap.size N a n c := ⟨_, rfl, bel_alloc (Below.refl _ _) _, CBox.new w N a n c⟩
theorem boxC2 (w : World) (N : Int) (a : Option Addr) (n c : Nat) (M : Int) (b : Option Addr) (m d : Nat) :
    ∃ W, (w.alloc (.cells #[.int .i64 N, .slice a n c] 24)).alloc (.cells #[.int .i64 M, .slice b m d] 24) = W ∧ Below w.heap.size w W ∧ CBox W w.heap.size N a n c ∧ CBox W (w.heap.size + 1) M b m d := by
  refine ⟨_, rfl, bel_alloc (bel_alloc (Below.refl _ _) _) _, Blk.alloc (CBox.new w N a n c) _, ?_⟩
  have := CBox.new (w.alloc (.cells #[.int .i64 N, .slice a n c] 24)) M b m d
  rwa [show (w.alloc (.cells #[.int .i64 N, .slice a n c] 24)).heap.size = w.heap.size + 1 by simp] at this

theorem row_of {w : World} {A : Option Addr} {m q : Nat} {Z : List Int} (hl : m ≤ q) (hz : Z.length = q) (hn : A = none → q = 0) (hc : ∀ a', A = some a' → ∀ c, c < q → w.cell? (a'.add c) = some (.int .i64 (Z.getD c 0))) : SlI w A m q (Z.take m) := by
  have hlen : (Z.take m).length = m := by rw [List.length_take]; omega
  refine ⟨hlen.symm, hl, hn, fun hm => ?_⟩
  cases A with
  | none => have := hn rfl; omega
  | some a' =>
    obtain ⟨b, off, spot⟩ := a'
    have h0 := hc _ rfl 0 (by omega)
    have hspot : spot = none := by simpa [Addr.add] using World.cell?_spot h0
    subst hspot
    refine ⟨b, off, rfl, ?_, fun i hi => ?_⟩
    · rw [Go.WideShapes.add_plain] at h0
      exact World.block_lt_of_cell? _ _ h0
    · have hi2 : i < Z.length := by omega
      have := hc _ rfl i (by omega)
      rw [Go.WideShapes.add_plain] at this
      rw [this, List.getElem_take, List.getD_eq_getElem?_getD, List.getElem?_eq_getElem hi2]; rfl
section
variable {H : Type} {enc : TypeId × Value → H} {W : World}
theorem grid_cell {v : Value} {fuel : Nat} {y : DataW H × List MemPlace} (h : DataW.trod enc Tryz.prog W 0 (fun _ => true) true fuel 22 [v] = some y) :
    ∃ A n c G, v = .slice A n c ∧ n ≤ 9223372036854775807 ∧ SlG W A n c G ∧ sizG G := by
  rcases open_int_rows Tryz.underlying22 Tryz.underlying34 Tryz.underlying3 (by kernel_rfl) (by kernel_rfl) h with ⟨hcs, _⟩ | ⟨a, len, cap, A, Ln, C, Z, hcs, _, hl, hm, _, hr⟩
  · obtain rfl : v = .slice none 0 0 := by simpa using hcs
    exact ⟨none, 0, 0, [], rfl, by omega, SlG.nil W, fun X hX => by cases hX⟩
  · obtain rfl : v = .slice (some a) len cap := by simpa using hcs
    have hrow : ∀ r, r < cap → SlI W (A r) (Ln r) (C r) ((Z r).take (Ln r)) := fun r hr' => by
      obtain ⟨_, h1, _, h3, _, h5, h6⟩ := hr r hr'
      exact row_of h1 h3 h5 (fun a' ha => (h6 a' ha).2)
    refine ⟨_, _, _, (List.range len).map fun r => (Z r).take (Ln r), rfl, by unfold maxLen at hm; omega, ⟨by simp, hl, (fun h => by cases h), fun hn => ?_⟩, fun X hX => ?_⟩
    · obtain ⟨b, off, spot⟩ := a
      have h0 := (hr 0 (by omega)).1
      have hspot : spot = none := by simpa [Addr.add] using World.cell?_spot h0
      subst hspot
      refine ⟨b, off, rfl, ?_, fun i hi => ?_⟩
      · rw [Go.WideShapes.add_plain] at h0
        exact World.block_lt_of_cell? _ _ h0
      · have hi2 : i < len := by simpa using hi
        have := (hr i (by omega)).1
        rw [Go.WideShapes.add_plain] at this
        refine ⟨A i, Ln i, C i, this, ?_⟩
        simpa using hrow i (by omega)
    · obtain ⟨r, hr', rfl⟩ := List.mem_map.1 hX
      have hr2 : r < len := List.mem_range.1 hr'
      obtain ⟨_, h1, h2, h3, h4, _⟩ := hr r (by omega)
      refine ⟨fun x hx => ?_, ?_⟩
      · have := Go.bounds_i64 (h4 x (List.mem_of_mem_take hx))
        exact ⟨this.1, by have := this.2; omega⟩
      · rw [List.length_take]; unfold maxLen at h2; omega
theorem grid_open_all {a : Option Addr} {n c : Nat} {d : DataW H} {p : List MemPlace} (h : DataW.Trod enc Tryz.prog W 0 (fun _ => true) true 22 (.slice a n c) d p) : ∃ G, n ≤ 9223372036854775807 ∧ (SlG W a n c G ∧ sizG G) := by
  obtain ⟨fuel, hf⟩ := h
  obtain ⟨A', n', c', G, e, h1, h2, h3⟩ := grid_cell (v := .slice a n c) (y := (d, p)) (by simpa [Value.cells] using hf)
  injection e with e1 e2 e3
  subst e1 e2 e3
  exact ⟨G, h1, h2, h3⟩
theorem cnf_open_all {r : Reach} {b0 : Nat} {v : Value} {d : DataW H} {p : List MemPlace} (hv : Value.okWide Tryz.prog W r b0 24 v) (h : DataW.Trod enc Tryz.prog W 0 (fun _ => true) true 24 v d p) :
    ∃ z : CfZ, v = z.val ∧ z.ok W := by
  obtain ⟨v0, v1, y0, y1, n, rfl, _, _, g0, g1⟩ := open_agg2 Tryz.underlying24 (by kernel_rfl) (by kernel_rfl) hv h
  obtain ⟨N, e0, _, hN⟩ := DataW.trod_int Tryz.underlying3 g0
  obtain rfl : v0 = .int .i64 N := by simpa using e0
  obtain ⟨A, k, c, G, rfl, h1, h2, h3⟩ := grid_cell g1
  have := Go.bounds_i64 hN
  exact ⟨⟨N, A, k, c, G⟩, rfl, ⟨this.1, by have := this.2; show N < 9223372036854775808; omega⟩, h1, h2, h3⟩
end
end Go.Proofs.YthchjceibpcgbaaGreatDoor.Cn
namespace Go.Proofs.YthchjceibpcgbaaGreatDoor.Cn
open Go.RowKit L Lt
set_option linter.unusedVariables false
set_option linter.unusedSimpArgs false
set_option maxRecDepth 100000

/-- a slice value that reads as a list of integers in a block of a kind -/
def RwI (P : Nat → Prop) (w : World) (u : Value) (X : List Int) : Prop := ∃ A m k, u = .slice A m k ∧ SlI w A m k X ∧ (0 < m → ∀ ad, A = some ad → P ad.block)
theorem RwI.to {P Q : Nat → Prop} {w w' : World} {u : Value} {X : List Int} (h : RwI P w u X) (hb : ∀ b, P b → w'.heap[b]? = w.heap[b]?) (hq : ∀ b, P b → Q b) : RwI Q w' u X := by
  obtain ⟨A, m, k, e, hS, hP⟩ := h
  refine ⟨A, m, k, e, ⟨hS.1, hS.2.1, hS.2.2.1, fun hm => ?_⟩, fun hm ad ha => hq _ (hP hm ad ha)⟩
  obtain ⟨b, o, ha, hlt, hr⟩ := hS.2.2.2 hm
  have hB := hb b (hP hm _ ha)
  refine ⟨b, o, ha, ?_, fun i hi => (World.cell?_of_block hB).trans (hr i hi)⟩
  have : w.heap[b]? = some w.heap[b] := Array.getElem?_eq_getElem hlt
  rw [this] at hB
  exact (Array.getElem?_eq_some_iff.1 hB).1
theorem RwI.one {P : Nat → Prop} {w : World} {u : Value} {X : List Int} (h : RwI P w u X) : u.oneCell' = true := by
  obtain ⟨A, m, k, rfl, _⟩ := h; rfl
theorem rowI : (Tryz.prog.info? 34).map (fun i => (i.zero, i.size, i.bytes)) = some (some (.slice none 0 0), 1, 24) := by kernel_rfl
/-- a row of the call's own, of rows that lie apart from it -/
def OwnG (w : World) (lo : Nat) (v : Value) (G : List (List Int)) : Prop := ∃ us, w.ownsRow lo 34 1 v us.length us ∧ us.length = G.length ∧ ∀ (i : Nat) (u : Value) (X : List Int), us[i]? = some u → G[i]? = some X → RwI (fun b => lo ≤ b ∧ b < w.heap.size ∧ v.ownBlock ≠ some b) w u X
theorem OwnG.nil (w : World) (lo : Nat) : OwnG w lo (.slice none 0 0) [] := ⟨[], World.ownsRow_nil _ _ _ _, rfl, fun i u X hi => by simp at hi⟩
theorem own_block {w w' : World} {lo n : Nat} {v : Value} {us : List Value} (h : w.ownsRow lo 34 1 v n us) (hb : ∀ k, lo ≤ k → k < w.heap.size → w'.heap[k]? = w.heap[k]?) : w'.ownsRow lo 34 1 v n us := by
  refine ⟨h.1, ?_⟩
  rcases h.2 with hn | ⟨g, cap, cur, rfl, h1, hg, rest⟩
  · exact .inl hn
  · exact .inr ⟨g, cap, cur, rfl, h1, by rw [hb g h1 (Array.getElem?_eq_some_iff.1 hg).1]; exact hg, rest⟩
theorem OwnG.below {w w' : World} {lo : Nat} {v : Value} {G : List (List Int)} (h : OwnG w lo v G) (hb : Below w.heap.size w w') : OwnG w' lo v G := by
  obtain ⟨us, h1, h2, h3⟩ := h
  exact ⟨us, own_block h1 (fun k _ hk => hb.block k hk), h2, fun i u X e1 e2 => (h3 i u X e1 e2).to (fun b hp => hb.block b hp.2.1) (fun b hp => ⟨hp.1, Nat.lt_of_lt_of_le hp.2.1 hb.size, hp.2.2⟩)⟩
theorem OwnG.lt {w : World} {lo : Nat} {v : Value} {G : List (List Int)} (h : OwnG w lo v G) : ∀ q, v.ownBlock = some q → lo ≤ q ∧ q < w.heap.size := by
  obtain ⟨us, h1, h2, h3⟩ := h
  exact fun q hq => World.ownsRow.lt h1 q hq
/-- a store below the base leaves the row -/
theorem OwnG.far {w : World} {lo x : Nat} {v : Value} {G : List (List Int)} (h : OwnG w lo v G) (hx : x < lo) (k : Nat) (u : Value) : OwnG (w.setCell ⟨x, k, none⟩ u) lo v G := by
  obtain ⟨us, h1, h2, h3⟩ := h
  have hh : ∀ b, lo ≤ b → (w.setCell ⟨x, k, none⟩ u).heap[b]? = w.heap[b]? := fun b hb => heap_setCell_other w ⟨x, k, none⟩ b u (fun e => by have e : b = x := e; omega)
  have hsz : (w.setCell ⟨x, k, none⟩ u).heap.size = w.heap.size := by simp
  exact ⟨us, own_block h1 (fun b hb _ => hh b hb), h2, fun i u' X e1 e2 => (h3 i u' X e1 e2).to (fun b hp => hh b hp.1) (fun b hp => ⟨hp.1, by rw [hsz]; exact hp.2.1, hp.2.2⟩)⟩
theorem OwnG.slG {w : World} {lo : Nat} {v : Value} {G : List (List Int)} (h : OwnG w lo v G) : ∃ A c, v = .slice A G.length c ∧ c ≤ maxLen ∧ SlG w A G.length c G := by
  obtain ⟨us, h1, h2, h3⟩ := h
  have h1' := h1
  rcases h1.2 with ⟨rfl, hn⟩ | ⟨g, cap, cur, rfl, hb, hg, hnc, hcm, hcs, ht⟩
  · have e : G = [] := List.eq_nil_of_length_eq_zero (by omega)
    subst e
    exact ⟨none, 0, rfl, Nat.zero_le _, SlG.nil w⟩
  · refine ⟨some ⟨g, 0, none⟩, cap, by rw [h2], hcm, rfl, by omega, (fun e => by cases e), fun hn => ⟨g, 0, rfl, (Array.getElem?_eq_some_iff.1 hg).1, fun i hi => ?_⟩⟩
    have hi2 : i < us.length := by omega
    obtain ⟨A, m, k, e, hS, _⟩ := h3 i us[i] G[i] (List.getElem?_eq_getElem hi2) (List.getElem?_eq_getElem hi)
    refine ⟨A, m, k, ?_, hS⟩
    have e1 : (cur.toList.take (us.length * 1))[i]? = us[i]? := by rw [ht]
    rw [List.getElem?_take_of_lt (by omega), Array.getElem?_toList] at e1
    rw [Nat.zero_add, cell_of_row w g i _ _ _ hg, e1, List.getElem?_eq_getElem hi2, e]
/-- append(s, x) for the walk: s a row of the call's own, x one row that lies apart from it -/
theorem app_grid {w : World} {ops : Array Oper} {rest : List Oper} {o : Oper} {a : Act} {Q : Exit → Act → World → Prop} (hgd : o.guard = none) (s x : Operand)
    (ho : o.op = .call { callee := .builtin .append, args := #[s, x], argTypes := #[22, 22] })
    (base : Nat) (v : Value) (G : List (List Int)) (hs : a.eval s = v) (hown : OwnG w base v G) (ad : Addr) (c : Nat) (u : Value) (X : List Int) (hx : a.eval x = .slice (some ad) 1 c) (hu : w.cell? ad = some u) (hX : RwI (fun b => base ≤ b ∧ b < w.heap.size ∧ v.ownBlock ≠ some b) w u X)
    (hc : 1 ≤ c) (hn : G.length + 1 ≤ 1000000000) (hbase : base ≤ w.heap.size)
    (h : ∀ v' w', OwnG w' base v' (G ++ [X]) → w.grownBy w' v.ownBlock → wpList Tryz.prog ops Q rest (a.put o.dst v') w') : wpList Tryz.prog ops Q (o :: rest) a w := by
  obtain ⟨i0, hi, hz0, hz1, hz2⟩ := info_parts rowI
  obtain ⟨us, hy1, hy2, hy3⟩ := hown
  refine wpList_append_own_at w hgd s x 22 ho base 34 i0 _ 1 24 Tryz.underlying22 hi hz0 hz1 hz2 rfl (by decide) v us.length us hs hy1 ad 1 c [u] hx rfl (fun j u' hj => ?_) (fun u' hu' => ?_) (by unfold maxLen; omega) (by omega) hbase fun v' w' h1 h2 _ h4 => h v' w' ⟨us ++ [u], by rw [List.length_append]; exact h1, by simp [hy2], fun i u' X' e1 e2 => ?_⟩ h2
  · have : j = 0 := by have := (List.getElem?_eq_some_iff.1 hj).1; simp at this; omega
    subst this
    have : u = u' := by simpa using hj
    subst this
    have : ad.add 0 = ad := by unfold Addr.add; cases ad; simp
    rw [this]; exact hu
  · obtain rfl : u' = u := by simpa using hu'
    exact hX.one
  · have hto : ∀ b, base ≤ b ∧ b < w.heap.size ∧ v.ownBlock ≠ some b → base ≤ b ∧ b < w'.heap.size ∧ v'.ownBlock ≠ some b := fun b hp => ⟨hp.1, Nat.lt_of_lt_of_le hp.2.1 h2.size, fun e => by
      rcases h4 with h4 | h4
      · exact hp.2.2 (h4.symm.trans e)
      · rw [h4] at e; injection e with e; have := hp.2.1; omega⟩
    rcases Nat.lt_or_ge i us.length with hlt | hge
    · rw [List.getElem?_append_left hlt] at e1
      rw [List.getElem?_append_left (by rw [← hy2]; exact hlt)] at e2
      exact (hy3 i u' X' e1 e2).to (fun b hp => h2.block b hp.2.1 (fun e => hp.2.2 e.symm)) hto
    · rw [List.getElem?_append_right hge] at e1
      rw [List.getElem?_append_right (by rw [← hy2]; exact hge), ← hy2] at e2
      have h0 : i - us.length = 0 := by have := (List.getElem?_eq_some_iff.1 e1).1; simp at this; omega
      rw [h0] at e1 e2
      obtain rfl : u = u' := by simpa using e1
      obtain rfl : X = X' := by simpa using e2
      exact hX.to (fun b hp => h2.block b hp.2.1 (fun e => hp.2.2 e.symm)) hto
end Go.Proofs.YthchjceibpcgbaaGreatDoor.Cn
