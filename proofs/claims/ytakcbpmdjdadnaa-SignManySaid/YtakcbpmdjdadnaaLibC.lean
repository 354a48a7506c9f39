/-
  What is proved: a list of texts appended to a row of the call's own; slices.Concat of two lists of texts.
-/
import Derived.Test.YtakcbpmdjdadnaaLibB
import Derived.Maps.AppendAt
import Derived.Laws.AppendOwnNone
import Derived.OwnWalk
import Derived.Lib.AppendZeros
import Derived.Deep.AppendLies
namespace Go.Proofs.Ytakcbpmdjdadnaa.L
open Go.RowKit
set_option linter.unusedVariables false
set_option linter.unusedSimpArgs false

/-- a slice value read as a list of texts: with what an append asks of it -/
def SlS (w : World) (a : Option Addr) (n c : Nat) (X : List ByteArray) : Prop := IsS w a n X ∧ n ≤ c ∧ (a = none → c = 0)
theorem SlS.below {w w' : World} {a : Option Addr} {n c : Nat} {X : List ByteArray} (h : SlS w a n c X) (hb : Below w.heap.size w w') : SlS w' a n c X := ⟨h.1.below hb, h.2⟩
def vsS (X : List ByteArray) : List Value := X.map .string
theorem vsS_len (X : List ByteArray) : (vsS X).length = X.length := by simp [vsS]
theorem vsS_app (X Y : List ByteArray) : vsS (X ++ Y) = vsS X ++ vsS Y := by simp [vsS]
theorem strI : (Try.prog.info? 9).map (fun i => (i.zero, i.size, i.bytes)) = some (some (.string ⟨#[]⟩), 1, 16) := by kernel_rfl
/-- a row of the call's own, read as a list of texts -/
def OwnS (w : World) (base : Nat) (v : Value) (X : List ByteArray) : Prop := w.ownsRow base 9 1 v X.length (vsS X)
theorem OwnS.nil (w : World) (base : Nat) : OwnS w base (.slice none 0 0) [] := World.ownsRow_nil _ _ _ _
theorem OwnS.base {w : World} {b b' : Nat} {v : Value} {X : List ByteArray} (h : OwnS w b v X) (hb : b' ≤ b) : OwnS w b' v X := by
  refine ⟨h.1, ?_⟩
  rcases h.2 with hn | ⟨g, cap, cur, rfl, h1, rest⟩
  · exact .inl hn
  · exact .inr ⟨g, cap, cur, rfl, by omega, rest⟩
theorem OwnS.made (w : World) (X : List ByteArray) (base : Nat) (hb : base ≤ w.heap.size) (hl : X.length ≤ maxLen) : OwnS (w.alloc (.cells (vsS X).toArray 9)) base (.slice (some ⟨w.heap.size, 0, none⟩) X.length X.length) X :=
  ⟨by simp [vsS], .inr ⟨w.heap.size, X.length, _, rfl, hb, heap_alloc_new w _, Nat.le_refl _, hl, by simp [vsS], by simp [vsS, List.take_of_length_le]⟩⟩
theorem OwnS.slS {w : World} {base : Nat} {v : Value} {X : List ByteArray} (h : OwnS w base v X) : ∃ A c, v = .slice A X.length c ∧ SlS w A X.length c X := by
  rcases h.2 with ⟨rfl, hn⟩ | ⟨g, cap, cur, rfl, hb, hg, hnc, hcm, hcs, ht⟩
  · exact ⟨none, 0, by rw [hn], ⟨rfl, fun h => absurd h (by omega)⟩, by omega, fun _ => rfl⟩
  · refine ⟨_, _, rfl, ⟨rfl, fun _ => ⟨g, 0, rfl, (Array.getElem?_eq_some_iff.1 hg).1, fun k hk => ?_⟩⟩, hnc, fun h => by cases h⟩
    rw [Nat.zero_add, cell_of_row w g k _ _ _ hg]
    have h2 : (cur.toList.take (X.length * 1))[k]? = (vsS X)[k]? := by rw [ht]
    rw [List.getElem?_take_of_lt (by omega)] at h2
    rw [← Array.getElem?_toList, h2]
    simp [vsS, hk]
theorem OwnS.below {w w' : World} {base : Nat} {v : Value} {X : List ByteArray} (h : OwnS w base v X) (hb : Below w.heap.size w w') : OwnS w' base v X := by
  refine ⟨h.1, ?_⟩
  rcases h.2 with hn | ⟨g, cap, cur, rfl, h1, hg, rest⟩
  · exact .inl hn
  · exact .inr ⟨g, cap, cur, rfl, h1, by rw [hb.block g (Array.getElem?_eq_some_iff.1 hg).1]; exact hg, rest⟩
theorem news_at {w : World} {ad : Addr} {n : Nat} {X : List ByteArray} (h : IsS w (some ad) n X) : ∀ j u, (vsS X)[j]? = some u → w.cell? (ad.add j) = some u := fun j u hj => by
  obtain ⟨hj2, hu⟩ := List.getElem?_eq_some_iff.1 hj
  rw [vsS_len] at hj2
  obtain ⟨b, o, ha, _, hr⟩ := h.2 (by rw [h.1]; omega)
  injection ha with ha
  subst ha
  rw [Addr.add_lit, hr j hj2, ← hu]
  simp [vsS]
theorem vsS_one (X : List ByteArray) : ∀ u ∈ vsS X, u.oneCell' = true := fun u hu => by
  obtain ⟨x, _, rfl⟩ := List.mem_map.1 hu
  rfl

/-- append(s, x...) for the walk: s a row of the call's own, x any list of texts -/
theorem app_strs {w : World} {ops : Array Oper} {rest : List Oper} {o : Oper} {a : Act} {Q : Exit → Act → World → Prop} (hgd : o.guard = none) (s x : Operand)
    (ho : o.op = .call { callee := .builtin .append, args := #[s, x], argTypes := #[22, 22] })
    (base : Nat) (v : Value) (Y : List ByteArray) (hs : a.eval s = v) (hown : OwnS w base v Y) (A : Option Addr) (m c : Nat) (X : List ByteArray) (hx : a.eval x = .slice A m c) (hX : SlS w A m c X)
    (hn : Y.length + m ≤ 1000000000) (hbase : base ≤ w.heap.size)
    (h : ∀ v' w', OwnS w' base v' (Y ++ X) → w.grownBy w' v.ownBlock → wpList Try.prog ops Q rest (a.put o.dst v') w') : wpList Try.prog ops Q (o :: rest) a w := by
  obtain ⟨i0, hi, hz0, hz1, hz2⟩ := info_parts strI
  have hm : m = X.length := hX.1.1
  have hl : Y.length + m ≤ maxLen := by unfold maxLen; omega
  cases A with
  | none =>
    have hc : c = 0 := hX.2.2 rfl
    have hm0 : m = 0 := by have := hX.2.1; omega
    have hX0 : X = [] := List.eq_nil_of_length_eq_zero (by omega)
    subst hX0 hc hm0
    refine wpList_append_own_none hgd s x 22 ho base 9 i0 1 Try.underlying22 hi v Y.length (vsS Y) hs hown hx (h v w ?_ ⟨rfl, rfl, rfl, Nat.le_refl _, fun _ _ _ => rfl⟩)
    rw [List.append_nil]; exact hown
  | some ad =>
    refine wpList_append_own w hgd s x 22 ho base 9 i0 _ 1 16 Try.underlying22 hi hz0 hz1 hz2 rfl (by decide) v Y.length (vsS Y) hs hown ad m c (vsS X) hx (by rw [vsS_len, hm]; omega) (news_at hX.1) (vsS_one X) hl (by omega) hbase fun v' w' h1 h2 _ => h v' w' ?_ h2
    unfold OwnS
    rw [List.length_append, vsS_app, ← hm]
    exact h1

set_option maxHeartbeats 2000000 in
theorem Grow_nil (k : Nat) (w : World) (h0 : 0 < k) (hk : k ≤ 1000000000) :
    Calls Try.prog 64 #[.slice none 0 0, .int .i64 k] w fun e w' => ∃ v, e = .returned v ∧ OwnS w' w.heap.size v [] ∧ Below w.heap.size w w' := by
  obtain ⟨i0, hi, hz0, hz1, hz2⟩ := info_parts strI
  have hrz : ∀ ty, (Builtin.append_ #[22, 3] ty #[.slice none 0 0, .int .i64 (k : Int)]).run Try.prog w =
      .ok (.slice (some ⟨w.heap.size, 0, none⟩) k (grownCap w k 0 9)) (w.drew.alloc (.cells (Builtin.zeroCells (Value.string ⟨#[]⟩).cells k ++ Builtin.zeroCells (Value.string ⟨#[]⟩).cells (grownCap w k 0 9 - k)) 9)) := fun ty =>
    Lib.run_append_nil_zeros w 22 3 ty 9 i0 _ .i64 .i64 Try.underlying22 Try.underlying3 hi hz0 k h0 (by rw [hz1]; decide) (by omega) (by rw [hz2]; omega)
  have hG := grownCap_ge w k 0 9
  have hGm := grownCap_le_maxLen w k 0 9 (by unfold maxLen; omega)
  have ho : Hid (OwnS (w.drew.alloc (.cells (Builtin.zeroCells (Value.string ⟨#[]⟩).cells k ++ Builtin.zeroCells (Value.string ⟨#[]⟩).cells (grownCap w k 0 9 - k)) 9)) w.heap.size (.slice (some ⟨w.heap.size, 0, none⟩) 0 (grownCap w k 0 9)) []) := by
    have hsz : (Builtin.zeroCells (Value.string ⟨#[]⟩).cells k ++ Builtin.zeroCells (Value.string ⟨#[]⟩).cells (grownCap w k 0 9 - k)).size = grownCap w k 0 9 * 1 := by
      rw [Array.size_append, size_zeroCells, size_zeroCells]
      have : (Value.string ⟨#[]⟩).cells.size = 1 := rfl
      rw [this]; omega
    exact World.ownsRow_made w.drew _ _ (Nat.le_refl _) hGm hsz
  have hb : Hid (Below w.heap.size w (w.drew.alloc (.cells (Builtin.zeroCells (Value.string ⟨#[]⟩).cells k ++ Builtin.zeroCells (Value.string ⟨#[]⟩).cells (grownCap w k 0 9 - k)) 9))) := bel_alloc (Below.refl _ _).drew _
  unfold maxLen at hGm
  generalize hGG : grownCap w k 0 9 = G at *
  generalize w.drew.alloc (.cells (Builtin.zeroCells (Value.string ⟨#[]⟩).cells k ++ Builtin.zeroCells (Value.string ⟨#[]⟩).cells (G - k)) 9) = w1 at *
  clear hGG
  have k1 : ¬ (k : Int) < 0 := by omega
  have k2 : (k : Int) > 0 := by omega
  have hG63 : G ≤ 9223372036854775807 := by omega
  go_enter Try.func64, Try.ntmps64
  go_wp2_with (at_builtin; refine Lib.wpList_append_run _ rfl _ _ _ _ rfl _ _ rfl rfl _ _ (hrz _) ?_)
  go_ret
  exact ⟨_, rfl, ho.out, hb.out⟩

/-- a block that holds two slices -/
def Two (w : World) (h : Nat) (u v : Value) : Prop := w.cell? ⟨h, 0, none⟩ = some u ∧ w.cell? ⟨h, 1, none⟩ = some v
theorem Two.below {w w' : World} {h B : Nat} {u v : Value} (t : Two w h u v) (hb : Below B w w') (hlt : h < B) : Two w' h u v :=
  ⟨(hb.cell (p := ⟨h, 0, none⟩) hlt).trans t.1, (hb.cell (p := ⟨h, 1, none⟩) hlt).trans t.2⟩
set_option maxHeartbeats 4000000 in
theorem Concat_two (h : Nat) (a b : Option Addr) (n m c d : Nat) (X Y : List ByteArray) (w : World) (hh : h < w.heap.size) (ht : Two w h (.slice a n c) (.slice b m d)) (hX : SlS w a n c X) (hY : SlS w b m d Y) (hn : n ≤ 100000000) (hm : m ≤ 100000000) (h0 : 0 < n + m) :
    Calls Try.prog 59 #[.slice (some ⟨h, 0, none⟩) 2 2] w fun e w' => ∃ v, e = .returned v ∧ OwnS w' w.heap.size v (X ++ Y) ∧ Below w.heap.size w w' := by
  have cg := Grow_nil (n + m) w h0 (by omega)
  rw [Int.natCast_add] at cg
  have hsum : X.length + m ≤ 1000000000 := by have := hX.1.1; omega
  obtain ⟨y1, y2⟩ := ht
  have Ht : Two w h (.slice a n c) (.slice b m d) := ⟨y1, y2⟩
  have k1 : ¬ (n : Int) < 0 := by omega
  have k2 : ¬ (n : Int) + (m : Int) < 0 := by omega
  have hl0 : ([] : List ByteArray).length + n ≤ 1000000000 := by simp; omega
  have hl1 : ([] ++ X).length + m ≤ 1000000000 := by simpa using hsum
  have fin : ∀ (W : World) (v : Value), OwnS W w.heap.size v ([] ++ X ++ Y) → OwnS W w.heap.size v (X ++ Y) := fun W v h => h
  go_enter Try.func59, Try.ntmps59
  go_wp2
  refine wp_loop_rounds 3 ?_
  rw [rounds_succ]
  go_wp2
  rw [rounds_succ]
  go_wp2
  rw [rounds_succ]
  go_wp2_with (go_at_call 64; ((with_reducible refine cg.mono ?_); rintro e w1 ⟨v1, rfl, ho1, hb1⟩))
  have t1 := Ht.below hb1 hh
  obtain ⟨z1, z2⟩ := t1
  have Ht1 : Two w1 h (.slice a n c) (.slice b m d) := ⟨z1, z2⟩
  have hX1 := hX.below hb1
  have hY1 := hY.below hb1
  have hs1 := hb1.size
  go_wp2
  refine wp_loop_rounds 3 ?_
  rw [rounds_succ]
  go_wp2_with (at_builtin; ((refine app_strs rfl (.tmp 31) (.tmp 32) rfl w.heap.size v1 [] rfl ho1 _ _ _ X rfl hX1 hl0 hs1 ?_); intro v2 w2 ho2 hg2))
  have hb2 : Below w.heap.size w w2 := hb1.grown hg2 hs1 (fun k hk => (ho1.lt k hk).1)
  have hs2 := hb2.size
  obtain ⟨z3, z4⟩ := Ht.below hb2 hh
  have hY2 := hY.below hb2
  rw [rounds_succ]
  go_wp2_with (at_builtin; ((refine app_strs rfl (.tmp 31) (.tmp 32) rfl w.heap.size v2 ([] ++ X) rfl ho2 _ _ _ Y rfl hY2 hl1 hs2 ?_); intro v3 w3 ho3 hg3))
  have hb3 : Below w.heap.size w w3 := hb2.grown hg3 hs2 (fun k hk => (ho2.lt k hk).1)
  rw [rounds_succ]
  go_wp2
  go_ret
  exact ⟨_, rfl, fin _ _ ho3, hb3⟩
end Go.Proofs.Ytakcbpmdjdadnaa.L
