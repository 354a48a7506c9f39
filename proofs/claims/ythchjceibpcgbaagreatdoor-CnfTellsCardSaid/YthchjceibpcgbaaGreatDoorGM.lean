/-
  What is proved: rows of rows appended to a row of the call's own; slices.Concat of two of them.
  What is proved: rows of rows appended inside a region that draws its order.
  What is proved: what package cnf's Add returns.
-/
import Derived.Test.YthchjceibpcgbaaGreatDoorFA
import Derived.Maps.AppendAt
import Derived.Laws.AppendOwnNone
import Derived.OwnWalk
import Derived.Lib.AppendZeros
import Derived.Deep.AppendLies
import Derived.Test.YthchjceibpcgbaaGreatDoorZCnC
import Derived.Test.YthchjceibpcgbaaGreatDoorZCnR
import Derived.Deep.RegionLaw
import Derived.Test.YthchjceibpcgbaaGreatDoorZFiX
import Derived.Test.YthchjceibpcgbaaGreatDoorLB
namespace Go.Proofs.YthchjceibpcgbaaGreatDoor.Cn
open Go.RowKit L Lt Fi
set_option linter.unusedVariables false
set_option linter.unusedSimpArgs false

theorem SlG.low {w : World} {a : Option Addr} {n c : Nat} {G : List (List Int)} (h : SlG w a n c G) : SlGP (fun q => q < w.heap.size) w a n c G :=
  ⟨h.1, h.2.1, h.2.2.1, fun hn => by
    obtain ⟨b, o, ha, hlt, hr⟩ := h.2.2.2 hn
    refine ⟨b, o, ha, hlt, fun i hi => ?_⟩
    obtain ⟨A, m, k, h1, h2⟩ := hr i hi
    refine ⟨A, m, k, h1, h2, fun hm ad had => ?_⟩
    obtain ⟨b', o', ha', hlt', _⟩ := h2.2.2.2 hm
    rw [had] at ha'
    injection ha' with ha'
    rw [ha']; exact hlt'⟩
/-- a row of the call's own, of rows that lie below it -/
def OwnL (w : World) (lo : Nat) (v : Value) (G : List (List Int)) : Prop := ∃ us, w.ownsRow lo 34 1 v us.length us ∧ us.length = G.length ∧ ∀ (i : Nat) (u : Value) (X : List Int), us[i]? = some u → G[i]? = some X → RwI (fun b => b < lo) w u X
theorem OwnL.nil (w : World) (lo : Nat) : OwnL w lo (.slice none 0 0) [] := ⟨[], World.ownsRow_nil _ _ _ _, rfl, fun i u X hi => by simp at hi⟩
theorem OwnL.lt {w : World} {lo : Nat} {v : Value} {G : List (List Int)} (h : OwnL w lo v G) : ∀ q, v.ownBlock = some q → lo ≤ q ∧ q < w.heap.size := by
  obtain ⟨us, h1, h2, h3⟩ := h
  exact fun q hq => World.ownsRow.lt h1 q hq
theorem OwnL.below {w w' : World} {lo : Nat} {v : Value} {G : List (List Int)} (h : OwnL w lo v G) (hb : Below w.heap.size w w') (hlo : lo ≤ w.heap.size) : OwnL w' lo v G := by
  obtain ⟨us, h1, h2, h3⟩ := h
  exact ⟨us, own_block h1 (fun k _ hk => hb.block k hk), h2, fun i u X e1 e2 => (h3 i u X e1 e2).to (fun b hp => hb.block b (Nat.lt_of_lt_of_le hp hlo)) (fun b hp => hp)⟩
theorem OwnL.slG {w : World} {lo : Nat} {v : Value} {G : List (List Int)} (h : OwnL w lo v G) : ∃ A c, v = .slice A G.length c ∧ SlG w A G.length c G := by
  obtain ⟨us, h1, h2, h3⟩ := h
  have h1' := h1
  rcases h1.2 with ⟨rfl, hn⟩ | ⟨g, cap, cur, rfl, hb, hg, hnc, hcm, hcs, ht⟩
  · have e : G = [] := List.eq_nil_of_length_eq_zero (by omega)
    subst e
    exact ⟨none, 0, rfl, SlG.nil w⟩
  · refine ⟨some ⟨g, 0, none⟩, cap, by rw [h2], rfl, by omega, (fun e => by cases e), fun hn => ⟨g, 0, rfl, (Array.getElem?_eq_some_iff.1 hg).1, fun i hi => ?_⟩⟩
    have hi2 : i < us.length := by omega
    obtain ⟨A, m, k, e, hS, _⟩ := h3 i us[i] G[i] (List.getElem?_eq_getElem hi2) (List.getElem?_eq_getElem hi)
    refine ⟨A, m, k, ?_, hS⟩
    have e1 : (cur.toList.take (us.length * 1))[i]? = us[i]? := by rw [ht]
    rw [List.getElem?_take_of_lt (by omega), Array.getElem?_toList] at e1
    rw [Nat.zero_add, cell_of_row w g i _ _ _ hg, e1, List.getElem?_eq_getElem hi2, e]
/-- the values of a row that is read -/
theorem vals_of {P : Nat → Prop} {w : World} {b o n c : Nat} {G : List (List Int)} (h : SlGP P w (some ⟨b, o, none⟩) n c G) : ∃ us : List Value, us.length = n ∧ (∀ (j : Nat) (u : Value), us[j]? = some u → w.cell? ⟨b, o + j, none⟩ = some u) ∧ (∀ u ∈ us, u.oneCell' = true) ∧ ∀ (i : Nat) (u : Value) (X : List Int), us[i]? = some u → G[i]? = some X → RwI P w u X := by
  have key : ∀ i, i < n → ∃ A m k, w.cell? ⟨b, o + i, none⟩ = some (.slice A m k) ∧ ∀ X, G[i]? = some X → SlI w A m k X ∧ (0 < m → ∀ ad, A = some ad → P ad.block) := fun i hi => by
    obtain ⟨b', o', e, hlt, hr⟩ := h.2.2.2 (by omega)
    injection e with e
    injection e with e1 e2
    subst e1 e2
    obtain ⟨A, m, k, h1, h2, h3⟩ := hr i (by rw [← h.1]; exact hi)
    refine ⟨A, m, k, h1, fun X hX => ?_⟩
    rw [List.getElem?_eq_getElem (by rw [← h.1]; exact hi)] at hX
    injection hX with hX
    rw [← hX]; exact ⟨h2, h3⟩
  have get : ∀ (i : Nat) (u : Value), ((List.range n).map fun i => (w.cell? ⟨b, o + i, none⟩).getD undef)[i]? = some u → i < n ∧ w.cell? ⟨b, o + i, none⟩ = some u := fun i u hu => by
    have hi : i < n := by have := (List.getElem?_eq_some_iff.1 hu).1; simpa using this
    refine ⟨hi, ?_⟩
    rw [List.getElem?_map, List.getElem?_range hi, Option.map_some] at hu
    obtain ⟨A, m, k, h1, _⟩ := key i hi
    rw [h1] at hu ⊢
    simpa using hu
  refine ⟨(List.range n).map fun i => (w.cell? ⟨b, o + i, none⟩).getD undef, by simp, fun j u hu => (get j u hu).2, fun u hu => ?_, fun i u X hu hX => ?_⟩
  · obtain ⟨i, hi, rfl⟩ := List.mem_map.1 hu
    obtain ⟨A, m, k, h1, _⟩ := key i (List.mem_range.1 hi)
    rw [h1]; rfl
  · obtain ⟨hi, hu2⟩ := get i u hu
    obtain ⟨A, m, k, h1, h2⟩ := key i hi
    rw [h1] at hu2
    injection hu2 with hu2
    exact ⟨A, m, k, hu2.symm, (h2 X hX).1, (h2 X hX).2⟩
/-- append(s, x...) for the walk: s a row of the call's own, x's rows lie below it -/
theorem app_grids {w : World} {ops : Array Oper} {rest : List Oper} {o : Oper} {a : Act} {Q : Exit → Act → World → Prop} (hgd : o.guard = none) (s x : Operand)
    (ho : o.op = .call { callee := .builtin .append, args := #[s, x], argTypes := #[22, 22] })
    (base : Nat) (v : Value) (Y : List (List Int)) (hs : a.eval s = v) (hown : OwnL w base v Y) (A : Option Addr) (m c : Nat) (X : List (List Int)) (hx : a.eval x = .slice A m c) (hX : SlGP (fun q => q < base) w A m c X)
    (hn : Y.length + m ≤ 1000000000) (hbase : base ≤ w.heap.size)
    (h : ∀ v' w', OwnL w' base v' (Y ++ X) → w.grownBy w' v.ownBlock → wpList Tryz.prog ops Q rest (a.put o.dst v') w') : wpList Tryz.prog ops Q (o :: rest) a w := by
  obtain ⟨i0, hi, hz0, hz1, hz2⟩ := info_parts rowI
  have hm : m = X.length := hX.1
  have hown' := hown
  obtain ⟨us, hy1, hy2, hy3⟩ := hown
  have hl : us.length + m ≤ maxLen := by unfold maxLen; omega
  by_cases h0 : m = 0
  · have hX0 : X = [] := List.eq_nil_of_length_eq_zero (by omega)
    subst hX0 h0
    cases A with
    | none =>
      have hc : c = 0 := hX.2.2.1 rfl
      subst hc
      refine wpList_append_own_none hgd s x 22 ho base 34 i0 1 Tryz.underlying22 hi v us.length us hs hy1 hx (h v w ?_ ⟨rfl, rfl, rfl, Nat.le_refl _, fun _ _ _ => rfl⟩)
      rw [List.append_nil]; exact hown'
    | some ad =>
      refine wpList_append_own w hgd s x 22 ho base 34 i0 _ 1 24 Tryz.underlying22 hi hz0 hz1 hz2 rfl (by decide) v us.length us hs hy1 ad 0 c [] hx (by simp) (fun j u hj => by simp at hj) (fun u hu => by cases hu) hl (by omega) hbase fun v' w' h1 h2 _ => h v' w' ?_ h2
      rw [List.append_nil]
      rw [List.append_nil] at h1
      exact ⟨us, h1, hy2, fun i u X' e1 e2 => (hy3 i u X' e1 e2).to (fun b hp => h2.block b (Nat.lt_of_lt_of_le hp hbase) (fun e => by have := (hown'.lt b e.symm).1; omega)) (fun b hp => hp)⟩
  · obtain ⟨b, o2, ha, hlt, hr⟩ := hX.2.2.2 (by omega)
    subst ha
    obtain ⟨ns, hn1, hn2, hn3, hn4⟩ := vals_of hX
    refine wpList_append_own w hgd s x 22 ho base 34 i0 _ 1 24 Tryz.underlying22 hi hz0 hz1 hz2 rfl (by decide) v us.length us hs hy1 ⟨b, o2, none⟩ m c ns hx (by rw [hn1]; omega) (fun j u hj => by rw [Addr.add_lit]; exact hn2 j u hj) hn3 hl (by omega) hbase fun v' w' h1 h2 _ => h v' w' ?_ h2
    have hto : ∀ q, q < base → w'.heap[q]? = w.heap[q]? := fun q hq => h2.block q (Nat.lt_of_lt_of_le hq hbase) (fun e => by have := (hown'.lt q e.symm).1; omega)
    refine ⟨us ++ ns, by rw [List.length_append, hn1]; exact h1, by rw [List.length_append, List.length_append, hy2, hn1, hm], fun i u X' e1 e2 => ?_⟩
    rcases Nat.lt_or_ge i us.length with hlt' | hge
    · rw [List.getElem?_append_left hlt'] at e1
      rw [List.getElem?_append_left (by rw [← hy2]; exact hlt')] at e2
      exact (hy3 i u X' e1 e2).to hto (fun q hq => hq)
    · rw [List.getElem?_append_right hge] at e1
      rw [List.getElem?_append_right (by rw [← hy2]; exact hge), ← hy2] at e2
      exact (hn4 _ u X' e1 e2).to hto (fun q hq => hq)
/-- a block that holds two slices -/
def Two (w : World) (h : Nat) (u v : Value) : Prop := w.cell? ⟨h, 0, none⟩ = some u ∧ w.cell? ⟨h, 1, none⟩ = some v
theorem Two.below {w w' : World} {h B : Nat} {u v : Value} (t : Two w h u v) (hb : Below B w w') (hlt : h < B) : Two w' h u v :=
  ⟨(hb.cell (p := ⟨h, 0, none⟩) hlt).trans t.1, (hb.cell (p := ⟨h, 1, none⟩) hlt).trans t.2⟩

set_option maxHeartbeats 2000000 in
theorem Grow_nil (k : Nat) (w : World) (h0 : 0 < k) (hk : k ≤ 1000000000) :
    Calls Tryz.prog 69 #[.slice none 0 0, .int .i64 k] w fun e w' => ∃ v, e = .returned v ∧ OwnL w' w.heap.size v [] ∧ Below w.heap.size w w' := by
  obtain ⟨i0, hi, hz0, hz1, hz2⟩ := info_parts rowI
  have hrz : ∀ ty, (Builtin.append_ #[22, 3] ty #[.slice none 0 0, .int .i64 (k : Int)]).run Tryz.prog w =
      .ok (.slice (some ⟨w.heap.size, 0, none⟩) k (grownCap w k 0 34)) (w.drew.alloc (.cells (Builtin.zeroCells (Value.slice none 0 0).cells k ++ Builtin.zeroCells (Value.slice none 0 0).cells (grownCap w k 0 34 - k)) 34)) := fun ty =>
    Lib.run_append_nil_zeros w 22 3 ty 34 i0 _ .i64 .i64 Tryz.underlying22 Tryz.underlying3 hi hz0 k h0 (by rw [hz1]; decide) (by omega) (by rw [hz2]; omega)
  have hG := grownCap_ge w k 0 34
  have hGm := grownCap_le_maxLen w k 0 34 (by unfold maxLen; omega)
  have ho : Hid (OwnL (w.drew.alloc (.cells (Builtin.zeroCells (Value.slice none 0 0).cells k ++ Builtin.zeroCells (Value.slice none 0 0).cells (grownCap w k 0 34 - k)) 34)) w.heap.size (.slice (some ⟨w.heap.size, 0, none⟩) 0 (grownCap w k 0 34)) []) := by
    have hsz : (Builtin.zeroCells (Value.slice none 0 0).cells k ++ Builtin.zeroCells (Value.slice none 0 0).cells (grownCap w k 0 34 - k)).size = grownCap w k 0 34 * 1 := by
      rw [Array.size_append, size_zeroCells, size_zeroCells]
      have : (Value.slice none 0 0).cells.size = 1 := rfl
      rw [this]; omega
    exact ⟨[], World.ownsRow_made w.drew _ _ (Nat.le_refl _) hGm hsz, rfl, fun i u X hi => by simp at hi⟩
  have hb : Hid (Below w.heap.size w (w.drew.alloc (.cells (Builtin.zeroCells (Value.slice none 0 0).cells k ++ Builtin.zeroCells (Value.slice none 0 0).cells (grownCap w k 0 34 - k)) 34))) := bel_alloc (Below.refl _ _).drew _
  unfold maxLen at hGm
  generalize hGG : grownCap w k 0 34 = G at *
  generalize w.drew.alloc (.cells (Builtin.zeroCells (Value.slice none 0 0).cells k ++ Builtin.zeroCells (Value.slice none 0 0).cells (G - k)) 34) = w1 at *
  clear hGG
  have k1 : ¬ (k : Int) < 0 := by omega
  have k2 : (k : Int) > 0 := by omega
  have hG63 : G ≤ 9223372036854775807 := by omega
  go_enter Tryz.func69, Tryz.ntmps69
  go_wp2_with (at_builtin; refine Lib.wpList_append_run _ rfl _ _ _ _ rfl _ _ rfl rfl _ _ (hrz _) ?_)
  go_ret
  exact ⟨_, rfl, ho.out, hb.out⟩

theorem Grow_zero (w : World) :
    Calls Tryz.prog 69 #[.slice none 0 0, .int .i64 0] w fun e w' => e = .returned (.slice none 0 0) ∧ w = w' := by
  go_enter Tryz.func69, Tryz.ntmps69
  go_wp2
  go_ret
  exact ⟨rfl, rfl⟩
theorem Grow_any (k : Nat) (w : World) (hk : k ≤ 1000000000) :
    Calls Tryz.prog 69 #[.slice none 0 0, .int .i64 k] w fun e w' => ∃ v, e = .returned v ∧ OwnL w' w.heap.size v [] ∧ Below w.heap.size w w' := by
  by_cases h0 : 0 < k
  · exact Grow_nil k w h0 hk
  · obtain rfl : k = 0 := by omega
    exact (Grow_zero w).mono fun e w' ⟨k1, k2⟩ => ⟨_, k1, OwnL.nil _ _, by rw [k2]; exact Below.refl _ _⟩
set_option maxHeartbeats 4000000 in
theorem Concat_two (h : Nat) (a b : Option Addr) (n m c d : Nat) (X Y : List (List Int)) (w : World) (hh : h < w.heap.size) (ht : Two w h (.slice a n c) (.slice b m d)) (hX : SlGP (fun q => q < w.heap.size) w a n c X) (hY : SlGP (fun q => q < w.heap.size) w b m d Y) (hn : n ≤ 100000000) (hm : m ≤ 100000000) :
    Calls Tryz.prog 30 #[.slice (some ⟨h, 0, none⟩) 2 2] w fun e w' => ∃ v, e = .returned v ∧ OwnL w' w.heap.size v (X ++ Y) ∧ Below w.heap.size w w' := by
  have cg := Grow_any (n + m) w (by omega)
  rw [Int.natCast_add] at cg
  have hsum : X.length + m ≤ 1000000000 := by have := hX.1; omega
  obtain ⟨y1, y2⟩ := ht
  have Ht : Two w h (.slice a n c) (.slice b m d) := ⟨y1, y2⟩
  have k1 : ¬ (n : Int) < 0 := by omega
  have k2 : ¬ (n : Int) + (m : Int) < 0 := by omega
  have hl0 : ([] : List (List Int)).length + n ≤ 1000000000 := by simp; omega
  have hl1 : ([] ++ X).length + m ≤ 1000000000 := by simpa using hsum
  have fin : ∀ (W : World) (v : Value), OwnL W w.heap.size v ([] ++ X ++ Y) → OwnL W w.heap.size v (X ++ Y) := fun W v h => h
  go_enter Tryz.func30, Tryz.ntmps30
  go_wp2
  refine wp_loop_rounds 3 ?_
  rw [rounds_succ]
  go_wp2
  rw [rounds_succ]
  go_wp2
  rw [rounds_succ]
  go_wp2_with (go_at_call 69; ((with_reducible refine cg.mono ?_); rintro e w1 ⟨v1, rfl, ho1, hb1⟩))
  have t1 := Ht.below hb1 hh
  obtain ⟨z1, z2⟩ := t1
  have Ht1 : Two w1 h (.slice a n c) (.slice b m d) := ⟨z1, z2⟩
  have hX1 := hX.below hb1
  have hY1 := hY.below hb1
  have hs1 := hb1.size
  go_wp2
  refine wp_loop_rounds 3 ?_
  rw [rounds_succ]
  go_wp2_with (at_builtin; ((refine app_grids rfl (.tmp 31) (.tmp 32) rfl w.heap.size v1 [] rfl ho1 _ _ _ X rfl hX1 hl0 hs1 ?_); intro v2 w2 ho2 hg2))
  have hb2 : Below w.heap.size w w2 := hb1.grown hg2 hs1 (fun k hk => (ho1.lt k hk).1)
  have hs2 := hb2.size
  obtain ⟨z3, z4⟩ := Ht.below hb2 hh
  have hY2 := hY.below hb2
  rw [rounds_succ]
  go_wp2_with (at_builtin; ((refine app_grids rfl (.tmp 31) (.tmp 32) rfl w.heap.size v2 ([] ++ X) rfl ho2 _ _ _ Y rfl hY2 hl1 hs2 ?_); intro v3 w3 ho3 hg3))
  have hb3 : Below w.heap.size w w3 := hb2.grown hg3 hs2 (fun k hk => (ho2.lt k hk).1)
  rw [rounds_succ]
  go_wp2
  go_ret
  exact ⟨_, rfl, fin _ _ ho3, hb3⟩
end Go.Proofs.YthchjceibpcgbaaGreatDoor.Cn
namespace Go.Proofs.YthchjceibpcgbaaGreatDoor.Cn
open Go.RowKit L Lt Fi
set_option linter.unusedVariables false
set_option linter.unusedSimpArgs false

theorem oper_app_grids {w : World} {o : Oper} {a : Act} {K : Act → World → Prop} {Q : Exit → Act → World → Prop} (s x : Operand)
    (ho : o.op = .call { callee := .builtin .append, args := #[s, x], argTypes := #[22, 22] })
    (base : Nat) (v : Value) (Y : List (List Int)) (hs : a.eval s = v) (hown : OwnL w base v Y) (A : Option Addr) (m c : Nat) (X : List (List Int)) (hx : a.eval x = .slice A m c) (hX : SlGP (fun q => q < base) w A m c X)
    (hn : Y.length + m ≤ 1000000000) (hbase : base ≤ w.heap.size)
    (h : ∀ v' w', OwnL w' base v' (Y ++ X) → w.grownBy w' v.ownBlock → K (a.put o.dst v') w') : Oper.wp Tryz.prog o a w K Q := by
  obtain ⟨i0, hi, hz0, hz1, hz2⟩ := info_parts rowI
  have hm : m = X.length := hX.1
  have hown' := hown
  obtain ⟨us, hy1, hy2, hy3⟩ := hown
  have hl : us.length + m ≤ maxLen := by unfold maxLen; omega
  by_cases h0 : m = 0
  · have hX0 : X = [] := List.eq_nil_of_length_eq_zero (by omega)
    subst hX0 h0
    cases A with
    | none =>
      have hc : c = 0 := hX.2.2.1 rfl
      subst hc
      have hrun := run_append_owned_none (P := Tryz.prog) (w := w) base 22 o.type 34 i0 1 Tryz.underlying22 hi v us.length us hy1
      have hk := h v w (by rw [List.append_nil]; exact hown') ⟨rfl, rfl, rfl, Nat.le_refl _, fun _ _ _ => rfl⟩
      unfold Oper.wp
      simp [execOp, ho, resolve, invoke, builtin, hs, hx, hrun, Result.andThen]
      exact hk
    | some ad =>
      refine wp_append_own w s x 22 ho base 34 i0 _ 1 24 Tryz.underlying22 hi hz0 hz1 hz2 rfl (by decide) v us.length us hs hy1 ad 0 c [] hx (by simp) (fun j u hj => by simp at hj) (fun u hu => by cases hu) hl (by omega) hbase fun v' w' h1 h2 _ => h v' w' ?_ h2
      rw [List.append_nil]
      rw [List.append_nil] at h1
      exact ⟨us, h1, hy2, fun i u X' e1 e2 => (hy3 i u X' e1 e2).to (fun b hp => h2.block b (Nat.lt_of_lt_of_le hp hbase) (fun e => by have := (hown'.lt b e.symm).1; omega)) (fun b hp => hp)⟩
  · obtain ⟨b, o2, ha, hlt, hr⟩ := hX.2.2.2 (by omega)
    subst ha
    obtain ⟨ns, hn1, hn2, hn3, hn4⟩ := vals_of hX
    refine wp_append_own w s x 22 ho base 34 i0 _ 1 24 Tryz.underlying22 hi hz0 hz1 hz2 rfl (by decide) v us.length us hs hy1 ⟨b, o2, none⟩ m c ns hx (by rw [hn1]; omega) (fun j u hj => by rw [Addr.add_lit]; exact hn2 j u hj) hn3 hl (by omega) hbase fun v' w' h1 h2 _ => h v' w' ?_ h2
    have hto : ∀ q, q < base → w'.heap[q]? = w.heap[q]? := fun q hq => h2.block q (Nat.lt_of_lt_of_le hq hbase) (fun e => by have := (hown'.lt q e.symm).1; omega)
    refine ⟨us ++ ns, by rw [List.length_append, hn1]; exact h1, by rw [List.length_append, List.length_append, hy2, hn1, hm], fun i u X' e1 e2 => ?_⟩
    rcases Nat.lt_or_ge i us.length with hlt' | hge
    · rw [List.getElem?_append_left hlt'] at e1
      rw [List.getElem?_append_left (by rw [← hy2]; exact hlt')] at e2
      exact (hy3 i u X' e1 e2).to hto (fun q hq => hq)
    · rw [List.getElem?_append_right hge] at e1
      rw [List.getElem?_append_right (by rw [← hy2]; exact hge), ← hy2] at e2
      exact (hn4 _ u X' e1 e2).to hto (fun q hq => hq)
theorem step_app_grids {ops : Array Oper} {w : World} {o : Oper} {a : Act} {K : Act → World → Prop} {Q : Exit → Act → World → Prop} {Z : Prop} (hgd : o.guard = none) (s x : Operand)
    (ho : o.op = .call { callee := .builtin .append, args := #[s, x], argTypes := #[22, 22] })
    (base : Nat) (v : Value) (Y : List (List Int)) (hs : a.eval s = v) (hown : OwnL w base v Y) (A : Option Addr) (m c : Nat) (X : List (List Int)) (hx : a.eval x = .slice A m c) (hX : SlGP (fun q => q < base) w A m c X)
    (hn : Y.length + m ≤ 1000000000) (hbase : base ≤ w.heap.size)
    (h : ∀ v' w', OwnL w' base v' (Y ++ X) → w.grownBy w' v.ownBlock → K (a.put o.dst v') w') : if Region.wanted o (yielded ops a.tmps) = true then Oper.wp Tryz.prog o a w K Q else Z := by
  have hw : Region.wanted o (yielded ops a.tmps) = true := by simp [Region.wanted, hgd]
  rw [if_pos hw]
  exact oper_app_grids s x ho base v Y hs hown A m c X hx hX hn hbase h
theorem ownL_empty (w : World) : OwnL (w.alloc (.cells #[] 34)) w.heap.size (.slice (some ⟨w.heap.size, 0, none⟩) 0 0) [] :=
  ⟨[], ⟨rfl, .inr ⟨w.heap.size, 0, #[], rfl, Nat.le_refl _, Blk.new w #[] 34, Nat.le_refl _, Nat.zero_le _, rfl, rfl⟩⟩, rfl, fun i u X hi => by simp at hi⟩
theorem ownL_at (w : World) (lo : Nat) (h : lo ≤ w.heap.size) : OwnL (w.alloc (.cells #[] 34)) lo (.slice (some ⟨w.heap.size, 0, none⟩) 0 0) [] :=
  ⟨[], ⟨rfl, .inr ⟨w.heap.size, 0, #[], rfl, h, Blk.new w #[] 34, Nat.le_refl _, Nat.zero_le _, rfl, rfl⟩⟩, rfl, fun i u X hi => by simp at hi⟩
theorem OwnL.slGP {w : World} {lo : Nat} {v : Value} {G : List (List Int)} (h : OwnL w lo v G) : ∃ A c, v = .slice A G.length c ∧ SlGP (fun q => q < lo) w A G.length c G ∧ ∀ ad, A = some ad → lo ≤ ad.block ∧ ∃ cur, w.heap[ad.block]? = some (.cells cur 34) := by
  obtain ⟨us, h1, h2, h3⟩ := h
  have h1' := h1
  rcases h1.2 with ⟨rfl, hn⟩ | ⟨g, cap, cur, rfl, hb, hg, hnc, hcm, hcs, ht⟩
  · have e : G = [] := List.eq_nil_of_length_eq_zero (by omega)
    subst e
    exact ⟨none, 0, rfl, SlGP.nil _ w, fun ad e => by cases e⟩
  · refine ⟨some ⟨g, 0, none⟩, cap, by rw [h2], ⟨rfl, by omega, (fun e => by cases e), fun hn => ⟨g, 0, rfl, (Array.getElem?_eq_some_iff.1 hg).1, fun i hi => ?_⟩⟩, fun ad e => ?_⟩
    · have hi2 : i < us.length := by omega
      obtain ⟨A, m, k, e, hS, hP⟩ := h3 i us[i] G[i] (List.getElem?_eq_getElem hi2) (List.getElem?_eq_getElem hi)
      refine ⟨A, m, k, ?_, hS, hP⟩
      have e1 : (cur.toList.take (us.length * 1))[i]? = us[i]? := by rw [ht]
      rw [List.getElem?_take_of_lt (by omega), Array.getElem?_toList] at e1
      rw [Nat.zero_add, cell_of_row w g i _ _ _ hg, e1, List.getElem?_eq_getElem hi2, e]
    · injection e with e
      subst e
      exact ⟨hb, cur, hg⟩
theorem CBox.apart {w : World} {g q : Nat} {N : Int} {a : Option Addr} {n c : Nat} {cur : Array Value} (T : CBox w g N a n c) (h : w.heap[q]? = some (.cells cur 34)) : q ≠ g := fun e => by
  subst e
  have T' : w.heap[q]? = some (.cells #[.int .i64 N, .slice a n c] 24) := T
  rw [T'] at h
  injection h with h
  injection h with _ h
  exact absurd h (by decide)
theorem OwnL.ne {w : World} {lo g : Nat} {v : Value} {G : List (List Int)} {N : Int} {a : Option Addr} {n c : Nat} (h : OwnL w lo v G) (T : CBox w g N a n c) : v.ownBlock ≠ some g := fun e => by
  obtain ⟨A, k, rfl, _, h3⟩ := h.slGP
  cases A with
  | none => cases e
  | some ad =>
    obtain ⟨_, cur, hc⟩ := h3 ad rfl
    have e1 : some ad.block = some g := e
    injection e1 with e1
    exact T.apart hc e1
/-- a box that was made empty, then filled with a row of the call's own -/
theorem finW {w5 w : World} {g : Nat} {v : Value} {G : List (List Int)} (N : Int) (T : CBox w g 0 none 0 0) (hg : w5.heap.size ≤ g) (h : OwnL w w5.heap.size v G) (hb : Below w5.heap.size w5 w) :
    ∃ A k, v = .slice A G.length k ∧ CBox ((w.setCell ⟨g, 0, none⟩ (.int .i64 N)).setCell ⟨g, 1, none⟩ (.slice A G.length k)) g N A G.length k ∧ SlG ((w.setCell ⟨g, 0, none⟩ (.int .i64 N)).setCell ⟨g, 1, none⟩ (.slice A G.length k)) A G.length k G ∧ Below w5.heap.size w5 ((w.setCell ⟨g, 0, none⟩ (.int .i64 N)).setCell ⟨g, 1, none⟩ (.slice A G.length k)) := by
  obtain ⟨A, k, rfl, h2, h3⟩ := h.slGP
  have hA : ∀ ad, A = some ad → ad.block ≠ g := fun ad e => by
    obtain ⟨_, cur, hc⟩ := h3 ad e
    exact T.apart hc
  have hP : ¬ g < w5.heap.size := by omega
  exact ⟨A, k, rfl, (T.put0 N).put1 A _ k, ((h2.far hA hP 0 (.int .i64 N)).far hA hP 1 (.slice A G.length k)).slG, (hb.setCell (p := ⟨g, 0, none⟩) hg _).setCell (p := ⟨g, 1, none⟩) hg _⟩
/-- between a make, two appends and a box made empty, in any order: the row so far, and the box if it is there -/
def TB (w5 w : World) (v : Value) (Y : List (List Int)) (g : Option Nat) : Prop := OwnL w w5.heap.size v Y ∧ Below w5.heap.size w5 w ∧ ∀ q, g = some q → w5.heap.size ≤ q ∧ CBox w q 0 none 0 0
theorem TB.s (w5 : World) : TB w5 (w5.alloc (.cells #[] 34)) (.slice (some ⟨w5.heap.size, 0, none⟩) 0 0) [] none := ⟨ownL_at w5 _ (Nat.le_refl _), bel_alloc (Below.refl _ _) _, fun q e => by cases e⟩
theorem TB.ls (w5 : World) : TB w5 ((w5.alloc (.cells #[.int .i64 0, .slice none 0 0] 24)).alloc (.cells #[] 34)) (.slice (some ⟨w5.heap.size + 1, 0, none⟩) 0 0) [] (some w5.heap.size) := by
  have h := ownL_at (w5.alloc (.cells #[.int .i64 0, .slice none 0 0] 24)) w5.heap.size (by simp)
  rw [show (w5.alloc (.cells #[.int .i64 0, .slice none 0 0] 24)).heap.size = w5.heap.size + 1 by simp] at h
  exact ⟨h, bel_alloc (bel_alloc (Below.refl _ _) _) _, fun q e => by injection e with e; subst e; exact ⟨Nat.le_refl _, Blk.alloc (CBox.new w5 0 none 0 0) _⟩⟩
theorem TB.lds (w5 : World) : TB w5 ((w5.alloc (.cells #[.int .i64 0, .slice none 0 0] 24)).drew.alloc (.cells #[] 34)) (.slice (some ⟨w5.heap.size + 1, 0, none⟩) 0 0) [] (some w5.heap.size) := by
  have h := ownL_at (w5.alloc (.cells #[.int .i64 0, .slice none 0 0] 24)).drew w5.heap.size (by simp)
  rw [show (w5.alloc (.cells #[.int .i64 0, .slice none 0 0] 24)).drew.heap.size = w5.heap.size + 1 by simp] at h
  exact ⟨h, bel_alloc (bel_alloc (Below.refl _ _) _).drew _, fun q e => by injection e with e; subst e; exact ⟨Nat.le_refl _, Blk.alloc ((CBox.new w5 0 none 0 0).b (Below.refl _ _).drew) _⟩⟩
theorem TB.drew {w5 w : World} {v : Value} {Y : List (List Int)} {g : Option Nat} (h : TB w5 w v Y g) : TB w5 w.drew v Y g :=
  ⟨h.1.below (Below.refl _ _).drew h.2.1.size, h.2.1.drew, fun q e => ⟨(h.2.2 q e).1, (h.2.2 q e).2.b (Below.refl _ _).drew⟩⟩
theorem TB.box {w5 w : World} {v : Value} {Y : List (List Int)} (h : TB w5 w v Y none) : TB w5 (w.alloc (.cells #[.int .i64 0, .slice none 0 0] 24)) v Y (some w.heap.size) :=
  ⟨h.1.below (bel_alloc (Below.refl _ _) _) h.2.1.size, bel_alloc h.2.1 _, fun q e => by injection e with e; subst e; exact ⟨h.2.1.size, CBox.new w 0 none 0 0⟩⟩
theorem TB.sb (w5 : World) : TB w5 ((w5.alloc (.cells #[] 34)).alloc (.cells #[.int .i64 0, .slice none 0 0] 24)) (.slice (some ⟨w5.heap.size, 0, none⟩) 0 0) [] (some (w5.heap.size + 1)) := by
  have h := (TB.s w5).box
  rwa [show (w5.alloc (.cells #[] 34)).heap.size = w5.heap.size + 1 by simp] at h
theorem TB.sdb (w5 : World) : TB w5 ((w5.alloc (.cells #[] 34)).drew.alloc (.cells #[.int .i64 0, .slice none 0 0] 24)) (.slice (some ⟨w5.heap.size, 0, none⟩) 0 0) [] (some (w5.heap.size + 1)) := by
  have h := (TB.s w5).drew.box
  rwa [show (w5.alloc (.cells #[] 34)).drew.heap.size = w5.heap.size + 1 by simp] at h
theorem TB.app {w5 w w' : World} {v v' : Value} {Y Y' : List (List Int)} {g : Option Nat} (h : TB w5 w v Y g) (ho : OwnL w' w5.heap.size v' Y') (hg : w.grownBy w' v.ownBlock) : TB w5 w' v' Y' g :=
  ⟨ho, h.2.1.grown hg h.2.1.size (fun q hq => (h.1.lt q hq).1), fun q e => ⟨(h.2.2 q e).1, Blk.grown (h.2.2 q e).2 hg (fun e2 => h.1.ne (h.2.2 q e).2 e2.symm)⟩⟩
theorem step_TB {ops : Array Oper} {w : World} {o : Oper} {a : Act} {K : Act → World → Prop} {Q : Exit → Act → World → Prop} {Z : Prop} (hgd : o.guard = none) (s x : Operand)
    (ho : o.op = .call { callee := .builtin .append, args := #[s, x], argTypes := #[22, 22] })
    (w5 : World) (v : Value) (Y : List (List Int)) (g : Option Nat) (hs : a.eval s = v) (h : TB w5 w v Y g) (A : Option Addr) (m c : Nat) (X : List (List Int)) (hx : a.eval x = .slice A m c) (hX : ∀ w, Below w5.heap.size w5 w → SlGP (fun q => q < w5.heap.size) w A m c X)
    (hn : Y.length + m ≤ 1000000000) (k : ∀ v' w', TB w5 w' v' (Y ++ X) g → K (a.put o.dst v') w') : if Region.wanted o (yielded ops a.tmps) = true then Oper.wp Tryz.prog o a w K Q else Z :=
  step_app_grids hgd s x ho w5.heap.size v Y hs h.1 A m c X hx (hX w h.2.1) hn h.2.1.size fun v' w' h1 h2 => k v' w' (h.app h1 h2)
theorem TB.fin {w5 w : World} {v : Value} {Y : List (List Int)} {g : Nat} (N : Int) (L : Nat) (hL : Y.length = L) (h : TB w5 w v Y (some g)) :
    ∃ A k, v = .slice A L k ∧ (w.frozen? ⟨g, 0, none⟩ = false ∧ w.frozen? ⟨g, 1, none⟩ = false ∧ w.cell? ⟨g, 0, none⟩ = some (.int .i64 0) ∧ w.cell? ⟨g, 1, none⟩ = some (.slice none 0 0)) ∧ CBox ((w.setCell ⟨g, 0, none⟩ (.int .i64 N)).setCell ⟨g, 1, none⟩ (.slice A L k)) g N A L k ∧ SlG ((w.setCell ⟨g, 0, none⟩ (.int .i64 N)).setCell ⟨g, 1, none⟩ (.slice A L k)) A L k Y ∧ Below w5.heap.size w5 ((w.setCell ⟨g, 0, none⟩ (.int .i64 N)).setCell ⟨g, 1, none⟩ (.slice A L k)) := by
  subst hL
  obtain ⟨h1, T⟩ := h.2.2 g rfl
  obtain ⟨A, k, e, h2, h3, h4⟩ := finW N T h1 h.1 h.2.1
  exact ⟨A, k, e, ⟨T.free.1, T.free.2, T.two.1, T.two.2⟩, h2, h3, h4⟩
theorem TB.fin1 {w5 w : World} {v : Value} {Y : List (List Int)} (N : Int) (L : Nat) (hL : Y.length = L) (h : TB w5 w v Y none) :
    ∃ A k, v = .slice A L k ∧ ((w.alloc (.cells #[.int .i64 0, .slice none 0 0] 24)).frozen? ⟨w.heap.size, 0, none⟩ = false ∧ (w.alloc (.cells #[.int .i64 0, .slice none 0 0] 24)).frozen? ⟨w.heap.size, 1, none⟩ = false ∧ (w.alloc (.cells #[.int .i64 0, .slice none 0 0] 24)).cell? ⟨w.heap.size, 0, none⟩ = some (.int .i64 0) ∧ (w.alloc (.cells #[.int .i64 0, .slice none 0 0] 24)).cell? ⟨w.heap.size, 1, none⟩ = some (.slice none 0 0)) ∧ CBox (w.alloc (.cells #[.int .i64 N, .slice A L k] 24)) w.heap.size N A L k ∧ SlG (w.alloc (.cells #[.int .i64 N, .slice A L k] 24)) A L k Y ∧ Below w5.heap.size w5 (w.alloc (.cells #[.int .i64 N, .slice A L k] 24)) := by
  subst hL
  obtain ⟨A, k, e, hS⟩ := h.1.slG
  have T := CBox.new w 0 none 0 0
  exact ⟨A, k, e, ⟨T.free.1, T.free.2, T.two.1, T.two.2⟩, CBox.new w N A _ k, hS.below (bel_alloc (Below.refl _ _) _), bel_alloc h.2.1 _⟩
theorem same_self (X : List Int) : same X X = true := by
  unfold same
  simp only [Bool.and_self]
  exact (Lt.within_iff _ _).2 fun y hy _ => hy
theorem smC_self (N : Int) (G : List (List Int)) : smC N G N G = true := by
  unfold smC
  simp only [beq_self_eq_true, Bool.true_and]
  rw [List.all_eq_true]
  intro p hp
  obtain ⟨i, hi⟩ := List.mem_iff_getElem?.1 hp
  have h1 := List.getElem?_zip_eq_some.1 hi
  have : p.1 = p.2 := by have := h1.1.symm.trans h1.2; injection this
  rw [this]; exact same_self _
end Go.Proofs.YthchjceibpcgbaaGreatDoor.Cn
namespace Go.Proofs.YthchjceibpcgbaaGreatDoor.Cn
open Go.RowKit L Lt Fi
set_option linter.unusedVariables false
set_option linter.unusedSimpArgs false

set_option maxRecDepth 100000 in
set_option maxHeartbeats 4000000 in
theorem mapClone_some (A : Option Addr) (m c : Nat) (G : List (List Int)) (w : World) (hT : SlG w A m c G) (hs : ∀ X ∈ G, X.length ≤ 1000000000) (hm0 : 0 < m) (hm2 : m ≤ 1000000) :
    Calls Tryz.prog 29 #[.slice A m c, .func (.func 31) #[] #[]] w fun e w' => e = .returned (.slice (some ⟨w.heap.size, 0, none⟩) m m) ∧ SlGP (fun b => w.heap.size ≤ b) w' (some ⟨w.heap.size, 0, none⟩) m m G ∧ Below w.heap.size w w' := by
  have hmk := fun w => run_make_row' (P := Tryz.prog) 22 34 (.slice none 0 0) 24 Tryz.underlying22 rowIs rfl .i64 .i64 m (by omega) (by omega) w
  have hmk1 := hmk w
  have P0 := PartG.start (fun b => w.heap.size ≤ b) G m w
  obtain ⟨W1, hW1⟩ : ∃ W1, w.alloc (.cells (madeCells #[.slice none 0 0] m) 34) = W1 := ⟨_, rfl⟩
  rw [hW1] at hmk1 P0
  have hB1 : Below w.heap.size w W1 := by rw [← hW1]; exact bel_alloc (Below.refl _ _) _
  have hm1 : ((m : Int) == 0) = false := by simp; omega
  have HP0 := Lib.hid P0
  have HT := Lib.hid hT
  have HL := Lib.hid hT.1
  have HS := Lib.hid hs
  clear hT P0 hW1 hmk hs
  go_enter Tryz.func29, Tryz.ntmps29
  go_wp2
  go_loopw [16] (fun i wr0 => ∃ (wr : World) (k : Nat), wr = wr0 ∧ k ≤ m ∧ i = .int .i64 k ∧ Below w.heap.size w wr ∧ Hid (PartG (fun b => w.heap.size ≤ b) w.heap.size G m k wr)) (fun i _ => m - (intOf i).toNat)
  case atStart => exact ⟨_, 0, rfl, by omega, rfl, hB1, HP0⟩
  case round =>
    obtain ⟨wr, k, rfl, hk, rfl, hB, hR⟩ := hrel
    by_cases hlt : k < m
    · obtain ⟨g, o, B, p, q, X, rfl, hg, z0, hx, hX⟩ := SlG.at HT.out hlt
      have y0 := (hB.cell (p := ⟨g, _, none⟩) hg).trans z0
      have cc := clone_any B p q X wr (hX.below hB) (by rw [hX.1]; exact HS.out X (List.mem_of_getElem? hx))
      have Hx := Lib.hid hx
      have hXp := Lib.hid hX.1
      clear z0 hx hX
      have hk0 : 0 ≤ (k : Int) := by omega
      have hk1 : (k : Int) < (m : Int) := by omega
      obtain ⟨ln, hln⟩ : ∃ ln, X.length = ln := ⟨_, rfl⟩
      rw [hln] at cc
      have Hln := Lib.hid hln
      clear hln
      go_wp2_with (go_at_call 31; ((with_reducible refine cc.mono ?_); rintro e w5 ⟨A5, c5, rfl, hO5, hb5⟩; have hF : SlI w5 A5 ln c5 X := (by have h := hO5; rw [← Hln.out] at h ⊢; exact h.sl.2.2); have hFP : 0 < ln → ∀ ad, A5 = some ad → w.heap.size ≤ ad.block := (fun _ ad ha => Nat.le_trans hB.size (by have h := hO5; rw [← Hln.out] at h; exact (h.lt ad.block (by rw [ha]; rfl)).1)); obtain ⟨⟨qa, qq, qd, q0⟩, g0, Hn⟩ := PartG.go hR.out hlt Hx.out hb5 hF hFP; have HN := Lib.hid Hn; clear hF hFP Hn hO5))
      go_roundw
      case rel => exact ⟨_, k + 1, rfl, by omega, by go_num, (bel_trans hB hb5).setCell (p := ⟨w.heap.size, k, none⟩) (Nat.le_refl _) _, HN⟩
      case measure => simp [intOf]; omega
    · obtain rfl : k = m := by omega
      have Hd := Lib.hid (PartG.done hR.out HL.out.symm)
      clear hR
      go_wp2
      go_ret
      exact ⟨rfl, Hd.out, hB⟩
theorem mapClone_any (A : Option Addr) (m c : Nat) (G : List (List Int)) (w : World) (hT : SlG w A m c G) (hs : ∀ X ∈ G, X.length ≤ 1000000000) (hm2 : m ≤ 1000000) :
    Calls Tryz.prog 29 #[.slice A m c, .func (.func 31) #[] #[]] w fun e w' => ∃ A' c', e = .returned (.slice A' m c') ∧ SlGP (fun b => w.heap.size ≤ b) w' A' m c' G ∧ Below w.heap.size w w' ∧ ∀ ad, A' = some ad → w.heap.size ≤ ad.block := by
  by_cases h0 : 0 < m
  · exact (mapClone_some A m c G w hT hs h0 hm2).mono fun e w' ⟨k1, k2, k3⟩ => ⟨_, _, k1, k2, k3, fun ad h => by injection h with h; rw [← h]; exact Nat.le_refl _⟩
  · obtain rfl : m = 0 := by omega
    have hl : G = [] := List.length_eq_zero_iff.1 hT.1.symm
    subst hl
    have : Calls Tryz.prog 29 #[.slice A 0 c, .func (.func 31) #[] #[]] w fun e w' => e = .returned (.slice none 0 0) ∧ w' = w := by
      clear hT hs
      go_enter Tryz.func29, Tryz.ntmps29
      go_wp2
      go_ret
      exact ⟨rfl, rfl⟩
    exact this.mono fun e w' ⟨k1, k2⟩ => ⟨none, 0, k1, SlGP.nil _ _, by rw [k2]; exact Below.refl _ _, fun ad h => by cases h⟩
set_option maxRecDepth 100000 in
set_option maxHeartbeats 8000000 in
theorem CAdd_any (N : Int) (A : Option Addr) (r c : Nat) (G : List (List Int)) (A' : Option Addr) (m d : Nat) (K : List (List Int)) (w : World) (h : SlG w A r c G) (h' : SlG w A' m d K) (hr : r ≤ 100000) (hm : m ≤ 100000) (hs : ∀ X ∈ G, X.length ≤ 1000000000) (hs' : ∀ X ∈ K, X.length ≤ 1000000000) :
    Calls Tryz.prog 12 #[.agg #[.int .i64 N, .slice A r c], .slice A' m d] w fun e w' => ∃ B q k, e = .returned (.agg #[.int .i64 N, .slice B q k]) ∧ SlG w' B q k (G ++ K) ∧ Below w.heap.size w w' := by
  obtain ⟨W2, hW2, hB2, S2, T2⟩ := boxC2 w N A r c 0 none 0 0
  obtain ⟨s0, s1⟩ := S2.two
  have LT := Lib.hid (Blk.lt T2)
  have hT := Lib.hid T2
  have HB2 := Lib.hid hB2
  have H := Lib.hid (h.below hB2)
  have H' := Lib.hid (h'.below hB2)
  have HKb := Lib.hid (show ∀ w', Below W2.heap.size W2 w' → (w'.cell? ⟨w.heap.size, 0, none⟩ = some (.int .i64 N) ∧ w'.cell? ⟨w.heap.size, 1, none⟩ = some (.slice A r c)) from fun w' hb => (S2.b hb).two)
  have CC := Lib.hid (show ∀ (W : World), Below W2.heap.size W2 W → ∀ (q : Nat), q < W.heap.size → Two W q (.slice A r c) (.slice A' m d) → Calls Tryz.prog 30 #[.slice (some ⟨q, 0, none⟩) 2 2] W fun e w' => ∃ v c', e = .returned (.slice v (G ++ K).length c') ∧ SlG w' v (G ++ K).length c' (G ++ K) ∧ Below W.heap.size W w' from fun W hb q hq ht =>
    (Concat_two q A A' r m c d G K W hq ht (H.out.below hb).low (H'.out.below hb).low (by omega) (by omega)).mono fun e w' ⟨v, k1, k2, k3⟩ => by
      obtain ⟨v', c', rfl, hS⟩ := k2.slG
      exact ⟨v', c', k1, hS, k3⟩)
  have hgk : (G ++ K).length ≤ 1000000 := by rw [List.length_append, ← h.1, ← h'.1]; omega
  have hsz : ∀ X ∈ G ++ K, X.length ≤ 1000000000 := fun X hX => by
    rcases List.mem_append.1 hX with h1 | h1
    · exact hs X h1
    · exact hs' X h1
  have CM := Lib.hid (fun (v : Option Addr) (c' : Nat) (W : World) (hS : SlG W v (G ++ K).length c' (G ++ K)) => mapClone_any v (G ++ K).length c' (G ++ K) W hS hsz hgk)
  obtain ⟨L, hL⟩ : ∃ L, (G ++ K).length = L := ⟨_, rfl⟩
  rw [hL] at CC CM
  obtain ⟨GK, hGK⟩ : ∃ GK, G ++ K = GK := ⟨_, rfl⟩
  rw [hGK] at CC CM
  have HGK := Lib.hid hGK
  have hb4 : Below W2.heap.size W2 (W2.alloc (.cells #[.slice A r c, .slice A' m d] 22)).drew := (bel_alloc (Below.refl _ _) _).drew
  have hq4 : W2.heap.size < (W2.alloc (.cells #[.slice A r c, .slice A' m d] 22)).drew.heap.size := by
    show W2.heap.size < (W2.alloc (.cells #[.slice A r c, .slice A' m d] 22)).heap.size
    simp
  have ht4 : Two (W2.alloc (.cells #[.slice A r c, .slice A' m d] 22)).drew W2.heap.size (.slice A r c) (.slice A' m d) :=
    ⟨Blk.cell (Blk.new W2 #[.slice A r c, .slice A' m d] 22) 0, Blk.cell (Blk.new W2 #[.slice A r c, .slice A' m d] 22) 1⟩
  have cc := CC.out _ hb4 _ hq4 ht4
  have Hb4 := Lib.hid hb4
  have v0 : (W2.alloc (.cells #[.slice A r c, .slice A' m d] 22)).cell? ⟨w.heap.size, 0, none⟩ = some (.int .i64 N) := (HKb.out _ hb4).1
  clear h h' hs hs' hB2 S2 T2 hsz hgk hL hGK hb4 hq4 ht4
  go_enter Tryz.func12, Tryz.ntmps12
  go_wp2_with fail
  go_region_with (first
    | (go_at_call 30; ((with_reducible refine cc.mono ?_); rintro e w5 ⟨v5, c5, rfl, hS5, b5⟩; have B5 := Lib.hid (show Below W2.heap.size W2 w5 from bel_trans Hb4.out b5); obtain ⟨t0, t1⟩ := HKb.out w5 B5.out; have cm := CM.out v5 c5 w5 hS5; clear hS5 b5))
    | (go_at_call 29; ((with_reducible refine cm.mono ?_); rintro e w6 ⟨A6, k6, rfl, hS6, b6, hA6⟩; have B6 := Lib.hid (show Below W2.heap.size W2 w6 from bel_trans B5.out b6); obtain ⟨u0, u1⟩ := HKb.out w6 B6.out; have T6 := hT.out.b B6.out; obtain ⟨g0, g1⟩ := T6.two; obtain ⟨f0, f1⟩ := T6.free; have HF := Lib.hid ((T6.put0 N).put1 A6 L k6); obtain ⟨x0, x1⟩ := HF.out.two; have hAn : ∀ ad, A6 = some ad → ad.block ≠ w.heap.size + 1 := (fun ad ha e => by have h1 : w5.heap.size ≤ ad.block := hA6 ad ha; have h2 := B5.out.size; have h3 := LT.out; rw [e] at h1; omega); have hPn : ¬ w5.heap.size ≤ w.heap.size + 1 := (fun e => by have h2 := B5.out.size; have h3 := LT.out; omega); have HSf := Lib.hid (((hS6.far hAn hPn 0 (.int .i64 N)).far hAn hPn 1 (.slice A6 L k6)).slG); have HBf := Lib.hid (((bel_trans HB2.out B6.out).setCell (p := ⟨w.heap.size + 1, 0, none⟩) (Nat.le_succ _) (.int .i64 N)).setCell (p := ⟨w.heap.size + 1, 1, none⟩) (Nat.le_succ _) (.slice A6 L k6)); clear hS6 b6 hA6 hAn hPn T6)))
  all_goals go_wp2
  all_goals simp [bodyPost, results, Tryz.results12, go_sem, x0, x1]
  all_goals exact ⟨A6, L, k6, ⟨rfl, rfl, rfl⟩, by rw [HGK.out]; exact HSf.out, HBf.out⟩
end Go.Proofs.YthchjceibpcgbaaGreatDoor.Cn
