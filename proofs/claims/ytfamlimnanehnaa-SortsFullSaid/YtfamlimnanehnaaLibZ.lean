/-
  What is proved: append(s, make([]string, k)...) where s is a row of the call's own.
-/
import Derived.Test.YtfamlimnanehnaaLibC
import Derived.Lib.AppendZerosOnto
namespace Go.Proofs.Ytfamlimnanehnaa.L
open Go.RowKit
set_option linter.unusedVariables false
set_option linter.unusedSimpArgs false

def zS (k : Nat) : Array Value := Builtin.zeroCells (Value.string ⟨#[]⟩).cells k
theorem zS_size (k : Nat) : (zS k).size = k := by
  unfold zS; rw [size_zeroCells]
  show k * 1 = k; omega
theorem zS_one (k : Nat) : ∀ u ∈ (zS k).toList, u.oneCell' = true := fun u hu => by
  have e : (Value.string ⟨#[]⟩).cells = #[.string ⟨#[]⟩] := rfl
  simp only [zS, Builtin.zeroCells, e, Array.toList_map, List.mem_map] at hu
  obtain ⟨i, _, rfl⟩ := hu
  have : i % 1 = 0 := Nat.mod_one i
  simp [this, Value.oneCell']
set_option maxHeartbeats 1000000 in
theorem run_zeros_room (w : World) (ty : TypeId) (g n cap k : Nat) (cur : Array Value) (hg : w.heap[g]? = some (.cells cur 9 (0, 0))) (h0 : 0 < k) (hk : k ≤ 1000000000) (hroom : n + k ≤ cap) (hcs : cur.size = cap) :
    (Builtin.append_ #[22, 3] ty #[.slice (some ⟨g, 0, none⟩) n cap, .int .i64 (k : Int)]).run Try.prog w =
      .ok (.slice (some ⟨g, 0, none⟩) (n + k) cap) (w.setRow g (cur.toList.take n ++ (zS k).toList ++ cur.toList.drop (n + k)).toArray) := by
  obtain ⟨i0, hi, hz0, hz1, hz2⟩ := info_parts strI
  have hst := run_storeCells_at Try.prog g n 9 (zS k).toList 0 cur w hg (by simp [zS_size]; omega) (zS_one k)
  simp only [Nat.add_zero, Array.length_toList, zS_size] at hst
  have hw : IntKind.i64.wrap (k : Int) = k := by rw [IntKind.wrap_i64]; omega
  have h48i : ¬ (281474976710656 < (k : Int) * (16 : Int)) := by omega
  have hneg : ¬ ((k : Int) < 0) := by omega
  have hk0 : k ≠ 0 := by omega
  unfold zS at hst
  unfold zS
  simp [Builtin.append_, run_underlying Try.underlying22, run_underlying Try.underlying3, sizeOf, typeInfo, zeroValue, hi, hz0, hz1, hz2, asInt, asIntOf, hw, h48i, hneg, hk0, hroom, Addr.add_lit, hst]
set_option maxHeartbeats 1000000 in
/-- whichever way it goes: a slice of so many more elements; nothing but the row is written -/
theorem run_zeros (w : World) (ty : TypeId) (base : Nat) (v : Value) (Y : List ByteArray) (hown : OwnS w base v Y) (k : Nat) (h0 : 0 < k) (hk : k ≤ 1000000) (hY : Y.length ≤ 1000000) :
    ∃ A c w', (Builtin.append_ #[22, 3] ty #[v, .int .i64 (k : Int)]).run Try.prog w = .ok (.slice A (Y.length + k) c) w' ∧ w.grownBy w' v.ownBlock := by
  obtain ⟨i0, hi, hz0, hz1, hz2⟩ := info_parts strI
  rcases hown.2 with ⟨rfl, hn⟩ | ⟨g, cap, cur, rfl, hb, hg, hnc, hcm, hcs, ht⟩
  · have hr := Lib.run_append_nil_zeros w 22 3 ty 9 i0 _ .i64 .i64 Try.underlying22 Try.underlying3 hi hz0 k h0 (by rw [hz1]; decide) (by omega) (by rw [hz2]; omega)
    rw [hn, Nat.zero_add]
    exact ⟨_, _, _, hr, ⟨rfl, rfl, rfl, by simp, fun j hj _ => heap_alloc_old w.drew _ hj⟩⟩
  · by_cases hroom : Y.length + k ≤ cap
    · have hr := run_zeros_room w ty g Y.length cap k cur hg h0 (by omega) hroom (by omega)
      exact ⟨_, _, _, hr, ⟨rfl, rfl, rfl, by simp, fun j _ hj => setRow_other w g j _ (fun e => hj (by simp [Value.ownBlock, e]))⟩⟩
    · have hold : (Builtin.firstCells i0.size Y.length (.slice (some ⟨g, 0, none⟩) Y.length cap)).run Try.prog w.drew = .ok (vsS Y).toArray w.drew := by
        refine run_firstCells_some w.drew i0.size Y.length ⟨g, 0, none⟩ Y.length cap (vsS Y) (by rw [vsS_len, hz1]; omega) (fun j u hj => ?_)
        exact World.ownsRow.cells hown (g := g) rfl j u hj
      have hr := Lib.run_append_grow_zeros w 22 3 ty 9 i0 _ .i64 .i64 Try.underlying22 Try.underlying3 hi hz0 (some ⟨g, 0, none⟩) Y.length cap (vsS Y) hold k h0 (by rw [hz1]; decide) (by omega) (by omega) (by rw [hz2]; omega) (growslice_fits (by omega) (by rw [hz2]; omega))
      exact ⟨_, _, _, hr, ⟨rfl, rfl, rfl, by simp, fun j hj _ => heap_alloc_old w.drew _ hj⟩⟩
/-- for the walk -/
theorem app_zeros {w : World} {ops : Array Oper} {rest : List Oper} {o : Oper} {a : Act} {Q : Exit → Act → World → Prop} (hgd : o.guard = none) (s x : Operand)
    (ho : o.op = .call { callee := .builtin .append, args := #[s, x], argTypes := #[22, 3] })
    (base : Nat) (v : Value) (Y : List ByteArray) (hs : a.eval s = v) (hown : OwnS w base v Y) (k : Nat) (h0 : 0 < k) (hk : k ≤ 1000000) (hY : Y.length ≤ 1000000) (hx : a.eval x = .int .i64 (k : Int))
    (h : ∀ A c w', w.grownBy w' v.ownBlock → wpList Try.prog ops Q rest (a.put o.dst (.slice A (Y.length + k) c)) w') : wpList Try.prog ops Q (o :: rest) a w := by
  obtain ⟨A, c, w', hr, hg⟩ := run_zeros w o.type base v Y hown k h0 hk hY
  exact Lib.wpList_append_run w hgd s x _ _ ho _ _ hs hx _ _ hr (h A c w' hg)
/-- for the walk, under a guard that is decided -/
theorem app_zeros_g {w : World} {ops : Array Oper} {rest : List Oper} {o : Oper} {a : Act} {Q : Exit → Act → World → Prop} (hgd : Region.wanted o (yielded ops a.tmps) = true) (s x : Operand)
    (ho : o.op = .call { callee := .builtin .append, args := #[s, x], argTypes := #[22, 3] })
    (base : Nat) (v : Value) (Y : List ByteArray) (hs : a.eval s = v) (hown : OwnS w base v Y) (k : Nat) (h0 : 0 < k) (hk : k ≤ 1000000) (hY : Y.length ≤ 1000000) (K : Int) (hK : K = (k : Int)) (hx : a.eval x = .int .i64 K)
    (h : ∀ A c w', w.grownBy w' v.ownBlock → wpList Try.prog ops Q rest (a.put o.dst (.slice A (Y.length + k) c)) w') : wpList Try.prog ops Q (o :: rest) a w := by
  obtain ⟨A, c, w', hr, hg⟩ := run_zeros w o.type base v Y hown k h0 hk hY
  subst hK
  refine wpList_step fun K hK => ?_
  rw [if_pos hgd]
  exact Lib.wp_append_run w s x _ _ ho _ _ hs hx _ _ hr (hK _ _ (h A c w' hg))
end Go.Proofs.Ytfamlimnanehnaa.L
