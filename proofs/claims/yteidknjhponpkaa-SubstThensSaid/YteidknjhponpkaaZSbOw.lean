/-
  What is proved: a row of pairs of the call's own: one pair read, written over; what clear leaves of it.
-/
import Derived.Test.YteidknjhponpkaaBS
import Derived.Lib.SliceRun
namespace Go.Proofs.Yteidknjhponpkaa.U
open Go.RowKit L T C B
set_option linter.unusedVariables false
set_option linter.unusedSimpArgs false

set_option maxHeartbeats 2000000 in
theorem OwnP.setH {w : World} {lo g n c : Nat} {l : List Pr} (h : OwnP w lo (.slice (some ⟨g, 0, none⟩) n c) l) {k : Nat} (hk : k < l.length) (hd : Hu) (p : Pr) (hA : HuP (fun b => b < w.heap.size ∧ g ≠ b) w hd p) :
    OwnP (setU w g k hd) lo (.slice (some ⟨g, 0, none⟩) n c) (l.set k p) := by
  obtain ⟨hs, h1, h2, h3⟩ := h
  have hks : k < hs.length := by omega
  refine ⟨_, h1.set k hd hks, by rw [List.length_set, List.length_set, h2], fun i hd' q e1 e2 => ?_⟩
  have hto : ∀ b, b < w.heap.size ∧ (Value.slice (some ⟨g, 0, none⟩) n c).ownBlock ≠ some b → (setU w g k hd).heap[b]? = w.heap[b]? := fun b hb => setU_other w g k b _ (fun e => hb.2 (by rw [e]; rfl))
  by_cases e : i = k
  · subst e
    rw [List.getElem?_set_self hks] at e1
    rw [List.getElem?_set_self hk] at e2
    injection e1 with e1
    injection e2 with e2
    rw [← e1, ← e2]
    exact hA.to (fun b hb => setU_other w g i b _ (fun e => hb.2 e.symm)) (fun b hb => ⟨by rw [setU_size]; exact hb.1, fun e => hb.2 (by simpa [Value.ownBlock] using e)⟩)
  · rw [List.getElem?_set_ne (fun x => e x.symm)] at e1 e2
    exact (h3 i hd' q e1 e2).to hto (fun b hb => ⟨by rw [setU_size]; exact hb.1, hb.2⟩)
theorem setCells_row {g : Nat} {t : TypeId} : ∀ (vs : List Value) (o : Nat) (w : World) (cur : Array Value), w.heap[g]? = some (.cells cur t (0, 0)) →
    ∃ cur' : Array Value, (w.setCells g o vs).heap[g]? = some (.cells cur' t (0, 0)) ∧ cur'.size = cur.size ∧ ∀ i, i < o → cur'[i]? = cur[i]?
  | [], o, w, cur, h => ⟨cur, h, rfl, fun _ _ => rfl⟩
  | v :: vs, o, w, cur, h => by
    obtain ⟨c', h1, h2, h3⟩ := setCells_row vs (o + 1) (w.setCell ⟨g, o, none⟩ v) _ (heap_setCell_same w g o _ _ v h)
    refine ⟨c', h1, by rw [h2, Array.size_setIfInBounds], fun i hi => ?_⟩
    rw [h3 i (by omega), Array.getElem?_setIfInBounds_ne (by omega)]
theorem setCells_other {g : Nat} : ∀ (vs : List Value) (o : Nat) (w : World) (i : Nat), i ≠ g → (w.setCells g o vs).heap[i]? = w.heap[i]?
  | [], o, w, i, h => rfl
  | v :: vs, o, w, i, h => by
    rw [World.setCells, setCells_other vs (o + 1) _ i h, heap_setCell_other _ ⟨g, o, none⟩ i v h]
theorem setCells_below {B g : Nat} {w0 : World} (hg : B ≤ g) : ∀ (vs : List Value) (o : Nat) (w : World), Below B w0 w → Below B w0 (w.setCells g o vs)
  | [], o, w, h => h
  | v :: vs, o, w, h => setCells_below hg vs (o + 1) _ (below_set h hg _ _)
theorem setCells_size {g : Nat} : ∀ (vs : List Value) (o : Nat) (w : World), (w.setCells g o vs).heap.size = w.heap.size
  | [], o, w => rfl
  | v :: vs, o, w => by rw [World.setCells, setCells_size vs (o + 1)]; simp [World.setCell]
theorem flatU_take (hs : List Hu) (k : Nat) (hk : k ≤ hs.length) : (flatU hs).take (k * 5) = flatU (hs.take k) := by
  have hl : (hs.take k).length = k := by rw [List.length_take]; omega
  have := flatU_ext (hs := hs.take k) (cs := flatU hs) (by rw [hl, flatU_len]; omega) (fun i hi j hj => by
    rw [hl] at hi
    rw [flatU_get hs i j (by omega) hj, List.getElem_take])
  rw [hl] at this
  exact this
/-- a row of the call's own, its first pairs kept, the cells behind them written over -/
theorem OwnP.keep {w : World} {lo g n c : Nat} {l : List Pr} (h : OwnP w lo (.slice (some ⟨g, 0, none⟩) n c) l) (k : Nat) (hk : k ≤ l.length) (vs : List Value) :
    OwnP (w.setCells g (k * 5) vs) lo (.slice (some ⟨g, 0, none⟩) k c) (l.take k) := by
  obtain ⟨hs, h1, h2, h3⟩ := h
  have hkl : (hs.take k).length = k := by rw [List.length_take]; omega
  refine ⟨hs.take k, ?_, by rw [List.length_take, List.length_take, h2], fun i hd p e1 e2 => ?_⟩
  · rcases h1.2 with ⟨hv, _⟩ | ⟨g', cap, cur, hv, hb, hg, hnc, hcm, hcs, ht⟩
    · cases hv
    · injection hv with q1 q2 q3
      injection q1 with q1
      injection q1 with q1
      subst q1 q3
      obtain ⟨cur', hg', hsz, hlo⟩ := setCells_row vs (k * 5) w cur hg
      refine ⟨by rw [flatU_len], .inr ⟨g, c, cur', by rw [hkl], hb, hg', by rw [hkl]; omega, hcm, hsz.trans hcs, ?_⟩⟩
      rw [hkl, ← flatU_take hs k (by omega), ← ht, List.take_take, Nat.min_eq_left (by omega)]
      refine List.ext_getElem? fun i => ?_
      by_cases hi : i < k * 5
      · rw [List.getElem?_take_of_lt hi, List.getElem?_take_of_lt hi, Array.getElem?_toList, Array.getElem?_toList, hlo i hi]
      · rw [List.getElem?_eq_none (by rw [List.length_take]; omega), List.getElem?_eq_none (by rw [List.length_take]; omega)]
  · have hi : i < k := by
      have := (List.getElem?_eq_some_iff.1 e1).1
      omega
    rw [List.getElem?_take_of_lt hi] at e1 e2
    exact (h3 i hd p e1 e2).to (fun b hb => setCells_other vs (k * 5) w b (fun e => hb.2 (by rw [e]; rfl))) (fun b hb => ⟨by rw [setCells_size]; exact hb.1, hb.2⟩)
/-- clear of a slice of pairs -/
theorem clear_pairs (w : World) (b o n c : Nat) (hn : 0 < n)
    (hc : ∀ j, j < n * 5 → (w.cell? ⟨b, o + j, none⟩).isSome = true) (hf : ∀ j, w.frozen? ⟨b, j, none⟩ = false) :
    ∃ vs : List Value, ∀ ty, (Builtin.clear_ #[31] ty #[.slice (some ⟨b, o, none⟩) n c]).run Try.prog w = .ok (.tuple #[]) (w.setCells b o vs) := by
  have hv : ∀ w : World, (zeroValue 43).run Try.prog w = .ok (.agg #[.string ⟨#[]⟩, .int .i64 0, .string ⟨#[]⟩, .int .i64 0, .slice none 0 0]) w := fun w => by kernel_rfl
  have hl : (Builtin.zeroCells (Value.cells (.agg #[.string ⟨#[]⟩, .int .i64 0, .string ⟨#[]⟩, .int .i64 0, .slice none 0 0])) n).toList.length = n * 5 := by
    simp [Builtin.zeroCells, Value.cells]
  have h1 : ∀ v ∈ (Builtin.zeroCells (Value.cells (.agg #[.string ⟨#[]⟩, .int .i64 0, .string ⟨#[]⟩, .int .i64 0, .slice none 0 0])) n).toList, v.oneCell' = true := fun v hv => by
    simp only [Builtin.zeroCells, Value.cells, Array.toList_map, List.mem_map] at hv
    obtain ⟨i, _, rfl⟩ := hv
    have hm : i % 5 = 0 ∨ i % 5 = 1 ∨ i % 5 = 2 ∨ i % 5 = 3 ∨ i % 5 = 4 := by omega
    show (#[Value.string ⟨#[]⟩, .int .i64 0, .string ⟨#[]⟩, .int .i64 0, .slice none 0 0][i % 5]!).oneCell' = true
    rcases hm with e | e | e | e | e <;> rw [e] <;> rfl
  have hst := run_storeCells_cells (P := Try.prog) b o _ 0 w (by rw [hl]; simpa using hc) (fun j _ => by simpa using hf (o + 0 + j)) h1
  simp only [Nat.add_zero] at hst
  obtain ⟨m, rfl⟩ : ∃ m, n = m + 1 := ⟨n - 1, by omega⟩
  exact ⟨(Builtin.zeroCells (Value.cells (.agg #[.string ⟨#[]⟩, .int .i64 0, .string ⟨#[]⟩, .int .i64 0, .slice none 0 0])) (m + 1)).toList, fun ty => by simp [Builtin.clear_, run_underlying Try.underlying31, hv, hst]⟩

theorem isSome_row {w : World} {lo g n c : Nat} {l : List Pr} (h : OwnP w lo (.slice (some ⟨g, 0, none⟩) n c) l) : ∀ j, j < n * 5 → (w.cell? ⟨g, j, none⟩).isSome = true := fun j hj => by
  obtain ⟨hs, h1, h2, h3⟩ := h
  rcases h1.2 with ⟨hv, _⟩ | ⟨g', cap, cur, hv, hb, hg, hnc, hcm, hcs, ht⟩
  · cases hv
  · injection hv with q1 q2 q3
    injection q1 with q1
    injection q1 with q1
    subst q1 q2 q3
    rw [cell_of_row w g _ _ _ _ hg, Array.getElem?_eq_getElem (by omega)]; rfl
theorem OwnP.one {w : World} {lo g n c : Nat} {l : List Pr} (h : OwnP w lo (.slice (some ⟨g, 0, none⟩) n c) l) {k : Nat} {p : Pr} (h1 : l[k]? = some p) :
    ∃ hp : Hu, HuP (fun b => b < w.heap.size ∧ g ≠ b) w hp p ∧ (w.cell? ⟨g, k * 5, none⟩ = some (.string hp.nm) ∧ w.cell? ⟨g, k * 5 + 1, none⟩ = some (.int .i64 hp.op) ∧ w.cell? ⟨g, k * 5 + 1 + 1, none⟩ = some (.string hp.s) ∧ w.cell? ⟨g, k * 5 + 1 + 1 + 1, none⟩ = some (.int .i64 hp.z) ∧ w.cell? ⟨g, k * 5 + 1 + 1 + 1 + 1, none⟩ = some (.slice hp.a hp.n hp.c)) := by
  obtain ⟨hs, ho, hl, h3⟩ := h
  obtain ⟨k1, e1⟩ := List.getElem?_eq_some_iff.1 h1
  have c1 : k < hs.length := by omega
  have hA := h3 k _ p (List.getElem?_eq_getElem c1) h1
  exact ⟨hs[k], hA.to (fun _ _ => rfl) (fun b hb => ⟨hb.1, fun e => hb.2 (by rw [e]; rfl)⟩), ho.at c1⟩
theorem OwnP.free {w : World} {lo g n c : Nat} {l : List Pr} (h : OwnP w lo (.slice (some ⟨g, 0, none⟩) n c) l) : ∀ j : Nat, w.frozen? ⟨g, j, none⟩ = false := fun j => by
  obtain ⟨hs9, ho9, -, -⟩ := h
  exact RowU.free (OwnU.row ho9) j
end Go.Proofs.Yteidknjhponpkaa.U
