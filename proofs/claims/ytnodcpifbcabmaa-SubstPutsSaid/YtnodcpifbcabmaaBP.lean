/-
  What is proved: a row of pairs of the call's own: one pair read, written over; what clear leaves of it.
  What is proved: the builtin copy of elements of any number of cells (the kit's laws have one cell); what it leaves of a row of pairs of the call's own.
  What is proved: the library's Insert of one pair into a row of pairs of the call's own: at its end.
  What is proved: the library's Insert of one pair into a row of pairs of the call's own: within it, where there is room.
  What is proved: the library's Insert of one pair into a row of pairs of the call's own: within it, where there is no room.
  What is proved: the library's IndexFunc over a list of pairs, with the closures of package subst; package subst's Get.
  What is proved: the library's DeleteFunc of a row of pairs of the call's own, with the closure of package subst's Put: the pairs of other names stay.
  What is proved: the library's Insert of one pair at any place of a row of pairs of the call's own, and DeleteFunc of any such row.
-/
import Derived.Test.YtnodcpifbcabmaaBM
import Derived.Lib.SliceRun
import Derived.Laws.CopyOwn
import Derived.Test.YtnodcpifbcabmaaZMtJ
import Derived.Lib.Overlaps
import Derived.Laws.Externs
import Derived.Deep.RegionLaw
import Derived.Lib.AppendZerosOnto
import Derived.Laws.NewBlocks
import Derived.Test.YtnodcpifbcabmaaZSbG
namespace Go.Proofs.Ytnodcpifbcabmaa.U
open Go.RowKit L T C B
set_option linter.unusedVariables false
set_option linter.unusedSimpArgs false

set_option maxHeartbeats 2000000 in
theorem OwnP.setH {w : World} {lo g n c : Nat} {l : List Pr} (h : OwnP w lo (.slice (some ⟨g, 0, none⟩) n c) l) {k : Nat} (hk : k < l.length) (hd : Hu) (p : Pr) (hA : HuP (fun b => b < w.heap.size ∧ g ≠ b) w hd p) :
    OwnP (setU w g k hd) lo (.slice (some ⟨g, 0, none⟩) n c) (l.set k p) := by
  obtain ⟨hs, h1, h2, h3⟩ := h
  have hks : k < hs.length := by omega
  refine ⟨_, h1.set k hd hks, by rw [List.length_set, List.length_set, h2], fun i hd' q e1 e2 => ?_⟩
  have hto : ∀ b, b < w.heap.size ∧ (Value.slice (some ⟨g, 0, none⟩) n c).ownBlock ≠ some b → (setU w g k hd).heap[b]? = w.heap[b]? := fun b hb => setU_other w g k b _ (fun e => hb.2 (by rw [e]; rfl))
  by_cases e : i = k
  · subst e
    rw [List.getElem?_set_self hks] at e1
    rw [List.getElem?_set_self hk] at e2
    injection e1 with e1
    injection e2 with e2
    rw [← e1, ← e2]
    exact hA.to (fun b hb => setU_other w g i b _ (fun e => hb.2 e.symm)) (fun b hb => ⟨by rw [setU_size]; exact hb.1, fun e => hb.2 (by simpa [Value.ownBlock] using e)⟩)
  · rw [List.getElem?_set_ne (fun x => e x.symm)] at e1 e2
    exact (h3 i hd' q e1 e2).to hto (fun b hb => ⟨by rw [setU_size]; exact hb.1, hb.2⟩)
theorem setCells_row {g : Nat} {t : TypeId} : ∀ (vs : List Value) (o : Nat) (w : World) (cur : Array Value), w.heap[g]? = some (.cells cur t (0, 0)) →
    ∃ cur' : Array Value, (w.setCells g o vs).heap[g]? = some (.cells cur' t (0, 0)) ∧ cur'.size = cur.size ∧ ∀ i, i < o → cur'[i]? = cur[i]?
  | [], o, w, cur, h => ⟨cur, h, rfl, fun _ _ => rfl⟩
  | v :: vs, o, w, cur, h => by
    obtain ⟨c', h1, h2, h3⟩ := setCells_row vs (o + 1) (w.setCell ⟨g, o, none⟩ v) _ (heap_setCell_same w g o _ _ v h)
    refine ⟨c', h1, by rw [h2, Array.size_setIfInBounds], fun i hi => ?_⟩
    rw [h3 i (by omega), Array.getElem?_setIfInBounds_ne (by omega)]
theorem setCells_other {g : Nat} : ∀ (vs : List Value) (o : Nat) (w : World) (i : Nat), i ≠ g → (w.setCells g o vs).heap[i]? = w.heap[i]?
  | [], o, w, i, h => rfl
  | v :: vs, o, w, i, h => by
    rw [World.setCells, setCells_other vs (o + 1) _ i h, heap_setCell_other _ ⟨g, o, none⟩ i v h]
theorem setCells_below {B g : Nat} {w0 : World} (hg : B ≤ g) : ∀ (vs : List Value) (o : Nat) (w : World), Below B w0 w → Below B w0 (w.setCells g o vs)
  | [], o, w, h => h
  | v :: vs, o, w, h => setCells_below hg vs (o + 1) _ (below_set h hg _ _)
theorem setCells_size {g : Nat} : ∀ (vs : List Value) (o : Nat) (w : World), (w.setCells g o vs).heap.size = w.heap.size
  | [], o, w => rfl
  | v :: vs, o, w => by rw [World.setCells, setCells_size vs (o + 1)]; simp [World.setCell]
theorem flatU_take (hs : List Hu) (k : Nat) (hk : k ≤ hs.length) : (flatU hs).take (k * 5) = flatU (hs.take k) := by
  have hl : (hs.take k).length = k := by rw [List.length_take]; omega
  have := flatU_ext (hs := hs.take k) (cs := flatU hs) (by rw [hl, flatU_len]; omega) (fun i hi j hj => by
    rw [hl] at hi
    rw [flatU_get hs i j (by omega) hj, List.getElem_take])
  rw [hl] at this
  exact this
/-- a row of the call's own, its first pairs kept, the cells behind them written over -/
theorem OwnP.keep {w : World} {lo g n c : Nat} {l : List Pr} (h : OwnP w lo (.slice (some ⟨g, 0, none⟩) n c) l) (k : Nat) (hk : k ≤ l.length) (vs : List Value) :
    OwnP (w.setCells g (k * 5) vs) lo (.slice (some ⟨g, 0, none⟩) k c) (l.take k) := by
  obtain ⟨hs, h1, h2, h3⟩ := h
  have hkl : (hs.take k).length = k := by rw [List.length_take]; omega
  refine ⟨hs.take k, ?_, by rw [List.length_take, List.length_take, h2], fun i hd p e1 e2 => ?_⟩
  · rcases h1.2 with ⟨hv, _⟩ | ⟨g', cap, cur, hv, hb, hg, hnc, hcm, hcs, ht⟩
    · cases hv
    · injection hv with q1 q2 q3
      injection q1 with q1
      injection q1 with q1
      subst q1 q3
      obtain ⟨cur', hg', hsz, hlo⟩ := setCells_row vs (k * 5) w cur hg
      refine ⟨by rw [flatU_len], .inr ⟨g, c, cur', by rw [hkl], hb, hg', by rw [hkl]; omega, hcm, hsz.trans hcs, ?_⟩⟩
      rw [hkl, ← flatU_take hs k (by omega), ← ht, List.take_take, Nat.min_eq_left (by omega)]
      refine List.ext_getElem? fun i => ?_
      by_cases hi : i < k * 5
      · rw [List.getElem?_take_of_lt hi, List.getElem?_take_of_lt hi, Array.getElem?_toList, Array.getElem?_toList, hlo i hi]
      · rw [List.getElem?_eq_none (by rw [List.length_take]; omega), List.getElem?_eq_none (by rw [List.length_take]; omega)]
  · have hi : i < k := by
      have := (List.getElem?_eq_some_iff.1 e1).1
      omega
    rw [List.getElem?_take_of_lt hi] at e1 e2
    exact (h3 i hd p e1 e2).to (fun b hb => setCells_other vs (k * 5) w b (fun e => hb.2 (by rw [e]; rfl))) (fun b hb => ⟨by rw [setCells_size]; exact hb.1, hb.2⟩)
/-- clear of a slice of pairs -/
theorem clear_pairs (w : World) (b o n c : Nat) (hn : 0 < n)
    (hc : ∀ j, j < n * 5 → (w.cell? ⟨b, o + j, none⟩).isSome = true) (hf : ∀ j, w.frozen? ⟨b, j, none⟩ = false) :
    ∃ vs : List Value, ∀ ty, (Builtin.clear_ #[36] ty #[.slice (some ⟨b, o, none⟩) n c]).run Try.prog w = .ok (.tuple #[]) (w.setCells b o vs) := by
  have hv : ∀ w : World, (zeroValue 43).run Try.prog w = .ok (.agg #[.string ⟨#[]⟩, .int .i64 0, .string ⟨#[]⟩, .int .i64 0, .slice none 0 0]) w := fun w => by kernel_rfl
  have hl : (Builtin.zeroCells (Value.cells (.agg #[.string ⟨#[]⟩, .int .i64 0, .string ⟨#[]⟩, .int .i64 0, .slice none 0 0])) n).toList.length = n * 5 := by
    simp [Builtin.zeroCells, Value.cells]
  have h1 : ∀ v ∈ (Builtin.zeroCells (Value.cells (.agg #[.string ⟨#[]⟩, .int .i64 0, .string ⟨#[]⟩, .int .i64 0, .slice none 0 0])) n).toList, v.oneCell' = true := fun v hv => by
    simp only [Builtin.zeroCells, Value.cells, Array.toList_map, List.mem_map] at hv
    obtain ⟨i, _, rfl⟩ := hv
    have hm : i % 5 = 0 ∨ i % 5 = 1 ∨ i % 5 = 2 ∨ i % 5 = 3 ∨ i % 5 = 4 := by omega
    show (#[Value.string ⟨#[]⟩, .int .i64 0, .string ⟨#[]⟩, .int .i64 0, .slice none 0 0][i % 5]!).oneCell' = true
    rcases hm with e | e | e | e | e <;> rw [e] <;> rfl
  have hst := run_storeCells_cells (P := Try.prog) b o _ 0 w (by rw [hl]; simpa using hc) (fun j _ => by simpa using hf (o + 0 + j)) h1
  simp only [Nat.add_zero] at hst
  obtain ⟨m, rfl⟩ : ∃ m, n = m + 1 := ⟨n - 1, by omega⟩
  exact ⟨(Builtin.zeroCells (Value.cells (.agg #[.string ⟨#[]⟩, .int .i64 0, .string ⟨#[]⟩, .int .i64 0, .slice none 0 0])) (m + 1)).toList, fun ty => by simp [Builtin.clear_, run_underlying Try.underlying36, hv, hst]⟩

theorem isSome_row {w : World} {lo g n c : Nat} {l : List Pr} (h : OwnP w lo (.slice (some ⟨g, 0, none⟩) n c) l) : ∀ j, j < n * 5 → (w.cell? ⟨g, j, none⟩).isSome = true := fun j hj => by
  obtain ⟨hs, h1, h2, h3⟩ := h
  rcases h1.2 with ⟨hv, _⟩ | ⟨g', cap, cur, hv, hb, hg, hnc, hcm, hcs, ht⟩
  · cases hv
  · injection hv with q1 q2 q3
    injection q1 with q1
    injection q1 with q1
    subst q1 q2 q3
    rw [cell_of_row w g _ _ _ _ hg, Array.getElem?_eq_getElem (by omega)]; rfl
theorem OwnP.one {w : World} {lo g n c : Nat} {l : List Pr} (h : OwnP w lo (.slice (some ⟨g, 0, none⟩) n c) l) {k : Nat} {p : Pr} (h1 : l[k]? = some p) :
    ∃ hp : Hu, HuP (fun b => b < w.heap.size ∧ g ≠ b) w hp p ∧ (w.cell? ⟨g, k * 5, none⟩ = some (.string hp.nm) ∧ w.cell? ⟨g, k * 5 + 1, none⟩ = some (.int .i64 hp.op) ∧ w.cell? ⟨g, k * 5 + 1 + 1, none⟩ = some (.string hp.s) ∧ w.cell? ⟨g, k * 5 + 1 + 1 + 1, none⟩ = some (.int .i64 hp.z) ∧ w.cell? ⟨g, k * 5 + 1 + 1 + 1 + 1, none⟩ = some (.slice hp.a hp.n hp.c)) := by
  obtain ⟨hs, ho, hl, h3⟩ := h
  obtain ⟨k1, e1⟩ := List.getElem?_eq_some_iff.1 h1
  have c1 : k < hs.length := by omega
  have hA := h3 k _ p (List.getElem?_eq_getElem c1) h1
  exact ⟨hs[k], hA.to (fun _ _ => rfl) (fun b hb => ⟨hb.1, fun e => hb.2 (by rw [e]; rfl)⟩), ho.at c1⟩
theorem OwnP.free {w : World} {lo g n c : Nat} {l : List Pr} (h : OwnP w lo (.slice (some ⟨g, 0, none⟩) n c) l) : ∀ j : Nat, w.frozen? ⟨g, j, none⟩ = false := fun j => by
  obtain ⟨hs9, ho9, -, -⟩ := h
  exact RowU.free (OwnU.row ho9) j
end Go.Proofs.Ytnodcpifbcabmaa.U
namespace Go.Proofs.Ytnodcpifbcabmaa.U
open Go.RowKit L T C B
set_option linter.unusedVariables false
set_option linter.unusedSimpArgs false

theorem run_copy_z {P : Program} (w : World) (dT sT ty elem : TypeId) (z g o dLen dCap : Nat) (a : Addr) (sLen sCap : Nat) (cur : Array Value) (t : TypeId) (cs : List Value)
    (hu : P.underlying dT = some (.slice elem)) (hs : (P.info? elem).map (·.size) = some z)
    (hg : w.heap[g]? = some (.cells cur t (0, 0))) (hn : cs.length = Nat.min sLen dLen * z)
    (hsrc : ∀ j v, cs[j]? = some v → w.cell? (a.add j) = some v) (hfit : o + cs.length ≤ cur.size) (h1 : ∀ v ∈ cs, v.oneCell' = true) :
    (Builtin.copy_ #[dT, sT] ty #[.slice (some ⟨g, o, none⟩) dLen dCap, .slice (some a) sLen sCap]).run P w =
      .ok (goInt (Nat.min sLen dLen)) (w.setRow g (cur.toList.take o ++ cs ++ cur.toList.drop (o + cs.length)).toArray) := by
  have hl := run_loadCells_list (P := P) w a cs hsrc
  have hst := run_storeCells_at P g o t cs 0 cur w hg (by simpa using hfit) h1
  cases hq : P.info? elem with
  | none => simp [hq] at hs
  | some i =>
    have hi : i.size = z := by simpa [hq] using hs
    rw [hn] at hl
    simp [Builtin.copy_, run_underlying hu, Builtin.lenOf, Builtin.firstCells, sizeOf, typeInfo, hq, hi, hl, hst]
theorem flatU_drop (H : List Hu) (k : Nat) (hk : k ≤ H.length) : (flatU H).drop (k * 5) = flatU (H.drop k) := by
  have e : flatU H = flatU (H.take k) ++ flatU (H.drop k) := by rw [← flatU_app, List.take_append_drop]
  rw [e, List.drop_left' (by rw [flatU_len, List.length_take]; omega)]
/-- what copy leaves: the pairs K from place i on; the row as long as it was, or as far as K goes -/
theorem OwnU.copy {w : World} {lo g n c : Nat} {H : List Hu} (h : OwnU w lo (.slice (some ⟨g, 0, none⟩) n c) H) (i : Nat) (hi : i ≤ n) (K : List Hu) (hc : i + K.length ≤ c) :
    ∃ cur, w.heap[g]? = some (.cells cur 43 (0, 0)) ∧ i * 5 + (flatU K).length ≤ cur.size ∧
      OwnU (w.setRow g (cur.toList.take (i * 5) ++ flatU K ++ cur.toList.drop (i * 5 + (flatU K).length)).toArray) lo (.slice (some ⟨g, 0, none⟩) (max n (i + K.length)) c) (H.take i ++ K ++ H.drop (i + K.length)) := by
  obtain ⟨h0, h1⟩ := h
  rcases h1 with ⟨hv, _⟩ | ⟨g', cap, cur, hv, hb, hg, hnc, hcm, hcs, ht⟩
  · cases hv
  · injection hv with q1 q2 q3
    injection q1 with q1
    injection q1 with q1
    subst q1 q3
    have hHn : H.length = n := q2.symm
    have ht' : cur.toList.take (H.length * 5) = flatU H := ht
    have hfl : (flatU K).length = K.length * 5 := flatU_len K
    have hcl : cur.toList.length = c * 5 := by rw [Array.length_toList, hcs]
    refine ⟨cur, hg, by rw [hfl, hcs]; omega, ?_⟩
    have hlen : (H.take i ++ K ++ H.drop (i + K.length)).length = max n (i + K.length) := by
      simp only [List.length_append, List.length_take, List.length_drop]; omega
    refine ⟨by rw [flatU_len], .inr ⟨g, c, _, by rw [hlen], hb, setRow_heap w g cur _ _ _ hg, by rw [hlen]; omega, hcm, ?_, ?_⟩⟩
    · rw [List.size_toArray]
      simp only [List.length_append, List.length_take, List.length_drop]
      omega
    · rw [hlen]
      have hA : cur.toList.take (i * 5) = flatU (H.take i) := by
        rw [← flatU_take H i (by omega), ← ht, List.take_take, Nat.min_eq_left (by omega)]
      have hAl : (flatU (H.take i)).length = i * 5 := by rw [flatU_len, List.length_take]; omega
      show (cur.toList.take (i * 5) ++ flatU K ++ cur.toList.drop (i * 5 + (flatU K).length)).take _ = _
      have hB : (flatU (H.take i) ++ flatU K).length = (i + K.length) * 5 := by rw [List.length_append, hAl, hfl]; omega
      rw [hA, flatU_app, flatU_app, List.take_append, List.take_of_length_le (by rw [hB]; omega), hB, hfl, show i * 5 + K.length * 5 = (i + K.length) * 5 by omega, ← List.drop_take]
      congr 1
      rcases Nat.le_total (i + K.length) n with hle | hle
      · rw [Nat.max_eq_left hle, show n * 5 = H.length * 5 by rw [hHn], ht', flatU_drop H _ (by omega)]
      · rw [Nat.max_eq_right hle, List.drop_eq_nil_of_le (by rw [List.length_take]; omega), List.drop_eq_nil_of_le (by omega)]; rfl

/-- what is known behind copy -/
def Copied (w : World) (lo g n c i : Nat) (H K : List Hu) (w' : World) : Prop :=
  OwnU w' lo (.slice (some ⟨g, 0, none⟩) (max n (i + K.length)) c) (H.take i ++ K ++ H.drop (i + K.length)) ∧ (∀ b, b ≠ g → w'.heap[b]? = w.heap[b]?) ∧ w'.heap.size = w.heap.size ∧ ∀ (B : Nat) (w0 : World), B ≤ g → Below B w0 w → Below B w0 w'
theorem copy_runs {w : World} {lo g n c : Nat} {H : List Hu} (hown : OwnU w lo (.slice (some ⟨g, 0, none⟩) n c) H) (i dLen dCap : Nat) (ad : Addr) (sLen sCap : Nat) (K : List Hu) (hK : K.length = Nat.min sLen dLen)
    (hsrc : ∀ j v, (flatU K)[j]? = some v → w.cell? (ad.add j) = some v) (hi : i ≤ n) (hc : i + K.length ≤ c) (ty : TypeId) :
    ∃ w', (Builtin.copy_ #[36, 36] ty #[.slice (some ⟨g, i * 5, none⟩) dLen dCap, .slice (some ad) sLen sCap]).run Try.prog w = .ok (goInt (Nat.min sLen dLen)) w' ∧ Copied w lo g n c i H K w' := by
  obtain ⟨cur, hg, hfit, ho⟩ := hown.copy i hi K hc
  obtain ⟨i0, hi0, hz0, hz1, hz2⟩ := info_parts pairI
  refine ⟨_, run_copy_z (P := Try.prog) w _ _ ty 43 5 g (i * 5) dLen dCap ad sLen sCap cur _ (flatU K) Try.underlying36 (by rw [hi0]; simp [hz1]) hg (by rw [flatU_len, hK]) hsrc hfit (hu_one K), ho, fun b hb => setRow_other w g b _ hb, by simp [World.setRow], fun B w0 hB h => below_setRow h hB _⟩
theorem wpList_copy_pairs {w : World} {ops : Array Oper} {rest : List Oper} {o : Oper} {a : Act} {Q : Exit → Act → World → Prop} (hgd : o.guard = none) (d s : Operand)
    (ho : o.op = .call { callee := .builtin .copy, args := #[d, s], argTypes := #[36, 36] })
    (lo g n c : Nat) (H : List Hu) (hown : OwnU w lo (.slice (some ⟨g, 0, none⟩) n c) H) (i dLen dCap : Nat) (hd : a.eval d = .slice (some ⟨g, i * 5, none⟩) dLen dCap) (ad : Addr) (sLen sCap : Nat) (hs : a.eval s = .slice (some ad) sLen sCap)
    (K : List Hu) (hK : K.length = Nat.min sLen dLen) (hsrc : ∀ j v, (flatU K)[j]? = some v → w.cell? (ad.add j) = some v) (hi : i ≤ n) (hc : i + K.length ≤ c)
    (h : ∀ w', Hid (Copied w lo g n c i H K w') → wpList Try.prog ops Q rest (a.put o.dst (goInt (Nat.min sLen dLen))) w') : wpList Try.prog ops Q (o :: rest) a w := by
  refine wpList_plain hgd fun K' hK' => ?_
  obtain ⟨w', hrun, hC⟩ := copy_runs hown i dLen dCap ad sLen sCap K hK hsrc hi hc o.type
  unfold Oper.wp
  simp [execOp, ho, resolve, invoke, builtin, hd, hs, hrun, Result.andThen]
  exact hK' _ _ (h w' (Lib.hid hC))
theorem step_copy_pairs {w : World} {ops : Array Oper} {o : Oper} {a : Act} {KK : Act → World → Prop} {Q : Exit → Act → World → Prop} {E : Prop} (hgd : o.guard = none) (d s : Operand)
    (ho : o.op = .call { callee := .builtin .copy, args := #[d, s], argTypes := #[36, 36] })
    (lo g n c : Nat) (H : List Hu) (hown : OwnU w lo (.slice (some ⟨g, 0, none⟩) n c) H) (i dLen dCap : Nat) (hd : a.eval d = .slice (some ⟨g, i * 5, none⟩) dLen dCap) (ad : Addr) (sLen sCap : Nat) (hs : a.eval s = .slice (some ad) sLen sCap)
    (K : List Hu) (hK : K.length = Nat.min sLen dLen) (hsrc : ∀ j v, (flatU K)[j]? = some v → w.cell? (ad.add j) = some v) (hi : i ≤ n) (hc : i + K.length ≤ c)
    (h : ∀ w', Hid (Copied w lo g n c i H K w') → KK (a.put o.dst (goInt (Nat.min sLen dLen))) w') : if Region.wanted o (yielded ops a.tmps) = true then Oper.wp Try.prog o a w KK Q else E := by
  have hw : Region.wanted o (yielded ops a.tmps) = true := by simp [Region.wanted, hgd]
  rw [if_pos hw]
  obtain ⟨w', hrun, hC⟩ := copy_runs hown i dLen dCap ad sLen sCap K hK hsrc hi hc o.type
  unfold Oper.wp
  simp [execOp, ho, resolve, invoke, builtin, hd, hs, hrun, Result.andThen]
  exact h w' (Lib.hid hC)
end Go.Proofs.Ytnodcpifbcabmaa.U
namespace Go.Proofs.Ytnodcpifbcabmaa.U
open Go.RowKit L T C B Mt
set_option linter.unusedVariables false
set_option linter.unusedSimpArgs false

/-- two lists, place by place -/
def AllU (R : Hu → Pr → Prop) (H : List Hu) (Y : List Pr) : Prop := H.length = Y.length ∧ ∀ (i : Nat) (h : Hu) (p : Pr), H[i]? = some h → Y[i]? = some p → R h p
theorem AllU.app {R : Hu → Pr → Prop} {H H' : List Hu} {Y Y' : List Pr} (h : AllU R H Y) (h' : AllU R H' Y') : AllU R (H ++ H') (Y ++ Y') := by
  refine ⟨by rw [List.length_append, List.length_append, h.1, h'.1], fun i a p e1 e2 => ?_⟩
  by_cases hi : i < H.length
  · rw [List.getElem?_append_left hi] at e1
    rw [List.getElem?_append_left (by rw [← h.1]; exact hi)] at e2
    exact h.2 i a p e1 e2
  · rw [List.getElem?_append_right (by omega)] at e1
    rw [List.getElem?_append_right (by rw [← h.1]; omega), ← h.1] at e2
    exact h'.2 _ a p e1 e2
theorem AllU.take {R : Hu → Pr → Prop} {H : List Hu} {Y : List Pr} (h : AllU R H Y) (k : Nat) : AllU R (H.take k) (Y.take k) := by
  refine ⟨by rw [List.length_take, List.length_take, h.1], fun i a p e1 e2 => ?_⟩
  rw [List.getElem?_take] at e1 e2
  split at e1
  · exact h.2 i a p e1 (by simpa [*] using e2)
  · cases e1
theorem AllU.drop {R : Hu → Pr → Prop} {H : List Hu} {Y : List Pr} (h : AllU R H Y) (k : Nat) : AllU R (H.drop k) (Y.drop k) := by
  refine ⟨by rw [List.length_drop, List.length_drop, h.1], fun i a p e1 e2 => ?_⟩
  rw [List.getElem?_drop] at e1 e2
  exact h.2 _ a p e1 e2
theorem AllU.one {R : Hu → Pr → Prop} {h : Hu} {p : Pr} (r : R h p) : AllU R [h] [p] := ⟨rfl, fun i a q e1 e2 => by
  have hi : i = 0 := by have := (List.getElem?_eq_some_iff.1 e1).1; simpa using this
  subst hi
  injection e1 with e1
  injection e2 with e2
  subst e1 e2
  exact r⟩
theorem AllU.mono {R S : Hu → Pr → Prop} {H : List Hu} {Y : List Pr} (h : AllU R H Y) (hr : ∀ a p, R a p → S a p) : AllU S H Y := ⟨h.1, fun i a p e1 e2 => hr a p (h.2 i a p e1 e2)⟩
/-- l with x put in at place i -/
def insP (l : List Pr) (i : Nat) (x : Pr) : List Pr := l.take i ++ x :: l.drop i
def InsR (w : World) (lo n i : Nat) (Y : List Pr) (x : Pr) (e : Ending) (w' : World) : Prop := ∃ A' C', e = .returned (.slice A' (n + 1) C') ∧ OwnP w' lo (.slice A' (n + 1) C') (insP Y i x) ∧ Below lo w w'
set_option maxRecDepth 100000 in
set_option maxHeartbeats 8000000 in
theorem insU_end (Y : List Pr) (x : Pr) (lo z n c : Nat) (A : Option Addr) (w : World) (hO : OwnP w lo (.slice A n c) Y) (hn : n = Y.length) (hm : n ≤ 1000000) (hlw : lo ≤ w.heap.size)
    (hX : UP (fun q => q < w.heap.size ∧ (Value.slice A n c).ownBlock ≠ some q) w (some ⟨z, 0, none⟩) 1 1 [x]) :
    Calls Try.prog 62 #[.slice A n c, .int .i64 (n : Int), .slice (some ⟨z, 0, none⟩) 1 1] w fun e w' => InsR w lo n n Y x e w' := by
  have HO := Lib.hid hO
  have HX := Lib.hid hX
  have HN := Lib.hid hn
  have HI : Hid (Y ++ [x] = insP Y n x) := Lib.hid (by unfold insP; rw [hn, List.take_length, List.drop_length])
  have hnc : n ≤ c ∧ (A = none → c = 0) := by
    obtain ⟨A0, c0, hv, q1, -, q2, -⟩ := hO.slice
    injection hv with v1 v2 v3
    subst v1
    exact ⟨by omega, fun h => by rw [v3]; exact q2 h⟩
  obtain ⟨hnc, hA0⟩ := hnc
  have hA1 : A = none ∨ ∃ g, A = some ⟨g, 0, none⟩ := by
    obtain ⟨hs, h1, -⟩ := hO
    rcases h1.2 with ⟨hv, _⟩ | ⟨g', cap, cur, hv, -⟩
    · injection hv with v1; exact .inl v1
    · injection hv with v1; exact .inr ⟨_, v1⟩
  have hn0 : 0 ≤ (n : Int) := by omega
  have hle : (n : Int) ≤ (n : Int) := by omega
  have HW := Lib.hid hlw
  clear hO hX hn
  rcases hA1 with rfl | ⟨g, rfl⟩
  · have hc0 : c = 0 := hA0 rfl
    subst hc0
    have hn00 : n = 0 := by omega
    subst hn00
    clear hnc hA0
    go_enter Try.func62, Try.ntmps62
    go_wp2_with (at_builtin; ((refine app_pairs rfl (.tmp 23) (.tmp 24) rfl lo _ Y rfl HO.out (fun q => q < w.heap.size ∧ (Value.slice none 0 0).ownBlock ≠ some q) (fun q hq => hq) _ _ _ [x] rfl HX.out (by have := HN.out; simp; omega) HW.out ?_); intro v1 w1 ho1 hg1; have hb1 : Below lo w w1 := (Below.refl _ _).grown hg1 HW.out (fun q hq => (HO.out.lt q hq).1); obtain ⟨A1, C1, hv1, -⟩ := ho1.slice; rw [show (Y ++ [x]).length = 0 + 1 by rw [List.length_append, ← HN.out]; rfl] at hv1; subst hv1; rw [HI.out] at ho1; have HO1 := Lib.hid ho1; clear ho1 hg1))
    go_ret
    exact ⟨_, _, rfl, HO1.out, hb1⟩
  · go_enter Try.func62, Try.ntmps62
    go_wp2_with (at_builtin; ((refine app_pairs rfl (.tmp 23) (.tmp 24) rfl lo _ Y rfl HO.out (fun q => q < w.heap.size ∧ (Value.slice (some ⟨g, 0, none⟩) n c).ownBlock ≠ some q) (fun q hq => hq) _ _ _ [x] rfl HX.out (by have := HN.out; simp; omega) HW.out ?_); intro v1 w1 ho1 hg1; have hb1 : Below lo w w1 := (Below.refl _ _).grown hg1 HW.out (fun q hq => (HO.out.lt q hq).1); obtain ⟨A1, C1, hv1, -⟩ := ho1.slice; rw [show (Y ++ [x]).length = n + 1 by rw [List.length_append, ← HN.out]; rfl] at hv1; subst hv1; rw [HI.out] at ho1; have HO1 := Lib.hid ho1; clear ho1 hg1))
    all_goals go_ret
    all_goals exact ⟨_, _, rfl, HO1.out, hb1⟩
end Go.Proofs.Ytnodcpifbcabmaa.U
namespace Go.Proofs.Ytnodcpifbcabmaa.U
open Go.RowKit L T C B Mt
set_option linter.unusedVariables false
set_option linter.unusedSimpArgs false

theorem sizeU (w : World) : (Go.sizeOf 43).run Try.prog w = .ok 5 w := by kernel_rfl
theorem apart_no (w : World) (z g o lb cb : Nat) (hne : z ≠ g) (cz cg : Array Value) (tg : TypeId) (hz : w.heap[z]? = some (.cells cz 43 (0, 0))) (hg : w.heap[g]? = some (.cells cg tg (0, 0))) (hcg : cg.size ≠ 0) :
    (callFunc 100 #[.slice (some ⟨z, 0, none⟩) 1 1, .slice (some ⟨g, o, none⟩) lb cb]).run Try.prog w = .ok (.value (.bool false)) w := by
  rw [run_callFunc_extern Try.func100 (by kernel_rfl) (by kernel_rfl) (by kernel_rfl) (e := Extern.SlicesOverlaps.overlaps #[36, 36] #[4]) (by kernel_rfl),
    Lib.run_overlaps_apart w 36 4 43 Try.underlying36 5 sizeU ⟨z, 0, none⟩ ⟨g, o, none⟩ 1 1 lb cb hne 43 tg cz.size cg.size (by simp [World.shape?, hz]) (by simp [World.shape?, hg]) hcg (frozen_of_row w z 0 _ _ hz) (frozen_of_row w z _ _ _ hz)]
  rfl
theorem flatU_row {w : World} {lo g n c : Nat} {H : List Hu} (h : OwnU w lo (.slice (some ⟨g, 0, none⟩) n c) H) (i : Nat) : ∀ j v, (flatU (H.drop i))[j]? = some v → w.cell? ⟨g, i * 5 + j, none⟩ = some v := fun j v hj => by
  obtain ⟨cur, hg, hl, ht⟩ := h.row
  by_cases hi : i ≤ H.length
  · rw [← flatU_drop H i hi, List.getElem?_drop] at hj
    rw [cell_of_row w g _ _ _ _ hg, ← hj, ← ht]
    have hlt : i * 5 + j < (flatU H).length := (List.getElem?_eq_some_iff.1 hj).1
    rw [flatU_len] at hlt
    rw [List.getElem?_take_of_lt hlt, Array.getElem?_toList]
  · rw [List.drop_eq_nil_of_le (by omega)] at hj
    cases hj
theorem flatU_box {w : World} {z : Nat} {q : ByteArray} {o : Int} {s : ByteArray} {u : Int} {a : Option Addr} {n c : Nat} (h : UBox w z q o s u a n c) : ∀ j v, (flatU [⟨q, o, s, u, a, n, c⟩])[j]? = some v → w.cell? ⟨z, 0 + j, none⟩ = some v := fun j v hj => by
  rw [Nat.zero_add, Blk.cell h j, ← hj]
  show #[Value.string q, .int .i64 o, .string s, .int .i64 u, .slice a n c][j]? = [Value.string q, .int .i64 o, .string s, .int .i64 u, .slice a n c][j]?
  simp
set_option maxRecDepth 100000 in
set_option maxHeartbeats 16000000 in
theorem insU_room (Y : List Pr) (x : Pr) (lo z g n c i : Nat) (xa : Option Addr) (xn xc : Nat) (w : World) (hO : OwnP w lo (.slice (some ⟨g, 0, none⟩) n c) Y) (hn : n = Y.length) (hm : n ≤ 1000000) (hi : i < n) (hroom : n + 1 ≤ c) (hlg : lo ≤ g) (hzg : z ≠ g)
    (hB : UBox w z x.nm (opT x.t) (nameT x.t) (numT x.t) xa xn xc) (hA : ArP (fun q => q < w.heap.size ∧ q ≠ g) w x.t xa xn xc) :
    Calls Try.prog 62 #[.slice (some ⟨g, 0, none⟩) n c, .int .i64 (i : Int), .slice (some ⟨z, 0, none⟩) 1 1] w fun e w' => InsR w lo n i Y x e w' := by
  obtain ⟨H, hU, hHY, hHu⟩ := hO
  have hHn : H.length = n := hHY.trans hn.symm
  have hc63 : c ≤ 9223372036854775807 := by
    rcases hU.2 with ⟨hv, _⟩ | ⟨g', cap, cur, hv, hb, hg, hnc, hcm, hcs, ht⟩
    · cases hv
    · injection hv with q1 q2 q3; unfold maxLen at hcm; omega
  obtain ⟨curG, hcG, hcl, -⟩ := hU.row
  have hov := fun (lb cb : Nat) => apart_no w z g ((i + 1) * 5) lb cb hzg _ curG _ hB hcG (by omega)
  have hUd : OwnU w.drew lo (.slice (some ⟨g, 0, none⟩) n c) H := hU
  have HUd := Lib.hid hUd
  have HBz := Lib.hid hB
  have HSrc := Lib.hid (show ∀ j v, (flatU (H.drop i))[j]? = some v → w.drew.cell? ((⟨g, i * 5, none⟩ : Addr).add j) = some v from fun j v hj => by rw [Addr.add_lit]; exact flatU_row hUd i j v hj)
  have HK := Lib.hid (show (H.drop i).length = Nat.min (n + 1 - i) (n + 1 - (i + 1)) from by rw [List.length_drop, hHn]; simp only [Nat.min_def]; split <;> omega)
  obtain ⟨hx, hxe⟩ : ∃ hx : Hu, (⟨x.nm, opT x.t, nameT x.t, numT x.t, xa, xn, xc⟩ : Hu) = hx := ⟨_, rfl⟩
  have HSx := Lib.hid (show ∀ (w' : World), w'.heap[z]? = w.heap[z]? → ∀ j v, (flatU [hx])[j]? = some v → w'.cell? ((⟨z, 0, none⟩ : Addr).add j) = some v from fun w' he j v hj => by rw [Addr.add_lit]; rw [← hxe] at hj; exact flatU_box (w := w') (by unfold UBox Blk at hB ⊢; rw [he]; exact hB) j v hj)
  have H1 := Lib.hid (show ∀ w4, Copied w.drew lo g n c (i + 1) H (H.drop i) w4 → OwnU w4 lo (.slice (some ⟨g, 0, none⟩) (n + 1) c) (H.take (i + 1) ++ H.drop i) from fun w4 h => by
    have h1 := h.1
    rw [List.length_drop, hHn, show i + 1 + (n - i) = n + 1 by omega, Nat.max_eq_right (by omega), (show H.drop (n + 1) = [] from List.drop_eq_nil_of_le (by omega)), List.append_nil] at h1
    exact h1)
  have H2 := Lib.hid (show ∀ w4 w5, Copied w.drew lo g n c (i + 1) H (H.drop i) w4 → Copied w4 lo g (n + 1) c i (H.take (i + 1) ++ H.drop i) [hx] w5 → InsR w lo n i Y x (.returned (.slice (some ⟨g, 0, none⟩) (n + 1) c)) w5 from fun w4 w5 h4 h5 => by
    have e1 := h5.1
    have t1 : (H.take (i + 1) ++ H.drop i).take i = H.take i := by rw [List.take_append_of_le_length (by rw [List.length_take]; omega), List.take_take, Nat.min_eq_left (by omega)]
    have t2 : (H.take (i + 1) ++ H.drop i).drop (i + 1) = H.drop i := List.drop_left' (by rw [List.length_take]; omega)
    rw [show i + [hx].length = i + 1 from rfl, Nat.max_eq_left (by omega), t1, t2] at e1
    have hbk : ∀ b, b ≠ g → w5.heap[b]? = w.heap[b]? := fun b hb => (h5.2.1 b hb).trans (h4.2.1 b hb)
    have hsz : w5.heap.size = w.heap.size := h5.2.2.1.trans h4.2.2.1
    refine ⟨_, _, rfl, ?_, h5.2.2.2 lo w hlg (h4.2.2.2 lo w hlg (Below.refl _ _).drew)⟩
    have hall : AllU (fun h p => HuP (fun b => b < w5.heap.size ∧ (Value.slice (some ⟨g, 0, none⟩) (n + 1) c).ownBlock ≠ some b) w5 h p) H Y := ⟨hHY, fun k h p a1 a2 => (hHu k h p a1 a2).to (fun b hb => hbk b (fun e => hb.2 (by rw [e]; rfl))) (fun b hb => ⟨by rw [hsz]; exact hb.1, hb.2⟩)⟩
    have hxx : HuP (fun b => b < w5.heap.size ∧ (Value.slice (some ⟨g, 0, none⟩) (n + 1) c).ownBlock ≠ some b) w5 hx x := by
      rw [← hxe]
      exact ⟨⟨rfl, rfl, rfl, rfl⟩, ArP.to (fun b hb => hbk b hb.2) (fun b hb => ⟨by rw [hsz]; exact hb.1, fun e => hb.2 (by simpa [Value.ownBlock] using e.symm)⟩) _ hA⟩
    have hfin := (hall.take i).app ((AllU.one hxx).app (hall.drop i))
    rw [← List.append_assoc] at hfin
    refine ⟨_, e1, ?_, ?_⟩
    · rw [hfin.1]; rfl
    · exact fun k h p a1 a2 => hfin.2 k h p a1 a2)
  have hn0 : 0 ≤ (i : Int) := by omega
  have hle : (i : Int) ≤ (n : Int) := by omega
  have hne : ((i : Int) == (n : Int)) = false := beq_eq_false_iff_ne.2 (by omega)
  have hgt : decide ((n : Int) + 1 > (c : Int)) = false := decide_eq_false (by omega)
  have hgt2 : decide ((c : Int) < (n : Int) + 1) = false := decide_eq_false (by omega)
  have hw1 : IntKind.i64.wrap ((n : Int) + 1) = (n : Int) + 1 := by rw [IntKind.wrap_i64]; omega
  have hw2 : IntKind.i64.wrap ((i : Int) + 1) = (i : Int) + 1 := by rw [IntKind.wrap_i64]; omega
  have hb1 : (0 : Int) ≤ (i : Int) + 1 := by omega
  have hb2 : ¬ (c = i + 1) := by omega
  have hb3 : (i : Int) ≤ (n : Int) + 1 := by omega
  have hb4 : ¬ (c = i) := by omega
  have hb5 : (i : Int) + 1 ≤ (n : Int) + 1 := by omega
  have hb6 : (n : Int) + 1 ≤ (c : Int) := by omega
  have hb7 : (0 : Int) ≤ (n : Int) + 1 := by omega
  have Hi := Lib.hid hi
  have Hr := Lib.hid hroom
  have Hzg := Lib.hid hzg
  clear hU hHY hHu hHn hcG hcl hUd hB hA hn hm hxe hi
  go_enter Try.func62, Try.ntmps62
  go_wp2_with (simp only [hov])
  go_region_law (refine step_copy_pairs rfl (.tmp 73) (.tmp 76) rfl lo g n c H HUd.out (i + 1) (n + 1 - (i + 1)) _ (by simp [Act.eval, Act.put]; try rfl) ⟨g, i * 5, none⟩ (n + 1 - i) _ (by simp [Act.eval, Act.put]; try rfl) (H.drop i) HK.out HSrc.out (by have := Hi.out; omega) (by have := HK.out; have := Hi.out; have := Hr.out; rw [HK.out]; simp only [Nat.min_def]; split <;> omega) ?_; intro w4 hC4)
  go_wp2_with ((refine wpList_copy_pairs rfl (.tmp 80) (.tmp 81) rfl lo g (n + 1) c (H.take (i + 1) ++ H.drop i) (H1.out w4 hC4.out) i _ _ rfl ⟨z, 0, none⟩ _ _ rfl [hx] (by have := Hi.out; rw [List.length_singleton]; simp only [Nat.min_def]; split <;> omega) (HSx.out w4 (hC4.out.2.1 z Hzg.out)) (by have := Hi.out; omega) (by have := Hi.out; have := Hr.out; rw [List.length_singleton]; omega) ?_); intro w5 hC5; have hFin := Lib.hid (H2.out w4 w5 hC4.out hC5.out))
  all_goals go_ret
  all_goals exact hFin.out
end Go.Proofs.Ytnodcpifbcabmaa.U
namespace Go.Proofs.Ytnodcpifbcabmaa.U
open Go.RowKit L T C B Mt
set_option linter.unusedVariables false
set_option linter.unusedSimpArgs false

theorem zero_flat (k : Nat) : (Builtin.zeroCells (Value.cells (.agg #[.string ⟨#[]⟩, .int .i64 0, .string ⟨#[]⟩, .int .i64 0, .slice none 0 0])) k).toList = flatU (List.replicate k Hu.zero) := by
  have hl : (Builtin.zeroCells (Value.cells (.agg #[.string ⟨#[]⟩, .int .i64 0, .string ⟨#[]⟩, .int .i64 0, .slice none 0 0])) k).toList.length = k * 5 := by simp [Builtin.zeroCells, Value.cells]
  have h := flatU_ext (hs := List.replicate k Hu.zero) (cs := (Builtin.zeroCells (Value.cells (.agg #[.string ⟨#[]⟩, .int .i64 0, .string ⟨#[]⟩, .int .i64 0, .slice none 0 0])) k).toList) (by rw [hl, List.length_replicate]; exact Nat.le_refl _) (fun q hq j hj => by
    rw [List.length_replicate] at hq
    rw [List.getElem_replicate, Array.getElem?_toList]
    unfold Builtin.zeroCells
    show ((Array.range (k * 5)).map _)[q * 5 + j]? = _
    rw [Array.getElem?_map, Array.getElem?_range, if_pos (by omega)]
    have hm : (q * 5 + j) % 5 = j := by omega
    have hc : j = 0 ∨ j = 1 ∨ j = 2 ∨ j = 3 ∨ j = 4 := by omega
    simp only [Option.map_some]
    show some (#[Value.string ⟨#[]⟩, .int .i64 0, .string ⟨#[]⟩, .int .i64 0, .slice none 0 0][(q * 5 + j) % 5]!) = _
    rw [hm]
    rcases hc with rfl | rfl | rfl | rfl | rfl <;> rfl)
  rw [List.length_replicate, List.take_of_length_le (by rw [hl]; exact Nat.le_refl _)] at h
  exact h
theorem grow_pairs (w : World) (lo g n c i : Nat) (H : List Hu) (hU : OwnU w lo (.slice (some ⟨g, 0, none⟩) n c) H) (hH : H.length = n) (hi : i < n) (hroom : c < n + 1) (hnc : n ≤ c) (hn : n ≤ 1000000) :
    ∃ w' C', (∀ ty, (Builtin.append_ #[36, 3] ty #[.slice (some ⟨g, 0, none⟩) i c, .int .i64 ((n : Int) + 1 - (i : Int))]).run Try.prog w = .ok (.slice (some ⟨w.heap.size, 0, none⟩) (n + 1) C') w') ∧ n + 1 ≤ C' ∧ C' ≤ maxLen ∧ Below w.heap.size w w' ∧ OwnU w' w.heap.size (.slice (some ⟨w.heap.size, 0, none⟩) (n + 1) C') (H.take i ++ List.replicate (n + 1 - i) Hu.zero) := by
  obtain ⟨i0, hi0, hz0, hz1, hz2⟩ := info_parts pairI
  have hlT : (H.take i).length = i := by rw [List.length_take]; omega
  have hfl : (flatU (H.take i)).length = i * 5 := by rw [flatU_len, hlT]
  have hold : (Builtin.firstCells i0.size i (.slice (some ⟨g, 0, none⟩) i c)).run Try.prog w.drew = .ok (flatU (H.take i)).toArray w.drew := by
    rw [hz1]
    have hl := run_loadCells_list (P := Try.prog) w.drew (⟨g, 0, none⟩ : Addr) (flatU (H.take i)) (fun j v hj => by
      rw [Addr.add_lit]
      have hlt : j < i * 5 := by have := (List.getElem?_eq_some_iff.1 hj).1; omega
      rw [← flatU_take H i (by omega), List.getElem?_take_of_lt hlt] at hj
      have := flatU_row (w := w) hU 0 j v (by rw [List.drop_zero]; exact hj)
      rw [Nat.zero_mul] at this
      exact this)
    rw [hfl] at hl
    exact hl
  have hkk : (n : Int) + 1 - (i : Int) = ((n + 1 - i : Nat) : Int) := by omega
  have hik : i + (n + 1 - i) = n + 1 := by omega
  have h := fun ty => Lib.run_append_grow_zeros (P := Try.prog) w 36 3 ty 43 i0 _ .i64 .i64 Try.underlying36 Try.underlying3 hi0 hz0 (some ⟨g, 0, none⟩) i c (flatU (H.take i)) hold (n + 1 - i) (by omega) (by rw [hz1]; omega) (by omega) (by omega) (by rw [hz2]; omega) (by rw [hz2, hik]; exact growslice_fits hroom (by omega))
  rw [hik] at h
  have hG1 : n + 1 ≤ grownCap w (n + 1) c 43 := grownCap_ge w _ _ _
  have hG2 : grownCap w (n + 1) c 43 ≤ maxLen := grownCap_le_maxLen w _ _ _ (by unfold maxLen; omega)
  generalize grownCap w (n + 1) c 43 = G at *
  refine ⟨_, G, fun ty => by rw [hkk]; exact h ty, hG1, hG2, bel_alloc (Below.refl _ _).drew _, by rw [flatU_len], .inr ⟨w.heap.size, G, _, by rw [List.length_append, hlT, List.length_replicate, hik], Nat.le_refl _, heap_alloc_new w.drew _, ?_, hG2, ?_, ?_⟩⟩
  · rw [List.length_append, hlT, List.length_replicate]; omega
  · simp only [Array.size_append, List.size_toArray, hfl]
    rw [show ∀ k, (Builtin.zeroCells (Value.cells (.agg #[.string ⟨#[]⟩, .int .i64 0, .string ⟨#[]⟩, .int .i64 0, .slice none 0 0])) k).size = k * 5 from fun k => by simp [Builtin.zeroCells, Value.cells], show ∀ k, (Builtin.zeroCells (Value.cells (.agg #[.string ⟨#[]⟩, .int .i64 0, .string ⟨#[]⟩, .int .i64 0, .slice none 0 0])) k).size = k * 5 from fun k => by simp [Builtin.zeroCells, Value.cells]]
    omega
  · rw [List.length_append, hlT, List.length_replicate, hik, Array.toList_append, Array.toList_append, zero_flat, List.toList_toArray, ← flatU_app]
    exact List.take_left' (by rw [flatU_len, List.length_append, hlT, List.length_replicate, hik])
theorem rowU_flat {w : World} {g : Nat} {H : List Hu} (h : RowU w g H) (i : Nat) : ∀ j v, (flatU (H.drop i))[j]? = some v → w.cell? ⟨g, i * 5 + j, none⟩ = some v := fun j v hj => by
  obtain ⟨cur, hg, hl, ht⟩ := h
  by_cases hi : i ≤ H.length
  · rw [← flatU_drop H i hi, List.getElem?_drop] at hj
    rw [cell_of_row w g _ _ _ _ hg, ← hj, ← ht]
    have hlt : i * 5 + j < (flatU H).length := (List.getElem?_eq_some_iff.1 hj).1
    rw [flatU_len] at hlt
    rw [List.getElem?_take_of_lt hlt, Array.getElem?_toList]
  · rw [List.drop_eq_nil_of_le (by omega)] at hj
    cases hj
set_option maxRecDepth 100000 in
set_option maxHeartbeats 16000000 in
theorem insU_grow (Y : List Pr) (x : Pr) (lo z g n c i : Nat) (xa : Option Addr) (xn xc : Nat) (w : World) (hO : OwnP w lo (.slice (some ⟨g, 0, none⟩) n c) Y) (hn : n = Y.length) (hm : n ≤ 1000000) (hi : i < n) (hroom : c < n + 1) (hlw : lo ≤ w.heap.size)
    (hB : UBox w z x.nm (opT x.t) (nameT x.t) (numT x.t) xa xn xc) (hA : ArP (fun q => q < w.heap.size) w x.t xa xn xc) :
    Calls Try.prog 62 #[.slice (some ⟨g, 0, none⟩) n c, .int .i64 (i : Int), .slice (some ⟨z, 0, none⟩) 1 1] w fun e w' => InsR w lo n i Y x e w' := by
  obtain ⟨H, hU, hHY, hHu⟩ := hO
  have hHn : H.length = n := hHY.trans hn.symm
  have hnc : n ≤ c := by
    rcases hU.2 with ⟨hv, _⟩ | ⟨g', cap, cur, hv, hb, hg, hnc, hcm, hcs, ht⟩
    · cases hv
    · injection hv with q1 q2 q3; omega
  have hgl : g < w.heap.size := hU.row.lt
  have hzl : z < w.heap.size := Blk.lt hB
  obtain ⟨W1, G, hrz, hG1, hG2, hb1, hU1⟩ := grow_pairs w lo g n c i H hU hHn hi hroom hnc hm
  have hG63 : G ≤ 9223372036854775807 := by unfold maxLen at hG2; omega
  obtain ⟨hx, hxe⟩ : ∃ hx : Hu, (⟨x.nm, opT x.t, nameT x.t, numT x.t, xa, xn, xc⟩ : Hu) = hx := ⟨_, rfl⟩
  obtain ⟨H2, hH2⟩ : ∃ H2, H.take i ++ List.replicate (n + 1 - i) Hu.zero = H2 := ⟨_, rfl⟩
  rw [hH2] at hU1
  obtain ⟨H3, hH3⟩ : ∃ H3, H2.take i ++ [hx] ++ H2.drop (i + 1) = H3 := ⟨_, rfl⟩
  have HU1 := Lib.hid hU1
  have HSx := Lib.hid (show ∀ j v, (flatU [hx])[j]? = some v → W1.cell? ((⟨z, 0, none⟩ : Addr).add j) = some v from fun j v hj => by rw [Addr.add_lit]; rw [← hxe] at hj; exact flatU_box (Blk.below hB hb1) j v hj)
  have HSrc := Lib.hid (show ∀ w4, Copied W1 w.heap.size w.heap.size (n + 1) G i H2 [hx] w4 → ∀ j v, (flatU (H.drop i))[j]? = some v → w4.drew.cell? ((⟨g, i * 5, none⟩ : Addr).add j) = some v from fun w4 h4 j v hj => by
    rw [Addr.add_lit]
    exact rowU_flat (w := w4) (hU.row.of_block ((h4.2.1 g (by omega)).trans (hb1.block g hgl))) i j v hj)
  have HK := Lib.hid (show (H.drop i).length = Nat.min (n - i) (n + 1 - (i + 1)) from by rw [List.length_drop, hHn]; simp only [Nat.min_def]; split <;> omega)
  have HU2 := Lib.hid (show ∀ w4, Copied W1 w.heap.size w.heap.size (n + 1) G i H2 [hx] w4 → OwnU w4.drew w.heap.size (.slice (some ⟨w.heap.size, 0, none⟩) (n + 1) G) H3 from fun w4 h => by
    have h1 := h.1
    rw [show i + [hx].length = i + 1 from rfl, Nat.max_eq_left (by omega), hH3] at h1
    exact h1)
  have HFin := Lib.hid (show ∀ w4 w5, Copied W1 w.heap.size w.heap.size (n + 1) G i H2 [hx] w4 → Copied w4.drew w.heap.size w.heap.size (n + 1) G (i + 1) H3 (H.drop i) w5 → InsR w lo n i Y x (.returned (.slice (some ⟨w.heap.size, 0, none⟩) (n + 1) G)) w5 from fun w4 w5 h4 h5 => by
    have e1 := h5.1
    have hlT : (H.take i).length = i := by rw [List.length_take]; omega
    have t0 : H2.take i = H.take i := by rw [← hH2]; exact List.take_left' hlT
    have hl2 : H2.length = n + 1 := by rw [← hH2, List.length_append, hlT, List.length_replicate]; omega
    have hl3 : H3.length = n + 1 := by rw [← hH3, t0, List.length_append, List.length_append, hlT, List.length_drop, hl2, List.length_singleton]; omega
    have t1 : H3.take (i + 1) = H.take i ++ [hx] := by rw [← hH3, t0]; exact List.take_left' (by rw [List.length_append, hlT]; rfl)
    have t2 : H3.drop (n + 1) = [] := List.drop_eq_nil_of_le (by omega)
    rw [List.length_drop, hHn, show i + 1 + (n - i) = n + 1 by omega, Nat.max_self, t1, t2, List.append_nil] at e1
    have hb5 : Below w.heap.size w w5 := h5.2.2.2 w.heap.size w (Nat.le_refl _) (h4.2.2.2 w.heap.size w (Nat.le_refl _) hb1).drew
    have hto : ∀ b, b < w.heap.size → b < w5.heap.size ∧ (Value.slice (some ⟨w.heap.size, 0, none⟩) (n + 1) G).ownBlock ≠ some b := fun b hb => ⟨Nat.lt_of_lt_of_le hb hb5.size, fun e => absurd (show w.heap.size = b from by simpa [Value.ownBlock] using e) (by omega)⟩
    refine ⟨_, _, rfl, ?_, hb5.mono hlw⟩
    have hall : AllU (fun h p => HuP (fun b => b < w5.heap.size ∧ (Value.slice (some ⟨w.heap.size, 0, none⟩) (n + 1) G).ownBlock ≠ some b) w5 h p) H Y := ⟨hHY, fun k h p a1 a2 => (hHu k h p a1 a2).to (fun b hb => hb5.block b hb.1) (fun b hb => hto b hb.1)⟩
    have hxx : HuP (fun b => b < w5.heap.size ∧ (Value.slice (some ⟨w.heap.size, 0, none⟩) (n + 1) G).ownBlock ≠ some b) w5 hx x := by
      rw [← hxe]
      exact ⟨⟨rfl, rfl, rfl, rfl⟩, ArP.to (fun b hb => hb5.block b hb) (fun b hb => hto b hb) _ hA⟩
    have hfin := (hall.take i).app ((AllU.one hxx).app (hall.drop i))
    rw [← List.append_assoc] at hfin
    refine OwnP.base ⟨_, e1, ?_, ?_⟩ hlw
    · rw [hfin.1]; rfl
    · exact fun k h p a1 a2 => hfin.2 k h p a1 a2)
  have hn0 : 0 ≤ (i : Int) := by omega
  have hle : (i : Int) ≤ (n : Int) := by omega
  have hne : ((i : Int) == (n : Int)) = false := beq_eq_false_iff_ne.2 (by omega)
  have hz3 : (c : Int) < (n : Int) + 1 := by omega
  have hw1 : IntKind.i64.wrap ((n : Int) + 1) = (n : Int) + 1 := by rw [IntKind.wrap_i64]; omega
  have hw2 : IntKind.i64.wrap ((i : Int) + 1) = (i : Int) + 1 := by rw [IntKind.wrap_i64]; omega
  have hw3 : IntKind.i64.wrap ((n : Int) + 1 - (i : Int)) = (n : Int) + 1 - (i : Int) := by rw [IntKind.wrap_i64]; omega
  have hb1' : (0 : Int) ≤ (i : Int) + 1 := by omega
  have hb4 : ¬ (c = i) := by omega
  have hb3 : (i : Int) ≤ (n : Int) + 1 := by omega
  have hb5 : (i : Int) + 1 ≤ (n : Int) + 1 := by omega
  have hic : (i : Int) ≤ (c : Int) := by omega
  have hGi : ¬ (G = i) := by omega
  have hGim : ¬ (G = i + 1) := by omega
  have Hi := Lib.hid hi
  have HG1 := Lib.hid hG1
  clear hU hHY hHu hHn hB hA hn hm hxe hi hU1 hG1 hG2 hb1 hH2 hH3 hroom hgl hzl
  go_enter Try.func62, Try.ntmps62
  go_wp2_with (first
    | (at_builtin; refine Lib.wpList_append_run _ rfl _ _ _ _ rfl _ _ rfl rfl _ _ (hrz _) ?_)
    | ((refine wpList_copy_pairs rfl (.tmp 43) (.tmp 44) rfl w.heap.size w.heap.size (n + 1) G H2 HU1.out i _ _ rfl ⟨z, 0, none⟩ _ _ rfl [hx] (by have := Hi.out; rw [List.length_singleton]; simp only [Nat.min_def]; split <;> omega) HSx.out (by have := Hi.out; omega) (by have := Hi.out; have := HG1.out; rw [List.length_singleton]; omega) ?_); intro w4 hC4))
  go_region_law (refine step_copy_pairs rfl (.tmp 50) (.tmp 53) rfl w.heap.size w.heap.size (n + 1) G H3 (HU2.out w4 hC4.out) (i + 1) (n + 1 - (i + 1)) _ (by simp [Act.eval, Act.put]; try rfl) ⟨g, i * 5, none⟩ (n - i) _ (by simp [Act.eval, Act.put]; try rfl) (H.drop i) HK.out (HSrc.out w4 hC4.out) (by have := Hi.out; omega) (by have := HK.out; have := Hi.out; have := HG1.out; rw [HK.out]; simp only [Nat.min_def]; split <;> omega) ?_; intro w5 hC5; have hFin := Lib.hid (HFin.out w4 w5 hC4.out hC5.out))
  all_goals go_wp2
  all_goals go_ret
  all_goals exact hFin.out
end Go.Proofs.Ytnodcpifbcabmaa.U
namespace Go.Proofs.Ytnodcpifbcabmaa.U
open Go.RowKit L T C
set_option linter.unusedVariables false
set_option linter.unusedSimpArgs false

/-- the first place where f holds; the length, where it holds nowhere -/
def fiP (f : Pr → Bool) : List Pr → Nat
  | [] => 0
  | p :: l => if f p = true then 0 else fiP f l + 1
def posP (f : Pr → Bool) (l : List Pr) : Int := if fiP f l < l.length then (fiP f l : Int) else -1
theorem fiP_le (f : Pr → Bool) : ∀ l : List Pr, fiP f l ≤ l.length
  | [] => Nat.le_refl _
  | p :: l => by rw [fiP]; have := fiP_le f l; split <;> simp <;> omega
theorem fiP_step {f : Pr → Bool} {l : List Pr} {k : Nat} {p : Pr} (h : l[k]? = some p) : fiP f (l.drop k) = if f p = true then 0 else fiP f (l.drop (k + 1)) + 1 := by rw [drop_u h, fiP]
def eqF (s : ByteArray) (p : Pr) : Bool := p.nm.toList == s.toList
def gtF (s : ByteArray) (p : Pr) : Bool := !Go.Op.bytesLess p.nm.toList s.toList && !p.nm.toList == s.toList
theorem gtF_eq (s : ByteArray) (p : Pr) : gtF s p = decide (cmpN p.nm s = 1) := by
  unfold gtF
  rw [less_yes, same_yes]
  rcases linN.rng p.nm s with h | h | h <;> rw [h] <;> rfl

set_option maxRecDepth 100000 in
set_option maxHeartbeats 2000000 in
theorem clo_get (g : Nat) (s : ByteArray) (p : Pr) (a : Option Addr) (n c : Nat) (w : World) (hlt : g < w.heap.size) (hg : w.cell? ⟨g, 0, none⟩ = some (.string s)) :
    Calls Try.prog 57 #[.agg #[.string p.nm, .int .i64 (opT p.t), .string (nameT p.t), .int .i64 (numT p.t), .slice a n c], .pointer (some ⟨g, 0, none⟩)] w fun e w' => e = .returned (.bool (eqF s p)) ∧ Below w.heap.size w w' := by
  obtain ⟨W2, hW2, hB2, hs2, S2⟩ := ubox1 w p.nm (opT p.t) (nameT p.t) (numT p.t) a n c
  have g0 := (hB2.cell (p := ⟨g, 0, none⟩) hlt).trans hg
  obtain ⟨s0, s1, s2, s3, s4⟩ := S2.five
  unfold eqF
  clear hg S2
  generalize opT p.t = op at *
  generalize nameT p.t = nm at *
  generalize numT p.t = nu at *
  generalize p.nm = x at *
  go_enter Try.func57, Try.ntmps57
  go_wp2
  go_ret
  exact ⟨rfl, hB2⟩
set_option maxRecDepth 100000 in
set_option maxHeartbeats 4000000 in
theorem idx_get (g : Nat) (s : ByteArray) (b : Option Addr) (m d : Nat) (l : List Pr) (w : World) (hlt : g < w.heap.size) (hg : w.cell? ⟨g, 0, none⟩ = some (.string s)) (hG : UsW w b m d l) :
    Calls Try.prog 56 #[.slice b m d, .func (.func 57) #[] #[.pointer (some ⟨g, 0, none⟩)]] w fun e w' => e = .returned (.int .i64 (posP (eqF s) l)) ∧ Below w.heap.size w w' := by
  have hm : m ≤ 9223372036854775807 := hG.lt63
  have cu : ∀ (p : Pr) (a : Option Addr) (n c : Nat) (w' : World), Below w.heap.size w w' → Calls Try.prog 57 #[.agg #[.string p.nm, .int .i64 (opT p.t), .string (nameT p.t), .int .i64 (numT p.t), .slice a n c], .pointer (some ⟨g, 0, none⟩)] w' fun e w1 => e = .returned (.bool (eqF s p)) ∧ Below w'.heap.size w' w1 :=
    fun p a n c w' h => clo_get g s p a n c w' (Nat.lt_of_lt_of_le hlt h.size) ((h.cell (p := ⟨g, 0, none⟩) hlt).trans hg)
  generalize eqF s = f at *
  have hlen : l.length = m := hG.1.symm
  have hst : ∀ k (p : Pr), l[k]? = some p → fiP f (l.drop k) = if f p = true then 0 else fiP f (l.drop (k + 1)) + 1 := fun k p h => fiP_step h
  have he : ∀ k, m ≤ k → fiP f (l.drop k) = 0 := fun k h => by rw [List.drop_eq_nil_of_le (by rw [hlen]; exact h)]; rfl
  have h0 : fiP f l = fiP f (l.drop 0) := rfl
  have hR1 : ∀ k, k < m → fiP f (l.drop 0) = k → posP f l = (k : Int) := fun k h g => by unfold posP; rw [h0, g, if_pos (by rw [hlen]; exact h)]
  have hR2 : fiP f (l.drop 0) = m → posP f l = -1 := fun g => by unfold posP; rw [h0, g, if_neg (by rw [hlen]; omega)]
  generalize posP f l = R at *
  obtain ⟨F, hF⟩ : ∃ F : Nat → Nat, ∀ k, fiP f (l.drop k) = F k := ⟨_, fun _ => rfl⟩
  simp only [hF] at hst he hR1 hR2
  clear hF h0 hlen hg
  have H1 := Lib.hid hG
  have Hst := Lib.hid hst
  have He := Lib.hid he
  have HR1 := Lib.hid hR1
  have HR2 := Lib.hid hR2
  have Hu := Lib.hid cu
  clear hG hst he hR1 hR2 cu
  go_enter Try.func56, Try.ntmps56
  go_wp2
  go_loopw [8] (fun i wr0 => ∃ (wr : World) (k : Nat), wr = wr0 ∧ k ≤ m ∧ i = .int .i64 k ∧ Below w.heap.size w wr ∧ Hid (F 0 = k + F k)) (fun i _ => m - (intOf i).toNat)
  case atStart => exact ⟨w, 0, rfl, by omega, rfl, Below.refl _ _, Lib.hid (by omega)⟩
  case round =>
    obtain ⟨wr, k, rfl, hk, rfl, hB, hR⟩ := hrel
    by_cases hlt2 : k < m
    · obtain ⟨bb, o, p, A, M, Cc, rfl, hb, y0, y1, y2, y3, y4, hx, _⟩ := (UsW.b H1.out hB).at hlt2
      have hs1 := Hst.out k p hx
      have cx := Hu.out p A M Cc wr hB
      clear hx H1 Hst Hu
      have hk0 : 0 ≤ (k : Int) := by omega
      have hk1 : (k : Int) < (m : Int) := by omega
      cases hu : f p with
      | true =>
        rw [hu] at cx
        have hnew : Hid (R = (k : Int)) := HR1.out k hlt2 (by rw [hR.out, hs1, if_pos hu]; rfl)
        clear hR hs1 hu
        generalize opT p.t = op at *
        generalize nameT p.t = nm at *
        generalize numT p.t = nu at *
        generalize p.nm = x at *
        go_wp2_with (go_at_call 57; ((with_reducible refine cx.mono ?_); rintro e w1 ⟨rfl, hb1⟩))
        go_ret
        exact ⟨one hnew.out.symm, bel_trans hB hb1⟩
      | false =>
        rw [hu] at cx
        have hnew : Hid (F 0 = k + 1 + F (k + 1)) := by
          show _ = _
          rw [hR.out, hs1, if_neg (by simp [hu])]; omega
        clear hR hs1 hu
        generalize opT p.t = op at *
        generalize nameT p.t = nm at *
        generalize numT p.t = nu at *
        generalize p.nm = x at *
        go_wp2_with (go_at_call 57; ((with_reducible refine cx.mono ?_); rintro e w1 ⟨rfl, hb1⟩))
        go_roundw
        case rel => exact ⟨_, k + 1, rfl, by omega, by go_num, bel_trans hB hb1, hnew⟩
        case measure => simp [intOf]; omega
    · have hnew : Hid (R = -1) := HR2.out (by rw [hR.out, He.out k (by omega)]; omega)
      clear hR
      go_wp2
      go_ret
      exact ⟨one hnew.out.symm, hB⟩

set_option maxRecDepth 100000 in
set_option maxHeartbeats 2000000 in
theorem clo_put1 (g : Nat) (s : ByteArray) (p : Pr) (a : Option Addr) (n c : Nat) (w : World) (hlt : g < w.heap.size) (hg : w.cell? ⟨g, 0, none⟩ = some (.string s)) :
    Calls Try.prog 60 #[.agg #[.string p.nm, .int .i64 (opT p.t), .string (nameT p.t), .int .i64 (numT p.t), .slice a n c], .pointer (some ⟨g, 0, none⟩)] w fun e w' => e = .returned (.bool (eqF s p)) ∧ Below w.heap.size w w' := by
  obtain ⟨W2, hW2, hB2, hs2, S2⟩ := ubox1 w p.nm (opT p.t) (nameT p.t) (numT p.t) a n c
  have g0 := (hB2.cell (p := ⟨g, 0, none⟩) hlt).trans hg
  obtain ⟨s0, s1, s2, s3, s4⟩ := S2.five
  unfold eqF
  clear hg S2
  generalize opT p.t = op at *
  generalize nameT p.t = nm at *
  generalize numT p.t = nu at *
  generalize p.nm = x at *
  go_enter Try.func60, Try.ntmps60
  go_wp2
  go_ret
  exact ⟨rfl, hB2⟩
set_option maxRecDepth 100000 in
set_option maxHeartbeats 4000000 in
theorem idx_put1 (g : Nat) (s : ByteArray) (b : Option Addr) (m d : Nat) (l : List Pr) (w : World) (hlt : g < w.heap.size) (hg : w.cell? ⟨g, 0, none⟩ = some (.string s)) (hG : UsW w b m d l) :
    Calls Try.prog 56 #[.slice b m d, .func (.func 60) #[] #[.pointer (some ⟨g, 0, none⟩)]] w fun e w' => e = .returned (.int .i64 (posP (eqF s) l)) ∧ Below w.heap.size w w' := by
  have hm : m ≤ 9223372036854775807 := hG.lt63
  have cu : ∀ (p : Pr) (a : Option Addr) (n c : Nat) (w' : World), Below w.heap.size w w' → Calls Try.prog 60 #[.agg #[.string p.nm, .int .i64 (opT p.t), .string (nameT p.t), .int .i64 (numT p.t), .slice a n c], .pointer (some ⟨g, 0, none⟩)] w' fun e w1 => e = .returned (.bool (eqF s p)) ∧ Below w'.heap.size w' w1 :=
    fun p a n c w' h => clo_put1 g s p a n c w' (Nat.lt_of_lt_of_le hlt h.size) ((h.cell (p := ⟨g, 0, none⟩) hlt).trans hg)
  generalize eqF s = f at *
  have hlen : l.length = m := hG.1.symm
  have hst : ∀ k (p : Pr), l[k]? = some p → fiP f (l.drop k) = if f p = true then 0 else fiP f (l.drop (k + 1)) + 1 := fun k p h => fiP_step h
  have he : ∀ k, m ≤ k → fiP f (l.drop k) = 0 := fun k h => by rw [List.drop_eq_nil_of_le (by rw [hlen]; exact h)]; rfl
  have h0 : fiP f l = fiP f (l.drop 0) := rfl
  have hR1 : ∀ k, k < m → fiP f (l.drop 0) = k → posP f l = (k : Int) := fun k h g => by unfold posP; rw [h0, g, if_pos (by rw [hlen]; exact h)]
  have hR2 : fiP f (l.drop 0) = m → posP f l = -1 := fun g => by unfold posP; rw [h0, g, if_neg (by rw [hlen]; omega)]
  generalize posP f l = R at *
  obtain ⟨F, hF⟩ : ∃ F : Nat → Nat, ∀ k, fiP f (l.drop k) = F k := ⟨_, fun _ => rfl⟩
  simp only [hF] at hst he hR1 hR2
  clear hF h0 hlen hg
  have H1 := Lib.hid hG
  have Hst := Lib.hid hst
  have He := Lib.hid he
  have HR1 := Lib.hid hR1
  have HR2 := Lib.hid hR2
  have Hu := Lib.hid cu
  clear hG hst he hR1 hR2 cu
  go_enter Try.func56, Try.ntmps56
  go_wp2
  go_loopw [8] (fun i wr0 => ∃ (wr : World) (k : Nat), wr = wr0 ∧ k ≤ m ∧ i = .int .i64 k ∧ Below w.heap.size w wr ∧ Hid (F 0 = k + F k)) (fun i _ => m - (intOf i).toNat)
  case atStart => exact ⟨w, 0, rfl, by omega, rfl, Below.refl _ _, Lib.hid (by omega)⟩
  case round =>
    obtain ⟨wr, k, rfl, hk, rfl, hB, hR⟩ := hrel
    by_cases hlt2 : k < m
    · obtain ⟨bb, o, p, A, M, Cc, rfl, hb, y0, y1, y2, y3, y4, hx, _⟩ := (UsW.b H1.out hB).at hlt2
      have hs1 := Hst.out k p hx
      have cx := Hu.out p A M Cc wr hB
      clear hx H1 Hst Hu
      have hk0 : 0 ≤ (k : Int) := by omega
      have hk1 : (k : Int) < (m : Int) := by omega
      cases hu : f p with
      | true =>
        rw [hu] at cx
        have hnew : Hid (R = (k : Int)) := HR1.out k hlt2 (by rw [hR.out, hs1, if_pos hu]; rfl)
        clear hR hs1 hu
        generalize opT p.t = op at *
        generalize nameT p.t = nm at *
        generalize numT p.t = nu at *
        generalize p.nm = x at *
        go_wp2_with (go_at_call 60; ((with_reducible refine cx.mono ?_); rintro e w1 ⟨rfl, hb1⟩))
        go_ret
        exact ⟨one hnew.out.symm, bel_trans hB hb1⟩
      | false =>
        rw [hu] at cx
        have hnew : Hid (F 0 = k + 1 + F (k + 1)) := by
          show _ = _
          rw [hR.out, hs1, if_neg (by simp [hu])]; omega
        clear hR hs1 hu
        generalize opT p.t = op at *
        generalize nameT p.t = nm at *
        generalize numT p.t = nu at *
        generalize p.nm = x at *
        go_wp2_with (go_at_call 60; ((with_reducible refine cx.mono ?_); rintro e w1 ⟨rfl, hb1⟩))
        go_roundw
        case rel => exact ⟨_, k + 1, rfl, by omega, by go_num, bel_trans hB hb1, hnew⟩
        case measure => simp [intOf]; omega
    · have hnew : Hid (R = -1) := HR2.out (by rw [hR.out, He.out k (by omega)]; omega)
      clear hR
      go_wp2
      go_ret
      exact ⟨one hnew.out.symm, hB⟩

set_option maxRecDepth 100000 in
set_option maxHeartbeats 2000000 in
theorem clo_put2 (g : Nat) (s : ByteArray) (p : Pr) (a : Option Addr) (n c : Nat) (w : World) (hlt : g < w.heap.size) (hg : w.cell? ⟨g, 0, none⟩ = some (.string s)) :
    Calls Try.prog 61 #[.agg #[.string p.nm, .int .i64 (opT p.t), .string (nameT p.t), .int .i64 (numT p.t), .slice a n c], .pointer (some ⟨g, 0, none⟩)] w fun e w' => e = .returned (.bool (gtF s p)) ∧ Below w.heap.size w w' := by
  obtain ⟨W2, hW2, hB2, hs2, S2⟩ := ubox1 w p.nm (opT p.t) (nameT p.t) (numT p.t) a n c
  have g0 := (hB2.cell (p := ⟨g, 0, none⟩) hlt).trans hg
  obtain ⟨s0, s1, s2, s3, s4⟩ := S2.five
  unfold gtF
  clear hg S2
  generalize opT p.t = op at *
  generalize nameT p.t = nm at *
  generalize numT p.t = nu at *
  generalize p.nm = x at *
  go_enter Try.func61, Try.ntmps61
  go_wp2
  go_ret
  exact ⟨rfl, hB2⟩
set_option maxRecDepth 100000 in
set_option maxHeartbeats 4000000 in
theorem idx_put2 (g : Nat) (s : ByteArray) (b : Option Addr) (m d : Nat) (l : List Pr) (w : World) (hlt : g < w.heap.size) (hg : w.cell? ⟨g, 0, none⟩ = some (.string s)) (hG : UsW w b m d l) :
    Calls Try.prog 56 #[.slice b m d, .func (.func 61) #[] #[.pointer (some ⟨g, 0, none⟩)]] w fun e w' => e = .returned (.int .i64 (posP (gtF s) l)) ∧ Below w.heap.size w w' := by
  have hm : m ≤ 9223372036854775807 := hG.lt63
  have cu : ∀ (p : Pr) (a : Option Addr) (n c : Nat) (w' : World), Below w.heap.size w w' → Calls Try.prog 61 #[.agg #[.string p.nm, .int .i64 (opT p.t), .string (nameT p.t), .int .i64 (numT p.t), .slice a n c], .pointer (some ⟨g, 0, none⟩)] w' fun e w1 => e = .returned (.bool (gtF s p)) ∧ Below w'.heap.size w' w1 :=
    fun p a n c w' h => clo_put2 g s p a n c w' (Nat.lt_of_lt_of_le hlt h.size) ((h.cell (p := ⟨g, 0, none⟩) hlt).trans hg)
  generalize gtF s = f at *
  have hlen : l.length = m := hG.1.symm
  have hst : ∀ k (p : Pr), l[k]? = some p → fiP f (l.drop k) = if f p = true then 0 else fiP f (l.drop (k + 1)) + 1 := fun k p h => fiP_step h
  have he : ∀ k, m ≤ k → fiP f (l.drop k) = 0 := fun k h => by rw [List.drop_eq_nil_of_le (by rw [hlen]; exact h)]; rfl
  have h0 : fiP f l = fiP f (l.drop 0) := rfl
  have hR1 : ∀ k, k < m → fiP f (l.drop 0) = k → posP f l = (k : Int) := fun k h g => by unfold posP; rw [h0, g, if_pos (by rw [hlen]; exact h)]
  have hR2 : fiP f (l.drop 0) = m → posP f l = -1 := fun g => by unfold posP; rw [h0, g, if_neg (by rw [hlen]; omega)]
  generalize posP f l = R at *
  obtain ⟨F, hF⟩ : ∃ F : Nat → Nat, ∀ k, fiP f (l.drop k) = F k := ⟨_, fun _ => rfl⟩
  simp only [hF] at hst he hR1 hR2
  clear hF h0 hlen hg
  have H1 := Lib.hid hG
  have Hst := Lib.hid hst
  have He := Lib.hid he
  have HR1 := Lib.hid hR1
  have HR2 := Lib.hid hR2
  have Hu := Lib.hid cu
  clear hG hst he hR1 hR2 cu
  go_enter Try.func56, Try.ntmps56
  go_wp2
  go_loopw [8] (fun i wr0 => ∃ (wr : World) (k : Nat), wr = wr0 ∧ k ≤ m ∧ i = .int .i64 k ∧ Below w.heap.size w wr ∧ Hid (F 0 = k + F k)) (fun i _ => m - (intOf i).toNat)
  case atStart => exact ⟨w, 0, rfl, by omega, rfl, Below.refl _ _, Lib.hid (by omega)⟩
  case round =>
    obtain ⟨wr, k, rfl, hk, rfl, hB, hR⟩ := hrel
    by_cases hlt2 : k < m
    · obtain ⟨bb, o, p, A, M, Cc, rfl, hb, y0, y1, y2, y3, y4, hx, _⟩ := (UsW.b H1.out hB).at hlt2
      have hs1 := Hst.out k p hx
      have cx := Hu.out p A M Cc wr hB
      clear hx H1 Hst Hu
      have hk0 : 0 ≤ (k : Int) := by omega
      have hk1 : (k : Int) < (m : Int) := by omega
      cases hu : f p with
      | true =>
        rw [hu] at cx
        have hnew : Hid (R = (k : Int)) := HR1.out k hlt2 (by rw [hR.out, hs1, if_pos hu]; rfl)
        clear hR hs1 hu
        generalize opT p.t = op at *
        generalize nameT p.t = nm at *
        generalize numT p.t = nu at *
        generalize p.nm = x at *
        go_wp2_with (go_at_call 61; ((with_reducible refine cx.mono ?_); rintro e w1 ⟨rfl, hb1⟩))
        go_ret
        exact ⟨one hnew.out.symm, bel_trans hB hb1⟩
      | false =>
        rw [hu] at cx
        have hnew : Hid (F 0 = k + 1 + F (k + 1)) := by
          show _ = _
          rw [hR.out, hs1, if_neg (by simp [hu])]; omega
        clear hR hs1 hu
        generalize opT p.t = op at *
        generalize nameT p.t = nm at *
        generalize numT p.t = nu at *
        generalize p.nm = x at *
        go_wp2_with (go_at_call 61; ((with_reducible refine cx.mono ?_); rintro e w1 ⟨rfl, hb1⟩))
        go_roundw
        case rel => exact ⟨_, k + 1, rfl, by omega, by go_num, bel_trans hB hb1, hnew⟩
        case measure => simp [intOf]; omega
    · have hnew : Hid (R = -1) := HR2.out (by rw [hR.out, He.out k (by omega)]; omega)
      clear hR
      go_wp2
      go_ret
      exact ⟨one hnew.out.symm, hB⟩
end Go.Proofs.Ytnodcpifbcabmaa.U
namespace Go.Proofs.Ytnodcpifbcabmaa.U
open Go.RowKit L T C B
set_option linter.unusedVariables false
set_option linter.unusedSimpArgs false

def keepP (f : Pr → Bool) (l : List Pr) : List Pr := l.filter fun p => !f p
theorem fi_take (f : Pr → Bool) : ∀ l : List Pr, fiP f l < l.length → keepP f (l.take (fiP f l + 1)) = l.take (fiP f l)
  | [], h => absurd h (by simp)
  | p :: l, h => by
    rw [fiP] at h ⊢
    by_cases hf : f p = true
    · rw [if_pos hf] at h ⊢; simp [keepP, hf]
    · rw [if_neg hf] at h ⊢
      have := fi_take f l (by simpa using h)
      unfold keepP at this ⊢
      rw [List.take_succ_cons, List.filter_cons_of_pos (by simpa using hf), this, List.take_succ_cons]
theorem fi_none (f : Pr → Bool) : ∀ l : List Pr, fiP f l = l.length → keepP f l = l
  | [], h => rfl
  | p :: l, h => by
    rw [fiP] at h
    by_cases hf : f p = true
    · rw [if_pos hf] at h; simp at h
    · rw [if_neg hf] at h
      have := fi_none f l (by simpa using h)
      unfold keepP at this ⊢
      rw [List.filter_cons_of_pos (by simpa using hf), this]
theorem fi_at (f : Pr → Bool) : ∀ l : List Pr, fiP f l < l.length → ∃ p, l[fiP f l]? = some p ∧ f p = true
  | [], h => absurd h (by simp)
  | p :: l, h => by
    rw [fiP] at h ⊢
    by_cases hf : f p = true
    · rw [if_pos hf]; exact ⟨p, rfl, hf⟩
    · rw [if_neg hf] at h ⊢
      obtain ⟨q, h1, h2⟩ := fi_at f l (by simpa using h)
      exact ⟨q, by simpa using h1, h2⟩
/-- row Z, its first k the kept ones of the first j pairs of l -/
structure Dlt (f : Pr → Bool) (l Z : List Pr) (k j : Nat) : Prop where
  len : Z.length = l.length
  kj : k < j
  jl : j ≤ l.length
  rest : ∀ i, j ≤ i → Z[i]? = l[i]?
  kept : Z.take k = keepP f (l.take j)
theorem Dlt.start {f : Pr → Bool} {l : List Pr} {k : Nat} (hk : fiP f l = k) (hlt : k < l.length) : Dlt f l l k (k + 1) :=
  ⟨rfl, by omega, by omega, fun _ _ => rfl, by subst hk; exact (fi_take f l hlt).symm⟩
theorem Dlt.same {f : Pr → Bool} {l Z : List Pr} {k j : Nat} (h : Dlt f l Z k j) {q : Pr} (h2 : l[j]? = some q) (he : f q = true) : Dlt f l Z k (j + 1) := by
  obtain ⟨k2, e2⟩ := List.getElem?_eq_some_iff.1 h2
  refine ⟨h.len, by have := h.kj; omega, by omega, fun i hi => h.rest i (by omega), ?_⟩
  rw [h.kept, List.take_add_one, h2]
  simp [keepP, he]
theorem Dlt.other {f : Pr → Bool} {l Z : List Pr} {k j : Nat} (h : Dlt f l Z k j) {q : Pr} (h2 : l[j]? = some q) (he : f q = false) : Dlt f l (Z.set k q) (k + 1) (j + 1) := by
  obtain ⟨k2, e2⟩ := List.getElem?_eq_some_iff.1 h2
  have hkj := h.kj
  have hkl : k < Z.length := by rw [h.len]; omega
  have ht : (Z.set k q).take (k + 1) = Z.take k ++ [q] := by
    rw [List.take_add_one, List.getElem?_set_self hkl, List.take_set_of_le (Nat.le_refl _)]; rfl
  refine ⟨by rw [List.length_set, h.len], by omega, by omega, fun i hi => ?_, ?_⟩
  · rw [List.getElem?_set_ne (by omega)]; exact h.rest i (by omega)
  · rw [ht, h.kept, List.take_add_one, h2]
    simp [keepP, he]
theorem Dlt.done {f : Pr → Bool} {l Z : List Pr} {k j : Nat} (h : Dlt f l Z k j) (hj : j = l.length) : Z.take k = keepP f l := by
  rw [h.kept, hj, List.take_length]
set_option maxRecDepth 100000 in
set_option maxHeartbeats 4000000 in
theorem delU_none (l : List Pr) (s : ByteArray) (bx : Nat) (A : Option Addr) (n c : Nat) (w : World) (hG : UsW w A n c l) (hlt : bx < w.heap.size) (hc : w.cell? ⟨bx, 0, none⟩ = some (.string s)) (hp : fiP (eqF s) l = l.length) :
    Calls Try.prog 58 #[.slice A n c, .func (.func 60) #[] #[.pointer (some ⟨bx, 0, none⟩)]] w fun e w' => e = .returned (.slice A n c) ∧ Below w.heap.size w w' := by
  have cI := idx_put1 bx s A n c l w hlt hc hG
  have hq : posP (eqF s) l = -1 := by unfold posP; rw [if_neg (by omega)]
  rw [hq] at cI
  clear hG hc hp hq
  go_enter Try.func58, Try.ntmps58
  go_wp2_with (go_at_call 56; ((with_reducible refine cI.mono ?_); rintro e w3 ⟨rfl, hb3⟩))
  go_ret
  exact ⟨rfl, hb3⟩
set_option maxRecDepth 100000 in
set_option maxHeartbeats 16000000 in
theorem delU_some (l : List Pr) (s : ByteArray) (bx lo g n c : Nat) (w : World) (hG : OwnP w lo (.slice (some ⟨g, 0, none⟩) n c) l) (hlen : n = l.length) (hlg : lo ≤ g) (hlw : lo ≤ w.heap.size) (hn : n ≤ 1000000) (hbx : bx < lo) (hc : w.cell? ⟨bx, 0, none⟩ = some (.string s)) (hp : fiP (eqF s) l < l.length) :
    Calls Try.prog 58 #[.slice (some ⟨g, 0, none⟩) n c, .func (.func 60) #[] #[.pointer (some ⟨bx, 0, none⟩)]] w fun e w' => ∃ m, e = .returned (.slice (some ⟨g, 0, none⟩) m c) ∧ m < n ∧ OwnP w' lo (.slice (some ⟨g, 0, none⟩) m c) (keepP (eqF s) l) ∧ Below lo w w' := by
  have cI := idx_put1 bx s (some ⟨g, 0, none⟩) n c l w (by omega) hc hG.us
  obtain ⟨k0, hk0⟩ : ∃ k, fiP (eqF s) l = k := ⟨_, rfl⟩
  have hq : posP (eqF s) l = (k0 : Int) := by unfold posP; rw [if_pos hp, hk0]
  rw [hq] at cI
  have hkn : k0 < n := by omega
  have hkm : ((k0 : Int) == -1) = false := beq_eq_false_iff_ne.2 (by omega)
  have hD0 := Lib.hid (Dlt.start hk0 (by omega))
  have HC := Lib.hid (show ∀ (p : Pr) (a : Option Addr) (n c : Nat) (w' : World), Below lo w w' → _ from fun p a n c w' h => clo_put1 bx s p a n c w' (by have := h.size; omega) ((h.cell (p := ⟨bx, 0, none⟩) hbx).trans hc))
  have hnc : n ≤ c := by
    obtain ⟨A0, c0, hv, q1, -⟩ := hG.slice
    injection hv with v1 v2 v3
    omega
  have HG := Lib.hid hG
  have HL := Lib.hid hlen
  have HW := Lib.hid hlw
  clear hG hlen hp hk0 hq hc
  go_enter Try.func58, Try.ntmps58
  go_wp2_with (go_at_call 56; ((with_reducible refine cI.mono ?_); rintro e w3 ⟨rfl, hb3⟩))
  have HH := Lib.hid (HG.out.below hb3)
  have hB3 : Below lo w w3 := hb3.mono HW.out
  have hwz : IntKind.i64.wrap ((k0 : Int) + 1) = (k0 : Int) + 1 := by rw [IntKind.wrap_i64]; omega
  go_wp2
  go_loopw [5, 6] (fun kk jj wr0 => ∃ (w2 : World) (k j : Nat) (Z : List Pr), w2 = wr0 ∧ kk = .int .i64 (k : Int) ∧ jj = .int .i64 (j : Int) ∧ j ≤ n ∧ k < j ∧ Below lo w w2 ∧ Hid (OwnP w2 lo (.slice (some ⟨g, 0, none⟩) n c) Z ∧ Dlt (eqF s) l Z k j)) (fun kk jj _ => n - (intOf jj).toNat)
  case atStart => exact ⟨_, k0, k0 + 1, l, rfl, rfl, by go_num, by omega, by omega, hB3, Lib.hid ⟨HH.out, hD0.out⟩⟩
  case round =>
    clear HH hD0 HG cI hwz
    obtain ⟨w2, k, j, Z, rfl, rfl, rfl, hjn, hkj, hB2, hI⟩ := hrel
    by_cases hlt2 : j < n
    · have hZl : Hid (Z.length = n) := Lib.hid (hI.out.2.len.trans HL.out.symm)
      obtain ⟨q, hq⟩ : ∃ q, Z[j]? = some q := ⟨_, List.getElem?_eq_getElem (by have := hZl.out; omega)⟩
      obtain ⟨⟨xq, oq, sq, zq, aq, nq, cq⟩, hBq, ⟨d0, d1, d2, d3, d4⟩⟩ := hI.out.1.one hq
      have HBq := Lib.hid hBq
      obtain ⟨⟨t1, t2, t3, t4⟩, -⟩ := hBq
      dsimp only at d0 d1 d2 d3 d4 t1 t2 t3 t4
      have hlq : l[j]? = some q := by rw [← hI.out.2.rest j (Nat.le_refl _), hq]
      have hSa := fun (h : eqF s q = true) => hI.out.2.same hlq h
      have hOt := fun (h : eqF s q = false) => hI.out.2.other hlq h
      obtain ⟨W4, hW4, hB4, hs4, S4⟩ := ubox1 w2 xq oq sq zq aq nq cq
      have hB24 : Below lo w W4 := hB2.trans (hB4.mono (by have := hB2.size; have := HW.out; omega))
      have cC := HC.out q aq nq cq W4 hB24
      rw [← t1, ← t2, ← t3, ← t4] at cC
      have HO := Lib.hid (hI.out.1.below hB4)
      have hgl : g < W4.heap.size := (HO.out.lt g rfl).2
      have l4 := Blk.lt S4
      obtain ⟨f0, f1, f2, f3, f4⟩ := S4.five
      have hj0 : 0 ≤ (j : Int) := by omega
      have hjN : (j : Int) < (n : Int) := by omega
      have hk0' : 0 ≤ (k : Int) := by omega
      have hkN : (k : Int) < (n : Int) := by omega
      clear t1 t2 t3 t4 S4 hs4 HC hI
      cases hcmp : eqF s q with
      | true =>
        rw [hcmp] at cC
        have hS := Lib.hid (hSa hcmp)
        clear hSa hOt hq hlq hcmp
        go_wp2_with (go_at_call 60; ((with_reducible refine cC.mono ?_); rintro e w5 ⟨rfl, hb5⟩))
        go_roundw
        case rel => exact ⟨_, k, j + 1, Z, rfl, rfl, by go_num, by omega, by omega, hB24.trans (hb5.mono (by have := hB24.size; have := HW.out; omega)), Lib.hid ⟨HO.out.below hb5, hS.out⟩⟩
        case measure => simp [intOf]; omega
      | false =>
        rw [hcmp] at cC
        have hO2 := Lib.hid (hOt hcmp)
        have HB4 := Lib.hid hB4
        clear hSa hOt hq hlq hcmp
        go_wp2_with (go_at_call 60; ((with_reducible refine cC.mono ?_); rintro e w5 ⟨rfl, hb5⟩; have HO5 := Lib.hid (HO.out.below hb5); have HO2 := Lib.hid (show OwnP (setU w5 g k ⟨xq, oq, sq, zq, aq, nq, cq⟩) lo (.slice (some ⟨g, 0, none⟩) n c) (Z.set k q) from HO5.out.setH (k := k) (by have := hZl.out; omega) ⟨xq, oq, sq, zq, aq, nq, cq⟩ q (HBq.out.to (fun b hb => (bel_trans HB4.out hb5).block b hb.1) (fun b hb => ⟨Nat.lt_of_lt_of_le hb.1 (bel_trans HB4.out hb5).size, hb.2⟩))); have hX : Below lo w w5 := hB24.trans (hb5.mono (by have := hB24.size; have := HW.out; omega)); have hX2 := Lib.hid (setU_below hX hlg k ⟨xq, oq, sq, zq, aq, nq, cq⟩); have e0 := (hb5.cell (p := ⟨w2.heap.size, _, none⟩) l4).trans f0; have e1 := (hb5.cell (p := ⟨w2.heap.size, _, none⟩) l4).trans f1; have e2 := (hb5.cell (p := ⟨w2.heap.size, _, none⟩) l4).trans f2; have e3 := (hb5.cell (p := ⟨w2.heap.size, _, none⟩) l4).trans f3; have e4 := (hb5.cell (p := ⟨w2.heap.size, _, none⟩) l4).trans f4; have hsm := isSome_row HO5.out; obtain ⟨u0, k0⟩ := Option.isSome_iff_exists.1 (hsm (k * 5) (by omega)); obtain ⟨u1, k1⟩ := Option.isSome_iff_exists.1 (hsm (k * 5 + 1) (by omega)); obtain ⟨u2, k2⟩ := Option.isSome_iff_exists.1 (hsm (k * 5 + 2) (by omega)); obtain ⟨u3, k3⟩ := Option.isSome_iff_exists.1 (hsm (k * 5 + 3) (by omega)); obtain ⟨u4, k4⟩ := Option.isSome_iff_exists.1 (hsm (k * 5 + 4) (by omega)); have hfr := HO5.out.free; have f0' := hfr (k * 5); have f1' := hfr (k * 5 + 1); have f2' := hfr (k * 5 + 2); have f3' := hfr (k * 5 + 3); have f4' := hfr (k * 5 + 4); clear hfr hsm; unfold setU at HO2 hX2))
        go_roundw
        case rel => exact ⟨_, k + 1, j + 1, _, rfl, by go_num, by go_num, by omega, by omega, hX2.out, Lib.hid ⟨HO2.out, hO2.out⟩⟩
        case measure => simp [intOf]; omega
    · obtain rfl : n = j := by omega
      have hfr := hI.out.1.free
      have hsm := isSome_row hI.out.1
      obtain ⟨vs, hcl⟩ := clear_pairs w2 g (k * 5) (n - k) (c - k) (by omega) (fun j hj => hsm _ (by omega)) hfr
      have HK := Lib.hid (hI.out.1.keep k (by rw [hI.out.2.len, ← HL.out]; omega) vs)
      have HD := Lib.hid (hI.out.2.done HL.out)
      have hBc := setCells_below hlg vs (k * 5) w2 hB2
      have hkle : (k : Int) ≤ (n : Int) := by omega
      have hkn0 : 0 ≤ (k : Int) := by omega
      have hne2 : ¬ n = k := by omega
      have hne3 : ¬ c = k := by omega
      clear hI hfr hsm HC
      go_wp2
      go_ret
      exact ⟨_, rfl, hkj, by rw [← HD.out]; exact HK.out, hBc⟩
end Go.Proofs.Ytnodcpifbcabmaa.U
namespace Go.Proofs.Ytnodcpifbcabmaa.U
open Go.RowKit L T C B Mt
set_option linter.unusedVariables false
set_option linter.unusedSimpArgs false

theorem OwnP.addr {w : World} {lo n c : Nat} {A : Option Addr} {l : List Pr} (h : OwnP w lo (.slice A n c) l) : n = l.length ∧ n ≤ c ∧ (0 < n → ∃ g, A = some ⟨g, 0, none⟩ ∧ lo ≤ g ∧ g < w.heap.size) := by
  obtain ⟨A0, c0, hv, q1, -, -, q2⟩ := h.slice
  injection hv with v1 v2 v3
  subst v1 v3
  exact ⟨v2, by omega, fun hn => q2 (by omega)⟩
theorem insU_any (Y : List Pr) (x : Pr) (lo z n c i : Nat) (A : Option Addr) (xa : Option Addr) (xn xc : Nat) (w : World) (hO : OwnP w lo (.slice A n c) Y) (hm : n ≤ 1000000) (hi : i ≤ n) (hlw : lo ≤ w.heap.size)
    (hz : (Value.slice A n c).ownBlock ≠ some z) (hB : UBox w z x.nm (opT x.t) (nameT x.t) (numT x.t) xa xn xc) (hA : ArP (fun q => q < w.heap.size ∧ (Value.slice A n c).ownBlock ≠ some q) w x.t xa xn xc) :
    Calls Try.prog 62 #[.slice A n c, .int .i64 (i : Int), .slice (some ⟨z, 0, none⟩) 1 1] w fun e w' => InsR w lo n i Y x e w' := by
  obtain ⟨hn, hnc, hpos⟩ := hO.addr
  rcases Nat.lt_or_eq_of_le hi with hlt | rfl
  · obtain ⟨g, rfl, hg1, hg2⟩ := hpos (by omega)
    have hzg : z ≠ g := fun e => hz (by rw [e]; rfl)
    by_cases hroom : n + 1 ≤ c
    · exact insU_room Y x lo z g n c i xa xn xc w hO hn hm hlt hroom hg1 hzg hB (ArP.to (fun _ _ => rfl) (fun b hb => ⟨hb.1, fun e => hb.2 (by rw [e]; rfl)⟩) _ hA)
    · exact insU_grow Y x lo z g n c i xa xn xc w hO hn hm hlt (by omega) hlw hB (ArP.to (fun _ _ => rfl) (fun b hb => hb.1) _ hA)
  · exact insU_end Y x lo z i c A w hO hn hm hlw (box_up hB ⟨Blk.lt hB, hz⟩ hA)
theorem delU_any (l : List Pr) (s : ByteArray) (bx lo n c : Nat) (A : Option Addr) (w : World) (hG : OwnP w lo (.slice A n c) l) (hlw : lo ≤ w.heap.size) (hn : n ≤ 1000000) (hbx : bx < lo) (hc : w.cell? ⟨bx, 0, none⟩ = some (.string s)) :
    Calls Try.prog 58 #[.slice A n c, .func (.func 60) #[] #[.pointer (some ⟨bx, 0, none⟩)]] w fun e w' => ∃ m, e = .returned (.slice A m c) ∧ m ≤ n ∧ OwnP w' lo (.slice A m c) (keepP (eqF s) l) ∧ Below lo w w' := by
  obtain ⟨hl, hnc, hpos⟩ := hG.addr
  rcases Nat.lt_or_eq_of_le (fiP_le (eqF s) l) with hlt | he
  · obtain ⟨g, rfl, hg1, hg2⟩ := hpos (by omega)
    exact (delU_some l s bx lo g n c w hG hl hg1 hlw hn hbx hc hlt).mono fun e w' ⟨m, h1, h2, h3, h4⟩ => ⟨m, h1, by omega, h3, h4⟩
  · refine (delU_none l s bx A n c w hG.us (by omega) hc he).mono fun e w' ⟨h1, h2⟩ => ⟨n, h1, Nat.le_refl _, ?_, h2.mono hlw⟩
    rw [fi_none (eqF s) l he]
    exact hG.below h2
end Go.Proofs.Ytnodcpifbcabmaa.U
