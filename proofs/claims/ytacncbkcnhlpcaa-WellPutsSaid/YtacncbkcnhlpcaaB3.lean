/-
  What is proved: rows of pairs of the call's own: made, stored into, read, appended to; lists of pairs read in blocks of a kind.
  What is proved: lists of pairs cut in two; a box of one pair as a list of one.
  What is proved: an argument that is a term, or a list of pairs, reads as such, with names of a size that texts have.
-/
import Derived.Test.YtacncbkcnhlpcaaBU
import Derived.Test.YtacncbkcnhlpcaaZLibP
import Derived.Test.YtacncbkcnhlpcaaB2
import Derived.Deep.AppendLies
import Derived.Test.YtacncbkcnhlpcaaZTrmO
import Derived.Lib.SmallJoins
import Derived.Deep.Slices
import Derived.Deep.Fields
import Derived.ChangeArms
import Derived.OpenShut
namespace Go.Proofs.Ytacncbkcnhlpcaa.U
open Go.RowKit L T C
set_option linter.unusedVariables false
set_option linter.unusedSimpArgs false

/-- a pair's five cells -/
structure Hu where
  nm : ByteArray
  op : Int
  s : ByteArray
  z : Int
  a : Option Addr
  n : Nat
  c : Nat
def Hu.cells (h : Hu) : List Value := [.string h.nm, .int .i64 h.op, .string h.s, .int .i64 h.z, .slice h.a h.n h.c]
def Hu.val (h : Hu) : Value := .agg #[.string h.nm, .int .i64 h.op, .string h.s, .int .i64 h.z, .slice h.a h.n h.c]
def Hu.zero : Hu := ⟨⟨#[]⟩, 0, ⟨#[]⟩, 0, none, 0, 0⟩
def huOf (p : Pr) (a : Option Addr) (n c : Nat) : Hu := ⟨p.nm, opT p.t, nameT p.t, numT p.t, a, n, c⟩
def flatU (hs : List Hu) : List Value := hs.flatMap Hu.cells
theorem flatU_len (hs : List Hu) : (flatU hs).length = hs.length * 5 := by
  unfold flatU
  induction hs with
  | nil => rfl
  | cons h l ih => rw [List.flatMap_cons, List.length_append, ih, List.length_cons]; simp [Hu.cells]; omega
theorem flatU_app (l m : List Hu) : flatU (l ++ m) = flatU l ++ flatU m := by unfold flatU; rw [List.flatMap_append]
theorem flatU_get : ∀ (hs : List Hu) (k j : Nat) (hk : k < hs.length), j < 5 → (flatU hs)[k * 5 + j]? = (hs[k].cells)[j]?
  | [], k, j, hk, _ => absurd hk (by simp)
  | h :: l, 0, j, hk, hj => by
    unfold flatU
    rw [List.flatMap_cons, List.getElem?_append_left (by simp [Hu.cells]; omega)]
    simp
  | h :: l, k + 1, j, hk, hj => by
    have ih := flatU_get l k j (by simpa using hk) hj
    unfold flatU at ih ⊢
    rw [List.flatMap_cons, List.getElem?_append_right (by simp [Hu.cells]; omega)]
    have e : (k + 1) * 5 + j - h.cells.length = k * 5 + j := by simp [Hu.cells]; omega
    rw [e, ih]; simp
theorem flatU_ext {hs : List Hu} {cs : List Value} (hl : hs.length * 5 ≤ cs.length) (h : ∀ k (hk : k < hs.length) j, j < 5 → cs[k * 5 + j]? = (hs[k].cells)[j]?) : cs.take (hs.length * 5) = flatU hs := by
  refine List.ext_getElem? fun i => ?_
  by_cases hi : i < hs.length * 5
  · rw [List.getElem?_take_of_lt hi]
    have hk : i / 5 < hs.length := by omega
    have := h (i / 5) hk (i % 5) (by omega)
    rw [show i / 5 * 5 + i % 5 = i by omega] at this
    rw [this, ← flatU_get hs (i / 5) (i % 5) hk (by omega), show i / 5 * 5 + i % 5 = i by omega]
  · rw [List.getElem?_eq_none (by rw [List.length_take]; omega), List.getElem?_eq_none (by rw [flatU_len]; omega)]
theorem hu_one (hs : List Hu) : ∀ u ∈ flatU hs, u.oneCell' = true := fun u hu => by
  unfold flatU at hu
  obtain ⟨h, _, hu⟩ := List.mem_flatMap.1 hu
  simp [Hu.cells] at hu
  rcases hu with rfl | rfl | rfl | rfl | rfl <;> rfl
theorem pairI : (Try.prog.info? 54).map (fun i => (i.zero, i.size, i.bytes)) = some (some (.agg #[.string ⟨#[]⟩, .int .i64 0, .string ⟨#[]⟩, .int .i64 0, .slice none 0 0]), 5, 72) := by kernel_rfl
/-- a row of the call's own that holds these pairs -/
def OwnU (w : World) (base : Nat) (v : Value) (hs : List Hu) : Prop := w.ownsRow base 54 5 v hs.length (flatU hs)
theorem OwnU.nil (w : World) (base : Nat) : OwnU w base (.slice none 0 0) [] := World.ownsRow_nil _ _ _ _
theorem OwnU.below {w w' : World} {base : Nat} {v : Value} {hs : List Hu} (h : OwnU w base v hs) (hb : Below w.heap.size w w') : OwnU w' base v hs := by
  refine ⟨h.1, ?_⟩
  rcases h.2 with hn | ⟨g, cap, cur, rfl, h1, hg, rest⟩
  · exact .inl hn
  · exact .inr ⟨g, cap, cur, rfl, h1, by rw [hb.block g (Array.getElem?_eq_some_iff.1 hg).1]; exact hg, rest⟩
theorem OwnU.at {w : World} {base g n c : Nat} {hs : List Hu} (h : OwnU w base (.slice (some ⟨g, 0, none⟩) n c) hs) {k : Nat} (hk : k < hs.length) :
    w.cell? ⟨g, k * 5, none⟩ = some (.string hs[k].nm) ∧ w.cell? ⟨g, k * 5 + 1, none⟩ = some (.int .i64 hs[k].op) ∧ w.cell? ⟨g, k * 5 + 1 + 1, none⟩ = some (.string hs[k].s) ∧ w.cell? ⟨g, k * 5 + 1 + 1 + 1, none⟩ = some (.int .i64 hs[k].z) ∧ w.cell? ⟨g, k * 5 + 1 + 1 + 1 + 1, none⟩ = some (.slice hs[k].a hs[k].n hs[k].c) := by
  rcases h.2 with ⟨hv, _⟩ | ⟨g', cap, cur, hv, hb, hg, hnc, hcm, hcs, ht⟩
  · cases hv
  · injection hv with h1 h2 h3
    injection h1 with h1
    injection h1 with h1
    subst h1
    have key : ∀ j, j < 5 → w.cell? ⟨g, k * 5 + j, none⟩ = (hs[k].cells)[j]? := fun j hj => by
      rw [cell_of_row w g _ _ _ _ hg, ← flatU_get hs k j hk hj, ← ht, List.getElem?_take_of_lt (by omega), Array.getElem?_toList]
    exact ⟨key 0 (by omega), key 1 (by omega), key 2 (by omega), key 3 (by omega), key 4 (by omega)⟩
theorem OwnU.slice {w : World} {base : Nat} {v : Value} {hs : List Hu} (h : OwnU w base v hs) : ∃ A c, v = .slice A hs.length c ∧ hs.length ≤ c ∧ c ≤ maxLen ∧ (A = none → c = 0) ∧ (0 < hs.length → ∃ g, A = some ⟨g, 0, none⟩ ∧ base ≤ g ∧ g < w.heap.size) := by
  rcases h.2 with ⟨rfl, hn⟩ | ⟨g, cap, cur, rfl, hb, hg, hnc, hcm, hcs, ht⟩
  · exact ⟨none, 0, by rw [hn], by omega, Nat.zero_le _, fun _ => rfl, fun h => absurd h (by omega)⟩
  · exact ⟨_, _, rfl, hnc, hcm, (fun h => by cases h), fun _ => ⟨g, rfl, hb, (Array.getElem?_eq_some_iff.1 hg).1⟩⟩

theorem OwnU.base {w : World} {b b' : Nat} {v : Value} {hs : List Hu} (h : OwnU w b v hs) (hb : b' ≤ b) : OwnU w b' v hs := by
  refine ⟨h.1, ?_⟩
  rcases h.2 with hn | ⟨g, cap, cur, rfl, h1, rest⟩
  · exact .inl hn
  · exact .inr ⟨g, cap, cur, rfl, by omega, rest⟩

/-- a block whose first cells are these pairs -/
def RowU (w : World) (g : Nat) (hs : List Hu) : Prop := ∃ cur, w.heap[g]? = some (.cells cur 54 (0, 0)) ∧ hs.length * 5 ≤ cur.size ∧ cur.toList.take (hs.length * 5) = flatU hs
theorem RowU.lt {w : World} {g : Nat} {hs : List Hu} (h : RowU w g hs) : g < w.heap.size := by
  obtain ⟨cur, hg, _⟩ := h
  exact (Array.getElem?_eq_some_iff.1 hg).1
theorem RowU.of_block {w w' : World} {g : Nat} {hs : List Hu} (h : RowU w g hs) (hb : w'.heap[g]? = w.heap[g]?) : RowU w' g hs := by
  obtain ⟨cur, hg, r⟩ := h
  exact ⟨cur, hb.trans hg, r⟩
theorem RowU.at {w : World} {g : Nat} {hs : List Hu} (h : RowU w g hs) {k : Nat} (hk : k < hs.length) :
    w.cell? ⟨g, k * 5, none⟩ = some (.string hs[k].nm) ∧ w.cell? ⟨g, k * 5 + 1, none⟩ = some (.int .i64 hs[k].op) ∧ w.cell? ⟨g, k * 5 + 1 + 1, none⟩ = some (.string hs[k].s) ∧ w.cell? ⟨g, k * 5 + 1 + 1 + 1, none⟩ = some (.int .i64 hs[k].z) ∧ w.cell? ⟨g, k * 5 + 1 + 1 + 1 + 1, none⟩ = some (.slice hs[k].a hs[k].n hs[k].c) := by
  obtain ⟨cur, hg, hl, ht⟩ := h
  have key : ∀ j, j < 5 → w.cell? ⟨g, k * 5 + j, none⟩ = (hs[k].cells)[j]? := fun j hj => by
    rw [cell_of_row w g _ _ _ _ hg, ← flatU_get hs k j hk hj, ← ht, List.getElem?_take_of_lt (by omega), Array.getElem?_toList]
  exact ⟨key 0 (by omega), key 1 (by omega), key 2 (by omega), key 3 (by omega), key 4 (by omega)⟩
theorem RowU.free {w : World} {g : Nat} {hs : List Hu} (h : RowU w g hs) (k : Nat) : w.frozen? ⟨g, k, none⟩ = false := by
  obtain ⟨cur, hg, _⟩ := h
  exact frozen_of_row w g k _ _ hg
theorem OwnU.row {w : World} {base g n c : Nat} {hs : List Hu} (h : OwnU w base (.slice (some ⟨g, 0, none⟩) n c) hs) : RowU w g hs := by
  rcases h.2 with ⟨hv, _⟩ | ⟨g', cap, cur, hv, hb, hg, hnc, hcm, hcs, ht⟩
  · cases hv
  · injection hv with h1 h2 h3
    injection h1 with h1
    injection h1 with h1
    subst h1
    exact ⟨cur, hg, by omega, ht⟩
/-- a store of one pair into a row -/
def setU (w : World) (g k : Nat) (h : Hu) : World := ((((w.setCell ⟨g, k * 5, none⟩ (.string h.nm)).setCell ⟨g, k * 5 + 1, none⟩ (.int .i64 h.op)).setCell ⟨g, k * 5 + 2, none⟩ (.string h.s)).setCell ⟨g, k * 5 + 3, none⟩ (.int .i64 h.z)).setCell ⟨g, k * 5 + 4, none⟩ (.slice h.a h.n h.c)
def arrU (cur : Array Value) (k : Nat) (h : Hu) : Array Value := ((((cur.setIfInBounds (k * 5) (.string h.nm)).setIfInBounds (k * 5 + 1) (.int .i64 h.op)).setIfInBounds (k * 5 + 1 + 1) (.string h.s)).setIfInBounds (k * 5 + 1 + 1 + 1) (.int .i64 h.z)).setIfInBounds (k * 5 + 1 + 1 + 1 + 1) (.slice h.a h.n h.c)
theorem arrU_size (cur : Array Value) (k : Nat) (h : Hu) : (arrU cur k h).size = cur.size := by simp [arrU]
theorem setU_block {w : World} {g : Nat} {cur : Array Value} {t : TypeId} (k : Nat) (h : Hu) (hg : w.heap[g]? = some (.cells cur t (0, 0))) :
    (setU w g k h).heap[g]? = some (.cells (arrU cur k h) t (0, 0)) :=
  heap_setCell_same _ _ _ _ _ _ (heap_setCell_same _ _ _ _ _ _ (heap_setCell_same _ _ _ _ _ _ (heap_setCell_same _ _ _ _ _ _ (heap_setCell_same _ _ _ _ _ _ hg))))
theorem setU_other (w : World) (g k i : Nat) (h : Hu) (hne : i ≠ g) : (setU w g k h).heap[i]? = w.heap[i]? := by
  unfold setU
  rw [heap_setCell_other _ ⟨g, _, none⟩ i _ hne, heap_setCell_other _ ⟨g, _, none⟩ i _ hne, heap_setCell_other _ ⟨g, _, none⟩ i _ hne, heap_setCell_other _ ⟨g, _, none⟩ i _ hne, heap_setCell_other _ ⟨g, _, none⟩ i _ hne]
theorem setU_size (w : World) (g k : Nat) (h : Hu) : (setU w g k h).heap.size = w.heap.size := by simp [setU, World.setCell]
theorem setU_below {B g : Nat} {w0 w : World} (hb : Below B w0 w) (hg : B ≤ g) (k : Nat) (h : Hu) : Below B w0 (setU w g k h) :=
  below_set (below_set (below_set (below_set (below_set hb hg _ _) hg _ _) hg _ _) hg _ _) hg _ _
theorem arrU_get (cur : Array Value) (k : Nat) (h : Hu) (hk : k * 5 + 5 ≤ cur.size) (i : Nat) :
    (arrU cur k h)[i]? = if k * 5 ≤ i ∧ i < k * 5 + 5 then (h.cells)[i - k * 5]? else cur[i]? := by
  unfold arrU
  by_cases h0 : i = k * 5
  · subst h0
    rw [if_pos (by omega)]
    simp only [Array.getElem?_setIfInBounds, Array.size_setIfInBounds]
    rw [if_neg (by omega), if_neg (by omega), if_neg (by omega), if_neg (by omega), if_pos trivial, if_pos (by omega), Nat.sub_self]; rfl
  by_cases h1 : i = k * 5 + 1
  · subst h1
    rw [if_pos (by omega)]
    simp only [Array.getElem?_setIfInBounds, Array.size_setIfInBounds]
    rw [if_neg (by omega), if_neg (by omega), if_neg (by omega), if_pos trivial, if_pos (by omega), show k * 5 + 1 - k * 5 = 1 by omega]; rfl
  by_cases h2 : i = k * 5 + 1 + 1
  · subst h2
    rw [if_pos (by omega)]
    simp only [Array.getElem?_setIfInBounds, Array.size_setIfInBounds]
    rw [if_neg (by omega), if_neg (by omega), if_pos trivial, if_pos (by omega), show k * 5 + 1 + 1 - k * 5 = 2 by omega]; rfl
  by_cases h3 : i = k * 5 + 1 + 1 + 1
  · subst h3
    rw [if_pos (by omega)]
    simp only [Array.getElem?_setIfInBounds, Array.size_setIfInBounds]
    rw [if_neg (by omega), if_pos trivial, if_pos (by omega), show k * 5 + 1 + 1 + 1 - k * 5 = 3 by omega]; rfl
  by_cases h4 : i = k * 5 + 1 + 1 + 1 + 1
  · subst h4
    rw [if_pos (by omega)]
    simp only [Array.getElem?_setIfInBounds, Array.size_setIfInBounds]
    rw [if_pos trivial, if_pos (by omega), show k * 5 + 1 + 1 + 1 + 1 - k * 5 = 4 by omega]; rfl
  rw [if_neg (by omega), Array.getElem?_setIfInBounds_ne (by omega), Array.getElem?_setIfInBounds_ne (by omega), Array.getElem?_setIfInBounds_ne (by omega), Array.getElem?_setIfInBounds_ne (by omega), Array.getElem?_setIfInBounds_ne (by omega)]
theorem flatU_set (hs : List Hu) (k : Nat) (h : Hu) (hk : k < hs.length) {cur : Array Value} (hl : hs.length * 5 ≤ cur.size) (ht : cur.toList.take (hs.length * 5) = flatU hs) :
    (arrU cur k h).toList.take ((hs.set k h).length * 5) = flatU (hs.set k h) := by
  refine flatU_ext (by simp [arrU_size]; omega) fun i hi j hj => ?_
  rw [List.length_set] at hi
  rw [Array.getElem?_toList, arrU_get cur k h (by omega)]
  by_cases e : i = k
  · subst e
    rw [if_pos (by omega), show i * 5 + j - i * 5 = j by omega]
    simp
  · rw [if_neg (by omega), ← Array.getElem?_toList, ← List.getElem?_take_of_lt (show i * 5 + j < hs.length * 5 by omega), ht, flatU_get hs i j hi hj, List.getElem_set_ne (fun x => e x.symm)]
theorem RowU.set {w : World} {g : Nat} {hs : List Hu} (hr : RowU w g hs) (k : Nat) (h : Hu) (hk : k < hs.length) : RowU (setU w g k h) g (hs.set k h) := by
  obtain ⟨cur, hg, hl, ht⟩ := hr
  exact ⟨_, setU_block k h hg, by simp [arrU_size]; omega, flatU_set hs k h hk hl ht⟩
set_option maxHeartbeats 1000000 in
theorem OwnU.set {w : World} {base g n c : Nat} {hs : List Hu} (ho : OwnU w base (.slice (some ⟨g, 0, none⟩) n c) hs) (k : Nat) (h : Hu) (hk : k < hs.length) : OwnU (setU w g k h) base (.slice (some ⟨g, 0, none⟩) n c) (hs.set k h) := by
  rcases ho.2 with ⟨hv, _⟩ | ⟨g', cap, cur, hv, hb, hg, hnc, hcm, hcs, ht⟩
  · cases hv
  · have hv' := hv
    injection hv with h1 h2 h3
    injection h1 with h1
    injection h1 with h1
    subst h1
    refine ⟨by rw [flatU_len], .inr ⟨g, cap, arrU cur k h, by rw [List.length_set]; exact hv', hb, setU_block k h hg, (by rw [List.length_set]; exact hnc), hcm, (by rw [arrU_size]; exact hcs), flatU_set hs k h hk (by omega) ht⟩⟩

theorem make_pairs (n : Nat) (hn : n ≤ 1000000) (w : World) :
    (Instr.makeSlice 52 (.int .i64 (n : Int)) (.int .i64 (n : Int))).run Try.prog w = .ok (.slice (some ⟨w.heap.size, 0, none⟩) n n) (w.alloc (.cells (madeCells #[.string ⟨#[]⟩, .int .i64 0, .string ⟨#[]⟩, .int .i64 0, .slice none 0 0] (n * 5)) 54)) := by
  obtain ⟨i0, hi, hz0, hz1, hz2⟩ := info_parts pairI
  have hr := run_make (P := Try.prog) w 52 54 i0 _ Try.underlying52 hi hz0 .i64 .i64 n n (by omega) (Int.le_refl _) (by rw [hz2]; omega) (by omega)
  simp only [Int.toNat_natCast, hz1] at hr
  exact hr
theorem made_pairs (n : Nat) (hn : n ≤ 1000000) (w : World) : OwnU (w.alloc (.cells (madeCells #[.string ⟨#[]⟩, .int .i64 0, .string ⟨#[]⟩, .int .i64 0, .slice none 0 0] (n * 5)) 54)) w.heap.size (.slice (some ⟨w.heap.size, 0, none⟩) n n) (List.replicate n Hu.zero) := by
  refine ⟨by rw [flatU_len], .inr ⟨w.heap.size, n, _, by rw [List.length_replicate], Nat.le_refl _, heap_alloc_new w _, by rw [List.length_replicate]; exact Nat.le_refl _, by unfold maxLen; omega, by rw [size_madeCells], ?_⟩⟩
  show List.take ((List.replicate n Hu.zero).length * 5) _ = _
  refine flatU_ext (by simp [size_madeCells]) fun k hk j hj => ?_
  rw [List.length_replicate] at hk
  rw [List.getElem_replicate, Array.getElem?_toList]
  unfold madeCells
  rw [Array.getElem?_map, Array.getElem?_range, if_pos (by omega)]
  have hm : (k * 5 + j) % 5 = j := by omega
  have hc : j = 0 ∨ j = 1 ∨ j = 2 ∨ j = 3 ∨ j = 4 := by omega
  simp only [Option.map_some]
  show some (#[Value.string ⟨#[]⟩, .int .i64 0, .string ⟨#[]⟩, .int .i64 0, .slice none 0 0][(k * 5 + j) % 5]!) = _
  rw [hm]
  rcases hc with rfl | rfl | rfl | rfl | rfl <;> rfl

/-! lists of pairs read in blocks of a kind -/
def HuP (P : Nat → Prop) (w : World) (h : Hu) (p : Pr) : Prop := (h.nm = p.nm ∧ h.op = opT p.t ∧ h.s = nameT p.t ∧ h.z = numT p.t) ∧ ArP P w p.t h.a h.n h.c
theorem HuP.to {P Q : Nat → Prop} {w w' : World} {h : Hu} {p : Pr} (hb : ∀ b, P b → w'.heap[b]? = w.heap[b]?) (hq : ∀ b, P b → Q b) (hp : HuP P w h p) : HuP Q w' h p := ⟨hp.1, ArP.to hb hq _ hp.2⟩
def UP (P : Nat → Prop) (w : World) (A : Option Addr) (n c : Nat) (l : List Pr) : Prop :=
  n = l.length ∧ n ≤ c ∧ c ≤ maxLen ∧ (A = none → c = 0) ∧ (0 < n → ∃ b o, A = some ⟨b, o, none⟩ ∧ P b ∧ ∀ (i : Nat) (p : Pr), l[i]? = some p → ∃ h : Hu, HuP P w h p ∧ ∀ (j : Nat) (u : Value), (h.cells)[j]? = some u → w.cell? ⟨b, o + i * 5 + j, none⟩ = some u)
theorem UP.to {P Q : Nat → Prop} {w w' : World} {A : Option Addr} {n c : Nat} {l : List Pr} (h : UP P w A n c l) (hb : ∀ b, P b → w'.heap[b]? = w.heap[b]?) (hq : ∀ b, P b → Q b) : UP Q w' A n c l := by
  refine ⟨h.1, h.2.1, h.2.2.1, h.2.2.2.1, fun hn => ?_⟩
  obtain ⟨b, o, h1, h2, h3⟩ := h.2.2.2.2 hn
  refine ⟨b, o, h1, hq _ h2, fun i p hi => ?_⟩
  obtain ⟨hd, h4, h5⟩ := h3 i p hi
  exact ⟨hd, h4.to hb hq, fun j u hj => (World.cell?_of_block (hb b h2)).trans (h5 j u hj)⟩
theorem UP.below {P : Nat → Prop} {w w' : World} {A : Option Addr} {n c : Nat} {l : List Pr} (h : UP P w A n c l) (hP : ∀ b, P b → b < w.heap.size) (hb : Below w.heap.size w w') : UP P w' A n c l := h.to (fun b hp => hb.block b (hP b hp)) (fun _ h => h)
theorem UP.us {P : Nat → Prop} {w : World} {B : Nat} {A : Option Addr} {n c : Nat} {l : List Pr} (h : UP P w A n c l) (hP : ∀ b, P b → b < B) : IsU B w A n c l := by
  refine ⟨h.1, h.2.1, h.2.2.1, h.2.2.2.1, fun hn => ?_⟩
  obtain ⟨b, o, h1, h2, h3⟩ := h.2.2.2.2 hn
  refine ⟨b, o, h1, hP _ h2, fun i p hi => ?_⟩
  obtain ⟨hd, ⟨⟨e0, e1, e2, e3⟩, h4⟩, h5⟩ := h3 i p hi
  exact ⟨hd.a, hd.n, hd.c, by rw [← e0]; exact h5 0 _ rfl, by rw [← e1]; exact h5 1 _ rfl, by rw [← e2]; exact h5 2 _ rfl, by rw [← e3]; exact h5 3 _ rfl, h5 4 _ rfl, ArP.ar hP _ h4⟩
theorem IsU.up {B : Nat} {w : World} {A : Option Addr} {n c : Nat} {l : List Pr} (h : IsU B w A n c l) : UP (fun b => b < B) w A n c l := by
  refine ⟨h.1, h.2.1, h.2.2.1, h.2.2.2.1, fun hn => ?_⟩
  obtain ⟨b, o, h1, h2, h3⟩ := h.2.2.2.2 hn
  refine ⟨b, o, h1, h2, fun i p hi => ?_⟩
  obtain ⟨a', n', c', q0, q1, q2, q3, q4, q5⟩ := h3 i p hi
  refine ⟨huOf p a' n' c', ⟨⟨rfl, rfl, rfl, rfl⟩, Ar.p _ q5⟩, fun j u hj => ?_⟩
  have hj5 : j < 5 := (List.getElem?_eq_some_iff.1 hj).1
  have hc : j = 0 ∨ j = 1 ∨ j = 2 ∨ j = 3 ∨ j = 4 := by omega
  rcases hc with rfl | rfl | rfl | rfl | rfl
  · exact q0.trans hj
  · exact q1.trans hj
  · exact q2.trans hj
  · exact q3.trans hj
  · exact q4.trans hj
/-- the heads of a list of pairs -/
theorem UP.heads {P : Nat → Prop} {w : World} {A : Option Addr} {n c : Nat} {l : List Pr} (h : UP P w A n c l) (hn : 0 < n) :
    ∃ (b o : Nat) (hs : List Hu), A = some ⟨b, o, none⟩ ∧ P b ∧ hs.length = l.length ∧ (∀ (i : Nat) (hd : Hu) (p : Pr), hs[i]? = some hd → l[i]? = some p → HuP P w hd p) ∧ ∀ (j : Nat) (u : Value), (flatU hs)[j]? = some u → w.cell? ((⟨b, o, none⟩ : Addr).add j) = some u := by
  obtain ⟨b, o, h1, h2, h3⟩ := h.2.2.2.2 hn
  have key : ∀ m, m ≤ l.length → ∃ hs : List Hu, hs.length = m ∧ ∀ i hd, hs[i]? = some hd → ∃ p, l[i]? = some p ∧ HuP P w hd p ∧ ∀ j u, (hd.cells)[j]? = some u → w.cell? ⟨b, o + i * 5 + j, none⟩ = some u := by
    intro m
    induction m with
    | zero => exact fun _ => ⟨[], rfl, fun i hd hi => by simp at hi⟩
    | succ m ih =>
      intro hm
      obtain ⟨hs, hl, hh⟩ := ih (by omega)
      obtain ⟨hd, q1, q2⟩ := h3 m l[m] (List.getElem?_eq_getElem (by omega))
      refine ⟨hs ++ [hd], by simp [hl], fun i hd' hi => ?_⟩
      rcases Nat.lt_or_ge i hs.length with hlt | hge
      · rw [List.getElem?_append_left hlt] at hi
        exact hh i hd' hi
      · have hil : i < (hs ++ [hd]).length := (List.getElem?_eq_some_iff.1 hi).1
        have him : i = m := by simp at hil; omega
        subst him
        rw [List.getElem?_append_right hge, hl, Nat.sub_self] at hi
        simp only [List.getElem?_cons_zero, Option.some.injEq] at hi
        subst hi
        exact ⟨_, List.getElem?_eq_getElem (by omega), q1, q2⟩
  obtain ⟨hs, hl, hh⟩ := key l.length (Nat.le_refl _)
  refine ⟨b, o, hs, h1, h2, hl, fun i hd p hi hp => ?_, fun j u hj => ?_⟩
  · obtain ⟨p', e1, e2, _⟩ := hh i hd hi
    rw [hp] at e1
    injection e1 with e1
    rw [e1]; exact e2
  · have hjl : j < hs.length * 5 := by have := (List.getElem?_eq_some_iff.1 hj).1; rwa [flatU_len] at this
    have hk : j / 5 < hs.length := by omega
    have e : j = j / 5 * 5 + j % 5 := by omega
    rw [e, flatU_get hs (j / 5) (j % 5) hk (by omega)] at hj
    obtain ⟨p', _, _, e3⟩ := hh (j / 5) hs[j / 5] (List.getElem?_eq_getElem hk)
    have := e3 (j % 5) u hj
    rw [Go.WideShapes.add_plain]
    rwa [show o + j / 5 * 5 + j % 5 = o + j by omega] at this
/-- a row of the call's own, of pairs whose terms lie apart from it -/
def OwnP (w : World) (lo : Nat) (v : Value) (l : List Pr) : Prop := ∃ hs, OwnU w lo v hs ∧ hs.length = l.length ∧ ∀ (i : Nat) (h : Hu) (p : Pr), hs[i]? = some h → l[i]? = some p → HuP (fun b => b < w.heap.size ∧ v.ownBlock ≠ some b) w h p
theorem OwnP.nil (w : World) (lo : Nat) : OwnP w lo (.slice none 0 0) [] := ⟨[], OwnU.nil _ _, rfl, fun i h p hi => by simp at hi⟩
theorem OwnP.below {w w' : World} {lo : Nat} {v : Value} {l : List Pr} (h : OwnP w lo v l) (hb : Below w.heap.size w w') : OwnP w' lo v l := by
  obtain ⟨hs, h1, h2, h3⟩ := h
  exact ⟨hs, h1.below hb, h2, fun i h p e1 e2 => (h3 i h p e1 e2).to (fun b hp => hb.block b hp.1) (fun b hp => ⟨Nat.lt_of_lt_of_le hp.1 hb.size, hp.2⟩)⟩
theorem OwnP.base {w : World} {b b' : Nat} {v : Value} {l : List Pr} (h : OwnP w b v l) (hb : b' ≤ b) : OwnP w b' v l := by
  obtain ⟨hs, h1, h2, h3⟩ := h
  exact ⟨hs, h1.base hb, h2, h3⟩
theorem OwnP.slice {w : World} {lo : Nat} {v : Value} {l : List Pr} (h : OwnP w lo v l) : ∃ A c, v = .slice A l.length c ∧ l.length ≤ c ∧ c ≤ maxLen ∧ (A = none → c = 0) ∧ (0 < l.length → ∃ g, A = some ⟨g, 0, none⟩ ∧ lo ≤ g ∧ g < w.heap.size) := by
  obtain ⟨hs, h1, h2, h3⟩ := h
  obtain ⟨A, c, hv, q⟩ := h1.slice
  rw [h2] at hv q
  exact ⟨A, c, hv, q⟩
theorem OwnP.lt {w : World} {lo : Nat} {v : Value} {l : List Pr} (h : OwnP w lo v l) : ∀ q, v.ownBlock = some q → lo ≤ q ∧ q < w.heap.size := by
  obtain ⟨hs, h1, h2, h3⟩ := h
  exact fun q hq => World.ownsRow.lt h1 q hq
theorem OwnP.up {w : World} {lo : Nat} {A : Option Addr} {n c : Nat} {l : List Pr} (h : OwnP w lo (.slice A n c) l) : UP (fun b => b < w.heap.size) w A n c l := by
  obtain ⟨hs, h1, h2, h3⟩ := h
  obtain ⟨A', c', hv, q1, q2, q3, q4⟩ := h1.slice
  injection hv with e1 e2 e3
  subst e1 e2 e3
  refine ⟨h2, q1, q2, q3, fun hn => ?_⟩
  obtain ⟨g, rfl, hb, hlt⟩ := q4 hn
  refine ⟨g, 0, rfl, hlt, fun i p hi => ?_⟩
  have hi2 : i < hs.length := by have := (List.getElem?_eq_some_iff.1 hi).1; omega
  refine ⟨hs[i], (h3 i _ p (List.getElem?_eq_getElem hi2) hi).to (fun _ _ => rfl) (fun _ hp => hp.1), fun j u hj => ?_⟩
  have hj5 : j < 5 := (List.getElem?_eq_some_iff.1 hj).1
  obtain ⟨cur, hg, hl, ht⟩ := h1.row
  rw [Nat.zero_add, cell_of_row w g _ _ _ _ hg, ← hj, ← flatU_get hs i j hi2 hj5, ← ht, List.getElem?_take_of_lt (by omega), Array.getElem?_toList]
theorem OwnP.us {w : World} {lo : Nat} {A : Option Addr} {n c : Nat} {l : List Pr} (h : OwnP w lo (.slice A n c) l) : UsW w A n c l := h.up.us (fun _ h => h)
set_option maxRecDepth 100000 in
/-- append of pairs that lie apart from the row -/
theorem app_pairs {w : World} {ops : Array Oper} {rest : List Oper} {o : Oper} {a : Act} {Q : Exit → Act → World → Prop} (hgd : o.guard = none) (s x : Operand)
    (ho : o.op = .call { callee := .builtin .append, args := #[s, x], argTypes := #[52, 52] })
    (base : Nat) (v : Value) (Y : List Pr) (hs : a.eval s = v) (hown : OwnP w base v Y) (P : Nat → Prop) (hP : ∀ b, P b → b < w.heap.size ∧ v.ownBlock ≠ some b) (A : Option Addr) (n c : Nat) (X : List Pr) (hx : a.eval x = .slice A n c) (hX : UP P w A n c X)
    (hn : Y.length + X.length ≤ 1000000000) (hbase : base ≤ w.heap.size)
    (h : ∀ v' w', OwnP w' base v' (Y ++ X) → w.grownBy w' v.ownBlock → wpList Try.prog ops Q rest (a.put o.dst v') w') : wpList Try.prog ops Q (o :: rest) a w := by
  obtain ⟨i0, hi, hz0, hz1, hz2⟩ := info_parts pairI
  obtain ⟨hy, hy1, hy2, hy3⟩ := hown
  by_cases hn0 : n = 0
  · have hX0 : X = [] := List.eq_nil_of_length_eq_zero (by have := hX.1; omega)
    subst hX0
    subst hn0
    cases A with
    | none =>
      have hc : c = 0 := hX.2.2.2.1 rfl
      subst hc
      refine wpList_append_own_none hgd s x 52 ho base 54 i0 5 Try.underlying52 hi v hy.length (flatU hy) hs hy1 hx (h v w ?_ ⟨rfl, rfl, rfl, Nat.le_refl _, fun _ _ _ => rfl⟩)
      rw [List.append_nil]; exact ⟨hy, hy1, hy2, hy3⟩
    | some ad =>
      refine wpList_append_own_at w hgd s x 52 ho base 54 i0 _ 5 72 Try.underlying52 hi hz0 hz1 hz2 rfl (by decide) v hy.length (flatU hy) hs hy1 ad 0 c [] hx rfl (fun j u hj => by simp at hj) (fun u hu => by simp at hu) (by unfold maxLen; omega) (by omega) hbase fun v' w' h1 h2 _ h4 => h v' w' ⟨hy, ?_, by rw [List.append_nil]; exact hy2, fun i hd p e1 e2 => ?_⟩ h2
      · unfold OwnU; rw [List.append_nil] at h1; exact h1
      · rw [List.append_nil] at e2
        refine (hy3 i hd p e1 e2).to (fun b hp => h2.block b hp.1 (fun e => hp.2 e.symm)) (fun b hp => ⟨Nat.lt_of_lt_of_le hp.1 h2.size, fun e => ?_⟩)
        rcases h4 with h4 | h4
        · exact hp.2 (h4.symm.trans e)
        · rw [h4] at e; injection e with e; have := hp.1; omega
  · obtain ⟨b, ob, hs2, hA, hPb, hl2, hh2, hc2⟩ := hX.heads (by omega)
    subst hA
    have hnl : n = hs2.length := by rw [hl2]; exact hX.1
    refine wpList_append_own_at w hgd s x 52 ho base 54 i0 _ 5 72 Try.underlying52 hi hz0 hz1 hz2 rfl (by decide) v hy.length (flatU hy) hs hy1 ⟨b, ob, none⟩ n c (flatU hs2) hx (by rw [flatU_len, hnl]) hc2 (hu_one _) (by unfold maxLen; omega) (by omega) hbase fun v' w' h1 h2 _ h4 => h v' w' ⟨hy ++ hs2, ?_, by rw [List.length_append, List.length_append, hy2, hl2], fun i hd p e1 e2 => ?_⟩ h2
    · unfold OwnU; rw [List.length_append, flatU_app, ← hnl]; exact h1
    · have hto : ∀ b, b < w.heap.size ∧ v.ownBlock ≠ some b → b < w'.heap.size ∧ v'.ownBlock ≠ some b := fun b hp => ⟨Nat.lt_of_lt_of_le hp.1 h2.size, fun e => by
        rcases h4 with h4 | h4
        · exact hp.2 (h4.symm.trans e)
        · rw [h4] at e; injection e with e; have := hp.1; omega⟩
      rcases Nat.lt_or_ge i hy.length with hlt | hge
      · rw [List.getElem?_append_left hlt] at e1
        rw [List.getElem?_append_left (by rw [← hy2]; exact hlt)] at e2
        exact (hy3 i hd p e1 e2).to (fun b hp => h2.block b hp.1 (fun e => hp.2 e.symm)) hto
      · rw [List.getElem?_append_right hge] at e1
        rw [List.getElem?_append_right (by rw [← hy2]; exact hge), ← hy2] at e2
        exact (hh2 _ hd p e1 e2).to (fun b hp => h2.block b (hP b hp).1 (fun e => (hP b hp).2 e.symm)) (fun b hp => hto b (hP b hp))
end Go.Proofs.Ytacncbkcnhlpcaa.U
namespace Go.Proofs.Ytacncbkcnhlpcaa.Mt
open Go.RowKit L T C U
set_option linter.unusedVariables false
set_option linter.unusedSimpArgs false

theorem UP.take {P : Nat → Prop} {w : World} {A : Option Addr} {n c : Nat} {l : List Pr} (h : UP P w A n c l) (k : Nat) (hk : k ≤ n) : UP P w A k c (l.take k) := by
  refine ⟨by rw [List.length_take, ← h.1]; omega, Nat.le_trans hk h.2.1, h.2.2.1, h.2.2.2.1, fun hn => ?_⟩
  obtain ⟨b, o, h1, h2, h3⟩ := h.2.2.2.2 (by omega)
  exact ⟨b, o, h1, h2, fun i p hi => h3 i p (by
    rw [List.getElem?_take] at hi
    split at hi
    · exact hi
    · cases hi)⟩
theorem UP.drop {P : Nat → Prop} {w : World} {b o : Nat} {n c : Nat} {l : List Pr} (h : UP P w (some ⟨b, o, none⟩) n c l) (k : Nat) (hk : k < n) : UP P w (some ⟨b, o + k * 5, none⟩) (n - k) (c - k) (l.drop k) := by
  refine ⟨by rw [List.length_drop, ← h.1], by have := h.2.1; omega, by have := h.2.2.1; omega, (fun e => by cases e), fun hn => ?_⟩
  obtain ⟨b', o', h1, h2, h3⟩ := h.2.2.2.2 (by omega)
  injection h1 with h1
  injection h1 with e1 e2
  subst e1 e2
  refine ⟨b, o + k * 5, rfl, h2, fun i p hi => ?_⟩
  obtain ⟨hd, h4, h5⟩ := h3 (k + i) p (by rw [List.getElem?_drop] at hi; exact hi)
  refine ⟨hd, h4, fun j u hj => ?_⟩
  rw [show o + k * 5 + i * 5 + j = o + (k + i) * 5 + j by omega]
  exact h5 j u hj
theorem UP.none' {P : Nat → Prop} {w : World} {A : Option Addr} {n c : Nat} (hn : n = 0) (hc : c ≤ maxLen) (h : A = none → c = 0) : UP P w A n c [] := by subst hn; exact ⟨rfl, Nat.zero_le _, hc, h, fun h => absurd h (by omega)⟩
/-- a box of one pair as a list of one -/
theorem box_up {P : Nat → Prop} {w : World} {z : Nat} {p : Pr} {a : Option Addr} {n c : Nat} (h : UBox w z p.nm (opT p.t) (nameT p.t) (numT p.t) a n c) (hz : P z) (hA : ArP P w p.t a n c) : UP P w (some ⟨z, 0, none⟩) 1 1 [p] := by
  refine ⟨rfl, Nat.le_refl _, (by unfold maxLen; omega), (fun e => by cases e), fun _ => ⟨z, 0, rfl, hz, fun i q hi => ?_⟩⟩
  have hi0 : i = 0 := by
    have := (List.getElem?_eq_some_iff.1 hi).1
    simpa using this
  subst hi0
  injection hi with hi
  subst hi
  refine ⟨huOf p a n c, ⟨⟨rfl, rfl, rfl, rfl⟩, hA⟩, fun j u hj => ?_⟩
  have := Blk.cell h j
  rw [Nat.zero_mul, Nat.add_zero, Nat.zero_add, this, ← hj]
  show #[Value.string p.nm, .int .i64 (opT p.t), .string (nameT p.t), .int .i64 (numT p.t), .slice a n c][j]? = [Value.string p.nm, .int .i64 (opT p.t), .string (nameT p.t), .int .i64 (numT p.t), .slice a n c][j]?
  simp
end Go.Proofs.Ytacncbkcnhlpcaa.Mt
namespace Go.Proofs.Ytacncbkcnhlpcaa.U
open Go.RowKit Go.Deep Go.ChangeShapes Go.WideShapes Go.Joins L T
set_option linter.unusedVariables false
set_option linter.unusedSimpArgs false

mutual
def smT : Tm → Prop
  | .mk _ s _ l => s.size ≤ maxLen ∧ smTs l
def smTs : List Tm → Prop
  | [] => True
  | t :: l => smT t ∧ smTs l
end
theorem smTs_of : ∀ {l : List Tm}, (∀ k (h : k < l.length), smT l[k]) → smTs l
  | [], _ => trivial
  | t :: l, h => by
    rw [smTs]
    exact ⟨h 0 (by simp), smTs_of fun k hk => h (k + 1) (by simpa using hk)⟩
theorem smTs_at : ∀ {l : List Tm} {k : Nat} {t : Tm}, smTs l → l[k]? = some t → smT t
  | [], k, t, _, h => by simp at h
  | u :: l, 0, t, h, e => by rw [smTs] at h; simp at e; rw [← e]; exact h.1
  | u :: l, k + 1, t, h, e => by rw [smTs] at h; exact smTs_at h.2 (by simpa using e)
theorem smT_args {t : Tm} (h : smT t) : smTs (argsT t) := by cases t; rw [smT] at h; exact h.2
theorem smT_name {t : Tm} (h : smT t) : (nameT t).size ≤ maxLen := by cases t; rw [smT] at h; exact h.1
section
variable {H : Type} {enc : TypeId × Value → H} {W : World} {sp : Nat → Bool}
def FourS (W : World) (cs : List Value) (t : Tm) (a : Option Addr) (n c : Nat) : Prop := FourOk W cs t a n c ∧ smT t
set_option maxRecDepth 100000 in
theorem fourS_of {v0 v1 v2 v3 : Value} {n0 n1 n2 n3 : Nat} {y0 y1 y2 y3 : DataW H × List MemPlace}
    (ih : ∀ m, m ≤ n3 → ∀ (cs : List Value) (x : DataW H × List MemPlace), DataW.trod enc Try.prog W 0 (fun _ => true) true m 33 cs = some x → ∃ t a n c, FourS W cs t a n c)
    (g0 : DataW.trod enc Try.prog W 0 (fun _ => true) true n0 3 [v0] = some y0) (g1 : DataW.trod enc Try.prog W 0 (fun _ => true) true n1 9 [v1] = some y1)
    (g2 : DataW.trod enc Try.prog W 0 (fun _ => true) true n2 2 [v2] = some y2) (g3 : DataW.trod enc Try.prog W 0 (fun _ => true) true n3 31 [v3] = some y3) :
    ∃ t a n c, FourS W [v0, v1, v2, v3] t a n c := by
  obtain ⟨o, e0, _, _⟩ := DataW.trod_int (k := .i64) Try.underlying3 g0
  obtain ⟨s, e1, _, hss⟩ := DataW.trod_string Try.underlying9 g1
  obtain ⟨z, e2, _, _⟩ := DataW.trod_int (k := .i64) Try.underlying2 g2
  obtain rfl : v0 = .int .i64 o := by simpa using e0
  obtain rfl : v1 = .string s := by simpa using e1
  obtain rfl : v2 = .int .i64 z := by simpa using e2
  rcases DataW.trod_slice Try.underlying31 g3 with h0 | ⟨ad, len, cap, elems, rest, n, hn, hcs, _, _, hl, hmx, hlen, hi, _⟩
  · obtain rfl : v3 = .slice none 0 0 := by simpa using h0.1
    exact ⟨.mk o s z [], none, 0, 0, ⟨rfl, by unfold ArW; rw [Ar]; exact ⟨rfl, Nat.le_refl _, Nat.zero_le _, fun _ => rfl, fun h => absurd h (by omega)⟩⟩, by rw [smT]; exact ⟨hss, trivial⟩⟩
  · obtain rfl : v3 = .slice (some ad) len cap := by simpa using hcs
    have hC : Try.prog.cellsOf 33 = 4 := by kernel_rfl
    obtain ⟨Y, hY, hall⟩ := T.list_ofT len (P := fun i (t : Tm) => ∃ a n c, W.cell? (ad.add (i * 4)) = some (.int .i64 (opT t)) ∧ W.cell? ((ad.add (i * 4)).add 1) = some (.string (nameT t)) ∧ W.cell? ((ad.add (i * 4)).add 2) = some (.int .i64 (numT t)) ∧ W.cell? ((ad.add (i * 4)).add 3) = some (.slice a n c) ∧ ArW W t a n c ∧ smT t) (fun i hin => by
      have hq := hi i (by omega)
      rw [List.getElem?_eq_getElem (show i < elems.length by omega)] at hq
      obtain ⟨cs', h1, h2⟩ := Option.bind_eq_some_iff.1 hq
      rw [hC] at h1
      obtain ⟨_, hl2, hat⟩ := World.cells?_some h1
      obtain ⟨t, a, n', c, ⟨hf, hr⟩, hsm⟩ := ih n (by omega) _ _ h2
      subst hf
      exact ⟨t, a, n', c, by simpa [Addr.add] using hat 0 (by simp), hat 1 (by simp), hat 2 (by simp), hat 3 (by simp), hr, hsm⟩)
    refine ⟨.mk o s z Y, some ad, len, cap, ⟨rfl, ?_⟩, by rw [smT]; exact ⟨hss, smTs_of fun k hk => by obtain ⟨_, _, _, _, _, _, _, _, h⟩ := hall k hk; exact h⟩⟩
    unfold ArW
    rw [Ar]
    refine ⟨hY.symm, hl, hmx, fun h => (by cases h), fun hn => ?_⟩
    obtain ⟨b, off, spot⟩ := ad
    have hspot : spot = none := by
      obtain ⟨_, _, _, h1, _⟩ := hall 0 (by omega)
      simpa [Addr.add] using World.cell?_spot h1
    subst hspot
    refine ⟨b, off, rfl, ?_, rw_at.2 fun i hi2 => ?_⟩
    · obtain ⟨_, _, _, h1, _⟩ := hall 0 (by omega)
      rw [Go.WideShapes.add_plain] at h1
      exact World.block_lt_of_cell? _ _ h1
    · obtain ⟨a, n, c, h1, h2, h3, h4, h5, _⟩ := hall i hi2
      rw [Go.WideShapes.add_plain] at h1 h2 h3 h4
      rw [Go.WideShapes.add_plain] at h2 h3 h4
      exact ⟨a, n, c, h1, h2, h3, h4, h5⟩
set_option maxRecDepth 100000 in
theorem termS_cells : ∀ (N fuel : Nat), fuel ≤ N → ∀ (cs : List Value) (x : DataW H × List MemPlace), DataW.trod enc Try.prog W 0 (fun _ => true) true fuel 33 cs = some x → ∃ t a n c, FourS W cs t a n c
  | 0, fuel, hf, cs, x, h => by
    obtain rfl : fuel = 0 := by omega
    simp [DataW.trod] at h
  | N + 1, fuel, hf, cs, x, h => by
    obtain ⟨xs, n, hn, _, hcl, hxl, hi⟩ := DataW.trod_struct Try.underlying33 h
    have hC : Try.prog.cellsOf 33 = 4 := by kernel_rfl
    rw [hC] at hcl
    match cs, hcl with
    | [c0, c1, c2, c3], _ =>
      match xs, hxl with
      | [x0, x1, x2, x3], _ =>
        have g0 : DataW.trod enc Try.prog W 0 (fun _ => true) true n 3 (([c0, c1, c2, c3].drop 0).take (Try.prog.cellsOf 3)) = some x0 := hi 0 _ rfl
        have g1 : DataW.trod enc Try.prog W 0 (fun _ => true) true n 9 (([c0, c1, c2, c3].drop 1).take (Try.prog.cellsOf 9)) = some x1 := hi 1 _ rfl
        have g2 : DataW.trod enc Try.prog W 0 (fun _ => true) true n 2 (([c0, c1, c2, c3].drop 2).take (Try.prog.cellsOf 2)) = some x2 := hi 2 _ rfl
        have g3 : DataW.trod enc Try.prog W 0 (fun _ => true) true n 31 (([c0, c1, c2, c3].drop 3).take (Try.prog.cellsOf 31)) = some x3 := hi 3 _ rfl
        have z1 : Try.prog.cellsOf 2 = 1 := by kernel_rfl
        have z2 : Try.prog.cellsOf 9 = 1 := by kernel_rfl
        have z3 : Try.prog.cellsOf 31 = 1 := by kernel_rfl
        have z0 : Try.prog.cellsOf 3 = 1 := by kernel_rfl
        rw [z0] at g0
        rw [z1] at g2
        rw [z2] at g1
        rw [z3] at g3
        exact fourS_of (fun m hm cs' x' h' => termS_cells N m (by omega) cs' x' h') g0 g1 g2 g3


set_option maxRecDepth 100000 in
theorem termS_open_all {r : Reach} {b0 : Nat} {v : Value} {d : DataW H} {p : List MemPlace} (hv : Value.okWide Try.prog W r b0 33 v) (h : DataW.Trod enc Try.prog W 0 (fun _ => true) true 33 v d p) :
    ∃ z : TmV, v = z.val ∧ ArW W z.t z.a z.n z.c ∧ smT z.t := by
  obtain ⟨v0, v1, v2, v3, y0, y1, y2, y3, n, rfl, _, _, g0, g1, g2, g3⟩ := open_agg4 Try.underlying33 (by kernel_rfl) (by kernel_rfl) hv h
  obtain ⟨t, a, m, c, ⟨hf, hr⟩, hsm⟩ := fourS_of (fun m hm cs' x' h' => termS_cells m m (Nat.le_refl _) cs' x' h') g0 g1 g2 g3
  simp only [List.cons.injEq, and_true] at hf
  obtain ⟨rfl, rfl, rfl, rfl⟩ := hf
  exact ⟨⟨t, a, m, c⟩, rfl, hr, hsm⟩
set_option maxRecDepth 100000 in
theorem pair_cells (fuel : Nat) (cs : List Value) (x : DataW H × List MemPlace) (h : DataW.trod enc Try.prog W 0 (fun _ => true) true fuel 54 cs = some x) :
    ∃ p : Pr, ∃ a n c, cs = [.string p.nm, .int .i64 (opT p.t), .string (nameT p.t), .int .i64 (numT p.t), .slice a n c] ∧ ArW W p.t a n c ∧ smT p.t ∧ p.nm.size ≤ maxLen := by
  obtain ⟨xs, n, hn, _, hcl, hxl, hi⟩ := DataW.trod_struct Try.underlying54 h
  have hC : Try.prog.cellsOf 54 = 5 := by kernel_rfl
  rw [hC] at hcl
  match cs, hcl with
  | [c0, c1, c2, c3, c4], _ =>
    match xs, hxl with
    | [x0, x1], _ =>
      have g0 : DataW.trod enc Try.prog W 0 (fun _ => true) true n 9 (([c0, c1, c2, c3, c4].drop 0).take (Try.prog.cellsOf 9)) = some x0 := hi 0 _ rfl
      have g1 : DataW.trod enc Try.prog W 0 (fun _ => true) true n 33 (([c0, c1, c2, c3, c4].drop 1).take (Try.prog.cellsOf 33)) = some x1 := hi 1 _ rfl
      have z2 : Try.prog.cellsOf 9 = 1 := by kernel_rfl
      have z3 : Try.prog.cellsOf 33 = 4 := by kernel_rfl
      rw [z2] at g0
      rw [z3] at g1
      have g0' : DataW.trod enc Try.prog W 0 (fun _ => true) true n 9 [c0] = some x0 := g0
      obtain ⟨s, e1, _, hss⟩ := DataW.trod_string Try.underlying9 g0'
      obtain rfl : c0 = .string s := by simpa using e1
      obtain ⟨t, a, m, c, ⟨hf, hr⟩, hsm⟩ := termS_cells n n (Nat.le_refl _) _ _ g1
      have hf2 : [c1, c2, c3, c4] = [.int .i64 (opT t), .string (nameT t), .int .i64 (numT t), .slice a m c] := hf
      simp only [List.cons.injEq, and_true] at hf2
      obtain ⟨rfl, rfl, rfl, rfl⟩ := hf2
      exact ⟨⟨s, t⟩, a, m, c, rfl, hr, hsm, hss⟩
/-- names and terms of pairs, of a size that texts have -/
def smU (l : List Pr) : Prop := ∀ p ∈ l, smT p.t ∧ p.nm.size ≤ maxLen
set_option maxRecDepth 100000 in
theorem pairs_open_all {a : Option Addr} {n c : Nat} {d : DataW H} {p : List MemPlace} (h : DataW.Trod enc Try.prog W 0 (fun _ => true) true 52 (.slice a n c) d p) :
    ∃ X : List Pr, n ≤ 9223372036854775807 ∧ UsW W a n c X ∧ smU X := by
  obtain ⟨fuel, hf⟩ := h
  have g3 : DataW.trod enc Try.prog W 0 (fun _ => true) true fuel 52 [.slice a n c] = some (d, p) := by simpa [Value.cells] using hf
  rcases DataW.trod_slice Try.underlying52 g3 with h0 | ⟨ad, len, cap, elems, rest, m, hn, hcs, _, _, hl, hmx, hlen, hi, _⟩
  · have h1 : Value.slice a n c = .slice none 0 0 := by simpa using h0.1
    injection h1 with e1 e2 e3
    subst e1 e2 e3
    exact ⟨[], by omega, UsW.nil _, fun p hp => by simp at hp⟩
  · have h1 : Value.slice a n c = .slice (some ad) len cap := by simpa using hcs
    injection h1 with e1 e2 e3
    subst e1 e2 e3
    have hC : Try.prog.cellsOf 54 = 5 := by kernel_rfl
    obtain ⟨Y, hY, hall⟩ := T.list_ofT n (P := fun i (q : Pr) => ∃ a n c, W.cell? (ad.add (i * 5)) = some (.string q.nm) ∧ W.cell? ((ad.add (i * 5)).add 1) = some (.int .i64 (opT q.t)) ∧ W.cell? ((ad.add (i * 5)).add 2) = some (.string (nameT q.t)) ∧ W.cell? ((ad.add (i * 5)).add 3) = some (.int .i64 (numT q.t)) ∧ W.cell? ((ad.add (i * 5)).add 4) = some (.slice a n c) ∧ ArW W q.t a n c ∧ smT q.t ∧ q.nm.size ≤ maxLen) (fun i hin => by
      have hq := hi i (by omega)
      rw [List.getElem?_eq_getElem (show i < elems.length by omega)] at hq
      obtain ⟨cs', h1, h2⟩ := Option.bind_eq_some_iff.1 hq
      rw [hC] at h1
      obtain ⟨_, hl2, hat⟩ := World.cells?_some h1
      obtain ⟨q, a, n', c, hf, hr, hsm, hsn⟩ := pair_cells _ _ _ h2
      subst hf
      exact ⟨q, a, n', c, by simpa [Addr.add] using hat 0 (by simp), hat 1 (by simp), hat 2 (by simp), hat 3 (by simp), hat 4 (by simp), hr, hsm, hsn⟩)
    refine ⟨Y, by unfold maxLen at hmx; omega, ⟨hY.symm, hl, hmx, fun h => (by cases h), fun hn => ?_⟩, fun q hq => ?_⟩
    · obtain ⟨b, off, spot⟩ := ad
      have hspot : spot = none := by
        obtain ⟨_, _, _, h1, _⟩ := hall 0 (by omega)
        simpa [Addr.add] using World.cell?_spot h1
      subst hspot
      refine ⟨b, off, rfl, ?_, fun i q hq => ?_⟩
      · obtain ⟨_, _, _, h1, _⟩ := hall 0 (by omega)
        rw [Go.WideShapes.add_plain] at h1
        exact World.block_lt_of_cell? _ _ h1
      · obtain ⟨hi2, rfl⟩ := List.getElem?_eq_some_iff.1 hq
        obtain ⟨a, n, c, h1, h2, h3, h4, h5, h6, _⟩ := hall i hi2
        rw [Go.WideShapes.add_plain] at h1 h2 h3 h4 h5
        rw [Go.WideShapes.add_plain] at h2 h3 h4 h5
        exact ⟨a, n, c, h1, h2, h3, h4, h5, h6⟩
    · obtain ⟨i, hi2, rfl⟩ := List.getElem_of_mem hq
      obtain ⟨_, _, _, _, _, _, _, _, _, h7, h8⟩ := hall i hi2
      exact ⟨h7, h8⟩
end
end Go.Proofs.Ytacncbkcnhlpcaa.U
