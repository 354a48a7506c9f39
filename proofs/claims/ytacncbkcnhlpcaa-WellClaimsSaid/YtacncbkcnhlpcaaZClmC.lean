/-
  What is proved: stores of a claim into a row; claims in new memory: each in blocks of its own.
-/
import Derived.Test.YtacncbkcnhlpcaaZClmB
namespace Go.Proofs.Ytacncbkcnhlpcaa.C
open Go.RowKit L T
set_option linter.unusedVariables false
set_option linter.unusedSimpArgs false

/-- a block whose first cells are these claims -/
def RowC (w : World) (g : Nat) (hs : List Hc) : Prop := ∃ cur, w.heap[g]? = some (.cells cur 46 (0, 0)) ∧ hs.length * 5 ≤ cur.size ∧ cur.toList.take (hs.length * 5) = flatC hs
theorem RowC.lt {w : World} {g : Nat} {hs : List Hc} (h : RowC w g hs) : g < w.heap.size := by
  obtain ⟨cur, hg, _⟩ := h
  exact (Array.getElem?_eq_some_iff.1 hg).1
theorem RowC.of_block {w w' : World} {g : Nat} {hs : List Hc} (h : RowC w g hs) (hb : w'.heap[g]? = w.heap[g]?) : RowC w' g hs := by
  obtain ⟨cur, hg, r⟩ := h
  exact ⟨cur, hb.trans hg, r⟩
theorem RowC.at {w : World} {g : Nat} {hs : List Hc} (h : RowC w g hs) {k : Nat} (hk : k < hs.length) :
    w.cell? ⟨g, k * 5, none⟩ = some (.int .i64 hs[k].op) ∧ w.cell? ⟨g, k * 5 + 1, none⟩ = some (.string hs[k].nm) ∧ w.cell? ⟨g, k * 5 + 1 + 1, none⟩ = some (.string hs[k].so) ∧ w.cell? ⟨g, k * 5 + 1 + 1 + 1, none⟩ = some (.slice hs[k].k.a hs[k].k.n hs[k].k.c) ∧ w.cell? ⟨g, k * 5 + 1 + 1 + 1 + 1, none⟩ = some (.slice hs[k].a hs[k].n hs[k].c) := by
  obtain ⟨cur, hg, hl, ht⟩ := h
  have key : ∀ j, j < 5 → w.cell? ⟨g, k * 5 + j, none⟩ = (hs[k].cells)[j]? := fun j hj => by
    rw [cell_of_row w g _ _ _ _ hg, ← flatC_get hs k j hk hj, ← ht, List.getElem?_take_of_lt (by omega), Array.getElem?_toList]
  exact ⟨key 0 (by omega), key 1 (by omega), key 2 (by omega), key 3 (by omega), key 4 (by omega)⟩
theorem RowC.free {w : World} {g : Nat} {hs : List Hc} (h : RowC w g hs) (k : Nat) : w.frozen? ⟨g, k, none⟩ = false := by
  obtain ⟨cur, hg, _⟩ := h
  exact frozen_of_row w g k _ _ hg
theorem OwnC.row {w : World} {base g n c : Nat} {hs : List Hc} (h : OwnC w base (.slice (some ⟨g, 0, none⟩) n c) hs) : RowC w g hs := by
  rcases h.2 with ⟨hv, _⟩ | ⟨g', cap, cur, hv, hb, hg, hnc, hcm, hcs, ht⟩
  · cases hv
  · injection hv with h1 h2 h3
    injection h1 with h1
    injection h1 with h1
    subst h1
    exact ⟨cur, hg, by omega, ht⟩
/-- a store of one claim into a row -/
def set5 (w : World) (g k : Nat) (h : Hc) : World := ((((w.setCell ⟨g, k * 5, none⟩ (.int .i64 h.op)).setCell ⟨g, k * 5 + 1, none⟩ (.string h.nm)).setCell ⟨g, k * 5 + 2, none⟩ (.string h.so)).setCell ⟨g, k * 5 + 3, none⟩ (.slice h.k.a h.k.n h.k.c)).setCell ⟨g, k * 5 + 4, none⟩ (.slice h.a h.n h.c)
def arr5 (cur : Array Value) (k : Nat) (h : Hc) : Array Value := ((((cur.setIfInBounds (k * 5) (.int .i64 h.op)).setIfInBounds (k * 5 + 1) (.string h.nm)).setIfInBounds (k * 5 + 1 + 1) (.string h.so)).setIfInBounds (k * 5 + 1 + 1 + 1) (.slice h.k.a h.k.n h.k.c)).setIfInBounds (k * 5 + 1 + 1 + 1 + 1) (.slice h.a h.n h.c)
theorem arr5_size (cur : Array Value) (k : Nat) (h : Hc) : (arr5 cur k h).size = cur.size := by simp [arr5]
theorem set5_block {w : World} {g : Nat} {cur : Array Value} {t : TypeId} (k : Nat) (h : Hc) (hg : w.heap[g]? = some (.cells cur t (0, 0))) :
    (set5 w g k h).heap[g]? = some (.cells (arr5 cur k h) t (0, 0)) :=
  heap_setCell_same _ _ _ _ _ _ (heap_setCell_same _ _ _ _ _ _ (heap_setCell_same _ _ _ _ _ _ (heap_setCell_same _ _ _ _ _ _ (heap_setCell_same _ _ _ _ _ _ hg))))
theorem set5_other (w : World) (g k i : Nat) (h : Hc) (hne : i ≠ g) : (set5 w g k h).heap[i]? = w.heap[i]? := by
  unfold set5
  rw [heap_setCell_other _ ⟨g, _, none⟩ i _ hne, heap_setCell_other _ ⟨g, _, none⟩ i _ hne, heap_setCell_other _ ⟨g, _, none⟩ i _ hne, heap_setCell_other _ ⟨g, _, none⟩ i _ hne, heap_setCell_other _ ⟨g, _, none⟩ i _ hne]
theorem set5_size (w : World) (g k : Nat) (h : Hc) : (set5 w g k h).heap.size = w.heap.size := by simp [set5, World.setCell]
theorem set5_below {B g : Nat} {w0 w : World} (hb : Below B w0 w) (hg : B ≤ g) (k : Nat) (h : Hc) : Below B w0 (set5 w g k h) :=
  below_set (below_set (below_set (below_set (below_set hb hg _ _) hg _ _) hg _ _) hg _ _) hg _ _
theorem arr5_get (cur : Array Value) (k : Nat) (h : Hc) (hk : k * 5 + 5 ≤ cur.size) (i : Nat) :
    (arr5 cur k h)[i]? = if k * 5 ≤ i ∧ i < k * 5 + 5 then (h.cells)[i - k * 5]? else cur[i]? := by
  unfold arr5
  by_cases h0 : i = k * 5
  · subst h0
    rw [if_pos (by omega)]
    simp only [Array.getElem?_setIfInBounds, Array.size_setIfInBounds]
    rw [if_neg (by omega), if_neg (by omega), if_neg (by omega), if_neg (by omega), if_pos trivial, if_pos (by omega), Nat.sub_self]; rfl
  by_cases h1 : i = k * 5 + 1
  · subst h1
    rw [if_pos (by omega)]
    simp only [Array.getElem?_setIfInBounds, Array.size_setIfInBounds]
    rw [if_neg (by omega), if_neg (by omega), if_neg (by omega), if_pos trivial, if_pos (by omega), show k * 5 + 1 - k * 5 = 1 by omega]; rfl
  by_cases h2 : i = k * 5 + 1 + 1
  · subst h2
    rw [if_pos (by omega)]
    simp only [Array.getElem?_setIfInBounds, Array.size_setIfInBounds]
    rw [if_neg (by omega), if_neg (by omega), if_pos trivial, if_pos (by omega), show k * 5 + 1 + 1 - k * 5 = 2 by omega]; rfl
  by_cases h3 : i = k * 5 + 1 + 1 + 1
  · subst h3
    rw [if_pos (by omega)]
    simp only [Array.getElem?_setIfInBounds, Array.size_setIfInBounds]
    rw [if_neg (by omega), if_pos trivial, if_pos (by omega), show k * 5 + 1 + 1 + 1 - k * 5 = 3 by omega]; rfl
  by_cases h4 : i = k * 5 + 1 + 1 + 1 + 1
  · subst h4
    rw [if_pos (by omega)]
    simp only [Array.getElem?_setIfInBounds, Array.size_setIfInBounds]
    rw [if_pos trivial, if_pos (by omega), show k * 5 + 1 + 1 + 1 + 1 - k * 5 = 4 by omega]; rfl
  rw [if_neg (by omega), Array.getElem?_setIfInBounds_ne (by omega), Array.getElem?_setIfInBounds_ne (by omega), Array.getElem?_setIfInBounds_ne (by omega), Array.getElem?_setIfInBounds_ne (by omega), Array.getElem?_setIfInBounds_ne (by omega)]
theorem flatC_set (hs : List Hc) (k : Nat) (h : Hc) (hk : k < hs.length) {cur : Array Value} (hl : hs.length * 5 ≤ cur.size) (ht : cur.toList.take (hs.length * 5) = flatC hs) :
    (arr5 cur k h).toList.take ((hs.set k h).length * 5) = flatC (hs.set k h) := by
  refine flatC_ext (by simp [arr5_size]; omega) fun i hi j hj => ?_
  rw [List.length_set] at hi
  rw [Array.getElem?_toList, arr5_get cur k h (by omega)]
  by_cases e : i = k
  · subst e
    rw [if_pos (by omega), show i * 5 + j - i * 5 = j by omega]
    simp
  · rw [if_neg (by omega), ← Array.getElem?_toList, ← List.getElem?_take_of_lt (show i * 5 + j < hs.length * 5 by omega), ht, flatC_get hs i j hi hj, List.getElem_set_ne (fun x => e x.symm)]
theorem RowC.set {w : World} {g : Nat} {hs : List Hc} (hr : RowC w g hs) (k : Nat) (h : Hc) (hk : k < hs.length) : RowC (set5 w g k h) g (hs.set k h) := by
  obtain ⟨cur, hg, hl, ht⟩ := hr
  exact ⟨_, set5_block k h hg, by simp [arr5_size]; omega, flatC_set hs k h hk hl ht⟩
set_option maxHeartbeats 1000000 in
theorem OwnC.set {w : World} {base g n c : Nat} {hs : List Hc} (ho : OwnC w base (.slice (some ⟨g, 0, none⟩) n c) hs) (k : Nat) (h : Hc) (hk : k < hs.length) : OwnC (set5 w g k h) base (.slice (some ⟨g, 0, none⟩) n c) (hs.set k h) := by
  rcases ho.2 with ⟨hv, _⟩ | ⟨g', cap, cur, hv, hb, hg, hnc, hcm, hcs, ht⟩
  · cases hv
  · have hv' := hv
    injection hv with h1 h2 h3
    injection h1 with h1
    injection h1 with h1
    subst h1
    refine ⟨by rw [flatC_len], .inr ⟨g, cap, arr5 cur k h, by rw [List.length_set]; exact hv', hb, set5_block k h hg, (by rw [List.length_set]; exact hnc), hcm, (by rw [arr5_size]; exact hcs), flatC_set hs k h hk (by omega) ht⟩⟩

/-! claims, each in blocks of its own, from lo on and below hi -/
def FrK (w : World) (ts : List Tm) (lo hi : Nat) (k : SS) : Prop := Fr w (.mk 0 ⟨#[]⟩ 0 ts) lo hi ⟨0, ⟨#[]⟩, 0, k.a, k.n, k.c⟩
theorem FrK.le {w : World} {ts : List Tm} {lo hi : Nat} {k : SS} (h : FrK w ts lo hi k) : lo ≤ hi := Fr.le h
theorem FrK.same {w w' : World} {ts : List Tm} {lo hi : Nat} {k : SS} (hb : ∀ b, lo ≤ b → b < hi → w'.heap[b]? = w.heap[b]?) (h : FrK w ts lo hi k) : FrK w' ts lo hi k := Fr.same _ hb h
theorem FrK.down {w : World} {ts : List Tm} {lo lo' hi : Nat} {k : SS} (hl : lo ≤ lo') (h : FrK w ts lo' hi k) : FrK w ts lo hi k := Fr.down hl h
theorem FrK.up {w : World} {ts : List Tm} {lo hi hi' : Nat} {k : SS} (hl : hi ≤ hi') (h : FrK w ts lo hi k) : FrK w ts lo hi' k := Fr.up hl h
theorem FrK.ks {w : World} {B : Nat} {ts : List Tm} {lo hi : Nat} {k : SS} (hB : hi ≤ B) (h : FrK w ts lo hi k) : IsK B w k ts := ar_isT.1 (Fr.ar _ hB h)
mutual
def FrC (w : World) : Cl → Nat → Nat → Hc → Prop
  | .mk o s z ts l, lo, hi, h => (h.op = o ∧ h.nm = s ∧ h.so = z) ∧ ∃ mid, FrK w ts lo mid h.k ∧ (h.n = l.length ∧ h.n ≤ h.c ∧ h.c ≤ maxLen ∧ (h.a = none → h.c = 0)) ∧ mid ≤ hi ∧ (0 < h.n → ∃ g hs, h.a = some ⟨g, 0, none⟩ ∧ mid ≤ g ∧ RowC w g hs ∧ FrCL w l (g + 1) hi hs)
def FrCL (w : World) : List Cl → Nat → Nat → List Hc → Prop
  | [], lo, hi, hs => lo ≤ hi ∧ hs = []
  | t :: l, lo, hi, hs => ∃ h hs' mid, hs = h :: hs' ∧ FrC w t lo mid h ∧ FrCL w l mid hi hs'
end
theorem FrC.le {w : World} : ∀ {t : Cl} {lo hi : Nat} {h : Hc}, FrC w t lo hi h → lo ≤ hi
  | .mk o s z ts l, lo, hi, h, hf => by
    rw [FrC] at hf
    obtain ⟨_, mid, h1, _, h3, _⟩ := hf
    exact Nat.le_trans h1.le h3
theorem FrCL.le {w : World} : ∀ {l : List Cl} {lo hi : Nat} {hs : List Hc}, FrCL w l lo hi hs → lo ≤ hi
  | [], lo, hi, hs, hf => by rw [FrCL] at hf; exact hf.1
  | t :: l, lo, hi, hs, hf => by
    rw [FrCL] at hf
    obtain ⟨h, hs', mid, _, h1, h2⟩ := hf
    exact Nat.le_trans h1.le (FrCL.le h2)
theorem FrCL.len {w : World} : ∀ {l : List Cl} {lo hi : Nat} {hs : List Hc}, FrCL w l lo hi hs → hs.length = l.length
  | [], lo, hi, hs, hf => by rw [FrCL] at hf; rw [hf.2]; rfl
  | t :: l, lo, hi, hs, hf => by
    rw [FrCL] at hf
    obtain ⟨h, hs', mid, rfl, h1, h2⟩ := hf
    rw [List.length_cons, List.length_cons, FrCL.len h2]
mutual
theorem FrC.up {w : World} : ∀ {t : Cl} {lo hi hi' : Nat} {h : Hc}, hi ≤ hi' → FrC w t lo hi h → FrC w t lo hi' h
  | .mk o s z ts l, lo, hi, hi', h, hh, hf => by
    rw [FrC] at hf ⊢
    obtain ⟨h0, mid, h1, h2, h3, h4⟩ := hf
    refine ⟨h0, mid, h1, h2, Nat.le_trans h3 hh, fun hn => ?_⟩
    obtain ⟨g, hs, e1, e2, e3, e4⟩ := h4 hn
    exact ⟨g, hs, e1, e2, e3, FrCL.up hh e4⟩
theorem FrCL.up {w : World} : ∀ {l : List Cl} {lo hi hi' : Nat} {hs : List Hc}, hi ≤ hi' → FrCL w l lo hi hs → FrCL w l lo hi' hs
  | [], lo, hi, hi', hs, hh, hf => by rw [FrCL] at hf ⊢; exact ⟨Nat.le_trans hf.1 hh, hf.2⟩
  | t :: l, lo, hi, hi', hs, hh, hf => by
    rw [FrCL] at hf ⊢
    obtain ⟨h, hs', mid, h0, h1, h2⟩ := hf
    exact ⟨h, hs', mid, h0, h1, FrCL.up hh h2⟩
end
mutual
theorem FrC.same {w w' : World} : ∀ (t : Cl) {lo hi : Nat} {h : Hc}, (∀ b, lo ≤ b → b < hi → w'.heap[b]? = w.heap[b]?) → FrC w t lo hi h → FrC w' t lo hi h
  | .mk o s z ts l, lo, hi, h, hb, hf => by
    rw [FrC] at hf ⊢
    obtain ⟨h0, mid, h1, h2, h3, h4⟩ := hf
    have l1 := h1.le
    refine ⟨h0, mid, h1.same (fun b x y => hb b x (by omega)), h2, h3, fun hn => ?_⟩
    obtain ⟨g, hs, e1, e2, e3, e4⟩ := h4 hn
    have := FrCL.le e4
    exact ⟨g, hs, e1, e2, e3.of_block (hb g (by omega) (by omega)), FrCL.same l (fun b hl hu => hb b (by omega) hu) e4⟩
theorem FrCL.same {w w' : World} : ∀ (l : List Cl) {lo hi : Nat} {hs : List Hc}, (∀ b, lo ≤ b → b < hi → w'.heap[b]? = w.heap[b]?) → FrCL w l lo hi hs → FrCL w' l lo hi hs
  | [], lo, hi, hs, hb, hf => by rw [FrCL] at hf ⊢; exact hf
  | t :: l, lo, hi, hs, hb, hf => by
    rw [FrCL] at hf ⊢
    obtain ⟨h, hs', mid, h0, h1, h2⟩ := hf
    have l1 := h1.le
    have l2 := FrCL.le h2
    exact ⟨h, hs', mid, h0, FrC.same t (fun b hl hu => hb b hl (by omega)) h1, FrCL.same l (fun b hl hu => hb b (by omega) hu) h2⟩
end
theorem FrC.down {w : World} {lo lo' hi : Nat} (hl : lo ≤ lo') : ∀ {t : Cl} {h : Hc}, FrC w t lo' hi h → FrC w t lo hi h
  | .mk o s z ts l, h, hf => by
    rw [FrC] at hf ⊢
    obtain ⟨h0, mid, h1, h2, h3, h4⟩ := hf
    exact ⟨h0, mid, h1.down hl, h2, h3, h4⟩
theorem FrCL.snoc {w : World} {t : Cl} {h : Hc} {mid hi : Nat} (hf : FrC w t mid hi h) : ∀ {l : List Cl} {lo : Nat} {hs : List Hc}, FrCL w l lo mid hs → FrCL w (l ++ [t]) lo hi (hs ++ [h])
  | [], lo, hs, h1 => by
    rw [FrCL] at h1
    rw [h1.2, List.nil_append, List.nil_append, FrCL]
    exact ⟨h, [], hi, rfl, FrC.down h1.1 hf, by rw [FrCL]; exact ⟨Nat.le_refl _, rfl⟩⟩
  | u :: l, lo, hs, h1 => by
    rw [FrCL] at h1
    obtain ⟨h', hs', mid', rfl, h2, h3⟩ := h1
    rw [List.cons_append, List.cons_append, FrCL]
    exact ⟨h', _, mid', rfl, h2, FrCL.snoc hf h3⟩
theorem FrC.hd {w : World} : ∀ {t : Cl} {lo hi : Nat} {h : Hc}, FrC w t lo hi h → h.op = opC t ∧ h.nm = nmC t ∧ h.so = soC t
  | .mk o s z ts l, lo, hi, h, hf => by rw [FrC] at hf; exact hf.1
mutual
theorem FrC.ar {w : World} {B : Nat} : ∀ (t : Cl) {lo hi : Nat} {h : Hc}, hi ≤ B → FrC w t lo hi h → ArC B w t h.k h.a h.n h.c
  | .mk o s z ts l, lo, hi, h, hB, hf => by
    rw [FrC] at hf
    rw [ArC]
    obtain ⟨h0, mid, h1, h2, h3, h4⟩ := hf
    refine ⟨h1.ks (by omega), h2.1, h2.2.1, h2.2.2.1, h2.2.2.2, fun hn => ?_⟩
    obtain ⟨g, hs, e1, e2, e3, e4⟩ := h4 hn
    have := FrCL.le e4
    have hl := FrCL.len e4
    refine ⟨g, 0, e1, by omega, rwc_at.2 fun k hk => ?_⟩
    have hk2 : k < hs.length := by omega
    obtain ⟨c0, c1, c2, c3, c4⟩ := e3.at hk2
    have h5 := FrCL.ar l hB e4 k hk hk2
    rw [Nat.zero_add]
    exact ⟨_, _, _, _, by rw [← h5.1.1]; exact c0, by rw [← h5.1.2.1]; exact c1, by rw [← h5.1.2.2]; exact c2, c3, c4, h5.2⟩
theorem FrCL.ar {w : World} {B : Nat} : ∀ (l : List Cl) {lo hi : Nat} {hs : List Hc}, hi ≤ B → FrCL w l lo hi hs → ∀ k (hk : k < l.length) (hk2 : k < hs.length), (hs[k].op = opC l[k] ∧ hs[k].nm = nmC l[k] ∧ hs[k].so = soC l[k]) ∧ ArC B w l[k] hs[k].k hs[k].a hs[k].n hs[k].c
  | [], lo, hi, hs, hB, hf, k, hk, _ => absurd hk (by simp)
  | t :: l, lo, hi, hs, hB, hf, k, hk, hk2 => by
    rw [FrCL] at hf
    obtain ⟨h, hs', mid, rfl, h1, h2⟩ := hf
    have l2 := FrCL.le h2
    cases k with
    | zero => exact ⟨h1.hd, FrC.ar t (by omega) h1⟩
    | succ k => exact FrCL.ar l hB h2 k (by simpa using hk) (by simpa using hk2)
end
end Go.Proofs.Ytacncbkcnhlpcaa.C
