/-
  What is proved: terms in new memory: each in blocks of its own, so that a write into one leaves the others.
-/
import Derived.Test.YtacncbkcnhlpcaaZLibH
namespace Go.Proofs.Ytacncbkcnhlpcaa.T
open Go.RowKit L
set_option linter.unusedVariables false
set_option linter.unusedSimpArgs false

/-- a block whose first cells are these terms -/
def Row (w : World) (g : Nat) (hs : List Hd) : Prop := ∃ cur, w.heap[g]? = some (.cells cur 33 (0, 0)) ∧ hs.length * 4 ≤ cur.size ∧ cur.toList.take (hs.length * 4) = flatH hs
theorem Row.lt {w : World} {g : Nat} {hs : List Hd} (h : Row w g hs) : g < w.heap.size := by
  obtain ⟨cur, hg, _⟩ := h
  exact (Array.getElem?_eq_some_iff.1 hg).1
theorem Row.of_block {w w' : World} {g : Nat} {hs : List Hd} (h : Row w g hs) (hb : w'.heap[g]? = w.heap[g]?) : Row w' g hs := by
  obtain ⟨cur, hg, r⟩ := h
  exact ⟨cur, hb.trans hg, r⟩
theorem Row.at {w : World} {g : Nat} {hs : List Hd} (h : Row w g hs) {k : Nat} (hk : k < hs.length) :
    w.cell? ⟨g, k * 4, none⟩ = some (.int .i64 hs[k].op) ∧ w.cell? ⟨g, k * 4 + 1, none⟩ = some (.string hs[k].nm) ∧ w.cell? ⟨g, k * 4 + 1 + 1, none⟩ = some (.int .i64 hs[k].nu) ∧ w.cell? ⟨g, k * 4 + 1 + 1 + 1, none⟩ = some (.slice hs[k].a hs[k].n hs[k].c) := by
  obtain ⟨cur, hg, hl, ht⟩ := h
  have key : ∀ j, j < 4 → w.cell? ⟨g, k * 4 + j, none⟩ = (hs[k].cells)[j]? := fun j hj => by
    rw [cell_of_row w g _ _ _ _ hg, ← flat_get hs k j hk hj, ← ht, List.getElem?_take_of_lt (by omega), Array.getElem?_toList]
  exact ⟨key 0 (by omega), key 1 (by omega), key 2 (by omega), key 3 (by omega)⟩
theorem Row.free {w : World} {g : Nat} {hs : List Hd} (h : Row w g hs) (k : Nat) : w.frozen? ⟨g, k, none⟩ = false := by
  obtain ⟨cur, hg, _⟩ := h
  exact frozen_of_row w g k _ _ hg
theorem OwnT.row {w : World} {base g n c : Nat} {hs : List Hd} (h : OwnT w base (.slice (some ⟨g, 0, none⟩) n c) hs) : Row w g hs := by
  rcases h.2 with ⟨hv, _⟩ | ⟨g', cap, cur, hv, hb, hg, hnc, hcm, hcs, ht⟩
  · cases hv
  · injection hv with h1 h2 h3
    injection h1 with h1
    injection h1 with h1
    subst h1
    exact ⟨cur, hg, by omega, ht⟩
/-- a store of one term into a row -/
def set4 (w : World) (g k : Nat) (h : Hd) : World := (((w.setCell ⟨g, k * 4, none⟩ (.int .i64 h.op)).setCell ⟨g, k * 4 + 1, none⟩ (.string h.nm)).setCell ⟨g, k * 4 + 2, none⟩ (.int .i64 h.nu)).setCell ⟨g, k * 4 + 3, none⟩ (.slice h.a h.n h.c)
theorem set4_block {w : World} {g : Nat} {cur : Array Value} {t : TypeId} (k : Nat) (h : Hd) (hg : w.heap[g]? = some (.cells cur t (0, 0))) :
    (set4 w g k h).heap[g]? = some (.cells ((((cur.setIfInBounds (k * 4) (.int .i64 h.op)).setIfInBounds (k * 4 + 1) (.string h.nm)).setIfInBounds (k * 4 + 1 + 1) (.int .i64 h.nu)).setIfInBounds (k * 4 + 1 + 1 + 1) (.slice h.a h.n h.c)) t (0, 0)) :=
  heap_setCell_same _ _ _ _ _ _ (heap_setCell_same _ _ _ _ _ _ (heap_setCell_same _ _ _ _ _ _ (heap_setCell_same _ _ _ _ _ _ hg)))
theorem set4_other (w : World) (g k i : Nat) (h : Hd) (hne : i ≠ g) : (set4 w g k h).heap[i]? = w.heap[i]? := by
  unfold set4
  rw [heap_setCell_other _ ⟨g, _, none⟩ i _ hne, heap_setCell_other _ ⟨g, _, none⟩ i _ hne, heap_setCell_other _ ⟨g, _, none⟩ i _ hne, heap_setCell_other _ ⟨g, _, none⟩ i _ hne]
theorem set4_size (w : World) (g k : Nat) (h : Hd) : (set4 w g k h).heap.size = w.heap.size := by simp [set4, World.setCell]
theorem set4_below {B g : Nat} {w0 w : World} (hb : Below B w0 w) (hg : B ≤ g) (k : Nat) (h : Hd) : Below B w0 (set4 w g k h) :=
  below_set (below_set (below_set (below_set hb hg _ _) hg _ _) hg _ _) hg _ _
theorem set4_get (cur : Array Value) (k : Nat) (h : Hd) (hk : k * 4 + 4 ≤ cur.size) (i : Nat) :
    ((((cur.setIfInBounds (k * 4) (.int .i64 h.op)).setIfInBounds (k * 4 + 1) (.string h.nm)).setIfInBounds (k * 4 + 1 + 1) (.int .i64 h.nu)).setIfInBounds (k * 4 + 1 + 1 + 1) (.slice h.a h.n h.c))[i]? = if k * 4 ≤ i ∧ i < k * 4 + 4 then (h.cells)[i - k * 4]? else cur[i]? := by
  by_cases h0 : i = k * 4
  · subst h0
    rw [if_pos (by omega)]
    simp only [Array.getElem?_setIfInBounds, Array.size_setIfInBounds]
    rw [if_neg (by omega), if_neg (by omega), if_neg (by omega), if_pos trivial, if_pos (by omega), Nat.sub_self]; rfl
  by_cases h1 : i = k * 4 + 1
  · subst h1
    rw [if_pos (by omega)]
    simp only [Array.getElem?_setIfInBounds, Array.size_setIfInBounds]
    rw [if_neg (by omega), if_neg (by omega), if_pos trivial, if_pos (by omega), show k * 4 + 1 - k * 4 = 1 by omega]; rfl
  by_cases h2 : i = k * 4 + 1 + 1
  · subst h2
    rw [if_pos (by omega)]
    simp only [Array.getElem?_setIfInBounds, Array.size_setIfInBounds]
    rw [if_neg (by omega), if_pos trivial, if_pos (by omega), show k * 4 + 1 + 1 - k * 4 = 2 by omega]; rfl
  by_cases h3 : i = k * 4 + 1 + 1 + 1
  · subst h3
    rw [if_pos (by omega)]
    simp only [Array.getElem?_setIfInBounds, Array.size_setIfInBounds]
    rw [if_pos trivial, if_pos (by omega), show k * 4 + 1 + 1 + 1 - k * 4 = 3 by omega]; rfl
  rw [if_neg (by omega), Array.getElem?_setIfInBounds_ne (by omega), Array.getElem?_setIfInBounds_ne (by omega), Array.getElem?_setIfInBounds_ne (by omega), Array.getElem?_setIfInBounds_ne (by omega)]
theorem flat_set (hs : List Hd) (k : Nat) (h : Hd) (hk : k < hs.length) {cur : Array Value} (hl : hs.length * 4 ≤ cur.size) (ht : cur.toList.take (hs.length * 4) = flatH hs) :
    ((((cur.setIfInBounds (k * 4) (.int .i64 h.op)).setIfInBounds (k * 4 + 1) (.string h.nm)).setIfInBounds (k * 4 + 1 + 1) (.int .i64 h.nu)).setIfInBounds (k * 4 + 1 + 1 + 1) (.slice h.a h.n h.c)).toList.take ((hs.set k h).length * 4) = flatH (hs.set k h) := by
  refine flat_ext (by simp; omega) fun i hi j hj => ?_
  rw [List.length_set] at hi
  rw [Array.getElem?_toList, set4_get cur k h (by omega)]
  by_cases e : i = k
  · subst e
    rw [if_pos (by omega), show i * 4 + j - i * 4 = j by omega]
    simp
  · rw [if_neg (by omega), ← Array.getElem?_toList, ← List.getElem?_take_of_lt (show i * 4 + j < hs.length * 4 by omega), ht, flat_get hs i j hi hj, List.getElem_set_ne (fun x => e x.symm)]
theorem Row.set {w : World} {g : Nat} {hs : List Hd} (hr : Row w g hs) (k : Nat) (h : Hd) (hk : k < hs.length) : Row (set4 w g k h) g (hs.set k h) := by
  obtain ⟨cur, hg, hl, ht⟩ := hr
  exact ⟨_, set4_block k h hg, by simp; omega, flat_set hs k h hk hl ht⟩
theorem OwnT.set {w : World} {base g n c : Nat} {hs : List Hd} (ho : OwnT w base (.slice (some ⟨g, 0, none⟩) n c) hs) (k : Nat) (h : Hd) (hk : k < hs.length) : OwnT (set4 w g k h) base (.slice (some ⟨g, 0, none⟩) n c) (hs.set k h) := by
  rcases ho.2 with ⟨hv, _⟩ | ⟨g', cap, cur, hv, hb, hg, hnc, hcm, hcs, ht⟩
  · cases hv
  · have hv' := hv
    injection hv with h1 h2 h3
    injection h1 with h1
    injection h1 with h1
    subst h1
    refine ⟨by rw [flat_len], .inr ⟨g, cap, _, by rw [List.length_set]; exact hv', hb, set4_block k h hg, by simpa using hnc, hcm, by simpa using hcs, flat_set hs k h hk (by omega) ht⟩⟩

theorem TBox.free {w : World} {g : Nat} {o : Int} {s : ByteArray} {z : Int} {a : Option Addr} {n c : Nat} (h : TBox w g o s z a n c) : w.frozen? ⟨g, 0, none⟩ = false ∧ w.frozen? ⟨g, 1, none⟩ = false ∧ w.frozen? ⟨g, 2, none⟩ = false ∧ w.frozen? ⟨g, 3, none⟩ = false := ⟨Blk.free h 0, Blk.free h 1, Blk.free h 2, Blk.free h 3⟩
theorem TBox.args {w : World} {g : Nat} {o : Int} {s : ByteArray} {z : Int} {a : Option Addr} {n c : Nat} (h : TBox w g o s z a n c) (a' : Option Addr) (n' c' : Nat) : TBox (w.setCell ⟨g, 3, none⟩ (.slice a' n' c')) g o s z a' n' c' := by
  have := Blk.set h 3 (.slice a' n' c')
  unfold TBox
  simpa using this
theorem TBox.far {w : World} {g x : Nat} {o : Int} {s : ByteArray} {z : Int} {a : Option Addr} {n c : Nat} (h : TBox w g o s z a n c) (hne : x ≠ g) (k : Nat) (v : Value) : TBox (w.setCell ⟨x, k, none⟩ v) g o s z a n c := Blk.far h hne k v
theorem TBox.put {w : World} {g : Nat} {o : Int} {s : ByteArray} {z : Int} {a : Option Addr} {n c : Nat} (h : TBox w g o s z a n c) (o' : Int) (s' : ByteArray) (z' : Int) (a' : Option Addr) (n' c' : Nat) :
    TBox ((((w.setCell ⟨g, 0, none⟩ (.int .i64 o')).setCell ⟨g, 1, none⟩ (.string s')).setCell ⟨g, 2, none⟩ (.int .i64 z')).setCell ⟨g, 3, none⟩ (.slice a' n' c')) g o' s' z' a' n' c' := by
  have := Blk.set (Blk.set (Blk.set (Blk.set h 0 (.int .i64 o')) 1 (.string s')) 2 (.int .i64 z')) 3 (.slice a' n' c')
  unfold TBox
  simpa using this
theorem put_other (w : World) (g i : Nat) (v0 v1 v2 v3 : Value) (hne : i ≠ g) : ((((w.setCell ⟨g, 0, none⟩ v0).setCell ⟨g, 1, none⟩ v1).setCell ⟨g, 2, none⟩ v2).setCell ⟨g, 3, none⟩ v3).heap[i]? = w.heap[i]? := by
  rw [heap_setCell_other _ ⟨g, _, none⟩ i _ hne, heap_setCell_other _ ⟨g, _, none⟩ i _ hne, heap_setCell_other _ ⟨g, _, none⟩ i _ hne, heap_setCell_other _ ⟨g, _, none⟩ i _ hne]
theorem put_below {B g : Nat} {w0 w : World} (hb : Below B w0 w) (hg : B ≤ g) (v0 v1 v2 v3 : Value) : Below B w0 ((((w.setCell ⟨g, 0, none⟩ v0).setCell ⟨g, 1, none⟩ v1).setCell ⟨g, 2, none⟩ v2).setCell ⟨g, 3, none⟩ v3) :=
  below_set (below_set (below_set (below_set hb hg _ _) hg _ _) hg _ _) hg _ _
theorem put_size (w : World) (g : Nat) (v0 v1 v2 v3 : Value) : ((((w.setCell ⟨g, 0, none⟩ v0).setCell ⟨g, 1, none⟩ v1).setCell ⟨g, 2, none⟩ v2).setCell ⟨g, 3, none⟩ v3).heap.size = w.heap.size := by simp [World.setCell]

/-! a term, a list of terms, each in blocks of its own, from lo on and below hi -/
mutual
def Fr (w : World) : Tm → Nat → Nat → Hd → Prop
  | .mk o s z l, lo, hi, h => (h.op = o ∧ h.nm = s ∧ h.nu = z) ∧ (h.n = l.length ∧ h.n ≤ h.c ∧ h.c ≤ maxLen ∧ (h.a = none → h.c = 0)) ∧ lo ≤ hi ∧ (0 < h.n → ∃ g hs, h.a = some ⟨g, 0, none⟩ ∧ lo ≤ g ∧ Row w g hs ∧ FrL w l (g + 1) hi hs)
def FrL (w : World) : List Tm → Nat → Nat → List Hd → Prop
  | [], lo, hi, hs => lo ≤ hi ∧ hs = []
  | t :: l, lo, hi, hs => ∃ h hs' mid, hs = h :: hs' ∧ Fr w t lo mid h ∧ FrL w l mid hi hs'
end
theorem Fr.le {w : World} : ∀ {t : Tm} {lo hi : Nat} {h : Hd}, Fr w t lo hi h → lo ≤ hi
  | .mk o s z l, lo, hi, h, hf => by rw [Fr] at hf; exact hf.2.2.1
theorem FrL.le {w : World} : ∀ {l : List Tm} {lo hi : Nat} {hs : List Hd}, FrL w l lo hi hs → lo ≤ hi
  | [], lo, hi, hs, hf => by rw [FrL] at hf; exact hf.1
  | t :: l, lo, hi, hs, hf => by
    rw [FrL] at hf
    obtain ⟨h, hs', mid, _, h1, h2⟩ := hf
    have := h1.le
    have := FrL.le h2
    omega
theorem FrL.len {w : World} : ∀ {l : List Tm} {lo hi : Nat} {hs : List Hd}, FrL w l lo hi hs → hs.length = l.length
  | [], lo, hi, hs, hf => by rw [FrL] at hf; rw [hf.2]; rfl
  | t :: l, lo, hi, hs, hf => by
    rw [FrL] at hf
    obtain ⟨h, hs', mid, rfl, h1, h2⟩ := hf
    rw [List.length_cons, List.length_cons, FrL.len h2]
theorem Fr.up {w : World} : ∀ {t : Tm} {lo hi hi' : Nat} {h : Hd}, hi ≤ hi' → Fr w t lo hi h → Fr w t lo hi' h
  | .mk o s z l, lo, hi, hi', h, hh, hf => by
    rw [Fr] at hf ⊢
    refine ⟨hf.1, hf.2.1, Nat.le_trans hf.2.2.1 hh, fun hn => ?_⟩
    obtain ⟨g, hs, h1, h2, h3, h4⟩ := hf.2.2.2 hn
    exact ⟨g, hs, h1, h2, h3, FrL.up hh h4⟩
where FrL.up {w : World} : ∀ {l : List Tm} {lo hi hi' : Nat} {hs : List Hd}, hi ≤ hi' → FrL w l lo hi hs → FrL w l lo hi' hs
  | [], lo, hi, hi', hs, hh, hf => by rw [FrL] at hf ⊢; exact ⟨Nat.le_trans hf.1 hh, hf.2⟩
  | t :: l, lo, hi, hi', hs, hh, hf => by
    rw [FrL] at hf ⊢
    obtain ⟨h, hs', mid, h0, h1, h2⟩ := hf
    exact ⟨h, hs', mid, h0, h1, FrL.up hh h2⟩
theorem FrL.upL {w : World} {l : List Tm} {lo hi hi' : Nat} {hs : List Hd} (h : hi ≤ hi') (hf : FrL w l lo hi hs) : FrL w l lo hi' hs := Fr.up.FrL.up h hf
mutual
/-- it stands when its own blocks stand -/
theorem Fr.same {w w' : World} : ∀ (t : Tm) {lo hi : Nat} {h : Hd}, (∀ b, lo ≤ b → b < hi → w'.heap[b]? = w.heap[b]?) → Fr w t lo hi h → Fr w' t lo hi h
  | .mk o s z l, lo, hi, h, hb, hf => by
    rw [Fr] at hf ⊢
    refine ⟨hf.1, hf.2.1, hf.2.2.1, fun hn => ?_⟩
    obtain ⟨g, hs, h1, h2, h3, h4⟩ := hf.2.2.2 hn
    have := FrL.le h4
    exact ⟨g, hs, h1, h2, h3.of_block (hb g h2 (by omega)), FrL.same l (fun b hl hu => hb b (by omega) hu) h4⟩
theorem FrL.same {w w' : World} : ∀ (l : List Tm) {lo hi : Nat} {hs : List Hd}, (∀ b, lo ≤ b → b < hi → w'.heap[b]? = w.heap[b]?) → FrL w l lo hi hs → FrL w' l lo hi hs
  | [], lo, hi, hs, hb, hf => by rw [FrL] at hf ⊢; exact hf
  | t :: l, lo, hi, hs, hb, hf => by
    rw [FrL] at hf ⊢
    obtain ⟨h, hs', mid, h0, h1, h2⟩ := hf
    have l1 := h1.le
    have l2 := FrL.le h2
    exact ⟨h, hs', mid, h0, Fr.same t (fun b hl hu => hb b hl (by omega)) h1, FrL.same l (fun b hl hu => hb b (by omega) hu) h2⟩
end
theorem FrL.at {w : World} : ∀ {l : List Tm} {lo hi : Nat} {hs : List Hd}, FrL w l lo hi hs → ∀ {k : Nat} (hk : k < l.length) (hk2 : k < hs.length), ∃ lo' hi', lo ≤ lo' ∧ hi' ≤ hi ∧ Fr w l[k] lo' hi' hs[k]
  | [], lo, hi, hs, hf, k, hk, _ => absurd hk (by simp)
  | t :: l, lo, hi, hs, hf, k, hk, hk2 => by
    rw [FrL] at hf
    obtain ⟨h, hs', mid, rfl, h1, h2⟩ := hf
    have l1 := h1.le
    have l2 := FrL.le h2
    cases k with
    | zero => exact ⟨lo, mid, Nat.le_refl _, l2, h1⟩
    | succ k =>
      obtain ⟨a, b, h3, h4, h5⟩ := FrL.at h2 (k := k) (by simpa using hk) (by simpa using hk2)
      exact ⟨a, b, by omega, h4, h5⟩
theorem FrL.snoc {w : World} {t : Tm} {h : Hd} {mid hi : Nat} (hf : Fr w t mid hi h) : ∀ {l : List Tm} {lo : Nat} {hs : List Hd}, FrL w l lo mid hs → FrL w (l ++ [t]) lo hi (hs ++ [h])
  | [], lo, hs, h1 => by
    rw [FrL] at h1
    rw [h1.2, List.nil_append, List.nil_append, FrL]
    refine ⟨h, [], hi, rfl, ?_, by rw [FrL]; exact ⟨Nat.le_refl _, rfl⟩⟩
    exact frDown h1.1 hf
  | u :: l, lo, hs, h1 => by
    rw [FrL] at h1
    obtain ⟨h', hs', mid', rfl, h2, h3⟩ := h1
    rw [List.cons_append, List.cons_append, FrL]
    exact ⟨h', _, mid', rfl, h2, FrL.snoc hf h3⟩
where frDown {w : World} {lo lo' hi : Nat} (hl : lo ≤ lo') : ∀ {t : Tm} {h : Hd}, Fr w t lo' hi h → Fr w t lo hi h
  | .mk o s z l, h, hf => by
    rw [Fr] at hf ⊢
    refine ⟨hf.1, hf.2.1, by omega, fun hn => ?_⟩
    obtain ⟨g, hs, h1, h2, h3, h4⟩ := hf.2.2.2 hn
    exact ⟨g, hs, h1, by omega, h3, h4⟩
theorem Fr.down {w : World} {lo lo' hi : Nat} {t : Tm} {h : Hd} (hl : lo ≤ lo') (hf : Fr w t lo' hi h) : Fr w t lo hi h := FrL.snoc.frDown hl hf
theorem Fr.hd {w : World} : ∀ {t : Tm} {lo hi : Nat} {h : Hd}, Fr w t lo hi h → h.op = opT t ∧ h.nm = nameT t ∧ h.nu = numT t
  | .mk o s z l, lo, hi, h, hf => by rw [Fr] at hf; exact hf.1
mutual
/-- it reads as the term -/
theorem Fr.ar {w : World} {B : Nat} : ∀ (t : Tm) {lo hi : Nat} {h : Hd}, hi ≤ B → Fr w t lo hi h → Ar B w t h.a h.n h.c
  | .mk o s z l, lo, hi, h, hB, hf => by
    rw [Fr] at hf
    rw [Ar]
    refine ⟨hf.2.1.1, hf.2.1.2.1, hf.2.1.2.2.1, hf.2.1.2.2.2, fun hn => ?_⟩
    obtain ⟨g, hs, h1, h2, h3, h4⟩ := hf.2.2.2 hn
    have := FrL.le h4
    have hl := FrL.len h4
    refine ⟨g, 0, h1, by omega, rw_at.2 fun k hk => ?_⟩
    have hk2 : k < hs.length := by omega
    obtain ⟨c0, c1, c2, c3⟩ := h3.at hk2
    have h5 := FrL.ar l hB h4 k hk hk2
    rw [Nat.zero_add]
    exact ⟨_, _, _, by rw [← h5.1.1]; exact c0, by rw [← h5.1.2.1]; exact c1, by rw [← h5.1.2.2]; exact c2, c3, h5.2⟩
theorem FrL.ar {w : World} {B : Nat} : ∀ (l : List Tm) {lo hi : Nat} {hs : List Hd}, hi ≤ B → FrL w l lo hi hs → ∀ k (hk : k < l.length) (hk2 : k < hs.length), (hs[k].op = opT l[k] ∧ hs[k].nm = nameT l[k] ∧ hs[k].nu = numT l[k]) ∧ Ar B w l[k] hs[k].a hs[k].n hs[k].c
  | [], lo, hi, hs, hB, hf, k, hk, _ => absurd hk (by simp)
  | t :: l, lo, hi, hs, hB, hf, k, hk, hk2 => by
    rw [FrL] at hf
    obtain ⟨h, hs', mid, rfl, h1, h2⟩ := hf
    have l2 := FrL.le h2
    cases k with
    | zero => exact ⟨h1.hd, Fr.ar t (by omega) h1⟩
    | succ k => exact FrL.ar l hB h2 k (by simpa using hk) (by simpa using hk2)
end
end Go.Proofs.Ytacncbkcnhlpcaa.T
