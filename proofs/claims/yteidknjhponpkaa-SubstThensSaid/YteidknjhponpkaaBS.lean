/-
  What is proved: lists of pairs in memory: how a slice of pairs reads, what keeps it; a pair put into a block.
  What is proved: rows of pairs of the call's own: made, stored into, read, appended to; lists of pairs read in blocks of a kind.
  What is proved: a list of pairs in new memory, as package subst copies it.
  What is proved: the library's Clone of a list of pairs; its stable sort and CompactFunc of fewer than twenty pairs whose names rise.
-/
import Derived.Test.YteidknjhponpkaaBL
import Derived.Test.YteidknjhponpkaaBC
import Derived.Test.YteidknjhponpkaaBT
import Derived.Deep.AppendLies
import Derived.Test.YteidknjhponpkaaBB
import Derived.Deep.RegionHeld3
namespace Go.Proofs.Yteidknjhponpkaa.U
open Go.RowKit L T
set_option linter.unusedVariables false
set_option linter.unusedSimpArgs false

/-- a pair: a name, and the term in its place -/
structure Pr where
  nm : ByteArray
  t : Tm
/-- the five cells of a pair, and what they lead to -/
def AtU (B : Nat) (w : World) (b o : Nat) (p : Pr) (a : Option Addr) (n c : Nat) : Prop :=
  w.cell? ⟨b, o, none⟩ = some (.string p.nm) ∧ w.cell? ⟨b, o + 1, none⟩ = some (.int .i64 (opT p.t)) ∧ w.cell? ⟨b, o + 1 + 1, none⟩ = some (.string (nameT p.t)) ∧ w.cell? ⟨b, o + 1 + 1 + 1, none⟩ = some (.int .i64 (numT p.t)) ∧ w.cell? ⟨b, o + 1 + 1 + 1 + 1, none⟩ = some (.slice a n c) ∧ Ar B w p.t a n c
/-- a slice that reads as these pairs -/
def IsU (B : Nat) (w : World) (a : Option Addr) (n c : Nat) (l : List Pr) : Prop :=
  n = l.length ∧ n ≤ c ∧ c ≤ maxLen ∧ (a = none → c = 0) ∧ (0 < n → ∃ b o, a = some ⟨b, o, none⟩ ∧ b < B ∧ ∀ i p, l[i]? = some p → ∃ a' n' c', AtU B w b (o + i * 5) p a' n' c')
theorem AtU.bel {B : Nat} {w w' : World} (hb : Below B w w') {b o : Nat} (hl : b < B) {p : Pr} {a : Option Addr} {n c : Nat} (h : AtU B w b o p a n c) : AtU B w' b o p a n c :=
  ⟨(hb.cell (p := ⟨b, _, none⟩) hl).trans h.1, (hb.cell (p := ⟨b, _, none⟩) hl).trans h.2.1, (hb.cell (p := ⟨b, _, none⟩) hl).trans h.2.2.1, (hb.cell (p := ⟨b, _, none⟩) hl).trans h.2.2.2.1, (hb.cell (p := ⟨b, _, none⟩) hl).trans h.2.2.2.2.1, Ar.bel hb _ h.2.2.2.2.2⟩
theorem AtU.mono {B B' : Nat} {w : World} (hB : B ≤ B') {b o : Nat} {p : Pr} {a : Option Addr} {n c : Nat} (h : AtU B w b o p a n c) : AtU B' w b o p a n c :=
  ⟨h.1, h.2.1, h.2.2.1, h.2.2.2.1, h.2.2.2.2.1, Ar.mono hB _ h.2.2.2.2.2⟩
theorem IsU.bel {B : Nat} {w w' : World} {a : Option Addr} {n c : Nat} {l : List Pr} (h : IsU B w a n c l) (hb : Below B w w') : IsU B w' a n c l :=
  ⟨h.1, h.2.1, h.2.2.1, h.2.2.2.1, fun hn => by
    obtain ⟨b, o, ha, hlt, hr⟩ := h.2.2.2.2 hn
    exact ⟨b, o, ha, hlt, fun i p hi => by obtain ⟨a', n', c', q⟩ := hr i p hi; exact ⟨a', n', c', q.bel hb hlt⟩⟩⟩
theorem IsU.mono {B B' : Nat} {w : World} {a : Option Addr} {n c : Nat} {l : List Pr} (h : IsU B w a n c l) (hB : B ≤ B') : IsU B' w a n c l :=
  ⟨h.1, h.2.1, h.2.2.1, h.2.2.2.1, fun hn => by
    obtain ⟨b, o, ha, hlt, hr⟩ := h.2.2.2.2 hn
    exact ⟨b, o, ha, by omega, fun i p hi => by obtain ⟨a', n', c', q⟩ := hr i p hi; exact ⟨a', n', c', q.mono hB⟩⟩⟩
abbrev UsW (w : World) (a : Option Addr) (n c : Nat) (l : List Pr) : Prop := IsU w.heap.size w a n c l
theorem UsW.b {w w' : World} {a : Option Addr} {n c : Nat} {l : List Pr} (h : UsW w a n c l) (hb : Below w.heap.size w w') : UsW w' a n c l := (h.bel hb).mono hb.size
theorem UsW.nil (w : World) : UsW w none 0 0 [] := ⟨rfl, Nat.le_refl _, Nat.zero_le _, fun _ => rfl, fun h => absurd h (by omega)⟩
theorem IsU.at {B : Nat} {w : World} {a : Option Addr} {n c k : Nat} {l : List Pr} (h : IsU B w a n c l) (hk : k < n) :
    ∃ b o p a' n' c', a = some ⟨b, o, none⟩ ∧ b < B ∧ w.cell? ⟨b, o + k * 5, none⟩ = some (.string p.nm) ∧ w.cell? ⟨b, o + k * 5 + 1, none⟩ = some (.int .i64 (opT p.t)) ∧ w.cell? ⟨b, o + k * 5 + 1 + 1, none⟩ = some (.string (nameT p.t)) ∧ w.cell? ⟨b, o + k * 5 + 1 + 1 + 1, none⟩ = some (.int .i64 (numT p.t)) ∧ w.cell? ⟨b, o + k * 5 + 1 + 1 + 1 + 1, none⟩ = some (.slice a' n' c') ∧ l[k]? = some p ∧ Ar B w p.t a' n' c' := by
  obtain ⟨b, o, ha, hlt, hr⟩ := h.2.2.2.2 (by omega)
  have hk2 : k < l.length := by rw [← h.1]; exact hk
  obtain ⟨a', n', c', h0, h1, h2, h3, h4, h5⟩ := hr k l[k] (List.getElem?_eq_getElem hk2)
  exact ⟨b, o, l[k], a', n', c', ha, hlt, h0, h1, h2, h3, h4, List.getElem?_eq_getElem _, h5⟩
theorem IsU.lt63 {B : Nat} {w : World} {a : Option Addr} {n c : Nat} {l : List Pr} (h : IsU B w a n c l) : n ≤ 9223372036854775807 := by
  have h1 := h.2.1; have h2 := h.2.2.1; unfold maxLen at h2; omega
theorem drop_u {p : Pr} {l : List Pr} {k : Nat} (h : l[k]? = some p) : l.drop k = p :: l.drop (k + 1) := by
  obtain ⟨hk, rfl⟩ := List.getElem?_eq_some_iff.1 h
  exact List.drop_eq_getElem_cons hk

/-! a pair put into a block -/
def UBox (w : World) (g : Nat) (q : ByteArray) (o : Int) (s : ByteArray) (z : Int) (a : Option Addr) (n c : Nat) : Prop := Blk w g #[.string q, .int .i64 o, .string s, .int .i64 z, .slice a n c] 43
theorem UBox.five {w : World} {g : Nat} {q : ByteArray} {o : Int} {s : ByteArray} {z : Int} {a : Option Addr} {n c : Nat} (h : UBox w g q o s z a n c) :
    w.cell? ⟨g, 0, none⟩ = some (.string q) ∧ w.cell? ⟨g, 1, none⟩ = some (.int .i64 o) ∧ w.cell? ⟨g, 1 + 1, none⟩ = some (.string s) ∧ w.cell? ⟨g, 1 + 1 + 1, none⟩ = some (.int .i64 z) ∧ w.cell? ⟨g, 1 + 1 + 1 + 1, none⟩ = some (.slice a n c) := ⟨Blk.cell h 0, Blk.cell h 1, Blk.cell h 2, Blk.cell h 3, Blk.cell h 4⟩
theorem UBox.b {w w' : World} {g : Nat} {q : ByteArray} {o : Int} {s : ByteArray} {z : Int} {a : Option Addr} {n c : Nat} (h : UBox w g q o s z a n c) (hb : Below w.heap.size w w') : UBox w' g q o s z a n c := Blk.below h hb
theorem ubox1 (w : World) (q : ByteArray) (o : Int) (s : ByteArray) (z : Int) (a : Option Addr) (n c : Nat) :
    ∃ W, w.alloc (.cells #[.string q, .int .i64 o, .string s, .int .i64 z, .slice a n c] 43) = W ∧ Below w.heap.size w W ∧ W.heap.size = w.heap.size + 1 ∧ UBox W w.heap.size q o s z a n c :=
  ⟨_, rfl, bel_alloc (Below.refl _ _) _, by simp, Blk.new w _ _⟩
theorem ubox2 (w : World) (q : ByteArray) (o : Int) (s : ByteArray) (z : Int) (a : Option Addr) (n c : Nat) (q' : ByteArray) (o' : Int) (s' : ByteArray) (z' : Int) (a' : Option Addr) (n' c' : Nat) :
    ∃ W, (w.alloc (.cells #[.string q, .int .i64 o, .string s, .int .i64 z, .slice a n c] 43)).alloc (.cells #[.string q', .int .i64 o', .string s', .int .i64 z', .slice a' n' c'] 43) = W ∧ Below w.heap.size w W ∧ W.heap.size = w.heap.size + 2 ∧ UBox W w.heap.size q o s z a n c ∧ UBox W (w.heap.size + 1) q' o' s' z' a' n' c' := by
  obtain ⟨W1, h1, hb, hs, u⟩ := ubox1 w q o s z a n c
  rw [h1]
  refine ⟨_, rfl, bel_alloc hb _, by simp [hs], Blk.alloc u _, ?_⟩
  have := Blk.new W1 #[.string q', .int .i64 o', .string s', .int .i64 z', .slice a' n' c'] 43
  rwa [hs] at this
/-- a pair's value and what it reads as -/
def prV (q : ByteArray) (t : Tm) (a : Option Addr) (n c : Nat) : Value := .agg #[.string q, .int .i64 (opT t), .string (nameT t), .int .i64 (numT t), .slice a n c]
/-- are two pairs, two lists of pairs, the same? -/
def eqP (p q : Pr) : Bool := (p.nm.toList == q.nm.toList) && eqT p.t q.t
def eqPs : List Pr → List Pr → Bool
  | [], [] => true
  | p :: l, q :: m => eqP p q && eqPs l m
  | _, _ => false
theorem eqPs_len : ∀ {l m : List Pr}, l.length ≠ m.length → eqPs l m = false
  | [], [], h => absurd rfl h
  | [], _ :: _, _ => rfl
  | _ :: _, [], _ => rfl
  | p :: l, q :: m, h => by
    rw [eqPs, eqPs_len (l := l) (m := m) (by simpa using h), Bool.and_false]
end Go.Proofs.Yteidknjhponpkaa.U
namespace Go.Proofs.Yteidknjhponpkaa.U
open Go.RowKit L T C
set_option linter.unusedVariables false
set_option linter.unusedSimpArgs false

/-- a pair's five cells -/
structure Hu where
  nm : ByteArray
  op : Int
  s : ByteArray
  z : Int
  a : Option Addr
  n : Nat
  c : Nat
def Hu.cells (h : Hu) : List Value := [.string h.nm, .int .i64 h.op, .string h.s, .int .i64 h.z, .slice h.a h.n h.c]
def Hu.val (h : Hu) : Value := .agg #[.string h.nm, .int .i64 h.op, .string h.s, .int .i64 h.z, .slice h.a h.n h.c]
def Hu.zero : Hu := ⟨⟨#[]⟩, 0, ⟨#[]⟩, 0, none, 0, 0⟩
def huOf (p : Pr) (a : Option Addr) (n c : Nat) : Hu := ⟨p.nm, opT p.t, nameT p.t, numT p.t, a, n, c⟩
def flatU (hs : List Hu) : List Value := hs.flatMap Hu.cells
theorem flatU_len (hs : List Hu) : (flatU hs).length = hs.length * 5 := by
  unfold flatU
  induction hs with
  | nil => rfl
  | cons h l ih => rw [List.flatMap_cons, List.length_append, ih, List.length_cons]; simp [Hu.cells]; omega
theorem flatU_app (l m : List Hu) : flatU (l ++ m) = flatU l ++ flatU m := by unfold flatU; rw [List.flatMap_append]
theorem flatU_get : ∀ (hs : List Hu) (k j : Nat) (hk : k < hs.length), j < 5 → (flatU hs)[k * 5 + j]? = (hs[k].cells)[j]?
  | [], k, j, hk, _ => absurd hk (by simp)
  | h :: l, 0, j, hk, hj => by
    unfold flatU
    rw [List.flatMap_cons, List.getElem?_append_left (by simp [Hu.cells]; omega)]
    simp
  | h :: l, k + 1, j, hk, hj => by
    have ih := flatU_get l k j (by simpa using hk) hj
    unfold flatU at ih ⊢
    rw [List.flatMap_cons, List.getElem?_append_right (by simp [Hu.cells]; omega)]
    have e : (k + 1) * 5 + j - h.cells.length = k * 5 + j := by simp [Hu.cells]; omega
    rw [e, ih]; simp
theorem flatU_ext {hs : List Hu} {cs : List Value} (hl : hs.length * 5 ≤ cs.length) (h : ∀ k (hk : k < hs.length) j, j < 5 → cs[k * 5 + j]? = (hs[k].cells)[j]?) : cs.take (hs.length * 5) = flatU hs := by
  refine List.ext_getElem? fun i => ?_
  by_cases hi : i < hs.length * 5
  · rw [List.getElem?_take_of_lt hi]
    have hk : i / 5 < hs.length := by omega
    have := h (i / 5) hk (i % 5) (by omega)
    rw [show i / 5 * 5 + i % 5 = i by omega] at this
    rw [this, ← flatU_get hs (i / 5) (i % 5) hk (by omega), show i / 5 * 5 + i % 5 = i by omega]
  · rw [List.getElem?_eq_none (by rw [List.length_take]; omega), List.getElem?_eq_none (by rw [flatU_len]; omega)]
theorem hu_one (hs : List Hu) : ∀ u ∈ flatU hs, u.oneCell' = true := fun u hu => by
  unfold flatU at hu
  obtain ⟨h, _, hu⟩ := List.mem_flatMap.1 hu
  simp [Hu.cells] at hu
  rcases hu with rfl | rfl | rfl | rfl | rfl <;> rfl
theorem pairI : (Try.prog.info? 43).map (fun i => (i.zero, i.size, i.bytes)) = some (some (.agg #[.string ⟨#[]⟩, .int .i64 0, .string ⟨#[]⟩, .int .i64 0, .slice none 0 0]), 5, 72) := by kernel_rfl
/-- a row of the call's own that holds these pairs -/
def OwnU (w : World) (base : Nat) (v : Value) (hs : List Hu) : Prop := w.ownsRow base 43 5 v hs.length (flatU hs)
theorem OwnU.nil (w : World) (base : Nat) : OwnU w base (.slice none 0 0) [] := World.ownsRow_nil _ _ _ _
theorem OwnU.below {w w' : World} {base : Nat} {v : Value} {hs : List Hu} (h : OwnU w base v hs) (hb : Below w.heap.size w w') : OwnU w' base v hs := by
  refine ⟨h.1, ?_⟩
  rcases h.2 with hn | ⟨g, cap, cur, rfl, h1, hg, rest⟩
  · exact .inl hn
  · exact .inr ⟨g, cap, cur, rfl, h1, by rw [hb.block g (Array.getElem?_eq_some_iff.1 hg).1]; exact hg, rest⟩
theorem OwnU.at {w : World} {base g n c : Nat} {hs : List Hu} (h : OwnU w base (.slice (some ⟨g, 0, none⟩) n c) hs) {k : Nat} (hk : k < hs.length) :
    w.cell? ⟨g, k * 5, none⟩ = some (.string hs[k].nm) ∧ w.cell? ⟨g, k * 5 + 1, none⟩ = some (.int .i64 hs[k].op) ∧ w.cell? ⟨g, k * 5 + 1 + 1, none⟩ = some (.string hs[k].s) ∧ w.cell? ⟨g, k * 5 + 1 + 1 + 1, none⟩ = some (.int .i64 hs[k].z) ∧ w.cell? ⟨g, k * 5 + 1 + 1 + 1 + 1, none⟩ = some (.slice hs[k].a hs[k].n hs[k].c) := by
  rcases h.2 with ⟨hv, _⟩ | ⟨g', cap, cur, hv, hb, hg, hnc, hcm, hcs, ht⟩
  · cases hv
  · injection hv with h1 h2 h3
    injection h1 with h1
    injection h1 with h1
    subst h1
    have key : ∀ j, j < 5 → w.cell? ⟨g, k * 5 + j, none⟩ = (hs[k].cells)[j]? := fun j hj => by
      rw [cell_of_row w g _ _ _ _ hg, ← flatU_get hs k j hk hj, ← ht, List.getElem?_take_of_lt (by omega), Array.getElem?_toList]
    exact ⟨key 0 (by omega), key 1 (by omega), key 2 (by omega), key 3 (by omega), key 4 (by omega)⟩
theorem OwnU.slice {w : World} {base : Nat} {v : Value} {hs : List Hu} (h : OwnU w base v hs) : ∃ A c, v = .slice A hs.length c ∧ hs.length ≤ c ∧ c ≤ maxLen ∧ (A = none → c = 0) ∧ (0 < hs.length → ∃ g, A = some ⟨g, 0, none⟩ ∧ base ≤ g ∧ g < w.heap.size) := by
  rcases h.2 with ⟨rfl, hn⟩ | ⟨g, cap, cur, rfl, hb, hg, hnc, hcm, hcs, ht⟩
  · exact ⟨none, 0, by rw [hn], by omega, Nat.zero_le _, fun _ => rfl, fun h => absurd h (by omega)⟩
  · exact ⟨_, _, rfl, hnc, hcm, (fun h => by cases h), fun _ => ⟨g, rfl, hb, (Array.getElem?_eq_some_iff.1 hg).1⟩⟩

theorem OwnU.base {w : World} {b b' : Nat} {v : Value} {hs : List Hu} (h : OwnU w b v hs) (hb : b' ≤ b) : OwnU w b' v hs := by
  refine ⟨h.1, ?_⟩
  rcases h.2 with hn | ⟨g, cap, cur, rfl, h1, rest⟩
  · exact .inl hn
  · exact .inr ⟨g, cap, cur, rfl, by omega, rest⟩

/-- a block whose first cells are these pairs -/
def RowU (w : World) (g : Nat) (hs : List Hu) : Prop := ∃ cur, w.heap[g]? = some (.cells cur 43 (0, 0)) ∧ hs.length * 5 ≤ cur.size ∧ cur.toList.take (hs.length * 5) = flatU hs
theorem RowU.lt {w : World} {g : Nat} {hs : List Hu} (h : RowU w g hs) : g < w.heap.size := by
  obtain ⟨cur, hg, _⟩ := h
  exact (Array.getElem?_eq_some_iff.1 hg).1
theorem RowU.of_block {w w' : World} {g : Nat} {hs : List Hu} (h : RowU w g hs) (hb : w'.heap[g]? = w.heap[g]?) : RowU w' g hs := by
  obtain ⟨cur, hg, r⟩ := h
  exact ⟨cur, hb.trans hg, r⟩
theorem RowU.at {w : World} {g : Nat} {hs : List Hu} (h : RowU w g hs) {k : Nat} (hk : k < hs.length) :
    w.cell? ⟨g, k * 5, none⟩ = some (.string hs[k].nm) ∧ w.cell? ⟨g, k * 5 + 1, none⟩ = some (.int .i64 hs[k].op) ∧ w.cell? ⟨g, k * 5 + 1 + 1, none⟩ = some (.string hs[k].s) ∧ w.cell? ⟨g, k * 5 + 1 + 1 + 1, none⟩ = some (.int .i64 hs[k].z) ∧ w.cell? ⟨g, k * 5 + 1 + 1 + 1 + 1, none⟩ = some (.slice hs[k].a hs[k].n hs[k].c) := by
  obtain ⟨cur, hg, hl, ht⟩ := h
  have key : ∀ j, j < 5 → w.cell? ⟨g, k * 5 + j, none⟩ = (hs[k].cells)[j]? := fun j hj => by
    rw [cell_of_row w g _ _ _ _ hg, ← flatU_get hs k j hk hj, ← ht, List.getElem?_take_of_lt (by omega), Array.getElem?_toList]
  exact ⟨key 0 (by omega), key 1 (by omega), key 2 (by omega), key 3 (by omega), key 4 (by omega)⟩
theorem RowU.free {w : World} {g : Nat} {hs : List Hu} (h : RowU w g hs) (k : Nat) : w.frozen? ⟨g, k, none⟩ = false := by
  obtain ⟨cur, hg, _⟩ := h
  exact frozen_of_row w g k _ _ hg
theorem OwnU.row {w : World} {base g n c : Nat} {hs : List Hu} (h : OwnU w base (.slice (some ⟨g, 0, none⟩) n c) hs) : RowU w g hs := by
  rcases h.2 with ⟨hv, _⟩ | ⟨g', cap, cur, hv, hb, hg, hnc, hcm, hcs, ht⟩
  · cases hv
  · injection hv with h1 h2 h3
    injection h1 with h1
    injection h1 with h1
    subst h1
    exact ⟨cur, hg, by omega, ht⟩
/-- a store of one pair into a row -/
def setU (w : World) (g k : Nat) (h : Hu) : World := ((((w.setCell ⟨g, k * 5, none⟩ (.string h.nm)).setCell ⟨g, k * 5 + 1, none⟩ (.int .i64 h.op)).setCell ⟨g, k * 5 + 2, none⟩ (.string h.s)).setCell ⟨g, k * 5 + 3, none⟩ (.int .i64 h.z)).setCell ⟨g, k * 5 + 4, none⟩ (.slice h.a h.n h.c)
def arrU (cur : Array Value) (k : Nat) (h : Hu) : Array Value := ((((cur.setIfInBounds (k * 5) (.string h.nm)).setIfInBounds (k * 5 + 1) (.int .i64 h.op)).setIfInBounds (k * 5 + 1 + 1) (.string h.s)).setIfInBounds (k * 5 + 1 + 1 + 1) (.int .i64 h.z)).setIfInBounds (k * 5 + 1 + 1 + 1 + 1) (.slice h.a h.n h.c)
theorem arrU_size (cur : Array Value) (k : Nat) (h : Hu) : (arrU cur k h).size = cur.size := by simp [arrU]
theorem setU_block {w : World} {g : Nat} {cur : Array Value} {t : TypeId} (k : Nat) (h : Hu) (hg : w.heap[g]? = some (.cells cur t (0, 0))) :
    (setU w g k h).heap[g]? = some (.cells (arrU cur k h) t (0, 0)) :=
  heap_setCell_same _ _ _ _ _ _ (heap_setCell_same _ _ _ _ _ _ (heap_setCell_same _ _ _ _ _ _ (heap_setCell_same _ _ _ _ _ _ (heap_setCell_same _ _ _ _ _ _ hg))))
theorem setU_other (w : World) (g k i : Nat) (h : Hu) (hne : i ≠ g) : (setU w g k h).heap[i]? = w.heap[i]? := by
  unfold setU
  rw [heap_setCell_other _ ⟨g, _, none⟩ i _ hne, heap_setCell_other _ ⟨g, _, none⟩ i _ hne, heap_setCell_other _ ⟨g, _, none⟩ i _ hne, heap_setCell_other _ ⟨g, _, none⟩ i _ hne, heap_setCell_other _ ⟨g, _, none⟩ i _ hne]
theorem setU_size (w : World) (g k : Nat) (h : Hu) : (setU w g k h).heap.size = w.heap.size := by simp [setU, World.setCell]
theorem setU_below {B g : Nat} {w0 w : World} (hb : Below B w0 w) (hg : B ≤ g) (k : Nat) (h : Hu) : Below B w0 (setU w g k h) :=
  below_set (below_set (below_set (below_set (below_set hb hg _ _) hg _ _) hg _ _) hg _ _) hg _ _
theorem arrU_get (cur : Array Value) (k : Nat) (h : Hu) (hk : k * 5 + 5 ≤ cur.size) (i : Nat) :
    (arrU cur k h)[i]? = if k * 5 ≤ i ∧ i < k * 5 + 5 then (h.cells)[i - k * 5]? else cur[i]? := by
  unfold arrU
  by_cases h0 : i = k * 5
  · subst h0
    rw [if_pos (by omega)]
    simp only [Array.getElem?_setIfInBounds, Array.size_setIfInBounds]
    rw [if_neg (by omega), if_neg (by omega), if_neg (by omega), if_neg (by omega), if_pos trivial, if_pos (by omega), Nat.sub_self]; rfl
  by_cases h1 : i = k * 5 + 1
  · subst h1
    rw [if_pos (by omega)]
    simp only [Array.getElem?_setIfInBounds, Array.size_setIfInBounds]
    rw [if_neg (by omega), if_neg (by omega), if_neg (by omega), if_pos trivial, if_pos (by omega), show k * 5 + 1 - k * 5 = 1 by omega]; rfl
  by_cases h2 : i = k * 5 + 1 + 1
  · subst h2
    rw [if_pos (by omega)]
    simp only [Array.getElem?_setIfInBounds, Array.size_setIfInBounds]
    rw [if_neg (by omega), if_neg (by omega), if_pos trivial, if_pos (by omega), show k * 5 + 1 + 1 - k * 5 = 2 by omega]; rfl
  by_cases h3 : i = k * 5 + 1 + 1 + 1
  · subst h3
    rw [if_pos (by omega)]
    simp only [Array.getElem?_setIfInBounds, Array.size_setIfInBounds]
    rw [if_neg (by omega), if_pos trivial, if_pos (by omega), show k * 5 + 1 + 1 + 1 - k * 5 = 3 by omega]; rfl
  by_cases h4 : i = k * 5 + 1 + 1 + 1 + 1
  · subst h4
    rw [if_pos (by omega)]
    simp only [Array.getElem?_setIfInBounds, Array.size_setIfInBounds]
    rw [if_pos trivial, if_pos (by omega), show k * 5 + 1 + 1 + 1 + 1 - k * 5 = 4 by omega]; rfl
  rw [if_neg (by omega), Array.getElem?_setIfInBounds_ne (by omega), Array.getElem?_setIfInBounds_ne (by omega), Array.getElem?_setIfInBounds_ne (by omega), Array.getElem?_setIfInBounds_ne (by omega), Array.getElem?_setIfInBounds_ne (by omega)]
theorem flatU_set (hs : List Hu) (k : Nat) (h : Hu) (hk : k < hs.length) {cur : Array Value} (hl : hs.length * 5 ≤ cur.size) (ht : cur.toList.take (hs.length * 5) = flatU hs) :
    (arrU cur k h).toList.take ((hs.set k h).length * 5) = flatU (hs.set k h) := by
  refine flatU_ext (by simp [arrU_size]; omega) fun i hi j hj => ?_
  rw [List.length_set] at hi
  rw [Array.getElem?_toList, arrU_get cur k h (by omega)]
  by_cases e : i = k
  · subst e
    rw [if_pos (by omega), show i * 5 + j - i * 5 = j by omega]
    simp
  · rw [if_neg (by omega), ← Array.getElem?_toList, ← List.getElem?_take_of_lt (show i * 5 + j < hs.length * 5 by omega), ht, flatU_get hs i j hi hj, List.getElem_set_ne (fun x => e x.symm)]
theorem RowU.set {w : World} {g : Nat} {hs : List Hu} (hr : RowU w g hs) (k : Nat) (h : Hu) (hk : k < hs.length) : RowU (setU w g k h) g (hs.set k h) := by
  obtain ⟨cur, hg, hl, ht⟩ := hr
  exact ⟨_, setU_block k h hg, by simp [arrU_size]; omega, flatU_set hs k h hk hl ht⟩
set_option maxHeartbeats 1000000 in
theorem OwnU.set {w : World} {base g n c : Nat} {hs : List Hu} (ho : OwnU w base (.slice (some ⟨g, 0, none⟩) n c) hs) (k : Nat) (h : Hu) (hk : k < hs.length) : OwnU (setU w g k h) base (.slice (some ⟨g, 0, none⟩) n c) (hs.set k h) := by
  rcases ho.2 with ⟨hv, _⟩ | ⟨g', cap, cur, hv, hb, hg, hnc, hcm, hcs, ht⟩
  · cases hv
  · have hv' := hv
    injection hv with h1 h2 h3
    injection h1 with h1
    injection h1 with h1
    subst h1
    refine ⟨by rw [flatU_len], .inr ⟨g, cap, arrU cur k h, by rw [List.length_set]; exact hv', hb, setU_block k h hg, (by rw [List.length_set]; exact hnc), hcm, (by rw [arrU_size]; exact hcs), flatU_set hs k h hk (by omega) ht⟩⟩

theorem make_pairs (n : Nat) (hn : n ≤ 1000000) (w : World) :
    (Instr.makeSlice 31 (.int .i64 (n : Int)) (.int .i64 (n : Int))).run Try.prog w = .ok (.slice (some ⟨w.heap.size, 0, none⟩) n n) (w.alloc (.cells (madeCells #[.string ⟨#[]⟩, .int .i64 0, .string ⟨#[]⟩, .int .i64 0, .slice none 0 0] (n * 5)) 43)) := by
  obtain ⟨i0, hi, hz0, hz1, hz2⟩ := info_parts pairI
  have hr := run_make (P := Try.prog) w 31 43 i0 _ Try.underlying31 hi hz0 .i64 .i64 n n (by omega) (Int.le_refl _) (by rw [hz2]; omega) (by omega)
  simp only [Int.toNat_natCast, hz1] at hr
  exact hr
theorem made_pairs (n : Nat) (hn : n ≤ 1000000) (w : World) : OwnU (w.alloc (.cells (madeCells #[.string ⟨#[]⟩, .int .i64 0, .string ⟨#[]⟩, .int .i64 0, .slice none 0 0] (n * 5)) 43)) w.heap.size (.slice (some ⟨w.heap.size, 0, none⟩) n n) (List.replicate n Hu.zero) := by
  refine ⟨by rw [flatU_len], .inr ⟨w.heap.size, n, _, by rw [List.length_replicate], Nat.le_refl _, heap_alloc_new w _, by rw [List.length_replicate]; exact Nat.le_refl _, by unfold maxLen; omega, by rw [size_madeCells], ?_⟩⟩
  show List.take ((List.replicate n Hu.zero).length * 5) _ = _
  refine flatU_ext (by simp [size_madeCells]) fun k hk j hj => ?_
  rw [List.length_replicate] at hk
  rw [List.getElem_replicate, Array.getElem?_toList]
  unfold madeCells
  rw [Array.getElem?_map, Array.getElem?_range, if_pos (by omega)]
  have hm : (k * 5 + j) % 5 = j := by omega
  have hc : j = 0 ∨ j = 1 ∨ j = 2 ∨ j = 3 ∨ j = 4 := by omega
  simp only [Option.map_some]
  show some (#[Value.string ⟨#[]⟩, .int .i64 0, .string ⟨#[]⟩, .int .i64 0, .slice none 0 0][(k * 5 + j) % 5]!) = _
  rw [hm]
  rcases hc with rfl | rfl | rfl | rfl | rfl <;> rfl

/-! lists of pairs read in blocks of a kind -/
def HuP (P : Nat → Prop) (w : World) (h : Hu) (p : Pr) : Prop := (h.nm = p.nm ∧ h.op = opT p.t ∧ h.s = nameT p.t ∧ h.z = numT p.t) ∧ ArP P w p.t h.a h.n h.c
theorem HuP.to {P Q : Nat → Prop} {w w' : World} {h : Hu} {p : Pr} (hb : ∀ b, P b → w'.heap[b]? = w.heap[b]?) (hq : ∀ b, P b → Q b) (hp : HuP P w h p) : HuP Q w' h p := ⟨hp.1, ArP.to hb hq _ hp.2⟩
def UP (P : Nat → Prop) (w : World) (A : Option Addr) (n c : Nat) (l : List Pr) : Prop :=
  n = l.length ∧ n ≤ c ∧ c ≤ maxLen ∧ (A = none → c = 0) ∧ (0 < n → ∃ b o, A = some ⟨b, o, none⟩ ∧ P b ∧ ∀ (i : Nat) (p : Pr), l[i]? = some p → ∃ h : Hu, HuP P w h p ∧ ∀ (j : Nat) (u : Value), (h.cells)[j]? = some u → w.cell? ⟨b, o + i * 5 + j, none⟩ = some u)
theorem UP.to {P Q : Nat → Prop} {w w' : World} {A : Option Addr} {n c : Nat} {l : List Pr} (h : UP P w A n c l) (hb : ∀ b, P b → w'.heap[b]? = w.heap[b]?) (hq : ∀ b, P b → Q b) : UP Q w' A n c l := by
  refine ⟨h.1, h.2.1, h.2.2.1, h.2.2.2.1, fun hn => ?_⟩
  obtain ⟨b, o, h1, h2, h3⟩ := h.2.2.2.2 hn
  refine ⟨b, o, h1, hq _ h2, fun i p hi => ?_⟩
  obtain ⟨hd, h4, h5⟩ := h3 i p hi
  exact ⟨hd, h4.to hb hq, fun j u hj => (World.cell?_of_block (hb b h2)).trans (h5 j u hj)⟩
theorem UP.below {P : Nat → Prop} {w w' : World} {A : Option Addr} {n c : Nat} {l : List Pr} (h : UP P w A n c l) (hP : ∀ b, P b → b < w.heap.size) (hb : Below w.heap.size w w') : UP P w' A n c l := h.to (fun b hp => hb.block b (hP b hp)) (fun _ h => h)
theorem UP.us {P : Nat → Prop} {w : World} {B : Nat} {A : Option Addr} {n c : Nat} {l : List Pr} (h : UP P w A n c l) (hP : ∀ b, P b → b < B) : IsU B w A n c l := by
  refine ⟨h.1, h.2.1, h.2.2.1, h.2.2.2.1, fun hn => ?_⟩
  obtain ⟨b, o, h1, h2, h3⟩ := h.2.2.2.2 hn
  refine ⟨b, o, h1, hP _ h2, fun i p hi => ?_⟩
  obtain ⟨hd, ⟨⟨e0, e1, e2, e3⟩, h4⟩, h5⟩ := h3 i p hi
  exact ⟨hd.a, hd.n, hd.c, by rw [← e0]; exact h5 0 _ rfl, by rw [← e1]; exact h5 1 _ rfl, by rw [← e2]; exact h5 2 _ rfl, by rw [← e3]; exact h5 3 _ rfl, h5 4 _ rfl, ArP.ar hP _ h4⟩
theorem IsU.up {B : Nat} {w : World} {A : Option Addr} {n c : Nat} {l : List Pr} (h : IsU B w A n c l) : UP (fun b => b < B) w A n c l := by
  refine ⟨h.1, h.2.1, h.2.2.1, h.2.2.2.1, fun hn => ?_⟩
  obtain ⟨b, o, h1, h2, h3⟩ := h.2.2.2.2 hn
  refine ⟨b, o, h1, h2, fun i p hi => ?_⟩
  obtain ⟨a', n', c', q0, q1, q2, q3, q4, q5⟩ := h3 i p hi
  refine ⟨huOf p a' n' c', ⟨⟨rfl, rfl, rfl, rfl⟩, Ar.p _ q5⟩, fun j u hj => ?_⟩
  have hj5 : j < 5 := (List.getElem?_eq_some_iff.1 hj).1
  have hc : j = 0 ∨ j = 1 ∨ j = 2 ∨ j = 3 ∨ j = 4 := by omega
  rcases hc with rfl | rfl | rfl | rfl | rfl
  · exact q0.trans hj
  · exact q1.trans hj
  · exact q2.trans hj
  · exact q3.trans hj
  · exact q4.trans hj
/-- the heads of a list of pairs -/
theorem UP.heads {P : Nat → Prop} {w : World} {A : Option Addr} {n c : Nat} {l : List Pr} (h : UP P w A n c l) (hn : 0 < n) :
    ∃ (b o : Nat) (hs : List Hu), A = some ⟨b, o, none⟩ ∧ P b ∧ hs.length = l.length ∧ (∀ (i : Nat) (hd : Hu) (p : Pr), hs[i]? = some hd → l[i]? = some p → HuP P w hd p) ∧ ∀ (j : Nat) (u : Value), (flatU hs)[j]? = some u → w.cell? ((⟨b, o, none⟩ : Addr).add j) = some u := by
  obtain ⟨b, o, h1, h2, h3⟩ := h.2.2.2.2 hn
  have key : ∀ m, m ≤ l.length → ∃ hs : List Hu, hs.length = m ∧ ∀ i hd, hs[i]? = some hd → ∃ p, l[i]? = some p ∧ HuP P w hd p ∧ ∀ j u, (hd.cells)[j]? = some u → w.cell? ⟨b, o + i * 5 + j, none⟩ = some u := by
    intro m
    induction m with
    | zero => exact fun _ => ⟨[], rfl, fun i hd hi => by simp at hi⟩
    | succ m ih =>
      intro hm
      obtain ⟨hs, hl, hh⟩ := ih (by omega)
      obtain ⟨hd, q1, q2⟩ := h3 m l[m] (List.getElem?_eq_getElem (by omega))
      refine ⟨hs ++ [hd], by simp [hl], fun i hd' hi => ?_⟩
      rcases Nat.lt_or_ge i hs.length with hlt | hge
      · rw [List.getElem?_append_left hlt] at hi
        exact hh i hd' hi
      · have hil : i < (hs ++ [hd]).length := (List.getElem?_eq_some_iff.1 hi).1
        have him : i = m := by simp at hil; omega
        subst him
        rw [List.getElem?_append_right hge, hl, Nat.sub_self] at hi
        simp only [List.getElem?_cons_zero, Option.some.injEq] at hi
        subst hi
        exact ⟨_, List.getElem?_eq_getElem (by omega), q1, q2⟩
  obtain ⟨hs, hl, hh⟩ := key l.length (Nat.le_refl _)
  refine ⟨b, o, hs, h1, h2, hl, fun i hd p hi hp => ?_, fun j u hj => ?_⟩
  · obtain ⟨p', e1, e2, _⟩ := hh i hd hi
    rw [hp] at e1
    injection e1 with e1
    rw [e1]; exact e2
  · have hjl : j < hs.length * 5 := by have := (List.getElem?_eq_some_iff.1 hj).1; rwa [flatU_len] at this
    have hk : j / 5 < hs.length := by omega
    have e : j = j / 5 * 5 + j % 5 := by omega
    rw [e, flatU_get hs (j / 5) (j % 5) hk (by omega)] at hj
    obtain ⟨p', _, _, e3⟩ := hh (j / 5) hs[j / 5] (List.getElem?_eq_getElem hk)
    have := e3 (j % 5) u hj
    rw [Go.WideShapes.add_plain]
    rwa [show o + j / 5 * 5 + j % 5 = o + j by omega] at this
/-- a row of the call's own, of pairs whose terms lie apart from it -/
def OwnP (w : World) (lo : Nat) (v : Value) (l : List Pr) : Prop := ∃ hs, OwnU w lo v hs ∧ hs.length = l.length ∧ ∀ (i : Nat) (h : Hu) (p : Pr), hs[i]? = some h → l[i]? = some p → HuP (fun b => b < w.heap.size ∧ v.ownBlock ≠ some b) w h p
theorem OwnP.nil (w : World) (lo : Nat) : OwnP w lo (.slice none 0 0) [] := ⟨[], OwnU.nil _ _, rfl, fun i h p hi => by simp at hi⟩
theorem OwnP.below {w w' : World} {lo : Nat} {v : Value} {l : List Pr} (h : OwnP w lo v l) (hb : Below w.heap.size w w') : OwnP w' lo v l := by
  obtain ⟨hs, h1, h2, h3⟩ := h
  exact ⟨hs, h1.below hb, h2, fun i h p e1 e2 => (h3 i h p e1 e2).to (fun b hp => hb.block b hp.1) (fun b hp => ⟨Nat.lt_of_lt_of_le hp.1 hb.size, hp.2⟩)⟩
theorem OwnP.base {w : World} {b b' : Nat} {v : Value} {l : List Pr} (h : OwnP w b v l) (hb : b' ≤ b) : OwnP w b' v l := by
  obtain ⟨hs, h1, h2, h3⟩ := h
  exact ⟨hs, h1.base hb, h2, h3⟩
theorem OwnP.slice {w : World} {lo : Nat} {v : Value} {l : List Pr} (h : OwnP w lo v l) : ∃ A c, v = .slice A l.length c ∧ l.length ≤ c ∧ c ≤ maxLen ∧ (A = none → c = 0) ∧ (0 < l.length → ∃ g, A = some ⟨g, 0, none⟩ ∧ lo ≤ g ∧ g < w.heap.size) := by
  obtain ⟨hs, h1, h2, h3⟩ := h
  obtain ⟨A, c, hv, q⟩ := h1.slice
  rw [h2] at hv q
  exact ⟨A, c, hv, q⟩
theorem OwnP.lt {w : World} {lo : Nat} {v : Value} {l : List Pr} (h : OwnP w lo v l) : ∀ q, v.ownBlock = some q → lo ≤ q ∧ q < w.heap.size := by
  obtain ⟨hs, h1, h2, h3⟩ := h
  exact fun q hq => World.ownsRow.lt h1 q hq
theorem OwnP.up {w : World} {lo : Nat} {A : Option Addr} {n c : Nat} {l : List Pr} (h : OwnP w lo (.slice A n c) l) : UP (fun b => b < w.heap.size) w A n c l := by
  obtain ⟨hs, h1, h2, h3⟩ := h
  obtain ⟨A', c', hv, q1, q2, q3, q4⟩ := h1.slice
  injection hv with e1 e2 e3
  subst e1 e2 e3
  refine ⟨h2, q1, q2, q3, fun hn => ?_⟩
  obtain ⟨g, rfl, hb, hlt⟩ := q4 hn
  refine ⟨g, 0, rfl, hlt, fun i p hi => ?_⟩
  have hi2 : i < hs.length := by have := (List.getElem?_eq_some_iff.1 hi).1; omega
  refine ⟨hs[i], (h3 i _ p (List.getElem?_eq_getElem hi2) hi).to (fun _ _ => rfl) (fun _ hp => hp.1), fun j u hj => ?_⟩
  have hj5 : j < 5 := (List.getElem?_eq_some_iff.1 hj).1
  obtain ⟨cur, hg, hl, ht⟩ := h1.row
  rw [Nat.zero_add, cell_of_row w g _ _ _ _ hg, ← hj, ← flatU_get hs i j hi2 hj5, ← ht, List.getElem?_take_of_lt (by omega), Array.getElem?_toList]
theorem OwnP.us {w : World} {lo : Nat} {A : Option Addr} {n c : Nat} {l : List Pr} (h : OwnP w lo (.slice A n c) l) : UsW w A n c l := h.up.us (fun _ h => h)
set_option maxRecDepth 100000 in
/-- append of pairs that lie apart from the row -/
theorem app_pairs {w : World} {ops : Array Oper} {rest : List Oper} {o : Oper} {a : Act} {Q : Exit → Act → World → Prop} (hgd : o.guard = none) (s x : Operand)
    (ho : o.op = .call { callee := .builtin .append, args := #[s, x], argTypes := #[31, 31] })
    (base : Nat) (v : Value) (Y : List Pr) (hs : a.eval s = v) (hown : OwnP w base v Y) (P : Nat → Prop) (hP : ∀ b, P b → b < w.heap.size ∧ v.ownBlock ≠ some b) (A : Option Addr) (n c : Nat) (X : List Pr) (hx : a.eval x = .slice A n c) (hX : UP P w A n c X)
    (hn : Y.length + X.length ≤ 1000000000) (hbase : base ≤ w.heap.size)
    (h : ∀ v' w', OwnP w' base v' (Y ++ X) → w.grownBy w' v.ownBlock → wpList Try.prog ops Q rest (a.put o.dst v') w') : wpList Try.prog ops Q (o :: rest) a w := by
  obtain ⟨i0, hi, hz0, hz1, hz2⟩ := info_parts pairI
  obtain ⟨hy, hy1, hy2, hy3⟩ := hown
  by_cases hn0 : n = 0
  · have hX0 : X = [] := List.eq_nil_of_length_eq_zero (by have := hX.1; omega)
    subst hX0
    subst hn0
    cases A with
    | none =>
      have hc : c = 0 := hX.2.2.2.1 rfl
      subst hc
      refine wpList_append_own_none hgd s x 31 ho base 43 i0 5 Try.underlying31 hi v hy.length (flatU hy) hs hy1 hx (h v w ?_ ⟨rfl, rfl, rfl, Nat.le_refl _, fun _ _ _ => rfl⟩)
      rw [List.append_nil]; exact ⟨hy, hy1, hy2, hy3⟩
    | some ad =>
      refine wpList_append_own_at w hgd s x 31 ho base 43 i0 _ 5 72 Try.underlying31 hi hz0 hz1 hz2 rfl (by decide) v hy.length (flatU hy) hs hy1 ad 0 c [] hx rfl (fun j u hj => by simp at hj) (fun u hu => by simp at hu) (by unfold maxLen; omega) (by omega) hbase fun v' w' h1 h2 _ h4 => h v' w' ⟨hy, ?_, by rw [List.append_nil]; exact hy2, fun i hd p e1 e2 => ?_⟩ h2
      · unfold OwnU; rw [List.append_nil] at h1; exact h1
      · rw [List.append_nil] at e2
        refine (hy3 i hd p e1 e2).to (fun b hp => h2.block b hp.1 (fun e => hp.2 e.symm)) (fun b hp => ⟨Nat.lt_of_lt_of_le hp.1 h2.size, fun e => ?_⟩)
        rcases h4 with h4 | h4
        · exact hp.2 (h4.symm.trans e)
        · rw [h4] at e; injection e with e; have := hp.1; omega
  · obtain ⟨b, ob, hs2, hA, hPb, hl2, hh2, hc2⟩ := hX.heads (by omega)
    subst hA
    have hnl : n = hs2.length := by rw [hl2]; exact hX.1
    refine wpList_append_own_at w hgd s x 31 ho base 43 i0 _ 5 72 Try.underlying31 hi hz0 hz1 hz2 rfl (by decide) v hy.length (flatU hy) hs hy1 ⟨b, ob, none⟩ n c (flatU hs2) hx (by rw [flatU_len, hnl]) hc2 (hu_one _) (by unfold maxLen; omega) (by omega) hbase fun v' w' h1 h2 _ h4 => h v' w' ⟨hy ++ hs2, ?_, by rw [List.length_append, List.length_append, hy2, hl2], fun i hd p e1 e2 => ?_⟩ h2
    · unfold OwnU; rw [List.length_append, flatU_app, ← hnl]; exact h1
    · have hto : ∀ b, b < w.heap.size ∧ v.ownBlock ≠ some b → b < w'.heap.size ∧ v'.ownBlock ≠ some b := fun b hp => ⟨Nat.lt_of_lt_of_le hp.1 h2.size, fun e => by
        rcases h4 with h4 | h4
        · exact hp.2 (h4.symm.trans e)
        · rw [h4] at e; injection e with e; have := hp.1; omega⟩
      rcases Nat.lt_or_ge i hy.length with hlt | hge
      · rw [List.getElem?_append_left hlt] at e1
        rw [List.getElem?_append_left (by rw [← hy2]; exact hlt)] at e2
        exact (hy3 i hd p e1 e2).to (fun b hp => h2.block b hp.1 (fun e => hp.2 e.symm)) hto
      · rw [List.getElem?_append_right hge] at e1
        rw [List.getElem?_append_right (by rw [← hy2]; exact hge), ← hy2] at e2
        exact (hh2 _ hd p e1 e2).to (fun b hp => h2.block b (hP b hp).1 (fun e => (hP b hp).2 e.symm)) (fun b hp => hto b (hP b hp))
end Go.Proofs.Yteidknjhponpkaa.U
namespace Go.Proofs.Yteidknjhponpkaa.U
open Go.RowKit L T C B
set_option linter.unusedVariables false
set_option linter.unusedSimpArgs false

theorem UBox.free {w : World} {g : Nat} {q : ByteArray} {o : Int} {s : ByteArray} {z : Int} {a : Option Addr} {n c : Nat} (h : UBox w g q o s z a n c) :
    w.frozen? ⟨g, 0, none⟩ = false ∧ w.frozen? ⟨g, 1, none⟩ = false ∧ w.frozen? ⟨g, 2, none⟩ = false ∧ w.frozen? ⟨g, 3, none⟩ = false ∧ w.frozen? ⟨g, 4, none⟩ = false := ⟨Blk.free h 0, Blk.free h 1, Blk.free h 2, Blk.free h 3, Blk.free h 4⟩
theorem UBox.put {w : World} {g : Nat} {q : ByteArray} {o : Int} {s : ByteArray} {z : Int} {a : Option Addr} {n c : Nat} (h : UBox w g q o s z a n c) (q' : ByteArray) (o' : Int) (s' : ByteArray) (z' : Int) (a' : Option Addr) (n' c' : Nat) :
    UBox (put5 w g (.string q') (.int .i64 o') (.string s') (.int .i64 z') (.slice a' n' c')) g q' o' s' z' a' n' c' := by
  have := Blk.set (Blk.set (Blk.set (Blk.set (Blk.set h 0 (.string q')) 1 (.int .i64 o')) 2 (.string s')) 3 (.int .i64 z')) 4 (.slice a' n' c')
  simpa [put5, UBox] using this
/-- a pair in new memory is returned -/
def RtP (p : Pr) (w : World) (e : Ending) (w' : World) : Prop := ∃ (a : Option Addr) (n c : Nat), e = .returned (.agg #[.string p.nm, .int .i64 (opT p.t), .string (nameT p.t), .int .i64 (numT p.t), .slice a n c]) ∧ ArP (Nw 0 0 w.heap.size w'.heap.size) w' p.t a n c ∧ Below w.heap.size w w'
theorem copy_rt (t : Tm) (a : Option Addr) (n c : Nat) (w : World) (hsz : size t ≤ 1000000) (hA : ArW w t a n c) :
    Calls Try.prog 40 #[.agg #[.int .i64 (opT t), .string (nameT t), .int .i64 (numT t), .slice a n c]] w fun e w' => RtT t w e w' :=
  (Copy_any t a n c w hsz hA).mono fun e w' ⟨h, he, hf, hb⟩ => by
    obtain ⟨e0, e1, e2⟩ := hf.hd
    have hp := Fr.arP (P := Nw 0 0 w.heap.size w'.heap.size) t (fun b h1 h2 => Or.inr ⟨h1, h2⟩) hf
    exact ⟨h.a, h.n, h.c, by rw [he, e0, e1, e2], hp, hb⟩
set_option maxRecDepth 100000 in
set_option maxHeartbeats 4000000 in
theorem copied1_any (p : Pr) (a : Option Addr) (n c : Nat) (w : World) (hsz : size p.t ≤ 1000000) (hA : ArW w p.t a n c) :
    Calls Try.prog 62 #[.agg #[.string p.nm, .int .i64 (opT p.t), .string (nameT p.t), .int .i64 (numT p.t), .slice a n c]] w fun e w' => RtP p w e w' := by
  obtain ⟨W2, hW2, hB2, hs2, S2, R2⟩ := ubox2 w p.nm (opT p.t) (nameT p.t) (numT p.t) a n c ⟨#[]⟩ 0 ⟨#[]⟩ 0 none 0 0
  have hBd : Below W2.heap.size W2 W2.drew := (Below.refl _ _).drew
  have cc := copy_rt p.t a n c W2.drew hsz (ArW.b (ArW.b hA hB2) hBd)
  have l0 := Blk.lt S2
  obtain ⟨s0, s1, s2, s3, s4⟩ := S2.five
  have HR := Lib.hid R2
  have HFin := Lib.hid (show ∀ (w3 : World) (a3 : Option Addr) (n3 c3 : Nat), ArP (Nw 0 0 W2.heap.size w3.heap.size) w3 p.t a3 n3 c3 → Below W2.heap.size W2 w3 → ∀ v0 v1 v2 v3 v4, RtP p w (.returned (.agg #[.string p.nm, .int .i64 (opT p.t), .string (nameT p.t), .int .i64 (numT p.t), .slice a3 n3 c3])) (put5 w3 (w.heap.size + 1) v0 v1 v2 v3 v4) from fun w3 a3 n3 c3 h1 h2 v0 v1 v2 v3 v4 => by
    have q2 := h2.size
    exact ⟨a3, n3, c3, rfl, ArP.to (fun b hb => put5_other w3 _ b v0 v1 v2 v3 v4 (by unfold Nw at hb; omega)) (fun b hb => by rw [put5_size]; unfold Nw at hb ⊢; omega) _ h1, put5_below (bel_trans hB2 h2) (by omega) v0 v1 v2 v3 v4⟩)
  unfold put5 at HFin
  unfold RtT at cc
  clear hA S2 R2 hsz
  generalize opT p.t = op at *
  generalize nameT p.t = nm at *
  generalize numT p.t = nu at *
  generalize p.nm = x at *
  go_enter Try.func62, Try.ntmps62
  go_wp2_with fail
  go_region_with (go_at_call 40; ((with_reducible refine cc.mono ?_); rintro e w4 ⟨a3, n3, c3, rfl, hF, hb4⟩; have B4 := bel_trans hBd hb4; have Hn := Lib.hid (HFin.out w4 a3 n3 c3 hF B4); clear hF; have R3 := UBox.b HR.out B4; obtain ⟨r0, r1, r2, r3, r4⟩ := R3.free; obtain ⟨v0, v1, v2, v3, v4⟩ := R3.five; have k0 := (B4.cell l0).trans s0; have k1 := (B4.cell l0).trans s1; have k2 := (B4.cell l0).trans s2; have k3 := (B4.cell l0).trans s3; have k4 := (B4.cell l0).trans s4; have F3 := UBox.put R3 x op nm nu a3 n3 c3; unfold put5 at F3; obtain ⟨y0, y1, y2, y3, y4⟩ := F3.five))
  all_goals go_wp2
  all_goals (simp [bodyPost, results, Try.results62, go_sem, y0, y1, y2, y3, y4])
  all_goals exact Hn.out _ _ _ _ _
/-- what has been made so far -/
def PartU (w0 : World) (g : Nat) (lr : List Pr) (m k : Nat) (wr : World) : Prop :=
  ∃ hs, hs.length = k ∧ OwnU wr w0.heap.size (.slice (some ⟨g, 0, none⟩) m m) (hs ++ List.replicate (m - k) Hu.zero) ∧ ∀ (j : Nat) (h : Hu) (p : Pr), hs[j]? = some h → lr[j]? = some p → HuP (fun b => g < b ∧ b < wr.heap.size) wr h p
theorem PartU.go {w0 wr w4 w5 : World} {g : Nat} {lr : List Pr} {x : Pr} {m k : Nat} {a : Option Addr} {n c : Nat} (hp : PartU w0 g lr m k wr) (hk : k < m) (hx : lr[k]? = some x) (h4 : Below wr.heap.size wr w4) (h5 : Below w4.heap.size w4 w5) (hA : ArP (Nw 0 0 w4.heap.size w5.heap.size) w5 x.t a n c) :
    (w5.cell? ⟨g, k * 5, none⟩ = some (.string ⟨#[]⟩) ∧ w5.cell? ⟨g, k * 5 + 1, none⟩ = some (.int .i64 0) ∧ w5.cell? ⟨g, k * 5 + 2, none⟩ = some (.string ⟨#[]⟩) ∧ w5.cell? ⟨g, k * 5 + 3, none⟩ = some (.int .i64 0) ∧ w5.cell? ⟨g, k * 5 + 4, none⟩ = some (.slice none 0 0)) ∧ (w5.frozen? ⟨g, k * 5, none⟩ = false ∧ w5.frozen? ⟨g, k * 5 + 1, none⟩ = false ∧ w5.frozen? ⟨g, k * 5 + 2, none⟩ = false ∧ w5.frozen? ⟨g, k * 5 + 3, none⟩ = false ∧ w5.frozen? ⟨g, k * 5 + 4, none⟩ = false) ∧ Hid (PartU w0 g lr m (k + 1) (setU w5 g k (huOf x a n c))) := by
  obtain ⟨hs, hl, ho, hfr⟩ := hp
  have b5 := bel_trans h4 h5
  have hgl : g < wr.heap.size := ho.row.lt
  have q4 := h4.size
  have q5 := h5.size
  have hlt : k < (hs ++ List.replicate (m - k) Hu.zero).length := by rw [List.length_append, List.length_replicate]; omega
  obtain ⟨z0, z1, z2, z3, z4⟩ := ho.at hlt
  have e : (hs ++ List.replicate (m - k) Hu.zero)[k] = Hu.zero := by
    rw [List.getElem_append_right (by omega), List.getElem_replicate]
  rw [e] at z0 z1 z2 z3 z4
  have hz := fun j => ho.row.free j
  have ho5 := (ho.below b5).set k (huOf x a n c) (by rw [List.length_append, List.length_replicate]; omega)
  refine ⟨⟨(b5.cell (p := ⟨g, _, none⟩) hgl).trans z0, (b5.cell (p := ⟨g, _, none⟩) hgl).trans z1, (b5.cell (p := ⟨g, _, none⟩) hgl).trans z2, (b5.cell (p := ⟨g, _, none⟩) hgl).trans z3, (b5.cell (p := ⟨g, _, none⟩) hgl).trans z4⟩, ⟨(b5.frozen (p := ⟨g, _, none⟩) hgl).trans (hz _), (b5.frozen (p := ⟨g, _, none⟩) hgl).trans (hz _), (b5.frozen (p := ⟨g, _, none⟩) hgl).trans (hz _), (b5.frozen (p := ⟨g, _, none⟩) hgl).trans (hz _), (b5.frozen (p := ⟨g, _, none⟩) hgl).trans (hz _)⟩, Lib.hid ⟨hs ++ [huOf x a n c], by simp [hl], ?_, fun j h p e1 e2 => ?_⟩⟩
  · rw [show m - k = m - (k + 1) + 1 by omega, ← hl, list_step, hl] at ho5
    exact ho5
  · rw [setU_size]
    rcases Nat.lt_or_ge j hs.length with hj | hj
    · rw [List.getElem?_append_left hj] at e1
      exact (hfr j h p e1 e2).to (fun b hb => (setU_other w5 g k b _ (by omega)).trans (b5.block b hb.2)) (fun b hb => ⟨hb.1, by omega⟩)
    · have hjl : j < (hs ++ [huOf x a n c]).length := (List.getElem?_eq_some_iff.1 e1).1
      have hjk : j = k := by simp at hjl; omega
      subst hjk
      rw [List.getElem?_append_right hj] at e1
      have e3 : j - hs.length = 0 := by omega
      rw [e3] at e1
      simp only [List.getElem?_cons_zero, Option.some.injEq] at e1
      rw [hx] at e2
      injection e2 with e2
      subst e1 e2
      exact ⟨⟨rfl, rfl, rfl, rfl⟩, ArP.to (fun b hb => setU_other w5 g j b _ (by unfold Nw at hb; omega)) (fun b hb => by unfold Nw at hb; omega) x.t hA⟩
theorem PartU.done {w0 wr : World} {g : Nat} {lr : List Pr} {m : Nat} (hp : PartU w0 g lr m m wr) (hm : lr.length = m) (hg : w0.heap.size ≤ g) :
    OwnP wr w0.heap.size (.slice (some ⟨g, 0, none⟩) m m) lr ∧ UP (fun b => w0.heap.size ≤ b ∧ b < wr.heap.size) wr (some ⟨g, 0, none⟩) m m lr := by
  obtain ⟨hs, hl, ho, hfr⟩ := hp
  rw [Nat.sub_self, List.replicate_zero, List.append_nil] at ho
  have ow : OwnP wr w0.heap.size (.slice (some ⟨g, 0, none⟩) m m) lr := ⟨hs, ho, by omega, fun i h p e1 e2 => (hfr i h p e1 e2).to (fun _ _ => rfl) (fun b hb => ⟨hb.2, fun e => absurd (show g = b by simpa [Value.ownBlock] using e) (by omega)⟩)⟩
  have hgl := ho.row.lt
  obtain ⟨q1, q2, q3, q4, q5⟩ := ow.up
  refine ⟨ow, q1, q2, q3, q4, fun hn => ⟨g, 0, rfl, ⟨hg, hgl⟩, fun i p hi => ?_⟩⟩
  have hi2 : i < hs.length := by have := (List.getElem?_eq_some_iff.1 hi).1; omega
  refine ⟨hs[i], (hfr i _ p (List.getElem?_eq_getElem hi2) hi).to (fun _ _ => rfl) (fun b hb => ⟨by omega, hb.2⟩), fun j u hj => ?_⟩
  have hj5 : j < 5 := (List.getElem?_eq_some_iff.1 hj).1
  obtain ⟨cur, hg2, hl2, ht⟩ := ho.row
  rw [Nat.zero_add, cell_of_row wr g _ _ _ _ hg2, ← hj, ← flatU_get hs i j hi2 hj5, ← ht, List.getElem?_take_of_lt (by omega), Array.getElem?_toList]

set_option maxRecDepth 100000 in
set_option maxHeartbeats 4000000 in
theorem mappedU_any (l : List Pr) (hsz : ∀ p ∈ l, size p.t ≤ 1000000) (b : Option Addr) (m d : Nat) (w : World) (hm : m ≤ 1000000) (hG : UsW w b m d l) :
    Calls Try.prog 61 #[.slice b m d, .func (.func 62) #[] #[]] w fun e w' => ∃ A C, e = .returned (.slice A m C) ∧ OwnP w' w.heap.size (.slice A m C) l ∧ UP (fun b => w.heap.size ≤ b ∧ b < w'.heap.size) w' A m C l ∧ Below w.heap.size w w' := by
  by_cases hm0 : m = 0
  · subst hm0
    have hl : l = [] := List.length_eq_zero_iff.1 hG.1.symm
    subst hl
    clear hG hsz
    go_enter Try.func61, Try.ntmps61
    go_wp2
    go_ret
    exact ⟨_, _, rfl, OwnP.nil _ _, ⟨rfl, Nat.le_refl _, Nat.zero_le _, fun _ => rfl, fun h => absurd h (by omega)⟩, Below.refl _ _⟩
  · have hmk := make_pairs m hm w
    have hmd := made_pairs m hm w
    obtain ⟨W1, hW1⟩ : ∃ W1, w.alloc (.cells (madeCells #[.string ⟨#[]⟩, .int .i64 0, .string ⟨#[]⟩, .int .i64 0, .slice none 0 0] (m * 5)) 43) = W1 := ⟨_, rfl⟩
    rw [hW1] at hmk hmd
    have hB1 : Below w.heap.size w W1 := by rw [← hW1]; exact bel_alloc (Below.refl _ _) _
    have hm1 : ((m : Int) == 0) = false := by simp; omega
    have P0 : PartU w w.heap.size l m 0 W1 := ⟨[], rfl, by simpa using hmd, fun j h t e => by simp at e⟩
    have HT := Lib.hid hG
    have HK := Lib.hid (show ∀ k x, l[k]? = some x → size x.t ≤ 1000000 from fun k x h => hsz x (List.mem_of_getElem? h))
    have HP0 := Lib.hid P0
    have HL := Lib.hid (show l.length = m from hG.1.symm)
    clear hG hsz hmd P0 hW1
    go_enter Try.func61, Try.ntmps61
    go_wp2
    go_loopw [16] (fun i wr0 => ∃ (wr : World) (k : Nat), wr = wr0 ∧ k ≤ m ∧ i = .int .i64 k ∧ Below w.heap.size w wr ∧ Hid (PartU w w.heap.size l m k wr)) (fun i _ => m - (intOf i).toNat)
    case atStart => exact ⟨_, 0, rfl, by omega, rfl, hB1, HP0⟩
    case round =>
      obtain ⟨wr, k, rfl, hk, rfl, hB, hR⟩ := hrel
      by_cases hlt : k < m
      · obtain ⟨bb, o, x, A, M, Cc, rfl, hb, y0, y1, y2, y3, y4, hx, hok⟩ := (UsW.b HT.out hB).at hlt
        obtain ⟨W4, hW4, hB4, hs4, S4⟩ := ubox1 wr x.nm (opT x.t) (nameT x.t) (numT x.t) A M Cc
        have cc := copied1_any x A M Cc W4 (HK.out k x hx) (ArW.b hok hB4)
        unfold RtP at cc
        obtain ⟨f0, f1, f2, f3, f4⟩ := S4.five
        have B4 := bel_trans hB hB4
        have Hx := Lib.hid hx
        have HGo := Lib.hid (show ∀ (w5 : World) (a : Option Addr) (n c : Nat), Below W4.heap.size W4 w5 → ArP (Nw 0 0 W4.heap.size w5.heap.size) w5 x.t a n c → _ from fun w5 a n c h5 hA => PartU.go hR.out hlt hx hB4 h5 hA)
        unfold huOf at HGo
        clear hx hok HK S4 hs4
        generalize opT x.t = op' at *
        generalize nameT x.t = nm' at *
        generalize numT x.t = nu' at *
        generalize x.nm = xn at *
        have hk0 : 0 ≤ (k : Int) := by omega
        have hk1 : (k : Int) < (m : Int) := by omega
        go_wp2_with (go_at_call 62; ((with_reducible refine cc.mono ?_); rintro e w5 ⟨a5, n5, c5, rfl, hF, hb5⟩; obtain ⟨⟨q0, q1, q2, q3, q4⟩, ⟨g0, g1, g2, g3, g4⟩, Hn⟩ := HGo.out w5 a5 n5 c5 hb5 hF; clear hF))
        go_roundw
        case rel => exact ⟨_, k + 1, rfl, by omega, by go_num, setU_below (bel_trans B4 hb5) (Nat.le_refl _) k ⟨xn, op', nm', nu', a5, n5, c5⟩, Hn⟩
        case measure => simp [intOf]; omega
      · obtain rfl : k = m := by omega
        have Hd := Lib.hid (PartU.done hR.out HL.out (Nat.le_refl _))
        clear hR
        go_wp2
        go_ret
        exact ⟨_, _, rfl, Hd.out.1, Hd.out.2, hB⟩
theorem copied_any (l : List Pr) (hsz : ∀ p ∈ l, size p.t ≤ 1000000) (b : Option Addr) (m d : Nat) (w : World) (hm : m ≤ 1000000) (hG : UsW w b m d l) :
    Calls Try.prog 34 #[.slice b m d] w fun e w' => ∃ A C, e = .returned (.slice A m C) ∧ OwnP w' w.heap.size (.slice A m C) l ∧ UP (fun b => w.heap.size ≤ b ∧ b < w'.heap.size) w' A m C l ∧ Below w.heap.size w w' := by
  have cc := mappedU_any l hsz b m d w hm hG
  clear hG hsz
  go_enter Try.func34, Try.ntmps34
  go_wp2_with (go_at_call 61; ((with_reducible refine cc.mono ?_); rintro e w5 ⟨A, C, rfl, h1, h2, h3⟩; have H1 := Lib.hid h1; have H2 := Lib.hid h2; clear h1 h2))
  go_ret
  exact ⟨_, _, rfl, H1.out, H2.out, h3⟩
end Go.Proofs.Yteidknjhponpkaa.U
namespace Go.Proofs.Yteidknjhponpkaa.U
open Go.RowKit L T C
set_option linter.unusedVariables false
set_option linter.unusedSimpArgs false

theorem emptyP_own (w : World) : OwnP (w.alloc (.cells #[] 43)) w.heap.size (.slice (some ⟨w.heap.size, 0, none⟩) 0 0) [] :=
  ⟨[], ⟨rfl, .inr ⟨w.heap.size, 0, #[], rfl, Nat.le_refl _, heap_alloc_new w _, Nat.le_refl _, Nat.zero_le _, rfl, rfl⟩⟩, rfl, fun i h p hi => by simp at hi⟩
set_option maxRecDepth 100000 in
set_option maxHeartbeats 4000000 in
theorem cloneU_any (A : Option Addr) (n c : Nat) (l : List Pr) (w : World) (hG : UsW w A n c l) (hn : n ≤ 1000000) :
    Calls Try.prog 53 #[.slice A n c] w fun e w' => ∃ v, e = .returned v ∧ OwnP w' w.heap.size v l ∧ Below w.heap.size w w' := by
  have qT : ∀ (w : World) (a : Option Addr) (n c : Nat), (binOp .eql 31 (.slice a n c) (.slice none 0 0)).run Try.prog w = .ok (.bool a.isNone) w := fun w a n c => Lib.run_eql_slice_nil w _ _ _ _ _ _ _ Try.underlying31
  cases A with
  | none =>
    have hc : c = 0 := hG.2.2.2.1 rfl
    have hn0 : n = 0 := by have := hG.2.1; omega
    have hX0 : l = [] := List.eq_nil_of_length_eq_zero (by have := hG.1; omega)
    subst hX0 hc hn0
    clear hG
    go_enter Try.func53, Try.ntmps53
    go_wp2
    go_ret
    exact ⟨_, rfl, OwnP.nil _ _, Below.refl _ _⟩
  | some ad =>
    have hB : Below w.heap.size w (w.alloc (.cells #[] 43)) := bel_alloc (Below.refl _ _) _
    have ho := emptyP_own w
    have hX1 := (IsU.up (hG.bel hB))
    have hs := hB.size
    have hlt : ∀ b, b < w.heap.size → b < (w.alloc (.cells #[] 43)).heap.size ∧ (Value.slice (some ⟨w.heap.size, 0, none⟩) 0 0).ownBlock ≠ some b := fun b hb => ⟨by omega, fun e => by
      have e' : w.heap.size = b := by simpa [Value.ownBlock] using e
      omega⟩
    have hl : ([] : List Pr).length + l.length ≤ 1000000000 := by have := hG.1; simp; omega
    have HB := Lib.hid hB
    have HX := Lib.hid hX1
    clear hG hB hX1
    go_enter Try.func53, Try.ntmps53
    go_wp2_with (at_builtin; ((refine app_pairs rfl (.tmp 5) (.tmp 6) rfl w.heap.size _ [] rfl ho _ hlt _ _ _ l rfl HX.out hl hs ?_); intro v1 w1 ho1 hg1))
    go_ret
    exact ⟨_, rfl, ho1, HB.out.grown hg1 hs (fun k hk => (ho.lt k hk).1)⟩

/-! names that rise -/
def incU (l : List Pr) : Prop := ∀ k p q, l[k]? = some p → l[k + 1]? = some q → cmpN q.nm p.nm = 1
set_option maxRecDepth 100000 in
set_option maxHeartbeats 4000000 in
theorem ordered1_any (p q : Pr) (a : Option Addr) (n c : Nat) (a' : Option Addr) (n' c' : Nat) (w : World) :
    Calls Try.prog 55 #[.agg #[.string p.nm, .int .i64 (opT p.t), .string (nameT p.t), .int .i64 (numT p.t), .slice a n c], .agg #[.string q.nm, .int .i64 (opT q.t), .string (nameT q.t), .int .i64 (numT q.t), .slice a' n' c']] w fun e w' => e = .returned (.int .i64 (cmpN p.nm q.nm)) ∧ Below w.heap.size w w' := by
  obtain ⟨W3, hW3, hB3, hs3, S3, R3⟩ := ubox2 w p.nm (opT p.t) (nameT p.t) (numT p.t) a n c q.nm (opT q.t) (nameT q.t) (numT q.t) a' n' c'
  have cT := cmp_str p.nm q.nm W3
  obtain ⟨s0, s1, s2, s3, s4⟩ := S3.five
  obtain ⟨r0, r1, r2, r3, r4⟩ := R3.five
  clear S3 R3
  generalize cmpN p.nm q.nm = E at *
  generalize opT p.t = op at *
  generalize nameT p.t = nm at *
  generalize numT p.t = nu at *
  generalize opT q.t = op' at *
  generalize nameT q.t = nm' at *
  generalize numT q.t = nu' at *
  generalize p.nm = x at *
  generalize q.nm = y at *
  go_enter Try.func55, Try.ntmps55
  go_wp2_with (go_at_call 44; ((with_reducible refine cT.mono ?_); rintro e w4 ⟨rfl, rfl⟩))
  go_ret
  exact ⟨by simp, hB3⟩
set_option maxRecDepth 100000 in
set_option maxHeartbeats 4000000 in
theorem ordered2_any (p q : Pr) (a : Option Addr) (n c : Nat) (a' : Option Addr) (n' c' : Nat) (w : World) :
    Calls Try.prog 57 #[.agg #[.string p.nm, .int .i64 (opT p.t), .string (nameT p.t), .int .i64 (numT p.t), .slice a n c], .agg #[.string q.nm, .int .i64 (opT q.t), .string (nameT q.t), .int .i64 (numT q.t), .slice a' n' c']] w fun e w' => e = .returned (.bool (p.nm.toList == q.nm.toList)) ∧ Below w.heap.size w w' := by
  obtain ⟨W3, hW3, hB3, hs3, S3, R3⟩ := ubox2 w p.nm (opT p.t) (nameT p.t) (numT p.t) a n c q.nm (opT q.t) (nameT q.t) (numT q.t) a' n' c'
  obtain ⟨s0, s1, s2, s3, s4⟩ := S3.five
  obtain ⟨r0, r1, r2, r3, r4⟩ := R3.five
  clear S3 R3
  generalize opT p.t = op at *
  generalize nameT p.t = nm at *
  generalize numT p.t = nu at *
  generalize opT q.t = op' at *
  generalize nameT q.t = nm' at *
  generalize numT q.t = nu' at *
  generalize p.nm = x at *
  generalize q.nm = y at *
  go_enter Try.func57, Try.ntmps57
  go_wp2
  go_ret
  exact ⟨by simp, hB3⟩
set_option maxRecDepth 100000 in
set_option maxHeartbeats 8000000 in
theorem insertionU_inc (l : List Pr) (hi : incU l) (A : Option Addr) (n c : Nat) (w : World) (hG : UsW w A n c l) (hn : n ≤ 1000000) :
    Calls Try.prog 88 #[.slice A n c, .int .i64 0, .int .i64 n, .func (.func 55) #[] #[]] w fun e w' => (∃ v, e = .returned v) ∧ Below w.heap.size w w' := by
  have HG := Lib.hid hG
  have HI := Lib.hid hi
  clear hG hi
  go_enter Try.func88, Try.ntmps88
  go_wp2
  go_loopw [8] (fun i wr0 => ∃ (wr : World) (m : Nat), wr = wr0 ∧ (m < n ∨ m = 0) ∧ i = .int .i64 ((m : Int) + 1) ∧ Below w.heap.size w wr) (fun i _ => n - (intOf i).toNat)
  case atStart => exact ⟨_, 0, rfl, .inr rfl, rfl, Below.refl _ _⟩
  case round =>
    obtain ⟨wr, m, rfl, hm, rfl, hB⟩ := hrel
    by_cases hlt : m + 1 < n
    · obtain ⟨bb, o, p, a', n', c', rfl, hb, y0, y1, y2, y3, y4, hp, hok⟩ := HG.out.at (show m < n by omega)
      obtain ⟨bb', o', q, a2, n2, c2, h2, hb', z0, z1, z2, z3, z4, hq, hok'⟩ := HG.out.at hlt
      injection h2 with h2
      injection h2 with h2 h3
      subst h2 h3
      have hcmp := HI.out m p q hp hq
      have cC := fun (w' : World) => ordered1_any q p a2 n2 c2 a' n' c' w'
      rw [hcmp] at cC
      have hBd : Below wr.heap.size wr wr.drew := (Below.refl _ _).drew
      have hbr : bb < wr.heap.size := Nat.lt_of_lt_of_le hb hB.size
      have x0 := (hB.cell (p := ⟨bb, _, none⟩) hb).trans y0
      have x1 := (hB.cell (p := ⟨bb, _, none⟩) hb).trans y1
      have x2 := (hB.cell (p := ⟨bb, _, none⟩) hb).trans y2
      have x3 := (hB.cell (p := ⟨bb, _, none⟩) hb).trans y3
      have x4 := (hB.cell (p := ⟨bb, _, none⟩) hb).trans y4
      have u0 := (hB.cell (p := ⟨bb, _, none⟩) hb).trans z0
      have u1 := (hB.cell (p := ⟨bb, _, none⟩) hb).trans z1
      have u2 := (hB.cell (p := ⟨bb, _, none⟩) hb).trans z2
      have u3 := (hB.cell (p := ⟨bb, _, none⟩) hb).trans z3
      have u4 := (hB.cell (p := ⟨bb, _, none⟩) hb).trans z4
      clear y0 y1 y2 y3 y4 z0 z1 z2 z3 z4 hp hq hok hok' hcmp HG HI
      generalize opT p.t = op at *
      generalize nameT p.t = nm at *
      generalize numT p.t = nu at *
      generalize opT q.t = op2 at *
      generalize nameT q.t = nm2 at *
      generalize numT q.t = nu2 at *
      generalize p.nm = x at *
      generalize q.nm = y at *
      have hwr : IntKind.i64.wrap ((m : Int) + 1 - 1) = (m : Int) := by rw [IntKind.wrap_i64]; omega
      have hwr2 : IntKind.i64.wrap (m : Int) = (m : Int) := by rw [IntKind.wrap_i64]; omega
      have hk0 : 0 ≤ (m : Int) := by omega
      have hk1 : 0 ≤ (m : Int) + 1 := by omega
      have hkN : (m : Int) + 1 < (n : Int) := by omega
      have hkN0 : (m : Int) < (n : Int) := by omega
      have hgt : (0 : Int) < (m : Int) + 1 := by omega
      go_wp2
      refine wp_loop_rounds 1 ?_
      rw [rounds_succ]
      go_wp2_with fail
      go_region_held3 (fun w' => w'.cell? ⟨bb, o + m * 5, none⟩ = some (.string x) ∧ w'.cell? ⟨bb, o + m * 5 + 1, none⟩ = some (.int .i64 op) ∧ w'.cell? ⟨bb, o + m * 5 + 1 + 1, none⟩ = some (.string nm) ∧ w'.cell? ⟨bb, o + m * 5 + 1 + 1 + 1, none⟩ = some (.int .i64 nu) ∧ w'.cell? ⟨bb, o + m * 5 + 1 + 1 + 1 + 1, none⟩ = some (.slice a' n' c') ∧ w'.cell? ⟨bb, o + (m + 1) * 5, none⟩ = some (.string y) ∧ w'.cell? ⟨bb, o + (m + 1) * 5 + 1, none⟩ = some (.int .i64 op2) ∧ w'.cell? ⟨bb, o + (m + 1) * 5 + 1 + 1, none⟩ = some (.string nm2) ∧ w'.cell? ⟨bb, o + (m + 1) * 5 + 1 + 1 + 1, none⟩ = some (.int .i64 nu2) ∧ w'.cell? ⟨bb, o + (m + 1) * 5 + 1 + 1 + 1 + 1, none⟩ = some (.slice a2 n2 c2))
        (first | go_keep | (exact ⟨(B4.cell hbr).trans x0, (B4.cell hbr).trans x1, (B4.cell hbr).trans x2, (B4.cell hbr).trans x3, (B4.cell hbr).trans x4, (B4.cell hbr).trans u0, (B4.cell hbr).trans u1, (B4.cell hbr).trans u2, (B4.cell hbr).trans u3, (B4.cell hbr).trans u4⟩))
        (first | (go_at_call 55; ((with_reducible refine (cC _).mono ?_); rintro e w4 ⟨rfl, hb4⟩; have B4 := bel_trans hBd hb4)))
      all_goals go_wp2
      all_goals go_roundw
      case rel => exact ⟨_, m + 1, rfl, by omega, by go_num, bel_trans hB B4⟩
      case measure => simp [intOf]; omega
    · have hge : ¬ (m : Int) + 1 < (n : Int) := by omega
      clear HG HI
      go_wp2
      go_end0
      exact ⟨⟨_, rfl⟩, hB⟩
set_option maxRecDepth 100000 in
set_option maxHeartbeats 8000000 in
theorem stableU_inc (l : List Pr) (hi : incU l) (A : Option Addr) (n c : Nat) (w : World) (hG : UsW w A n c l) (hn : n < 20) :
    Calls Try.prog 78 #[.slice A n c, .int .i64 n, .func (.func 55) #[] #[]] w fun e w' => (∃ v, e = .returned v) ∧ Below w.heap.size w w' := by
  have cI := insertionU_inc l hi A n c w hG (by omega)
  have h1 : ¬ (20 : Int) ≤ (n : Int) := by omega
  have h2 : ¬ (20 : Int) < (n : Int) := by omega
  clear hG hi
  go_enter Try.func78, Try.ntmps78
  go_wp2
  refine wp_loop_rounds 1 ?_
  rw [rounds_succ]
  go_wp2_with (go_at_call 88; ((with_reducible refine cI.mono ?_); rintro e w1 ⟨⟨v, rfl⟩, hG⟩))
  refine wp_loop_rounds 1 ?_
  rw [rounds_succ]
  go_wp2
  go_end0
  exact ⟨⟨_, rfl⟩, hG⟩
set_option maxRecDepth 100000 in
theorem sortU_inc (l : List Pr) (hi : incU l) (A : Option Addr) (n c : Nat) (w : World) (hG : UsW w A n c l) (hn : n < 20) :
    Calls Try.prog 54 #[.slice A n c, .func (.func 55) #[] #[]] w fun e w' => (∃ v, e = .returned v) ∧ Below w.heap.size w w' := by
  have cI := stableU_inc l hi A n c w hG hn
  clear hG hi
  go_enter Try.func54, Try.ntmps54
  go_wp2_with (go_at_call 78; ((with_reducible refine cI.mono ?_); rintro e w1 ⟨⟨v, rfl⟩, hG⟩))
  go_end0
  exact ⟨⟨_, rfl⟩, hG⟩
theorem inc_ne {x y : ByteArray} (h : cmpN x y = 1) : (x.toList == y.toList) = false := by
  cases hq : x.toList == y.toList with
  | false => rfl
  | true =>
    have e := eqS_iff.1 hq
    subst e
    rw [(linN.eq x x).2 rfl] at h
    cases h
set_option maxRecDepth 100000 in
set_option maxHeartbeats 8000000 in
theorem compactU_inc (l : List Pr) (hi : incU l) (A : Option Addr) (n c : Nat) (w : World) (hG : UsW w A n c l) (hn : n ≤ 1000000) :
    Calls Try.prog 56 #[.slice A n c, .func (.func 57) #[] #[]] w fun e w' => e = .returned (.slice A n c) ∧ Below w.heap.size w w' := by
  by_cases h2 : n < 2
  · have h2' : (n : Int) < 2 := by omega
    clear hG hi
    go_enter Try.func56, Try.ntmps56
    go_wp2
    go_ret
    exact ⟨rfl, Below.refl _ _⟩
  · have h2' : ¬ (n : Int) < 2 := by omega
    have HG := Lib.hid hG
    have HI := Lib.hid hi
    clear hG hi
    go_enter Try.func56, Try.ntmps56
    go_wp2
    go_loopw [5] (fun i wr0 => ∃ (wr : World) (k : Nat), wr = wr0 ∧ k < n ∧ i = .int .i64 ((k : Int) + 1) ∧ Below w.heap.size w wr) (fun i _ => n - (intOf i).toNat)
    case atStart => exact ⟨_, 0, rfl, by omega, rfl, Below.refl _ _⟩
    case round =>
      obtain ⟨wr, m, rfl, hk, rfl, hB⟩ := hrel
      by_cases hlt : m + 1 < n
      · obtain ⟨bb, o, p, a', n', c', rfl, hb, y0, y1, y2, y3, y4, hp, hok⟩ := HG.out.at (show m < n by omega)
        obtain ⟨bb', o', q, a2, n2, c2, h2, hb', z0, z1, z2, z3, z4, hq, hok'⟩ := HG.out.at hlt
        injection h2 with h2
        injection h2 with h2 h3
        subst h2 h3
        have hcmp := inc_ne (HI.out m p q hp hq)
        have cC := fun (w' : World) => ordered2_any q p a2 n2 c2 a' n' c' w'
        rw [hcmp] at cC
        have hBd : Below wr.heap.size wr wr.drew := (Below.refl _ _).drew
        have hbr : bb < wr.heap.size := Nat.lt_of_lt_of_le hb hB.size
        have x0 := (hB.cell (p := ⟨bb, _, none⟩) hb).trans y0
        have x1 := (hB.cell (p := ⟨bb, _, none⟩) hb).trans y1
        have x2 := (hB.cell (p := ⟨bb, _, none⟩) hb).trans y2
        have x3 := (hB.cell (p := ⟨bb, _, none⟩) hb).trans y3
        have x4 := (hB.cell (p := ⟨bb, _, none⟩) hb).trans y4
        have u0 := (hB.cell (p := ⟨bb, _, none⟩) hb).trans z0
        have u1 := (hB.cell (p := ⟨bb, _, none⟩) hb).trans z1
        have u2 := (hB.cell (p := ⟨bb, _, none⟩) hb).trans z2
        have u3 := (hB.cell (p := ⟨bb, _, none⟩) hb).trans z3
        have u4 := (hB.cell (p := ⟨bb, _, none⟩) hb).trans z4
        clear y0 y1 y2 y3 y4 z0 z1 z2 z3 z4 hp hq hok hok' hcmp HG HI
        generalize opT p.t = op at *
        generalize nameT p.t = nm at *
        generalize numT p.t = nu at *
        generalize opT q.t = op2 at *
        generalize nameT q.t = nm2 at *
        generalize numT q.t = nu2 at *
        generalize p.nm = x at *
        generalize q.nm = y at *
        have hwr : IntKind.i64.wrap ((m : Int) + 1 - 1) = (m : Int) := by rw [IntKind.wrap_i64]; omega
        have hwr2 : IntKind.i64.wrap (m : Int) = (m : Int) := by rw [IntKind.wrap_i64]; omega
        have hk0 : 0 ≤ (m : Int) := by omega
        have hk1 : 0 ≤ (m : Int) + 1 := by omega
        have hkN : (m : Int) + 1 < (n : Int) := by omega
        have hkN0 : (m : Int) < (n : Int) := by omega
        go_wp2_with fail
        go_region_held3 (fun w' => w'.cell? ⟨bb, o + m * 5, none⟩ = some (.string x) ∧ w'.cell? ⟨bb, o + m * 5 + 1, none⟩ = some (.int .i64 op) ∧ w'.cell? ⟨bb, o + m * 5 + 1 + 1, none⟩ = some (.string nm) ∧ w'.cell? ⟨bb, o + m * 5 + 1 + 1 + 1, none⟩ = some (.int .i64 nu) ∧ w'.cell? ⟨bb, o + m * 5 + 1 + 1 + 1 + 1, none⟩ = some (.slice a' n' c') ∧ w'.cell? ⟨bb, o + (m + 1) * 5, none⟩ = some (.string y) ∧ w'.cell? ⟨bb, o + (m + 1) * 5 + 1, none⟩ = some (.int .i64 op2) ∧ w'.cell? ⟨bb, o + (m + 1) * 5 + 1 + 1, none⟩ = some (.string nm2) ∧ w'.cell? ⟨bb, o + (m + 1) * 5 + 1 + 1 + 1, none⟩ = some (.int .i64 nu2) ∧ w'.cell? ⟨bb, o + (m + 1) * 5 + 1 + 1 + 1 + 1, none⟩ = some (.slice a2 n2 c2))
          (first | go_keep | (exact ⟨(B4.cell hbr).trans x0, (B4.cell hbr).trans x1, (B4.cell hbr).trans x2, (B4.cell hbr).trans x3, (B4.cell hbr).trans x4, (B4.cell hbr).trans u0, (B4.cell hbr).trans u1, (B4.cell hbr).trans u2, (B4.cell hbr).trans u3, (B4.cell hbr).trans u4⟩))
          (first | (go_at_call 57; ((with_reducible refine (cC _).mono ?_); rintro e w4 ⟨rfl, hb4⟩; have B4 := bel_trans hBd hb4)))
        all_goals go_wp2
        all_goals go_roundw
        case rel => exact ⟨_, m + 1, rfl, by omega, by go_num, bel_trans hB B4⟩
        case measure => simp [intOf]; omega
      · have hge : ¬ (m : Int) + 1 < (n : Int) := by omega
        clear HG HI
        go_wp2
        go_ret
        exact ⟨rfl, hB⟩
set_option maxRecDepth 100000 in
/-- pairs whose names rise already, put in order -/
theorem orderedU_inc (l : List Pr) (hi : incU l) (A : Option Addr) (n c : Nat) (w : World) (hG : UsW w A n c l) (hn : n < 20) :
    Calls Try.prog 31 #[.slice A n c] w fun e w' => ∃ A' C', e = .returned (.slice A' n C') ∧ OwnP w' w.heap.size (.slice A' n C') l ∧ Below w.heap.size w w' := by
  have cC := cloneU_any A n c l w hG (by omega)
  have hl : n = l.length := hG.1
  have HS := Lib.hid (show ∀ (A' : Option Addr) (C' : Nat) (W : World), UsW W A' n C' l → _ from fun A' C' W h => sortU_inc l hi A' n C' W h hn)
  have HK := Lib.hid (show ∀ (A' : Option Addr) (C' : Nat) (W : World), UsW W A' n C' l → _ from fun A' C' W h => compactU_inc l hi A' n C' W h (by omega))
  have HL := Lib.hid hl
  clear hG hi hl
  go_enter Try.func31, Try.ntmps31
  go_wp2_with (first
    | (go_at_call 53; ((with_reducible refine cC.mono ?_); rintro e w1 ⟨v, rfl, ho, hb1⟩; obtain ⟨A', C', hv, -⟩ := ho.slice; rw [← HL.out] at hv; subst hv; have HO := Lib.hid ho; clear ho; have hsO := HS.out A' C' w1 HO.out.us))
    | (go_at_call 54; ((with_reducible refine hsO.mono ?_); rintro e w2 ⟨⟨v2, rfl⟩, hb2⟩; have hkO := HK.out A' C' w2 (HO.out.below hb2).us))
    | (go_at_call 56; ((with_reducible refine hkO.mono ?_); rintro e w3 ⟨rfl, hb3⟩)))
  go_ret
  exact ⟨_, _, rfl, HO.out.below (bel_trans hb2 hb3), bel_trans hb1 (bel_trans hb2 hb3)⟩
end Go.Proofs.Yteidknjhponpkaa.U
