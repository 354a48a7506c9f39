/-
  What is proved: functions of a signature as lists: what makes a signature valid, the errors, what is found; how such a list lies in memory.
-/
import Derived.Test.YtakcbpmdjdadnaaSrtM
namespace Go.Proofs.Ytakcbpmdjdadnaa.Sgn
open Go.RowKit L Srt
set_option linter.unusedVariables false
set_option linter.unusedSimpArgs false

/-- a function's name, arguments, result -/
abbrev Core := ByteArray × List ByteArray × ByteArray
/-- the same, with where its arguments lie -/
structure Fm where
  name : ByteArray
  a : Option Addr
  m : Nat
  c : Nat
  X : List ByteArray
  res : ByteArray
def Fm.core (f : Fm) : Core := (f.name, f.X, f.res)
def Fm.cells (f : Fm) : List Value := [.string f.name, .slice f.a f.m f.c, .string f.res]
abbrev Fm.val (f : Fm) : Value := .agg #[.string f.name, .slice f.a f.m f.c, .string f.res]
def Fm.ok (f : Fm) (w : World) : Prop := SlS w f.a f.m f.c f.X
def cores (G : List Fm) : List Core := G.map Fm.core
theorem cores_len (G : List Fm) : (cores G).length = G.length := by simp [cores]
theorem cores_at {G : List Fm} {k : Nat} {f : Fm} (h : G[k]? = some f) : (cores G)[k]? = some f.core := by simp [cores, h]
theorem cores_app (G : List Fm) (f : Fm) : cores (G ++ [f]) = cores G ++ [f.core] := by simp [cores]
theorem cores_take (G : List Fm) (k : Nat) : cores (G.take k) = (cores G).take k := by simp [cores, List.map_take]

def nmB (s : ByteArray) : Bool := nameB s.data.toList && !wordB s.data.toList
def knownB (S : List ByteArray) (s : ByteArray) : Bool := decide (0 ≤ placeI S s)
def unfitB (S : List ByteArray) (s : ByteArray) : Bool := (s.toList == [66, 111, 111, 108]) || !knownB S s
def checkE (S : List ByteArray) (C : Core) : Int :=
  if nmB C.1 = false then 10 else if 8 < C.2.1.length then 12 else if C.2.1.any (unfitB S) = true then 11 else if knownB S C.2.2 = false then 11 else 0
def hasN (K : List Core) (s : ByteArray) : Bool := K.any (fun C => C.1.toList == s.toList)
def idxK (K : List Core) (s : ByteArray) : Nat := K.findIdx (fun C => C.1.toList == s.toList)
def posK (K : List Core) (s : ByteArray) : Int := if idxK K s < K.length then (idxK K s : Int) else -1
def rgtK (S : List ByteArray) : List Core → List Core → Int
  | _, [] => 0
  | P, C :: l => if checkE S C ≠ 0 then checkE S C else if hasN P C.1 = true then 4 else rgtK S (P ++ [C]) l
def signE (S : List ByteArray) (K : List Core) : Int := if rightV S ≠ 0 then rightV S else if 256 < K.length then 2 else rgtK S [] K
def sortE (S : List ByteArray) (K : List Core) (s : ByteArray) : Int := if putE S s ≠ 0 then putE S s else if hasN K s = true then 4 else 0
def funE (S : List ByteArray) (K : List Core) (C : Core) : Int :=
  if checkE S C ≠ 0 then checkE S C else if (hasN K C.1 || knownB S C.1) = true then 4 else if 256 ≤ K.length then 2 else 0
def pickB (s : ByteArray) (C : Core) : Bool := decide (C.2.1.length = 0) && (C.2.2.toList == s.toList)
def constS (K : List Core) (s : ByteArray) : List ByteArray := (K.filter (pickB s)).map (·.1)
def eqC (C D : Core) : Bool := (C.1.toList == D.1.toList) && ((C.2.2.toList == D.2.2.toList) && eqL C.2.1 D.2.1)
def eqK : List Core → List Core → Bool
  | [], [] => true
  | C :: l, D :: m => eqC C D && eqK l m
  | _, _ => false
def longC (C : Core) : Bool := (decide (100 < C.1.size) || (decide (100 < C.2.2.size) || decide (20 < C.2.1.length))) || C.2.1.any (fun x : ByteArray => decide (100 < x.size))
def longS (S : List ByteArray) (K : List Core) : Bool := (decide (70 < S.length) || decide (20 < K.length)) || (S.any (fun x : ByteArray => decide (100 < x.size)) || K.any longC)

theorem eqC_iff {C D : Core} : eqC C D = true ↔ C = D := by
  unfold eqC
  rw [Bool.and_eq_true, Bool.and_eq_true, eqS_iff, eqS_iff, eqL_iff]
  obtain ⟨a, b, c⟩ := C
  obtain ⟨d, e, f⟩ := D
  simp
  exact fun _ => And.comm
theorem eqK_iff : ∀ {K L : List Core}, eqK K L = true ↔ K = L
  | [], [] => by simp [eqK]
  | C :: l, [] => by simp [eqK]
  | [], D :: m => by simp [eqK]
  | C :: l, D :: m => by rw [eqK, Bool.and_eq_true, eqC_iff, eqK_iff]; simp
theorem eqC_refl (C : Core) : eqC C C = true := eqC_iff.2 rfl
theorem eqK_refl (K : List Core) : eqK K K = true := eqK_iff.2 rfl
theorem eqK_len {K L : List Core} (h : K.length ≠ L.length) : eqK K L = false := by
  cases hc : eqK K L with
  | false => rfl
  | true => exact absurd (congrArg List.length (eqK_iff.1 hc)) h

theorem known_or (S : List ByteArray) (s : ByteArray) : knownB S s = ((s.toList == [66, 111, 111, 108]) || ((s.toList == [73, 110, 116]) || hasS S s)) := by
  rw [Bool.eq_iff_iff]
  unfold knownB placeI
  rw [decide_eq_true_eq]
  simp only [Bool.or_eq_true, beq_iff_eq]
  have hi : 0 ≤ idxI S s ↔ hasS S s = true := by
    unfold idxI
    have : idxN S s < S.length ↔ hasS S s = true := by
      unfold idxN hasS
      rw [List.findIdx_lt_length, List.any_eq_true]
    rw [← this]
    split <;> omega
  rw [← hi]
  by_cases h1 : s.toList = [66, 111, 111, 108]
  · rw [if_pos h1]; exact ⟨fun _ => .inl h1, fun _ => by omega⟩
  · rw [if_neg h1]
    by_cases h2 : s.toList = [73, 110, 116]
    · rw [if_pos h2]; exact ⟨fun _ => .inr (.inl h2), fun _ => by omega⟩
    · rw [if_neg h2]
      by_cases h3 : 0 ≤ idxI S s
      · rw [if_pos h3]; exact ⟨fun _ => .inr (.inr h3), fun _ => by omega⟩
      · rw [if_neg h3]
        exact ⟨fun h => absurd h (by omega), fun h => by rcases h with h | h | h <;> contradiction⟩

theorem rgtK_at {S : List ByteArray} {K : List Core} {k : Nat} {C : Core} (h : K[k]? = some C) :
    rgtK S (K.take k) (K.drop k) = if checkE S C ≠ 0 then checkE S C else if hasN (K.take k) C.1 = true then 4 else rgtK S (K.take (k + 1)) (K.drop (k + 1)) := by
  obtain ⟨hk, rfl⟩ := List.getElem?_eq_some_iff.1 h
  rw [List.drop_eq_getElem_cons hk, rgtK, List.take_succ_eq_append_getElem hk]
theorem rgtK_end {S : List ByteArray} {K : List Core} {k : Nat} (h : K.length ≤ k) : rgtK S (K.take k) (K.drop k) = 0 := by
  rw [List.drop_eq_nil_of_le h]; rfl
theorem idxK_step {K : List Core} {k : Nat} {C : Core} (s : ByteArray) (h : K[k]? = some C) : idxK (K.drop k) s = if (C.1.toList == s.toList) = true then 0 else idxK (K.drop (k + 1)) s + 1 := by
  obtain ⟨hk, rfl⟩ := List.getElem?_eq_some_iff.1 h
  unfold idxK; rw [List.drop_eq_getElem_cons hk, List.findIdx_cons]
  cases K[k].1.toList == s.toList <;> rfl
theorem idxK_le (K : List Core) (s : ByteArray) : idxK K s ≤ K.length := List.findIdx_le_length
theorem posK_has (K : List Core) (s : ByteArray) : decide (0 ≤ posK K s) = hasN K s := by
  rw [Bool.eq_iff_iff, decide_eq_true_eq]
  have : idxK K s < K.length ↔ hasN K s = true := by
    unfold idxK hasN
    rw [List.findIdx_lt_length, List.any_eq_true]
  rw [← this]
  unfold posK
  split <;> omega
theorem posK_le (K : List Core) (s : ByteArray) : -1 ≤ posK K s ∧ posK K s < K.length := by
  unfold posK; split <;> omega
/-- an earlier function of the same name: by its place -/
theorem posK_early {K : List Core} {k : Nat} {C : Core} (h : K[k]? = some C) : decide (posK K C.1 < (k : Int)) = hasN (K.take k) C.1 := by
  obtain ⟨hk, rfl⟩ := List.getElem?_eq_some_iff.1 h
  rw [Bool.eq_iff_iff, decide_eq_true_eq]
  have hle : idxK K K[k].1 ≤ k := by
    refine Nat.le_of_not_lt fun hlt => ?_
    have := List.not_of_lt_findIdx (p := fun C : Core => C.1.toList == K[k].1.toList) (xs := K) (i := k) hlt
    rw [eqS_refl] at this; cases this
  unfold posK
  rw [if_pos (by omega)]
  unfold hasN
  rw [List.any_eq_true]
  constructor
  · intro hlt
    have hlt2 : idxK K K[k].1 < k := by omega
    have hl : idxK K K[k].1 < K.length := by omega
    refine ⟨K[idxK K K[k].1], List.mem_take_iff_getElem.2 ⟨idxK K K[k].1, by omega, rfl⟩, ?_⟩
    exact List.findIdx_getElem (p := fun C : Core => C.1.toList == K[k].1.toList) (w := hl)
  · rintro ⟨D, hD, he⟩
    obtain ⟨j, hj, rfl⟩ := List.mem_take_iff_getElem.1 hD
    have hjk : j < k := by omega
    refine Int.ofNat_lt.2 (Nat.lt_of_not_le fun hle2 => ?_)
    have := List.not_of_lt_findIdx (p := fun C : Core => C.1.toList == K[k].1.toList) (xs := K) (i := j) (Nat.lt_of_lt_of_le hjk hle2)
    have he2 : (K[j].1.toList == K[k].1.toList) = true := he
    rw [he2] at this; cases this

/-! how it lies in memory -/
def cellsF (G : List Fm) : List Value := G.flatMap Fm.cells
theorem cellsF_app (G : List Fm) (f : Fm) : cellsF (G ++ [f]) = cellsF G ++ f.cells := by simp [cellsF]
theorem cellsF_len (G : List Fm) : (cellsF G).length = G.length * 3 := by
  induction G with
  | nil => rfl
  | cons f G ih =>
    have e : cellsF (f :: G) = f.cells ++ cellsF G := by simp [cellsF]
    rw [e, List.length_append, ih]
    simp [Fm.cells]; omega
theorem cellsF_at (G : List Fm) (i : Nat) (h : i < G.length) : (cellsF G)[i * 3]? = some (.string G[i].name) ∧ (cellsF G)[i * 3 + 1]? = some (.slice G[i].a G[i].m G[i].c) ∧ (cellsF G)[i * 3 + 1 + 1]? = some (.string G[i].res) := by
  induction G generalizing i with
  | nil => simp at h
  | cons f G ih =>
    cases i with
    | zero => exact ⟨rfl, rfl, rfl⟩
    | succ i =>
      have e : cellsF (f :: G) = f.cells ++ cellsF G := by simp [cellsF]
      have h1 := ih i (by simpa using h)
      rw [e]
      have l : f.cells.length = 3 := rfl
      rw [List.getElem?_append_right (by omega), List.getElem?_append_right (by omega), List.getElem?_append_right (by omega), l]
      rw [show (i + 1) * 3 - 3 = i * 3 by omega, show (i + 1) * 3 + 1 - 3 = i * 3 + 1 by omega, show (i + 1) * 3 + 1 + 1 - 3 = i * 3 + 1 + 1 by omega]
      exact h1
theorem cells_one (f : Fm) : ∀ u ∈ f.cells, u.oneCell' = true := by
  intro u hu
  simp [Fm.cells] at hu
  rcases hu with rfl | rfl | rfl <;> rfl
theorem cellsF_one (G : List Fm) : ∀ u ∈ cellsF G, u.oneCell' = true := by
  intro u hu
  obtain ⟨f, _, h⟩ := List.mem_flatMap.1 hu
  exact cells_one f u h

def RowF (w : World) (b o : Nat) (G : List Fm) : Prop := ∀ i (h : i < G.length), w.cell? ⟨b, o + i * 3, none⟩ = some (.string G[i].name) ∧ w.cell? ⟨b, o + i * 3 + 1, none⟩ = some (.slice G[i].a G[i].m G[i].c) ∧ w.cell? ⟨b, o + i * 3 + 1 + 1, none⟩ = some (.string G[i].res)
/-- a slice's address and length read as a list of functions -/
def IsG (w : World) (a : Option Addr) (n : Nat) (G : List Fm) : Prop := n = G.length ∧ (0 < n → ∃ b o, a = some ⟨b, o, none⟩ ∧ b < w.heap.size ∧ RowF w b o G) ∧ ∀ f ∈ G, f.ok w
def SlG (w : World) (a : Option Addr) (n c : Nat) (G : List Fm) : Prop := IsG w a n G ∧ n ≤ c ∧ (a = none → c = 0)
theorem Fm.ok.below {f : Fm} {w w' : World} (h : f.ok w) (hb : Below w.heap.size w w') : f.ok w' := SlS.below h hb
theorem RowF.below {w w' : World} {b o B : Nat} {G : List Fm} (h : RowF w b o G) (hb : Below B w w') (hlt : b < B) : RowF w' b o G := fun i hi => by
  obtain ⟨h1, h2, h3⟩ := h i hi
  exact ⟨(hb.cell hlt).trans h1, (hb.cell hlt).trans h2, (hb.cell hlt).trans h3⟩
theorem IsG.below {w w' : World} {a : Option Addr} {n : Nat} {G : List Fm} (h : IsG w a n G) (hb : Below w.heap.size w w') : IsG w' a n G :=
  ⟨h.1, fun hn => by
    obtain ⟨b, o, ha, hlt, hr⟩ := h.2.1 hn
    exact ⟨b, o, ha, Nat.lt_of_lt_of_le hlt hb.size, hr.below hb hlt⟩, fun f hf => (h.2.2 f hf).below hb⟩
theorem SlG.below {w w' : World} {a : Option Addr} {n c : Nat} {G : List Fm} (h : SlG w a n c G) (hb : Below w.heap.size w w') : SlG w' a n c G := ⟨h.1.below hb, h.2⟩
theorem IsG.at {w : World} {a : Option Addr} {n k : Nat} {G : List Fm} (h : IsG w a n G) (hk : k < n) :
    ∃ b o f, a = some ⟨b, o, none⟩ ∧ b < w.heap.size ∧ w.cell? ⟨b, o + k * 3, none⟩ = some (.string f.name) ∧ w.cell? ⟨b, o + k * 3 + 1, none⟩ = some (.slice f.a f.m f.c) ∧ w.cell? ⟨b, o + k * 3 + 1 + 1, none⟩ = some (.string f.res) ∧ G[k]? = some f ∧ f.ok w := by
  obtain ⟨b, o, ha, hlt, hr⟩ := h.2.1 (by omega)
  obtain ⟨h1, h2, h3⟩ := hr k (h.1 ▸ hk)
  exact ⟨b, o, G[k]'(h.1 ▸ hk), ha, hlt, h1, h2, h3, List.getElem?_eq_getElem _, h.2.2 _ (List.getElem_mem _)⟩
theorem IsG.take {w : World} {a : Option Addr} {n : Nat} {G : List Fm} (h : IsG w a n G) (k : Nat) (hk : k ≤ n) : IsG w a k (G.take k) := by
  refine ⟨by rw [List.length_take, ← h.1]; omega, fun hk0 => ?_, fun f hf => h.2.2 f (List.mem_of_mem_take hf)⟩
  obtain ⟨b, o, ha, hlt, hr⟩ := h.2.1 (by omega)
  refine ⟨b, o, ha, hlt, fun i hi => ?_⟩
  rw [List.getElem_take]
  exact hr i (by rw [List.length_take] at hi; omega)
theorem IsG.nil (w : World) (a : Option Addr) : IsG w a 0 [] := ⟨rfl, fun h => absurd h (by omega), fun f hf => absurd hf (by simp)⟩
theorem SlG.nul (w : World) : SlG w none 0 0 [] := ⟨IsG.nil w _, Nat.le_refl _, fun _ => rfl⟩
theorem SlS.nul (w : World) : SlS w none 0 0 [] := ⟨IsS.nil w _, Nat.le_refl _, fun _ => rfl⟩

/-- the sizes under which a machine can hold it -/
def okC (C : Core) : Prop := C.1.size ≤ 9223372036854775000 ∧ C.2.2.size ≤ 9223372036854775000 ∧ C.2.1.length ≤ 1000000 ∧ okZ C.2.1
def okK (K : List Core) : Prop := K.length ≤ 1000000 ∧ ∀ C ∈ K, okC C
theorem okK.at {K : List Core} {k : Nat} {C : Core} (h : okK K) (hk : K[k]? = some C) : okC C := h.2 C (List.mem_of_getElem? hk)
theorem okZ.app {X : List ByteArray} {s : ByteArray} (h : okZ X) (hs : s.size ≤ 9223372036854775000) : okZ (X ++ [s]) := fun x hx => by
  rcases List.mem_append.1 hx with h1 | h1
  · exact h x h1
  · rw [List.mem_singleton.1 h1]; exact hs
theorem okK.app {K : List Core} {C : Core} (h : okK K) (hl : K.length < 1000000) (hC : okC C) : okK (K ++ [C]) := ⟨by simp; omega, fun D hD => by
  rcases List.mem_append.1 hD with h1 | h1
  · exact h.2 D h1
  · rw [List.mem_singleton.1 h1]; exact hC⟩

/-! blocks of the call's own -/
def Blk (w : World) (g : Nat) (cs : Array Value) (t : TypeId) : Prop := w.heap[g]? = some (.cells cs t (0, 0))
theorem Blk.new (w : World) (cs : Array Value) (t : TypeId) : Blk (w.alloc (.cells cs t)) w.heap.size cs t := heap_alloc_new w _
theorem Blk.lt {w : World} {g : Nat} {cs : Array Value} {t : TypeId} (h : Blk w g cs t) : g < w.heap.size := (Array.getElem?_eq_some_iff.1 h).1
theorem Blk.cell {w : World} {g : Nat} {cs : Array Value} {t : TypeId} (h : Blk w g cs t) (k : Nat) : w.cell? ⟨g, k, none⟩ = cs[k]? := cell_of_row w g k _ _ _ h
theorem Blk.free {w : World} {g : Nat} {cs : Array Value} {t : TypeId} (h : Blk w g cs t) (k : Nat) : w.frozen? ⟨g, k, none⟩ = false := frozen_of_row w g k _ _ h
theorem Blk.alloc {w : World} {g : Nat} {cs : Array Value} {t : TypeId} (h : Blk w g cs t) (o : Obj) : Blk (w.alloc o) g cs t := (heap_alloc_old w o h.lt).trans h
theorem Blk.below {w w' : World} {g : Nat} {cs : Array Value} {t : TypeId} (h : Blk w g cs t) {B : Nat} (hb : Below B w w') (hlt : g < B) : Blk w' g cs t := (hb.block g hlt).trans h
theorem Blk.belowAll {w w' : World} {g : Nat} {cs : Array Value} {t : TypeId} (h : Blk w g cs t) (hb : Below w.heap.size w w') : Blk w' g cs t := h.below hb h.lt
theorem Blk.grown {w w' : World} {g : Nat} {cs : Array Value} {t : TypeId} {r : Option Nat} (h : Blk w g cs t) (hg : w.grownBy w' r) (hne : some g ≠ r) : Blk w' g cs t := (hg.block g h.lt hne).trans h
theorem Blk.set {w : World} {g : Nat} {cs : Array Value} {t : TypeId} (h : Blk w g cs t) (k : Nat) (v : Value) : Blk (w.setCell ⟨g, k, none⟩ v) g (cs.setIfInBounds k v) t := heap_setCell_same w g k cs t v h
theorem Blk.far {w : World} {g g' : Nat} {cs : Array Value} {t : TypeId} (h : Blk w g cs t) (hne : g' ≠ g) (k : Nat) (v : Value) : Blk (w.setCell ⟨g', k, none⟩ v) g cs t := (heap_setCell_other w ⟨g', k, none⟩ g v (fun e => hne e.symm)).trans h

/-- a block that holds a signature; a function -/
def SBox (w : World) (g : Nat) (a : Option Addr) (n c : Nat) (b : Option Addr) (m d : Nat) : Prop := Blk w g #[.slice a n c, .slice b m d] 25
def FBox (w : World) (g : Nat) (s : ByteArray) (a : Option Addr) (m c : Nat) (r : ByteArray) : Prop := Blk w g #[.string s, .slice a m c, .string r] 27
theorem SBox.two {w : World} {g : Nat} {a : Option Addr} {n c : Nat} {b : Option Addr} {m d : Nat} (h : SBox w g a n c b m d) : w.cell? ⟨g, 0, none⟩ = some (.slice a n c) ∧ w.cell? ⟨g, 1, none⟩ = some (.slice b m d) := ⟨Blk.cell h 0, Blk.cell h 1⟩
theorem FBox.three {w : World} {g : Nat} {s : ByteArray} {a : Option Addr} {m c : Nat} {r : ByteArray} (h : FBox w g s a m c r) : w.cell? ⟨g, 0, none⟩ = some (.string s) ∧ w.cell? ⟨g, 1, none⟩ = some (.slice a m c) ∧ w.cell? ⟨g, 1 + 1, none⟩ = some (.string r) := ⟨Blk.cell h 0, Blk.cell h 1, Blk.cell h 2⟩
theorem SBox.b {w w' : World} {g : Nat} {a : Option Addr} {n c : Nat} {b : Option Addr} {m d : Nat} (h : SBox w g a n c b m d) (hb : Below w.heap.size w w') : SBox w' g a n c b m d := Blk.belowAll h hb
theorem FBox.b {w w' : World} {g : Nat} {s : ByteArray} {a : Option Addr} {m c : Nat} {r : ByteArray} (h : FBox w g s a m c r) (hb : Below w.heap.size w w') : FBox w' g s a m c r := Blk.belowAll h hb
theorem SBox.new (w : World) (a : Option Addr) (n c : Nat) (b : Option Addr) (m d : Nat) : SBox (w.alloc (.cells #[.slice a n c, .slice b m d] 25)) w.heap.size a n c b m d := Blk.new w _ _
theorem FBox.new (w : World) (s : ByteArray) (a : Option Addr) (m c : Nat) (r : ByteArray) : FBox (w.alloc (.cells #[.string s, .slice a m c, .string r] 27)) w.heap.size s a m c r := Blk.new w _ _
/-- a signature and a function put into blocks, one behind the other -/
theorem boxes (w : World) (a : Option Addr) (n c : Nat) (b : Option Addr) (m d : Nat) (s : ByteArray) (a' : Option Addr) (m' c' : Nat) (r : ByteArray) :
    ∃ W, (w.alloc (.cells #[.slice a n c, .slice b m d] 25)).alloc (.cells #[.string s, .slice a' m' c', .string r] 27) = W ∧ Below w.heap.size w W ∧ SBox W w.heap.size a n c b m d ∧ FBox W (w.heap.size + 1) s a' m' c' r := by
  refine ⟨_, rfl, bel_alloc (bel_alloc (Below.refl _ _) _) _, Blk.alloc (SBox.new w a n c b m d) _, ?_⟩
  have := FBox.new (w.alloc (.cells #[.slice a n c, .slice b m d] 25)) s a' m' c' r
  rwa [show (w.alloc (.cells #[.slice a n c, .slice b m d] 25)).heap.size = w.heap.size + 1 by simp] at this
end Go.Proofs.Ytakcbpmdjdadnaa.Sgn
