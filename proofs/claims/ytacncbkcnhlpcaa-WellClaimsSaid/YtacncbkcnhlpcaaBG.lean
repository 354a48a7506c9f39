/-
  What is proved: what other texts share with SrtB (taken out of it, for seats that lack the functions of its rest).
  What is proved: what other texts share with SgnA (taken out of it, for seats that lack the functions of its rest).
  What is proved: what other texts share with SgnE (taken out of it, for seats that lack the functions of its rest).
  What is proved: what other texts share with SgnI (taken out of it, for seats that lack the functions of its rest).
  What is proved: what other texts share with SgnJ (taken out of it, for seats that lack the functions of its rest).
  What is proved: what other texts share with SgnL (taken out of it, for seats that lack the functions of its rest).
-/
import Derived.Test.YtacncbkcnhlpcaaBL
import Derived.Laws.CopyOwn
import Derived.Laws.OwnMore
namespace Go.Proofs.Ytacncbkcnhlpcaa.Srt
open Go.RowKit L
set_option linter.unusedVariables false
set_option linter.unusedSimpArgs false

def placeI (X : List ByteArray) (s : ByteArray) : Int :=
  if s.toList = [66, 111, 111, 108] then 0 else if s.toList = [73, 110, 116] then 1 else if 0 ≤ idxI X s then 2 + idxI X s else -1
theorem idxI_le (X : List ByteArray) (s : ByteArray) : -1 ≤ idxI X s ∧ idxI X s < X.length := by
  unfold idxI; split <;> omega
set_option maxHeartbeats 2000000 in
theorem query_any (g : Nat) (a : Option Addr) (n c : Nat) (X : List ByteArray) (s : ByteArray) (w : World) (hg : w.cell? ⟨g, 0, none⟩ = some (.slice a n c)) (hX : IsS w a n X) (hn : n ≤ 1000000000) :
    Calls Try.prog 111 #[.string s, .pointer (some ⟨g, 0, none⟩)] w fun e w' => e = .returned (.int .i64 (placeI X s)) ∧ w = w' := by
  have c1 := Index_any a n c X s w hX (by omega)
  have hl := idxI_le X s
  rw [← hX.1] at hl
  have p1 : s.toList = [66, 111, 111, 108] → (0 : Int) = placeI X s := fun h => by unfold placeI; rw [if_pos h]
  have p2 : ¬ s.toList = [66, 111, 111, 108] → s.toList = [73, 110, 116] → (1 : Int) = placeI X s := fun h h2 => by unfold placeI; rw [if_neg h, if_pos h2]
  have p3 : ¬ s.toList = [66, 111, 111, 108] → ¬ s.toList = [73, 110, 116] → 0 ≤ idxI X s → 2 + idxI X s = placeI X s := fun h h2 h3 => by unfold placeI; rw [if_neg h, if_neg h2, if_pos h3]
  have p4 : ¬ s.toList = [66, 111, 111, 108] → ¬ s.toList = [73, 110, 116] → ¬ 0 ≤ idxI X s → -1 = placeI X s := fun h h2 h3 => by unfold placeI; rw [if_neg h, if_neg h2, if_neg h3]
  generalize idxI X s = R at *
  generalize placeI X s = V at *
  clear hX
  by_cases h1 : s.toList = [66, 111, 111, 108]
  · have hr : Hid (0 = V) := p1 h1
    have g1 : (s.toList == [66, 111, 111, 108]) = true := by simp [h1]
    clear p1 p2 p3 p4
    go_enter Try.func111, Try.ntmps111
    go_wp2
    go_ret
    exact ⟨one hr.out, rfl⟩
  · have g1 : (s.toList == [66, 111, 111, 108]) = false := by simp [h1]
    have e1 : (s.toList = [66, 111, 111, 108]) = False := by simp [h1]
    by_cases h2 : s.toList = [73, 110, 116]
    · have hr : Hid (1 = V) := p2 h1 h2
      have g2 : (s.toList == [73, 110, 116]) = true := by simp [h2]
      clear p1 p2 p3 p4 h1
      go_enter Try.func111, Try.ntmps111
      go_wp2
      go_ret
      exact ⟨one hr.out, rfl⟩
    · have g2 : (s.toList == [73, 110, 116]) = false := by simp [h2]
      have e2 : (s.toList = [73, 110, 116]) = False := by simp [h2]
      by_cases h0 : 0 ≤ R
      · have hr : Hid (2 + R = V) := p3 h1 h2 h0
        clear p1 p2 p3 p4 h1 h2
        go_enter Try.func111, Try.ntmps111
        go_wp2_with (go_at_call 112; ((with_reducible refine c1.mono ?_); rintro e w' ⟨rfl, rfl⟩))
        go_ret
        exact ⟨one hr.out, rfl⟩
      · have hr : Hid (-1 = V) := p4 h1 h2 h0
        clear p1 p2 p3 p4 h1 h2
        go_enter Try.func111, Try.ntmps111
        go_wp2_with (go_at_call 112; ((with_reducible refine c1.mono ?_); rintro e w' ⟨rfl, rfl⟩))
        go_ret
        exact ⟨one hr.out, rfl⟩

theorem places_any (a : Option Addr) (n c : Nat) (w : World) :
    Calls Try.prog 106 #[.slice a n c] w fun e w' => e = .returned (.func (.func 111) #[] #[.pointer (some ⟨w.heap.size, 0, none⟩)]) ∧ w.alloc (.cells #[.slice a n c] 22) = w' := by
  have hmf : ∀ (fn : Fn) (first cap : Array Value) (w : World), (Instr.makeFunc fn first cap).run Try.prog w = .ok (.func fn first cap) w := fun _ _ _ _ => rfl
  go_enter Try.func106, Try.ntmps106
  go_wp2
  go_ret
  exact ⟨rfl, rfl⟩

theorem IsS.boxed {w : World} {a : Option Addr} {n c : Nat} {X : List ByteArray} (h : IsS w a n X) :
    IsS (w.alloc (.cells #[.slice a n c] 22)) a n X ∧ (w.alloc (.cells #[.slice a n c] 22)).cell? ⟨w.heap.size, 0, none⟩ = some (.slice a n c) :=
  ⟨h.below (bel_alloc (Below.refl _ _) _), by rw [World.cell?_alloc_at _ _ _ _ rfl]; rfl⟩
theorem Place_any (a : Option Addr) (n c : Nat) (X : List ByteArray) (s : ByteArray) (w : World) (hX : IsS w a n X) (hn : n ≤ 1000000000) :
    Calls Try.prog 94 #[.slice a n c, .string s] w fun e w' => e = .returned (.int .i64 (placeI X s)) ∧ Below w.heap.size w w' := by
  have c1 := fun (w : World) => places_any a n c w
  obtain ⟨b1, b2⟩ := IsS.boxed (c := c) hX
  have c2 := query_any w.heap.size a n c X s _ b2 b1 hn
  have hb : Hid (Below w.heap.size w (w.alloc (.cells #[.slice a n c] 22))) := bel_alloc (Below.refl _ _) _
  clear hX b1 b2
  generalize placeI X s = V at *
  go_enter Try.func94, Try.ntmps94
  go_wp2_with (first
    | (go_at_call 106; ((with_reducible refine (c1 _).mono ?_); rintro e w' ⟨rfl, rfl⟩))
    | (go_at_call 111; ((with_reducible refine c2.mono ?_); rintro e w' ⟨rfl, rfl⟩)))
  go_ret
  exact ⟨rfl, hb.out⟩
theorem Known_any (a : Option Addr) (n c : Nat) (X : List ByteArray) (s : ByteArray) (w : World) (hX : IsS w a n X) (hn : n ≤ 1000000000) :
    Calls Try.prog 76 #[.slice a n c, .string s] w fun e w' => e = .returned (.bool (decide (0 ≤ placeI X s))) ∧ Below w.heap.size w w' := by
  have c1 := Place_any a n c X s w hX hn
  clear hX
  generalize placeI X s = V at *
  go_enter Try.func76, Try.ntmps76
  go_wp2_with (go_at_call 94; ((with_reducible refine c1.mono ?_); rintro e w1 ⟨rfl, hb1⟩))
  go_ret
  exact ⟨rfl, hb1⟩

/-- the texts of a list are of a size that a machine can hold -/
def okZ (X : List ByteArray) : Prop := ∀ x ∈ X, x.size ≤ 9223372036854775000
theorem okZ.at {X : List ByteArray} {k : Nat} {x : ByteArray} (h : okZ X) (hk : X[k]? = some x) : x.size ≤ 9223372036854775000 := h x (List.mem_of_getElem? hk)

end Go.Proofs.Ytacncbkcnhlpcaa.Srt
namespace Go.Proofs.Ytacncbkcnhlpcaa.Sgn
open Go.RowKit L Srt
set_option linter.unusedVariables false
set_option linter.unusedSimpArgs false

/-- a function's name, arguments, result -/
abbrev Core := ByteArray × List ByteArray × ByteArray
/-- the same, with where its arguments lie -/
structure Fm where
  name : ByteArray
  a : Option Addr
  m : Nat
  c : Nat
  X : List ByteArray
  res : ByteArray
def Fm.core (f : Fm) : Core := (f.name, f.X, f.res)
def Fm.cells (f : Fm) : List Value := [.string f.name, .slice f.a f.m f.c, .string f.res]
abbrev Fm.val (f : Fm) : Value := .agg #[.string f.name, .slice f.a f.m f.c, .string f.res]
def Fm.ok (f : Fm) (w : World) : Prop := SlS w f.a f.m f.c f.X
def cores (G : List Fm) : List Core := G.map Fm.core
theorem cores_len (G : List Fm) : (cores G).length = G.length := by simp [cores]
theorem cores_at {G : List Fm} {k : Nat} {f : Fm} (h : G[k]? = some f) : (cores G)[k]? = some f.core := by simp [cores, h]
theorem cores_app (G : List Fm) (f : Fm) : cores (G ++ [f]) = cores G ++ [f.core] := by simp [cores]
theorem cores_take (G : List Fm) (k : Nat) : cores (G.take k) = (cores G).take k := by simp [cores, List.map_take]

def nmB (s : ByteArray) : Bool := nameB s.data.toList && !wordB s.data.toList
def knownB (S : List ByteArray) (s : ByteArray) : Bool := decide (0 ≤ placeI S s)
def hasN (K : List Core) (s : ByteArray) : Bool := K.any (fun C => C.1.toList == s.toList)
def idxK (K : List Core) (s : ByteArray) : Nat := K.findIdx (fun C => C.1.toList == s.toList)
def posK (K : List Core) (s : ByteArray) : Int := if idxK K s < K.length then (idxK K s : Int) else -1
def pickB (s : ByteArray) (C : Core) : Bool := decide (C.2.1.length = 0) && (C.2.2.toList == s.toList)
def constS (K : List Core) (s : ByteArray) : List ByteArray := (K.filter (pickB s)).map (·.1)
def eqC (C D : Core) : Bool := (C.1.toList == D.1.toList) && ((C.2.2.toList == D.2.2.toList) && eqL C.2.1 D.2.1)
def eqK : List Core → List Core → Bool
  | [], [] => true
  | C :: l, D :: m => eqC C D && eqK l m
  | _, _ => false
def longC (C : Core) : Bool := (decide (100 < C.1.size) || (decide (100 < C.2.2.size) || decide (20 < C.2.1.length))) || C.2.1.any (fun x : ByteArray => decide (100 < x.size))
def longS (S : List ByteArray) (K : List Core) : Bool := (decide (70 < S.length) || decide (20 < K.length)) || (S.any (fun x : ByteArray => decide (100 < x.size)) || K.any longC)

theorem eqC_iff {C D : Core} : eqC C D = true ↔ C = D := by
  unfold eqC
  rw [Bool.and_eq_true, Bool.and_eq_true, eqS_iff, eqS_iff, eqL_iff]
  obtain ⟨a, b, c⟩ := C
  obtain ⟨d, e, f⟩ := D
  simp
  exact fun _ => And.comm
theorem eqK_iff : ∀ {K L : List Core}, eqK K L = true ↔ K = L
  | [], [] => by simp [eqK]
  | C :: l, [] => by simp [eqK]
  | [], D :: m => by simp [eqK]
  | C :: l, D :: m => by rw [eqK, Bool.and_eq_true, eqC_iff, eqK_iff]; simp
theorem eqC_refl (C : Core) : eqC C C = true := eqC_iff.2 rfl
theorem eqK_refl (K : List Core) : eqK K K = true := eqK_iff.2 rfl
theorem eqK_len {K L : List Core} (h : K.length ≠ L.length) : eqK K L = false := by
  cases hc : eqK K L with
  | false => rfl
  | true => exact absurd (congrArg List.length (eqK_iff.1 hc)) h

theorem known_or (S : List ByteArray) (s : ByteArray) : knownB S s = ((s.toList == [66, 111, 111, 108]) || ((s.toList == [73, 110, 116]) || hasS S s)) := by
  rw [Bool.eq_iff_iff]
  unfold knownB placeI
  rw [decide_eq_true_eq]
  simp only [Bool.or_eq_true, beq_iff_eq]
  have hi : 0 ≤ idxI S s ↔ hasS S s = true := by
    unfold idxI
    have : idxN S s < S.length ↔ hasS S s = true := by
      unfold idxN hasS
      rw [List.findIdx_lt_length, List.any_eq_true]
    rw [← this]
    split <;> omega
  rw [← hi]
  by_cases h1 : s.toList = [66, 111, 111, 108]
  · rw [if_pos h1]; exact ⟨fun _ => .inl h1, fun _ => by omega⟩
  · rw [if_neg h1]
    by_cases h2 : s.toList = [73, 110, 116]
    · rw [if_pos h2]; exact ⟨fun _ => .inr (.inl h2), fun _ => by omega⟩
    · rw [if_neg h2]
      by_cases h3 : 0 ≤ idxI S s
      · rw [if_pos h3]; exact ⟨fun _ => .inr (.inr h3), fun _ => by omega⟩
      · rw [if_neg h3]
        exact ⟨fun h => absurd h (by omega), fun h => by rcases h with h | h | h <;> contradiction⟩

theorem idxK_step {K : List Core} {k : Nat} {C : Core} (s : ByteArray) (h : K[k]? = some C) : idxK (K.drop k) s = if (C.1.toList == s.toList) = true then 0 else idxK (K.drop (k + 1)) s + 1 := by
  obtain ⟨hk, rfl⟩ := List.getElem?_eq_some_iff.1 h
  unfold idxK; rw [List.drop_eq_getElem_cons hk, List.findIdx_cons]
  cases K[k].1.toList == s.toList <;> rfl
theorem idxK_le (K : List Core) (s : ByteArray) : idxK K s ≤ K.length := List.findIdx_le_length
theorem posK_has (K : List Core) (s : ByteArray) : decide (0 ≤ posK K s) = hasN K s := by
  rw [Bool.eq_iff_iff, decide_eq_true_eq]
  have : idxK K s < K.length ↔ hasN K s = true := by
    unfold idxK hasN
    rw [List.findIdx_lt_length, List.any_eq_true]
  rw [← this]
  unfold posK
  split <;> omega
theorem posK_le (K : List Core) (s : ByteArray) : -1 ≤ posK K s ∧ posK K s < K.length := by
  unfold posK; split <;> omega
/-- an earlier function of the same name: by its place -/
theorem posK_early {K : List Core} {k : Nat} {C : Core} (h : K[k]? = some C) : decide (posK K C.1 < (k : Int)) = hasN (K.take k) C.1 := by
  obtain ⟨hk, rfl⟩ := List.getElem?_eq_some_iff.1 h
  rw [Bool.eq_iff_iff, decide_eq_true_eq]
  have hle : idxK K K[k].1 ≤ k := by
    refine Nat.le_of_not_lt fun hlt => ?_
    have := List.not_of_lt_findIdx (p := fun C : Core => C.1.toList == K[k].1.toList) (xs := K) (i := k) hlt
    rw [eqS_refl] at this; cases this
  unfold posK
  rw [if_pos (by omega)]
  unfold hasN
  rw [List.any_eq_true]
  constructor
  · intro hlt
    have hlt2 : idxK K K[k].1 < k := by omega
    have hl : idxK K K[k].1 < K.length := by omega
    refine ⟨K[idxK K K[k].1], List.mem_take_iff_getElem.2 ⟨idxK K K[k].1, by omega, rfl⟩, ?_⟩
    exact List.findIdx_getElem (p := fun C : Core => C.1.toList == K[k].1.toList) (w := hl)
  · rintro ⟨D, hD, he⟩
    obtain ⟨j, hj, rfl⟩ := List.mem_take_iff_getElem.1 hD
    have hjk : j < k := by omega
    refine Int.ofNat_lt.2 (Nat.lt_of_not_le fun hle2 => ?_)
    have := List.not_of_lt_findIdx (p := fun C : Core => C.1.toList == K[k].1.toList) (xs := K) (i := j) (Nat.lt_of_lt_of_le hjk hle2)
    have he2 : (K[j].1.toList == K[k].1.toList) = true := he
    rw [he2] at this; cases this

/-! how it lies in memory -/
def cellsF (G : List Fm) : List Value := G.flatMap Fm.cells
theorem cellsF_app (G : List Fm) (f : Fm) : cellsF (G ++ [f]) = cellsF G ++ f.cells := by simp [cellsF]
theorem cellsF_len (G : List Fm) : (cellsF G).length = G.length * 3 := by
  induction G with
  | nil => rfl
  | cons f G ih =>
    have e : cellsF (f :: G) = f.cells ++ cellsF G := by simp [cellsF]
    rw [e, List.length_append, ih]
    simp [Fm.cells]; omega
theorem cellsF_at (G : List Fm) (i : Nat) (h : i < G.length) : (cellsF G)[i * 3]? = some (.string G[i].name) ∧ (cellsF G)[i * 3 + 1]? = some (.slice G[i].a G[i].m G[i].c) ∧ (cellsF G)[i * 3 + 1 + 1]? = some (.string G[i].res) := by
  induction G generalizing i with
  | nil => simp at h
  | cons f G ih =>
    cases i with
    | zero => exact ⟨rfl, rfl, rfl⟩
    | succ i =>
      have e : cellsF (f :: G) = f.cells ++ cellsF G := by simp [cellsF]
      have h1 := ih i (by simpa using h)
      rw [e]
      have l : f.cells.length = 3 := rfl
      rw [List.getElem?_append_right (by omega), List.getElem?_append_right (by omega), List.getElem?_append_right (by omega), l]
      rw [show (i + 1) * 3 - 3 = i * 3 by omega, show (i + 1) * 3 + 1 - 3 = i * 3 + 1 by omega, show (i + 1) * 3 + 1 + 1 - 3 = i * 3 + 1 + 1 by omega]
      exact h1
theorem cells_one (f : Fm) : ∀ u ∈ f.cells, u.oneCell' = true := by
  intro u hu
  simp [Fm.cells] at hu
  rcases hu with rfl | rfl | rfl <;> rfl
theorem cellsF_one (G : List Fm) : ∀ u ∈ cellsF G, u.oneCell' = true := by
  intro u hu
  obtain ⟨f, _, h⟩ := List.mem_flatMap.1 hu
  exact cells_one f u h

def RowF (w : World) (b o : Nat) (G : List Fm) : Prop := ∀ i (h : i < G.length), w.cell? ⟨b, o + i * 3, none⟩ = some (.string G[i].name) ∧ w.cell? ⟨b, o + i * 3 + 1, none⟩ = some (.slice G[i].a G[i].m G[i].c) ∧ w.cell? ⟨b, o + i * 3 + 1 + 1, none⟩ = some (.string G[i].res)
/-- a slice's address and length read as a list of functions -/
def IsG (w : World) (a : Option Addr) (n : Nat) (G : List Fm) : Prop := n = G.length ∧ (0 < n → ∃ b o, a = some ⟨b, o, none⟩ ∧ b < w.heap.size ∧ RowF w b o G) ∧ ∀ f ∈ G, f.ok w
def SlG (w : World) (a : Option Addr) (n c : Nat) (G : List Fm) : Prop := IsG w a n G ∧ n ≤ c ∧ (a = none → c = 0)
theorem Fm.ok.below {f : Fm} {w w' : World} (h : f.ok w) (hb : Below w.heap.size w w') : f.ok w' := SlS.below h hb
theorem RowF.below {w w' : World} {b o B : Nat} {G : List Fm} (h : RowF w b o G) (hb : Below B w w') (hlt : b < B) : RowF w' b o G := fun i hi => by
  obtain ⟨h1, h2, h3⟩ := h i hi
  exact ⟨(hb.cell hlt).trans h1, (hb.cell hlt).trans h2, (hb.cell hlt).trans h3⟩
theorem IsG.below {w w' : World} {a : Option Addr} {n : Nat} {G : List Fm} (h : IsG w a n G) (hb : Below w.heap.size w w') : IsG w' a n G :=
  ⟨h.1, fun hn => by
    obtain ⟨b, o, ha, hlt, hr⟩ := h.2.1 hn
    exact ⟨b, o, ha, Nat.lt_of_lt_of_le hlt hb.size, hr.below hb hlt⟩, fun f hf => (h.2.2 f hf).below hb⟩
theorem SlG.below {w w' : World} {a : Option Addr} {n c : Nat} {G : List Fm} (h : SlG w a n c G) (hb : Below w.heap.size w w') : SlG w' a n c G := ⟨h.1.below hb, h.2⟩
theorem IsG.at {w : World} {a : Option Addr} {n k : Nat} {G : List Fm} (h : IsG w a n G) (hk : k < n) :
    ∃ b o f, a = some ⟨b, o, none⟩ ∧ b < w.heap.size ∧ w.cell? ⟨b, o + k * 3, none⟩ = some (.string f.name) ∧ w.cell? ⟨b, o + k * 3 + 1, none⟩ = some (.slice f.a f.m f.c) ∧ w.cell? ⟨b, o + k * 3 + 1 + 1, none⟩ = some (.string f.res) ∧ G[k]? = some f ∧ f.ok w := by
  obtain ⟨b, o, ha, hlt, hr⟩ := h.2.1 (by omega)
  obtain ⟨h1, h2, h3⟩ := hr k (h.1 ▸ hk)
  exact ⟨b, o, G[k]'(h.1 ▸ hk), ha, hlt, h1, h2, h3, List.getElem?_eq_getElem _, h.2.2 _ (List.getElem_mem _)⟩
theorem IsG.take {w : World} {a : Option Addr} {n : Nat} {G : List Fm} (h : IsG w a n G) (k : Nat) (hk : k ≤ n) : IsG w a k (G.take k) := by
  refine ⟨by rw [List.length_take, ← h.1]; omega, fun hk0 => ?_, fun f hf => h.2.2 f (List.mem_of_mem_take hf)⟩
  obtain ⟨b, o, ha, hlt, hr⟩ := h.2.1 (by omega)
  refine ⟨b, o, ha, hlt, fun i hi => ?_⟩
  rw [List.getElem_take]
  exact hr i (by rw [List.length_take] at hi; omega)
theorem IsG.nil (w : World) (a : Option Addr) : IsG w a 0 [] := ⟨rfl, fun h => absurd h (by omega), fun f hf => absurd hf (by simp)⟩
theorem SlG.nul (w : World) : SlG w none 0 0 [] := ⟨IsG.nil w _, Nat.le_refl _, fun _ => rfl⟩
theorem SlS.nul (w : World) : SlS w none 0 0 [] := ⟨IsS.nil w _, Nat.le_refl _, fun _ => rfl⟩

/-- the sizes under which a machine can hold it -/
def okC (C : Core) : Prop := C.1.size ≤ 9223372036854775000 ∧ C.2.2.size ≤ 9223372036854775000 ∧ C.2.1.length ≤ 1000000 ∧ okZ C.2.1
def okK (K : List Core) : Prop := K.length ≤ 1000000 ∧ ∀ C ∈ K, okC C
theorem okK.at {K : List Core} {k : Nat} {C : Core} (h : okK K) (hk : K[k]? = some C) : okC C := h.2 C (List.mem_of_getElem? hk)
theorem okZ.app {X : List ByteArray} {s : ByteArray} (h : okZ X) (hs : s.size ≤ 9223372036854775000) : okZ (X ++ [s]) := fun x hx => by
  rcases List.mem_append.1 hx with h1 | h1
  · exact h x h1
  · rw [List.mem_singleton.1 h1]; exact hs
theorem okK.app {K : List Core} {C : Core} (h : okK K) (hl : K.length < 1000000) (hC : okC C) : okK (K ++ [C]) := ⟨by simp; omega, fun D hD => by
  rcases List.mem_append.1 hD with h1 | h1
  · exact h.2 D h1
  · rw [List.mem_singleton.1 h1]; exact hC⟩

/-! blocks of the call's own -/
def Blk (w : World) (g : Nat) (cs : Array Value) (t : TypeId) : Prop := w.heap[g]? = some (.cells cs t (0, 0))
theorem Blk.new (w : World) (cs : Array Value) (t : TypeId) : Blk (w.alloc (.cells cs t)) w.heap.size cs t := heap_alloc_new w _
theorem Blk.lt {w : World} {g : Nat} {cs : Array Value} {t : TypeId} (h : Blk w g cs t) : g < w.heap.size := (Array.getElem?_eq_some_iff.1 h).1
theorem Blk.cell {w : World} {g : Nat} {cs : Array Value} {t : TypeId} (h : Blk w g cs t) (k : Nat) : w.cell? ⟨g, k, none⟩ = cs[k]? := cell_of_row w g k _ _ _ h
theorem Blk.free {w : World} {g : Nat} {cs : Array Value} {t : TypeId} (h : Blk w g cs t) (k : Nat) : w.frozen? ⟨g, k, none⟩ = false := frozen_of_row w g k _ _ h
theorem Blk.alloc {w : World} {g : Nat} {cs : Array Value} {t : TypeId} (h : Blk w g cs t) (o : Obj) : Blk (w.alloc o) g cs t := (heap_alloc_old w o h.lt).trans h
theorem Blk.below {w w' : World} {g : Nat} {cs : Array Value} {t : TypeId} (h : Blk w g cs t) {B : Nat} (hb : Below B w w') (hlt : g < B) : Blk w' g cs t := (hb.block g hlt).trans h
theorem Blk.belowAll {w w' : World} {g : Nat} {cs : Array Value} {t : TypeId} (h : Blk w g cs t) (hb : Below w.heap.size w w') : Blk w' g cs t := h.below hb h.lt
theorem Blk.grown {w w' : World} {g : Nat} {cs : Array Value} {t : TypeId} {r : Option Nat} (h : Blk w g cs t) (hg : w.grownBy w' r) (hne : some g ≠ r) : Blk w' g cs t := (hg.block g h.lt hne).trans h
theorem Blk.set {w : World} {g : Nat} {cs : Array Value} {t : TypeId} (h : Blk w g cs t) (k : Nat) (v : Value) : Blk (w.setCell ⟨g, k, none⟩ v) g (cs.setIfInBounds k v) t := heap_setCell_same w g k cs t v h
theorem Blk.far {w : World} {g g' : Nat} {cs : Array Value} {t : TypeId} (h : Blk w g cs t) (hne : g' ≠ g) (k : Nat) (v : Value) : Blk (w.setCell ⟨g', k, none⟩ v) g cs t := (heap_setCell_other w ⟨g', k, none⟩ g v (fun e => hne e.symm)).trans h

/-- a block that holds a signature; a function -/
def SBox (w : World) (g : Nat) (a : Option Addr) (n c : Nat) (b : Option Addr) (m d : Nat) : Prop := Blk w g #[.slice a n c, .slice b m d] 25
def FBox (w : World) (g : Nat) (s : ByteArray) (a : Option Addr) (m c : Nat) (r : ByteArray) : Prop := Blk w g #[.string s, .slice a m c, .string r] 62
theorem SBox.two {w : World} {g : Nat} {a : Option Addr} {n c : Nat} {b : Option Addr} {m d : Nat} (h : SBox w g a n c b m d) : w.cell? ⟨g, 0, none⟩ = some (.slice a n c) ∧ w.cell? ⟨g, 1, none⟩ = some (.slice b m d) := ⟨Blk.cell h 0, Blk.cell h 1⟩
theorem FBox.three {w : World} {g : Nat} {s : ByteArray} {a : Option Addr} {m c : Nat} {r : ByteArray} (h : FBox w g s a m c r) : w.cell? ⟨g, 0, none⟩ = some (.string s) ∧ w.cell? ⟨g, 1, none⟩ = some (.slice a m c) ∧ w.cell? ⟨g, 1 + 1, none⟩ = some (.string r) := ⟨Blk.cell h 0, Blk.cell h 1, Blk.cell h 2⟩
theorem SBox.b {w w' : World} {g : Nat} {a : Option Addr} {n c : Nat} {b : Option Addr} {m d : Nat} (h : SBox w g a n c b m d) (hb : Below w.heap.size w w') : SBox w' g a n c b m d := Blk.belowAll h hb
theorem FBox.b {w w' : World} {g : Nat} {s : ByteArray} {a : Option Addr} {m c : Nat} {r : ByteArray} (h : FBox w g s a m c r) (hb : Below w.heap.size w w') : FBox w' g s a m c r := Blk.belowAll h hb
theorem SBox.new (w : World) (a : Option Addr) (n c : Nat) (b : Option Addr) (m d : Nat) : SBox (w.alloc (.cells #[.slice a n c, .slice b m d] 25)) w.heap.size a n c b m d := Blk.new w _ _
theorem FBox.new (w : World) (s : ByteArray) (a : Option Addr) (m c : Nat) (r : ByteArray) : FBox (w.alloc (.cells #[.string s, .slice a m c, .string r] 62)) w.heap.size s a m c r := Blk.new w _ _
/-- a signature and a function put into blocks, one behind the other -/
theorem boxes (w : World) (a : Option Addr) (n c : Nat) (b : Option Addr) (m d : Nat) (s : ByteArray) (a' : Option Addr) (m' c' : Nat) (r : ByteArray) :
    ∃ W, (w.alloc (.cells #[.slice a n c, .slice b m d] 25)).alloc (.cells #[.string s, .slice a' m' c', .string r] 62) = W ∧ Below w.heap.size w W ∧ SBox W w.heap.size a n c b m d ∧ FBox W (w.heap.size + 1) s a' m' c' r := by
  refine ⟨_, rfl, bel_alloc (bel_alloc (Below.refl _ _) _) _, Blk.alloc (SBox.new w a n c b m d) _, ?_⟩
  have := FBox.new (w.alloc (.cells #[.slice a n c, .slice b m d] 25)) s a' m' c' r
  rwa [show (w.alloc (.cells #[.slice a n c, .slice b m d] 25)).heap.size = w.heap.size + 1 by simp] at this
end Go.Proofs.Ytacncbkcnhlpcaa.Sgn
namespace Go.Proofs.Ytacncbkcnhlpcaa.Sgn
open Go.RowKit L Srt
set_option linter.unusedVariables false
set_option linter.unusedSimpArgs false

theorem named_any (g : Nat) (s x : ByteArray) (a : Option Addr) (m c : Nat) (r : ByteArray) (w : World) (hlt : g < w.heap.size) (hg : w.cell? ⟨g, 0, none⟩ = some (.string s)) :
    Calls Try.prog 91 #[.agg #[.string x, .slice a m c, .string r], .pointer (some ⟨g, 0, none⟩)] w fun e w' => e = .returned (.bool (x.toList == s.toList)) ∧ Below w.heap.size w w' := by
  have F1 := FBox.new w x a m c r
  have hB : Below w.heap.size w (w.alloc (.cells #[.string x, .slice a m c, .string r] 62)) := bel_alloc (Below.refl _ _) _
  have g0 := (hB.cell (p := ⟨g, 0, none⟩) hlt).trans hg
  obtain ⟨W1, hW1⟩ : ∃ W1, w.alloc (.cells #[.string x, .slice a m c, .string r] 62) = W1 := ⟨_, rfl⟩
  rw [hW1] at F1 hB g0
  obtain ⟨f0, f1, f2⟩ := F1.three
  clear hg
  go_enter Try.func91, Try.ntmps91
  go_wp2
  go_ret
  exact ⟨rfl, hB⟩

set_option maxHeartbeats 2000000 in
theorem idxNamed_any (g : Nat) (s : ByteArray) (b : Option Addr) (m d : Nat) (G : List Fm) (w : World) (hlt : g < w.heap.size) (hg : w.cell? ⟨g, 0, none⟩ = some (.string s)) (hG : IsG w b m G) (hm : m ≤ 1000000000) :
    Calls Try.prog 90 #[.slice b m d, .func (.func 91) #[] #[.pointer (some ⟨g, 0, none⟩)]] w fun e w' => e = .returned (.int .i64 (posK (cores G) s)) ∧ Below w.heap.size w w' := by
  have cu : ∀ (f : Fm) (w' : World), Below w.heap.size w w' → Calls Try.prog 91 #[.agg #[.string f.name, .slice f.a f.m f.c, .string f.res], .pointer (some ⟨g, 0, none⟩)] w' fun e w1 => e = .returned (.bool (f.name.toList == s.toList)) ∧ Below w'.heap.size w' w1 :=
    fun f w' h => named_any g s f.name f.a f.m f.c f.res w' (Nat.lt_of_lt_of_le hlt h.size) ((h.cell (p := ⟨g, 0, none⟩) hlt).trans hg)
  have hlen : (cores G).length = m := by rw [cores_len]; exact hG.1.symm
  have hst : ∀ k (f : Fm), G[k]? = some f → idxK ((cores G).drop k) s = if (f.name.toList == s.toList) = true then 0 else idxK ((cores G).drop (k + 1)) s + 1 := fun k f h => idxK_step s (cores_at h)
  have he : ∀ k, m ≤ k → idxK ((cores G).drop k) s = 0 := fun k h => by rw [List.drop_eq_nil_of_le (by rw [hlen]; exact h)]; rfl
  have h0 : idxK (cores G) s = idxK ((cores G).drop 0) s := rfl
  have hR1 : ∀ k, k < m → idxK ((cores G).drop 0) s = k → posK (cores G) s = (k : Int) := fun k h g => by unfold posK; rw [h0, g, if_pos (by rw [hlen]; exact h)]
  have hR2 : idxK ((cores G).drop 0) s = m → posK (cores G) s = -1 := fun g => by unfold posK; rw [h0, g, if_neg (by rw [hlen]; omega)]
  generalize posK (cores G) s = R at *
  obtain ⟨F, hF⟩ : ∃ F : Nat → Nat, ∀ k, idxK ((cores G).drop k) s = F k := ⟨_, fun _ => rfl⟩
  simp only [hF] at hst he hR1 hR2
  clear hF h0 hlen hg
  have H1 := Lib.hid hG
  have Hst := Lib.hid hst
  have He := Lib.hid he
  have HR1 := Lib.hid hR1
  have HR2 := Lib.hid hR2
  have Hu := Lib.hid cu
  clear hG hst he hR1 hR2 cu
  go_enter Try.func90, Try.ntmps90
  go_wp2
  go_loopw [8] (fun i wr0 => ∃ (wr : World) (k : Nat), wr = wr0 ∧ k ≤ m ∧ i = .int .i64 k ∧ Below w.heap.size w wr ∧ Hid (F 0 = k + F k)) (fun i _ => m - (intOf i).toNat)
  case atStart => exact ⟨w, 0, rfl, by omega, rfl, Below.refl _ _, Lib.hid (by omega)⟩
  case round =>
    obtain ⟨wr, k, rfl, hk, rfl, hB, hR⟩ := hrel
    by_cases hlt2 : k < m
    · obtain ⟨bb, o, f, rfl, hb, y1, y2, y3, hx, _⟩ := (H1.out.below hB).at hlt2
      have hs1 := Hst.out k f hx
      have cx := Hu.out f wr hB
      clear hx H1 Hst Hu
      have hk0 : 0 ≤ (k : Int) := by omega
      have hk1 : (k : Int) < (m : Int) := by omega
      generalize f.name = nm at *
      generalize f.a = A at *
      generalize f.m = M at *
      generalize f.c = Cc at *
      generalize f.res = rs at *
      cases hu : nm.toList == s.toList with
      | true =>
        rw [hu] at cx
        have hnew : Hid (R = (k : Int)) := HR1.out k hlt2 (by rw [hR.out, hs1, if_pos hu]; rfl)
        clear hR hs1
        go_wp2_with (go_at_call 91; ((with_reducible refine cx.mono ?_); rintro e w1 ⟨rfl, hb1⟩))
        go_ret
        exact ⟨one hnew.out.symm, bel_trans hB hb1⟩
      | false =>
        rw [hu] at cx
        have hnew : Hid (F 0 = k + 1 + F (k + 1)) := by
          show _ = _
          rw [hR.out, hs1, if_neg (by simp [hu])]; omega
        clear hR hs1
        go_wp2_with (go_at_call 91; ((with_reducible refine cx.mono ?_); rintro e w1 ⟨rfl, hb1⟩))
        go_roundw
        case rel => exact ⟨_, k + 1, rfl, by omega, by go_num, bel_trans hB hb1, hnew⟩
        case measure => simp [intOf]; omega
    · have hnew : Hid (R = -1) := HR2.out (by rw [hR.out, He.out k (by omega)]; omega)
      clear hR
      go_wp2
      go_ret
      exact ⟨one hnew.out.symm, hB⟩

theorem place_any (s : ByteArray) (b : Option Addr) (m d : Nat) (G : List Fm) (w : World) (hG : IsG w b m G) (hm : m ≤ 1000000000) :
    Calls Try.prog 72 #[.slice b m d, .string s] w fun e w' => e = .returned (.int .i64 (posK (cores G) s)) ∧ Below w.heap.size w w' := by
  have hB : Below w.heap.size w (w.alloc (.cells #[.string s] 9)) := bel_alloc (Below.refl _ _) _
  have c1 := idxNamed_any w.heap.size s b m d G (w.alloc (.cells #[.string s] 9)) (by simp) (by rw [World.cell?_alloc_at _ _ _ _ rfl]; rfl) (hG.below hB) hm
  have hmf : ∀ (fn : Fn) (first cap : Array Value) (w : World), (Instr.makeFunc fn first cap).run Try.prog w = .ok (.func fn first cap) w := fun _ _ _ _ => rfl
  generalize posK (cores G) s = R at *
  clear hG
  have HB := Lib.hid hB
  clear hB
  go_enter Try.func72, Try.ntmps72
  go_wp2_with (go_at_call 90; ((with_reducible refine c1.mono ?_); rintro e w1 ⟨rfl, hb1⟩))
  go_ret
  exact ⟨rfl, bel_trans HB.out hb1⟩

end Go.Proofs.Ytacncbkcnhlpcaa.Sgn
namespace Go.Proofs.Ytacncbkcnhlpcaa.Sgn
open Go.RowKit L Srt
set_option linter.unusedVariables false
set_option linter.unusedSimpArgs false

theorem empty_own (w : World) : OwnS (w.alloc (.cells #[] 9)) w.heap.size (.slice (some ⟨w.heap.size, 0, none⟩) 0 0) [] := OwnS.made w [] w.heap.size (Nat.le_refl _) (by unfold maxLen; simp)
set_option maxHeartbeats 1000000 in
theorem Clone_any (a : Option Addr) (n c : Nat) (X : List ByteArray) (w : World) (hX : SlS w a n c X) (hn : n ≤ 100000000) :
    Calls Try.prog 73 #[.slice a n c] w fun e w' => ∃ v, e = .returned v ∧ OwnS w' w.heap.size v X ∧ Below w.heap.size w w' := by
  have qT : ∀ (w : World) (a : Option Addr) (n c : Nat), (binOp .eql 22 (.slice a n c) (.slice none 0 0)).run Try.prog w = .ok (.bool a.isNone) w := fun w a n c => Lib.run_eql_slice_nil w _ _ _ _ _ _ _ Try.underlying22
  cases a with
  | none =>
    have hc : c = 0 := hX.2.2 rfl
    have hn0 : n = 0 := by have := hX.2.1; omega
    have hX0 : X = [] := List.eq_nil_of_length_eq_zero (by have := hX.1.1; omega)
    subst hX0 hc hn0
    clear hX
    go_enter Try.func73, Try.ntmps73
    go_wp2
    go_ret
    exact ⟨_, rfl, OwnS.nil _ _, Below.refl _ _⟩
  | some ad =>
    have hB : Below w.heap.size w (w.alloc (.cells #[] 9)) := bel_alloc (Below.refl _ _) _
    have ho := empty_own w
    have hX1 := hX.below hB
    have hs := hB.size
    have hl : ([] : List ByteArray).length + n ≤ 1000000000 := by simp; omega
    have HB := Lib.hid hB
    clear hX hB
    go_enter Try.func73, Try.ntmps73
    go_wp2_with (at_builtin; ((refine app_strs rfl (.tmp 5) (.tmp 6) rfl w.heap.size _ [] rfl ho _ _ _ X rfl hX1 hl hs ?_); intro v1 w1 ho1 hg1))
    go_ret
    exact ⟨_, rfl, ho1, HB.out.grown hg1 hs (fun k hk => (ho.lt k hk).1)⟩

end Go.Proofs.Ytacncbkcnhlpcaa.Sgn
namespace Go.Proofs.Ytacncbkcnhlpcaa.Sgn
open Go.RowKit L Srt
set_option linter.unusedVariables false
set_option linter.unusedSimpArgs false

/-- not in this block -/
def Off (g : Nat) (A : Option Addr) (n : Nat) : Prop := 0 < n → ∀ b o, A = some ⟨b, o, none⟩ → b ≠ g
theorem SlS.far {w : World} {A : Option Addr} {n c : Nat} {X : List ByteArray} {g : Nat} (h : SlS w A n c X) (ho : Off g A n) (k : Nat) (v : Value) : SlS (w.setCell ⟨g, k, none⟩ v) A n c X := by
  refine ⟨⟨h.1.1, fun hn => ?_⟩, h.2⟩
  obtain ⟨b, o, ha, hlt, hr⟩ := h.1.2 hn
  refine ⟨b, o, ha, by simpa [World.setCell] using hlt, fun i hi => ?_⟩
  exact (World.cell?_of_block (heap_setCell_other w ⟨g, k, none⟩ b v (ho hn b o ha))).trans (hr i hi)
theorem off_old {w : World} {A : Option Addr} {n c : Nat} {X : List ByteArray} {g : Nat} (h : SlS w A n c X) (hg : w.heap.size ≤ g) : Off g A n := fun hn b o ha e => by
  obtain ⟨b', o', ha', hlt, _⟩ := h.1.2 hn
  rw [ha] at ha'
  injection ha' with ha'
  injection ha' with h1
  omega
theorem off_own {w : World} {A : Option Addr} {n c : Nat} {X : List ByteArray} {g base : Nat} (h : OwnS w base (.slice A n c) X) (hg : g < base) : Off g A n := fun hn b o ha e => by
  rcases h.2 with ⟨hv, _⟩ | ⟨g', cap, cur, hv, hb, _⟩
  · injection hv with h1; rw [h1] at ha; cases ha
  · injection hv with h1
    rw [ha] at h1
    injection h1 with h1
    injection h1 with h1
    omega
end Go.Proofs.Ytacncbkcnhlpcaa.Sgn
namespace Go.Proofs.Ytacncbkcnhlpcaa.Sgn
open Go.RowKit L Srt
set_option linter.unusedVariables false
set_option linter.unusedSimpArgs false

def zeroC : Core := (⟨#[]⟩, [], ⟨#[]⟩)
def findC (K : List Core) (s : ByteArray) : Core := (K[idxK K s]?).getD zeroC
def FindPost (K : List Core) (s : ByteArray) (w : World) (e : Ending) (w' : World) : Prop :=
  ∃ f : Fm, e = .returned (.tuple #[.agg #[.string f.name, .slice f.a f.m f.c, .string f.res], .bool (hasN K s)]) ∧ f.ok w' ∧ f.core = findC K s ∧ Below w.heap.size w w'
/-- the same, and the arguments lie in none of the elder blocks -/
def FindOff (K : List Core) (s : ByteArray) (w : World) (e : Ending) (w' : World) : Prop :=
  ∃ f : Fm, e = .returned (.tuple #[.agg #[.string f.name, .slice f.a f.m f.c, .string f.res], .bool (hasN K s)]) ∧ f.ok w' ∧ f.core = findC K s ∧ Below w.heap.size w w' ∧ ∀ g, g < w.heap.size → Off g f.a f.m
theorem find_no {K : List Core} {s : ByteArray} (h : posK K s < 0) : findC K s = zeroC ∧ hasN K s = false := by
  have hl : K.length ≤ idxK K s := by unfold posK at h; split at h <;> omega
  refine ⟨?_, ?_⟩
  · unfold findC; rw [List.getElem?_eq_none hl]; rfl
  · rw [← posK_has]; exact decide_eq_false (by omega)
theorem find_yes {K : List Core} {s : ByteArray} (h : ¬ posK K s < 0) : ∃ k : Nat, posK K s = (k : Int) ∧ k < K.length ∧ K[k]? = some (findC K s) ∧ hasN K s = true := by
  have hl : idxK K s < K.length := by
    refine Nat.lt_of_not_le fun hle => h ?_
    unfold posK; rw [if_neg (by omega)]; omega
  refine ⟨idxK K s, by unfold posK; rw [if_pos hl], hl, ?_, by rw [← posK_has]; exact decide_eq_true (by omega)⟩
  unfold findC
  rw [List.getElem?_eq_getElem hl]; rfl
theorem FBox.put1 {w : World} {g : Nat} {s : ByteArray} {a : Option Addr} {m c : Nat} {r : ByteArray} (h : FBox w g s a m c r) (a' : Option Addr) (m' c' : Nat) : FBox (w.setCell ⟨g, 1, none⟩ (.slice a' m' c')) g s a' m' c' r := Blk.set h 1 _
theorem FBox.put {w : World} {g : Nat} {s : ByteArray} {a : Option Addr} {m c : Nat} {r : ByteArray} (h : FBox w g s a m c r) (s' : ByteArray) (a' : Option Addr) (m' c' : Nat) (r' : ByteArray) : FBox (((w.setCell ⟨g, 0, none⟩ (.string s')).setCell ⟨g, 1, none⟩ (.slice a' m' c')).setCell ⟨g, 2, none⟩ (.string r')) g s' a' m' c' r' := ((Blk.set h 0 _).set 1 _).set 2 _
theorem FBox.far {w : World} {g g' : Nat} {s : ByteArray} {a : Option Addr} {m c : Nat} {r : ByteArray} (h : FBox w g s a m c r) (hne : g' ≠ g) (k : Nat) (v : Value) : FBox (w.setCell ⟨g', k, none⟩ v) g s a m c r := Blk.far h hne k v
theorem FBox.free {w : World} {g : Nat} {s : ByteArray} {a : Option Addr} {m c : Nat} {r : ByteArray} (h : FBox w g s a m c r) : w.frozen? ⟨g, 0, none⟩ = false ∧ w.frozen? ⟨g, 1, none⟩ = false ∧ w.frozen? ⟨g, 2, none⟩ = false := ⟨Blk.free h 0, Blk.free h 1, Blk.free h 2⟩
theorem SBox.put {w : World} {g : Nat} {a : Option Addr} {n c : Nat} {b : Option Addr} {m d : Nat} (h : SBox w g a n c b m d) (a' : Option Addr) (n' c' : Nat) (b' : Option Addr) (m' d' : Nat) : SBox ((w.setCell ⟨g, 0, none⟩ (.slice a' n' c')).setCell ⟨g, 1, none⟩ (.slice b' m' d')) g a' n' c' b' m' d' := (Blk.set h 0 _).set 1 _
theorem SBox.far {w : World} {g g' : Nat} {a : Option Addr} {n c : Nat} {b : Option Addr} {m d : Nat} (h : SBox w g a n c b m d) (hne : g' ≠ g) (k : Nat) (v : Value) : SBox (w.setCell ⟨g', k, none⟩ v) g a n c b m d := Blk.far h hne k v
theorem SBox.free {w : World} {g : Nat} {a : Option Addr} {n c : Nat} {b : Option Addr} {m d : Nat} (h : SBox w g a n c b m d) : w.frozen? ⟨g, 0, none⟩ = false ∧ w.frozen? ⟨g, 1, none⟩ = false := ⟨Blk.free h 0, Blk.free h 1⟩
/-- three cells written -/
theorem SlS.far3 {w : World} {A : Option Addr} {n c : Nat} {X : List ByteArray} {g : Nat} (h : SlS w A n c X) (ho : Off g A n) (v0 v1 v2 : Value) : SlS (((w.setCell ⟨g, 0, none⟩ v0).setCell ⟨g, 1, none⟩ v1).setCell ⟨g, 2, none⟩ v2) A n c X := SlS.far (SlS.far (SlS.far h ho 0 v0) ho 1 v1) ho 2 v2
theorem below_set3 {B g : Nat} {w0 w : World} (h : Below B w0 w) (hg : B ≤ g) (v0 v1 v2 : Value) : Below B w0 (((w.setCell ⟨g, 0, none⟩ v0).setCell ⟨g, 1, none⟩ v1).setCell ⟨g, 2, none⟩ v2) :=
  ((h.setCell (p := ⟨g, 0, none⟩) hg v0).setCell (p := ⟨g, 1, none⟩) hg v1).setCell (p := ⟨g, 2, none⟩) hg v2
theorem below_set2 {B g : Nat} {w0 w : World} (h : Below B w0 w) (hg : B ≤ g) (v0 v1 : Value) : Below B w0 ((w.setCell ⟨g, 0, none⟩ v0).setCell ⟨g, 1, none⟩ v1) :=
  (h.setCell (p := ⟨g, 0, none⟩) hg v0).setCell (p := ⟨g, 1, none⟩) hg v1
/-- a signature and an empty function put into blocks -/
theorem boxesF (w : World) (a : Option Addr) (n c : Nat) (b : Option Addr) (m d : Nat) :
    ∃ W, (w.alloc (.cells #[.slice a n c, .slice b m d] 25)).alloc (.cells #[.string ⟨#[]⟩, .slice none 0 0, .string ⟨#[]⟩] 62) = W ∧ Below w.heap.size w W ∧ SBox W w.heap.size a n c b m d ∧ FBox W (w.heap.size + 1) ⟨#[]⟩ none 0 0 ⟨#[]⟩ := boxes w a n c b m d _ _ _ _ _

theorem cloneSl (A : Option Addr) (n c : Nat) (X : List ByteArray) (w' : World) (h : SlS w' A n c X) (hn : n ≤ 100000000) :
    Calls Try.prog 73 #[.slice A n c] w' fun e w1 => ∃ A' c', e = .returned (.slice A' n c') ∧ OwnS w1 w'.heap.size (.slice A' n c') X ∧ Below w'.heap.size w' w1 :=
  (Clone_any A n c X w' h hn).mono fun e w1 ⟨v, he, ho, hb⟩ => by
    obtain ⟨A', c', rfl, _⟩ := ho.slS
    rw [← h.1.1] at ho he
    exact ⟨A', c', he, ho, hb⟩
theorem own_sl {w : World} {base : Nat} {A : Option Addr} {n c : Nat} {X : List ByteArray} (h : OwnS w base (.slice A n c) X) (hn : n = X.length) : SlS w A n c X := by
  obtain ⟨A', c', hv, hS⟩ := h.slS
  injection hv with h1 h2 h3
  subst h1 h3
  rw [hn]; exact hS

set_option maxHeartbeats 4000000 in
theorem Find_off (a : Option Addr) (n c : Nat) (b : Option Addr) (m d : Nat) (G : List Fm) (s : ByteArray) (w : World) (hG : SlG w b m d G) (hm : m ≤ 1000000) (hK : ∀ C ∈ cores G, C.2.1.length ≤ 1000000) :
    Calls Try.prog 38 #[.agg #[.slice a n c, .slice b m d], .string s] w (FindOff (cores G) s w) := by
  obtain ⟨W2, hW2, hB2, S2, F2⟩ := boxesF w a n c b m d
  have cP := place_any s b m d G W2 (hG.below hB2).1 (by omega)
  have hlen : (cores G).length = m := by rw [cores_len]; exact hG.1.1.symm
  obtain ⟨s0, s1⟩ := S2.two
  have lt2 := Blk.lt S2
  have lt3 := Blk.lt F2
  by_cases hp : posK (cores G) s < 0
  · obtain ⟨h1, h2⟩ := find_no hp
    have HP : Hid (FindOff (cores G) s = fun w e w' => ∃ f : Fm, e = .returned (.tuple #[.agg #[.string f.name, .slice f.a f.m f.c, .string f.res], .bool false]) ∧ f.ok w' ∧ f.core = zeroC ∧ Below w.heap.size w w' ∧ ∀ g, g < w.heap.size → Off g f.a f.m) := by
      show _ = _; unfold FindOff; rw [h1, h2]
    rw [HP.out]
    generalize posK (cores G) s = P at *
    have hput := fun (w' : World) (h : Below W2.heap.size W2 w') => (F2.b h).put ⟨#[]⟩ none 0 0 ⟨#[]⟩
    clear h1 h2 HP hG
    have Hput := Lib.hid hput
    clear hput
    go_enter Try.func38, Try.ntmps38
    go_wp2_with (go_at_call 72; ((with_reducible refine cP.mono ?_); rintro e w3 ⟨rfl, hb3⟩; obtain ⟨f0, f1, f2⟩ := (F2.b hb3).three; obtain ⟨q0, q1, q2⟩ := (F2.b hb3).free))
    obtain ⟨x0, x1, x2⟩ := (Hput.out w3 hb3).three
    have hfin := below_set3 (bel_trans hB2 hb3) (Nat.le_succ w.heap.size) (.string ⟨#[]⟩) (.slice none 0 0) (.string ⟨#[]⟩)
    simp [bodyPost, results, Try.results38, go_sem, x0, x1, x2]
    exact ⟨⟨⟨#[]⟩, none, 0, 0, [], ⟨#[]⟩⟩, ⟨rfl, ⟨rfl, rfl, rfl⟩, rfl⟩, SlS.nul _, rfl, hfin, fun g _ hm => absurd hm (by simp)⟩
  · obtain ⟨k, hk, hkl, hKk, hh⟩ := find_yes hp
    have hkm : k < m := by rw [← hlen]; exact hkl
    obtain ⟨bb, o, f, rfl, hb, y1, y2, y3, hx, hok⟩ := (hG.below hB2).1.at hkm
    have hcore : f.core = findC (cores G) s := by
      have := cores_at hx
      rw [hKk] at this
      exact (Option.some.inj this).symm
    have hM : f.m ≤ 1000000 := by
      have h1 : f.m = f.X.length := hok.1.1
      have h2 : f.core.2.1.length ≤ 1000000 := hK _ (List.mem_of_getElem? (cores_at hx))
      rw [h1]; exact h2
    have hMX : f.m = f.X.length := hok.1.1
    have hoks : ∀ w', Below W2.heap.size W2 w' → SlS w' f.a f.m f.c f.X := fun w' h => hok.below h
    have HP : Hid (FindOff (cores G) s = fun w e w' => ∃ f2 : Fm, e = .returned (.tuple #[.agg #[.string f2.name, .slice f2.a f2.m f2.c, .string f2.res], .bool true]) ∧ f2.ok w' ∧ f2.core = f.core ∧ Below w.heap.size w w' ∧ ∀ g, g < w.heap.size → Off g f2.a f2.m) := by
      show _ = _; unfold FindOff; rw [hcore, hh]
    rw [HP.out]
    rw [hk] at cP
    have hk0 : 0 ≤ (k : Int) := by omega
    have hk1 : (k : Int) < (m : Int) := by omega
    have hlast : ∀ (w5 : World) (gg : Nat) (A5 : Option Addr) (c5 : Nat) (v : Value), w.heap.size ≤ gg → Below w.heap.size w w5 → OwnS w5 (gg + 1) (.slice A5 f.m c5) f.X → w.heap.size + 1 < gg →
        Below w.heap.size w ((((w5.setCell ⟨gg, 1, none⟩ v).setCell ⟨w.heap.size + 1, 0, none⟩ (.string f.name)).setCell ⟨w.heap.size + 1, 1, none⟩ (.slice A5 f.m c5)).setCell ⟨w.heap.size + 1, 2, none⟩ (.string f.res)) ∧
        SlS ((((w5.setCell ⟨gg, 1, none⟩ v).setCell ⟨w.heap.size + 1, 0, none⟩ (.string f.name)).setCell ⟨w.heap.size + 1, 1, none⟩ (.slice A5 f.m c5)).setCell ⟨w.heap.size + 1, 2, none⟩ (.string f.res)) A5 f.m c5 f.X := fun w5 gg A5 c5 v h1 h2 h3 h4 =>
      ⟨below_set3 (h2.setCell (p := ⟨gg, 1, none⟩) h1 v) (Nat.le_succ _) _ _ _, SlS.far3 (SlS.far (own_sl h3 hMX) (off_own h3 (Nat.lt_succ_self _)) 1 v) (off_own h3 (by omega)) _ _ _⟩
    have hcoreE : ∀ (A5 : Option Addr) (c5 : Nat), (⟨f.name, A5, f.m, c5, f.X, f.res⟩ : Fm).core = f.core := fun _ _ => rfl
    have cl := fun (w' : World) (h : SlS w' f.a f.m f.c f.X) => cloneSl f.a f.m f.c f.X w' h (by omega)
    clear hp hk hkl hKk hh hcore HP hG hx hok hM hlen hK
    have Hoks := Lib.hid hoks
    have Hlast := Lib.hid hlast
    have Hcl := Lib.hid cl
    clear hoks hlast cl hMX
    generalize f.core = FC at *
    generalize f.name = nm at *
    generalize f.a = A at *
    generalize f.m = M at *
    generalize f.c = Cc at *
    generalize f.X = X at *
    generalize f.res = rs at *
    go_enter Try.func38, Try.ntmps38
    go_wp2_with (first
      | (go_at_call 72; ((with_reducible refine cP.mono ?_); rintro e w3 ⟨rfl, hb3⟩; obtain ⟨s30, s31⟩ := (S2.b hb3).two; have z1 := (hb3.cell hb).trans y1; have z2 := (hb3.cell hb).trans y2; have z3 := (hb3.cell hb).trans y3; have B4 : Below W2.heap.size W2 (w3.alloc (.cells #[.string nm, .slice A M Cc, .string rs] 62)) := bel_alloc hb3 _; have F4 := FBox.new w3 nm A M Cc rs; have c4 := Hcl.out _ (Hoks.out _ B4); obtain ⟨f40, f41, f42⟩ := F4.three))
      | (go_at_call 73; ((with_reducible refine c4.mono ?_); rintro e w5 ⟨A5, c5, rfl, ho5, hb5⟩; have F5 := F4.b hb5; have B5 := bel_trans B4 hb5; have R5 := F2.b B5; have hne : w3.heap.size ≠ w.heap.size + 1 := (Nat.ne_of_lt (Nat.lt_of_lt_of_le lt3 hb3.size)).symm; have F6 := F5.put1 A5 M c5; have R6 := R5.far hne 1 (.slice A5 M c5); obtain ⟨f50, f51, f52⟩ := F5.three; obtain ⟨g50, g51, g52⟩ := F5.free; obtain ⟨f60, f61, f62⟩ := F6.three; obtain ⟨r60, r61, r62⟩ := R6.three; obtain ⟨p60, p61, p62⟩ := R6.free; have R7 := R6.put nm A5 M c5 rs; obtain ⟨x0, x1, x2⟩ := R7.three)))
    simp [bodyPost, results, Try.results38, go_sem, x0, x1, x2]
    have ho6 : OwnS w5 (w3.heap.size + 1) (.slice A5 M c5) X := by simpa using ho5
    obtain ⟨l1, l2⟩ := Hlast.out w5 w3.heap.size A5 c5 (.slice A5 M c5) (Nat.le_trans hB2.size hb3.size) (bel_trans hB2 B5) ho6 (Nat.lt_of_lt_of_le lt3 hb3.size)
    exact ⟨⟨nm, A5, M, c5, X, rs⟩, ⟨rfl, ⟨rfl, rfl, rfl⟩, rfl⟩, l2, hcoreE A5 c5, l1, fun g hg => off_own ho6 (by have := hb3.size; omega)⟩
theorem Find_few (a : Option Addr) (n c : Nat) (b : Option Addr) (m d : Nat) (G : List Fm) (s : ByteArray) (w : World) (hG : SlG w b m d G) (hm : m ≤ 1000000) (hK : ∀ C ∈ cores G, C.2.1.length ≤ 1000000) :
    Calls Try.prog 38 #[.agg #[.slice a n c, .slice b m d], .string s] w (FindPost (cores G) s w) :=
  (Find_off a n c b m d G s w hG hm hK).mono fun e w' ⟨f, h1, h2, h3, h4, _⟩ => ⟨f, h1, h2, h3, h4⟩
end Go.Proofs.Ytacncbkcnhlpcaa.Sgn
