/-
  What is proved: the order of lists of integers (plain mathematics).
  What is proved: rows of rows that package tree's Mapped fills, one after another.
  What is proved: the library's comparison of lists of integers; package tree's closures over a list of such lists.
  What is proved: the library's insertion sort of a row of places of lists of integers.
-/
import Derived.Test.YthchjceibpcgbaaGreatDoorCB
import Derived.Test.YthchjceibpcgbaaGreatDoorLO
import Derived.Laws.MakeOwn
import Derived.Deep.RegionHeld3
import Derived.Deep.QuietTactic
import Derived.BigQuiet
namespace Go.Proofs.YthchjceibpcgbaaGreatDoor.Fi
open Go.RowKit L Lt Cn
set_option linter.unusedVariables false
set_option linter.unusedSimpArgs false

def dft : List Int := []
def atL (l : List (List Int)) (i : Nat) : List Int := l.getD i dft
theorem atL_some {l : List (List Int)} {i : Nat} {t : List Int} (h : l[i]? = some t) : atL l i = t := by unfold atL; rw [List.getD_eq_getElem?_getD, h]; rfl
/-- the order of lists: by the first numbers that differ -/
def cmR : List Int → List Int → Int
  | [], [] => 0
  | [], _ :: _ => -1
  | _ :: _, [] => 1
  | x :: a, y :: b => if cmpI x y ≠ 0 then cmpI x y else cmR a b
def eqR (a b : List Int) : Bool := cmR a b == 0
theorem cmpI_rng (x y : Int) : cmpI x y = -1 ∨ cmpI x y = 0 ∨ cmpI x y = 1 := by
  unfold cmpI
  repeat' split
  all_goals simp
theorem cmpI_eq {x y : Int} : cmpI x y = 0 ↔ x = y := by
  unfold cmpI
  constructor
  · intro h; repeat' split at h
    all_goals omega
  · rintro rfl; simp
theorem cmR_eq : ∀ (a b : List Int), cmR a b = 0 ↔ a = b
  | [], [] => by simp [cmR]
  | [], _ :: _ => by simp [cmR]
  | _ :: _, [] => by simp [cmR]
  | x :: a, y :: b => by
    rw [cmR]
    by_cases h : cmpI x y = 0
    · rw [if_neg (by simpa using h), cmR_eq a b, cmpI_eq.1 h]; simp
    · rw [if_pos h]
      have : x ≠ y := fun e => h (cmpI_eq.2 e)
      simp [h, this]
theorem cmR_anti : ∀ (a b : List Int), cmR b a = - cmR a b
  | [], [] => by simp [cmR]
  | [], _ :: _ => by simp [cmR]
  | _ :: _, [] => by simp [cmR]
  | x :: a, y :: b => by
    have e : cmpI y x = - cmpI x y := by
      unfold cmpI
      repeat' split
      all_goals omega
    have ih := cmR_anti a b
    rw [cmR, cmR]
    by_cases h : cmpI x y = 0
    · rw [if_neg (by rw [e]; simpa using h), if_neg (by simpa using h), ih]
    · rw [if_pos (by rw [e]; omega), if_pos h, e]
theorem cmR_le : ∀ {a b c : List Int}, cmR a b ≤ 0 → cmR b c ≤ 0 → cmR a c ≤ 0
  | [], _, [], _, _ => by simp [cmR]
  | [], _, _ :: _, _, _ => by simp [cmR]
  | _ :: _, [], _, h, _ => by simp [cmR] at h
  | _ :: _, _ :: _, [], _, h => by simp [cmR] at h
  | x :: a, y :: b, z :: c, h1, h2 => by
    rw [cmR] at h1 h2 ⊢
    have e1 : cmpI x y = if x < y then -1 else if y < x then 1 else 0 := rfl
    have e2 : cmpI y z = if y < z then -1 else if z < y then 1 else 0 := rfl
    have e3 : cmpI x z = if x < z then -1 else if z < x then 1 else 0 := rfl
    by_cases hxy : cmpI x y = 0
    · rw [if_neg (by simpa using hxy)] at h1
      obtain rfl := cmpI_eq.1 hxy
      by_cases hyz : cmpI x z = 0
      · rw [if_neg (by simpa using hyz)] at h2 ⊢
        exact cmR_le h1 h2
      · rw [if_pos hyz] at h2 ⊢; exact h2
    · rw [if_pos hxy] at h1
      by_cases hyz : cmpI y z = 0
      · obtain rfl := cmpI_eq.1 hyz
        rw [if_pos hxy]; exact h1
      · rw [if_pos hyz] at h2
        have h3 : cmpI x z = -1 := by
          rw [e1] at h1 hxy; rw [e2] at h2 hyz; rw [e3]
          repeat' split at h1
          all_goals repeat' split at h2
          all_goals (try omega)
          all_goals rw [if_pos (by omega)]
        rw [h3, if_pos (by decide)]; decide
def cfL (l : List (List Int)) (i j : Nat) : Int := cmR (atL l i) (atL l j)
theorem cfL_cmp (l : List (List Int)) : Cmp3 (cfL l) := ⟨fun i j => cmR_anti _ _, fun i j k => cmR_le⟩
theorem cfL_eq {l : List (List Int)} {i j : Nat} : cfL l i j = 0 ↔ atL l i = atL l j := cmR_eq _ _
/-- each element where it first stands -/
def uq : List (List Int) → List (List Int) → List (List Int)
  | out, [] => out
  | out, x :: r => if x ∈ out then uq out r else uq (out ++ [x]) r
theorem uq_snoc (x : List Int) : ∀ (r out : List (List Int)), uq out (r ++ [x]) = if x ∈ uq out r then uq out r else uq out r ++ [x]
  | [], out => by rw [List.nil_append, uq, uq, uq, uq]
  | y :: r, out => by
    rw [List.cons_append, uq, uq]
    split
    · exact uq_snoc x r out
    · exact uq_snoc x r (out ++ [y])
/-- one list against the rest of another, from a place on where they are alike so far -/
theorem cmR_step {a b : List Int} {k : Nat} {x y : Int} (h1 : a[k]? = some x) (h2 : b[k]? = some y) : cmR (a.drop k) (b.drop k) = if cmpI x y ≠ 0 then cmpI x y else cmR (a.drop (k + 1)) (b.drop (k + 1)) := by
  obtain ⟨k1, rfl⟩ := List.getElem?_eq_some_iff.1 h1
  obtain ⟨k2, rfl⟩ := List.getElem?_eq_some_iff.1 h2
  rw [List.drop_eq_getElem_cons k1, List.drop_eq_getElem_cons k2, cmR]
theorem cmR_left {a b : List Int} {k : Nat} {x : Int} (h1 : a[k]? = some x) (h2 : b.length ≤ k) : cmR (a.drop k) (b.drop k) = 1 := by
  obtain ⟨k1, rfl⟩ := List.getElem?_eq_some_iff.1 h1
  rw [List.drop_eq_getElem_cons k1, List.drop_eq_nil_of_le h2, cmR]
theorem cmR_end {a b : List Int} {k : Nat} (h1 : a.length = k) : cmR (a.drop k) (b.drop k) = if a.length < b.length then -1 else 0 := by
  rw [List.drop_eq_nil_of_le (Nat.le_of_eq h1)]
  by_cases h : a.length < b.length
  · rw [if_pos h, List.drop_eq_getElem_cons (show k < b.length by omega), cmR]
  · rw [if_neg h, List.drop_eq_nil_of_le (show b.length ≤ k by omega), cmR]
end Go.Proofs.YthchjceibpcgbaaGreatDoor.Fi
namespace Go.Proofs.YthchjceibpcgbaaGreatDoor.Fi
open Go.RowKit L Lt Cn
set_option linter.unusedVariables false
set_option linter.unusedSimpArgs false

theorem gr_set {W0 W : World} {g : Nat} (h : W0.grownBy W (some g)) (k : Nat) (v : Value) : W0.grownBy (W.setCell ⟨g, k, none⟩ v) (some g) := h.trans (grown_setCell W g k v)
theorem gr_alloc {W0 W : World} {g : Nat} (h : W0.grownBy W (some g)) (o : Obj) : W0.grownBy (W.alloc o) (some g) := h.trans (World.grownBy_alloc W o (some g))
theorem gr_below {B g : Nat} {W W' : World} (h : W.grownBy W' (some g)) (hB : B ≤ W.heap.size) (hg : B ≤ g) : Below B W W' := (Below.refl B W).grown h hB (fun k e => by cases e; exact hg)
theorem gr_blk {W W' : World} {g x : Nat} {cs : Array Value} {t : TypeId} (h : Blk W x cs t) (hg : W.grownBy W' (some g)) (hne : x ≠ g) : Blk W' x cs t := Blk.grown h hg (fun e => hne (by cases e; rfl))
/-- a store over a slice leaves integers as they are -/
theorem sl_over {w : World} {A : Option Addr} {n c : Nat} {X : List Int} (h : SlI w A n c X) {g k : Nat} {a : Option Addr} {m d : Nat} (hc : w.cell? ⟨g, k, none⟩ = some (.slice a m d)) (v : Value) : SlI (w.setCell ⟨g, k, none⟩ v) A n c X :=
  ⟨h.1, h.2.1, h.2.2.1, fun hn => by
    obtain ⟨b, o, ha, hlt, hr⟩ := h.2.2.2 hn
    refine ⟨b, o, ha, by simpa using hlt, fun i hi => ?_⟩
    have hi2 := hr i hi
    have hne : (⟨g, k, none⟩ : Addr) ≠ ⟨b, o + i, none⟩ := fun e => by rw [← e, hc] at hi2; injection hi2 with hi2; cases hi2
    rw [World.cell?_setCell_other _ _ _ _ hne]
    exact hi2⟩
/-- a slice of slices that reads as a list of lists, its rows in blocks of a kind -/
def SlGP (P : Nat → Prop) (w : World) (a : Option Addr) (n c : Nat) (G : List (List Int)) : Prop :=
  n = G.length ∧ n ≤ c ∧ (a = none → c = 0) ∧ (0 < n → ∃ b o, a = some ⟨b, o, none⟩ ∧ b < w.heap.size ∧ ∀ i (h : i < G.length), ∃ A m k, w.cell? ⟨b, o + i, none⟩ = some (.slice A m k) ∧ SlI w A m k G[i] ∧ (0 < m → ∀ ad, A = some ad → P ad.block))
theorem SlGP.slG {P : Nat → Prop} {w : World} {a : Option Addr} {n c : Nat} {G : List (List Int)} (h : SlGP P w a n c G) : SlG w a n c G :=
  ⟨h.1, h.2.1, h.2.2.1, fun hn => by
    obtain ⟨b, o, ha, hlt, hr⟩ := h.2.2.2 hn
    exact ⟨b, o, ha, hlt, fun i hi => by obtain ⟨A, m, k, h1, h2, _⟩ := hr i hi; exact ⟨A, m, k, h1, h2⟩⟩⟩
theorem SlGP.of {w : World} {a : Option Addr} {n c : Nat} {G : List (List Int)} (h : SlG w a n c G) : SlGP (fun _ => True) w a n c G :=
  ⟨h.1, h.2.1, h.2.2.1, fun hn => by
    obtain ⟨b, o, ha, hlt, hr⟩ := h.2.2.2 hn
    exact ⟨b, o, ha, hlt, fun i hi => by obtain ⟨A, m, k, h1, h2⟩ := hr i hi; exact ⟨A, m, k, h1, h2, fun _ _ _ => trivial⟩⟩⟩
theorem SlGP.below {P : Nat → Prop} {w w' : World} {a : Option Addr} {n c : Nat} {G : List (List Int)} (h : SlGP P w a n c G) (hb : Below w.heap.size w w') : SlGP P w' a n c G :=
  ⟨h.1, h.2.1, h.2.2.1, fun hn => by
    obtain ⟨b, o, ha, hlt, hr⟩ := h.2.2.2 hn
    refine ⟨b, o, ha, Nat.lt_of_lt_of_le hlt hb.size, fun i hi => ?_⟩
    obtain ⟨A, m, k, h1, h2, h3⟩ := hr i hi
    exact ⟨A, m, k, (hb.cell (p := ⟨b, _, none⟩) hlt).trans h1, h2.below hb, h3⟩⟩
theorem SlGP.nil (P : Nat → Prop) (w : World) : SlGP P w none 0 0 [] := ⟨rfl, Nat.le_refl _, fun _ => rfl, fun h => absurd h (by omega)⟩
theorem SlGP.at {P : Nat → Prop} {w : World} {A : Option Addr} {n c : Nat} {G : List (List Int)} (h : SlGP P w A n c G) {k : Nat} (hk : k < n) :
    ∃ g o B m q X, A = some ⟨g, o, none⟩ ∧ g < w.heap.size ∧ w.cell? ⟨g, o + k, none⟩ = some (.slice B m q) ∧ G[k]? = some X ∧ SlI w B m q X ∧ (0 < m → ∀ ad, B = some ad → P ad.block) := by
  obtain ⟨g, o, e, hg, hc⟩ := h.2.2.2 (by omega)
  have hk2 : k < G.length := by rw [← h.1]; exact hk
  obtain ⟨B, m, q, h1, h2, h3⟩ := hc k hk2
  exact ⟨g, o, B, m, q, G[k], e, hg, h1, List.getElem?_eq_getElem hk2, h2, h3⟩
/-- a store into a block that holds none of it -/
theorem SlGP.far {P : Nat → Prop} {w : World} {A : Option Addr} {n c : Nat} {G : List (List Int)} (h : SlGP P w A n c G) {B : Nat} (hA : ∀ ad, A = some ad → ad.block ≠ B) (hP : ¬ P B) (k : Nat) (v : Value) : SlGP P (w.setCell ⟨B, k, none⟩ v) A n c G :=
  ⟨h.1, h.2.1, h.2.2.1, fun hn => by
    obtain ⟨b, o, ha, hlt, hr⟩ := h.2.2.2 hn
    have hb : b ≠ B := hA _ ha
    refine ⟨b, o, ha, by simpa using hlt, fun i hi => ?_⟩
    obtain ⟨A', m, k', h1, h2, h3⟩ := hr i hi
    refine ⟨A', m, k', ?_, ⟨h2.1, h2.2.1, h2.2.2.1, fun hm => ?_⟩, h3⟩
    · rw [World.cell?_setCell_other _ _ _ _ (fun e => hb (by injection e with e1; exact e1.symm))]; exact h1
    · obtain ⟨b', o', ha', hlt', hr'⟩ := h2.2.2.2 hm
      have hb' : b' ≠ B := fun e => hP (by have := h3 hm _ ha'; rwa [← e])
      refine ⟨b', o', ha', by simpa using hlt', fun j hj => ?_⟩
      rw [World.cell?_setCell_other _ _ _ _ (fun e => hb' (by injection e with e1; exact e1.symm))]; exact hr' j hj⟩
theorem own_gp {w : World} {lo : Nat} {A : Option Addr} {r c : Nat} {G : List (List Int)} (h : OwnG w lo (.slice A r c) G) : r = G.length ∧ SlGP (fun b => lo ≤ b) w A r c G := by
  obtain ⟨A', c', e, _, hS⟩ := h.slG
  injection e with e1 e2 e3
  subst e1 e2 e3
  obtain ⟨us, h1, h2, h3⟩ := h
  refine ⟨rfl, hS.1, hS.2.1, hS.2.2.1, fun hn => ?_⟩
  obtain ⟨b, o, ha, hlt, hr⟩ := hS.2.2.2 hn
  refine ⟨b, o, ha, hlt, fun i hi => ?_⟩
  rcases h1.2 with ⟨e, hz⟩ | ⟨g, cap, cur, e, hb, hg, hnc, hcm, hcs, ht⟩
  · injection e with e1
    rw [e1] at ha; cases ha
  · injection e with e1 e2 e3
    rw [ha] at e1
    injection e1 with e1
    injection e1 with e1 e4
    subst e1 e4
    have hi2 : i < us.length := by omega
    obtain ⟨A', m, k, e5, hSI, hP⟩ := h3 i us[i] G[i] (List.getElem?_eq_getElem hi2) (List.getElem?_eq_getElem hi)
    refine ⟨A', m, k, ?_, hSI, fun hm ad had => (hP hm ad had).1⟩
    have e6 : (cur.toList.take (us.length * 1))[i]? = us[i]? := by rw [ht]
    rw [List.getElem?_take_of_lt (by omega), Array.getElem?_toList] at e6
    rw [Nat.zero_add, cell_of_row w b i _ _ _ hg, e6, List.getElem?_eq_getElem hi2, e5]
/-- the first k of m rows stand in block g -/
def PartG (P : Nat → Prop) (g : Nat) (ls : List (List Int)) (m k : Nat) (wr : World) : Prop := ∃ us : List Value, us.length = m ∧ Blk wr g us.toArray 34 ∧ (∀ (j : Nat) (u : Value), us[j]? = some u → ∃ A p c, u = .slice A p c) ∧ ∀ (j : Nat) (X : List Int), j < k → ls[j]? = some X → ∃ A p c, us[j]? = some (.slice A p c) ∧ SlI wr A p c X ∧ (0 < p → ∀ ad, A = some ad → P ad.block)
theorem PartG.start (P : Nat → Prop) (ls : List (List Int)) (n : Nat) (w : World) : PartG P w.heap.size ls n 0 (w.alloc (.cells (madeCells #[.slice none 0 0] n) 34)) := by
  refine ⟨List.replicate n (.slice none 0 0), by simp, ?_, fun j u h => ?_, fun j X h => by omega⟩
  · have e : madeCells #[.slice none 0 0] n = (List.replicate n (Value.slice none 0 0)).toArray := by
      apply Array.ext (by simp [size_madeCells])
      intro i h1 h2
      simp [madeCells, Nat.mod_one]
    rw [e]; exact Blk.new w _ _
  · rw [List.getElem?_replicate] at h
    split at h
    · injection h with h; exact ⟨none, 0, 0, h.symm⟩
    · cases h
theorem PartG.go {P : Nat → Prop} {g m k : Nat} {ls : List (List Int)} {wr w5 : World} {X : List Int} {A : Option Addr} {p c : Nat} (hp : PartG P g ls m k wr) (hk : k < m) (hx : ls[k]? = some X) (b5 : Below wr.heap.size wr w5) (hS : SlI w5 A p c X) (hP : 0 < p → ∀ ad, A = some ad → P ad.block) :
    (∃ a q d, w5.cell? ⟨g, k, none⟩ = some (.slice a q d)) ∧ w5.frozen? ⟨g, k, none⟩ = false ∧ PartG P g ls m (k + 1) (w5.setCell ⟨g, k, none⟩ (.slice A p c)) := by
  obtain ⟨us, hl, hB, hK, hr⟩ := hp
  have hB5 := Blk.below hB b5
  have hc : w5.cell? ⟨g, k, none⟩ = some us[k] := by rw [Blk.cell hB5 k]; simp [show k < us.length by omega]
  obtain ⟨a, q, d, e⟩ := hK k us[k] (List.getElem?_eq_getElem (by omega))
  rw [e] at hc
  refine ⟨⟨a, q, d, hc⟩, Blk.free hB5 k, us.set k (.slice A p c), by simpa using hl, ?_, fun j u hj => ?_, fun j Y hj hy => ?_⟩
  · have := Blk.set hB5 k (.slice A p c)
    simpa using this
  · rw [List.getElem?_set] at hj
    split at hj
    · split at hj
      · injection hj with hj; exact ⟨A, p, c, hj.symm⟩
      · cases hj
    · exact hK j u hj
  · by_cases hjk : j = k
    · subst hjk
      rw [hx] at hy
      injection hy with hy
      subst hy
      exact ⟨A, p, c, by rw [List.getElem?_set_self (by omega)], sl_over hS hc _, hP⟩
    · obtain ⟨A', p', c', h1, h2, h3⟩ := hr j Y (by omega) hy
      exact ⟨A', p', c', by rw [List.getElem?_set_ne (fun e => hjk e.symm)]; exact h1, sl_over (h2.below b5) hc _, h3⟩
theorem PartG.done {P : Nat → Prop} {g m : Nat} {ls : List (List Int)} {wr : World} (hp : PartG P g ls m m wr) (hm : ls.length = m) : SlGP P wr (some ⟨g, 0, none⟩) m m ls := by
  obtain ⟨us, hl, hB, hK, hr⟩ := hp
  refine ⟨hm.symm, Nat.le_refl _, (fun e => by cases e), fun hn => ⟨g, 0, rfl, Blk.lt hB, fun i hi => ?_⟩⟩
  obtain ⟨A, p, c, h1, h2, h3⟩ := hr i ls[i] (by omega) (List.getElem?_eq_getElem hi)
  refine ⟨A, p, c, ?_, h2, h3⟩
  rw [Nat.zero_add, Blk.cell hB i, List.getElem?_toArray, h1]
end Go.Proofs.YthchjceibpcgbaaGreatDoor.Fi
namespace Go.Proofs.YthchjceibpcgbaaGreatDoor.Fi
open Go.RowKit L Lt Cn
set_option linter.unusedVariables false
set_option linter.unusedSimpArgs false

set_option maxRecDepth 100000 in
set_option maxHeartbeats 4000000 in
theorem compare_any (A : Option Addr) (n c : Nat) (X : List Int) (A' : Option Addr) (n' c' : Nat) (Y : List Int) (w : World) (h : SlI w A n c X) (h' : SlI w A' n' c' Y) (hn : n ≤ 9223372036854775807) (hn' : n' ≤ 9223372036854775807) :
    Calls Tryz.prog 26 #[.slice A n c, .slice A' n' c'] w fun e w' => e = .returned (.int .i64 (cmR X Y)) ∧ w = w' := by
  have H := Lib.hid h
  have H' := Lib.hid h'
  have HX := Lib.hid h.1
  have HY := Lib.hid h'.1
  obtain ⟨R, hR⟩ : ∃ R, cmR X Y = R := ⟨_, rfl⟩
  rw [hR]
  have HE : Hid (R = cmR (X.drop 0) (Y.drop 0)) := Lib.hid (by rw [List.drop_zero, List.drop_zero, hR])
  have CI := Lib.hid (fun x y W => cmp_int x y W)
  clear h h' hR
  go_enter Tryz.func26, Tryz.ntmps26
  go_wp2
  go_loopw [11] (fun i wr0 => ∃ (wr : World) (k : Nat), wr = wr0 ∧ k ≤ n ∧ k ≤ n' ∧ i = .int .i64 k ∧ Hid (R = cmR (X.drop k) (Y.drop k)) ∧ Hid (w = wr)) (fun i _ => n - (intOf i).toNat)
  case atStart => exact ⟨_, 0, rfl, by omega, by omega, rfl, HE, Lib.hid rfl⟩
  case round =>
    obtain ⟨wr, k, rfl, hk, hk', rfl, hE, hW⟩ := hrel
    by_cases hlt : k < n
    · obtain ⟨g, o, x, rfl, hg, z0, hx⟩ := SlI.at H.out hlt
      have y0 : wr.cell? ⟨g, o + k, none⟩ = some (.int .i64 x) := by rw [← hW.out]; exact z0
      have hk0 : 0 ≤ (k : Int) := by omega
      have hk1 : (k : Int) < (n : Int) := by omega
      by_cases hlt' : k < n'
      · obtain ⟨g', o', y, rfl, hg', z0', hy⟩ := SlI.at H'.out hlt'
        have y0' : wr.cell? ⟨g', o' + k, none⟩ = some (.int .i64 y) := by rw [← hW.out]; exact z0'
        have cc := CI.out x y wr
        have hS := Lib.hid (hE.out.trans (cmR_step hx hy))
        have q1 : decide ((k : Int) ≥ (n' : Int)) = false := decide_eq_false (by omega)
        have hk2 : (k : Int) < (n' : Int) := by omega
        clear z0 hx z0' hy hE
        generalize cmpI x y = v at *
        by_cases hv : v = 0
        · have q2 : (v != 0) = false := by simp [hv]
          have HE2 : Hid (R = cmR (X.drop (k + 1)) (Y.drop (k + 1))) := Lib.hid (by rw [hS.out, if_neg (by simp [hv])])
          clear hS hv
          go_wp2_with (go_at_call 55; ((with_reducible refine cc.mono ?_); rintro e w1 ⟨rfl, rfl⟩))
          go_roundw
          case rel => exact ⟨_, k + 1, rfl, by omega, by omega, by go_num, HE2, hW⟩
          case measure => simp [intOf]; omega
        · have q2 : (v != 0) = true := by simp [hv]
          have HR : Hid (v = R) := Lib.hid (by rw [hS.out, if_pos hv])
          clear hS hv
          go_wp2_with (go_at_call 55; ((with_reducible refine cc.mono ?_); rintro e w1 ⟨rfl, rfl⟩))
          go_ret
          exact ⟨L.one HR.out, hW.out⟩
      · have HR : Hid ((1 : Int) = R) := Lib.hid (by rw [hE.out, cmR_left hx (by have := HY.out; omega)])
        have q1 : decide ((k : Int) ≥ (n' : Int)) = true := decide_eq_true (by omega)
        clear z0 hx hE
        go_wp2
        go_ret
        exact ⟨L.one HR.out, hW.out⟩
    · obtain rfl : k = n := by omega
      have hS := Lib.hid (hE.out.trans (cmR_end (b := Y) (show X.length = k from HX.out.symm)))
      have hx := HX.out
      have hy := HY.out
      by_cases hc : X.length < Y.length
      · have HR : Hid ((-1 : Int) = R) := Lib.hid (by rw [hS.out, if_pos hc])
        have q3 : decide ((k : Int) < (n' : Int)) = true := decide_eq_true (by omega)
        have hlt2 : k < n' := by omega
        clear hE hS hc hx hy
        go_wp2
        go_ret
        exact ⟨L.one HR.out, hW.out⟩
      · have HR : Hid ((0 : Int) = R) := Lib.hid (by rw [hS.out, if_neg hc])
        have q3 : decide ((k : Int) < (n' : Int)) = false := decide_eq_false (by omega)
        have hlt2 : ¬ k < n' := by omega
        clear hE hS hc hx hy
        go_wp2
        go_ret
        exact ⟨L.one HR.out, hW.out⟩
set_option maxRecDepth 100000 in
set_option maxHeartbeats 4000000 in
theorem firsts1_any (gc gl : Nat) (A : Option Addr) (n c : Nat) (l : List (List Int)) (hs : ∀ X ∈ l, X.length ≤ 1000000) (i j : Nat) (w : World) (hgc : Blk w gc #[.func (.func 26) #[] #[]] 50) (hg : Blk w gl #[.slice A n c] 22) (hT : SlG w A n c l) (hi : i < n) (hj : j < n) :
    Calls Tryz.prog 59 #[.int .i64 i, .int .i64 j, .pointer (some ⟨gc, 0, none⟩), .pointer (some ⟨gl, 0, none⟩)] w fun e w' => e = .returned (.int .i64 (cmR (atL l i) (atL l j))) ∧ Below w.heap.size w w' := by
  obtain ⟨bb, o, B, p, q, X, rfl, hb, y0, hx, hX⟩ := hT.at hi
  obtain ⟨bb', o', B', p', q', Y, h2, hb', z0, hx', hY⟩ := hT.at hj
  injection h2 with h2
  injection h2 with h2 h3
  subst h2 h3
  rw [atL_some hx, atL_some hx']
  have hXl := hs X (List.mem_of_getElem? hx)
  have hYl := hs Y (List.mem_of_getElem? hx')
  have cs := compare_any B p q X B' p' q' Y w hX hY (by rw [hX.1]; omega) (by rw [hY.1]; omega)
  have cq := fun (W : World) (h : Below w.heap.size w W) => compare_any B p q X B' p' q' Y W (hX.below h) (hY.below h) (by rw [hX.1]; omega) (by rw [hY.1]; omega)
  have Cq := Lib.hid cq
  have c0 := Blk.cell hg 0
  have cc0 := Blk.cell hgc 0
  clear hx hx' hX hY hT cs cq hs hXl hYl
  generalize cmR X Y = R at *
  have hi0 : 0 ≤ (i : Int) := by omega
  have hi1 : (i : Int) < (n : Int) := by omega
  have hj0 : 0 ≤ (j : Int) := by omega
  have hj1 : (j : Int) < (n : Int) := by omega
  go_enter Tryz.func59, Tryz.ntmps59
  go_wp2_with fail
  go_quiet ((go_at_call 26; exact Calls.quiet_of_same ((Cq.out _ (by first | exact Below.refl _ _ | exact below_drewN (Below.refl _ _) _)).mono fun e w' h => ⟨h.1, h.2.symm⟩)))
  go_wp2
  go_ret
  exact ⟨rfl, below_drewN (Below.refl _ _) _⟩
end Go.Proofs.YthchjceibpcgbaaGreatDoor.Fi
namespace Go.Proofs.YthchjceibpcgbaaGreatDoor.Fi
open Go.RowKit L Lt Cn
set_option linter.unusedVariables false
set_option linter.unusedSimpArgs false


/-! insertion, from the right -/
def insRev (c : Nat → Nat → Int) (x : Nat) : List Nat → List Nat
  | [] => [x]
  | y :: l => if c x y < 0 then y :: insRev c x l else x :: y :: l
def isortR (c : Nat → Nat → Int) (acc : List Nat) (l : List Nat) : List Nat := l.foldl (fun a x => insRev c x a) acc
theorem insRev_len (c : Nat → Nat → Int) (x : Nat) : ∀ l : List Nat, (insRev c x l).length = l.length + 1
  | [] => rfl
  | y :: l => by rw [insRev]; split <;> simp [insRev_len c x l]
theorem insRev_perm (c : Nat → Nat → Int) (x : Nat) : ∀ l : List Nat, (insRev c x l).Perm (x :: l)
  | [] => List.Perm.refl _
  | y :: l => by
    rw [insRev]; split
    · exact ((insRev_perm c x l).cons y).trans (List.Perm.swap _ _ _)
    · exact List.Perm.refl _
theorem isortR_len (c : Nat → Nat → Int) : ∀ (l acc : List Nat), (isortR c acc l).length = acc.length + l.length
  | [], acc => by simp [isortR]
  | x :: l, acc => by
    have := isortR_len c l (insRev c x acc)
    rw [insRev_len] at this
    simp only [isortR, List.foldl_cons, List.length_cons] at this ⊢
    omega
theorem isortR_snoc (c : Nat → Nat → Int) (acc l : List Nat) (x : Nat) : isortR c acc (l ++ [x]) = insRev c x (isortR c acc l) := by simp [isortR]
theorem isortR_perm (c : Nat → Nat → Int) : ∀ (l acc : List Nat), (isortR c acc l).Perm (acc ++ l)
  | [], acc => by simp [isortR]
  | x :: l, acc => by
    have h := isortR_perm c l (insRev c x acc)
    refine (show (isortR c acc (x :: l)).Perm (insRev c x acc ++ l) from h).trans ?_
    refine ((insRev_perm c x acc).append_right l).trans ?_
    exact (List.perm_middle (a := x) (l₁ := acc) (l₂ := l)).symm

/-! a row of places -/
def RowN (w : World) (g : Nat) (zs : List Nat) : Prop := Blk w g (zs.map (fun z : Nat => Value.int .i64 (z : Int))).toArray 3
theorem RowN.at {w : World} {g : Nat} {zs : List Nat} (h : RowN w g zs) {k z : Nat} (hk : zs[k]? = some z) : w.cell? ⟨g, k, none⟩ = some (.int .i64 z) := by
  rw [Blk.cell h k]
  simp [hk]
theorem RowN.set {w : World} {g : Nat} {zs : List Nat} (h : RowN w g zs) (k z : Nat) : RowN (w.setCell ⟨g, k, none⟩ (.int .i64 z)) g (zs.set k z) := by
  have := Blk.set h k (.int .i64 (z : Int))
  unfold RowN
  rw [List.map_set]
  simpa using this
theorem swap_list (X T : List Nat) (x y : Nat) : ((X ++ y :: x :: T).set (X.length + 1) y).set X.length x = X ++ x :: y :: T := by
  rw [List.set_append_right _ _ (by omega), List.set_append_right _ _ (by omega)]
  simp
theorem swap_list2 (X T : List Nat) (x y : Nat) : ((X ++ y :: x :: T).set X.length x).set (X.length + 1) y = X ++ x :: y :: T := by
  rw [List.set_append_right _ _ (by omega), List.set_append_right _ _ (by omega)]
  simp

theorem gr_drewN {W0 W : World} {g : Nat} (h : W0.grownBy W (some g)) (n : Nat) : W0.grownBy (W.drewN n) (some g) := h.trans ⟨rfl, rfl, rfl, Nat.le_refl _, fun _ _ _ => rfl⟩
theorem gr_drew {W0 W : World} {g : Nat} (h : W0.grownBy W (some g)) : W0.grownBy W.drew (some g) := h.trans ⟨rfl, rfl, rfl, Nat.le_refl _, fun _ _ _ => rfl⟩
theorem gr_of_below {W W' : World} {g : Nat} (h : Below W.heap.size W W') (ht : W'.tape = W.tape) : W.grownBy W' (some g) := ⟨h.os, ht, h.output, h.size, fun k hk _ => h.block k hk⟩
/-- what a sort's comparison is: the closure, in every world that has what lies below the row -/
def CmpIn (g gc gl n : Nat) (l : List (List Int)) (w0 : World) : Prop := ∀ (i j : Nat) (w : World), Below g w0 w → g ≤ w.heap.size → i < n → j < n →
  Calls Tryz.prog 59 #[.int .i64 i, .int .i64 j, .pointer (some ⟨gc, 0, none⟩), .pointer (some ⟨gl, 0, none⟩)] w fun e w' => e = .returned (.int .i64 (cmR (atL l i) (atL l j))) ∧ Below w.heap.size w w'

set_option maxRecDepth 100000 in
set_option maxHeartbeats 8000000 in
theorem insertion_any (g gc gl n : Nat) (l : List (List Int)) (w0 : World) (hc : CmpIn g gc gl n l w0) (pre seg post : List Nat) (hlt : ∀ z ∈ pre ++ seg ++ post, z < n) (N cap : Nat) (hN : N = (pre ++ seg ++ post).length) (hN2 : N ≤ 1000000) (w : World) (hb : Below g w0 w) (hr : RowN w g (pre ++ seg ++ post)) :
    Calls Tryz.prog 99 #[.slice (some ⟨g, 0, none⟩) N cap, .int .i64 pre.length, .int .i64 ((pre.length : Int) + (seg.length : Int)), .func (.func 59) #[] #[.pointer (some ⟨gc, 0, none⟩), .pointer (some ⟨gl, 0, none⟩)]] w fun e w' => (∃ v, e = .returned v) ∧ RowN w' g (pre ++ (isortR (fun i j => cmR (atL l i) (atL l j)) [] seg).reverse ++ post) ∧ w.grownBy w' (some g) := by
  have hg := Blk.lt hr
  have HC := Lib.hid hc
  have Hlt := Lib.hid hlt
  generalize hcf : (fun i j => cmR (atL l i) (atL l j)) = cf at *
  have hcf2 : ∀ i j, cmR (atL l i) (atL l j) = cf i j := fun i j => by rw [← hcf]
  have Hcf := Lib.hid hcf2
  clear hc hlt hcf hcf2
  have H0 : Hid (RowN w g (pre ++ (isortR cf [] (seg.take 1)).reverse ++ (seg.drop 1 ++ post))) := by
    cases seg with
    | nil => show RowN w g _; simpa [isortR] using hr
    | cons x s => show RowN w g _; simpa [isortR, insRev] using hr
  have hl1 : pre.length ≤ 1000000 := by simp at hN; omega
  have hl2 : pre.length + seg.length ≤ 1000000 := by simp at hN; omega
  have HN := Lib.hid hN
  clear hr hN
  go_enter Tryz.func99, Tryz.ntmps99
  go_wp2
  go_loopw [8] (fun i wr0 => ∃ (wr : World) (m : Nat), wr = wr0 ∧ 1 ≤ m ∧ (m ≤ seg.length ∨ m = 1) ∧ i = .int .i64 ((pre.length : Int) + (m : Int)) ∧ w.grownBy wr (some g) ∧ Hid (RowN wr g (pre ++ (isortR cf [] (seg.take m)).reverse ++ (seg.drop m ++ post)))) (fun i _ => pre.length + seg.length - (intOf i).toNat)
  case atStart => exact ⟨_, 1, rfl, by omega, .inr rfl, rfl, World.grownBy.refl _ _, H0⟩
  case round =>
    obtain ⟨wr, m, rfl, hm1, hm2, rfl, hG, hR⟩ := hrel
    by_cases hlt : m < seg.length
    · have hx : seg[m]? = some seg[m] := List.getElem?_eq_getElem hlt
      obtain ⟨x, hxx⟩ : ∃ x, seg[m] = x := ⟨_, rfl⟩
      rw [hxx] at hx
      obtain ⟨P0, hP0⟩ : ∃ P0, isortR cf [] (seg.take m) = P0 := ⟨_, rfl⟩
      obtain ⟨rest, hrest⟩ : ∃ rest, seg.drop (m + 1) ++ post = rest := ⟨_, rfl⟩
      have hlen0 : P0.length = m := by rw [← hP0, isortR_len]; simp; omega
      have hd : seg.drop m ++ post = x :: rest := by rw [← hrest, ← hxx, ← List.cons_append, ← List.drop_eq_getElem_cons hlt]
      have hins : insRev cf x P0 = isortR cf [] (seg.take (m + 1)) := by
        rw [List.take_add_one, hx, ← hP0]
        exact (isortR_snoc cf [] _ x).symm
      have hR0 : Hid (RowN wr g (pre ++ P0.reverse ++ x :: ([] ++ rest))) := by
        have := hR.out
        rw [hP0, hd] at this
        exact this
      have Hfin := Lib.hid (show ∀ (P Q : List Nat) (W : World), (insRev cf x P).reverse ++ Q = (insRev cf x P0).reverse → (insRev cf x P).reverse = P.reverse ++ [x] → RowN W g (pre ++ P.reverse ++ x :: (Q ++ rest)) → RowN W g (pre ++ (isortR cf [] (seg.take (m + 1))).reverse ++ (seg.drop (m + 1) ++ post)) from fun P Q W h1 h2 h3 => by
        rw [← hins, ← h1, h2, hrest]
        simpa using h3)
      have Hall := Lib.hid (show ∀ (P Q : List Nat), (insRev cf x P).reverse ++ Q = (insRev cf x P0).reverse → ∀ y ∈ x :: P, y < n from fun P Q h1 y hy => by
        have h2 : y ∈ (insRev cf x P0).reverse := by
          rw [← h1]
          refine List.mem_append_left _ (List.mem_reverse.2 ((insRev_perm cf x P).mem_iff.2 hy))
        rw [List.mem_reverse, hins] at h2
        have h3 := (isortR_perm cf (seg.take (m + 1)) []).mem_iff.1 h2
        exact Hlt.out y (List.mem_append_left _ (List.mem_append_right _ (List.take_subset _ _ (by simpa using h3)))))
      have Hlq := Lib.hid (show ∀ (P Q : List Nat), (insRev cf x P).reverse ++ Q = (insRev cf x P0).reverse → P.length + Q.length = m from fun P Q h1 => by
        have := congrArg List.length h1
        rw [List.length_append, List.length_reverse, List.length_reverse, insRev_len, insRev_len] at this
        omega)
      have Hlen0 := Lib.hid hlen0
      clear hx hxx hP0 hrest hd hins hR hlen0
      have hpm : (pre.length : Int) + m < pre.length + seg.length := by omega
      go_wp2
      go_loopw [9] (fun i wr0 => ∃ (w2 : World) (P Q : List Nat), w2 = wr0 ∧ i = .int .i64 ((pre.length : Int) + (P.length : Int)) ∧ w.grownBy w2 (some g) ∧ Hid ((insRev cf x P).reverse ++ Q = (insRev cf x P0).reverse ∧ RowN w2 g (pre ++ P.reverse ++ x :: (Q ++ rest)))) (fun i _ => (intOf i).toNat)
      case atStart => exact ⟨_, P0, [], rfl, by rw [Hlen0.out], hG, Lib.hid ⟨by simp, hR0.out⟩⟩
      case round =>
        obtain ⟨w2, P, Q, rfl, rfl, hG2, hR2⟩ := hrel
        have hlq := Hlq.out P Q hR2.out.1
        cases P with
        | nil =>
          have Hn := Lib.hid (Hfin.out [] Q w2 hR2.out.1 rfl hR2.out.2)
          have hpl : (pre.length : Int) + (([] : List Nat).length : Int) = (pre.length : Int) := by simp
          rw [hpl]
          clear hpl hlq
          have hgd : ¬ (pre.length : Int) < (pre.length : Int) := by omega
          clear hR2
          go_wp2_with fail
          go_quiet (fail)
          go_wp2
          go_roundw
          case rel => exact ⟨_, m + 1, rfl, by omega, by omega, by go_num, gr_drewN hG2 _, Lib.hid (show RowN _ _ _ from Hn.out)⟩
          case measure => simp [intOf]; omega
        | cons y P =>
          have hxn := Hall.out (y :: P) Q hR2.out.1 x (by simp)
          have hyn := Hall.out (y :: P) Q hR2.out.1 y (by simp)
          have hrow := hR2.out.2
          have hX : (pre ++ (y :: P).reverse ++ x :: (Q ++ rest)) = (pre ++ P.reverse) ++ y :: x :: (Q ++ rest) := by simp
          rw [hX] at hrow
          have hXl : (pre ++ P.reverse).length = pre.length + P.length := by simp
          obtain ⟨k, hk⟩ : ∃ k, pre.length + P.length = k := ⟨_, rfl⟩
          have e0 : ((pre ++ P.reverse) ++ y :: x :: (Q ++ rest))[k]? = some y := by rw [List.getElem?_append_right (by omega), hXl, hk, Nat.sub_self]; rfl
          have e1 : ((pre ++ P.reverse) ++ y :: x :: (Q ++ rest))[k + 1]? = some x := by rw [List.getElem?_append_right (by omega), hXl, hk, Nat.add_sub_cancel_left]; rfl
          have c0 := hrow.at e0
          have c1 := hrow.at e1
          have q0 := Blk.free hrow k
          have q1 := Blk.free hrow (k + 1)
          have hsw1 := Lib.hid (show ∀ W, RowN W g ((pre ++ P.reverse) ++ y :: x :: (Q ++ rest)) → RowN ((W.setCell ⟨g, k + 1, none⟩ (.int .i64 y)).setCell ⟨g, k, none⟩ (.int .i64 x)) g (pre ++ P.reverse ++ x :: (y :: Q ++ rest)) from fun W h => by
            have h1 := (h.set (k + 1) y).set k x
            rw [← hk, ← hXl, swap_list] at h1
            rw [← hk, ← hXl]; exact h1)
          have hsw2 := Lib.hid (show ∀ W, RowN W g ((pre ++ P.reverse) ++ y :: x :: (Q ++ rest)) → RowN ((W.setCell ⟨g, k, none⟩ (.int .i64 x)).setCell ⟨g, k + 1, none⟩ (.int .i64 y)) g (pre ++ P.reverse ++ x :: (y :: Q ++ rest)) from fun W h => by
            have h1 := (h.set k x).set (k + 1) y
            rw [← hk, ← hXl, swap_list2] at h1
            rw [← hk, ← hXl]; exact h1)
          have hkk := Lib.hid hk
          have hpl : (pre.length : Int) + ((y :: P).length : Int) = (k : Int) + 1 := by simp; omega
          rw [hpl]
          have hg2 := Blk.lt hrow
          have hB2 : Below g w0 w2.drew := (hb.trans (gr_below hG2 (Nat.le_of_lt hg) (Nat.le_refl _))).drew
          have cC := HC.out x y w2.drew hB2 (Nat.le_of_lt hg2) hxn hyn
          rw [Hcf.out] at cC
          have hkn : (pre.length : Int) < (k : Int) + 1 := by omega
          have hkN : (k : Int) + 1 < (N : Int) := by
            have h1 := HN.out
            have h2 := congrArg List.length (show (pre ++ seg ++ post) = (pre ++ seg ++ post) from rfl)
            have h3 : P.length + 1 + Q.length = m := by simpa using hlq
            simp at h1
            omega
          have hwr : IntKind.i64.wrap ((k : Int) + 1 - 1) = (k : Int) := by rw [IntKind.wrap_i64]; omega
          have hwr2 : IntKind.i64.wrap (k : Int) = (k : Int) := by rw [IntKind.wrap_i64]; omega
          have hk0 : 0 ≤ (k : Int) := by omega
          have hk1 : 0 ≤ (k : Int) + 1 := by omega
          have hkN0 : (k : Int) < (N : Int) := by omega
          have hB2d : Below w2.heap.size w2 w2.drew := (Below.refl _ _).drew
          have HR2 := Lib.hid hR2.out.1
          have Hrow := Lib.hid hrow
          clear hR2 hrow hX e0 e1 hlq hpl hXl hk
          by_cases hneg : cf x y < 0
          · have hi2 : Hid ((insRev cf x P).reverse ++ (y :: Q) = (insRev cf x P0).reverse) := by
              have h1 := HR2.out
              rw [insRev, if_pos hneg] at h1
              show _ = _
              rw [← h1]; simp
            generalize cf x y = R at *
            go_wp2_with fail
            go_region_held3 (fun w' => w'.cell? ⟨g, k, none⟩ = some (.int .i64 y) ∧ w'.cell? ⟨g, k + 1, none⟩ = some (.int .i64 x))
              (first | go_keep | (exact ⟨(B4.cell hg2).trans c0, (B4.cell hg2).trans c1⟩))
              (first | (go_at_call 59; ((with_reducible refine cC.mono ?_); rintro e w4 ⟨rfl, hb4⟩; have B4 := bel_trans hB2d hb4; have H4 := Lib.hid (Blk.below Hrow.out B4); have z0 := (B4.cell (p := ⟨g, k, none⟩) hg2).trans c0; have z1 := (B4.cell (p := ⟨g, k + 1, none⟩) hg2).trans c1; have p0 := (B4.frozen (p := ⟨g, k, none⟩) hg2).trans q0; have p1 := (B4.frozen (p := ⟨g, k + 1, none⟩) hg2).trans q1)))
            have hg4 : w2.grownBy w4 (some g) := gr_of_below B4 B4.tape
            go_wp2
            go_region
            go_wp2
            exact ⟨⟨_, P, y :: Q, rfl, by congr 1; have := hkk.out; omega, gr_drew (gr_set (gr_set (hG2.trans hg4) _ _) _ _), Lib.hid ⟨hi2.out, hsw1.out _ H4.out⟩⟩, by simp [intOf] <;> omega⟩
          · have Hn := Lib.hid (Hfin.out (y :: P) Q · HR2.out (by rw [insRev, if_neg hneg]; simp))
            generalize cf x y = R at *
            go_wp2_with fail
            go_region_held3 (fun w' => w'.cell? ⟨g, k, none⟩ = some (.int .i64 y) ∧ w'.cell? ⟨g, k + 1, none⟩ = some (.int .i64 x))
              (first | go_keep | (exact ⟨(B4.cell hg2).trans c0, (B4.cell hg2).trans c1⟩))
              (first | (go_at_call 59; ((with_reducible refine cC.mono ?_); rintro e w4 ⟨rfl, hb4⟩; have B4 := bel_trans hB2d hb4; have H4 := Lib.hid (Blk.below Hrow.out B4); have z0 := (B4.cell (p := ⟨g, k, none⟩) hg2).trans c0; have z1 := (B4.cell (p := ⟨g, k + 1, none⟩) hg2).trans c1; have p0 := (B4.frozen (p := ⟨g, k, none⟩) hg2).trans q0; have p1 := (B4.frozen (p := ⟨g, k + 1, none⟩) hg2).trans q1)))
            have hg4 : w2.grownBy w4 (some g) := gr_of_below B4 B4.tape
            go_wp2
            go_roundw
            case rel => exact ⟨_, m + 1, rfl, by omega, by omega, by go_num, hG2.trans hg4, Lib.hid (Hn.out _ (by
              have h := H4.out
              rw [show pre ++ (y :: P).reverse ++ x :: (Q ++ rest) = (pre ++ P.reverse) ++ y :: x :: (Q ++ rest) by simp]
              exact h))⟩
            case measure => simp [intOf]; omega
    · have Hn : Hid (RowN wr g (pre ++ (isortR cf [] seg).reverse ++ post)) := by
        have h := hR.out
        rw [List.take_of_length_le (by omega), List.drop_eq_nil_of_le (by omega)] at h
        exact h
      have hpm : ¬ (pre.length : Int) + m < pre.length + seg.length := by omega
      clear hR
      go_wp2
      go_end0
      exact ⟨⟨_, rfl⟩, by (have h := Hn.out; rwa [List.append_assoc] at h), hG⟩

end Go.Proofs.YthchjceibpcgbaaGreatDoor.Fi
