/-
  What is proved: what Pivot returns, the program's and the document's; the document's Right; base.Ints.
  What is proved: what Resolve returns, the program's and the document's.
  What is proved: the arguments of the laws as lists; the chapter's examples hold.
-/
import Derived.Test.YthchjceibpcgbaaGreatDoorZLtI
import Derived.SliceStrings
import Derived.Deep.Slices
import Derived.Deep.Grids
import Derived.ChangeArms
import Derived.ChangeSlices
import Derived.OpenShut
namespace Go.Proofs.YthchjceibpcgbaaGreatDoor.Lt
open Go.RowKit Go.Shelf Go.Maps Go.WideMaps L
set_option linter.unusedVariables false
set_option linter.unusedSimpArgs false

theorem ng64 (x : Int) : ng x = wrap64 (-x) := by rw [w64]; rfl
set_option maxRecDepth 100000 in
theorem RRight_any (A : Option Addr) (n c : Nat) (X : List Int) (m : Int) (w : World) (h : SlI w A n c X) (hr : R64s X) (hn : n ≤ 9223372036854775807) :
    Calls Tryz.prog 38 #[.slice A n c, .int .i64 m] w fun e w' => e = .returned (.int .i64 (rgL X m)) ∧ w = w' := by
  have H := Lib.hid h
  have HX := Lib.hid h.1
  have HR := Lib.hid hr
  have CI := Lib.hid (fun x => is_any x w)
  have CO := Lib.hid (fun x (hx : R64 x) => Of_any x w hx)
  have hHr : Hid (rgL X m = if n > 64 then 2 else if X.any (fun x => !isL x || decide (m < vr x)) then 1 else 0) := by show _ = _; unfold rgL; rw [← h.1]
  generalize rgL X m = R at *
  clear h hr
  by_cases h1 : n > 64
  · have hR : Hid ((2 : Int) = R) := by show _ = _; rw [hHr.out, if_pos h1]
    have q1 : decide ((n : Int) > 64) = true := decide_eq_true (by omega)
    clear hHr
    go_enter Tryz.func38, Tryz.ntmps38
    go_wp2
    go_ret
    exact ⟨L.one hR.out, rfl⟩
  · have q1 : decide ((n : Int) > 64) = false := decide_eq_false (by omega)
    have hR : Hid (R = if X.any (fun x => !isL x || decide (m < vr x)) then 1 else 0) := Lib.hid (by rw [hHr.out, if_neg h1])
    have HE : Hid ((X.take 0).any (fun x => !isL x || decide (m < vr x)) = false) := by show _ = _; simp
    clear hHr
    go_enter Tryz.func38, Tryz.ntmps38
    go_wp2
    go_loopw [5] (fun i wr0 => ∃ (wr : World) (k : Nat), wr = wr0 ∧ k ≤ n ∧ i = .int .i64 k ∧ Hid ((X.take k).any (fun x => !isL x || decide (m < vr x)) = false) ∧ Hid (w = wr)) (fun i _ => n - (intOf i).toNat)
    case atStart => exact ⟨_, 0, rfl, by omega, rfl, HE, Lib.hid rfl⟩
    case round =>
      obtain ⟨wr, k, rfl, hk, rfl, hE, hW⟩ := hrel
      by_cases hlt : k < n
      · obtain ⟨g, o, x, rfl, hg, z0, hx⟩ := SlI.at H.out hlt
        have y0 : wr.cell? ⟨g, o + k, none⟩ = some (.int .i64 x) := by rw [← hW.out]; exact z0
        have hxR := HR.out x (List.mem_of_getElem? hx)
        have HE1 : Hid ((X.take (k + 1)).any (fun x => !isL x || decide (m < vr x)) = (!isL x || decide (m < vr x))) := Lib.hid (by rw [List.take_add_one, hx, List.any_append, hE.out]; simp)
        have HM : Hid ((!isL x || decide (m < vr x)) = true → R = 1) := Lib.hid (fun h => by rw [hR.out, if_pos (List.any_eq_true.2 ⟨x, List.mem_of_getElem? hx, h⟩)])
        have ci := CI.out x
        have co := CO.out x hxR
        rw [hW.out] at ci co
        have hk0 : 0 ≤ (k : Int) := by omega
        have hk1 : (k : Int) < (n : Int) := by omega
        clear z0 hx hxR hE
        generalize isL x = b at *
        generalize vr x = v at *
        cases b
        · have q2 : Hid ((1 : Int) = R) := (HM.out rfl).symm
          clear HM HE1
          go_wp2_with (go_at_call 65; ((with_reducible refine ci.mono ?_); rintro e w2 ⟨rfl, rfl⟩))
          go_ret
          exact ⟨L.one q2.out, hW.out⟩
        · cases hd : decide (m < v)
          · have hd' : decide (v > m) = false := hd
            have HE2 := Lib.hid (HE1.out.trans (by rw [hd]; rfl : (!true || decide (m < v)) = false))
            clear HM HE1
            go_wp2_with (first
              | (go_at_call 65; ((with_reducible refine ci.mono ?_); rintro e w2 ⟨rfl, rfl⟩))
              | (go_at_call 35; ((with_reducible refine co.mono ?_); rintro e w2 ⟨rfl, rfl⟩)))
            go_roundw
            case rel => exact ⟨_, k + 1, rfl, by omega, by go_num, HE2, hW⟩
            case measure => simp [intOf]; omega
          · have hd' : decide (v > m) = true := hd
            have q2 : Hid ((1 : Int) = R) := (HM.out (by rw [hd]; rfl)).symm
            clear HM HE1
            go_wp2_with (first
              | (go_at_call 65; ((with_reducible refine ci.mono ?_); rintro e w2 ⟨rfl, rfl⟩))
              | (go_at_call 35; ((with_reducible refine co.mono ?_); rintro e w2 ⟨rfl, rfl⟩)))
            go_ret
            exact ⟨L.one q2.out, hW.out⟩
      · obtain rfl : k = n := by omega
        have q2 : Hid ((0 : Int) = R) := Lib.hid (by rw [hR.out]; have := hE.out; rw [List.take_of_length_le (by have := HX.out; omega)] at this; rw [this]; rfl)
        clear hE
        go_wp2
        go_ret
        exact ⟨L.one q2.out, hW.out⟩
set_option maxRecDepth 100000 in
set_option maxHeartbeats 4000000 in
theorem Ints_any (A : Option Addr) (n c : Nat) (X : List Int) (A' : Option Addr) (n' c' : Nat) (Y : List Int) (w : World) (h1 : SlI w A n c X) (h2 : SlI w A' n' c' Y) (hnm : n ≤ 9223372036854775807) :
    Calls Tryz.prog 13 #[.slice A n c, .slice A' n' c'] w fun e w' => e = .returned (.bool (decide (X = Y))) ∧ Below w.heap.size w w' := by
  have hn1 := h1.1
  have hn2 := h2.1
  obtain ⟨r, hr⟩ : ∃ r, decide (X = Y) = r := ⟨_, rfl⟩
  rw [hr]
  have Hr := Lib.hid hr
  clear hr
  by_cases hl : n = n'
  · subst hl
    have H1 := Lib.hid h1
    have H2 := Lib.hid h2
    have Hn1 := Lib.hid hn1
    have Hn2 := Lib.hid hn2
    have q0 : ((n : Int) != (n : Int)) = false := by simp
    have HE : Hid (X.take 0 = Y.take 0) := Lib.hid rfl
    have HB0 : Hid (Below w.heap.size w w) := Lib.hid (Below.refl _ _)
    clear h1 h2 hn1 hn2
    go_enter Tryz.func13, Tryz.ntmps13
    go_wp2
    go_loopw [5] (fun i wr0 => ∃ (wr : World) (k : Nat), wr = wr0 ∧ k ≤ n ∧ i = .int .i64 k ∧ Hid (X.take k = Y.take k) ∧ Hid (Below w.heap.size w wr)) (fun i _ => n - (intOf i).toNat)
    case atStart => exact ⟨_, 0, rfl, by omega, rfl, HE, HB0⟩
    case round =>
      obtain ⟨wr, k, rfl, hk, rfl, hE, hBr⟩ := hrel
      by_cases hlt : k < n
      · obtain ⟨g, o, x, rfl, hg, z0, hx⟩ := SlI.at H1.out hlt
        obtain ⟨g', o', y, rfl, hg', z0', hy⟩ := SlI.at H2.out hlt
        have y0 := (hBr.out.cell (p := ⟨g, _, none⟩) hg).trans z0
        have y0' := (hBr.out.cell (p := ⟨g', _, none⟩) hg').trans z0'
        have Hx := Lib.hid hx
        have Hy := Lib.hid hy
        clear z0 z0' hx hy
        have hk0 : 0 ≤ (k : Int) := by omega
        have hk1 : (k : Int) < (n : Int) := by omega
        by_cases hxy : x = y
        · subst hxy
          have q1 : (x != x) = false := by simp
          have HE1 : Hid (X.take (k + 1) = Y.take (k + 1)) := Lib.hid (by rw [List.take_add_one, List.take_add_one, hE.out, Hx.out, Hy.out])
          clear hE Hx Hy H1 H2
          go_wp2
          go_quiet (fail)
          go_wp2
          go_roundw
          case rel => exact ⟨_, k + 1, rfl, by omega, by go_num, HE1, Lib.hid (below_drewN hBr.out _)⟩
          case measure => simp [intOf]; omega
        · have q1 : (x != y) = true := by simp [hxy]
          have q2 := Lib.hid (Hr.out.symm.trans (decide_eq_false (p := X = Y) (fun e => by
            have h1 := Hx.out
            have h2 := Hy.out
            rw [e, h2] at h1
            injection h1 with h1
            exact hxy h1.symm)))
          clear hE Hx Hy H1 H2 hxy
          go_wp2
          go_quiet (fail)
          go_wp2
          go_ret
          exact ⟨by rw [q2.out] <;> rfl, below_drewN hBr.out _⟩
      · obtain rfl : k = n := by omega
        have q2 := Lib.hid (Hr.out.symm.trans (decide_eq_true (p := X = Y) (by have := hE.out; rwa [List.take_of_length_le (by have := Hn1.out; omega), List.take_of_length_le (by have := Hn2.out; omega)] at this)))
        clear hE
        go_wp2
        go_ret
        exact ⟨by rw [q2.out] <;> rfl, hBr.out⟩
  · have q0 : ((n : Int) != (n' : Int)) = true := by simp; omega
    have q2 := Lib.hid (Hr.out.symm.trans (decide_eq_false (p := X = Y) (fun e => hl (by rw [hn1, hn2, e]))))
    clear h1 h2 hn1 hn2 hl
    go_enter Tryz.func13, Tryz.ntmps13
    go_wp2
    go_ret
    exact ⟨by rw [q2.out] <;> rfl, Below.refl _ _⟩
end Go.Proofs.YthchjceibpcgbaaGreatDoor.Lt
namespace Go.Proofs.YthchjceibpcgbaaGreatDoor.Lt
open Go.RowKit Go.Shelf Go.Maps Go.WideMaps L
set_option linter.unusedVariables false
set_option linter.unusedSimpArgs false

def erL (X Y : List Int) (v : Int) : Int := if can X Y v then (if opp (cl (res X Y v)) then 4 else 0) else 1
/-- what Resolve hands back -/
def RtR (w : World) (b : Nat) (L : List Int) (e0 : Int) (e : Ending) (w' : World) : Prop := ∃ A q c, e = .returned (.tuple #[.slice A q c, .int .i64 e0]) ∧ SlI w' A q c L ∧ q ≤ b ∧ Below w.heap.size w w'
theorem RtR.no {w w' : World} (b : Nat) {e0 : Int} (hb : Below w.heap.size w w') : RtR w b [] e0 (.returned (.tuple #[.slice none 0 0, .int .i64 e0])) w' := ⟨none, 0, 0, rfl, SlI.nil _, Nat.zero_le _, hb⟩
theorem rs_no {X Y : List Int} {v : Int} (h : can X Y v = false) : rsL X Y v = [] ∧ erL X Y v = 1 := by unfold rsL erL; rw [h]; exact ⟨rfl, rfl⟩
theorem rs_same {X Y : List Int} {v : Int} (h : can X Y v = true) (ho : opp (cl (res X Y v)) = true) : rsL X Y v = [] ∧ erL X Y v = 4 := by unfold rsL erL; rw [h, ho]; exact ⟨rfl, rfl⟩
theorem rs_yes {X Y : List Int} {v : Int} (h : can X Y v = true) (ho : opp (cl (res X Y v)) = false) : rsL X Y v = cl (res X Y v) ∧ erL X Y v = 0 := by unfold rsL erL; rw [h, ho]; exact ⟨rfl, rfl⟩

theorem filt_take (X : List Int) (k : Nat) (x : Int) (p : Int → Bool) (hx : X[k]? = some x) : (X.take (k + 1)).filter p = (X.take k).filter p ++ (if p x then [x] else []) := by
  rw [List.take_add_one, hx, List.filter_append]
  simp only [Option.toList_some, List.filter_cons, List.filter_nil]
end Go.Proofs.YthchjceibpcgbaaGreatDoor.Lt
namespace Go.Proofs.YthchjceibpcgbaaGreatDoor.Lt
open Go.RowKit Go.Deep Go.ChangeShapes Go.WideShapes L
set_option linter.unusedVariables false
set_option linter.unusedSimpArgs false

theorem ints_open_all {H : Type} {enc : TypeId × Value → H} {W : World} {a : Option Addr} {n c : Nat} {d : DataW H} {p : List MemPlace}
    (h : DataW.Trod enc Tryz.prog W 0 (fun _ => true) true 34 (.slice a n c) d p) : ∃ X, n ≤ 9223372036854775807 ∧ (SlI W a n c X ∧ R64s X) := by
  obtain ⟨fuel, hf⟩ := h
  rcases open_ints Tryz.underlying34 Tryz.underlying3 (by kernel_rfl) hf with ⟨hcs, _⟩ | ⟨ad, len, cap, zs, hcs, _, hl, hm, hz, _, hcell, hwz⟩
  · simp [Value.cells] at hcs
    obtain ⟨rfl, rfl, rfl⟩ := hcs
    exact ⟨[], by omega, SlI.nil _, fun x hx => absurd hx (by simp)⟩
  · simp [Value.cells] at hcs
    obtain ⟨rfl, rfl, rfl⟩ := hcs
    have hle : n ≤ zs.length := by rw [hz]; split <;> omega
    have hlen : (zs.take n).length = n := by rw [List.length_take]; omega
    refine ⟨zs.take n, by unfold maxLen at hm; omega, ⟨hlen.symm, hl, (fun h => by cases h), fun hn => ?_⟩, fun x hx => ?_⟩
    · obtain ⟨b, off, spot⟩ := ad
      have h0 := hcell 0 (by omega)
      have hspot : spot = none := by simpa [Addr.add] using World.cell?_spot h0
      subst hspot
      refine ⟨b, off, rfl, ?_, fun i hi => ?_⟩
      · rw [Go.WideShapes.add_plain] at h0
        exact World.block_lt_of_cell? _ _ h0
      · have hi2 : i < zs.length := by omega
        have := hcell i hi2
        rw [Go.WideShapes.add_plain] at this
        rw [this, List.getElem_take, List.getD_eq_getElem?_getD, List.getElem?_eq_getElem hi2]; rfl
    · have := hwz x (List.mem_of_mem_take hx)
      have := Go.bounds_i64 this
      exact ⟨this.1, by have := this.2; omega⟩
theorem bools_open_all {H : Type} {enc : TypeId × Value → H} {W : World} {a : Option Addr} {n c : Nat} {d : DataW H} {p : List MemPlace}
    (h : DataW.Trod enc Tryz.prog W 0 (fun _ => true) true 25 (.slice a n c) d p) : ∃ V, n ≤ 9223372036854775807 ∧ SlB W a n c V := by
  obtain ⟨fuel, hf⟩ := h
  rcases open_bools Tryz.underlying25 Tryz.underlying4 (by kernel_rfl) hf with ⟨hcs, _⟩ | ⟨ad, len, cap, B, hcs, _, hl, hm, _, hcell⟩
  · simp [Value.cells] at hcs
    obtain ⟨rfl, rfl, rfl⟩ := hcs
    exact ⟨[], by omega, rfl, Nat.le_refl _, fun h => absurd h (by omega)⟩
  · simp [Value.cells] at hcs
    obtain ⟨rfl, rfl, rfl⟩ := hcs
    refine ⟨(List.range n).map B, by unfold maxLen at hm; omega, by simp, hl, fun hn => ?_⟩
    obtain ⟨b, off, spot⟩ := ad
    have h0 := hcell 0 (by omega)
    have hspot : spot = none := by simpa [Addr.add] using World.cell?_spot h0
    subst hspot
    refine ⟨b, off, rfl, ?_, fun i hi => ?_⟩
    · rw [Go.WideShapes.add_plain] at h0
      exact World.block_lt_of_cell? _ _ h0
    · have hi2 : i < n := by simpa using hi
      have := hcell i (by omega)
      rw [Go.WideShapes.add_plain] at this
      rw [this]; simp
theorem lits_sl (w : World) (X : List Int) : SlI (w.alloc (.cells (vsI X).toArray 3)) (some ⟨w.heap.size, 0, none⟩) X.length X.length X :=
  ⟨rfl, Nat.le_refl _, (fun e => by cases e), fun _ => ⟨_, _, rfl, by simp, fun i hi => by
    rw [World.cell?_alloc_at _ _ _ _ rfl]
    simp [vsI, hi]⟩⟩
theorem ex1 : cl [3, -1, 3] = [-1, 3] ∧ opp (cl [3, -1, 3]) = false := by decide +kernel
theorem ex2 : rsL [1, 2] [-1, 3] 1 = [2, 3] ∧ erL [1, 2] [-1, 3] 1 = 0 := by decide +kernel
theorem r64_of {X : List Int} (h : (X.all fun x => decide (-9223372036854775808 ≤ x) && decide (x < 9223372036854775808)) = true) : R64s X := fun x hx => by
  have := List.all_eq_true.1 h x hx
  simpa [R64] using this
end Go.Proofs.YthchjceibpcgbaaGreatDoor.Lt
