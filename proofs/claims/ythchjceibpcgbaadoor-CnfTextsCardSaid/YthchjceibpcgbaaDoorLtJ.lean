/-
  What is proved: what Pivot returns, the program's and the document's; the document's Right; base.Ints.
-/
import Derived.Test.YthchjceibpcgbaaDoorLtI
namespace Go.Proofs.YthchjceibpcgbaaDoor.Lt
open Go.RowKit Go.Shelf Go.Maps Go.WideMaps L
set_option linter.unusedVariables false
set_option linter.unusedSimpArgs false

theorem ng64 (x : Int) : ng x = wrap64 (-x) := by rw [w64]; rfl
set_option maxRecDepth 100000 in
theorem RRight_any (A : Option Addr) (n c : Nat) (X : List Int) (m : Int) (w : World) (h : SlI w A n c X) (hr : R64s X) (hn : n ≤ 9223372036854775807) :
    Calls Tryd.prog 16 #[.slice A n c, .int .i64 m] w fun e w' => e = .returned (.int .i64 (rgL X m)) ∧ w = w' := by
  have H := Lib.hid h
  have HX := Lib.hid h.1
  have HR := Lib.hid hr
  have CI := Lib.hid (fun x => is_any x w)
  have CO := Lib.hid (fun x (hx : R64 x) => Of_any x w hx)
  have hHr : Hid (rgL X m = if n > 64 then 2 else if X.any (fun x => !isL x || decide (m < vr x)) then 1 else 0) := by show _ = _; unfold rgL; rw [← h.1]
  generalize rgL X m = R at *
  clear h hr
  by_cases h1 : n > 64
  · have hR : Hid ((2 : Int) = R) := by show _ = _; rw [hHr.out, if_pos h1]
    have q1 : decide ((n : Int) > 64) = true := decide_eq_true (by omega)
    clear hHr
    go_enter Tryd.func16, Tryd.ntmps16
    go_wp2
    go_ret
    exact ⟨L.one hR.out, rfl⟩
  · have q1 : decide ((n : Int) > 64) = false := decide_eq_false (by omega)
    have hR : Hid (R = if X.any (fun x => !isL x || decide (m < vr x)) then 1 else 0) := Lib.hid (by rw [hHr.out, if_neg h1])
    have HE : Hid ((X.take 0).any (fun x => !isL x || decide (m < vr x)) = false) := by show _ = _; simp
    clear hHr
    go_enter Tryd.func16, Tryd.ntmps16
    go_wp2
    go_loopw [5] (fun i wr0 => ∃ (wr : World) (k : Nat), wr = wr0 ∧ k ≤ n ∧ i = .int .i64 k ∧ Hid ((X.take k).any (fun x => !isL x || decide (m < vr x)) = false) ∧ Hid (w = wr)) (fun i _ => n - (intOf i).toNat)
    case atStart => exact ⟨_, 0, rfl, by omega, rfl, HE, Lib.hid rfl⟩
    case round =>
      obtain ⟨wr, k, rfl, hk, rfl, hE, hW⟩ := hrel
      by_cases hlt : k < n
      · obtain ⟨g, o, x, rfl, hg, z0, hx⟩ := SlI.at H.out hlt
        have y0 : wr.cell? ⟨g, o + k, none⟩ = some (.int .i64 x) := by rw [← hW.out]; exact z0
        have hxR := HR.out x (List.mem_of_getElem? hx)
        have HE1 : Hid ((X.take (k + 1)).any (fun x => !isL x || decide (m < vr x)) = (!isL x || decide (m < vr x))) := Lib.hid (by rw [List.take_add_one, hx, List.any_append, hE.out]; simp)
        have HM : Hid ((!isL x || decide (m < vr x)) = true → R = 1) := Lib.hid (fun h => by rw [hR.out, if_pos (List.any_eq_true.2 ⟨x, List.mem_of_getElem? hx, h⟩)])
        have ci := CI.out x
        have co := CO.out x hxR
        rw [hW.out] at ci co
        have hk0 : 0 ≤ (k : Int) := by omega
        have hk1 : (k : Int) < (n : Int) := by omega
        clear z0 hx hxR hE
        generalize isL x = b at *
        generalize vr x = v at *
        cases b
        · have q2 : Hid ((1 : Int) = R) := (HM.out rfl).symm
          clear HM HE1
          go_wp2_with (go_at_call 30; ((with_reducible refine ci.mono ?_); rintro e w2 ⟨rfl, rfl⟩))
          go_ret
          exact ⟨L.one q2.out, hW.out⟩
        · cases hd : decide (m < v)
          · have hd' : decide (v > m) = false := hd
            have HE2 := Lib.hid (HE1.out.trans (by rw [hd]; rfl : (!true || decide (m < v)) = false))
            clear HM HE1
            go_wp2_with (first
              | (go_at_call 30; ((with_reducible refine ci.mono ?_); rintro e w2 ⟨rfl, rfl⟩))
              | (go_at_call 31; ((with_reducible refine co.mono ?_); rintro e w2 ⟨rfl, rfl⟩)))
            go_roundw
            case rel => exact ⟨_, k + 1, rfl, by omega, by go_num, HE2, hW⟩
            case measure => simp [intOf]; omega
          · have hd' : decide (v > m) = true := hd
            have q2 : Hid ((1 : Int) = R) := (HM.out (by rw [hd]; rfl)).symm
            clear HM HE1
            go_wp2_with (first
              | (go_at_call 30; ((with_reducible refine ci.mono ?_); rintro e w2 ⟨rfl, rfl⟩))
              | (go_at_call 31; ((with_reducible refine co.mono ?_); rintro e w2 ⟨rfl, rfl⟩)))
            go_ret
            exact ⟨L.one q2.out, hW.out⟩
      · obtain rfl : k = n := by omega
        have q2 : Hid ((0 : Int) = R) := Lib.hid (by rw [hR.out]; have := hE.out; rw [List.take_of_length_le (by have := HX.out; omega)] at this; rw [this]; rfl)
        clear hE
        go_wp2
        go_ret
        exact ⟨L.one q2.out, hW.out⟩
set_option maxRecDepth 100000 in
set_option maxHeartbeats 4000000 in
theorem Ints_any (A : Option Addr) (n c : Nat) (X : List Int) (A' : Option Addr) (n' c' : Nat) (Y : List Int) (w : World) (h1 : SlI w A n c X) (h2 : SlI w A' n' c' Y) (hnm : n ≤ 9223372036854775807) :
    Calls Tryd.prog 41 #[.slice A n c, .slice A' n' c'] w fun e w' => e = .returned (.bool (decide (X = Y))) ∧ Below w.heap.size w w' := by
  have hn1 := h1.1
  have hn2 := h2.1
  obtain ⟨r, hr⟩ : ∃ r, decide (X = Y) = r := ⟨_, rfl⟩
  rw [hr]
  have Hr := Lib.hid hr
  clear hr
  by_cases hl : n = n'
  · subst hl
    have H1 := Lib.hid h1
    have H2 := Lib.hid h2
    have Hn1 := Lib.hid hn1
    have Hn2 := Lib.hid hn2
    have q0 : ((n : Int) != (n : Int)) = false := by simp
    have HE : Hid (X.take 0 = Y.take 0) := Lib.hid rfl
    have HB0 : Hid (Below w.heap.size w w) := Lib.hid (Below.refl _ _)
    clear h1 h2 hn1 hn2
    go_enter Tryd.func41, Tryd.ntmps41
    go_wp2
    go_loopw [5] (fun i wr0 => ∃ (wr : World) (k : Nat), wr = wr0 ∧ k ≤ n ∧ i = .int .i64 k ∧ Hid (X.take k = Y.take k) ∧ Hid (Below w.heap.size w wr)) (fun i _ => n - (intOf i).toNat)
    case atStart => exact ⟨_, 0, rfl, by omega, rfl, HE, HB0⟩
    case round =>
      obtain ⟨wr, k, rfl, hk, rfl, hE, hBr⟩ := hrel
      by_cases hlt : k < n
      · obtain ⟨g, o, x, rfl, hg, z0, hx⟩ := SlI.at H1.out hlt
        obtain ⟨g', o', y, rfl, hg', z0', hy⟩ := SlI.at H2.out hlt
        have y0 := (hBr.out.cell (p := ⟨g, _, none⟩) hg).trans z0
        have y0' := (hBr.out.cell (p := ⟨g', _, none⟩) hg').trans z0'
        have Hx := Lib.hid hx
        have Hy := Lib.hid hy
        clear z0 z0' hx hy
        have hk0 : 0 ≤ (k : Int) := by omega
        have hk1 : (k : Int) < (n : Int) := by omega
        by_cases hxy : x = y
        · subst hxy
          have q1 : (x != x) = false := by simp
          have HE1 : Hid (X.take (k + 1) = Y.take (k + 1)) := Lib.hid (by rw [List.take_add_one, List.take_add_one, hE.out, Hx.out, Hy.out])
          clear hE Hx Hy H1 H2
          go_wp2
          go_quiet (fail)
          go_wp2
          go_roundw
          case rel => exact ⟨_, k + 1, rfl, by omega, by go_num, HE1, Lib.hid (below_drewN hBr.out _)⟩
          case measure => simp [intOf]; omega
        · have q1 : (x != y) = true := by simp [hxy]
          have q2 := Lib.hid (Hr.out.symm.trans (decide_eq_false (p := X = Y) (fun e => by
            have h1 := Hx.out
            have h2 := Hy.out
            rw [e, h2] at h1
            injection h1 with h1
            exact hxy h1.symm)))
          clear hE Hx Hy H1 H2 hxy
          go_wp2
          go_quiet (fail)
          go_wp2
          go_ret
          exact ⟨by rw [q2.out] <;> rfl, below_drewN hBr.out _⟩
      · obtain rfl : k = n := by omega
        have q2 := Lib.hid (Hr.out.symm.trans (decide_eq_true (p := X = Y) (by have := hE.out; rwa [List.take_of_length_le (by have := Hn1.out; omega), List.take_of_length_le (by have := Hn2.out; omega)] at this)))
        clear hE
        go_wp2
        go_ret
        exact ⟨by rw [q2.out] <;> rfl, hBr.out⟩
  · have q0 : ((n : Int) != (n' : Int)) = true := by simp; omega
    have q2 := Lib.hid (Hr.out.symm.trans (decide_eq_false (p := X = Y) (fun e => hl (by rw [hn1, hn2, e]))))
    clear h1 h2 hn1 hn2 hl
    go_enter Tryd.func41, Tryd.ntmps41
    go_wp2
    go_ret
    exact ⟨by rw [q2.out] <;> rfl, Below.refl _ _⟩
end Go.Proofs.YthchjceibpcgbaaDoor.Lt
