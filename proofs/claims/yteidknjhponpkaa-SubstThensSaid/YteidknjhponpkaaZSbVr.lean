/-
  What is proved: the document's Then of two lists of pairs: all put in one by one.
-/
import Derived.Test.YteidknjhponpkaaM1
import Derived.Test.YteidknjhponpkaaAP
import Derived.Deep.RegionHeld3
namespace Go.Proofs.Yteidknjhponpkaa.U
open Go.RowKit L T C B
set_option linter.unusedVariables false
set_option linter.unusedSimpArgs false

def thenL (b : List Pr) (p : Pr) : Pr := ⟨p.nm, sbT (getL b 0) p.t⟩
set_option maxRecDepth 100000 in
set_option maxHeartbeats 8000000 in
theorem refThen_any (a b : List Pr) (hza : ∀ p ∈ a, size p.t ≤ 1000000) (hzb : ∀ p ∈ b, size p.t ≤ 1000000) (A : Option Addr) (n c : Nat) (A' : Option Addr) (n' c' : Nat) (w : World) (hl : a.length + b.length ≤ 1000000) (hG : UsW w A n c a) (hG' : UsW w A' n' c' b) :
    Calls Try.prog 17 #[.slice A n c, .slice A' n' c'] w fun e w' => ∃ A2 N2 C2, e = .returned (.slice A2 N2 C2) ∧ UsW w' A2 N2 C2 (putsR (a.map (thenL b) ++ b)) ∧ Below w.heap.size w w' := by
  have hn : n ≤ 9223372036854775807 := by have := hG.1; omega
  have hn' : n' ≤ 9223372036854775807 := by have := hG'.1; omega
  have HA := Lib.hid hG
  have HB := Lib.hid hG'
  have HP := Lib.hid (show ∀ (k : Nat) (p : Pr), b[k]? = some p → putsR (b.drop k) = putR p false (putsR (b.drop (k + 1))) ∧ (putsR (b.drop (k + 1))).length ≤ 1000000 from fun k p h => ⟨by rw [drop_u h, putsR_cons], by
    have h1 := putsR_len (b.drop (k + 1))
    rw [List.length_drop] at h1
    omega⟩)
  have HQ := Lib.hid (show ∀ (k : Nat) (p : Pr), a[k]? = some p → putsR ((a.drop k).map (thenL b) ++ b) = putR (thenL b p) false (putsR ((a.drop (k + 1)).map (thenL b) ++ b)) ∧ (putsR ((a.drop (k + 1)).map (thenL b) ++ b)).length ≤ 1000000 ∧ size p.t ≤ 1000000 from fun k p h => ⟨by rw [drop_u h, List.map_cons, List.cons_append, putsR_cons], by
    have h1 := putsR_len ((a.drop (k + 1)).map (thenL b) ++ b)
    rw [List.length_append, List.length_map, List.length_drop] at h1
    omega, hza p (List.mem_of_getElem? h)⟩)
  have HZ := Lib.hid hzb
  have H0 : Hid (UsW w none 0 0 (putsR (b.drop n')) ∧ Below w.heap.size w w) := Lib.hid ⟨by rw [List.drop_eq_nil_of_le (by have := hG'.1; omega)]; exact ⟨rfl, Nat.le_refl _, Nat.zero_le _, fun _ => rfl, fun h => absurd h (by omega)⟩, Below.refl _ _⟩
  have HE := Lib.hid (show (a.drop n).map (thenL b) ++ b = b from by rw [List.drop_eq_nil_of_le (by have := hG.1; omega)]; rfl)
  have hw1 : IntKind.i64.wrap ((n' : Int) - 1) = (n' : Int) - 1 := by rw [IntKind.wrap_i64]; omega
  have hw2 : IntKind.i64.wrap ((n : Int) - 1) = (n : Int) - 1 := by rw [IntKind.wrap_i64]; omega
  clear hG hG' hza hzb hl
  go_enter Try.func17, Try.ntmps17
  go_wp2
  go_loopw [5, 6] (fun v i wr0 => ∃ (wr : World) (k : Nat) (A1 : Option Addr) (N1 C1 : Nat), wr = wr0 ∧ k ≤ n' ∧ .slice A1 N1 C1 = v ∧ i = .int .i64 ((k : Int) - 1) ∧ Hid (UsW wr A1 N1 C1 (putsR (b.drop k)) ∧ Below w.heap.size w wr)) (fun _ i _ => (intOf i + 1).toNat)
  case atStart => exact ⟨_, n', _, _, _, rfl, by omega, rfl, by go_num, H0⟩
  case round =>
    clear H0
    obtain ⟨wr, k, A1, N1, C1, rfl, hk, rfl, rfl, hR⟩ := hrel
    cases k with
    | succ j =>
      have hj : j < n' := by omega
      obtain ⟨bb, o, p, pa, pn, pc, rfl, hb, y0, y1, y2, y3, y4, hx, hok⟩ := HB.out.at hj
      have hB := hR.out.2
      have z0 := (hB.cell (p := ⟨bb, _, none⟩) hb).trans y0
      have z1 := (hB.cell (p := ⟨bb, _, none⟩) hb).trans y1
      have z2 := (hB.cell (p := ⟨bb, _, none⟩) hb).trans y2
      have z3 := (hB.cell (p := ⟨bb, _, none⟩) hb).trans y3
      have z4 := (hB.cell (p := ⟨bb, _, none⟩) hb).trans y4
      have hbl : bb < wr.heap.size := Nat.lt_of_lt_of_le hb hB.size
      obtain ⟨hp1, hp2⟩ := HP.out j p hx
      have hBd : Below wr.heap.size wr wr.drew := (Below.refl _ _).drew
      have hBw : Below w.heap.size w wr.drew := hB.drew
      have cP := Put10_any (putsR (b.drop (j + 1))) p A1 N1 C1 pa pn pc wr.drew hp2 (hR.out.1.b hBd) (ArW.b hok hBw)
      rw [← hp1] at cP
      rw [show (((j + 1 : Nat) : Int) - 1) = (j : Int) by omega]
      have hj0 : 0 ≤ (j : Int) := by omega
      have hj1 : (j : Int) < (n' : Int) := by omega
      have hwj : IntKind.i64.wrap ((j : Int) - 1) = (j : Int) - 1 := by rw [IntKind.wrap_i64]; omega
      clear hx hok y0 y1 y2 y3 y4 hR hp1 hp2 HP
      generalize opT p.t = op at *
      generalize nameT p.t = nm at *
      generalize numT p.t = nu at *
      generalize p.nm = x at *
      go_wp2_with fail
      go_region_held3 (fun w' => w'.cell? ⟨bb, o + j * 5, none⟩ = some (.string x) ∧ w'.cell? ⟨bb, o + j * 5 + 1, none⟩ = some (.int .i64 op) ∧ w'.cell? ⟨bb, o + j * 5 + 1 + 1, none⟩ = some (.string nm) ∧ w'.cell? ⟨bb, o + j * 5 + 1 + 1 + 1, none⟩ = some (.int .i64 nu) ∧ w'.cell? ⟨bb, o + j * 5 + 1 + 1 + 1 + 1, none⟩ = some (.slice pa pn pc))
        (first | go_keep | (exact ⟨(B4.cell hbl).trans z0, (B4.cell hbl).trans z1, (B4.cell hbl).trans z2, (B4.cell hbl).trans z3, (B4.cell hbl).trans z4⟩))
        (first | (go_at_call 35; ((with_reducible refine cP.mono ?_); rintro e w4 ⟨A4, N4, C4, rfl, hU4, hb4⟩; have B4 := bel_trans hBd hb4; have HU4 := Lib.hid hU4; clear hU4)))
      all_goals go_wp2
      all_goals go_roundw
      case rel => exact ⟨_, j, _, _, _, rfl, by omega, rfl, by go_num, Lib.hid ⟨HU4.out, bel_trans hB B4⟩⟩
      case measure => (simp [intOf, hwj] <;> omega)
    | zero =>
      rw [show (((0 : Nat) : Int) - 1) = -1 from rfl]
      have H1 : Hid (UsW wr A1 N1 C1 (putsR ((a.drop n).map (thenL b) ++ b)) ∧ Below w.heap.size w wr) := Lib.hid ⟨by rw [HE.out]; exact hR.out.1, hR.out.2⟩
      clear hR HP hw1
      go_wp2
      go_loopw [5, 7] (fun v i wr0 => ∃ (wr : World) (k : Nat) (A1 : Option Addr) (N1 C1 : Nat), wr = wr0 ∧ k ≤ n ∧ .slice A1 N1 C1 = v ∧ i = .int .i64 ((k : Int) - 1) ∧ Hid (UsW wr A1 N1 C1 (putsR ((a.drop k).map (thenL b) ++ b)) ∧ Below w.heap.size w wr)) (fun _ i _ => (intOf i + 1).toNat)
      case atStart => exact ⟨_, n, _, _, _, rfl, by omega, rfl, by go_num, H1⟩
      case round =>
        clear H1
        obtain ⟨wr, k, A1, N1, C1, rfl, hk2, rfl, rfl, hR⟩ := hrel
        cases k with
        | succ j =>
          have hj : j < n := by omega
          obtain ⟨bb, o, p, pa, pn, pc, rfl, hb, y0, y1, y2, y3, y4, hx, hok⟩ := HA.out.at hj
          have hB := hR.out.2
          have z0 := (hB.cell (p := ⟨bb, _, none⟩) hb).trans y0
          have z1 := (hB.cell (p := ⟨bb, _, none⟩) hb).trans y1
          have z2 := (hB.cell (p := ⟨bb, _, none⟩) hb).trans y2
          have z3 := (hB.cell (p := ⟨bb, _, none⟩) hb).trans y3
          have z4 := (hB.cell (p := ⟨bb, _, none⟩) hb).trans y4
          have hbl : bb < wr.heap.size := Nat.lt_of_lt_of_le hb hB.size
          obtain ⟨hp1, hp2, hp3⟩ := HQ.out j p hx
          have hBd : Below wr.heap.size wr wr.drew := (Below.refl _ _).drew
          have hBw : Below w.heap.size w wr.drew := hB.drew
          have cA := Apply10_any b HZ.out p.t hp3 A' n' c' pa pn pc wr.drew (HB.out.b hBw) (ArW.b hok hBw)
          have hU := hR.out.1.b hBd
          have cP := fun (w4 : World) (q5 : Option Addr) (m5 d5 : Nat) (h4 : Below wr.drew.heap.size wr.drew w4) (ha : ArW w4 (sbT (getL b 0) p.t) q5 m5 d5) => Put10_any (putsR ((a.drop (j + 1)).map (thenL b) ++ b)) (thenL b p) A1 N1 C1 q5 m5 d5 w4 hp2 (hU.b h4) ha
          rw [← hp1] at cP
          unfold thenL at cP
          dsimp only at cP
          unfold AnyT at cA
          rw [show (((j + 1 : Nat) : Int) - 1) = (j : Int) by omega]
          have hj0 : 0 ≤ (j : Int) := by omega
          have hj1 : (j : Int) < (n : Int) := by omega
          have hwj : IntKind.i64.wrap ((j : Int) - 1) = (j : Int) - 1 := by rw [IntKind.wrap_i64]; omega
          have HG2 := Lib.hid (show putsR ((a.drop j).map (thenL b) ++ b) = putsR ((a.drop j).map (fun p => (⟨p.nm, sbT (getL b 0) p.t⟩ : Pr)) ++ b) from rfl)
          clear hx hok y0 y1 y2 y3 y4 hR hp1 hp2 hp3 HQ hU
          generalize sbT (getL b 0) p.t = r at *
          generalize opT p.t = op at *
          generalize nameT p.t = nm at *
          generalize numT p.t = nu at *
          generalize p.nm = x at *
          go_wp2_with fail
          go_region_held3 (fun w' => w'.cell? ⟨bb, o + j * 5, none⟩ = some (.string x) ∧ w'.cell? ⟨bb, o + j * 5 + 1, none⟩ = some (.int .i64 op) ∧ w'.cell? ⟨bb, o + j * 5 + 1 + 1, none⟩ = some (.string nm) ∧ w'.cell? ⟨bb, o + j * 5 + 1 + 1 + 1, none⟩ = some (.int .i64 nu) ∧ w'.cell? ⟨bb, o + j * 5 + 1 + 1 + 1 + 1, none⟩ = some (.slice pa pn pc))
            (first | go_keep | (exact ⟨(B4.cell hbl).trans z0, (B4.cell hbl).trans z1, (B4.cell hbl).trans z2, (B4.cell hbl).trans z3, (B4.cell hbl).trans z4⟩))
            (first
              | (go_at_call 36; ((with_reducible refine cA.mono ?_); rintro e w3 ⟨A3, N3, C3, rfl, hA3, hb3⟩; have B4 := bel_trans hBd hb3; have B3 := hb3; have HA3 := Lib.hid hA3; clear hA3))
              | (go_at_call 35; ((with_reducible refine (cP _ _ _ _ (by first | exact B3 | exact B3.drew) (by first | exact HA3.out | exact ArW.b HA3.out (Below.refl _ _).drew)).mono ?_); rintro e w4 ⟨A4, N4, C4, rfl, hU4, hb4⟩; have B4 := bel_trans (a := wr) (by first | exact B4 | exact B4.drew) hb4; have HU4 := Lib.hid hU4; clear hU4)))
          all_goals go_wp2
          all_goals go_roundw
          all_goals first | exact ⟨_, j, _, _, _, rfl, by omega, rfl, by go_num, Lib.hid ⟨by first | exact HU4.out | (rw [HG2.out]; exact HU4.out), bel_trans hB B4⟩⟩ | (simp [intOf, hwj] <;> omega) | (simp [intOf] <;> omega)
        | zero =>
          rw [show (((0 : Nat) : Int) - 1) = -1 from rfl]
          have HR := Lib.hid (show UsW wr A1 N1 C1 (putsR (a.map (thenL b) ++ b)) ∧ Below w.heap.size w wr from hR.out)
          clear hR HQ
          go_wp2
          go_ret
          exact ⟨_, _, _, rfl, HR.out.1, HR.out.2⟩
end Go.Proofs.Yteidknjhponpkaa.U
