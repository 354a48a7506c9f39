/-
  What is proved: the law LitClean.
-/
import Derived.Test.YtmamecchphockaaLtL
namespace Go.Proofs.Ytmamecchphockaa.Lt
open Go.RowKit L
set_option linter.unusedVariables false
set_option linter.unusedSimpArgs false

set_option maxRecDepth 100000 in
set_option maxHeartbeats 16000000 in
theorem litClean (A : Option Addr) (n c : Nat) (X : List Int) (a : Option Addr) (m d : Nat) (V : List Bool) (w : World) (hn : n ≤ 9223372036854775807) (h : SlI w A n c X ∧ R64s X) (hm : m ≤ 9223372036854775807) (hV : SlB w a m d V) :
    Calls Try.prog 7 #[.slice A n c, .slice a m d] w fun e w' => e = .returned (.bool true) ∧ Below w.heap.size w w' := by
  have B0 : Below w.heap.size w w := Below.refl _ _
  by_cases g0 : n > 200
  · have q0 : decide ((n : Int) > 200) = true := decide_eq_true (by omega)
    clear h hV
    go_enter Try.func7, Try.ntmps7
    go_wp2_with (go_at_call 9; ((with_reducible refine (alive_any _).mono ?_); rintro e wz ⟨rfl, hbz⟩; have BZ := bel_trans (a := w) (by assumption) hbz))
    go_ret
    exact ⟨rfl, BZ⟩
  have q0 : decide ((n : Int) > 200) = false := decide_eq_false (by omega)
  by_cases g1 : m > 300
  · have q1 : decide ((m : Int) > 300) = true := decide_eq_true (by omega)
    clear h hV
    go_enter Try.func7, Try.ntmps7
    go_wp2_with (go_at_call 9; ((with_reducible refine (alive_any _).mono ?_); rintro e wz ⟨rfl, hbz⟩; have BZ := bel_trans (a := w) (by assumption) hbz))
    go_ret
    exact ⟨rfl, BZ⟩
  have q1 : decide ((m : Int) > 300) = false := decide_eq_false (by omega)
  have c1 := Clean_any A n c X w h.1 h.2 (by omega)
  have C2 := Lib.hid (fun W A1 q1 k1 (s : SlI W A1 q1 k1 (cl X)) (hq : q1 ≤ 200) => by
    have := Clean_any A1 q1 k1 (cl X) W s (cl_r h.2) (by omega)
    rwa [cl_cl] at this)
  have C3 := Lib.hid (fun W A1 q1 k1 A2 q2 k2 (s : SlI W A1 q1 k1 (cl X)) (s2 : SlI W A2 q2 k2 (cl X)) (hq : q1 ≤ 200) => by
    have := Ints_any A1 q1 k1 (cl X) A2 q2 k2 (cl X) W s s2 (by omega)
    rwa [decide_eq_true (rfl : cl X = cl X)] at this)
  have C4 := Lib.hid (fun W A1 q1 k1 (s : SlI W A1 q1 k1 (cl X)) (hq : q1 ≤ 200) (hb : Below w.heap.size w W) => by
    have := Same_any A n c X A1 q1 k1 (cl X) W (h.1.below hb) h.2 (by omega) s (cl_r h.2) (by omega)
    rwa [same_cl] at this)
  have C5 := Lib.hid (fun W (hb : Below w.heap.size w W) => Holds_any A n c X a m d V W (h.1.below hb) h.2 (hV.below hb) hn hm)
  have C6 := Lib.hid (fun W A1 q1 k1 (s : SlI W A1 q1 k1 (cl X)) (hq : q1 ≤ 200) (hb : Below w.heap.size w W) => by
    have := Holds_any A1 q1 k1 (cl X) a m d V W s (cl_r h.2) (hV.below hb) (by omega) hm
    rwa [hld_cl] at this)
  have CO := Lib.hid (fun x (hx : R64 x) W => (Of_any x W hx).mono fun e w' (h : _ ∧ W = w') => (show e = .returned (.int .i64 (vr x)) ∧ w' = W from ⟨h.1, h.2.symm⟩))
  have HR := Lib.hid (cl_r h.2)
  have HN := Lib.hid (cl_next X h.2)
  clear h hV
  generalize hld X V = p at *
  generalize hO : cl X = O at *
  clear hO
  generalize hz : (!opp O) = z at *
  have HZ := Lib.hid hz
  clear hz
  go_enter Try.func7, Try.ntmps7
  go_wp2_with (first
    | (go_at_call 10; ((with_reducible refine c1.mono ?_); rintro e w1 ⟨A1, q1, k1, rfl, hS1, hq1, hb1⟩; have B1 := hb1; have hq : q1 ≤ 200 := (by omega); have Hq1 := Lib.hid hq; have c2 := C2.out w1 A1 q1 k1 hS1 hq; have S1 := Lib.hid hS1; clear hS1 c1 hq1 hq))
    | (go_at_call 10; ((with_reducible refine c2.mono ?_); rintro e w2 ⟨A2, q2, k2, rfl, hS2, hq2, hb2⟩; have B2 := bel_trans B1 hb2; have S2 := Lib.hid (S1.out.below hb2); have c3 := C3.out w2 A1 q1 k1 A2 q2 k2 S2.out hS2 Hq1.out; clear hS2 c2 hq2))
    | (go_at_call 14; ((with_reducible refine c3.mono ?_); rintro e w3 ⟨rfl, hb3⟩; have B3 := bel_trans B2 hb3; have S3 := Lib.hid (S2.out.below hb3); have c4 := C4.out w3 A1 q1 k1 S3.out Hq1.out B3; clear c3))
    | (go_at_call 15; ((with_reducible refine c4.mono ?_); rintro e w4 ⟨rfl, hb4⟩; have B4 := bel_trans B3 hb4; have S4 := Lib.hid (S3.out.below hb4); have c5 := C5.out w4 B4; clear c4))
    | (go_at_call 21; ((with_reducible refine c5.mono ?_); rintro e w5 ⟨rfl, hb5⟩; have B5 := bel_trans B4 hb5; have S5 := Lib.hid (S4.out.below hb5); have c6 := C6.out w5 A1 q1 k1 S5.out Hq1.out B5; clear c5))
    | (go_at_call 21; ((with_reducible refine c6.mono ?_); rintro e w6 ⟨rfl, hb6⟩; have B6 := bel_trans B5 hb6; have S6 := Lib.hid (S5.out.below hb6); clear c6)))
  generalize hws : w6 = wS at *
  go_loopw [9] (fun i wr0 => ∃ (wr : World) (k : Nat), wr = wr0 ∧ (k + 1 ≤ q1 ∨ k = 0) ∧ i = .int .i64 ((k : Int) + 1) ∧ Hid (Below wS.heap.size wS wr)) (fun i _ => q1 - (intOf i).toNat)
  case atStart => exact ⟨_, 0, rfl, .inr rfl, rfl, Lib.hid (Below.refl _ _)⟩
  case round =>
    obtain ⟨wr, k, rfl, hk, rfl, HBr⟩ := hrel
    by_cases hlt : k + 1 < q1
    · obtain ⟨b, o, x, rfl, hb, zx, hx⟩ := SlI.at S6.out (k := k) (by omega)
      obtain ⟨b', o', y, e, -, zy, hy⟩ := SlI.at S6.out (k := k + 1) hlt
      injection e with e
      injection e with e1 e2
      subst e1 e2
      have yx := (HBr.out.cell (p := ⟨b, _, none⟩) hb).trans zx
      have yy := (HBr.out.cell (p := ⟨b, _, none⟩) hb).trans zy
      have cx := CO.out x (HR.out x (List.mem_of_getElem? hx))
      have cy := CO.out y (HR.out y (List.mem_of_getElem? hy))
      have hq1 := Hq1.out
      have q3 : IntKind.i64.wrap ((k : Int) + 1 - 1) = k := (wrap_id (z := (k : Int) + 1 - 1) ⟨by omega, by omega⟩).trans (by omega)
      have q4 : wrap64 ((k : Int) + 1 - 1) = k := by rw [w64]; exact q3
      have q6 : IntKind.i64.wrap (k : Int) = k := wrap_id ⟨by omega, by omega⟩
      have q7 : wrap64 (k : Int) = k := by rw [w64]; exact q6
      have hk0 : 0 ≤ (k : Int) := by omega
      have hk1 : (k : Int) < (q1 : Int) := by omega
      have hk2 : 0 ≤ (k : Int) + 1 := by omega
      have hk3 : (k : Int) + 1 < (q1 : Int) := by omega
      have q5 : ((k : Int) + 1).toNat = k + 1 := by omega
      have hnx := HN.out k x y hx hy
      clear zx zy hx hy
      generalize vr x = u at *
      generalize vr y = t at *
      have r1 : decide (u > t) = false := decide_eq_false (by have := hnx.1; clear hnx; omega)
      have Hnx := Lib.hid hnx
      clear hnx
      by_cases hut : u = t
      · subst hut
        obtain ⟨ho, hxy, hy0⟩ := Hnx.out.2 rfl
        have hzf : z = false := by rw [← HZ.out, ho]; rfl
        subst hzf
        rw [ng64] at hxy
        have r2 : (u == u) = true := by simp
        have r3 : (x != wrap64 (-y)) = false := by simp [hxy]
        have r4 : decide (y < 0) = false := decide_eq_false (by omega)
        clear Hnx ho hxy
        go_wp2
        go_quiet (first
          | (go_at_call 29; exact Calls.quiet_of_same (cx _))
          | (go_at_call 29; exact Calls.quiet_of_same (cy _)))
        go_wp2
        go_quiet (fail)
        go_wp2
        go_roundw
        case rel => exact ⟨_, k + 1, rfl, by omega, by go_num, Lib.hid (below_drewN HBr.out _)⟩
        case measure => simp [intOf]; omega
      · have r2 : (u == t) = false := by simp [hut]
        clear Hnx
        go_wp2
        go_quiet (first
          | (go_at_call 29; exact Calls.quiet_of_same (cx _))
          | (go_at_call 29; exact Calls.quiet_of_same (cy _)))
        go_wp2
        go_quiet (fail)
        go_wp2
        go_roundw
        case rel => exact ⟨_, k + 1, rfl, by omega, by go_num, Lib.hid (below_drewN HBr.out _)⟩
        case measure => simp [intOf]; omega
    · have hgd : decide ((k : Int) + 1 < (q1 : Int)) = false := decide_eq_false (by omega)
      have BB : Below w.heap.size w wr := bel_trans B6 HBr.out
      go_wp2_with (go_at_call 9; ((with_reducible refine (alive_any _).mono ?_); rintro e wz ⟨rfl, hbz⟩; have BZ := bel_trans (a := w) (by assumption) hbz))
      go_ret
      exact ⟨rfl, BZ⟩
end Go.Proofs.Ytmamecchphockaa.Lt
