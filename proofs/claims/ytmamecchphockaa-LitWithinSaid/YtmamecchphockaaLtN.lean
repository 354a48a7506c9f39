/-
  What is proved: the laws LitRight, LitHolds, LitResolves, LitWithin.
-/
import Derived.Test.YtmamecchphockaaLtL
namespace Go.Proofs.Ytmamecchphockaa.Lt
open Go.RowKit L
set_option linter.unusedVariables false
set_option linter.unusedSimpArgs false

set_option maxRecDepth 100000 in
set_option maxHeartbeats 8000000 in
theorem litRight (A : Option Addr) (n c : Nat) (X : List Int) (m : Int) (w : World) (hn : n ≤ 9223372036854775807) (h : SlI w A n c X ∧ R64s X) (hm0 : -9223372036854775808 ≤ m) (hm1 : m ≤ 9223372036854775807) :
    Calls Try.prog 3 #[.slice A n c, .int .i64 m] w fun e w' => e = .returned (.bool true) ∧ Below w.heap.size w w' := by
  have B0 : Below w.heap.size w w := Below.refl _ _
  by_cases g0 : n > 300
  · have q0 : decide ((n : Int) > 300) = true := decide_eq_true (by omega)
    clear h
    go_enter Try.func3, Try.ntmps3
    go_wp2_with (go_at_call 9; ((with_reducible refine (alive_any _).mono ?_); rintro e wz ⟨rfl, hbz⟩; have BZ := bel_trans (a := w) (by assumption) hbz))
    go_ret
    exact ⟨rfl, BZ⟩
  have q0 : decide ((n : Int) > 300) = false := decide_eq_false (by omega)
  have c1 := Clean_any A n c X w h.1 h.2 (by omega)
  have C2 := Lib.hid (fun W (hb : Below w.heap.size w W) => RClean_any A n c X W (h.1.below hb) h.2 (by omega))
  have C3 := Lib.hid (fun W (hb : Below w.heap.size w W) => Right_any A n c X m W (h.1.below hb) h.2 hn)
  have C4 := Lib.hid (fun W (hb : Below w.heap.size w W) => RRight_any A n c X m W (h.1.below hb) h.2 hn)
  clear h
  generalize rgL X m = r at *
  generalize cl X = O at *
  generalize (!opp O) = z at *
  go_enter Try.func3, Try.ntmps3
  go_wp2_with (first
    | (go_at_call 10; ((with_reducible refine c1.mono ?_); rintro e w1 ⟨A1, q1, k1, rfl, hS1, hq1, hb1⟩; have B1 := hb1; have S1 := Lib.hid hS1; clear hS1 c1))
    | (go_at_call 11; ((with_reducible refine (C2.out _ B1).mono ?_); rintro e w2 ⟨A2, q2, k2, rfl, hS2, hq2, hb2⟩; have B2 := bel_trans B1 hb2; have T1 := Lib.hid (S1.out.below hb2); have S2 := Lib.hid hS2; clear hS2))
    | (go_at_call 12; ((with_reducible refine (C3.out _ B2).mono ?_); rintro e w3 ⟨rfl, hb3⟩; have B3 := bel_trans B2 hb3; have cI := Ints_any A1 q1 k1 O A2 q2 k2 O w3 (T1.out.below hb3) (S2.out.below hb3) (by omega); rw [decide_eq_true (rfl : O = O)] at cI))
    | (go_at_call 13; ((with_reducible refine (C4.out _ B3).mono ?_); rintro e w4 ⟨rfl, rfl⟩; skip))
    | (go_at_call 14; ((with_reducible refine cI.mono ?_); rintro e w5 ⟨rfl, hb5⟩; have B5 := bel_trans B3 hb5))
    | (go_at_call 9; ((with_reducible refine (alive_any _).mono ?_); rintro e wz ⟨rfl, hbz⟩; have BZ := bel_trans (a := w) (by assumption) hbz)))
  go_ret
  exact ⟨by simp, BZ⟩
set_option maxRecDepth 100000 in
set_option maxHeartbeats 8000000 in
theorem litHolds (A : Option Addr) (n c : Nat) (X : List Int) (A' : Option Addr) (n' c' : Nat) (Y : List Int) (l : Int) (a : Option Addr) (m d : Nat) (V : List Bool) (w : World) (hn : n ≤ 9223372036854775807) (h : SlI w A n c X ∧ R64s X) (hn' : n' ≤ 9223372036854775807) (h' : SlI w A' n' c' Y ∧ R64s Y) (hl0 : -9223372036854775808 ≤ l) (hl1 : l ≤ 9223372036854775807) (hm : m ≤ 9223372036854775807) (hV : SlB w a m d V) :
    Calls Try.prog 4 #[.slice A n c, .slice A' n' c', .int .i64 l, .slice a m d] w fun e w' => e = .returned (.bool true) ∧ Below w.heap.size w w' := by
  have B0 : Below w.heap.size w w := Below.refl _ _
  by_cases g0 : n > 200
  · have q0 : decide ((n : Int) > 200) = true := decide_eq_true (by omega)
    clear h h' hV
    go_enter Try.func4, Try.ntmps4
    go_wp2_with (go_at_call 9; ((with_reducible refine (alive_any _).mono ?_); rintro e wz ⟨rfl, hbz⟩; have BZ := bel_trans (a := w) (by assumption) hbz))
    go_ret
    exact ⟨rfl, BZ⟩
  have q0 : decide ((n : Int) > 200) = false := decide_eq_false (by omega)
  by_cases g1 : n' > 200
  · have q1 : decide ((n' : Int) > 200) = true := decide_eq_true (by omega)
    clear h h' hV
    go_enter Try.func4, Try.ntmps4
    go_wp2_with (go_at_call 9; ((with_reducible refine (alive_any _).mono ?_); rintro e wz ⟨rfl, hbz⟩; have BZ := bel_trans (a := w) (by assumption) hbz))
    go_ret
    exact ⟨rfl, BZ⟩
  have q1 : decide ((n' : Int) > 200) = false := decide_eq_false (by omega)
  by_cases g2 : m > 300
  · have q2 : decide ((m : Int) > 300) = true := decide_eq_true (by omega)
    clear h h' hV
    go_enter Try.func4, Try.ntmps4
    go_wp2_with (go_at_call 9; ((with_reducible refine (alive_any _).mono ?_); rintro e wz ⟨rfl, hbz⟩; have BZ := bel_trans (a := w) (by assumption) hbz))
    go_ret
    exact ⟨rfl, BZ⟩
  have q2 : decide ((m : Int) > 300) = false := decide_eq_false (by omega)
  have c1 := Same_any A n c X A' n' c' Y w h.1 h.2 (by omega) h'.1 h'.2 (by omega)
  have C2 := Lib.hid (fun W (hb : Below w.heap.size w W) => RSame_any A n c X A' n' c' Y W (h.1.below hb) (by omega) (h'.1.below hb) (by omega))
  have C3 := Lib.hid (fun W (hb : Below w.heap.size w W) => Within_any A n c X A' n' c' Y W (h.1.below hb) h.2 (by omega) (h'.1.below hb) h'.2 (by omega))
  have C4 := Lib.hid (fun W (hb : Below w.heap.size w W) => RWithin_any A n c X A' n' c' Y W (h.1.below hb) (by omega) (h'.1.below hb) (by omega))
  have C5 := Lib.hid (fun W (hb : Below w.heap.size w W) => Has_any A n c X l W (h.1.below hb) hn)
  have C6 := Lib.hid (fun W (hb : Below w.heap.size w W) => RHas_any A n c X l W (h.1.below hb) hn)
  have C7 := Lib.hid (fun W (hb : Below w.heap.size w W) => Holds_any A n c X a m d V W (h.1.below hb) h.2 (hV.below hb) hn hm)
  have C8 := Lib.hid (fun W (hb : Below w.heap.size w W) => RHolds_any A n c X a m d V W (h.1.below hb) h.2 (hV.below hb) (by omega) hm)
  have C9 := Lib.hid (fun W (hb : Below w.heap.size w W) => Count_any A n c X a m d V W (h.1.below hb) h.2 (hV.below hb) (by omega) hm)
  have C0 := Lib.hid (fun W (hb : Below w.heap.size w W) => RCount_any A n c X a m d V W (h.1.below hb) h.2 (hV.below hb) (by omega) hm)
  clear h h' hV
  generalize same X Y = x1 at *
  generalize within X Y = x2 at *
  generalize hasL X l = x3 at *
  generalize hld X V = x4 at *
  generalize cnt X V = x5 at *
  go_enter Try.func4, Try.ntmps4
  go_wp2_with (first
    | (go_at_call 15; ((with_reducible refine c1.mono ?_); rintro e w1 ⟨rfl, hb1⟩; have B1 := hb1; clear c1))
    | (go_at_call 16; ((with_reducible refine (C2.out _ B1).mono ?_); rintro e w2 ⟨rfl, rfl⟩; skip))
    | (go_at_call 17; ((with_reducible refine (C3.out _ B1).mono ?_); rintro e w3 ⟨rfl, hb3⟩; have B3 := bel_trans B1 hb3))
    | (go_at_call 18; ((with_reducible refine (C4.out _ B3).mono ?_); rintro e w4 ⟨rfl, rfl⟩; skip))
    | (go_at_call 19; ((with_reducible refine (C5.out _ B3).mono ?_); rintro e w5 ⟨rfl, rfl⟩; skip))
    | (go_at_call 20; ((with_reducible refine (C6.out _ B3).mono ?_); rintro e w6 ⟨rfl, rfl⟩; skip))
    | (go_at_call 21; ((with_reducible refine (C7.out _ B3).mono ?_); rintro e w7 ⟨rfl, hb7⟩; have B7 := bel_trans B3 hb7))
    | (go_at_call 22; ((with_reducible refine (C8.out _ B7).mono ?_); rintro e w8 ⟨rfl, rfl⟩; skip))
    | (go_at_call 23; ((with_reducible refine (C9.out _ B7).mono ?_); rintro e w9 ⟨rfl, rfl⟩; skip))
    | (go_at_call 24; ((with_reducible refine (C0.out _ B7).mono ?_); rintro e w10 ⟨rfl, rfl⟩; skip))
    | (go_at_call 9; ((with_reducible refine (alive_any _).mono ?_); rintro e wz ⟨rfl, hbz⟩; have BZ := bel_trans (a := w) (by assumption) hbz)))
  go_ret
  exact ⟨by simp, BZ⟩
set_option maxRecDepth 100000 in
set_option maxHeartbeats 8000000 in
theorem litResolves (A : Option Addr) (n c : Nat) (X : List Int) (A' : Option Addr) (n' c' : Nat) (Y : List Int) (v : Int) (w : World) (hn : n ≤ 9223372036854775807) (h : SlI w A n c X ∧ R64s X) (hn' : n' ≤ 9223372036854775807) (h' : SlI w A' n' c' Y ∧ R64s Y) (hl0 : -9223372036854775808 ≤ v) (hl1 : v ≤ 9223372036854775807) :
    Calls Try.prog 5 #[.slice A n c, .slice A' n' c', .int .i64 v] w fun e w' => e = .returned (.bool true) ∧ Below w.heap.size w w' := by
  have B0 : Below w.heap.size w w := Below.refl _ _
  by_cases g0 : n > 200
  · have q0 : decide ((n : Int) > 200) = true := decide_eq_true (by omega)
    clear h h'
    go_enter Try.func5, Try.ntmps5
    go_wp2_with (go_at_call 9; ((with_reducible refine (alive_any _).mono ?_); rintro e wz ⟨rfl, hbz⟩; have BZ := bel_trans (a := w) (by assumption) hbz))
    go_ret
    exact ⟨rfl, BZ⟩
  have q0 : decide ((n : Int) > 200) = false := decide_eq_false (by omega)
  by_cases g1 : n' > 200
  · have q1 : decide ((n' : Int) > 200) = true := decide_eq_true (by omega)
    clear h h'
    go_enter Try.func5, Try.ntmps5
    go_wp2_with (go_at_call 9; ((with_reducible refine (alive_any _).mono ?_); rintro e wz ⟨rfl, hbz⟩; have BZ := bel_trans (a := w) (by assumption) hbz))
    go_ret
    exact ⟨rfl, BZ⟩
  have q1 : decide ((n' : Int) > 200) = false := decide_eq_false (by omega)
  have c1 := Pivot_any A n c X A' n' c' Y w h.1 h.2 (by omega) h'.1 h'.2 (by omega)
  have C2 := Lib.hid (fun W (hb : Below w.heap.size w W) => RPivot_any A n c X A' n' c' Y W (h.1.below hb) h.2 (by omega) (h'.1.below hb) (by omega))
  rw [pivot_eq X Y h.2] at c1
  have C3 := Lib.hid (fun W (hb : Below w.heap.size w W) => Resolve_any A n c X A' n' c' Y v W (h.1.below hb) h.2 (by omega) (h'.1.below hb) h'.2 (by omega))
  have C4 := Lib.hid (fun W (hb : Below w.heap.size w W) => RResolve_any A n c X A' n' c' Y v W (h.1.below hb) h.2 (by omega) (h'.1.below hb) h'.2 (by omega))
  clear h h'
  generalize (pvR Y (cl X)).1 = x1 at *
  generalize (pvR Y (cl X)).2 = x2 at *
  generalize rsL X Y v = O at *
  generalize erL X Y v = x3 at *
  go_enter Try.func5, Try.ntmps5
  go_wp2_with (first
    | (go_at_call 25; ((with_reducible refine c1.mono ?_); rintro e w1 ⟨rfl, hb1⟩; have B1 := hb1; clear c1))
    | (go_at_call 26; ((with_reducible refine (C2.out _ B1).mono ?_); rintro e w2 ⟨rfl, hb2⟩; have B2 := bel_trans B1 hb2))
    | (go_at_call 27; ((with_reducible refine (C3.out _ B2).mono ?_); rintro e w3 ⟨A3, q3, k3, rfl, hS3, hq3, hb3⟩; have B3 := bel_trans B2 hb3; have S3 := Lib.hid hS3; clear hS3))
    | (go_at_call 28; ((with_reducible refine (C4.out _ B3).mono ?_); rintro e w4 ⟨A4, q4, k4, rfl, hS4, hq4, hb4⟩; have B4 := bel_trans B3 hb4; have cI := Ints_any A3 q3 k3 O A4 q4 k4 O w4 (S3.out.below hb4) hS4 (by omega); rw [decide_eq_true (rfl : O = O)] at cI; clear hS4))
    | (go_at_call 14; ((with_reducible refine cI.mono ?_); rintro e w5 ⟨rfl, hb5⟩; have B5 := bel_trans B4 hb5))
    | (go_at_call 9; ((with_reducible refine (alive_any _).mono ?_); rintro e wz ⟨rfl, hbz⟩; have BZ := bel_trans (a := w) (by assumption) hbz)))
  go_ret
  exact ⟨by simp, BZ⟩
end Go.Proofs.Ytmamecchphockaa.Lt
