/-
  What is proved: the walk of CnfReads: it returns true.
-/
import Derived.Test.YthchjceibpcgbaaDoorCpV
import Derived.Test.YthchjceibpcgbaaDoorCnP
namespace Go.Proofs.YthchjceibpcgbaaDoor.Cn
open Go.RowKit L Lt
set_option linter.unusedVariables false
set_option linter.unusedSimpArgs false

theorem rd_line (s : List UInt8) : R64 (rdC s).n := by
  have h := (rgC_ok.1 (rdC_r s).1).1
  exact ⟨by omega, by omega⟩
/-- what Read returns, its set as a value that may be read -/
theorem RP.z {s : List UInt8} {w w' : World} {e : Ending} (h : RP (rdC s) w e w') : ∃ A m k, e = .returned (.tuple #[.agg #[.int .i64 (rdC s).n, .slice A m k], .int .i64 (rdC s).line, .int .i64 (rdC s).e]) ∧ (⟨(rdC s).n, A, m, k, (rdC s).L⟩ : CfZ).ok w' ∧ Below w.heap.size w w' := by
  obtain ⟨A, m, k, he, hS, hb⟩ := h
  have hr := rdC_r s
  have hk := rgC_ok.1 hr.1
  refine ⟨A, m, k, he, ⟨rd_line s, ?_, hS, fun X hX => ⟨hr.2.1 X hX, ?_⟩⟩, hb⟩
  · show m ≤ 9223372036854775807
    have := hS.1; have := hk.2.1; omega
  · have := (rg1_ok.1 (hk.2.2 X hX)).1; omega
set_option maxRecDepth 100000 in
set_option maxHeartbeats 8000000 in
theorem cnfReads (s : ByteArray) (W : World) (hs : s.size ≤ 9223372036854775807) (HT : Dig.Tab W) :
    Calls Tryd.prog 4 #[.string s] W fun e w' => e = .returned (.bool true) ∧ Below W.heap.size W w' := by
  have CA := Lib.hid (fun (w : World) (hb : Below W.heap.size W w) => alive_any HT w hb)
  have B0 : Below W.heap.size W W := Below.refl _ _
  clear HT
  by_cases h0 : s.size ≤ 800
  · have q0 : decide ((s.size : Int) > 800) = false := decide_eq_false (by omega)
    have CR := Lib.hid (fun (w : World) => (Read_any s w (by omega)).mono fun e w' h => RP.z h)
    have CQ := Lib.hid (fun (w : World) => (RRead_any s w (by omega)).mono fun e w' h => RP.z h)
    have hg := (rdC_r s.data.toList).1
    have hln : ∀ X ∈ (rdC s.data.toList).L, X.length ≤ 9223372036854775807 := fun X hX => by
      have := (rg1_ok.1 ((rgC_ok.1 hg).2.2 X hX)).1; omega
    have CG := Lib.hid (fun (A : Option Addr) (m k : Nat) (w : World) (h : (⟨(rdC s.data.toList).n, A, m, k, (rdC s.data.toList).L⟩ : CfZ).ok w) => (show Calls Tryd.prog 9 #[.agg #[.int .i64 (rdC s.data.toList).n, .slice A m k]] w (fun e w' => e = .returned (.tuple #[.int .i64 (rgC (rdC s.data.toList).n (rdC s.data.toList).L).1, .int .i64 0]) ∧ Below w.heap.size w w') from by
      have := RRightC_any ⟨(rdC s.data.toList).n, A, m, k, (rdC s.data.toList).L⟩ w h
      simp only [hg] at this
      exact this))
    have CB := Lib.hid (fun (A : Option Addr) (m k : Nat) (A' : Option Addr) (m' k' : Nat) (w : World) (h : (⟨(rdC s.data.toList).n, A, m, k, (rdC s.data.toList).L⟩ : CfZ).ok w) (h' : (⟨(rdC s.data.toList).n, A', m', k', (rdC s.data.toList).L⟩ : CfZ).ok w) =>
      CnfB_any (rdC s.data.toList).n A m k (rdC s.data.toList).L (rdC s.data.toList).n A' m' k' (rdC s.data.toList).L w h.2.2.1 h'.2.2.1 h.2.1 hln)
    simp only [decide_true, Bool.and_self, and_self] at CB
    have hk := Lib.hid (show ∀ (A : Option Addr) (m k : Nat) (w w' : World), (⟨(rdC s.data.toList).n, A, m, k, (rdC s.data.toList).L⟩ : CfZ).ok w → Below w.heap.size w w' → (⟨(rdC s.data.toList).n, A, m, k, (rdC s.data.toList).L⟩ : CfZ).ok w' from fun A m k w w' h hb => h.below hb)
    clear hg hln h0
    generalize (rgC (rdC s.data.toList).n (rdC s.data.toList).L).1 = g1 at *
    generalize rdC s.data.toList = R at *
    obtain ⟨n, L, line, er⟩ := R
    simp only at CR CQ CG CB hk
    go_enter Tryd.func4, Tryd.ntmps4
    go_wp2_with (first
      | (go_at_call 6; ((with_reducible refine (CA.out _ (by assumption)).mono ?_); rintro e w1 ⟨rfl, b1⟩; have B1 := bel_trans (a := W) (by assumption) b1; clear b1))
      | (go_at_call 12; ((with_reducible refine (CR.out _).mono ?_); rintro e w3 ⟨A3, m3, k3, rfl, hz3, b3⟩; have B3 := bel_trans B1 b3; obtain ⟨W3, hW3, b3', S3⟩ := boxC w3 n A3 m3 k3; have Z3 := Lib.hid (hk.out _ _ _ _ _ hz3 b3'); have C3 := bel_trans B3 b3'; have S3' := Lib.hid S3; clear hz3 b3 b3' S3))
      | (go_at_call 13; ((with_reducible refine (CQ.out _).mono ?_); rintro e w4 ⟨A4, m4, k4, rfl, hz4, b4⟩; have B4 := bel_trans C3 b4; have Z34 := Lib.hid (hk.out _ _ _ _ _ Z3.out b4); obtain ⟨W4, hW4, b4', S4⟩ := boxC w4 n A4 m4 k4; have Z4 := Lib.hid (hk.out _ _ _ _ _ hz4 b4'); have Y34 := Lib.hid (hk.out _ _ _ _ _ Z34.out b4'); have C4 := bel_trans B4 b4'; have T3 := Lib.hid ((S3'.out.b b4).b b4'); obtain ⟨x0, x1⟩ := T3.out.two; obtain ⟨y0, y1⟩ := S4.two; have S4' := Lib.hid S4; clear hz4 b4 b4' S4))
      | (go_at_call 9; ((with_reducible refine (CG.out _ _ _ _ Y34.out).mono ?_); rintro e w5 ⟨rfl, b5⟩; have B5 := bel_trans C4 b5; have cB := CB.out _ _ _ _ _ _ _ (hk.out _ _ _ _ _ Y34.out b5) (hk.out _ _ _ _ _ Z4.out b5); obtain ⟨p0, p1⟩ := (T3.out.b b5).two; obtain ⟨r0, r1⟩ := (S4'.out.b b5).two; clear b5))
      | (go_at_call 14; ((with_reducible refine cB.mono ?_); rintro e w6 ⟨rfl, b6⟩; have B6 := bel_trans B5 b6)))
    go_ret
    exact ⟨rfl, B6⟩
  · have q0 : decide ((s.size : Int) > 800) = true := decide_eq_true (by omega)
    go_enter Tryd.func4, Tryd.ntmps4
    go_wp2_with (first
      | (go_at_call 6; ((with_reducible refine (CA.out _ (by assumption)).mono ?_); rintro e w1 ⟨rfl, b1⟩; have B1 := bel_trans (a := W) (by assumption) b1; clear b1)))
    go_ret
    exact ⟨rfl, B1⟩
end Go.Proofs.YthchjceibpcgbaaDoor.Cn
