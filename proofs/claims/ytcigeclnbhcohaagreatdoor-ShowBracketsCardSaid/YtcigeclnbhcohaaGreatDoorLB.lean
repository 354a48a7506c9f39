/-
  What is proved: in the text of two claims put together each bracket that opens is closed, and it has both texts.
  What is proved: in the text of two claims put together each bracket that opens is closed, and it has both texts.
-/
import Derived.Test.YtcigeclnbhcohaaGreatDoorZShAl
import Derived.Test.YtcigeclnbhcohaaGreatDoorLT
namespace Go.Proofs.YtcigeclnbhcohaaGreatDoor.Sh
open Go.RowKit L T C
set_option linter.unusedVariables false
set_option linter.unusedSimpArgs false
set_option maxRecDepth 100000

/-- two claims and what is put together of them, in memory -/
theorem two_mem (V : World) (op : Int) (p t : Cl) (k : SS) (a : Option Addr) (n c : Nat) (k' : SS) (a' : Option Addr) (n' c' : Nat) (hA : ArWC V p k a n c) (hA' : ArWC V t k' a' n' c') :
    ∃ Z, (V.alloc (.cells #[.int .i64 (opC p), .string (nmC p), .string (soC p), .slice k.a k.n k.c, .slice a n c, .int .i64 (opC t), .string (nmC t), .string (soC t), .slice k'.a k'.n k'.c, .slice a' n' c'] 33)).alloc (.cells #[.int .i64 op, .string ⟨#[]⟩, .string ⟨#[]⟩, .slice none 0 0, .slice (some ⟨V.heap.size, 0, none⟩) 2 2] 33) = Z ∧
      Below V.heap.size V Z ∧ Z.heap.size = V.heap.size + 2 ∧ CBox Z (V.heap.size + 1) op ⟨#[]⟩ ⟨#[]⟩ SS.nil (some ⟨V.heap.size, 0, none⟩) 2 2 ∧ ArWC Z (.mk op ⟨#[]⟩ ⟨#[]⟩ [] [p, t]) SS.nil (some ⟨V.heap.size, 0, none⟩) 2 2 := by
  have h1 := Blk.new V #[.int .i64 (opC p), .string (nmC p), .string (soC p), .slice k.a k.n k.c, .slice a n c, .int .i64 (opC t), .string (nmC t), .string (soC t), .slice k'.a k'.n k'.c, .slice a' n' c'] 33
  have hb1 : Below V.heap.size V (V.alloc (.cells #[.int .i64 (opC p), .string (nmC p), .string (soC p), .slice k.a k.n k.c, .slice a n c, .int .i64 (opC t), .string (nmC t), .string (soC t), .slice k'.a k'.n k'.c, .slice a' n' c'] 33)) := bel_alloc (Below.refl _ _) _
  refine ⟨_, rfl, bel_alloc hb1 _, by simp, ?_, ?_⟩
  · have := CBox.new (V.alloc (.cells #[.int .i64 (opC p), .string (nmC p), .string (soC p), .slice k.a k.n k.c, .slice a n c, .int .i64 (opC t), .string (nmC t), .string (soC t), .slice k'.a k'.n k'.c, .slice a' n' c'] 33)) op ⟨#[]⟩ ⟨#[]⟩ SS.nil (some ⟨V.heap.size, 0, none⟩) 2 2
    rwa [World.size_alloc] at this
  · exact ar_isC.2 ⟨TsW.nil _, two_cs (Blk.alloc h1 _) (ArWC.b hA (bel_alloc hb1 _)) (ArWC.b hA' (bel_alloc hb1 _))⟩
/-- the four ways to put two texts together -/
def forms (S X Y g : ByteArray) : Prop := S = X ++ g ++ Y ∨ S = ⟨#[40]⟩ ++ X ++ ⟨#[41]⟩ ++ g ++ Y ∨ S = X ++ g ++ ⟨#[40]⟩ ++ Y ++ ⟨#[41]⟩ ∨ S = ⟨#[40]⟩ ++ X ++ ⟨#[41]⟩ ++ g ++ ⟨#[40]⟩ ++ Y ++ ⟨#[41]⟩
theorem forms_of {S X Y g : ByteArray} (h : ∃ p q : Bool, S = par p X ++ (g ++ par q Y)) : forms S X Y g := by
  obtain ⟨p, q, rfl⟩ := h
  unfold forms
  cases p <;> cases q <;> simp only [par_t, par_f, ByteArray.append_assoc, true_or, or_true]
theorem clT_siz {t : Cl} (hk : okC t) (hr : crightE t = 0) : (clT t).size ≤ 1000000000 := by
  have h1 := nmsA_len t
  have h2 := (crightE_part hr).2
  exact cT_size (by omega) hk ⟨by simp, fun x hx => by simp at hx⟩ (by simp; omega) _ _
theorem w64_id {z : Int} (h : -9223372036854775808 ≤ z ∧ z < 9223372036854775808) : wrap64 z = z := by unfold wrap64; omega
theorem wi_id {z : Int} (h : -9223372036854775808 ≤ z ∧ z < 9223372036854775808) : IntKind.i64.wrap z = z := by rw [IntKind.wrap_i64]; omega
theorem okC_two {op : Int} (ho : 7 ≤ op ∧ op ≤ 10) {p t : Cl} (hp : okC p) (ht : okC t) : okC (.mk op ⟨#[]⟩ ⟨#[]⟩ [] [p, t]) := by
  rw [okC]
  refine ⟨.inr (.inr (.inr (.inr ⟨ho, rfl, rfl⟩))), by simp [ByteArray.size], by simp [ByteArray.size], by rw [okTs]; trivial, ?_⟩
  rw [okCs, okCs, okCs]; exact ⟨hp, ht, trivial⟩
theorem plC_ok {t : Cl} {m : Nat} (h : plC t m = true) (hz : smC t) : okC t ∧ crightE t = 0 := by
  unfold plC at h
  rw [Bool.and_eq_true, Bool.and_eq_true, beq_iff_eq] at h
  exact ⟨okC_of t (crightE_part h.2.1).1 h.2.2 hz, h.2.1⟩
set_option maxHeartbeats 32000000 in
theorem brackets_no (x y : ClV) (op : Int) (W : World) (hx : ArWC W x.t x.k x.a x.n x.c ∧ smC x.t) (hy : ArWC W y.t y.k y.a y.n y.c ∧ smC y.t) (ho0 : -9223372036854775808 ≤ op) (ho1 : op ≤ 9223372036854775807) (E : Env W) (hno : ¬(plC x.t 150 = true ∧ plC y.t 150 = true ∧ ltC x.t = true ∧ ltC y.t = true ∧ 7 ≤ op ∧ op ≤ 10)) :
    Calls Tryz.prog 8 #[x.val, y.val, .int .i64 op] W fun e w' => e = .returned (.bool true) ∧ Below W.heap.size W w' := by
  obtain ⟨t, ks, a, n, c⟩ := x
  obtain ⟨u, ls, a', n', c'⟩ := y
  obtain ⟨hA, hsm⟩ := hx
  obtain ⟨hA', hsm'⟩ := hy
  dsimp only at hA hsm hA' hsm' hno
  unfold ClV.val
  dsimp only
  obtain ⟨W2, hW2, hB2, hs2, S1, S2⟩ := cbox2 W (opC t) (nmC t) (soC t) ks a n c (opC u) (nmC u) (soC u) ls a' n' c'
  have H1 := Lib.hid S1
  have H2 := Lib.hid S2
  have hA2 := ArWC.b hA hB2
  have hA2' := ArWC.b hA' hB2
  have c1 := Plain_any t hsm ks a n c 150 (by omega) W2 hA2
  rw [show ((150 : Nat) : Int) = 150 from rfl] at c1
  have HP2 := Lib.hid (fun (w' : World) (h : Below W2.heap.size W2 w') => by
    have := Plain_any u hsm' ls a' n' c' 150 (by omega) w' (ArWC.b hA2' h)
    rwa [show ((150 : Nat) : Int) = 150 from rfl] at this)
  have HL1 := Lib.hid (fun (w' : World) (h : Below W2.heap.size W2 w') => ltC_any t ks a n c w' hsm (ArWC.b hA2 h))
  have HL2 := Lib.hid (fun (w' : World) (h : Below W2.heap.size W2 w') => ltC_any u ls a' n' c' w' hsm' (ArWC.b hA2' h))
  have HA := Lib.hid (fun (w' : World) (h : Below W2.heap.size W2 w') => alive_any E w' (hB2.trans (h.mono hB2.size)))
  obtain ⟨ka, kn, kc⟩ := ks
  obtain ⟨la, ln, lc⟩ := ls
  obtain ⟨s0, s1, s2, s3, s4⟩ := S1.five
  obtain ⟨u0, u1, u2, u3, u4⟩ := S2.five
  dsimp only at s3 u3
  clear S1 S2
  cases p1 : plC t 150
  · rw [p1] at c1
    clear hA hA' hA2 hA2' hsm hsm' p1 hno
    dsimp only at *
    generalize opC t = o1 at *
    generalize nmC t = m1 at *
    generalize soC t = z1 at *
    generalize opC u = o2 at *
    generalize nmC u = m2 at *
    generalize soC u = z2 at *
    go_enter Tryz.func8, Tryz.ntmps8
    go_wp2_with (first
      | (go_at_call 15; ((with_reducible refine c1.mono ?_); rintro e w3 ⟨rfl, B3⟩; clear c1; have c2 := HP2.out _ B3; have ca := HA.out _ B3; obtain ⟨q0, q1, q2, q3, q4⟩ := (CBox.b H1.out B3).five; obtain ⟨r0, r1, r2, r3, r4⟩ := (CBox.b H2.out B3).five; dsimp only at q3 r3))
      | (go_at_call 12; ((with_reducible refine ca.mono ?_); rintro e w9 ⟨rfl, b9⟩; clear ca)))
    go_ret
    exact ⟨rfl, bel_trans hB2 (bel_trans B3 b9)⟩
  rw [p1] at c1
  cases p2 : plC u 150
  · rw [p2] at HP2
    clear hA hA' hA2 hA2' hsm hsm' p1 p2 hno
    dsimp only at *
    generalize opC t = o1 at *
    generalize nmC t = m1 at *
    generalize soC t = z1 at *
    generalize opC u = o2 at *
    generalize nmC u = m2 at *
    generalize soC u = z2 at *
    go_enter Tryz.func8, Tryz.ntmps8
    go_wp2_with (first
      | (go_at_call 15; ((with_reducible refine c1.mono ?_); rintro e w3 ⟨rfl, B3⟩; clear c1; have c2 := HP2.out _ B3; have ca := HA.out _ B3; obtain ⟨q0, q1, q2, q3, q4⟩ := (CBox.b H1.out B3).five; obtain ⟨r0, r1, r2, r3, r4⟩ := (CBox.b H2.out B3).five; dsimp only at q3 r3))
      | (go_at_call 15; ((with_reducible refine c2.mono ?_); rintro e w4 ⟨rfl, b4⟩; clear c2; have B4 := bel_trans B3 b4; have c3 := HL1.out _ B4; have ca := HA.out _ B4; obtain ⟨q0, q1, q2, q3, q4⟩ := (CBox.b H1.out B4).five; obtain ⟨r0, r1, r2, r3, r4⟩ := (CBox.b H2.out B4).five; dsimp only at q3 r3))
      | (go_at_call 12; ((with_reducible refine ca.mono ?_); rintro e w9 ⟨rfl, b9⟩; clear ca)))
    go_ret
    exact ⟨rfl, bel_trans hB2 (bel_trans B4 b9)⟩
  rw [p2] at HP2
  cases l1 : ltC t
  · rw [l1] at HL1
    clear hA hA' hA2 hA2' hsm hsm' p1 p2 l1 hno
    dsimp only at *
    generalize opC t = o1 at *
    generalize nmC t = m1 at *
    generalize soC t = z1 at *
    generalize opC u = o2 at *
    generalize nmC u = m2 at *
    generalize soC u = z2 at *
    go_enter Tryz.func8, Tryz.ntmps8
    go_wp2_with (first
      | (go_at_call 15; ((with_reducible refine c1.mono ?_); rintro e w3 ⟨rfl, B3⟩; clear c1; have c2 := HP2.out _ B3; have ca := HA.out _ B3; obtain ⟨q0, q1, q2, q3, q4⟩ := (CBox.b H1.out B3).five; obtain ⟨r0, r1, r2, r3, r4⟩ := (CBox.b H2.out B3).five; dsimp only at q3 r3))
      | (go_at_call 15; ((with_reducible refine c2.mono ?_); rintro e w4 ⟨rfl, b4⟩; clear c2; have B4 := bel_trans B3 b4; have c3 := HL1.out _ B4; have ca := HA.out _ B4; obtain ⟨q0, q1, q2, q3, q4⟩ := (CBox.b H1.out B4).five; obtain ⟨r0, r1, r2, r3, r4⟩ := (CBox.b H2.out B4).five; dsimp only at q3 r3))
      | (go_at_call 27; ((with_reducible refine c3.mono ?_); rintro e w5 ⟨rfl, b5⟩; clear c3; have B5 := bel_trans B4 b5; have c4 := HL2.out _ B5; have ca := HA.out _ B5; obtain ⟨q0, q1, q2, q3, q4⟩ := (CBox.b H1.out B5).five; obtain ⟨r0, r1, r2, r3, r4⟩ := (CBox.b H2.out B5).five; dsimp only at q3 r3))
      | (go_at_call 12; ((with_reducible refine ca.mono ?_); rintro e w9 ⟨rfl, b9⟩; clear ca)))
    go_ret
    exact ⟨rfl, bel_trans hB2 (bel_trans B5 b9)⟩
  rw [l1] at HL1
  cases l2 : ltC u
  · rw [l2] at HL2
    clear hA hA' hA2 hA2' hsm hsm' p1 p2 l1 l2 hno
    dsimp only at *
    generalize opC t = o1 at *
    generalize nmC t = m1 at *
    generalize soC t = z1 at *
    generalize opC u = o2 at *
    generalize nmC u = m2 at *
    generalize soC u = z2 at *
    go_enter Tryz.func8, Tryz.ntmps8
    go_wp2_with (first
      | (go_at_call 15; ((with_reducible refine c1.mono ?_); rintro e w3 ⟨rfl, B3⟩; clear c1; have c2 := HP2.out _ B3; have ca := HA.out _ B3; obtain ⟨q0, q1, q2, q3, q4⟩ := (CBox.b H1.out B3).five; obtain ⟨r0, r1, r2, r3, r4⟩ := (CBox.b H2.out B3).five; dsimp only at q3 r3))
      | (go_at_call 15; ((with_reducible refine c2.mono ?_); rintro e w4 ⟨rfl, b4⟩; clear c2; have B4 := bel_trans B3 b4; have c3 := HL1.out _ B4; have ca := HA.out _ B4; obtain ⟨q0, q1, q2, q3, q4⟩ := (CBox.b H1.out B4).five; obtain ⟨r0, r1, r2, r3, r4⟩ := (CBox.b H2.out B4).five; dsimp only at q3 r3))
      | (go_at_call 27; ((with_reducible refine c3.mono ?_); rintro e w5 ⟨rfl, b5⟩; clear c3; have B5 := bel_trans B4 b5; have c4 := HL2.out _ B5; have ca := HA.out _ B5; obtain ⟨q0, q1, q2, q3, q4⟩ := (CBox.b H1.out B5).five; obtain ⟨r0, r1, r2, r3, r4⟩ := (CBox.b H2.out B5).five; dsimp only at q3 r3))
      | (go_at_call 27; ((with_reducible refine c4.mono ?_); rintro e w6 ⟨rfl, b6⟩; clear c4; have B6 := bel_trans B5 b6; have ca := HA.out _ B6; obtain ⟨q0, q1, q2, q3, q4⟩ := (CBox.b H1.out B6).five; obtain ⟨r0, r1, r2, r3, r4⟩ := (CBox.b H2.out B6).five; dsimp only at q3 r3))
      | (go_at_call 12; ((with_reducible refine ca.mono ?_); rintro e w9 ⟨rfl, b9⟩; clear ca)))
    go_ret
    exact ⟨rfl, bel_trans hB2 (bel_trans B6 b9)⟩
  rw [l2] at HL2
  by_cases h7 : op < 7
  · have g7 : decide (op < 7) = true := decide_eq_true h7
    clear hA hA' hA2 hA2' hsm hsm' p1 p2 l1 l2 hno
    dsimp only at *
    generalize opC t = o1 at *
    generalize nmC t = m1 at *
    generalize soC t = z1 at *
    generalize opC u = o2 at *
    generalize nmC u = m2 at *
    generalize soC u = z2 at *
    go_enter Tryz.func8, Tryz.ntmps8
    go_wp2_with (first
      | (go_at_call 15; ((with_reducible refine c1.mono ?_); rintro e w3 ⟨rfl, B3⟩; clear c1; have c2 := HP2.out _ B3; have ca := HA.out _ B3; obtain ⟨q0, q1, q2, q3, q4⟩ := (CBox.b H1.out B3).five; obtain ⟨r0, r1, r2, r3, r4⟩ := (CBox.b H2.out B3).five; dsimp only at q3 r3))
      | (go_at_call 15; ((with_reducible refine c2.mono ?_); rintro e w4 ⟨rfl, b4⟩; clear c2; have B4 := bel_trans B3 b4; have c3 := HL1.out _ B4; have ca := HA.out _ B4; obtain ⟨q0, q1, q2, q3, q4⟩ := (CBox.b H1.out B4).five; obtain ⟨r0, r1, r2, r3, r4⟩ := (CBox.b H2.out B4).five; dsimp only at q3 r3))
      | (go_at_call 27; ((with_reducible refine c3.mono ?_); rintro e w5 ⟨rfl, b5⟩; clear c3; have B5 := bel_trans B4 b5; have c4 := HL2.out _ B5; have ca := HA.out _ B5; obtain ⟨q0, q1, q2, q3, q4⟩ := (CBox.b H1.out B5).five; obtain ⟨r0, r1, r2, r3, r4⟩ := (CBox.b H2.out B5).five; dsimp only at q3 r3))
      | (go_at_call 27; ((with_reducible refine c4.mono ?_); rintro e w6 ⟨rfl, b6⟩; clear c4; have B6 := bel_trans B5 b6; have ca := HA.out _ B6; obtain ⟨q0, q1, q2, q3, q4⟩ := (CBox.b H1.out B6).five; obtain ⟨r0, r1, r2, r3, r4⟩ := (CBox.b H2.out B6).five; dsimp only at q3 r3))
      | (go_at_call 12; ((with_reducible refine ca.mono ?_); rintro e w9 ⟨rfl, b9⟩; clear ca)))
    go_ret
    exact ⟨rfl, bel_trans hB2 (bel_trans B6 b9)⟩
  have g7 : decide (op < 7) = false := decide_eq_false h7
  by_cases h10 : op > 10
  · have g10 : decide (op > 10) = true := decide_eq_true h10
    clear hA hA' hA2 hA2' hsm hsm' p1 p2 l1 l2 hno
    dsimp only at *
    generalize opC t = o1 at *
    generalize nmC t = m1 at *
    generalize soC t = z1 at *
    generalize opC u = o2 at *
    generalize nmC u = m2 at *
    generalize soC u = z2 at *
    go_enter Tryz.func8, Tryz.ntmps8
    go_wp2_with (first
      | (go_at_call 15; ((with_reducible refine c1.mono ?_); rintro e w3 ⟨rfl, B3⟩; clear c1; have c2 := HP2.out _ B3; have ca := HA.out _ B3; obtain ⟨q0, q1, q2, q3, q4⟩ := (CBox.b H1.out B3).five; obtain ⟨r0, r1, r2, r3, r4⟩ := (CBox.b H2.out B3).five; dsimp only at q3 r3))
      | (go_at_call 15; ((with_reducible refine c2.mono ?_); rintro e w4 ⟨rfl, b4⟩; clear c2; have B4 := bel_trans B3 b4; have c3 := HL1.out _ B4; have ca := HA.out _ B4; obtain ⟨q0, q1, q2, q3, q4⟩ := (CBox.b H1.out B4).five; obtain ⟨r0, r1, r2, r3, r4⟩ := (CBox.b H2.out B4).five; dsimp only at q3 r3))
      | (go_at_call 27; ((with_reducible refine c3.mono ?_); rintro e w5 ⟨rfl, b5⟩; clear c3; have B5 := bel_trans B4 b5; have c4 := HL2.out _ B5; have ca := HA.out _ B5; obtain ⟨q0, q1, q2, q3, q4⟩ := (CBox.b H1.out B5).five; obtain ⟨r0, r1, r2, r3, r4⟩ := (CBox.b H2.out B5).five; dsimp only at q3 r3))
      | (go_at_call 27; ((with_reducible refine c4.mono ?_); rintro e w6 ⟨rfl, b6⟩; clear c4; have B6 := bel_trans B5 b6; have ca := HA.out _ B6; obtain ⟨q0, q1, q2, q3, q4⟩ := (CBox.b H1.out B6).five; obtain ⟨r0, r1, r2, r3, r4⟩ := (CBox.b H2.out B6).five; dsimp only at q3 r3))
      | (go_at_call 12; ((with_reducible refine ca.mono ?_); rintro e w9 ⟨rfl, b9⟩; clear ca)))
    go_ret
    exact ⟨rfl, bel_trans hB2 (bel_trans B6 b9)⟩
  have g10 : decide (op > 10) = false := decide_eq_false h10
  exact absurd ⟨p1, p2, l1, l2, by omega, by omega⟩ hno
end Go.Proofs.YtcigeclnbhcohaaGreatDoor.Sh
namespace Go.Proofs.YtcigeclnbhcohaaGreatDoor.Sh
open Go.RowKit L T C
set_option linter.unusedVariables false
set_option linter.unusedSimpArgs false
set_option maxRecDepth 100000

set_option maxHeartbeats 32000000 in
theorem brackets_wrong (x y : ClV) (op : Int) (W : World) (hx : ArWC W x.t x.k x.a x.n x.c ∧ smC x.t) (hy : ArWC W y.t y.k y.a y.n y.c ∧ smC y.t) (ho0 : -9223372036854775808 ≤ op) (ho1 : op ≤ 9223372036854775807) (E : Env W) (p1 : plC x.t 150 = true) (p2 : plC y.t 150 = true) (l1 : ltC x.t = true) (l2 : ltC y.t = true) (ho : 7 ≤ op ∧ op ≤ 10) (hr0 : crightE (.mk op ⟨#[]⟩ ⟨#[]⟩ [] [x.t, y.t]) ≠ 0) :
    Calls Tryz.prog 8 #[x.val, y.val, .int .i64 op] W fun e w' => e = .returned (.bool true) ∧ Below W.heap.size W w' := by
  obtain ⟨t, ks, a, n, c⟩ := x
  obtain ⟨u, ls, a', n', c'⟩ := y
  obtain ⟨hA, hsm⟩ := hx
  obtain ⟨hA', hsm'⟩ := hy
  dsimp only at hA hsm hA' hsm' p1 p2 l1 l2 hr0
  unfold ClV.val
  dsimp only
  obtain ⟨W2, hW2, hB2, hs2, S1, S2⟩ := cbox2 W (opC t) (nmC t) (soC t) ks a n c (opC u) (nmC u) (soC u) ls a' n' c'
  have H1 := Lib.hid S1
  have H2 := Lib.hid S2
  have hA2 := ArWC.b hA hB2
  have hA2' := ArWC.b hA' hB2
  have c1 := Plain_any t hsm ks a n c 150 (by omega) W2 hA2
  rw [show ((150 : Nat) : Int) = 150 from rfl] at c1
  have HP2 := Lib.hid (fun (w' : World) (h : Below W2.heap.size W2 w') => by
    have := Plain_any u hsm' ls a' n' c' 150 (by omega) w' (ArWC.b hA2' h)
    rwa [show ((150 : Nat) : Int) = 150 from rfl] at this)
  have HL1 := Lib.hid (fun (w' : World) (h : Below W2.heap.size W2 w') => ltC_any t ks a n c w' hsm (ArWC.b hA2 h))
  have HL2 := Lib.hid (fun (w' : World) (h : Below W2.heap.size W2 w') => ltC_any u ls a' n' c' w' hsm' (ArWC.b hA2' h))
  have HA := Lib.hid (fun (w' : World) (h : Below W2.heap.size W2 w') => alive_any E w' (hB2.trans (h.mono hB2.size)))
  obtain ⟨ka, kn, kc⟩ := ks
  obtain ⟨la, ln, lc⟩ := ls
  obtain ⟨s0, s1, s2, s3, s4⟩ := S1.five
  obtain ⟨u0, u1, u2, u3, u4⟩ := S2.five
  dsimp only at s3 u3
  clear S1 S2
  rw [p1] at c1
  rw [p2] at HP2
  rw [l1] at HL1
  rw [l2] at HL2
  have g7 : decide (op < 7) = false := decide_eq_false (by omega)
  have g10 : decide (op > 10) = false := decide_eq_false (by omega)
  obtain ⟨hk1, hr1⟩ := plC_ok p1 hsm
  obtain ⟨hk2, hr2⟩ := plC_ok p2 hsm'
  have hk0 := okC_two ho hk1 hk2
  have HT := Lib.hid (two_text (nmsA (.mk op ⟨#[]⟩ ⟨#[]⟩ [] [t, u])) (nmsA t) (nmsA u) op ho ⟨#[]⟩ ⟨#[]⟩ t u l1 l2)
  have HBi := Lib.hid (show ltC (.mk op ⟨#[]⟩ ⟨#[]⟩ [] [t, u]) = true → okS 0 (lst (clT (.mk op ⟨#[]⟩ ⟨#[]⟩ [] [t, u]))) from fun h => Bal.whole (text_BB _ _ h))
  have HBr := Lib.hid (HBi.out (by rw [ltC, ltTs, ltCs, ltCs, ltCs, l1, l2]; have h1 : (op == 11) = false := beq_no' (by omega); have h2 : (op == 12) = false := beq_no' (by omega); rw [h1, h2]; rfl))
  clear HBi
  have HZ1 := Lib.hid (clT_siz hk1 hr1)
  have HZ2 := Lib.hid (clT_siz hk2 hr2)
  have HM := Lib.hid (fun (w' : World) (h : Below W2.heap.size W2 w') => two_mem w' op t u ⟨ka, kn, kc⟩ a n c ⟨la, ln, lc⟩ a' n' c' (ArWC.b hA2 h) (ArWC.b hA2' h))
  obtain ⟨T0, hT0⟩ : ∃ T0, Cl.mk op ⟨#[]⟩ ⟨#[]⟩ [] [t, u] = T0 := ⟨_, rfl⟩
  have ho0 : opC T0 = op := by rw [← hT0]; rfl
  have hn0 : nmC T0 = ⟨#[]⟩ := by rw [← hT0]; rfl
  have hs0 : soC T0 = ⟨#[]⟩ := by rw [← hT0]; rfl
  rw [hT0] at hk0 HBr HM hr0
  have HT : Hid (∃ p q : Bool, clT T0 = par p (clT t) ++ (sgC op ++ par q (clT u))) := by rw [← hT0]; exact HT
  have HR := Lib.hid (fun (Z : World) (A : Option Addr) (h : ArWC Z T0 SS.nil A 2 2) => by
    have := Right8C_any T0 SS.nil A 2 2 Z h
    rw [ho0, hn0, hs0] at this
    exact this)
  have HS1 := Lib.hid (fun (Z : World) (hZ : Below W2.heap.size W2 Z) (w' : World) (h : Below Z.heap.size Z w') => Claim_any E t hk1 hr1 ⟨ka, kn, kc⟩ a n c w' (hB2.trans ((bel_trans hZ h).mono hB2.size)) (ArWC.b hA2 (bel_trans hZ h)))
  have HS2 := Lib.hid (fun (Z : World) (hZ : Below W2.heap.size W2 Z) (w' : World) (h : Below Z.heap.size Z w') => Claim_any E u hk2 hr2 ⟨la, ln, lc⟩ a' n' c' w' (hB2.trans ((bel_trans hZ h).mono hB2.size)) (ArWC.b hA2' (bel_trans hZ h)))
  have HS0 := Lib.hid (fun (hr0 : crightE T0 = 0) (Z : World) (A : Option Addr) (hZ : Below W2.heap.size W2 Z) (hA : ArWC Z T0 SS.nil A 2 2) (w' : World) (h : Below Z.heap.size Z w') => by
    have := Claim_any E T0 hk0 hr0 SS.nil A 2 2 w' (hB2.trans ((bel_trans hZ h).mono hB2.size)) (ArWC.b hA h)
    rw [ho0, hn0, hs0] at this
    exact this)
  have HZ0 := Lib.hid (fun hr0 : crightE T0 = 0 => clT_siz hk0 hr0)
  clear hA hA' hA2 hA2' hsm hsm' p1 p2 l1 l2 hk1 hk2 hr1 hr2 hk0 hT0 ho0 hn0 hs0
  dsimp only [SS.nil] at *
  generalize clT T0 = S at *
  generalize clT t = X at *
  generalize clT u = Y at *
  generalize opC t = o1 at *
  generalize nmC t = m1 at *
  generalize soC t = z1 at *
  generalize opC u = o2 at *
  generalize nmC u = m2 at *
  generalize soC u = z2 at *
  have hne : (crightE T0 != 0) = true := by simpa using hr0
  clear HS0 HS1 HS2 HT HBr
  generalize crightE T0 = R0 at *
  go_enter Tryz.func8, Tryz.ntmps8
  go_wp2_with (first
    | (go_at_call 15; ((with_reducible refine c1.mono ?_); rintro e w3 ⟨rfl, B3⟩; clear c1; have c2 := HP2.out _ B3; have ca := HA.out _ B3; obtain ⟨q0, q1, q2, q3, q4⟩ := (CBox.b H1.out B3).five; obtain ⟨r0, r1, r2, r3, r4⟩ := (CBox.b H2.out B3).five; dsimp only at q3 r3))
    | (go_at_call 15; ((with_reducible refine c2.mono ?_); rintro e w4 ⟨rfl, b4⟩; clear c2; have B4 := bel_trans B3 b4; have c3 := HL1.out _ B4; have ca := HA.out _ B4; obtain ⟨q0, q1, q2, q3, q4⟩ := (CBox.b H1.out B4).five; obtain ⟨r0, r1, r2, r3, r4⟩ := (CBox.b H2.out B4).five; dsimp only at q3 r3))
    | (go_at_call 27; ((with_reducible refine c3.mono ?_); rintro e w5 ⟨rfl, b5⟩; clear c3; have B5 := bel_trans B4 b5; have c4 := HL2.out _ B5; have ca := HA.out _ B5; obtain ⟨q0, q1, q2, q3, q4⟩ := (CBox.b H1.out B5).five; obtain ⟨r0, r1, r2, r3, r4⟩ := (CBox.b H2.out B5).five; dsimp only at q3 r3))
    | (go_at_call 27; ((with_reducible refine c4.mono ?_); rintro e w6 ⟨rfl, b6⟩; clear c4; have B6 := bel_trans B5 b6; obtain ⟨q0, q1, q2, q3, q4⟩ := (CBox.b H1.out B6).five; obtain ⟨r0, r1, r2, r3, r4⟩ := (CBox.b H2.out B6).five; dsimp only at q3 r3; obtain ⟨Z, hZ, hBZ, hsZ, SZ, AZ⟩ := HM.out _ B6; (try dsimp only at hZ SZ AZ); have cR := HR.out Z _ AZ; have hWZ := bel_trans B6 hBZ; have HSZ := Lib.hid SZ; have HAZ := Lib.hid AZ; obtain ⟨v0, v1, v2, v3, v4⟩ := SZ.five; (try dsimp only at v3); clear SZ AZ))
    | (go_at_call 28; ((with_reducible refine cR.mono ?_); rintro e w7 ⟨rfl, b7⟩; clear cR; have B7 := bel_trans hWZ b7; have ca := HA.out _ B7))
    | (go_at_call 12; ((with_reducible refine ca.mono ?_); rintro e w9 ⟨rfl, b9⟩; clear ca)))
  go_ret
  exact ⟨rfl, bel_trans hB2 (bel_trans B7 b9)⟩
end Go.Proofs.YtcigeclnbhcohaaGreatDoor.Sh
