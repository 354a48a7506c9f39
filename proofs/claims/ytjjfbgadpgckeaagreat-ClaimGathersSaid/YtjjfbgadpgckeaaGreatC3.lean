/-
  What is proved: the library's stable sort of any number of places of claims.
  What is proved: the library's CompactFunc over places of claims.
-/
import Derived.Test.YtjjfbgadpgckeaaGreatZClmYh
import Derived.Test.YtjjfbgadpgckeaaGreatZClmYi
import Derived.Test.YtjjfbgadpgckeaaGreatB4
import Derived.Test.YtjjfbgadpgckeaaGreatC2
namespace Go.Proofs.YtjjfbgadpgckeaaGreat.K
open Go.RowKit L T
open C (Cl atC cmpC eqC CsW)
set_option linter.unusedVariables false
set_option linter.unusedSimpArgs false


theorem sym_any (g gc gl n : Nat) (l : List Cl) (w0 : World) (hc : CmpIn g gc gl n l w0) (cf : Nat → Nat → Int) (hcf : ∀ i j, cmpC (atC l i) (atC l j) = cf i j) (h3 : Cmp3 cf) (N cap : Nat) (hN2 : N ≤ 1000000) : ∀ K, SymAt g gc gl n N cap cf w0 K
  | 0 => fun X A B Y a m b w hA hB hK => by have := List.length_pos_iff.2 hA; omega
  | K + 1 => fun X A B Y a m b w hA hB hK ha hm hb hN hsA hsB hx hlt hbw hr => by
    by_cases h1 : A.length = 1
    · obtain ⟨x, rfl⟩ := List.length_eq_one_iff.1 h1
      exact sym_left g gc gl n l w0 hc cf hcf h3 X B Y x hsB (fun y hy => hx x (by simp) y hy) (fun z hz => hlt z (by simpa using hz)) N cap a m b ha (by simpa using hm) hb hN hN2 w hbw (by simpa using hr)
    · by_cases h2 : B.length = 1
      · obtain ⟨y, rfl⟩ := List.length_eq_one_iff.1 h2
        refine (sym_right g gc gl n l w0 hc cf hcf h3 X A Y y hsA (fun x hx1 => hx x hx1 y (by simp)) (fun z hz => hlt z (by rcases List.mem_cons.1 hz with h | h <;> simp [h])) N cap a m b h1 ha hm (by simpa using hb) hN hN2 w hbw (by simpa using hr)).mono fun e w' ⟨k1, ⟨M, k2, k3, k4⟩, k5⟩ => ⟨k1, ⟨M, k2, k3.trans (List.perm_append_comm (l₁ := [y])), k4⟩, k5⟩
      · have IH := sym_any g gc gl n l w0 hc cf hcf h3 N cap hN2 K
        by_cases hq : (a + b) / 2 < m
        · exact sym_gen1 g gc gl n l w0 hc cf hcf h3 K N cap hN2 IH X A B Y a m b w hK hq hA hB h1 h2 ha hm hb hN hsA hsB hx hlt hbw hr
        · exact sym_gen2 g gc gl n l w0 hc cf hcf h3 K N cap hN2 IH X A B Y a m b w hK hq hA hB h1 h2 ha hm hb hN hsA hsB hx hlt hbw hr

/-- what the calls of the sort's passes find and leave -/
theorem stb_parts (g gc gl n : Nat) (l : List Cl) (w0 : World) (hc : CmpIn g gc gl n l w0) (cf : Nat → Nat → Int) (hcf : ∀ i j, cmpC (atC l i) (atC l j) = cf i j) (h3 : Cmp3 cf) (z : List Nat) (hz : z.Pairwise (· < ·)) (hlt : ∀ y ∈ z, y < n) (N cap : Nat) (hN : N = z.length) (hN2 : N ≤ 1000000) (w : World) (hbw : Below g w0 w) (hg : g < w.heap.size) :
    (∀ (a b : Nat) (W : World), a + 20 ≤ b → b ≤ a + 20 → b ≤ N → w.grownBy W (some g) → (∃ Z, RowN W g Z ∧ Ins cf z 20 a Z) → Calls Tryz.prog 120 #[.slice (some ⟨g, 0, none⟩) N cap, .int .i64 a, .int .i64 b, .func (.func 88) #[] #[.pointer (some ⟨gc, 0, none⟩), .pointer (some ⟨gl, 0, none⟩)]] W fun e w' => (∃ v, e = .returned v) ∧ (∃ Z, RowN w' g Z ∧ Ins cf z 20 b Z) ∧ w.grownBy w' (some g)) ∧
    (∀ (a : Nat) (W : World), a ≤ N → N < a + 20 → w.grownBy W (some g) → (∃ Z, RowN W g Z ∧ Ins cf z 20 a Z) → Calls Tryz.prog 120 #[.slice (some ⟨g, 0, none⟩) N cap, .int .i64 a, .int .i64 N, .func (.func 88) #[] #[.pointer (some ⟨gc, 0, none⟩), .pointer (some ⟨gl, 0, none⟩)]] W fun e w' => (∃ v, e = .returned v) ∧ (∃ Z, RowN w' g Z ∧ Blks cf z 20 Z) ∧ w.grownBy w' (some g)) ∧
    (∀ (bs a m b : Nat) (W : World), 0 < bs → a + bs = m → a + 2 * bs = b → b ≤ N → w.grownBy W (some g) → (∃ Z, RowN W g Z ∧ Half cf z bs a Z) → Calls Tryz.prog 121 #[.slice (some ⟨g, 0, none⟩) N cap, .int .i64 a, .int .i64 m, .int .i64 b, .func (.func 88) #[] #[.pointer (some ⟨gc, 0, none⟩), .pointer (some ⟨gl, 0, none⟩)]] W fun e w' => (∃ v, e = .returned v) ∧ (∃ Z, RowN w' g Z ∧ Half cf z bs b Z) ∧ w.grownBy w' (some g)) ∧
    (∀ (bs b2 a m : Nat) (W : World), 0 < bs → 2 * bs = b2 → a + bs = m → N < a + 2 * bs → m < N → w.grownBy W (some g) → (∃ Z, RowN W g Z ∧ Half cf z bs a Z) → Calls Tryz.prog 121 #[.slice (some ⟨g, 0, none⟩) N cap, .int .i64 a, .int .i64 m, .int .i64 N, .func (.func 88) #[] #[.pointer (some ⟨gc, 0, none⟩), .pointer (some ⟨gl, 0, none⟩)]] W fun e w' => (∃ v, e = .returned v) ∧ (∃ Z, RowN w' g Z ∧ Blks cf z b2 Z) ∧ w.grownBy w' (some g)) := by
  have hB1 : ∀ W, w.grownBy W (some g) → Below g w0 W := fun W h => hbw.trans (gr_below h (Nat.le_of_lt hg) (Nat.le_refl _))
  have hcfe : (fun i j => cmpC (atC l i) (atC l j)) = cf := funext fun i => funext fun j => hcf i j
  have lIns : ∀ a Z, Ins cf z 20 a Z → a ≤ N → Z.length = N := fun a Z ⟨D, h1, h2, _, _, h5⟩ h => by rw [h1, List.length_append, h5, List.length_drop]; omega
  have lHalf : ∀ bs a Z, Half cf z bs a Z → Z.length = N := fun bs a Z ⟨D, R, last, h1, h2, _⟩ => by rw [h2.length_eq]; omega
  have mHalf : ∀ bs a Z, Half cf z bs a Z → ∀ y ∈ Z, y < n := fun bs a Z ⟨D, R, last, h1, h2, _⟩ y hy => hlt y (h2.mem_iff.1 hy)
  have mIns : ∀ a Z, Ins cf z 20 a Z → ∀ y ∈ Z, y < n := fun a Z ⟨D, h1, h2, _, _, h5⟩ y hy => by
    rw [h1] at hy
    rcases List.mem_append.1 hy with hy | hy
    · exact hlt y (List.take_subset _ _ (h2.mem_iff.1 hy))
    · exact hlt y (List.drop_subset _ _ hy)
  refine ⟨?_, ?_, ?_, ?_⟩
  · rintro a b W h1 h2 h4 hG ⟨Z, hR, hZ⟩
    obtain rfl : b = a + 20 := by omega
    obtain ⟨pre, p1, p2, p3, p4⟩ := ins_step h3 hz hZ (by omega)
    have h := insertion_any g gc gl n l w0 hc pre ((z.drop a).take 20) (z.drop (a + 20)) (by rw [← p2]; exact mIns a Z hZ) N cap (by rw [← p2, lIns a Z hZ (by omega)]) hN2 W (hB1 W hG) (by rw [← p2]; exact hR)
    rw [hcfe, p1, p3, show (a : Int) + ((20 : Nat) : Int) = ((a + 20 : Nat) : Int) by omega] at h
    exact h.mono fun e w' ⟨k1, k2, k3⟩ => ⟨k1, ⟨_, k2, p4⟩, hG.trans k3⟩
  · rintro a W h1 h2 hG ⟨Z, hR, hZ⟩
    obtain ⟨pre, p1, p2, p3, p4⟩ := ins_last h3 hz hZ (by omega) (by omega)
    have h := insertion_any g gc gl n l w0 hc pre (z.drop a) [] (by rw [← p2]; exact mIns a Z hZ) N cap (by rw [← p2, lIns a Z hZ (by omega)]) hN2 W (hB1 W hG) (by rw [← p2]; exact hR)
    rw [hcfe, p1, p3, show (a : Int) + ((z.length - a : Nat) : Int) = (N : Int) by omega] at h
    exact h.mono fun e w' ⟨k1, k2, k3⟩ => ⟨k1, ⟨_, k2, p4⟩, hG.trans k3⟩
  · rintro bs a m b W h0 h1 h2 h4 hG ⟨Z, hR, hZ⟩
    obtain ⟨X, A, B, Y, e0, e1, e2, e3, e4, e5, e6, e7⟩ := half_step hZ (by rw [lHalf bs a Z hZ]; omega)
    have hl := lHalf bs a Z hZ
    rw [e0] at hl
    simp only [List.length_append] at hl
    have h := sym_any g gc gl n l w0 hc cf hcf h3 N cap hN2 (A.length + B.length) X A B Y a m b W (by intro h; rw [h] at e2; simp at e2; omega) (by intro h; rw [h] at e3; simp at e3; omega) (Nat.le_refl _) e1.symm (by omega) (by omega) (by omega) e4 e5 e6 (fun y hy => mHalf bs a Z hZ y (by rw [e0]; rcases List.mem_append.1 hy with h | h <;> simp [h])) (hB1 W hG) (by rw [← e0]; exact hR)
    exact h.mono fun e w' ⟨k1, ⟨M, k2, k3, k4⟩, k5⟩ => ⟨k1, ⟨_, k2, by rw [← h2]; exact e7 M k3 k4⟩, hG.trans k5⟩
  · rintro bs b2 a m W h0 hb2 h1 h2 h4 hG ⟨Z, hR, hZ⟩
    have hl := lHalf bs a Z hZ
    obtain ⟨X, A, B, e0, e1, e2, e3, e4, e5, e6, e7⟩ := (half_end hZ (by omega)).1 (by omega)
    have h := sym_any g gc gl n l w0 hc cf hcf h3 N cap hN2 (A.length + B.length) X A B [] a m N W (by intro h; rw [h] at e2; simp at e2; omega) (by intro h; rw [h] at e3; simp at e3; omega) (Nat.le_refl _) e1.symm (by omega) (by omega) (by simp) e4 e5 e6 (fun y hy => mHalf bs a Z hZ y (by rw [e0]; rcases List.mem_append.1 hy with h | h <;> simp [h])) (hB1 W hG) (by rw [← e0]; exact hR)
    exact h.mono fun e w' ⟨k1, ⟨M, k2, k3, k4⟩, k5⟩ => ⟨k1, ⟨_, k2, by rw [← hb2]; exact e7 M k3 k4⟩, hG.trans k5⟩

set_option maxRecDepth 100000 in
set_option maxHeartbeats 16000000 in
theorem stable_any (g gc gl n : Nat) (l : List Cl) (w0 : World) (hc : CmpIn g gc gl n l w0) (cf : Nat → Nat → Int) (hcf : ∀ i j, cmpC (atC l i) (atC l j) = cf i j) (h3 : Cmp3 cf) (z : List Nat) (hz : z.Pairwise (· < ·)) (hlt : ∀ y ∈ z, y < n) (N cap : Nat) (hN : N = z.length) (hN2 : N ≤ 1000000) (w : World) (hbw : Below g w0 w) (hr : RowN w g z) :
    Calls Tryz.prog 106 #[.slice (some ⟨g, 0, none⟩) N cap, .int .i64 N, .func (.func 88) #[] #[.pointer (some ⟨gc, 0, none⟩), .pointer (some ⟨gl, 0, none⟩)]] w fun e w' => (∃ v, e = .returned v) ∧ (∃ Z, RowN w' g Z ∧ Z.Perm z ∧ Srt cf Z) ∧ w.grownBy w' (some g) := by
  obtain ⟨P1, P2, P3, P4⟩ := stb_parts g gc gl n l w0 hc cf hcf h3 z hz hlt N cap hN hN2 w hbw (Blk.lt hr)
  have H1 := Lib.hid P1
  have H2 := Lib.hid P2
  have H3 := Lib.hid P3
  have H4 := Lib.hid P4
  have H0 : Hid (∃ Z, RowN w g Z ∧ Ins cf z 20 0 Z) := ⟨z, hr, [], by simp, by simp, (by intro r hr; cases hr), List.Pairwise.nil, rfl⟩
  have HS := Lib.hid (show ∀ bs Z, Blks cf z bs Z → Half cf z bs 0 Z from fun bs Z h => half_start h)
  have HE := Lib.hid (show ∀ bs b2 a Z, 2 * bs = b2 → N < a + 2 * bs → ¬ a + bs < N → Half cf z bs a Z → Blks cf z b2 Z from fun bs b2 a Z h1 h2 h3 h => by
    obtain ⟨D, R, last, e1, e2, e3⟩ := id h
    have hl : Z.length = N := by rw [e2.length_eq]; omega
    rw [← h1]
    exact (half_end h (by omega)).2 (by omega))
  have HF := Lib.hid (show ∀ bs Z, N ≤ bs → 0 < bs → Blks cf z bs Z → Z.Perm z ∧ Srt cf Z from fun bs Z h1 h2 h => by
    obtain ⟨R, last, e1, e2, e3⟩ := id h
    exact blks_end h (by rw [e2.length_eq]; omega) h2)
  clear P1 P2 P3 P4 hr hc hcf hlt hz hN h3 hbw
  go_enter Tryz.func106, Tryz.ntmps106
  go_wp2
  go_loopw [7, 8] (fun I J wr0 => ∃ (wr : World) (a b : Nat), wr = wr0 ∧ a ≤ N ∧ a + 20 ≤ b ∧ b ≤ a + 20 ∧ I = .int .i64 a ∧ J = .int .i64 b ∧ w.grownBy wr (some g) ∧ Hid (∃ Z, RowN wr g Z ∧ Ins cf z 20 a Z)) (fun I J _ => N + 20 - (intOf J).toNat)
  case atStart => exact ⟨_, 0, 20, rfl, by omega, by omega, by omega, rfl, rfl, World.grownBy.refl _ _, H0⟩
  case round =>
    obtain ⟨wr, a, b, rfl, ha, hb1, hb2, rfl, rfl, hG, hR⟩ := hrel
    by_cases hlt : b ≤ N
    · have cI := H1.out a b wr hb1 hb2 hlt hG hR.out
      have t0 : (b : Int) ≤ (N : Int) := by omega
      have t1 : IntKind.i64.wrap ((b : Int) + 20) = (b : Int) + 20 := by rw [IntKind.wrap_i64]; omega
      clear hR
      go_wp2_with (go_at_call 120; ((with_reducible refine cI.mono ?_); rintro e w4 ⟨⟨v, rfl⟩, hR4, hG4⟩; have J4 := Lib.hid hR4; clear hR4 cI))
      all_goals go_roundw
      all_goals first | exact ⟨_, b, b + 20, rfl, by omega, by omega, by omega, rfl, by go_num, hG4, J4⟩ | (simp [intOf]; omega)
    · have cI := H2.out a wr ha (by omega) hG hR.out
      have t0 : ¬ (b : Int) ≤ (N : Int) := by omega
      clear hR
      go_wp2_with (go_at_call 120; ((with_reducible refine cI.mono ?_); rintro e w4 ⟨⟨v, rfl⟩, hR4, hG4⟩; have J4 := Lib.hid hR4; clear hR4 cI))
      go_loopw [6, 7, 8, 9] (fun I A0 B0 M0 wr0 => ∃ (w5 : World) (bs : Nat), w5 = wr0 ∧ 0 < bs ∧ bs ≤ 2000000 ∧ I = .int .i64 bs ∧ w.grownBy w5 (some g) ∧ Hid (∃ Z, RowN w5 g Z ∧ Blks cf z bs Z)) (fun I _ _ _ _ => N - (intOf I).toNat)
      case atStart => exact ⟨_, 20, rfl, by omega, by omega, rfl, hG4, J4⟩
      case round =>
        obtain ⟨w5, bs, rfl, hbs, hbs2, rfl, hG5, hR5⟩ := hrel
        by_cases hbn : bs < N
        · obtain ⟨b2, hb2'⟩ : ∃ b2, 2 * bs = b2 := ⟨_, rfl⟩
          have s0 : (bs : Int) < (N : Int) := by omega
          have s1 : IntKind.i64.wrap (2 * (bs : Int)) = (b2 : Int) := by rw [IntKind.wrap_i64]; omega
          have s2 : IntKind.i64.wrap ((bs : Int) * 2) = (b2 : Int) := by rw [IntKind.wrap_i64]; omega
          have HB := Lib.hid hb2'
          have b2a : b2 ≤ bs + bs := by omega
          have b2b : bs + bs ≤ b2 := by omega
          have J5 : Hid (∃ Z, RowN w5 g Z ∧ Half cf z bs 0 Z) := by obtain ⟨Z, q1, q2⟩ := hR5.out; exact ⟨Z, q1, HS.out bs Z q2⟩
          clear hR5 hb2'
          go_wp2
          go_loopw [7, 8] (fun I J wr0 => ∃ (w6 : World) (a b : Nat), w6 = wr0 ∧ a ≤ N ∧ a + b2 ≤ b ∧ b ≤ a + b2 ∧ I = .int .i64 a ∧ J = .int .i64 b ∧ w.grownBy w6 (some g) ∧ Hid (∃ Z, RowN w6 g Z ∧ Half cf z bs a Z)) (fun I J _ => N + b2 - (intOf J).toNat)
          case atStart => exact ⟨_, 0, b2, rfl, by omega, by omega, by omega, rfl, rfl, hG5, J5⟩
          case round =>
            obtain ⟨w6, a, b, rfl, ha, hb1, hb2, rfl, rfl, hG6, hR6⟩ := hrel
            obtain ⟨m, hm⟩ : ∃ m, a + bs = m := ⟨_, rfl⟩
            have r1 : IntKind.i64.wrap ((a : Int) + bs) = (m : Int) := by rw [IntKind.wrap_i64]; omega
            have HM := Lib.hid hm
            have ma : m ≤ a + bs := by omega
            have mb : a + bs ≤ m := by omega
            clear hm
            by_cases hbN : b ≤ N
            · have cS := H3.out bs a m b w6 hbs HM.out (by omega) hbN hG6 hR6.out
              have r0 : (b : Int) ≤ (N : Int) := by omega
              have r2 : IntKind.i64.wrap ((b : Int) + b2) = ((b + b2 : Nat) : Int) := by rw [IntKind.wrap_i64]; omega
              clear hR6
              go_wp2_with (go_at_call 121; ((with_reducible refine cS.mono ?_); rintro e w7 ⟨⟨v, rfl⟩, hR7, hG7⟩; have J7 := Lib.hid hR7; clear hR7 cS))
              all_goals go_roundw
              all_goals first | exact ⟨_, b, b + b2, rfl, by omega, by omega, by omega, rfl, rfl, hG7, J7⟩ | (simp [intOf]; omega)
            · have r0 : ¬ (b : Int) ≤ (N : Int) := by omega
              by_cases hmN : m < N
              · have cS := H4.out bs b2 a m w6 hbs HB.out HM.out (by omega) hmN hG6 hR6.out
                have r3 : (m : Int) < (N : Int) := by omega
                clear hR6
                go_wp2_with (go_at_call 121; ((with_reducible refine cS.mono ?_); rintro e w7 ⟨⟨v, rfl⟩, hR7, hG7⟩; have J7 := Lib.hid hR7; clear hR7 cS))
                all_goals go_roundw
                all_goals first | exact ⟨_, b2, rfl, by omega, by omega, rfl, hG7, J7⟩ | (simp [intOf]; omega)
              · have r3 : ¬ (m : Int) < (N : Int) := by omega
                have J7 : Hid (∃ Z, RowN w6 g Z ∧ Blks cf z b2 Z) := by obtain ⟨Z, q1, q2⟩ := hR6.out; exact ⟨Z, q1, HE.out bs b2 a Z HB.out (by omega) (by omega) q2⟩
                clear hR6
                go_wp2
                all_goals go_roundw
                all_goals first | exact ⟨_, b2, rfl, by omega, by omega, rfl, hG6, J7⟩ | (simp [intOf]; omega)
        · have s0 : ¬ (bs : Int) < (N : Int) := by omega
          have J7 : Hid (∃ Z, RowN w5 g Z ∧ Z.Perm z ∧ Srt cf Z) := by obtain ⟨Z, q1, q2⟩ := hR5.out; exact ⟨Z, q1, HF.out bs Z (by omega) hbs q2⟩
          clear hR5
          go_wp2
          go_end0
          exact ⟨⟨_, rfl⟩, J7.out, hG5⟩
theorem stableFunc_any (g gc gl n : Nat) (l : List Cl) (w0 : World) (hc : CmpIn g gc gl n l w0) (cf : Nat → Nat → Int) (hcf : ∀ i j, cmpC (atC l i) (atC l j) = cf i j) (h3 : Cmp3 cf) (z : List Nat) (hz : z.Pairwise (· < ·)) (hlt : ∀ y ∈ z, y < n) (N cap : Nat) (hN : N = z.length) (hN2 : N ≤ 1000000) (w : World) (hbw : Below g w0 w) (hr : RowN w g z) :
    Calls Tryz.prog 71 #[.slice (some ⟨g, 0, none⟩) N cap, .func (.func 88) #[] #[.pointer (some ⟨gc, 0, none⟩), .pointer (some ⟨gl, 0, none⟩)]] w fun e w' => (∃ v, e = .returned v) ∧ (∃ Z, RowN w' g Z ∧ Z.Perm z ∧ Srt cf Z) ∧ w.grownBy w' (some g) := by
  have cI := stable_any g gc gl n l w0 hc cf hcf h3 z hz hlt N cap hN hN2 w hbw hr
  clear hr hc hlt hN hcf h3 hz
  go_enter Tryz.func71, Tryz.ntmps71
  go_wp2_with (go_at_call 106; ((with_reducible refine cI.mono ?_); rintro e w1 ⟨⟨v, rfl⟩, hR, hG⟩; have HR := Lib.hid hR; clear hR))
  go_end0
  exact ⟨⟨_, rfl⟩, HR.out, hG⟩

end Go.Proofs.YtjjfbgadpgckeaaGreat.K
namespace Go.Proofs.YtjjfbgadpgckeaaGreat.K
open Go.RowKit L T
open C (Cl atC cmpC eqC CsW)
set_option linter.unusedVariables false
set_option linter.unusedSimpArgs false

set_option maxRecDepth 100000 in
set_option maxHeartbeats 8000000 in
theorem compact_any (g gc gl n : Nat) (l : List Cl) (w0 : World) (hc : EqIn g gc gl n l w0) (ef : Nat → Nat → Bool) (hef : ∀ i j, eqC (atC l i) (atC l j) = ef i j) (zs : List Nat) (hlt : ∀ z ∈ zs, z < n) (N : Nat) (hN : N = zs.length) (hN2 : N ≤ 1000000) (w : World) (hb : Below g w0 w) (hr : RowN w g zs) :
    Calls Tryz.prog 73 #[.slice (some ⟨g, 0, none⟩) N N, .func (.func 89) #[] #[.pointer (some ⟨gc, 0, none⟩), .pointer (some ⟨gl, 0, none⟩)]] w fun e w' => e = .returned (.slice (some ⟨g, 0, none⟩) (comp ef zs).length N) ∧ (∃ R, RowN w' g (comp ef zs ++ R)) ∧ w.grownBy w' (some g) := by
  have hg := Blk.lt hr
  by_cases h2 : N < 2
  · have h2' : (N : Int) < 2 := by omega
    have hcz : comp ef zs = zs := by
      match zs, hN with
      | [], _ => rfl
      | [x], _ => rfl
      | x :: y :: l, h => simp at h; omega
    have Hr := Lib.hid (show Ending.returned (.slice (some ⟨g, 0, none⟩) N N) = .returned (.slice (some ⟨g, 0, none⟩) (comp ef zs).length N) ∧ ∃ R, RowN w g (comp ef zs ++ R) from by rw [hcz, ← hN]; exact ⟨rfl, [], by simpa using hr⟩)
    clear hr hc hlt hN hcz hef
    go_enter Tryz.func73, Tryz.ntmps73
    go_wp2
    go_ret
    exact ⟨Hr.out.1, Hr.out.2, World.grownBy.refl _ _⟩
  · have h2' : ¬ (N : Int) < 2 := by omega
    have HC := Lib.hid hc
    have Hef := Lib.hid hef
    have Hlt := Lib.hid hlt
    have HN := Lib.hid hN
    have HC0 : Hid (comp ef (zs.take 1) = zs.take 1) := by
      show _ = _
      match zs with
      | [] => rfl
      | x :: l => simp [comp, gof]
    have HCN : Hid (comp ef (zs.take N) = zs.take N → (∃ R, comp ef zs ++ R = zs) ∧ N = (comp ef zs).length) := fun h => by
      rw [hN, List.take_length] at h
      exact ⟨⟨[], by rw [h]; simp⟩, by rw [h]; exact hN⟩
    have HCD : Hid (∀ k R, CmpI ef zs k N R → (∃ R', R = comp ef zs ++ R') ∧ k = (comp ef zs).length) := fun k R h => by
      obtain ⟨a, b, c⟩ := h
      rw [hN, List.take_length] at a b
      exact ⟨⟨_, a⟩, b⟩
    have Hr := Lib.hid hr
    clear hr hc hlt hN hef
    go_enter Tryz.func73, Tryz.ntmps73
    go_wp2
    go_loopw [5] (fun i wr0 => ∃ (wr : World) (k : Nat), wr = wr0 ∧ k < N ∧ i = .int .i64 ((k : Int) + 1) ∧ w.grownBy wr (some g) ∧ Hid (RowN wr g zs ∧ comp ef (zs.take (k + 1)) = zs.take (k + 1))) (fun i _ => N - (intOf i).toNat)
    case atStart => exact ⟨_, 0, rfl, by omega, rfl, World.grownBy.refl _ _, Lib.hid ⟨Hr.out, HC0.out⟩⟩
    case round =>
      obtain ⟨wr, k, rfl, hk, rfl, hG, hR⟩ := hrel
      by_cases hlk : k + 1 < N
      · have hk0 : k < zs.length := by have := HN.out; omega
        have hk1 : k + 1 < zs.length := by have := HN.out; omega
        obtain ⟨x, hx⟩ : ∃ x, zs[k]? = some x := ⟨_, List.getElem?_eq_getElem hk0⟩
        obtain ⟨y, hy⟩ : ∃ y, zs[k + 1]? = some y := ⟨_, List.getElem?_eq_getElem hk1⟩
        have c0 := RowN.at hR.out.1 hx
        have c1 := RowN.at hR.out.1 hy
        have hgr := Blk.lt hR.out.1
        have hBd : Below wr.heap.size wr wr.drew := (Below.refl _ _).drew
        have hB2 : Below g w0 wr.drew := (hb.trans (gr_below hG (Nat.le_of_lt hg) (Nat.le_refl _))).drew
        have cE := HC.out y x wr.drew hB2 (Nat.le_of_lt hgr) (Hlt.out y (List.mem_of_getElem? hy)) (Hlt.out x (List.mem_of_getElem? hx))
        rw [Hef.out] at cE
        have hsn := comp_snoc ef hx hy
        have hwr : IntKind.i64.wrap ((k : Int) + 1 - 1) = (k : Int) := by rw [IntKind.wrap_i64]; omega
        have hwr2 : IntKind.i64.wrap (k : Int) = (k : Int) := by rw [IntKind.wrap_i64]; omega
        have hi0 : 0 ≤ (k : Int) := by omega
        have hi1 : 0 ≤ (k : Int) + 1 := by omega
        have hi2 : (k : Int) + 1 < (N : Int) := by omega
        have hi3 : (k : Int) < (N : Int) := by omega
        have HRow := Lib.hid hR.out.1
        cases heq : ef y x with
        | false =>
          rw [heq] at cE hsn
          have Hn := Lib.hid (show comp ef (zs.take (k + 1 + 1)) = zs.take (k + 1 + 1) from by
            rw [show k + 1 + 1 = k + 2 from rfl, hsn, hR.out.2, if_neg (by simp), List.take_add_one (i := k + 1), hy]; rfl)
          clear hR hx hy hk0 hk1 hsn heq
          go_upto_region 6 with fail
          go_region_held3 (fun w' => w'.cell? ⟨g, k, none⟩ = some (.int .i64 x) ∧ w'.cell? ⟨g, k + 1, none⟩ = some (.int .i64 y))
            (first | go_keep | (exact ⟨(B4.cell hgr).trans c0, (B4.cell hgr).trans c1⟩))
            (first | (go_at_call 89; ((with_reducible refine cE.mono ?_); rintro e w4 ⟨rfl, hb4⟩; have B4 := bel_trans hBd hb4; have H4 := Lib.hid (Blk.below HRow.out B4))))
          have hg4 : wr.grownBy w4 (some g) := gr_of_below B4 B4.tape
          go_wp2
          go_roundw
          case rel => exact ⟨_, k + 1, rfl, by omega, by go_num, hG.trans hg4, Lib.hid ⟨H4.out, Hn.out⟩⟩
          case measure => simp [intOf]; omega
        | true =>
          rw [heq] at cE hsn
          have Hst : Hid (CmpI ef zs (k + 1) (k + 2) zs) := by
            rw [if_pos rfl, List.append_nil, hR.out.2] at hsn
            refine ⟨by rw [hsn]; exact (List.take_append_drop _ _).symm, by rw [hsn]; simp; omega, by omega⟩
          clear hR hx hy hk0 hk1 hsn heq
          have hne : ¬ N = k + 1 := by omega
          have hle : (k : Int) + 1 ≤ (N : Int) := by omega
          go_upto_region 6 with fail
          go_region_held3 (fun w' => w'.cell? ⟨g, k, none⟩ = some (.int .i64 x) ∧ w'.cell? ⟨g, k + 1, none⟩ = some (.int .i64 y))
            (first | go_keep | (exact ⟨(B4.cell hgr).trans c0, (B4.cell hgr).trans c1⟩))
            (first | (go_at_call 89; ((with_reducible refine cE.mono ?_); rintro e w4 ⟨rfl, hb4⟩; have B4 := bel_trans hBd hb4; have H4 := Lib.hid (Blk.below HRow.out B4))))
          have hg4 : wr.grownBy w4 (some g) := gr_of_below B4 B4.tape
          have hG4 := hG.trans hg4
          clear c0 c1 hgr hBd hB2 cE HRow
          go_wp2
          go_loopw [5, 7] (fun kk jj wr0 => ∃ (w2 : World) (q i : Nat), w2 = wr0 ∧ kk = .int .i64 (q : Int) ∧ jj = .int .i64 ((i : Int) + 1) ∧ k + 2 + i ≤ N ∧ q + 1 ≤ k + 2 + i ∧ w.grownBy w2 (some g) ∧ Hid (∃ R, RowN w2 g R ∧ CmpI ef zs q (k + 2 + i) R)) (fun kk jj _ => N - (intOf jj).toNat)
          case atStart => exact ⟨_, k + 1, 0, rfl, by go_num, rfl, by omega, by omega, hG4, Lib.hid ⟨zs, H4.out, Hst.out⟩⟩
          case round =>
            obtain ⟨w2, q, i, rfl, rfl, rfl, hjn, hqj, hG2, hI⟩ := hrel
            obtain ⟨R, hRow2, hCI⟩ := hI.out
            have hgr2 := Blk.lt hRow2
            clear hI
            by_cases hlt2 : k + 2 + i < N
            · obtain ⟨x2, hx2⟩ : ∃ p, zs[k + 1 + i]? = some p := ⟨_, List.getElem?_eq_getElem (by have := HN.out; omega)⟩
              obtain ⟨y2, hy2⟩ : ∃ p, zs[k + 1 + i + 1]? = some p := ⟨_, List.getElem?_eq_getElem (by have := HN.out; omega)⟩
              rw [show k + 2 + i = k + 1 + i + 1 by omega] at hCI
              have c0 := RowN.at hRow2 (hCI.at (q := k + 1 + i) (by omega) hx2)
              have c1 := RowN.at hRow2 (hCI.at (q := k + 1 + i + 1) (by omega) hy2)
              rw [show k + 1 + i + 1 = k + 1 + (i + 1) by omega] at c1
              have hBd : Below w2.heap.size w2 w2.drew := (Below.refl _ _).drew
              have hB2 : Below g w0 w2.drew := (hb.trans (gr_below hG2 (Nat.le_of_lt hg) (Nat.le_refl _))).drew
              have cE := HC.out y2 x2 w2.drew hB2 (Nat.le_of_lt hgr2) (Hlt.out y2 (List.mem_of_getElem? hy2)) (Hlt.out x2 (List.mem_of_getElem? hx2))
              rw [Hef.out] at cE
              have HRow := Lib.hid hRow2
              have hwr3 : IntKind.i64.wrap ((i : Int) + 1 - 1) = (i : Int) := by rw [IntKind.wrap_i64]; omega
              have hwr4 : IntKind.i64.wrap (i : Int) = (i : Int) := by rw [IntKind.wrap_i64]; omega
              have j0 : 0 ≤ (i : Int) := by omega
              have j1 : 0 ≤ (i : Int) + 1 := by omega
              have j2 : (i : Int) + 1 < ((N - (k + 1) : Nat) : Int) := by omega
              have j3 : (i : Int) < ((N - (k + 1) : Nat) : Int) := by omega
              have q0 : 0 ≤ (q : Int) := by omega
              have q1 : (q : Int) < (N : Int) := by omega
              cases heq : ef y2 x2 with
              | true =>
                have Hn := Lib.hid (hCI.same hx2 hy2 heq)
                rw [heq] at cE
                clear hRow2 hCI hx2 hy2 heq
                go_upto_region 11 with fail
                go_region_held3 (fun w' => w'.cell? ⟨g, k + 1 + i, none⟩ = some (.int .i64 x2) ∧ w'.cell? ⟨g, k + 1 + (i + 1), none⟩ = some (.int .i64 y2))
                  (first | go_keep | (exact ⟨(B5.cell hgr2).trans c0, (B5.cell hgr2).trans c1⟩))
                  (first | (go_at_call 89; ((with_reducible refine cE.mono ?_); rintro e w5 ⟨rfl, hb5⟩; have B5 := bel_trans hBd hb5; have H5 := Lib.hid (Blk.below HRow.out B5))))
                have hg5 : w2.grownBy w5 (some g) := gr_of_below B5 B5.tape
                go_wp2
                all_goals go_roundw
                case rel => exact ⟨_, q, i + 1, rfl, rfl, by go_num, by omega, by omega, hG2.trans hg5, Lib.hid ⟨R, H5.out, by rw [show k + 2 + (i + 1) = k + 1 + i + 2 by omega]; exact Hn.out⟩⟩
                case measure => simp [intOf]; omega
              | false =>
                have Hn := Lib.hid (hCI.other hx2 hy2 heq)
                rw [heq] at cE
                have hRl := hCI.len (by have := HN.out; omega)
                obtain ⟨u, hu⟩ : ∃ u, R[q]? = some u := ⟨_, List.getElem?_eq_getElem (by have := HN.out; omega)⟩
                have cu := RowN.at hRow2 hu
                have fu := Blk.free hRow2 q
                clear hRow2 hCI hx2 hy2 heq hRl hu
                go_upto_region 11 with fail
                go_region_held3 (fun w' => w'.cell? ⟨g, k + 1 + i, none⟩ = some (.int .i64 x2) ∧ w'.cell? ⟨g, k + 1 + (i + 1), none⟩ = some (.int .i64 y2))
                  (first | go_keep | (exact ⟨(B5.cell hgr2).trans c0, (B5.cell hgr2).trans c1⟩))
                  (first | (go_at_call 89; ((with_reducible refine cE.mono ?_); rintro e w5 ⟨rfl, hb5⟩; have B5 := bel_trans hBd hb5; have H5 := Lib.hid (Blk.below HRow.out B5))))
                have hg5 : w2.grownBy w5 (some g) := gr_of_below B5 B5.tape
                have HS := Lib.hid (RowN.set H5.out q y2)
                have d1 := (B5.cell (p := ⟨g, k + 1 + (i + 1), none⟩) hgr2).trans c1
                have d2 := (B5.cell (p := ⟨g, q, none⟩) hgr2).trans cu
                have d3 := (B5.frozen (p := ⟨g, q, none⟩) hgr2).trans fu
                clear c0 c1 cu fu
                go_wp2
                all_goals go_roundw
                case rel => exact ⟨_, q + 1, i + 1, rfl, by go_num, by go_num, by omega, by omega, gr_set (hG2.trans hg5) _ _, Lib.hid ⟨_, HS.out, by rw [show k + 2 + (i + 1) = k + 1 + i + 2 by omega]; exact Hn.out⟩⟩
                case measure => simp [intOf]; omega
            · obtain rfl : N = k + 2 + i := by omega
              obtain ⟨⟨R', hR'⟩, hq⟩ := HCD.out q R hCI
              have hRl := hCI.len (by have := HN.out; omega)
              have hcl := clear_row w2 g q R (k + 2 + i - q) (k + 2 + i - q) (by omega) (by have := HN.out; omega) hRow2
              have HK := Lib.hid (show (∃ R2, RowN (w2.setCells g q (List.replicate (k + 2 + i - q) (.int .i64 0))) g (comp ef zs ++ R2)) ∧ q = (comp ef zs).length from by
                rw [hR'] at hRow2
                obtain ⟨R2, e1, e2⟩ := RowN.wipe (k + 2 + i - q) q R' w2 (by omega) hRow2
                exact ⟨⟨R2, e2⟩, hq⟩)
              have j2 : ¬ (i : Int) + 1 < ((k + 2 + i - (k + 1) : Nat) : Int) := by omega
              have q0 : 0 ≤ (q : Int) := by omega
              have q1 : (q : Int) ≤ ((k + 2 + i : Nat) : Int) := by omega
              have q2 : ¬ k + 2 + i = q := by omega
              have hG7 := gr_setCells (List.replicate (k + 2 + i - q) (.int .i64 0)) q w2 hG2
              clear hRow2 hCI hR' hq hRl
              go_wp2
              go_ret
              exact ⟨by rw [← HK.out.2]; rfl, HK.out.1, hG7⟩
      · have hi2 : ¬ (k : Int) + 1 < (N : Int) := by omega
        obtain rfl : N = k + 1 := by omega
        have HE := Lib.hid (HCN.out hR.out.2)
        have HRow := Lib.hid hR.out.1
        clear hR
        go_wp2
        go_ret
        obtain ⟨⟨R, h1⟩, h2⟩ := HE.out
        exact ⟨by rw [← h2]; rfl, ⟨R, by rw [h1]; exact HRow.out⟩, hG⟩

end Go.Proofs.YtjjfbgadpgckeaaGreat.K
