/-
  What is proved: the walk of CnfBack: it returns true.
-/
import Derived.Test.YthchjceibpcgbaaDoorCnLr
namespace Go.Proofs.YthchjceibpcgbaaDoor.Cn
open Go.RowKit L Lt
set_option linter.unusedVariables false
set_option linter.unusedSimpArgs false

theorem tx_size {N : Int} {G : List (List Int)} (h : (rgC N G).2 = 0) (hr : ∀ c ∈ G, R64s c) : (Dig.BA (txT N G)).size ≤ 10000000 := by
  obtain ⟨h1, h2, h3⟩ := rgC_ok.1 h
  have h4 := tkT_len (N := N) (n := G.length) (L := G) ⟨by omega, by omega⟩ (by omega) (fun c hc => ⟨hr c hc, (rg1_ok.1 (h3 c hc)).1⟩)
  have e : txT N G = tkT N G.length G := rfl
  rw [Dig.BA_size, e]
  have : G.length * 1346 ≤ 4096 * 1346 := Nat.mul_le_mul_right _ h2
  omega
theorem read_of {s : ByteArray} {R : Rd} (h : rdC s.data.toList = R) (hs : s.size ≤ 10000000) (w : World) :
    Calls Tryd.prog 12 #[.string s] w fun e w' => ∃ A m k, e = .returned (.tuple #[.agg #[.int .i64 R.n, .slice A m k], .int .i64 R.line, .int .i64 R.e]) ∧ (⟨R.n, A, m, k, R.L⟩ : CfZ).ok w' ∧ Below w.heap.size w w' := by
  subst h
  exact (Read_any s w hs).mono fun e w' h => RP.z h
set_option maxRecDepth 100000 in
set_option maxHeartbeats 16000000 in
theorem cnfBack (z : CfZ) (text : ByteArray) (W : World) (h : z.ok W) (hs : text.size ≤ 9223372036854775807) (HT : Dig.Tab W) :
    Calls Tryd.prog 5 #[z.val, .string text] W fun e w' => e = .returned (.bool true) ∧ Below W.heap.size W w' := by
  obtain ⟨N, a, n, c, G⟩ := z
  show Calls Tryd.prog 5 #[.agg #[.int .i64 N, .slice a n c], .string text] W _
  obtain ⟨W2, hW2, hB2, S2⟩ := boxC W N a n c
  have h2 := h.below hB2
  have HS := Lib.hid (show ∀ w', Below W2.heap.size W2 w' → (w'.cell? ⟨W.heap.size, 0, none⟩ = some (.int .i64 N) ∧ w'.cell? ⟨W.heap.size, 1, none⟩ = some (.slice a n c)) from fun w' hb => (S2.b hb).two)
  obtain ⟨s0, s1⟩ := S2.two
  have CA := Lib.hid (fun (w : World) (hb : Below W2.heap.size W2 w) => alive_any HT w (bel_trans hB2 hb))
  have CL := Lib.hid (fun (w : World) (hb : Below W2.heap.size W2 w) => RLong_any a n c G 60 w (h2.2.2.1.below hb) h2.2.1)
  have CT := Lib.hid (fun (w : World) (hb : Below W2.heap.size W2 w) => (show Calls Tryd.prog 10 #[.agg #[.int .i64 N, .slice a n c]] w (fun e w' => e = .returned (.tuple #[.string (Dig.BA (if (rgC N G).2 = 0 then txT N G else [])), .int .i64 (rgC N G).2]) ∧ Below w.heap.size w w') from Text_any HT ⟨N, a, n, c, G⟩ w (bel_trans hB2 hb) (h2.below hb)))
  have HB2 := Lib.hid hB2
  have B0 : Below W2.heap.size W2 W2 := Below.refl _ _
  have HR := Lib.hid (fun X hX => (h.2.2.2 X hX).1)
  by_cases ht : text.size ≤ 800
  · have q0 : decide ((text.size : Int) > 800) = false := decide_eq_false (by omega)
    have hr := rdC_r text.data.toList
    have C2 := Lib.hid (fun (w : World) => read_of (s := text) rfl (by omega) w)
    have CT2 := Lib.hid (fun (A : Option Addr) (m k : Nat) (w : World) (hb : Below W2.heap.size W2 w) (hz : (⟨(rdC text.data.toList).n, A, m, k, (rdC text.data.toList).L⟩ : CfZ).ok w) => (show Calls Tryd.prog 10 #[.agg #[.int .i64 (rdC text.data.toList).n, .slice A m k]] w (fun e w' => e = .returned (.tuple #[.string (Dig.BA (txT (rdC text.data.toList).n (rdC text.data.toList).L)), .int .i64 0]) ∧ Below w.heap.size w w') from by
      have := Text_any HT ⟨(rdC text.data.toList).n, A, m, k, (rdC text.data.toList).L⟩ w (bel_trans hB2 hb) hz
      simp only [hr.1, if_true] at this
      exact this))
    have C3 := Lib.hid (fun (w : World) => read_of (s := Dig.BA (txT (rdC text.data.toList).n (rdC text.data.toList).L)) (R := ⟨(rdC text.data.toList).n, (rdC text.data.toList).L, 0, 0⟩) (by rw [Dig.BA_list]; exact rd_tx_rd text.data.toList) (tx_size hr.1 hr.2.1) w)
    have hln : ∀ X ∈ (rdC text.data.toList).L, X.length ≤ 9223372036854775807 := fun X hX => by
      have := (rg1_ok.1 ((rgC_ok.1 hr.1).2.2 X hX)).1; omega
    have CB2 := Lib.hid (fun (A : Option Addr) (m k : Nat) (A' : Option Addr) (m' k' : Nat) (w : World) (h : (⟨(rdC text.data.toList).n, A, m, k, (rdC text.data.toList).L⟩ : CfZ).ok w) (h' : (⟨(rdC text.data.toList).n, A', m', k', (rdC text.data.toList).L⟩ : CfZ).ok w) =>
      CnfB_any (rdC text.data.toList).n A m k (rdC text.data.toList).L (rdC text.data.toList).n A' m' k' (rdC text.data.toList).L w h.2.2.1 h'.2.2.1 h.2.1 hln)
    simp only [decide_true, Bool.and_self, and_self] at CB2
    have hk2 := Lib.hid (show ∀ (A : Option Addr) (m k : Nat) (w w' : World), (⟨(rdC text.data.toList).n, A, m, k, (rdC text.data.toList).L⟩ : CfZ).ok w → Below w.heap.size w w' → (⟨(rdC text.data.toList).n, A, m, k, (rdC text.data.toList).L⟩ : CfZ).ok w' from fun A m k w w' h hb => h.below hb)
    have he := Lib.hid hr.2.2
    clear hr hln
    generalize rdC text.data.toList = R at *
    obtain ⟨n2, L2, line, er⟩ := R
    simp only at C2 CT2 C3 CB2 hk2 he
    generalize txT n2 L2 = T2 at *
    have hk1 := Lib.hid (show ∀ (A : Option Addr) (m k : Nat) (w w' : World), (⟨N, A, m, k, G⟩ : CfZ).ok w → Below w.heap.size w w' → (⟨N, A, m, k, G⟩ : CfZ).ok w' from fun A m k w w' h hb => h.below hb)
    cases hlg : lgG G 60
    · rw [hlg] at CL
      by_cases hrg : (rgC N G).2 = 0
      · have C1 := Lib.hid (fun (w : World) => read_of (s := Dig.BA (txT N G)) (R := ⟨N, G, 0, 0⟩) (by rw [Dig.BA_list]; exact rd_tx hrg HR.out) (tx_size hrg HR.out) w)
        have CB1 := Lib.hid (fun (A : Option Addr) (m k : Nat) (w : World) (hb : Below W2.heap.size W2 w) (hz : (⟨N, A, m, k, G⟩ : CfZ).ok w) => CnfB_any N a n c G N A m k G w (h2.below hb).2.2.1 hz.2.2.1 h2.2.1 (fun X hX => (h2.2.2.2 X hX).2))
        simp only [decide_true, Bool.and_self, and_self] at CB1
        rw [hrg, if_pos rfl] at CT
        try simp only at C1
        clear hrg h h2 hB2 S2 HT HR hlg
        generalize txT N G = T1 at *
        by_cases he0 : er = 0
        · subst he0
          clear he
          go_enter Tryd.func5, Tryd.ntmps5
          go_wp2_with (first
            | (go_at_call 6; ((with_reducible refine (CA.out _ (by assumption)).mono ?_); rintro e w1 ⟨rfl, b1⟩; have B1 := bel_trans (a := W2) (by assumption) b1; obtain ⟨u0, u1⟩ := HS.out _ B1; clear b1))
            | (go_at_call 7; ((with_reducible refine (CL.out _ (by assumption)).mono ?_); rintro e w2 ⟨rfl, rfl⟩))
            | (go_at_call 10; ((with_reducible refine (CT.out _ B1).mono ?_); rintro e w3 ⟨rfl, b3⟩; have B3 := bel_trans B1 b3; obtain ⟨v0, v1⟩ := HS.out _ B3; have H3 := Lib.hid trivial; clear b3))
            | (go_at_call 12; ((with_reducible refine (C1.out _).mono ?_); rintro e w4 ⟨A4, m4, k4, rfl, hz4, b4⟩; have B4 := bel_trans B3 b4; obtain ⟨W4, hW4, b4', S4⟩ := boxC w4 N A4 m4 k4; have Z4 := Lib.hid (hk1.out _ _ _ _ _ hz4 b4'); have C4 := bel_trans B4 b4'; obtain ⟨x0, x1⟩ := S4.two; obtain ⟨y0, y1⟩ := HS.out _ C4; have cB := CB1.out _ _ _ _ C4 Z4.out; clear hz4 b4 b4' S4))
            | (go_at_call 14; ((with_reducible refine cB.mono ?_); rintro e w5 ⟨rfl, b5⟩; have B5 := bel_trans C4 b5; clear cB b5))
            | (go_at_call 12; ((with_reducible refine (C2.out _).mono ?_); rintro e w6 ⟨A6, m6, k6, rfl, hz6, b6⟩; have B6 := bel_trans B5 b6; obtain ⟨W6, hW6, b6', S6⟩ := boxC w6 n2 A6 m6 k6; have Z6 := Lib.hid (hk2.out _ _ _ _ _ hz6 b6'); have C6 := bel_trans B6 b6'; obtain ⟨p0, p1⟩ := S6.two; have S6' := Lib.hid S6; have cT2 := CT2.out _ _ _ _ C6 Z6.out; clear hz6 b6 b6' S6))
            | (go_at_call 10; ((with_reducible refine cT2.mono ?_); rintro e w7 ⟨rfl, b7⟩; have B7 := bel_trans C6 b7; have Z7 := Lib.hid (hk2.out _ _ _ _ _ Z6.out b7); have S7 := Lib.hid (S6'.out.b b7); clear cT2 b7))
            | (go_at_call 12; ((with_reducible refine (C3.out _).mono ?_); rintro e w8 ⟨A8, m8, k8, rfl, hz8, b8⟩; have B8 := bel_trans B7 b8; have Z8 := Lib.hid (hk2.out _ _ _ _ _ Z7.out b8); have S8 := Lib.hid (S7.out.b b8); obtain ⟨W8, hW8, b8', T8⟩ := boxC w8 n2 A8 m8 k8; have Y8 := Lib.hid (hk2.out _ _ _ _ _ hz8 b8'); have Z9 := Lib.hid (hk2.out _ _ _ _ _ Z8.out b8'); have C8 := bel_trans B8 b8'; obtain ⟨q0, q1⟩ := (S8.out.b b8').two; obtain ⟨r0, r1⟩ := T8.two; have cB2 := CB2.out _ _ _ _ _ _ _ Z9.out Y8.out; clear hz8 b8 b8' T8))
            | (go_at_call 14; ((with_reducible refine cB2.mono ?_); rintro e w9 ⟨rfl, b9⟩; have B9 := bel_trans C8 b9)))
          go_ret
          exact ⟨rfl, bel_trans HB2.out B9⟩
        · have q1 : (er != 0) = true := by simp [he0]
          obtain ⟨e1, e2⟩ := he.out he0
          subst e1 e2
          have hm0 := Lib.hid (show ∀ (A : Option Addr) (m k : Nat) (w : World), (⟨0, A, m, k, []⟩ : CfZ).ok w → m = 0 from fun A m k w h => h.2.2.1.1)
          clear he he0 hk2 CT2 C3 CB2
          go_enter Tryd.func5, Tryd.ntmps5
          go_wp2_with (first
            | (go_at_call 6; ((with_reducible refine (CA.out _ (by assumption)).mono ?_); rintro e w1 ⟨rfl, b1⟩; have B1 := bel_trans (a := W2) (by assumption) b1; obtain ⟨u0, u1⟩ := HS.out _ B1; clear b1))
            | (go_at_call 7; ((with_reducible refine (CL.out _ (by assumption)).mono ?_); rintro e w2 ⟨rfl, rfl⟩))
            | (go_at_call 10; ((with_reducible refine (CT.out _ B1).mono ?_); rintro e w3 ⟨rfl, b3⟩; have B3 := bel_trans B1 b3; obtain ⟨v0, v1⟩ := HS.out _ B3; have H3 := Lib.hid trivial; clear b3))
            | (go_at_call 12; ((with_reducible refine (C1.out _).mono ?_); rintro e w4 ⟨A4, m4, k4, rfl, hz4, b4⟩; have B4 := bel_trans B3 b4; obtain ⟨W4, hW4, b4', S4⟩ := boxC w4 N A4 m4 k4; have Z4 := Lib.hid (hk1.out _ _ _ _ _ hz4 b4'); have C4 := bel_trans B4 b4'; obtain ⟨x0, x1⟩ := S4.two; obtain ⟨y0, y1⟩ := HS.out _ C4; have cB := CB1.out _ _ _ _ C4 Z4.out; clear hz4 b4 b4' S4))
            | (go_at_call 14; ((with_reducible refine cB.mono ?_); rintro e w5 ⟨rfl, b5⟩; have B5 := bel_trans C4 b5; clear cB b5))
            | (go_at_call 12; ((with_reducible refine (C2.out _).mono ?_); rintro e w6 ⟨A6, m6, k6, rfl, hz6, b6⟩; have B6 := bel_trans B5 b6; obtain rfl : m6 = 0 := hm0.out _ _ _ _ hz6; obtain ⟨W6, hW6, b6', S6⟩ := boxC w6 0 A6 0 k6; have C6 := bel_trans B6 b6'; obtain ⟨p0, p1⟩ := S6.two; clear hz6 b6 b6' S6)))
          go_ret
          exact ⟨rfl, bel_trans HB2.out C6⟩
      · have q2 : ((rgC N G).2 == 0) = false := by simp [hrg]
        rw [if_neg hrg] at CT
        clear hrg h h2 hB2 S2 HT HR hlg hk1
        generalize (rgC N G).2 = R2 at *
        by_cases he0 : er = 0
        · subst he0
          clear he
          go_enter Tryd.func5, Tryd.ntmps5
          go_wp2_with (first
            | (go_at_call 6; ((with_reducible refine (CA.out _ (by assumption)).mono ?_); rintro e w1 ⟨rfl, b1⟩; have B1 := bel_trans (a := W2) (by assumption) b1; obtain ⟨u0, u1⟩ := HS.out _ B1; clear b1))
            | (go_at_call 7; ((with_reducible refine (CL.out _ (by assumption)).mono ?_); rintro e w2 ⟨rfl, rfl⟩))
            | (go_at_call 10; ((with_reducible refine (CT.out _ B1).mono ?_); rintro e w3 ⟨rfl, b3⟩; have B3 := bel_trans B1 b3; obtain ⟨v0, v1⟩ := HS.out _ B3; have H3 := Lib.hid trivial; clear b3))
            | (go_at_call 12; ((with_reducible refine (C2.out _).mono ?_); rintro e w6 ⟨A6, m6, k6, rfl, hz6, b6⟩; have B6 := bel_trans B3 b6; obtain ⟨W6, hW6, b6', S6⟩ := boxC w6 n2 A6 m6 k6; have Z6 := Lib.hid (hk2.out _ _ _ _ _ hz6 b6'); have C6 := bel_trans B6 b6'; obtain ⟨p0, p1⟩ := S6.two; have S6' := Lib.hid S6; have cT2 := CT2.out _ _ _ _ C6 Z6.out; clear hz6 b6 b6' S6))
            | (go_at_call 10; ((with_reducible refine cT2.mono ?_); rintro e w7 ⟨rfl, b7⟩; have B7 := bel_trans C6 b7; have Z7 := Lib.hid (hk2.out _ _ _ _ _ Z6.out b7); have S7 := Lib.hid (S6'.out.b b7); clear cT2 b7))
            | (go_at_call 12; ((with_reducible refine (C3.out _).mono ?_); rintro e w8 ⟨A8, m8, k8, rfl, hz8, b8⟩; have B8 := bel_trans B7 b8; have Z8 := Lib.hid (hk2.out _ _ _ _ _ Z7.out b8); have S8 := Lib.hid (S7.out.b b8); obtain ⟨W8, hW8, b8', T8⟩ := boxC w8 n2 A8 m8 k8; have Y8 := Lib.hid (hk2.out _ _ _ _ _ hz8 b8'); have Z9 := Lib.hid (hk2.out _ _ _ _ _ Z8.out b8'); have C8 := bel_trans B8 b8'; obtain ⟨q0, q1⟩ := (S8.out.b b8').two; obtain ⟨r0, r1⟩ := T8.two; have cB2 := CB2.out _ _ _ _ _ _ _ Z9.out Y8.out; clear hz8 b8 b8' T8))
            | (go_at_call 14; ((with_reducible refine cB2.mono ?_); rintro e w9 ⟨rfl, b9⟩; have B9 := bel_trans C8 b9)))
          go_ret
          exact ⟨rfl, bel_trans HB2.out B9⟩
        · have q1 : (er != 0) = true := by simp [he0]
          obtain ⟨e1, e2⟩ := he.out he0
          subst e1 e2
          have hm0 := Lib.hid (show ∀ (A : Option Addr) (m k : Nat) (w : World), (⟨0, A, m, k, []⟩ : CfZ).ok w → m = 0 from fun A m k w h => h.2.2.1.1)
          clear he he0 hk2 CT2 C3 CB2
          go_enter Tryd.func5, Tryd.ntmps5
          go_wp2_with (first
            | (go_at_call 6; ((with_reducible refine (CA.out _ (by assumption)).mono ?_); rintro e w1 ⟨rfl, b1⟩; have B1 := bel_trans (a := W2) (by assumption) b1; obtain ⟨u0, u1⟩ := HS.out _ B1; clear b1))
            | (go_at_call 7; ((with_reducible refine (CL.out _ (by assumption)).mono ?_); rintro e w2 ⟨rfl, rfl⟩))
            | (go_at_call 10; ((with_reducible refine (CT.out _ B1).mono ?_); rintro e w3 ⟨rfl, b3⟩; have B3 := bel_trans B1 b3; obtain ⟨v0, v1⟩ := HS.out _ B3; have H3 := Lib.hid trivial; clear b3))
            | (go_at_call 12; ((with_reducible refine (C2.out _).mono ?_); rintro e w6 ⟨A6, m6, k6, rfl, hz6, b6⟩; have B6 := bel_trans B3 b6; obtain rfl : m6 = 0 := hm0.out _ _ _ _ hz6; obtain ⟨W6, hW6, b6', S6⟩ := boxC w6 0 A6 0 k6; have C6 := bel_trans B6 b6'; obtain ⟨p0, p1⟩ := S6.two; clear hz6 b6 b6' S6)))
          go_ret
          exact ⟨rfl, bel_trans HB2.out C6⟩
    · rw [hlg] at CL
      clear h h2 hB2 S2 HT HR hlg hk1
      go_enter Tryd.func5, Tryd.ntmps5
      go_wp2_with (first
        | (go_at_call 6; ((with_reducible refine (CA.out _ (by assumption)).mono ?_); rintro e w1 ⟨rfl, b1⟩; have B1 := bel_trans (a := W2) (by assumption) b1; obtain ⟨u0, u1⟩ := HS.out _ B1; clear b1))
        | (go_at_call 7; ((with_reducible refine (CL.out _ (by assumption)).mono ?_); rintro e w2 ⟨rfl, rfl⟩)))
      go_ret
      exact ⟨rfl, bel_trans HB2.out B1⟩
  · have q0 : decide ((text.size : Int) > 800) = true := decide_eq_true (by omega)
    clear h h2 hB2 S2 HT HR ht
    generalize lgG G 60 = lg at *
    cases lg
    · go_enter Tryd.func5, Tryd.ntmps5
      go_wp2_with (first
        | (go_at_call 6; ((with_reducible refine (CA.out _ (by assumption)).mono ?_); rintro e w1 ⟨rfl, b1⟩; have B1 := bel_trans (a := W2) (by assumption) b1; obtain ⟨u0, u1⟩ := HS.out _ B1; clear b1))
        | (go_at_call 7; ((with_reducible refine (CL.out _ (by assumption)).mono ?_); rintro e w2 ⟨rfl, rfl⟩)))
      go_ret
      exact ⟨rfl, bel_trans HB2.out B1⟩
    · go_enter Tryd.func5, Tryd.ntmps5
      go_wp2_with (first
        | (go_at_call 6; ((with_reducible refine (CA.out _ (by assumption)).mono ?_); rintro e w1 ⟨rfl, b1⟩; have B1 := bel_trans (a := W2) (by assumption) b1; obtain ⟨u0, u1⟩ := HS.out _ B1; clear b1))
        | (go_at_call 7; ((with_reducible refine (CL.out _ (by assumption)).mono ?_); rintro e w2 ⟨rfl, rfl⟩)))
      go_ret
      exact ⟨rfl, bel_trans HB2.out B1⟩
end Go.Proofs.YthchjceibpcgbaaDoor.Cn
