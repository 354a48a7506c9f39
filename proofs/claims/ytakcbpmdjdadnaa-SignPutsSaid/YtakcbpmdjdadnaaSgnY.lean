/-
  What is proved: the law on what is put into a signature, walked.
-/
import Derived.Test.YtakcbpmdjdadnaaSgnW
import Derived.Test.YtakcbpmdjdadnaaSgnT
namespace Go.Proofs.Ytakcbpmdjdadnaa.Sgn
open Go.RowKit L Srt
set_option linter.unusedVariables false
set_option linter.unusedSimpArgs false

theorem sortK_ok {S : List ByteArray} {K : List Core} {s : ByteArray} (h : okK K) : okK (sortK S K s) := by
  unfold sortK; split
  · exact h
  · exact ⟨by simp, fun C hC => absurd hC (by simp)⟩
theorem funK_okK {S : List ByteArray} {K : List Core} {C : Core} (h : okK K) (hl : K.length < 1000000) (hC : okC C) : okK (funK S K C) := by
  unfold funK; split
  · exact h.app hl hC
  · exact ⟨by simp, fun C hC => absurd hC (by simp)⟩
theorem sortS_len (S : List ByteArray) (K : List Core) (s : ByteArray) : (sortS S K s).length ≤ S.length + 1 := by unfold sortS; split <;> simp
theorem funS_len (S : List ByteArray) (K : List Core) (C : Core) : (funS S K C).length ≤ S.length := by unfold funS; split <;> simp
theorem same_sign {N M : Nat} {Z : List ByteArray} {K : List Core} (hN : N ≤ 1000000) (hK : okK K) (w' : World) (A : Option Addr) (D : Nat) (B : Option Addr) (L : Nat) (H : List Fm) (A' : Option Addr) (D' : Nat) (B' : Option Addr) (L' : Nat) (H' : List Fm)
    (h1 : SlS w' A N D Z) (h2 : SlG w' B M L H) (h3 : cores H = K) (h4 : SlS w' A' N D' Z) (h5 : SlG w' B' M L' H') (h6 : cores H' = K) :
    Calls Try.prog 19 #[.agg #[.slice A N D, .slice B M L], .agg #[.slice A' N D', .slice B' M L']] w' fun e w1 => e = .returned (.bool true) ∧ Below w'.heap.size w' w1 := by
  have hM : M ≤ 1000000 := by
    have := h2.1.1
    rw [this, ← cores_len, h3]; exact hK.1
  have := baseSign_any A N D Z B M L H A' N D' Z B' M L' H' w' h1.1 hN h2.1 hM (by rw [h3]; exact hK) h4.1 hN h5.1 hM (by rw [h6]; exact hK)
  rw [h3, h6, eqL_refl, eqK_refl] at this
  exact this

set_option maxRecDepth 100000 in
set_option maxHeartbeats 16000000 in
theorem puts_walk (z : SgV) (s : ByteArray) (f : Fm) (w : World) (hz : z.ok w) (hs : s.size ≤ 9223372036854775807) (hf : FmV.ok f w) :
    Calls Try.prog 4 #[z.val, .string s, FmV.val f] w fun e w' => e = .returned (.bool true) ∧ Below w.heap.size w w' := by
  obtain ⟨a, n, c, S, b, m, d, G⟩ := z
  obtain ⟨hS, hn, hzS, hG, hm, hzG⟩ := hz
  obtain ⟨hf, hzF⟩ := hf
  simp only at hS hn hzS hG hm hzG
  show Calls Try.prog 4 #[.agg #[.slice a n c, .slice b m d], .string s, .agg #[.string f.name, .slice f.a f.m f.c, .string f.res]] w _
  obtain ⟨W2, hW2, hB2, S2, F2⟩ := boxes w a n c b m d f.name f.a f.m f.c f.res
  have ca := fun (w : World) => alive_any w
  have cL : ∀ w', Below W2.heap.size W2 w' → Calls Try.prog 9 #[.agg #[.slice a n c, .slice b m d]] w' fun e w1 => e = .returned (.bool (longS S (cores G))) ∧ Below w'.heap.size w' w1 := fun w' h => Long_any a n c S b m d G w' ((hS.below hB2).below h).1 hn hzS ((hG.below hB2).below h).1 hm hzG
  have cM : ∀ w', Below W2.heap.size W2 w' → Calls Try.prog 10 #[.agg #[.string f.name, .slice f.a f.m f.c, .string f.res]] w' fun e w1 => e = .returned (.bool (longC f.core)) ∧ Below w'.heap.size w' w1 := fun w' h => LongFun_any f w' ((hf.below hB2).below h) hzF
  obtain ⟨s0, s1⟩ := S2.two
  obtain ⟨f0, f1, f2⟩ := F2.three
  cases hl : longS S (cores G) with
  | true =>
    rw [hl] at cL
    clear cM hS hzS hG hzG hf hzF
    generalize f.name = nm at *
    generalize f.a = A at *
    generalize f.m = M at *
    generalize f.c = Cc at *
    generalize f.res = rs at *
    go_enter Try.func4, Try.ntmps4
    go_wp2_with (first
      | (go_at_call 8; ((with_reducible refine (ca _).mono ?_); rintro e w3 ⟨rfl, hb3⟩; obtain ⟨s30, s31⟩ := (S2.b hb3).two))
      | (go_at_call 9; ((with_reducible refine (cL _ hb3).mono ?_); rintro e w4 ⟨rfl, hb4⟩; have b4 := bel_trans hb3 hb4; obtain ⟨f40, f41, f42⟩ := (F2.b b4).three)))
    go_ret
    exact ⟨rfl, bel_trans hB2 b4⟩
  | false =>
    rw [hl] at cL
    cases hlc : longC f.core with
    | true =>
      rw [hlc] at cM
      clear hS hzS hG hzG hf hzF
      generalize f.name = nm at *
      generalize f.a = A at *
      generalize f.m = M at *
      generalize f.c = Cc at *
      generalize f.res = rs at *
      go_enter Try.func4, Try.ntmps4
      go_wp2_with (first
        | (go_at_call 8; ((with_reducible refine (ca _).mono ?_); rintro e w3 ⟨rfl, hb3⟩; obtain ⟨s30, s31⟩ := (S2.b hb3).two))
        | (go_at_call 9; ((with_reducible refine (cL _ hb3).mono ?_); rintro e w4 ⟨rfl, hb4⟩; have b4 := bel_trans hb3 hb4; obtain ⟨f40, f41, f42⟩ := (F2.b b4).three))
        | (go_at_call 10; ((with_reducible refine (cM _ b4).mono ?_); rintro e w5 ⟨rfl, hb5⟩; have b5 := bel_trans b4 hb5; obtain ⟨s50, s51⟩ := (S2.b b5).two; obtain ⟨f50, f51, f52⟩ := (F2.b b5).three)))
      go_ret
      exact ⟨rfl, bel_trans hB2 b5⟩
    | false =>
      rw [hlc] at cM
      by_cases hs1 : 100 < s.size
      · have hs2 : 100 < (s.size : Int) := by omega
        clear hS hzS hG hzG hf hzF
        generalize f.name = nm at *
        generalize f.a = A at *
        generalize f.m = M at *
        generalize f.c = Cc at *
        generalize f.res = rs at *
        go_enter Try.func4, Try.ntmps4
        go_wp2_with (first
          | (go_at_call 8; ((with_reducible refine (ca _).mono ?_); rintro e w3 ⟨rfl, hb3⟩; obtain ⟨s30, s31⟩ := (S2.b hb3).two))
          | (go_at_call 9; ((with_reducible refine (cL _ hb3).mono ?_); rintro e w4 ⟨rfl, hb4⟩; have b4 := bel_trans hb3 hb4; obtain ⟨f40, f41, f42⟩ := (F2.b b4).three))
          | (go_at_call 10; ((with_reducible refine (cM _ b4).mono ?_); rintro e w5 ⟨rfl, hb5⟩; have b5 := bel_trans b4 hb5; obtain ⟨s50, s51⟩ := (S2.b b5).two; obtain ⟨f50, f51, f52⟩ := (F2.b b5).three)))
        go_ret
        exact ⟨rfl, bel_trans hB2 b5⟩
      · have hs2 : ¬ 100 < (s.size : Int) := by omega
        obtain ⟨hS70, hoS, hG20, hoK⟩ := longS_no hl
        obtain ⟨hoC, hX20⟩ := long_no hlc
        have hn2 : n ≤ 1000000 := by rw [hS.1.1]; omega
        have hm2 : m ≤ 1000000 := by rw [hG.1.1, ← cores_len]; omega
        have cS : ∀ w', Below W2.heap.size W2 w' → Calls Try.prog 15 #[.agg #[.slice a n c, .slice b m d], .string s] w' (SgPost (sortE S (cores G) s) (sortS S (cores G) s) (sortK S (cores G) s) (sortS S (cores G) s).length (sortK S (cores G) s).length w') := fun w' h => Sort6_any a n c S b m d G s w' ((hS.below hB2).below h) hn2 (by omega) ((hG.below hB2).below h) hm2 hoK
        have cS' : ∀ w', Below W2.heap.size W2 w' → Calls Try.prog 16 #[.agg #[.slice a n c, .slice b m d], .string s] w' (SgPost (sortE S (cores G) s) (sortS S (cores G) s) (sortK S (cores G) s) (sortS S (cores G) s).length (sortK S (cores G) s).length w') := fun w' h => refSort6_any a n c S b m d G s w' ((hS.below hB2).below h) hn2 (by omega) ((hG.below hB2).below h) hm2
        have cF : ∀ w', Below W2.heap.size W2 w' → Calls Try.prog 17 #[.agg #[.slice a n c, .slice b m d], .agg #[.string f.name, .slice f.a f.m f.c, .string f.res]] w' (SgPost (funE S (cores G) f.core) (funS S (cores G) f.core) (funK S (cores G) f.core) (funS S (cores G) f.core).length (funK S (cores G) f.core).length w') := fun w' h => Fun6_any a n c S b m d G f w' ((hS.below hB2).below h) hn2 ((hG.below hB2).below h) hm2 hoK ((hf.below hB2).below h) hoC
        have cF' : ∀ w', Below W2.heap.size W2 w' → Calls Try.prog 18 #[.agg #[.slice a n c, .slice b m d], .agg #[.string f.name, .slice f.a f.m f.c, .string f.res]] w' (SgPost (funE S (cores G) f.core) (funS S (cores G) f.core) (funK S (cores G) f.core) (funS S (cores G) f.core).length (funK S (cores G) f.core).length w') := fun w' h => refFun6_any a n c S b m d G f w' ((hS.below hB2).below h) hn2 ((hG.below hB2).below h) hm2 ((hf.below hB2).below h) hoC
        have hl1 := sortS_len S (cores G) s
        have hl2 := funS_len S (cores G) f.core
        have cB1 := @same_sign (sortS S (cores G) s).length (sortK S (cores G) s).length (sortS S (cores G) s) (sortK S (cores G) s) (by omega) (sortK_ok hoK)
        have cB2 := @same_sign (funS S (cores G) f.core).length (funK S (cores G) f.core).length (funS S (cores G) f.core) (funK S (cores G) f.core) (by omega) (funK_okK hoK (by omega) hoC)
        clear hS hzS hG hzG hf hzF hl1 hl2 hoS hoK hoC
        generalize sortE S (cores G) s = E1 at *
        generalize sortS S (cores G) s = Z1 at *
        generalize sortK S (cores G) s = K1 at *
        generalize funE S (cores G) f.core = E2 at *
        generalize funS S (cores G) f.core = Z2 at *
        generalize funK S (cores G) f.core = K2 at *
        generalize Z1.length = N1 at *
        generalize K1.length = M1 at *
        generalize Z2.length = N2 at *
        generalize K2.length = M2 at *
        generalize f.name = nm at *
        generalize f.a = A at *
        generalize f.m = M at *
        generalize f.c = Cc at *
        generalize f.res = rs at *
        go_enter Try.func4, Try.ntmps4
        go_wp2_with (first
          | (go_at_call 8; ((with_reducible refine (ca _).mono ?_); rintro e w3 ⟨rfl, hb3⟩; obtain ⟨s30, s31⟩ := (S2.b hb3).two))
          | (go_at_call 9; ((with_reducible refine (cL _ hb3).mono ?_); rintro e w4 ⟨rfl, hb4⟩; have b4 := bel_trans hb3 hb4; obtain ⟨f40, f41, f42⟩ := (F2.b b4).three))
          | (go_at_call 10; ((with_reducible refine (cM _ b4).mono ?_); rintro e w5 ⟨rfl, hb5⟩; have b5 := bel_trans b4 hb5; obtain ⟨s50, s51⟩ := (S2.b b5).two; obtain ⟨f50, f51, f52⟩ := (F2.b b5).three))
          | (go_at_call 15; ((with_reducible refine (cS _ b5).mono ?_); rintro e w6 ⟨A6, D6, B6, L6, H6, rfl, hS6, hG6, hc6, hb6⟩; have c6 : Below w6.heap.size w6 (w6.alloc (.cells #[.slice A6 N1 D6, .slice B6 M1 L6] 25)) := bel_alloc (Below.refl _ _) _; have X6_6 := SBox.new w6 A6 N1 D6 B6 M1 L6; have hS6_6 := hS6.below c6; have hG6_6 := hG6.below c6; have b6 := bel_trans (bel_trans b5 hb6) c6; obtain ⟨s60, s61⟩ := (S2.b b6).two; obtain ⟨f60, f61, f62⟩ := (F2.b b6).three))
          | (go_at_call 16; ((with_reducible refine (cS' _ b6).mono ?_); rintro e w7 ⟨A7, D7, B7, L7, H7, rfl, hS7, hG7, hc7, hb7⟩; have c7 : Below w7.heap.size w7 (w7.alloc (.cells #[.slice A7 N1 D7, .slice B7 M1 L7] 25)) := bel_alloc (Below.refl _ _) _; have X7_7 := SBox.new w7 A7 N1 D7 B7 M1 L7; have hS7_7 := hS7.below c7; have hG7_7 := hG7.below c7; have b7 := bel_trans (bel_trans b6 hb7) c7; have X6_7 := (X6_6.b hb7).b c7; have hS6_7 := (hS6_6.below hb7).below c7; have hG6_7 := (hG6_6.below hb7).below c7; obtain ⟨s70, s71⟩ := (S2.b b7).two; obtain ⟨f70, f71, f72⟩ := (F2.b b7).three))
          | (go_at_call 17; ((with_reducible refine (cF _ b7).mono ?_); rintro e w8 ⟨A8, D8, B8, L8, H8, rfl, hS8, hG8, hc8, hb8⟩; have c8 : Below w8.heap.size w8 (w8.alloc (.cells #[.slice A8 N2 D8, .slice B8 M2 L8] 25)) := bel_alloc (Below.refl _ _) _; have X8_8 := SBox.new w8 A8 N2 D8 B8 M2 L8; have hS8_8 := hS8.below c8; have hG8_8 := hG8.below c8; have b8 := bel_trans (bel_trans b7 hb8) c8; have X6_8 := (X6_7.b hb8).b c8; have hS6_8 := (hS6_7.below hb8).below c8; have hG6_8 := (hG6_7.below hb8).below c8; have X7_8 := (X7_7.b hb8).b c8; have hS7_8 := (hS7_7.below hb8).below c8; have hG7_8 := (hG7_7.below hb8).below c8; obtain ⟨s80, s81⟩ := (S2.b b8).two; obtain ⟨f80, f81, f82⟩ := (F2.b b8).three))
          | (go_at_call 18; ((with_reducible refine (cF' _ b8).mono ?_); rintro e w9 ⟨A9, D9, B9, L9, H9, rfl, hS9, hG9, hc9, hb9⟩; have c9 : Below w9.heap.size w9 (w9.alloc (.cells #[.slice A9 N2 D9, .slice B9 M2 L9] 25)) := bel_alloc (Below.refl _ _) _; have X9_9 := SBox.new w9 A9 N2 D9 B9 M2 L9; have hS9_9 := hS9.below c9; have hG9_9 := hG9.below c9; have b9 := bel_trans (bel_trans b8 hb9) c9; have X6_9 := (X6_8.b hb9).b c9; have hS6_9 := (hS6_8.below hb9).below c9; have hG6_9 := (hG6_8.below hb9).below c9; have X7_9 := (X7_8.b hb9).b c9; have hS7_9 := (hS7_8.below hb9).below c9; have hG7_9 := (hG7_8.below hb9).below c9; have X8_9 := (X8_8.b hb9).b c9; have hS8_9 := (hS8_8.below hb9).below c9; have hG8_9 := (hG8_8.below hb9).below c9; obtain ⟨s90, s91⟩ := (S2.b b9).two; obtain ⟨f90, f91, f92⟩ := (F2.b b9).three; obtain ⟨x60, x61⟩ := X6_9.two; obtain ⟨x70, x71⟩ := X7_9.two; obtain ⟨x80, x81⟩ := X8_9.two; obtain ⟨x90, x91⟩ := X9_9.two))
          | (go_at_call 19; ((with_reducible refine (cB1 _ A6 D6 B6 L6 H6 A7 D7 B7 L7 H7 hS6_9 hG6_9 hc6 hS7_9 hG7_9 hc7).mono ?_); rintro e w10 ⟨rfl, hb10⟩; have b10 := bel_trans b9 hb10; obtain ⟨y80, y81⟩ := (X8_9.b hb10).two; obtain ⟨y90, y91⟩ := (X9_9.b hb10).two; have hS8_10 := hS8_9.below hb10; have hG8_10 := hG8_9.below hb10; have hS9_10 := hS9_9.below hb10; have hG9_10 := hG9_9.below hb10))
          | (go_at_call 19; ((with_reducible refine (cB2 _ A8 D8 B8 L8 H8 A9 D9 B9 L9 H9 hS8_10 hG8_10 hc8 hS9_10 hG9_10 hc9).mono ?_); rintro e w11 ⟨rfl, hb11⟩; have b11 := bel_trans b10 hb11)))
        go_ret
        exact ⟨rfl, bel_trans hB2 b11⟩
end Go.Proofs.Ytakcbpmdjdadnaa.Sgn
