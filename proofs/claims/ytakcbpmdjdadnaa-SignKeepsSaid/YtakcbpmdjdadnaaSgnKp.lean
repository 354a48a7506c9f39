/-
  What is proved: the law on what stays found in a signature into which something is put, walked.
-/
import Derived.Test.YtakcbpmdjdadnaaSgnW
import Derived.Test.YtakcbpmdjdadnaaSgnM
import Derived.Test.YtakcbpmdjdadnaaSgnZ
namespace Go.Proofs.Ytakcbpmdjdadnaa.Sgn
open Go.RowKit L Srt
set_option linter.unusedVariables false
set_option linter.unusedSimpArgs false

theorem right_zero {N M : Nat} {Z : List ByteArray} {K : List Core} (hN : N ≤ 1000000) (hz : okZ Z) (hK : okK K) (h0 : signE Z K = 0) (w' : World) (A : Option Addr) (D : Nat) (B : Option Addr) (L : Nat) (H : List Fm) (h1 : SlS w' A N D Z) (h2 : SlG w' B M L H) (h3 : cores H = K) :
    Calls Try.prog 11 #[.agg #[.slice A N D, .slice B M L]] w' fun e w1 => e = .returned (.int .i64 0) ∧ Below w'.heap.size w' w1 := by
  have := Right6_any A N D Z B M L H w' h1 hN hz h2 (by rw [h3]; exact hK)
  rw [h3, h0] at this
  exact this
theorem find_that {N M : Nat} {K : List Core} {C : Core} {s : ByteArray} (hK : okK K) (h0 : findC K s = C ∧ hasN K s = true) (w' : World) (A : Option Addr) (D : Nat) (B : Option Addr) (L : Nat) (H : List Fm) (h2 : SlG w' B M L H) (h3 : cores H = K) :
    Calls Try.prog 20 #[.agg #[.slice A N D, .slice B M L], .string s] w' fun e w1 => ∃ f : Fm, e = .returned (.tuple #[.agg #[.string f.name, .slice f.a f.m f.c, .string f.res], .bool true]) ∧ f.ok w1 ∧ f.core = C ∧ Below w'.heap.size w' w1 := by
  have hM : M ≤ 1000000 := by rw [h2.1.1, ← cores_len, h3]; exact hK.1
  have := Find_any A N D B M L H s w' h2 hM (by rw [h3]; exact hK)
  rw [h3] at this
  unfold FindPost at this
  rw [h0.1, h0.2] at this
  exact this

set_option maxRecDepth 100000 in
set_option maxHeartbeats 16000000 in
theorem keeps_walk (z : SgV) (s : ByteArray) (f : Fm) (w : World) (hz : z.ok w) (hs : s.size ≤ 9223372036854775807) (hf : FmV.ok f w) :
    Calls Try.prog 6 #[z.val, .string s, FmV.val f] w fun e w' => e = .returned (.bool true) ∧ Below w.heap.size w w' := by
  obtain ⟨a, n, c, S, b, m, d, G⟩ := z
  obtain ⟨hS, hn, hzS, hG, hm, hzG⟩ := hz
  obtain ⟨hf, hzF⟩ := hf
  simp only at hS hn hzS hG hm hzG
  show Calls Try.prog 6 #[.agg #[.slice a n c, .slice b m d], .string s, .agg #[.string f.name, .slice f.a f.m f.c, .string f.res]] w _
  obtain ⟨W2, hW2, hB2, S2, F2⟩ := boxes w a n c b m d f.name f.a f.m f.c f.res
  have ca := fun (w : World) => alive_any w
  have cL : ∀ w', Below W2.heap.size W2 w' → Calls Try.prog 9 #[.agg #[.slice a n c, .slice b m d]] w' fun e w1 => e = .returned (.bool (longS S (cores G))) ∧ Below w'.heap.size w' w1 := fun w' h => Long_any a n c S b m d G w' ((hS.below hB2).below h).1 hn hzS ((hG.below hB2).below h).1 hm hzG
  have cM : ∀ w', Below W2.heap.size W2 w' → Calls Try.prog 10 #[.agg #[.string f.name, .slice f.a f.m f.c, .string f.res]] w' fun e w1 => e = .returned (.bool (longC f.core)) ∧ Below w'.heap.size w' w1 := fun w' h => LongFun_any f w' ((hf.below hB2).below h) hzF
  obtain ⟨s0, s1⟩ := S2.two
  obtain ⟨f0, f1, f2⟩ := F2.three
  cases hl : longS S (cores G) with
  | true =>
    rw [hl] at cL
    clear cM hS hzS hG hzG hf hzF
    generalize f.name = nm at *
    generalize f.a = A at *
    generalize f.m = M at *
    generalize f.c = Cc at *
    generalize f.res = rs at *
    go_enter Try.func6, Try.ntmps6
    go_wp2_with (first
      | (go_at_call 8; ((with_reducible refine (ca _).mono ?_); rintro e w3 ⟨rfl, hb3⟩; obtain ⟨s30, s31⟩ := (S2.b hb3).two))
      | (go_at_call 9; ((with_reducible refine (cL _ hb3).mono ?_); rintro e w4 ⟨rfl, hb4⟩; have b4 := bel_trans hb3 hb4; obtain ⟨f40, f41, f42⟩ := (F2.b b4).three)))
    go_ret
    exact ⟨rfl, bel_trans hB2 b4⟩
  | false =>
  rw [hl] at cL
  cases hlc : longC f.core with
  | true =>
    rw [hlc] at cM
    clear hS hzS hG hzG hf hzF
    generalize f.name = nm at *
    generalize f.a = A at *
    generalize f.m = M at *
    generalize f.c = Cc at *
    generalize f.res = rs at *
    go_enter Try.func6, Try.ntmps6
    go_wp2_with (first
      | (go_at_call 8; ((with_reducible refine (ca _).mono ?_); rintro e w3 ⟨rfl, hb3⟩; obtain ⟨s30, s31⟩ := (S2.b hb3).two))
      | (go_at_call 9; ((with_reducible refine (cL _ hb3).mono ?_); rintro e w4 ⟨rfl, hb4⟩; have b4 := bel_trans hb3 hb4; obtain ⟨f40, f41, f42⟩ := (F2.b b4).three))
      | (go_at_call 10; ((with_reducible refine (cM _ b4).mono ?_); rintro e w5 ⟨rfl, hb5⟩; have b5 := bel_trans b4 hb5; obtain ⟨s50, s51⟩ := (S2.b b5).two)))
    go_ret
    exact ⟨rfl, bel_trans hB2 b5⟩
  | false =>
  rw [hlc] at cM
  by_cases hs1 : 100 < s.size
  · have hs2 : 100 < (s.size : Int) := by omega
    clear hS hzS hG hzG hf hzF
    generalize f.name = nm at *
    generalize f.a = A at *
    generalize f.m = M at *
    generalize f.c = Cc at *
    generalize f.res = rs at *
    go_enter Try.func6, Try.ntmps6
    go_wp2_with (first
      | (go_at_call 8; ((with_reducible refine (ca _).mono ?_); rintro e w3 ⟨rfl, hb3⟩; obtain ⟨s30, s31⟩ := (S2.b hb3).two))
      | (go_at_call 9; ((with_reducible refine (cL _ hb3).mono ?_); rintro e w4 ⟨rfl, hb4⟩; have b4 := bel_trans hb3 hb4; obtain ⟨f40, f41, f42⟩ := (F2.b b4).three))
      | (go_at_call 10; ((with_reducible refine (cM _ b4).mono ?_); rintro e w5 ⟨rfl, hb5⟩; have b5 := bel_trans b4 hb5; obtain ⟨s50, s51⟩ := (S2.b b5).two)))
    go_ret
    exact ⟨rfl, bel_trans hB2 b5⟩
  have hs2 : ¬ 100 < (s.size : Int) := by omega
  obtain ⟨hS70, hoS, hG20, hoK⟩ := longS_no hl
  obtain ⟨hoC, hX20⟩ := long_no hlc
  have hn2 : n ≤ 1000000 := by rw [hS.1.1]; omega
  have hm2 : m ≤ 1000000 := by rw [hG.1.1, ← cores_len]; omega
  have hlen : (cores G).length = m := by rw [cores_len]; exact hG.1.1.symm
  have cR : ∀ w', Below W2.heap.size W2 w' → Calls Try.prog 11 #[.agg #[.slice a n c, .slice b m d]] w' fun e w1 => e = .returned (.int .i64 (signE S (cores G))) ∧ Below w'.heap.size w' w1 := fun w' h => Right6_any a n c S b m d G w' ((hS.below hB2).below h) hn2 hoS ((hG.below hB2).below h) hoK
  by_cases hR : signE S (cores G) = 0
  case neg =>
    have hR1 : (signE S (cores G) != 0) = true := by simp [hR]
    generalize signE S (cores G) = R at *
    clear hS hzS hG hzG hf hzF hlen hoS hoK hoC
    generalize f.name = nm at *
    generalize f.a = A at *
    generalize f.m = M at *
    generalize f.c = Cc at *
    generalize f.res = rs at *
    go_enter Try.func6, Try.ntmps6
    go_wp2_with (first
      | (go_at_call 8; ((with_reducible refine (ca _).mono ?_); rintro e w3 ⟨rfl, hb3⟩; obtain ⟨s30, s31⟩ := (S2.b hb3).two))
      | (go_at_call 9; ((with_reducible refine (cL _ hb3).mono ?_); rintro e w4 ⟨rfl, hb4⟩; have b4 := bel_trans hb3 hb4; obtain ⟨f40, f41, f42⟩ := (F2.b b4).three))
      | (go_at_call 10; ((with_reducible refine (cM _ b4).mono ?_); rintro e w5 ⟨rfl, hb5⟩; have b5 := bel_trans b4 hb5; obtain ⟨s50, s51⟩ := (S2.b b5).two))
      | (go_at_call 11; ((with_reducible refine (cR _ b5).mono ?_); rintro e w6 ⟨rfl, hb6⟩; have b6 := bel_trans b5 hb6; obtain ⟨s60, s61⟩ := (S2.b b6).two)))
    go_ret
    exact ⟨rfl, bel_trans hB2 b6⟩
  rw [hR] at cR
  obtain ⟨_, hK256, hrg⟩ := sign_ok.1 hR
  have cS : ∀ w', Below W2.heap.size W2 w' → Calls Try.prog 15 #[.agg #[.slice a n c, .slice b m d], .string s] w' (SgPost (sortE S (cores G) s) (sortS S (cores G) s) (sortK S (cores G) s) (sortS S (cores G) s).length (sortK S (cores G) s).length w') := fun w' h => Sort6_any a n c S b m d G s w' ((hS.below hB2).below h) hn2 (by omega) ((hG.below hB2).below h) hm2 hoK
  have cF : ∀ w', Below W2.heap.size W2 w' → Calls Try.prog 17 #[.agg #[.slice a n c, .slice b m d], .agg #[.string f.name, .slice f.a f.m f.c, .string f.res]] w' (SgPost (funE S (cores G) f.core) (funS S (cores G) f.core) (funK S (cores G) f.core) (funS S (cores G) f.core).length (funK S (cores G) f.core).length w') := fun w' h => Fun6_any a n c S b m d G f w' ((hS.below hB2).below h) hn2 ((hG.below hB2).below h) hm2 hoK ((hf.below hB2).below h) hoC
  have hI : ∀ w', Below W2.heap.size W2 w' → IsG w' b m G := fun w' h => ((hG.below hB2).below h).1
  have hfW : ∀ w', Below W2.heap.size W2 w' → f.ok w' := fun w' h => (hf.below hB2).below h
  have hXs : ∀ (k : Nat) (ff : Fm), G[k]? = some ff → ff.core.2.1.length ≤ 1000000 := fun k ff h => (hoK.at (cores_at h)).2.2.1
  by_cases hE1 : sortE S (cores G) s = 0
  · by_cases hE2 : funE S (cores G) f.core = 0
    · have e1 : sortS S (cores G) s = S ++ [s] := by unfold sortS; rw [if_pos hE1]
      have e2 : sortK S (cores G) s = cores G := by unfold sortK; rw [if_pos hE1]
      rw [hE1, e1, e2] at cS
      have hN1 : (S ++ [s]).length ≤ 1000000 := by simp; omega
      have cR1 := @right_zero (S ++ [s]).length (cores G).length (S ++ [s]) (cores G) hN1 (okZ.app hoS (by omega)) hoK (sign_sort hR hE1)
      have cH : ∀ (w' : World) (A : Option Addr) (D : Nat), SlS w' A (S ++ [s]).length D (S ++ [s]) → Calls Try.prog 27 #[.slice A (S ++ [s]).length D, .string s] w' fun e w1 => e = .returned (.bool true) ∧ w' = w1 := fun w' A D h => by
        have := Has_any A _ D (S ++ [s]) s w' h.1 (by omega)
        rw [has_last] at this
        exact this
      generalize hZ1 : S ++ [s] = Z1 at *
      generalize hNN1 : Z1.length = N1 at *
      generalize hMM1 : (cores G).length = M1 at *
      clear e1 e2 hZ1 hNN1 hN1
      have k1 : funS S (cores G) f.core = S := by unfold funS; rw [if_pos hE2]
      have k2 : funK S (cores G) f.core = cores G ++ [f.core] := by unfold funK; rw [if_pos hE2]
      rw [hE2, k1, k2] at cF
      have hoK2 : okK (cores G ++ [f.core]) := hoK.app (by omega) hoC
      have cR2 := @right_zero S.length (cores G ++ [f.core]).length S (cores G ++ [f.core]) (by omega) hoS hoK2 (sign_fun hR hE2)
      have hnm : f.core.1 = f.name := rfl
      have hfl := find_last (K := cores G) (C := f.core) (fun_ok' hE2).2.1
      rw [hnm] at hfl
      have cFi := @find_that S.length (cores G ++ [f.core]).length (cores G ++ [f.core]) f.core f.name hoK2 hfl
      have cFo := fun (k : Nat) (ff : Fm) (h : G[k]? = some ff) => @find_that S.length (cores G ++ [f.core]).length (cores G ++ [f.core]) ff.core ff.name hoK2 (find_old (K := cores G) (k := k) (D := ff.core) f.core hrg (cores_at h))
      have cE := @same_fun f.core hoC.2.2.1
      have cEo := fun (k : Nat) (ff : Fm) (h : G[k]? = some ff) => @same_fun ff.core (hXs k ff h)
      generalize cores G ++ [f.core] = K2 at *
      generalize hNN2 : S.length = N2 at *
      generalize hMM2 : K2.length = M2 at *
      have Hfk := Lib.hid cFo
      have HEo := Lib.hid cEo
      have HI := Lib.hid hI
      clear k1 k2 hfl hnm cFo cEo hNN2 hMM2 hI
      clear hS hzS hG hzG hf hzF hoS hoK hoC hK256 hR hlen hXs hrg
      go_enter Try.func6, Try.ntmps6
      go_wp2_with (first
        | (go_at_call 8; ((with_reducible refine (ca _).mono ?_); rintro e w3 ⟨rfl, hb3⟩; obtain ⟨s30, s31⟩ := (S2.b hb3).two))
        | (go_at_call 9; ((with_reducible refine (cL _ hb3).mono ?_); rintro e w4 ⟨rfl, hb4⟩; have b4 := bel_trans hb3 hb4; obtain ⟨f40, f41, f42⟩ := (F2.b b4).three))
        | (go_at_call 10; ((with_reducible refine (cM _ b4).mono ?_); rintro e w5 ⟨rfl, hb5⟩; have b5 := bel_trans b4 hb5; obtain ⟨s50, s51⟩ := (S2.b b5).two))
        | (go_at_call 11; ((with_reducible refine (cR _ b5).mono ?_); rintro e w6 ⟨rfl, hb6⟩; have b6 := bel_trans b5 hb6; obtain ⟨s60, s61⟩ := (S2.b b6).two))
        | (go_at_call 15; ((with_reducible refine (cS _ b6).mono ?_); rintro e w7 ⟨A7, D7, B7, L7, H7, rfl, hS7, hG7, hc7, hb7⟩; have c7 : Below w7.heap.size w7 (w7.alloc (.cells #[.slice A7 N1 D7, .slice B7 M1 L7] 25)) := bel_alloc (Below.refl _ _) _; have X7 := SBox.new w7 A7 N1 D7 B7 M1 L7; have hS7' := hS7.below c7; have hG7' := hG7.below c7; have b7 := bel_trans (bel_trans b6 hb7) c7; obtain ⟨x70, x71⟩ := X7.two))
        | (go_at_call 11; ((with_reducible refine (cR1 _ A7 D7 B7 L7 H7 hS7' hG7' hc7).mono ?_); rintro e w8 ⟨rfl, hb8⟩; have b8 := bel_trans b7 hb8; have hS8 := hS7'.below hb8; obtain ⟨x80, x81⟩ := (X7.b hb8).two; obtain ⟨s80, s81⟩ := (S2.b b8).two; obtain ⟨f80, f81, f82⟩ := (F2.b b8).three))
        | (go_at_call 27; ((with_reducible refine (cH _ A7 D7 hS8).mono ?_); rintro e w' ⟨rfl, rfl⟩))
        | (go_at_call 17; ((with_reducible refine (cF _ b8).mono ?_); rintro e w9 ⟨A9, D9, B9, L9, H9, rfl, hS9, hG9, hc9, hb9⟩; have c9 : Below w9.heap.size w9 (w9.alloc (.cells #[.slice A9 N2 D9, .slice B9 M2 L9] 25)) := bel_alloc (Below.refl _ _) _; have X9 := SBox.new w9 A9 N2 D9 B9 M2 L9; have hS9' := hS9.below c9; have hG9' := hG9.below c9; have b9 := bel_trans (bel_trans b8 hb9) c9; obtain ⟨x90, x91⟩ := X9.two; obtain ⟨f90, f91, f92⟩ := (F2.b b9).three))
        | (go_at_call 20; ((with_reducible refine (cFi _ A9 D9 B9 L9 H9 hG9' hc9).mono ?_); rintro e w10 ⟨g, rfl, hg10, hcg, hb10⟩; have c10 : Below w10.heap.size w10 (w10.alloc (.cells #[.string g.name, .slice g.a g.m g.c, .string g.res] 27)) := bel_alloc (Below.refl _ _) _; have Y10 := FBox.new w10 g.name g.a g.m g.c g.res; have b910 := bel_trans hb10 c10; have b10 := bel_trans b9 b910; have X10 := X9.b b910; have hS10 := hS9'.below b910; have hG10 := hG9'.below b910; have hgk := Fm.ok.below hg10 c10; obtain ⟨x100, x101⟩ := X10.two))
        | (go_at_call 11; ((with_reducible refine (cR2 _ A9 D9 B9 L9 H9 hS10 hG10 hc9).mono ?_); rintro e w11 ⟨rfl, hb11⟩; have b11 := bel_trans b10 hb11; have X11 := X10.b hb11; have hG11 := hG10.below hb11; have hgk11 := Fm.ok.below hgk hb11; obtain ⟨f110, f111, f112⟩ := (F2.b b11).three; obtain ⟨y110, y111, y112⟩ := (Y10.b hb11).three; have cE1 := cE _ f g (hfW _ b11) hgk11 rfl hcg))
        | (go_at_call 22; ((with_reducible refine cE1.mono ?_); rintro e w12 ⟨rfl, hb12⟩; have b12 := bel_trans b11 hb12; have X12 := X11.b hb12; have hG12 := hG11.below hb12; obtain ⟨s120, s121⟩ := (S2.b b12).two)))
      have HcE := Lib.hid cE
      clear cE cL cM ca cS cF cR cR2 cFi cR1 cH
      have lt9 := Blk.lt X12
      go_loopw [92] (fun i wr0 => ∃ (wr : World) (k : Nat), wr = wr0 ∧ k ≤ m ∧ i = .int .i64 k ∧ Below w12.heap.size w12 wr) (fun i _ => m - (intOf i).toNat)
      case atStart => exact ⟨_, 0, rfl, by omega, rfl, Below.refl _ _⟩
      case round =>
        obtain ⟨wr, k, rfl, hk, rfl, hBr⟩ := hrel
        by_cases hlt : k < m
        · obtain ⟨bb, o, ff, rfl, hb, q1, q2, q3, hx, hok⟩ := (HI.out wr (bel_trans b12 hBr)).at hlt
          have cF1 := Hfk.out k ff hx
          have cE2 := HEo.out k ff hx
          have hk0 : 0 ≤ (k : Int) := by omega
          have hk1 : (k : Int) < (m : Int) := by omega
          have c13 : Below wr.heap.size wr (wr.alloc (.cells #[.string ff.name, .slice ff.a ff.m ff.c, .string ff.res] 27)) := bel_alloc (Below.refl _ _) _
          have P13 := FBox.new wr ff.name ff.a ff.m ff.c ff.res
          obtain ⟨V13, hV13⟩ : ∃ V13, wr.alloc (.cells #[.string ff.name, .slice ff.a ff.m ff.c, .string ff.res] 27) = V13 := ⟨_, rfl⟩
          rw [hV13] at c13 P13
          have X13 := (X12.b hBr).b c13
          have hG13 := (hG12.below hBr).below c13
          have hff := Fm.ok.below hok c13
          obtain ⟨x130, x131⟩ := X13.two
          obtain ⟨p130, p131, p132⟩ := P13.three
          have cF2 := cF1 V13 A9 D9 B9 L9 H9 hG13 hc9
          clear hx hok HI Hfk HEo cF1
          go_wp2_with (first
            | (go_at_call 20; ((with_reducible refine cF2.mono ?_); rintro e w14 ⟨g2, rfl, hg14, hcg2, hb14⟩; have c14 : Below w14.heap.size w14 (w14.alloc (.cells #[.string g2.name, .slice g2.a g2.m g2.c, .string g2.res] 27)) := bel_alloc (Below.refl _ _) _; have Q14 := FBox.new w14 g2.name g2.a g2.m g2.c g2.res; have b14 := bel_trans hb14 c14; obtain ⟨p140, p141, p142⟩ := (P13.b b14).three; obtain ⟨q140, q141, q142⟩ := Q14.three; have cE3 := cE2 _ ff g2 (Fm.ok.below hff b14) (Fm.ok.below hg14 c14) rfl hcg2))
            | (go_at_call 22; ((with_reducible refine cE3.mono ?_); rintro e w15 ⟨rfl, hb15⟩)))
          go_roundw
          case rel => exact ⟨_, k + 1, rfl, by omega, by go_num, bel_trans (bel_trans (bel_trans hBr c13) b14) hb15⟩
          case measure => simp [intOf]; omega
        · go_wp2
          go_ret
          exact ⟨rfl, bel_trans hB2 (bel_trans b12 hBr)⟩
    · have e1 : sortS S (cores G) s = S ++ [s] := by unfold sortS; rw [if_pos hE1]
      have e2 : sortK S (cores G) s = cores G := by unfold sortK; rw [if_pos hE1]
      rw [hE1, e1, e2] at cS
      have hN1 : (S ++ [s]).length ≤ 1000000 := by simp; omega
      have cR1 := @right_zero (S ++ [s]).length (cores G).length (S ++ [s]) (cores G) hN1 (okZ.app hoS (by omega)) hoK (sign_sort hR hE1)
      have cH : ∀ (w' : World) (A : Option Addr) (D : Nat), SlS w' A (S ++ [s]).length D (S ++ [s]) → Calls Try.prog 27 #[.slice A (S ++ [s]).length D, .string s] w' fun e w1 => e = .returned (.bool true) ∧ w' = w1 := fun w' A D h => by
        have := Has_any A _ D (S ++ [s]) s w' h.1 (by omega)
        rw [has_last] at this
        exact this
      generalize hZ1 : S ++ [s] = Z1 at *
      generalize hNN1 : Z1.length = N1 at *
      generalize hMM1 : (cores G).length = M1 at *
      clear e1 e2 hZ1 hNN1 hN1
      have hE2b : (funE S (cores G) f.core != 0) = true := by simp [hE2]
      have k1 : funS S (cores G) f.core = [] := by unfold funS; rw [if_neg hE2]
      have k2 : funK S (cores G) f.core = [] := by unfold funK; rw [if_neg hE2]
      rw [k1, k2] at cF
      generalize funE S (cores G) f.core = E2 at *
      simp only [List.length_nil] at cF
      clear hI
      clear hS hzS hG hzG hf hzF hoS hoK hoC hK256 hR hlen hXs hrg hfW
      generalize f.name = nm at *
      generalize f.a = A at *
      generalize f.m = M at *
      generalize f.c = Cc at *
      generalize f.res = rs at *
      go_enter Try.func6, Try.ntmps6
      go_wp2_with (first
        | (go_at_call 8; ((with_reducible refine (ca _).mono ?_); rintro e w3 ⟨rfl, hb3⟩; obtain ⟨s30, s31⟩ := (S2.b hb3).two))
        | (go_at_call 9; ((with_reducible refine (cL _ hb3).mono ?_); rintro e w4 ⟨rfl, hb4⟩; have b4 := bel_trans hb3 hb4; obtain ⟨f40, f41, f42⟩ := (F2.b b4).three))
        | (go_at_call 10; ((with_reducible refine (cM _ b4).mono ?_); rintro e w5 ⟨rfl, hb5⟩; have b5 := bel_trans b4 hb5; obtain ⟨s50, s51⟩ := (S2.b b5).two))
        | (go_at_call 11; ((with_reducible refine (cR _ b5).mono ?_); rintro e w6 ⟨rfl, hb6⟩; have b6 := bel_trans b5 hb6; obtain ⟨s60, s61⟩ := (S2.b b6).two))
        | (go_at_call 15; ((with_reducible refine (cS _ b6).mono ?_); rintro e w7 ⟨A7, D7, B7, L7, H7, rfl, hS7, hG7, hc7, hb7⟩; have c7 : Below w7.heap.size w7 (w7.alloc (.cells #[.slice A7 N1 D7, .slice B7 M1 L7] 25)) := bel_alloc (Below.refl _ _) _; have X7 := SBox.new w7 A7 N1 D7 B7 M1 L7; have hS7' := hS7.below c7; have hG7' := hG7.below c7; have b7 := bel_trans (bel_trans b6 hb7) c7; obtain ⟨x70, x71⟩ := X7.two))
        | (go_at_call 11; ((with_reducible refine (cR1 _ A7 D7 B7 L7 H7 hS7' hG7' hc7).mono ?_); rintro e w8 ⟨rfl, hb8⟩; have b8 := bel_trans b7 hb8; have hS8 := hS7'.below hb8; obtain ⟨x80, x81⟩ := (X7.b hb8).two; obtain ⟨s80, s81⟩ := (S2.b b8).two; obtain ⟨f80, f81, f82⟩ := (F2.b b8).three))
        | (go_at_call 27; ((with_reducible refine (cH _ A7 D7 hS8).mono ?_); rintro e w' ⟨rfl, rfl⟩))
        | (go_at_call 17; ((with_reducible refine (cF _ b8).mono ?_); rintro e w9 ⟨A9, D9, B9, L9, H9, rfl, hS9, hG9, hc9, hb9⟩; have c9 : Below w9.heap.size w9 (w9.alloc (.cells #[.slice A9 0 D9, .slice B9 0 L9] 25)) := bel_alloc (Below.refl _ _) _; have X9 := SBox.new w9 A9 0 D9 B9 0 L9; have hS9' := hS9.below c9; have hG9' := hG9.below c9; have b9 := bel_trans (bel_trans b8 hb9) c9; obtain ⟨x90, x91⟩ := X9.two)))
      go_ret
      exact ⟨rfl, bel_trans hB2 b9⟩
  · by_cases hE2 : funE S (cores G) f.core = 0
    · have hE1b : (sortE S (cores G) s == 0) = false := by simp [hE1]
      generalize sortE S (cores G) s = E1 at *
      generalize sortS S (cores G) s = Z1 at *
      generalize sortK S (cores G) s = K1 at *
      generalize Z1.length = N1 at *
      generalize K1.length = M1 at *
      have k1 : funS S (cores G) f.core = S := by unfold funS; rw [if_pos hE2]
      have k2 : funK S (cores G) f.core = cores G ++ [f.core] := by unfold funK; rw [if_pos hE2]
      rw [hE2, k1, k2] at cF
      have hoK2 : okK (cores G ++ [f.core]) := hoK.app (by omega) hoC
      have cR2 := @right_zero S.length (cores G ++ [f.core]).length S (cores G ++ [f.core]) (by omega) hoS hoK2 (sign_fun hR hE2)
      have hnm : f.core.1 = f.name := rfl
      have hfl := find_last (K := cores G) (C := f.core) (fun_ok' hE2).2.1
      rw [hnm] at hfl
      have cFi := @find_that S.length (cores G ++ [f.core]).length (cores G ++ [f.core]) f.core f.name hoK2 hfl
      have cFo := fun (k : Nat) (ff : Fm) (h : G[k]? = some ff) => @find_that S.length (cores G ++ [f.core]).length (cores G ++ [f.core]) ff.core ff.name hoK2 (find_old (K := cores G) (k := k) (D := ff.core) f.core hrg (cores_at h))
      have cE := @same_fun f.core hoC.2.2.1
      have cEo := fun (k : Nat) (ff : Fm) (h : G[k]? = some ff) => @same_fun ff.core (hXs k ff h)
      generalize cores G ++ [f.core] = K2 at *
      generalize hNN2 : S.length = N2 at *
      generalize hMM2 : K2.length = M2 at *
      have Hfk := Lib.hid cFo
      have HEo := Lib.hid cEo
      have HI := Lib.hid hI
      clear k1 k2 hfl hnm cFo cEo hNN2 hMM2 hI
      clear hS hzS hG hzG hf hzF hoS hoK hoC hK256 hR hlen hXs hrg
      go_enter Try.func6, Try.ntmps6
      go_wp2_with (first
        | (go_at_call 8; ((with_reducible refine (ca _).mono ?_); rintro e w3 ⟨rfl, hb3⟩; obtain ⟨s30, s31⟩ := (S2.b hb3).two))
        | (go_at_call 9; ((with_reducible refine (cL _ hb3).mono ?_); rintro e w4 ⟨rfl, hb4⟩; have b4 := bel_trans hb3 hb4; obtain ⟨f40, f41, f42⟩ := (F2.b b4).three))
        | (go_at_call 10; ((with_reducible refine (cM _ b4).mono ?_); rintro e w5 ⟨rfl, hb5⟩; have b5 := bel_trans b4 hb5; obtain ⟨s50, s51⟩ := (S2.b b5).two))
        | (go_at_call 11; ((with_reducible refine (cR _ b5).mono ?_); rintro e w6 ⟨rfl, hb6⟩; have b6 := bel_trans b5 hb6; obtain ⟨s60, s61⟩ := (S2.b b6).two))
        | (go_at_call 15; ((with_reducible refine (cS _ b6).mono ?_); rintro e w7 ⟨A7, D7, B7, L7, H7, rfl, hS7, hG7, hc7, hb7⟩; have c7 : Below w7.heap.size w7 (w7.alloc (.cells #[.slice A7 N1 D7, .slice B7 M1 L7] 25)) := bel_alloc (Below.refl _ _) _; have X7 := SBox.new w7 A7 N1 D7 B7 M1 L7; have hS7' := hS7.below c7; have hG7' := hG7.below c7; have b8 := bel_trans (bel_trans b6 hb7) c7; obtain ⟨s80, s81⟩ := (S2.b b8).two; obtain ⟨f80, f81, f82⟩ := (F2.b b8).three))
        | (go_at_call 17; ((with_reducible refine (cF _ b8).mono ?_); rintro e w9 ⟨A9, D9, B9, L9, H9, rfl, hS9, hG9, hc9, hb9⟩; have c9 : Below w9.heap.size w9 (w9.alloc (.cells #[.slice A9 N2 D9, .slice B9 M2 L9] 25)) := bel_alloc (Below.refl _ _) _; have X9 := SBox.new w9 A9 N2 D9 B9 M2 L9; have hS9' := hS9.below c9; have hG9' := hG9.below c9; have b9 := bel_trans (bel_trans b8 hb9) c9; obtain ⟨x90, x91⟩ := X9.two; obtain ⟨f90, f91, f92⟩ := (F2.b b9).three))
        | (go_at_call 20; ((with_reducible refine (cFi _ A9 D9 B9 L9 H9 hG9' hc9).mono ?_); rintro e w10 ⟨g, rfl, hg10, hcg, hb10⟩; have c10 : Below w10.heap.size w10 (w10.alloc (.cells #[.string g.name, .slice g.a g.m g.c, .string g.res] 27)) := bel_alloc (Below.refl _ _) _; have Y10 := FBox.new w10 g.name g.a g.m g.c g.res; have b910 := bel_trans hb10 c10; have b10 := bel_trans b9 b910; have X10 := X9.b b910; have hS10 := hS9'.below b910; have hG10 := hG9'.below b910; have hgk := Fm.ok.below hg10 c10; obtain ⟨x100, x101⟩ := X10.two))
        | (go_at_call 11; ((with_reducible refine (cR2 _ A9 D9 B9 L9 H9 hS10 hG10 hc9).mono ?_); rintro e w11 ⟨rfl, hb11⟩; have b11 := bel_trans b10 hb11; have X11 := X10.b hb11; have hG11 := hG10.below hb11; have hgk11 := Fm.ok.below hgk hb11; obtain ⟨f110, f111, f112⟩ := (F2.b b11).three; obtain ⟨y110, y111, y112⟩ := (Y10.b hb11).three; have cE1 := cE _ f g (hfW _ b11) hgk11 rfl hcg))
        | (go_at_call 22; ((with_reducible refine cE1.mono ?_); rintro e w12 ⟨rfl, hb12⟩; have b12 := bel_trans b11 hb12; have X12 := X11.b hb12; have hG12 := hG11.below hb12; obtain ⟨s120, s121⟩ := (S2.b b12).two)))
      have HcE := Lib.hid cE
      clear cE cL cM ca cS cF cR cR2 cFi
      have lt9 := Blk.lt X12
      go_loopw [92] (fun i wr0 => ∃ (wr : World) (k : Nat), wr = wr0 ∧ k ≤ m ∧ i = .int .i64 k ∧ Below w12.heap.size w12 wr) (fun i _ => m - (intOf i).toNat)
      case atStart => exact ⟨_, 0, rfl, by omega, rfl, Below.refl _ _⟩
      case round =>
        obtain ⟨wr, k, rfl, hk, rfl, hBr⟩ := hrel
        by_cases hlt : k < m
        · obtain ⟨bb, o, ff, rfl, hb, q1, q2, q3, hx, hok⟩ := (HI.out wr (bel_trans b12 hBr)).at hlt
          have cF1 := Hfk.out k ff hx
          have cE2 := HEo.out k ff hx
          have hk0 : 0 ≤ (k : Int) := by omega
          have hk1 : (k : Int) < (m : Int) := by omega
          have c13 : Below wr.heap.size wr (wr.alloc (.cells #[.string ff.name, .slice ff.a ff.m ff.c, .string ff.res] 27)) := bel_alloc (Below.refl _ _) _
          have P13 := FBox.new wr ff.name ff.a ff.m ff.c ff.res
          obtain ⟨V13, hV13⟩ : ∃ V13, wr.alloc (.cells #[.string ff.name, .slice ff.a ff.m ff.c, .string ff.res] 27) = V13 := ⟨_, rfl⟩
          rw [hV13] at c13 P13
          have X13 := (X12.b hBr).b c13
          have hG13 := (hG12.below hBr).below c13
          have hff := Fm.ok.below hok c13
          obtain ⟨x130, x131⟩ := X13.two
          obtain ⟨p130, p131, p132⟩ := P13.three
          have cF2 := cF1 V13 A9 D9 B9 L9 H9 hG13 hc9
          clear hx hok HI Hfk HEo cF1
          go_wp2_with (first
            | (go_at_call 20; ((with_reducible refine cF2.mono ?_); rintro e w14 ⟨g2, rfl, hg14, hcg2, hb14⟩; have c14 : Below w14.heap.size w14 (w14.alloc (.cells #[.string g2.name, .slice g2.a g2.m g2.c, .string g2.res] 27)) := bel_alloc (Below.refl _ _) _; have Q14 := FBox.new w14 g2.name g2.a g2.m g2.c g2.res; have b14 := bel_trans hb14 c14; obtain ⟨p140, p141, p142⟩ := (P13.b b14).three; obtain ⟨q140, q141, q142⟩ := Q14.three; have cE3 := cE2 _ ff g2 (Fm.ok.below hff b14) (Fm.ok.below hg14 c14) rfl hcg2))
            | (go_at_call 22; ((with_reducible refine cE3.mono ?_); rintro e w15 ⟨rfl, hb15⟩)))
          go_roundw
          case rel => exact ⟨_, k + 1, rfl, by omega, by go_num, bel_trans (bel_trans (bel_trans hBr c13) b14) hb15⟩
          case measure => simp [intOf]; omega
        · go_wp2
          go_ret
          exact ⟨rfl, bel_trans hB2 (bel_trans b12 hBr)⟩
    · have hE1b : (sortE S (cores G) s == 0) = false := by simp [hE1]
      generalize sortE S (cores G) s = E1 at *
      generalize sortS S (cores G) s = Z1 at *
      generalize sortK S (cores G) s = K1 at *
      generalize Z1.length = N1 at *
      generalize K1.length = M1 at *
      have hE2b : (funE S (cores G) f.core != 0) = true := by simp [hE2]
      have k1 : funS S (cores G) f.core = [] := by unfold funS; rw [if_neg hE2]
      have k2 : funK S (cores G) f.core = [] := by unfold funK; rw [if_neg hE2]
      rw [k1, k2] at cF
      generalize funE S (cores G) f.core = E2 at *
      simp only [List.length_nil] at cF
      clear hI
      clear hS hzS hG hzG hf hzF hoS hoK hoC hK256 hR hlen hXs hrg hfW
      generalize f.name = nm at *
      generalize f.a = A at *
      generalize f.m = M at *
      generalize f.c = Cc at *
      generalize f.res = rs at *
      go_enter Try.func6, Try.ntmps6
      go_wp2_with (first
        | (go_at_call 8; ((with_reducible refine (ca _).mono ?_); rintro e w3 ⟨rfl, hb3⟩; obtain ⟨s30, s31⟩ := (S2.b hb3).two))
        | (go_at_call 9; ((with_reducible refine (cL _ hb3).mono ?_); rintro e w4 ⟨rfl, hb4⟩; have b4 := bel_trans hb3 hb4; obtain ⟨f40, f41, f42⟩ := (F2.b b4).three))
        | (go_at_call 10; ((with_reducible refine (cM _ b4).mono ?_); rintro e w5 ⟨rfl, hb5⟩; have b5 := bel_trans b4 hb5; obtain ⟨s50, s51⟩ := (S2.b b5).two))
        | (go_at_call 11; ((with_reducible refine (cR _ b5).mono ?_); rintro e w6 ⟨rfl, hb6⟩; have b6 := bel_trans b5 hb6; obtain ⟨s60, s61⟩ := (S2.b b6).two))
        | (go_at_call 15; ((with_reducible refine (cS _ b6).mono ?_); rintro e w7 ⟨A7, D7, B7, L7, H7, rfl, hS7, hG7, hc7, hb7⟩; have c7 : Below w7.heap.size w7 (w7.alloc (.cells #[.slice A7 N1 D7, .slice B7 M1 L7] 25)) := bel_alloc (Below.refl _ _) _; have X7 := SBox.new w7 A7 N1 D7 B7 M1 L7; have hS7' := hS7.below c7; have hG7' := hG7.below c7; have b8 := bel_trans (bel_trans b6 hb7) c7; obtain ⟨s80, s81⟩ := (S2.b b8).two; obtain ⟨f80, f81, f82⟩ := (F2.b b8).three))
        | (go_at_call 17; ((with_reducible refine (cF _ b8).mono ?_); rintro e w9 ⟨A9, D9, B9, L9, H9, rfl, hS9, hG9, hc9, hb9⟩; have c9 : Below w9.heap.size w9 (w9.alloc (.cells #[.slice A9 0 D9, .slice B9 0 L9] 25)) := bel_alloc (Below.refl _ _) _; have X9 := SBox.new w9 A9 0 D9 B9 0 L9; have hS9' := hS9.below c9; have hG9' := hG9.below c9; have b9 := bel_trans (bel_trans b8 hb9) c9; obtain ⟨x90, x91⟩ := X9.two)))
      go_ret
      exact ⟨rfl, bel_trans hB2 b9⟩
end Go.Proofs.Ytakcbpmdjdadnaa.Sgn
