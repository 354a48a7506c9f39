/-
  What is proved: the law on what is found in a signature, walked.
-/
import Derived.Test.YtakcbpmdjdadnaaSgnW
namespace Go.Proofs.Ytakcbpmdjdadnaa.Sgn
open Go.RowKit L Srt
set_option linter.unusedVariables false
set_option linter.unusedSimpArgs false

theorem findC_X {K : List Core} {s : ByteArray} (h : okK K) : (findC K s).2.1.length ≤ 1000000 := by
  unfold findC
  cases hc : K[idxK K s]? with
  | none => exact Nat.zero_le _
  | some C => exact (h.at hc).2.2.1
theorem same_fun {FC : Core} (hFC : FC.2.1.length ≤ 1000000) (w' : World) (f g : Fm) (hf : f.ok w') (hg : g.ok w') (h1 : f.core = FC) (h2 : g.core = FC) :
    Calls Try.prog 22 #[.agg #[.string f.name, .slice f.a f.m f.c, .string f.res], .agg #[.string g.name, .slice g.a g.m g.c, .string g.res]] w' fun e w1 => e = .returned (.bool true) ∧ Below w'.heap.size w' w1 := by
  have e1 : f.m = f.X.length := hf.1.1
  have e2 : g.m = g.X.length := hg.1.1
  have e3 : f.X.length ≤ 1000000 := by rw [← h1] at hFC; exact hFC
  have e4 : g.X.length ≤ 1000000 := by rw [← h2] at hFC; exact hFC
  have := baseFun_any f g w' hf hg (by omega) (by omega)
  rw [h1, h2, eqC_refl] at this
  exact this

set_option maxRecDepth 100000 in
set_option maxHeartbeats 16000000 in
theorem finds_walk (z z' : SgV) (s : ByteArray) (w : World) (hz : z.ok w) (hz' : z'.ok w) (hs : s.size ≤ 9223372036854775807) :
    Calls Try.prog 5 #[z.val, z'.val, .string s] w fun e w' => e = .returned (.bool true) ∧ Below w.heap.size w w' := by
  obtain ⟨a, n, c, S, b, m, d, G⟩ := z
  obtain ⟨hS, hn, hzS, hG, hm, hzG⟩ := hz
  obtain ⟨a', n', c', S', b', m', d', G'⟩ := z'
  obtain ⟨hS', hn', hzS', hG', hm', hzG'⟩ := hz'
  simp only at hS hn hzS hG hm hzG hS' hn' hzS' hG' hm' hzG'
  show Calls Try.prog 5 #[.agg #[.slice a n c, .slice b m d], .agg #[.slice a' n' c', .slice b' m' d'], .string s] w _
  obtain ⟨W2, hW2, hB2, S2, T2⟩ := boxesS w a n c b m d a' n' c' b' m' d'
  have ca := fun (w : World) => alive_any w
  have cL : ∀ w', Below W2.heap.size W2 w' → Calls Try.prog 9 #[.agg #[.slice a n c, .slice b m d]] w' fun e w1 => e = .returned (.bool (longS S (cores G))) ∧ Below w'.heap.size w' w1 := fun w' h => Long_any a n c S b m d G w' ((hS.below hB2).below h).1 hn hzS ((hG.below hB2).below h).1 hm hzG
  have cM : ∀ w', Below W2.heap.size W2 w' → Calls Try.prog 9 #[.agg #[.slice a' n' c', .slice b' m' d']] w' fun e w1 => e = .returned (.bool (longS S' (cores G'))) ∧ Below w'.heap.size w' w1 := fun w' h => Long_any a' n' c' S' b' m' d' G' w' ((hS'.below hB2).below h).1 hn' hzS' ((hG'.below hB2).below h).1 hm' hzG'
  obtain ⟨s0, s1⟩ := S2.two
  obtain ⟨t0, t1⟩ := T2.two
  cases hl : longS S (cores G) with
  | true =>
    rw [hl] at cL
    clear cM hS hzS hG hzG hS' hzS' hG' hzG'
    go_enter Try.func5, Try.ntmps5
    go_wp2_with (first
      | (go_at_call 8; ((with_reducible refine (ca _).mono ?_); rintro e w3 ⟨rfl, hb3⟩; obtain ⟨s30, s31⟩ := (S2.b hb3).two))
      | (go_at_call 9; ((with_reducible refine (cL _ hb3).mono ?_); rintro e w4 ⟨rfl, hb4⟩)))
    go_ret
    exact ⟨rfl, bel_trans hB2 (bel_trans hb3 hb4)⟩
  | false =>
    rw [hl] at cL
    cases hl' : longS S' (cores G') with
    | true =>
      rw [hl'] at cM
      clear hS hzS hG hzG hS' hzS' hG' hzG'
      go_enter Try.func5, Try.ntmps5
      go_wp2_with (first
        | (go_at_call 8; ((with_reducible refine (ca _).mono ?_); rintro e w3 ⟨rfl, hb3⟩; obtain ⟨s30, s31⟩ := (S2.b hb3).two))
        | (go_at_call 9; ((with_reducible refine (cM _ b4).mono ?_); rintro e w5 ⟨rfl, hb5⟩; have b5 := bel_trans b4 hb5))
        | (go_at_call 9; ((with_reducible refine (cL _ hb3).mono ?_); rintro e w4 ⟨rfl, hb4⟩; have b4 := bel_trans hb3 hb4; obtain ⟨t40, t41⟩ := (T2.b b4).two)))
      go_ret
      exact ⟨rfl, bel_trans hB2 b5⟩
    | false =>
      rw [hl'] at cM
      by_cases hs1 : 100 < s.size
      · have hs2 : 100 < (s.size : Int) := by omega
        clear hS hzS hG hzG hS' hzS' hG' hzG'
        go_enter Try.func5, Try.ntmps5
        go_wp2_with (first
          | (go_at_call 8; ((with_reducible refine (ca _).mono ?_); rintro e w3 ⟨rfl, hb3⟩; obtain ⟨s30, s31⟩ := (S2.b hb3).two))
          | (go_at_call 9; ((with_reducible refine (cM _ b4).mono ?_); rintro e w5 ⟨rfl, hb5⟩; have b5 := bel_trans b4 hb5))
          | (go_at_call 9; ((with_reducible refine (cL _ hb3).mono ?_); rintro e w4 ⟨rfl, hb4⟩; have b4 := bel_trans hb3 hb4; obtain ⟨t40, t41⟩ := (T2.b b4).two)))
        go_ret
        exact ⟨rfl, bel_trans hB2 b5⟩
      · have hs2 : ¬ 100 < (s.size : Int) := by omega
        obtain ⟨hS70, hoS, hG20, hoK⟩ := longS_no hl
        obtain ⟨hS70', hoS', hG20', hoK'⟩ := longS_no hl'
        have hn2 : n ≤ 1000000 := by rw [hS.1.1]; omega
        have hm2 : m ≤ 1000000 := by rw [hG.1.1, ← cores_len]; omega
        have hn2' : n' ≤ 1000000 := by rw [hS'.1.1]; omega
        have hm2' : m' ≤ 1000000 := by rw [hG'.1.1, ← cores_len]; omega
        have cF : ∀ w', Below W2.heap.size W2 w' → Calls Try.prog 20 #[.agg #[.slice a n c, .slice b m d], .string s] w' (FindPost (cores G) s w') := fun w' h => Find_any a n c b m d G s w' ((hG.below hB2).below h) hm2 hoK
        have cF' : ∀ w', Below W2.heap.size W2 w' → Calls Try.prog 21 #[.agg #[.slice a n c, .slice b m d], .string s] w' (FindPost (cores G) s w') := fun w' h => refFind_any a n c b m d G s w' ((hG.below hB2).below h) hm2
        have cE := fun (w' : World) (f g : Fm) => @same_fun (findC (cores G) s) (findC_X hoK) w' f g
        have hN : (constS (cores G) s).length ≤ 1000000000 := by
          have := const_len (cores G) s (cores G).length
          rw [List.take_length] at this; omega
        have cC : ∀ w', Below W2.heap.size W2 w' → Calls Try.prog 24 #[.agg #[.slice a n c, .slice b m d], .string s] w' fun e w1 => ∃ A c, e = .returned (.slice A (constS (cores G) s).length c) ∧ SlS w1 A (constS (cores G) s).length c (constS (cores G) s) ∧ Below w'.heap.size w' w1 := fun w' h => (Consts_any a n c b m d G s w' ((hG.below hB2).below h) hm2).mono fun _ _ h => consts_sl h
        have cC' : ∀ w', Below W2.heap.size W2 w' → Calls Try.prog 25 #[.agg #[.slice a n c, .slice b m d], .string s] w' fun e w1 => ∃ A c, e = .returned (.slice A (constS (cores G) s).length c) ∧ SlS w1 A (constS (cores G) s).length c (constS (cores G) s) ∧ Below w'.heap.size w' w1 := fun w' h => (refConsts_any a n c b m d G s w' ((hG.below hB2).below h) hm2).mono fun _ _ h => consts_sl h
        have cSt := strings_same6
        have cS : ∀ w', Below W2.heap.size W2 w' → Calls Try.prog 26 #[.agg #[.slice a n c, .slice b m d], .agg #[.slice a' n' c', .slice b' m' d']] w' fun e w1 => e = .returned (.bool (eqL S S' && eqK (cores G) (cores G'))) ∧ Below w'.heap.size w' w1 := fun w' h =>
          Same_any a n c S b m d G a' n' c' S' b' m' d' G' w' ((hS.below hB2).below h).1 hn2 ((hG.below hB2).below h).1 hm2 hoK ((hS'.below hB2).below h).1 hn2' ((hG'.below hB2).below h).1 hm2' hoK'
        have cB : ∀ w', Below W2.heap.size W2 w' → Calls Try.prog 19 #[.agg #[.slice a n c, .slice b m d], .agg #[.slice a' n' c', .slice b' m' d']] w' fun e w1 => e = .returned (.bool (eqL S S' && eqK (cores G) (cores G'))) ∧ Below w'.heap.size w' w1 := fun w' h =>
          baseSign_any a n c S b m d G a' n' c' S' b' m' d' G' w' ((hS.below hB2).below h).1 hn2 ((hG.below hB2).below h).1 hm2 hoK ((hS'.below hB2).below h).1 hn2' ((hG'.below hB2).below h).1 hm2' hoK'
        have cD : ∀ w', Below W2.heap.size W2 w' → Calls Try.prog 26 #[.agg #[.slice a n c, .slice b m d], .agg #[.slice a n c, .slice b m d]] w' fun e w1 => e = .returned (.bool true) ∧ Below w'.heap.size w' w1 := fun w' h => by
          have := Same_any a n c S b m d G a n c S b m d G w' ((hS.below hB2).below h).1 hn2 ((hG.below hB2).below h).1 hm2 hoK ((hS.below hB2).below h).1 hn2 ((hG.below hB2).below h).1 hm2 hoK
          rw [eqL_refl, eqK_refl] at this
          exact this
        have ls := Blk.lt S2
        have lt := Blk.lt T2
        clear hS hzS hG hzG hS' hzS' hG' hzG' hoS hoK hoS' hoK'
        unfold FindPost at cF cF'
        generalize hasN (cores G) s = HN at *
        generalize findC (cores G) s = FC at *
        generalize constS (cores G) s = CX at *
        generalize CX.length = CN at *
        generalize (eqL S S' && eqK (cores G) (cores G')) = Q at *
        go_enter Try.func5, Try.ntmps5
        go_wp2_with (first
          | (go_at_call 8; ((with_reducible refine (ca _).mono ?_); rintro e w3 ⟨rfl, hb3⟩; obtain ⟨s30, s31⟩ := (S2.b hb3).two))
          | (go_at_call 9; ((with_reducible refine (cM _ b4).mono ?_); rintro e w5 ⟨rfl, hb5⟩; have b5 := bel_trans b4 hb5; obtain ⟨s50, s51⟩ := (S2.b b5).two))
          | (go_at_call 9; ((with_reducible refine (cL _ hb3).mono ?_); rintro e w4 ⟨rfl, hb4⟩; have b4 := bel_trans hb3 hb4; obtain ⟨t40, t41⟩ := (T2.b b4).two))
          | (go_at_call 20; ((with_reducible refine (cF _ b5).mono ?_); rintro e w6 ⟨f, rfl, hf6, hc6, hb6⟩; have c6 : Below w6.heap.size w6 (w6.alloc (.cells #[.string f.name, .slice f.a f.m f.c, .string f.res] 27)) := bel_alloc (Below.refl _ _) _; have X6 := FBox.new w6 f.name f.a f.m f.c f.res; have b6 := bel_trans (bel_trans b5 hb6) c6; obtain ⟨s60, s61⟩ := (S2.b b6).two))
          | (go_at_call 21; ((with_reducible refine (cF' _ b6).mono ?_); rintro e w7 ⟨g, rfl, hg7, hc7, hb7⟩; have c7 : Below w7.heap.size w7 (w7.alloc (.cells #[.string g.name, .slice g.a g.m g.c, .string g.res] 27)) := bel_alloc (Below.refl _ _) _; have X7 := FBox.new w7 g.name g.a g.m g.c g.res; have b7 := bel_trans (bel_trans b6 hb7) c7; have X67 := (X6.b hb7).b c7; have hf7 := ((hf6.below c6).below hb7).below c7; have hg8 := hg7.below c7)))
        obtain ⟨V, hV⟩ : ∃ V, w7.alloc (.cells #[.string g.name, .slice g.a g.m g.c, .string g.res] 27) = V := ⟨_, rfl⟩
        rw [hV] at b7 X7 X67 hf7 hg8 ⊢
        clear hV c6 c7 s30 s31 t40 t41 s50 s51 s60 s61 X6 cF cF' cL cM ca hf6 hg7 hW2
        obtain ⟨u0, u1⟩ := (S2.b b7).two
        obtain ⟨v0, v1⟩ := (T2.b b7).two
        have lu := Blk.lt (S2.b b7)
        have lv := Blk.lt (T2.b b7)
        obtain ⟨x0, x1, x2⟩ := X67.three
        obtain ⟨y0, y1, y2⟩ := X7.three
        have lx := Blk.lt X67
        have ly := Blk.lt X7
        have cE0 := cE V.drew f g (Fm.ok.below hf7 (Below.refl _ _).drew) (Fm.ok.below hg8 (Below.refl _ _).drew) hc6 hc7
        have Bv : Below V.heap.size V V.drew := (Below.refl _ _).drew
        have Bw : Below W2.heap.size W2 V.drew := b7.drew
        clear cE hf7 hg8 hc6 hc7 s0 s1 t0 t1
        generalize f.name = nm at *
        generalize f.a = A at *
        generalize f.m = M at *
        generalize f.c = Cc at *
        generalize f.res = rs at *
        generalize g.name = nm' at *
        generalize g.a = A' at *
        generalize g.m = M' at *
        generalize g.c = Cc' at *
        generalize g.res = rs' at *
        have Bn := Bv
        go_region_held3 (fun w' => w'.cell? ⟨w.heap.size, 0, none⟩ = some (.slice a n c) ∧ w'.cell? ⟨w.heap.size, 1, none⟩ = some (.slice b m d) ∧ w'.cell? ⟨w.heap.size + 1, 0, none⟩ = some (.slice a' n' c') ∧ w'.cell? ⟨w.heap.size + 1, 1, none⟩ = some (.slice b' m' d') ∧ w'.cell? ⟨w6.heap.size, 0, none⟩ = some (.string nm) ∧ w'.cell? ⟨w6.heap.size, 1, none⟩ = some (.slice A M Cc) ∧ w'.cell? ⟨w6.heap.size, 2, none⟩ = some (.string rs) ∧ w'.cell? ⟨w7.heap.size, 0, none⟩ = some (.string nm') ∧ w'.cell? ⟨w7.heap.size, 1, none⟩ = some (.slice A' M' Cc') ∧ w'.cell? ⟨w7.heap.size, 2, none⟩ = some (.string rs'))
          (first | (exact ⟨(Bn.cell lu).trans u0, (Bn.cell lu).trans u1, (Bn.cell lv).trans v0, (Bn.cell lv).trans v1, (Bn.cell lx).trans x0, (Bn.cell lx).trans x1, (Bn.cell lx).trans x2, (Bn.cell ly).trans y0, (Bn.cell ly).trans y1, (Bn.cell ly).trans y2⟩) | go_keep)
          (first
            | (go_at_call 22; ((with_reducible refine cE0.mono ?_); rintro e w8 ⟨rfl, hb8⟩; have Bn := bel_trans (a := V) (by assumption) hb8))
            | (go_at_call 24; ((with_reducible refine (cC _ (bel_trans b7 (by assumption))).mono ?_); rintro e w9 ⟨Ac, dc, rfl, hSc, hb9⟩; have Bn := bel_trans (a := V) (by assumption) hb9; try (have hSd := hSd.below hb9)))
            | (go_at_call 25; ((with_reducible refine (cC' _ (bel_trans b7 (by assumption))).mono ?_); rintro e w10 ⟨Ad, dd, rfl, hSd, hb10⟩; have Bn := bel_trans (a := V) (by assumption) hb10; try (have hSc := hSc.below hb10)))
            | (go_at_call 23; ((with_reducible refine (cSt _ _ _ _ _ _ _ hSc hSd hN).mono ?_); rintro e w11 ⟨rfl, hb11⟩; have Bn := bel_trans (a := V) (by assumption) hb11))
            | (go_at_call 26; ((with_reducible refine (cD _ (bel_trans b7 (by assumption))).mono ?_); rintro e w12 ⟨rfl, hb12⟩; have Bn := bel_trans (a := V) (by assumption) hb12))
            | (go_at_call 26; ((with_reducible refine (cS _ (bel_trans b7 (by assumption))).mono ?_); rintro e w13 ⟨rfl, hb13⟩; have Bn := bel_trans (a := V) (by assumption) hb13))
            | (go_at_call 19; ((with_reducible refine (cB _ (bel_trans b7 (by assumption))).mono ?_); rintro e w14 ⟨rfl, hb14⟩; have Bn := bel_trans (a := V) (by assumption) hb14)))
        all_goals go_wp2
        all_goals go_ret
        all_goals exact ⟨rfl, bel_trans hB2 (bel_trans b7 Bn)⟩
end Go.Proofs.Ytakcbpmdjdadnaa.Sgn
