/-
  What is proved: the law over Copy of claims.
-/
import Derived.Test.YtnjcemhfmhiikaaClmG
import Derived.Test.YtnjcemhfmhiikaaClmWt
import Derived.Test.YtnjcemhfmhiikaaClmX
import Derived.Test.YtnjcemhfmhiikaaClmO
import Derived.Test.YtnjcemhfmhiikaaClmK
import Derived.Test.YtnjcemhfmhiikaaClmTc
import Derived.Test.YtnjcemhfmhiikaaClmSc
import Derived.Deep.RegionHeld3
namespace Go.Proofs.Ytnjcemhfmhiikaa.C
open Go.RowKit L T
set_option linter.unusedVariables false
set_option linter.unusedSimpArgs false

/-- a claim is returned that reads as this one -/
def RetC (t : Cl) (w : World) (e : Ending) (w' : World) : Prop := ∃ (K0 : Option Addr) (K1 K2 : Nat) (A : Option Addr) (N C : Nat), e = .returned (.agg #[.int .i64 (opC t), .string (nmC t), .string (soC t), .slice K0 K1 K2, .slice A N C]) ∧ ArWC w' t ⟨K0, K1, K2⟩ A N C ∧ Below w.heap.size w w'
theorem MixC.ret {t : Cl} {w w' : World} {e : Ending} (h : MixC t w e w') : RetC t w e w' := by
  obtain ⟨⟨K0, K1, K2⟩, A, N, C, rfl, h1, h2⟩ := h
  exact ⟨K0, K1, K2, A, N, C, rfl, ArCP.ar (fun b hb => hb.1) t h1, h2⟩
/-- a copy is returned, in blocks of its own -/
def RetFC (t : Cl) (w : World) (e : Ending) (w' : World) : Prop := ∃ (K0 : Option Addr) (K1 K2 : Nat) (A : Option Addr) (N C : Nat), e = .returned (.agg #[.int .i64 (opC t), .string (nmC t), .string (soC t), .slice K0 K1 K2, .slice A N C]) ∧ FrC w' t w.heap.size w'.heap.size ⟨opC t, nmC t, soC t, ⟨K0, K1, K2⟩, A, N, C⟩ ∧ Below w.heap.size w w'
theorem NewC.retF {r : Cl} {w w' : World} {e : Ending} (h : NewC r w e w') : RetFC r w e w' := by
  obtain ⟨⟨o, s, z, ⟨K0, K1, K2⟩, A, N, C⟩, e1, hf, hb⟩ := h
  obtain ⟨q1, q2, q3⟩ := FrC.hd hf
  dsimp only at q1 q2 q3 e1
  subst q1 q2 q3
  exact ⟨K0, K1, K2, A, N, C, e1, hf, hb⟩
theorem exC_self : ∀ t : Cl, exC t t = true := exC_refl

set_option maxRecDepth 100000 in
set_option maxHeartbeats 16000000 in
theorem copiesC (t : Cl) (k : SS) (a : Option Addr) (n c : Nat) (w : World) (HA : ArWC w t k a n c) :
    Calls Try.prog 6 #[.agg #[.int .i64 (opC t), .string (nmC t), .string (soC t), .slice k.a k.n k.c, .slice a n c]] w fun e w' => e = .returned (.bool true) ∧ Below w.heap.size w w' := by
  obtain ⟨ka, kn, kc⟩ := k
  obtain ⟨W, hW, hB, hs, S0⟩ := cbox1 w (opC t) (nmC t) (soC t) ⟨ka, kn, kc⟩ a n c
  dsimp only at hW ⊢
  have hA := ArWC.b HA hB
  have g0 := fun (w' : World) => alive_any w'
  have z1 := Big_any t ⟨ka, kn, kc⟩ a n c 400 W (by omega) hA
  rw [show ((400 : Nat) : Int) = 400 from rfl] at z1
  have cW := fun (hsm : wt t ≤ 1000000) (w' : World) (h : Below W.heap.size W w') => TwinC_any t ⟨ka, kn, kc⟩ a n c w' hsm (ArWC.b hA h)
  have cC := fun (hsm : wt t ≤ 1000000) (w' : World) (h : Below W.heap.size W w') => (CopyC_any t ⟨ka, kn, kc⟩ a n c w' hsm (ArWC.b hA h)).mono (fun e w1 h => NewC.retF h)
  have cT := fun (K K' : SS) (A : Option Addr) (N C : Nat) (A' : Option Addr) (N' C' : Nat) (w' : World) (hX : ArWC w' t K A N C) (hX' : ArWC w' t K' A' N' C') => Exact_any t t K A N C K' A' N' C' w' hX hX'
  rw [exC_self] at cT
  have cP := fun (K : SS) (A : Option Addr) (N C lo hi : Nat) (w' : World) (h1 : hi ≤ w'.heap.size) (h2 : FrC w' t lo hi ⟨opC t, nmC t, soC t, K, A, N, C⟩) => SpoilC_any t ⟨opC t, nmC t, soC t, K, A, N, C⟩ lo hi w' h1 h2
  have HCW := Lib.hid cW
  have HCC := Lib.hid cC
  have hle := Lib.hid (wtTo_le t 400)
  have l0 := Blk.lt S0
  obtain ⟨s0, s1, s2, s3, s4⟩ := S0.five
  have HAt := Lib.hid hA
  have HS0 := Lib.hid S0
  clear hA HA S0 cW cC
  generalize htt : wtTo 400 t = tt at z1
  have Htt := Lib.hid htt
  clear htt
  by_cases hz : tt ≤ 400
  · have hsm : wt t ≤ 1000000 := by have h1 := hle.out; rw [Htt.out] at h1; have := h1 hz; omega
    have cW := HCW.out hsm
    have cC := HCC.out hsm
    clear HCW HCC hsm hle Htt
    unfold MixC at cW
    unfold RetFC at cC
    have hBd : Below W.heap.size W W := Below.refl _ _
    generalize opC t = op at *
    generalize nmC t = nm at *
    generalize soC t = nu at *
    have HSA := HS0
    go_enter Try.func6, Try.ntmps6
    go_wp2_with (go_at_call 7; ((with_reducible refine z1.mono ?_); rintro e w4 ⟨rfl, hb4⟩; have Bz := bel_trans (a := W) (Below.refl _ _) hb4; obtain ⟨s0, s1, s2, s3, s4⟩ := (CBox.b HS0.out Bz).five))
    have Bd6 : Below w4.heap.size w4 w4.drew := (Below.refl _ _).drew
    have Sd := CBox.b HSA.out (bel_trans (a := W) Bz Bd6)
    refine wp_region_noPanic ?_
    refine wp_region_held_drew (S := fun w' => w'.cell? ⟨w.heap.size, 0, none⟩ = some (.int .i64 op) ∧ w'.cell? ⟨w.heap.size, 1, none⟩ = some (.string nm) ∧ w'.cell? ⟨w.heap.size, 2, none⟩ = some (.string nu) ∧ w'.cell? ⟨w.heap.size, 3, none⟩ = some (.slice ka kn kc) ∧ w'.cell? ⟨w.heap.size, 4, none⟩ = some (.slice a n c)) (by kernel_rfl) (by obtain ⟨q0, q1, q2, q3, q4⟩ := CBox.five Sd; exact ⟨q0, q1, q2, q3, q4⟩) (fun hHeld => ?_)
    have Bc := bel_trans (a := W) Bz Bd6
    have b_w4 := Bd6
    have hz6 := Bz.size
    have hlt6 : w.heap.size < w4.heap.size := by omega
    generalize w4.drew = Wd at *
    refine wpAnyH_take (i := 0) (v := ?_) rfl (by kernel_rfl) (by kernel_rfl) (by kernel_rfl) (fun _ _ _ h => h) (Or.inl ⟨by rfl, ?hy⟩) (by assumption) ?_
    case hy => (intro w hSw; (try dsimp only at hSw); go_simp; try (with_reducible rfl))
    (try simp only [Act.put, List.setIfInBounds_toArray, List.set_cons_zero, List.set_cons_succ])
    refine wpAnyH_take (i := 2) (v := ?_) rfl (by kernel_rfl) (by kernel_rfl) (by kernel_rfl) (fun _ _ _ h => h) (Or.inl ⟨by rfl, ?hy⟩) (by assumption) ?_
    case hy => (intro w hSw; (try dsimp only at hSw); go_simp; try (with_reducible rfl))
    (try simp only [Act.put, List.setIfInBounds_toArray, List.set_cons_zero, List.set_cons_succ])
    refine wpAnyH_ready (rs := [1, 4, 5]) (by kernel_rfl) (by simp) ?_
    refine AllReadyH.cons rfl (fun KK hKK => ?_) ?_
    · go_simp
      (go_at_call 23; ((with_reducible refine (cW _ Bc).mono ?_); rintro e wA ⟨⟨P0, P1, P2⟩, PA, PN, PC, rfl, hX, hb⟩))
      have hzA := hb.size
      have HXA := Lib.hid hX
      clear hX
      have Bc := bel_trans (a := W) Bc hb
      have b_w4 := bel_trans (a := w4) b_w4 hb
      have b_wA := Below.refl wA.heap.size wA
      refine hKK.out _ _ (by obtain ⟨q0, q1, q2, q3, q4⟩ := CBox.five (CBox.b HSA.out Bc); exact ⟨q0, q1, q2, q3, q4⟩) (fun hHeld => ?_)
      clear hKK KK
      (try simp only [Act.put, List.setIfInBounds_toArray, List.set_cons_zero, List.set_cons_succ])
      refine wpAnyH_ready (rs := [3, 4, 5]) (by kernel_rfl) (by simp) ?_
      refine AllReadyH.cons rfl (fun KK hKK => ?_) ?_
      · go_simp
        (go_at_call 24; ((with_reducible refine (cC _ Bc).mono ?_); rintro e wE ⟨E0, E1, E2, EA, EN, EC, rfl, hX, hb⟩))
        have hzE := hb.size
        have HXE := Lib.hid hX
        clear hX
        have Bc := bel_trans (a := W) Bc hb
        have b_w4 := bel_trans (a := w4) b_w4 hb
        have b_wA := bel_trans (a := wA) b_wA hb
        have b_wE := Below.refl wE.heap.size wE
        refine hKK.out _ _ (by obtain ⟨q0, q1, q2, q3, q4⟩ := CBox.five (CBox.b HSA.out Bc); exact ⟨q0, q1, q2, q3, q4⟩) (fun hHeld => ?_)
        clear hKK KK
        (try simp only [Act.put, List.setIfInBounds_toArray, List.set_cons_zero, List.set_cons_succ])
        refine wpAnyH_ready (rs := [4, 5]) (by kernel_rfl) (by simp) ?_
        refine AllReadyH.cons rfl (fun KK hKK => ?_) ?_
        · obtain ⟨V8, hV8⟩ : ∃ V, wE.alloc (.cells #[.int .i64 0, .string ⟨#[]⟩, .string ⟨#[]⟩, .slice none 0 0, .slice none 0 0] 25) = V := ⟨_, rfl⟩
          obtain ⟨p8, hp8⟩ : ∃ p, wE.heap.size = p := ⟨_, rfl⟩
          have hb8 : Below wE.heap.size wE V8 := by rw [← hV8]; exact bel_alloc (Below.refl _ _) _
          have hz8 : V8.heap.size = p8 + 1 := by rw [← hV8, ← hp8]; simp
          have Z8 : CBox V8 p8 0 ⟨#[]⟩ ⟨#[]⟩ SS.nil none 0 0 := by rw [← hV8, ← hp8]; exact CBox.new wE 0 ⟨#[]⟩ ⟨#[]⟩ SS.nil none 0 0
          have Hz8 := Lib.hid hz8
          clear hz8
          go_simp
          have Hp8 := Lib.hid hp8
          clear hV8 hp8
          have Bc := bel_trans (a := W) Bc hb8
          have b_w4 := bel_trans (a := w4) b_w4 hb8
          have b_wA := bel_trans (a := wA) b_wA hb8
          have b_wE := bel_trans (a := wE) b_wE hb8
          refine hKK.out _ _ (by obtain ⟨q0, q1, q2, q3, q4⟩ := CBox.five (CBox.b HSA.out Bc); exact ⟨q0, q1, q2, q3, q4⟩) (fun hHeld => ?_)
          clear hKK KK
          (try simp only [Act.put, List.setIfInBounds_toArray, List.set_cons_zero, List.set_cons_succ])
          refine wpAnyH_ready (rs := [5]) (by kernel_rfl) (by simp) ?_
          refine AllReadyH.cons rfl (fun KK hKK => ?_) ?_
          · obtain ⟨V9, hV9⟩ : ∃ V, V8.alloc (.cells #[.int .i64 0, .string ⟨#[]⟩, .string ⟨#[]⟩, .slice none 0 0, .slice none 0 0] 25) = V := ⟨_, rfl⟩
            obtain ⟨p9, hp9⟩ : ∃ p, V8.heap.size = p := ⟨_, rfl⟩
            have hb9 : Below V8.heap.size V8 V9 := by rw [← hV9]; exact bel_alloc (Below.refl _ _) _
            have hz9 : V9.heap.size = p9 + 1 := by rw [← hV9, ← hp9]; simp
            have Z9 : CBox V9 p9 0 ⟨#[]⟩ ⟨#[]⟩ SS.nil none 0 0 := by rw [← hV9, ← hp9]; exact CBox.new V8 0 ⟨#[]⟩ ⟨#[]⟩ SS.nil none 0 0
            have Hz9 := Lib.hid hz9
            clear hz9
            go_simp
            have Hp9 := Lib.hid hp9
            clear hV9 hp9
            have Bc := bel_trans (a := W) Bc hb9
            have b_w4 := bel_trans (a := w4) b_w4 hb9
            have b_wA := bel_trans (a := wA) b_wA hb9
            have b_wE := bel_trans (a := wE) b_wE hb9
            have Z8 := CBox.b Z8 hb9
            refine hKK.out _ _ (by obtain ⟨q0, q1, q2, q3, q4⟩ := CBox.five (CBox.b HSA.out Bc); exact ⟨q0, q1, q2, q3, q4⟩) (fun hHeld => ?_)
            clear hKK KK
            (try simp only [Act.put, List.setIfInBounds_toArray, List.set_cons_zero, List.set_cons_succ])
            refine wpAnyH_ready (rs := [6]) (by kernel_rfl) (by simp) ?_
            refine AllReadyH.cons rfl (fun KK hKK => ?_) ?_
            · obtain ⟨z0, z1, z2, z3, z4⟩ := Z8.five
              obtain ⟨y0, y1, y2, y3, y4⟩ := Z8.free
              dsimp only [SS.nil] at z3
              have B8 := CBox.put Z8 op nm nu ⟨P0, P1, P2⟩ PA PN PC
              have O8 := fun b (hb : b ≠ p8) => put5_other V9 p8 b (.int .i64 op) (.string nm) (.string nu) (.slice P0 P1 P2) (.slice PA PN PC) hb
              have S8 := put5_size V9 p8 (.int .i64 op) (.string nm) (.string nu) (.slice P0 P1 P2) (.slice PA PN PC)
              have hpw : w4.heap.size ≤ p8 ∧ w4.heap.size ≤ p9 ∧ p8 ≠ p9 ∧ w.heap.size < w4.heap.size := by have e8 := Hp8.out; have e9 := Hp9.out; have s6 := Bd6.size; have t0 := Hz8.out; have t1 := Hz9.out; have t2 := hzA; have t3 := hzE; have t4 := b_w4.size; omega
              have L8 := put5_below Bc (show W.heap.size ≤ p8 by have := hz6; omega) (.int .i64 op) (.string nm) (.string nu) (.slice P0 P1 P2) (.slice PA PN PC)
              have L68 := put5_below b_w4 hpw.1 (.int .i64 op) (.string nm) (.string nu) (.slice P0 P1 P2) (.slice PA PN PC)
              obtain ⟨U8, hU8⟩ : ∃ U, put5 V9 p8 (.int .i64 op) (.string nm) (.string nu) (.slice P0 P1 P2) (.slice PA PN PC) = U := ⟨_, rfl⟩
              dsimp only at B8
              rw [hU8] at B8 O8 S8 L8 L68
              unfold put5 at hU8
              go_simp
              clear hU8
              refine hKK.out _ _ (by obtain ⟨q0, q1, q2, q3, q4⟩ := CBox.five (((O8 w.heap.size (by omega)).trans (CBox.b HSA.out Bc) : CBox U8 w.heap.size op nm nu ⟨ka, kn, kc⟩ a n c)); exact ⟨q0, q1, q2, q3, q4⟩) (fun hHeld => ?_)
              clear hKK KK
              (try simp only [Act.put, List.setIfInBounds_toArray, List.set_cons_zero, List.set_cons_succ])
              have Z9 : CBox U8 p9 0 ⟨#[]⟩ ⟨#[]⟩ SS.nil none 0 0 := (O8 p9 (fun h => hpw.2.2.1 h.symm)).trans Z9
              refine wpAnyH_ready (rs := [7]) (by kernel_rfl) (by simp) ?_
              refine AllReadyH.cons rfl (fun KK hKK => ?_) ?_
              · obtain ⟨z0, z1, z2, z3, z4⟩ := Z9.five
                obtain ⟨y0, y1, y2, y3, y4⟩ := Z9.free
                dsimp only [SS.nil] at z3
                have B9 := CBox.put Z9 op nm nu ⟨E0, E1, E2⟩ EA EN EC
                have O9 := fun b (hb : b ≠ p9) => put5_other U8 p9 b (.int .i64 op) (.string nm) (.string nu) (.slice E0 E1 E2) (.slice EA EN EC) hb
                have S9 := put5_size U8 p9 (.int .i64 op) (.string nm) (.string nu) (.slice E0 E1 E2) (.slice EA EN EC)
                have L9 := put5_below L8 (show W.heap.size ≤ p9 by have := hz6; omega) (.int .i64 op) (.string nm) (.string nu) (.slice E0 E1 E2) (.slice EA EN EC)
                have L69 := put5_below L68 hpw.2.1 (.int .i64 op) (.string nm) (.string nu) (.slice E0 E1 E2) (.slice EA EN EC)
                obtain ⟨WF, hWF⟩ : ∃ U, put5 U8 p9 (.int .i64 op) (.string nm) (.string nu) (.slice E0 E1 E2) (.slice EA EN EC) = U := ⟨_, rfl⟩
                dsimp only at B9
                rw [hWF] at B9 O9 S9 L9 L69
                unfold put5 at hWF
                go_simp
                clear hWF
                refine hKK.out _ _ (by obtain ⟨q0, q1, q2, q3, q4⟩ := CBox.five (((O9 w.heap.size (by omega)).trans ((O8 w.heap.size (by omega)).trans (CBox.b HSA.out Bc)) : CBox WF w.heap.size op nm nu ⟨ka, kn, kc⟩ a n c)); exact ⟨q0, q1, q2, q3, q4⟩) (fun hHeld => ?_)
                clear hKK KK
                (try simp only [Act.put, List.setIfInBounds_toArray, List.set_cons_zero, List.set_cons_succ])
                refine wpAnyH_done (by kernel_rfl) ?_ _
                refine NoPanic.normal ?_
                have s6 := Bd6.size
                have e8 := Hp8.out
                have e9 := Hp9.out
                have t0 := Hz8.out
                have t1 := Hz9.out
                have sA2 := b_wA.size
                have sE2 := b_wE.size
                have FC : CBox WF w.heap.size op nm nu ⟨ka, kn, kc⟩ a n c := (O9 _ (by omega)).trans ((O8 _ (by omega)).trans (CBox.b HSA.out Bc))
                have F8 : CBox WF p8 op nm nu ⟨P0, P1, P2⟩ PA PN PC := (O9 _ hpw.2.2.1).trans B8
                have keep := fun (V : World) (hb : Below V.heap.size V V9) (b : Nat) (h1 : b < V.heap.size) (h2 : b ≠ p8) (h3 : b ≠ p9) => (O9 b h3).trans ((O8 b h2).trans (hb.block b h1))
                have FA := Lib.hid (ArCP.to (Q := fun b => b < wA.heap.size) (fun b hb => keep wA b_wA b hb.1 (by rcases hb.2 with h | h <;> have := hb.1 <;> omega) (by rcases hb.2 with h | h <;> have := hb.1 <;> omega)) (fun b hb => by have := hb.1; omega) _ HXA.out)
                have FE := Lib.hid (FrC.same t (fun b h1 h2 => keep wE b_wE b h2 (by omega) (by omega)) HXE.out)
                have hio : (p8 < wA.heap.size ∨ wE.heap.size ≤ p8) ∧ w.heap.size < wA.heap.size ∧ wE.heap.size ≤ WF.heap.size ∧ W.heap.size ≤ wA.heap.size ∧ wA.heap.size ≤ wE.heap.size := by omega
                obtain ⟨lo, hlo⟩ : ∃ lo, wA.heap.size = lo := ⟨_, rfl⟩
                obtain ⟨hi, hhi⟩ : ∃ hi, wE.heap.size = hi := ⟨_, rfl⟩
                rw [hlo] at FA FE hio
                rw [hhi] at FE hio
                have l8 := Blk.lt F8
                have FCc := Lib.hid (ArWC.b HAt.out L9)
                have FEr := Lib.hid (FrC.ar (B := WF.heap.size) t hio.2.2.1 FE.out)
                have H8 := Lib.hid F8
                have HFC := Lib.hid FC
                have HL9 := Lib.hid L9
                have Hio := Lib.hid hio
                have L8lt := Lib.hid l8
                obtain ⟨a0, a1, a2, a3, a4⟩ := FC.five
                have HB9 := Lib.hid B9
                obtain ⟨b0, b1, b2, b3, b4⟩ := B9.five
                clear hlo hhi e8 e9 t0 t1 s6 sA2 sE2 HXA HXE Z8 Z9 O8 O9 S8 S9 L8 L68 L69 keep hio l8 F8 FC B8 hpw hzA hzE hz6
                go_wp2_with (first
                  | (go_at_call 14; ((with_reducible refine (cT ⟨E0, E1, E2⟩ ⟨ka, kn, kc⟩ EA EN EC a n c WF FEr.out FCc.out).mono ?_); rintro e w9 ⟨rfl, hb9⟩; have G9 := Lib.hid (FrC.same t (fun b h1 h2 => hb9.block b (by have := Hio.out.2.2.1; omega)) FE.out); have hs9 := hb9.size; have K9 := Lib.hid (CBox.b H8.out hb9); obtain ⟨a0, a1, a2, a3, a4⟩ := (CBox.b HFC.out hb9).five; obtain ⟨b0, b1, b2, b3, b4⟩ := (CBox.b HB9.out hb9).five; have cS := cP ⟨E0, E1, E2⟩ EA EN EC lo hi w9 (by have := Hio.out.2.2.1; omega) G9.out; dsimp only at cS))
                  | (go_at_call 25; ((with_reducible refine cS.mono ?_); rintro e w10 ⟨rfl, hb10, ho10⟩; have k1 := Hio.out; have k2 := L8lt.out; have K10 : CBox w10 p8 op nm nu ⟨P0, P1, P2⟩ PA PN PC := k1.1.elim (fun h => (hb10.block p8 h).trans K9.out) (fun h => (ho10 p8 h (by omega)).trans K9.out); have C10 : CBox w10 w.heap.size op nm nu ⟨ka, kn, kc⟩ a n c := (hb10.block w.heap.size k1.2.1).trans (CBox.b HFC.out hb9); obtain ⟨a0, a1, a2, a3, a4⟩ := C10.five; obtain ⟨d0, d1, d2, d3, d4⟩ := K10.five; have B10 : Below W.heap.size W w10 := (bel_trans HL9.out hb9).trans (hb10.mono k1.2.2.2.1); have s10 := hb10.size; have R10 := Lib.hid (ArCP.ar (B := w10.heap.size) (fun b hb => hb) t (ArCP.to (Q := fun b => b < w10.heap.size) (fun b hb => (hb10.block b hb).trans (hb9.block b (by omega))) (fun b hb => by omega) t FA.out)); have D10 := Lib.hid (ArWC.b HAt.out B10); clear k1 k2 K10 C10))
                  | (go_at_call 14; ((with_reducible refine (cT ⟨ka, kn, kc⟩ ⟨P0, P1, P2⟩ a n c PA PN PC w10 D10.out R10.out).mono ?_); rintro e w11 ⟨rfl, hb11⟩))
                  | (go_at_call 8; ((with_reducible refine (g0 _).mono ?_); rintro e w12 ⟨rfl, hb12⟩)))
                go_ret
                exact ⟨rfl, bel_trans hB (bel_trans (a := W) (bel_trans (a := W) B10 hb11) hb12)⟩
              exact AllReadyH.nil
            exact AllReadyH.nil
          exact AllReadyH.nil
        refine AllReadyH.cons rfl (fun KK hKK => ?_) ?_
        · obtain ⟨V9, hV9⟩ : ∃ V, wE.alloc (.cells #[.int .i64 0, .string ⟨#[]⟩, .string ⟨#[]⟩, .slice none 0 0, .slice none 0 0] 25) = V := ⟨_, rfl⟩
          obtain ⟨p9, hp9⟩ : ∃ p, wE.heap.size = p := ⟨_, rfl⟩
          have hb9 : Below wE.heap.size wE V9 := by rw [← hV9]; exact bel_alloc (Below.refl _ _) _
          have hz9 : V9.heap.size = p9 + 1 := by rw [← hV9, ← hp9]; simp
          have Z9 : CBox V9 p9 0 ⟨#[]⟩ ⟨#[]⟩ SS.nil none 0 0 := by rw [← hV9, ← hp9]; exact CBox.new wE 0 ⟨#[]⟩ ⟨#[]⟩ SS.nil none 0 0
          have Hz9 := Lib.hid hz9
          clear hz9
          go_simp
          have Hp9 := Lib.hid hp9
          clear hV9 hp9
          have Bc := bel_trans (a := W) Bc hb9
          have b_w4 := bel_trans (a := w4) b_w4 hb9
          have b_wA := bel_trans (a := wA) b_wA hb9
          have b_wE := bel_trans (a := wE) b_wE hb9
          refine hKK.out _ _ (by obtain ⟨q0, q1, q2, q3, q4⟩ := CBox.five (CBox.b HSA.out Bc); exact ⟨q0, q1, q2, q3, q4⟩) (fun hHeld => ?_)
          clear hKK KK
          (try simp only [Act.put, List.setIfInBounds_toArray, List.set_cons_zero, List.set_cons_succ])
          refine wpAnyH_ready (rs := [4]) (by kernel_rfl) (by simp) ?_
          refine AllReadyH.cons rfl (fun KK hKK => ?_) ?_
          · obtain ⟨V8, hV8⟩ : ∃ V, V9.alloc (.cells #[.int .i64 0, .string ⟨#[]⟩, .string ⟨#[]⟩, .slice none 0 0, .slice none 0 0] 25) = V := ⟨_, rfl⟩
            obtain ⟨p8, hp8⟩ : ∃ p, V9.heap.size = p := ⟨_, rfl⟩
            have hb8 : Below V9.heap.size V9 V8 := by rw [← hV8]; exact bel_alloc (Below.refl _ _) _
            have hz8 : V8.heap.size = p8 + 1 := by rw [← hV8, ← hp8]; simp
            have Z8 : CBox V8 p8 0 ⟨#[]⟩ ⟨#[]⟩ SS.nil none 0 0 := by rw [← hV8, ← hp8]; exact CBox.new V9 0 ⟨#[]⟩ ⟨#[]⟩ SS.nil none 0 0
            have Hz8 := Lib.hid hz8
            clear hz8
            go_simp
            have Hp8 := Lib.hid hp8
            clear hV8 hp8
            have Bc := bel_trans (a := W) Bc hb8
            have b_w4 := bel_trans (a := w4) b_w4 hb8
            have b_wA := bel_trans (a := wA) b_wA hb8
            have b_wE := bel_trans (a := wE) b_wE hb8
            have Z9 := CBox.b Z9 hb8
            refine hKK.out _ _ (by obtain ⟨q0, q1, q2, q3, q4⟩ := CBox.five (CBox.b HSA.out Bc); exact ⟨q0, q1, q2, q3, q4⟩) (fun hHeld => ?_)
            clear hKK KK
            (try simp only [Act.put, List.setIfInBounds_toArray, List.set_cons_zero, List.set_cons_succ])
            refine wpAnyH_ready (rs := [6]) (by kernel_rfl) (by simp) ?_
            refine AllReadyH.cons rfl (fun KK hKK => ?_) ?_
            · obtain ⟨z0, z1, z2, z3, z4⟩ := Z8.five
              obtain ⟨y0, y1, y2, y3, y4⟩ := Z8.free
              dsimp only [SS.nil] at z3
              have B8 := CBox.put Z8 op nm nu ⟨P0, P1, P2⟩ PA PN PC
              have O8 := fun b (hb : b ≠ p8) => put5_other V8 p8 b (.int .i64 op) (.string nm) (.string nu) (.slice P0 P1 P2) (.slice PA PN PC) hb
              have S8 := put5_size V8 p8 (.int .i64 op) (.string nm) (.string nu) (.slice P0 P1 P2) (.slice PA PN PC)
              have hpw : w4.heap.size ≤ p8 ∧ w4.heap.size ≤ p9 ∧ p8 ≠ p9 ∧ w.heap.size < w4.heap.size := by have e8 := Hp8.out; have e9 := Hp9.out; have s6 := Bd6.size; have t0 := Hz8.out; have t1 := Hz9.out; have t2 := hzA; have t3 := hzE; have t4 := b_w4.size; omega
              have L8 := put5_below Bc (show W.heap.size ≤ p8 by have := hz6; omega) (.int .i64 op) (.string nm) (.string nu) (.slice P0 P1 P2) (.slice PA PN PC)
              have L68 := put5_below b_w4 hpw.1 (.int .i64 op) (.string nm) (.string nu) (.slice P0 P1 P2) (.slice PA PN PC)
              obtain ⟨U8, hU8⟩ : ∃ U, put5 V8 p8 (.int .i64 op) (.string nm) (.string nu) (.slice P0 P1 P2) (.slice PA PN PC) = U := ⟨_, rfl⟩
              dsimp only at B8
              rw [hU8] at B8 O8 S8 L8 L68
              unfold put5 at hU8
              go_simp
              clear hU8
              refine hKK.out _ _ (by obtain ⟨q0, q1, q2, q3, q4⟩ := CBox.five (((O8 w.heap.size (by omega)).trans (CBox.b HSA.out Bc) : CBox U8 w.heap.size op nm nu ⟨ka, kn, kc⟩ a n c)); exact ⟨q0, q1, q2, q3, q4⟩) (fun hHeld => ?_)
              clear hKK KK
              (try simp only [Act.put, List.setIfInBounds_toArray, List.set_cons_zero, List.set_cons_succ])
              have Z9 : CBox U8 p9 0 ⟨#[]⟩ ⟨#[]⟩ SS.nil none 0 0 := (O8 p9 (fun h => hpw.2.2.1 h.symm)).trans Z9
              refine wpAnyH_ready (rs := [7]) (by kernel_rfl) (by simp) ?_
              refine AllReadyH.cons rfl (fun KK hKK => ?_) ?_
              · obtain ⟨z0, z1, z2, z3, z4⟩ := Z9.five
                obtain ⟨y0, y1, y2, y3, y4⟩ := Z9.free
                dsimp only [SS.nil] at z3
                have B9 := CBox.put Z9 op nm nu ⟨E0, E1, E2⟩ EA EN EC
                have O9 := fun b (hb : b ≠ p9) => put5_other U8 p9 b (.int .i64 op) (.string nm) (.string nu) (.slice E0 E1 E2) (.slice EA EN EC) hb
                have S9 := put5_size U8 p9 (.int .i64 op) (.string nm) (.string nu) (.slice E0 E1 E2) (.slice EA EN EC)
                have L9 := put5_below L8 (show W.heap.size ≤ p9 by have := hz6; omega) (.int .i64 op) (.string nm) (.string nu) (.slice E0 E1 E2) (.slice EA EN EC)
                have L69 := put5_below L68 hpw.2.1 (.int .i64 op) (.string nm) (.string nu) (.slice E0 E1 E2) (.slice EA EN EC)
                obtain ⟨WF, hWF⟩ : ∃ U, put5 U8 p9 (.int .i64 op) (.string nm) (.string nu) (.slice E0 E1 E2) (.slice EA EN EC) = U := ⟨_, rfl⟩
                dsimp only at B9
                rw [hWF] at B9 O9 S9 L9 L69
                unfold put5 at hWF
                go_simp
                clear hWF
                refine hKK.out _ _ (by obtain ⟨q0, q1, q2, q3, q4⟩ := CBox.five (((O9 w.heap.size (by omega)).trans ((O8 w.heap.size (by omega)).trans (CBox.b HSA.out Bc)) : CBox WF w.heap.size op nm nu ⟨ka, kn, kc⟩ a n c)); exact ⟨q0, q1, q2, q3, q4⟩) (fun hHeld => ?_)
                clear hKK KK
                (try simp only [Act.put, List.setIfInBounds_toArray, List.set_cons_zero, List.set_cons_succ])
                refine wpAnyH_done (by kernel_rfl) ?_ _
                refine NoPanic.normal ?_
                have s6 := Bd6.size
                have e8 := Hp8.out
                have e9 := Hp9.out
                have t0 := Hz8.out
                have t1 := Hz9.out
                have sA2 := b_wA.size
                have sE2 := b_wE.size
                have FC : CBox WF w.heap.size op nm nu ⟨ka, kn, kc⟩ a n c := (O9 _ (by omega)).trans ((O8 _ (by omega)).trans (CBox.b HSA.out Bc))
                have F8 : CBox WF p8 op nm nu ⟨P0, P1, P2⟩ PA PN PC := (O9 _ hpw.2.2.1).trans B8
                have keep := fun (V : World) (hb : Below V.heap.size V V8) (b : Nat) (h1 : b < V.heap.size) (h2 : b ≠ p8) (h3 : b ≠ p9) => (O9 b h3).trans ((O8 b h2).trans (hb.block b h1))
                have FA := Lib.hid (ArCP.to (Q := fun b => b < wA.heap.size) (fun b hb => keep wA b_wA b hb.1 (by rcases hb.2 with h | h <;> have := hb.1 <;> omega) (by rcases hb.2 with h | h <;> have := hb.1 <;> omega)) (fun b hb => by have := hb.1; omega) _ HXA.out)
                have FE := Lib.hid (FrC.same t (fun b h1 h2 => keep wE b_wE b h2 (by omega) (by omega)) HXE.out)
                have hio : (p8 < wA.heap.size ∨ wE.heap.size ≤ p8) ∧ w.heap.size < wA.heap.size ∧ wE.heap.size ≤ WF.heap.size ∧ W.heap.size ≤ wA.heap.size ∧ wA.heap.size ≤ wE.heap.size := by omega
                obtain ⟨lo, hlo⟩ : ∃ lo, wA.heap.size = lo := ⟨_, rfl⟩
                obtain ⟨hi, hhi⟩ : ∃ hi, wE.heap.size = hi := ⟨_, rfl⟩
                rw [hlo] at FA FE hio
                rw [hhi] at FE hio
                have l8 := Blk.lt F8
                have FCc := Lib.hid (ArWC.b HAt.out L9)
                have FEr := Lib.hid (FrC.ar (B := WF.heap.size) t hio.2.2.1 FE.out)
                have H8 := Lib.hid F8
                have HFC := Lib.hid FC
                have HL9 := Lib.hid L9
                have Hio := Lib.hid hio
                have L8lt := Lib.hid l8
                obtain ⟨a0, a1, a2, a3, a4⟩ := FC.five
                have HB9 := Lib.hid B9
                obtain ⟨b0, b1, b2, b3, b4⟩ := B9.five
                clear hlo hhi e8 e9 t0 t1 s6 sA2 sE2 HXA HXE Z8 Z9 O8 O9 S8 S9 L8 L68 L69 keep hio l8 F8 FC B8 hpw hzA hzE hz6
                go_wp2_with (first
                  | (go_at_call 14; ((with_reducible refine (cT ⟨E0, E1, E2⟩ ⟨ka, kn, kc⟩ EA EN EC a n c WF FEr.out FCc.out).mono ?_); rintro e w9 ⟨rfl, hb9⟩; have G9 := Lib.hid (FrC.same t (fun b h1 h2 => hb9.block b (by have := Hio.out.2.2.1; omega)) FE.out); have hs9 := hb9.size; have K9 := Lib.hid (CBox.b H8.out hb9); obtain ⟨a0, a1, a2, a3, a4⟩ := (CBox.b HFC.out hb9).five; obtain ⟨b0, b1, b2, b3, b4⟩ := (CBox.b HB9.out hb9).five; have cS := cP ⟨E0, E1, E2⟩ EA EN EC lo hi w9 (by have := Hio.out.2.2.1; omega) G9.out; dsimp only at cS))
                  | (go_at_call 25; ((with_reducible refine cS.mono ?_); rintro e w10 ⟨rfl, hb10, ho10⟩; have k1 := Hio.out; have k2 := L8lt.out; have K10 : CBox w10 p8 op nm nu ⟨P0, P1, P2⟩ PA PN PC := k1.1.elim (fun h => (hb10.block p8 h).trans K9.out) (fun h => (ho10 p8 h (by omega)).trans K9.out); have C10 : CBox w10 w.heap.size op nm nu ⟨ka, kn, kc⟩ a n c := (hb10.block w.heap.size k1.2.1).trans (CBox.b HFC.out hb9); obtain ⟨a0, a1, a2, a3, a4⟩ := C10.five; obtain ⟨d0, d1, d2, d3, d4⟩ := K10.five; have B10 : Below W.heap.size W w10 := (bel_trans HL9.out hb9).trans (hb10.mono k1.2.2.2.1); have s10 := hb10.size; have R10 := Lib.hid (ArCP.ar (B := w10.heap.size) (fun b hb => hb) t (ArCP.to (Q := fun b => b < w10.heap.size) (fun b hb => (hb10.block b hb).trans (hb9.block b (by omega))) (fun b hb => by omega) t FA.out)); have D10 := Lib.hid (ArWC.b HAt.out B10); clear k1 k2 K10 C10))
                  | (go_at_call 14; ((with_reducible refine (cT ⟨ka, kn, kc⟩ ⟨P0, P1, P2⟩ a n c PA PN PC w10 D10.out R10.out).mono ?_); rintro e w11 ⟨rfl, hb11⟩))
                  | (go_at_call 8; ((with_reducible refine (g0 _).mono ?_); rintro e w12 ⟨rfl, hb12⟩)))
                go_ret
                exact ⟨rfl, bel_trans hB (bel_trans (a := W) (bel_trans (a := W) B10 hb11) hb12)⟩
              exact AllReadyH.nil
            exact AllReadyH.nil
          exact AllReadyH.nil
        exact AllReadyH.nil
      refine AllReadyH.cons rfl (fun KK hKK => ?_) ?_
      · obtain ⟨V8, hV8⟩ : ∃ V, wA.alloc (.cells #[.int .i64 0, .string ⟨#[]⟩, .string ⟨#[]⟩, .slice none 0 0, .slice none 0 0] 25) = V := ⟨_, rfl⟩
        obtain ⟨p8, hp8⟩ : ∃ p, wA.heap.size = p := ⟨_, rfl⟩
        have hb8 : Below wA.heap.size wA V8 := by rw [← hV8]; exact bel_alloc (Below.refl _ _) _
        have hz8 : V8.heap.size = p8 + 1 := by rw [← hV8, ← hp8]; simp
        have Z8 : CBox V8 p8 0 ⟨#[]⟩ ⟨#[]⟩ SS.nil none 0 0 := by rw [← hV8, ← hp8]; exact CBox.new wA 0 ⟨#[]⟩ ⟨#[]⟩ SS.nil none 0 0
        have Hz8 := Lib.hid hz8
        clear hz8
        go_simp
        have Hp8 := Lib.hid hp8
        clear hV8 hp8
        have Bc := bel_trans (a := W) Bc hb8
        have b_w4 := bel_trans (a := w4) b_w4 hb8
        have b_wA := bel_trans (a := wA) b_wA hb8
        refine hKK.out _ _ (by obtain ⟨q0, q1, q2, q3, q4⟩ := CBox.five (CBox.b HSA.out Bc); exact ⟨q0, q1, q2, q3, q4⟩) (fun hHeld => ?_)
        clear hKK KK
        (try simp only [Act.put, List.setIfInBounds_toArray, List.set_cons_zero, List.set_cons_succ])
        refine wpAnyH_ready (rs := [3, 5]) (by kernel_rfl) (by simp) ?_
        refine AllReadyH.cons rfl (fun KK hKK => ?_) ?_
        · go_simp
          (go_at_call 24; ((with_reducible refine (cC _ Bc).mono ?_); rintro e wE ⟨E0, E1, E2, EA, EN, EC, rfl, hX, hb⟩))
          have hzE := hb.size
          have HXE := Lib.hid hX
          clear hX
          have Bc := bel_trans (a := W) Bc hb
          have b_w4 := bel_trans (a := w4) b_w4 hb
          have b_wA := bel_trans (a := wA) b_wA hb
          have Z8 := CBox.b Z8 hb
          have b_wE := Below.refl wE.heap.size wE
          refine hKK.out _ _ (by obtain ⟨q0, q1, q2, q3, q4⟩ := CBox.five (CBox.b HSA.out Bc); exact ⟨q0, q1, q2, q3, q4⟩) (fun hHeld => ?_)
          clear hKK KK
          (try simp only [Act.put, List.setIfInBounds_toArray, List.set_cons_zero, List.set_cons_succ])
          refine wpAnyH_ready (rs := [5]) (by kernel_rfl) (by simp) ?_
          refine AllReadyH.cons rfl (fun KK hKK => ?_) ?_
          · obtain ⟨V9, hV9⟩ : ∃ V, wE.alloc (.cells #[.int .i64 0, .string ⟨#[]⟩, .string ⟨#[]⟩, .slice none 0 0, .slice none 0 0] 25) = V := ⟨_, rfl⟩
            obtain ⟨p9, hp9⟩ : ∃ p, wE.heap.size = p := ⟨_, rfl⟩
            have hb9 : Below wE.heap.size wE V9 := by rw [← hV9]; exact bel_alloc (Below.refl _ _) _
            have hz9 : V9.heap.size = p9 + 1 := by rw [← hV9, ← hp9]; simp
            have Z9 : CBox V9 p9 0 ⟨#[]⟩ ⟨#[]⟩ SS.nil none 0 0 := by rw [← hV9, ← hp9]; exact CBox.new wE 0 ⟨#[]⟩ ⟨#[]⟩ SS.nil none 0 0
            have Hz9 := Lib.hid hz9
            clear hz9
            go_simp
            have Hp9 := Lib.hid hp9
            clear hV9 hp9
            have Bc := bel_trans (a := W) Bc hb9
            have b_w4 := bel_trans (a := w4) b_w4 hb9
            have b_wA := bel_trans (a := wA) b_wA hb9
            have b_wE := bel_trans (a := wE) b_wE hb9
            have Z8 := CBox.b Z8 hb9
            refine hKK.out _ _ (by obtain ⟨q0, q1, q2, q3, q4⟩ := CBox.five (CBox.b HSA.out Bc); exact ⟨q0, q1, q2, q3, q4⟩) (fun hHeld => ?_)
            clear hKK KK
            (try simp only [Act.put, List.setIfInBounds_toArray, List.set_cons_zero, List.set_cons_succ])
            refine wpAnyH_ready (rs := [6]) (by kernel_rfl) (by simp) ?_
            refine AllReadyH.cons rfl (fun KK hKK => ?_) ?_
            · obtain ⟨z0, z1, z2, z3, z4⟩ := Z8.five
              obtain ⟨y0, y1, y2, y3, y4⟩ := Z8.free
              dsimp only [SS.nil] at z3
              have B8 := CBox.put Z8 op nm nu ⟨P0, P1, P2⟩ PA PN PC
              have O8 := fun b (hb : b ≠ p8) => put5_other V9 p8 b (.int .i64 op) (.string nm) (.string nu) (.slice P0 P1 P2) (.slice PA PN PC) hb
              have S8 := put5_size V9 p8 (.int .i64 op) (.string nm) (.string nu) (.slice P0 P1 P2) (.slice PA PN PC)
              have hpw : w4.heap.size ≤ p8 ∧ w4.heap.size ≤ p9 ∧ p8 ≠ p9 ∧ w.heap.size < w4.heap.size := by have e8 := Hp8.out; have e9 := Hp9.out; have s6 := Bd6.size; have t0 := Hz8.out; have t1 := Hz9.out; have t2 := hzA; have t3 := hzE; have t4 := b_w4.size; omega
              have L8 := put5_below Bc (show W.heap.size ≤ p8 by have := hz6; omega) (.int .i64 op) (.string nm) (.string nu) (.slice P0 P1 P2) (.slice PA PN PC)
              have L68 := put5_below b_w4 hpw.1 (.int .i64 op) (.string nm) (.string nu) (.slice P0 P1 P2) (.slice PA PN PC)
              obtain ⟨U8, hU8⟩ : ∃ U, put5 V9 p8 (.int .i64 op) (.string nm) (.string nu) (.slice P0 P1 P2) (.slice PA PN PC) = U := ⟨_, rfl⟩
              dsimp only at B8
              rw [hU8] at B8 O8 S8 L8 L68
              unfold put5 at hU8
              go_simp
              clear hU8
              refine hKK.out _ _ (by obtain ⟨q0, q1, q2, q3, q4⟩ := CBox.five (((O8 w.heap.size (by omega)).trans (CBox.b HSA.out Bc) : CBox U8 w.heap.size op nm nu ⟨ka, kn, kc⟩ a n c)); exact ⟨q0, q1, q2, q3, q4⟩) (fun hHeld => ?_)
              clear hKK KK
              (try simp only [Act.put, List.setIfInBounds_toArray, List.set_cons_zero, List.set_cons_succ])
              have Z9 : CBox U8 p9 0 ⟨#[]⟩ ⟨#[]⟩ SS.nil none 0 0 := (O8 p9 (fun h => hpw.2.2.1 h.symm)).trans Z9
              refine wpAnyH_ready (rs := [7]) (by kernel_rfl) (by simp) ?_
              refine AllReadyH.cons rfl (fun KK hKK => ?_) ?_
              · obtain ⟨z0, z1, z2, z3, z4⟩ := Z9.five
                obtain ⟨y0, y1, y2, y3, y4⟩ := Z9.free
                dsimp only [SS.nil] at z3
                have B9 := CBox.put Z9 op nm nu ⟨E0, E1, E2⟩ EA EN EC
                have O9 := fun b (hb : b ≠ p9) => put5_other U8 p9 b (.int .i64 op) (.string nm) (.string nu) (.slice E0 E1 E2) (.slice EA EN EC) hb
                have S9 := put5_size U8 p9 (.int .i64 op) (.string nm) (.string nu) (.slice E0 E1 E2) (.slice EA EN EC)
                have L9 := put5_below L8 (show W.heap.size ≤ p9 by have := hz6; omega) (.int .i64 op) (.string nm) (.string nu) (.slice E0 E1 E2) (.slice EA EN EC)
                have L69 := put5_below L68 hpw.2.1 (.int .i64 op) (.string nm) (.string nu) (.slice E0 E1 E2) (.slice EA EN EC)
                obtain ⟨WF, hWF⟩ : ∃ U, put5 U8 p9 (.int .i64 op) (.string nm) (.string nu) (.slice E0 E1 E2) (.slice EA EN EC) = U := ⟨_, rfl⟩
                dsimp only at B9
                rw [hWF] at B9 O9 S9 L9 L69
                unfold put5 at hWF
                go_simp
                clear hWF
                refine hKK.out _ _ (by obtain ⟨q0, q1, q2, q3, q4⟩ := CBox.five (((O9 w.heap.size (by omega)).trans ((O8 w.heap.size (by omega)).trans (CBox.b HSA.out Bc)) : CBox WF w.heap.size op nm nu ⟨ka, kn, kc⟩ a n c)); exact ⟨q0, q1, q2, q3, q4⟩) (fun hHeld => ?_)
                clear hKK KK
                (try simp only [Act.put, List.setIfInBounds_toArray, List.set_cons_zero, List.set_cons_succ])
                refine wpAnyH_done (by kernel_rfl) ?_ _
                refine NoPanic.normal ?_
                have s6 := Bd6.size
                have e8 := Hp8.out
                have e9 := Hp9.out
                have t0 := Hz8.out
                have t1 := Hz9.out
                have sA2 := b_wA.size
                have sE2 := b_wE.size
                have FC : CBox WF w.heap.size op nm nu ⟨ka, kn, kc⟩ a n c := (O9 _ (by omega)).trans ((O8 _ (by omega)).trans (CBox.b HSA.out Bc))
                have F8 : CBox WF p8 op nm nu ⟨P0, P1, P2⟩ PA PN PC := (O9 _ hpw.2.2.1).trans B8
                have keep := fun (V : World) (hb : Below V.heap.size V V9) (b : Nat) (h1 : b < V.heap.size) (h2 : b ≠ p8) (h3 : b ≠ p9) => (O9 b h3).trans ((O8 b h2).trans (hb.block b h1))
                have FA := Lib.hid (ArCP.to (Q := fun b => b < V8.heap.size) (fun b hb => keep wA b_wA b hb.1 (by rcases hb.2 with h | h <;> have := hb.1 <;> omega) (by rcases hb.2 with h | h <;> have := hb.1 <;> omega)) (fun b hb => by have := hb.1; omega) _ HXA.out)
                have FE := Lib.hid (FrC.same t (fun b h1 h2 => keep wE b_wE b h2 (by omega) (by omega)) HXE.out)
                have hio : (p8 < V8.heap.size ∨ wE.heap.size ≤ p8) ∧ w.heap.size < V8.heap.size ∧ wE.heap.size ≤ WF.heap.size ∧ W.heap.size ≤ V8.heap.size ∧ V8.heap.size ≤ wE.heap.size := by omega
                obtain ⟨lo, hlo⟩ : ∃ lo, V8.heap.size = lo := ⟨_, rfl⟩
                obtain ⟨hi, hhi⟩ : ∃ hi, wE.heap.size = hi := ⟨_, rfl⟩
                rw [hlo] at FA FE hio
                rw [hhi] at FE hio
                have l8 := Blk.lt F8
                have FCc := Lib.hid (ArWC.b HAt.out L9)
                have FEr := Lib.hid (FrC.ar (B := WF.heap.size) t hio.2.2.1 FE.out)
                have H8 := Lib.hid F8
                have HFC := Lib.hid FC
                have HL9 := Lib.hid L9
                have Hio := Lib.hid hio
                have L8lt := Lib.hid l8
                obtain ⟨a0, a1, a2, a3, a4⟩ := FC.five
                have HB9 := Lib.hid B9
                obtain ⟨b0, b1, b2, b3, b4⟩ := B9.five
                clear hlo hhi e8 e9 t0 t1 s6 sA2 sE2 HXA HXE Z8 Z9 O8 O9 S8 S9 L8 L68 L69 keep hio l8 F8 FC B8 hpw hzA hzE hz6
                go_wp2_with (first
                  | (go_at_call 14; ((with_reducible refine (cT ⟨E0, E1, E2⟩ ⟨ka, kn, kc⟩ EA EN EC a n c WF FEr.out FCc.out).mono ?_); rintro e w9 ⟨rfl, hb9⟩; have G9 := Lib.hid (FrC.same t (fun b h1 h2 => hb9.block b (by have := Hio.out.2.2.1; omega)) FE.out); have hs9 := hb9.size; have K9 := Lib.hid (CBox.b H8.out hb9); obtain ⟨a0, a1, a2, a3, a4⟩ := (CBox.b HFC.out hb9).five; obtain ⟨b0, b1, b2, b3, b4⟩ := (CBox.b HB9.out hb9).five; have cS := cP ⟨E0, E1, E2⟩ EA EN EC lo hi w9 (by have := Hio.out.2.2.1; omega) G9.out; dsimp only at cS))
                  | (go_at_call 25; ((with_reducible refine cS.mono ?_); rintro e w10 ⟨rfl, hb10, ho10⟩; have k1 := Hio.out; have k2 := L8lt.out; have K10 : CBox w10 p8 op nm nu ⟨P0, P1, P2⟩ PA PN PC := k1.1.elim (fun h => (hb10.block p8 h).trans K9.out) (fun h => (ho10 p8 h (by omega)).trans K9.out); have C10 : CBox w10 w.heap.size op nm nu ⟨ka, kn, kc⟩ a n c := (hb10.block w.heap.size k1.2.1).trans (CBox.b HFC.out hb9); obtain ⟨a0, a1, a2, a3, a4⟩ := C10.five; obtain ⟨d0, d1, d2, d3, d4⟩ := K10.five; have B10 : Below W.heap.size W w10 := (bel_trans HL9.out hb9).trans (hb10.mono k1.2.2.2.1); have s10 := hb10.size; have R10 := Lib.hid (ArCP.ar (B := w10.heap.size) (fun b hb => hb) t (ArCP.to (Q := fun b => b < w10.heap.size) (fun b hb => (hb10.block b hb).trans (hb9.block b (by omega))) (fun b hb => by omega) t FA.out)); have D10 := Lib.hid (ArWC.b HAt.out B10); clear k1 k2 K10 C10))
                  | (go_at_call 14; ((with_reducible refine (cT ⟨ka, kn, kc⟩ ⟨P0, P1, P2⟩ a n c PA PN PC w10 D10.out R10.out).mono ?_); rintro e w11 ⟨rfl, hb11⟩))
                  | (go_at_call 8; ((with_reducible refine (g0 _).mono ?_); rintro e w12 ⟨rfl, hb12⟩)))
                go_ret
                exact ⟨rfl, bel_trans hB (bel_trans (a := W) (bel_trans (a := W) B10 hb11) hb12)⟩
              exact AllReadyH.nil
            exact AllReadyH.nil
          exact AllReadyH.nil
        refine AllReadyH.cons rfl (fun KK hKK => ?_) ?_
        · obtain ⟨V9, hV9⟩ : ∃ V, V8.alloc (.cells #[.int .i64 0, .string ⟨#[]⟩, .string ⟨#[]⟩, .slice none 0 0, .slice none 0 0] 25) = V := ⟨_, rfl⟩
          obtain ⟨p9, hp9⟩ : ∃ p, V8.heap.size = p := ⟨_, rfl⟩
          have hb9 : Below V8.heap.size V8 V9 := by rw [← hV9]; exact bel_alloc (Below.refl _ _) _
          have hz9 : V9.heap.size = p9 + 1 := by rw [← hV9, ← hp9]; simp
          have Z9 : CBox V9 p9 0 ⟨#[]⟩ ⟨#[]⟩ SS.nil none 0 0 := by rw [← hV9, ← hp9]; exact CBox.new V8 0 ⟨#[]⟩ ⟨#[]⟩ SS.nil none 0 0
          have Hz9 := Lib.hid hz9
          clear hz9
          go_simp
          have Hp9 := Lib.hid hp9
          clear hV9 hp9
          have Bc := bel_trans (a := W) Bc hb9
          have b_w4 := bel_trans (a := w4) b_w4 hb9
          have b_wA := bel_trans (a := wA) b_wA hb9
          have Z8 := CBox.b Z8 hb9
          refine hKK.out _ _ (by obtain ⟨q0, q1, q2, q3, q4⟩ := CBox.five (CBox.b HSA.out Bc); exact ⟨q0, q1, q2, q3, q4⟩) (fun hHeld => ?_)
          clear hKK KK
          (try simp only [Act.put, List.setIfInBounds_toArray, List.set_cons_zero, List.set_cons_succ])
          refine wpAnyH_ready (rs := [3]) (by kernel_rfl) (by simp) ?_
          refine AllReadyH.cons rfl (fun KK hKK => ?_) ?_
          · go_simp
            (go_at_call 24; ((with_reducible refine (cC _ Bc).mono ?_); rintro e wE ⟨E0, E1, E2, EA, EN, EC, rfl, hX, hb⟩))
            have hzE := hb.size
            have HXE := Lib.hid hX
            clear hX
            have Bc := bel_trans (a := W) Bc hb
            have b_w4 := bel_trans (a := w4) b_w4 hb
            have b_wA := bel_trans (a := wA) b_wA hb
            have Z8 := CBox.b Z8 hb
            have Z9 := CBox.b Z9 hb
            have b_wE := Below.refl wE.heap.size wE
            refine hKK.out _ _ (by obtain ⟨q0, q1, q2, q3, q4⟩ := CBox.five (CBox.b HSA.out Bc); exact ⟨q0, q1, q2, q3, q4⟩) (fun hHeld => ?_)
            clear hKK KK
            (try simp only [Act.put, List.setIfInBounds_toArray, List.set_cons_zero, List.set_cons_succ])
            refine wpAnyH_ready (rs := [6]) (by kernel_rfl) (by simp) ?_
            refine AllReadyH.cons rfl (fun KK hKK => ?_) ?_
            · obtain ⟨z0, z1, z2, z3, z4⟩ := Z8.five
              obtain ⟨y0, y1, y2, y3, y4⟩ := Z8.free
              dsimp only [SS.nil] at z3
              have B8 := CBox.put Z8 op nm nu ⟨P0, P1, P2⟩ PA PN PC
              have O8 := fun b (hb : b ≠ p8) => put5_other wE p8 b (.int .i64 op) (.string nm) (.string nu) (.slice P0 P1 P2) (.slice PA PN PC) hb
              have S8 := put5_size wE p8 (.int .i64 op) (.string nm) (.string nu) (.slice P0 P1 P2) (.slice PA PN PC)
              have hpw : w4.heap.size ≤ p8 ∧ w4.heap.size ≤ p9 ∧ p8 ≠ p9 ∧ w.heap.size < w4.heap.size := by have e8 := Hp8.out; have e9 := Hp9.out; have s6 := Bd6.size; have t0 := Hz8.out; have t1 := Hz9.out; have t2 := hzA; have t3 := hzE; have t4 := b_w4.size; omega
              have L8 := put5_below Bc (show W.heap.size ≤ p8 by have := hz6; omega) (.int .i64 op) (.string nm) (.string nu) (.slice P0 P1 P2) (.slice PA PN PC)
              have L68 := put5_below b_w4 hpw.1 (.int .i64 op) (.string nm) (.string nu) (.slice P0 P1 P2) (.slice PA PN PC)
              obtain ⟨U8, hU8⟩ : ∃ U, put5 wE p8 (.int .i64 op) (.string nm) (.string nu) (.slice P0 P1 P2) (.slice PA PN PC) = U := ⟨_, rfl⟩
              dsimp only at B8
              rw [hU8] at B8 O8 S8 L8 L68
              unfold put5 at hU8
              go_simp
              clear hU8
              refine hKK.out _ _ (by obtain ⟨q0, q1, q2, q3, q4⟩ := CBox.five (((O8 w.heap.size (by omega)).trans (CBox.b HSA.out Bc) : CBox U8 w.heap.size op nm nu ⟨ka, kn, kc⟩ a n c)); exact ⟨q0, q1, q2, q3, q4⟩) (fun hHeld => ?_)
              clear hKK KK
              (try simp only [Act.put, List.setIfInBounds_toArray, List.set_cons_zero, List.set_cons_succ])
              have Z9 : CBox U8 p9 0 ⟨#[]⟩ ⟨#[]⟩ SS.nil none 0 0 := (O8 p9 (fun h => hpw.2.2.1 h.symm)).trans Z9
              refine wpAnyH_ready (rs := [7]) (by kernel_rfl) (by simp) ?_
              refine AllReadyH.cons rfl (fun KK hKK => ?_) ?_
              · obtain ⟨z0, z1, z2, z3, z4⟩ := Z9.five
                obtain ⟨y0, y1, y2, y3, y4⟩ := Z9.free
                dsimp only [SS.nil] at z3
                have B9 := CBox.put Z9 op nm nu ⟨E0, E1, E2⟩ EA EN EC
                have O9 := fun b (hb : b ≠ p9) => put5_other U8 p9 b (.int .i64 op) (.string nm) (.string nu) (.slice E0 E1 E2) (.slice EA EN EC) hb
                have S9 := put5_size U8 p9 (.int .i64 op) (.string nm) (.string nu) (.slice E0 E1 E2) (.slice EA EN EC)
                have L9 := put5_below L8 (show W.heap.size ≤ p9 by have := hz6; omega) (.int .i64 op) (.string nm) (.string nu) (.slice E0 E1 E2) (.slice EA EN EC)
                have L69 := put5_below L68 hpw.2.1 (.int .i64 op) (.string nm) (.string nu) (.slice E0 E1 E2) (.slice EA EN EC)
                obtain ⟨WF, hWF⟩ : ∃ U, put5 U8 p9 (.int .i64 op) (.string nm) (.string nu) (.slice E0 E1 E2) (.slice EA EN EC) = U := ⟨_, rfl⟩
                dsimp only at B9
                rw [hWF] at B9 O9 S9 L9 L69
                unfold put5 at hWF
                go_simp
                clear hWF
                refine hKK.out _ _ (by obtain ⟨q0, q1, q2, q3, q4⟩ := CBox.five (((O9 w.heap.size (by omega)).trans ((O8 w.heap.size (by omega)).trans (CBox.b HSA.out Bc)) : CBox WF w.heap.size op nm nu ⟨ka, kn, kc⟩ a n c)); exact ⟨q0, q1, q2, q3, q4⟩) (fun hHeld => ?_)
                clear hKK KK
                (try simp only [Act.put, List.setIfInBounds_toArray, List.set_cons_zero, List.set_cons_succ])
                refine wpAnyH_done (by kernel_rfl) ?_ _
                refine NoPanic.normal ?_
                have s6 := Bd6.size
                have e8 := Hp8.out
                have e9 := Hp9.out
                have t0 := Hz8.out
                have t1 := Hz9.out
                have sA2 := b_wA.size
                have sE2 := b_wE.size
                have FC : CBox WF w.heap.size op nm nu ⟨ka, kn, kc⟩ a n c := (O9 _ (by omega)).trans ((O8 _ (by omega)).trans (CBox.b HSA.out Bc))
                have F8 : CBox WF p8 op nm nu ⟨P0, P1, P2⟩ PA PN PC := (O9 _ hpw.2.2.1).trans B8
                have keep := fun (V : World) (hb : Below V.heap.size V wE) (b : Nat) (h1 : b < V.heap.size) (h2 : b ≠ p8) (h3 : b ≠ p9) => (O9 b h3).trans ((O8 b h2).trans (hb.block b h1))
                have FA := Lib.hid (ArCP.to (Q := fun b => b < V9.heap.size) (fun b hb => keep wA b_wA b hb.1 (by rcases hb.2 with h | h <;> have := hb.1 <;> omega) (by rcases hb.2 with h | h <;> have := hb.1 <;> omega)) (fun b hb => by have := hb.1; omega) _ HXA.out)
                have FE := Lib.hid (FrC.same t (fun b h1 h2 => keep wE b_wE b h2 (by omega) (by omega)) HXE.out)
                have hio : (p8 < V9.heap.size ∨ wE.heap.size ≤ p8) ∧ w.heap.size < V9.heap.size ∧ wE.heap.size ≤ WF.heap.size ∧ W.heap.size ≤ V9.heap.size ∧ V9.heap.size ≤ wE.heap.size := by omega
                obtain ⟨lo, hlo⟩ : ∃ lo, V9.heap.size = lo := ⟨_, rfl⟩
                obtain ⟨hi, hhi⟩ : ∃ hi, wE.heap.size = hi := ⟨_, rfl⟩
                rw [hlo] at FA FE hio
                rw [hhi] at FE hio
                have l8 := Blk.lt F8
                have FCc := Lib.hid (ArWC.b HAt.out L9)
                have FEr := Lib.hid (FrC.ar (B := WF.heap.size) t hio.2.2.1 FE.out)
                have H8 := Lib.hid F8
                have HFC := Lib.hid FC
                have HL9 := Lib.hid L9
                have Hio := Lib.hid hio
                have L8lt := Lib.hid l8
                obtain ⟨a0, a1, a2, a3, a4⟩ := FC.five
                have HB9 := Lib.hid B9
                obtain ⟨b0, b1, b2, b3, b4⟩ := B9.five
                clear hlo hhi e8 e9 t0 t1 s6 sA2 sE2 HXA HXE Z8 Z9 O8 O9 S8 S9 L8 L68 L69 keep hio l8 F8 FC B8 hpw hzA hzE hz6
                go_wp2_with (first
                  | (go_at_call 14; ((with_reducible refine (cT ⟨E0, E1, E2⟩ ⟨ka, kn, kc⟩ EA EN EC a n c WF FEr.out FCc.out).mono ?_); rintro e w9 ⟨rfl, hb9⟩; have G9 := Lib.hid (FrC.same t (fun b h1 h2 => hb9.block b (by have := Hio.out.2.2.1; omega)) FE.out); have hs9 := hb9.size; have K9 := Lib.hid (CBox.b H8.out hb9); obtain ⟨a0, a1, a2, a3, a4⟩ := (CBox.b HFC.out hb9).five; obtain ⟨b0, b1, b2, b3, b4⟩ := (CBox.b HB9.out hb9).five; have cS := cP ⟨E0, E1, E2⟩ EA EN EC lo hi w9 (by have := Hio.out.2.2.1; omega) G9.out; dsimp only at cS))
                  | (go_at_call 25; ((with_reducible refine cS.mono ?_); rintro e w10 ⟨rfl, hb10, ho10⟩; have k1 := Hio.out; have k2 := L8lt.out; have K10 : CBox w10 p8 op nm nu ⟨P0, P1, P2⟩ PA PN PC := k1.1.elim (fun h => (hb10.block p8 h).trans K9.out) (fun h => (ho10 p8 h (by omega)).trans K9.out); have C10 : CBox w10 w.heap.size op nm nu ⟨ka, kn, kc⟩ a n c := (hb10.block w.heap.size k1.2.1).trans (CBox.b HFC.out hb9); obtain ⟨a0, a1, a2, a3, a4⟩ := C10.five; obtain ⟨d0, d1, d2, d3, d4⟩ := K10.five; have B10 : Below W.heap.size W w10 := (bel_trans HL9.out hb9).trans (hb10.mono k1.2.2.2.1); have s10 := hb10.size; have R10 := Lib.hid (ArCP.ar (B := w10.heap.size) (fun b hb => hb) t (ArCP.to (Q := fun b => b < w10.heap.size) (fun b hb => (hb10.block b hb).trans (hb9.block b (by omega))) (fun b hb => by omega) t FA.out)); have D10 := Lib.hid (ArWC.b HAt.out B10); clear k1 k2 K10 C10))
                  | (go_at_call 14; ((with_reducible refine (cT ⟨ka, kn, kc⟩ ⟨P0, P1, P2⟩ a n c PA PN PC w10 D10.out R10.out).mono ?_); rintro e w11 ⟨rfl, hb11⟩))
                  | (go_at_call 8; ((with_reducible refine (g0 _).mono ?_); rintro e w12 ⟨rfl, hb12⟩)))
                go_ret
                exact ⟨rfl, bel_trans hB (bel_trans (a := W) (bel_trans (a := W) B10 hb11) hb12)⟩
              exact AllReadyH.nil
            exact AllReadyH.nil
          exact AllReadyH.nil
        exact AllReadyH.nil
      refine AllReadyH.cons rfl (fun KK hKK => ?_) ?_
      · obtain ⟨V9, hV9⟩ : ∃ V, wA.alloc (.cells #[.int .i64 0, .string ⟨#[]⟩, .string ⟨#[]⟩, .slice none 0 0, .slice none 0 0] 25) = V := ⟨_, rfl⟩
        obtain ⟨p9, hp9⟩ : ∃ p, wA.heap.size = p := ⟨_, rfl⟩
        have hb9 : Below wA.heap.size wA V9 := by rw [← hV9]; exact bel_alloc (Below.refl _ _) _
        have hz9 : V9.heap.size = p9 + 1 := by rw [← hV9, ← hp9]; simp
        have Z9 : CBox V9 p9 0 ⟨#[]⟩ ⟨#[]⟩ SS.nil none 0 0 := by rw [← hV9, ← hp9]; exact CBox.new wA 0 ⟨#[]⟩ ⟨#[]⟩ SS.nil none 0 0
        have Hz9 := Lib.hid hz9
        clear hz9
        go_simp
        have Hp9 := Lib.hid hp9
        clear hV9 hp9
        have Bc := bel_trans (a := W) Bc hb9
        have b_w4 := bel_trans (a := w4) b_w4 hb9
        have b_wA := bel_trans (a := wA) b_wA hb9
        refine hKK.out _ _ (by obtain ⟨q0, q1, q2, q3, q4⟩ := CBox.five (CBox.b HSA.out Bc); exact ⟨q0, q1, q2, q3, q4⟩) (fun hHeld => ?_)
        clear hKK KK
        (try simp only [Act.put, List.setIfInBounds_toArray, List.set_cons_zero, List.set_cons_succ])
        refine wpAnyH_ready (rs := [3, 4]) (by kernel_rfl) (by simp) ?_
        refine AllReadyH.cons rfl (fun KK hKK => ?_) ?_
        · go_simp
          (go_at_call 24; ((with_reducible refine (cC _ Bc).mono ?_); rintro e wE ⟨E0, E1, E2, EA, EN, EC, rfl, hX, hb⟩))
          have hzE := hb.size
          have HXE := Lib.hid hX
          clear hX
          have Bc := bel_trans (a := W) Bc hb
          have b_w4 := bel_trans (a := w4) b_w4 hb
          have b_wA := bel_trans (a := wA) b_wA hb
          have Z9 := CBox.b Z9 hb
          have b_wE := Below.refl wE.heap.size wE
          refine hKK.out _ _ (by obtain ⟨q0, q1, q2, q3, q4⟩ := CBox.five (CBox.b HSA.out Bc); exact ⟨q0, q1, q2, q3, q4⟩) (fun hHeld => ?_)
          clear hKK KK
          (try simp only [Act.put, List.setIfInBounds_toArray, List.set_cons_zero, List.set_cons_succ])
          refine wpAnyH_ready (rs := [4]) (by kernel_rfl) (by simp) ?_
          refine AllReadyH.cons rfl (fun KK hKK => ?_) ?_
          · obtain ⟨V8, hV8⟩ : ∃ V, wE.alloc (.cells #[.int .i64 0, .string ⟨#[]⟩, .string ⟨#[]⟩, .slice none 0 0, .slice none 0 0] 25) = V := ⟨_, rfl⟩
            obtain ⟨p8, hp8⟩ : ∃ p, wE.heap.size = p := ⟨_, rfl⟩
            have hb8 : Below wE.heap.size wE V8 := by rw [← hV8]; exact bel_alloc (Below.refl _ _) _
            have hz8 : V8.heap.size = p8 + 1 := by rw [← hV8, ← hp8]; simp
            have Z8 : CBox V8 p8 0 ⟨#[]⟩ ⟨#[]⟩ SS.nil none 0 0 := by rw [← hV8, ← hp8]; exact CBox.new wE 0 ⟨#[]⟩ ⟨#[]⟩ SS.nil none 0 0
            have Hz8 := Lib.hid hz8
            clear hz8
            go_simp
            have Hp8 := Lib.hid hp8
            clear hV8 hp8
            have Bc := bel_trans (a := W) Bc hb8
            have b_w4 := bel_trans (a := w4) b_w4 hb8
            have b_wA := bel_trans (a := wA) b_wA hb8
            have b_wE := bel_trans (a := wE) b_wE hb8
            have Z9 := CBox.b Z9 hb8
            refine hKK.out _ _ (by obtain ⟨q0, q1, q2, q3, q4⟩ := CBox.five (CBox.b HSA.out Bc); exact ⟨q0, q1, q2, q3, q4⟩) (fun hHeld => ?_)
            clear hKK KK
            (try simp only [Act.put, List.setIfInBounds_toArray, List.set_cons_zero, List.set_cons_succ])
            refine wpAnyH_ready (rs := [6]) (by kernel_rfl) (by simp) ?_
            refine AllReadyH.cons rfl (fun KK hKK => ?_) ?_
            · obtain ⟨z0, z1, z2, z3, z4⟩ := Z8.five
              obtain ⟨y0, y1, y2, y3, y4⟩ := Z8.free
              dsimp only [SS.nil] at z3
              have B8 := CBox.put Z8 op nm nu ⟨P0, P1, P2⟩ PA PN PC
              have O8 := fun b (hb : b ≠ p8) => put5_other V8 p8 b (.int .i64 op) (.string nm) (.string nu) (.slice P0 P1 P2) (.slice PA PN PC) hb
              have S8 := put5_size V8 p8 (.int .i64 op) (.string nm) (.string nu) (.slice P0 P1 P2) (.slice PA PN PC)
              have hpw : w4.heap.size ≤ p8 ∧ w4.heap.size ≤ p9 ∧ p8 ≠ p9 ∧ w.heap.size < w4.heap.size := by have e8 := Hp8.out; have e9 := Hp9.out; have s6 := Bd6.size; have t0 := Hz8.out; have t1 := Hz9.out; have t2 := hzA; have t3 := hzE; have t4 := b_w4.size; omega
              have L8 := put5_below Bc (show W.heap.size ≤ p8 by have := hz6; omega) (.int .i64 op) (.string nm) (.string nu) (.slice P0 P1 P2) (.slice PA PN PC)
              have L68 := put5_below b_w4 hpw.1 (.int .i64 op) (.string nm) (.string nu) (.slice P0 P1 P2) (.slice PA PN PC)
              obtain ⟨U8, hU8⟩ : ∃ U, put5 V8 p8 (.int .i64 op) (.string nm) (.string nu) (.slice P0 P1 P2) (.slice PA PN PC) = U := ⟨_, rfl⟩
              dsimp only at B8
              rw [hU8] at B8 O8 S8 L8 L68
              unfold put5 at hU8
              go_simp
              clear hU8
              refine hKK.out _ _ (by obtain ⟨q0, q1, q2, q3, q4⟩ := CBox.five (((O8 w.heap.size (by omega)).trans (CBox.b HSA.out Bc) : CBox U8 w.heap.size op nm nu ⟨ka, kn, kc⟩ a n c)); exact ⟨q0, q1, q2, q3, q4⟩) (fun hHeld => ?_)
              clear hKK KK
              (try simp only [Act.put, List.setIfInBounds_toArray, List.set_cons_zero, List.set_cons_succ])
              have Z9 : CBox U8 p9 0 ⟨#[]⟩ ⟨#[]⟩ SS.nil none 0 0 := (O8 p9 (fun h => hpw.2.2.1 h.symm)).trans Z9
              refine wpAnyH_ready (rs := [7]) (by kernel_rfl) (by simp) ?_
              refine AllReadyH.cons rfl (fun KK hKK => ?_) ?_
              · obtain ⟨z0, z1, z2, z3, z4⟩ := Z9.five
                obtain ⟨y0, y1, y2, y3, y4⟩ := Z9.free
                dsimp only [SS.nil] at z3
                have B9 := CBox.put Z9 op nm nu ⟨E0, E1, E2⟩ EA EN EC
                have O9 := fun b (hb : b ≠ p9) => put5_other U8 p9 b (.int .i64 op) (.string nm) (.string nu) (.slice E0 E1 E2) (.slice EA EN EC) hb
                have S9 := put5_size U8 p9 (.int .i64 op) (.string nm) (.string nu) (.slice E0 E1 E2) (.slice EA EN EC)
                have L9 := put5_below L8 (show W.heap.size ≤ p9 by have := hz6; omega) (.int .i64 op) (.string nm) (.string nu) (.slice E0 E1 E2) (.slice EA EN EC)
                have L69 := put5_below L68 hpw.2.1 (.int .i64 op) (.string nm) (.string nu) (.slice E0 E1 E2) (.slice EA EN EC)
                obtain ⟨WF, hWF⟩ : ∃ U, put5 U8 p9 (.int .i64 op) (.string nm) (.string nu) (.slice E0 E1 E2) (.slice EA EN EC) = U := ⟨_, rfl⟩
                dsimp only at B9
                rw [hWF] at B9 O9 S9 L9 L69
                unfold put5 at hWF
                go_simp
                clear hWF
                refine hKK.out _ _ (by obtain ⟨q0, q1, q2, q3, q4⟩ := CBox.five (((O9 w.heap.size (by omega)).trans ((O8 w.heap.size (by omega)).trans (CBox.b HSA.out Bc)) : CBox WF w.heap.size op nm nu ⟨ka, kn, kc⟩ a n c)); exact ⟨q0, q1, q2, q3, q4⟩) (fun hHeld => ?_)
                clear hKK KK
                (try simp only [Act.put, List.setIfInBounds_toArray, List.set_cons_zero, List.set_cons_succ])
                refine wpAnyH_done (by kernel_rfl) ?_ _
                refine NoPanic.normal ?_
                have s6 := Bd6.size
                have e8 := Hp8.out
                have e9 := Hp9.out
                have t0 := Hz8.out
                have t1 := Hz9.out
                have sA2 := b_wA.size
                have sE2 := b_wE.size
                have FC : CBox WF w.heap.size op nm nu ⟨ka, kn, kc⟩ a n c := (O9 _ (by omega)).trans ((O8 _ (by omega)).trans (CBox.b HSA.out Bc))
                have F8 : CBox WF p8 op nm nu ⟨P0, P1, P2⟩ PA PN PC := (O9 _ hpw.2.2.1).trans B8
                have keep := fun (V : World) (hb : Below V.heap.size V V8) (b : Nat) (h1 : b < V.heap.size) (h2 : b ≠ p8) (h3 : b ≠ p9) => (O9 b h3).trans ((O8 b h2).trans (hb.block b h1))
                have FA := Lib.hid (ArCP.to (Q := fun b => b < V9.heap.size) (fun b hb => keep wA b_wA b hb.1 (by rcases hb.2 with h | h <;> have := hb.1 <;> omega) (by rcases hb.2 with h | h <;> have := hb.1 <;> omega)) (fun b hb => by have := hb.1; omega) _ HXA.out)
                have FE := Lib.hid (FrC.same t (fun b h1 h2 => keep wE b_wE b h2 (by omega) (by omega)) HXE.out)
                have hio : (p8 < V9.heap.size ∨ wE.heap.size ≤ p8) ∧ w.heap.size < V9.heap.size ∧ wE.heap.size ≤ WF.heap.size ∧ W.heap.size ≤ V9.heap.size ∧ V9.heap.size ≤ wE.heap.size := by omega
                obtain ⟨lo, hlo⟩ : ∃ lo, V9.heap.size = lo := ⟨_, rfl⟩
                obtain ⟨hi, hhi⟩ : ∃ hi, wE.heap.size = hi := ⟨_, rfl⟩
                rw [hlo] at FA FE hio
                rw [hhi] at FE hio
                have l8 := Blk.lt F8
                have FCc := Lib.hid (ArWC.b HAt.out L9)
                have FEr := Lib.hid (FrC.ar (B := WF.heap.size) t hio.2.2.1 FE.out)
                have H8 := Lib.hid F8
                have HFC := Lib.hid FC
                have HL9 := Lib.hid L9
                have Hio := Lib.hid hio
                have L8lt := Lib.hid l8
                obtain ⟨a0, a1, a2, a3, a4⟩ := FC.five
                have HB9 := Lib.hid B9
                obtain ⟨b0, b1, b2, b3, b4⟩ := B9.five
                clear hlo hhi e8 e9 t0 t1 s6 sA2 sE2 HXA HXE Z8 Z9 O8 O9 S8 S9 L8 L68 L69 keep hio l8 F8 FC B8 hpw hzA hzE hz6
                go_wp2_with (first
                  | (go_at_call 14; ((with_reducible refine (cT ⟨E0, E1, E2⟩ ⟨ka, kn, kc⟩ EA EN EC a n c WF FEr.out FCc.out).mono ?_); rintro e w9 ⟨rfl, hb9⟩; have G9 := Lib.hid (FrC.same t (fun b h1 h2 => hb9.block b (by have := Hio.out.2.2.1; omega)) FE.out); have hs9 := hb9.size; have K9 := Lib.hid (CBox.b H8.out hb9); obtain ⟨a0, a1, a2, a3, a4⟩ := (CBox.b HFC.out hb9).five; obtain ⟨b0, b1, b2, b3, b4⟩ := (CBox.b HB9.out hb9).five; have cS := cP ⟨E0, E1, E2⟩ EA EN EC lo hi w9 (by have := Hio.out.2.2.1; omega) G9.out; dsimp only at cS))
                  | (go_at_call 25; ((with_reducible refine cS.mono ?_); rintro e w10 ⟨rfl, hb10, ho10⟩; have k1 := Hio.out; have k2 := L8lt.out; have K10 : CBox w10 p8 op nm nu ⟨P0, P1, P2⟩ PA PN PC := k1.1.elim (fun h => (hb10.block p8 h).trans K9.out) (fun h => (ho10 p8 h (by omega)).trans K9.out); have C10 : CBox w10 w.heap.size op nm nu ⟨ka, kn, kc⟩ a n c := (hb10.block w.heap.size k1.2.1).trans (CBox.b HFC.out hb9); obtain ⟨a0, a1, a2, a3, a4⟩ := C10.five; obtain ⟨d0, d1, d2, d3, d4⟩ := K10.five; have B10 : Below W.heap.size W w10 := (bel_trans HL9.out hb9).trans (hb10.mono k1.2.2.2.1); have s10 := hb10.size; have R10 := Lib.hid (ArCP.ar (B := w10.heap.size) (fun b hb => hb) t (ArCP.to (Q := fun b => b < w10.heap.size) (fun b hb => (hb10.block b hb).trans (hb9.block b (by omega))) (fun b hb => by omega) t FA.out)); have D10 := Lib.hid (ArWC.b HAt.out B10); clear k1 k2 K10 C10))
                  | (go_at_call 14; ((with_reducible refine (cT ⟨ka, kn, kc⟩ ⟨P0, P1, P2⟩ a n c PA PN PC w10 D10.out R10.out).mono ?_); rintro e w11 ⟨rfl, hb11⟩))
                  | (go_at_call 8; ((with_reducible refine (g0 _).mono ?_); rintro e w12 ⟨rfl, hb12⟩)))
                go_ret
                exact ⟨rfl, bel_trans hB (bel_trans (a := W) (bel_trans (a := W) B10 hb11) hb12)⟩
              exact AllReadyH.nil
            exact AllReadyH.nil
          exact AllReadyH.nil
        refine AllReadyH.cons rfl (fun KK hKK => ?_) ?_
        · obtain ⟨V8, hV8⟩ : ∃ V, V9.alloc (.cells #[.int .i64 0, .string ⟨#[]⟩, .string ⟨#[]⟩, .slice none 0 0, .slice none 0 0] 25) = V := ⟨_, rfl⟩
          obtain ⟨p8, hp8⟩ : ∃ p, V9.heap.size = p := ⟨_, rfl⟩
          have hb8 : Below V9.heap.size V9 V8 := by rw [← hV8]; exact bel_alloc (Below.refl _ _) _
          have hz8 : V8.heap.size = p8 + 1 := by rw [← hV8, ← hp8]; simp
          have Z8 : CBox V8 p8 0 ⟨#[]⟩ ⟨#[]⟩ SS.nil none 0 0 := by rw [← hV8, ← hp8]; exact CBox.new V9 0 ⟨#[]⟩ ⟨#[]⟩ SS.nil none 0 0
          have Hz8 := Lib.hid hz8
          clear hz8
          go_simp
          have Hp8 := Lib.hid hp8
          clear hV8 hp8
          have Bc := bel_trans (a := W) Bc hb8
          have b_w4 := bel_trans (a := w4) b_w4 hb8
          have b_wA := bel_trans (a := wA) b_wA hb8
          have Z9 := CBox.b Z9 hb8
          refine hKK.out _ _ (by obtain ⟨q0, q1, q2, q3, q4⟩ := CBox.five (CBox.b HSA.out Bc); exact ⟨q0, q1, q2, q3, q4⟩) (fun hHeld => ?_)
          clear hKK KK
          (try simp only [Act.put, List.setIfInBounds_toArray, List.set_cons_zero, List.set_cons_succ])
          refine wpAnyH_ready (rs := [3]) (by kernel_rfl) (by simp) ?_
          refine AllReadyH.cons rfl (fun KK hKK => ?_) ?_
          · go_simp
            (go_at_call 24; ((with_reducible refine (cC _ Bc).mono ?_); rintro e wE ⟨E0, E1, E2, EA, EN, EC, rfl, hX, hb⟩))
            have hzE := hb.size
            have HXE := Lib.hid hX
            clear hX
            have Bc := bel_trans (a := W) Bc hb
            have b_w4 := bel_trans (a := w4) b_w4 hb
            have b_wA := bel_trans (a := wA) b_wA hb
            have Z9 := CBox.b Z9 hb
            have Z8 := CBox.b Z8 hb
            have b_wE := Below.refl wE.heap.size wE
            refine hKK.out _ _ (by obtain ⟨q0, q1, q2, q3, q4⟩ := CBox.five (CBox.b HSA.out Bc); exact ⟨q0, q1, q2, q3, q4⟩) (fun hHeld => ?_)
            clear hKK KK
            (try simp only [Act.put, List.setIfInBounds_toArray, List.set_cons_zero, List.set_cons_succ])
            refine wpAnyH_ready (rs := [6]) (by kernel_rfl) (by simp) ?_
            refine AllReadyH.cons rfl (fun KK hKK => ?_) ?_
            · obtain ⟨z0, z1, z2, z3, z4⟩ := Z8.five
              obtain ⟨y0, y1, y2, y3, y4⟩ := Z8.free
              dsimp only [SS.nil] at z3
              have B8 := CBox.put Z8 op nm nu ⟨P0, P1, P2⟩ PA PN PC
              have O8 := fun b (hb : b ≠ p8) => put5_other wE p8 b (.int .i64 op) (.string nm) (.string nu) (.slice P0 P1 P2) (.slice PA PN PC) hb
              have S8 := put5_size wE p8 (.int .i64 op) (.string nm) (.string nu) (.slice P0 P1 P2) (.slice PA PN PC)
              have hpw : w4.heap.size ≤ p8 ∧ w4.heap.size ≤ p9 ∧ p8 ≠ p9 ∧ w.heap.size < w4.heap.size := by have e8 := Hp8.out; have e9 := Hp9.out; have s6 := Bd6.size; have t0 := Hz8.out; have t1 := Hz9.out; have t2 := hzA; have t3 := hzE; have t4 := b_w4.size; omega
              have L8 := put5_below Bc (show W.heap.size ≤ p8 by have := hz6; omega) (.int .i64 op) (.string nm) (.string nu) (.slice P0 P1 P2) (.slice PA PN PC)
              have L68 := put5_below b_w4 hpw.1 (.int .i64 op) (.string nm) (.string nu) (.slice P0 P1 P2) (.slice PA PN PC)
              obtain ⟨U8, hU8⟩ : ∃ U, put5 wE p8 (.int .i64 op) (.string nm) (.string nu) (.slice P0 P1 P2) (.slice PA PN PC) = U := ⟨_, rfl⟩
              dsimp only at B8
              rw [hU8] at B8 O8 S8 L8 L68
              unfold put5 at hU8
              go_simp
              clear hU8
              refine hKK.out _ _ (by obtain ⟨q0, q1, q2, q3, q4⟩ := CBox.five (((O8 w.heap.size (by omega)).trans (CBox.b HSA.out Bc) : CBox U8 w.heap.size op nm nu ⟨ka, kn, kc⟩ a n c)); exact ⟨q0, q1, q2, q3, q4⟩) (fun hHeld => ?_)
              clear hKK KK
              (try simp only [Act.put, List.setIfInBounds_toArray, List.set_cons_zero, List.set_cons_succ])
              have Z9 : CBox U8 p9 0 ⟨#[]⟩ ⟨#[]⟩ SS.nil none 0 0 := (O8 p9 (fun h => hpw.2.2.1 h.symm)).trans Z9
              refine wpAnyH_ready (rs := [7]) (by kernel_rfl) (by simp) ?_
              refine AllReadyH.cons rfl (fun KK hKK => ?_) ?_
              · obtain ⟨z0, z1, z2, z3, z4⟩ := Z9.five
                obtain ⟨y0, y1, y2, y3, y4⟩ := Z9.free
                dsimp only [SS.nil] at z3
                have B9 := CBox.put Z9 op nm nu ⟨E0, E1, E2⟩ EA EN EC
                have O9 := fun b (hb : b ≠ p9) => put5_other U8 p9 b (.int .i64 op) (.string nm) (.string nu) (.slice E0 E1 E2) (.slice EA EN EC) hb
                have S9 := put5_size U8 p9 (.int .i64 op) (.string nm) (.string nu) (.slice E0 E1 E2) (.slice EA EN EC)
                have L9 := put5_below L8 (show W.heap.size ≤ p9 by have := hz6; omega) (.int .i64 op) (.string nm) (.string nu) (.slice E0 E1 E2) (.slice EA EN EC)
                have L69 := put5_below L68 hpw.2.1 (.int .i64 op) (.string nm) (.string nu) (.slice E0 E1 E2) (.slice EA EN EC)
                obtain ⟨WF, hWF⟩ : ∃ U, put5 U8 p9 (.int .i64 op) (.string nm) (.string nu) (.slice E0 E1 E2) (.slice EA EN EC) = U := ⟨_, rfl⟩
                dsimp only at B9
                rw [hWF] at B9 O9 S9 L9 L69
                unfold put5 at hWF
                go_simp
                clear hWF
                refine hKK.out _ _ (by obtain ⟨q0, q1, q2, q3, q4⟩ := CBox.five (((O9 w.heap.size (by omega)).trans ((O8 w.heap.size (by omega)).trans (CBox.b HSA.out Bc)) : CBox WF w.heap.size op nm nu ⟨ka, kn, kc⟩ a n c)); exact ⟨q0, q1, q2, q3, q4⟩) (fun hHeld => ?_)
                clear hKK KK
                (try simp only [Act.put, List.setIfInBounds_toArray, List.set_cons_zero, List.set_cons_succ])
                refine wpAnyH_done (by kernel_rfl) ?_ _
                refine NoPanic.normal ?_
                have s6 := Bd6.size
                have e8 := Hp8.out
                have e9 := Hp9.out
                have t0 := Hz8.out
                have t1 := Hz9.out
                have sA2 := b_wA.size
                have sE2 := b_wE.size
                have FC : CBox WF w.heap.size op nm nu ⟨ka, kn, kc⟩ a n c := (O9 _ (by omega)).trans ((O8 _ (by omega)).trans (CBox.b HSA.out Bc))
                have F8 : CBox WF p8 op nm nu ⟨P0, P1, P2⟩ PA PN PC := (O9 _ hpw.2.2.1).trans B8
                have keep := fun (V : World) (hb : Below V.heap.size V wE) (b : Nat) (h1 : b < V.heap.size) (h2 : b ≠ p8) (h3 : b ≠ p9) => (O9 b h3).trans ((O8 b h2).trans (hb.block b h1))
                have FA := Lib.hid (ArCP.to (Q := fun b => b < V8.heap.size) (fun b hb => keep wA b_wA b hb.1 (by rcases hb.2 with h | h <;> have := hb.1 <;> omega) (by rcases hb.2 with h | h <;> have := hb.1 <;> omega)) (fun b hb => by have := hb.1; omega) _ HXA.out)
                have FE := Lib.hid (FrC.same t (fun b h1 h2 => keep wE b_wE b h2 (by omega) (by omega)) HXE.out)
                have hio : (p8 < V8.heap.size ∨ wE.heap.size ≤ p8) ∧ w.heap.size < V8.heap.size ∧ wE.heap.size ≤ WF.heap.size ∧ W.heap.size ≤ V8.heap.size ∧ V8.heap.size ≤ wE.heap.size := by omega
                obtain ⟨lo, hlo⟩ : ∃ lo, V8.heap.size = lo := ⟨_, rfl⟩
                obtain ⟨hi, hhi⟩ : ∃ hi, wE.heap.size = hi := ⟨_, rfl⟩
                rw [hlo] at FA FE hio
                rw [hhi] at FE hio
                have l8 := Blk.lt F8
                have FCc := Lib.hid (ArWC.b HAt.out L9)
                have FEr := Lib.hid (FrC.ar (B := WF.heap.size) t hio.2.2.1 FE.out)
                have H8 := Lib.hid F8
                have HFC := Lib.hid FC
                have HL9 := Lib.hid L9
                have Hio := Lib.hid hio
                have L8lt := Lib.hid l8
                obtain ⟨a0, a1, a2, a3, a4⟩ := FC.five
                have HB9 := Lib.hid B9
                obtain ⟨b0, b1, b2, b3, b4⟩ := B9.five
                clear hlo hhi e8 e9 t0 t1 s6 sA2 sE2 HXA HXE Z8 Z9 O8 O9 S8 S9 L8 L68 L69 keep hio l8 F8 FC B8 hpw hzA hzE hz6
                go_wp2_with (first
                  | (go_at_call 14; ((with_reducible refine (cT ⟨E0, E1, E2⟩ ⟨ka, kn, kc⟩ EA EN EC a n c WF FEr.out FCc.out).mono ?_); rintro e w9 ⟨rfl, hb9⟩; have G9 := Lib.hid (FrC.same t (fun b h1 h2 => hb9.block b (by have := Hio.out.2.2.1; omega)) FE.out); have hs9 := hb9.size; have K9 := Lib.hid (CBox.b H8.out hb9); obtain ⟨a0, a1, a2, a3, a4⟩ := (CBox.b HFC.out hb9).five; obtain ⟨b0, b1, b2, b3, b4⟩ := (CBox.b HB9.out hb9).five; have cS := cP ⟨E0, E1, E2⟩ EA EN EC lo hi w9 (by have := Hio.out.2.2.1; omega) G9.out; dsimp only at cS))
                  | (go_at_call 25; ((with_reducible refine cS.mono ?_); rintro e w10 ⟨rfl, hb10, ho10⟩; have k1 := Hio.out; have k2 := L8lt.out; have K10 : CBox w10 p8 op nm nu ⟨P0, P1, P2⟩ PA PN PC := k1.1.elim (fun h => (hb10.block p8 h).trans K9.out) (fun h => (ho10 p8 h (by omega)).trans K9.out); have C10 : CBox w10 w.heap.size op nm nu ⟨ka, kn, kc⟩ a n c := (hb10.block w.heap.size k1.2.1).trans (CBox.b HFC.out hb9); obtain ⟨a0, a1, a2, a3, a4⟩ := C10.five; obtain ⟨d0, d1, d2, d3, d4⟩ := K10.five; have B10 : Below W.heap.size W w10 := (bel_trans HL9.out hb9).trans (hb10.mono k1.2.2.2.1); have s10 := hb10.size; have R10 := Lib.hid (ArCP.ar (B := w10.heap.size) (fun b hb => hb) t (ArCP.to (Q := fun b => b < w10.heap.size) (fun b hb => (hb10.block b hb).trans (hb9.block b (by omega))) (fun b hb => by omega) t FA.out)); have D10 := Lib.hid (ArWC.b HAt.out B10); clear k1 k2 K10 C10))
                  | (go_at_call 14; ((with_reducible refine (cT ⟨ka, kn, kc⟩ ⟨P0, P1, P2⟩ a n c PA PN PC w10 D10.out R10.out).mono ?_); rintro e w11 ⟨rfl, hb11⟩))
                  | (go_at_call 8; ((with_reducible refine (g0 _).mono ?_); rintro e w12 ⟨rfl, hb12⟩)))
                go_ret
                exact ⟨rfl, bel_trans hB (bel_trans (a := W) (bel_trans (a := W) B10 hb11) hb12)⟩
              exact AllReadyH.nil
            exact AllReadyH.nil
          exact AllReadyH.nil
        exact AllReadyH.nil
      exact AllReadyH.nil
    refine AllReadyH.cons rfl (fun KK hKK => ?_) ?_
    · obtain ⟨V8, hV8⟩ : ∃ V, Wd.alloc (.cells #[.int .i64 0, .string ⟨#[]⟩, .string ⟨#[]⟩, .slice none 0 0, .slice none 0 0] 25) = V := ⟨_, rfl⟩
      obtain ⟨p8, hp8⟩ : ∃ p, Wd.heap.size = p := ⟨_, rfl⟩
      have hb8 : Below Wd.heap.size Wd V8 := by rw [← hV8]; exact bel_alloc (Below.refl _ _) _
      have hz8 : V8.heap.size = p8 + 1 := by rw [← hV8, ← hp8]; simp
      have Z8 : CBox V8 p8 0 ⟨#[]⟩ ⟨#[]⟩ SS.nil none 0 0 := by rw [← hV8, ← hp8]; exact CBox.new Wd 0 ⟨#[]⟩ ⟨#[]⟩ SS.nil none 0 0
      have Hz8 := Lib.hid hz8
      clear hz8
      go_simp
      have Hp8 := Lib.hid hp8
      clear hV8 hp8
      have Bc := bel_trans (a := W) Bc hb8
      have b_w4 := bel_trans (a := w4) b_w4 hb8
      refine hKK.out _ _ (by obtain ⟨q0, q1, q2, q3, q4⟩ := CBox.five (CBox.b HSA.out Bc); exact ⟨q0, q1, q2, q3, q4⟩) (fun hHeld => ?_)
      clear hKK KK
      (try simp only [Act.put, List.setIfInBounds_toArray, List.set_cons_zero, List.set_cons_succ])
      refine wpAnyH_ready (rs := [1, 5]) (by kernel_rfl) (by simp) ?_
      refine AllReadyH.cons rfl (fun KK hKK => ?_) ?_
      · go_simp
        (go_at_call 23; ((with_reducible refine (cW _ Bc).mono ?_); rintro e wA ⟨⟨P0, P1, P2⟩, PA, PN, PC, rfl, hX, hb⟩))
        have hzA := hb.size
        have HXA := Lib.hid hX
        clear hX
        have Bc := bel_trans (a := W) Bc hb
        have b_w4 := bel_trans (a := w4) b_w4 hb
        have Z8 := CBox.b Z8 hb
        have b_wA := Below.refl wA.heap.size wA
        refine hKK.out _ _ (by obtain ⟨q0, q1, q2, q3, q4⟩ := CBox.five (CBox.b HSA.out Bc); exact ⟨q0, q1, q2, q3, q4⟩) (fun hHeld => ?_)
        clear hKK KK
        (try simp only [Act.put, List.setIfInBounds_toArray, List.set_cons_zero, List.set_cons_succ])
        refine wpAnyH_ready (rs := [3, 5]) (by kernel_rfl) (by simp) ?_
        refine AllReadyH.cons rfl (fun KK hKK => ?_) ?_
        · go_simp
          (go_at_call 24; ((with_reducible refine (cC _ Bc).mono ?_); rintro e wE ⟨E0, E1, E2, EA, EN, EC, rfl, hX, hb⟩))
          have hzE := hb.size
          have HXE := Lib.hid hX
          clear hX
          have Bc := bel_trans (a := W) Bc hb
          have b_w4 := bel_trans (a := w4) b_w4 hb
          have b_wA := bel_trans (a := wA) b_wA hb
          have Z8 := CBox.b Z8 hb
          have b_wE := Below.refl wE.heap.size wE
          refine hKK.out _ _ (by obtain ⟨q0, q1, q2, q3, q4⟩ := CBox.five (CBox.b HSA.out Bc); exact ⟨q0, q1, q2, q3, q4⟩) (fun hHeld => ?_)
          clear hKK KK
          (try simp only [Act.put, List.setIfInBounds_toArray, List.set_cons_zero, List.set_cons_succ])
          refine wpAnyH_ready (rs := [5]) (by kernel_rfl) (by simp) ?_
          refine AllReadyH.cons rfl (fun KK hKK => ?_) ?_
          · obtain ⟨V9, hV9⟩ : ∃ V, wE.alloc (.cells #[.int .i64 0, .string ⟨#[]⟩, .string ⟨#[]⟩, .slice none 0 0, .slice none 0 0] 25) = V := ⟨_, rfl⟩
            obtain ⟨p9, hp9⟩ : ∃ p, wE.heap.size = p := ⟨_, rfl⟩
            have hb9 : Below wE.heap.size wE V9 := by rw [← hV9]; exact bel_alloc (Below.refl _ _) _
            have hz9 : V9.heap.size = p9 + 1 := by rw [← hV9, ← hp9]; simp
            have Z9 : CBox V9 p9 0 ⟨#[]⟩ ⟨#[]⟩ SS.nil none 0 0 := by rw [← hV9, ← hp9]; exact CBox.new wE 0 ⟨#[]⟩ ⟨#[]⟩ SS.nil none 0 0
            have Hz9 := Lib.hid hz9
            clear hz9
            go_simp
            have Hp9 := Lib.hid hp9
            clear hV9 hp9
            have Bc := bel_trans (a := W) Bc hb9
            have b_w4 := bel_trans (a := w4) b_w4 hb9
            have b_wA := bel_trans (a := wA) b_wA hb9
            have b_wE := bel_trans (a := wE) b_wE hb9
            have Z8 := CBox.b Z8 hb9
            refine hKK.out _ _ (by obtain ⟨q0, q1, q2, q3, q4⟩ := CBox.five (CBox.b HSA.out Bc); exact ⟨q0, q1, q2, q3, q4⟩) (fun hHeld => ?_)
            clear hKK KK
            (try simp only [Act.put, List.setIfInBounds_toArray, List.set_cons_zero, List.set_cons_succ])
            refine wpAnyH_ready (rs := [6]) (by kernel_rfl) (by simp) ?_
            refine AllReadyH.cons rfl (fun KK hKK => ?_) ?_
            · obtain ⟨z0, z1, z2, z3, z4⟩ := Z8.five
              obtain ⟨y0, y1, y2, y3, y4⟩ := Z8.free
              dsimp only [SS.nil] at z3
              have B8 := CBox.put Z8 op nm nu ⟨P0, P1, P2⟩ PA PN PC
              have O8 := fun b (hb : b ≠ p8) => put5_other V9 p8 b (.int .i64 op) (.string nm) (.string nu) (.slice P0 P1 P2) (.slice PA PN PC) hb
              have S8 := put5_size V9 p8 (.int .i64 op) (.string nm) (.string nu) (.slice P0 P1 P2) (.slice PA PN PC)
              have hpw : w4.heap.size ≤ p8 ∧ w4.heap.size ≤ p9 ∧ p8 ≠ p9 ∧ w.heap.size < w4.heap.size := by have e8 := Hp8.out; have e9 := Hp9.out; have s6 := Bd6.size; have t0 := Hz8.out; have t1 := Hz9.out; have t2 := hzA; have t3 := hzE; have t4 := b_w4.size; omega
              have L8 := put5_below Bc (show W.heap.size ≤ p8 by have := hz6; omega) (.int .i64 op) (.string nm) (.string nu) (.slice P0 P1 P2) (.slice PA PN PC)
              have L68 := put5_below b_w4 hpw.1 (.int .i64 op) (.string nm) (.string nu) (.slice P0 P1 P2) (.slice PA PN PC)
              obtain ⟨U8, hU8⟩ : ∃ U, put5 V9 p8 (.int .i64 op) (.string nm) (.string nu) (.slice P0 P1 P2) (.slice PA PN PC) = U := ⟨_, rfl⟩
              dsimp only at B8
              rw [hU8] at B8 O8 S8 L8 L68
              unfold put5 at hU8
              go_simp
              clear hU8
              refine hKK.out _ _ (by obtain ⟨q0, q1, q2, q3, q4⟩ := CBox.five (((O8 w.heap.size (by omega)).trans (CBox.b HSA.out Bc) : CBox U8 w.heap.size op nm nu ⟨ka, kn, kc⟩ a n c)); exact ⟨q0, q1, q2, q3, q4⟩) (fun hHeld => ?_)
              clear hKK KK
              (try simp only [Act.put, List.setIfInBounds_toArray, List.set_cons_zero, List.set_cons_succ])
              have Z9 : CBox U8 p9 0 ⟨#[]⟩ ⟨#[]⟩ SS.nil none 0 0 := (O8 p9 (fun h => hpw.2.2.1 h.symm)).trans Z9
              refine wpAnyH_ready (rs := [7]) (by kernel_rfl) (by simp) ?_
              refine AllReadyH.cons rfl (fun KK hKK => ?_) ?_
              · obtain ⟨z0, z1, z2, z3, z4⟩ := Z9.five
                obtain ⟨y0, y1, y2, y3, y4⟩ := Z9.free
                dsimp only [SS.nil] at z3
                have B9 := CBox.put Z9 op nm nu ⟨E0, E1, E2⟩ EA EN EC
                have O9 := fun b (hb : b ≠ p9) => put5_other U8 p9 b (.int .i64 op) (.string nm) (.string nu) (.slice E0 E1 E2) (.slice EA EN EC) hb
                have S9 := put5_size U8 p9 (.int .i64 op) (.string nm) (.string nu) (.slice E0 E1 E2) (.slice EA EN EC)
                have L9 := put5_below L8 (show W.heap.size ≤ p9 by have := hz6; omega) (.int .i64 op) (.string nm) (.string nu) (.slice E0 E1 E2) (.slice EA EN EC)
                have L69 := put5_below L68 hpw.2.1 (.int .i64 op) (.string nm) (.string nu) (.slice E0 E1 E2) (.slice EA EN EC)
                obtain ⟨WF, hWF⟩ : ∃ U, put5 U8 p9 (.int .i64 op) (.string nm) (.string nu) (.slice E0 E1 E2) (.slice EA EN EC) = U := ⟨_, rfl⟩
                dsimp only at B9
                rw [hWF] at B9 O9 S9 L9 L69
                unfold put5 at hWF
                go_simp
                clear hWF
                refine hKK.out _ _ (by obtain ⟨q0, q1, q2, q3, q4⟩ := CBox.five (((O9 w.heap.size (by omega)).trans ((O8 w.heap.size (by omega)).trans (CBox.b HSA.out Bc)) : CBox WF w.heap.size op nm nu ⟨ka, kn, kc⟩ a n c)); exact ⟨q0, q1, q2, q3, q4⟩) (fun hHeld => ?_)
                clear hKK KK
                (try simp only [Act.put, List.setIfInBounds_toArray, List.set_cons_zero, List.set_cons_succ])
                refine wpAnyH_done (by kernel_rfl) ?_ _
                refine NoPanic.normal ?_
                have s6 := Bd6.size
                have e8 := Hp8.out
                have e9 := Hp9.out
                have t0 := Hz8.out
                have t1 := Hz9.out
                have sA2 := b_wA.size
                have sE2 := b_wE.size
                have FC : CBox WF w.heap.size op nm nu ⟨ka, kn, kc⟩ a n c := (O9 _ (by omega)).trans ((O8 _ (by omega)).trans (CBox.b HSA.out Bc))
                have F8 : CBox WF p8 op nm nu ⟨P0, P1, P2⟩ PA PN PC := (O9 _ hpw.2.2.1).trans B8
                have keep := fun (V : World) (hb : Below V.heap.size V V9) (b : Nat) (h1 : b < V.heap.size) (h2 : b ≠ p8) (h3 : b ≠ p9) => (O9 b h3).trans ((O8 b h2).trans (hb.block b h1))
                have FA := Lib.hid (ArCP.to (Q := fun b => b < wA.heap.size) (fun b hb => keep wA b_wA b hb.1 (by rcases hb.2 with h | h <;> have := hb.1 <;> omega) (by rcases hb.2 with h | h <;> have := hb.1 <;> omega)) (fun b hb => by have := hb.1; omega) _ HXA.out)
                have FE := Lib.hid (FrC.same t (fun b h1 h2 => keep wE b_wE b h2 (by omega) (by omega)) HXE.out)
                have hio : (p8 < wA.heap.size ∨ wE.heap.size ≤ p8) ∧ w.heap.size < wA.heap.size ∧ wE.heap.size ≤ WF.heap.size ∧ W.heap.size ≤ wA.heap.size ∧ wA.heap.size ≤ wE.heap.size := by omega
                obtain ⟨lo, hlo⟩ : ∃ lo, wA.heap.size = lo := ⟨_, rfl⟩
                obtain ⟨hi, hhi⟩ : ∃ hi, wE.heap.size = hi := ⟨_, rfl⟩
                rw [hlo] at FA FE hio
                rw [hhi] at FE hio
                have l8 := Blk.lt F8
                have FCc := Lib.hid (ArWC.b HAt.out L9)
                have FEr := Lib.hid (FrC.ar (B := WF.heap.size) t hio.2.2.1 FE.out)
                have H8 := Lib.hid F8
                have HFC := Lib.hid FC
                have HL9 := Lib.hid L9
                have Hio := Lib.hid hio
                have L8lt := Lib.hid l8
                obtain ⟨a0, a1, a2, a3, a4⟩ := FC.five
                have HB9 := Lib.hid B9
                obtain ⟨b0, b1, b2, b3, b4⟩ := B9.five
                clear hlo hhi e8 e9 t0 t1 s6 sA2 sE2 HXA HXE Z8 Z9 O8 O9 S8 S9 L8 L68 L69 keep hio l8 F8 FC B8 hpw hzA hzE hz6
                go_wp2_with (first
                  | (go_at_call 14; ((with_reducible refine (cT ⟨E0, E1, E2⟩ ⟨ka, kn, kc⟩ EA EN EC a n c WF FEr.out FCc.out).mono ?_); rintro e w9 ⟨rfl, hb9⟩; have G9 := Lib.hid (FrC.same t (fun b h1 h2 => hb9.block b (by have := Hio.out.2.2.1; omega)) FE.out); have hs9 := hb9.size; have K9 := Lib.hid (CBox.b H8.out hb9); obtain ⟨a0, a1, a2, a3, a4⟩ := (CBox.b HFC.out hb9).five; obtain ⟨b0, b1, b2, b3, b4⟩ := (CBox.b HB9.out hb9).five; have cS := cP ⟨E0, E1, E2⟩ EA EN EC lo hi w9 (by have := Hio.out.2.2.1; omega) G9.out; dsimp only at cS))
                  | (go_at_call 25; ((with_reducible refine cS.mono ?_); rintro e w10 ⟨rfl, hb10, ho10⟩; have k1 := Hio.out; have k2 := L8lt.out; have K10 : CBox w10 p8 op nm nu ⟨P0, P1, P2⟩ PA PN PC := k1.1.elim (fun h => (hb10.block p8 h).trans K9.out) (fun h => (ho10 p8 h (by omega)).trans K9.out); have C10 : CBox w10 w.heap.size op nm nu ⟨ka, kn, kc⟩ a n c := (hb10.block w.heap.size k1.2.1).trans (CBox.b HFC.out hb9); obtain ⟨a0, a1, a2, a3, a4⟩ := C10.five; obtain ⟨d0, d1, d2, d3, d4⟩ := K10.five; have B10 : Below W.heap.size W w10 := (bel_trans HL9.out hb9).trans (hb10.mono k1.2.2.2.1); have s10 := hb10.size; have R10 := Lib.hid (ArCP.ar (B := w10.heap.size) (fun b hb => hb) t (ArCP.to (Q := fun b => b < w10.heap.size) (fun b hb => (hb10.block b hb).trans (hb9.block b (by omega))) (fun b hb => by omega) t FA.out)); have D10 := Lib.hid (ArWC.b HAt.out B10); clear k1 k2 K10 C10))
                  | (go_at_call 14; ((with_reducible refine (cT ⟨ka, kn, kc⟩ ⟨P0, P1, P2⟩ a n c PA PN PC w10 D10.out R10.out).mono ?_); rintro e w11 ⟨rfl, hb11⟩))
                  | (go_at_call 8; ((with_reducible refine (g0 _).mono ?_); rintro e w12 ⟨rfl, hb12⟩)))
                go_ret
                exact ⟨rfl, bel_trans hB (bel_trans (a := W) (bel_trans (a := W) B10 hb11) hb12)⟩
              exact AllReadyH.nil
            exact AllReadyH.nil
          exact AllReadyH.nil
        refine AllReadyH.cons rfl (fun KK hKK => ?_) ?_
        · obtain ⟨V9, hV9⟩ : ∃ V, wA.alloc (.cells #[.int .i64 0, .string ⟨#[]⟩, .string ⟨#[]⟩, .slice none 0 0, .slice none 0 0] 25) = V := ⟨_, rfl⟩
          obtain ⟨p9, hp9⟩ : ∃ p, wA.heap.size = p := ⟨_, rfl⟩
          have hb9 : Below wA.heap.size wA V9 := by rw [← hV9]; exact bel_alloc (Below.refl _ _) _
          have hz9 : V9.heap.size = p9 + 1 := by rw [← hV9, ← hp9]; simp
          have Z9 : CBox V9 p9 0 ⟨#[]⟩ ⟨#[]⟩ SS.nil none 0 0 := by rw [← hV9, ← hp9]; exact CBox.new wA 0 ⟨#[]⟩ ⟨#[]⟩ SS.nil none 0 0
          have Hz9 := Lib.hid hz9
          clear hz9
          go_simp
          have Hp9 := Lib.hid hp9
          clear hV9 hp9
          have Bc := bel_trans (a := W) Bc hb9
          have b_w4 := bel_trans (a := w4) b_w4 hb9
          have b_wA := bel_trans (a := wA) b_wA hb9
          have Z8 := CBox.b Z8 hb9
          refine hKK.out _ _ (by obtain ⟨q0, q1, q2, q3, q4⟩ := CBox.five (CBox.b HSA.out Bc); exact ⟨q0, q1, q2, q3, q4⟩) (fun hHeld => ?_)
          clear hKK KK
          (try simp only [Act.put, List.setIfInBounds_toArray, List.set_cons_zero, List.set_cons_succ])
          refine wpAnyH_ready (rs := [3]) (by kernel_rfl) (by simp) ?_
          refine AllReadyH.cons rfl (fun KK hKK => ?_) ?_
          · go_simp
            (go_at_call 24; ((with_reducible refine (cC _ Bc).mono ?_); rintro e wE ⟨E0, E1, E2, EA, EN, EC, rfl, hX, hb⟩))
            have hzE := hb.size
            have HXE := Lib.hid hX
            clear hX
            have Bc := bel_trans (a := W) Bc hb
            have b_w4 := bel_trans (a := w4) b_w4 hb
            have b_wA := bel_trans (a := wA) b_wA hb
            have Z8 := CBox.b Z8 hb
            have Z9 := CBox.b Z9 hb
            have b_wE := Below.refl wE.heap.size wE
            refine hKK.out _ _ (by obtain ⟨q0, q1, q2, q3, q4⟩ := CBox.five (CBox.b HSA.out Bc); exact ⟨q0, q1, q2, q3, q4⟩) (fun hHeld => ?_)
            clear hKK KK
            (try simp only [Act.put, List.setIfInBounds_toArray, List.set_cons_zero, List.set_cons_succ])
            refine wpAnyH_ready (rs := [6]) (by kernel_rfl) (by simp) ?_
            refine AllReadyH.cons rfl (fun KK hKK => ?_) ?_
            · obtain ⟨z0, z1, z2, z3, z4⟩ := Z8.five
              obtain ⟨y0, y1, y2, y3, y4⟩ := Z8.free
              dsimp only [SS.nil] at z3
              have B8 := CBox.put Z8 op nm nu ⟨P0, P1, P2⟩ PA PN PC
              have O8 := fun b (hb : b ≠ p8) => put5_other wE p8 b (.int .i64 op) (.string nm) (.string nu) (.slice P0 P1 P2) (.slice PA PN PC) hb
              have S8 := put5_size wE p8 (.int .i64 op) (.string nm) (.string nu) (.slice P0 P1 P2) (.slice PA PN PC)
              have hpw : w4.heap.size ≤ p8 ∧ w4.heap.size ≤ p9 ∧ p8 ≠ p9 ∧ w.heap.size < w4.heap.size := by have e8 := Hp8.out; have e9 := Hp9.out; have s6 := Bd6.size; have t0 := Hz8.out; have t1 := Hz9.out; have t2 := hzA; have t3 := hzE; have t4 := b_w4.size; omega
              have L8 := put5_below Bc (show W.heap.size ≤ p8 by have := hz6; omega) (.int .i64 op) (.string nm) (.string nu) (.slice P0 P1 P2) (.slice PA PN PC)
              have L68 := put5_below b_w4 hpw.1 (.int .i64 op) (.string nm) (.string nu) (.slice P0 P1 P2) (.slice PA PN PC)
              obtain ⟨U8, hU8⟩ : ∃ U, put5 wE p8 (.int .i64 op) (.string nm) (.string nu) (.slice P0 P1 P2) (.slice PA PN PC) = U := ⟨_, rfl⟩
              dsimp only at B8
              rw [hU8] at B8 O8 S8 L8 L68
              unfold put5 at hU8
              go_simp
              clear hU8
              refine hKK.out _ _ (by obtain ⟨q0, q1, q2, q3, q4⟩ := CBox.five (((O8 w.heap.size (by omega)).trans (CBox.b HSA.out Bc) : CBox U8 w.heap.size op nm nu ⟨ka, kn, kc⟩ a n c)); exact ⟨q0, q1, q2, q3, q4⟩) (fun hHeld => ?_)
              clear hKK KK
              (try simp only [Act.put, List.setIfInBounds_toArray, List.set_cons_zero, List.set_cons_succ])
              have Z9 : CBox U8 p9 0 ⟨#[]⟩ ⟨#[]⟩ SS.nil none 0 0 := (O8 p9 (fun h => hpw.2.2.1 h.symm)).trans Z9
              refine wpAnyH_ready (rs := [7]) (by kernel_rfl) (by simp) ?_
              refine AllReadyH.cons rfl (fun KK hKK => ?_) ?_
              · obtain ⟨z0, z1, z2, z3, z4⟩ := Z9.five
                obtain ⟨y0, y1, y2, y3, y4⟩ := Z9.free
                dsimp only [SS.nil] at z3
                have B9 := CBox.put Z9 op nm nu ⟨E0, E1, E2⟩ EA EN EC
                have O9 := fun b (hb : b ≠ p9) => put5_other U8 p9 b (.int .i64 op) (.string nm) (.string nu) (.slice E0 E1 E2) (.slice EA EN EC) hb
                have S9 := put5_size U8 p9 (.int .i64 op) (.string nm) (.string nu) (.slice E0 E1 E2) (.slice EA EN EC)
                have L9 := put5_below L8 (show W.heap.size ≤ p9 by have := hz6; omega) (.int .i64 op) (.string nm) (.string nu) (.slice E0 E1 E2) (.slice EA EN EC)
                have L69 := put5_below L68 hpw.2.1 (.int .i64 op) (.string nm) (.string nu) (.slice E0 E1 E2) (.slice EA EN EC)
                obtain ⟨WF, hWF⟩ : ∃ U, put5 U8 p9 (.int .i64 op) (.string nm) (.string nu) (.slice E0 E1 E2) (.slice EA EN EC) = U := ⟨_, rfl⟩
                dsimp only at B9
                rw [hWF] at B9 O9 S9 L9 L69
                unfold put5 at hWF
                go_simp
                clear hWF
                refine hKK.out _ _ (by obtain ⟨q0, q1, q2, q3, q4⟩ := CBox.five (((O9 w.heap.size (by omega)).trans ((O8 w.heap.size (by omega)).trans (CBox.b HSA.out Bc)) : CBox WF w.heap.size op nm nu ⟨ka, kn, kc⟩ a n c)); exact ⟨q0, q1, q2, q3, q4⟩) (fun hHeld => ?_)
                clear hKK KK
                (try simp only [Act.put, List.setIfInBounds_toArray, List.set_cons_zero, List.set_cons_succ])
                refine wpAnyH_done (by kernel_rfl) ?_ _
                refine NoPanic.normal ?_
                have s6 := Bd6.size
                have e8 := Hp8.out
                have e9 := Hp9.out
                have t0 := Hz8.out
                have t1 := Hz9.out
                have sA2 := b_wA.size
                have sE2 := b_wE.size
                have FC : CBox WF w.heap.size op nm nu ⟨ka, kn, kc⟩ a n c := (O9 _ (by omega)).trans ((O8 _ (by omega)).trans (CBox.b HSA.out Bc))
                have F8 : CBox WF p8 op nm nu ⟨P0, P1, P2⟩ PA PN PC := (O9 _ hpw.2.2.1).trans B8
                have keep := fun (V : World) (hb : Below V.heap.size V wE) (b : Nat) (h1 : b < V.heap.size) (h2 : b ≠ p8) (h3 : b ≠ p9) => (O9 b h3).trans ((O8 b h2).trans (hb.block b h1))
                have FA := Lib.hid (ArCP.to (Q := fun b => b < V9.heap.size) (fun b hb => keep wA b_wA b hb.1 (by rcases hb.2 with h | h <;> have := hb.1 <;> omega) (by rcases hb.2 with h | h <;> have := hb.1 <;> omega)) (fun b hb => by have := hb.1; omega) _ HXA.out)
                have FE := Lib.hid (FrC.same t (fun b h1 h2 => keep wE b_wE b h2 (by omega) (by omega)) HXE.out)
                have hio : (p8 < V9.heap.size ∨ wE.heap.size ≤ p8) ∧ w.heap.size < V9.heap.size ∧ wE.heap.size ≤ WF.heap.size ∧ W.heap.size ≤ V9.heap.size ∧ V9.heap.size ≤ wE.heap.size := by omega
                obtain ⟨lo, hlo⟩ : ∃ lo, V9.heap.size = lo := ⟨_, rfl⟩
                obtain ⟨hi, hhi⟩ : ∃ hi, wE.heap.size = hi := ⟨_, rfl⟩
                rw [hlo] at FA FE hio
                rw [hhi] at FE hio
                have l8 := Blk.lt F8
                have FCc := Lib.hid (ArWC.b HAt.out L9)
                have FEr := Lib.hid (FrC.ar (B := WF.heap.size) t hio.2.2.1 FE.out)
                have H8 := Lib.hid F8
                have HFC := Lib.hid FC
                have HL9 := Lib.hid L9
                have Hio := Lib.hid hio
                have L8lt := Lib.hid l8
                obtain ⟨a0, a1, a2, a3, a4⟩ := FC.five
                have HB9 := Lib.hid B9
                obtain ⟨b0, b1, b2, b3, b4⟩ := B9.five
                clear hlo hhi e8 e9 t0 t1 s6 sA2 sE2 HXA HXE Z8 Z9 O8 O9 S8 S9 L8 L68 L69 keep hio l8 F8 FC B8 hpw hzA hzE hz6
                go_wp2_with (first
                  | (go_at_call 14; ((with_reducible refine (cT ⟨E0, E1, E2⟩ ⟨ka, kn, kc⟩ EA EN EC a n c WF FEr.out FCc.out).mono ?_); rintro e w9 ⟨rfl, hb9⟩; have G9 := Lib.hid (FrC.same t (fun b h1 h2 => hb9.block b (by have := Hio.out.2.2.1; omega)) FE.out); have hs9 := hb9.size; have K9 := Lib.hid (CBox.b H8.out hb9); obtain ⟨a0, a1, a2, a3, a4⟩ := (CBox.b HFC.out hb9).five; obtain ⟨b0, b1, b2, b3, b4⟩ := (CBox.b HB9.out hb9).five; have cS := cP ⟨E0, E1, E2⟩ EA EN EC lo hi w9 (by have := Hio.out.2.2.1; omega) G9.out; dsimp only at cS))
                  | (go_at_call 25; ((with_reducible refine cS.mono ?_); rintro e w10 ⟨rfl, hb10, ho10⟩; have k1 := Hio.out; have k2 := L8lt.out; have K10 : CBox w10 p8 op nm nu ⟨P0, P1, P2⟩ PA PN PC := k1.1.elim (fun h => (hb10.block p8 h).trans K9.out) (fun h => (ho10 p8 h (by omega)).trans K9.out); have C10 : CBox w10 w.heap.size op nm nu ⟨ka, kn, kc⟩ a n c := (hb10.block w.heap.size k1.2.1).trans (CBox.b HFC.out hb9); obtain ⟨a0, a1, a2, a3, a4⟩ := C10.five; obtain ⟨d0, d1, d2, d3, d4⟩ := K10.five; have B10 : Below W.heap.size W w10 := (bel_trans HL9.out hb9).trans (hb10.mono k1.2.2.2.1); have s10 := hb10.size; have R10 := Lib.hid (ArCP.ar (B := w10.heap.size) (fun b hb => hb) t (ArCP.to (Q := fun b => b < w10.heap.size) (fun b hb => (hb10.block b hb).trans (hb9.block b (by omega))) (fun b hb => by omega) t FA.out)); have D10 := Lib.hid (ArWC.b HAt.out B10); clear k1 k2 K10 C10))
                  | (go_at_call 14; ((with_reducible refine (cT ⟨ka, kn, kc⟩ ⟨P0, P1, P2⟩ a n c PA PN PC w10 D10.out R10.out).mono ?_); rintro e w11 ⟨rfl, hb11⟩))
                  | (go_at_call 8; ((with_reducible refine (g0 _).mono ?_); rintro e w12 ⟨rfl, hb12⟩)))
                go_ret
                exact ⟨rfl, bel_trans hB (bel_trans (a := W) (bel_trans (a := W) B10 hb11) hb12)⟩
              exact AllReadyH.nil
            exact AllReadyH.nil
          exact AllReadyH.nil
        exact AllReadyH.nil
      refine AllReadyH.cons rfl (fun KK hKK => ?_) ?_
      · obtain ⟨V9, hV9⟩ : ∃ V, V8.alloc (.cells #[.int .i64 0, .string ⟨#[]⟩, .string ⟨#[]⟩, .slice none 0 0, .slice none 0 0] 25) = V := ⟨_, rfl⟩
        obtain ⟨p9, hp9⟩ : ∃ p, V8.heap.size = p := ⟨_, rfl⟩
        have hb9 : Below V8.heap.size V8 V9 := by rw [← hV9]; exact bel_alloc (Below.refl _ _) _
        have hz9 : V9.heap.size = p9 + 1 := by rw [← hV9, ← hp9]; simp
        have Z9 : CBox V9 p9 0 ⟨#[]⟩ ⟨#[]⟩ SS.nil none 0 0 := by rw [← hV9, ← hp9]; exact CBox.new V8 0 ⟨#[]⟩ ⟨#[]⟩ SS.nil none 0 0
        have Hz9 := Lib.hid hz9
        clear hz9
        go_simp
        have Hp9 := Lib.hid hp9
        clear hV9 hp9
        have Bc := bel_trans (a := W) Bc hb9
        have b_w4 := bel_trans (a := w4) b_w4 hb9
        have Z8 := CBox.b Z8 hb9
        refine hKK.out _ _ (by obtain ⟨q0, q1, q2, q3, q4⟩ := CBox.five (CBox.b HSA.out Bc); exact ⟨q0, q1, q2, q3, q4⟩) (fun hHeld => ?_)
        clear hKK KK
        (try simp only [Act.put, List.setIfInBounds_toArray, List.set_cons_zero, List.set_cons_succ])
        refine wpAnyH_ready (rs := [1]) (by kernel_rfl) (by simp) ?_
        refine AllReadyH.cons rfl (fun KK hKK => ?_) ?_
        · go_simp
          (go_at_call 23; ((with_reducible refine (cW _ Bc).mono ?_); rintro e wA ⟨⟨P0, P1, P2⟩, PA, PN, PC, rfl, hX, hb⟩))
          have hzA := hb.size
          have HXA := Lib.hid hX
          clear hX
          have Bc := bel_trans (a := W) Bc hb
          have b_w4 := bel_trans (a := w4) b_w4 hb
          have Z8 := CBox.b Z8 hb
          have Z9 := CBox.b Z9 hb
          have b_wA := Below.refl wA.heap.size wA
          refine hKK.out _ _ (by obtain ⟨q0, q1, q2, q3, q4⟩ := CBox.five (CBox.b HSA.out Bc); exact ⟨q0, q1, q2, q3, q4⟩) (fun hHeld => ?_)
          clear hKK KK
          (try simp only [Act.put, List.setIfInBounds_toArray, List.set_cons_zero, List.set_cons_succ])
          refine wpAnyH_ready (rs := [3]) (by kernel_rfl) (by simp) ?_
          refine AllReadyH.cons rfl (fun KK hKK => ?_) ?_
          · go_simp
            (go_at_call 24; ((with_reducible refine (cC _ Bc).mono ?_); rintro e wE ⟨E0, E1, E2, EA, EN, EC, rfl, hX, hb⟩))
            have hzE := hb.size
            have HXE := Lib.hid hX
            clear hX
            have Bc := bel_trans (a := W) Bc hb
            have b_w4 := bel_trans (a := w4) b_w4 hb
            have b_wA := bel_trans (a := wA) b_wA hb
            have Z8 := CBox.b Z8 hb
            have Z9 := CBox.b Z9 hb
            have b_wE := Below.refl wE.heap.size wE
            refine hKK.out _ _ (by obtain ⟨q0, q1, q2, q3, q4⟩ := CBox.five (CBox.b HSA.out Bc); exact ⟨q0, q1, q2, q3, q4⟩) (fun hHeld => ?_)
            clear hKK KK
            (try simp only [Act.put, List.setIfInBounds_toArray, List.set_cons_zero, List.set_cons_succ])
            refine wpAnyH_ready (rs := [6]) (by kernel_rfl) (by simp) ?_
            refine AllReadyH.cons rfl (fun KK hKK => ?_) ?_
            · obtain ⟨z0, z1, z2, z3, z4⟩ := Z8.five
              obtain ⟨y0, y1, y2, y3, y4⟩ := Z8.free
              dsimp only [SS.nil] at z3
              have B8 := CBox.put Z8 op nm nu ⟨P0, P1, P2⟩ PA PN PC
              have O8 := fun b (hb : b ≠ p8) => put5_other wE p8 b (.int .i64 op) (.string nm) (.string nu) (.slice P0 P1 P2) (.slice PA PN PC) hb
              have S8 := put5_size wE p8 (.int .i64 op) (.string nm) (.string nu) (.slice P0 P1 P2) (.slice PA PN PC)
              have hpw : w4.heap.size ≤ p8 ∧ w4.heap.size ≤ p9 ∧ p8 ≠ p9 ∧ w.heap.size < w4.heap.size := by have e8 := Hp8.out; have e9 := Hp9.out; have s6 := Bd6.size; have t0 := Hz8.out; have t1 := Hz9.out; have t2 := hzA; have t3 := hzE; have t4 := b_w4.size; omega
              have L8 := put5_below Bc (show W.heap.size ≤ p8 by have := hz6; omega) (.int .i64 op) (.string nm) (.string nu) (.slice P0 P1 P2) (.slice PA PN PC)
              have L68 := put5_below b_w4 hpw.1 (.int .i64 op) (.string nm) (.string nu) (.slice P0 P1 P2) (.slice PA PN PC)
              obtain ⟨U8, hU8⟩ : ∃ U, put5 wE p8 (.int .i64 op) (.string nm) (.string nu) (.slice P0 P1 P2) (.slice PA PN PC) = U := ⟨_, rfl⟩
              dsimp only at B8
              rw [hU8] at B8 O8 S8 L8 L68
              unfold put5 at hU8
              go_simp
              clear hU8
              refine hKK.out _ _ (by obtain ⟨q0, q1, q2, q3, q4⟩ := CBox.five (((O8 w.heap.size (by omega)).trans (CBox.b HSA.out Bc) : CBox U8 w.heap.size op nm nu ⟨ka, kn, kc⟩ a n c)); exact ⟨q0, q1, q2, q3, q4⟩) (fun hHeld => ?_)
              clear hKK KK
              (try simp only [Act.put, List.setIfInBounds_toArray, List.set_cons_zero, List.set_cons_succ])
              have Z9 : CBox U8 p9 0 ⟨#[]⟩ ⟨#[]⟩ SS.nil none 0 0 := (O8 p9 (fun h => hpw.2.2.1 h.symm)).trans Z9
              refine wpAnyH_ready (rs := [7]) (by kernel_rfl) (by simp) ?_
              refine AllReadyH.cons rfl (fun KK hKK => ?_) ?_
              · obtain ⟨z0, z1, z2, z3, z4⟩ := Z9.five
                obtain ⟨y0, y1, y2, y3, y4⟩ := Z9.free
                dsimp only [SS.nil] at z3
                have B9 := CBox.put Z9 op nm nu ⟨E0, E1, E2⟩ EA EN EC
                have O9 := fun b (hb : b ≠ p9) => put5_other U8 p9 b (.int .i64 op) (.string nm) (.string nu) (.slice E0 E1 E2) (.slice EA EN EC) hb
                have S9 := put5_size U8 p9 (.int .i64 op) (.string nm) (.string nu) (.slice E0 E1 E2) (.slice EA EN EC)
                have L9 := put5_below L8 (show W.heap.size ≤ p9 by have := hz6; omega) (.int .i64 op) (.string nm) (.string nu) (.slice E0 E1 E2) (.slice EA EN EC)
                have L69 := put5_below L68 hpw.2.1 (.int .i64 op) (.string nm) (.string nu) (.slice E0 E1 E2) (.slice EA EN EC)
                obtain ⟨WF, hWF⟩ : ∃ U, put5 U8 p9 (.int .i64 op) (.string nm) (.string nu) (.slice E0 E1 E2) (.slice EA EN EC) = U := ⟨_, rfl⟩
                dsimp only at B9
                rw [hWF] at B9 O9 S9 L9 L69
                unfold put5 at hWF
                go_simp
                clear hWF
                refine hKK.out _ _ (by obtain ⟨q0, q1, q2, q3, q4⟩ := CBox.five (((O9 w.heap.size (by omega)).trans ((O8 w.heap.size (by omega)).trans (CBox.b HSA.out Bc)) : CBox WF w.heap.size op nm nu ⟨ka, kn, kc⟩ a n c)); exact ⟨q0, q1, q2, q3, q4⟩) (fun hHeld => ?_)
                clear hKK KK
                (try simp only [Act.put, List.setIfInBounds_toArray, List.set_cons_zero, List.set_cons_succ])
                refine wpAnyH_done (by kernel_rfl) ?_ _
                refine NoPanic.normal ?_
                have s6 := Bd6.size
                have e8 := Hp8.out
                have e9 := Hp9.out
                have t0 := Hz8.out
                have t1 := Hz9.out
                have sA2 := b_wA.size
                have sE2 := b_wE.size
                have FC : CBox WF w.heap.size op nm nu ⟨ka, kn, kc⟩ a n c := (O9 _ (by omega)).trans ((O8 _ (by omega)).trans (CBox.b HSA.out Bc))
                have F8 : CBox WF p8 op nm nu ⟨P0, P1, P2⟩ PA PN PC := (O9 _ hpw.2.2.1).trans B8
                have keep := fun (V : World) (hb : Below V.heap.size V wE) (b : Nat) (h1 : b < V.heap.size) (h2 : b ≠ p8) (h3 : b ≠ p9) => (O9 b h3).trans ((O8 b h2).trans (hb.block b h1))
                have FA := Lib.hid (ArCP.to (Q := fun b => b < wA.heap.size) (fun b hb => keep wA b_wA b hb.1 (by rcases hb.2 with h | h <;> have := hb.1 <;> omega) (by rcases hb.2 with h | h <;> have := hb.1 <;> omega)) (fun b hb => by have := hb.1; omega) _ HXA.out)
                have FE := Lib.hid (FrC.same t (fun b h1 h2 => keep wE b_wE b h2 (by omega) (by omega)) HXE.out)
                have hio : (p8 < wA.heap.size ∨ wE.heap.size ≤ p8) ∧ w.heap.size < wA.heap.size ∧ wE.heap.size ≤ WF.heap.size ∧ W.heap.size ≤ wA.heap.size ∧ wA.heap.size ≤ wE.heap.size := by omega
                obtain ⟨lo, hlo⟩ : ∃ lo, wA.heap.size = lo := ⟨_, rfl⟩
                obtain ⟨hi, hhi⟩ : ∃ hi, wE.heap.size = hi := ⟨_, rfl⟩
                rw [hlo] at FA FE hio
                rw [hhi] at FE hio
                have l8 := Blk.lt F8
                have FCc := Lib.hid (ArWC.b HAt.out L9)
                have FEr := Lib.hid (FrC.ar (B := WF.heap.size) t hio.2.2.1 FE.out)
                have H8 := Lib.hid F8
                have HFC := Lib.hid FC
                have HL9 := Lib.hid L9
                have Hio := Lib.hid hio
                have L8lt := Lib.hid l8
                obtain ⟨a0, a1, a2, a3, a4⟩ := FC.five
                have HB9 := Lib.hid B9
                obtain ⟨b0, b1, b2, b3, b4⟩ := B9.five
                clear hlo hhi e8 e9 t0 t1 s6 sA2 sE2 HXA HXE Z8 Z9 O8 O9 S8 S9 L8 L68 L69 keep hio l8 F8 FC B8 hpw hzA hzE hz6
                go_wp2_with (first
                  | (go_at_call 14; ((with_reducible refine (cT ⟨E0, E1, E2⟩ ⟨ka, kn, kc⟩ EA EN EC a n c WF FEr.out FCc.out).mono ?_); rintro e w9 ⟨rfl, hb9⟩; have G9 := Lib.hid (FrC.same t (fun b h1 h2 => hb9.block b (by have := Hio.out.2.2.1; omega)) FE.out); have hs9 := hb9.size; have K9 := Lib.hid (CBox.b H8.out hb9); obtain ⟨a0, a1, a2, a3, a4⟩ := (CBox.b HFC.out hb9).five; obtain ⟨b0, b1, b2, b3, b4⟩ := (CBox.b HB9.out hb9).five; have cS := cP ⟨E0, E1, E2⟩ EA EN EC lo hi w9 (by have := Hio.out.2.2.1; omega) G9.out; dsimp only at cS))
                  | (go_at_call 25; ((with_reducible refine cS.mono ?_); rintro e w10 ⟨rfl, hb10, ho10⟩; have k1 := Hio.out; have k2 := L8lt.out; have K10 : CBox w10 p8 op nm nu ⟨P0, P1, P2⟩ PA PN PC := k1.1.elim (fun h => (hb10.block p8 h).trans K9.out) (fun h => (ho10 p8 h (by omega)).trans K9.out); have C10 : CBox w10 w.heap.size op nm nu ⟨ka, kn, kc⟩ a n c := (hb10.block w.heap.size k1.2.1).trans (CBox.b HFC.out hb9); obtain ⟨a0, a1, a2, a3, a4⟩ := C10.five; obtain ⟨d0, d1, d2, d3, d4⟩ := K10.five; have B10 : Below W.heap.size W w10 := (bel_trans HL9.out hb9).trans (hb10.mono k1.2.2.2.1); have s10 := hb10.size; have R10 := Lib.hid (ArCP.ar (B := w10.heap.size) (fun b hb => hb) t (ArCP.to (Q := fun b => b < w10.heap.size) (fun b hb => (hb10.block b hb).trans (hb9.block b (by omega))) (fun b hb => by omega) t FA.out)); have D10 := Lib.hid (ArWC.b HAt.out B10); clear k1 k2 K10 C10))
                  | (go_at_call 14; ((with_reducible refine (cT ⟨ka, kn, kc⟩ ⟨P0, P1, P2⟩ a n c PA PN PC w10 D10.out R10.out).mono ?_); rintro e w11 ⟨rfl, hb11⟩))
                  | (go_at_call 8; ((with_reducible refine (g0 _).mono ?_); rintro e w12 ⟨rfl, hb12⟩)))
                go_ret
                exact ⟨rfl, bel_trans hB (bel_trans (a := W) (bel_trans (a := W) B10 hb11) hb12)⟩
              exact AllReadyH.nil
            exact AllReadyH.nil
          exact AllReadyH.nil
        exact AllReadyH.nil
      exact AllReadyH.nil
    refine AllReadyH.cons rfl (fun KK hKK => ?_) ?_
    · obtain ⟨V9, hV9⟩ : ∃ V, Wd.alloc (.cells #[.int .i64 0, .string ⟨#[]⟩, .string ⟨#[]⟩, .slice none 0 0, .slice none 0 0] 25) = V := ⟨_, rfl⟩
      obtain ⟨p9, hp9⟩ : ∃ p, Wd.heap.size = p := ⟨_, rfl⟩
      have hb9 : Below Wd.heap.size Wd V9 := by rw [← hV9]; exact bel_alloc (Below.refl _ _) _
      have hz9 : V9.heap.size = p9 + 1 := by rw [← hV9, ← hp9]; simp
      have Z9 : CBox V9 p9 0 ⟨#[]⟩ ⟨#[]⟩ SS.nil none 0 0 := by rw [← hV9, ← hp9]; exact CBox.new Wd 0 ⟨#[]⟩ ⟨#[]⟩ SS.nil none 0 0
      have Hz9 := Lib.hid hz9
      clear hz9
      go_simp
      have Hp9 := Lib.hid hp9
      clear hV9 hp9
      have Bc := bel_trans (a := W) Bc hb9
      have b_w4 := bel_trans (a := w4) b_w4 hb9
      refine hKK.out _ _ (by obtain ⟨q0, q1, q2, q3, q4⟩ := CBox.five (CBox.b HSA.out Bc); exact ⟨q0, q1, q2, q3, q4⟩) (fun hHeld => ?_)
      clear hKK KK
      (try simp only [Act.put, List.setIfInBounds_toArray, List.set_cons_zero, List.set_cons_succ])
      refine wpAnyH_ready (rs := [1, 4]) (by kernel_rfl) (by simp) ?_
      refine AllReadyH.cons rfl (fun KK hKK => ?_) ?_
      · go_simp
        (go_at_call 23; ((with_reducible refine (cW _ Bc).mono ?_); rintro e wA ⟨⟨P0, P1, P2⟩, PA, PN, PC, rfl, hX, hb⟩))
        have hzA := hb.size
        have HXA := Lib.hid hX
        clear hX
        have Bc := bel_trans (a := W) Bc hb
        have b_w4 := bel_trans (a := w4) b_w4 hb
        have Z9 := CBox.b Z9 hb
        have b_wA := Below.refl wA.heap.size wA
        refine hKK.out _ _ (by obtain ⟨q0, q1, q2, q3, q4⟩ := CBox.five (CBox.b HSA.out Bc); exact ⟨q0, q1, q2, q3, q4⟩) (fun hHeld => ?_)
        clear hKK KK
        (try simp only [Act.put, List.setIfInBounds_toArray, List.set_cons_zero, List.set_cons_succ])
        refine wpAnyH_ready (rs := [3, 4]) (by kernel_rfl) (by simp) ?_
        refine AllReadyH.cons rfl (fun KK hKK => ?_) ?_
        · go_simp
          (go_at_call 24; ((with_reducible refine (cC _ Bc).mono ?_); rintro e wE ⟨E0, E1, E2, EA, EN, EC, rfl, hX, hb⟩))
          have hzE := hb.size
          have HXE := Lib.hid hX
          clear hX
          have Bc := bel_trans (a := W) Bc hb
          have b_w4 := bel_trans (a := w4) b_w4 hb
          have b_wA := bel_trans (a := wA) b_wA hb
          have Z9 := CBox.b Z9 hb
          have b_wE := Below.refl wE.heap.size wE
          refine hKK.out _ _ (by obtain ⟨q0, q1, q2, q3, q4⟩ := CBox.five (CBox.b HSA.out Bc); exact ⟨q0, q1, q2, q3, q4⟩) (fun hHeld => ?_)
          clear hKK KK
          (try simp only [Act.put, List.setIfInBounds_toArray, List.set_cons_zero, List.set_cons_succ])
          refine wpAnyH_ready (rs := [4]) (by kernel_rfl) (by simp) ?_
          refine AllReadyH.cons rfl (fun KK hKK => ?_) ?_
          · obtain ⟨V8, hV8⟩ : ∃ V, wE.alloc (.cells #[.int .i64 0, .string ⟨#[]⟩, .string ⟨#[]⟩, .slice none 0 0, .slice none 0 0] 25) = V := ⟨_, rfl⟩
            obtain ⟨p8, hp8⟩ : ∃ p, wE.heap.size = p := ⟨_, rfl⟩
            have hb8 : Below wE.heap.size wE V8 := by rw [← hV8]; exact bel_alloc (Below.refl _ _) _
            have hz8 : V8.heap.size = p8 + 1 := by rw [← hV8, ← hp8]; simp
            have Z8 : CBox V8 p8 0 ⟨#[]⟩ ⟨#[]⟩ SS.nil none 0 0 := by rw [← hV8, ← hp8]; exact CBox.new wE 0 ⟨#[]⟩ ⟨#[]⟩ SS.nil none 0 0
            have Hz8 := Lib.hid hz8
            clear hz8
            go_simp
            have Hp8 := Lib.hid hp8
            clear hV8 hp8
            have Bc := bel_trans (a := W) Bc hb8
            have b_w4 := bel_trans (a := w4) b_w4 hb8
            have b_wA := bel_trans (a := wA) b_wA hb8
            have b_wE := bel_trans (a := wE) b_wE hb8
            have Z9 := CBox.b Z9 hb8
            refine hKK.out _ _ (by obtain ⟨q0, q1, q2, q3, q4⟩ := CBox.five (CBox.b HSA.out Bc); exact ⟨q0, q1, q2, q3, q4⟩) (fun hHeld => ?_)
            clear hKK KK
            (try simp only [Act.put, List.setIfInBounds_toArray, List.set_cons_zero, List.set_cons_succ])
            refine wpAnyH_ready (rs := [6]) (by kernel_rfl) (by simp) ?_
            refine AllReadyH.cons rfl (fun KK hKK => ?_) ?_
            · obtain ⟨z0, z1, z2, z3, z4⟩ := Z8.five
              obtain ⟨y0, y1, y2, y3, y4⟩ := Z8.free
              dsimp only [SS.nil] at z3
              have B8 := CBox.put Z8 op nm nu ⟨P0, P1, P2⟩ PA PN PC
              have O8 := fun b (hb : b ≠ p8) => put5_other V8 p8 b (.int .i64 op) (.string nm) (.string nu) (.slice P0 P1 P2) (.slice PA PN PC) hb
              have S8 := put5_size V8 p8 (.int .i64 op) (.string nm) (.string nu) (.slice P0 P1 P2) (.slice PA PN PC)
              have hpw : w4.heap.size ≤ p8 ∧ w4.heap.size ≤ p9 ∧ p8 ≠ p9 ∧ w.heap.size < w4.heap.size := by have e8 := Hp8.out; have e9 := Hp9.out; have s6 := Bd6.size; have t0 := Hz8.out; have t1 := Hz9.out; have t2 := hzA; have t3 := hzE; have t4 := b_w4.size; omega
              have L8 := put5_below Bc (show W.heap.size ≤ p8 by have := hz6; omega) (.int .i64 op) (.string nm) (.string nu) (.slice P0 P1 P2) (.slice PA PN PC)
              have L68 := put5_below b_w4 hpw.1 (.int .i64 op) (.string nm) (.string nu) (.slice P0 P1 P2) (.slice PA PN PC)
              obtain ⟨U8, hU8⟩ : ∃ U, put5 V8 p8 (.int .i64 op) (.string nm) (.string nu) (.slice P0 P1 P2) (.slice PA PN PC) = U := ⟨_, rfl⟩
              dsimp only at B8
              rw [hU8] at B8 O8 S8 L8 L68
              unfold put5 at hU8
              go_simp
              clear hU8
              refine hKK.out _ _ (by obtain ⟨q0, q1, q2, q3, q4⟩ := CBox.five (((O8 w.heap.size (by omega)).trans (CBox.b HSA.out Bc) : CBox U8 w.heap.size op nm nu ⟨ka, kn, kc⟩ a n c)); exact ⟨q0, q1, q2, q3, q4⟩) (fun hHeld => ?_)
              clear hKK KK
              (try simp only [Act.put, List.setIfInBounds_toArray, List.set_cons_zero, List.set_cons_succ])
              have Z9 : CBox U8 p9 0 ⟨#[]⟩ ⟨#[]⟩ SS.nil none 0 0 := (O8 p9 (fun h => hpw.2.2.1 h.symm)).trans Z9
              refine wpAnyH_ready (rs := [7]) (by kernel_rfl) (by simp) ?_
              refine AllReadyH.cons rfl (fun KK hKK => ?_) ?_
              · obtain ⟨z0, z1, z2, z3, z4⟩ := Z9.five
                obtain ⟨y0, y1, y2, y3, y4⟩ := Z9.free
                dsimp only [SS.nil] at z3
                have B9 := CBox.put Z9 op nm nu ⟨E0, E1, E2⟩ EA EN EC
                have O9 := fun b (hb : b ≠ p9) => put5_other U8 p9 b (.int .i64 op) (.string nm) (.string nu) (.slice E0 E1 E2) (.slice EA EN EC) hb
                have S9 := put5_size U8 p9 (.int .i64 op) (.string nm) (.string nu) (.slice E0 E1 E2) (.slice EA EN EC)
                have L9 := put5_below L8 (show W.heap.size ≤ p9 by have := hz6; omega) (.int .i64 op) (.string nm) (.string nu) (.slice E0 E1 E2) (.slice EA EN EC)
                have L69 := put5_below L68 hpw.2.1 (.int .i64 op) (.string nm) (.string nu) (.slice E0 E1 E2) (.slice EA EN EC)
                obtain ⟨WF, hWF⟩ : ∃ U, put5 U8 p9 (.int .i64 op) (.string nm) (.string nu) (.slice E0 E1 E2) (.slice EA EN EC) = U := ⟨_, rfl⟩
                dsimp only at B9
                rw [hWF] at B9 O9 S9 L9 L69
                unfold put5 at hWF
                go_simp
                clear hWF
                refine hKK.out _ _ (by obtain ⟨q0, q1, q2, q3, q4⟩ := CBox.five (((O9 w.heap.size (by omega)).trans ((O8 w.heap.size (by omega)).trans (CBox.b HSA.out Bc)) : CBox WF w.heap.size op nm nu ⟨ka, kn, kc⟩ a n c)); exact ⟨q0, q1, q2, q3, q4⟩) (fun hHeld => ?_)
                clear hKK KK
                (try simp only [Act.put, List.setIfInBounds_toArray, List.set_cons_zero, List.set_cons_succ])
                refine wpAnyH_done (by kernel_rfl) ?_ _
                refine NoPanic.normal ?_
                have s6 := Bd6.size
                have e8 := Hp8.out
                have e9 := Hp9.out
                have t0 := Hz8.out
                have t1 := Hz9.out
                have sA2 := b_wA.size
                have sE2 := b_wE.size
                have FC : CBox WF w.heap.size op nm nu ⟨ka, kn, kc⟩ a n c := (O9 _ (by omega)).trans ((O8 _ (by omega)).trans (CBox.b HSA.out Bc))
                have F8 : CBox WF p8 op nm nu ⟨P0, P1, P2⟩ PA PN PC := (O9 _ hpw.2.2.1).trans B8
                have keep := fun (V : World) (hb : Below V.heap.size V V8) (b : Nat) (h1 : b < V.heap.size) (h2 : b ≠ p8) (h3 : b ≠ p9) => (O9 b h3).trans ((O8 b h2).trans (hb.block b h1))
                have FA := Lib.hid (ArCP.to (Q := fun b => b < wA.heap.size) (fun b hb => keep wA b_wA b hb.1 (by rcases hb.2 with h | h <;> have := hb.1 <;> omega) (by rcases hb.2 with h | h <;> have := hb.1 <;> omega)) (fun b hb => by have := hb.1; omega) _ HXA.out)
                have FE := Lib.hid (FrC.same t (fun b h1 h2 => keep wE b_wE b h2 (by omega) (by omega)) HXE.out)
                have hio : (p8 < wA.heap.size ∨ wE.heap.size ≤ p8) ∧ w.heap.size < wA.heap.size ∧ wE.heap.size ≤ WF.heap.size ∧ W.heap.size ≤ wA.heap.size ∧ wA.heap.size ≤ wE.heap.size := by omega
                obtain ⟨lo, hlo⟩ : ∃ lo, wA.heap.size = lo := ⟨_, rfl⟩
                obtain ⟨hi, hhi⟩ : ∃ hi, wE.heap.size = hi := ⟨_, rfl⟩
                rw [hlo] at FA FE hio
                rw [hhi] at FE hio
                have l8 := Blk.lt F8
                have FCc := Lib.hid (ArWC.b HAt.out L9)
                have FEr := Lib.hid (FrC.ar (B := WF.heap.size) t hio.2.2.1 FE.out)
                have H8 := Lib.hid F8
                have HFC := Lib.hid FC
                have HL9 := Lib.hid L9
                have Hio := Lib.hid hio
                have L8lt := Lib.hid l8
                obtain ⟨a0, a1, a2, a3, a4⟩ := FC.five
                have HB9 := Lib.hid B9
                obtain ⟨b0, b1, b2, b3, b4⟩ := B9.five
                clear hlo hhi e8 e9 t0 t1 s6 sA2 sE2 HXA HXE Z8 Z9 O8 O9 S8 S9 L8 L68 L69 keep hio l8 F8 FC B8 hpw hzA hzE hz6
                go_wp2_with (first
                  | (go_at_call 14; ((with_reducible refine (cT ⟨E0, E1, E2⟩ ⟨ka, kn, kc⟩ EA EN EC a n c WF FEr.out FCc.out).mono ?_); rintro e w9 ⟨rfl, hb9⟩; have G9 := Lib.hid (FrC.same t (fun b h1 h2 => hb9.block b (by have := Hio.out.2.2.1; omega)) FE.out); have hs9 := hb9.size; have K9 := Lib.hid (CBox.b H8.out hb9); obtain ⟨a0, a1, a2, a3, a4⟩ := (CBox.b HFC.out hb9).five; obtain ⟨b0, b1, b2, b3, b4⟩ := (CBox.b HB9.out hb9).five; have cS := cP ⟨E0, E1, E2⟩ EA EN EC lo hi w9 (by have := Hio.out.2.2.1; omega) G9.out; dsimp only at cS))
                  | (go_at_call 25; ((with_reducible refine cS.mono ?_); rintro e w10 ⟨rfl, hb10, ho10⟩; have k1 := Hio.out; have k2 := L8lt.out; have K10 : CBox w10 p8 op nm nu ⟨P0, P1, P2⟩ PA PN PC := k1.1.elim (fun h => (hb10.block p8 h).trans K9.out) (fun h => (ho10 p8 h (by omega)).trans K9.out); have C10 : CBox w10 w.heap.size op nm nu ⟨ka, kn, kc⟩ a n c := (hb10.block w.heap.size k1.2.1).trans (CBox.b HFC.out hb9); obtain ⟨a0, a1, a2, a3, a4⟩ := C10.five; obtain ⟨d0, d1, d2, d3, d4⟩ := K10.five; have B10 : Below W.heap.size W w10 := (bel_trans HL9.out hb9).trans (hb10.mono k1.2.2.2.1); have s10 := hb10.size; have R10 := Lib.hid (ArCP.ar (B := w10.heap.size) (fun b hb => hb) t (ArCP.to (Q := fun b => b < w10.heap.size) (fun b hb => (hb10.block b hb).trans (hb9.block b (by omega))) (fun b hb => by omega) t FA.out)); have D10 := Lib.hid (ArWC.b HAt.out B10); clear k1 k2 K10 C10))
                  | (go_at_call 14; ((with_reducible refine (cT ⟨ka, kn, kc⟩ ⟨P0, P1, P2⟩ a n c PA PN PC w10 D10.out R10.out).mono ?_); rintro e w11 ⟨rfl, hb11⟩))
                  | (go_at_call 8; ((with_reducible refine (g0 _).mono ?_); rintro e w12 ⟨rfl, hb12⟩)))
                go_ret
                exact ⟨rfl, bel_trans hB (bel_trans (a := W) (bel_trans (a := W) B10 hb11) hb12)⟩
              exact AllReadyH.nil
            exact AllReadyH.nil
          exact AllReadyH.nil
        refine AllReadyH.cons rfl (fun KK hKK => ?_) ?_
        · obtain ⟨V8, hV8⟩ : ∃ V, wA.alloc (.cells #[.int .i64 0, .string ⟨#[]⟩, .string ⟨#[]⟩, .slice none 0 0, .slice none 0 0] 25) = V := ⟨_, rfl⟩
          obtain ⟨p8, hp8⟩ : ∃ p, wA.heap.size = p := ⟨_, rfl⟩
          have hb8 : Below wA.heap.size wA V8 := by rw [← hV8]; exact bel_alloc (Below.refl _ _) _
          have hz8 : V8.heap.size = p8 + 1 := by rw [← hV8, ← hp8]; simp
          have Z8 : CBox V8 p8 0 ⟨#[]⟩ ⟨#[]⟩ SS.nil none 0 0 := by rw [← hV8, ← hp8]; exact CBox.new wA 0 ⟨#[]⟩ ⟨#[]⟩ SS.nil none 0 0
          have Hz8 := Lib.hid hz8
          clear hz8
          go_simp
          have Hp8 := Lib.hid hp8
          clear hV8 hp8
          have Bc := bel_trans (a := W) Bc hb8
          have b_w4 := bel_trans (a := w4) b_w4 hb8
          have b_wA := bel_trans (a := wA) b_wA hb8
          have Z9 := CBox.b Z9 hb8
          refine hKK.out _ _ (by obtain ⟨q0, q1, q2, q3, q4⟩ := CBox.five (CBox.b HSA.out Bc); exact ⟨q0, q1, q2, q3, q4⟩) (fun hHeld => ?_)
          clear hKK KK
          (try simp only [Act.put, List.setIfInBounds_toArray, List.set_cons_zero, List.set_cons_succ])
          refine wpAnyH_ready (rs := [3]) (by kernel_rfl) (by simp) ?_
          refine AllReadyH.cons rfl (fun KK hKK => ?_) ?_
          · go_simp
            (go_at_call 24; ((with_reducible refine (cC _ Bc).mono ?_); rintro e wE ⟨E0, E1, E2, EA, EN, EC, rfl, hX, hb⟩))
            have hzE := hb.size
            have HXE := Lib.hid hX
            clear hX
            have Bc := bel_trans (a := W) Bc hb
            have b_w4 := bel_trans (a := w4) b_w4 hb
            have b_wA := bel_trans (a := wA) b_wA hb
            have Z9 := CBox.b Z9 hb
            have Z8 := CBox.b Z8 hb
            have b_wE := Below.refl wE.heap.size wE
            refine hKK.out _ _ (by obtain ⟨q0, q1, q2, q3, q4⟩ := CBox.five (CBox.b HSA.out Bc); exact ⟨q0, q1, q2, q3, q4⟩) (fun hHeld => ?_)
            clear hKK KK
            (try simp only [Act.put, List.setIfInBounds_toArray, List.set_cons_zero, List.set_cons_succ])
            refine wpAnyH_ready (rs := [6]) (by kernel_rfl) (by simp) ?_
            refine AllReadyH.cons rfl (fun KK hKK => ?_) ?_
            · obtain ⟨z0, z1, z2, z3, z4⟩ := Z8.five
              obtain ⟨y0, y1, y2, y3, y4⟩ := Z8.free
              dsimp only [SS.nil] at z3
              have B8 := CBox.put Z8 op nm nu ⟨P0, P1, P2⟩ PA PN PC
              have O8 := fun b (hb : b ≠ p8) => put5_other wE p8 b (.int .i64 op) (.string nm) (.string nu) (.slice P0 P1 P2) (.slice PA PN PC) hb
              have S8 := put5_size wE p8 (.int .i64 op) (.string nm) (.string nu) (.slice P0 P1 P2) (.slice PA PN PC)
              have hpw : w4.heap.size ≤ p8 ∧ w4.heap.size ≤ p9 ∧ p8 ≠ p9 ∧ w.heap.size < w4.heap.size := by have e8 := Hp8.out; have e9 := Hp9.out; have s6 := Bd6.size; have t0 := Hz8.out; have t1 := Hz9.out; have t2 := hzA; have t3 := hzE; have t4 := b_w4.size; omega
              have L8 := put5_below Bc (show W.heap.size ≤ p8 by have := hz6; omega) (.int .i64 op) (.string nm) (.string nu) (.slice P0 P1 P2) (.slice PA PN PC)
              have L68 := put5_below b_w4 hpw.1 (.int .i64 op) (.string nm) (.string nu) (.slice P0 P1 P2) (.slice PA PN PC)
              obtain ⟨U8, hU8⟩ : ∃ U, put5 wE p8 (.int .i64 op) (.string nm) (.string nu) (.slice P0 P1 P2) (.slice PA PN PC) = U := ⟨_, rfl⟩
              dsimp only at B8
              rw [hU8] at B8 O8 S8 L8 L68
              unfold put5 at hU8
              go_simp
              clear hU8
              refine hKK.out _ _ (by obtain ⟨q0, q1, q2, q3, q4⟩ := CBox.five (((O8 w.heap.size (by omega)).trans (CBox.b HSA.out Bc) : CBox U8 w.heap.size op nm nu ⟨ka, kn, kc⟩ a n c)); exact ⟨q0, q1, q2, q3, q4⟩) (fun hHeld => ?_)
              clear hKK KK
              (try simp only [Act.put, List.setIfInBounds_toArray, List.set_cons_zero, List.set_cons_succ])
              have Z9 : CBox U8 p9 0 ⟨#[]⟩ ⟨#[]⟩ SS.nil none 0 0 := (O8 p9 (fun h => hpw.2.2.1 h.symm)).trans Z9
              refine wpAnyH_ready (rs := [7]) (by kernel_rfl) (by simp) ?_
              refine AllReadyH.cons rfl (fun KK hKK => ?_) ?_
              · obtain ⟨z0, z1, z2, z3, z4⟩ := Z9.five
                obtain ⟨y0, y1, y2, y3, y4⟩ := Z9.free
                dsimp only [SS.nil] at z3
                have B9 := CBox.put Z9 op nm nu ⟨E0, E1, E2⟩ EA EN EC
                have O9 := fun b (hb : b ≠ p9) => put5_other U8 p9 b (.int .i64 op) (.string nm) (.string nu) (.slice E0 E1 E2) (.slice EA EN EC) hb
                have S9 := put5_size U8 p9 (.int .i64 op) (.string nm) (.string nu) (.slice E0 E1 E2) (.slice EA EN EC)
                have L9 := put5_below L8 (show W.heap.size ≤ p9 by have := hz6; omega) (.int .i64 op) (.string nm) (.string nu) (.slice E0 E1 E2) (.slice EA EN EC)
                have L69 := put5_below L68 hpw.2.1 (.int .i64 op) (.string nm) (.string nu) (.slice E0 E1 E2) (.slice EA EN EC)
                obtain ⟨WF, hWF⟩ : ∃ U, put5 U8 p9 (.int .i64 op) (.string nm) (.string nu) (.slice E0 E1 E2) (.slice EA EN EC) = U := ⟨_, rfl⟩
                dsimp only at B9
                rw [hWF] at B9 O9 S9 L9 L69
                unfold put5 at hWF
                go_simp
                clear hWF
                refine hKK.out _ _ (by obtain ⟨q0, q1, q2, q3, q4⟩ := CBox.five (((O9 w.heap.size (by omega)).trans ((O8 w.heap.size (by omega)).trans (CBox.b HSA.out Bc)) : CBox WF w.heap.size op nm nu ⟨ka, kn, kc⟩ a n c)); exact ⟨q0, q1, q2, q3, q4⟩) (fun hHeld => ?_)
                clear hKK KK
                (try simp only [Act.put, List.setIfInBounds_toArray, List.set_cons_zero, List.set_cons_succ])
                refine wpAnyH_done (by kernel_rfl) ?_ _
                refine NoPanic.normal ?_
                have s6 := Bd6.size
                have e8 := Hp8.out
                have e9 := Hp9.out
                have t0 := Hz8.out
                have t1 := Hz9.out
                have sA2 := b_wA.size
                have sE2 := b_wE.size
                have FC : CBox WF w.heap.size op nm nu ⟨ka, kn, kc⟩ a n c := (O9 _ (by omega)).trans ((O8 _ (by omega)).trans (CBox.b HSA.out Bc))
                have F8 : CBox WF p8 op nm nu ⟨P0, P1, P2⟩ PA PN PC := (O9 _ hpw.2.2.1).trans B8
                have keep := fun (V : World) (hb : Below V.heap.size V wE) (b : Nat) (h1 : b < V.heap.size) (h2 : b ≠ p8) (h3 : b ≠ p9) => (O9 b h3).trans ((O8 b h2).trans (hb.block b h1))
                have FA := Lib.hid (ArCP.to (Q := fun b => b < V8.heap.size) (fun b hb => keep wA b_wA b hb.1 (by rcases hb.2 with h | h <;> have := hb.1 <;> omega) (by rcases hb.2 with h | h <;> have := hb.1 <;> omega)) (fun b hb => by have := hb.1; omega) _ HXA.out)
                have FE := Lib.hid (FrC.same t (fun b h1 h2 => keep wE b_wE b h2 (by omega) (by omega)) HXE.out)
                have hio : (p8 < V8.heap.size ∨ wE.heap.size ≤ p8) ∧ w.heap.size < V8.heap.size ∧ wE.heap.size ≤ WF.heap.size ∧ W.heap.size ≤ V8.heap.size ∧ V8.heap.size ≤ wE.heap.size := by omega
                obtain ⟨lo, hlo⟩ : ∃ lo, V8.heap.size = lo := ⟨_, rfl⟩
                obtain ⟨hi, hhi⟩ : ∃ hi, wE.heap.size = hi := ⟨_, rfl⟩
                rw [hlo] at FA FE hio
                rw [hhi] at FE hio
                have l8 := Blk.lt F8
                have FCc := Lib.hid (ArWC.b HAt.out L9)
                have FEr := Lib.hid (FrC.ar (B := WF.heap.size) t hio.2.2.1 FE.out)
                have H8 := Lib.hid F8
                have HFC := Lib.hid FC
                have HL9 := Lib.hid L9
                have Hio := Lib.hid hio
                have L8lt := Lib.hid l8
                obtain ⟨a0, a1, a2, a3, a4⟩ := FC.five
                have HB9 := Lib.hid B9
                obtain ⟨b0, b1, b2, b3, b4⟩ := B9.five
                clear hlo hhi e8 e9 t0 t1 s6 sA2 sE2 HXA HXE Z8 Z9 O8 O9 S8 S9 L8 L68 L69 keep hio l8 F8 FC B8 hpw hzA hzE hz6
                go_wp2_with (first
                  | (go_at_call 14; ((with_reducible refine (cT ⟨E0, E1, E2⟩ ⟨ka, kn, kc⟩ EA EN EC a n c WF FEr.out FCc.out).mono ?_); rintro e w9 ⟨rfl, hb9⟩; have G9 := Lib.hid (FrC.same t (fun b h1 h2 => hb9.block b (by have := Hio.out.2.2.1; omega)) FE.out); have hs9 := hb9.size; have K9 := Lib.hid (CBox.b H8.out hb9); obtain ⟨a0, a1, a2, a3, a4⟩ := (CBox.b HFC.out hb9).five; obtain ⟨b0, b1, b2, b3, b4⟩ := (CBox.b HB9.out hb9).five; have cS := cP ⟨E0, E1, E2⟩ EA EN EC lo hi w9 (by have := Hio.out.2.2.1; omega) G9.out; dsimp only at cS))
                  | (go_at_call 25; ((with_reducible refine cS.mono ?_); rintro e w10 ⟨rfl, hb10, ho10⟩; have k1 := Hio.out; have k2 := L8lt.out; have K10 : CBox w10 p8 op nm nu ⟨P0, P1, P2⟩ PA PN PC := k1.1.elim (fun h => (hb10.block p8 h).trans K9.out) (fun h => (ho10 p8 h (by omega)).trans K9.out); have C10 : CBox w10 w.heap.size op nm nu ⟨ka, kn, kc⟩ a n c := (hb10.block w.heap.size k1.2.1).trans (CBox.b HFC.out hb9); obtain ⟨a0, a1, a2, a3, a4⟩ := C10.five; obtain ⟨d0, d1, d2, d3, d4⟩ := K10.five; have B10 : Below W.heap.size W w10 := (bel_trans HL9.out hb9).trans (hb10.mono k1.2.2.2.1); have s10 := hb10.size; have R10 := Lib.hid (ArCP.ar (B := w10.heap.size) (fun b hb => hb) t (ArCP.to (Q := fun b => b < w10.heap.size) (fun b hb => (hb10.block b hb).trans (hb9.block b (by omega))) (fun b hb => by omega) t FA.out)); have D10 := Lib.hid (ArWC.b HAt.out B10); clear k1 k2 K10 C10))
                  | (go_at_call 14; ((with_reducible refine (cT ⟨ka, kn, kc⟩ ⟨P0, P1, P2⟩ a n c PA PN PC w10 D10.out R10.out).mono ?_); rintro e w11 ⟨rfl, hb11⟩))
                  | (go_at_call 8; ((with_reducible refine (g0 _).mono ?_); rintro e w12 ⟨rfl, hb12⟩)))
                go_ret
                exact ⟨rfl, bel_trans hB (bel_trans (a := W) (bel_trans (a := W) B10 hb11) hb12)⟩
              exact AllReadyH.nil
            exact AllReadyH.nil
          exact AllReadyH.nil
        exact AllReadyH.nil
      refine AllReadyH.cons rfl (fun KK hKK => ?_) ?_
      · obtain ⟨V8, hV8⟩ : ∃ V, V9.alloc (.cells #[.int .i64 0, .string ⟨#[]⟩, .string ⟨#[]⟩, .slice none 0 0, .slice none 0 0] 25) = V := ⟨_, rfl⟩
        obtain ⟨p8, hp8⟩ : ∃ p, V9.heap.size = p := ⟨_, rfl⟩
        have hb8 : Below V9.heap.size V9 V8 := by rw [← hV8]; exact bel_alloc (Below.refl _ _) _
        have hz8 : V8.heap.size = p8 + 1 := by rw [← hV8, ← hp8]; simp
        have Z8 : CBox V8 p8 0 ⟨#[]⟩ ⟨#[]⟩ SS.nil none 0 0 := by rw [← hV8, ← hp8]; exact CBox.new V9 0 ⟨#[]⟩ ⟨#[]⟩ SS.nil none 0 0
        have Hz8 := Lib.hid hz8
        clear hz8
        go_simp
        have Hp8 := Lib.hid hp8
        clear hV8 hp8
        have Bc := bel_trans (a := W) Bc hb8
        have b_w4 := bel_trans (a := w4) b_w4 hb8
        have Z9 := CBox.b Z9 hb8
        refine hKK.out _ _ (by obtain ⟨q0, q1, q2, q3, q4⟩ := CBox.five (CBox.b HSA.out Bc); exact ⟨q0, q1, q2, q3, q4⟩) (fun hHeld => ?_)
        clear hKK KK
        (try simp only [Act.put, List.setIfInBounds_toArray, List.set_cons_zero, List.set_cons_succ])
        refine wpAnyH_ready (rs := [1]) (by kernel_rfl) (by simp) ?_
        refine AllReadyH.cons rfl (fun KK hKK => ?_) ?_
        · go_simp
          (go_at_call 23; ((with_reducible refine (cW _ Bc).mono ?_); rintro e wA ⟨⟨P0, P1, P2⟩, PA, PN, PC, rfl, hX, hb⟩))
          have hzA := hb.size
          have HXA := Lib.hid hX
          clear hX
          have Bc := bel_trans (a := W) Bc hb
          have b_w4 := bel_trans (a := w4) b_w4 hb
          have Z9 := CBox.b Z9 hb
          have Z8 := CBox.b Z8 hb
          have b_wA := Below.refl wA.heap.size wA
          refine hKK.out _ _ (by obtain ⟨q0, q1, q2, q3, q4⟩ := CBox.five (CBox.b HSA.out Bc); exact ⟨q0, q1, q2, q3, q4⟩) (fun hHeld => ?_)
          clear hKK KK
          (try simp only [Act.put, List.setIfInBounds_toArray, List.set_cons_zero, List.set_cons_succ])
          refine wpAnyH_ready (rs := [3]) (by kernel_rfl) (by simp) ?_
          refine AllReadyH.cons rfl (fun KK hKK => ?_) ?_
          · go_simp
            (go_at_call 24; ((with_reducible refine (cC _ Bc).mono ?_); rintro e wE ⟨E0, E1, E2, EA, EN, EC, rfl, hX, hb⟩))
            have hzE := hb.size
            have HXE := Lib.hid hX
            clear hX
            have Bc := bel_trans (a := W) Bc hb
            have b_w4 := bel_trans (a := w4) b_w4 hb
            have b_wA := bel_trans (a := wA) b_wA hb
            have Z9 := CBox.b Z9 hb
            have Z8 := CBox.b Z8 hb
            have b_wE := Below.refl wE.heap.size wE
            refine hKK.out _ _ (by obtain ⟨q0, q1, q2, q3, q4⟩ := CBox.five (CBox.b HSA.out Bc); exact ⟨q0, q1, q2, q3, q4⟩) (fun hHeld => ?_)
            clear hKK KK
            (try simp only [Act.put, List.setIfInBounds_toArray, List.set_cons_zero, List.set_cons_succ])
            refine wpAnyH_ready (rs := [6]) (by kernel_rfl) (by simp) ?_
            refine AllReadyH.cons rfl (fun KK hKK => ?_) ?_
            · obtain ⟨z0, z1, z2, z3, z4⟩ := Z8.five
              obtain ⟨y0, y1, y2, y3, y4⟩ := Z8.free
              dsimp only [SS.nil] at z3
              have B8 := CBox.put Z8 op nm nu ⟨P0, P1, P2⟩ PA PN PC
              have O8 := fun b (hb : b ≠ p8) => put5_other wE p8 b (.int .i64 op) (.string nm) (.string nu) (.slice P0 P1 P2) (.slice PA PN PC) hb
              have S8 := put5_size wE p8 (.int .i64 op) (.string nm) (.string nu) (.slice P0 P1 P2) (.slice PA PN PC)
              have hpw : w4.heap.size ≤ p8 ∧ w4.heap.size ≤ p9 ∧ p8 ≠ p9 ∧ w.heap.size < w4.heap.size := by have e8 := Hp8.out; have e9 := Hp9.out; have s6 := Bd6.size; have t0 := Hz8.out; have t1 := Hz9.out; have t2 := hzA; have t3 := hzE; have t4 := b_w4.size; omega
              have L8 := put5_below Bc (show W.heap.size ≤ p8 by have := hz6; omega) (.int .i64 op) (.string nm) (.string nu) (.slice P0 P1 P2) (.slice PA PN PC)
              have L68 := put5_below b_w4 hpw.1 (.int .i64 op) (.string nm) (.string nu) (.slice P0 P1 P2) (.slice PA PN PC)
              obtain ⟨U8, hU8⟩ : ∃ U, put5 wE p8 (.int .i64 op) (.string nm) (.string nu) (.slice P0 P1 P2) (.slice PA PN PC) = U := ⟨_, rfl⟩
              dsimp only at B8
              rw [hU8] at B8 O8 S8 L8 L68
              unfold put5 at hU8
              go_simp
              clear hU8
              refine hKK.out _ _ (by obtain ⟨q0, q1, q2, q3, q4⟩ := CBox.five (((O8 w.heap.size (by omega)).trans (CBox.b HSA.out Bc) : CBox U8 w.heap.size op nm nu ⟨ka, kn, kc⟩ a n c)); exact ⟨q0, q1, q2, q3, q4⟩) (fun hHeld => ?_)
              clear hKK KK
              (try simp only [Act.put, List.setIfInBounds_toArray, List.set_cons_zero, List.set_cons_succ])
              have Z9 : CBox U8 p9 0 ⟨#[]⟩ ⟨#[]⟩ SS.nil none 0 0 := (O8 p9 (fun h => hpw.2.2.1 h.symm)).trans Z9
              refine wpAnyH_ready (rs := [7]) (by kernel_rfl) (by simp) ?_
              refine AllReadyH.cons rfl (fun KK hKK => ?_) ?_
              · obtain ⟨z0, z1, z2, z3, z4⟩ := Z9.five
                obtain ⟨y0, y1, y2, y3, y4⟩ := Z9.free
                dsimp only [SS.nil] at z3
                have B9 := CBox.put Z9 op nm nu ⟨E0, E1, E2⟩ EA EN EC
                have O9 := fun b (hb : b ≠ p9) => put5_other U8 p9 b (.int .i64 op) (.string nm) (.string nu) (.slice E0 E1 E2) (.slice EA EN EC) hb
                have S9 := put5_size U8 p9 (.int .i64 op) (.string nm) (.string nu) (.slice E0 E1 E2) (.slice EA EN EC)
                have L9 := put5_below L8 (show W.heap.size ≤ p9 by have := hz6; omega) (.int .i64 op) (.string nm) (.string nu) (.slice E0 E1 E2) (.slice EA EN EC)
                have L69 := put5_below L68 hpw.2.1 (.int .i64 op) (.string nm) (.string nu) (.slice E0 E1 E2) (.slice EA EN EC)
                obtain ⟨WF, hWF⟩ : ∃ U, put5 U8 p9 (.int .i64 op) (.string nm) (.string nu) (.slice E0 E1 E2) (.slice EA EN EC) = U := ⟨_, rfl⟩
                dsimp only at B9
                rw [hWF] at B9 O9 S9 L9 L69
                unfold put5 at hWF
                go_simp
                clear hWF
                refine hKK.out _ _ (by obtain ⟨q0, q1, q2, q3, q4⟩ := CBox.five (((O9 w.heap.size (by omega)).trans ((O8 w.heap.size (by omega)).trans (CBox.b HSA.out Bc)) : CBox WF w.heap.size op nm nu ⟨ka, kn, kc⟩ a n c)); exact ⟨q0, q1, q2, q3, q4⟩) (fun hHeld => ?_)
                clear hKK KK
                (try simp only [Act.put, List.setIfInBounds_toArray, List.set_cons_zero, List.set_cons_succ])
                refine wpAnyH_done (by kernel_rfl) ?_ _
                refine NoPanic.normal ?_
                have s6 := Bd6.size
                have e8 := Hp8.out
                have e9 := Hp9.out
                have t0 := Hz8.out
                have t1 := Hz9.out
                have sA2 := b_wA.size
                have sE2 := b_wE.size
                have FC : CBox WF w.heap.size op nm nu ⟨ka, kn, kc⟩ a n c := (O9 _ (by omega)).trans ((O8 _ (by omega)).trans (CBox.b HSA.out Bc))
                have F8 : CBox WF p8 op nm nu ⟨P0, P1, P2⟩ PA PN PC := (O9 _ hpw.2.2.1).trans B8
                have keep := fun (V : World) (hb : Below V.heap.size V wE) (b : Nat) (h1 : b < V.heap.size) (h2 : b ≠ p8) (h3 : b ≠ p9) => (O9 b h3).trans ((O8 b h2).trans (hb.block b h1))
                have FA := Lib.hid (ArCP.to (Q := fun b => b < wA.heap.size) (fun b hb => keep wA b_wA b hb.1 (by rcases hb.2 with h | h <;> have := hb.1 <;> omega) (by rcases hb.2 with h | h <;> have := hb.1 <;> omega)) (fun b hb => by have := hb.1; omega) _ HXA.out)
                have FE := Lib.hid (FrC.same t (fun b h1 h2 => keep wE b_wE b h2 (by omega) (by omega)) HXE.out)
                have hio : (p8 < wA.heap.size ∨ wE.heap.size ≤ p8) ∧ w.heap.size < wA.heap.size ∧ wE.heap.size ≤ WF.heap.size ∧ W.heap.size ≤ wA.heap.size ∧ wA.heap.size ≤ wE.heap.size := by omega
                obtain ⟨lo, hlo⟩ : ∃ lo, wA.heap.size = lo := ⟨_, rfl⟩
                obtain ⟨hi, hhi⟩ : ∃ hi, wE.heap.size = hi := ⟨_, rfl⟩
                rw [hlo] at FA FE hio
                rw [hhi] at FE hio
                have l8 := Blk.lt F8
                have FCc := Lib.hid (ArWC.b HAt.out L9)
                have FEr := Lib.hid (FrC.ar (B := WF.heap.size) t hio.2.2.1 FE.out)
                have H8 := Lib.hid F8
                have HFC := Lib.hid FC
                have HL9 := Lib.hid L9
                have Hio := Lib.hid hio
                have L8lt := Lib.hid l8
                obtain ⟨a0, a1, a2, a3, a4⟩ := FC.five
                have HB9 := Lib.hid B9
                obtain ⟨b0, b1, b2, b3, b4⟩ := B9.five
                clear hlo hhi e8 e9 t0 t1 s6 sA2 sE2 HXA HXE Z8 Z9 O8 O9 S8 S9 L8 L68 L69 keep hio l8 F8 FC B8 hpw hzA hzE hz6
                go_wp2_with (first
                  | (go_at_call 14; ((with_reducible refine (cT ⟨E0, E1, E2⟩ ⟨ka, kn, kc⟩ EA EN EC a n c WF FEr.out FCc.out).mono ?_); rintro e w9 ⟨rfl, hb9⟩; have G9 := Lib.hid (FrC.same t (fun b h1 h2 => hb9.block b (by have := Hio.out.2.2.1; omega)) FE.out); have hs9 := hb9.size; have K9 := Lib.hid (CBox.b H8.out hb9); obtain ⟨a0, a1, a2, a3, a4⟩ := (CBox.b HFC.out hb9).five; obtain ⟨b0, b1, b2, b3, b4⟩ := (CBox.b HB9.out hb9).five; have cS := cP ⟨E0, E1, E2⟩ EA EN EC lo hi w9 (by have := Hio.out.2.2.1; omega) G9.out; dsimp only at cS))
                  | (go_at_call 25; ((with_reducible refine cS.mono ?_); rintro e w10 ⟨rfl, hb10, ho10⟩; have k1 := Hio.out; have k2 := L8lt.out; have K10 : CBox w10 p8 op nm nu ⟨P0, P1, P2⟩ PA PN PC := k1.1.elim (fun h => (hb10.block p8 h).trans K9.out) (fun h => (ho10 p8 h (by omega)).trans K9.out); have C10 : CBox w10 w.heap.size op nm nu ⟨ka, kn, kc⟩ a n c := (hb10.block w.heap.size k1.2.1).trans (CBox.b HFC.out hb9); obtain ⟨a0, a1, a2, a3, a4⟩ := C10.five; obtain ⟨d0, d1, d2, d3, d4⟩ := K10.five; have B10 : Below W.heap.size W w10 := (bel_trans HL9.out hb9).trans (hb10.mono k1.2.2.2.1); have s10 := hb10.size; have R10 := Lib.hid (ArCP.ar (B := w10.heap.size) (fun b hb => hb) t (ArCP.to (Q := fun b => b < w10.heap.size) (fun b hb => (hb10.block b hb).trans (hb9.block b (by omega))) (fun b hb => by omega) t FA.out)); have D10 := Lib.hid (ArWC.b HAt.out B10); clear k1 k2 K10 C10))
                  | (go_at_call 14; ((with_reducible refine (cT ⟨ka, kn, kc⟩ ⟨P0, P1, P2⟩ a n c PA PN PC w10 D10.out R10.out).mono ?_); rintro e w11 ⟨rfl, hb11⟩))
                  | (go_at_call 8; ((with_reducible refine (g0 _).mono ?_); rintro e w12 ⟨rfl, hb12⟩)))
                go_ret
                exact ⟨rfl, bel_trans hB (bel_trans (a := W) (bel_trans (a := W) B10 hb11) hb12)⟩
              exact AllReadyH.nil
            exact AllReadyH.nil
          exact AllReadyH.nil
        exact AllReadyH.nil
      exact AllReadyH.nil
    exact AllReadyH.nil
  · clear HCW HCC hle Htt cT cP
    generalize opC t = op at *
    generalize nmC t = nm at *
    generalize soC t = nu at *
    go_enter Try.func6, Try.ntmps6
    go_wp2_with (first
      | (go_at_call 7; ((with_reducible refine z1.mono ?_); rintro e w4 ⟨rfl, hb4⟩; have Bz := bel_trans (a := W) (Below.refl _ _) hb4))
      | (go_at_call 8; ((with_reducible refine (g0 _).mono ?_); rintro e w9 ⟨rfl, hb9⟩; have By := bel_trans (a := W) (by assumption) hb9)))
    go_ret
    exact ⟨rfl, bel_trans hB By⟩
theorem claimCopies (x : ClV) (w : World) (hx : ArWC w x.t x.k x.a x.n x.c) :
    Calls Try.prog 6 #[x.val] w fun e w' => e = .returned (.bool true) ∧ Below w.heap.size w w' :=
  copiesC x.t x.k x.a x.n x.c w hx
end Go.Proofs.Ytnjcemhfmhiikaa.C
