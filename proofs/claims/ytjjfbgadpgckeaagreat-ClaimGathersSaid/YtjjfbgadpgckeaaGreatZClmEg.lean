/-
  What is proved: the outermost parts of a claim that its signs do not join, as package claim gathers them, where the claim reads below a world ahead.
-/
import Derived.Test.YtjjfbgadpgckeaaGreatC5
import Derived.Test.YtjjfbgadpgckeaaGreatC9
namespace Go.Proofs.YtjjfbgadpgckeaaGreat.C
open Go.RowKit Go.Shelf L T
set_option linter.unusedVariables false
set_option linter.unusedSimpArgs false
attribute [local go_sem] Oper.semAt_some

set_option maxRecDepth 100000 in
set_option maxHeartbeats 8000000 in
theorem ends_in_con_g (p : Int → Bool) (t : Cl) (k : SS) (a : Option Addr) (m c : Nat) (w0 w : World) (h0 : Below w0.heap.size w0 w) (hI : InnOk p 50 #[] w) (hsz : wt t ≤ 1000000) (hA : ArC w0.heap.size w0 t k a m c) :
    CallsIn Fence.wide 6 Tryz.prog 49 #[.agg #[.int .i64 (opC t), .string (nmC t), .string (soC t), .slice k.a k.n k.c, .slice a m c], .func (.func 50) #[] #[]] w fun e w' => ∃ v, e = .returned v ∧ (∃ pts : List (PtC w0.heap.size w0), pts.map PtC.t = allP p t ∧ OwnC w' w.heap.size v (fltC p pts)) ∧ Below w.heap.size w w' := by
  obtain ⟨W1, hW1, hB1, hs1, S1⟩ := cbox1 w (opC t) (nmC t) (soC t) k a m c
  obtain ⟨W2, hW2⟩ : ∃ W2, W1.alloc (.cells #[.func (.func 50) #[] #[]] 31) = W2 := ⟨_, rfl⟩
  have hB2 : Below W1.heap.size W1 W2 := by rw [← hW2]; exact bel_alloc (Below.refl _ _) _
  have hs2 : W2.heap.size = w.heap.size + 2 := by rw [← hW2, World.size_alloc, hs1]
  have I2 : Blk W2 (w.heap.size + 1) #[.func (.func 50) #[] #[]] 31 := by rw [← hW2, ← hs1]; exact Blk.new W1 _ _
  obtain ⟨W3, hW3⟩ : ∃ W3, W2.alloc (.cells #[.slice none 0 0] 23) = W3 := ⟨_, rfl⟩
  have hB3 : Below W2.heap.size W2 W3 := by rw [← hW3]; exact bel_alloc (Below.refl _ _) _
  have hs3 : W3.heap.size = w.heap.size + 3 := by rw [← hW3, World.size_alloc, hs2]
  have R3 : Blk W3 (w.heap.size + 2) #[.slice none 0 0] 23 := by rw [← hW3, ← hs2]; exact Blk.new W2 _ _
  have hB13 := bel_trans (bel_trans hB1 hB2) hB3
  obtain ⟨s0, s1, s2, s3, s4⟩ := (CBox.b (CBox.b S1 hB2) hB3).five
  obtain ⟨W5, hW5, hB5, hs5, A5, F5⟩ := box_allC W3 (opC t) (nmC t) (soC t) k a m c (w.heap.size + 1)
  rw [hs3] at A5 F5 hs5
  have R5 := Blk.below R3 hB5
  have I5 := Blk.below (Blk.below I2 hB3) hB5
  have B5 : Below w.heap.size w W5 := bel_trans hB13 hB5
  have hE5 := ends1_con p  (w.heap.size + 1) W5 I5 (hI.keep (KeepC.of_below B5))
  have hst := allC_stops (5 : Nat) p (w.heap.size + 1) w0.heap.size (w.heap.size + 3) (w.heap.size + 3 + 1) w0 W5 t k a m c hE5 hA (h0.trans (B5.mono h0.size)) (Nat.le_trans h0.size B5.size) A5 F5
  have cAll := tallC_any (opC t) (nmC t) (soC t) k a m c (w.heap.size + 1) W3
  rw [hW5, hs3] at cAll
  have hNN : (allP p t).length ≤ 1000000 := Nat.le_trans (allP_len p t) hsz
  have C5 : ColC (w.heap.size + 2) [] W5 := ⟨_, R5, OwnC.nil _ _, by simp⟩
  clear hA S1 I2 R3 R5 hE5 hsz
  refine callsIn_of_wp_marks Tryz.func49 rfl trivial ?_ rfl
  simp only [Tryz.ntmps49, List.size_toArray, List.length_cons, List.length_nil, Nat.reduceAdd, Nat.reduceSub, Array.replicate_succ, Array.replicate_zero, List.push_toArray, List.append_toArray, List.nil_append, List.cons_append]
  gi_wp2_with (refine ⟨trivial, ?_⟩; gi_at_call 60; refine (callsIn_wide.2 cAll).mono ?_; rintro e w' ⟨rfl, rfl⟩)
  refine wpIn_rangeFunc_ownH rfl (by decide) (gf := 97) (lb := #[.pointer (some ⟨w.heap.size + 3, 0, none⟩), .pointer (some ⟨w.heap.size + 3 + 1, 0, none⟩)]) rfl trivial (enters_of Tryz.func97 (by kernel_rfl) rfl)
    hst KpC.trans (KpC.obj (Nat.le_trans h0.size B5.size)) (Below.refl _ _) (fun _ => rfl)
    (fun pre W => (ColC (w.heap.size + 2) (fltC p pre) W ∧ Blk W (w.heap.size + 1) #[.func (.func 50) #[] #[]] 31) ∧ Below w.heap.size w W)
    (fun cd pre W => False)
    (OwnFrom.and (OwnFrom.and (Own.from (colC_own (w.heap.size + 2) (fltC p)) _) (Own.from (own_blk _ _ _) _)) (ownFrom_below (Nat.le_refl _) B5.size))
    (fun cd _ _ _ _ hs _ _ => hs)
    ⟨⟨C5, I5⟩, B5⟩
    (fun x a2 W => ∃ Bx, CBox W Bx (opC x.t) (nmC x.t) (soC x.t) x.k x.a x.n x.c ∧ a2 = { tmps := #[.agg #[.int .i64 (opC t), .string (nmC t), .string (soC t), .slice k.a k.n k.c, .slice a m c], .func (.func 50) #[] #[], .pointer (some ⟨w.heap.size, 0, none⟩), .pointer (some ⟨w.heap.size + 1, 0, none⟩), .slice none 0 0, .func (.func 87) #[] #[.pointer (some ⟨w.heap.size + 1, 0, none⟩)], .pointer (some ⟨w.heap.size + 2, 0, none⟩), .pointer (some ⟨Bx, 0, none⟩), .func (.func 87) #[] #[.pointer (some ⟨w.heap.size + 1, 0, none⟩)], .agg #[.int .i64 (opC t), .string (nmC t), .string (soC t), .slice k.a k.n k.c, .slice a m c], .func (.func 87) #[] #[.pointer (some ⟨w.heap.size + 1, 0, none⟩)], .func (.func 97) #[] #[.pointer (some ⟨w.heap.size + 3, 0, none⟩), .pointer (some ⟨w.heap.size + 3 + 1, 0, none⟩)], .agg #[.int .i64 (opC x.t), .string (nmC x.t), .string (soC x.t), .slice x.k.a x.k.n x.k.c, .slice x.a x.n x.c], undef, undef, undef, undef, undef, undef, undef, undef, undef, undef, undef], defers := [] })
    (fun x a2 _ X Y row hs hg hr => by obtain ⟨Bx, h2, h3⟩ := hs; exact ⟨Bx, own_blk Bx _ _ () X Y row h2 hg (fun r e => (hr r e).2), h3⟩)
    ?assign ?body ?done ?stop
  case assign =>
    rintro l pre x W K ⟨⟨hC, hF⟩, hB⟩ hK
    have hb : Below W.heap.size W (W.alloc (.cells #[.int .i64 (opC x.t), .string (nmC x.t), .string (soC x.t), .slice x.k.a x.k.n x.k.c, .slice x.a x.n x.c] 25)) := bel_alloc (Below.refl _ _) _
    unfold encC
    gi_wp2
    exact hK _ _ (keepsF hb) (KpC.of_below (Nat.le_trans h0.size hB.size) hb) ⟨⟨hC.below hb, Blk.below hF hb⟩, hB.trans (hb.mono hB.size)⟩ ⟨W.heap.size, CBox.new W _ _ _ _ _ _ _, rfl⟩
  case body =>
    rintro l pre x a2 W hl hr ⟨⟨hC, hF⟩, hB⟩ ⟨Bx, hX, rfl⟩ hlt
    have cI := (hI.keep (KeepC.of_below hB)) x.t x.k x.a x.n x.c W (KeepC.refl _)
    change Calls _ _ #[_] _ _ at cI
    have f0 := Blk.cell hF 0
    obtain ⟨x0, x1, x2, x3, x4⟩ := hX.five
    generalize hb : p (opC x.t) = b at *
    have Hb := Lib.hid hb
    clear hb
    cases b with
    | true =>
      gi_wp2_with (refine ⟨trivial, ?_⟩; gi_at_call 50; refine (CallsIn.inRound l (callsIn_wide.2 cI)).mono ?_; rintro e w5 ⟨rfl, hg5⟩; have hb5 := below_none hg5)
      exact ⟨keepsF hb5, KpC.of_below (Nat.le_trans h0.size hB.size) hb5, ⟨by rw [fltC_yes Hb.out]; exact hC.below hb5, Blk.below hF hb5⟩, hB.trans (hb5.mono hB.size)⟩
    | false =>
      gi_wp2_with (refine ⟨trivial, ?_⟩; gi_at_call 50; refine (CallsIn.inRound l (callsIn_wide.2 cI)).mono ?_; rintro e w5 ⟨rfl, hg5⟩; have hb5 := below_none hg5)
      have hB5 : Below w.heap.size w w5 := hB.trans (hb5.mono hB.size)
      obtain ⟨v, hR, ho, hn⟩ := hC.below hb5
      obtain ⟨hsl, hslE⟩ : ∃ hsl, fltC p pre = hsl := ⟨_, rfl⟩
      have hlN : (fltC p pre).length < 1000000 := by have := fltC_len p pre; omega
      obtain ⟨NL, hNL⟩ : ∃ NL, NL = (fltC p pre).length := ⟨_, rfl⟩
      obtain ⟨gg, cap, A0, c0, W4, hv, hrun, ⟨y0, y1, y2, y3, y4⟩, ⟨z0, z1, z2, z3, z4⟩, ⟨r4, q4⟩, ⟨hg1, hg2⟩, HP⟩ := app_one w5 (w.heap.size + 2) NL v (fltC p pre) (hcP x) hR ho hn hNL.symm (by omega)
      have HF5 := Blk.below hF hb5
      have FX := Lib.hid (show ∀ X, PostA W4 gg (w.heap.size + 2) NL cap (hcP x) X → (∀ B0, KeepsFrom B0 W X) ∧ KpC w0.heap.size W X ∧ ((ColC (w.heap.size + 2) (fltC p (pre ++ [x])) X ∧ Blk X (w.heap.size + 1) #[.func (.func 50) #[] #[]] 31) ∧ Below w.heap.size w X) from fun X hX => by
        obtain ⟨q1, q2, q3, q4⟩ := HP.out X hX
        have hkX := (KeepC.of_below hb5).trans q2
        refine ⟨fun B0 => (keepsF hb5).trans (q1 B0), ⟨q3 _ _ (by have := h0.size; omega) (hb5.mono (Nat.le_trans h0.size hB.size)), hkX⟩, ⟨by rw [fltC_no Hb.out]; exact q4, q2 _ _ _ HF5 (by decide) (fun h => absurd h (by decide))⟩, q3 _ _ (by omega) hB5⟩)
      have F1 := FX.out _ (.inl rfl)
      have F2 := FX.out _ (.inr rfl)
      clear FX
      unfold hcP hcOf set5 at F1 F2
      dsimp only at F1 F2
      obtain ⟨F1a, F1b, F1c⟩ := F1
      obtain ⟨F2a, F2b, F2c⟩ := F2
      have G1 := Lib.hid F1a
      have G2 := Lib.hid F1b
      have G3 := Lib.hid F1c
      have G4 := Lib.hid F2a
      have G5 := Lib.hid F2b
      have G6 := Lib.hid F2c
      clear F1a F1b F1c F2a F2b F2c
      obtain ⟨Wz, hWz⟩ : ∃ Wz, (w5.alloc (.cells #[.int .i64 0, .string ⟨#[]⟩, .string ⟨#[]⟩, .slice none 0 0, .slice none 0 0] 25)).drew = Wz := ⟨_, rfl⟩
      rw [hWz] at hrun
      have hbz : Below w5.heap.size w5 Wz := by rw [← hWz]; exact (bel_alloc (Below.refl _ _) _).drew
      have hX5 := CBox.b hX hb5
      obtain ⟨x05, x15, x25, x35, x45⟩ := hX5.five
      obtain ⟨x0z, x1z, x2z, x3z, x4z⟩ := (CBox.b hX5 hbz).five
      have r05 := Blk.cell hR 0
      have r0z := Blk.cell (Blk.below hR hbz) 0
      subst hv
      have hr22 := hrun 23
      have n1 : NL < 9223372036854775807 := by omega
      have n2 : (NL : Int) < (NL : Int) + 1 := by omega
      clear hX hX5 hR ho hn HP HF5 hC hF hrun cI hslE hNL hlN hB5 hB x0 x1 x2 x3 x4 f0
      gi_wp2
      refine wpIn_region_any (by kernel_rfl) ?_
      try (change wpAnyIn _ _ _ _ _ _ _ _ _ (World.drew _))
      refine (fun (rest : (?R : Prop)) => ?tree) ?tail
      case tree =>
        refine wpAnyIn_ready (rs := [0, 1, 3]) (by kernel_rfl) (by simp) (AllReadyIn.cons rfl (fun K hK => ?_) (AllReadyIn.cons rfl (fun K hK => ?_) (AllReadyIn.cons rfl (fun K hK => ?_) AllReadyIn.nil)))
        · go_simp
          refine hK _ _ ?_
          clear hK K
          refine wpAnyIn_ready (rs := [1, 2, 3]) (by kernel_rfl) (by simp) (AllReadyIn.cons rfl (fun K hK => ?_) (AllReadyIn.cons rfl (fun K hK => ?_) (AllReadyIn.cons rfl (fun K hK => ?_) AllReadyIn.nil)))
          · go_simp
            refine hK _ _ ?_
            clear hK K
            refine wpAnyIn_ready (rs := [2, 3]) (by kernel_rfl) (by simp) (AllReadyIn.cons rfl (fun K hK => ?_) (AllReadyIn.cons rfl (fun K hK => ?_) AllReadyIn.nil))
            · go_simp
              refine hK _ _ ?_
              clear hK K
              refine wpAnyIn_ready (rs := [3]) (by kernel_rfl) (by simp) (AllReadyIn.cons rfl (fun K hK => ?_) AllReadyIn.nil)
              · go_simp
                refine hK _ _ ?_
                clear hK K
                exact rest
            · go_simp
              refine hK _ _ ?_
              clear hK K
              refine wpAnyIn_ready (rs := [2]) (by kernel_rfl) (by simp) (AllReadyIn.cons rfl (fun K hK => ?_) AllReadyIn.nil)
              · go_simp
                refine hK _ _ ?_
                clear hK K
                exact rest
          · go_simp
            refine hK _ _ ?_
            clear hK K
            refine wpAnyIn_ready (rs := [1, 3]) (by kernel_rfl) (by simp) (AllReadyIn.cons rfl (fun K hK => ?_) (AllReadyIn.cons rfl (fun K hK => ?_) AllReadyIn.nil))
            · go_simp
              refine hK _ _ ?_
              clear hK K
              refine wpAnyIn_ready (rs := [3]) (by kernel_rfl) (by simp) (AllReadyIn.cons rfl (fun K hK => ?_) AllReadyIn.nil)
              · go_simp
                refine hK _ _ ?_
                clear hK K
                exact rest
            · go_simp
              refine hK _ _ ?_
              clear hK K
              refine wpAnyIn_ready (rs := [1]) (by kernel_rfl) (by simp) (AllReadyIn.cons rfl (fun K hK => ?_) AllReadyIn.nil)
              · go_simp
                refine hK _ _ ?_
                clear hK K
                exact rest
          · go_simp
            refine hK _ _ ?_
            clear hK K
            refine wpAnyIn_ready (rs := [1, 2]) (by kernel_rfl) (by simp) (AllReadyIn.cons rfl (fun K hK => ?_) (AllReadyIn.cons rfl (fun K hK => ?_) AllReadyIn.nil))
            · go_simp
              refine hK _ _ ?_
              clear hK K
              refine wpAnyIn_ready (rs := [2]) (by kernel_rfl) (by simp) (AllReadyIn.cons rfl (fun K hK => ?_) AllReadyIn.nil)
              · go_simp
                refine hK _ _ ?_
                clear hK K
                exact rest
            · go_simp
              refine hK _ _ ?_
              clear hK K
              refine wpAnyIn_ready (rs := [1]) (by kernel_rfl) (by simp) (AllReadyIn.cons rfl (fun K hK => ?_) AllReadyIn.nil)
              · go_simp
                refine hK _ _ ?_
                clear hK K
                exact rest
        · go_simp
          refine hK _ _ ?_
          clear hK K
          refine wpAnyIn_ready (rs := [0, 3]) (by kernel_rfl) (by simp) (AllReadyIn.cons rfl (fun K hK => ?_) (AllReadyIn.cons rfl (fun K hK => ?_) AllReadyIn.nil))
          · go_simp
            refine hK _ _ ?_
            clear hK K
            refine wpAnyIn_ready (rs := [2, 3]) (by kernel_rfl) (by simp) (AllReadyIn.cons rfl (fun K hK => ?_) (AllReadyIn.cons rfl (fun K hK => ?_) AllReadyIn.nil))
            · go_simp
              refine hK _ _ ?_
              clear hK K
              refine wpAnyIn_ready (rs := [3]) (by kernel_rfl) (by simp) (AllReadyIn.cons rfl (fun K hK => ?_) AllReadyIn.nil)
              · go_simp
                refine hK _ _ ?_
                clear hK K
                exact rest
            · go_simp
              refine hK _ _ ?_
              clear hK K
              refine wpAnyIn_ready (rs := [2]) (by kernel_rfl) (by simp) (AllReadyIn.cons rfl (fun K hK => ?_) AllReadyIn.nil)
              · go_simp
                refine hK _ _ ?_
                clear hK K
                exact rest
          · go_simp
            refine hK _ _ ?_
            clear hK K
            refine wpAnyIn_ready (rs := [0]) (by kernel_rfl) (by simp) (AllReadyIn.cons rfl (fun K hK => ?_) AllReadyIn.nil)
            · go_simp
              refine hK _ _ ?_
              clear hK K
              refine wpAnyIn_ready (rs := [2]) (by kernel_rfl) (by simp) (AllReadyIn.cons rfl (fun K hK => ?_) AllReadyIn.nil)
              · go_simp
                refine hK _ _ ?_
                clear hK K
                exact rest
        · go_simp
          refine hK _ _ ?_
          clear hK K
          refine wpAnyIn_ready (rs := [0, 1]) (by kernel_rfl) (by simp) (AllReadyIn.cons rfl (fun K hK => ?_) (AllReadyIn.cons rfl (fun K hK => ?_) AllReadyIn.nil))
          · go_simp
            refine hK _ _ ?_
            clear hK K
            refine wpAnyIn_ready (rs := [1, 2]) (by kernel_rfl) (by simp) (AllReadyIn.cons rfl (fun K hK => ?_) (AllReadyIn.cons rfl (fun K hK => ?_) AllReadyIn.nil))
            · go_simp
              refine hK _ _ ?_
              clear hK K
              refine wpAnyIn_ready (rs := [2]) (by kernel_rfl) (by simp) (AllReadyIn.cons rfl (fun K hK => ?_) AllReadyIn.nil)
              · go_simp
                refine hK _ _ ?_
                clear hK K
                exact rest
            · go_simp
              refine hK _ _ ?_
              clear hK K
              refine wpAnyIn_ready (rs := [1]) (by kernel_rfl) (by simp) (AllReadyIn.cons rfl (fun K hK => ?_) AllReadyIn.nil)
              · go_simp
                refine hK _ _ ?_
                clear hK K
                exact rest
          · go_simp
            refine hK _ _ ?_
            clear hK K
            refine wpAnyIn_ready (rs := [0]) (by kernel_rfl) (by simp) (AllReadyIn.cons rfl (fun K hK => ?_) AllReadyIn.nil)
            · go_simp
              refine hK _ _ ?_
              clear hK K
              refine wpAnyIn_ready (rs := [2]) (by kernel_rfl) (by simp) (AllReadyIn.cons rfl (fun K hK => ?_) AllReadyIn.nil)
              · go_simp
                refine hK _ _ ?_
                clear hK K
                exact rest
      case tail =>
        refine wpAnyIn_ready (rs := [4]) (by kernel_rfl) (by simp) (AllReadyIn.cons rfl (fun K hK => ?_) AllReadyIn.nil)
        rw [if_pos (show Region.wanted _ _ = true from rfl)]
        unfold Oper.wpIn
        refine ⟨by simp [Oper.about, resolve, Target.leads, Sem.run_pure], ?_⟩
        rw [Oper.semAt_plain _ _ _ (by intro c hc; cases hc)]
        simp [execOp, resolve, invoke, builtin, Act.eval, hr22, Result.andThen, Oper.uponIn]
        refine hK _ _ ?_
        clear hK K
        simp only [Act.put, List.size_toArray, List.length_cons, List.length_nil, List.setIfInBounds_toArray, List.set_cons_succ, List.set_cons_zero]
        refine wpAnyIn_ready (rs := [5, 7]) (by kernel_rfl) (by simp) (AllReadyIn.cons rfl (fun K hK => ?_) (AllReadyIn.cons rfl (fun K hK => ?_) AllReadyIn.nil))
        · go_simp
          refine hK _ _ ?_
          clear hK K
          refine wpAnyIn_ready (rs := [6, 7]) (by kernel_rfl) (by simp) (AllReadyIn.cons rfl (fun K hK => ?_) (AllReadyIn.cons rfl (fun K hK => ?_) AllReadyIn.nil))
          · go_simp
            refine hK _ _ ?_
            clear hK K
            refine wpAnyIn_ready (rs := [7]) (by kernel_rfl) (by simp) (AllReadyIn.cons rfl (fun K hK => ?_) AllReadyIn.nil)
            · go_simp
              refine hK _ _ ?_
              clear hK K
              refine wpAnyIn_done (by kernel_rfl) ?_ _
              (refine And.intro ?_ (And.intro ?_ ?_)) <;> with_reducible (first | exact G1.out _ | exact G4.out _ | exact G2.out | exact G5.out | exact G3.out | exact G6.out)
          · go_simp
            refine hK _ _ ?_
            clear hK K
            refine wpAnyIn_ready (rs := [6]) (by kernel_rfl) (by simp) (AllReadyIn.cons rfl (fun K hK => ?_) AllReadyIn.nil)
            · go_simp
              refine hK _ _ ?_
              clear hK K
              refine wpAnyIn_done (by kernel_rfl) ?_ _
              (refine And.intro ?_ (And.intro ?_ ?_)) <;> with_reducible (first | exact G1.out _ | exact G4.out _ | exact G2.out | exact G5.out | exact G3.out | exact G6.out)
        · go_simp
          refine hK _ _ ?_
          clear hK K
          refine wpAnyIn_ready (rs := [5]) (by kernel_rfl) (by simp) (AllReadyIn.cons rfl (fun K hK => ?_) AllReadyIn.nil)
          · go_simp
            refine hK _ _ ?_
            clear hK K
            refine wpAnyIn_ready (rs := [6]) (by kernel_rfl) (by simp) (AllReadyIn.cons rfl (fun K hK => ?_) AllReadyIn.nil)
            · go_simp
              refine hK _ _ ?_
              clear hK K
              refine wpAnyIn_done (by kernel_rfl) ?_ _
              (refine And.intro ?_ (And.intro ?_ ?_)) <;> with_reducible (first | exact G1.out _ | exact G4.out _ | exact G2.out | exact G5.out | exact G3.out | exact G6.out)
  case done =>
    rintro D zs W hD hS ⟨⟨hC, hF⟩, hB⟩ hK
    obtain ⟨v, hR, ho, hn⟩ := hC
    have c5 := Blk.cell hR 0
    have hbl := belowK_b (w := w) (Nat.le_refl _) W D _ (.deferred none) (Nat.le_trans B5.size hD) hK rfl rfl
    have hrow : OwnC (W.putObj D (.deferred none)) (w.heap.size + 2 + 1) v (fltC p zs) := World.ownsRow.kept ho (grownBy_putObj' W D (.deferred none)) (by
      rcases ho.2 with ⟨rfl, _⟩ | ⟨g0, cap0, cur, rfl, hb0, hg0, _⟩
      · exact .inl rfl
      · refine .inr (fun e => ?_)
        have : g0 = D := by simpa [Value.ownBlock] using e
        subst this
        rw [hg0] at hK; cases hK)
    gi_wp2
    refine ⟨by simp, .inl ⟨_, _, rfl, run_takeDeferred hK, ?_⟩⟩
    exact ⟨_, results_tmp rfl _ _ _, v, rfl, ⟨zs, hS, hrow.base (by omega)⟩, hB.trans hbl⟩
  case stop =>
    rintro D cd pre W hD hS h hK
    exact h.elim
theorem endsHd {p : Int → Bool} {t : Cl} {w0 : World} {pts : List (PtC w0.heap.size w0)} (hm : pts.map PtC.t = allP p t) : HdL w0 (fltC p pts) (endsL p t) := by
  have hl : endsL p t = (pts.filter (fun x => !p (opC x.t))).map PtC.t := by
    unfold endsL
    rw [← hm, List.filter_map]
    rfl
  rw [hl]
  refine ⟨by unfold fltC; simp, fun i h x h1 h2 => ?_⟩
  unfold fltC at h1
  rw [List.getElem?_map] at h1 h2
  obtain ⟨y, hy, rfl⟩ := Option.map_eq_some_iff.1 h1
  rw [hy] at h2
  obtain rfl : y.t = x := by simpa using h2
  exact ⟨⟨rfl, rfl, rfl⟩, y.ok⟩
theorem endsC_g (t : Cl) (k : SS) (a : Option Addr) (m c : Nat) (w0 w : World) (h0 : Below w0.heap.size w0 w) (hsz : wt t ≤ 1000000) (hA : ArC w0.heap.size w0 t k a m c) :
    Calls Tryz.prog 49 #[.agg #[.int .i64 (opC t), .string (nmC t), .string (soC t), .slice k.a k.n k.c, .slice a m c], .func (.func 50) #[] #[]] w fun e w' => ∃ v hs, e = .returned v ∧ OwnC w' w.heap.size v hs ∧ HdL w0 hs (endsL conP t) ∧ Below w.heap.size w w' := by
  refine (callsIn_wide.1 (ends_in_con_g conP t k a m c w0 w h0 (con_ok w) hsz hA)).mono fun e w' => ?_
  rintro ⟨v, rfl, ⟨pts, hm, ho⟩, hb⟩
  exact ⟨v, _, rfl, ho, endsHd hm, hb⟩
end Go.Proofs.YtjjfbgadpgckeaaGreat.C
