/-
  What is proved: package match's Any: the first part that a pattern turns into.
-/
import Derived.Test.YtnodcpifbcabmaaZMtPs
import Derived.Test.YtnodcpifbcabmaaZMtG
import Derived.Test.YtnodcpifbcabmaaZLibIn
namespace Go.Proofs.Ytnodcpifbcabmaa.Mt
open Go.RowKit Go.Shelf L T C B U
set_option linter.unusedVariables false
set_option linter.unusedSimpArgs false
attribute [local go_sem] Oper.semAt_some

theorem any_five (w : World) (o : Int) (s : ByteArray) (z : Int) (a : Option Addr) (n c : Nat) (o' : Int) (s' : ByteArray) (z' : Int) (a' : Option Addr) (n' c' : Nat) :
    ∃ W, ((((w.alloc (.cells #[.int .i64 o, .string s, .int .i64 z, .slice a n c] 24)).alloc (.cells #[.int .i64 o', .string s', .int .i64 z', .slice a' n' c'] 24)).alloc (.cells #[.int .i64 0, .string ⟨#[]⟩, .int .i64 0, .slice none 0 0] 24)).alloc (.cells #[.slice none 0 0] 36)).alloc (.cells #[.bool false] 4) = W ∧ Below w.heap.size w W ∧ W.heap.size = w.heap.size + 5 ∧
    TBox W w.heap.size o s z a n c ∧ TBox W (w.heap.size + 1) o' s' z' a' n' c' ∧ TBox W (w.heap.size + 2) 0 ⟨#[]⟩ 0 none 0 0 ∧ Blk W (w.heap.size + 3) #[.slice none 0 0] 36 ∧ Blk W (w.heap.size + 4) #[.bool false] 4 := by
  obtain ⟨W3, h3, hb3, hs3, S1, S2, S3⟩ := box3 w o s z a n c o' s' z' a' n' c' 0 ⟨#[]⟩ 0 none 0 0
  rw [h3]
  have k4 := Blk.new W3 #[Value.slice none 0 0] 36
  have k5 := Blk.new (W3.alloc (.cells #[Value.slice none 0 0] 36)) #[Value.bool false] 4
  rw [World.size_alloc, hs3] at k5
  rw [hs3] at k4
  exact ⟨_, rfl, bel_alloc (bel_alloc hb3 _) _, by simp [hs3], Blk.alloc (Blk.alloc S1 _) _, Blk.alloc (Blk.alloc S2 _) _, Blk.alloc (Blk.alloc S3 _) _, Blk.alloc k4 _, k5⟩
set_option maxRecDepth 100000 in
set_option maxHeartbeats 32000000 in
theorem Any_in (X : List ByteArray) (p t : Tm) (a : Option Addr) (n c : Nat) (a' : Option Addr) (n' c' : Nat) (aX : Option Addr) (nX cX : Nat) (w : World) (hP : ArW w p a n c) (hsp : smT p) (hzp : size p ≤ 4096) (hT : ArW w t a' n' c') (hzt : size t ≤ 4096) (hX : IsS w aX nX X) (hnX : nX ≤ 1000000) (hsX : ∀ x ∈ X, x.size ≤ maxLen) :
    CallsIn Fence.wide 6 Try.prog 38 #[.agg #[.int .i64 (opT p), .string (nameT p), .int .i64 (numT p), .slice a n c], .agg #[.int .i64 (opT t), .string (nameT t), .int .i64 (numT t), .slice a' n' c'], .slice aX nX cX] w fun e w' => RtAny (pick X p (all t)) w e w' := by
  obtain ⟨W5, hW5, hB5, hs5, SP, ST, R6, R7, R8⟩ := any_five w (opT p) (nameT p) (numT p) a n c (opT t) (nameT t) (numT t) a' n' c'
  have cSet := setOf_any X aX nX cX W5 (hX.below hB5) hnX hsX
  have HSP := Lib.hid SP
  have HST := Lib.hid ST
  have H6 := Lib.hid R6
  have H7 := Lib.hid R7
  have H8 := Lib.hid R8
  have HP := Lib.hid hP
  have HT := Lib.hid hT
  have Hs5 := Lib.hid hs5
  obtain ⟨t0, t1, t2, t3⟩ := ST.four
  clear hP hT hX SP ST R6 R7 R8 hs5
  refine callsIn_of_wp_marks Try.func38 rfl trivial ?_ rfl
  simp only [Try.ntmps38, List.size_toArray, List.length_cons, List.length_nil, Nat.reduceAdd, Nat.reduceSub, Array.replicate_succ, Array.replicate_zero, List.push_toArray, List.append_toArray, List.nil_append, List.cons_append]
  gi_wp2_with (first
    | (refine ⟨trivial, ?_⟩; gi_at_call 71; refine (callsIn_wide.2 cSet).mono ?_; rintro e w1 ⟨rfl, hS1, hb1⟩; have HS1 := Lib.hid hS1; have HB1 := Lib.hid hb1; clear hS1; obtain ⟨W6, hW6⟩ : ∃ W6, w1.alloc (.cells #[.map (some W5.heap.size)] 78) = W6 := ⟨_, rfl⟩; have HV6 := Lib.hid (show Blk W6 w1.heap.size #[.map (some W5.heap.size)] 78 from by rw [← hW6]; exact Blk.new w1 _ _); have HB6 := Lib.hid (show Below W5.heap.size W5 W6 from by rw [← hW6]; exact bel_alloc hb1 _); have HSet := Lib.hid (show SetM W6 W5.heap.size X from HS1.out.b (by rw [← hW6]; exact bel_alloc (Below.refl _ _) _)); obtain ⟨t0, t1, t2, t3⟩ := (TBox.b HST.out HB6.out).four; obtain ⟨W9, hW9, hB9, hs9, I9, F9⟩ := box_all W6 (opT t) (nameT t) (numT t) a' n' c'; have cAll := all_any (opT t) (nameT t) (numT t) a' n' c' W6; rw [hW9] at cAll; have HI9 := Lib.hid I9; have HF9 := Lib.hid F9; clear I9 F9 hs9)
    | (refine ⟨trivial, ?_⟩; gi_at_call 72; refine (callsIn_wide.2 cAll).mono ?_; rintro e wq ⟨rfl, hq⟩; have hq := hq.symm; subst hq))
  have B59 : Below W5.heap.size W5 W9 := bel_trans HB6.out hB9
  have B9 : Below w.heap.size w W9 := bel_trans hB5 B59
  have hst := all_stopsF (fun u => size u ≤ 4096) (5 : Nat) w.heap.size (W6.heap.size + 1) (W6.heap.size + 2) w W9 t a' n' c' HT.out (fun x hx => Nat.le_trans (all_sz t x hx) hzt) B9 B9.size HI9.out HF9.out
  have HI0 := Lib.hid (show Blk W9 w1.heap.size #[.map (some W5.heap.size)] 78 ∧ SetM W9 W5.heap.size X ∧ TBox W9 w.heap.size (opT p) (nameT p) (numT p) a n c ∧ TBox W9 (w.heap.size + 2) 0 ⟨#[]⟩ 0 none 0 0 ∧ Blk W9 (w.heap.size + 3) #[.slice none 0 0] 36 ∧ Blk W9 (w.heap.size + 4) #[.bool false] 4 from ⟨Blk.below HV6.out hB9, HSet.out.b hB9, TBox.b HSP.out B59, TBox.b H6.out B59, Blk.below H7.out B59, Blk.below H8.out B59⟩)
  have hgs : W5.heap.size < W9.heap.size := Nat.lt_of_lt_of_le HS1.out.lt (Nat.le_trans (by rw [← hW6]; simp) hB9.size)
  clear cAll cSet hW9 hW6 hW5 t0 t1 t2 t3
  refine wpIn_rangeFunc_ownH rfl (by decide) (gf := 127) (lb := #[.pointer (some ⟨W6.heap.size + 1, 0, none⟩), .pointer (some ⟨W6.heap.size + 2, 0, none⟩)]) rfl trivial (enters_of Try.func127 (by kernel_rfl) rfl)
    hst KpT.trans (KpT.obj B9.size) (Below.refl _ _) (fun _ => rfl)
    (fun pre W => (pick X p (pre.map PtF.t) = none ∧ (Blk W w1.heap.size #[.map (some W5.heap.size)] 78 ∧ SetM W W5.heap.size X ∧ TBox W w.heap.size (opT p) (nameT p) (numT p) a n c ∧ TBox W (w.heap.size + 2) 0 ⟨#[]⟩ 0 none 0 0 ∧ Blk W (w.heap.size + 3) #[.slice none 0 0] 36 ∧ Blk W (w.heap.size + 4) #[.bool false] 4)) ∧ Below w.heap.size w W)
    (fun cd pre W => (cd = .ret ∧ Found X p w (w.heap.size + 2) (w.heap.size + 3) (w.heap.size + 4) pre W) ∧ Below w.heap.size w W)
    (OwnFrom.and (fun s Y Z row hs hg hr => ⟨hs.1, own_blk _ _ _ () Y Z row hs.2.1 hg (fun r e => (hr r e).2), hs.2.2.1.keep (hg.block _ hs.2.2.1.lt (fun e => by have := (hr _ e.symm).1; omega)), own_blk _ _ _ () Y Z row hs.2.2.2.1 hg (fun r e => (hr r e).2), own_blk _ _ _ () Y Z row hs.2.2.2.2.1 hg (fun r e => (hr r e).2), own_blk _ _ _ () Y Z row hs.2.2.2.2.2.1 hg (fun r e => (hr r e).2), own_blk _ _ _ () Y Z row hs.2.2.2.2.2.2 hg (fun r e => (hr r e).2)⟩) (ownFrom_below (Nat.le_refl _) B9.size))
    (fun cd => OwnFrom.and (fun s Y Z row hs hg hr => ⟨hs.1, hs.2.grown hg (fun r e => (hr r e).2)⟩) (ownFrom_below (Nat.le_refl _) B9.size))
    ⟨⟨rfl, HI0.out⟩, B9⟩
    (fun x a2 W => ∃ Bx, TBox W Bx (opT x.t) (nameT x.t) (numT x.t) x.a x.n x.c ∧ a2 = { tmps := #[.agg #[.int .i64 (opT p), .string (nameT p), .int .i64 (numT p), .slice a n c], .agg #[.int .i64 (opT t), .string (nameT t), .int .i64 (numT t), .slice a' n' c'], .slice aX nX cX, .pointer (some ⟨w.heap.size, 0, none⟩), .pointer (some ⟨w.heap.size + 1, 0, none⟩), undef, .pointer (some ⟨w.heap.size + 2, 0, none⟩), .pointer (some ⟨w.heap.size + 3, 0, none⟩), .pointer (some ⟨w.heap.size + 4, 0, none⟩), .pointer (some ⟨w1.heap.size, 0, none⟩), .pointer (some ⟨Bx, 0, none⟩), undef, .slice aX nX cX, .map (some W5.heap.size), .agg #[.int .i64 (opT t), .string (nameT t), .int .i64 (numT t), .slice a' n' c'], .func (.func 127) #[] #[.pointer (some ⟨W6.heap.size + 1, 0, none⟩), .pointer (some ⟨W6.heap.size + 2, 0, none⟩)], .agg #[.int .i64 (opT x.t), .string (nameT x.t), .int .i64 (numT x.t), .slice x.a x.n x.c], undef, undef, undef, undef, undef, undef, undef, undef, undef, undef, undef, undef, undef, undef, undef, undef, undef], defers := [] })
    (fun x a2 _ Y Z row hs hg hr => by obtain ⟨Bx, h2, h3⟩ := hs; exact ⟨Bx, own_blk Bx _ _ () Y Z row h2 hg (fun r e => (hr r e).2), h3⟩)
    ?assign ?body ?done ?stop
  case assign =>
    rintro l pre x W K ⟨⟨hN, h1, h2, h3, h4, h5, h6⟩, hB⟩ hK
    have hb : Below W.heap.size W (W.alloc (.cells #[.int .i64 (opT x.t), .string (nameT x.t), .int .i64 (numT x.t), .slice x.a x.n x.c] 24)) := bel_alloc (Below.refl _ _) _
    unfold encF
    gi_wp2
    exact hK _ _ (keepsF hb) (KpT.of_below hB.size hb) ⟨⟨hN, Blk.below h1 hb, h2.b hb, TBox.b h3 hb, TBox.b h4 hb, Blk.below h5 hb, Blk.below h6 hb⟩, hB.trans (hb.mono hB.size)⟩ ⟨W.heap.size, TBox.new W _ _ _ _ _ _, rfl⟩
  case body =>
    rintro l pre x a2 W hl hr ⟨⟨hN, h1, h2, h3, h4, h5, h6⟩, hB⟩ ⟨Bx, hX, rfl⟩ hlt
    have hmm := @run_makeMap Try.prog
    obtain ⟨W1, hW1⟩ : ∃ W1, W.alloc (.map #[] 0) = W1 := ⟨_, rfl⟩
    have hbW : Below W.heap.size W W1 := by rw [← hW1]; exact bel_alloc (Below.refl _ _) _
    have hM1 : MapM W.heap.size W1 W.heap.size [] := by rw [← hW1]; exact MapM.made W.heap.size W
    have hzW := Lib.hid (show W.heap.size < W1.heap.size from by rw [← hW1]; simp)
    have hgsW : W5.heap.size < W.heap.size := h2.lt
    have hxz : size x.t ≤ 4096 := x.fact
    have hBd : Below W.heap.size W W1.drew := hbW.drew
    have cMt := matcher_clo W.heap.size X W.heap.size W5.heap.size W1.drew (h2.b hBd) (Nat.ne_of_lt hgsW) hzW.out (Nat.le_refl _)
    have hM1d : MapM W.heap.size W1.drew W.heap.size [] := hM1.b (Nat.le_of_lt hzW.out) (Below.refl _ _).drew
    have cMa := fun (bv bm bo : Nat) (w7 : World) (hb : Below W1.drew.heap.size W1.drew w7) (hC : Ctx W.heap.size X bv bm bo W5.heap.size W.heap.size w7) => match_any X p W.heap.size bv bm bo W5.heap.size W.heap.size [] x.t a n c x.a x.n x.c w7 hC (hM1d.b (Nat.le_of_lt hzW.out) hb) (by simp; omega) hsp hxz (Ar.mono hB.size _ (Ar.bel (hB.trans ((bel_trans hBd hb).mono hB.size)) _ HP.out)) (Ar.mono hB.size _ (Ar.bel (hB.trans ((bel_trans hBd hb).mono hB.size)) _ x.ok))
    have hAx := Lib.hid (show ∀ w', Below W.heap.size W w' → ArW w' x.t x.a x.n x.c from fun w' h => Ar.mono (Nat.le_trans hB.size h.size) _ (Ar.bel (hB.trans (h.mono hB.size)) _ x.ok))
    have cHb := fun (w' : World) (h : Below W.heap.size W w') => hasBound_any x.t x.a x.n x.c w' (hAx.out w' h)
    have HQ := Lib.hid (show ∀ w', Below W.heap.size W w' → w'.cell? ⟨w1.heap.size, 0, none⟩ = some (.map (some W5.heap.size)) ∧ w'.cell? ⟨w.heap.size, 0, none⟩ = some (.int .i64 (opT p)) ∧ w'.cell? ⟨w.heap.size, 1, none⟩ = some (.string (nameT p)) ∧ w'.cell? ⟨w.heap.size, 2, none⟩ = some (.int .i64 (numT p)) ∧ w'.cell? ⟨w.heap.size, 3, none⟩ = some (.slice a n c) ∧ w'.cell? ⟨Bx, 0, none⟩ = some (.int .i64 (opT x.t)) ∧ w'.cell? ⟨Bx, 1, none⟩ = some (.string (nameT x.t)) ∧ w'.cell? ⟨Bx, 2, none⟩ = some (.int .i64 (numT x.t)) ∧ w'.cell? ⟨Bx, 3, none⟩ = some (.slice x.a x.n x.c) from fun w' h => by
      obtain ⟨q0, q1, q2, q3⟩ := (TBox.b h3 h).four
      obtain ⟨r0, r1, r2, r3⟩ := (TBox.b hX h).four
      exact ⟨Blk.cell (Blk.below h1 h) 0, q0, q1, q2, q3, r0, r1, r2, r3⟩)
    have HBoxes := Lib.hid (show ∀ w', Below W.heap.size W w' → (Blk w' w1.heap.size #[.map (some W5.heap.size)] 78 ∧ SetM w' W5.heap.size X ∧ TBox w' w.heap.size (opT p) (nameT p) (numT p) a n c ∧ TBox w' (w.heap.size + 2) 0 ⟨#[]⟩ 0 none 0 0 ∧ Blk w' (w.heap.size + 3) #[.slice none 0 0] 36 ∧ Blk w' (w.heap.size + 4) #[.bool false] 4) ∧ Below w.heap.size w w' from fun w' h => ⟨⟨Blk.below h1 h, h2.b h, TBox.b h3 h, TBox.b h4 h, Blk.below h5 h, Blk.below h6 h⟩, hB.trans (h.mono hB.size)⟩)
    have hN2 := Lib.hid (show pick X p ((pre ++ [x]).map PtF.t) = pickF X p x.t from by rw [List.map_append, List.map_singleton]; exact pick_snoc X p _ _ hN)
    have HBs := Lib.hid hB.size
    have HB := Lib.hid hB
    have Hgd := Lib.hid hBd
    unfold RtM at cMa
    clear h1 h2 h3 h4 h5 h6 hX hN hM1 hM1d hB hst hlt hr hl
    have hgo : Below W1.drew.heap.size W1.drew W1.drew := Below.refl _ _
    cases hR : mat X p [] x.t with
    | none =>
      rw [hR] at cMa
      have hpn : pick X p ((pre ++ [x]).map PtF.t) = none := by
        rw [hN2.out]; unfold pickF; rw [hR]; split <;> rfl
      clear cHb hAx hN2
      gi_wp2
      refine wpIn_region_held (fun w' => w'.cell? ⟨w1.heap.size, 0, none⟩ = some (.map (some W5.heap.size)) ∧ w'.cell? ⟨w.heap.size, 0, none⟩ = some (.int .i64 (opT p)) ∧ w'.cell? ⟨w.heap.size, 1, none⟩ = some (.string (nameT p)) ∧ w'.cell? ⟨w.heap.size, 2, none⟩ = some (.int .i64 (numT p)) ∧ w'.cell? ⟨w.heap.size, 3, none⟩ = some (.slice a n c) ∧ w'.cell? ⟨Bx, 0, none⟩ = some (.int .i64 (opT x.t)) ∧ w'.cell? ⟨Bx, 1, none⟩ = some (.string (nameT x.t)) ∧ w'.cell? ⟨Bx, 2, none⟩ = some (.int .i64 (numT x.t)) ∧ w'.cell? ⟨Bx, 3, none⟩ = some (.slice x.a x.n x.c)) (by kernel_rfl) (by kernel_rfl) (fun ⟨_, _, h⟩ => h) (by exact HQ.out _ Hgd.out) (fun hHeld => ?_)
      refine wpAnyH_take (i := 0) (v := ?_) rfl (by kernel_rfl) (by kernel_rfl) (by kernel_rfl) (fun _ _ _ h => h) (Or.inl ⟨by rfl, ?hy⟩) (by assumption) ?_
      case hy => (intro w hSw; (try dsimp only at hSw); go_simp; try (with_reducible rfl))
      (try simp only [List.getElem_toArray, List.getElem_cons_succ, List.getElem_cons_zero, Act.put, List.setIfInBounds_toArray, List.set_cons_zero, List.set_cons_succ])
      refine wpAnyH_take (i := 1) (v := ?_) rfl (by kernel_rfl) (by kernel_rfl) (by kernel_rfl) (fun _ _ _ h => h) (Or.inl ⟨by rfl, ?hy⟩) (by assumption) ?_
      case hy => (intro w hSw; (try dsimp only at hSw); go_simp; try (with_reducible rfl))
      (try simp only [List.getElem_toArray, List.getElem_cons_succ, List.getElem_cons_zero, Act.put, List.setIfInBounds_toArray, List.set_cons_zero, List.set_cons_succ])
      refine wpAnyH_take (i := 3) (v := ?_) rfl (by kernel_rfl) (by kernel_rfl) (by kernel_rfl) (fun _ _ _ h => h) (Or.inl ⟨by rfl, ?hy⟩) (by assumption) ?_
      case hy => (intro w hSw; (try dsimp only at hSw); go_simp; try (with_reducible rfl))
      (try simp only [List.getElem_toArray, List.getElem_cons_succ, List.getElem_cons_zero, Act.put, List.setIfInBounds_toArray, List.set_cons_zero, List.set_cons_succ])
      refine wpAnyH_take (i := 4) (v := ?_) rfl (by kernel_rfl) (by kernel_rfl) (by kernel_rfl) (fun _ _ _ h => h) (Or.inl ⟨by rfl, ?hy⟩) (by assumption) ?_
      case hy => (intro w hSw; (try dsimp only at hSw); go_simp; try (with_reducible rfl))
      (try simp only [List.getElem_toArray, List.getElem_cons_succ, List.getElem_cons_zero, Act.put, List.setIfInBounds_toArray, List.set_cons_zero, List.set_cons_succ])
      refine wpAnyH_ready (rs := [2]) (by kernel_rfl) (by simp) ?_
      refine AllReadyH.cons rfl (fun KK hKK => ?_) AllReadyH.nil
      go_simp
      (go_at_call 73; ((with_reducible refine cMt.mono ?_); rintro e w7 ⟨rfl, hC7, hb7⟩; have HC7 := Lib.hid (show Ctx W.heap.size X (W1.heap.size + 1) (W1.heap.size + 2) W1.heap.size W5.heap.size W.heap.size w7 from hC7); have Hb7 := Lib.hid hb7; have Bn := bel_trans Hgd.out hb7; clear hC7))
      refine hKK.out _ _ (by exact HQ.out _ Bn) (fun hHeld => ?_)
      clear hKK KK
      (try simp only [List.getElem_toArray, List.getElem_cons_succ, List.getElem_cons_zero, Act.put, List.setIfInBounds_toArray, List.set_cons_zero, List.set_cons_succ])
      refine wpAnyH_ready (rs := [5]) (by kernel_rfl) (by simp) ?_
      refine AllReadyH.cons rfl (fun KK hKK => ?_) AllReadyH.nil
      go_simp
      (go_at_call 116; ((with_reducible refine (cMa _ _ _ _ Hb7.out HC7.out).mono ?_); rintro e w9 ⟨rfl, hm9, hg9⟩; have hz9 : W1.drew.heap.size ≤ w9.heap.size := Nat.le_trans Hb7.out.size hg9.size; have Bn : Below W.heap.size W w9 := Bn.grown hg9 Bn.size (fun q hq => by injection hq with hq; omega); clear hm9))
      refine hKK.out _ _ (by exact HQ.out _ Bn) (fun hHeld => ?_)
      clear hKK KK
      (try simp only [List.getElem_toArray, List.getElem_cons_succ, List.getElem_cons_zero, Act.put, List.setIfInBounds_toArray, List.set_cons_zero, List.set_cons_succ])
      refine wpAnyH_take (i := 6) (v := ?_) rfl (by kernel_rfl) (by kernel_rfl) (by kernel_rfl) (fun _ _ _ h => h) (Or.inl ⟨by rfl, ?hy⟩) (by assumption) ?_
      case hy => (intro w hSw; (try dsimp only at hSw); go_simp; try (with_reducible rfl))
      (try simp only [List.getElem_toArray, List.getElem_cons_succ, List.getElem_cons_zero, Act.put, List.setIfInBounds_toArray, List.set_cons_zero, List.set_cons_succ])
      refine wpAnyH_take (i := 7) (v := undef) rfl (by kernel_rfl) (by kernel_rfl) (by kernel_rfl) (fun _ _ _ h => h) (Or.inr ⟨by rfl, rfl⟩) (by assumption) ?_
      (try simp only [List.getElem_toArray, List.getElem_cons_succ, List.getElem_cons_zero, Act.put, List.setIfInBounds_toArray, List.set_cons_zero, List.set_cons_succ])
      refine wpAnyH_take (i := 8) (v := undef) rfl (by kernel_rfl) (by kernel_rfl) (by kernel_rfl) (fun _ _ _ h => h) (Or.inr ⟨by rfl, rfl⟩) (by assumption) ?_
      (try simp only [List.getElem_toArray, List.getElem_cons_succ, List.getElem_cons_zero, Act.put, List.setIfInBounds_toArray, List.set_cons_zero, List.set_cons_succ])
      refine wpAnyH_take (i := 9) (v := undef) rfl (by kernel_rfl) (by kernel_rfl) (by kernel_rfl) (fun _ _ _ h => h) (Or.inr ⟨by rfl, rfl⟩) (by assumption) ?_
      (try simp only [List.getElem_toArray, List.getElem_cons_succ, List.getElem_cons_zero, Act.put, List.setIfInBounds_toArray, List.set_cons_zero, List.set_cons_succ])
      refine wpAnyH_take (i := 10) (v := ?_) rfl (by kernel_rfl) (by kernel_rfl) (by kernel_rfl) (fun _ _ _ h => h) (Or.inl ⟨by rfl, ?hy⟩) (by assumption) ?_
      case hy => (intro w hSw; (try dsimp only at hSw); go_simp; try (with_reducible rfl))
      (try simp only [List.getElem_toArray, List.getElem_cons_succ, List.getElem_cons_zero, Act.put, List.setIfInBounds_toArray, List.set_cons_zero, List.set_cons_succ])
      (try simp only [List.getElem_toArray, List.getElem_cons_succ, List.getElem_cons_zero, Act.put, List.setIfInBounds_toArray, List.set_cons_zero, List.set_cons_succ])
      refine wpAnyH_done (by kernel_rfl) ?_ _
      gi_wp2
      exact ⟨keepsF Bn, KpT.of_below HBs.out Bn, ⟨hpn, (HBoxes.out _ Bn).1⟩, (HBoxes.out _ Bn).2⟩
    | some l' =>
      rw [hR] at cMa
      cases hbd : bdT x.t with
      | true =>
        have hpn : pick X p ((pre ++ [x]).map PtF.t) = none := by rw [hN2.out]; unfold pickF; rw [if_pos hbd]
        rw [hbd] at cHb
        clear hAx hN2
        gi_wp2
        refine wpIn_region_held (fun w' => w'.cell? ⟨w1.heap.size, 0, none⟩ = some (.map (some W5.heap.size)) ∧ w'.cell? ⟨w.heap.size, 0, none⟩ = some (.int .i64 (opT p)) ∧ w'.cell? ⟨w.heap.size, 1, none⟩ = some (.string (nameT p)) ∧ w'.cell? ⟨w.heap.size, 2, none⟩ = some (.int .i64 (numT p)) ∧ w'.cell? ⟨w.heap.size, 3, none⟩ = some (.slice a n c) ∧ w'.cell? ⟨Bx, 0, none⟩ = some (.int .i64 (opT x.t)) ∧ w'.cell? ⟨Bx, 1, none⟩ = some (.string (nameT x.t)) ∧ w'.cell? ⟨Bx, 2, none⟩ = some (.int .i64 (numT x.t)) ∧ w'.cell? ⟨Bx, 3, none⟩ = some (.slice x.a x.n x.c)) (by kernel_rfl) (by kernel_rfl) (fun ⟨_, _, h⟩ => h) (by exact HQ.out _ Hgd.out) (fun hHeld => ?_)
        refine wpAnyH_take (i := 0) (v := ?_) rfl (by kernel_rfl) (by kernel_rfl) (by kernel_rfl) (fun _ _ _ h => h) (Or.inl ⟨by rfl, ?hy⟩) (by assumption) ?_
        case hy => (intro w hSw; (try dsimp only at hSw); go_simp; try (with_reducible rfl))
        (try simp only [List.getElem_toArray, List.getElem_cons_succ, List.getElem_cons_zero, Act.put, List.setIfInBounds_toArray, List.set_cons_zero, List.set_cons_succ])
        refine wpAnyH_take (i := 1) (v := ?_) rfl (by kernel_rfl) (by kernel_rfl) (by kernel_rfl) (fun _ _ _ h => h) (Or.inl ⟨by rfl, ?hy⟩) (by assumption) ?_
        case hy => (intro w hSw; (try dsimp only at hSw); go_simp; try (with_reducible rfl))
        (try simp only [List.getElem_toArray, List.getElem_cons_succ, List.getElem_cons_zero, Act.put, List.setIfInBounds_toArray, List.set_cons_zero, List.set_cons_succ])
        refine wpAnyH_take (i := 3) (v := ?_) rfl (by kernel_rfl) (by kernel_rfl) (by kernel_rfl) (fun _ _ _ h => h) (Or.inl ⟨by rfl, ?hy⟩) (by assumption) ?_
        case hy => (intro w hSw; (try dsimp only at hSw); go_simp; try (with_reducible rfl))
        (try simp only [List.getElem_toArray, List.getElem_cons_succ, List.getElem_cons_zero, Act.put, List.setIfInBounds_toArray, List.set_cons_zero, List.set_cons_succ])
        refine wpAnyH_take (i := 4) (v := ?_) rfl (by kernel_rfl) (by kernel_rfl) (by kernel_rfl) (fun _ _ _ h => h) (Or.inl ⟨by rfl, ?hy⟩) (by assumption) ?_
        case hy => (intro w hSw; (try dsimp only at hSw); go_simp; try (with_reducible rfl))
        (try simp only [List.getElem_toArray, List.getElem_cons_succ, List.getElem_cons_zero, Act.put, List.setIfInBounds_toArray, List.set_cons_zero, List.set_cons_succ])
        refine wpAnyH_ready (rs := [2]) (by kernel_rfl) (by simp) ?_
        refine AllReadyH.cons rfl (fun KK hKK => ?_) AllReadyH.nil
        go_simp
        (go_at_call 73; ((with_reducible refine cMt.mono ?_); rintro e w7 ⟨rfl, hC7, hb7⟩; have HC7 := Lib.hid (show Ctx W.heap.size X (W1.heap.size + 1) (W1.heap.size + 2) W1.heap.size W5.heap.size W.heap.size w7 from hC7); have Hb7 := Lib.hid hb7; have Bn := bel_trans Hgd.out hb7; clear hC7))
        refine hKK.out _ _ (by exact HQ.out _ Bn) (fun hHeld => ?_)
        clear hKK KK
        (try simp only [List.getElem_toArray, List.getElem_cons_succ, List.getElem_cons_zero, Act.put, List.setIfInBounds_toArray, List.set_cons_zero, List.set_cons_succ])
        refine wpAnyH_ready (rs := [5]) (by kernel_rfl) (by simp) ?_
        refine AllReadyH.cons rfl (fun KK hKK => ?_) AllReadyH.nil
        go_simp
        (go_at_call 116; ((with_reducible refine (cMa _ _ _ _ Hb7.out HC7.out).mono ?_); rintro e w9 ⟨rfl, hm9, hg9⟩; have hz9 : W1.drew.heap.size ≤ w9.heap.size := Nat.le_trans Hb7.out.size hg9.size; have Bn : Below W.heap.size W w9 := Bn.grown hg9 Bn.size (fun q hq => by injection hq with hq; omega); have HM9 := Lib.hid (hm9 _ rfl); clear hm9))
        refine hKK.out _ _ (by exact HQ.out _ Bn) (fun hHeld => ?_)
        clear hKK KK
        (try simp only [List.getElem_toArray, List.getElem_cons_succ, List.getElem_cons_zero, Act.put, List.setIfInBounds_toArray, List.set_cons_zero, List.set_cons_succ])
        refine wpAnyH_take (i := 6) (v := ?_) rfl (by kernel_rfl) (by kernel_rfl) (by kernel_rfl) (fun _ _ _ h => h) (Or.inl ⟨by rfl, ?hy⟩) (by assumption) ?_
        case hy => (intro w hSw; (try dsimp only at hSw); go_simp; try (with_reducible rfl))
        (try simp only [List.getElem_toArray, List.getElem_cons_succ, List.getElem_cons_zero, Act.put, List.setIfInBounds_toArray, List.set_cons_zero, List.set_cons_succ])
        refine wpAnyH_take (i := 7) (v := ?_) rfl (by kernel_rfl) (by kernel_rfl) (by kernel_rfl) (fun _ _ _ h => h) (Or.inl ⟨by rfl, ?hy⟩) (by assumption) ?_
        case hy => (intro w hSw; (try dsimp only at hSw); go_simp; try (with_reducible rfl))
        (try simp only [List.getElem_toArray, List.getElem_cons_succ, List.getElem_cons_zero, Act.put, List.setIfInBounds_toArray, List.set_cons_zero, List.set_cons_succ])
        refine wpAnyH_ready (rs := [8]) (by kernel_rfl) (by simp) ?_
        refine AllReadyH.cons rfl (fun KK hKK => ?_) AllReadyH.nil
        go_simp
        (go_at_call 74; ((with_reducible refine (cHb _ Bn).mono ?_); rintro e w10 ⟨rfl, hb10⟩; have HM9 := Lib.hid (MapM.b HM9.out (Nat.le_trans (Nat.le_of_lt hzW.out) hz9) hb10); have hz9 := Nat.le_trans hz9 hb10.size; have Bn := bel_trans Bn hb10))
        refine hKK.out _ _ (by exact HQ.out _ Bn) (fun hHeld => ?_)
        clear hKK KK
        (try simp only [List.getElem_toArray, List.getElem_cons_succ, List.getElem_cons_zero, Act.put, List.setIfInBounds_toArray, List.set_cons_zero, List.set_cons_succ])
        refine wpAnyH_take (i := 9) (v := ?_) rfl (by kernel_rfl) (by kernel_rfl) (by kernel_rfl) (fun _ _ _ h => h) (Or.inl ⟨by rfl, ?hy⟩) (by assumption) ?_
        case hy => (intro w hSw; (try dsimp only at hSw); go_simp; try (with_reducible rfl))
        (try simp only [List.getElem_toArray, List.getElem_cons_succ, List.getElem_cons_zero, Act.put, List.setIfInBounds_toArray, List.set_cons_zero, List.set_cons_succ])
        refine wpAnyH_take (i := 10) (v := ?_) rfl (by kernel_rfl) (by kernel_rfl) (by kernel_rfl) (fun _ _ _ h => h) (Or.inl ⟨by rfl, ?hy⟩) (by assumption) ?_
        case hy => (intro w hSw; (try dsimp only at hSw); go_simp; try (with_reducible rfl))
        (try simp only [List.getElem_toArray, List.getElem_cons_succ, List.getElem_cons_zero, Act.put, List.setIfInBounds_toArray, List.set_cons_zero, List.set_cons_succ])
        (try simp only [List.getElem_toArray, List.getElem_cons_succ, List.getElem_cons_zero, Act.put, List.setIfInBounds_toArray, List.set_cons_zero, List.set_cons_succ])
        refine wpAnyH_done (by kernel_rfl) ?_ _
        gi_wp2
        exact ⟨keepsF Bn, KpT.of_below HBs.out Bn, ⟨hpn, (HBoxes.out _ Bn).1⟩, (HBoxes.out _ Bn).2⟩
      | false =>
        have hpn : pick X p ((pre ++ [x]).map PtF.t) = some (x.t, l') := by rw [hN2.out]; unfold pickF; rw [if_neg (by rw [hbd]; simp), hR]; rfl
        rw [hbd] at cHb
        have cCp := fun (w' : World) (h : Below W.heap.size W w') => copy_rt x.t x.a x.n x.c w' (by omega) (hAx.out w' h)
        have hgood := mat_good 4096 X p [] x.t l' hR hsp hxz ⟨trivial, fun q hq => by cases hq⟩
        have hlen := mat_len X p [] x.t l' hR
        have cP := fun (w' : World) (hM : MapM W.heap.size w' W.heap.size l') (hbw : W.heap.size ≤ w'.heap.size) => pairs_any l' (rises_pair hgood.1) (fun q hq => ⟨by have := (hgood.2 q hq).1; omega, (hgood.2 q hq).2⟩) W.heap.size W.heap.size w' (by simp at hlen; omega) hM hbw
        have hnz := Lib.hid (mat_nz X p [] x.t l' hR (fun q hq => by cases hq))
        have HFin := Lib.hid (show ∀ (w10 w11 w12 : World) (a3 : Option Addr) (n3 c3 : Nat) (A12 : Option Addr) (C12 : Nat), Below W.heap.size W w10 → Below w10.heap.size w10 w11 → Below w11.heap.size w11 w12 → ArP (Nw 0 0 w10.heap.size w11.heap.size) w11 x.t a3 n3 c3 → UsW w12 A12 l'.length C12 l' →
            KeepsFrom W9.heap.size W (put6 w12 (w.heap.size + 2) (w.heap.size + 3) (w.heap.size + 4) (.int .i64 (opT x.t)) (.string (nameT x.t)) (.int .i64 (numT x.t)) (.slice a3 n3 c3) (.slice A12 l'.length C12) (.bool true)) ∧ (Code.ret = .ret ∧ Found X p w (w.heap.size + 2) (w.heap.size + 3) (w.heap.size + 4) (pre ++ [x]) (put6 w12 (w.heap.size + 2) (w.heap.size + 3) (w.heap.size + 4) (.int .i64 (opT x.t)) (.string (nameT x.t)) (.int .i64 (numT x.t)) (.slice a3 n3 c3) (.slice A12 l'.length C12) (.bool true))) ∧ Below w.heap.size w (put6 w12 (w.heap.size + 2) (w.heap.size + 3) (w.heap.size + 4) (.int .i64 (opT x.t)) (.string (nameT x.t)) (.int .i64 (numT x.t)) (.slice a3 n3 c3) (.slice A12 l'.length C12) (.bool true)) from fun w10 w11 w12 a3 n3 c3 A12 C12 k1 k2 k3 hAp hUp => by
          have k123 := bel_trans (bel_trans k1 k2) k3
          obtain ⟨⟨-, -, -, e6, e7, e8⟩, hbb⟩ := HBoxes.out w12 k123
          obtain ⟨b6, b7, b8⟩ := put6_boxes e6 e7 e8 (by omega) (by omega) (by omega) (opT x.t) (nameT x.t) (numT x.t) a3 n3 c3 (.slice A12 l'.length C12) (.bool true)
          have s5 := Hs5.out
          have s10 := k1.size
          have s11 := k2.size
          have s12 := k3.size
          refine ⟨(keepsF k123).trans (put6_keeps _ w12 _ _ _ _ _ _ _ _ _), ⟨rfl, (x.t, l'), a3, n3, c3, A12, _, C12, hpn, b6, b7, b8, ?_, put6_us e6 e7 e8 (by omega) (by omega) (by omega) hnz.out hUp _ _ _ _ _ _⟩, put6_below hbb (by omega) (by omega) (by omega) _ _ _ _ _ _⟩
          refine ArP.ar (P := fun b => b < w11.heap.size) (fun b hb => by rw [put6_size]; omega) _ (ArP.to (fun b hb => ?_) (fun b hb => by unfold Nw at hb; omega) _ hAp)
          unfold Nw at hb
          exact (put6_other w12 _ _ _ b _ _ _ _ _ _ (by omega) (by omega) (by omega)).trans (k3.block b (by omega)))
        unfold put6 at HFin
        unfold RtT at cCp
        clear hN2 hgood hlen
        gi_wp2
        refine wpIn_region_held (fun w' => w'.cell? ⟨w1.heap.size, 0, none⟩ = some (.map (some W5.heap.size)) ∧ w'.cell? ⟨w.heap.size, 0, none⟩ = some (.int .i64 (opT p)) ∧ w'.cell? ⟨w.heap.size, 1, none⟩ = some (.string (nameT p)) ∧ w'.cell? ⟨w.heap.size, 2, none⟩ = some (.int .i64 (numT p)) ∧ w'.cell? ⟨w.heap.size, 3, none⟩ = some (.slice a n c) ∧ w'.cell? ⟨Bx, 0, none⟩ = some (.int .i64 (opT x.t)) ∧ w'.cell? ⟨Bx, 1, none⟩ = some (.string (nameT x.t)) ∧ w'.cell? ⟨Bx, 2, none⟩ = some (.int .i64 (numT x.t)) ∧ w'.cell? ⟨Bx, 3, none⟩ = some (.slice x.a x.n x.c)) (by kernel_rfl) (by kernel_rfl) (fun ⟨_, _, h⟩ => h) (by exact HQ.out _ Hgd.out) (fun hHeld => ?_)
        refine wpAnyH_take (i := 0) (v := ?_) rfl (by kernel_rfl) (by kernel_rfl) (by kernel_rfl) (fun _ _ _ h => h) (Or.inl ⟨by rfl, ?hy⟩) (by assumption) ?_
        case hy => (intro w hSw; (try dsimp only at hSw); go_simp; try (with_reducible rfl))
        (try simp only [List.getElem_toArray, List.getElem_cons_succ, List.getElem_cons_zero, Act.put, List.setIfInBounds_toArray, List.set_cons_zero, List.set_cons_succ])
        refine wpAnyH_take (i := 1) (v := ?_) rfl (by kernel_rfl) (by kernel_rfl) (by kernel_rfl) (fun _ _ _ h => h) (Or.inl ⟨by rfl, ?hy⟩) (by assumption) ?_
        case hy => (intro w hSw; (try dsimp only at hSw); go_simp; try (with_reducible rfl))
        (try simp only [List.getElem_toArray, List.getElem_cons_succ, List.getElem_cons_zero, Act.put, List.setIfInBounds_toArray, List.set_cons_zero, List.set_cons_succ])
        refine wpAnyH_take (i := 3) (v := ?_) rfl (by kernel_rfl) (by kernel_rfl) (by kernel_rfl) (fun _ _ _ h => h) (Or.inl ⟨by rfl, ?hy⟩) (by assumption) ?_
        case hy => (intro w hSw; (try dsimp only at hSw); go_simp; try (with_reducible rfl))
        (try simp only [List.getElem_toArray, List.getElem_cons_succ, List.getElem_cons_zero, Act.put, List.setIfInBounds_toArray, List.set_cons_zero, List.set_cons_succ])
        refine wpAnyH_take (i := 4) (v := ?_) rfl (by kernel_rfl) (by kernel_rfl) (by kernel_rfl) (fun _ _ _ h => h) (Or.inl ⟨by rfl, ?hy⟩) (by assumption) ?_
        case hy => (intro w hSw; (try dsimp only at hSw); go_simp; try (with_reducible rfl))
        (try simp only [List.getElem_toArray, List.getElem_cons_succ, List.getElem_cons_zero, Act.put, List.setIfInBounds_toArray, List.set_cons_zero, List.set_cons_succ])
        refine wpAnyH_ready (rs := [2]) (by kernel_rfl) (by simp) ?_
        refine AllReadyH.cons rfl (fun KK hKK => ?_) AllReadyH.nil
        go_simp
        (go_at_call 73; ((with_reducible refine cMt.mono ?_); rintro e w7 ⟨rfl, hC7, hb7⟩; have HC7 := Lib.hid (show Ctx W.heap.size X (W1.heap.size + 1) (W1.heap.size + 2) W1.heap.size W5.heap.size W.heap.size w7 from hC7); have Hb7 := Lib.hid hb7; have Bn := bel_trans Hgd.out hb7; clear hC7))
        refine hKK.out _ _ (by exact HQ.out _ Bn) (fun hHeld => ?_)
        clear hKK KK
        (try simp only [List.getElem_toArray, List.getElem_cons_succ, List.getElem_cons_zero, Act.put, List.setIfInBounds_toArray, List.set_cons_zero, List.set_cons_succ])
        refine wpAnyH_ready (rs := [5]) (by kernel_rfl) (by simp) ?_
        refine AllReadyH.cons rfl (fun KK hKK => ?_) AllReadyH.nil
        go_simp
        (go_at_call 116; ((with_reducible refine (cMa _ _ _ _ Hb7.out HC7.out).mono ?_); rintro e w9 ⟨rfl, hm9, hg9⟩; have hz9 : W1.drew.heap.size ≤ w9.heap.size := Nat.le_trans Hb7.out.size hg9.size; have Bn : Below W.heap.size W w9 := Bn.grown hg9 Bn.size (fun q hq => by injection hq with hq; omega); have HM9 := Lib.hid (hm9 _ rfl); clear hm9))
        refine hKK.out _ _ (by exact HQ.out _ Bn) (fun hHeld => ?_)
        clear hKK KK
        (try simp only [List.getElem_toArray, List.getElem_cons_succ, List.getElem_cons_zero, Act.put, List.setIfInBounds_toArray, List.set_cons_zero, List.set_cons_succ])
        refine wpAnyH_take (i := 6) (v := ?_) rfl (by kernel_rfl) (by kernel_rfl) (by kernel_rfl) (fun _ _ _ h => h) (Or.inl ⟨by rfl, ?hy⟩) (by assumption) ?_
        case hy => (intro w hSw; (try dsimp only at hSw); go_simp; try (with_reducible rfl))
        (try simp only [List.getElem_toArray, List.getElem_cons_succ, List.getElem_cons_zero, Act.put, List.setIfInBounds_toArray, List.set_cons_zero, List.set_cons_succ])
        refine wpAnyH_take (i := 7) (v := ?_) rfl (by kernel_rfl) (by kernel_rfl) (by kernel_rfl) (fun _ _ _ h => h) (Or.inl ⟨by rfl, ?hy⟩) (by assumption) ?_
        case hy => (intro w hSw; (try dsimp only at hSw); go_simp; try (with_reducible rfl))
        (try simp only [List.getElem_toArray, List.getElem_cons_succ, List.getElem_cons_zero, Act.put, List.setIfInBounds_toArray, List.set_cons_zero, List.set_cons_succ])
        refine wpAnyH_ready (rs := [8]) (by kernel_rfl) (by simp) ?_
        refine AllReadyH.cons rfl (fun KK hKK => ?_) AllReadyH.nil
        go_simp
        (go_at_call 74; ((with_reducible refine (cHb _ Bn).mono ?_); rintro e w10 ⟨rfl, hb10⟩; have HM9 := Lib.hid (MapM.b HM9.out (Nat.le_trans (Nat.le_of_lt hzW.out) hz9) hb10); have hz9 := Nat.le_trans hz9 hb10.size; have Bn := bel_trans Bn hb10))
        refine hKK.out _ _ (by exact HQ.out _ Bn) (fun hHeld => ?_)
        clear hKK KK
        (try simp only [List.getElem_toArray, List.getElem_cons_succ, List.getElem_cons_zero, Act.put, List.setIfInBounds_toArray, List.set_cons_zero, List.set_cons_succ])
        refine wpAnyH_take (i := 9) (v := ?_) rfl (by kernel_rfl) (by kernel_rfl) (by kernel_rfl) (fun _ _ _ h => h) (Or.inl ⟨by rfl, ?hy⟩) (by assumption) ?_
        case hy => (intro w hSw; (try dsimp only at hSw); go_simp; try (with_reducible rfl))
        (try simp only [List.getElem_toArray, List.getElem_cons_succ, List.getElem_cons_zero, Act.put, List.setIfInBounds_toArray, List.set_cons_zero, List.set_cons_succ])
        refine wpAnyH_take (i := 10) (v := ?_) rfl (by kernel_rfl) (by kernel_rfl) (by kernel_rfl) (fun _ _ _ h => h) (Or.inl ⟨by rfl, ?hy⟩) (by assumption) ?_
        case hy => (intro w hSw; (try dsimp only at hSw); go_simp; try (with_reducible rfl))
        (try simp only [List.getElem_toArray, List.getElem_cons_succ, List.getElem_cons_zero, Act.put, List.setIfInBounds_toArray, List.set_cons_zero, List.set_cons_succ])
        (try simp only [List.getElem_toArray, List.getElem_cons_succ, List.getElem_cons_zero, Act.put, List.setIfInBounds_toArray, List.set_cons_zero, List.set_cons_succ])
        refine wpAnyH_done (by kernel_rfl) ?_ _
        obtain ⟨-, -, -, -, -, x0, x1, x2, x3⟩ := HQ.out _ Bn
        gi_wp2_with (first
          | (refine ⟨trivial, ?_⟩; gi_at_call 53; refine (CallsIn.inRound l (callsIn_wide.2 (cCp _ Bn))).mono ?_; rintro e w11 ⟨a3, n3, c3, rfl, hF11, hb11⟩; have Hw10 := Lib.hid hF11; have HM11 := Lib.hid (MapM.b HM9.out (Nat.le_trans (Nat.le_of_lt hzW.out) hz9) hb11); have B11 := bel_trans Bn hb11; have HB11 := Lib.hid hb11; clear hF11)
          | (refine ⟨trivial, ?_⟩; gi_at_call 75; refine (CallsIn.inRound l (callsIn_wide.2 (cP _ HM11.out B11.size))).mono ?_; rintro e w12 ⟨A12, C12, rfl, hU12, hb12⟩; have HU12 := Lib.hid hU12; have HB12 := Lib.hid hb12; have B12 := bel_trans B11 hb12; obtain ⟨⟨-, -, -, e6, e7, e8⟩, -⟩ := HBoxes.out _ B12; obtain ⟨y0, y1, y2, y3⟩ := e6.four; obtain ⟨f0, f1, f2, f3⟩ := e6.free; have y7 := Blk.cell e7 0; have f7 := Blk.free e7 0; have y8 := Blk.cell e8 0; have f8 := Blk.free e8 0; clear hU12 e6 e7 e8))
        obtain ⟨q1, ⟨-, q2⟩, q3⟩ := HFin.out _ _ _ _ _ _ _ _ Bn HB11.out HB12.out Hw10.out HU12.out
        exact ⟨q1, ⟨rfl, q2⟩, q3⟩
  case done =>
    rintro D zs W hD hS ⟨⟨hN, h1, h2, h3, h4, h5, h6⟩, hB⟩ hK
    rw [hS] at hN
    have hK2 : (put6 W (w.heap.size + 2) (w.heap.size + 3) (w.heap.size + 4) (.int .i64 0) (.string ⟨#[]⟩) (.int .i64 0) (.slice none 0 0) (.slice none 0 0) (.bool false)).heap[D]? = some (.deferred (some [])) := (put6_other W _ _ _ D _ _ _ _ _ _ (blk_ne h4 hK).symm (blk_ne h5 hK).symm (blk_ne h6 hK).symm).trans hK
    obtain ⟨b6, b7, b8⟩ := put6_boxes h4 h5 h6 (by omega) (by omega) (by omega) 0 ⟨#[]⟩ 0 none 0 0 (.slice none 0 0) (.bool false)
    have p6 := blk_put b6 hK2 (.deferred none)
    have p7 := blk_put b7 hK2 (.deferred none)
    have p8 := blk_put b8 hK2 (.deferred none)
    have d0 := Blk.cell p6 0
    have d1 := Blk.cell p6 1
    have d2 := Blk.cell p6 2
    have d3 := Blk.cell p6 3
    have d7 := Blk.cell p7 0
    have d8 := Blk.cell p8 0
    have hB2 := (put6_below hB (g6 := w.heap.size + 2) (g7 := w.heap.size + 3) (g8 := w.heap.size + 4) (by omega) (by omega) (by omega) (.int .i64 0) (.string ⟨#[]⟩) (.int .i64 0) (.slice none 0 0) (.slice none 0 0) (.bool false)).trans (belowK_b (w := w) (Nat.le_refl _) _ D _ (.deferred none) (Nat.le_trans B9.size hD) hK2 rfl rfl)
    unfold put6 at hK2 d0 d1 d2 d3 d7 d8 hB2
    have HB2 := Lib.hid hB2
    obtain ⟨y0, y1, y2, y3⟩ := h4.four
    obtain ⟨f0, f1, f2, f3⟩ := TBox.free h4
    have y7 := Blk.cell h5 0
    have f7 := Blk.free h5 0
    have y8 := Blk.cell h6 0
    have f8 := Blk.free h6 0
    have HN := Lib.hid hN
    clear h1 h2 h3 h4 h5 h6 b6 b7 b8 p6 p7 p8 hst hN
    gi_wp2
    refine ⟨by simp, .inl ⟨_, _, rfl, run_takeDeferred hK2, ?_⟩⟩
    refine ⟨_, by simp [results, Try.results38, go_sem, d0, d1, d2, d3, d7, d8]; rfl, ?_⟩
    rw [HN.out]
    exact ⟨none, 0, 0, none, 0, 0, rfl, by show Ar _ _ (.mk 0 ⟨#[]⟩ 0 []) _ _ _; rw [Ar]; exact ⟨rfl, Nat.le_refl _, Nat.zero_le _, fun _ => rfl, fun h => absurd h (by omega)⟩, UsW.nil _, HB2.out⟩
  case stop =>
    rintro D cd pre W hD hS ⟨⟨rfl, r, a3, n3, c3, A3, N3, C3, hpk, b6, b7, b8, hA3, hU3⟩, hB⟩ hK
    have hpk2 := Lib.hid (pick_pre hS hpk)
    have p6 := blk_put b6 hK (.deferred none)
    have p7 := blk_put b7 hK (.deferred none)
    have p8 := blk_put b8 hK (.deferred none)
    have d0 := Blk.cell p6 0
    have d1 := Blk.cell p6 1
    have d2 := Blk.cell p6 2
    have d3 := Blk.cell p6 3
    have d7 := Blk.cell p7 0
    have d8 := Blk.cell p8 0
    have hg := grownBy_putObj' W D (.deferred none)
    have hr : ∀ r, (some D : Option Nat) = some r → ∃ o : Obj, W.heap[r]? = some o ∧ o.isCells = false := fun r e => by injection e with e; subst e; exact ⟨_, hK, rfl⟩
    have HA := Lib.hid (Ar.cells (cells_grown hg hr) hg.size _ hA3)
    have HU := Lib.hid (IsU.cells (cells_grown hg hr) hg.size hU3)
    have HB2 := Lib.hid (hB.trans (belowK_b (w := w) (Nat.le_refl _) W D _ (.deferred none) (Nat.le_trans B9.size hD) hK rfl rfl))
    clear b6 b7 b8 p6 p7 p8 hA3 hU3 hg hr hpk hS hst
    gi_wp2
    refine ⟨by simp, .inl ⟨_, _, rfl, run_takeDeferred hK, ?_⟩⟩
    refine ⟨_, by simp [results, Try.results38, go_sem, d0, d1, d2, d3, d7, d8]; rfl, ?_⟩
    rw [hpk2.out]
    exact ⟨a3, n3, c3, A3, N3, C3, rfl, HA.out, HU.out, HB2.out⟩
theorem Any_any (X : List ByteArray) (p t : Tm) (a : Option Addr) (n c : Nat) (a' : Option Addr) (n' c' : Nat) (aX : Option Addr) (nX cX : Nat) (w : World) (hP : ArW w p a n c) (hsp : smT p) (hzp : size p ≤ 4096) (hT : ArW w t a' n' c') (hzt : size t ≤ 4096) (hX : IsS w aX nX X) (hnX : nX ≤ 1000000) (hsX : ∀ x ∈ X, x.size ≤ maxLen) :
    Calls Try.prog 38 #[.agg #[.int .i64 (opT p), .string (nameT p), .int .i64 (numT p), .slice a n c], .agg #[.int .i64 (opT t), .string (nameT t), .int .i64 (numT t), .slice a' n' c'], .slice aX nX cX] w fun e w' => RtAny (pick X p (all t)) w e w' :=
  callsIn_wide.1 (Any_in X p t a n c a' n' c' aX nX cX w hP hsp hzp hT hzt hX hnX hsX)
end Go.Proofs.Ytnodcpifbcabmaa.Mt
