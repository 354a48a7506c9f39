/-
  What is proved: a pattern matched with a term of which only what stands at variables is small, as package match does it.
  What is proved: EqualFunc over claims with fits' closure, where only what stands at variables is small.
  What is proved: package match's Claim, where only what stands at variables is small.
  What is proved: package match's More, where only what stands at variables is small.
  What is proved: package match's Term, where only what stands at variables is small.
  What is proved: what is found again of a substitution of few, small pairs (plain mathematics, and the contracts of match at it).
-/
import Derived.Test.YtnhemglpbhnmdaaGreatZMtC
import Derived.Test.YtnhemglpbhnmdaaGreatME
import Derived.Test.YtnhemglpbhnmdaaGreatZMtCf
import Derived.Test.YtnhemglpbhnmdaaGreatMG
import Derived.Deep.RegionHeld3
import Derived.Test.YtnhemglpbhnmdaaGreatZMtMm
namespace Go.Proofs.YtnhemglpbhnmdaaGreat.Mt
open Go.RowKit L T C B U
set_option linter.unusedVariables false
set_option linter.unusedSimpArgs false

mutual
/-- what stands at the variables of a pattern is small -/
def szM (X : List ByteArray) : Tm → Tm → Prop
  | .mk o s _ xs, t => if o = 1 ∧ hasS X s = true then size t ≤ 4096 else szMs X xs (argsT t)
def szMs (X : List ByteArray) : List Tm → List Tm → Prop
  | [], _ => True
  | _ :: _, [] => True
  | x :: xs, u :: us => szM X x u ∧ szMs X xs us
end
theorem szM_mk (X : List ByteArray) (p t : Tm) : szM X p t ↔ (if opT p = 1 ∧ hasS X (nameT p) = true then size t ≤ 4096 else szMs X (argsT p) (argsT t)) := by cases p; rw [szM]; rfl
theorem szM_var {X : List ByteArray} {p t : Tm} (hv : opT p = 1 ∧ hasS X (nameT p) = true) (h : szM X p t) : size t ≤ 4096 := by rw [szM_mk, if_pos hv] at h; exact h
theorem szM_go {X : List ByteArray} {p t : Tm} (hv : ¬ (opT p = 1 ∧ hasS X (nameT p) = true)) (h : szM X p t) : szMs X (argsT p) (argsT t) := by rw [szM_mk, if_neg hv] at h; exact h
theorem szMs_at {X : List ByteArray} : ∀ {xs us : List Tm} {k : Nat} {x u : Tm}, szMs X xs us → xs[k]? = some x → us[k]? = some u → szM X x u
  | [], us, k, x, u, h, h1, h2 => by simp at h1
  | y :: xs, [], k, x, u, h, h1, h2 => by simp at h2
  | y :: xs, v :: us, 0, x, u, h, h1, h2 => by rw [szMs] at h; simp at h1 h2; subst h1 h2; exact h.1
  | y :: xs, v :: us, k + 1, x, u, h, h1, h2 => by rw [szMs] at h; exact szMs_at h.2 (by simpa using h1) (by simpa using h2)
/-- matching, at this pattern -/
def MOkG (X : List ByteArray) (p : Tm) : Prop := ∀ (B bv bm bo gs g : Nat) (l : List Pr) (t : Tm) (a : Option Addr) (n c : Nat) (a' : Option Addr) (n' c' : Nat) (W : World),
  Ctx B X bv bm bo gs g W → MapM B W g l → l.length + size p ≤ 1000000 → smT p → szM X p t → Ar B W p a n c → Ar B W t a' n' c' →
  Calls Tryz.prog 75 #[.agg #[.int .i64 (opT p), .string (nameT p), .int .i64 (numT p), .slice a n c], .agg #[.int .i64 (opT t), .string (nameT t), .int .i64 (numT t), .slice a' n' c'], .pointer (some ⟨bv, 0, none⟩), .pointer (some ⟨bm, 0, none⟩), .pointer (some ⟨bo, 0, none⟩)] W fun e W' => RtM B g W (mat X p l t) e W'

set_option maxRecDepth 100000 in
set_option maxHeartbeats 8000000 in
theorem equal_ofG (X : List ByteArray) (xs : List Tm) (hok : ∀ x ∈ xs, MOkG X x) (B bv bm bo gs g : Nat) (l : List Pr) (us : List Tm) (a : Option Addr) (n c : Nat) (a' : Option Addr) (n' c' : Nat) (W : World) (hlen : n = n')
    (hC : Ctx B X bv bm bo gs g W) (hM : MapM B W g l) (hl : l.length + sizes xs ≤ 1000000) (hsm : smTs xs) (hsz : szMs X xs us) (hA : IsT B W a n c xs) (hA' : IsT B W a' n' c' us) :
    Calls Tryz.prog 72 #[.slice a n c, .slice a' n' c', clo bv bm bo] W fun e W' => RtM B g W (mats X xs l us) e W' := by
  subst hlen
  have hn : n = xs.length := hA.1
  have hn' : n = us.length := hA'.1
  have hn63 : n ≤ 9223372036854775807 := by have h1 := hA.2.1; have h2 := hA.2.2.1; unfold maxLen at h2; omega
  have HC := Lib.hid hC
  have HA := Lib.hid hA
  have HA' := Lib.hid hA'
  have HOk := Lib.hid hok
  have HSm := Lib.hid (show ∀ k x, xs[k]? = some x → smT x from fun k x h => smTs_at hsm h)
  have HSz := Lib.hid (show ∀ k x u, xs[k]? = some x → us[k]? = some u → szM X x u from fun k x u h1 h2 => szMs_at hsz h1 h2)
  have HSx := Lib.hid (show ∀ k x, xs[k]? = some x → size x + sizes (xs.drop (k + 1)) = sizes (xs.drop k) from fun k x h => by rw [drop_t h, sizes])
  have HEnd := Lib.hid (show ∀ lk, mats X (xs.drop n) lk (us.drop n) = some lk from fun lk => by rw [List.drop_eq_nil_of_le (by omega), mats])
  have H0 := Lib.hid (show ∃ lk, MapM B W g lk ∧ mats X (xs.drop 0) lk (us.drop 0) = mats X xs l us ∧ lk.length + sizes (xs.drop 0) ≤ 1000000 from ⟨l, hM, by rw [List.drop_zero, List.drop_zero], by rw [List.drop_zero]; exact hl⟩)
  generalize mats X xs l us = R at *
  clear hC hM hl hsm hsz hA hA' hok hn hn'
  unfold clo
  go_enter Tryz.func72, Tryz.ntmps72
  go_wp2
  go_loopw [17] (fun i wr0 => ∃ (wr : World) (k : Nat), wr = wr0 ∧ k ≤ n ∧ i = .int .i64 k ∧ W.grownBy wr (some g) ∧ Hid (∃ lk, MapM B wr g lk ∧ mats X (xs.drop k) lk (us.drop k) = R ∧ lk.length + sizes (xs.drop k) ≤ 1000000)) (fun i _ => n - (intOf i).toNat)
  case atStart => exact ⟨_, 0, rfl, by omega, rfl, gr_of g (Below.refl _ _), H0⟩
  case round =>
    obtain ⟨wr, k, rfl, hk, rfl, hG, hR⟩ := hrel
    by_cases hlt : k < n
    · have hCr := HC.out.kept hG
      have hBb := gr_b hG HC.out.BW HC.out.Bg
      obtain ⟨bb, o, x, ax, mx, cx, rfl, hb, y0, y1, y2, y3, hx, hokx⟩ := (HA.out.bel hBb).at hlt
      obtain ⟨bb', o', u, au, mu, cu, rfl, hb', z0, z1, z2, z3, hu, hoku⟩ := (HA'.out.bel hBb).at hlt
      obtain ⟨W1, hW1, hB1, hs1, S1⟩ := box1 wr (opT x) (nameT x) (numT x) ax mx cx
      have hbr : bb' < wr.heap.size := Nat.lt_of_lt_of_le hb' hCr.BW
      have v0 := (hB1.cell (p := ⟨bb', _, none⟩) hbr).trans z0
      have v1 := (hB1.cell (p := ⟨bb', _, none⟩) hbr).trans z1
      have v2 := (hB1.cell (p := ⟨bb', _, none⟩) hbr).trans z2
      have v3 := (hB1.cell (p := ⟨bb', _, none⟩) hbr).trans z3
      obtain ⟨W2, hW2, hB12, hs2, T2⟩ := box1 W1 (opT u) (nameT u) (numT u) au mu cu
      have S2 := TBox.b S1 hB12
      have hB2 := bel_trans hB1 hB12
      obtain ⟨s0, s1, s2, s3⟩ := S2.four
      obtain ⟨t0, t1, t2, t3⟩ := T2.four
      obtain ⟨lk, hMk, hRk, hlk⟩ := hR.out
      have hg2 : wr.grownBy W2 (some g) := gr_of g hB2
      have hstep := mats_step (X := X) (l := lk) hx hu
      have hsx := HSx.out k x hx
      have hBr := hCr.BW
      have cM := HOk.out x (List.mem_of_getElem? hx) B bv bm bo gs g lk u ax mx cx au mu cu W2 (hCr.kept hg2) (hMk.b hBr hB2) (by omega) (HSm.out k x hx) (HSz.out k x u hx hu) (Ar.bel (hB2.mono hBr) _ hokx) (Ar.bel (hB2.mono hBr) _ hoku)
      rw [hRk] at hstep
      have hlen1 : ∀ l', mat X x lk u = some l' → l'.length + sizes (xs.drop (k + 1)) ≤ 1000000 := fun l' h => by have := mat_len X x lk u l' h; omega
      have HG2 := Lib.hid (hG.trans hg2)
      have hk0 : 0 ≤ (k : Int) := by omega
      have hk1 : (k : Int) < (n : Int) := by omega
      unfold RtM at cM
      clear hR hMk hRk hlk S1 S2 T2 hs1 hs2 hx hu hokx hoku hCr hBb hsx
      generalize opT x = ox at *
      generalize nameT x = mx' at *
      generalize numT x = zx at *
      generalize opT u = ou at *
      generalize nameT u = mu' at *
      generalize numT u = zu at *
      cases hr : mat X x lk u with
      | none =>
        rw [hr] at cM hstep
        clear hlen1
        have HR : Hid (R = none) := hstep
        clear hstep hr
        go_wp2_with (go_at_call 75; ((with_reducible refine cM.mono ?_); rintro e w5 ⟨rfl, -, hg5⟩))
        go_ret
        exact ⟨by rw [HR.out]; rfl, fun l' h => (by rw [HR.out] at h; cases h), HG2.out.trans hg5⟩
      | some l1 =>
        rw [hr] at cM hstep
        have hl1 := hlen1 l1 hr
        have HR : Hid (mats X (xs.drop (k + 1)) l1 (us.drop (k + 1)) = R) := hstep.symm
        clear hstep hr hlen1
        go_wp2_with (go_at_call 75; ((with_reducible refine cM.mono ?_); rintro e w5 ⟨rfl, hm5, hg5⟩; have HM5 := Lib.hid (hm5 l1 rfl); clear hm5))
        go_roundw
        case rel => exact ⟨_, k + 1, rfl, by omega, by go_num, HG2.out.trans hg5, Lib.hid ⟨l1, HM5.out, HR.out, hl1⟩⟩
        case measure => simp [intOf]; omega
    · obtain rfl : k = n := by omega
      obtain ⟨lk, hMk, hRk, -⟩ := hR.out
      rw [HEnd.out lk] at hRk
      have HR := Lib.hid hRk
      have HMk := Lib.hid hMk
      clear hR hMk hRk
      go_wp2
      go_ret
      exact ⟨by rw [← HR.out]; rfl, fun l' h => (by rw [← HR.out] at h; injection h with h; subst h; exact HMk.out), hG⟩
set_option maxRecDepth 100000 in
set_option maxHeartbeats 32000000 in
theorem mat_stepG (X : List ByteArray) (p : Tm) (hok : ∀ x ∈ argsT p, MOkG X x) : MOkG X p := by
  intro B bv bm bo gs g l t a n c a' n' c' W hC hM hl hsm hsz hA hA'
  obtain ⟨W2, hW2, hB2, hs2, S2, T2⟩ := box2 W (opT p) (nameT p) (numT p) a n c (opT t) (nameT t) (numT t) a' n' c'
  have hg2 : W.grownBy W2 (some g) := gr_of g hB2
  have hC2 := hC.kept hg2
  have hM2 := hM.b hC.BW hB2
  have hIx : IsT B W2 a n c (argsT p) := (ar_isT.1 hA).bel (hB2.mono hC.BW)
  have hIu : IsT B W2 a' n' c' (argsT t) := (ar_isT.1 hA').bel (hB2.mono hC.BW)
  have hArt := Ar.bel (hB2.mono hC.BW) _ hA'
  have hszp : size p = 1 + sizes (argsT p) := by cases p; rw [size]; rfl
  have hszt : size t = 1 + sizes (argsT t) := by cases t; rw [size]; rfl
  have hnm := smT_name hsm
  have cEq := fun (h : n = n') (hz : szMs X (argsT p) (argsT t)) => equal_ofG X (argsT p) hok B bv bm bo gs g l (argsT t) a n c a' n' c' W2 h hC2 hM2 (by omega) (smT_args hsm) hz hIx hIu
  have cNe := fun (h : n ≠ n') => equal_ne a n c a' n' c' (clo bv bm bo) W2 h (isT_bound hIx) (isT_bound hIu)
  have hlx : n = (argsT p).length := hIx.1
  have hlu : n' = (argsT t).length := hIu.1
  have hask := hC2.hs.ask (nameT p) hnm
  have HMt := Lib.hid (mat_mk X p l t)
  have v0 := Blk.cell hC2.hv 0
  have m0 := Blk.cell hC2.hm 0
  have o0 := Blk.cell hC2.ho 0
  have HM2 := Lib.hid hM2
  have HC2 := Lib.hid hC2
  have HW2 := Lib.hid (show Below W.heap.size W W2 from hB2)
  have HG2 := Lib.hid hg2
  have HS2 := Lib.hid S2
  have HT2 := Lib.hid T2
  have HAt := Lib.hid hArt
  have hgl : g < W.heap.size := hC.gl
  have hBW : B ≤ W.heap.size := hC.BW
  have hBg : B ≤ g := hC.Bg
  have HLen := Lib.hid (show l.length < maxLen from by have := size_pos p; unfold maxLen; omega)
  obtain ⟨s0, s1, s2, s3⟩ := S2.four
  obtain ⟨t0, t1, t2, t3⟩ := T2.four
  have hN : numT p = numT p := rfl
  clear hC hM hok hsm hA hA' hC2 hM2 hIx hIu hArt S2 T2 hs2 hg2 hszp hszt hl
  unfold RtM
  by_cases hv : opT p = 1 ∧ hasS X (nameT p) = true
  · have hsz := szM_var hv hsz
    obtain ⟨ho, hh⟩ := hv
    rw [hh] at hask
    rw [if_pos ⟨ho, hh⟩] at HMt
    clear cEq cNe m0 hlx hlu
    cases hg : getU l (nameT p) with
    | some u =>
      obtain ⟨au, nu, cu, hrun, hAu⟩ := HM2.out.find (nameT p) hnm u hg
      rw [hg] at HMt
      obtain ⟨W3, hW3, hB3, hs3, U3⟩ := box1 W2 (opT u) (nameT u) (numT u) au nu cu
      have cS := Same_any u t au nu cu a' n' c' W3 (Ar.mono (Nat.le_trans hBW (Nat.le_trans hB2.size hB3.size)) _ (Ar.bel (hB3.mono (Nat.le_trans hBW hB2.size)) _ hAu)) (Ar.mono (Nat.le_trans hBW (Nat.le_trans hB2.size hB3.size)) _ (Ar.bel (hB3.mono (Nat.le_trans hBW hB2.size)) _ HAt.out))
      obtain ⟨u0, u1, u2, u3⟩ := U3.four
      obtain ⟨t0, t1, t2, t3⟩ := (TBox.b HT2.out hB3).four
      have HM3 := Lib.hid (HM2.out.b (Nat.le_trans hBW hB2.size) hB3)
      have HG3 := Lib.hid (HG2.out.trans (gr_of g hB3))
      have hB23 : B ≤ W3.heap.size := Nat.le_trans hBW (Nat.le_trans hB2.size hB3.size)
      clear hAu hs3 U3 hg
      generalize hQ : eqT u t = Q at *
      generalize opT u = ou at *
      generalize nameT u = mu' at *
      generalize numT u = zu at *
      generalize opT p = op at *
      generalize nameT p = nm at *
      generalize numT p = zp at *
      generalize opT t = ot at *
      generalize nameT t = nt at *
      generalize numT t = zt at *
      subst ho
      have HQ := Lib.hid hQ
      clear hQ
      generalize mat X p l t = R at *
      go_enter Tryz.func75, Tryz.ntmps75
      go_wp2_with (go_at_call 76; ((with_reducible refine cS.mono ?_); rintro e w5 ⟨rfl, hb5⟩))
      go_ret
      cases Q with
      | true =>
        have hR : R = some l := by have h := HMt.out; rw [HQ.out] at h; simpa using h
        exact ⟨by rw [hR]; rfl, fun l' h => (by rw [hR] at h; injection h with h; subst h; exact HM3.out.b hB23 hb5), HG3.out.trans (gr_of g hb5)⟩
      | false =>
        have hR : R = none := by have h := HMt.out; rw [HQ.out] at h; simpa using h
        exact ⟨by rw [hR]; rfl, fun l' h => (by rw [hR] at h; cases h), HG3.out.trans (gr_of g hb5)⟩
    | none =>
      have hrun := HM2.out.miss (nameT p) hnm hg
      rw [hg] at HMt
      obtain ⟨W3, hW3, hB3, hs3, U3⟩ := box1 W2 0 ⟨#[]⟩ 0 none 0 0
      have hB23 : B ≤ W3.heap.size := Nat.le_trans hBW (Nat.le_trans hB2.size hB3.size)
      obtain ⟨W4, hrun4, hM4, hg4, hb4⟩ := (HM2.out.b (Nat.le_trans hBW hB2.size) hB3).put hBg hB23 HLen.out ⟨nameT p, t⟩ a' n' c' hnm (Ar.bel (hB3.mono (Nat.le_trans hBW hB2.size)) _ HAt.out)
      have hT3 := TBox.b HT2.out hB3
      have hT4 : TBox W4 (W.heap.size + 1) (opT t) (nameT t) (numT t) a' n' c' := Blk.grown hT3 hg4 (fun e => by injection e with e; omega)
      have hA4 := Ar.bel hb4 _ (Ar.bel (hB3.mono (Nat.le_trans hBW hB2.size)) _ HAt.out)
      have cY := may_any t a' n' c' W4 hsz (Ar.mono (Nat.le_trans hB23 hg4.size) _ hA4)
      have hS3 := TBox.b HS2.out hB3
      obtain ⟨s0, s1, s2, s3⟩ := hS3.four
      obtain ⟨t0, t1, t2, t3⟩ := hT3.four
      obtain ⟨q0, q1, q2, q3⟩ := hT4.four
      have o3 := Blk.cell (Blk.below HC2.out.ho hB3) 0
      have HM4 := Lib.hid (hM4.congr (m := putL l ⟨nameT p, t⟩) (fun s => putL_front hg s) (by rw [putL_len]; exact Nat.le_refl _))
      have HG4 := Lib.hid ((HG2.out.trans (gr_of g hB3)).trans hg4)
      have hB4 : B ≤ W4.heap.size := Nat.le_trans hB23 hg4.size
      have HP := Lib.hid (show (⟨nameT p, t⟩ : Pr).nm = nameT p from rfl)
      dsimp only at hrun4
      clear hs3 U3 hg hM4 hg4 hb4 hT3 hT4 hA4 hS3
      generalize hQ : mayT t = Q at *
      generalize hY : putL l ⟨nameT p, t⟩ = Y at *
      clear hY HP
      generalize opT p = op at *
      generalize nameT p = nm at *
      generalize numT p = zp at *
      generalize opT t = ot at *
      generalize nameT t = nt at *
      generalize numT t = zt at *
      subst ho
      subst hW3
      clear hQ
      generalize mat X p l t = R at *
      go_enter Tryz.func75, Tryz.ntmps75
      go_wp2_with (go_at_call 77; ((with_reducible refine cY.mono ?_); rintro e w5 ⟨rfl, hb5⟩))
      go_ret
      cases Q with
      | true =>
        have hR : R = some Y := HMt.out
        exact ⟨by rw [hR]; rfl, fun l' h => (by rw [hR] at h; injection h with h; subst h; exact HM4.out.b hB4 hb5), HG4.out.trans (gr_of g hb5)⟩
      | false =>
        have hR : R = none := HMt.out
        exact ⟨by rw [hR]; rfl, fun l' h => (by rw [hR] at h; cases h), HG4.out.trans (gr_of g hb5)⟩
  · have HSzs := Lib.hid (szM_go hv hsz)
    clear hsz
    rw [if_neg hv] at HMt
    by_cases ho : opT p = 1
    · have hh : hasS X (nameT p) = false := by
        cases h : hasS X (nameT p) with
        | false => rfl
        | true => exact absurd ⟨ho, h⟩ hv
      rw [hh] at hask
      clear hv hh
      by_cases c1 : opT p = opT t
      · by_cases c2 : nameT p = nameT t
        · by_cases c3 : numT p = numT t
          · by_cases c4 : n = n'
            · subst c4
              rw [if_pos ⟨c1, c2, c3, by rw [← hlx, ← hlu]⟩] at HMt
              have cE := cEq rfl HSzs.out
              unfold clo at cE m0
              unfold RtM at cE
              clear cEq cNe hlx hlu
              generalize mats X (argsT p) l (argsT t) = Rm at *
              generalize opT p = op at *
              generalize nameT p = nm at *
              generalize numT p = zp at *
              generalize opT t = ot at *
              generalize nameT t = nt at *
              generalize numT t = zt at *
              generalize mat X p l t = R at *
              subst ho
              obtain rfl := c1
              subst c2
              subst c3
              go_enter Tryz.func75, Tryz.ntmps75
              go_wp2_with (go_at_call 72; ((with_reducible refine cE.mono ?_); rintro e w5 ⟨rfl, hm5, hg5⟩))
              go_ret
              exact ⟨by rw [HMt.out]; rfl, fun l' h => hm5 l' (by rw [← HMt.out]; exact h), HG2.out.trans hg5⟩
            · rw [if_neg (fun h => c4 (by rw [hlx, hlu]; exact h.2.2.2))] at HMt
              have cE := cNe c4
              unfold clo at cE m0
              clear cEq cNe hlx hlu
              generalize opT p = op at *
              generalize nameT p = nm at *
              generalize numT p = zp at *
              generalize opT t = ot at *
              generalize nameT t = nt at *
              generalize numT t = zt at *
              generalize mat X p l t = R at *
              subst ho
              obtain rfl := c1
              subst c2
              subst c3
              go_enter Tryz.func75, Tryz.ntmps75
              go_wp2_with (go_at_call 72; ((with_reducible refine cE.mono ?_); rintro e w5 ⟨rfl, hw5⟩))
              go_ret
              exact ⟨by rw [HMt.out]; rfl, fun l' h => (by rw [HMt.out] at h; cases h), (by first | exact HG2.out | (rw [hw5]; exact HG2.out))⟩
          · rw [if_neg (fun h => c3 h.2.2.1)] at HMt
            clear cEq cNe hlx hlu
            generalize opT p = op at *
            generalize nameT p = nm at *
            generalize numT p = zp at *
            generalize opT t = ot at *
            generalize nameT t = nt at *
            generalize numT t = zt at *
            generalize mat X p l t = R at *
            subst ho
            obtain rfl := c1
            subst c2
            go_enter Tryz.func75, Tryz.ntmps75
            go_wp2
            go_ret
            exact ⟨by rw [HMt.out]; rfl, fun l' h => (by rw [HMt.out] at h; cases h), HG2.out⟩
        · rw [if_neg (fun h => c2 h.2.1)] at HMt
          clear cEq cNe hlx hlu
          generalize opT p = op at *
          generalize nameT p = nm at *
          generalize numT p = zp at *
          generalize opT t = ot at *
          generalize nameT t = nt at *
          generalize numT t = zt at *
          generalize mat X p l t = R at *
          subst ho
          obtain rfl := c1
          have d1 : (nm.toList == nt.toList) = false := by cases h : nm.toList == nt.toList with | false => rfl | true => exact absurd (eqS_iff.1 h) c2
          have d2 : (nm.toList = nt.toList) = False := by simpa using d1
          go_enter Tryz.func75, Tryz.ntmps75
          go_wp2
          go_ret
          exact ⟨by rw [HMt.out]; rfl, fun l' h => (by rw [HMt.out] at h; cases h), HG2.out⟩
      · rw [if_neg (fun h => c1 h.1)] at HMt
        clear cEq cNe hlx hlu
        generalize opT p = op at *
        generalize nameT p = nm at *
        generalize numT p = zp at *
        generalize opT t = ot at *
        generalize nameT t = nt at *
        generalize numT t = zt at *
        generalize mat X p l t = R at *
        subst ho
        go_enter Tryz.func75, Tryz.ntmps75
        go_wp2
        go_ret
        exact ⟨by rw [HMt.out]; rfl, fun l' h => (by rw [HMt.out] at h; cases h), HG2.out⟩
    · clear hv hask
      by_cases c1 : opT p = opT t
      · by_cases c2 : nameT p = nameT t
        · by_cases c3 : numT p = numT t
          · by_cases c4 : n = n'
            · subst c4
              rw [if_pos ⟨c1, c2, c3, by rw [← hlx, ← hlu]⟩] at HMt
              have cE := cEq rfl HSzs.out
              unfold clo at cE m0
              unfold RtM at cE
              clear cEq cNe hlx hlu
              generalize mats X (argsT p) l (argsT t) = Rm at *
              generalize opT p = op at *
              generalize nameT p = nm at *
              generalize numT p = zp at *
              generalize opT t = ot at *
              generalize nameT t = nt at *
              generalize numT t = zt at *
              generalize mat X p l t = R at *
              obtain rfl := c1
              subst c2
              subst c3
              go_enter Tryz.func75, Tryz.ntmps75
              go_wp2_with (go_at_call 72; ((with_reducible refine cE.mono ?_); rintro e w5 ⟨rfl, hm5, hg5⟩))
              go_ret
              exact ⟨by rw [HMt.out]; rfl, fun l' h => hm5 l' (by rw [← HMt.out]; exact h), HG2.out.trans hg5⟩
            · rw [if_neg (fun h => c4 (by rw [hlx, hlu]; exact h.2.2.2))] at HMt
              have cE := cNe c4
              unfold clo at cE m0
              clear cEq cNe hlx hlu
              generalize opT p = op at *
              generalize nameT p = nm at *
              generalize numT p = zp at *
              generalize opT t = ot at *
              generalize nameT t = nt at *
              generalize numT t = zt at *
              generalize mat X p l t = R at *
              obtain rfl := c1
              subst c2
              subst c3
              go_enter Tryz.func75, Tryz.ntmps75
              go_wp2_with (go_at_call 72; ((with_reducible refine cE.mono ?_); rintro e w5 ⟨rfl, hw5⟩))
              go_ret
              exact ⟨by rw [HMt.out]; rfl, fun l' h => (by rw [HMt.out] at h; cases h), (by first | exact HG2.out | (rw [hw5]; exact HG2.out))⟩
          · rw [if_neg (fun h => c3 h.2.2.1)] at HMt
            clear cEq cNe hlx hlu
            generalize opT p = op at *
            generalize nameT p = nm at *
            generalize numT p = zp at *
            generalize opT t = ot at *
            generalize nameT t = nt at *
            generalize numT t = zt at *
            generalize mat X p l t = R at *
            obtain rfl := c1
            subst c2
            go_enter Tryz.func75, Tryz.ntmps75
            go_wp2
            go_ret
            exact ⟨by rw [HMt.out]; rfl, fun l' h => (by rw [HMt.out] at h; cases h), HG2.out⟩
        · rw [if_neg (fun h => c2 h.2.1)] at HMt
          clear cEq cNe hlx hlu
          generalize opT p = op at *
          generalize nameT p = nm at *
          generalize numT p = zp at *
          generalize opT t = ot at *
          generalize nameT t = nt at *
          generalize numT t = zt at *
          generalize mat X p l t = R at *
          obtain rfl := c1
          have d1 : (nm.toList == nt.toList) = false := by cases h : nm.toList == nt.toList with | false => rfl | true => exact absurd (eqS_iff.1 h) c2
          have d2 : (nm.toList = nt.toList) = False := by simpa using d1
          go_enter Tryz.func75, Tryz.ntmps75
          go_wp2
          go_ret
          exact ⟨by rw [HMt.out]; rfl, fun l' h => (by rw [HMt.out] at h; cases h), HG2.out⟩
      · rw [if_neg (fun h => c1 h.1)] at HMt
        clear cEq cNe hlx hlu
        generalize opT p = op at *
        generalize nameT p = nm at *
        generalize numT p = zp at *
        generalize opT t = ot at *
        generalize nameT t = nt at *
        generalize numT t = zt at *
        generalize mat X p l t = R at *
        go_enter Tryz.func75, Tryz.ntmps75
        go_wp2
        go_ret
        exact ⟨by rw [HMt.out]; rfl, fun l' h => (by rw [HMt.out] at h; cases h), HG2.out⟩
theorem match_anyG (X : List ByteArray) (p : Tm) : MOkG X p := Tm.ind (mat_stepG X) p
end Go.Proofs.YtnhemglpbhnmdaaGreat.Mt
namespace Go.Proofs.YtnhemglpbhnmdaaGreat.Mt
open Go.RowKit L T C B U
set_option linter.unusedVariables false
set_option linter.unusedSimpArgs false

mutual
/-- what stands at the variables of a claim's terms is small -/
def szMC (X : List ByteArray) : Cl → Cl → Prop
  | .mk _ _ _ ts cs, c => szMs X ts (tsC c) ∧ szMCs X cs (subC c)
def szMCs (X : List ByteArray) : List Cl → List Cl → Prop
  | [], _ => True
  | _ :: _, [] => True
  | x :: xs, u :: us => szMC X x u ∧ szMCs X xs us
end
theorem szMC_mk (X : List ByteArray) (p t : Cl) : szMC X p t ↔ szMs X (tsC p) (tsC t) ∧ szMCs X (subC p) (subC t) := by cases p; rw [szMC]; rfl
theorem szMCs_at {X : List ByteArray} : ∀ {xs us : List Cl} {k : Nat} {x u : Cl}, szMCs X xs us → xs[k]? = some x → us[k]? = some u → szMC X x u
  | [], us, k, x, u, h, h1, h2 => by simp at h1
  | y :: xs, [], k, x, u, h, h1, h2 => by simp at h2
  | y :: xs, v :: us, 0, x, u, h, h1, h2 => by rw [szMCs] at h; simp at h1 h2; subst h1 h2; exact h.1
  | y :: xs, v :: us, k + 1, x, u, h, h1, h2 => by rw [szMCs] at h; exact szMCs_at h.2 (by simpa using h1) (by simpa using h2)
def GcOkG (X : List ByteArray) (p : Cl) : Prop := ∀ (B bv bm bo gs g bx : Nat) (l : List Pr) (t : Cl) (k : SS) (a : Option Addr) (n c : Nat) (k' : SS) (a' : Option Addr) (n' c' : Nat) (W : World),
  Ctx B X bv bm bo gs g W → Blk W bx #[clo bv bm bo] 45 → bx ≠ g → MapM B W g l → l.length + wt p ≤ 1000000 → smC p → szMC X p t → ArC B W p k a n c → ArC B W t k' a' n' c' →
  Calls Tryz.prog 74 #[.agg #[.int .i64 (opC p), .string (nmC p), .string (soC p), .slice k.a k.n k.c, .slice a n c], .agg #[.int .i64 (opC t), .string (nmC t), .string (soC t), .slice k'.a k'.n k'.c, .slice a' n' c'], .pointer (some ⟨bx, 0, none⟩)] W fun e W' => RtM B g W (matC X p l t) e W'
set_option maxRecDepth 100000 in
set_option maxHeartbeats 8000000 in
theorem equalC_ofG (X : List ByteArray) (xs : List Cl) (hok : ∀ x ∈ xs, GcOkG X x) (B bv bm bo gs g bx : Nat) (l : List Pr) (us : List Cl) (a : Option Addr) (n c : Nat) (a' : Option Addr) (n' c' : Nat) (W : World) (hlen : n = n')
    (hC : Ctx B X bv bm bo gs g W) (hBx : Blk W bx #[clo bv bm bo] 45) (hbx : bx ≠ g) (hM : MapM B W g l) (hl : l.length + wts xs ≤ 1000000) (hsm : smCs xs) (hsz : szMCs X xs us) (hA : IsC B W a n c xs) (hA' : IsC B W a' n' c' us) :
    Calls Tryz.prog 73 #[.slice a n c, .slice a' n' c', .func (.func 74) #[] #[.pointer (some ⟨bx, 0, none⟩)]] W fun e W' => RtM B g W (matCs X xs l us) e W' := by
  subst hlen
  have hn : n = xs.length := hA.1
  have hn' : n = us.length := hA'.1
  have hn63 : n ≤ 9223372036854775807 := by have h1 := hA.2.1; have h2 := hA.2.2.1; unfold maxLen at h2; omega
  have HC := Lib.hid hC
  have HA := Lib.hid hA
  have HA' := Lib.hid hA'
  have HOk := Lib.hid hok
  have HBx := Lib.hid hBx
  have HSm := Lib.hid (show ∀ k x, xs[k]? = some x → smC x from fun k x h => smCs_at hsm h)
  have HSz := Lib.hid (show ∀ k x u, xs[k]? = some x → us[k]? = some u → szMC X x u from fun k x u h1 h2 => szMCs_at hsz h1 h2)
  have HSx := Lib.hid (show ∀ k x, xs[k]? = some x → wt x + wts (xs.drop (k + 1)) = wts (xs.drop k) from fun k x h => by rw [drop_c h, wts])
  have HEnd := Lib.hid (show ∀ lk, matCs X (xs.drop n) lk (us.drop n) = some lk from fun lk => by rw [List.drop_eq_nil_of_le (by omega), matCs])
  have H0 := Lib.hid (show ∃ lk, MapM B W g lk ∧ matCs X (xs.drop 0) lk (us.drop 0) = matCs X xs l us ∧ lk.length + wts (xs.drop 0) ≤ 1000000 from ⟨l, hM, by rw [List.drop_zero, List.drop_zero], by rw [List.drop_zero]; exact hl⟩)
  generalize matCs X xs l us = R at *
  clear hBx hC hM hl hsm hsz hA hA' hok hn hn'
  go_enter Tryz.func73, Tryz.ntmps73
  go_wp2
  go_loopw [17] (fun i wr0 => ∃ (wr : World) (k : Nat), wr = wr0 ∧ k ≤ n ∧ i = .int .i64 k ∧ W.grownBy wr (some g) ∧ Hid (∃ lk, MapM B wr g lk ∧ matCs X (xs.drop k) lk (us.drop k) = R ∧ lk.length + wts (xs.drop k) ≤ 1000000)) (fun i _ => n - (intOf i).toNat)
  case atStart => exact ⟨_, 0, rfl, by omega, rfl, gr_of g (Below.refl _ _), H0⟩
  case round =>
    obtain ⟨wr, k, rfl, hk, rfl, hG, hR⟩ := hrel
    by_cases hlt : k < n
    · have hCr := HC.out.kept hG
      have hBb := gr_b hG HC.out.BW HC.out.Bg
      obtain ⟨bb, o, x, kx, ax, mx, cx, rfl, hb, y0, y1, y2, y3, y4, hx, hokx⟩ := (HA.out.bel hBb).at hlt
      obtain ⟨bb', o', u, ku, au, mu, cu, rfl, hb', z0, z1, z2, z3, z4, hu, hoku⟩ := (HA'.out.bel hBb).at hlt
      obtain ⟨W1, hW1, hB1, hs1, S1⟩ := cbox1 wr (opC x) (nmC x) (soC x) kx ax mx cx
      have hbr : bb' < wr.heap.size := Nat.lt_of_lt_of_le hb' hCr.BW
      have v0 := (hB1.cell (p := ⟨bb', _, none⟩) hbr).trans z0
      have v1 := (hB1.cell (p := ⟨bb', _, none⟩) hbr).trans z1
      have v2 := (hB1.cell (p := ⟨bb', _, none⟩) hbr).trans z2
      have v3 := (hB1.cell (p := ⟨bb', _, none⟩) hbr).trans z3
      have v4 := (hB1.cell (p := ⟨bb', _, none⟩) hbr).trans z4
      obtain ⟨W2, hW2, hB12, hs2, T2⟩ := cbox1 W1 (opC u) (nmC u) (soC u) ku au mu cu
      have S2 := CBox.b S1 hB12
      have hB2 := bel_trans hB1 hB12
      obtain ⟨s0, s1, s2, s3, s4⟩ := S2.five
      obtain ⟨t0, t1, t2, t3, t4⟩ := T2.five
      obtain ⟨lk, hMk, hRk, hlk⟩ := hR.out
      have hg2 : wr.grownBy W2 (some g) := gr_of g hB2
      have hstep := matCs_step (X := X) (l := lk) hx hu
      have hsx := HSx.out k x hx
      have hBr := hCr.BW
      have cM := HOk.out x (List.mem_of_getElem? hx) B bv bm bo gs g bx lk u kx ax mx cx ku au mu cu W2 (hCr.kept hg2) (Blk.grown HBx.out (hG.trans hg2) (fun e => by injection e with e; exact hbx e)) hbx (hMk.b hBr hB2) (by omega) (HSm.out k x hx) (HSz.out k x u hx hu) (ArC.bel (hB2.mono hBr) _ hokx) (ArC.bel (hB2.mono hBr) _ hoku)
      rw [hRk] at hstep
      have hlen1 : ∀ l', matC X x lk u = some l' → l'.length + wts (xs.drop (k + 1)) ≤ 1000000 := fun l' h => by have := matC_len X x lk u l' h; omega
      have HG2 := Lib.hid (hG.trans hg2)
      have hk0 : 0 ≤ (k : Int) := by omega
      have hk1 : (k : Int) < (n : Int) := by omega
      unfold RtM at cM
      clear hR hMk hRk hlk S1 S2 T2 hs1 hs2 hx hu hokx hoku hCr hBb hsx
      obtain ⟨kxa, kxn, kxc⟩ := kx
      obtain ⟨kua, kun, kuc⟩ := ku
      dsimp only at *
      generalize opC x = ox at *
      generalize nmC x = mx' at *
      generalize soC x = zx at *
      generalize opC u = ou at *
      generalize nmC u = mu' at *
      generalize soC u = zu at *
      cases hr : matC X x lk u with
      | none =>
        rw [hr] at cM hstep
        clear hlen1
        have HR : Hid (R = none) := hstep
        clear hstep hr
        go_wp2_with (go_at_call 74; ((with_reducible refine cM.mono ?_); rintro e w5 ⟨rfl, -, hg5⟩))
        go_ret
        exact ⟨by rw [HR.out]; rfl, fun l' h => (by rw [HR.out] at h; cases h), HG2.out.trans hg5⟩
      | some l1 =>
        rw [hr] at cM hstep
        have hl1 := hlen1 l1 hr
        have HR : Hid (matCs X (xs.drop (k + 1)) l1 (us.drop (k + 1)) = R) := hstep.symm
        clear hstep hr hlen1
        go_wp2_with (go_at_call 74; ((with_reducible refine cM.mono ?_); rintro e w5 ⟨rfl, hm5, hg5⟩; have HM5 := Lib.hid (hm5 l1 rfl); clear hm5))
        go_roundw
        case rel => exact ⟨_, k + 1, rfl, by omega, by go_num, HG2.out.trans hg5, Lib.hid ⟨l1, HM5.out, HR.out, hl1⟩⟩
        case measure => simp [intOf]; omega
    · obtain rfl : k = n := by omega
      obtain ⟨lk, hMk, hRk, -⟩ := hR.out
      rw [HEnd.out lk] at hRk
      have HR := Lib.hid hRk
      have HMk := Lib.hid hMk
      clear hR hMk hRk
      go_wp2
      go_ret
      exact ⟨by rw [← HR.out]; rfl, fun l' h => (by rw [← HR.out] at h; injection h with h; subst h; exact HMk.out), hG⟩
end Go.Proofs.YtnhemglpbhnmdaaGreat.Mt
namespace Go.Proofs.YtnhemglpbhnmdaaGreat.Mt
open Go.RowKit L T C B U
set_option linter.unusedVariables false
set_option linter.unusedSimpArgs false

def FcOkG (X : List ByteArray) (p : Cl) : Prop := ∀ (B bv bm bo gs g : Nat) (l : List Pr) (t : Cl) (k : SS) (a : Option Addr) (n c : Nat) (k' : SS) (a' : Option Addr) (n' c' : Nat) (W : World),
  Ctx B X bv bm bo gs g W → MapM B W g l → l.length + wt p ≤ 1000000 → smC p → szMC X p t → ArC B W p k a n c → ArC B W t k' a' n' c' →
  Calls Tryz.prog 41 #[.agg #[.int .i64 (opC p), .string (nmC p), .string (soC p), .slice k.a k.n k.c, .slice a n c], .agg #[.int .i64 (opC t), .string (nmC t), .string (soC t), .slice k'.a k'.n k'.c, .slice a' n' c'], clo bv bm bo] W fun e W' => RtM B g W (matC X p l t) e W'
set_option maxRecDepth 100000 in
set_option maxHeartbeats 8000000 in
theorem fits_cloG (X : List ByteArray) (p : Cl) (hok : FcOkG X p) : GcOkG X p := by
  intro B bv bm bo gs g bx l t k a n c k' a' n' c' W hC hBx hbx hM hl hsm hsz hA hA'
  obtain ⟨W2, hW2, hB2, hs2, S2, T2⟩ := cbox2 W (opC p) (nmC p) (soC p) k a n c (opC t) (nmC t) (soC t) k' a' n' c'
  have hg2 := gr_of g hB2
  have cF := hok B bv bm bo gs g l t k a n c k' a' n' c' W2 (hC.kept hg2) (hM.b hC.BW hB2) hl hsm hsz (ArC.bel (hB2.mono hC.BW) _ hA) (ArC.bel (hB2.mono hC.BW) _ hA')
  have HG := Lib.hid hg2
  have y0 := Blk.cell (Blk.below hBx hB2) 0
  obtain ⟨ka, kn, kc⟩ := k
  obtain ⟨ka', kn', kc'⟩ := k'
  obtain ⟨s0, s1, s2, s3, s4⟩ := S2.five
  obtain ⟨t0, t1, t2, t3, t4⟩ := T2.five
  dsimp only at *
  unfold RtM at cF ⊢
  clear hC hBx hM hl hsm hsz hA hA' S2 T2 hok hs2 hg2
  generalize matC X p l t = R at *
  generalize opC p = op at *
  generalize nmC p = mp at *
  generalize soC p = zp at *
  generalize opC t = ot at *
  generalize nmC t = mt at *
  generalize soC t = zt at *
  go_enter Tryz.func74, Tryz.ntmps74
  go_wp2_with (go_at_call 41; ((with_reducible refine cF.mono ?_); rintro e w5 ⟨rfl, hm5, hg5⟩; have HM5 := Lib.hid hm5; have HG5 := Lib.hid hg5; clear hm5 hg5))
  go_ret
  exact ⟨rfl, HM5.out, HG.out.trans HG5.out⟩
set_option maxRecDepth 100000 in
set_option maxHeartbeats 32000000 in
theorem fits_stepG (X : List ByteArray) (p : Cl) (hok : ∀ x ∈ subC p, FcOkG X x) : FcOkG X p := by
  intro B bv bm bo gs g l t k a n c k' a' n' c' W hC hM hl hsm hsz hA hA'
  obtain ⟨W2, hW2, hB2, hs2, S2, T2⟩ := cbox2 W (opC p) (nmC p) (soC p) k a n c (opC t) (nmC t) (soC t) k' a' n' c'
  obtain ⟨W3, hW3⟩ : ∃ W3, W2.alloc (.cells #[clo bv bm bo] 45) = W3 := ⟨_, rfl⟩
  have hB23 : Below W2.heap.size W2 W3 := by rw [← hW3]; exact bel_alloc (Below.refl _ _) _
  have hB3 := bel_trans hB2 hB23
  have M3 : Blk W3 (W2.heap.size) #[clo bv bm bo] 45 := by rw [← hW3]; exact Blk.new W2 _ _
  have S3 := CBox.b S2 hB23
  have T3 := CBox.b T2 hB23
  have hC3 := hC.kept (gr_of g hB3)
  have hM3 := hM.b hC.BW hB3
  have hP3 := ArC.bel (hB3.mono hC.BW) _ hA
  have hT3 := ArC.bel (hB3.mono hC.BW) _ hA'
  obtain ⟨hPt, hPc⟩ := ar_isC.1 hP3
  obtain ⟨hTt, hTc⟩ := ar_isC.1 hT3
  have hwp := wt_mk p
  have hwt := wt_mk t
  have hsp := smC_parts hsm
  have hsz2 := (szMC_mk X p t).1 hsz
  have hgl : g < W.heap.size := hC.gl
  have cS := fun (w' : World) => same_bare (opC p) (nmC p) (soC p) (opC t) (nmC t) (soC t) w'
  have cE := fun (w' : World) (hb : Below W3.heap.size W3 w') (h : k.n = k'.n) => equal_ofG X (tsC p) (fun x _ => match_anyG X x) B bv bm bo gs g l (tsC t) k.a k.n k.c k'.a k'.n k'.c w' h (hC3.kept (gr_of g hb)) (hM3.b hC3.BW hb) (by omega) hsp.1 hsz2.1 (IsT.bel hPt (hb.mono hC3.BW)) (IsT.bel hTt (hb.mono hC3.BW))
  have cEn := fun (w' : World) (h : k.n ≠ k'.n) => equal_ne k.a k.n k.c k'.a k'.n k'.c (clo bv bm bo) w' h (isT_bound hPt) (isT_bound hTt)
  have hne3 : W2.heap.size ≠ g := by omega
  have hBS : B ≤ W3.heap.size := hC3.BW
  have cG := fun (w' : World) (l1 : List Pr) (hg : W3.grownBy w' (some g)) (hM1 : MapM B w' g l1) (hl1 : l1.length + wts (subC p) ≤ 1000000) (h : n = n') => equalC_ofG X (subC p) (fun x hx => fits_cloG X x (hok x hx)) B bv bm bo gs g (W2.heap.size) l1 (subC t) a n c a' n' c' w' h (hC3.kept hg) (Blk.grown M3 hg (fun e => by injection e with e; omega)) hne3 hM1 hl1 hsp.2 hsz2.2 (IsC.bel hPc (gr_b hg hBS hC3.Bg)) (IsC.bel hTc (gr_b hg hBS hC3.Bg))
  have cGn := fun (w' : World) (h : n ≠ n') => equalC_ne a n c a' n' c' (.func (.func 74) #[] #[.pointer (some ⟨W2.heap.size, 0, none⟩)]) w' h (by have h1 := hPc.2.1; have h2 := hPc.2.2.1; unfold maxLen at h2; omega) (by have h1 := hTc.2.1; have h2 := hTc.2.2.1; unfold maxLen at h2; omega)
  have hMk := matC_mk X p l t
  have hkn : k.n = (tsC p).length := hPt.1
  have hkn' : k'.n = (tsC t).length := hTt.1
  have hnn : n = (subC p).length := hPc.1
  have hnn' : n' = (subC t).length := hTc.1
  have hlen1 : ∀ l1, mats X (tsC p) l (tsC t) = some l1 → l1.length + wts (subC p) ≤ 1000000 := fun l1 h => by have := mats_len X (tsC p) l (tsC t) l1 h; omega
  rw [← hkn, ← hkn', ← hnn, ← hnn'] at hMk
  have HQ := Lib.hid (show ∀ (w' : World), W3.grownBy w' (some g) → w'.cell? ⟨W.heap.size, 0, none⟩ = some (.int .i64 (opC p)) ∧ w'.cell? ⟨W.heap.size, 1, none⟩ = some (.string (nmC p)) ∧ w'.cell? ⟨W.heap.size, 2, none⟩ = some (.string (soC p)) ∧ w'.cell? ⟨W.heap.size, 3, none⟩ = some (.slice k.a k.n k.c) ∧ w'.cell? ⟨W.heap.size, 4, none⟩ = some (.slice a n c) ∧ w'.cell? ⟨W.heap.size + 1, 0, none⟩ = some (.int .i64 (opC t)) ∧ w'.cell? ⟨W.heap.size + 1, 1, none⟩ = some (.string (nmC t)) ∧ w'.cell? ⟨W.heap.size + 1, 2, none⟩ = some (.string (soC t)) ∧ w'.cell? ⟨W.heap.size + 1, 3, none⟩ = some (.slice k'.a k'.n k'.c) ∧ w'.cell? ⟨W.heap.size + 1, 4, none⟩ = some (.slice a' n' c') ∧ w'.cell? ⟨W2.heap.size, 0, none⟩ = some (clo bv bm bo) from fun w' h => by
    obtain ⟨q0, q1, q2, q3, q4⟩ := (show CBox w' _ _ _ _ _ _ _ _ from Blk.grown S3 h (fun e => by injection e with e; omega)).five
    obtain ⟨r0, r1, r2, r3, r4⟩ := (show CBox w' _ _ _ _ _ _ _ _ from Blk.grown T3 h (fun e => by injection e with e; omega)).five
    exact ⟨q0, q1, q2, q3, q4, r0, r1, r2, r3, r4, Blk.cell (Blk.grown M3 h (fun e => by injection e with e; omega)) 0⟩)
  have HMk := Lib.hid hMk
  have HG3 := Lib.hid (gr_of g hB3)
  have HLen := Lib.hid hlen1
  unfold RtM at cE cG ⊢
  obtain ⟨ka, kn, kc⟩ := k
  obtain ⟨ka', kn', kc'⟩ := k'
  dsimp only [SS.nil] at *
  clear hC hM hl hsm hsz hsz2 hA hA' S2 T2 S3 T3 M3 hok hs2 hC3 hM3 hP3 hT3 hPt hPc hTt hTc hwp hwt hsp hMk hkn hkn' hnn hnn' hlen1 hB2 hB23
  generalize hsame : decide (opC p = opC t ∧ (opC p = 11 ∨ opC p = 12 ∨ nmC p = nmC t) ∧ soC p = soC t) = same at *
  generalize matC X p l t = R at *
  generalize hRT : mats X (tsC p) l (tsC t) = RT at *
  have Hsame := Lib.hid hsame
  clear hsame hRT
  have cB := fun (o : Int) (s z : ByteArray) (ka : Option Addr) (kn kc : Nat) (a : Option Addr) (n c : Nat) (w' : World) => bare_any o s z ⟨ka, kn, kc⟩ a n c w'
  dsimp only at cB
  have hNo : (same = false ∨ kn ≠ kn' ∨ n ≠ n' ∨ RT = none) → Hid (R = none) := fun h => Lib.hid (by
    have h2 := HMk.out
    by_cases hc : opC p = opC t ∧ (opC p = 11 ∨ opC p = 12 ∨ nmC p = nmC t) ∧ soC p = soC t ∧ kn = kn' ∧ n = n'
    · rw [if_pos hc] at h2
      rcases h with h | h | h | h
      · rw [← Hsame.out] at h; exact absurd (of_decide_eq_false h) (fun q => q ⟨hc.1, hc.2.1, hc.2.2.1⟩)
      · exact absurd hc.2.2.2.1 h
      · exact absurd hc.2.2.2.2 h
      · rw [h] at h2; exact h2
    · rw [if_neg hc] at h2; exact h2)
  have hYes : ∀ l1, same = true → kn = kn' → n = n' → RT = some l1 → Hid (R = matCs X (subC p) l1 (subC t)) := fun l1 h1 h2 h3 h4 => Lib.hid (by
    have h5 := HMk.out
    rw [← Hsame.out] at h1
    have h6 := of_decide_eq_true h1
    rw [if_pos ⟨h6.1, h6.2.1, h6.2.2, h2, h3⟩, h4] at h5
    exact h5)
  have HNo := Lib.hid hNo
  have HYes := Lib.hid hYes
  clear hNo hYes HMk
  generalize opC p = op at *
  generalize nmC p = mp at *
  generalize soC p = zp at *
  generalize opC t = ot at *
  generalize nmC t = mt at *
  generalize soC t = zt at *
  have Bd : Below W3.heap.size W3 W3.drew := (Below.refl _ _).drew
  obtain ⟨s0, s1, s2, s3, s4, t0, t1, t2, t3, t4, m0⟩ := HQ.out W3 (gr_of g (Below.refl _ _))
  unfold clo at *
  cases same with
  | false =>
    have hR := HNo.out (.inl rfl)
    clear cE cEn cG cGn HYes HNo
    go_enter Tryz.func41, Tryz.ntmps41
    go_wp2_with fail
    refine wp_region_noPanic ?_
    refine wp_region_held_drew (S := fun w' => w'.cell? ⟨W.heap.size, 0, none⟩ = some (.int .i64 op) ∧ w'.cell? ⟨W.heap.size, 1, none⟩ = some (.string mp) ∧ w'.cell? ⟨W.heap.size, 2, none⟩ = some (.string zp) ∧ w'.cell? ⟨W.heap.size, 3, none⟩ = some (.slice ka kn kc) ∧ w'.cell? ⟨W.heap.size, 4, none⟩ = some (.slice a n c) ∧ w'.cell? ⟨W.heap.size + 1, 0, none⟩ = some (.int .i64 ot) ∧ w'.cell? ⟨W.heap.size + 1, 1, none⟩ = some (.string mt) ∧ w'.cell? ⟨W.heap.size + 1, 2, none⟩ = some (.string zt) ∧ w'.cell? ⟨W.heap.size + 1, 3, none⟩ = some (.slice ka' kn' kc') ∧ w'.cell? ⟨W.heap.size + 1, 4, none⟩ = some (.slice a' n' c') ∧ w'.cell? ⟨W2.heap.size, 0, none⟩ = some (.func (.func 75) #[] #[.pointer (some ⟨bv, 0, none⟩), .pointer (some ⟨bm, 0, none⟩), .pointer (some ⟨bo, 0, none⟩)])) (by kernel_rfl) (by exact HQ.out _ (gr_of g Bd)) (fun hHeld => ?_)
    refine wpAnyH_take (i := 0) (v := ?_) rfl (by kernel_rfl) (by kernel_rfl) (by kernel_rfl) (fun _ _ _ h => h) (Or.inl ⟨by rfl, ?hy⟩) (by assumption) ?_
    case hy => (intro w hSw; (try dsimp only at hSw); go_simp; try (with_reducible rfl))
    (try simp only [List.getElem_toArray, List.getElem_cons_succ, List.getElem_cons_zero, Act.put, List.setIfInBounds_toArray, List.set_cons_zero, List.set_cons_succ])
    refine wpAnyH_take (i := 2) (v := ?_) rfl (by kernel_rfl) (by kernel_rfl) (by kernel_rfl) (fun _ _ _ h => h) (Or.inl ⟨by rfl, ?hy⟩) (by assumption) ?_
    case hy => (intro w hSw; (try dsimp only at hSw); go_simp; try (with_reducible rfl))
    (try simp only [List.getElem_toArray, List.getElem_cons_succ, List.getElem_cons_zero, Act.put, List.setIfInBounds_toArray, List.set_cons_zero, List.set_cons_succ])
    refine wpAnyH_ready (rs := [1]) (by kernel_rfl) (by simp) ?_
    refine AllReadyH.cons rfl (fun KK hKK => ?_) AllReadyH.nil
    go_simp
    (go_at_call 71; ((with_reducible refine (cB _ _ _ _ _ _ _ _ _ _).mono ?_); rintro e w4 ⟨rfl, hb4⟩; have Bn : Below W3.heap.size W3 w4 := bel_trans Bd hb4))
    refine hKK.out _ _ (by exact HQ.out _ (gr_of g Bn)) (fun hHeld => ?_)
    clear hKK KK
    (try simp only [List.getElem_toArray, List.getElem_cons_succ, List.getElem_cons_zero, Act.put, List.setIfInBounds_toArray, List.set_cons_zero, List.set_cons_succ])
    refine wpAnyH_ready (rs := [3]) (by kernel_rfl) (by simp) ?_
    refine AllReadyH.cons rfl (fun KK hKK => ?_) AllReadyH.nil
    go_simp
    (go_at_call 71; ((with_reducible refine (cB _ _ _ _ _ _ _ _ _ _).mono ?_); rintro e w4 ⟨rfl, hb4⟩; have Bn : Below W3.heap.size W3 w4 := bel_trans Bn hb4))
    refine hKK.out _ _ (by exact HQ.out _ (gr_of g Bn)) (fun hHeld => ?_)
    clear hKK KK
    (try simp only [List.getElem_toArray, List.getElem_cons_succ, List.getElem_cons_zero, Act.put, List.setIfInBounds_toArray, List.set_cons_zero, List.set_cons_succ])
    refine wpAnyH_ready (rs := [4]) (by kernel_rfl) (by simp) ?_
    refine AllReadyH.cons rfl (fun KK hKK => ?_) AllReadyH.nil
    go_simp
    (go_at_call 70; ((with_reducible refine (cS _).mono ?_); rintro e w5 ⟨rfl, hb5⟩; have Bn : Below W3.heap.size W3 w5 := bel_trans Bn hb5))
    refine hKK.out _ _ (by exact HQ.out _ (gr_of g Bn)) (fun hHeld => ?_)
    clear hKK KK
    (try simp only [List.getElem_toArray, List.getElem_cons_succ, List.getElem_cons_zero, Act.put, List.setIfInBounds_toArray, List.set_cons_zero, List.set_cons_succ])
    refine wpAnyH_take (i := 5) (v := ?_) rfl (by kernel_rfl) (by kernel_rfl) (by kernel_rfl) (fun _ _ _ h => h) (Or.inl ⟨by rfl, ?hy⟩) (by assumption) ?_
    case hy => (intro w hSw; (try dsimp only at hSw); go_simp; try (with_reducible rfl))
    (try simp only [List.getElem_toArray, List.getElem_cons_succ, List.getElem_cons_zero, Act.put, List.setIfInBounds_toArray, List.set_cons_zero, List.set_cons_succ])
    refine wpAnyH_take (i := 6) (v := undef) rfl (by kernel_rfl) (by kernel_rfl) (by kernel_rfl) (fun _ _ _ h => h) (Or.inr ⟨by rfl, rfl⟩) (by assumption) ?_
    (try simp only [List.getElem_toArray, List.getElem_cons_succ, List.getElem_cons_zero, Act.put, List.setIfInBounds_toArray, List.set_cons_zero, List.set_cons_succ])
    refine wpAnyH_take (i := 7) (v := undef) rfl (by kernel_rfl) (by kernel_rfl) (by kernel_rfl) (fun _ _ _ h => h) (Or.inr ⟨by rfl, rfl⟩) (by assumption) ?_
    (try simp only [List.getElem_toArray, List.getElem_cons_succ, List.getElem_cons_zero, Act.put, List.setIfInBounds_toArray, List.set_cons_zero, List.set_cons_succ])
    refine wpAnyH_take (i := 8) (v := undef) rfl (by kernel_rfl) (by kernel_rfl) (by kernel_rfl) (fun _ _ _ h => h) (Or.inr ⟨by rfl, rfl⟩) (by assumption) ?_
    (try simp only [List.getElem_toArray, List.getElem_cons_succ, List.getElem_cons_zero, Act.put, List.setIfInBounds_toArray, List.set_cons_zero, List.set_cons_succ])
    refine wpAnyH_take (i := 9) (v := undef) rfl (by kernel_rfl) (by kernel_rfl) (by kernel_rfl) (fun _ _ _ h => h) (Or.inr ⟨by rfl, rfl⟩) (by assumption) ?_
    (try simp only [List.getElem_toArray, List.getElem_cons_succ, List.getElem_cons_zero, Act.put, List.setIfInBounds_toArray, List.set_cons_zero, List.set_cons_succ])
    refine wpAnyH_take (i := 10) (v := undef) rfl (by kernel_rfl) (by kernel_rfl) (by kernel_rfl) (fun _ _ _ h => h) (Or.inr ⟨by rfl, rfl⟩) (by assumption) ?_
    (try simp only [List.getElem_toArray, List.getElem_cons_succ, List.getElem_cons_zero, Act.put, List.setIfInBounds_toArray, List.set_cons_zero, List.set_cons_succ])
    refine wpAnyH_take (i := 11) (v := undef) rfl (by kernel_rfl) (by kernel_rfl) (by kernel_rfl) (fun _ _ _ h => h) (Or.inr ⟨by rfl, rfl⟩) (by assumption) ?_
    (try simp only [List.getElem_toArray, List.getElem_cons_succ, List.getElem_cons_zero, Act.put, List.setIfInBounds_toArray, List.set_cons_zero, List.set_cons_succ])
    refine wpAnyH_take (i := 12) (v := ?_) rfl (by kernel_rfl) (by kernel_rfl) (by kernel_rfl) (fun _ _ _ h => h) (Or.inl ⟨by rfl, ?hy⟩) (by assumption) ?_
    case hy => (intro w hSw; (try dsimp only at hSw); go_simp; try (with_reducible rfl))
    (try simp only [List.getElem_toArray, List.getElem_cons_succ, List.getElem_cons_zero, Act.put, List.setIfInBounds_toArray, List.set_cons_zero, List.set_cons_succ])
    refine wpAnyH_take (i := 13) (v := ?_) rfl (by kernel_rfl) (by kernel_rfl) (by kernel_rfl) (fun _ _ _ h => h) (Or.inl ⟨by rfl, ?hy⟩) (by assumption) ?_
    case hy => (intro w hSw; (try dsimp only at hSw); go_simp; try (with_reducible rfl))
    (try simp only [List.getElem_toArray, List.getElem_cons_succ, List.getElem_cons_zero, Act.put, List.setIfInBounds_toArray, List.set_cons_zero, List.set_cons_succ])
    refine wpAnyH_take (i := 14) (v := undef) rfl (by kernel_rfl) (by kernel_rfl) (by kernel_rfl) (fun _ _ _ h => h) (Or.inr ⟨by rfl, rfl⟩) (by assumption) ?_
    (try simp only [List.getElem_toArray, List.getElem_cons_succ, List.getElem_cons_zero, Act.put, List.setIfInBounds_toArray, List.set_cons_zero, List.set_cons_succ])
    refine wpAnyH_take (i := 15) (v := undef) rfl (by kernel_rfl) (by kernel_rfl) (by kernel_rfl) (fun _ _ _ h => h) (Or.inr ⟨by rfl, rfl⟩) (by assumption) ?_
    (try simp only [List.getElem_toArray, List.getElem_cons_succ, List.getElem_cons_zero, Act.put, List.setIfInBounds_toArray, List.set_cons_zero, List.set_cons_succ])
    refine wpAnyH_take (i := 16) (v := undef) rfl (by kernel_rfl) (by kernel_rfl) (by kernel_rfl) (fun _ _ _ h => h) (Or.inr ⟨by rfl, rfl⟩) (by assumption) ?_
    (try simp only [List.getElem_toArray, List.getElem_cons_succ, List.getElem_cons_zero, Act.put, List.setIfInBounds_toArray, List.set_cons_zero, List.set_cons_succ])
    refine wpAnyH_take (i := 17) (v := undef) rfl (by kernel_rfl) (by kernel_rfl) (by kernel_rfl) (fun _ _ _ h => h) (Or.inr ⟨by rfl, rfl⟩) (by assumption) ?_
    (try simp only [List.getElem_toArray, List.getElem_cons_succ, List.getElem_cons_zero, Act.put, List.setIfInBounds_toArray, List.set_cons_zero, List.set_cons_succ])
    refine wpAnyH_take (i := 18) (v := undef) rfl (by kernel_rfl) (by kernel_rfl) (by kernel_rfl) (fun _ _ _ h => h) (Or.inr ⟨by rfl, rfl⟩) (by assumption) ?_
    (try simp only [List.getElem_toArray, List.getElem_cons_succ, List.getElem_cons_zero, Act.put, List.setIfInBounds_toArray, List.set_cons_zero, List.set_cons_succ])
    refine wpAnyH_take (i := 19) (v := undef) rfl (by kernel_rfl) (by kernel_rfl) (by kernel_rfl) (fun _ _ _ h => h) (Or.inr ⟨by rfl, rfl⟩) (by assumption) ?_
    (try simp only [List.getElem_toArray, List.getElem_cons_succ, List.getElem_cons_zero, Act.put, List.setIfInBounds_toArray, List.set_cons_zero, List.set_cons_succ])
    refine wpAnyH_take (i := 20) (v := ?_) rfl (by kernel_rfl) (by kernel_rfl) (by kernel_rfl) (fun _ _ _ h => h) (Or.inl ⟨by rfl, ?hy⟩) (by assumption) ?_
    case hy => (intro w hSw; (try dsimp only at hSw); go_simp; try (with_reducible rfl))
    (try simp only [List.getElem_toArray, List.getElem_cons_succ, List.getElem_cons_zero, Act.put, List.setIfInBounds_toArray, List.set_cons_zero, List.set_cons_succ])
    refine wpAnyH_take (i := 21) (v := ?_) rfl (by kernel_rfl) (by kernel_rfl) (by kernel_rfl) (fun _ _ _ h => h) (Or.inl ⟨by rfl, ?hy⟩) (by assumption) ?_
    case hy => (intro w hSw; (try dsimp only at hSw); go_simp; try (with_reducible rfl))
    (try simp only [List.getElem_toArray, List.getElem_cons_succ, List.getElem_cons_zero, Act.put, List.setIfInBounds_toArray, List.set_cons_zero, List.set_cons_succ])
    (try simp only [List.getElem_toArray, List.getElem_cons_succ, List.getElem_cons_zero, Act.put, List.setIfInBounds_toArray, List.set_cons_zero, List.set_cons_succ])
    refine wpAnyH_done (by kernel_rfl) ?_ _
    refine NoPanic.normal ?_
    go_wp2
    go_ret
    exact ⟨by rw [hR.out]; rfl, fun l' h => (by rw [hR.out] at h; cases h), HG3.out.trans (gr_of g Bn)⟩
  | true =>
    by_cases hk : kn = kn'
    · subst hk
      cases RT with
      | none =>
        have hR := HNo.out (.inr (.inr (.inr rfl)))
        clear cEn cG cGn HYes HNo
        go_enter Tryz.func41, Tryz.ntmps41
        go_wp2_with fail
        refine wp_region_noPanic ?_
        refine wp_region_held_drew (S := fun w' => w'.cell? ⟨W.heap.size, 0, none⟩ = some (.int .i64 op) ∧ w'.cell? ⟨W.heap.size, 1, none⟩ = some (.string mp) ∧ w'.cell? ⟨W.heap.size, 2, none⟩ = some (.string zp) ∧ w'.cell? ⟨W.heap.size, 3, none⟩ = some (.slice ka kn kc) ∧ w'.cell? ⟨W.heap.size, 4, none⟩ = some (.slice a n c) ∧ w'.cell? ⟨W.heap.size + 1, 0, none⟩ = some (.int .i64 ot) ∧ w'.cell? ⟨W.heap.size + 1, 1, none⟩ = some (.string mt) ∧ w'.cell? ⟨W.heap.size + 1, 2, none⟩ = some (.string zt) ∧ w'.cell? ⟨W.heap.size + 1, 3, none⟩ = some (.slice ka' kn kc') ∧ w'.cell? ⟨W.heap.size + 1, 4, none⟩ = some (.slice a' n' c') ∧ w'.cell? ⟨W2.heap.size, 0, none⟩ = some (.func (.func 75) #[] #[.pointer (some ⟨bv, 0, none⟩), .pointer (some ⟨bm, 0, none⟩), .pointer (some ⟨bo, 0, none⟩)])) (by kernel_rfl) (by exact HQ.out _ (gr_of g Bd)) (fun hHeld => ?_)
        refine wpAnyH_take (i := 0) (v := ?_) rfl (by kernel_rfl) (by kernel_rfl) (by kernel_rfl) (fun _ _ _ h => h) (Or.inl ⟨by rfl, ?hy⟩) (by assumption) ?_
        case hy => (intro w hSw; (try dsimp only at hSw); go_simp; try (with_reducible rfl))
        (try simp only [List.getElem_toArray, List.getElem_cons_succ, List.getElem_cons_zero, Act.put, List.setIfInBounds_toArray, List.set_cons_zero, List.set_cons_succ])
        refine wpAnyH_take (i := 2) (v := ?_) rfl (by kernel_rfl) (by kernel_rfl) (by kernel_rfl) (fun _ _ _ h => h) (Or.inl ⟨by rfl, ?hy⟩) (by assumption) ?_
        case hy => (intro w hSw; (try dsimp only at hSw); go_simp; try (with_reducible rfl))
        (try simp only [List.getElem_toArray, List.getElem_cons_succ, List.getElem_cons_zero, Act.put, List.setIfInBounds_toArray, List.set_cons_zero, List.set_cons_succ])
        refine wpAnyH_ready (rs := [1]) (by kernel_rfl) (by simp) ?_
        refine AllReadyH.cons rfl (fun KK hKK => ?_) AllReadyH.nil
        go_simp
        (go_at_call 71; ((with_reducible refine (cB _ _ _ _ _ _ _ _ _ _).mono ?_); rintro e w4 ⟨rfl, hb4⟩; have Bn : Below W3.heap.size W3 w4 := bel_trans Bd hb4))
        refine hKK.out _ _ (by exact HQ.out _ (gr_of g Bn)) (fun hHeld => ?_)
        clear hKK KK
        (try simp only [List.getElem_toArray, List.getElem_cons_succ, List.getElem_cons_zero, Act.put, List.setIfInBounds_toArray, List.set_cons_zero, List.set_cons_succ])
        refine wpAnyH_ready (rs := [3]) (by kernel_rfl) (by simp) ?_
        refine AllReadyH.cons rfl (fun KK hKK => ?_) AllReadyH.nil
        go_simp
        (go_at_call 71; ((with_reducible refine (cB _ _ _ _ _ _ _ _ _ _).mono ?_); rintro e w4 ⟨rfl, hb4⟩; have Bn : Below W3.heap.size W3 w4 := bel_trans Bn hb4))
        refine hKK.out _ _ (by exact HQ.out _ (gr_of g Bn)) (fun hHeld => ?_)
        clear hKK KK
        (try simp only [List.getElem_toArray, List.getElem_cons_succ, List.getElem_cons_zero, Act.put, List.setIfInBounds_toArray, List.set_cons_zero, List.set_cons_succ])
        refine wpAnyH_ready (rs := [4]) (by kernel_rfl) (by simp) ?_
        refine AllReadyH.cons rfl (fun KK hKK => ?_) AllReadyH.nil
        go_simp
        (go_at_call 70; ((with_reducible refine (cS _).mono ?_); rintro e w5 ⟨rfl, hb5⟩; have Bn : Below W3.heap.size W3 w5 := bel_trans Bn hb5))
        refine hKK.out _ _ (by exact HQ.out _ (gr_of g Bn)) (fun hHeld => ?_)
        clear hKK KK
        (try simp only [List.getElem_toArray, List.getElem_cons_succ, List.getElem_cons_zero, Act.put, List.setIfInBounds_toArray, List.set_cons_zero, List.set_cons_succ])
        refine wpAnyH_take (i := 5) (v := ?_) rfl (by kernel_rfl) (by kernel_rfl) (by kernel_rfl) (fun _ _ _ h => h) (Or.inl ⟨by rfl, ?hy⟩) (by assumption) ?_
        case hy => (intro w hSw; (try dsimp only at hSw); go_simp; try (with_reducible rfl))
        (try simp only [List.getElem_toArray, List.getElem_cons_succ, List.getElem_cons_zero, Act.put, List.setIfInBounds_toArray, List.set_cons_zero, List.set_cons_succ])
        refine wpAnyH_take (i := 6) (v := ?_) rfl (by kernel_rfl) (by kernel_rfl) (by kernel_rfl) (fun _ _ _ h => h) (Or.inl ⟨by rfl, ?hy⟩) (by assumption) ?_
        case hy => (intro w hSw; (try dsimp only at hSw); go_simp; try (with_reducible rfl))
        (try simp only [List.getElem_toArray, List.getElem_cons_succ, List.getElem_cons_zero, Act.put, List.setIfInBounds_toArray, List.set_cons_zero, List.set_cons_succ])
        refine wpAnyH_take (i := 7) (v := ?_) rfl (by kernel_rfl) (by kernel_rfl) (by kernel_rfl) (fun _ _ _ h => h) (Or.inl ⟨by rfl, ?hy⟩) (by assumption) ?_
        case hy => (intro w hSw; (try dsimp only at hSw); go_simp; try (with_reducible rfl))
        (try simp only [List.getElem_toArray, List.getElem_cons_succ, List.getElem_cons_zero, Act.put, List.setIfInBounds_toArray, List.set_cons_zero, List.set_cons_succ])
        refine wpAnyH_take (i := 8) (v := ?_) rfl (by kernel_rfl) (by kernel_rfl) (by kernel_rfl) (fun _ _ _ h => h) (Or.inl ⟨by rfl, ?hy⟩) (by assumption) ?_
        case hy => (intro w hSw; (try dsimp only at hSw); go_simp; try (with_reducible rfl))
        (try simp only [List.getElem_toArray, List.getElem_cons_succ, List.getElem_cons_zero, Act.put, List.setIfInBounds_toArray, List.set_cons_zero, List.set_cons_succ])
        refine wpAnyH_take (i := 9) (v := ?_) rfl (by kernel_rfl) (by kernel_rfl) (by kernel_rfl) (fun _ _ _ h => h) (Or.inl ⟨by rfl, ?hy⟩) (by assumption) ?_
        case hy => (intro w hSw; (try dsimp only at hSw); go_simp; try (with_reducible rfl))
        (try simp only [List.getElem_toArray, List.getElem_cons_succ, List.getElem_cons_zero, Act.put, List.setIfInBounds_toArray, List.set_cons_zero, List.set_cons_succ])
        refine wpAnyH_take (i := 10) (v := ?_) rfl (by kernel_rfl) (by kernel_rfl) (by kernel_rfl) (fun _ _ _ h => h) (Or.inl ⟨by rfl, ?hy⟩) (by assumption) ?_
        case hy => (intro w hSw; (try dsimp only at hSw); go_simp; try (with_reducible rfl))
        (try simp only [List.getElem_toArray, List.getElem_cons_succ, List.getElem_cons_zero, Act.put, List.setIfInBounds_toArray, List.set_cons_zero, List.set_cons_succ])
        refine wpAnyH_ready (rs := [11]) (by kernel_rfl) (by simp) ?_
        refine AllReadyH.cons rfl (fun KK hKK => ?_) AllReadyH.nil
        go_simp
        (go_at_call 72; ((with_reducible refine (cE _ Bn (by trivial)).mono ?_); rintro e w6 ⟨rfl, hm6, hg6⟩; have Gn : W3.grownBy w6 (some g) := (gr_of g Bn).trans hg6; clear hm6))
        refine hKK.out _ _ (by exact HQ.out _ Gn) (fun hHeld => ?_)
        clear hKK KK
        (try simp only [List.getElem_toArray, List.getElem_cons_succ, List.getElem_cons_zero, Act.put, List.setIfInBounds_toArray, List.set_cons_zero, List.set_cons_succ])
        refine wpAnyH_take (i := 12) (v := ?_) rfl (by kernel_rfl) (by kernel_rfl) (by kernel_rfl) (fun _ _ _ h => h) (Or.inl ⟨by rfl, ?hy⟩) (by assumption) ?_
        case hy => (intro w hSw; (try dsimp only at hSw); go_simp; try (with_reducible rfl))
        (try simp only [List.getElem_toArray, List.getElem_cons_succ, List.getElem_cons_zero, Act.put, List.setIfInBounds_toArray, List.set_cons_zero, List.set_cons_succ])
        refine wpAnyH_take (i := 13) (v := ?_) rfl (by kernel_rfl) (by kernel_rfl) (by kernel_rfl) (fun _ _ _ h => h) (Or.inl ⟨by rfl, ?hy⟩) (by assumption) ?_
        case hy => (intro w hSw; (try dsimp only at hSw); go_simp; try (with_reducible rfl))
        (try simp only [List.getElem_toArray, List.getElem_cons_succ, List.getElem_cons_zero, Act.put, List.setIfInBounds_toArray, List.set_cons_zero, List.set_cons_succ])
        refine wpAnyH_take (i := 14) (v := undef) rfl (by kernel_rfl) (by kernel_rfl) (by kernel_rfl) (fun _ _ _ h => h) (Or.inr ⟨by rfl, rfl⟩) (by assumption) ?_
        (try simp only [List.getElem_toArray, List.getElem_cons_succ, List.getElem_cons_zero, Act.put, List.setIfInBounds_toArray, List.set_cons_zero, List.set_cons_succ])
        refine wpAnyH_take (i := 15) (v := undef) rfl (by kernel_rfl) (by kernel_rfl) (by kernel_rfl) (fun _ _ _ h => h) (Or.inr ⟨by rfl, rfl⟩) (by assumption) ?_
        (try simp only [List.getElem_toArray, List.getElem_cons_succ, List.getElem_cons_zero, Act.put, List.setIfInBounds_toArray, List.set_cons_zero, List.set_cons_succ])
        refine wpAnyH_take (i := 16) (v := undef) rfl (by kernel_rfl) (by kernel_rfl) (by kernel_rfl) (fun _ _ _ h => h) (Or.inr ⟨by rfl, rfl⟩) (by assumption) ?_
        (try simp only [List.getElem_toArray, List.getElem_cons_succ, List.getElem_cons_zero, Act.put, List.setIfInBounds_toArray, List.set_cons_zero, List.set_cons_succ])
        refine wpAnyH_take (i := 17) (v := undef) rfl (by kernel_rfl) (by kernel_rfl) (by kernel_rfl) (fun _ _ _ h => h) (Or.inr ⟨by rfl, rfl⟩) (by assumption) ?_
        (try simp only [List.getElem_toArray, List.getElem_cons_succ, List.getElem_cons_zero, Act.put, List.setIfInBounds_toArray, List.set_cons_zero, List.set_cons_succ])
        refine wpAnyH_take (i := 18) (v := undef) rfl (by kernel_rfl) (by kernel_rfl) (by kernel_rfl) (fun _ _ _ h => h) (Or.inr ⟨by rfl, rfl⟩) (by assumption) ?_
        (try simp only [List.getElem_toArray, List.getElem_cons_succ, List.getElem_cons_zero, Act.put, List.setIfInBounds_toArray, List.set_cons_zero, List.set_cons_succ])
        refine wpAnyH_take (i := 19) (v := undef) rfl (by kernel_rfl) (by kernel_rfl) (by kernel_rfl) (fun _ _ _ h => h) (Or.inr ⟨by rfl, rfl⟩) (by assumption) ?_
        (try simp only [List.getElem_toArray, List.getElem_cons_succ, List.getElem_cons_zero, Act.put, List.setIfInBounds_toArray, List.set_cons_zero, List.set_cons_succ])
        refine wpAnyH_take (i := 20) (v := ?_) rfl (by kernel_rfl) (by kernel_rfl) (by kernel_rfl) (fun _ _ _ h => h) (Or.inl ⟨by rfl, ?hy⟩) (by assumption) ?_
        case hy => (intro w hSw; (try dsimp only at hSw); go_simp; try (with_reducible rfl))
        (try simp only [List.getElem_toArray, List.getElem_cons_succ, List.getElem_cons_zero, Act.put, List.setIfInBounds_toArray, List.set_cons_zero, List.set_cons_succ])
        refine wpAnyH_take (i := 21) (v := ?_) rfl (by kernel_rfl) (by kernel_rfl) (by kernel_rfl) (fun _ _ _ h => h) (Or.inl ⟨by rfl, ?hy⟩) (by assumption) ?_
        case hy => (intro w hSw; (try dsimp only at hSw); go_simp; try (with_reducible rfl))
        (try simp only [List.getElem_toArray, List.getElem_cons_succ, List.getElem_cons_zero, Act.put, List.setIfInBounds_toArray, List.set_cons_zero, List.set_cons_succ])
        (try simp only [List.getElem_toArray, List.getElem_cons_succ, List.getElem_cons_zero, Act.put, List.setIfInBounds_toArray, List.set_cons_zero, List.set_cons_succ])
        refine wpAnyH_done (by kernel_rfl) ?_ _
        refine NoPanic.normal ?_
        go_wp2
        go_ret
        exact ⟨by rw [hR.out]; rfl, fun l' h => (by rw [hR.out] at h; cases h), HG3.out.trans Gn⟩
      | some l1 =>
        have hl1 := HLen.out l1 rfl
        by_cases hn : n = n'
        · subst hn
          have hR := HYes.out l1 rfl rfl rfl rfl
          clear cEn cGn HYes HNo
          go_enter Tryz.func41, Tryz.ntmps41
          go_wp2_with fail
          refine wp_region_noPanic ?_
          refine wp_region_held_drew (S := fun w' => w'.cell? ⟨W.heap.size, 0, none⟩ = some (.int .i64 op) ∧ w'.cell? ⟨W.heap.size, 1, none⟩ = some (.string mp) ∧ w'.cell? ⟨W.heap.size, 2, none⟩ = some (.string zp) ∧ w'.cell? ⟨W.heap.size, 3, none⟩ = some (.slice ka kn kc) ∧ w'.cell? ⟨W.heap.size, 4, none⟩ = some (.slice a n c) ∧ w'.cell? ⟨W.heap.size + 1, 0, none⟩ = some (.int .i64 ot) ∧ w'.cell? ⟨W.heap.size + 1, 1, none⟩ = some (.string mt) ∧ w'.cell? ⟨W.heap.size + 1, 2, none⟩ = some (.string zt) ∧ w'.cell? ⟨W.heap.size + 1, 3, none⟩ = some (.slice ka' kn kc') ∧ w'.cell? ⟨W.heap.size + 1, 4, none⟩ = some (.slice a' n c') ∧ w'.cell? ⟨W2.heap.size, 0, none⟩ = some (.func (.func 75) #[] #[.pointer (some ⟨bv, 0, none⟩), .pointer (some ⟨bm, 0, none⟩), .pointer (some ⟨bo, 0, none⟩)])) (by kernel_rfl) (by exact HQ.out _ (gr_of g Bd)) (fun hHeld => ?_)
          refine wpAnyH_take (i := 0) (v := ?_) rfl (by kernel_rfl) (by kernel_rfl) (by kernel_rfl) (fun _ _ _ h => h) (Or.inl ⟨by rfl, ?hy⟩) (by assumption) ?_
          case hy => (intro w hSw; (try dsimp only at hSw); go_simp; try (with_reducible rfl))
          (try simp only [List.getElem_toArray, List.getElem_cons_succ, List.getElem_cons_zero, Act.put, List.setIfInBounds_toArray, List.set_cons_zero, List.set_cons_succ])
          refine wpAnyH_take (i := 2) (v := ?_) rfl (by kernel_rfl) (by kernel_rfl) (by kernel_rfl) (fun _ _ _ h => h) (Or.inl ⟨by rfl, ?hy⟩) (by assumption) ?_
          case hy => (intro w hSw; (try dsimp only at hSw); go_simp; try (with_reducible rfl))
          (try simp only [List.getElem_toArray, List.getElem_cons_succ, List.getElem_cons_zero, Act.put, List.setIfInBounds_toArray, List.set_cons_zero, List.set_cons_succ])
          refine wpAnyH_ready (rs := [1]) (by kernel_rfl) (by simp) ?_
          refine AllReadyH.cons rfl (fun KK hKK => ?_) AllReadyH.nil
          go_simp
          (go_at_call 71; ((with_reducible refine (cB _ _ _ _ _ _ _ _ _ _).mono ?_); rintro e w4 ⟨rfl, hb4⟩; have Bn : Below W3.heap.size W3 w4 := bel_trans Bd hb4))
          refine hKK.out _ _ (by exact HQ.out _ (gr_of g Bn)) (fun hHeld => ?_)
          clear hKK KK
          (try simp only [List.getElem_toArray, List.getElem_cons_succ, List.getElem_cons_zero, Act.put, List.setIfInBounds_toArray, List.set_cons_zero, List.set_cons_succ])
          refine wpAnyH_ready (rs := [3]) (by kernel_rfl) (by simp) ?_
          refine AllReadyH.cons rfl (fun KK hKK => ?_) AllReadyH.nil
          go_simp
          (go_at_call 71; ((with_reducible refine (cB _ _ _ _ _ _ _ _ _ _).mono ?_); rintro e w4 ⟨rfl, hb4⟩; have Bn : Below W3.heap.size W3 w4 := bel_trans Bn hb4))
          refine hKK.out _ _ (by exact HQ.out _ (gr_of g Bn)) (fun hHeld => ?_)
          clear hKK KK
          (try simp only [List.getElem_toArray, List.getElem_cons_succ, List.getElem_cons_zero, Act.put, List.setIfInBounds_toArray, List.set_cons_zero, List.set_cons_succ])
          refine wpAnyH_ready (rs := [4]) (by kernel_rfl) (by simp) ?_
          refine AllReadyH.cons rfl (fun KK hKK => ?_) AllReadyH.nil
          go_simp
          (go_at_call 70; ((with_reducible refine (cS _).mono ?_); rintro e w5 ⟨rfl, hb5⟩; have Bn : Below W3.heap.size W3 w5 := bel_trans Bn hb5))
          refine hKK.out _ _ (by exact HQ.out _ (gr_of g Bn)) (fun hHeld => ?_)
          clear hKK KK
          (try simp only [List.getElem_toArray, List.getElem_cons_succ, List.getElem_cons_zero, Act.put, List.setIfInBounds_toArray, List.set_cons_zero, List.set_cons_succ])
          refine wpAnyH_take (i := 5) (v := ?_) rfl (by kernel_rfl) (by kernel_rfl) (by kernel_rfl) (fun _ _ _ h => h) (Or.inl ⟨by rfl, ?hy⟩) (by assumption) ?_
          case hy => (intro w hSw; (try dsimp only at hSw); go_simp; try (with_reducible rfl))
          (try simp only [List.getElem_toArray, List.getElem_cons_succ, List.getElem_cons_zero, Act.put, List.setIfInBounds_toArray, List.set_cons_zero, List.set_cons_succ])
          refine wpAnyH_take (i := 6) (v := ?_) rfl (by kernel_rfl) (by kernel_rfl) (by kernel_rfl) (fun _ _ _ h => h) (Or.inl ⟨by rfl, ?hy⟩) (by assumption) ?_
          case hy => (intro w hSw; (try dsimp only at hSw); go_simp; try (with_reducible rfl))
          (try simp only [List.getElem_toArray, List.getElem_cons_succ, List.getElem_cons_zero, Act.put, List.setIfInBounds_toArray, List.set_cons_zero, List.set_cons_succ])
          refine wpAnyH_take (i := 7) (v := ?_) rfl (by kernel_rfl) (by kernel_rfl) (by kernel_rfl) (fun _ _ _ h => h) (Or.inl ⟨by rfl, ?hy⟩) (by assumption) ?_
          case hy => (intro w hSw; (try dsimp only at hSw); go_simp; try (with_reducible rfl))
          (try simp only [List.getElem_toArray, List.getElem_cons_succ, List.getElem_cons_zero, Act.put, List.setIfInBounds_toArray, List.set_cons_zero, List.set_cons_succ])
          refine wpAnyH_take (i := 8) (v := ?_) rfl (by kernel_rfl) (by kernel_rfl) (by kernel_rfl) (fun _ _ _ h => h) (Or.inl ⟨by rfl, ?hy⟩) (by assumption) ?_
          case hy => (intro w hSw; (try dsimp only at hSw); go_simp; try (with_reducible rfl))
          (try simp only [List.getElem_toArray, List.getElem_cons_succ, List.getElem_cons_zero, Act.put, List.setIfInBounds_toArray, List.set_cons_zero, List.set_cons_succ])
          refine wpAnyH_take (i := 9) (v := ?_) rfl (by kernel_rfl) (by kernel_rfl) (by kernel_rfl) (fun _ _ _ h => h) (Or.inl ⟨by rfl, ?hy⟩) (by assumption) ?_
          case hy => (intro w hSw; (try dsimp only at hSw); go_simp; try (with_reducible rfl))
          (try simp only [List.getElem_toArray, List.getElem_cons_succ, List.getElem_cons_zero, Act.put, List.setIfInBounds_toArray, List.set_cons_zero, List.set_cons_succ])
          refine wpAnyH_take (i := 10) (v := ?_) rfl (by kernel_rfl) (by kernel_rfl) (by kernel_rfl) (fun _ _ _ h => h) (Or.inl ⟨by rfl, ?hy⟩) (by assumption) ?_
          case hy => (intro w hSw; (try dsimp only at hSw); go_simp; try (with_reducible rfl))
          (try simp only [List.getElem_toArray, List.getElem_cons_succ, List.getElem_cons_zero, Act.put, List.setIfInBounds_toArray, List.set_cons_zero, List.set_cons_succ])
          refine wpAnyH_ready (rs := [11]) (by kernel_rfl) (by simp) ?_
          refine AllReadyH.cons rfl (fun KK hKK => ?_) AllReadyH.nil
          go_simp
          (go_at_call 72; ((with_reducible refine (cE _ Bn (by trivial)).mono ?_); rintro e w6 ⟨rfl, hm6, hg6⟩; have Gn : W3.grownBy w6 (some g) := (gr_of g Bn).trans hg6; have HM6 := Lib.hid (hm6 l1 rfl); clear hm6))
          refine hKK.out _ _ (by exact HQ.out _ Gn) (fun hHeld => ?_)
          clear hKK KK
          (try simp only [List.getElem_toArray, List.getElem_cons_succ, List.getElem_cons_zero, Act.put, List.setIfInBounds_toArray, List.set_cons_zero, List.set_cons_succ])
          refine wpAnyH_take (i := 12) (v := ?_) rfl (by kernel_rfl) (by kernel_rfl) (by kernel_rfl) (fun _ _ _ h => h) (Or.inl ⟨by rfl, ?hy⟩) (by assumption) ?_
          case hy => (intro w hSw; (try dsimp only at hSw); go_simp; try (with_reducible rfl))
          (try simp only [List.getElem_toArray, List.getElem_cons_succ, List.getElem_cons_zero, Act.put, List.setIfInBounds_toArray, List.set_cons_zero, List.set_cons_succ])
          refine wpAnyH_take (i := 13) (v := ?_) rfl (by kernel_rfl) (by kernel_rfl) (by kernel_rfl) (fun _ _ _ h => h) (Or.inl ⟨by rfl, ?hy⟩) (by assumption) ?_
          case hy => (intro w hSw; (try dsimp only at hSw); go_simp; try (with_reducible rfl))
          (try simp only [List.getElem_toArray, List.getElem_cons_succ, List.getElem_cons_zero, Act.put, List.setIfInBounds_toArray, List.set_cons_zero, List.set_cons_succ])
          refine wpAnyH_take (i := 14) (v := ?_) rfl (by kernel_rfl) (by kernel_rfl) (by kernel_rfl) (fun _ _ _ h => h) (Or.inl ⟨by rfl, ?hy⟩) (by assumption) ?_
          case hy => (intro w hSw; (try dsimp only at hSw); go_simp; try (with_reducible rfl))
          (try simp only [List.getElem_toArray, List.getElem_cons_succ, List.getElem_cons_zero, Act.put, List.setIfInBounds_toArray, List.set_cons_zero, List.set_cons_succ])
          refine wpAnyH_take (i := 15) (v := ?_) rfl (by kernel_rfl) (by kernel_rfl) (by kernel_rfl) (fun _ _ _ h => h) (Or.inl ⟨by rfl, ?hy⟩) (by assumption) ?_
          case hy => (intro w hSw; (try dsimp only at hSw); go_simp; try (with_reducible rfl))
          (try simp only [List.getElem_toArray, List.getElem_cons_succ, List.getElem_cons_zero, Act.put, List.setIfInBounds_toArray, List.set_cons_zero, List.set_cons_succ])
          refine wpAnyH_take (i := 16) (v := ?_) rfl (by kernel_rfl) (by kernel_rfl) (by kernel_rfl) (fun _ _ _ h => h) (Or.inl ⟨by rfl, ?hy⟩) (by assumption) ?_
          case hy => (intro w hSw; (try dsimp only at hSw); go_simp; try (with_reducible rfl))
          (try simp only [List.getElem_toArray, List.getElem_cons_succ, List.getElem_cons_zero, Act.put, List.setIfInBounds_toArray, List.set_cons_zero, List.set_cons_succ])
          refine wpAnyH_take (i := 17) (v := ?_) rfl (by kernel_rfl) (by kernel_rfl) (by kernel_rfl) (fun _ _ _ h => h) (Or.inl ⟨by rfl, ?hy⟩) (by assumption) ?_
          case hy => (intro w hSw; (try dsimp only at hSw); go_simp; try (with_reducible rfl))
          (try simp only [List.getElem_toArray, List.getElem_cons_succ, List.getElem_cons_zero, Act.put, List.setIfInBounds_toArray, List.set_cons_zero, List.set_cons_succ])
          refine wpAnyH_take (i := 18) (v := ?_) rfl (by kernel_rfl) (by kernel_rfl) (by kernel_rfl) (fun _ _ _ h => h) (Or.inl ⟨by rfl, ?hy⟩) (by assumption) ?_
          case hy => (intro w hSw; (try dsimp only at hSw); go_simp; try (with_reducible rfl))
          (try simp only [List.getElem_toArray, List.getElem_cons_succ, List.getElem_cons_zero, Act.put, List.setIfInBounds_toArray, List.set_cons_zero, List.set_cons_succ])
          refine wpAnyH_ready (rs := [19]) (by kernel_rfl) (by simp) ?_
          refine AllReadyH.cons rfl (fun KK hKK => ?_) AllReadyH.nil
          go_simp
          (go_at_call 73; ((with_reducible refine (cG _ l1 Gn HM6.out hl1 (by trivial)).mono ?_); rintro e w7 ⟨rfl, hm7, hg7⟩; have Gn : W3.grownBy w7 (some g) := Gn.trans hg7; have HM7 := Lib.hid hm7; clear hm7))
          refine hKK.out _ _ (by exact HQ.out _ Gn) (fun hHeld => ?_)
          clear hKK KK
          (try simp only [List.getElem_toArray, List.getElem_cons_succ, List.getElem_cons_zero, Act.put, List.setIfInBounds_toArray, List.set_cons_zero, List.set_cons_succ])
          refine wpAnyH_take (i := 20) (v := ?_) rfl (by kernel_rfl) (by kernel_rfl) (by kernel_rfl) (fun _ _ _ h => h) (Or.inl ⟨by rfl, ?hy⟩) (by assumption) ?_
          case hy => (intro w hSw; (try dsimp only at hSw); go_simp; try (with_reducible rfl))
          (try simp only [List.getElem_toArray, List.getElem_cons_succ, List.getElem_cons_zero, Act.put, List.setIfInBounds_toArray, List.set_cons_zero, List.set_cons_succ])
          refine wpAnyH_take (i := 21) (v := ?_) rfl (by kernel_rfl) (by kernel_rfl) (by kernel_rfl) (fun _ _ _ h => h) (Or.inl ⟨by rfl, ?hy⟩) (by assumption) ?_
          case hy => (intro w hSw; (try dsimp only at hSw); go_simp; try (with_reducible rfl))
          (try simp only [List.getElem_toArray, List.getElem_cons_succ, List.getElem_cons_zero, Act.put, List.setIfInBounds_toArray, List.set_cons_zero, List.set_cons_succ])
          (try simp only [List.getElem_toArray, List.getElem_cons_succ, List.getElem_cons_zero, Act.put, List.setIfInBounds_toArray, List.set_cons_zero, List.set_cons_succ])
          refine wpAnyH_done (by kernel_rfl) ?_ _
          refine NoPanic.normal ?_
          go_wp2
          go_ret
          exact ⟨by rw [hR.out]; (try rfl), fun l' h => (by rw [hR.out] at h; exact HM7.out l' h), HG3.out.trans Gn⟩
        · have hR := HNo.out (.inr (.inr (.inl hn)))
          clear cEn cG HYes HNo
          go_enter Tryz.func41, Tryz.ntmps41
          go_wp2_with fail
          refine wp_region_noPanic ?_
          refine wp_region_held_drew (S := fun w' => w'.cell? ⟨W.heap.size, 0, none⟩ = some (.int .i64 op) ∧ w'.cell? ⟨W.heap.size, 1, none⟩ = some (.string mp) ∧ w'.cell? ⟨W.heap.size, 2, none⟩ = some (.string zp) ∧ w'.cell? ⟨W.heap.size, 3, none⟩ = some (.slice ka kn kc) ∧ w'.cell? ⟨W.heap.size, 4, none⟩ = some (.slice a n c) ∧ w'.cell? ⟨W.heap.size + 1, 0, none⟩ = some (.int .i64 ot) ∧ w'.cell? ⟨W.heap.size + 1, 1, none⟩ = some (.string mt) ∧ w'.cell? ⟨W.heap.size + 1, 2, none⟩ = some (.string zt) ∧ w'.cell? ⟨W.heap.size + 1, 3, none⟩ = some (.slice ka' kn kc') ∧ w'.cell? ⟨W.heap.size + 1, 4, none⟩ = some (.slice a' n' c') ∧ w'.cell? ⟨W2.heap.size, 0, none⟩ = some (.func (.func 75) #[] #[.pointer (some ⟨bv, 0, none⟩), .pointer (some ⟨bm, 0, none⟩), .pointer (some ⟨bo, 0, none⟩)])) (by kernel_rfl) (by exact HQ.out _ (gr_of g Bd)) (fun hHeld => ?_)
          refine wpAnyH_take (i := 0) (v := ?_) rfl (by kernel_rfl) (by kernel_rfl) (by kernel_rfl) (fun _ _ _ h => h) (Or.inl ⟨by rfl, ?hy⟩) (by assumption) ?_
          case hy => (intro w hSw; (try dsimp only at hSw); go_simp; try (with_reducible rfl))
          (try simp only [List.getElem_toArray, List.getElem_cons_succ, List.getElem_cons_zero, Act.put, List.setIfInBounds_toArray, List.set_cons_zero, List.set_cons_succ])
          refine wpAnyH_take (i := 2) (v := ?_) rfl (by kernel_rfl) (by kernel_rfl) (by kernel_rfl) (fun _ _ _ h => h) (Or.inl ⟨by rfl, ?hy⟩) (by assumption) ?_
          case hy => (intro w hSw; (try dsimp only at hSw); go_simp; try (with_reducible rfl))
          (try simp only [List.getElem_toArray, List.getElem_cons_succ, List.getElem_cons_zero, Act.put, List.setIfInBounds_toArray, List.set_cons_zero, List.set_cons_succ])
          refine wpAnyH_ready (rs := [1]) (by kernel_rfl) (by simp) ?_
          refine AllReadyH.cons rfl (fun KK hKK => ?_) AllReadyH.nil
          go_simp
          (go_at_call 71; ((with_reducible refine (cB _ _ _ _ _ _ _ _ _ _).mono ?_); rintro e w4 ⟨rfl, hb4⟩; have Bn : Below W3.heap.size W3 w4 := bel_trans Bd hb4))
          refine hKK.out _ _ (by exact HQ.out _ (gr_of g Bn)) (fun hHeld => ?_)
          clear hKK KK
          (try simp only [List.getElem_toArray, List.getElem_cons_succ, List.getElem_cons_zero, Act.put, List.setIfInBounds_toArray, List.set_cons_zero, List.set_cons_succ])
          refine wpAnyH_ready (rs := [3]) (by kernel_rfl) (by simp) ?_
          refine AllReadyH.cons rfl (fun KK hKK => ?_) AllReadyH.nil
          go_simp
          (go_at_call 71; ((with_reducible refine (cB _ _ _ _ _ _ _ _ _ _).mono ?_); rintro e w4 ⟨rfl, hb4⟩; have Bn : Below W3.heap.size W3 w4 := bel_trans Bn hb4))
          refine hKK.out _ _ (by exact HQ.out _ (gr_of g Bn)) (fun hHeld => ?_)
          clear hKK KK
          (try simp only [List.getElem_toArray, List.getElem_cons_succ, List.getElem_cons_zero, Act.put, List.setIfInBounds_toArray, List.set_cons_zero, List.set_cons_succ])
          refine wpAnyH_ready (rs := [4]) (by kernel_rfl) (by simp) ?_
          refine AllReadyH.cons rfl (fun KK hKK => ?_) AllReadyH.nil
          go_simp
          (go_at_call 70; ((with_reducible refine (cS _).mono ?_); rintro e w5 ⟨rfl, hb5⟩; have Bn : Below W3.heap.size W3 w5 := bel_trans Bn hb5))
          refine hKK.out _ _ (by exact HQ.out _ (gr_of g Bn)) (fun hHeld => ?_)
          clear hKK KK
          (try simp only [List.getElem_toArray, List.getElem_cons_succ, List.getElem_cons_zero, Act.put, List.setIfInBounds_toArray, List.set_cons_zero, List.set_cons_succ])
          refine wpAnyH_take (i := 5) (v := ?_) rfl (by kernel_rfl) (by kernel_rfl) (by kernel_rfl) (fun _ _ _ h => h) (Or.inl ⟨by rfl, ?hy⟩) (by assumption) ?_
          case hy => (intro w hSw; (try dsimp only at hSw); go_simp; try (with_reducible rfl))
          (try simp only [List.getElem_toArray, List.getElem_cons_succ, List.getElem_cons_zero, Act.put, List.setIfInBounds_toArray, List.set_cons_zero, List.set_cons_succ])
          refine wpAnyH_take (i := 6) (v := ?_) rfl (by kernel_rfl) (by kernel_rfl) (by kernel_rfl) (fun _ _ _ h => h) (Or.inl ⟨by rfl, ?hy⟩) (by assumption) ?_
          case hy => (intro w hSw; (try dsimp only at hSw); go_simp; try (with_reducible rfl))
          (try simp only [List.getElem_toArray, List.getElem_cons_succ, List.getElem_cons_zero, Act.put, List.setIfInBounds_toArray, List.set_cons_zero, List.set_cons_succ])
          refine wpAnyH_take (i := 7) (v := ?_) rfl (by kernel_rfl) (by kernel_rfl) (by kernel_rfl) (fun _ _ _ h => h) (Or.inl ⟨by rfl, ?hy⟩) (by assumption) ?_
          case hy => (intro w hSw; (try dsimp only at hSw); go_simp; try (with_reducible rfl))
          (try simp only [List.getElem_toArray, List.getElem_cons_succ, List.getElem_cons_zero, Act.put, List.setIfInBounds_toArray, List.set_cons_zero, List.set_cons_succ])
          refine wpAnyH_take (i := 8) (v := ?_) rfl (by kernel_rfl) (by kernel_rfl) (by kernel_rfl) (fun _ _ _ h => h) (Or.inl ⟨by rfl, ?hy⟩) (by assumption) ?_
          case hy => (intro w hSw; (try dsimp only at hSw); go_simp; try (with_reducible rfl))
          (try simp only [List.getElem_toArray, List.getElem_cons_succ, List.getElem_cons_zero, Act.put, List.setIfInBounds_toArray, List.set_cons_zero, List.set_cons_succ])
          refine wpAnyH_take (i := 9) (v := ?_) rfl (by kernel_rfl) (by kernel_rfl) (by kernel_rfl) (fun _ _ _ h => h) (Or.inl ⟨by rfl, ?hy⟩) (by assumption) ?_
          case hy => (intro w hSw; (try dsimp only at hSw); go_simp; try (with_reducible rfl))
          (try simp only [List.getElem_toArray, List.getElem_cons_succ, List.getElem_cons_zero, Act.put, List.setIfInBounds_toArray, List.set_cons_zero, List.set_cons_succ])
          refine wpAnyH_take (i := 10) (v := ?_) rfl (by kernel_rfl) (by kernel_rfl) (by kernel_rfl) (fun _ _ _ h => h) (Or.inl ⟨by rfl, ?hy⟩) (by assumption) ?_
          case hy => (intro w hSw; (try dsimp only at hSw); go_simp; try (with_reducible rfl))
          (try simp only [List.getElem_toArray, List.getElem_cons_succ, List.getElem_cons_zero, Act.put, List.setIfInBounds_toArray, List.set_cons_zero, List.set_cons_succ])
          refine wpAnyH_ready (rs := [11]) (by kernel_rfl) (by simp) ?_
          refine AllReadyH.cons rfl (fun KK hKK => ?_) AllReadyH.nil
          go_simp
          (go_at_call 72; ((with_reducible refine (cE _ Bn (by trivial)).mono ?_); rintro e w6 ⟨rfl, hm6, hg6⟩; have Gn : W3.grownBy w6 (some g) := (gr_of g Bn).trans hg6; have HM6 := Lib.hid (hm6 l1 rfl); clear hm6))
          refine hKK.out _ _ (by exact HQ.out _ Gn) (fun hHeld => ?_)
          clear hKK KK
          (try simp only [List.getElem_toArray, List.getElem_cons_succ, List.getElem_cons_zero, Act.put, List.setIfInBounds_toArray, List.set_cons_zero, List.set_cons_succ])
          refine wpAnyH_take (i := 12) (v := ?_) rfl (by kernel_rfl) (by kernel_rfl) (by kernel_rfl) (fun _ _ _ h => h) (Or.inl ⟨by rfl, ?hy⟩) (by assumption) ?_
          case hy => (intro w hSw; (try dsimp only at hSw); go_simp; try (with_reducible rfl))
          (try simp only [List.getElem_toArray, List.getElem_cons_succ, List.getElem_cons_zero, Act.put, List.setIfInBounds_toArray, List.set_cons_zero, List.set_cons_succ])
          refine wpAnyH_take (i := 13) (v := ?_) rfl (by kernel_rfl) (by kernel_rfl) (by kernel_rfl) (fun _ _ _ h => h) (Or.inl ⟨by rfl, ?hy⟩) (by assumption) ?_
          case hy => (intro w hSw; (try dsimp only at hSw); go_simp; try (with_reducible rfl))
          (try simp only [List.getElem_toArray, List.getElem_cons_succ, List.getElem_cons_zero, Act.put, List.setIfInBounds_toArray, List.set_cons_zero, List.set_cons_succ])
          refine wpAnyH_take (i := 14) (v := ?_) rfl (by kernel_rfl) (by kernel_rfl) (by kernel_rfl) (fun _ _ _ h => h) (Or.inl ⟨by rfl, ?hy⟩) (by assumption) ?_
          case hy => (intro w hSw; (try dsimp only at hSw); go_simp; try (with_reducible rfl))
          (try simp only [List.getElem_toArray, List.getElem_cons_succ, List.getElem_cons_zero, Act.put, List.setIfInBounds_toArray, List.set_cons_zero, List.set_cons_succ])
          refine wpAnyH_take (i := 15) (v := ?_) rfl (by kernel_rfl) (by kernel_rfl) (by kernel_rfl) (fun _ _ _ h => h) (Or.inl ⟨by rfl, ?hy⟩) (by assumption) ?_
          case hy => (intro w hSw; (try dsimp only at hSw); go_simp; try (with_reducible rfl))
          (try simp only [List.getElem_toArray, List.getElem_cons_succ, List.getElem_cons_zero, Act.put, List.setIfInBounds_toArray, List.set_cons_zero, List.set_cons_succ])
          refine wpAnyH_take (i := 16) (v := ?_) rfl (by kernel_rfl) (by kernel_rfl) (by kernel_rfl) (fun _ _ _ h => h) (Or.inl ⟨by rfl, ?hy⟩) (by assumption) ?_
          case hy => (intro w hSw; (try dsimp only at hSw); go_simp; try (with_reducible rfl))
          (try simp only [List.getElem_toArray, List.getElem_cons_succ, List.getElem_cons_zero, Act.put, List.setIfInBounds_toArray, List.set_cons_zero, List.set_cons_succ])
          refine wpAnyH_take (i := 17) (v := ?_) rfl (by kernel_rfl) (by kernel_rfl) (by kernel_rfl) (fun _ _ _ h => h) (Or.inl ⟨by rfl, ?hy⟩) (by assumption) ?_
          case hy => (intro w hSw; (try dsimp only at hSw); go_simp; try (with_reducible rfl))
          (try simp only [List.getElem_toArray, List.getElem_cons_succ, List.getElem_cons_zero, Act.put, List.setIfInBounds_toArray, List.set_cons_zero, List.set_cons_succ])
          refine wpAnyH_take (i := 18) (v := ?_) rfl (by kernel_rfl) (by kernel_rfl) (by kernel_rfl) (fun _ _ _ h => h) (Or.inl ⟨by rfl, ?hy⟩) (by assumption) ?_
          case hy => (intro w hSw; (try dsimp only at hSw); go_simp; try (with_reducible rfl))
          (try simp only [List.getElem_toArray, List.getElem_cons_succ, List.getElem_cons_zero, Act.put, List.setIfInBounds_toArray, List.set_cons_zero, List.set_cons_succ])
          refine wpAnyH_ready (rs := [19]) (by kernel_rfl) (by simp) ?_
          refine AllReadyH.cons rfl (fun KK hKK => ?_) AllReadyH.nil
          go_simp
          (go_at_call 73; ((with_reducible refine (cGn _ hn).mono ?_); rintro e w7 ⟨rfl, rfl⟩))
          refine hKK.out _ _ (by exact HQ.out _ Gn) (fun hHeld => ?_)
          clear hKK KK
          (try simp only [List.getElem_toArray, List.getElem_cons_succ, List.getElem_cons_zero, Act.put, List.setIfInBounds_toArray, List.set_cons_zero, List.set_cons_succ])
          refine wpAnyH_take (i := 20) (v := ?_) rfl (by kernel_rfl) (by kernel_rfl) (by kernel_rfl) (fun _ _ _ h => h) (Or.inl ⟨by rfl, ?hy⟩) (by assumption) ?_
          case hy => (intro w hSw; (try dsimp only at hSw); go_simp; try (with_reducible rfl))
          (try simp only [List.getElem_toArray, List.getElem_cons_succ, List.getElem_cons_zero, Act.put, List.setIfInBounds_toArray, List.set_cons_zero, List.set_cons_succ])
          refine wpAnyH_take (i := 21) (v := ?_) rfl (by kernel_rfl) (by kernel_rfl) (by kernel_rfl) (fun _ _ _ h => h) (Or.inl ⟨by rfl, ?hy⟩) (by assumption) ?_
          case hy => (intro w hSw; (try dsimp only at hSw); go_simp; try (with_reducible rfl))
          (try simp only [List.getElem_toArray, List.getElem_cons_succ, List.getElem_cons_zero, Act.put, List.setIfInBounds_toArray, List.set_cons_zero, List.set_cons_succ])
          (try simp only [List.getElem_toArray, List.getElem_cons_succ, List.getElem_cons_zero, Act.put, List.setIfInBounds_toArray, List.set_cons_zero, List.set_cons_succ])
          refine wpAnyH_done (by kernel_rfl) ?_ _
          refine NoPanic.normal ?_
          go_wp2
          go_ret
          exact ⟨by rw [hR.out]; rfl, fun l' h => (by rw [hR.out] at h; cases h), HG3.out.trans Gn⟩
    · have hR := HNo.out (.inr (.inl hk))
      clear cE cG cGn HYes HNo
      go_enter Tryz.func41, Tryz.ntmps41
      go_wp2_with fail
      refine wp_region_noPanic ?_
      refine wp_region_held_drew (S := fun w' => w'.cell? ⟨W.heap.size, 0, none⟩ = some (.int .i64 op) ∧ w'.cell? ⟨W.heap.size, 1, none⟩ = some (.string mp) ∧ w'.cell? ⟨W.heap.size, 2, none⟩ = some (.string zp) ∧ w'.cell? ⟨W.heap.size, 3, none⟩ = some (.slice ka kn kc) ∧ w'.cell? ⟨W.heap.size, 4, none⟩ = some (.slice a n c) ∧ w'.cell? ⟨W.heap.size + 1, 0, none⟩ = some (.int .i64 ot) ∧ w'.cell? ⟨W.heap.size + 1, 1, none⟩ = some (.string mt) ∧ w'.cell? ⟨W.heap.size + 1, 2, none⟩ = some (.string zt) ∧ w'.cell? ⟨W.heap.size + 1, 3, none⟩ = some (.slice ka' kn' kc') ∧ w'.cell? ⟨W.heap.size + 1, 4, none⟩ = some (.slice a' n' c') ∧ w'.cell? ⟨W2.heap.size, 0, none⟩ = some (.func (.func 75) #[] #[.pointer (some ⟨bv, 0, none⟩), .pointer (some ⟨bm, 0, none⟩), .pointer (some ⟨bo, 0, none⟩)])) (by kernel_rfl) (by exact HQ.out _ (gr_of g Bd)) (fun hHeld => ?_)
      refine wpAnyH_take (i := 0) (v := ?_) rfl (by kernel_rfl) (by kernel_rfl) (by kernel_rfl) (fun _ _ _ h => h) (Or.inl ⟨by rfl, ?hy⟩) (by assumption) ?_
      case hy => (intro w hSw; (try dsimp only at hSw); go_simp; try (with_reducible rfl))
      (try simp only [List.getElem_toArray, List.getElem_cons_succ, List.getElem_cons_zero, Act.put, List.setIfInBounds_toArray, List.set_cons_zero, List.set_cons_succ])
      refine wpAnyH_take (i := 2) (v := ?_) rfl (by kernel_rfl) (by kernel_rfl) (by kernel_rfl) (fun _ _ _ h => h) (Or.inl ⟨by rfl, ?hy⟩) (by assumption) ?_
      case hy => (intro w hSw; (try dsimp only at hSw); go_simp; try (with_reducible rfl))
      (try simp only [List.getElem_toArray, List.getElem_cons_succ, List.getElem_cons_zero, Act.put, List.setIfInBounds_toArray, List.set_cons_zero, List.set_cons_succ])
      refine wpAnyH_ready (rs := [1]) (by kernel_rfl) (by simp) ?_
      refine AllReadyH.cons rfl (fun KK hKK => ?_) AllReadyH.nil
      go_simp
      (go_at_call 71; ((with_reducible refine (cB _ _ _ _ _ _ _ _ _ _).mono ?_); rintro e w4 ⟨rfl, hb4⟩; have Bn : Below W3.heap.size W3 w4 := bel_trans Bd hb4))
      refine hKK.out _ _ (by exact HQ.out _ (gr_of g Bn)) (fun hHeld => ?_)
      clear hKK KK
      (try simp only [List.getElem_toArray, List.getElem_cons_succ, List.getElem_cons_zero, Act.put, List.setIfInBounds_toArray, List.set_cons_zero, List.set_cons_succ])
      refine wpAnyH_ready (rs := [3]) (by kernel_rfl) (by simp) ?_
      refine AllReadyH.cons rfl (fun KK hKK => ?_) AllReadyH.nil
      go_simp
      (go_at_call 71; ((with_reducible refine (cB _ _ _ _ _ _ _ _ _ _).mono ?_); rintro e w4 ⟨rfl, hb4⟩; have Bn : Below W3.heap.size W3 w4 := bel_trans Bn hb4))
      refine hKK.out _ _ (by exact HQ.out _ (gr_of g Bn)) (fun hHeld => ?_)
      clear hKK KK
      (try simp only [List.getElem_toArray, List.getElem_cons_succ, List.getElem_cons_zero, Act.put, List.setIfInBounds_toArray, List.set_cons_zero, List.set_cons_succ])
      refine wpAnyH_ready (rs := [4]) (by kernel_rfl) (by simp) ?_
      refine AllReadyH.cons rfl (fun KK hKK => ?_) AllReadyH.nil
      go_simp
      (go_at_call 70; ((with_reducible refine (cS _).mono ?_); rintro e w5 ⟨rfl, hb5⟩; have Bn : Below W3.heap.size W3 w5 := bel_trans Bn hb5))
      refine hKK.out _ _ (by exact HQ.out _ (gr_of g Bn)) (fun hHeld => ?_)
      clear hKK KK
      (try simp only [List.getElem_toArray, List.getElem_cons_succ, List.getElem_cons_zero, Act.put, List.setIfInBounds_toArray, List.set_cons_zero, List.set_cons_succ])
      refine wpAnyH_take (i := 5) (v := ?_) rfl (by kernel_rfl) (by kernel_rfl) (by kernel_rfl) (fun _ _ _ h => h) (Or.inl ⟨by rfl, ?hy⟩) (by assumption) ?_
      case hy => (intro w hSw; (try dsimp only at hSw); go_simp; try (with_reducible rfl))
      (try simp only [List.getElem_toArray, List.getElem_cons_succ, List.getElem_cons_zero, Act.put, List.setIfInBounds_toArray, List.set_cons_zero, List.set_cons_succ])
      refine wpAnyH_take (i := 6) (v := ?_) rfl (by kernel_rfl) (by kernel_rfl) (by kernel_rfl) (fun _ _ _ h => h) (Or.inl ⟨by rfl, ?hy⟩) (by assumption) ?_
      case hy => (intro w hSw; (try dsimp only at hSw); go_simp; try (with_reducible rfl))
      (try simp only [List.getElem_toArray, List.getElem_cons_succ, List.getElem_cons_zero, Act.put, List.setIfInBounds_toArray, List.set_cons_zero, List.set_cons_succ])
      refine wpAnyH_take (i := 7) (v := ?_) rfl (by kernel_rfl) (by kernel_rfl) (by kernel_rfl) (fun _ _ _ h => h) (Or.inl ⟨by rfl, ?hy⟩) (by assumption) ?_
      case hy => (intro w hSw; (try dsimp only at hSw); go_simp; try (with_reducible rfl))
      (try simp only [List.getElem_toArray, List.getElem_cons_succ, List.getElem_cons_zero, Act.put, List.setIfInBounds_toArray, List.set_cons_zero, List.set_cons_succ])
      refine wpAnyH_take (i := 8) (v := ?_) rfl (by kernel_rfl) (by kernel_rfl) (by kernel_rfl) (fun _ _ _ h => h) (Or.inl ⟨by rfl, ?hy⟩) (by assumption) ?_
      case hy => (intro w hSw; (try dsimp only at hSw); go_simp; try (with_reducible rfl))
      (try simp only [List.getElem_toArray, List.getElem_cons_succ, List.getElem_cons_zero, Act.put, List.setIfInBounds_toArray, List.set_cons_zero, List.set_cons_succ])
      refine wpAnyH_take (i := 9) (v := ?_) rfl (by kernel_rfl) (by kernel_rfl) (by kernel_rfl) (fun _ _ _ h => h) (Or.inl ⟨by rfl, ?hy⟩) (by assumption) ?_
      case hy => (intro w hSw; (try dsimp only at hSw); go_simp; try (with_reducible rfl))
      (try simp only [List.getElem_toArray, List.getElem_cons_succ, List.getElem_cons_zero, Act.put, List.setIfInBounds_toArray, List.set_cons_zero, List.set_cons_succ])
      refine wpAnyH_take (i := 10) (v := ?_) rfl (by kernel_rfl) (by kernel_rfl) (by kernel_rfl) (fun _ _ _ h => h) (Or.inl ⟨by rfl, ?hy⟩) (by assumption) ?_
      case hy => (intro w hSw; (try dsimp only at hSw); go_simp; try (with_reducible rfl))
      (try simp only [List.getElem_toArray, List.getElem_cons_succ, List.getElem_cons_zero, Act.put, List.setIfInBounds_toArray, List.set_cons_zero, List.set_cons_succ])
      refine wpAnyH_ready (rs := [11]) (by kernel_rfl) (by simp) ?_
      refine AllReadyH.cons rfl (fun KK hKK => ?_) AllReadyH.nil
      go_simp
      (go_at_call 72; ((with_reducible refine (cEn _ hk).mono ?_); rintro e w6 ⟨rfl, rfl⟩))
      refine hKK.out _ _ (by exact HQ.out _ (gr_of g Bn)) (fun hHeld => ?_)
      clear hKK KK
      (try simp only [List.getElem_toArray, List.getElem_cons_succ, List.getElem_cons_zero, Act.put, List.setIfInBounds_toArray, List.set_cons_zero, List.set_cons_succ])
      refine wpAnyH_take (i := 12) (v := ?_) rfl (by kernel_rfl) (by kernel_rfl) (by kernel_rfl) (fun _ _ _ h => h) (Or.inl ⟨by rfl, ?hy⟩) (by assumption) ?_
      case hy => (intro w hSw; (try dsimp only at hSw); go_simp; try (with_reducible rfl))
      (try simp only [List.getElem_toArray, List.getElem_cons_succ, List.getElem_cons_zero, Act.put, List.setIfInBounds_toArray, List.set_cons_zero, List.set_cons_succ])
      refine wpAnyH_take (i := 13) (v := ?_) rfl (by kernel_rfl) (by kernel_rfl) (by kernel_rfl) (fun _ _ _ h => h) (Or.inl ⟨by rfl, ?hy⟩) (by assumption) ?_
      case hy => (intro w hSw; (try dsimp only at hSw); go_simp; try (with_reducible rfl))
      (try simp only [List.getElem_toArray, List.getElem_cons_succ, List.getElem_cons_zero, Act.put, List.setIfInBounds_toArray, List.set_cons_zero, List.set_cons_succ])
      refine wpAnyH_take (i := 14) (v := undef) rfl (by kernel_rfl) (by kernel_rfl) (by kernel_rfl) (fun _ _ _ h => h) (Or.inr ⟨by rfl, rfl⟩) (by assumption) ?_
      (try simp only [List.getElem_toArray, List.getElem_cons_succ, List.getElem_cons_zero, Act.put, List.setIfInBounds_toArray, List.set_cons_zero, List.set_cons_succ])
      refine wpAnyH_take (i := 15) (v := undef) rfl (by kernel_rfl) (by kernel_rfl) (by kernel_rfl) (fun _ _ _ h => h) (Or.inr ⟨by rfl, rfl⟩) (by assumption) ?_
      (try simp only [List.getElem_toArray, List.getElem_cons_succ, List.getElem_cons_zero, Act.put, List.setIfInBounds_toArray, List.set_cons_zero, List.set_cons_succ])
      refine wpAnyH_take (i := 16) (v := undef) rfl (by kernel_rfl) (by kernel_rfl) (by kernel_rfl) (fun _ _ _ h => h) (Or.inr ⟨by rfl, rfl⟩) (by assumption) ?_
      (try simp only [List.getElem_toArray, List.getElem_cons_succ, List.getElem_cons_zero, Act.put, List.setIfInBounds_toArray, List.set_cons_zero, List.set_cons_succ])
      refine wpAnyH_take (i := 17) (v := undef) rfl (by kernel_rfl) (by kernel_rfl) (by kernel_rfl) (fun _ _ _ h => h) (Or.inr ⟨by rfl, rfl⟩) (by assumption) ?_
      (try simp only [List.getElem_toArray, List.getElem_cons_succ, List.getElem_cons_zero, Act.put, List.setIfInBounds_toArray, List.set_cons_zero, List.set_cons_succ])
      refine wpAnyH_take (i := 18) (v := undef) rfl (by kernel_rfl) (by kernel_rfl) (by kernel_rfl) (fun _ _ _ h => h) (Or.inr ⟨by rfl, rfl⟩) (by assumption) ?_
      (try simp only [List.getElem_toArray, List.getElem_cons_succ, List.getElem_cons_zero, Act.put, List.setIfInBounds_toArray, List.set_cons_zero, List.set_cons_succ])
      refine wpAnyH_take (i := 19) (v := undef) rfl (by kernel_rfl) (by kernel_rfl) (by kernel_rfl) (fun _ _ _ h => h) (Or.inr ⟨by rfl, rfl⟩) (by assumption) ?_
      (try simp only [List.getElem_toArray, List.getElem_cons_succ, List.getElem_cons_zero, Act.put, List.setIfInBounds_toArray, List.set_cons_zero, List.set_cons_succ])
      refine wpAnyH_take (i := 20) (v := ?_) rfl (by kernel_rfl) (by kernel_rfl) (by kernel_rfl) (fun _ _ _ h => h) (Or.inl ⟨by rfl, ?hy⟩) (by assumption) ?_
      case hy => (intro w hSw; (try dsimp only at hSw); go_simp; try (with_reducible rfl))
      (try simp only [List.getElem_toArray, List.getElem_cons_succ, List.getElem_cons_zero, Act.put, List.setIfInBounds_toArray, List.set_cons_zero, List.set_cons_succ])
      refine wpAnyH_take (i := 21) (v := ?_) rfl (by kernel_rfl) (by kernel_rfl) (by kernel_rfl) (fun _ _ _ h => h) (Or.inl ⟨by rfl, ?hy⟩) (by assumption) ?_
      case hy => (intro w hSw; (try dsimp only at hSw); go_simp; try (with_reducible rfl))
      (try simp only [List.getElem_toArray, List.getElem_cons_succ, List.getElem_cons_zero, Act.put, List.setIfInBounds_toArray, List.set_cons_zero, List.set_cons_succ])
      (try simp only [List.getElem_toArray, List.getElem_cons_succ, List.getElem_cons_zero, Act.put, List.setIfInBounds_toArray, List.set_cons_zero, List.set_cons_succ])
      refine wpAnyH_done (by kernel_rfl) ?_ _
      refine NoPanic.normal ?_
      go_wp2
      go_ret
      exact ⟨by rw [hR.out]; rfl, fun l' h => (by rw [hR.out] at h; cases h), HG3.out.trans (gr_of g Bn)⟩
theorem fits_anyG (X : List ByteArray) (p : Cl) : FcOkG X p := Cl.ind (fits_stepG X) p
set_option maxRecDepth 100000 in
set_option maxHeartbeats 16000000 in
theorem ClaimM_anyG (X : List ByteArray) (p t : Cl) (k : SS) (a : Option Addr) (n c : Nat) (k' : SS) (a' : Option Addr) (n' c' : Nat) (aX : Option Addr) (nX cX : Nat) (w : World) (hP : ArWC w p k a n c) (hsp : smC p) (hzp : wt p ≤ 4096) (hT : ArWC w t k' a' n' c') (hzs : szMC X p t) (hzt : wt t ≤ 100000) (hX : IsS w aX nX X) (hnX : nX ≤ 1000000) (hsX : ∀ x ∈ X, x.size ≤ maxLen) :
    Calls Tryz.prog 17 #[.agg #[.int .i64 (opC p), .string (nmC p), .string (soC p), .slice k.a k.n k.c, .slice a n c], .agg #[.int .i64 (opC t), .string (nmC t), .string (soC t), .slice k'.a k'.n k'.c, .slice a' n' c'], .slice aX nX cX] w fun e w' => RtPs (matC X p [] t) w e w' := by
  obtain ⟨W2, hW2, hB2, hs2, S2, T2⟩ := cbox2 w (opC p) (nmC p) (soC p) k a n c (opC t) (nmC t) (soC t) k' a' n' c'
  have hmm := @run_makeMap Tryz.prog
  obtain ⟨wr, hwr⟩ : ∃ wr, W2.alloc (.map #[] 0) = wr := ⟨_, rfl⟩
  have Bw : Below W2.heap.size W2 wr := by rw [← hwr]; exact bel_alloc (Below.refl _ _) _
  have HMl := Lib.hid (show MapM W2.heap.size wr W2.heap.size [] from by rw [← hwr]; exact MapM.made W2.heap.size W2)
  have hgw : W2.heap.size < wr.heap.size := HMl.out.lt
  have HGood := Lib.hid (show ∀ l', matC X p [] t = some l' → good 100000 l' ∧ l'.length ≤ 10000 from fun l' h => ⟨matC_good 100000 X p [] t l' h hsp hzt ⟨trivial, fun q hq => by cases hq⟩, by have := matC_len X p [] t l' h; simp at this; omega⟩)
  have HSt := Lib.hid (show ∀ w', Below W2.heap.size W2 w' → _ from fun w' h => setOf_any X aX nX cX w' ((hX.below hB2).below h) hnX hsX)
  have HFi := Lib.hid (show ∀ (bv bm bo gs : Nat) (W' : World), Below W2.heap.size W2 W' → Ctx W2.heap.size X bv bm bo gs W2.heap.size W' → MapM W2.heap.size W' W2.heap.size [] → _ from fun bv bm bo gs W' hb hC hM => fits_anyG X p W2.heap.size bv bm bo gs W2.heap.size [] t k a n c k' a' n' c' W' hC hM (by simp; omega) hsp hzs (ArC.bel hb _ (ArWC.b hP hB2)) (ArC.bel hb _ (ArWC.b hT hB2)))
  have HPr := Lib.hid (show ∀ (l' : List Pr) (W' : World), matC X p [] t = some l' → MapM W2.heap.size W' W2.heap.size l' → W2.heap.size ≤ W'.heap.size → _ from fun l' W' h hM hB => pairs_any l' (rises_pair (HGood.out l' h).1.1) (fun q hq => ⟨by have := ((HGood.out l' h).1.2 q hq).1; omega, ((HGood.out l' h).1.2 q hq).2⟩) W2.heap.size W2.heap.size W' (by have := (HGood.out l' h).2; omega) hM hB)
  have HS := Lib.hid S2
  have HT2 := Lib.hid T2
  have HQ := Lib.hid (show ∀ (w' : World), Below W2.heap.size W2 w' → w'.cell? ⟨w.heap.size, 0, none⟩ = some (.int .i64 (opC p)) ∧ w'.cell? ⟨w.heap.size, 1, none⟩ = some (.string (nmC p)) ∧ w'.cell? ⟨w.heap.size, 2, none⟩ = some (.string (soC p)) ∧ w'.cell? ⟨w.heap.size, 3, none⟩ = some (.slice k.a k.n k.c) ∧ w'.cell? ⟨w.heap.size, 4, none⟩ = some (.slice a n c) ∧ w'.cell? ⟨w.heap.size + 1, 0, none⟩ = some (.int .i64 (opC t)) ∧ w'.cell? ⟨w.heap.size + 1, 1, none⟩ = some (.string (nmC t)) ∧ w'.cell? ⟨w.heap.size + 1, 2, none⟩ = some (.string (soC t)) ∧ w'.cell? ⟨w.heap.size + 1, 3, none⟩ = some (.slice k'.a k'.n k'.c) ∧ w'.cell? ⟨w.heap.size + 1, 4, none⟩ = some (.slice a' n' c') from fun w' h => (by
    obtain ⟨q0, q1, q2, q3, q4⟩ := (CBox.b HS.out h).five
    obtain ⟨r0, r1, r2, r3, r4⟩ := (CBox.b HT2.out h).five
    exact ⟨q0, q1, q2, q3, q4, r0, r1, r2, r3, r4⟩))
  obtain ⟨ka, kn, kc⟩ := k
  obtain ⟨ka', kn', kc'⟩ := k'
  dsimp only at *
  unfold clo at HFi
  unfold RtM at HFi
  clear hP hT hX S2 T2 hs2 hsp hzp hzs hzt hsX HGood HS HT2
  generalize matC X p [] t = R at *
  generalize opC p = op at *
  generalize nmC p = mp at *
  generalize soC p = zp at *
  generalize opC t = ot at *
  generalize nmC t = mt at *
  generalize soC t = zt at *
  obtain ⟨k0, k1, k2, k3, k4, k5, k6, k7, k8, k9⟩ := HQ.out wr Bw
  go_enter Tryz.func17, Tryz.ntmps17
  go_wp2_with fail
  go_region_held3 (fun w' => w'.cell? ⟨w.heap.size, 0, none⟩ = some (.int .i64 op) ∧ w'.cell? ⟨w.heap.size, 1, none⟩ = some (.string mp) ∧ w'.cell? ⟨w.heap.size, 2, none⟩ = some (.string zp) ∧ w'.cell? ⟨w.heap.size, 3, none⟩ = some (.slice ka kn kc) ∧ w'.cell? ⟨w.heap.size, 4, none⟩ = some (.slice a n c) ∧ w'.cell? ⟨w.heap.size + 1, 0, none⟩ = some (.int .i64 ot) ∧ w'.cell? ⟨w.heap.size + 1, 1, none⟩ = some (.string mt) ∧ w'.cell? ⟨w.heap.size + 1, 2, none⟩ = some (.string zt) ∧ w'.cell? ⟨w.heap.size + 1, 3, none⟩ = some (.slice ka' kn' kc') ∧ w'.cell? ⟨w.heap.size + 1, 4, none⟩ = some (.slice a' n' c'))
    (first | (exact HQ.out _ (by first | assumption | exact Below.drew (by assumption) | exact Below.refl _ _ | exact (Below.refl _ _).drew)) | go_keep)
    (first
      | (go_at_call 43; ((with_reducible refine (HSt.out _ (by first | assumption | exact Below.drew (by assumption) | exact Below.refl _ _ | exact (Below.refl _ _).drew)).mono ?_); rintro e w7 ⟨rfl, hS7, hb7⟩; have Bn : Below W2.heap.size W2 w7 := bel_trans (a := W2) (by first | assumption | exact Below.drew (by assumption) | exact Below.refl _ _ | exact (Below.refl _ _).drew) hb7; have HS7 := Lib.hid (show SetM w7 wr.heap.size X from hS7); have HM7 := Lib.hid (show MapM W2.heap.size w7 W2.heap.size [] from (MapM.b (by first | exact HMl.out | exact HMl.out.b (Nat.le_of_lt hgw) (Below.refl _ _).drew) (by exact Nat.le_of_lt hgw) hb7)); have hg7 : W2.heap.size < w7.heap.size := Nat.lt_of_lt_of_le hgw hb7.size; clear hS7))
      | (go_at_call 42; ((with_reducible refine (matcher_clo W2.heap.size X W2.heap.size _ _ (by first | exact HS7.out | exact HS7.out.b (Below.refl _ _).drew) (Nat.ne_of_gt hgw) hg7 (Nat.le_refl _)).mono ?_); rintro e w8 ⟨rfl, hC8, hb8⟩; have Bn : Below W2.heap.size W2 w8 := bel_trans (a := W2) (by first | assumption | exact Below.drew (by assumption) | exact Below.refl _ _ | exact (Below.refl _ _).drew) hb8; have HC8 := Lib.hid hC8; have HM8 := Lib.hid (show MapM W2.heap.size w8 W2.heap.size [] from (MapM.b (by first | exact HM7.out | exact HM7.out.b (Nat.le_of_lt hg7) (Below.refl _ _).drew) (by exact Nat.le_of_lt hg7) hb8)); have hg8 : W2.heap.size < w8.heap.size := Nat.lt_of_lt_of_le hg7 hb8.size; clear hC8))
      | (go_at_call 41; ((with_reducible refine (HFi.out _ _ _ _ _ (by first | assumption | exact Below.drew (by assumption) | exact Below.refl _ _ | exact (Below.refl _ _).drew) (by first | exact HC8.out | exact HC8.out.kept (gr_of _ (Below.refl _ _).drew)) (by first | exact HM8.out | exact HM8.out.b (Nat.le_of_lt hg8) (Below.refl _ _).drew)).mono ?_); rintro e w9 ⟨rfl, hm9, hg9⟩; have Bn : Below W2.heap.size W2 w9 := (show Below W2.heap.size W2 _ from (by first | assumption | exact Below.drew (by assumption) | exact Below.refl _ _ | exact (Below.refl _ _).drew)).grown hg9 (by exact Nat.le_of_lt hg8) (fun q hq => by injection hq with hq; omega); have Hm9 := Lib.hid hm9; have hB9 : W2.heap.size ≤ w9.heap.size := Nat.le_trans (Nat.le_of_lt hg8) hg9.size; clear hm9)))
  all_goals (
    cases R with
    | none =>
      go_wp2
      go_ret2
      exact ⟨none, 0, 0, rfl, UsW.nil _, bel_trans hB2 Bn⟩
    | some l' =>
      have cP := HPr.out l' w9 rfl (Hm9.out l' rfl) hB9
      go_wp2_with (go_at_call 44; ((with_reducible refine cP.mono ?_); rintro e w10 ⟨A10, C10, rfl, hU10, hb10⟩; have HU10 := Lib.hid hU10; clear hU10))
      go_ret2
      exact ⟨_, _, _, rfl, HU10.out, bel_trans hB2 (bel_trans Bn hb10)⟩)
end Go.Proofs.YtnhemglpbhnmdaaGreat.Mt
namespace Go.Proofs.YtnhemglpbhnmdaaGreat.Mt
open Go.RowKit L T C B U
set_option linter.unusedVariables false
set_option linter.unusedSimpArgs false

set_option maxRecDepth 100000 in
set_option maxHeartbeats 16000000 in
theorem More_anyG (X : List ByteArray) (l : List Pr) (p t : Tm) (A : Option Addr) (n c : Nat) (ap : Option Addr) (np cp : Nat) (aT : Option Addr) (nt ct : Nat) (aX : Option Addr) (nX cX : Nat) (w : World)
    (hU : UsW w A n c l) (hlz : ∀ q ∈ l, size q.t ≤ 4096 ∧ q.nm.size ≤ maxLen) (hn : n ≤ 1000) (hP : ArW w p ap np cp) (hsp : smT p) (hzp : size p ≤ 4096) (hT : ArW w t aT nt ct) (hzs : szM X p t) (hzt : size t ≤ 100000) (hX : IsS w aX nX X) (hnX : nX ≤ 1000000) (hsX : ∀ x ∈ X, x.size ≤ maxLen) :
    Calls Tryz.prog 27 #[.slice A n c, .agg #[.int .i64 (opT p), .string (nameT p), .int .i64 (numT p), .slice ap np cp], .agg #[.int .i64 (opT t), .string (nameT t), .int .i64 (numT t), .slice aT nt ct], .slice aX nX cX] w fun e w' => RtPs (moreF X l p t) w e w' := by
  obtain ⟨W2, hW2, hB2, hs2, S2, T2⟩ := box2 w (opT p) (nameT p) (numT p) ap np cp (opT t) (nameT t) (numT t) aT nt ct
  have hln : n = l.length := hU.1
  have cR := RightU_few l (fun q hq => (hlz q hq).1) A n c W2 (UsW.b hU hB2)
  have hmm := @run_makeMap Tryz.prog
  have HS := Lib.hid S2
  have HT2 := Lib.hid T2
  have hlen : n ≤ 9223372036854775807 := by omega
  by_cases hr : rgU none l = 0
  · rw [hr] at cR
    have hmf : moreF X l p t = mat X p l t := by unfold moreF; rw [if_pos hr]
    have hris := rg_rises hr
    have hpw := rises_pair hris
    have HGood := Lib.hid (show ∀ l', mat X p l t = some l' → good 100000 l' ∧ l'.length ≤ 10000 from fun l' h => ⟨mat_good 100000 X p l t l' h hsp hzt ⟨hris, fun q hq => ⟨by have := (hlz q hq).1; omega, (hlz q hq).2⟩⟩, by have := mat_len X p l t l' h; omega⟩)
    have HU := Lib.hid (UsW.b hU hB2)
    have HK := Lib.hid (show ∀ k q, l[k]? = some q → q.nm.size ≤ maxLen ∧ ∀ s, getU (l.take (k + 1)) s = getU (q :: l.take k) s from fun k q h => ⟨(hlz q (List.mem_of_getElem? h)).2, get_take hpw h⟩)
    have HEnd := Lib.hid (show l.take n = l from List.take_of_length_le (by omega))
    have HSet := Lib.hid (show ∀ w', Below w.heap.size w w' → _ from fun w' h => setOf_any X aX nX cX w' (hX.below h) hnX hsX)
    have HPp := Lib.hid hP
    have HTt := Lib.hid hT
    have HSm := Lib.hid hsp
    have HLn := Lib.hid hln
    have HQ := Lib.hid (show ∀ (w' : World), Below W2.heap.size W2 w' → (w'.cell? ⟨w.heap.size, 0, none⟩ = some (.int .i64 (opT p)) ∧ w'.cell? ⟨w.heap.size, 1, none⟩ = some (.string (nameT p)) ∧ w'.cell? ⟨w.heap.size, 2, none⟩ = some (.int .i64 (numT p)) ∧ w'.cell? ⟨w.heap.size, 3, none⟩ = some (.slice ap np cp) ∧ w'.cell? ⟨w.heap.size + 1, 0, none⟩ = some (.int .i64 (opT t)) ∧ w'.cell? ⟨w.heap.size + 1, 1, none⟩ = some (.string (nameT t)) ∧ w'.cell? ⟨w.heap.size + 1, 2, none⟩ = some (.int .i64 (numT t)) ∧ w'.cell? ⟨w.heap.size + 1, 3, none⟩ = some (.slice aT nt ct)) from fun w' h => (by
      obtain ⟨q0, q1, q2, q3⟩ := (TBox.b HS.out h).four
      obtain ⟨r0, r1, r2, r3⟩ := (TBox.b HT2.out h).four
      exact ⟨q0, q1, q2, q3, r0, r1, r2, r3⟩))
    have HMa := Lib.hid (show ∀ (B bv bm bo gs g : Nat) (W : World), Below W2.heap.size W2 W → W2.heap.size ≤ B → Ctx B X bv bm bo gs g W → MapM B W g l → _ from fun B bv bm bo gs g W hb hB hC hM => match_anyG X p B bv bm bo gs g l t ap np cp aT nt ct W hC hM (by omega) hsp hzs (Ar.mono hB _ (Ar.bel (hb.mono (Nat.le_refl _)) _ (ArW.b hP hB2))) (Ar.mono hB _ (Ar.bel (hb.mono (Nat.le_refl _)) _ (ArW.b hT hB2))))
    have HPr := Lib.hid (show ∀ (l' : List Pr) (B g : Nat) (W : World), mat X p l t = some l' → MapM B W g l' → B ≤ W.heap.size → _ from fun l' B g W h hM hB => pairs_any l' (rises_pair (HGood.out l' h).1.1) (fun q hq => ⟨by have := ((HGood.out l' h).1.2 q hq).1; omega, ((HGood.out l' h).1.2 q hq).2⟩) B g W (by have := (HGood.out l' h).2; omega) hM hB)
    have hBd : Below W2.heap.size W2 W2 := Below.refl _ _
    rw [hmf]
    clear hzs hU hlz hP hT hX S2 T2 hs2 hsp hmf hr hris hpw hln hsX
    unfold RtM at HMa
    generalize mat X p l t = R at *
    generalize opT p = op at *
    generalize nameT p = mp at *
    generalize numT p = zp at *
    generalize opT t = ot at *
    generalize nameT t = mt at *
    generalize numT t = zt at *
    go_enter Tryz.func27, Tryz.ntmps27
    go_wp2_with (go_at_call 20; ((with_reducible refine cR.mono ?_); rintro e w4 ⟨rfl, hb4⟩; have HM4 := Lib.hid (MapM.made w4.heap.size w4); have hB4 : Below w4.heap.size w4 (w4.alloc (.map #[] 0)) := bel_alloc (Below.refl _ _) _))
    go_loopw [19] (fun i wr0 => ∃ (wr : World) (k : Nat), wr = wr0 ∧ k ≤ n ∧ i = .int .i64 k ∧ Below w4.heap.size w4 wr ∧ Hid (MapM w4.heap.size wr w4.heap.size (l.take k))) (fun i _ => n - (intOf i).toNat)
    case atStart => exact ⟨_, 0, rfl, by omega, rfl, hB4, Lib.hid (by rw [List.take_zero]; exact HM4.out)⟩
    case round =>
      clear HM4 hB4 hmm cR
      obtain ⟨wr, k, rfl, hk, rfl, hB, hM⟩ := hrel
      by_cases hlt : k < n
      · obtain ⟨bb, o, q, aq, mq, cq, rfl, hbb, y0, y1, y2, y3, y4, hq, hok⟩ := (IsU.bel (HU.out.b hb4) hB).at hlt
        obtain ⟨hqn, hqg⟩ := HK.out k q hq
        obtain ⟨W5, hW5, hB5, hs5, S5⟩ := ubox1 wr q.nm (opT q.t) (nameT q.t) (numT q.t) aq mq cq
        obtain ⟨s0, s1, s2, s3, s4⟩ := S5.five
        have hBw := hB.size
        obtain ⟨w6, hrun, hM6, hg6, hb6⟩ := (hM.out.b hBw hB5).put (Nat.le_refl _) (Nat.le_trans hBw hB5.size) (by rw [List.length_take]; unfold maxLen; omega) q aq mq cq hqn (Ar.bel (hB5.mono hBw) _ hok)
        have HM6 := Lib.hid (hM6.congr (m := l.take (k + 1)) (fun s => hqg s) (by rw [List.length_take, List.length_cons, List.length_take, ← HLn.out]; omega))
        have hB6 : Below w4.heap.size w4 w6 := (hB.trans (hB5.mono hBw)).trans hb6
        have hk0 : 0 ≤ (k : Int) := by omega
        have hk1 : (k : Int) < (n : Int) := by omega
        clear hM hM6 hg6 hb6 hqg hq hok S5 hs5
        generalize opT q.t = oq at *
        generalize nameT q.t = nq at *
        generalize numT q.t = zq at *
        generalize q.nm = xq at *
        go_wp2
        go_roundw
        case rel => exact ⟨_, k + 1, rfl, by omega, by go_num, hB6, HM6⟩
        case measure => simp [intOf]; omega
      · obtain rfl : k = n := by omega
        have HMl := Lib.hid (show MapM w4.heap.size wr w4.heap.size l from by rw [← HEnd.out]; exact hM.out)
        clear hM
        have hgw : w4.heap.size < wr.heap.size := HMl.out.lt
        have Bw : Below W2.heap.size W2 wr := bel_trans hb4 hB
        have h24 : W2.heap.size ≤ w4.heap.size := hb4.size
        have HSt := Lib.hid (show ∀ w', Below W2.heap.size W2 w' → _ from fun w' h => HSet.out w' (bel_trans hB2 h))
        clear HSet HU HK HEnd HGood
        obtain ⟨k0, k1, k2, k3, k4, k5, k6, k7⟩ := HQ.out wr Bw
        go_wp2_with fail
        go_region_held3 (fun w' => w'.cell? ⟨w.heap.size, 0, none⟩ = some (.int .i64 op) ∧ w'.cell? ⟨w.heap.size, 1, none⟩ = some (.string mp) ∧ w'.cell? ⟨w.heap.size, 2, none⟩ = some (.int .i64 zp) ∧ w'.cell? ⟨w.heap.size, 3, none⟩ = some (.slice ap np cp) ∧ w'.cell? ⟨w.heap.size + 1, 0, none⟩ = some (.int .i64 ot) ∧ w'.cell? ⟨w.heap.size + 1, 1, none⟩ = some (.string mt) ∧ w'.cell? ⟨w.heap.size + 1, 2, none⟩ = some (.int .i64 zt) ∧ w'.cell? ⟨w.heap.size + 1, 3, none⟩ = some (.slice aT nt ct))
          (first | (exact HQ.out _ (by first | assumption | exact Below.drew (by assumption) | exact Below.refl _ _ | exact (Below.refl _ _).drew)) | go_keep)
          (first
            | (go_at_call 43; ((with_reducible refine (HSt.out _ (by first | assumption | exact Below.drew (by assumption) | exact Below.refl _ _ | exact (Below.refl _ _).drew)).mono ?_); rintro e w7 ⟨rfl, hS7, hb7⟩; have Bn : Below W2.heap.size W2 w7 := bel_trans (a := W2) (by first | assumption | exact Below.drew (by assumption) | exact Below.refl _ _ | exact (Below.refl _ _).drew) hb7; have HS7 := Lib.hid (show SetM w7 wr.heap.size X from hS7); have HM7 := Lib.hid (show MapM w4.heap.size w7 w4.heap.size l from (MapM.b (by first | exact HMl.out | exact HMl.out.b (Nat.le_of_lt hgw) (Below.refl _ _).drew) (by exact Nat.le_of_lt hgw) hb7)); have hg7 : w4.heap.size < w7.heap.size := Nat.lt_of_lt_of_le hgw hb7.size; clear hS7))
            | (go_at_call 42; ((with_reducible refine (matcher_clo w4.heap.size X w4.heap.size _ _ (by first | exact HS7.out | exact HS7.out.b (Below.refl _ _).drew) (Nat.ne_of_gt hgw) hg7 (Nat.le_refl _)).mono ?_); rintro e w8 ⟨rfl, hC8, hb8⟩; have Bn : Below W2.heap.size W2 w8 := bel_trans (a := W2) (by first | assumption | exact Below.drew (by assumption) | exact Below.refl _ _ | exact (Below.refl _ _).drew) hb8; have HC8 := Lib.hid hC8; have HM8 := Lib.hid (show MapM w4.heap.size w8 w4.heap.size l from (MapM.b (by first | exact HM7.out | exact HM7.out.b (Nat.le_of_lt hg7) (Below.refl _ _).drew) (by exact Nat.le_of_lt hg7) hb8)); have hg8 : w4.heap.size < w8.heap.size := Nat.lt_of_lt_of_le hg7 hb8.size; clear hC8))
            | (go_at_call 75; ((with_reducible refine (HMa.out w4.heap.size _ _ _ _ w4.heap.size _ (by first | assumption | exact Below.drew (by assumption) | exact Below.refl _ _ | exact (Below.refl _ _).drew) h24 (by first | exact HC8.out | exact HC8.out.kept (gr_of _ (Below.refl _ _).drew)) (by first | exact HM8.out | exact HM8.out.b (Nat.le_of_lt hg8) (Below.refl _ _).drew)).mono ?_); rintro e w9 ⟨rfl, hm9, hg9⟩; have Bn : Below W2.heap.size W2 w9 := (show Below W2.heap.size W2 _ from (by first | assumption | exact Below.drew (by assumption) | exact Below.refl _ _ | exact (Below.refl _ _).drew)).grown hg9 (by have := h24; exact Nat.le_trans h24 (Nat.le_of_lt hg8)) (fun q hq => by injection hq with hq; omega); have Hm9 := Lib.hid hm9; have hB9 : w4.heap.size ≤ w9.heap.size := Nat.le_trans (Nat.le_of_lt hg8) hg9.size; clear hm9)))
        all_goals (
          cases R with
          | none =>
            go_wp2
            go_ret2
            exact ⟨none, 0, 0, rfl, UsW.nil _, bel_trans hB2 Bn⟩
          | some l' =>
            have cP := HPr.out l' w4.heap.size w4.heap.size w9 rfl (Hm9.out l' rfl) hB9
            go_wp2_with (go_at_call 44; ((with_reducible refine cP.mono ?_); rintro e w10 ⟨A10, C10, rfl, hU10, hb10⟩; have HU10 := Lib.hid hU10; clear hU10))
            go_ret2
            exact ⟨_, _, _, rfl, HU10.out, bel_trans hB2 (bel_trans Bn hb10)⟩)
  · have hmf : moreF X l p t = none := by unfold moreF; rw [if_neg hr]
    have hr2 : (rgU none l != 0) = true := by simpa using hr
    rw [hmf]
    clear hzs hU hlz hP hT hX S2 T2 hs2 hsp hmf hr hln
    generalize rgU none l = R at *
    go_enter Tryz.func27, Tryz.ntmps27
    go_wp2_with (go_at_call 20; ((with_reducible refine cR.mono ?_); rintro e w4 ⟨rfl, hb4⟩))
    go_ret2
    exact ⟨none, 0, 0, rfl, UsW.nil _, bel_trans hB2 hb4⟩
end Go.Proofs.YtnhemglpbhnmdaaGreat.Mt
namespace Go.Proofs.YtnhemglpbhnmdaaGreat.Mt
open Go.RowKit L T C B U
set_option linter.unusedVariables false
set_option linter.unusedSimpArgs false

set_option maxRecDepth 100000 in
set_option maxHeartbeats 4000000 in
theorem TermM_anyG (X : List ByteArray) (p t : Tm) (a : Option Addr) (n c : Nat) (a' : Option Addr) (n' c' : Nat) (aX : Option Addr) (nX cX : Nat) (w : World) (hP : ArW w p a n c) (hsp : smT p) (hzp : size p ≤ 4096) (hT : ArW w t a' n' c') (hzs : szM X p t) (hzt : size t ≤ 100000) (hX : IsS w aX nX X) (hnX : nX ≤ 1000000) (hsX : ∀ x ∈ X, x.size ≤ maxLen) :
    Calls Tryz.prog 16 #[.agg #[.int .i64 (opT p), .string (nameT p), .int .i64 (numT p), .slice a n c], .agg #[.int .i64 (opT t), .string (nameT t), .int .i64 (numT t), .slice a' n' c'], .slice aX nX cX] w fun e w' => RtPs (mat X p [] t) w e w' := by
  obtain ⟨W2, hW2, hB2, hs2, S2, T2⟩ := box2 w (opT p) (nameT p) (numT p) a n c (opT t) (nameT t) (numT t) a' n' c'
  have cm := More_anyG X [] p t none 0 0 a n c a' n' c' aX nX cX W2 (UsW.nil _) (fun q hq => by cases hq) (by omega) (ArW.b hP hB2) hsp hzp (ArW.b hT hB2) hzs hzt (hX.below hB2) hnX hsX
  have hm : moreF X [] p t = mat X p [] t := by unfold moreF; rw [if_pos (by rw [rgU])]
  rw [hm] at cm
  obtain ⟨s0, s1, s2, s3⟩ := S2.four
  obtain ⟨t0, t1, t2, t3⟩ := T2.four
  have HF := Lib.hid (show ∀ (e : Ending) (w' : World), RtPs (mat X p [] t) W2 e w' → ∃ (A : Option Addr) (N C : Nat), e = .returned (.tuple #[.slice A N C, .bool (mat X p [] t).isSome]) ∧ Hid (RtPs (mat X p [] t) w (.returned (.tuple #[.slice A N C, .bool (mat X p [] t).isSome])) w') from fun e w' ⟨A, N, C, h1, h2, h3⟩ => ⟨A, N, C, h1, Lib.hid ⟨A, N, C, rfl, h2, bel_trans hB2 h3⟩⟩)
  clear S2 T2 hP hT hX hm hsp hzp hzs hzt hsX
  generalize mat X p [] t = R at *
  generalize hok : R.isSome = ok at *
  generalize opT p = op at *
  generalize nameT p = nm at *
  generalize numT p = nz at *
  generalize opT t = ot at *
  generalize nameT t = nt at *
  generalize numT t = zt at *
  clear hok
  go_enter Tryz.func16, Tryz.ntmps16
  go_wp2_with (go_at_call 27; ((with_reducible refine cm.mono ?_); rintro e w3 h3; obtain ⟨A, N, C, rfl, hf⟩ := HF.out _ _ h3; clear h3))
  go_ret2
  exact hf.out
end Go.Proofs.YtnhemglpbhnmdaaGreat.Mt
namespace Go.Proofs.YtnhemglpbhnmdaaGreat.Mt
open Go.RowKit L T C B U
set_option linter.unusedVariables false
set_option linter.unusedSimpArgs false

theorem getK_none {m : List Pr} {s : ByteArray} (h : getU m s = none) (K : Int) : getK m K s = none := by unfold getK; rw [h]; rfl
mutual
theorem size_ok {X : List ByteArray} {m : List Pr} (hO : OkU X m) (h50 : ∀ q ∈ m, size q.t ≤ 50) (K : Int) : ∀ p : Tm, size (sbT (getK m K) p) ≤ 50 * size p
  | .mk o s z l => by
    have e : size (.mk o s z l) = 1 + sizes l := by rw [size]
    cases hg : getU m s with
    | none =>
      rw [sbT_go (t := .mk o s z l) (.inr (getK_none hg K))]
      show size (.mk o s z (l.map (sbT (getK m K)))) ≤ _
      rw [size, ← sbTs_map, e]
      have := sizes_ok hO h50 K l
      omega
    | some u =>
      by_cases ho : o = 1
      · rw [sbT_put (t := .mk o s z l) ho (hO.get hg K)]
        obtain ⟨q, hq, -, rfl⟩ := getU_at hg
        have := h50 q hq
        omega
      · rw [sbT_go (t := .mk o s z l) (.inl ho)]
        show size (.mk o s z (l.map (sbT (getK m K)))) ≤ _
        rw [size, ← sbTs_map, e]
        have := sizes_ok hO h50 K l
        omega
theorem sizes_ok {X : List ByteArray} {m : List Pr} (hO : OkU X m) (h50 : ∀ q ∈ m, size q.t ≤ 50) (K : Int) : ∀ l : List Tm, sizes (sbTs (getK m K) l) ≤ 50 * sizes l
  | [] => by rw [sbTs, sizes]; omega
  | t :: l => by rw [sbTs, sizes, sizes]; have := size_ok hO h50 K t; have := sizes_ok hO h50 K l; omega
end
mutual
theorem wt_ok {X : List ByteArray} {m : List Pr} (hO : OkU X m) (h50 : ∀ q ∈ m, size q.t ≤ 50) : ∀ (c : Cl) (K : Int), wt (sbCl m K c) ≤ 50 * wt c
  | .mk o s z ts cs, K => by
    rw [sbCl, wt, wt, ← sbTs_map]
    have := sizes_ok hO h50 K ts
    have := wts_ok hO h50 cs (if o = 11 ∨ o = 12 then K + 1 else K)
    omega
theorem wts_ok {X : List ByteArray} {m : List Pr} (hO : OkU X m) (h50 : ∀ q ∈ m, size q.t ≤ 50) : ∀ (l : List Cl) (K : Int), wts (sbCls m K l) ≤ 50 * wts l
  | [], K => by rw [sbCls, wts]; omega
  | c :: l, K => by rw [sbCls, wts, wts]; have := wt_ok hO h50 c K; have := wts_ok hO h50 l K; omega
end
mutual
theorem szM_ok {X : List ByteArray} {m : List Pr} (hO : OkU X m) (hX : NmX X m) (h50 : ∀ q ∈ m, size q.t ≤ 50) (K : Int) : ∀ p : Tm, szM X p (sbT (getK m K) p)
  | .mk o s z l => by
    rw [szM]
    by_cases hv : o = 1 ∧ hasS X s = true
    · obtain ⟨u, hu⟩ := hX s hv.2
      rw [if_pos hv, sbT_put (t := .mk o s z l) hv.1 (hO.get hu K)]
      obtain ⟨q, hq, -, rfl⟩ := getU_at hu
      have := h50 q hq
      omega
    · rw [if_neg hv, sbT_go (t := .mk o s z l) ((not_var hv).imp id (fun e => hO.none e K))]
      show szMs X l (l.map (sbT (getK m K)))
      rw [← sbTs_map]
      exact szMs_ok hO hX h50 K l
theorem szMs_ok {X : List ByteArray} {m : List Pr} (hO : OkU X m) (hX : NmX X m) (h50 : ∀ q ∈ m, size q.t ≤ 50) (K : Int) : ∀ l : List Tm, szMs X l (sbTs (getK m K) l)
  | [] => by rw [szMs]; trivial
  | t :: l => by rw [sbTs, szMs]; exact ⟨szM_ok hO hX h50 K t, szMs_ok hO hX h50 K l⟩
end
mutual
theorem szMC_ok {X : List ByteArray} {m : List Pr} (hO : OkU X m) (hX : NmX X m) (h50 : ∀ q ∈ m, size q.t ≤ 50) : ∀ (c : Cl) (K : Int), szMC X c (sbCl m K c)
  | .mk o s z ts cs, K => by
    rw [sbCl, szMC]
    refine ⟨?_, szMCs_ok hO hX h50 cs _⟩
    show szMs X ts (ts.map (sbT (getK m K)))
    rw [← sbTs_map]
    exact szMs_ok hO hX h50 K ts
theorem szMCs_ok {X : List ByteArray} {m : List Pr} (hO : OkU X m) (hX : NmX X m) (h50 : ∀ q ∈ m, size q.t ≤ 50) : ∀ (l : List Cl) (K : Int), szMCs X l (sbCls m K l)
  | [], K => by rw [szMCs]; trivial
  | c :: l, K => by rw [sbCls, szMCs]; exact ⟨szMC_ok hO hX h50 c K, szMCs_ok hO hX h50 l K⟩
end
/-- a substitution's pairs, each small -/
def Fi (l : List Pr) : Prop := ∀ x ∈ l, size x.t ≤ 50 ∧ mayT x.t = true ∧ x.nm.size ≤ 100
theorem sub_ok {l L : List Pr} (h : Fi l) (hs : SubU L l) : OkU (l.map Pr.nm) L ∧ ∀ x ∈ L, size x.t ≤ 50 ∧ x.nm.size ≤ 100 := by
  have : ∀ x ∈ L, hasS (l.map Pr.nm) x.nm = true ∧ mayT x.t = true ∧ size x.t ≤ 50 ∧ x.nm.size ≤ 100 := fun x hx => by
    obtain ⟨q, hq, e1, e2⟩ := getU_at (hs x hx)
    obtain ⟨h1, h2, h3⟩ := h q hq
    rw [← e1, ← e2]
    exact ⟨hasS_iff.2 (List.mem_map.2 ⟨q, hq, rfl⟩), h2, h1, h3⟩
  exact ⟨fun x hx => ⟨(this x hx).1, (this x hx).2.1⟩, fun x hx => (this x hx).2.2⟩
theorem fi_all {l : List Pr} {p : Tm} {q : Cl} (h : Fi l) (hsp : smT p) (hsq : smC q) (zp : size p ≤ 100) (zq : wt q ≤ 100) :
    ∃ L1 L2, mat (l.map Pr.nm) p [] (sbT (getK l 0) p) = some L1 ∧ matC (l.map Pr.nm) q [] (sbCl l 0 q) = some L2 ∧ moreF (l.map Pr.nm) L1 p (sbT (getK l 0) p) = some L1 ∧
      (∀ x ∈ L1 ++ L2, getU l x.nm = some x.t) ∧ L1.length ≤ 100 ∧ L2.length ≤ 100 ∧ (∀ x ∈ L1, size x.t ≤ 4096 ∧ x.nm.size ≤ maxLen) := by
  obtain ⟨hO, hX⟩ := names_ok (m := l) (fun x hx => (h x hx).2.1)
  obtain ⟨L1, h1, s1⟩ := mat_finds (l.map Pr.nm) l hO hX 0 p [] (fun x hx => by cases hx)
  obtain ⟨L2, h2, s2⟩ := matC_finds (l.map Pr.nm) l hO hX q 0 [] (fun x hx => by cases hx)
  have z1 := size_ok hO (fun x hx => (h x hx).1) 0 p
  have g1 := mat_good 100000 (l.map Pr.nm) p [] _ L1 h1 hsp (by omega) ⟨trivial, fun q hq => by cases hq⟩
  have l1 := mat_len (l.map Pr.nm) p [] _ L1 h1
  have l2 := matC_len (l.map Pr.nm) q [] _ L2 h2
  obtain ⟨o1, b1⟩ := sub_ok h s1
  refine ⟨L1, L2, h1, h2, ?_, fun x hx => ?_, by simp at l1; omega, by simp at l2; omega, fun x hx => ⟨by have := (b1 x hx).1; omega, by have := (b1 x hx).2; unfold maxLen; omega⟩⟩
  · unfold moreF
    rw [if_pos (rg_found o1 g1.1)]
    exact mat_again (l.map Pr.nm) p [] _ L1 h1 L1 (ExtU.refl _)
  · rcases List.mem_append.1 hx with hx | hx
    · exact s1 x hx
    · exact s2 x hx
/-! the contracts -/
def TwoPs (L : List Pr) (w : World) (e : Ending) (w' : World) : Prop := ∃ A N C, e = .returned (.tuple #[.slice A N C, .bool true]) ∧ UsW w' A N C L ∧ Below w.heap.size w w'
theorem RtPs.two {L : List Pr} {w w' : World} {e : Ending} (h : RtPs (some L) w e w') : TwoPs L w e w' := h
theorem fi_term {l L1 : List Pr} {p : Tm} (h : Fi l) (hsp : smT p) (zp : size p ≤ 100) (h1 : mat (l.map Pr.nm) p [] (sbT (getK l 0) p) = some L1) (hl : l.length ≤ 10) (a : Option Addr) (n c : Nat) (a' : Option Addr) (n' c' : Nat) (aX : Option Addr) (nX cX : Nat) (w : World) (hP : ArW w p a n c) (hT : ArW w (sbT (getK l 0) p) a' n' c') (hX : IsS w aX nX (l.map Pr.nm)) :
    Calls Tryz.prog 16 #[.agg #[.int .i64 (opT p), .string (nameT p), .int .i64 (numT p), .slice a n c], .agg #[.int .i64 (opT (sbT (getK l 0) p)), .string (nameT (sbT (getK l 0) p)), .int .i64 (numT (sbT (getK l 0) p)), .slice a' n' c'], .slice aX nX cX] w fun e w' => TwoPs L1 w e w' := by
  obtain ⟨hO, hN⟩ := names_ok (m := l) (fun x hx => (h x hx).2.1)
  have z := size_ok hO (fun x hx => (h x hx).1) 0 p
  have hnX : nX ≤ 1000000 := by have := hX.1; simp at this; omega
  have := TermM_anyG (l.map Pr.nm) p _ a n c a' n' c' aX nX cX w hP hsp (by omega) hT (szM_ok hO hN (fun x hx => (h x hx).1) 0 p) (by omega) hX hnX (fun x hx => by obtain ⟨q, hq, rfl⟩ := List.mem_map.1 hx; have := (h q hq).2.2; unfold maxLen; omega)
  rw [h1] at this
  exact this
theorem fi_more {l L1 : List Pr} {p : Tm} (h : Fi l) (hsp : smT p) (zp : size p ≤ 100) (h1 : moreF (l.map Pr.nm) L1 p (sbT (getK l 0) p) = some L1) (hb : ∀ x ∈ L1, size x.t ≤ 4096 ∧ x.nm.size ≤ maxLen) (hl1 : L1.length ≤ 100) (hl : l.length ≤ 10) (A : Option Addr) (N C : Nat) (a : Option Addr) (n c : Nat) (a' : Option Addr) (n' c' : Nat) (aX : Option Addr) (nX cX : Nat) (w : World) (hU : UsW w A N C L1) (hP : ArW w p a n c) (hT : ArW w (sbT (getK l 0) p) a' n' c') (hX : IsS w aX nX (l.map Pr.nm)) :
    Calls Tryz.prog 27 #[.slice A N C, .agg #[.int .i64 (opT p), .string (nameT p), .int .i64 (numT p), .slice a n c], .agg #[.int .i64 (opT (sbT (getK l 0) p)), .string (nameT (sbT (getK l 0) p)), .int .i64 (numT (sbT (getK l 0) p)), .slice a' n' c'], .slice aX nX cX] w fun e w' => TwoPs L1 w e w' := by
  obtain ⟨hO, hN⟩ := names_ok (m := l) (fun x hx => (h x hx).2.1)
  have z := size_ok hO (fun x hx => (h x hx).1) 0 p
  have hnX : nX ≤ 1000000 := by have := hX.1; simp at this; omega
  have := More_anyG (l.map Pr.nm) L1 p _ A N C a n c a' n' c' aX nX cX w hU hb (by have := hU.1; omega) hP hsp (by omega) hT (szM_ok hO hN (fun x hx => (h x hx).1) 0 p) (by omega) hX hnX (fun x hx => by obtain ⟨q, hq, rfl⟩ := List.mem_map.1 hx; have := (h q hq).2.2; unfold maxLen; omega)
  rw [h1] at this
  exact this
theorem fi_claim {l L2 : List Pr} {q : Cl} (h : Fi l) (hsq : smC q) (zq : wt q ≤ 100) (h2 : matC (l.map Pr.nm) q [] (sbCl l 0 q) = some L2) (hl : l.length ≤ 10) (k : SS) (a : Option Addr) (n c : Nat) (k' : SS) (a' : Option Addr) (n' c' : Nat) (aX : Option Addr) (nX cX : Nat) (w : World) (hP : ArWC w q k a n c) (hT : ArWC w (sbCl l 0 q) k' a' n' c') (hX : IsS w aX nX (l.map Pr.nm)) :
    Calls Tryz.prog 17 #[.agg #[.int .i64 (opC q), .string (nmC q), .string (soC q), .slice k.a k.n k.c, .slice a n c], .agg #[.int .i64 (opC (sbCl l 0 q)), .string (nmC (sbCl l 0 q)), .string (soC (sbCl l 0 q)), .slice k'.a k'.n k'.c, .slice a' n' c'], .slice aX nX cX] w fun e w' => TwoPs L2 w e w' := by
  obtain ⟨hO, hN⟩ := names_ok (m := l) (fun x hx => (h x hx).2.1)
  have z := wt_ok hO (fun x hx => (h x hx).1) q 0
  have hnX : nX ≤ 1000000 := by have := hX.1; simp at this; omega
  have := ClaimM_anyG (l.map Pr.nm) q _ k a n c k' a' n' c' aX nX cX w hP hsq (by omega) hT (szMC_ok hO hN (fun x hx => (h x hx).1) q 0) (by omega) hX hnX (fun x hx => by obtain ⟨q, hq, rfl⟩ := List.mem_map.1 hx; have := (h q hq).2.2; unfold maxLen; omega)
  rw [h2] at this
  exact this
end Go.Proofs.YtnhemglpbhnmdaaGreat.Mt
