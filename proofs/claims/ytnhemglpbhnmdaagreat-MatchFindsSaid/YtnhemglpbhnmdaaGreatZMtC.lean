/-
  What is proved: package match's matcher: whether a pattern turns into a term, and what is put in the map for it.
-/
import Derived.Test.YtnhemglpbhnmdaaGreatMC
import Derived.Test.YtnhemglpbhnmdaaGreatZTrmWs
import Derived.Test.YtnhemglpbhnmdaaGreatBM
namespace Go.Proofs.YtnhemglpbhnmdaaGreat.Mt
open Go.RowKit L T C U
set_option linter.unusedVariables false
set_option linter.unusedSimpArgs false

/-! mathematics -/
theorem mat_mk (X : List ByteArray) (p : Tm) (l : List Pr) (t : Tm) : mat X p l t =
    if opT p = 1 ∧ hasS X (nameT p) = true then (match getU l (nameT p) with | some u => if eqT u t then some l else none | none => if mayT t then some (putL l ⟨nameT p, t⟩) else none)
    else if opT p = opT t ∧ nameT p = nameT t ∧ numT p = numT t ∧ (argsT p).length = (argsT t).length then mats X (argsT p) l (argsT t) else none := by
  cases p with | mk o s z xs => rw [mat]; rfl
theorem mats_step {X : List ByteArray} {xs : List Tm} {l : List Pr} {us : List Tm} {k : Nat} {x u : Tm} (h1 : xs[k]? = some x) (h2 : us[k]? = some u) :
    mats X (xs.drop k) l (us.drop k) = match mat X x l u with | none => none | some l' => mats X (xs.drop (k + 1)) l' (us.drop (k + 1)) := by
  rw [drop_t h1, drop_t h2, mats]
  cases mat X x l u <;> rfl
theorem sz_at : ∀ {l : List Tm} {k : Nat} {x : Tm}, l[k]? = some x → size x ≤ sizes l
  | [], k, x, h => by simp at h
  | t :: l, 0, x, h => by simp at h; subst h; rw [sizes]; omega
  | t :: l, k + 1, x, h => by have := sz_at (l := l) (k := k) (by simpa using h); rw [sizes]; omega
mutual
theorem mat_len (X : List ByteArray) : ∀ (p : Tm) (l : List Pr) (t : Tm) (l' : List Pr), mat X p l t = some l' → l'.length ≤ l.length + size p
  | .mk o s z xs, l, t, l', h => by
    rw [mat] at h
    rw [size]
    split at h
    · split at h
      · split at h
        · injection h with h; subst h; omega
        · cases h
      · split at h
        · injection h with h; subst h; rw [putL_len]; omega
        · cases h
    · split at h
      · have := mats_len X xs l (argsT t) l' h
        omega
      · cases h
theorem mats_len (X : List ByteArray) : ∀ (xs : List Tm) (l : List Pr) (us : List Tm) (l' : List Pr), mats X xs l us = some l' → l'.length ≤ l.length + sizes xs
  | [], l, us, l', h => by rw [mats] at h; injection h with h; subst h; omega
  | x :: xs, l, [], l', h => by rw [mats] at h; cases h
  | x :: xs, l, u :: us, l', h => by
    rw [mats] at h
    rw [sizes]
    split at h
    · cases h
    · rename_i l1 h1
      have a := mat_len X x l u l1 h1
      have b := mats_len X xs l1 us l' h
      omega
end

/-! what a matcher has in memory -/
def clo (bv bm bo : Nat) : Value := .func (.func 75) #[] #[.pointer (some ⟨bv, 0, none⟩), .pointer (some ⟨bm, 0, none⟩), .pointer (some ⟨bo, 0, none⟩)]
structure Ctx (B : Nat) (X : List ByteArray) (bv bm bo gs g : Nat) (W : World) : Prop where
  hv : Blk W bv #[.map (some gs)] 71
  hm : Blk W bm #[clo bv bm bo] 45
  ho : Blk W bo #[.map (some g)] 68
  hs : SetM W gs X
  ne : gs ≠ g
  nv : bv ≠ g
  nm : bm ≠ g
  no : bo ≠ g
  Bg : B ≤ g
  gl : g < W.heap.size
  BW : B ≤ W.heap.size
theorem gr_b {B g : Nat} {W W' : World} (h : W.grownBy W' (some g)) (hB : B ≤ W.heap.size) (hg : B ≤ g) : Below B W W' := (Below.refl B W).grown h hB (fun k e => by cases e; exact hg)
theorem gr_of {W W' : World} (g : Nat) (h : Below W.heap.size W W') : W.grownBy W' (some g) := ⟨h.os, h.tape, h.output, h.size, fun k hk _ => h.block k hk⟩
theorem Ctx.kept {B : Nat} {X : List ByteArray} {bv bm bo gs g : Nat} {W W' : World} (h : Ctx B X bv bm bo gs g W) (hg : W.grownBy W' (some g)) : Ctx B X bv bm bo gs g W' :=
  ⟨Blk.grown h.hv hg (fun e => h.nv (by cases e; rfl)), Blk.grown h.hm hg (fun e => h.nm (by cases e; rfl)), Blk.grown h.ho hg (fun e => h.no (by cases e; rfl)), h.hs.keep (hg.block gs h.hs.lt (fun e => h.ne (by cases e; rfl))), h.ne, h.nv, h.nm, h.no, h.Bg, Nat.lt_of_lt_of_le h.gl hg.size, Nat.le_trans h.BW hg.size⟩
/-- what comes of a match -/
def RtM (B g : Nat) (W : World) (r : Option (List Pr)) (e : Ending) (W' : World) : Prop := e = .returned (.bool r.isSome) ∧ (∀ l', r = some l' → MapM B W' g l') ∧ W.grownBy W' (some g)
def MOk (X : List ByteArray) (p : Tm) : Prop := ∀ (B bv bm bo gs g : Nat) (l : List Pr) (t : Tm) (a : Option Addr) (n c : Nat) (a' : Option Addr) (n' c' : Nat) (W : World),
  Ctx B X bv bm bo gs g W → MapM B W g l → l.length + size p ≤ 1000000 → smT p → size t ≤ 4096 → Ar B W p a n c → Ar B W t a' n' c' →
  Calls Tryz.prog 75 #[.agg #[.int .i64 (opT p), .string (nameT p), .int .i64 (numT p), .slice a n c], .agg #[.int .i64 (opT t), .string (nameT t), .int .i64 (numT t), .slice a' n' c'], .pointer (some ⟨bv, 0, none⟩), .pointer (some ⟨bm, 0, none⟩), .pointer (some ⟨bo, 0, none⟩)] W fun e W' => RtM B g W (mat X p l t) e W'

set_option maxRecDepth 100000 in
set_option maxHeartbeats 8000000 in
theorem equal_of (X : List ByteArray) (xs : List Tm) (hok : ∀ x ∈ xs, MOk X x) (B bv bm bo gs g : Nat) (l : List Pr) (us : List Tm) (a : Option Addr) (n c : Nat) (a' : Option Addr) (n' c' : Nat) (W : World) (hlen : n = n')
    (hC : Ctx B X bv bm bo gs g W) (hM : MapM B W g l) (hl : l.length + sizes xs ≤ 1000000) (hsm : smTs xs) (hsz : sizes us ≤ 4096) (hA : IsT B W a n c xs) (hA' : IsT B W a' n' c' us) :
    Calls Tryz.prog 72 #[.slice a n c, .slice a' n' c', clo bv bm bo] W fun e W' => RtM B g W (mats X xs l us) e W' := by
  subst hlen
  have hn : n = xs.length := hA.1
  have hn' : n = us.length := hA'.1
  have hn63 : n ≤ 9223372036854775807 := by have h1 := hA.2.1; have h2 := hA.2.2.1; unfold maxLen at h2; omega
  have HC := Lib.hid hC
  have HA := Lib.hid hA
  have HA' := Lib.hid hA'
  have HOk := Lib.hid hok
  have HSm := Lib.hid (show ∀ k x, xs[k]? = some x → smT x from fun k x h => smTs_at hsm h)
  have HSz := Lib.hid (show ∀ k u, us[k]? = some u → size u ≤ 4096 from fun k u h => by have := sz_at h; omega)
  have HSx := Lib.hid (show ∀ k x, xs[k]? = some x → size x + sizes (xs.drop (k + 1)) = sizes (xs.drop k) from fun k x h => by rw [drop_t h, sizes])
  have HEnd := Lib.hid (show ∀ lk, mats X (xs.drop n) lk (us.drop n) = some lk from fun lk => by rw [List.drop_eq_nil_of_le (by omega), mats])
  have H0 := Lib.hid (show ∃ lk, MapM B W g lk ∧ mats X (xs.drop 0) lk (us.drop 0) = mats X xs l us ∧ lk.length + sizes (xs.drop 0) ≤ 1000000 from ⟨l, hM, by rw [List.drop_zero, List.drop_zero], by rw [List.drop_zero]; exact hl⟩)
  generalize mats X xs l us = R at *
  clear hC hM hl hsm hsz hA hA' hok hn hn'
  unfold clo
  go_enter Tryz.func72, Tryz.ntmps72
  go_wp2
  go_loopw [17] (fun i wr0 => ∃ (wr : World) (k : Nat), wr = wr0 ∧ k ≤ n ∧ i = .int .i64 k ∧ W.grownBy wr (some g) ∧ Hid (∃ lk, MapM B wr g lk ∧ mats X (xs.drop k) lk (us.drop k) = R ∧ lk.length + sizes (xs.drop k) ≤ 1000000)) (fun i _ => n - (intOf i).toNat)
  case atStart => exact ⟨_, 0, rfl, by omega, rfl, gr_of g (Below.refl _ _), H0⟩
  case round =>
    obtain ⟨wr, k, rfl, hk, rfl, hG, hR⟩ := hrel
    by_cases hlt : k < n
    · have hCr := HC.out.kept hG
      have hBb := gr_b hG HC.out.BW HC.out.Bg
      obtain ⟨bb, o, x, ax, mx, cx, rfl, hb, y0, y1, y2, y3, hx, hokx⟩ := (HA.out.bel hBb).at hlt
      obtain ⟨bb', o', u, au, mu, cu, rfl, hb', z0, z1, z2, z3, hu, hoku⟩ := (HA'.out.bel hBb).at hlt
      obtain ⟨W1, hW1, hB1, hs1, S1⟩ := box1 wr (opT x) (nameT x) (numT x) ax mx cx
      have hbr : bb' < wr.heap.size := Nat.lt_of_lt_of_le hb' hCr.BW
      have v0 := (hB1.cell (p := ⟨bb', _, none⟩) hbr).trans z0
      have v1 := (hB1.cell (p := ⟨bb', _, none⟩) hbr).trans z1
      have v2 := (hB1.cell (p := ⟨bb', _, none⟩) hbr).trans z2
      have v3 := (hB1.cell (p := ⟨bb', _, none⟩) hbr).trans z3
      obtain ⟨W2, hW2, hB12, hs2, T2⟩ := box1 W1 (opT u) (nameT u) (numT u) au mu cu
      have S2 := TBox.b S1 hB12
      have hB2 := bel_trans hB1 hB12
      obtain ⟨s0, s1, s2, s3⟩ := S2.four
      obtain ⟨t0, t1, t2, t3⟩ := T2.four
      obtain ⟨lk, hMk, hRk, hlk⟩ := hR.out
      have hg2 : wr.grownBy W2 (some g) := gr_of g hB2
      have hstep := mats_step (X := X) (l := lk) hx hu
      have hsx := HSx.out k x hx
      have hBr := hCr.BW
      have cM := HOk.out x (List.mem_of_getElem? hx) B bv bm bo gs g lk u ax mx cx au mu cu W2 (hCr.kept hg2) (hMk.b hBr hB2) (by omega) (HSm.out k x hx) (HSz.out k u hu) (Ar.bel (hB2.mono hBr) _ hokx) (Ar.bel (hB2.mono hBr) _ hoku)
      rw [hRk] at hstep
      have hlen1 : ∀ l', mat X x lk u = some l' → l'.length + sizes (xs.drop (k + 1)) ≤ 1000000 := fun l' h => by have := mat_len X x lk u l' h; omega
      have HG2 := Lib.hid (hG.trans hg2)
      have hk0 : 0 ≤ (k : Int) := by omega
      have hk1 : (k : Int) < (n : Int) := by omega
      unfold RtM at cM
      clear hR hMk hRk hlk S1 S2 T2 hs1 hs2 hx hu hokx hoku hCr hBb hsx
      generalize opT x = ox at *
      generalize nameT x = mx' at *
      generalize numT x = zx at *
      generalize opT u = ou at *
      generalize nameT u = mu' at *
      generalize numT u = zu at *
      cases hr : mat X x lk u with
      | none =>
        rw [hr] at cM hstep
        clear hlen1
        have HR : Hid (R = none) := hstep
        clear hstep hr
        go_wp2_with (go_at_call 75; ((with_reducible refine cM.mono ?_); rintro e w5 ⟨rfl, -, hg5⟩))
        go_ret
        exact ⟨by rw [HR.out]; rfl, fun l' h => (by rw [HR.out] at h; cases h), HG2.out.trans hg5⟩
      | some l1 =>
        rw [hr] at cM hstep
        have hl1 := hlen1 l1 hr
        have HR : Hid (mats X (xs.drop (k + 1)) l1 (us.drop (k + 1)) = R) := hstep.symm
        clear hstep hr hlen1
        go_wp2_with (go_at_call 75; ((with_reducible refine cM.mono ?_); rintro e w5 ⟨rfl, hm5, hg5⟩; have HM5 := Lib.hid (hm5 l1 rfl); clear hm5))
        go_roundw
        case rel => exact ⟨_, k + 1, rfl, by omega, by go_num, HG2.out.trans hg5, Lib.hid ⟨l1, HM5.out, HR.out, hl1⟩⟩
        case measure => simp [intOf]; omega
    · obtain rfl : k = n := by omega
      obtain ⟨lk, hMk, hRk, -⟩ := hR.out
      rw [HEnd.out lk] at hRk
      have HR := Lib.hid hRk
      have HMk := Lib.hid hMk
      clear hR hMk hRk
      go_wp2
      go_ret
      exact ⟨by rw [← HR.out]; rfl, fun l' h => (by rw [← HR.out] at h; injection h with h; subst h; exact HMk.out), hG⟩
set_option maxRecDepth 100000 in
theorem equal_ne (a : Option Addr) (n c : Nat) (a' : Option Addr) (n' c' : Nat) (f : Value) (W : World) (hne : n ≠ n') (h1 : n ≤ 9223372036854775807) (h2 : n' ≤ 9223372036854775807) :
    Calls Tryz.prog 72 #[.slice a n c, .slice a' n' c', f] W fun e W' => e = .returned (.bool false) ∧ W' = W := by
  have hd : ¬ (n : Int) = (n' : Int) := by omega
  go_enter Tryz.func72, Tryz.ntmps72
  go_wp2
  go_ret
  exact ⟨rfl, rfl⟩
theorem isT_bound {B : Nat} {w : World} {a : Option Addr} {n c : Nat} {l : List Tm} (h : IsT B w a n c l) : n ≤ 9223372036854775807 := by have h1 := h.2.1; have h2 := h.2.2.1; unfold maxLen at h2; omega
set_option maxRecDepth 100000 in
set_option maxHeartbeats 32000000 in
theorem mat_step (X : List ByteArray) (p : Tm) (hok : ∀ x ∈ argsT p, MOk X x) : MOk X p := by
  intro B bv bm bo gs g l t a n c a' n' c' W hC hM hl hsm hsz hA hA'
  obtain ⟨W2, hW2, hB2, hs2, S2, T2⟩ := box2 W (opT p) (nameT p) (numT p) a n c (opT t) (nameT t) (numT t) a' n' c'
  have hg2 : W.grownBy W2 (some g) := gr_of g hB2
  have hC2 := hC.kept hg2
  have hM2 := hM.b hC.BW hB2
  have hIx : IsT B W2 a n c (argsT p) := (ar_isT.1 hA).bel (hB2.mono hC.BW)
  have hIu : IsT B W2 a' n' c' (argsT t) := (ar_isT.1 hA').bel (hB2.mono hC.BW)
  have hArt := Ar.bel (hB2.mono hC.BW) _ hA'
  have hszp : size p = 1 + sizes (argsT p) := by cases p; rw [size]; rfl
  have hszt : size t = 1 + sizes (argsT t) := by cases t; rw [size]; rfl
  have hnm := smT_name hsm
  have cEq := fun (h : n = n') => equal_of X (argsT p) hok B bv bm bo gs g l (argsT t) a n c a' n' c' W2 h hC2 hM2 (by omega) (smT_args hsm) (by omega) hIx hIu
  have cNe := fun (h : n ≠ n') => equal_ne a n c a' n' c' (clo bv bm bo) W2 h (isT_bound hIx) (isT_bound hIu)
  have hlx : n = (argsT p).length := hIx.1
  have hlu : n' = (argsT t).length := hIu.1
  have hask := hC2.hs.ask (nameT p) hnm
  have HMt := Lib.hid (mat_mk X p l t)
  have v0 := Blk.cell hC2.hv 0
  have m0 := Blk.cell hC2.hm 0
  have o0 := Blk.cell hC2.ho 0
  have HM2 := Lib.hid hM2
  have HC2 := Lib.hid hC2
  have HW2 := Lib.hid (show Below W.heap.size W W2 from hB2)
  have HG2 := Lib.hid hg2
  have HS2 := Lib.hid S2
  have HT2 := Lib.hid T2
  have HAt := Lib.hid hArt
  have hgl : g < W.heap.size := hC.gl
  have hBW : B ≤ W.heap.size := hC.BW
  have hBg : B ≤ g := hC.Bg
  have HLen := Lib.hid (show l.length < maxLen from by have := size_pos p; unfold maxLen; omega)
  obtain ⟨s0, s1, s2, s3⟩ := S2.four
  obtain ⟨t0, t1, t2, t3⟩ := T2.four
  have hN : numT p = numT p := rfl
  clear hC hM hok hsm hA hA' hC2 hM2 hIx hIu hArt S2 T2 hs2 hg2 hszp hszt hl
  unfold RtM
  by_cases hv : opT p = 1 ∧ hasS X (nameT p) = true
  · obtain ⟨ho, hh⟩ := hv
    rw [hh] at hask
    rw [if_pos ⟨ho, hh⟩] at HMt
    clear cEq cNe m0 hlx hlu
    cases hg : getU l (nameT p) with
    | some u =>
      obtain ⟨au, nu, cu, hrun, hAu⟩ := HM2.out.find (nameT p) hnm u hg
      rw [hg] at HMt
      obtain ⟨W3, hW3, hB3, hs3, U3⟩ := box1 W2 (opT u) (nameT u) (numT u) au nu cu
      have cS := Same_any u t au nu cu a' n' c' W3 (Ar.mono (Nat.le_trans hBW (Nat.le_trans hB2.size hB3.size)) _ (Ar.bel (hB3.mono (Nat.le_trans hBW hB2.size)) _ hAu)) (Ar.mono (Nat.le_trans hBW (Nat.le_trans hB2.size hB3.size)) _ (Ar.bel (hB3.mono (Nat.le_trans hBW hB2.size)) _ HAt.out))
      obtain ⟨u0, u1, u2, u3⟩ := U3.four
      obtain ⟨t0, t1, t2, t3⟩ := (TBox.b HT2.out hB3).four
      have HM3 := Lib.hid (HM2.out.b (Nat.le_trans hBW hB2.size) hB3)
      have HG3 := Lib.hid (HG2.out.trans (gr_of g hB3))
      have hB23 : B ≤ W3.heap.size := Nat.le_trans hBW (Nat.le_trans hB2.size hB3.size)
      clear hAu hs3 U3 hg
      generalize hQ : eqT u t = Q at *
      generalize opT u = ou at *
      generalize nameT u = mu' at *
      generalize numT u = zu at *
      generalize opT p = op at *
      generalize nameT p = nm at *
      generalize numT p = zp at *
      generalize opT t = ot at *
      generalize nameT t = nt at *
      generalize numT t = zt at *
      subst ho
      have HQ := Lib.hid hQ
      clear hQ
      generalize mat X p l t = R at *
      go_enter Tryz.func75, Tryz.ntmps75
      go_wp2_with (go_at_call 76; ((with_reducible refine cS.mono ?_); rintro e w5 ⟨rfl, hb5⟩))
      go_ret
      cases Q with
      | true =>
        have hR : R = some l := by have h := HMt.out; rw [HQ.out] at h; simpa using h
        exact ⟨by rw [hR]; rfl, fun l' h => (by rw [hR] at h; injection h with h; subst h; exact HM3.out.b hB23 hb5), HG3.out.trans (gr_of g hb5)⟩
      | false =>
        have hR : R = none := by have h := HMt.out; rw [HQ.out] at h; simpa using h
        exact ⟨by rw [hR]; rfl, fun l' h => (by rw [hR] at h; cases h), HG3.out.trans (gr_of g hb5)⟩
    | none =>
      have hrun := HM2.out.miss (nameT p) hnm hg
      rw [hg] at HMt
      obtain ⟨W3, hW3, hB3, hs3, U3⟩ := box1 W2 0 ⟨#[]⟩ 0 none 0 0
      have hB23 : B ≤ W3.heap.size := Nat.le_trans hBW (Nat.le_trans hB2.size hB3.size)
      obtain ⟨W4, hrun4, hM4, hg4, hb4⟩ := (HM2.out.b (Nat.le_trans hBW hB2.size) hB3).put hBg hB23 HLen.out ⟨nameT p, t⟩ a' n' c' hnm (Ar.bel (hB3.mono (Nat.le_trans hBW hB2.size)) _ HAt.out)
      have hT3 := TBox.b HT2.out hB3
      have hT4 : TBox W4 (W.heap.size + 1) (opT t) (nameT t) (numT t) a' n' c' := Blk.grown hT3 hg4 (fun e => by injection e with e; omega)
      have hA4 := Ar.bel hb4 _ (Ar.bel (hB3.mono (Nat.le_trans hBW hB2.size)) _ HAt.out)
      have cY := may_any t a' n' c' W4 hsz (Ar.mono (Nat.le_trans hB23 hg4.size) _ hA4)
      have hS3 := TBox.b HS2.out hB3
      obtain ⟨s0, s1, s2, s3⟩ := hS3.four
      obtain ⟨t0, t1, t2, t3⟩ := hT3.four
      obtain ⟨q0, q1, q2, q3⟩ := hT4.four
      have o3 := Blk.cell (Blk.below HC2.out.ho hB3) 0
      have HM4 := Lib.hid (hM4.congr (m := putL l ⟨nameT p, t⟩) (fun s => putL_front hg s) (by rw [putL_len]; exact Nat.le_refl _))
      have HG4 := Lib.hid ((HG2.out.trans (gr_of g hB3)).trans hg4)
      have hB4 : B ≤ W4.heap.size := Nat.le_trans hB23 hg4.size
      have HP := Lib.hid (show (⟨nameT p, t⟩ : Pr).nm = nameT p from rfl)
      dsimp only at hrun4
      clear hs3 U3 hg hM4 hg4 hb4 hT3 hT4 hA4 hS3
      generalize hQ : mayT t = Q at *
      generalize hY : putL l ⟨nameT p, t⟩ = Y at *
      clear hY HP
      generalize opT p = op at *
      generalize nameT p = nm at *
      generalize numT p = zp at *
      generalize opT t = ot at *
      generalize nameT t = nt at *
      generalize numT t = zt at *
      subst ho
      subst hW3
      clear hQ
      generalize mat X p l t = R at *
      go_enter Tryz.func75, Tryz.ntmps75
      go_wp2_with (go_at_call 77; ((with_reducible refine cY.mono ?_); rintro e w5 ⟨rfl, hb5⟩))
      go_ret
      cases Q with
      | true =>
        have hR : R = some Y := HMt.out
        exact ⟨by rw [hR]; rfl, fun l' h => (by rw [hR] at h; injection h with h; subst h; exact HM4.out.b hB4 hb5), HG4.out.trans (gr_of g hb5)⟩
      | false =>
        have hR : R = none := HMt.out
        exact ⟨by rw [hR]; rfl, fun l' h => (by rw [hR] at h; cases h), HG4.out.trans (gr_of g hb5)⟩
  · rw [if_neg hv] at HMt
    by_cases ho : opT p = 1
    · have hh : hasS X (nameT p) = false := by
        cases h : hasS X (nameT p) with
        | false => rfl
        | true => exact absurd ⟨ho, h⟩ hv
      rw [hh] at hask
      clear hv hh
      by_cases c1 : opT p = opT t
      · by_cases c2 : nameT p = nameT t
        · by_cases c3 : numT p = numT t
          · by_cases c4 : n = n'
            · subst c4
              rw [if_pos ⟨c1, c2, c3, by rw [← hlx, ← hlu]⟩] at HMt
              have cE := cEq rfl
              unfold clo at cE m0
              unfold RtM at cE
              clear cEq cNe hlx hlu
              generalize mats X (argsT p) l (argsT t) = Rm at *
              generalize opT p = op at *
              generalize nameT p = nm at *
              generalize numT p = zp at *
              generalize opT t = ot at *
              generalize nameT t = nt at *
              generalize numT t = zt at *
              generalize mat X p l t = R at *
              subst ho
              obtain rfl := c1
              subst c2
              subst c3
              go_enter Tryz.func75, Tryz.ntmps75
              go_wp2_with (go_at_call 72; ((with_reducible refine cE.mono ?_); rintro e w5 ⟨rfl, hm5, hg5⟩))
              go_ret
              exact ⟨by rw [HMt.out]; rfl, fun l' h => hm5 l' (by rw [← HMt.out]; exact h), HG2.out.trans hg5⟩
            · rw [if_neg (fun h => c4 (by rw [hlx, hlu]; exact h.2.2.2))] at HMt
              have cE := cNe c4
              unfold clo at cE m0
              clear cEq cNe hlx hlu
              generalize opT p = op at *
              generalize nameT p = nm at *
              generalize numT p = zp at *
              generalize opT t = ot at *
              generalize nameT t = nt at *
              generalize numT t = zt at *
              generalize mat X p l t = R at *
              subst ho
              obtain rfl := c1
              subst c2
              subst c3
              go_enter Tryz.func75, Tryz.ntmps75
              go_wp2_with (go_at_call 72; ((with_reducible refine cE.mono ?_); rintro e w5 ⟨rfl, hw5⟩))
              go_ret
              exact ⟨by rw [HMt.out]; rfl, fun l' h => (by rw [HMt.out] at h; cases h), (by first | exact HG2.out | (rw [hw5]; exact HG2.out))⟩
          · rw [if_neg (fun h => c3 h.2.2.1)] at HMt
            clear cEq cNe hlx hlu
            generalize opT p = op at *
            generalize nameT p = nm at *
            generalize numT p = zp at *
            generalize opT t = ot at *
            generalize nameT t = nt at *
            generalize numT t = zt at *
            generalize mat X p l t = R at *
            subst ho
            obtain rfl := c1
            subst c2
            go_enter Tryz.func75, Tryz.ntmps75
            go_wp2
            go_ret
            exact ⟨by rw [HMt.out]; rfl, fun l' h => (by rw [HMt.out] at h; cases h), HG2.out⟩
        · rw [if_neg (fun h => c2 h.2.1)] at HMt
          clear cEq cNe hlx hlu
          generalize opT p = op at *
          generalize nameT p = nm at *
          generalize numT p = zp at *
          generalize opT t = ot at *
          generalize nameT t = nt at *
          generalize numT t = zt at *
          generalize mat X p l t = R at *
          subst ho
          obtain rfl := c1
          have d1 : (nm.toList == nt.toList) = false := by cases h : nm.toList == nt.toList with | false => rfl | true => exact absurd (eqS_iff.1 h) c2
          have d2 : (nm.toList = nt.toList) = False := by simpa using d1
          go_enter Tryz.func75, Tryz.ntmps75
          go_wp2
          go_ret
          exact ⟨by rw [HMt.out]; rfl, fun l' h => (by rw [HMt.out] at h; cases h), HG2.out⟩
      · rw [if_neg (fun h => c1 h.1)] at HMt
        clear cEq cNe hlx hlu
        generalize opT p = op at *
        generalize nameT p = nm at *
        generalize numT p = zp at *
        generalize opT t = ot at *
        generalize nameT t = nt at *
        generalize numT t = zt at *
        generalize mat X p l t = R at *
        subst ho
        go_enter Tryz.func75, Tryz.ntmps75
        go_wp2
        go_ret
        exact ⟨by rw [HMt.out]; rfl, fun l' h => (by rw [HMt.out] at h; cases h), HG2.out⟩
    · clear hv hask
      by_cases c1 : opT p = opT t
      · by_cases c2 : nameT p = nameT t
        · by_cases c3 : numT p = numT t
          · by_cases c4 : n = n'
            · subst c4
              rw [if_pos ⟨c1, c2, c3, by rw [← hlx, ← hlu]⟩] at HMt
              have cE := cEq rfl
              unfold clo at cE m0
              unfold RtM at cE
              clear cEq cNe hlx hlu
              generalize mats X (argsT p) l (argsT t) = Rm at *
              generalize opT p = op at *
              generalize nameT p = nm at *
              generalize numT p = zp at *
              generalize opT t = ot at *
              generalize nameT t = nt at *
              generalize numT t = zt at *
              generalize mat X p l t = R at *
              obtain rfl := c1
              subst c2
              subst c3
              go_enter Tryz.func75, Tryz.ntmps75
              go_wp2_with (go_at_call 72; ((with_reducible refine cE.mono ?_); rintro e w5 ⟨rfl, hm5, hg5⟩))
              go_ret
              exact ⟨by rw [HMt.out]; rfl, fun l' h => hm5 l' (by rw [← HMt.out]; exact h), HG2.out.trans hg5⟩
            · rw [if_neg (fun h => c4 (by rw [hlx, hlu]; exact h.2.2.2))] at HMt
              have cE := cNe c4
              unfold clo at cE m0
              clear cEq cNe hlx hlu
              generalize opT p = op at *
              generalize nameT p = nm at *
              generalize numT p = zp at *
              generalize opT t = ot at *
              generalize nameT t = nt at *
              generalize numT t = zt at *
              generalize mat X p l t = R at *
              obtain rfl := c1
              subst c2
              subst c3
              go_enter Tryz.func75, Tryz.ntmps75
              go_wp2_with (go_at_call 72; ((with_reducible refine cE.mono ?_); rintro e w5 ⟨rfl, hw5⟩))
              go_ret
              exact ⟨by rw [HMt.out]; rfl, fun l' h => (by rw [HMt.out] at h; cases h), (by first | exact HG2.out | (rw [hw5]; exact HG2.out))⟩
          · rw [if_neg (fun h => c3 h.2.2.1)] at HMt
            clear cEq cNe hlx hlu
            generalize opT p = op at *
            generalize nameT p = nm at *
            generalize numT p = zp at *
            generalize opT t = ot at *
            generalize nameT t = nt at *
            generalize numT t = zt at *
            generalize mat X p l t = R at *
            obtain rfl := c1
            subst c2
            go_enter Tryz.func75, Tryz.ntmps75
            go_wp2
            go_ret
            exact ⟨by rw [HMt.out]; rfl, fun l' h => (by rw [HMt.out] at h; cases h), HG2.out⟩
        · rw [if_neg (fun h => c2 h.2.1)] at HMt
          clear cEq cNe hlx hlu
          generalize opT p = op at *
          generalize nameT p = nm at *
          generalize numT p = zp at *
          generalize opT t = ot at *
          generalize nameT t = nt at *
          generalize numT t = zt at *
          generalize mat X p l t = R at *
          obtain rfl := c1
          have d1 : (nm.toList == nt.toList) = false := by cases h : nm.toList == nt.toList with | false => rfl | true => exact absurd (eqS_iff.1 h) c2
          have d2 : (nm.toList = nt.toList) = False := by simpa using d1
          go_enter Tryz.func75, Tryz.ntmps75
          go_wp2
          go_ret
          exact ⟨by rw [HMt.out]; rfl, fun l' h => (by rw [HMt.out] at h; cases h), HG2.out⟩
      · rw [if_neg (fun h => c1 h.1)] at HMt
        clear cEq cNe hlx hlu
        generalize opT p = op at *
        generalize nameT p = nm at *
        generalize numT p = zp at *
        generalize opT t = ot at *
        generalize nameT t = nt at *
        generalize numT t = zt at *
        generalize mat X p l t = R at *
        go_enter Tryz.func75, Tryz.ntmps75
        go_wp2
        go_ret
        exact ⟨by rw [HMt.out]; rfl, fun l' h => (by rw [HMt.out] at h; cases h), HG2.out⟩
theorem match_any (X : List ByteArray) (p : Tm) : MOk X p := Tm.ind (mat_step X) p
end Go.Proofs.YtnhemglpbhnmdaaGreat.Mt
