/-
  What is proved: matching claims as a function on plain claims (plain mathematics).
  What is proved: EqualFunc over claims, by the closure that matches them.
  What is proved: package match's bare: a claim without its Terms and Subs.
-/
import Derived.Test.YtnhemglpbhnmdaaGreatMG
import Derived.Test.YtnhemglpbhnmdaaGreatBC
import Derived.Test.YtnhemglpbhnmdaaGreatZSbJ
import Derived.Test.YtnhemglpbhnmdaaGreatZMtC
import Derived.Test.YtnhemglpbhnmdaaGreatBL
namespace Go.Proofs.YtnhemglpbhnmdaaGreat.Mt
open Go.RowKit L T C B U
set_option linter.unusedVariables false
set_option linter.unusedSimpArgs false

mutual
/-- what turns a claim into another one, beside what is there -/
def matC (X : List ByteArray) : Cl → List Pr → Cl → Option (List Pr)
  | .mk o s z ts cs, l, c =>
    if o = opC c ∧ (o = 11 ∨ o = 12 ∨ s = nmC c) ∧ z = soC c ∧ ts.length = (tsC c).length ∧ cs.length = (subC c).length then
      match mats X ts l (tsC c) with | none => none | some l1 => matCs X cs l1 (subC c)
    else none
def matCs (X : List ByteArray) : List Cl → List Pr → List Cl → Option (List Pr)
  | [], l, _ => some l
  | _ :: _, _, [] => none
  | x :: xs, l, u :: us => match matC X x l u with | none => none | some l' => matCs X xs l' us
end
theorem matC_mk (X : List ByteArray) (p : Cl) (l : List Pr) (c : Cl) : matC X p l c =
    if opC p = opC c ∧ (opC p = 11 ∨ opC p = 12 ∨ nmC p = nmC c) ∧ soC p = soC c ∧ (tsC p).length = (tsC c).length ∧ (subC p).length = (subC c).length then
      match mats X (tsC p) l (tsC c) with | none => none | some l1 => matCs X (subC p) l1 (subC c)
    else none := by
  cases p with | mk o s z ts cs => rw [matC]; rfl
theorem matCs_step {X : List ByteArray} {xs : List Cl} {l : List Pr} {us : List Cl} {k : Nat} {x u : Cl} (h1 : xs[k]? = some x) (h2 : us[k]? = some u) :
    matCs X (xs.drop k) l (us.drop k) = match matC X x l u with | none => none | some l' => matCs X (xs.drop (k + 1)) l' (us.drop (k + 1)) := by
  rw [drop_c h1, drop_c h2, matCs]
mutual
theorem matC_len (X : List ByteArray) : ∀ (p : Cl) (l : List Pr) (c : Cl) (l' : List Pr), matC X p l c = some l' → l'.length ≤ l.length + wt p
  | .mk o s z ts cs, l, c, l', h => by
    rw [matC] at h
    rw [wt]
    split at h
    · split at h
      · cases h
      · rename_i l1 h1
        have a := mats_len X ts l (tsC c) l1 h1
        have b := matCs_len X cs l1 (subC c) l' h
        omega
    · cases h
theorem matCs_len (X : List ByteArray) : ∀ (xs : List Cl) (l : List Pr) (us : List Cl) (l' : List Pr), matCs X xs l us = some l' → l'.length ≤ l.length + wts xs
  | [], l, us, l', h => by rw [matCs] at h; injection h with h; subst h; omega
  | x :: xs, l, [], l', h => by rw [matCs] at h; cases h
  | x :: xs, l, u :: us, l', h => by
    rw [matCs] at h
    rw [wts]
    split at h
    · cases h
    · rename_i l1 h1
      have a := matC_len X x l u l1 h1
      have b := matCs_len X xs l1 us l' h
      omega
end
mutual
theorem matC_good (K : Nat) (X : List ByteArray) : ∀ (p : Cl) (l : List Pr) (c : Cl) (l' : List Pr), matC X p l c = some l' → smC p → wt c ≤ K → good K l → good K l'
  | .mk o s z ts cs, l, c, l', h, hs, ht, hg => by
    rw [smC] at hs
    rw [matC] at h
    have hw : wt c = 1 + sizes (tsC c) + wts (subC c) := by cases c; rw [wt]; rfl
    split at h
    · split at h
      · cases h
      · rename_i l1 h1
        exact matCs_good K X cs l1 (subC c) l' h hs.2 (by omega) (mats_good K X ts l (tsC c) l1 h1 hs.1 (by omega) hg)
    · cases h
theorem matCs_good (K : Nat) (X : List ByteArray) : ∀ (xs : List Cl) (l : List Pr) (us : List Cl) (l' : List Pr), matCs X xs l us = some l' → smCs xs → wts us ≤ K → good K l → good K l'
  | [], l, us, l', h, _, _, hg => by rw [matCs] at h; injection h with h; subst h; exact hg
  | x :: xs, l, [], l', h, _, _, _ => by rw [matCs] at h; cases h
  | x :: xs, l, u :: us, l', h, hs, ht, hg => by
    rw [matCs] at h
    rw [smCs] at hs
    rw [wts] at ht
    split at h
    · cases h
    · rename_i l1 h1
      exact matCs_good K X xs l1 us l' h hs.2 (by omega) (matC_good K X x l u l1 h1 hs.1 (by omega) hg)
end
theorem wt_at : ∀ {l : List Cl} {k : Nat} {x : Cl}, l[k]? = some x → wt x ≤ wts l
  | [], k, x, h => by simp at h
  | c :: l, 0, x, h => by simp at h; subst h; rw [wts]; omega
  | c :: l, k + 1, x, h => by have := wt_at (l := l) (k := k) (by simpa using h); rw [wts]; omega
theorem wt_mk (c : Cl) : wt c = 1 + sizes (tsC c) + wts (subC c) := by cases c; rw [wt]; rfl
end Go.Proofs.YtnhemglpbhnmdaaGreat.Mt
namespace Go.Proofs.YtnhemglpbhnmdaaGreat.Mt
open Go.RowKit L T C B U
set_option linter.unusedVariables false
set_option linter.unusedSimpArgs false

/-- the closure over claims, at this pattern -/
def GcOk (X : List ByteArray) (p : Cl) : Prop := ∀ (B bv bm bo gs g bx : Nat) (l : List Pr) (t : Cl) (k : SS) (a : Option Addr) (n c : Nat) (k' : SS) (a' : Option Addr) (n' c' : Nat) (W : World),
  Ctx B X bv bm bo gs g W → Blk W bx #[clo bv bm bo] 45 → bx ≠ g → MapM B W g l → l.length + wt p ≤ 1000000 → smC p → wt t ≤ 4096 → ArC B W p k a n c → ArC B W t k' a' n' c' →
  Calls Tryz.prog 74 #[.agg #[.int .i64 (opC p), .string (nmC p), .string (soC p), .slice k.a k.n k.c, .slice a n c], .agg #[.int .i64 (opC t), .string (nmC t), .string (soC t), .slice k'.a k'.n k'.c, .slice a' n' c'], .pointer (some ⟨bx, 0, none⟩)] W fun e W' => RtM B g W (matC X p l t) e W'
set_option maxRecDepth 100000 in
set_option maxHeartbeats 8000000 in
theorem equalC_of (X : List ByteArray) (xs : List Cl) (hok : ∀ x ∈ xs, GcOk X x) (B bv bm bo gs g bx : Nat) (l : List Pr) (us : List Cl) (a : Option Addr) (n c : Nat) (a' : Option Addr) (n' c' : Nat) (W : World) (hlen : n = n')
    (hC : Ctx B X bv bm bo gs g W) (hBx : Blk W bx #[clo bv bm bo] 45) (hbx : bx ≠ g) (hM : MapM B W g l) (hl : l.length + wts xs ≤ 1000000) (hsm : smCs xs) (hsz : wts us ≤ 4096) (hA : IsC B W a n c xs) (hA' : IsC B W a' n' c' us) :
    Calls Tryz.prog 73 #[.slice a n c, .slice a' n' c', .func (.func 74) #[] #[.pointer (some ⟨bx, 0, none⟩)]] W fun e W' => RtM B g W (matCs X xs l us) e W' := by
  subst hlen
  have hn : n = xs.length := hA.1
  have hn' : n = us.length := hA'.1
  have hn63 : n ≤ 9223372036854775807 := by have h1 := hA.2.1; have h2 := hA.2.2.1; unfold maxLen at h2; omega
  have HC := Lib.hid hC
  have HA := Lib.hid hA
  have HA' := Lib.hid hA'
  have HOk := Lib.hid hok
  have HBx := Lib.hid hBx
  have HSm := Lib.hid (show ∀ k x, xs[k]? = some x → smC x from fun k x h => smCs_at hsm h)
  have HSz := Lib.hid (show ∀ k u, us[k]? = some u → wt u ≤ 4096 from fun k u h => by have := wt_at h; omega)
  have HSx := Lib.hid (show ∀ k x, xs[k]? = some x → wt x + wts (xs.drop (k + 1)) = wts (xs.drop k) from fun k x h => by rw [drop_c h, wts])
  have HEnd := Lib.hid (show ∀ lk, matCs X (xs.drop n) lk (us.drop n) = some lk from fun lk => by rw [List.drop_eq_nil_of_le (by omega), matCs])
  have H0 := Lib.hid (show ∃ lk, MapM B W g lk ∧ matCs X (xs.drop 0) lk (us.drop 0) = matCs X xs l us ∧ lk.length + wts (xs.drop 0) ≤ 1000000 from ⟨l, hM, by rw [List.drop_zero, List.drop_zero], by rw [List.drop_zero]; exact hl⟩)
  generalize matCs X xs l us = R at *
  clear hBx hC hM hl hsm hsz hA hA' hok hn hn'
  go_enter Tryz.func73, Tryz.ntmps73
  go_wp2
  go_loopw [17] (fun i wr0 => ∃ (wr : World) (k : Nat), wr = wr0 ∧ k ≤ n ∧ i = .int .i64 k ∧ W.grownBy wr (some g) ∧ Hid (∃ lk, MapM B wr g lk ∧ matCs X (xs.drop k) lk (us.drop k) = R ∧ lk.length + wts (xs.drop k) ≤ 1000000)) (fun i _ => n - (intOf i).toNat)
  case atStart => exact ⟨_, 0, rfl, by omega, rfl, gr_of g (Below.refl _ _), H0⟩
  case round =>
    obtain ⟨wr, k, rfl, hk, rfl, hG, hR⟩ := hrel
    by_cases hlt : k < n
    · have hCr := HC.out.kept hG
      have hBb := gr_b hG HC.out.BW HC.out.Bg
      obtain ⟨bb, o, x, kx, ax, mx, cx, rfl, hb, y0, y1, y2, y3, y4, hx, hokx⟩ := (HA.out.bel hBb).at hlt
      obtain ⟨bb', o', u, ku, au, mu, cu, rfl, hb', z0, z1, z2, z3, z4, hu, hoku⟩ := (HA'.out.bel hBb).at hlt
      obtain ⟨W1, hW1, hB1, hs1, S1⟩ := cbox1 wr (opC x) (nmC x) (soC x) kx ax mx cx
      have hbr : bb' < wr.heap.size := Nat.lt_of_lt_of_le hb' hCr.BW
      have v0 := (hB1.cell (p := ⟨bb', _, none⟩) hbr).trans z0
      have v1 := (hB1.cell (p := ⟨bb', _, none⟩) hbr).trans z1
      have v2 := (hB1.cell (p := ⟨bb', _, none⟩) hbr).trans z2
      have v3 := (hB1.cell (p := ⟨bb', _, none⟩) hbr).trans z3
      have v4 := (hB1.cell (p := ⟨bb', _, none⟩) hbr).trans z4
      obtain ⟨W2, hW2, hB12, hs2, T2⟩ := cbox1 W1 (opC u) (nmC u) (soC u) ku au mu cu
      have S2 := CBox.b S1 hB12
      have hB2 := bel_trans hB1 hB12
      obtain ⟨s0, s1, s2, s3, s4⟩ := S2.five
      obtain ⟨t0, t1, t2, t3, t4⟩ := T2.five
      obtain ⟨lk, hMk, hRk, hlk⟩ := hR.out
      have hg2 : wr.grownBy W2 (some g) := gr_of g hB2
      have hstep := matCs_step (X := X) (l := lk) hx hu
      have hsx := HSx.out k x hx
      have hBr := hCr.BW
      have cM := HOk.out x (List.mem_of_getElem? hx) B bv bm bo gs g bx lk u kx ax mx cx ku au mu cu W2 (hCr.kept hg2) (Blk.grown HBx.out (hG.trans hg2) (fun e => by injection e with e; exact hbx e)) hbx (hMk.b hBr hB2) (by omega) (HSm.out k x hx) (HSz.out k u hu) (ArC.bel (hB2.mono hBr) _ hokx) (ArC.bel (hB2.mono hBr) _ hoku)
      rw [hRk] at hstep
      have hlen1 : ∀ l', matC X x lk u = some l' → l'.length + wts (xs.drop (k + 1)) ≤ 1000000 := fun l' h => by have := matC_len X x lk u l' h; omega
      have HG2 := Lib.hid (hG.trans hg2)
      have hk0 : 0 ≤ (k : Int) := by omega
      have hk1 : (k : Int) < (n : Int) := by omega
      unfold RtM at cM
      clear hR hMk hRk hlk S1 S2 T2 hs1 hs2 hx hu hokx hoku hCr hBb hsx
      obtain ⟨kxa, kxn, kxc⟩ := kx
      obtain ⟨kua, kun, kuc⟩ := ku
      dsimp only at *
      generalize opC x = ox at *
      generalize nmC x = mx' at *
      generalize soC x = zx at *
      generalize opC u = ou at *
      generalize nmC u = mu' at *
      generalize soC u = zu at *
      cases hr : matC X x lk u with
      | none =>
        rw [hr] at cM hstep
        clear hlen1
        have HR : Hid (R = none) := hstep
        clear hstep hr
        go_wp2_with (go_at_call 74; ((with_reducible refine cM.mono ?_); rintro e w5 ⟨rfl, -, hg5⟩))
        go_ret
        exact ⟨by rw [HR.out]; rfl, fun l' h => (by rw [HR.out] at h; cases h), HG2.out.trans hg5⟩
      | some l1 =>
        rw [hr] at cM hstep
        have hl1 := hlen1 l1 hr
        have HR : Hid (matCs X (xs.drop (k + 1)) l1 (us.drop (k + 1)) = R) := hstep.symm
        clear hstep hr hlen1
        go_wp2_with (go_at_call 74; ((with_reducible refine cM.mono ?_); rintro e w5 ⟨rfl, hm5, hg5⟩; have HM5 := Lib.hid (hm5 l1 rfl); clear hm5))
        go_roundw
        case rel => exact ⟨_, k + 1, rfl, by omega, by go_num, HG2.out.trans hg5, Lib.hid ⟨l1, HM5.out, HR.out, hl1⟩⟩
        case measure => simp [intOf]; omega
    · obtain rfl : k = n := by omega
      obtain ⟨lk, hMk, hRk, -⟩ := hR.out
      rw [HEnd.out lk] at hRk
      have HR := Lib.hid hRk
      have HMk := Lib.hid hMk
      clear hR hMk hRk
      go_wp2
      go_ret
      exact ⟨by rw [← HR.out]; rfl, fun l' h => (by rw [← HR.out] at h; injection h with h; subst h; exact HMk.out), hG⟩
set_option maxRecDepth 100000 in
theorem equalC_ne (a : Option Addr) (n c : Nat) (a' : Option Addr) (n' c' : Nat) (f : Value) (W : World) (hne : n ≠ n') (h1 : n ≤ 9223372036854775807) (h2 : n' ≤ 9223372036854775807) :
    Calls Tryz.prog 73 #[.slice a n c, .slice a' n' c', f] W fun e W' => e = .returned (.bool false) ∧ W' = W := by
  have hd : ¬ (n : Int) = (n' : Int) := by omega
  go_enter Tryz.func73, Tryz.ntmps73
  go_wp2
  go_ret
  exact ⟨rfl, rfl⟩
end Go.Proofs.YtnhemglpbhnmdaaGreat.Mt
namespace Go.Proofs.YtnhemglpbhnmdaaGreat.Mt
open Go.RowKit L T C
set_option linter.unusedVariables false
set_option linter.unusedSimpArgs false

set_option maxHeartbeats 4000000 in
theorem bare_any (o : Int) (s z : ByteArray) (k : SS) (a : Option Addr) (n c : Nat) (w : World) :
    Calls Tryz.prog 71 #[.agg #[.int .i64 o, .string s, .string z, .slice k.a k.n k.c, .slice a n c]] w fun e w' => e = .returned (.agg #[.int .i64 o, .string s, .string z, .slice none 0 0, .slice none 0 0]) ∧ Below w.heap.size w w' := by
  obtain ⟨ka, kn, kc⟩ := k
  dsimp only
  go_enter Tryz.func71, Tryz.ntmps71
  go_wp2
  have h := CBox.new (w.alloc (.cells #[.int .i64 o, .string s, .string z, .slice none 0 0, .slice none 0 0] 25)) o s z SS.nil none 0 0
  rw [World.size_alloc] at h
  obtain ⟨x0, x1, x2, x3, x4⟩ := h.five
  dsimp only [SS.nil] at x0 x1 x2 x3 x4
  simp [bodyPost, results, Tryz.results71, go_sem, x0, x1, x2, x3, x4]
  exact bel_alloc (bel_alloc (Below.refl _ _) _) _
end Go.Proofs.YtnhemglpbhnmdaaGreat.Mt
