/-
  What is proved: the document's claim and Claim of layer 11.
-/
import Derived.Test.YtghpoeckhfeicaaGreatZMtCm
import Derived.Test.YtghpoeckhfeicaaGreatZMtP
import Derived.Deep.RegionHeld3
namespace Go.Proofs.YtghpoeckhfeicaaGreat.Mt
open Go.RowKit L T C B U
set_option linter.unusedVariables false
set_option linter.unusedSimpArgs false

def CrOk (X : List ByteArray) (p : Cl) : Prop := ∀ (l : List Pr) (t : Cl) (b : Option Addr) (m d : Nat) (k : SS) (a : Option Addr) (n c : Nat) (k' : SS) (a' : Option Addr) (n' c' : Nat) (aX : Option Addr) (nX cX : Nat) (w : World),
  l.length + wt p ≤ 1000000 → UsW w b m d l → ArWC w p k a n c → ArWC w t k' a' n' c' → IsS w aX nX X → nX ≤ 9223372036854775807 →
  Calls Tryz.prog 48 #[.slice b m d, .agg #[.int .i64 (opC p), .string (nmC p), .string (soC p), .slice k.a k.n k.c, .slice a n c], .agg #[.int .i64 (opC t), .string (nmC t), .string (soC t), .slice k'.a k'.n k'.c, .slice a' n' c'], .slice aX nX cX] w fun e w' => RtK (matC X p l t) w e w'
theorem isT_bound11 {B : Nat} {w : World} {a : Option Addr} {n c : Nat} {l : List Tm} (h : IsT B w a n c l) : n ≤ 9223372036854775807 := by have h1 := h.2.1; have h2 := h.2.2.1; unfold maxLen at h2; omega
theorem isC_bound {B : Nat} {w : World} {a : Option Addr} {n c : Nat} {l : List Cl} (h : IsC B w a n c l) : n ≤ 9223372036854775807 := by have h1 := h.2.1; have h2 := h.2.2.1; unfold maxLen at h2; omega
set_option maxRecDepth 100000 in
set_option maxHeartbeats 64000000 in
theorem claim_step (X : List ByteArray) (p : Cl) (hok : ∀ x ∈ subC p, CrOk X x) : CrOk X p := by
  intro l t b m d k a n c k' a' n' c' aX nX cX w hsz hG hP hT hX hnX
  obtain ⟨W2, hW2, hB2, hs2, S2, T2⟩ := cbox2 w (opC p) (nmC p) (soC p) k a n c (opC t) (nmC t) (soC t) k' a' n' c'
  have hR := matC_mk X p l t
  have gP := ArWC.b hP hB2
  have gT := ArWC.b hT hB2
  have hkn : k.n = (tsC p).length := (ArWC.terms gP).1
  have hkn' : k'.n = (tsC t).length := (ArWC.terms gT).1
  have hnn : n = (subC p).length := (ArWC.subs gP).1
  have hnn' : n' = (subC t).length := (ArWC.subs gT).1
  rw [← hkn, ← hkn', ← hnn, ← hnn'] at hR
  have hwp := wt_mk p
  have HP := Lib.hid (ArWC.terms gP)
  have HT := Lib.hid (ArWC.terms gT)
  have HC := Lib.hid (ArWC.subs gP)
  have HD := Lib.hid (ArWC.subs gT)
  have hb1 : k.n ≤ 9223372036854775807 := isT_bound11 (ArWC.terms gP)
  have hb2 : k'.n ≤ 9223372036854775807 := isT_bound11 (ArWC.terms gT)
  have hb3 : n ≤ 9223372036854775807 := isC_bound (ArWC.subs gP)
  have hb4 : n' ≤ 9223372036854775807 := isC_bound (ArWC.subs gT)
  have HG2 := Lib.hid (UsW.b hG hB2)
  have HX2 := Lib.hid (hX.below hB2)
  have HB1 := Lib.hid S2
  have HB2 := Lib.hid T2
  have HOk := Lib.hid hok
  have HSx := Lib.hid (show ∀ j x, (tsC p)[j]? = some x → size x + sizes ((tsC p).drop (j + 1)) = sizes ((tsC p).drop j) from fun j x h => by rw [drop_t h, sizes])
  have HSy := Lib.hid (show ∀ j x, (subC p)[j]? = some x → wt x + wts ((subC p).drop (j + 1)) = wts ((subC p).drop j) from fun j x h => by rw [drop_c h, wts])
  have HSt := Lib.hid (show ∀ (j : Nat) (x u : Tm) (lk : List Pr), (tsC p)[j]? = some x → (tsC t)[j]? = some u → _ from fun j x u lk h1 h2 => mats_step (X := X) (l := lk) h1 h2)
  have HSu := Lib.hid (show ∀ (j : Nat) (x u : Cl) (lk : List Pr), (subC p)[j]? = some x → (subC t)[j]? = some u → _ from fun j x u lk h1 h2 => matCs_step (X := X) (l := lk) h1 h2)
  have HE := Lib.hid (show ∀ (lk : List Pr), mats X ((tsC p).drop k.n) lk ((tsC t).drop k.n) = some lk from fun lk => by rw [List.drop_eq_nil_of_le (by omega), mats])
  have HF := Lib.hid (show ∀ (lk : List Pr), matCs X ((subC p).drop n) lk ((subC t).drop n) = some lk from fun lk => by rw [List.drop_eq_nil_of_le (by omega), matCs])
  have HR := Lib.hid hR
  have hSz : Hid (l.length + (sizes ((tsC p).drop 0) + wts (subC p)) ≤ 1000000) := by show l.length + (sizes (tsC p) + _) ≤ _; omega
  have HW := Lib.hid hB2
  have Hlt := Lib.hid (show w.heap.size + 2 ≤ W2.heap.size from by omega)
  obtain ⟨ka, kn, kc⟩ := k
  obtain ⟨ka', kn', kc'⟩ := k'
  dsimp only at *
  obtain ⟨s0, s1, s2, s3, s4⟩ := S2.five
  obtain ⟨t0, t1, t2, t3, t4⟩ := T2.five
  clear hR hP hT hX hG S2 T2 hok hkn hkn' hnn hnn' hwp hsz gP gT hs2 hB2
  generalize tsC p = xs at *
  generalize tsC t = us at *
  generalize subC p = ps at *
  generalize subC t = qs at *
  generalize matC X p l t = R at *
  generalize opC p = op at *
  generalize nmC p = nm at *
  generalize soC p = so at *
  generalize opC t = op' at *
  generalize nmC t = nm' at *
  generalize soC t = so' at *
  have HNo := Lib.hid (show ¬ (op = op' ∧ (op = 11 ∨ op = 12 ∨ nm = nm') ∧ so = so' ∧ kn = kn' ∧ n = n') → Hid (R = none) from fun h => Lib.hid (by rw [HR.out, if_neg h]))
  have HYes := Lib.hid (show (op = op' ∧ (op = 11 ∨ op = 12 ∨ nm = nm') ∧ so = so' ∧ kn = kn' ∧ n = n') → Hid (R = (match mats X (xs.drop 0) l (us.drop 0) with | none => none | some l1 => matCs X ps l1 qs)) from fun h => Lib.hid (by rw [HR.out, if_pos h]; rfl))
  clear HR
  by_cases h1 : op = 11
  · subst h1
    have b1 : ((11 : Int) == 11) = true := rfl
    by_cases ho : (11 : Int) = op'
    · subst ho
      by_cases hz : so = so'
      · subst hz
        have g3 : (so.toList != so.toList) = false := by simp
        by_cases hk : kn = kn'
        · subst hk
          have g4 : ((kn : Int) != (kn : Int)) = false := by simp
          by_cases hn : n = n'
          · subst hn
            have g5 : ((n : Int) != (n : Int)) = false := by simp
            have hR := HYes.out (⟨rfl, .inl rfl, rfl, rfl, rfl⟩)
            clear HYes HNo
            go_enter Tryz.func48, Tryz.ntmps48
            go_wp2
            go_loopw [0, 11] (fun v i wr0 => ∃ (wr : World) (j : Nat) (bk : Option Addr) (mk dk : Nat), wr = wr0 ∧ j ≤ kn ∧ .slice bk mk dk = v ∧ i = .int .i64 j ∧ Below W2.heap.size W2 wr ∧ Hid (∃ lk, UsW wr bk mk dk lk ∧ R = (match mats X (xs.drop j) lk (us.drop j) with | none => none | some l1 => matCs X ps l1 qs) ∧ lk.length + (sizes (xs.drop j) + wts ps) ≤ 1000000)) (fun _ i _ => kn - (intOf i).toNat)
            case atStart => exact ⟨_, 0, _, _, _, rfl, by omega, rfl, rfl, Below.refl _ _, Lib.hid ⟨l, HG2.out, hR.out, hSz.out⟩⟩
            case round =>
              obtain ⟨wr, j, bk, mk, dk, rfl, hj, rfl, rfl, hB, hRk⟩ := hrel
              obtain ⟨r0, r1, r2, r3, r4⟩ := (CBox.b HB1.out hB).five
              obtain ⟨v0, v1, v2, v3, v4⟩ := (CBox.b HB2.out hB).five
              have lp : w.heap.size < wr.heap.size := by have h1 := hB.size; have h2 := Hlt.out; omega
              have lt' : w.heap.size + 1 < wr.heap.size := by have h1 := hB.size; have h2 := Hlt.out; omega
              by_cases hlt : j < kn
              · obtain ⟨bb, o, x, A, M, Cc, rfl, hb, y0, y1, y2, y3, hx, hok⟩ := (TsW.b HP.out hB).at hlt
                obtain ⟨bb', o', u, A', M', Cc', rfl, hb', z0, z1, z2, z3, hu, hok'⟩ := (TsW.b HT.out hB).at hlt
                obtain ⟨lk, hU, hRe, hln⟩ := hRk.out
                rw [HSt.out j x u lk hx hu] at hRe
                have hsx := HSx.out j x hx
                have hBd : Below wr.heap.size wr wr.drew := (Below.refl _ _).drew
                have cs := More11_any X x lk u bk mk dk A M Cc A' M' Cc' aX nX cX wr.drew (by omega) (UsW.b hU hBd) (ArW.b hok hBd) (ArW.b hok' hBd) ((HX2.out.below hB).below hBd) hnX
                have HLn := Lib.hid (show ∀ l', mat X x lk u = some l' → l'.length + (sizes (xs.drop (j + 1)) + wts ps) ≤ 1000000 from fun l' h => by have := mat_len X x lk u l' h; omega)
                have hj0 : 0 ≤ (j : Int) := by omega
                have hj1 : (j : Int) < (kn : Int) := by omega
                have HRe := Lib.hid hRe
                clear hx hu hok hok' HP HT HC HD HSt HSu HSx HSy HOk hU hRk hRe hln hsx HE HF hSz HG2
                unfold RtK at cs
                generalize opT x = ox at *
                generalize nameT x = nx at *
                generalize numT x = zx at *
                generalize opT u = ou at *
                generalize nameT u = nu at *
                generalize numT u = zu at *
                cases hr : mat X x lk u with
                | none =>
                  rw [hr] at cs
                  have hnone : Hid (R = none) := Lib.hid (by rw [HRe.out, hr])
                  clear HRe HLn hr
                  go_wp2_with fail
                  go_region_held3 (fun w' => w'.cell? ⟨w.heap.size, 3, none⟩ = some (.slice (some ⟨bb, o, none⟩) kn kc) ∧ w'.cell? ⟨w.heap.size + 1, 3, none⟩ = some (.slice (some ⟨bb', o', none⟩) kn kc') ∧ w'.cell? ⟨bb, o + j * 4, none⟩ = some (.int .i64 ox) ∧ w'.cell? ⟨bb, o + j * 4 + 1, none⟩ = some (.string nx) ∧ w'.cell? ⟨bb, o + j * 4 + 1 + 1, none⟩ = some (.int .i64 zx) ∧ w'.cell? ⟨bb, o + j * 4 + 1 + 1 + 1, none⟩ = some (.slice A M Cc) ∧ w'.cell? ⟨bb', o' + j * 4, none⟩ = some (.int .i64 ou) ∧ w'.cell? ⟨bb', o' + j * 4 + 1, none⟩ = some (.string nu) ∧ w'.cell? ⟨bb', o' + j * 4 + 1 + 1, none⟩ = some (.int .i64 zu) ∧ w'.cell? ⟨bb', o' + j * 4 + 1 + 1 + 1, none⟩ = some (.slice A' M' Cc'))
                    (first | go_keep | (exact ⟨(B4.cell lp).trans r3, (B4.cell lt').trans v3, (B4.cell hb).trans y0, (B4.cell hb).trans y1, (B4.cell hb).trans y2, (B4.cell hb).trans y3, (B4.cell hb').trans z0, (B4.cell hb').trans z1, (B4.cell hb').trans z2, (B4.cell hb').trans z3⟩))
                    (first | (go_at_call 86; ((with_reducible refine cs.mono ?_); rintro e w4 ⟨A4, N4, C4, rfl, -, hb4⟩; have B4 := bel_trans hBd hb4)))
                  go_wp2
                  go_ret2
                  exact ⟨none, 0, 0, by rw [hnone.out]; rfl, (fun l' h => by rw [hnone.out] at h; cases h), bel_trans HW.out (bel_trans hB B4)⟩
                | some l' =>
                  rw [hr] at cs
                  have hnew : Hid (R = (match mats X (xs.drop (j + 1)) l' (us.drop (j + 1)) with | none => none | some l1 => matCs X ps l1 qs)) := Lib.hid (by rw [HRe.out, hr])
                  have hl4 := Lib.hid (HLn.out l' hr)
                  clear HRe HLn hr
                  go_wp2_with fail
                  go_region_held3 (fun w' => w'.cell? ⟨w.heap.size, 3, none⟩ = some (.slice (some ⟨bb, o, none⟩) kn kc) ∧ w'.cell? ⟨w.heap.size + 1, 3, none⟩ = some (.slice (some ⟨bb', o', none⟩) kn kc') ∧ w'.cell? ⟨bb, o + j * 4, none⟩ = some (.int .i64 ox) ∧ w'.cell? ⟨bb, o + j * 4 + 1, none⟩ = some (.string nx) ∧ w'.cell? ⟨bb, o + j * 4 + 1 + 1, none⟩ = some (.int .i64 zx) ∧ w'.cell? ⟨bb, o + j * 4 + 1 + 1 + 1, none⟩ = some (.slice A M Cc) ∧ w'.cell? ⟨bb', o' + j * 4, none⟩ = some (.int .i64 ou) ∧ w'.cell? ⟨bb', o' + j * 4 + 1, none⟩ = some (.string nu) ∧ w'.cell? ⟨bb', o' + j * 4 + 1 + 1, none⟩ = some (.int .i64 zu) ∧ w'.cell? ⟨bb', o' + j * 4 + 1 + 1 + 1, none⟩ = some (.slice A' M' Cc'))
                    (first | go_keep | (exact ⟨(B4.cell lp).trans r3, (B4.cell lt').trans v3, (B4.cell hb).trans y0, (B4.cell hb).trans y1, (B4.cell hb).trans y2, (B4.cell hb).trans y3, (B4.cell hb').trans z0, (B4.cell hb').trans z1, (B4.cell hb').trans z2, (B4.cell hb').trans z3⟩))
                    (first | (go_at_call 86; ((with_reducible refine cs.mono ?_); rintro e w4 ⟨A4, N4, C4, rfl, hU4, hb4⟩; have B4 := bel_trans hBd hb4; have HU4 := Lib.hid (hU4 l' rfl); clear hU4)))
                  go_wp2
                  go_roundw
                  case rel => exact ⟨_, j + 1, _, _, _, rfl, by omega, rfl, by go_num, bel_trans hB B4, Lib.hid ⟨l', HU4.out, hnew.out, hl4.out⟩⟩
                  case measure => simp [intOf]; omega
              · have hkn : j = kn := by omega
                subst hkn
                obtain ⟨lk, hU, hRe, hln⟩ := hRk.out
                rw [HE.out lk] at hRe
                have HS2 := Lib.hid (show ∃ lk, UsW wr bk mk dk lk ∧ R = matCs X (ps.drop 0) lk (qs.drop 0) ∧ lk.length + wts (ps.drop 0) ≤ 1000000 from ⟨lk, hU, hRe, by show lk.length + wts ps ≤ 1000000; omega⟩)
                clear hU hRe hln hRk HP HT HSt HSx HE hSz HG2
                go_wp2
                go_loopw [0, 14] (fun v i wr0 => ∃ (wr : World) (j : Nat) (bk : Option Addr) (mk dk : Nat), wr = wr0 ∧ j ≤ n ∧ .slice bk mk dk = v ∧ i = .int .i64 j ∧ Below W2.heap.size W2 wr ∧ Hid (∃ lk, UsW wr bk mk dk lk ∧ R = matCs X (ps.drop j) lk (qs.drop j) ∧ lk.length + wts (ps.drop j) ≤ 1000000)) (fun _ i _ => n - (intOf i).toNat)
                case atStart => exact ⟨_, 0, _, _, _, rfl, by omega, rfl, rfl, hB, HS2⟩
                case round =>
                  obtain ⟨wr, j, bk, mk, dk, rfl, hj, rfl, rfl, hB, hRk⟩ := hrel
                  obtain ⟨r0, r1, r2, r3, r4⟩ := (CBox.b HB1.out hB).five
                  obtain ⟨v0, v1, v2, v3, v4⟩ := (CBox.b HB2.out hB).five
                  have lp : w.heap.size < wr.heap.size := by have h1 := hB.size; have h2 := Hlt.out; omega
                  have lt' : w.heap.size + 1 < wr.heap.size := by have h1 := hB.size; have h2 := Hlt.out; omega
                  by_cases hlt : j < n
                  · obtain ⟨bb, o, x, K, A, M, Cc, rfl, hb, y0, y1, y2, y3, y4, hx, hok⟩ := (CsW.b HC.out hB).at hlt
                    obtain ⟨bb', o', u, V, A', M', Cc', rfl, hb', z0, z1, z2, z3, z4, hu, hok'⟩ := (CsW.b HD.out hB).at hlt
                    obtain ⟨lk, hU, hRe, hln⟩ := hRk.out
                    rw [HSu.out j x u lk hx hu] at hRe
                    have hsx := HSy.out j x hx
                    have hBd : Below wr.heap.size wr wr.drew := (Below.refl _ _).drew
                    have cs := HOk.out x (List.mem_of_getElem? hx) lk u bk mk dk K A M Cc V A' M' Cc' aX nX cX wr.drew (by omega) (UsW.b hU hBd) (ArWC.b hok hBd) (ArWC.b hok' hBd) ((HX2.out.below hB).below hBd) hnX
                    have HLn := Lib.hid (show ∀ l', matC X x lk u = some l' → l'.length + wts (ps.drop (j + 1)) ≤ 1000000 from fun l' h => by have := matC_len X x lk u l' h; omega)
                    obtain ⟨K0, K1, K2⟩ := K
                    obtain ⟨V0, V1, V2⟩ := V
                    dsimp only at *
                    have hj0 : 0 ≤ (j : Int) := by omega
                    have hj1 : (j : Int) < (n : Int) := by omega
                    have HRe := Lib.hid hRe
                    clear hx hu hok hok' HC HD HSu HSy HOk hU hRk hRe hln hsx HF
                    unfold RtK at cs
                    generalize opC x = ox at *
                    generalize nmC x = nx at *
                    generalize soC x = zx at *
                    generalize opC u = ou at *
                    generalize nmC u = nu at *
                    generalize soC u = zu at *
                    cases hr : matC X x lk u with
                    | none =>
                      rw [hr] at cs
                      have hnone : Hid (R = none) := Lib.hid (by rw [HRe.out, hr])
                      clear HRe HLn hr
                      go_wp2_with fail
                      go_region_held3 (fun w' => w'.cell? ⟨w.heap.size, 4, none⟩ = some (.slice (some ⟨bb, o, none⟩) n c) ∧ w'.cell? ⟨w.heap.size + 1, 4, none⟩ = some (.slice (some ⟨bb', o', none⟩) n c') ∧ w'.cell? ⟨bb, o + j * 5, none⟩ = some (.int .i64 ox) ∧ w'.cell? ⟨bb, o + j * 5 + 1, none⟩ = some (.string nx) ∧ w'.cell? ⟨bb, o + j * 5 + 1 + 1, none⟩ = some (.string zx) ∧ w'.cell? ⟨bb, o + j * 5 + 1 + 1 + 1, none⟩ = some (.slice K0 K1 K2) ∧ w'.cell? ⟨bb, o + j * 5 + 1 + 1 + 1 + 1, none⟩ = some (.slice A M Cc) ∧ w'.cell? ⟨bb', o' + j * 5, none⟩ = some (.int .i64 ou) ∧ w'.cell? ⟨bb', o' + j * 5 + 1, none⟩ = some (.string nu) ∧ w'.cell? ⟨bb', o' + j * 5 + 1 + 1, none⟩ = some (.string zu) ∧ w'.cell? ⟨bb', o' + j * 5 + 1 + 1 + 1, none⟩ = some (.slice V0 V1 V2) ∧ w'.cell? ⟨bb', o' + j * 5 + 1 + 1 + 1 + 1, none⟩ = some (.slice A' M' Cc'))
                        (first | go_keep | (exact ⟨(B4.cell lp).trans r4, (B4.cell lt').trans v4, (B4.cell hb).trans y0, (B4.cell hb).trans y1, (B4.cell hb).trans y2, (B4.cell hb).trans y3, (B4.cell hb).trans y4, (B4.cell hb').trans z0, (B4.cell hb').trans z1, (B4.cell hb').trans z2, (B4.cell hb').trans z3, (B4.cell hb').trans z4⟩))
                        (first | (go_at_call 48; ((with_reducible refine cs.mono ?_); rintro e w4 ⟨A4, N4, C4, rfl, -, hb4⟩; have B4 := bel_trans hBd hb4)))
                      go_wp2
                      go_ret2
                      exact ⟨none, 0, 0, by rw [hnone.out]; rfl, (fun l' h => by rw [hnone.out] at h; cases h), bel_trans HW.out (bel_trans hB B4)⟩
                    | some l' =>
                      rw [hr] at cs
                      have hnew : Hid (R = matCs X (ps.drop (j + 1)) l' (qs.drop (j + 1))) := Lib.hid (by rw [HRe.out, hr])
                      have hl4 := Lib.hid (HLn.out l' hr)
                      clear HRe HLn hr
                      go_wp2_with fail
                      go_region_held3 (fun w' => w'.cell? ⟨w.heap.size, 4, none⟩ = some (.slice (some ⟨bb, o, none⟩) n c) ∧ w'.cell? ⟨w.heap.size + 1, 4, none⟩ = some (.slice (some ⟨bb', o', none⟩) n c') ∧ w'.cell? ⟨bb, o + j * 5, none⟩ = some (.int .i64 ox) ∧ w'.cell? ⟨bb, o + j * 5 + 1, none⟩ = some (.string nx) ∧ w'.cell? ⟨bb, o + j * 5 + 1 + 1, none⟩ = some (.string zx) ∧ w'.cell? ⟨bb, o + j * 5 + 1 + 1 + 1, none⟩ = some (.slice K0 K1 K2) ∧ w'.cell? ⟨bb, o + j * 5 + 1 + 1 + 1 + 1, none⟩ = some (.slice A M Cc) ∧ w'.cell? ⟨bb', o' + j * 5, none⟩ = some (.int .i64 ou) ∧ w'.cell? ⟨bb', o' + j * 5 + 1, none⟩ = some (.string nu) ∧ w'.cell? ⟨bb', o' + j * 5 + 1 + 1, none⟩ = some (.string zu) ∧ w'.cell? ⟨bb', o' + j * 5 + 1 + 1 + 1, none⟩ = some (.slice V0 V1 V2) ∧ w'.cell? ⟨bb', o' + j * 5 + 1 + 1 + 1 + 1, none⟩ = some (.slice A' M' Cc'))
                        (first | go_keep | (exact ⟨(B4.cell lp).trans r4, (B4.cell lt').trans v4, (B4.cell hb).trans y0, (B4.cell hb).trans y1, (B4.cell hb).trans y2, (B4.cell hb).trans y3, (B4.cell hb).trans y4, (B4.cell hb').trans z0, (B4.cell hb').trans z1, (B4.cell hb').trans z2, (B4.cell hb').trans z3, (B4.cell hb').trans z4⟩))
                        (first | (go_at_call 48; ((with_reducible refine cs.mono ?_); rintro e w4 ⟨A4, N4, C4, rfl, hU4, hb4⟩; have B4 := bel_trans hBd hb4; have HU4 := Lib.hid (hU4 l' rfl); clear hU4)))
                      go_wp2
                      go_roundw
                      case rel => exact ⟨_, j + 1, _, _, _, rfl, by omega, rfl, by go_num, bel_trans hB B4, Lib.hid ⟨l', HU4.out, hnew.out, hl4.out⟩⟩
                      case measure => simp [intOf]; omega
                  · have hkn : j = n := by omega
                    subst hkn
                    obtain ⟨lk, hU, hRe, hln⟩ := hRk.out
                    have HU := Lib.hid hU
                    have hsome : Hid (R = some lk) := Lib.hid (by rw [hRe, HF.out])
                    clear hU hRe hln hRk
                    go_wp2
                    go_ret2
                    exact ⟨_, _, _, by rw [hsome.out]; rfl, (fun l' h => by rw [hsome.out] at h; injection h with h; subst h; exact HU.out), bel_trans HW.out hB⟩
          · have g5 : ((n : Int) != (n' : Int)) = true := by simp; omega
            have hR := HNo.out (fun h => hn h.2.2.2.2)
            clear HYes HNo HOk HSx HSy HSt HSu HE HF hSz HP HT HC HD HG2 HX2
            go_enter Tryz.func48, Tryz.ntmps48
            go_wp2
            go_ret2
            exact ⟨none, 0, 0, by rw [hR.out]; rfl, (fun l' h => by rw [hR.out] at h; cases h), HW.out⟩
        · have g4 : ((kn : Int) != (kn' : Int)) = true := by simp; omega
          have hR := HNo.out (fun h => hk h.2.2.2.1)
          clear HYes HNo HOk HSx HSy HSt HSu HE HF hSz HP HT HC HD HG2 HX2
          go_enter Tryz.func48, Tryz.ntmps48
          go_wp2
          go_ret2
          exact ⟨none, 0, 0, by rw [hR.out]; rfl, (fun l' h => by rw [hR.out] at h; cases h), HW.out⟩
      · have g3 : (so.toList == so'.toList) = false := by
          cases h : (so.toList == so'.toList) with
          | false => rfl
          | true => exact absurd (eqS_iff.1 h) hz
        have hR := HNo.out (fun h => hz h.2.2.1)
        clear HYes HNo HOk HSx HSy HSt HSu HE HF hSz HP HT HC HD HG2 HX2
        go_enter Tryz.func48, Tryz.ntmps48
        go_wp2
        go_ret2
        exact ⟨none, 0, 0, by rw [hR.out]; rfl, (fun l' h => by rw [hR.out] at h; cases h), HW.out⟩
    · have g1 : ((11 : Int) == op') = false := by simpa using ho
      have hR := HNo.out (fun h => ho h.1)
      clear HYes HNo HOk HSx HSy HSt HSu HE HF hSz HP HT HC HD HG2 HX2
      go_enter Tryz.func48, Tryz.ntmps48
      go_wp2
      go_ret2
      exact ⟨none, 0, 0, by rw [hR.out]; rfl, (fun l' h => by rw [hR.out] at h; cases h), HW.out⟩
  · have b1 : (op == 11) = false := by simpa using h1
    by_cases h2 : op = 12
    · subst h2
      have b2 : ((12 : Int) == 12) = true := rfl
      by_cases ho : (12 : Int) = op'
      · subst ho
        by_cases hz : so = so'
        · subst hz
          have g3 : (so.toList != so.toList) = false := by simp
          by_cases hk : kn = kn'
          · subst hk
            have g4 : ((kn : Int) != (kn : Int)) = false := by simp
            by_cases hn : n = n'
            · subst hn
              have g5 : ((n : Int) != (n : Int)) = false := by simp
              have hR := HYes.out (⟨rfl, .inr (.inl rfl), rfl, rfl, rfl⟩)
              clear HYes HNo
              go_enter Tryz.func48, Tryz.ntmps48
              go_wp2
              go_loopw [0, 11] (fun v i wr0 => ∃ (wr : World) (j : Nat) (bk : Option Addr) (mk dk : Nat), wr = wr0 ∧ j ≤ kn ∧ .slice bk mk dk = v ∧ i = .int .i64 j ∧ Below W2.heap.size W2 wr ∧ Hid (∃ lk, UsW wr bk mk dk lk ∧ R = (match mats X (xs.drop j) lk (us.drop j) with | none => none | some l1 => matCs X ps l1 qs) ∧ lk.length + (sizes (xs.drop j) + wts ps) ≤ 1000000)) (fun _ i _ => kn - (intOf i).toNat)
              case atStart => exact ⟨_, 0, _, _, _, rfl, by omega, rfl, rfl, Below.refl _ _, Lib.hid ⟨l, HG2.out, hR.out, hSz.out⟩⟩
              case round =>
                obtain ⟨wr, j, bk, mk, dk, rfl, hj, rfl, rfl, hB, hRk⟩ := hrel
                obtain ⟨r0, r1, r2, r3, r4⟩ := (CBox.b HB1.out hB).five
                obtain ⟨v0, v1, v2, v3, v4⟩ := (CBox.b HB2.out hB).five
                have lp : w.heap.size < wr.heap.size := by have h1 := hB.size; have h2 := Hlt.out; omega
                have lt' : w.heap.size + 1 < wr.heap.size := by have h1 := hB.size; have h2 := Hlt.out; omega
                by_cases hlt : j < kn
                · obtain ⟨bb, o, x, A, M, Cc, rfl, hb, y0, y1, y2, y3, hx, hok⟩ := (TsW.b HP.out hB).at hlt
                  obtain ⟨bb', o', u, A', M', Cc', rfl, hb', z0, z1, z2, z3, hu, hok'⟩ := (TsW.b HT.out hB).at hlt
                  obtain ⟨lk, hU, hRe, hln⟩ := hRk.out
                  rw [HSt.out j x u lk hx hu] at hRe
                  have hsx := HSx.out j x hx
                  have hBd : Below wr.heap.size wr wr.drew := (Below.refl _ _).drew
                  have cs := More11_any X x lk u bk mk dk A M Cc A' M' Cc' aX nX cX wr.drew (by omega) (UsW.b hU hBd) (ArW.b hok hBd) (ArW.b hok' hBd) ((HX2.out.below hB).below hBd) hnX
                  have HLn := Lib.hid (show ∀ l', mat X x lk u = some l' → l'.length + (sizes (xs.drop (j + 1)) + wts ps) ≤ 1000000 from fun l' h => by have := mat_len X x lk u l' h; omega)
                  have hj0 : 0 ≤ (j : Int) := by omega
                  have hj1 : (j : Int) < (kn : Int) := by omega
                  have HRe := Lib.hid hRe
                  clear hx hu hok hok' HP HT HC HD HSt HSu HSx HSy HOk hU hRk hRe hln hsx HE HF hSz HG2
                  unfold RtK at cs
                  generalize opT x = ox at *
                  generalize nameT x = nx at *
                  generalize numT x = zx at *
                  generalize opT u = ou at *
                  generalize nameT u = nu at *
                  generalize numT u = zu at *
                  cases hr : mat X x lk u with
                  | none =>
                    rw [hr] at cs
                    have hnone : Hid (R = none) := Lib.hid (by rw [HRe.out, hr])
                    clear HRe HLn hr
                    go_wp2_with fail
                    go_region_held3 (fun w' => w'.cell? ⟨w.heap.size, 3, none⟩ = some (.slice (some ⟨bb, o, none⟩) kn kc) ∧ w'.cell? ⟨w.heap.size + 1, 3, none⟩ = some (.slice (some ⟨bb', o', none⟩) kn kc') ∧ w'.cell? ⟨bb, o + j * 4, none⟩ = some (.int .i64 ox) ∧ w'.cell? ⟨bb, o + j * 4 + 1, none⟩ = some (.string nx) ∧ w'.cell? ⟨bb, o + j * 4 + 1 + 1, none⟩ = some (.int .i64 zx) ∧ w'.cell? ⟨bb, o + j * 4 + 1 + 1 + 1, none⟩ = some (.slice A M Cc) ∧ w'.cell? ⟨bb', o' + j * 4, none⟩ = some (.int .i64 ou) ∧ w'.cell? ⟨bb', o' + j * 4 + 1, none⟩ = some (.string nu) ∧ w'.cell? ⟨bb', o' + j * 4 + 1 + 1, none⟩ = some (.int .i64 zu) ∧ w'.cell? ⟨bb', o' + j * 4 + 1 + 1 + 1, none⟩ = some (.slice A' M' Cc'))
                      (first | go_keep | (exact ⟨(B4.cell lp).trans r3, (B4.cell lt').trans v3, (B4.cell hb).trans y0, (B4.cell hb).trans y1, (B4.cell hb).trans y2, (B4.cell hb).trans y3, (B4.cell hb').trans z0, (B4.cell hb').trans z1, (B4.cell hb').trans z2, (B4.cell hb').trans z3⟩))
                      (first | (go_at_call 86; ((with_reducible refine cs.mono ?_); rintro e w4 ⟨A4, N4, C4, rfl, -, hb4⟩; have B4 := bel_trans hBd hb4)))
                    go_wp2
                    go_ret2
                    exact ⟨none, 0, 0, by rw [hnone.out]; rfl, (fun l' h => by rw [hnone.out] at h; cases h), bel_trans HW.out (bel_trans hB B4)⟩
                  | some l' =>
                    rw [hr] at cs
                    have hnew : Hid (R = (match mats X (xs.drop (j + 1)) l' (us.drop (j + 1)) with | none => none | some l1 => matCs X ps l1 qs)) := Lib.hid (by rw [HRe.out, hr])
                    have hl4 := Lib.hid (HLn.out l' hr)
                    clear HRe HLn hr
                    go_wp2_with fail
                    go_region_held3 (fun w' => w'.cell? ⟨w.heap.size, 3, none⟩ = some (.slice (some ⟨bb, o, none⟩) kn kc) ∧ w'.cell? ⟨w.heap.size + 1, 3, none⟩ = some (.slice (some ⟨bb', o', none⟩) kn kc') ∧ w'.cell? ⟨bb, o + j * 4, none⟩ = some (.int .i64 ox) ∧ w'.cell? ⟨bb, o + j * 4 + 1, none⟩ = some (.string nx) ∧ w'.cell? ⟨bb, o + j * 4 + 1 + 1, none⟩ = some (.int .i64 zx) ∧ w'.cell? ⟨bb, o + j * 4 + 1 + 1 + 1, none⟩ = some (.slice A M Cc) ∧ w'.cell? ⟨bb', o' + j * 4, none⟩ = some (.int .i64 ou) ∧ w'.cell? ⟨bb', o' + j * 4 + 1, none⟩ = some (.string nu) ∧ w'.cell? ⟨bb', o' + j * 4 + 1 + 1, none⟩ = some (.int .i64 zu) ∧ w'.cell? ⟨bb', o' + j * 4 + 1 + 1 + 1, none⟩ = some (.slice A' M' Cc'))
                      (first | go_keep | (exact ⟨(B4.cell lp).trans r3, (B4.cell lt').trans v3, (B4.cell hb).trans y0, (B4.cell hb).trans y1, (B4.cell hb).trans y2, (B4.cell hb).trans y3, (B4.cell hb').trans z0, (B4.cell hb').trans z1, (B4.cell hb').trans z2, (B4.cell hb').trans z3⟩))
                      (first | (go_at_call 86; ((with_reducible refine cs.mono ?_); rintro e w4 ⟨A4, N4, C4, rfl, hU4, hb4⟩; have B4 := bel_trans hBd hb4; have HU4 := Lib.hid (hU4 l' rfl); clear hU4)))
                    go_wp2
                    go_roundw
                    case rel => exact ⟨_, j + 1, _, _, _, rfl, by omega, rfl, by go_num, bel_trans hB B4, Lib.hid ⟨l', HU4.out, hnew.out, hl4.out⟩⟩
                    case measure => simp [intOf]; omega
                · have hkn : j = kn := by omega
                  subst hkn
                  obtain ⟨lk, hU, hRe, hln⟩ := hRk.out
                  rw [HE.out lk] at hRe
                  have HS2 := Lib.hid (show ∃ lk, UsW wr bk mk dk lk ∧ R = matCs X (ps.drop 0) lk (qs.drop 0) ∧ lk.length + wts (ps.drop 0) ≤ 1000000 from ⟨lk, hU, hRe, by show lk.length + wts ps ≤ 1000000; omega⟩)
                  clear hU hRe hln hRk HP HT HSt HSx HE hSz HG2
                  go_wp2
                  go_loopw [0, 14] (fun v i wr0 => ∃ (wr : World) (j : Nat) (bk : Option Addr) (mk dk : Nat), wr = wr0 ∧ j ≤ n ∧ .slice bk mk dk = v ∧ i = .int .i64 j ∧ Below W2.heap.size W2 wr ∧ Hid (∃ lk, UsW wr bk mk dk lk ∧ R = matCs X (ps.drop j) lk (qs.drop j) ∧ lk.length + wts (ps.drop j) ≤ 1000000)) (fun _ i _ => n - (intOf i).toNat)
                  case atStart => exact ⟨_, 0, _, _, _, rfl, by omega, rfl, rfl, hB, HS2⟩
                  case round =>
                    obtain ⟨wr, j, bk, mk, dk, rfl, hj, rfl, rfl, hB, hRk⟩ := hrel
                    obtain ⟨r0, r1, r2, r3, r4⟩ := (CBox.b HB1.out hB).five
                    obtain ⟨v0, v1, v2, v3, v4⟩ := (CBox.b HB2.out hB).five
                    have lp : w.heap.size < wr.heap.size := by have h1 := hB.size; have h2 := Hlt.out; omega
                    have lt' : w.heap.size + 1 < wr.heap.size := by have h1 := hB.size; have h2 := Hlt.out; omega
                    by_cases hlt : j < n
                    · obtain ⟨bb, o, x, K, A, M, Cc, rfl, hb, y0, y1, y2, y3, y4, hx, hok⟩ := (CsW.b HC.out hB).at hlt
                      obtain ⟨bb', o', u, V, A', M', Cc', rfl, hb', z0, z1, z2, z3, z4, hu, hok'⟩ := (CsW.b HD.out hB).at hlt
                      obtain ⟨lk, hU, hRe, hln⟩ := hRk.out
                      rw [HSu.out j x u lk hx hu] at hRe
                      have hsx := HSy.out j x hx
                      have hBd : Below wr.heap.size wr wr.drew := (Below.refl _ _).drew
                      have cs := HOk.out x (List.mem_of_getElem? hx) lk u bk mk dk K A M Cc V A' M' Cc' aX nX cX wr.drew (by omega) (UsW.b hU hBd) (ArWC.b hok hBd) (ArWC.b hok' hBd) ((HX2.out.below hB).below hBd) hnX
                      have HLn := Lib.hid (show ∀ l', matC X x lk u = some l' → l'.length + wts (ps.drop (j + 1)) ≤ 1000000 from fun l' h => by have := matC_len X x lk u l' h; omega)
                      obtain ⟨K0, K1, K2⟩ := K
                      obtain ⟨V0, V1, V2⟩ := V
                      dsimp only at *
                      have hj0 : 0 ≤ (j : Int) := by omega
                      have hj1 : (j : Int) < (n : Int) := by omega
                      have HRe := Lib.hid hRe
                      clear hx hu hok hok' HC HD HSu HSy HOk hU hRk hRe hln hsx HF
                      unfold RtK at cs
                      generalize opC x = ox at *
                      generalize nmC x = nx at *
                      generalize soC x = zx at *
                      generalize opC u = ou at *
                      generalize nmC u = nu at *
                      generalize soC u = zu at *
                      cases hr : matC X x lk u with
                      | none =>
                        rw [hr] at cs
                        have hnone : Hid (R = none) := Lib.hid (by rw [HRe.out, hr])
                        clear HRe HLn hr
                        go_wp2_with fail
                        go_region_held3 (fun w' => w'.cell? ⟨w.heap.size, 4, none⟩ = some (.slice (some ⟨bb, o, none⟩) n c) ∧ w'.cell? ⟨w.heap.size + 1, 4, none⟩ = some (.slice (some ⟨bb', o', none⟩) n c') ∧ w'.cell? ⟨bb, o + j * 5, none⟩ = some (.int .i64 ox) ∧ w'.cell? ⟨bb, o + j * 5 + 1, none⟩ = some (.string nx) ∧ w'.cell? ⟨bb, o + j * 5 + 1 + 1, none⟩ = some (.string zx) ∧ w'.cell? ⟨bb, o + j * 5 + 1 + 1 + 1, none⟩ = some (.slice K0 K1 K2) ∧ w'.cell? ⟨bb, o + j * 5 + 1 + 1 + 1 + 1, none⟩ = some (.slice A M Cc) ∧ w'.cell? ⟨bb', o' + j * 5, none⟩ = some (.int .i64 ou) ∧ w'.cell? ⟨bb', o' + j * 5 + 1, none⟩ = some (.string nu) ∧ w'.cell? ⟨bb', o' + j * 5 + 1 + 1, none⟩ = some (.string zu) ∧ w'.cell? ⟨bb', o' + j * 5 + 1 + 1 + 1, none⟩ = some (.slice V0 V1 V2) ∧ w'.cell? ⟨bb', o' + j * 5 + 1 + 1 + 1 + 1, none⟩ = some (.slice A' M' Cc'))
                          (first | go_keep | (exact ⟨(B4.cell lp).trans r4, (B4.cell lt').trans v4, (B4.cell hb).trans y0, (B4.cell hb).trans y1, (B4.cell hb).trans y2, (B4.cell hb).trans y3, (B4.cell hb).trans y4, (B4.cell hb').trans z0, (B4.cell hb').trans z1, (B4.cell hb').trans z2, (B4.cell hb').trans z3, (B4.cell hb').trans z4⟩))
                          (first | (go_at_call 48; ((with_reducible refine cs.mono ?_); rintro e w4 ⟨A4, N4, C4, rfl, -, hb4⟩; have B4 := bel_trans hBd hb4)))
                        go_wp2
                        go_ret2
                        exact ⟨none, 0, 0, by rw [hnone.out]; rfl, (fun l' h => by rw [hnone.out] at h; cases h), bel_trans HW.out (bel_trans hB B4)⟩
                      | some l' =>
                        rw [hr] at cs
                        have hnew : Hid (R = matCs X (ps.drop (j + 1)) l' (qs.drop (j + 1))) := Lib.hid (by rw [HRe.out, hr])
                        have hl4 := Lib.hid (HLn.out l' hr)
                        clear HRe HLn hr
                        go_wp2_with fail
                        go_region_held3 (fun w' => w'.cell? ⟨w.heap.size, 4, none⟩ = some (.slice (some ⟨bb, o, none⟩) n c) ∧ w'.cell? ⟨w.heap.size + 1, 4, none⟩ = some (.slice (some ⟨bb', o', none⟩) n c') ∧ w'.cell? ⟨bb, o + j * 5, none⟩ = some (.int .i64 ox) ∧ w'.cell? ⟨bb, o + j * 5 + 1, none⟩ = some (.string nx) ∧ w'.cell? ⟨bb, o + j * 5 + 1 + 1, none⟩ = some (.string zx) ∧ w'.cell? ⟨bb, o + j * 5 + 1 + 1 + 1, none⟩ = some (.slice K0 K1 K2) ∧ w'.cell? ⟨bb, o + j * 5 + 1 + 1 + 1 + 1, none⟩ = some (.slice A M Cc) ∧ w'.cell? ⟨bb', o' + j * 5, none⟩ = some (.int .i64 ou) ∧ w'.cell? ⟨bb', o' + j * 5 + 1, none⟩ = some (.string nu) ∧ w'.cell? ⟨bb', o' + j * 5 + 1 + 1, none⟩ = some (.string zu) ∧ w'.cell? ⟨bb', o' + j * 5 + 1 + 1 + 1, none⟩ = some (.slice V0 V1 V2) ∧ w'.cell? ⟨bb', o' + j * 5 + 1 + 1 + 1 + 1, none⟩ = some (.slice A' M' Cc'))
                          (first | go_keep | (exact ⟨(B4.cell lp).trans r4, (B4.cell lt').trans v4, (B4.cell hb).trans y0, (B4.cell hb).trans y1, (B4.cell hb).trans y2, (B4.cell hb).trans y3, (B4.cell hb).trans y4, (B4.cell hb').trans z0, (B4.cell hb').trans z1, (B4.cell hb').trans z2, (B4.cell hb').trans z3, (B4.cell hb').trans z4⟩))
                          (first | (go_at_call 48; ((with_reducible refine cs.mono ?_); rintro e w4 ⟨A4, N4, C4, rfl, hU4, hb4⟩; have B4 := bel_trans hBd hb4; have HU4 := Lib.hid (hU4 l' rfl); clear hU4)))
                        go_wp2
                        go_roundw
                        case rel => exact ⟨_, j + 1, _, _, _, rfl, by omega, rfl, by go_num, bel_trans hB B4, Lib.hid ⟨l', HU4.out, hnew.out, hl4.out⟩⟩
                        case measure => simp [intOf]; omega
                    · have hkn : j = n := by omega
                      subst hkn
                      obtain ⟨lk, hU, hRe, hln⟩ := hRk.out
                      have HU := Lib.hid hU
                      have hsome : Hid (R = some lk) := Lib.hid (by rw [hRe, HF.out])
                      clear hU hRe hln hRk
                      go_wp2
                      go_ret2
                      exact ⟨_, _, _, by rw [hsome.out]; rfl, (fun l' h => by rw [hsome.out] at h; injection h with h; subst h; exact HU.out), bel_trans HW.out hB⟩
            · have g5 : ((n : Int) != (n' : Int)) = true := by simp; omega
              have hR := HNo.out (fun h => hn h.2.2.2.2)
              clear HYes HNo HOk HSx HSy HSt HSu HE HF hSz HP HT HC HD HG2 HX2
              go_enter Tryz.func48, Tryz.ntmps48
              go_wp2
              go_ret2
              exact ⟨none, 0, 0, by rw [hR.out]; rfl, (fun l' h => by rw [hR.out] at h; cases h), HW.out⟩
          · have g4 : ((kn : Int) != (kn' : Int)) = true := by simp; omega
            have hR := HNo.out (fun h => hk h.2.2.2.1)
            clear HYes HNo HOk HSx HSy HSt HSu HE HF hSz HP HT HC HD HG2 HX2
            go_enter Tryz.func48, Tryz.ntmps48
            go_wp2
            go_ret2
            exact ⟨none, 0, 0, by rw [hR.out]; rfl, (fun l' h => by rw [hR.out] at h; cases h), HW.out⟩
        · have g3 : (so.toList == so'.toList) = false := by
            cases h : (so.toList == so'.toList) with
            | false => rfl
            | true => exact absurd (eqS_iff.1 h) hz
          have hR := HNo.out (fun h => hz h.2.2.1)
          clear HYes HNo HOk HSx HSy HSt HSu HE HF hSz HP HT HC HD HG2 HX2
          go_enter Tryz.func48, Tryz.ntmps48
          go_wp2
          go_ret2
          exact ⟨none, 0, 0, by rw [hR.out]; rfl, (fun l' h => by rw [hR.out] at h; cases h), HW.out⟩
      · have g1 : ((12 : Int) == op') = false := by simpa using ho
        have hR := HNo.out (fun h => ho h.1)
        clear HYes HNo HOk HSx HSy HSt HSu HE HF hSz HP HT HC HD HG2 HX2
        go_enter Tryz.func48, Tryz.ntmps48
        go_wp2
        go_ret2
        exact ⟨none, 0, 0, by rw [hR.out]; rfl, (fun l' h => by rw [hR.out] at h; cases h), HW.out⟩
    · have b2 : (op == 12) = false := by simpa using h2
      by_cases ho : op = op'
      · subst ho
        by_cases hm : nm = nm'
        · subst hm
          have g2 : (nm.toList == nm.toList) = true := by simp
          by_cases hz : so = so'
          · subst hz
            have g3 : (so.toList != so.toList) = false := by simp
            by_cases hk : kn = kn'
            · subst hk
              have g4 : ((kn : Int) != (kn : Int)) = false := by simp
              by_cases hn : n = n'
              · subst hn
                have g5 : ((n : Int) != (n : Int)) = false := by simp
                have hR := HYes.out (⟨rfl, .inr (.inr rfl), rfl, rfl, rfl⟩)
                clear HYes HNo
                go_enter Tryz.func48, Tryz.ntmps48
                go_wp2
                go_loopw [0, 11] (fun v i wr0 => ∃ (wr : World) (j : Nat) (bk : Option Addr) (mk dk : Nat), wr = wr0 ∧ j ≤ kn ∧ .slice bk mk dk = v ∧ i = .int .i64 j ∧ Below W2.heap.size W2 wr ∧ Hid (∃ lk, UsW wr bk mk dk lk ∧ R = (match mats X (xs.drop j) lk (us.drop j) with | none => none | some l1 => matCs X ps l1 qs) ∧ lk.length + (sizes (xs.drop j) + wts ps) ≤ 1000000)) (fun _ i _ => kn - (intOf i).toNat)
                case atStart => exact ⟨_, 0, _, _, _, rfl, by omega, rfl, rfl, Below.refl _ _, Lib.hid ⟨l, HG2.out, hR.out, hSz.out⟩⟩
                case round =>
                  obtain ⟨wr, j, bk, mk, dk, rfl, hj, rfl, rfl, hB, hRk⟩ := hrel
                  obtain ⟨r0, r1, r2, r3, r4⟩ := (CBox.b HB1.out hB).five
                  obtain ⟨v0, v1, v2, v3, v4⟩ := (CBox.b HB2.out hB).five
                  have lp : w.heap.size < wr.heap.size := by have h1 := hB.size; have h2 := Hlt.out; omega
                  have lt' : w.heap.size + 1 < wr.heap.size := by have h1 := hB.size; have h2 := Hlt.out; omega
                  by_cases hlt : j < kn
                  · obtain ⟨bb, o, x, A, M, Cc, rfl, hb, y0, y1, y2, y3, hx, hok⟩ := (TsW.b HP.out hB).at hlt
                    obtain ⟨bb', o', u, A', M', Cc', rfl, hb', z0, z1, z2, z3, hu, hok'⟩ := (TsW.b HT.out hB).at hlt
                    obtain ⟨lk, hU, hRe, hln⟩ := hRk.out
                    rw [HSt.out j x u lk hx hu] at hRe
                    have hsx := HSx.out j x hx
                    have hBd : Below wr.heap.size wr wr.drew := (Below.refl _ _).drew
                    have cs := More11_any X x lk u bk mk dk A M Cc A' M' Cc' aX nX cX wr.drew (by omega) (UsW.b hU hBd) (ArW.b hok hBd) (ArW.b hok' hBd) ((HX2.out.below hB).below hBd) hnX
                    have HLn := Lib.hid (show ∀ l', mat X x lk u = some l' → l'.length + (sizes (xs.drop (j + 1)) + wts ps) ≤ 1000000 from fun l' h => by have := mat_len X x lk u l' h; omega)
                    have hj0 : 0 ≤ (j : Int) := by omega
                    have hj1 : (j : Int) < (kn : Int) := by omega
                    have HRe := Lib.hid hRe
                    clear hx hu hok hok' HP HT HC HD HSt HSu HSx HSy HOk hU hRk hRe hln hsx HE HF hSz HG2
                    unfold RtK at cs
                    generalize opT x = ox at *
                    generalize nameT x = nx at *
                    generalize numT x = zx at *
                    generalize opT u = ou at *
                    generalize nameT u = nu at *
                    generalize numT u = zu at *
                    cases hr : mat X x lk u with
                    | none =>
                      rw [hr] at cs
                      have hnone : Hid (R = none) := Lib.hid (by rw [HRe.out, hr])
                      clear HRe HLn hr
                      go_wp2_with fail
                      go_region_held3 (fun w' => w'.cell? ⟨w.heap.size, 3, none⟩ = some (.slice (some ⟨bb, o, none⟩) kn kc) ∧ w'.cell? ⟨w.heap.size + 1, 3, none⟩ = some (.slice (some ⟨bb', o', none⟩) kn kc') ∧ w'.cell? ⟨bb, o + j * 4, none⟩ = some (.int .i64 ox) ∧ w'.cell? ⟨bb, o + j * 4 + 1, none⟩ = some (.string nx) ∧ w'.cell? ⟨bb, o + j * 4 + 1 + 1, none⟩ = some (.int .i64 zx) ∧ w'.cell? ⟨bb, o + j * 4 + 1 + 1 + 1, none⟩ = some (.slice A M Cc) ∧ w'.cell? ⟨bb', o' + j * 4, none⟩ = some (.int .i64 ou) ∧ w'.cell? ⟨bb', o' + j * 4 + 1, none⟩ = some (.string nu) ∧ w'.cell? ⟨bb', o' + j * 4 + 1 + 1, none⟩ = some (.int .i64 zu) ∧ w'.cell? ⟨bb', o' + j * 4 + 1 + 1 + 1, none⟩ = some (.slice A' M' Cc'))
                        (first | go_keep | (exact ⟨(B4.cell lp).trans r3, (B4.cell lt').trans v3, (B4.cell hb).trans y0, (B4.cell hb).trans y1, (B4.cell hb).trans y2, (B4.cell hb).trans y3, (B4.cell hb').trans z0, (B4.cell hb').trans z1, (B4.cell hb').trans z2, (B4.cell hb').trans z3⟩))
                        (first | (go_at_call 86; ((with_reducible refine cs.mono ?_); rintro e w4 ⟨A4, N4, C4, rfl, -, hb4⟩; have B4 := bel_trans hBd hb4)))
                      go_wp2
                      go_ret2
                      exact ⟨none, 0, 0, by rw [hnone.out]; rfl, (fun l' h => by rw [hnone.out] at h; cases h), bel_trans HW.out (bel_trans hB B4)⟩
                    | some l' =>
                      rw [hr] at cs
                      have hnew : Hid (R = (match mats X (xs.drop (j + 1)) l' (us.drop (j + 1)) with | none => none | some l1 => matCs X ps l1 qs)) := Lib.hid (by rw [HRe.out, hr])
                      have hl4 := Lib.hid (HLn.out l' hr)
                      clear HRe HLn hr
                      go_wp2_with fail
                      go_region_held3 (fun w' => w'.cell? ⟨w.heap.size, 3, none⟩ = some (.slice (some ⟨bb, o, none⟩) kn kc) ∧ w'.cell? ⟨w.heap.size + 1, 3, none⟩ = some (.slice (some ⟨bb', o', none⟩) kn kc') ∧ w'.cell? ⟨bb, o + j * 4, none⟩ = some (.int .i64 ox) ∧ w'.cell? ⟨bb, o + j * 4 + 1, none⟩ = some (.string nx) ∧ w'.cell? ⟨bb, o + j * 4 + 1 + 1, none⟩ = some (.int .i64 zx) ∧ w'.cell? ⟨bb, o + j * 4 + 1 + 1 + 1, none⟩ = some (.slice A M Cc) ∧ w'.cell? ⟨bb', o' + j * 4, none⟩ = some (.int .i64 ou) ∧ w'.cell? ⟨bb', o' + j * 4 + 1, none⟩ = some (.string nu) ∧ w'.cell? ⟨bb', o' + j * 4 + 1 + 1, none⟩ = some (.int .i64 zu) ∧ w'.cell? ⟨bb', o' + j * 4 + 1 + 1 + 1, none⟩ = some (.slice A' M' Cc'))
                        (first | go_keep | (exact ⟨(B4.cell lp).trans r3, (B4.cell lt').trans v3, (B4.cell hb).trans y0, (B4.cell hb).trans y1, (B4.cell hb).trans y2, (B4.cell hb).trans y3, (B4.cell hb').trans z0, (B4.cell hb').trans z1, (B4.cell hb').trans z2, (B4.cell hb').trans z3⟩))
                        (first | (go_at_call 86; ((with_reducible refine cs.mono ?_); rintro e w4 ⟨A4, N4, C4, rfl, hU4, hb4⟩; have B4 := bel_trans hBd hb4; have HU4 := Lib.hid (hU4 l' rfl); clear hU4)))
                      go_wp2
                      go_roundw
                      case rel => exact ⟨_, j + 1, _, _, _, rfl, by omega, rfl, by go_num, bel_trans hB B4, Lib.hid ⟨l', HU4.out, hnew.out, hl4.out⟩⟩
                      case measure => simp [intOf]; omega
                  · have hkn : j = kn := by omega
                    subst hkn
                    obtain ⟨lk, hU, hRe, hln⟩ := hRk.out
                    rw [HE.out lk] at hRe
                    have HS2 := Lib.hid (show ∃ lk, UsW wr bk mk dk lk ∧ R = matCs X (ps.drop 0) lk (qs.drop 0) ∧ lk.length + wts (ps.drop 0) ≤ 1000000 from ⟨lk, hU, hRe, by show lk.length + wts ps ≤ 1000000; omega⟩)
                    clear hU hRe hln hRk HP HT HSt HSx HE hSz HG2
                    go_wp2
                    go_loopw [0, 14] (fun v i wr0 => ∃ (wr : World) (j : Nat) (bk : Option Addr) (mk dk : Nat), wr = wr0 ∧ j ≤ n ∧ .slice bk mk dk = v ∧ i = .int .i64 j ∧ Below W2.heap.size W2 wr ∧ Hid (∃ lk, UsW wr bk mk dk lk ∧ R = matCs X (ps.drop j) lk (qs.drop j) ∧ lk.length + wts (ps.drop j) ≤ 1000000)) (fun _ i _ => n - (intOf i).toNat)
                    case atStart => exact ⟨_, 0, _, _, _, rfl, by omega, rfl, rfl, hB, HS2⟩
                    case round =>
                      obtain ⟨wr, j, bk, mk, dk, rfl, hj, rfl, rfl, hB, hRk⟩ := hrel
                      obtain ⟨r0, r1, r2, r3, r4⟩ := (CBox.b HB1.out hB).five
                      obtain ⟨v0, v1, v2, v3, v4⟩ := (CBox.b HB2.out hB).five
                      have lp : w.heap.size < wr.heap.size := by have h1 := hB.size; have h2 := Hlt.out; omega
                      have lt' : w.heap.size + 1 < wr.heap.size := by have h1 := hB.size; have h2 := Hlt.out; omega
                      by_cases hlt : j < n
                      · obtain ⟨bb, o, x, K, A, M, Cc, rfl, hb, y0, y1, y2, y3, y4, hx, hok⟩ := (CsW.b HC.out hB).at hlt
                        obtain ⟨bb', o', u, V, A', M', Cc', rfl, hb', z0, z1, z2, z3, z4, hu, hok'⟩ := (CsW.b HD.out hB).at hlt
                        obtain ⟨lk, hU, hRe, hln⟩ := hRk.out
                        rw [HSu.out j x u lk hx hu] at hRe
                        have hsx := HSy.out j x hx
                        have hBd : Below wr.heap.size wr wr.drew := (Below.refl _ _).drew
                        have cs := HOk.out x (List.mem_of_getElem? hx) lk u bk mk dk K A M Cc V A' M' Cc' aX nX cX wr.drew (by omega) (UsW.b hU hBd) (ArWC.b hok hBd) (ArWC.b hok' hBd) ((HX2.out.below hB).below hBd) hnX
                        have HLn := Lib.hid (show ∀ l', matC X x lk u = some l' → l'.length + wts (ps.drop (j + 1)) ≤ 1000000 from fun l' h => by have := matC_len X x lk u l' h; omega)
                        obtain ⟨K0, K1, K2⟩ := K
                        obtain ⟨V0, V1, V2⟩ := V
                        dsimp only at *
                        have hj0 : 0 ≤ (j : Int) := by omega
                        have hj1 : (j : Int) < (n : Int) := by omega
                        have HRe := Lib.hid hRe
                        clear hx hu hok hok' HC HD HSu HSy HOk hU hRk hRe hln hsx HF
                        unfold RtK at cs
                        generalize opC x = ox at *
                        generalize nmC x = nx at *
                        generalize soC x = zx at *
                        generalize opC u = ou at *
                        generalize nmC u = nu at *
                        generalize soC u = zu at *
                        cases hr : matC X x lk u with
                        | none =>
                          rw [hr] at cs
                          have hnone : Hid (R = none) := Lib.hid (by rw [HRe.out, hr])
                          clear HRe HLn hr
                          go_wp2_with fail
                          go_region_held3 (fun w' => w'.cell? ⟨w.heap.size, 4, none⟩ = some (.slice (some ⟨bb, o, none⟩) n c) ∧ w'.cell? ⟨w.heap.size + 1, 4, none⟩ = some (.slice (some ⟨bb', o', none⟩) n c') ∧ w'.cell? ⟨bb, o + j * 5, none⟩ = some (.int .i64 ox) ∧ w'.cell? ⟨bb, o + j * 5 + 1, none⟩ = some (.string nx) ∧ w'.cell? ⟨bb, o + j * 5 + 1 + 1, none⟩ = some (.string zx) ∧ w'.cell? ⟨bb, o + j * 5 + 1 + 1 + 1, none⟩ = some (.slice K0 K1 K2) ∧ w'.cell? ⟨bb, o + j * 5 + 1 + 1 + 1 + 1, none⟩ = some (.slice A M Cc) ∧ w'.cell? ⟨bb', o' + j * 5, none⟩ = some (.int .i64 ou) ∧ w'.cell? ⟨bb', o' + j * 5 + 1, none⟩ = some (.string nu) ∧ w'.cell? ⟨bb', o' + j * 5 + 1 + 1, none⟩ = some (.string zu) ∧ w'.cell? ⟨bb', o' + j * 5 + 1 + 1 + 1, none⟩ = some (.slice V0 V1 V2) ∧ w'.cell? ⟨bb', o' + j * 5 + 1 + 1 + 1 + 1, none⟩ = some (.slice A' M' Cc'))
                            (first | go_keep | (exact ⟨(B4.cell lp).trans r4, (B4.cell lt').trans v4, (B4.cell hb).trans y0, (B4.cell hb).trans y1, (B4.cell hb).trans y2, (B4.cell hb).trans y3, (B4.cell hb).trans y4, (B4.cell hb').trans z0, (B4.cell hb').trans z1, (B4.cell hb').trans z2, (B4.cell hb').trans z3, (B4.cell hb').trans z4⟩))
                            (first | (go_at_call 48; ((with_reducible refine cs.mono ?_); rintro e w4 ⟨A4, N4, C4, rfl, -, hb4⟩; have B4 := bel_trans hBd hb4)))
                          go_wp2
                          go_ret2
                          exact ⟨none, 0, 0, by rw [hnone.out]; rfl, (fun l' h => by rw [hnone.out] at h; cases h), bel_trans HW.out (bel_trans hB B4)⟩
                        | some l' =>
                          rw [hr] at cs
                          have hnew : Hid (R = matCs X (ps.drop (j + 1)) l' (qs.drop (j + 1))) := Lib.hid (by rw [HRe.out, hr])
                          have hl4 := Lib.hid (HLn.out l' hr)
                          clear HRe HLn hr
                          go_wp2_with fail
                          go_region_held3 (fun w' => w'.cell? ⟨w.heap.size, 4, none⟩ = some (.slice (some ⟨bb, o, none⟩) n c) ∧ w'.cell? ⟨w.heap.size + 1, 4, none⟩ = some (.slice (some ⟨bb', o', none⟩) n c') ∧ w'.cell? ⟨bb, o + j * 5, none⟩ = some (.int .i64 ox) ∧ w'.cell? ⟨bb, o + j * 5 + 1, none⟩ = some (.string nx) ∧ w'.cell? ⟨bb, o + j * 5 + 1 + 1, none⟩ = some (.string zx) ∧ w'.cell? ⟨bb, o + j * 5 + 1 + 1 + 1, none⟩ = some (.slice K0 K1 K2) ∧ w'.cell? ⟨bb, o + j * 5 + 1 + 1 + 1 + 1, none⟩ = some (.slice A M Cc) ∧ w'.cell? ⟨bb', o' + j * 5, none⟩ = some (.int .i64 ou) ∧ w'.cell? ⟨bb', o' + j * 5 + 1, none⟩ = some (.string nu) ∧ w'.cell? ⟨bb', o' + j * 5 + 1 + 1, none⟩ = some (.string zu) ∧ w'.cell? ⟨bb', o' + j * 5 + 1 + 1 + 1, none⟩ = some (.slice V0 V1 V2) ∧ w'.cell? ⟨bb', o' + j * 5 + 1 + 1 + 1 + 1, none⟩ = some (.slice A' M' Cc'))
                            (first | go_keep | (exact ⟨(B4.cell lp).trans r4, (B4.cell lt').trans v4, (B4.cell hb).trans y0, (B4.cell hb).trans y1, (B4.cell hb).trans y2, (B4.cell hb).trans y3, (B4.cell hb).trans y4, (B4.cell hb').trans z0, (B4.cell hb').trans z1, (B4.cell hb').trans z2, (B4.cell hb').trans z3, (B4.cell hb').trans z4⟩))
                            (first | (go_at_call 48; ((with_reducible refine cs.mono ?_); rintro e w4 ⟨A4, N4, C4, rfl, hU4, hb4⟩; have B4 := bel_trans hBd hb4; have HU4 := Lib.hid (hU4 l' rfl); clear hU4)))
                          go_wp2
                          go_roundw
                          case rel => exact ⟨_, j + 1, _, _, _, rfl, by omega, rfl, by go_num, bel_trans hB B4, Lib.hid ⟨l', HU4.out, hnew.out, hl4.out⟩⟩
                          case measure => simp [intOf]; omega
                      · have hkn : j = n := by omega
                        subst hkn
                        obtain ⟨lk, hU, hRe, hln⟩ := hRk.out
                        have HU := Lib.hid hU
                        have hsome : Hid (R = some lk) := Lib.hid (by rw [hRe, HF.out])
                        clear hU hRe hln hRk
                        go_wp2
                        go_ret2
                        exact ⟨_, _, _, by rw [hsome.out]; rfl, (fun l' h => by rw [hsome.out] at h; injection h with h; subst h; exact HU.out), bel_trans HW.out hB⟩
              · have g5 : ((n : Int) != (n' : Int)) = true := by simp; omega
                have hR := HNo.out (fun h => hn h.2.2.2.2)
                clear HYes HNo HOk HSx HSy HSt HSu HE HF hSz HP HT HC HD HG2 HX2
                go_enter Tryz.func48, Tryz.ntmps48
                go_wp2
                go_ret2
                exact ⟨none, 0, 0, by rw [hR.out]; rfl, (fun l' h => by rw [hR.out] at h; cases h), HW.out⟩
            · have g4 : ((kn : Int) != (kn' : Int)) = true := by simp; omega
              have hR := HNo.out (fun h => hk h.2.2.2.1)
              clear HYes HNo HOk HSx HSy HSt HSu HE HF hSz HP HT HC HD HG2 HX2
              go_enter Tryz.func48, Tryz.ntmps48
              go_wp2
              go_ret2
              exact ⟨none, 0, 0, by rw [hR.out]; rfl, (fun l' h => by rw [hR.out] at h; cases h), HW.out⟩
          · have g3 : (so.toList == so'.toList) = false := by
              cases h : (so.toList == so'.toList) with
              | false => rfl
              | true => exact absurd (eqS_iff.1 h) hz
            have hR := HNo.out (fun h => hz h.2.2.1)
            clear HYes HNo HOk HSx HSy HSt HSu HE HF hSz HP HT HC HD HG2 HX2
            go_enter Tryz.func48, Tryz.ntmps48
            go_wp2
            go_ret2
            exact ⟨none, 0, 0, by rw [hR.out]; rfl, (fun l' h => by rw [hR.out] at h; cases h), HW.out⟩
        · have g2 : (nm.toList == nm'.toList) = false := by
            cases h : (nm.toList == nm'.toList) with
            | false => rfl
            | true => exact absurd (eqS_iff.1 h) hm
          have hR := HNo.out (fun h => by rcases h.2.1 with h | h | h; exact h1 h; exact h2 h; exact hm h)
          clear HYes HNo HOk HSx HSy HSt HSu HE HF hSz HP HT HC HD HG2 HX2
          go_enter Tryz.func48, Tryz.ntmps48
          go_wp2
          go_ret2
          exact ⟨none, 0, 0, by rw [hR.out]; rfl, (fun l' h => by rw [hR.out] at h; cases h), HW.out⟩
      · have g1 : (op == op') = false := by simpa using ho
        have hR := HNo.out (fun h => ho h.1)
        clear HYes HNo HOk HSx HSy HSt HSu HE HF hSz HP HT HC HD HG2 HX2
        go_enter Tryz.func48, Tryz.ntmps48
        go_wp2
        go_ret2
        exact ⟨none, 0, 0, by rw [hR.out]; rfl, (fun l' h => by rw [hR.out] at h; cases h), HW.out⟩
theorem Claim_any11 (X : List ByteArray) (p : Cl) : CrOk X p := Cl.ind (claim_step X) p
set_option maxRecDepth 100000 in
set_option maxHeartbeats 4000000 in
theorem Claim11_any (X : List ByteArray) (p t : Cl) (k : SS) (a : Option Addr) (n c : Nat) (k' : SS) (a' : Option Addr) (n' c' : Nat) (aX : Option Addr) (nX cX : Nat) (w : World) (hsz : wt p ≤ 1000000) (hP : ArWC w p k a n c) (hT : ArWC w t k' a' n' c') (hX : IsS w aX nX X) (hnX : nX ≤ 9223372036854775807) :
    Calls Tryz.prog 18 #[.agg #[.int .i64 (opC p), .string (nmC p), .string (soC p), .slice k.a k.n k.c, .slice a n c], .agg #[.int .i64 (opC t), .string (nmC t), .string (soC t), .slice k'.a k'.n k'.c, .slice a' n' c'], .slice aX nX cX] w fun e w' => RtPs (matC X p [] t) w e w' := by
  obtain ⟨W2, hW2, hB2, hs2, S2, T2⟩ := cbox2 w (opC p) (nmC p) (soC p) k a n c (opC t) (nmC t) (soC t) k' a' n' c'
  have cm := Claim_any11 X p [] t none 0 0 k a n c k' a' n' c' aX nX cX W2 (by simp; omega) (UsW.nil _) (ArWC.b hP hB2) (ArWC.b hT hB2) (hX.below hB2) hnX
  have ct := fun (ok : Bool) (A : Option Addr) (N C : Nat) (w' : World) => told_any ok A N C w'
  obtain ⟨ka, kn, kc⟩ := k
  obtain ⟨ka', kn', kc'⟩ := k'
  dsimp only at *
  obtain ⟨s0, s1, s2, s3, s4⟩ := S2.five
  obtain ⟨t0, t1, t2, t3, t4⟩ := T2.five
  unfold RtK at cm
  have HF := Lib.hid (show ∀ (A : Option Addr) (N C : Nat) (w' : World), (∀ l', matC X p [] t = some l' → UsW w' A N C l') → Below W2.heap.size W2 w' → RtPs (matC X p [] t) w (.returned (.tuple #[toldS (matC X p [] t).isSome A N C, .bool (matC X p [] t).isSome])) w' from fun A N C w' h hb => told_fin h (bel_trans hB2 hb))
  clear S2 T2 hP hT hX hs2
  dsimp only at *
  generalize matC X p [] t = R at *
  generalize hok : R.isSome = ok at *
  generalize opC p = op at *
  generalize nmC p = nm at *
  generalize soC p = nz at *
  generalize opC t = ot at *
  generalize nmC t = nt at *
  generalize soC t = zt at *
  clear hok
  go_enter Tryz.func18, Tryz.ntmps18
  go_wp2_with (first
    | (go_at_call 48; ((with_reducible refine cm.mono ?_); rintro e w3 ⟨A, N, C, rfl, hU, hb3⟩; have HU := Lib.hid hU; clear hU))
    | (go_at_call 47; ((with_reducible refine (ct _ _ _ _ _).mono ?_); rintro e w4 ⟨rfl, rfl⟩)))
  go_ret2
  exact HF.out _ _ _ _ HU.out hb3
end Go.Proofs.YtghpoeckhfeicaaGreat.Mt
