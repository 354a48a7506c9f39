/-
  What is proved: the document's more of layer 11, at any pattern.
-/
import Derived.Test.YtghpoeckhfeicaaGreatZMtL
namespace Go.Proofs.YtghpoeckhfeicaaGreat.Mt
open Go.RowKit L T C B U
set_option linter.unusedVariables false
set_option linter.unusedSimpArgs false

set_option maxRecDepth 100000 in
set_option maxHeartbeats 16000000 in
theorem more_same (X : List ByteArray) (p : Tm) (hok : ∀ x ∈ argsT p, MoreOk X x) (hv : ¬ (opT p = 1 ∧ hasS X (nameT p) = true)) (l : List Pr) (t : Tm) (hd : opT p = opT t ∧ nameT p = nameT t ∧ numT p = numT t ∧ (argsT p).length = (argsT t).length) (b : Option Addr) (m d : Nat) (a : Option Addr) (n c : Nat) (a' : Option Addr) (n' c' : Nat) (aX : Option Addr) (nX cX : Nat) (w : World)
    (hsz : l.length + size p ≤ 1000000) (hG : UsW w b m d l) (hP : ArW w p a n c) (hT : ArW w t a' n' c') (hX : IsS w aX nX X) (hnX : nX ≤ 9223372036854775807) :
    Calls Tryz.prog 86 #[.slice b m d, .agg #[.int .i64 (opT p), .string (nameT p), .int .i64 (numT p), .slice a n c], .agg #[.int .i64 (opT t), .string (nameT t), .int .i64 (numT t), .slice a' n' c'], .slice aX nX cX] w fun e w' => RtK (mat X p l t) w e w' := by
  obtain ⟨W2, hW2, hB2, hs2, S2, T2⟩ := box2 w (opT p) (nameT p) (numT p) a n c (opT t) (nameT t) (numT t) a' n' c'
  have c1 := Has_any aX nX cX X (nameT p) W2 (hX.below hB2) hnX
  have hR := mat_rw X p l t
  rw [if_neg hv] at hR
  have hn : n = (argsT p).length := (ArW.args hP).1
  have hn' : n' = (argsT t).length := (ArW.args hT).1
  obtain ⟨s0, s1, s2, s3⟩ := S2.four
  obtain ⟨t0, t1, t2, t3⟩ := T2.four
  rw [if_pos hd] at hR
  have hG2 := UsW.b hG hB2
  have hX2 := hX.below hB2
  have HP := Lib.hid (TsW.b (ArW.args hP) hB2)
  have HT := Lib.hid (TsW.b (ArW.args hT) hB2)
  have hpz : size p = 1 + sizes (argsT p) := by cases p; rw [size]; rfl
  have hnn : n ≤ 9223372036854775807 := by have h1 := HP.out.2.1; have h2 := HP.out.2.2.1; unfold maxLen at h2; omega
  obtain ⟨d1, d2, d3, d4⟩ := hd
  rw [← hn, ← hn'] at d4
  subst d4
  have HB1 := Lib.hid S2
  have HB2 := Lib.hid T2
  have HG2 := Lib.hid hG2
  have HX2 := Lib.hid hX2
  have HOk := Lib.hid hok
  have HSx := Lib.hid (show ∀ k x, (argsT p)[k]? = some x → size x + sizes ((argsT p).drop (k + 1)) = sizes ((argsT p).drop k) from fun k x h => by rw [drop_t h, sizes])
  have HSt := Lib.hid (show ∀ (k : Nat) (x u : Tm) (lk : List Pr), (argsT p)[k]? = some x → (argsT t)[k]? = some u → _ from fun k x u lk h1 h2 => mats_step (X := X) (l := lk) h1 h2)
  have HE := Lib.hid (show ∀ (lk : List Pr), mats X ((argsT p).drop n) lk ((argsT t).drop n) = some lk from fun lk => by rw [List.drop_eq_nil_of_le (by omega), mats])
  have HR := Lib.hid hR
  have HN := Lib.hid hn
  have hSz : l.length + sizes ((argsT p).drop 0) ≤ 1000000 := by show l.length + sizes (argsT p) ≤ _; omega
  clear hR hP hT hX hG hG2 hX2 S2 T2 hok hn hn' hpz hsz
  generalize argsT p = xs at *
  generalize argsT t = us at *
  rw [← d1, ← d2, ← d3]
  rw [← d1] at hW2 t0 HB2
  rw [← d2] at hW2 t1 HB2
  rw [← d3] at hW2 t2 HB2
  clear d1 d2 d3
  generalize mat X p l t = R at *
  generalize hH : hasS X (nameT p) = H at *
  generalize nameT p = nm at *
  generalize numT p = nz at *
  generalize opT p = op at *
  by_cases h1 : op = 1
  · subst h1
    have hH0 : H = false := by
      cases H with
      | false => rfl
      | true => exact absurd ⟨rfl, rfl⟩ hv
    subst hH0
    clear hv
    clear hH
    go_enter Tryz.func86, Tryz.ntmps86
    go_wp2_with (go_at_call 13; ((with_reducible refine c1.mono ?_); rintro e w1 ⟨rfl, rfl⟩))
    go_loopw [0, 12] (fun v i wr0 => ∃ (wr : World) (k : Nat) (bk : Option Addr) (mk dk : Nat), wr = wr0 ∧ k ≤ n ∧ .slice bk mk dk = v ∧ i = .int .i64 k ∧ Below W2.heap.size W2 wr ∧ Hid (∃ lk, UsW wr bk mk dk lk ∧ R = mats X (xs.drop k) lk (us.drop k) ∧ lk.length + sizes (xs.drop k) ≤ 1000000)) (fun _ i _ => n - (intOf i).toNat)
    case atStart => exact ⟨_, 0, b, m, d, rfl, by omega, rfl, rfl, Below.refl _ _, Lib.hid ⟨l, HG2.out, HR.out, hSz⟩⟩
    case round =>
      obtain ⟨wr, k, bk, mk, dk, rfl, hk, rfl, rfl, hB, hRk⟩ := hrel
      obtain ⟨r0, r1, r2, r3⟩ := (TBox.b HB1.out hB).four
      obtain ⟨v0, v1, v2, v3⟩ := (TBox.b HB2.out hB).four
      have lp : w.heap.size < wr.heap.size := by have := hB.size; omega
      have lt' : w.heap.size + 1 < wr.heap.size := by have := hB.size; omega
      by_cases hlt : k < n
      · obtain ⟨bb, o, x, A, M, Cc, rfl, hb, y0, y1, y2, y3, hx, hok⟩ := (TsW.b HP.out hB).at hlt
        obtain ⟨bb', o', u, A', M', Cc', rfl, hb', z0, z1, z2, z3, hu, hok'⟩ := (TsW.b HT.out hB).at hlt
        obtain ⟨lk, hU, hRe, hln⟩ := hRk.out
        rw [HSt.out k x u lk hx hu] at hRe
        have hsx := HSx.out k x hx
        have hBd : Below wr.heap.size wr wr.drew := (Below.refl _ _).drew
        have cs := HOk.out x (List.mem_of_getElem? hx) lk u bk mk dk A M Cc A' M' Cc' aX nX cX wr.drew (by omega) (UsW.b hU hBd) (ArW.b hok hBd) (ArW.b hok' hBd) ((HX2.out.below hB).below hBd) hnX
        have HLn := Lib.hid (show ∀ l', mat X x lk u = some l' → l'.length + sizes (xs.drop (k + 1)) ≤ 1000000 from fun l' h => by have := mat_len X x lk u l' h; omega)
        have hk0 : 0 ≤ (k : Int) := by omega
        have hk1 : (k : Int) < (n : Int) := by omega
        have HRe := Lib.hid hRe
        clear hx hu hok hok' HP HT HSt HSx HOk hU hRk hRe hln hsx
        unfold RtK at cs
        generalize opT x = ox at *
        generalize nameT x = nx at *
        generalize numT x = zx at *
        generalize opT u = ou at *
        generalize nameT u = nu at *
        generalize numT u = zu at *
        cases hr : mat X x lk u with
        | none =>
          rw [hr] at cs
          have hnone : Hid (R = none) := Lib.hid (by rw [HRe.out, hr])
          clear HRe HLn hr
          go_wp2_with fail
          go_region_held3 (fun w' => w'.cell? ⟨w.heap.size, 3, none⟩ = some (.slice (some ⟨bb, o, none⟩) n c) ∧ w'.cell? ⟨w.heap.size + 1, 3, none⟩ = some (.slice (some ⟨bb', o', none⟩) n c') ∧ w'.cell? ⟨bb, o + k * 4, none⟩ = some (.int .i64 ox) ∧ w'.cell? ⟨bb, o + k * 4 + 1, none⟩ = some (.string nx) ∧ w'.cell? ⟨bb, o + k * 4 + 1 + 1, none⟩ = some (.int .i64 zx) ∧ w'.cell? ⟨bb, o + k * 4 + 1 + 1 + 1, none⟩ = some (.slice A M Cc) ∧ w'.cell? ⟨bb', o' + k * 4, none⟩ = some (.int .i64 ou) ∧ w'.cell? ⟨bb', o' + k * 4 + 1, none⟩ = some (.string nu) ∧ w'.cell? ⟨bb', o' + k * 4 + 1 + 1, none⟩ = some (.int .i64 zu) ∧ w'.cell? ⟨bb', o' + k * 4 + 1 + 1 + 1, none⟩ = some (.slice A' M' Cc'))
            (first | go_keep | (exact ⟨(B4.cell lp).trans r3, (B4.cell lt').trans v3, (B4.cell hb).trans y0, (B4.cell hb).trans y1, (B4.cell hb).trans y2, (B4.cell hb).trans y3, (B4.cell hb').trans z0, (B4.cell hb').trans z1, (B4.cell hb').trans z2, (B4.cell hb').trans z3⟩))
            (first | (go_at_call 86; ((with_reducible refine cs.mono ?_); rintro e w4 ⟨A4, N4, C4, rfl, -, hb4⟩; have B4 := bel_trans hBd hb4)))
          go_wp2
          go_ret2
          exact ⟨none, 0, 0, by rw [hnone.out]; rfl, (fun l' h => by rw [hnone.out] at h; cases h), bel_trans hB2 (bel_trans hB B4)⟩
        | some l' =>
          rw [hr] at cs
          have hnew : Hid (R = mats X (xs.drop (k + 1)) l' (us.drop (k + 1))) := Lib.hid (by rw [HRe.out, hr])
          have hl4 := HLn.out l' hr
          clear HRe HLn hr
          go_wp2_with fail
          go_region_held3 (fun w' => w'.cell? ⟨w.heap.size, 3, none⟩ = some (.slice (some ⟨bb, o, none⟩) n c) ∧ w'.cell? ⟨w.heap.size + 1, 3, none⟩ = some (.slice (some ⟨bb', o', none⟩) n c') ∧ w'.cell? ⟨bb, o + k * 4, none⟩ = some (.int .i64 ox) ∧ w'.cell? ⟨bb, o + k * 4 + 1, none⟩ = some (.string nx) ∧ w'.cell? ⟨bb, o + k * 4 + 1 + 1, none⟩ = some (.int .i64 zx) ∧ w'.cell? ⟨bb, o + k * 4 + 1 + 1 + 1, none⟩ = some (.slice A M Cc) ∧ w'.cell? ⟨bb', o' + k * 4, none⟩ = some (.int .i64 ou) ∧ w'.cell? ⟨bb', o' + k * 4 + 1, none⟩ = some (.string nu) ∧ w'.cell? ⟨bb', o' + k * 4 + 1 + 1, none⟩ = some (.int .i64 zu) ∧ w'.cell? ⟨bb', o' + k * 4 + 1 + 1 + 1, none⟩ = some (.slice A' M' Cc'))
            (first | go_keep | (exact ⟨(B4.cell lp).trans r3, (B4.cell lt').trans v3, (B4.cell hb).trans y0, (B4.cell hb).trans y1, (B4.cell hb).trans y2, (B4.cell hb).trans y3, (B4.cell hb').trans z0, (B4.cell hb').trans z1, (B4.cell hb').trans z2, (B4.cell hb').trans z3⟩))
            (first | (go_at_call 86; ((with_reducible refine cs.mono ?_); rintro e w4 ⟨A4, N4, C4, rfl, hU4, hb4⟩; have B4 := bel_trans hBd hb4; have HU4 := Lib.hid (hU4 l' rfl); clear hU4)))
          go_wp2
          go_roundw
          case rel => exact ⟨_, k + 1, _, _, _, rfl, by omega, rfl, by go_num, bel_trans hB B4, Lib.hid ⟨l', HU4.out, hnew.out, hl4⟩⟩
          case measure => simp [intOf]; omega
      · have hkn : k = n := by omega
        subst hkn
        obtain ⟨lk, hU, hRe, hln⟩ := hRk.out
        have HU := Lib.hid hU
        have hsome : Hid (R = some lk) := Lib.hid (by rw [hRe, HE.out])
        clear hU hRe hln hRk
        go_wp2
        go_ret2
        exact ⟨_, _, _, by rw [hsome.out]; rfl, (fun l' h => by rw [hsome.out] at h; injection h with h; subst h; exact HU.out), bel_trans hB2 hB⟩
  · have q0 : (op == 1) = false := beq_no' h1
    clear hv c1 h1
    clear hH
    go_enter Tryz.func86, Tryz.ntmps86
    go_wp2
    go_loopw [0, 12] (fun v i wr0 => ∃ (wr : World) (k : Nat) (bk : Option Addr) (mk dk : Nat), wr = wr0 ∧ k ≤ n ∧ .slice bk mk dk = v ∧ i = .int .i64 k ∧ Below W2.heap.size W2 wr ∧ Hid (∃ lk, UsW wr bk mk dk lk ∧ R = mats X (xs.drop k) lk (us.drop k) ∧ lk.length + sizes (xs.drop k) ≤ 1000000)) (fun _ i _ => n - (intOf i).toNat)
    case atStart => exact ⟨_, 0, b, m, d, rfl, by omega, rfl, rfl, Below.refl _ _, Lib.hid ⟨l, HG2.out, HR.out, hSz⟩⟩
    case round =>
      obtain ⟨wr, k, bk, mk, dk, rfl, hk, rfl, rfl, hB, hRk⟩ := hrel
      obtain ⟨r0, r1, r2, r3⟩ := (TBox.b HB1.out hB).four
      obtain ⟨v0, v1, v2, v3⟩ := (TBox.b HB2.out hB).four
      have lp : w.heap.size < wr.heap.size := by have := hB.size; omega
      have lt' : w.heap.size + 1 < wr.heap.size := by have := hB.size; omega
      by_cases hlt : k < n
      · obtain ⟨bb, o, x, A, M, Cc, rfl, hb, y0, y1, y2, y3, hx, hok⟩ := (TsW.b HP.out hB).at hlt
        obtain ⟨bb', o', u, A', M', Cc', rfl, hb', z0, z1, z2, z3, hu, hok'⟩ := (TsW.b HT.out hB).at hlt
        obtain ⟨lk, hU, hRe, hln⟩ := hRk.out
        rw [HSt.out k x u lk hx hu] at hRe
        have hsx := HSx.out k x hx
        have hBd : Below wr.heap.size wr wr.drew := (Below.refl _ _).drew
        have cs := HOk.out x (List.mem_of_getElem? hx) lk u bk mk dk A M Cc A' M' Cc' aX nX cX wr.drew (by omega) (UsW.b hU hBd) (ArW.b hok hBd) (ArW.b hok' hBd) ((HX2.out.below hB).below hBd) hnX
        have HLn := Lib.hid (show ∀ l', mat X x lk u = some l' → l'.length + sizes (xs.drop (k + 1)) ≤ 1000000 from fun l' h => by have := mat_len X x lk u l' h; omega)
        have hk0 : 0 ≤ (k : Int) := by omega
        have hk1 : (k : Int) < (n : Int) := by omega
        have HRe := Lib.hid hRe
        clear hx hu hok hok' HP HT HSt HSx HOk hU hRk hRe hln hsx
        unfold RtK at cs
        generalize opT x = ox at *
        generalize nameT x = nx at *
        generalize numT x = zx at *
        generalize opT u = ou at *
        generalize nameT u = nu at *
        generalize numT u = zu at *
        cases hr : mat X x lk u with
        | none =>
          rw [hr] at cs
          have hnone : Hid (R = none) := Lib.hid (by rw [HRe.out, hr])
          clear HRe HLn hr
          go_wp2_with fail
          go_region_held3 (fun w' => w'.cell? ⟨w.heap.size, 3, none⟩ = some (.slice (some ⟨bb, o, none⟩) n c) ∧ w'.cell? ⟨w.heap.size + 1, 3, none⟩ = some (.slice (some ⟨bb', o', none⟩) n c') ∧ w'.cell? ⟨bb, o + k * 4, none⟩ = some (.int .i64 ox) ∧ w'.cell? ⟨bb, o + k * 4 + 1, none⟩ = some (.string nx) ∧ w'.cell? ⟨bb, o + k * 4 + 1 + 1, none⟩ = some (.int .i64 zx) ∧ w'.cell? ⟨bb, o + k * 4 + 1 + 1 + 1, none⟩ = some (.slice A M Cc) ∧ w'.cell? ⟨bb', o' + k * 4, none⟩ = some (.int .i64 ou) ∧ w'.cell? ⟨bb', o' + k * 4 + 1, none⟩ = some (.string nu) ∧ w'.cell? ⟨bb', o' + k * 4 + 1 + 1, none⟩ = some (.int .i64 zu) ∧ w'.cell? ⟨bb', o' + k * 4 + 1 + 1 + 1, none⟩ = some (.slice A' M' Cc'))
            (first | go_keep | (exact ⟨(B4.cell lp).trans r3, (B4.cell lt').trans v3, (B4.cell hb).trans y0, (B4.cell hb).trans y1, (B4.cell hb).trans y2, (B4.cell hb).trans y3, (B4.cell hb').trans z0, (B4.cell hb').trans z1, (B4.cell hb').trans z2, (B4.cell hb').trans z3⟩))
            (first | (go_at_call 86; ((with_reducible refine cs.mono ?_); rintro e w4 ⟨A4, N4, C4, rfl, -, hb4⟩; have B4 := bel_trans hBd hb4)))
          go_wp2
          go_ret2
          exact ⟨none, 0, 0, by rw [hnone.out]; rfl, (fun l' h => by rw [hnone.out] at h; cases h), bel_trans hB2 (bel_trans hB B4)⟩
        | some l' =>
          rw [hr] at cs
          have hnew : Hid (R = mats X (xs.drop (k + 1)) l' (us.drop (k + 1))) := Lib.hid (by rw [HRe.out, hr])
          have hl4 := HLn.out l' hr
          clear HRe HLn hr
          go_wp2_with fail
          go_region_held3 (fun w' => w'.cell? ⟨w.heap.size, 3, none⟩ = some (.slice (some ⟨bb, o, none⟩) n c) ∧ w'.cell? ⟨w.heap.size + 1, 3, none⟩ = some (.slice (some ⟨bb', o', none⟩) n c') ∧ w'.cell? ⟨bb, o + k * 4, none⟩ = some (.int .i64 ox) ∧ w'.cell? ⟨bb, o + k * 4 + 1, none⟩ = some (.string nx) ∧ w'.cell? ⟨bb, o + k * 4 + 1 + 1, none⟩ = some (.int .i64 zx) ∧ w'.cell? ⟨bb, o + k * 4 + 1 + 1 + 1, none⟩ = some (.slice A M Cc) ∧ w'.cell? ⟨bb', o' + k * 4, none⟩ = some (.int .i64 ou) ∧ w'.cell? ⟨bb', o' + k * 4 + 1, none⟩ = some (.string nu) ∧ w'.cell? ⟨bb', o' + k * 4 + 1 + 1, none⟩ = some (.int .i64 zu) ∧ w'.cell? ⟨bb', o' + k * 4 + 1 + 1 + 1, none⟩ = some (.slice A' M' Cc'))
            (first | go_keep | (exact ⟨(B4.cell lp).trans r3, (B4.cell lt').trans v3, (B4.cell hb).trans y0, (B4.cell hb).trans y1, (B4.cell hb).trans y2, (B4.cell hb).trans y3, (B4.cell hb').trans z0, (B4.cell hb').trans z1, (B4.cell hb').trans z2, (B4.cell hb').trans z3⟩))
            (first | (go_at_call 86; ((with_reducible refine cs.mono ?_); rintro e w4 ⟨A4, N4, C4, rfl, hU4, hb4⟩; have B4 := bel_trans hBd hb4; have HU4 := Lib.hid (hU4 l' rfl); clear hU4)))
          go_wp2
          go_roundw
          case rel => exact ⟨_, k + 1, _, _, _, rfl, by omega, rfl, by go_num, bel_trans hB B4, Lib.hid ⟨l', HU4.out, hnew.out, hl4⟩⟩
          case measure => simp [intOf]; omega
      · have hkn : k = n := by omega
        subst hkn
        obtain ⟨lk, hU, hRe, hln⟩ := hRk.out
        have HU := Lib.hid hU
        have hsome : Hid (R = some lk) := Lib.hid (by rw [hRe, HE.out])
        clear hU hRe hln hRk
        go_wp2
        go_ret2
        exact ⟨_, _, _, by rw [hsome.out]; rfl, (fun l' h => by rw [hsome.out] at h; injection h with h; subst h; exact HU.out), bel_trans hB2 hB⟩
theorem more_step (X : List ByteArray) (p : Tm) (hok : ∀ x ∈ argsT p, MoreOk X x) : MoreOk X p := by
  by_cases hv : opT p = 1 ∧ hasS X (nameT p) = true
  · exact more_var X p hv
  · intro l t b m d a n c a' n' c' aX nX cX w hsz hG hP hT hX hnX
    by_cases hd : opT p = opT t ∧ nameT p = nameT t ∧ numT p = numT t ∧ (argsT p).length = (argsT t).length
    · exact more_same X p hok hv l t hd b m d a n c a' n' c' aX nX cX w hsz hG hP hT hX hnX
    · exact more_diff X p hv l t hd b m d a n c a' n' c' aX nX cX w hP hT hX hnX
theorem More11_any (X : List ByteArray) (p : Tm) : MoreOk X p := Tm.ind (more_step X) p
end Go.Proofs.YtghpoeckhfeicaaGreat.Mt
