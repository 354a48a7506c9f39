/-
  What is proved: what package claim's Compare and Same return.
-/
import Derived.Test.YtjjoebijkcmgiaaGreatZClmCm
namespace Go.Proofs.YtjjoebijkcmgiaaGreat.C
open Go.RowKit L T
set_option linter.unusedVariables false
set_option linter.unusedSimpArgs false

def Three (w : World) (g : Nat) (x0 x1 x2 : Int) : Prop := Blk w g #[.int .i64 x0, .int .i64 x1, .int .i64 x2] 3
theorem or_three (g : Nat) (x0 x1 x2 : Int) (w : World) (h : Three w g x0 x1 x2) :
    Calls Tryz.prog 62 #[.slice (some ⟨g, 0, none⟩) 3 3] w fun e w' => e = .returned (.int .i64 (lex x0 (lex x1 x2))) ∧ w = w' := by
  have c0 := Blk.cell h 0
  have c1 := Blk.cell h 1
  have c2 := Blk.cell h 2
  have hr : Hid (lex x0 (lex x1 x2) = if x0 ≠ 0 then x0 else if x1 ≠ 0 then x1 else x2) := rfl
  generalize lex x0 (lex x1 x2) = R at *
  clear h
  by_cases h0 : x0 = 0
  · subst h0
    by_cases h1 : x1 = 0
    · subst h1
      by_cases h2 : x2 = 0
      · subst h2
        have hR : Hid ((0 : Int) = R) := by show _ = _; rw [hr.out]; simp
        clear hr
        go_enter Tryz.func62, Tryz.ntmps62
        go_wp2
        refine wp_loop_rounds 4 ?_
        rw [rounds_succ]; go_wp2
        rw [rounds_succ]; go_wp2
        rw [rounds_succ]; go_wp2
        rw [rounds_succ]; go_wp2
        go_ret
        exact ⟨one hR.out, rfl⟩
      · have hR : Hid (x2 = R) := by show _ = _; rw [hr.out]; simp
        have hb : (x2 != 0) = true := by simpa using h2
        clear hr
        go_enter Tryz.func62, Tryz.ntmps62
        go_wp2
        refine wp_loop_rounds 3 ?_
        rw [rounds_succ]; go_wp2
        rw [rounds_succ]; go_wp2
        rw [rounds_succ]; go_wp2
        go_ret
        exact ⟨one hR.out, rfl⟩
    · have hR : Hid (x1 = R) := by show _ = _; rw [hr.out]; simp [h1]
      have hb : (x1 != 0) = true := by simpa using h1
      clear hr
      go_enter Tryz.func62, Tryz.ntmps62
      go_wp2
      refine wp_loop_rounds 2 ?_
      rw [rounds_succ]; go_wp2
      rw [rounds_succ]; go_wp2
      go_ret
      exact ⟨one hR.out, rfl⟩
  · have hR : Hid (x0 = R) := by show _ = _; rw [hr.out]; simp [h0]
    have hb : (x0 != 0) = true := by simpa using h0
    clear hr
    go_enter Tryz.func62, Tryz.ntmps62
    go_wp2
    refine wp_loop_rounds 1 ?_
    rw [rounds_succ]; go_wp2
    go_ret
    exact ⟨one hR.out, rfl⟩
theorem cmpC_code (t u : Cl) : cmpC t u = lex (lex (cmpI (opC t) (opC u)) (lex (nmCmp (opC t) (nmC t) (nmC u)) (cmpN (soC t) (soC u)))) (lex (cmpTL (tsC t) (tsC u)) (lex (cmpI (subC t).length (subC u).length) (cmpCs (subC t) (subC u)))) := by
  rw [cmpC_mk, lex_assoc, lex_assoc]
  by_cases h : cmpI (opC t) (opC u) = 0
  · rw [(linI.eq _ _).1 h, nmCmp_key]
  · have e : ∀ y z : Int, lex (cmpI (opC t) (opC u)) y = lex (cmpI (opC t) (opC u)) z := fun y z => by unfold lex; rw [if_pos h, if_pos h]
    exact e _ _
set_option maxRecDepth 100000 in
set_option maxHeartbeats 8000000 in
theorem CompareC_step (t : Cl) (hok : ∀ x ∈ subC t, CmpOkC x) : CmpOkC t := by
  intro u k a n c k' a' n' c' w hA hA'
  obtain ⟨W2, hW2, hB2, hs2, S2, T2⟩ := cbox2 w (opC t) (nmC t) (soC t) k a n c (opC u) (nmC u) (soC u) k' a' n' c'
  rw [cmpC_code]
  have cT := fun (w' : World) (hb : Below W2.heap.size W2 w') => listsT_any (tsC t) (tsC u) k.a k.n k.c k'.a k'.n k'.c w' (TsW.b (ArWC.terms (ArWC.b hA hB2)) hb) (TsW.b (ArWC.terms (ArWC.b hA' hB2)) hb)
  have cL := fun (w' : World) (hb : Below W2.heap.size W2 w') => listsC_of (subC t) hok (subC u) a n c a' n' c' w' (CsW.b (ArWC.subs (ArWC.b hA hB2)) hb) (CsW.b (ArWC.subs (ArWC.b hA' hB2)) hb)
  have cN := fun (w' : World) => cmpNames_any (opC t) (nmC t) (soC t) k a n c (opC u) (nmC u) (soC u) k' a' n' c' w'
  clear hA hA' hok
  have lS := Blk.lt S2
  have lT := Blk.lt T2
  obtain ⟨s0, s1, s2, s3, s4⟩ := S2.five
  obtain ⟨t0, t1, t2, t3, t4⟩ := T2.five
  have HS := Lib.hid S2
  have HT := Lib.hid T2
  clear S2 T2
  generalize lex (cmpI (subC t).length (subC u).length) (cmpCs (subC t) (subC u)) = R at *
  generalize cmpTL (tsC t) (tsC u) = Q at *
  generalize opC t = op at *
  generalize nmC t = nm at *
  generalize soC t = so at *
  generalize opC u = op' at *
  generalize nmC u = nm' at *
  generalize soC u = so' at *
  have cI := fun (w : World) => cmp_int op op' w
  have cS := fun (w : World) => cmp_str so so' w
  generalize hx0 : cmpI op op' = x0 at *
  generalize hx1 : nmCmp op nm nm' = x1 at *
  generalize hx2 : cmpN so so' = x2 at *
  clear hx0 hx1 hx2
  have cO := fun (w0 : World) => or_three w0.heap.size x0 x1 x2 (w0.alloc (.cells #[.int .i64 x0, .int .i64 x1, .int .i64 x2] 3)) (Blk.new w0 _ _)
  generalize lex x0 (lex x1 x2) = D at *
  have hBd : Below W2.heap.size W2 W2.drew := (Below.refl _ _).drew
  have E1 : Hid (D ≠ 0 → D = lex D (lex Q R)) := fun h => by unfold lex; rw [if_pos h]
  have E2 : Hid (D = 0 → Q ≠ 0 → Q = lex D (lex Q R)) := fun h h2 => by rw [h, zero_lex]; unfold lex; rw [if_pos h2]
  have E3 : Hid (D = 0 → Q = 0 → R = lex D (lex Q R)) := fun h h2 => by rw [h, h2, zero_lex, zero_lex]
  generalize lex D (lex Q R) = V at *
  by_cases hD : D = 0
  · by_cases hQ : Q = 0
    · have hV := E3.out hD hQ
      subst hD hQ hV
      clear E1 E2 E3
      go_enter Tryz.func38, Tryz.ntmps38
      go_wp2_with fail
      go_region_held3 (fun w' => w'.cell? ⟨w.heap.size, 0, none⟩ = some (.int .i64 op) ∧ w'.cell? ⟨w.heap.size, 1, none⟩ = some (.string nm) ∧ w'.cell? ⟨w.heap.size, 2, none⟩ = some (.string so) ∧ w'.cell? ⟨w.heap.size, 3, none⟩ = some (.slice k.a k.n k.c) ∧ w'.cell? ⟨w.heap.size, 4, none⟩ = some (.slice a n c) ∧ w'.cell? ⟨w.heap.size + 1, 0, none⟩ = some (.int .i64 op') ∧ w'.cell? ⟨w.heap.size + 1, 1, none⟩ = some (.string nm') ∧ w'.cell? ⟨w.heap.size + 1, 2, none⟩ = some (.string so') ∧ w'.cell? ⟨w.heap.size + 1, 3, none⟩ = some (.slice k'.a k'.n k'.c) ∧ w'.cell? ⟨w.heap.size + 1, 4, none⟩ = some (.slice a' n' c'))
        (first | (exact ⟨(Bz.cell lS).trans s0, (Bz.cell lS).trans s1, (Bz.cell lS).trans s2, (Bz.cell lS).trans s3, (Bz.cell lS).trans s4, (Bz.cell lT).trans t0, (Bz.cell lT).trans t1, (Bz.cell lT).trans t2, (Bz.cell lT).trans t3, (Bz.cell lT).trans t4⟩) | go_keep)
        (first
          | (go_at_call 63; ((with_reducible refine (cI _).mono ?_); rintro e w4 ⟨rfl, rfl⟩))
          | (go_at_call 65; ((with_reducible refine (cS _).mono ?_); rintro e w4 ⟨rfl, rfl⟩))
          | (go_at_call 64; ((with_reducible refine (cN _).mono ?_); rintro e w4 ⟨rfl, hb4⟩; have Bz : Below W2.heap.size W2 w4 := bel_trans (a := W2) hBd hb4))
          | (go_at_call 62; ((with_reducible refine (cO _).mono ?_); rintro e w5 ⟨rfl, hw5⟩; have BF : Below W2.heap.size W2 w5 := (by rw [← hw5]; exact bel_alloc Bz _); obtain ⟨u0, u1, u2, u3, u4⟩ := (CBox.b HS.out BF).five; obtain ⟨v0, v1, v2, v3, v4⟩ := (CBox.b HT.out BF).five)))
      all_goals go_wp2_with (first
        | (go_at_call 66; ((with_reducible refine (cT _ BF).mono ?_); rintro e w6 ⟨rfl, hb6⟩; have B6 := bel_trans BF hb6; obtain ⟨m0, m1, m2, m3, m4⟩ := (CBox.b HS.out B6).five; obtain ⟨n0, n1, n2, n3, n4⟩ := (CBox.b HT.out B6).five))
        | (go_at_call 68; ((with_reducible refine (cL _ B6).mono ?_); rintro e w7 ⟨rfl, hb7⟩)))
      all_goals go_ret
      all_goals exact ⟨rfl, bel_trans hB2 (bel_trans B6 hb7)⟩
    · have hV := E2.out hD hQ
      have hq : (Q != 0) = true := by simpa using hQ
      subst hD
      have HV := Lib.hid hV
      clear E1 E2 E3 hV hQ
      go_enter Tryz.func38, Tryz.ntmps38
      go_wp2_with fail
      go_region_held3 (fun w' => w'.cell? ⟨w.heap.size, 0, none⟩ = some (.int .i64 op) ∧ w'.cell? ⟨w.heap.size, 1, none⟩ = some (.string nm) ∧ w'.cell? ⟨w.heap.size, 2, none⟩ = some (.string so) ∧ w'.cell? ⟨w.heap.size, 3, none⟩ = some (.slice k.a k.n k.c) ∧ w'.cell? ⟨w.heap.size, 4, none⟩ = some (.slice a n c) ∧ w'.cell? ⟨w.heap.size + 1, 0, none⟩ = some (.int .i64 op') ∧ w'.cell? ⟨w.heap.size + 1, 1, none⟩ = some (.string nm') ∧ w'.cell? ⟨w.heap.size + 1, 2, none⟩ = some (.string so') ∧ w'.cell? ⟨w.heap.size + 1, 3, none⟩ = some (.slice k'.a k'.n k'.c) ∧ w'.cell? ⟨w.heap.size + 1, 4, none⟩ = some (.slice a' n' c'))
        (first | (exact ⟨(Bz.cell lS).trans s0, (Bz.cell lS).trans s1, (Bz.cell lS).trans s2, (Bz.cell lS).trans s3, (Bz.cell lS).trans s4, (Bz.cell lT).trans t0, (Bz.cell lT).trans t1, (Bz.cell lT).trans t2, (Bz.cell lT).trans t3, (Bz.cell lT).trans t4⟩) | go_keep)
        (first
          | (go_at_call 63; ((with_reducible refine (cI _).mono ?_); rintro e w4 ⟨rfl, rfl⟩))
          | (go_at_call 65; ((with_reducible refine (cS _).mono ?_); rintro e w4 ⟨rfl, rfl⟩))
          | (go_at_call 64; ((with_reducible refine (cN _).mono ?_); rintro e w4 ⟨rfl, hb4⟩; have Bz : Below W2.heap.size W2 w4 := bel_trans (a := W2) hBd hb4))
          | (go_at_call 62; ((with_reducible refine (cO _).mono ?_); rintro e w5 ⟨rfl, hw5⟩; have BF : Below W2.heap.size W2 w5 := (by rw [← hw5]; exact bel_alloc Bz _); obtain ⟨u0, u1, u2, u3, u4⟩ := (CBox.b HS.out BF).five; obtain ⟨v0, v1, v2, v3, v4⟩ := (CBox.b HT.out BF).five)))
      all_goals go_wp2_with (first
        | (go_at_call 66; ((with_reducible refine (cT _ BF).mono ?_); rintro e w6 ⟨rfl, hb6⟩; have B6 := bel_trans BF hb6)))
      all_goals go_ret
      all_goals exact ⟨one HV.out, bel_trans hB2 B6⟩
  · have hV := E1.out hD
    have hq : (D != 0) = true := by simpa using hD
    have HV := Lib.hid hV
    clear E1 E2 E3 hV hD
    go_enter Tryz.func38, Tryz.ntmps38
    go_wp2_with fail
    go_region_held3 (fun w' => w'.cell? ⟨w.heap.size, 0, none⟩ = some (.int .i64 op) ∧ w'.cell? ⟨w.heap.size, 1, none⟩ = some (.string nm) ∧ w'.cell? ⟨w.heap.size, 2, none⟩ = some (.string so) ∧ w'.cell? ⟨w.heap.size, 3, none⟩ = some (.slice k.a k.n k.c) ∧ w'.cell? ⟨w.heap.size, 4, none⟩ = some (.slice a n c) ∧ w'.cell? ⟨w.heap.size + 1, 0, none⟩ = some (.int .i64 op') ∧ w'.cell? ⟨w.heap.size + 1, 1, none⟩ = some (.string nm') ∧ w'.cell? ⟨w.heap.size + 1, 2, none⟩ = some (.string so') ∧ w'.cell? ⟨w.heap.size + 1, 3, none⟩ = some (.slice k'.a k'.n k'.c) ∧ w'.cell? ⟨w.heap.size + 1, 4, none⟩ = some (.slice a' n' c'))
      (first | (exact ⟨(Bz.cell lS).trans s0, (Bz.cell lS).trans s1, (Bz.cell lS).trans s2, (Bz.cell lS).trans s3, (Bz.cell lS).trans s4, (Bz.cell lT).trans t0, (Bz.cell lT).trans t1, (Bz.cell lT).trans t2, (Bz.cell lT).trans t3, (Bz.cell lT).trans t4⟩) | go_keep)
      (first
        | (go_at_call 63; ((with_reducible refine (cI _).mono ?_); rintro e w4 ⟨rfl, rfl⟩))
        | (go_at_call 65; ((with_reducible refine (cS _).mono ?_); rintro e w4 ⟨rfl, rfl⟩))
        | (go_at_call 64; ((with_reducible refine (cN _).mono ?_); rintro e w4 ⟨rfl, hb4⟩; have Bz : Below W2.heap.size W2 w4 := bel_trans (a := W2) hBd hb4))
        | (go_at_call 62; ((with_reducible refine (cO _).mono ?_); rintro e w5 ⟨rfl, hw5⟩; have BF : Below W2.heap.size W2 w5 := (by rw [← hw5]; exact bel_alloc Bz _); obtain ⟨u0, u1, u2, u3, u4⟩ := (CBox.b HS.out BF).five; obtain ⟨v0, v1, v2, v3, v4⟩ := (CBox.b HT.out BF).five)))
    all_goals go_wp2
    all_goals go_ret
    all_goals exact ⟨one HV.out, bel_trans hB2 BF⟩
theorem CompareC_any (t : Cl) : CmpOkC t := Cl.ind CompareC_step t
end Go.Proofs.YtjjoebijkcmgiaaGreat.C
