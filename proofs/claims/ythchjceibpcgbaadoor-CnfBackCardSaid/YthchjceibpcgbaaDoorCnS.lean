/-
  What is proved: what the document's own Read returns.
-/
import Derived.Test.YthchjceibpcgbaaDoorCnR
namespace Go.Proofs.YthchjceibpcgbaaDoor.Cn
open Go.RowKit L Lt
set_option linter.unusedVariables false
set_option linter.unusedSimpArgs false

/-- what Read returns -/
def RP (R : Rd) (w : World) (e : Ending) (w' : World) : Prop := ∃ A m k, e = .returned (.tuple #[.agg #[.int .i64 R.n, .slice A m k], .int .i64 R.line, .int .i64 R.e]) ∧ SlG w' A m k R.L ∧ Below w.heap.size w w'
theorem hdV_ne {t : List UInt8} {e : Int} (h : hdR t = .error e) : e ≠ 0 := by
  unfold hdR at h
  simp only at h
  intro he
  subst he
  repeat' split at h
  all_goals first | (cases h; done) | (injection h with h; omega)
theorem clR_ne {t : List UInt8} {n e : Int} (h : clR' t n = .error e) : e ≠ 0 := by
  unfold clR' at h
  intro he
  subst he
  split at h
  · injection h with h; omega
  · split at h
    · split at h
      · injection h with h; omega
      · split at h
        · cases h
        · next h0 => injection h with h; exact h0 h
    · injection h with h; omega
theorem u8no {b c : UInt8} (h : b ≠ c) : ((b.toNat : Int) == (c.toNat : Int)) = false := L.beq_no' (fun e => h (UInt8.toNat_inj.1 (by omega)))
set_option maxRecDepth 100000 in
set_option maxHeartbeats 8000000 in
theorem RRead_any (s : ByteArray) (w : World) (hs : s.size ≤ 100000) :
    Calls Tryd.prog 13 #[.string s] w (RP (rdC s.data.toList) w) := by
  obtain ⟨W2, hW2, hM0⟩ := RM.start w
  obtain ⟨R, hR⟩ : ∃ R, rdC s.data.toList = R := ⟨_, rfl⟩
  rw [hR]
  have HR := Lib.hid hR
  have HM0 := Lib.hid hM0
  have HZ := Lib.hid (RAt.zero s.data.toList)
  have CH := Lib.hid (fun (x : ByteArray) (hx : x.size ≤ 100000) (W : World) => RHead_any x W hx)
  have CC := Lib.hid (fun (x : ByteArray) (n : Int) (hx : x.size ≤ 100000) (W : World) => RClause_any x n W hx)
  clear hR hM0
  go_enter Tryd.func13, Tryd.ntmps13
  go_wp2
  go_loopw [6, 7, 8, 9, 10] (fun mn sn ln fr i wr0 => ∃ (wr : World) (k q line : Nat) (seen : Bool) (n many : Int) (G : List (List Int)) (A : Option Addr) (r c : Nat), wr = wr0 ∧ k ≤ s.size ∧ q ≤ k ∧ line ≤ k ∧ mn = .int .i64 many ∧ sn = .bool seen ∧ ln = .int .i64 line ∧ fr = .int .i64 q ∧ i = .int .i64 k ∧ Hid (RAt s.data.toList ⟨seen, n, many, G⟩ line q k) ∧ Hid (RM w wr n A r c G)) (fun mn sn ln fr i _ => s.size - (intOf i).toNat)
  case atStart => exact ⟨_, 0, 0, 0, false, 0, 0, [], none, 0, 0, rfl, by omega, by omega, by omega, rfl, rfl, rfl, rfl, rfl, HZ, HM0⟩
  case round =>
    obtain ⟨wr, k, q, line, seen, n, many, G, A, r, c, rfl, hk, hq, hln, rfl, rfl, rfl, rfl, rfl, hA, hM⟩ := hrel
    obtain ⟨g0, g1⟩ := hM.out.1.two
    obtain ⟨f0, f1⟩ := hM.out.1.free
    obtain ⟨c0, c1⟩ := hM.out.2.1.two
    obtain ⟨d0, d1⟩ := hM.out.2.1.free
    have hI := hA.out.2.1
    have hr : r ≤ 4096 := by have h1 := hM.out.2.2.2.1; have h2 := hI.2.2.1; have h3 := hI.2.1.2; simp only at h2 h3; omega
    have hmn : 0 ≤ many ∧ many ≤ 4096 := hI.2.1
    obtain ⟨hmn0, hmn1⟩ := hmn
    by_cases hlt : k < s.size
    · have hk0 : 0 ≤ (k : Int) := by omega
      have hk1 : (k : Int) < (s.size : Int) := by omega
      have hq0 : 0 ≤ (q : Int) := by omega
      have hq1 : (q : Int) ≤ (k : Int) := by omega
      by_cases hb : s[k] = 10
      · have q1 : ((s[k].toNat : Int) != 10) = false := by rw [hb]; rfl
        have hF := Lib.hid (fun st' h => hA.out.feed hlt hb (st' := st') h)
        have hE := Lib.hid (fun e h => HR.out.symm.trans (hA.out.fail hlt hb (e := e) h))
        have hxs : (s.extract q k).size ≤ 100000 := by rw [ByteArray.size_extract]; omega
        clear hb hI
        generalize hx : s.extract q k = x at *
        by_cases hc : x.data.toList.head? = some 99
        · have h0 : 0 < x.size := by
            rcases Nat.eq_zero_or_pos x.size with h0 | h0
            · have : x.data.toList = [] := List.length_eq_zero_iff.1 (by rw [Dig.len_list]; exact h0)
              rw [this] at hc; cases hc
            · exact h0
          have hx9 : x[0] = 99 := by rw [Dig.head_at x h0] at hc; injection hc
          have q2 : decide ((x.size : Int) > 0) = true := decide_eq_true (by omega)
          have q3 : ((x[0].toNat : Int) == 99) = true := by rw [hx9]; rfl
          have hst : stL ⟨seen, n, many, G⟩ x.data.toList = .ok ⟨seen, n, many, G⟩ := by unfold stL; rw [if_pos hc]
          have hA1 := Lib.hid (hF.out _ hst)
          have h0I : (0 : Int) < (x.size : Int) := by omega
          clear hst hc hx9
          go_wp2
          go_roundw
          case rel => exact ⟨_, k + 1, k + 1, line + 1, seen, n, many, G, A, r, c, rfl, by omega, by omega, by omega, rfl, rfl, by go_num, by go_num, by go_num, hA1, hM⟩
          case measure => simp [intOf]; omega
        · by_cases h0 : 0 < x.size
          · have hx9 : x[0] ≠ 99 := fun e => hc (by rw [Dig.head_at x h0, e])
            have q2 : decide ((x.size : Int) > 0) = true := decide_eq_true (by omega)
            have q3 : ((x[0].toNat : Int) == 99) = false := u8no (c := 99) hx9
            have h0I : (0 : Int) < (x.size : Int) := by omega
            clear hx9
            cases seen
            · have ch := CH.out x hxs wr
              obtain ⟨hh, hhe⟩ : ∃ hh, hdR x.data.toList = hh := ⟨_, rfl⟩
              rw [hhe] at ch
              cases hh with
              | error e0 =>
                have hst : stL ⟨false, n, many, G⟩ x.data.toList = .error e0 := by unfold stL; rw [if_neg hc, if_pos rfl, hhe]
                have hne := hdV_ne hhe
                have q4 : (e0 != 0) = true := by simp [hne]
                have hq2 : Hid (R = ⟨0, [], line, e0⟩) := Lib.hid (hE.out e0 hst)
                simp only [hdV] at ch
                clear hst hhe hne hc
                go_wp2_with (go_at_call 23; ((with_reducible refine ch.mono ?_); rintro e w3 ⟨rfl, b3⟩; have hM3 := Lib.hid (hM.out.b b3); obtain ⟨v0, v1⟩ := hM3.out.1.two; obtain ⟨v2, v3⟩ := hM3.out.1.free; obtain ⟨v4, v5⟩ := hM3.out.2.1.two; obtain ⟨v6, v7⟩ := hM3.out.2.1.free; clear ch; have HF := Lib.hid (hM3.out.fin 0 none 0 0); obtain ⟨x0, x1⟩ := HF.out.1.two))
                simp [bodyPost, results, Tryd.results13, go_sem, x0, x1]
                exact ⟨none, 0, 0, by rw [hq2.out], by rw [hq2.out]; exact SlG.nil _, HF.out.2.1⟩
              | ok nm =>
                obtain ⟨n2, m2⟩ := nm
                have hst : stL ⟨false, n, many, G⟩ x.data.toList = .ok ⟨true, n2, m2, G⟩ := by unfold stL; rw [if_neg hc, if_pos rfl, hhe]
                have q4 : ((0 : Int) != 0) = false := rfl
                have hA1 := Lib.hid (hF.out _ hst)
                simp only [hdV] at ch
                clear hst hhe hc
                go_wp2_with (go_at_call 23; ((with_reducible refine ch.mono ?_); rintro e w3 ⟨rfl, b3⟩; have hM3 := Lib.hid (hM.out.b b3); obtain ⟨v0, v1⟩ := hM3.out.1.two; obtain ⟨v2, v3⟩ := hM3.out.1.free; obtain ⟨v4, v5⟩ := hM3.out.2.1.two; obtain ⟨v6, v7⟩ := hM3.out.2.1.free; clear ch))
                go_roundw
                case rel => exact ⟨_, k + 1, k + 1, line + 1, true, n2, m2, G, A, r, c, rfl, by omega, by omega, by omega, rfl, rfl, by go_num, by go_num, by go_num, hA1, Lib.hid (hM3.out.setN n2)⟩
                case measure => simp [intOf]; omega
            · have hrG := hM.out.2.2.2.1
              have cc := CC.out x n hxs wr
              unfold CP at cc
              obtain ⟨hh, hhe⟩ : ∃ hh, clR' x.data.toList n = hh := ⟨_, rfl⟩
              rw [hhe] at cc
              by_cases hm : (r : Int) = many
              · have q5 : ((r : Int) == many) = true := by simp [hm]
                have hst : stL ⟨true, n, many, G⟩ x.data.toList = .error 7 := by
                  unfold stL; rw [if_neg hc]; simp only [Bool.true_eq_false, if_false]; rw [if_pos (by omega)]
                have hq2 : Hid (R = ⟨0, [], line, 7⟩) := Lib.hid (hE.out 7 hst)
                clear hst hhe hc hm
                generalize erE hh = e9 at *
                go_wp2_with (go_at_call 24; ((with_reducible refine cc.mono ?_); rintro e w3 ⟨B, m, cX, X, rfl, hS, hXr, hX, hBl, b3⟩; have hM3 := Lib.hid (hM.out.b b3); obtain ⟨v0, v1⟩ := hM3.out.1.two; obtain ⟨v2, v3⟩ := hM3.out.1.free; obtain ⟨v4, v5⟩ := hM3.out.2.1.two; obtain ⟨v6, v7⟩ := hM3.out.2.1.free; clear cc; have HF := Lib.hid (hM3.out.fin 0 none 0 0); obtain ⟨x0, x1⟩ := HF.out.1.two))
                simp [bodyPost, results, Tryd.results13, go_sem, x0, x1]
                exact ⟨none, 0, 0, by rw [hq2.out], by rw [hq2.out]; exact SlG.nil _, HF.out.2.1⟩
              · have q5 : ((r : Int) == many) = false := by simp [hm]
                cases hh with
                | error e0 =>
                  have hst : stL ⟨true, n, many, G⟩ x.data.toList = .error e0 := by
                    unfold stL; rw [if_neg hc]; simp only [Bool.true_eq_false, if_false]; rw [if_neg (by omega), hhe]
                  have hne := clR_ne hhe
                  have q4 : (e0 != 0) = true := by simp [hne]
                  have hq2 : Hid (R = ⟨0, [], line, e0⟩) := Lib.hid (hE.out e0 hst)
                  simp only [erE] at cc
                  clear hst hhe hne hc hm
                  go_wp2_with (go_at_call 24; ((with_reducible refine cc.mono ?_); rintro e w3 ⟨B, m, cX, X, rfl, hS, hXr, hX, hBl, b3⟩; have hM3 := Lib.hid (hM.out.b b3); obtain ⟨v0, v1⟩ := hM3.out.1.two; obtain ⟨v2, v3⟩ := hM3.out.1.free; obtain ⟨v4, v5⟩ := hM3.out.2.1.two; obtain ⟨v6, v7⟩ := hM3.out.2.1.free; clear cc; have HF := Lib.hid (hM3.out.fin 0 none 0 0); obtain ⟨x0, x1⟩ := HF.out.1.two))
                  simp [bodyPost, results, Tryd.results13, go_sem, x0, x1]
                  exact ⟨none, 0, 0, by rw [hq2.out], by rw [hq2.out]; exact SlG.nil _, HF.out.2.1⟩
                | ok l0 =>
                  have hst : stL ⟨true, n, many, G⟩ x.data.toList = .ok ⟨true, n, many, G ++ [l0]⟩ := by
                    unfold stL; rw [if_neg hc]; simp only [Bool.true_eq_false, if_false]; rw [if_neg (by omega), hhe]
                  have q4 : ((0 : Int) != 0) = false := rfl
                  have hA1 := Lib.hid (hF.out _ hst)
                  simp only [erE] at cc
                  clear hst hhe hc hm hrG
                  go_wp2_with (first | (go_at_call 24; ((with_reducible refine cc.mono ?_); rintro e w3 ⟨B, m, cX, X, rfl, hS, hXr, hX, hBl, b3⟩; have hM3 := Lib.hid (hM.out.b b3); obtain ⟨v0, v1⟩ := hM3.out.1.two; obtain ⟨v2, v3⟩ := hM3.out.1.free; obtain ⟨v4, v5⟩ := hM3.out.2.1.two; obtain ⟨v6, v7⟩ := hM3.out.2.1.free; clear cc; have hXl := Lib.hid (hX l0 rfl); clear hX)) | (at_builtin; ((refine app_grid rfl (.tmp 79) (.tmp 81) rfl (w.heap.size + 2) (.slice A r c) G rfl (hM3.out.b (bel_alloc (Below.refl _ _) _)).2.2.1 ⟨w3.heap.size, 0, none⟩ 1 (.slice B m cX) X rfl (by rw [World.cell?_alloc_at _ _ _ _ rfl]; rfl) (hM.out.row (bel_alloc b3 _) (hS.below (bel_alloc (Below.refl _ _) _)) hBl) (Nat.le_refl 1) (by have := hM.out.2.2.2.1; omega) (Nat.le_trans hM3.out.2.2.2.2.1 (bel_alloc (Below.refl _ _) _).size) ?_); intro v8 w6 ho6 hg6; obtain ⟨A2, k2, rfl, hM6, hfz, hcz⟩ := RM.app (hM3.out.b (bel_alloc (Below.refl _ _) _)) ho6 hg6)))
                  go_roundw
                  case rel => exact ⟨_, k + 1, k + 1, line + 1, true, n, many, G ++ [l0], A2, r + 1, k2, rfl, by omega, by omega, by omega, rfl, rfl, by go_num, by go_num, by go_num, hA1, Lib.hid (by rw [← hXl.out]; exact hM6)⟩
                  case measure => simp [intOf]; omega
          · have h0z : x.size = 0 := by omega
            have q2 : decide ((x.size : Int) > 0) = false := decide_eq_false (by omega)
            have h0I : ¬ (0 : Int) < (x.size : Int) := by omega
            cases seen
            · have ch := CH.out x hxs wr
              obtain ⟨hh, hhe⟩ : ∃ hh, hdR x.data.toList = hh := ⟨_, rfl⟩
              rw [hhe] at ch
              cases hh with
              | error e0 =>
                have hst : stL ⟨false, n, many, G⟩ x.data.toList = .error e0 := by unfold stL; rw [if_neg hc, if_pos rfl, hhe]
                have hne := hdV_ne hhe
                have q4 : (e0 != 0) = true := by simp [hne]
                have hq2 : Hid (R = ⟨0, [], line, e0⟩) := Lib.hid (hE.out e0 hst)
                simp only [hdV] at ch
                clear hst hhe hne hc
                go_wp2_with (go_at_call 23; ((with_reducible refine ch.mono ?_); rintro e w3 ⟨rfl, b3⟩; have hM3 := Lib.hid (hM.out.b b3); obtain ⟨v0, v1⟩ := hM3.out.1.two; obtain ⟨v2, v3⟩ := hM3.out.1.free; obtain ⟨v4, v5⟩ := hM3.out.2.1.two; obtain ⟨v6, v7⟩ := hM3.out.2.1.free; clear ch; have HF := Lib.hid (hM3.out.fin 0 none 0 0); obtain ⟨x0, x1⟩ := HF.out.1.two))
                simp [bodyPost, results, Tryd.results13, go_sem, x0, x1]
                exact ⟨none, 0, 0, by rw [hq2.out], by rw [hq2.out]; exact SlG.nil _, HF.out.2.1⟩
              | ok nm =>
                obtain ⟨n2, m2⟩ := nm
                have hst : stL ⟨false, n, many, G⟩ x.data.toList = .ok ⟨true, n2, m2, G⟩ := by unfold stL; rw [if_neg hc, if_pos rfl, hhe]
                have q4 : ((0 : Int) != 0) = false := rfl
                have hA1 := Lib.hid (hF.out _ hst)
                simp only [hdV] at ch
                clear hst hhe hc
                go_wp2_with (go_at_call 23; ((with_reducible refine ch.mono ?_); rintro e w3 ⟨rfl, b3⟩; have hM3 := Lib.hid (hM.out.b b3); obtain ⟨v0, v1⟩ := hM3.out.1.two; obtain ⟨v2, v3⟩ := hM3.out.1.free; obtain ⟨v4, v5⟩ := hM3.out.2.1.two; obtain ⟨v6, v7⟩ := hM3.out.2.1.free; clear ch))
                go_roundw
                case rel => exact ⟨_, k + 1, k + 1, line + 1, true, n2, m2, G, A, r, c, rfl, by omega, by omega, by omega, rfl, rfl, by go_num, by go_num, by go_num, hA1, Lib.hid (hM3.out.setN n2)⟩
                case measure => simp [intOf]; omega
            · have hrG := hM.out.2.2.2.1
              have cc := CC.out x n hxs wr
              unfold CP at cc
              obtain ⟨hh, hhe⟩ : ∃ hh, clR' x.data.toList n = hh := ⟨_, rfl⟩
              rw [hhe] at cc
              by_cases hm : (r : Int) = many
              · have q5 : ((r : Int) == many) = true := by simp [hm]
                have hst : stL ⟨true, n, many, G⟩ x.data.toList = .error 7 := by
                  unfold stL; rw [if_neg hc]; simp only [Bool.true_eq_false, if_false]; rw [if_pos (by omega)]
                have hq2 : Hid (R = ⟨0, [], line, 7⟩) := Lib.hid (hE.out 7 hst)
                clear hst hhe hc hm
                generalize erE hh = e9 at *
                go_wp2_with (go_at_call 24; ((with_reducible refine cc.mono ?_); rintro e w3 ⟨B, m, cX, X, rfl, hS, hXr, hX, hBl, b3⟩; have hM3 := Lib.hid (hM.out.b b3); obtain ⟨v0, v1⟩ := hM3.out.1.two; obtain ⟨v2, v3⟩ := hM3.out.1.free; obtain ⟨v4, v5⟩ := hM3.out.2.1.two; obtain ⟨v6, v7⟩ := hM3.out.2.1.free; clear cc; have HF := Lib.hid (hM3.out.fin 0 none 0 0); obtain ⟨x0, x1⟩ := HF.out.1.two))
                simp [bodyPost, results, Tryd.results13, go_sem, x0, x1]
                exact ⟨none, 0, 0, by rw [hq2.out], by rw [hq2.out]; exact SlG.nil _, HF.out.2.1⟩
              · have q5 : ((r : Int) == many) = false := by simp [hm]
                cases hh with
                | error e0 =>
                  have hst : stL ⟨true, n, many, G⟩ x.data.toList = .error e0 := by
                    unfold stL; rw [if_neg hc]; simp only [Bool.true_eq_false, if_false]; rw [if_neg (by omega), hhe]
                  have hne := clR_ne hhe
                  have q4 : (e0 != 0) = true := by simp [hne]
                  have hq2 : Hid (R = ⟨0, [], line, e0⟩) := Lib.hid (hE.out e0 hst)
                  simp only [erE] at cc
                  clear hst hhe hne hc hm
                  go_wp2_with (go_at_call 24; ((with_reducible refine cc.mono ?_); rintro e w3 ⟨B, m, cX, X, rfl, hS, hXr, hX, hBl, b3⟩; have hM3 := Lib.hid (hM.out.b b3); obtain ⟨v0, v1⟩ := hM3.out.1.two; obtain ⟨v2, v3⟩ := hM3.out.1.free; obtain ⟨v4, v5⟩ := hM3.out.2.1.two; obtain ⟨v6, v7⟩ := hM3.out.2.1.free; clear cc; have HF := Lib.hid (hM3.out.fin 0 none 0 0); obtain ⟨x0, x1⟩ := HF.out.1.two))
                  simp [bodyPost, results, Tryd.results13, go_sem, x0, x1]
                  exact ⟨none, 0, 0, by rw [hq2.out], by rw [hq2.out]; exact SlG.nil _, HF.out.2.1⟩
                | ok l0 =>
                  have hst : stL ⟨true, n, many, G⟩ x.data.toList = .ok ⟨true, n, many, G ++ [l0]⟩ := by
                    unfold stL; rw [if_neg hc]; simp only [Bool.true_eq_false, if_false]; rw [if_neg (by omega), hhe]
                  have q4 : ((0 : Int) != 0) = false := rfl
                  have hA1 := Lib.hid (hF.out _ hst)
                  simp only [erE] at cc
                  clear hst hhe hc hm hrG
                  go_wp2_with (first | (go_at_call 24; ((with_reducible refine cc.mono ?_); rintro e w3 ⟨B, m, cX, X, rfl, hS, hXr, hX, hBl, b3⟩; have hM3 := Lib.hid (hM.out.b b3); obtain ⟨v0, v1⟩ := hM3.out.1.two; obtain ⟨v2, v3⟩ := hM3.out.1.free; obtain ⟨v4, v5⟩ := hM3.out.2.1.two; obtain ⟨v6, v7⟩ := hM3.out.2.1.free; clear cc; have hXl := Lib.hid (hX l0 rfl); clear hX)) | (at_builtin; ((refine app_grid rfl (.tmp 79) (.tmp 81) rfl (w.heap.size + 2) (.slice A r c) G rfl (hM3.out.b (bel_alloc (Below.refl _ _) _)).2.2.1 ⟨w3.heap.size, 0, none⟩ 1 (.slice B m cX) X rfl (by rw [World.cell?_alloc_at _ _ _ _ rfl]; rfl) (hM.out.row (bel_alloc b3 _) (hS.below (bel_alloc (Below.refl _ _) _)) hBl) (Nat.le_refl 1) (by have := hM.out.2.2.2.1; omega) (Nat.le_trans hM3.out.2.2.2.2.1 (bel_alloc (Below.refl _ _) _).size) ?_); intro v8 w6 ho6 hg6; obtain ⟨A2, k2, rfl, hM6, hfz, hcz⟩ := RM.app (hM3.out.b (bel_alloc (Below.refl _ _) _)) ho6 hg6)))
                  go_roundw
                  case rel => exact ⟨_, k + 1, k + 1, line + 1, true, n, many, G ++ [l0], A2, r + 1, k2, rfl, by omega, by omega, by omega, rfl, rfl, by go_num, by go_num, by go_num, hA1, Lib.hid (by rw [← hXl.out]; exact hM6)⟩
                  case measure => simp [intOf]; omega
      · have q1 : ((s[k].toNat : Int) != 10) = true := by
          have h1 : (s[k].toNat : Int) ≠ 10 := fun e => hb (UInt8.toNat_inj.1 (by have : s[k].toNat = 10 := by omega
                                                                                  rw [this]; rfl))
          simpa using h1
        have hA1 := Lib.hid (hA.out.more hlt hb)
        clear hb hI
        go_wp2
        go_roundw
        case rel => exact ⟨_, k + 1, q, line, seen, n, many, G, A, r, c, rfl, by omega, by omega, by omega, rfl, rfl, rfl, rfl, by go_num, hA1, hM⟩
        case measure => simp [intOf]; omega
    · obtain rfl : k = s.size := by omega
      have hD : Hid (R = if q < s.size then ⟨0, [], line, 7⟩ else if seen = false ∨ (G.length : Int) < many then ⟨0, [], line, 8⟩ else ⟨n, G, 0, 0⟩) := Lib.hid (HR.out.symm.trans hA.out.done)
      clear hI
      by_cases h1 : q < s.size
      · have q1 : decide ((q : Int) < (s.size : Int)) = true := decide_eq_true (by omega)
        have hq2 : Hid (R = ⟨0, [], line, 7⟩) := Lib.hid (by rw [hD.out, if_pos h1])
        have HF := Lib.hid (hM.out.fin 0 none 0 0)
        obtain ⟨x0, x1⟩ := HF.out.1.two
        clear hD
        have h1I : (q : Int) < (s.size : Int) := by omega
        go_wp2
        simp [bodyPost, results, Tryd.results13, go_sem, x0, x1]
        exact ⟨none, 0, 0, by rw [hq2.out], by rw [hq2.out]; exact SlG.nil _, HF.out.2.1⟩
      · have q1 : decide ((q : Int) < (s.size : Int)) = false := decide_eq_false (by omega)
        have h1I : ¬ (q : Int) < (s.size : Int) := by omega
        rw [if_neg h1] at hD
        have hrG := hM.out.2.2.2.1
        cases seen
        · have hq2 : Hid (R = ⟨0, [], line, 8⟩) := Lib.hid (by rw [hD.out, if_pos (Or.inl rfl)])
          have HF := Lib.hid (hM.out.fin 0 none 0 0)
          obtain ⟨x0, x1⟩ := HF.out.1.two
          clear hD hrG
          go_wp2
          simp [bodyPost, results, Tryd.results13, go_sem, x0, x1]
          exact ⟨none, 0, 0, by rw [hq2.out], by rw [hq2.out]; exact SlG.nil _, HF.out.2.1⟩
        · by_cases hm : (r : Int) < many
          · have q2 : decide ((r : Int) < many) = true := decide_eq_true hm
            have hq2 : Hid (R = ⟨0, [], line, 8⟩) := Lib.hid (by rw [hD.out, if_pos (Or.inr (by omega))])
            have HF := Lib.hid (hM.out.fin 0 none 0 0)
            obtain ⟨x0, x1⟩ := HF.out.1.two
            clear hD hrG
            go_wp2
            simp [bodyPost, results, Tryd.results13, go_sem, x0, x1]
            exact ⟨none, 0, 0, by rw [hq2.out], by rw [hq2.out]; exact SlG.nil _, HF.out.2.1⟩
          · have q2 : decide ((r : Int) < many) = false := decide_eq_false hm
            have hq2 : Hid (R = ⟨n, G, 0, 0⟩) := Lib.hid (by rw [hD.out, if_neg (fun h => h.elim (fun h => by cases h) (fun h => by omega))])
            have HF := Lib.hid (hM.out.fin n A r c)
            obtain ⟨x0, x1⟩ := HF.out.1.two
            have HS : Hid (SlG ((wr.setCell ⟨w.heap.size, 0, none⟩ (.int .i64 n)).setCell ⟨w.heap.size, 1, none⟩ (.slice A r c)) A r c G) := Lib.hid (by
              obtain ⟨A', c', e, _, hS⟩ := HF.out.2.2.slG
              injection e with e1 e2 e3
              rw [← e1, ← e2, ← e3] at hS
              exact hS)
            clear hD hrG
            go_wp2
            simp [bodyPost, results, Tryd.results13, go_sem, x0, x1]
            exact ⟨A, r, c, by rw [hq2.out], by rw [hq2.out]; exact HS.out, HF.out.2.1⟩
end Go.Proofs.YthchjceibpcgbaaDoor.Cn
