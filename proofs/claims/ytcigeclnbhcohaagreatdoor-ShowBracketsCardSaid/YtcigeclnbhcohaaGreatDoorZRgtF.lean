/-
  What is proved: the document's first error of a claim's parts, and whether a claim is right.
  whether a claim is right, as the document has it (package of layer 8).
-/
import Derived.Test.YtcigeclnbhcohaaGreatDoorR1
import Derived.Test.YtcigeclnbhcohaaGreatDoorZRgtFt
namespace Go.Proofs.YtcigeclnbhcohaaGreatDoor.C
open Go.RowKit L T
set_option linter.unusedVariables false
set_option linter.unusedSimpArgs false

set_option maxHeartbeats 4000000 in
theorem wants_any (op : Int) (w : World) :
    Calls Tryz.prog 86 #[.int .i64 op] w fun e w' => e = .returned (.tuple #[.int .i64 (wantT op : Nat), .int .i64 (wantS op : Nat)]) ∧ w = w' := by
  have hop : op = 4 ∨ op = 5 ∨ op = 6 ∨ op = 11 ∨ op = 12 ∨ op = 7 ∨ op = 8 ∨ op = 9 ∨ op = 10 ∨ (op ≠ 4 ∧ op ≠ 5 ∧ op ≠ 6 ∧ op ≠ 11 ∧ op ≠ 12 ∧ op ≠ 7 ∧ op ≠ 8 ∧ op ≠ 9 ∧ op ≠ 10) := by omega
  rcases hop with rfl | rfl | rfl | rfl | rfl | rfl | rfl | rfl | rfl | ⟨n4, n5, n6, n11, n12, n7, n8, n9, n10⟩
  all_goals try
    (go_enter Tryz.func86, Tryz.ntmps86
     go_wp2
     go_ret2
     exact ⟨rfl, rfl⟩)
  have e1 : wantT op = 0 := by unfold wantT; rw [if_neg (by omega)]
  have e2 : wantS op = 0 := by unfold wantS; rw [if_neg (by omega), if_neg (by omega)]
  rw [e1, e2]
  have q4 := beq_no' n4
  have q5 := beq_no' n5
  have q6 := beq_no' n6
  have q11 := beq_no' n11
  have q12 := beq_no' n12
  have q7 := beq_no' n7
  have q8 := beq_no' n8
  have q9 := beq_no' n9
  have q10 := beq_no' n10
  clear n4 n5 n6 n11 n12 n7 n8 n9 n10 e1 e2
  go_enter Tryz.func86, Tryz.ntmps86
  go_wp2
  go_ret2
  exact ⟨rfl, rfl⟩
end Go.Proofs.YtcigeclnbhcohaaGreatDoor.C
namespace Go.Proofs.YtcigeclnbhcohaaGreatDoor.C
open Go.RowKit L T
set_option linter.unusedVariables false
set_option linter.unusedSimpArgs false

theorem rights_step {x : Tm} {l : List Tm} {k : Nat} (h : l[k]? = some x) : rightsE (l.drop k) = if rightE x ≠ 0 then rightE x else rightsE (l.drop (k + 1)) := by rw [drop_t h, rightsE]
theorem cparts_step {x : Cl} {l : List Cl} {k : Nat} (h : l[k]? = some x) : cpartsE (l.drop k) = if cpartE x ≠ 0 then cpartE x else cpartsE (l.drop (k + 1)) := by rw [drop_c h, cpartsE]
def CPart8Ok (t : Cl) : Prop := ∀ (k : SS) (a : Option Addr) (n c : Nat) (w : World), ArWC w t k a n c →
  Calls Tryz.prog 51 #[.agg #[.int .i64 (opC t), .string (nmC t), .string (soC t), .slice k.a k.n k.c, .slice a n c]] w fun e w' => e = .returned (.int .i64 (cpartE t)) ∧ Below w.heap.size w w'
set_option maxRecDepth 100000 in
set_option maxHeartbeats 32000000 in
theorem cpart8_step (t : Cl) (hok : ∀ x ∈ subC t, CPart8Ok x) : CPart8Ok t := by
  intro kk a n c w hA
  obtain ⟨ka, kn, kc⟩ := kk
  obtain ⟨W2, hW2, hB2, hs2, S2⟩ := cbox1 w (opC t) (nmC t) (soC t) ⟨ka, kn, kc⟩ a n c
  have hT := TsW.b (ArWC.terms hA) hB2
  have hC := CsW.b (ArWC.subs hA) hB2
  dsimp only at hT hW2
  have hR : cpartE t = if formC (opC t) (nmC t) (soC t) = true then 7 else if arityC (opC t) kn n = true then 12 else if rightsE (tsC t) ≠ 0 then rightsE (tsC t) else cpartsE (subC t) := by rw [cpartE_mk, ← hT.1, ← hC.1]
  generalize cpartE t = R at *
  have hk2 : ∀ k x, (subC t)[k]? = some x → CPart8Ok x := fun k x h => hok x (List.mem_of_getElem? h)
  have hst : ∀ k x, (tsC t)[k]? = some x → rightsE ((tsC t).drop k) = if rightE x ≠ 0 then rightE x else rightsE ((tsC t).drop (k + 1)) := fun k x h => rights_step h
  have he : ∀ k, kn ≤ k → rightsE ((tsC t).drop k) = 0 := fun k h => by rw [List.drop_eq_nil_of_le (by rw [← hT.1]; exact h), rightsE]
  have hst' : ∀ k x, (subC t)[k]? = some x → cpartsE ((subC t).drop k) = if cpartE x ≠ 0 then cpartE x else cpartsE ((subC t).drop (k + 1)) := fun k x h => cparts_step h
  have he' : ∀ k, n ≤ k → cpartsE ((subC t).drop k) = 0 := fun k h => by rw [List.drop_eq_nil_of_le (by rw [← hC.1]; exact h), cpartsE]
  have hn : n ≤ 9223372036854775807 := by have h1 := hC.2.1; have h2 := hC.2.2.1; unfold maxLen at h2; omega
  have hkn : kn ≤ 9223372036854775807 := by have h1 := hT.2.1; have h2 := hT.2.2.1; unfold maxLen at h2; omega
  rw [show rightsE (tsC t) = rightsE ((tsC t).drop 0) from rfl, show cpartsE (subC t) = cpartsE ((subC t).drop 0) from rfl] at hR
  generalize tsC t = lt at *
  generalize subC t = lc at *
  obtain ⟨F, hF⟩ : ∃ F : Nat → Int, ∀ k, rightsE (lt.drop k) = F k := ⟨_, fun _ => rfl⟩
  obtain ⟨G, hG⟩ : ∃ G : Nat → Int, ∀ k, cpartsE (lc.drop k) = G k := ⟨_, fun _ => rfl⟩
  simp only [hF] at hst he hR
  simp only [hG] at hst' he' hR
  obtain ⟨s0, s1, s2, s3, s4⟩ := S2.five
  have cW := fun (w' : World) => wants_any (opC t) w'
  have H1 := Lib.hid hT
  have H2 := Lib.hid hC
  have Hst := Lib.hid hst
  have He := Lib.hid he
  have Hst' := Lib.hid hst'
  have He' := Lib.hid he'
  have HK := Lib.hid hk2
  have HS := Lib.hid S2
  clear hA hT hC hst he hst' he' hk2 hok hF hG S2
  generalize opC t = op at *
  generalize nmC t = nm at *
  generalize soC t = so at *
  by_cases hform : formC op nm so = true
  · have hR7 : Hid ((7 : Int) = R) := Lib.hid (by rw [hR, if_pos hform])
    clear hR H1 H2 Hst He Hst' He' HK HS cW
    by_cases hl : op < 1
    · have q0 : decide (op < 1) = true := decide_eq_true hl
      have q1 : (op == 11) = false := beq_no' (by omega)
      have q2 : (op == 12) = false := beq_no' (by omega)
      clear hform hl
      go_enter Tryz.func51, Tryz.ntmps51
      go_wp2
      go_ret
      exact ⟨one hR7.out, hB2⟩
    · have q0 : decide (op < 1) = false := decide_eq_false hl
      by_cases hg : 12 < op
      · have q3 : decide (op > 12) = true := decide_eq_true hg
        have q1 : (op == 11) = false := beq_no' (by omega)
        have q2 : (op == 12) = false := beq_no' (by omega)
        clear hform hl hg
        go_enter Tryz.func51, Tryz.ntmps51
        go_wp2
        go_ret
        exact ⟨one hR7.out, hB2⟩
      · have q3 : decide (op > 12) = false := decide_eq_false hg
        have h11 : op ≠ 11 := fun e => by subst e; simp [formC] at hform
        have h12 : op ≠ 12 := fun e => by subst e; simp [formC] at hform
        have q1 := beq_no' h11
        have q2 := beq_no' h12
        by_cases h3 : op = 3
        · subst h3
          have hE : so.toList.isEmpty = false := by
            cases hE : so.toList.isEmpty with
            | false => rfl
            | true => exfalso; first | (simp [formC, hE] at hform; done) | (simp [formC, hE] at hform; simp_all)
          clear hform hl hg h11 h12
          go_enter Tryz.func51, Tryz.ntmps51
          go_wp2
          go_ret
          exact ⟨one hR7.out, hB2⟩
        · have q4 : (op != 3) = true := bne_iff_ne.2 h3
          cases hE : nm.toList.isEmpty with
          | false =>
            clear hform hl hg h11 h12 h3
            go_enter Tryz.func51, Tryz.ntmps51
            go_wp2
            go_ret
            exact ⟨one hR7.out, hB2⟩
          | true =>
            have hE2 : so.toList.isEmpty = false := by
              cases hE2 : so.toList.isEmpty with
              | false => rfl
              | true => exfalso; simp only [formC, hE, hE2] at hform; first | (simp at hform; done) | (simp at hform; omega)
            clear hform hl hg h11 h12 h3
            go_enter Tryz.func51, Tryz.ntmps51
            go_wp2
            go_ret
            exact ⟨one hR7.out, hB2⟩
  · rw [if_neg hform] at hR
    have hf : formC op nm so = false := by simpa using hform
    clear hform
    simp only [formC, Bool.or_eq_false_iff, decide_eq_false_iff_not, Bool.and_eq_false_iff, bne_eq_false_iff_eq, Bool.not_eq_false'] at hf
    obtain ⟨⟨hl, hg⟩, h4, h5⟩ := hf
    have q0 : decide (op < 1) = false := decide_eq_false hl
    have q3 : decide (op > 12) = false := decide_eq_false hg
    by_cases h3 : op = 3
    · subst h3
      have hE : so.toList.isEmpty = true := by rcases h5 with (h | h) | h <;> first | exact h | (exfalso; omega)
      rw [show wantT 3 = 0 from rfl, show wantS 3 = 0 from rfl] at cW
      rw [show ((0 : Nat) : Int) = 0 from rfl] at cW
      clear h4 h5 hl hg q0 q3
      by_cases h8 : kn ≤ 8
      · have w1 : decide ((kn : Int) > 8) = false := decide_eq_false (by omega)
        have wt0 : ((kn : Int) != (kn : Int)) = false := by simp
        by_cases h0 : n = 0
        · have w2 : ((n : Int) != 0) = false := by subst h0; rfl
          have har : arityC 3 kn n = false := by simp [arityC, h0]; omega
          rw [har, if_neg (by simp)] at hR
          clear har h0
          have HYes : Hid (F 0 = 0 → R = G 0) := Lib.hid (fun h => by rw [hR, if_neg (by omega)])
          have HNo : Hid (F 0 ≠ 0 → R = F 0) := Lib.hid (fun h => by rw [hR, if_pos h])
          clear hR
          go_enter Tryz.func51, Tryz.ntmps51
          go_wp2_with (go_at_call 86; ((with_reducible refine (cW _).mono ?_); rintro e w1 ⟨rfl, rfl⟩))
          go_loopw [6] (fun i wr0 => ∃ (wr : World) (k : Nat), wr = wr0 ∧ k ≤ kn ∧ i = .int .i64 k ∧ Below W2.heap.size W2 wr ∧ Hid (F k = F 0)) (fun i _ => kn - (intOf i).toNat)
          case atStart => exact ⟨_, 0, rfl, by omega, rfl, Below.refl _ _, Lib.hid rfl⟩
          case round =>
            obtain ⟨wr, k, rfl, hk, rfl, hB, hRk⟩ := hrel
            obtain ⟨_, _, _, s3r, s4r⟩ := (CBox.b HS.out hB).five
            by_cases hlt : k < kn
            · obtain ⟨bb, o, x, A, M, Cc, rfl, hb, y0, y1, y2, y3, hx, hok⟩ := (TsW.b H1.out hB).at hlt
              have hs1 := Lib.hid (Hst.out k x hx)
              have cs := TermRight8_any x A M Cc wr hok
              clear hx hok H1 Hst HK HS
              generalize rightE x = px at *
              generalize opT x = op' at *
              generalize nameT x = nm' at *
              generalize numT x = nu' at *
              have hk0 : 0 ≤ (k : Int) := by omega
              have hk1 : (k : Int) < (kn : Int) := by omega
              by_cases hp : px = 0
              · have p1 : (px != 0) = false := by rw [hp]; rfl
                have hnew : Hid (F (k + 1) = F 0) := Lib.hid (by rw [← hRk.out, hs1.out, if_neg (by omega)])
                clear hRk hs1 hp
                go_wp2_with (go_at_call 10; ((with_reducible refine cs.mono ?_); rintro e w4 ⟨rfl, hb4⟩))
                go_roundw
                case rel => exact ⟨_, k + 1, rfl, by omega, by go_num, bel_trans hB hb4, hnew⟩
                case measure => simp [intOf]; omega
              · have p1 : (px != 0) = true := bne_iff_ne.2 hp
                have hnew : Hid (px = R) := Lib.hid (by have e : px = F 0 := (by rw [← hRk.out, hs1.out, if_pos hp]); rw [HNo.out (by rw [← e]; exact hp)]; exact e)
                clear hRk hs1 hp
                go_wp2_with (go_at_call 10; ((with_reducible refine cs.mono ?_); rintro e w4 ⟨rfl, hb4⟩))
                go_ret
                exact ⟨one hnew.out, bel_trans hB2 (bel_trans hB hb4)⟩
            · have HG0 : Hid (G 0 = R) := Lib.hid ((HYes.out (by rw [← hRk.out, He.out k (by omega)])).symm)
              clear hRk
              go_wp2
              go_loopw [8] (fun i wr0 => ∃ (wr' : World) (k : Nat), wr' = wr0 ∧ k ≤ n ∧ i = .int .i64 k ∧ Below W2.heap.size W2 wr' ∧ Hid (G k = R)) (fun i _ => n - (intOf i).toNat)
              case atStart => exact ⟨_, 0, rfl, by omega, rfl, hB, HG0⟩
              case round =>
                clear hB s3r s4r
                obtain ⟨wr', k', rfl, hk', rfl, hB, hRk⟩ := hrel
                obtain ⟨_, _, _, s3r, s4r⟩ := (CBox.b HS.out hB).five
                by_cases hlt' : k' < n
                · obtain ⟨bb, o, x, xk, A, M, Cc, rfl, hb, y0, y1, y2, y3, y4, hx, hok⟩ := (CsW.b H2.out hB).at hlt'
                  have hs1 := Lib.hid (Hst'.out k' x hx)
                  have cs := HK.out k' x hx xk A M Cc wr' hok
                  clear hx hok H2 Hst' HK HS
                  generalize cpartE x = px at *
                  generalize opC x = op' at *
                  generalize nmC x = nm' at *
                  generalize soC x = so' at *
                  have hk0 : 0 ≤ (k' : Int) := by omega
                  have hk1 : (k' : Int) < (n : Int) := by omega
                  by_cases hp : px = 0
                  · have p1 : (px != 0) = false := by rw [hp]; rfl
                    have hnew : Hid (G (k' + 1) = R) := Lib.hid (by rw [← hRk.out, hs1.out, if_neg (by omega)])
                    clear hRk hs1 hp
                    go_wp2_with (go_at_call 51; ((with_reducible refine cs.mono ?_); rintro e w4 ⟨rfl, hb4⟩))
                    go_roundw
                    case rel => exact ⟨_, k' + 1, rfl, by omega, by go_num, bel_trans hB hb4, hnew⟩
                    case measure => simp [intOf]; omega
                  · have p1 : (px != 0) = true := bne_iff_ne.2 hp
                    have hnew : Hid (px = R) := Lib.hid (by rw [← hRk.out, hs1.out, if_pos hp])
                    clear hRk hs1 hp
                    go_wp2_with (go_at_call 51; ((with_reducible refine cs.mono ?_); rintro e w4 ⟨rfl, hb4⟩))
                    go_ret
                    exact ⟨one hnew.out, bel_trans hB2 (bel_trans hB hb4)⟩
                · have hnew : Hid ((0 : Int) = R) := Lib.hid (by rw [← hRk.out, He'.out k' (by omega)])
                  clear hRk
                  go_wp2
                  go_ret
                  exact ⟨one hnew.out, bel_trans hB2 hB⟩
        · have w2 : ((n : Int) != 0) = true := bne_iff_ne.2 (by omega)
          have har : arityC 3 kn n = true := by simp [arityC, h0]
          rw [har, if_pos rfl] at hR
          have hR12 : Hid ((12 : Int) = R) := Lib.hid hR.symm
          clear har h0 hR H1 H2 Hst He Hst' He' HK HS
          go_enter Tryz.func51, Tryz.ntmps51
          go_wp2_with (go_at_call 86; ((with_reducible refine (cW _).mono ?_); rintro e w1 ⟨rfl, rfl⟩))
          go_ret
          exact ⟨one hR12.out, hB2⟩
      · have w1 : decide ((kn : Int) > 8) = true := decide_eq_true (by omega)
        have har : arityC 3 kn n = true := by simp [arityC]; omega
        rw [har, if_pos rfl] at hR
        have hR12 : Hid ((12 : Int) = R) := Lib.hid hR.symm
        clear har h8 hR H1 H2 Hst He Hst' He' HK HS
        go_enter Tryz.func51, Tryz.ntmps51
        go_wp2_with (go_at_call 86; ((with_reducible refine (cW _).mono ?_); rintro e w1 ⟨rfl, rfl⟩))
        go_ret
        exact ⟨one hR12.out, hB2⟩
    · have hAr : arityC op kn n = (kn != wantT op || n != wantS op) := by unfold arityC; rw [if_neg h3]
      have q5 := beq_no' h3
      have q4 : (op != 3) = true := bne_iff_ne.2 h3
      generalize wantT op = tW at *
      generalize wantS op = sW at *
      by_cases h11 : op = 11
      · subst h11
        clear h4 h5 hl hg q0 q3 h3
        by_cases h8 : kn = tW
        · have w1 : ((kn : Int) != (tW : Int)) = false := by subst h8; simp
          by_cases h0 : n = sW
          · have w2 : ((n : Int) != (sW : Int)) = false := by subst h0; simp
            have har : arityC 11 kn n = false := by rw [hAr]; simp [h8, h0]
            rw [har, if_neg (by simp)] at hR
            clear har h0 h8 hAr
            have HYes : Hid (F 0 = 0 → R = G 0) := Lib.hid (fun h => by rw [hR, if_neg (by omega)])
            have HNo : Hid (F 0 ≠ 0 → R = F 0) := Lib.hid (fun h => by rw [hR, if_pos h])
            clear hR
            go_enter Tryz.func51, Tryz.ntmps51
            go_wp2_with (go_at_call 86; ((with_reducible refine (cW _).mono ?_); rintro e w1 ⟨rfl, rfl⟩))
            go_loopw [6] (fun i wr0 => ∃ (wr : World) (k : Nat), wr = wr0 ∧ k ≤ kn ∧ i = .int .i64 k ∧ Below W2.heap.size W2 wr ∧ Hid (F k = F 0)) (fun i _ => kn - (intOf i).toNat)
            case atStart => exact ⟨_, 0, rfl, by omega, rfl, Below.refl _ _, Lib.hid rfl⟩
            case round =>
              obtain ⟨wr, k, rfl, hk, rfl, hB, hRk⟩ := hrel
              obtain ⟨_, _, _, s3r, s4r⟩ := (CBox.b HS.out hB).five
              by_cases hlt : k < kn
              · obtain ⟨bb, o, x, A, M, Cc, rfl, hb, y0, y1, y2, y3, hx, hok⟩ := (TsW.b H1.out hB).at hlt
                have hs1 := Lib.hid (Hst.out k x hx)
                have cs := TermRight8_any x A M Cc wr hok
                clear hx hok H1 Hst HK HS
                generalize rightE x = px at *
                generalize opT x = op' at *
                generalize nameT x = nm' at *
                generalize numT x = nu' at *
                have hk0 : 0 ≤ (k : Int) := by omega
                have hk1 : (k : Int) < (kn : Int) := by omega
                by_cases hp : px = 0
                · have p1 : (px != 0) = false := by rw [hp]; rfl
                  have hnew : Hid (F (k + 1) = F 0) := Lib.hid (by rw [← hRk.out, hs1.out, if_neg (by omega)])
                  clear hRk hs1 hp
                  go_wp2_with (go_at_call 10; ((with_reducible refine cs.mono ?_); rintro e w4 ⟨rfl, hb4⟩))
                  go_roundw
                  case rel => exact ⟨_, k + 1, rfl, by omega, by go_num, bel_trans hB hb4, hnew⟩
                  case measure => simp [intOf]; omega
                · have p1 : (px != 0) = true := bne_iff_ne.2 hp
                  have hnew : Hid (px = R) := Lib.hid (by have e : px = F 0 := (by rw [← hRk.out, hs1.out, if_pos hp]); rw [HNo.out (by rw [← e]; exact hp)]; exact e)
                  clear hRk hs1 hp
                  go_wp2_with (go_at_call 10; ((with_reducible refine cs.mono ?_); rintro e w4 ⟨rfl, hb4⟩))
                  go_ret
                  exact ⟨one hnew.out, bel_trans hB2 (bel_trans hB hb4)⟩
              · have HG0 : Hid (G 0 = R) := Lib.hid ((HYes.out (by rw [← hRk.out, He.out k (by omega)])).symm)
                clear hRk
                go_wp2
                go_loopw [8] (fun i wr0 => ∃ (wr' : World) (k : Nat), wr' = wr0 ∧ k ≤ n ∧ i = .int .i64 k ∧ Below W2.heap.size W2 wr' ∧ Hid (G k = R)) (fun i _ => n - (intOf i).toNat)
                case atStart => exact ⟨_, 0, rfl, by omega, rfl, hB, HG0⟩
                case round =>
                  clear hB s3r s4r
                  obtain ⟨wr', k', rfl, hk', rfl, hB, hRk⟩ := hrel
                  obtain ⟨_, _, _, s3r, s4r⟩ := (CBox.b HS.out hB).five
                  by_cases hlt' : k' < n
                  · obtain ⟨bb, o, x, xk, A, M, Cc, rfl, hb, y0, y1, y2, y3, y4, hx, hok⟩ := (CsW.b H2.out hB).at hlt'
                    have hs1 := Lib.hid (Hst'.out k' x hx)
                    have cs := HK.out k' x hx xk A M Cc wr' hok
                    clear hx hok H2 Hst' HK HS
                    generalize cpartE x = px at *
                    generalize opC x = op' at *
                    generalize nmC x = nm' at *
                    generalize soC x = so' at *
                    have hk0 : 0 ≤ (k' : Int) := by omega
                    have hk1 : (k' : Int) < (n : Int) := by omega
                    by_cases hp : px = 0
                    · have p1 : (px != 0) = false := by rw [hp]; rfl
                      have hnew : Hid (G (k' + 1) = R) := Lib.hid (by rw [← hRk.out, hs1.out, if_neg (by omega)])
                      clear hRk hs1 hp
                      go_wp2_with (go_at_call 51; ((with_reducible refine cs.mono ?_); rintro e w4 ⟨rfl, hb4⟩))
                      go_roundw
                      case rel => exact ⟨_, k' + 1, rfl, by omega, by go_num, bel_trans hB hb4, hnew⟩
                      case measure => simp [intOf]; omega
                    · have p1 : (px != 0) = true := bne_iff_ne.2 hp
                      have hnew : Hid (px = R) := Lib.hid (by rw [← hRk.out, hs1.out, if_pos hp])
                      clear hRk hs1 hp
                      go_wp2_with (go_at_call 51; ((with_reducible refine cs.mono ?_); rintro e w4 ⟨rfl, hb4⟩))
                      go_ret
                      exact ⟨one hnew.out, bel_trans hB2 (bel_trans hB hb4)⟩
                  · have hnew : Hid ((0 : Int) = R) := Lib.hid (by rw [← hRk.out, He'.out k' (by omega)])
                    clear hRk
                    go_wp2
                    go_ret
                    exact ⟨one hnew.out, bel_trans hB2 hB⟩
          · have w2 : ((n : Int) != (sW : Int)) = true := bne_iff_ne.2 (by omega)
            have har : arityC 11 kn n = true := by rw [hAr]; simp [h0]
            rw [har, if_pos rfl] at hR
            have hR12 : Hid ((12 : Int) = R) := Lib.hid hR.symm
            clear har h0 h8 hAr hR H1 H2 Hst He Hst' He' HK HS
            go_enter Tryz.func51, Tryz.ntmps51
            go_wp2_with (go_at_call 86; ((with_reducible refine (cW _).mono ?_); rintro e w1 ⟨rfl, rfl⟩))
            go_ret
            exact ⟨one hR12.out, hB2⟩
        · have w1 : ((kn : Int) != (tW : Int)) = true := bne_iff_ne.2 (by omega)
          have har : arityC 11 kn n = true := by rw [hAr]; simp [h8]
          rw [har, if_pos rfl] at hR
          have hR12 : Hid ((12 : Int) = R) := Lib.hid hR.symm
          clear har h8 hAr hR H1 H2 Hst He Hst' He' HK HS
          go_enter Tryz.func51, Tryz.ntmps51
          go_wp2_with (go_at_call 86; ((with_reducible refine (cW _).mono ?_); rintro e w1 ⟨rfl, rfl⟩))
          go_ret
          exact ⟨one hR12.out, hB2⟩
      · by_cases h12 : op = 12
        · subst h12
          clear h4 h5 hl hg q0 q3 h3 h11
          by_cases h8 : kn = tW
          · have w1 : ((kn : Int) != (tW : Int)) = false := by subst h8; simp
            by_cases h0 : n = sW
            · have w2 : ((n : Int) != (sW : Int)) = false := by subst h0; simp
              have har : arityC 12 kn n = false := by rw [hAr]; simp [h8, h0]
              rw [har, if_neg (by simp)] at hR
              clear har h0 h8 hAr
              have HYes : Hid (F 0 = 0 → R = G 0) := Lib.hid (fun h => by rw [hR, if_neg (by omega)])
              have HNo : Hid (F 0 ≠ 0 → R = F 0) := Lib.hid (fun h => by rw [hR, if_pos h])
              clear hR
              go_enter Tryz.func51, Tryz.ntmps51
              go_wp2_with (go_at_call 86; ((with_reducible refine (cW _).mono ?_); rintro e w1 ⟨rfl, rfl⟩))
              go_loopw [6] (fun i wr0 => ∃ (wr : World) (k : Nat), wr = wr0 ∧ k ≤ kn ∧ i = .int .i64 k ∧ Below W2.heap.size W2 wr ∧ Hid (F k = F 0)) (fun i _ => kn - (intOf i).toNat)
              case atStart => exact ⟨_, 0, rfl, by omega, rfl, Below.refl _ _, Lib.hid rfl⟩
              case round =>
                obtain ⟨wr, k, rfl, hk, rfl, hB, hRk⟩ := hrel
                obtain ⟨_, _, _, s3r, s4r⟩ := (CBox.b HS.out hB).five
                by_cases hlt : k < kn
                · obtain ⟨bb, o, x, A, M, Cc, rfl, hb, y0, y1, y2, y3, hx, hok⟩ := (TsW.b H1.out hB).at hlt
                  have hs1 := Lib.hid (Hst.out k x hx)
                  have cs := TermRight8_any x A M Cc wr hok
                  clear hx hok H1 Hst HK HS
                  generalize rightE x = px at *
                  generalize opT x = op' at *
                  generalize nameT x = nm' at *
                  generalize numT x = nu' at *
                  have hk0 : 0 ≤ (k : Int) := by omega
                  have hk1 : (k : Int) < (kn : Int) := by omega
                  by_cases hp : px = 0
                  · have p1 : (px != 0) = false := by rw [hp]; rfl
                    have hnew : Hid (F (k + 1) = F 0) := Lib.hid (by rw [← hRk.out, hs1.out, if_neg (by omega)])
                    clear hRk hs1 hp
                    go_wp2_with (go_at_call 10; ((with_reducible refine cs.mono ?_); rintro e w4 ⟨rfl, hb4⟩))
                    go_roundw
                    case rel => exact ⟨_, k + 1, rfl, by omega, by go_num, bel_trans hB hb4, hnew⟩
                    case measure => simp [intOf]; omega
                  · have p1 : (px != 0) = true := bne_iff_ne.2 hp
                    have hnew : Hid (px = R) := Lib.hid (by have e : px = F 0 := (by rw [← hRk.out, hs1.out, if_pos hp]); rw [HNo.out (by rw [← e]; exact hp)]; exact e)
                    clear hRk hs1 hp
                    go_wp2_with (go_at_call 10; ((with_reducible refine cs.mono ?_); rintro e w4 ⟨rfl, hb4⟩))
                    go_ret
                    exact ⟨one hnew.out, bel_trans hB2 (bel_trans hB hb4)⟩
                · have HG0 : Hid (G 0 = R) := Lib.hid ((HYes.out (by rw [← hRk.out, He.out k (by omega)])).symm)
                  clear hRk
                  go_wp2
                  go_loopw [8] (fun i wr0 => ∃ (wr' : World) (k : Nat), wr' = wr0 ∧ k ≤ n ∧ i = .int .i64 k ∧ Below W2.heap.size W2 wr' ∧ Hid (G k = R)) (fun i _ => n - (intOf i).toNat)
                  case atStart => exact ⟨_, 0, rfl, by omega, rfl, hB, HG0⟩
                  case round =>
                    clear hB s3r s4r
                    obtain ⟨wr', k', rfl, hk', rfl, hB, hRk⟩ := hrel
                    obtain ⟨_, _, _, s3r, s4r⟩ := (CBox.b HS.out hB).five
                    by_cases hlt' : k' < n
                    · obtain ⟨bb, o, x, xk, A, M, Cc, rfl, hb, y0, y1, y2, y3, y4, hx, hok⟩ := (CsW.b H2.out hB).at hlt'
                      have hs1 := Lib.hid (Hst'.out k' x hx)
                      have cs := HK.out k' x hx xk A M Cc wr' hok
                      clear hx hok H2 Hst' HK HS
                      generalize cpartE x = px at *
                      generalize opC x = op' at *
                      generalize nmC x = nm' at *
                      generalize soC x = so' at *
                      have hk0 : 0 ≤ (k' : Int) := by omega
                      have hk1 : (k' : Int) < (n : Int) := by omega
                      by_cases hp : px = 0
                      · have p1 : (px != 0) = false := by rw [hp]; rfl
                        have hnew : Hid (G (k' + 1) = R) := Lib.hid (by rw [← hRk.out, hs1.out, if_neg (by omega)])
                        clear hRk hs1 hp
                        go_wp2_with (go_at_call 51; ((with_reducible refine cs.mono ?_); rintro e w4 ⟨rfl, hb4⟩))
                        go_roundw
                        case rel => exact ⟨_, k' + 1, rfl, by omega, by go_num, bel_trans hB hb4, hnew⟩
                        case measure => simp [intOf]; omega
                      · have p1 : (px != 0) = true := bne_iff_ne.2 hp
                        have hnew : Hid (px = R) := Lib.hid (by rw [← hRk.out, hs1.out, if_pos hp])
                        clear hRk hs1 hp
                        go_wp2_with (go_at_call 51; ((with_reducible refine cs.mono ?_); rintro e w4 ⟨rfl, hb4⟩))
                        go_ret
                        exact ⟨one hnew.out, bel_trans hB2 (bel_trans hB hb4)⟩
                    · have hnew : Hid ((0 : Int) = R) := Lib.hid (by rw [← hRk.out, He'.out k' (by omega)])
                      clear hRk
                      go_wp2
                      go_ret
                      exact ⟨one hnew.out, bel_trans hB2 hB⟩
            · have w2 : ((n : Int) != (sW : Int)) = true := bne_iff_ne.2 (by omega)
              have har : arityC 12 kn n = true := by rw [hAr]; simp [h0]
              rw [har, if_pos rfl] at hR
              have hR12 : Hid ((12 : Int) = R) := Lib.hid hR.symm
              clear har h0 h8 hAr hR H1 H2 Hst He Hst' He' HK HS
              go_enter Tryz.func51, Tryz.ntmps51
              go_wp2_with (go_at_call 86; ((with_reducible refine (cW _).mono ?_); rintro e w1 ⟨rfl, rfl⟩))
              go_ret
              exact ⟨one hR12.out, hB2⟩
          · have w1 : ((kn : Int) != (tW : Int)) = true := bne_iff_ne.2 (by omega)
            have har : arityC 12 kn n = true := by rw [hAr]; simp [h8]
            rw [har, if_pos rfl] at hR
            have hR12 : Hid ((12 : Int) = R) := Lib.hid hR.symm
            clear har h8 hAr hR H1 H2 Hst He Hst' He' HK HS
            go_enter Tryz.func51, Tryz.ntmps51
            go_wp2_with (go_at_call 86; ((with_reducible refine (cW _).mono ?_); rintro e w1 ⟨rfl, rfl⟩))
            go_ret
            exact ⟨one hR12.out, hB2⟩
        · have hE : nm.toList.isEmpty = true := by rcases h4 with (h | h | h) | h <;> first | exact h | (exfalso; omega)
          have hE2 : so.toList.isEmpty = true := by rcases h5 with (h | h) | h <;> first | exact h | (exfalso; omega)
          have q1 := beq_no' h11
          have q2 := beq_no' h12
          clear h4 h5 hl hg h3 h11 h12
          by_cases h8 : kn = tW
          · have w1 : ((kn : Int) != (tW : Int)) = false := by subst h8; simp
            by_cases h0 : n = sW
            · have w2 : ((n : Int) != (sW : Int)) = false := by subst h0; simp
              have har : arityC op kn n = false := by rw [hAr]; simp [h8, h0]
              rw [har, if_neg (by simp)] at hR
              clear har h0 h8 hAr
              have HYes : Hid (F 0 = 0 → R = G 0) := Lib.hid (fun h => by rw [hR, if_neg (by omega)])
              have HNo : Hid (F 0 ≠ 0 → R = F 0) := Lib.hid (fun h => by rw [hR, if_pos h])
              clear hR
              go_enter Tryz.func51, Tryz.ntmps51
              go_wp2_with (go_at_call 86; ((with_reducible refine (cW _).mono ?_); rintro e w1 ⟨rfl, rfl⟩))
              go_loopw [6] (fun i wr0 => ∃ (wr : World) (k : Nat), wr = wr0 ∧ k ≤ kn ∧ i = .int .i64 k ∧ Below W2.heap.size W2 wr ∧ Hid (F k = F 0)) (fun i _ => kn - (intOf i).toNat)
              case atStart => exact ⟨_, 0, rfl, by omega, rfl, Below.refl _ _, Lib.hid rfl⟩
              case round =>
                obtain ⟨wr, k, rfl, hk, rfl, hB, hRk⟩ := hrel
                obtain ⟨_, _, _, s3r, s4r⟩ := (CBox.b HS.out hB).five
                by_cases hlt : k < kn
                · obtain ⟨bb, o, x, A, M, Cc, rfl, hb, y0, y1, y2, y3, hx, hok⟩ := (TsW.b H1.out hB).at hlt
                  have hs1 := Lib.hid (Hst.out k x hx)
                  have cs := TermRight8_any x A M Cc wr hok
                  clear hx hok H1 Hst HK HS
                  generalize rightE x = px at *
                  generalize opT x = op' at *
                  generalize nameT x = nm' at *
                  generalize numT x = nu' at *
                  have hk0 : 0 ≤ (k : Int) := by omega
                  have hk1 : (k : Int) < (kn : Int) := by omega
                  by_cases hp : px = 0
                  · have p1 : (px != 0) = false := by rw [hp]; rfl
                    have hnew : Hid (F (k + 1) = F 0) := Lib.hid (by rw [← hRk.out, hs1.out, if_neg (by omega)])
                    clear hRk hs1 hp
                    go_wp2_with (go_at_call 10; ((with_reducible refine cs.mono ?_); rintro e w4 ⟨rfl, hb4⟩))
                    go_roundw
                    case rel => exact ⟨_, k + 1, rfl, by omega, by go_num, bel_trans hB hb4, hnew⟩
                    case measure => simp [intOf]; omega
                  · have p1 : (px != 0) = true := bne_iff_ne.2 hp
                    have hnew : Hid (px = R) := Lib.hid (by have e : px = F 0 := (by rw [← hRk.out, hs1.out, if_pos hp]); rw [HNo.out (by rw [← e]; exact hp)]; exact e)
                    clear hRk hs1 hp
                    go_wp2_with (go_at_call 10; ((with_reducible refine cs.mono ?_); rintro e w4 ⟨rfl, hb4⟩))
                    go_ret
                    exact ⟨one hnew.out, bel_trans hB2 (bel_trans hB hb4)⟩
                · have HG0 : Hid (G 0 = R) := Lib.hid ((HYes.out (by rw [← hRk.out, He.out k (by omega)])).symm)
                  clear hRk
                  go_wp2
                  go_loopw [8] (fun i wr0 => ∃ (wr' : World) (k : Nat), wr' = wr0 ∧ k ≤ n ∧ i = .int .i64 k ∧ Below W2.heap.size W2 wr' ∧ Hid (G k = R)) (fun i _ => n - (intOf i).toNat)
                  case atStart => exact ⟨_, 0, rfl, by omega, rfl, hB, HG0⟩
                  case round =>
                    clear hB s3r s4r
                    obtain ⟨wr', k', rfl, hk', rfl, hB, hRk⟩ := hrel
                    obtain ⟨_, _, _, s3r, s4r⟩ := (CBox.b HS.out hB).five
                    by_cases hlt' : k' < n
                    · obtain ⟨bb, o, x, xk, A, M, Cc, rfl, hb, y0, y1, y2, y3, y4, hx, hok⟩ := (CsW.b H2.out hB).at hlt'
                      have hs1 := Lib.hid (Hst'.out k' x hx)
                      have cs := HK.out k' x hx xk A M Cc wr' hok
                      clear hx hok H2 Hst' HK HS
                      generalize cpartE x = px at *
                      generalize opC x = op' at *
                      generalize nmC x = nm' at *
                      generalize soC x = so' at *
                      have hk0 : 0 ≤ (k' : Int) := by omega
                      have hk1 : (k' : Int) < (n : Int) := by omega
                      by_cases hp : px = 0
                      · have p1 : (px != 0) = false := by rw [hp]; rfl
                        have hnew : Hid (G (k' + 1) = R) := Lib.hid (by rw [← hRk.out, hs1.out, if_neg (by omega)])
                        clear hRk hs1 hp
                        go_wp2_with (go_at_call 51; ((with_reducible refine cs.mono ?_); rintro e w4 ⟨rfl, hb4⟩))
                        go_roundw
                        case rel => exact ⟨_, k' + 1, rfl, by omega, by go_num, bel_trans hB hb4, hnew⟩
                        case measure => simp [intOf]; omega
                      · have p1 : (px != 0) = true := bne_iff_ne.2 hp
                        have hnew : Hid (px = R) := Lib.hid (by rw [← hRk.out, hs1.out, if_pos hp])
                        clear hRk hs1 hp
                        go_wp2_with (go_at_call 51; ((with_reducible refine cs.mono ?_); rintro e w4 ⟨rfl, hb4⟩))
                        go_ret
                        exact ⟨one hnew.out, bel_trans hB2 (bel_trans hB hb4)⟩
                    · have hnew : Hid ((0 : Int) = R) := Lib.hid (by rw [← hRk.out, He'.out k' (by omega)])
                      clear hRk
                      go_wp2
                      go_ret
                      exact ⟨one hnew.out, bel_trans hB2 hB⟩
            · have w2 : ((n : Int) != (sW : Int)) = true := bne_iff_ne.2 (by omega)
              have har : arityC op kn n = true := by rw [hAr]; simp [h0]
              rw [har, if_pos rfl] at hR
              have hR12 : Hid ((12 : Int) = R) := Lib.hid hR.symm
              clear har h0 h8 hAr hR H1 H2 Hst He Hst' He' HK HS
              go_enter Tryz.func51, Tryz.ntmps51
              go_wp2_with (go_at_call 86; ((with_reducible refine (cW _).mono ?_); rintro e w1 ⟨rfl, rfl⟩))
              go_ret
              exact ⟨one hR12.out, hB2⟩
          · have w1 : ((kn : Int) != (tW : Int)) = true := bne_iff_ne.2 (by omega)
            have har : arityC op kn n = true := by rw [hAr]; simp [h8]
            rw [har, if_pos rfl] at hR
            have hR12 : Hid ((12 : Int) = R) := Lib.hid hR.symm
            clear har h8 hAr hR H1 H2 Hst He Hst' He' HK HS
            go_enter Tryz.func51, Tryz.ntmps51
            go_wp2_with (go_at_call 86; ((with_reducible refine (cW _).mono ?_); rintro e w1 ⟨rfl, rfl⟩))
            go_ret
            exact ⟨one hR12.out, hB2⟩
theorem cpart8_any (t : Cl) : CPart8Ok t := Cl.ind cpart8_step t
end Go.Proofs.YtcigeclnbhcohaaGreatDoor.C
namespace Go.Proofs.YtcigeclnbhcohaaGreatDoor.C
open Go.RowKit L T
set_option linter.unusedVariables false
set_option linter.unusedSimpArgs false

set_option maxHeartbeats 4000000 in
theorem Depth8_any (t : Cl) (k : SS) (a : Option Addr) (n c : Nat) (w : World) (hA : ArWC w t k a n c) :
    Calls Tryz.prog 49 #[.agg #[.int .i64 (opC t), .string (nmC t), .string (soC t), .slice k.a k.n k.c, .slice a n c]] w fun e w' => e = .returned (.int .i64 ((min (dpC t) 65 : Nat) : Int)) ∧ Below w.heap.size w w' := by
  obtain ⟨W2, hW2, hB2, hs2, S2⟩ := cbox1 w (opC t) (nmC t) (soC t) k a n c
  have cD := deep8_any t k a n c 65 W2 (by omega) (by omega) (ArWC.b hA hB2)
  rw [show ((65 : Nat) : Int) = 65 from rfl] at cD
  obtain ⟨s0, s1, s2, s3, s4⟩ := S2.five
  clear S2 hA
  generalize min (dpC t) 65 = R at *
  generalize opC t = op at *
  generalize nmC t = nm at *
  generalize soC t = so at *
  go_enter Tryz.func49, Tryz.ntmps49
  go_wp2_with (go_at_call 84; ((with_reducible refine cD.mono ?_); rintro e w3 ⟨rfl, hb3⟩))
  go_ret
  exact ⟨rfl, bel_trans hB2 hb3⟩
set_option maxHeartbeats 4000000 in
theorem Size8C_any (t : Cl) (k : SS) (a : Option Addr) (n c : Nat) (w : World) (hA : ArWC w t k a n c) :
    Calls Tryz.prog 50 #[.agg #[.int .i64 (opC t), .string (nmC t), .string (soC t), .slice k.a k.n k.c, .slice a n c]] w fun e w' => e = .returned (.int .i64 (wtTo 4096 t : Nat)) ∧ Below w.heap.size w w' := by
  obtain ⟨W2, hW2, hB2, hs2, S2⟩ := cbox1 w (opC t) (nmC t) (soC t) k a n c
  have cD := weigh_any t k a n c 4096 W2 (by omega) (ArWC.b hA hB2)
  rw [show ((4096 : Nat) : Int) = 4096 from rfl] at cD
  have htop := wtTo_top t 4096
  obtain ⟨s0, s1, s2, s3, s4⟩ := S2.five
  clear S2 hA
  generalize wtTo 4096 t = R at *
  generalize opC t = op at *
  generalize nmC t = nm at *
  generalize soC t = so at *
  have q : decide ((R : Int) > 4097) = false := decide_eq_false (by omega)
  go_enter Tryz.func50, Tryz.ntmps50
  go_wp2_with (go_at_call 85; ((with_reducible refine cD.mono ?_); rintro e w3 ⟨rfl, hb3⟩))
  go_ret
  exact ⟨rfl, bel_trans hB2 hb3⟩
theorem wtTo_iff (c : Cl) (m : Nat) : wtTo m c ≤ m ↔ wt c ≤ m := by
  constructor
  · intro h; have := wtTo_le c m h; omega
  · intro h
    have h2 : ∀ c : Cl, ∀ m, wt c ≤ m → wtTo m c = wt c := fun c => by
      refine Cl.ind (P := fun c => ∀ m, wt c ≤ m → wtTo m c = wt c) (fun c ih m hm => ?_) c
      have key : ∀ (l : List Cl), (∀ x ∈ l, ∀ m, wt x ≤ m → wtTo m x = wt x) → ∀ m q, q + wts l ≤ m → wtTos m q l = q + wts l := by
        intro l
        induction l with
        | nil => intro _ m q _; rw [wtTos, wts]; rfl
        | cons x l ihl =>
          intro hx m q hq
          rw [wts] at hq ⊢
          rw [wtTos, if_pos (by omega), hx x (by simp) (m - q) (by omega), ihl (fun y hy => hx y (by simp [hy])) m _ (by omega)]; omega
      have hw := wt_mk c
      rw [wtTo_mk, szTos_small (tsC c) m 1 (by omega), key (subC c) ih m _ (by omega)]
      omega
    rw [h2 c m h]; exact h
set_option maxHeartbeats 8000000 in
theorem Right8C_any (t : Cl) (k : SS) (a : Option Addr) (n c : Nat) (w : World) (hA : ArWC w t k a n c) :
    Calls Tryz.prog 28 #[.agg #[.int .i64 (opC t), .string (nmC t), .string (soC t), .slice k.a k.n k.c, .slice a n c]] w fun e w' => e = .returned (.int .i64 (crightE t)) ∧ Below w.heap.size w w' := by
  obtain ⟨W2, hW2, hB2, hs2, S2⟩ := cbox1 w (opC t) (nmC t) (soC t) k a n c
  have cT := Depth8_any t k a n c W2 (ArWC.b hA hB2)
  have cS := fun (w' : World) (h : Below W2.heap.size W2 w') => Size8C_any t k a n c w' (ArWC.b (ArWC.b hA hB2) h)
  have cP := fun (w' : World) (h : Below W2.heap.size W2 w') => cpart8_any t k a n c w' (ArWC.b (ArWC.b hA hB2) h)
  have hsz := wtTo_iff t 4096
  have hR : Hid (crightE t = if 64 < dpC t then 6 else if 4096 < wt t then 2 else cpartE t) := Lib.hid rfl
  obtain ⟨s0, s1, s2, s3, s4⟩ := S2.five
  obtain ⟨ka, kn, kc⟩ := k
  dsimp only at *
  have HS := Lib.hid S2
  clear S2 hA
  generalize crightE t = R at *
  generalize cpartE t = P at *
  generalize wtTo 4096 t = sz at *
  generalize wt t = sz0 at *
  generalize hdp : min (dpC t) 65 = dp at *
  generalize dpC t = d0 at *
  generalize opC t = op at *
  generalize nmC t = nm at *
  generalize soC t = nu at *
  by_cases h1 : 64 < d0
  · have q1 : decide ((dp : Int) > 64) = true := decide_eq_true (by omega)
    have hr : Hid ((6 : Int) = R) := Lib.hid (by rw [hR.out, if_pos h1])
    clear hR h1 hsz hdp
    go_enter Tryz.func28, Tryz.ntmps28
    go_wp2_with (go_at_call 49; ((with_reducible refine cT.mono ?_); rintro e w3 ⟨rfl, hb3⟩; obtain ⟨u0, u1, u2, u3, u4⟩ := (CBox.b HS.out hb3).five))
    go_ret
    exact ⟨one hr.out, bel_trans hB2 hb3⟩
  · have q1 : decide ((dp : Int) > 64) = false := decide_eq_false (by omega)
    by_cases h2 : 4096 < sz0
    · have q2 : decide ((sz : Int) > 4096) = true := decide_eq_true (by omega)
      have hr : Hid ((2 : Int) = R) := Lib.hid (by rw [hR.out, if_neg h1, if_pos h2])
      clear hR h1 h2 hsz hdp
      go_enter Tryz.func28, Tryz.ntmps28
      go_wp2_with (first
        | (go_at_call 49; ((with_reducible refine cT.mono ?_); rintro e w3 ⟨rfl, hb3⟩; obtain ⟨u0, u1, u2, u3, u4⟩ := (CBox.b HS.out hb3).five))
        | (go_at_call 50; ((with_reducible refine (cS _ hb3).mono ?_); rintro e w4 ⟨rfl, hb4⟩; have B4 := bel_trans hb3 hb4)))
      go_ret
      exact ⟨one hr.out, bel_trans hB2 B4⟩
    · have q2 : decide ((sz : Int) > 4096) = false := decide_eq_false (by omega)
      have hr : Hid (P = R) := Lib.hid (by rw [hR.out, if_neg h1, if_neg h2])
      clear hR h1 h2 hsz hdp
      go_enter Tryz.func28, Tryz.ntmps28
      go_wp2_with (first
        | (go_at_call 49; ((with_reducible refine cT.mono ?_); rintro e w3 ⟨rfl, hb3⟩; obtain ⟨u0, u1, u2, u3, u4⟩ := (CBox.b HS.out hb3).five))
        | (go_at_call 50; ((with_reducible refine (cS _ hb3).mono ?_); rintro e w4 ⟨rfl, hb4⟩; have B4 := bel_trans hb3 hb4; obtain ⟨u0, u1, u2, u3, u4⟩ := (CBox.b HS.out B4).five))
        | (go_at_call 51; ((with_reducible refine (cP _ B4).mono ?_); rintro e w5 ⟨rfl, hb5⟩; have B5 := bel_trans B4 hb5)))
      go_ret
      exact ⟨one hr.out, bel_trans hB2 B5⟩
end Go.Proofs.YtcigeclnbhcohaaGreatDoor.C
