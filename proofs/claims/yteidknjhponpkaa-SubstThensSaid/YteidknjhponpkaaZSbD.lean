/-
  What is proved: the first error of a substitution, by package subst (terms of few parts) and by the document.
-/
import Derived.Test.YteidknjhponpkaaBS
import Derived.Test.YteidknjhponpkaaRQ
import Derived.Test.YteidknjhponpkaaZRgtS
import Derived.Test.YteidknjhponpkaaBT
import Derived.BigQuiet
namespace Go.Proofs.Yteidknjhponpkaa.U
open Go.RowKit L T C
set_option linter.unusedVariables false
set_option linter.unusedSimpArgs false

/-- is a name not greater than the one ahead of it? -/
def badN (prev : Option ByteArray) (x : ByteArray) : Bool := match prev with | none => false | some q => decide (cmpN x q ≠ 1)
def rgU : Option ByteArray → List Pr → Int
  | _, [] => 0
  | prev, p :: l => if rightE p.t ≠ 0 then rightE p.t else if badN prev p.nm = true then 4 else rgU (some p.nm) l
def prevAt (l : List Pr) (k : Nat) : Option ByteArray := if k = 0 then none else (l[k - 1]?).map Pr.nm
theorem rgU_step {l : List Pr} {k : Nat} {p : Pr} (h : l[k]? = some p) : rgU (prevAt l k) (l.drop k) = if rightE p.t ≠ 0 then rightE p.t else if badN (prevAt l k) p.nm = true then 4 else rgU (prevAt l (k + 1)) (l.drop (k + 1)) := by
  have e : prevAt l (k + 1) = some p.nm := by unfold prevAt; rw [if_neg (by omega), Nat.add_sub_cancel, h]; rfl
  rw [drop_u h, rgU, e]
theorem prevAt_pos {l : List Pr} {k : Nat} {q : Pr} (hk : 0 < k) (h : l[k - 1]? = some q) : prevAt l k = some q.nm := by unfold prevAt; rw [if_neg (by omega), h]; rfl
set_option maxRecDepth 100000 in
set_option maxHeartbeats 8000000 in
theorem RightU_few (l : List Pr) (hsm : ∀ p ∈ l, size p.t ≤ 4096) (b : Option Addr) (m d : Nat) (w : World) (hG : UsW w b m d l) :
    Calls Try.prog 29 #[.slice b m d] w fun e w' => e = .returned (.int .i64 (rgU none l)) ∧ Below w.heap.size w w' := by
  have hst : ∀ k p, l[k]? = some p → rgU (prevAt l k) (l.drop k) = if rightE p.t ≠ 0 then rightE p.t else if badN (prevAt l k) p.nm = true then 4 else rgU (prevAt l (k + 1)) (l.drop (k + 1)) := fun k p h => rgU_step h
  have he : ∀ k, m ≤ k → rgU (prevAt l k) (l.drop k) = 0 := fun k h => by rw [List.drop_eq_nil_of_le (by rw [← hG.1]; exact h), rgU]
  have h0 : rgU none l = rgU (prevAt l 0) (l.drop 0) := rfl
  have hm : m ≤ 9223372036854775807 := hG.lt63
  rw [h0]
  have hp0 : prevAt l 0 = none := rfl
  have hpp : ∀ k q, 0 < k → l[k - 1]? = some q → prevAt l k = some q.nm := fun k q h1 h2 => prevAt_pos h1 h2
  obtain ⟨F, hF⟩ : ∃ F : Nat → Int, ∀ k, rgU (prevAt l k) (l.drop k) = F k := ⟨_, fun _ => rfl⟩
  simp only [hF] at hst he ⊢
  generalize prevAt l = V at *
  clear hF h0
  have H1 := Lib.hid hG
  have Hst := Lib.hid hst
  have He := Lib.hid he
  have Hp0 := Lib.hid hp0
  have Hpp := Lib.hid hpp
  clear hG hst he hp0 hpp
  have Hsm := Lib.hid (show ∀ k p, l[k]? = some p → size p.t ≤ 4096 from fun k p h => hsm p (List.mem_of_getElem? h))
  clear hsm
  go_enter Try.func29, Try.ntmps29
  go_wp2
  go_loopw [8] (fun i wr0 => ∃ (wr : World) (k : Nat), wr = wr0 ∧ k ≤ m ∧ i = .int .i64 k ∧ Below w.heap.size w wr ∧ Hid (F k = F 0)) (fun i _ => m - (intOf i).toNat)
  case atStart => exact ⟨_, 0, rfl, by omega, rfl, Below.refl _ _, Lib.hid rfl⟩
  case round =>
    obtain ⟨wr, k, rfl, hk, rfl, hB, hR⟩ := hrel
    by_cases hlt : k < m
    · obtain ⟨bb, o, p, A, M, Cc, rfl, hb, y0, y1, y2, y3, y4, hx, hok⟩ := (UsW.b H1.out hB).at hlt
      have hs1 := Lib.hid (Hst.out k p hx)
      have hk0 : 0 ≤ (k : Int) := by omega
      have hk1 : (k : Int) < (m : Int) := by omega
      obtain ⟨W3, hW3, hB3, hs3, S3⟩ := ubox1 wr p.nm (opT p.t) (nameT p.t) (numT p.t) A M Cc
      obtain ⟨f0, f1, f2, f3, f4⟩ := S3.five
      have HS := Lib.hid S3
      have cs := tRight_few p.t A M Cc W3 (Hsm.out k p hx) (ArW.b hok hB3)
      have B3 := bel_trans hB hB3
      clear S3
      generalize hrE : rightE p.t = E at *
      by_cases hE : E = 0
      · have p1 : (E != 0) = false := by rw [hE]; rfl
        by_cases hk00 : k = 0
        · have hnew : Hid (F (k + 1) = F 0) := Lib.hid (by rw [← hR.out, hs1.out, if_neg (by omega), if_neg (by rw [hk00, Hp0.out]; simp [badN])])
          have g1 : decide ((k : Int) > 0) = false := decide_eq_false (by omega)
          have g2 : decide (0 < k) = false := decide_eq_false (by omega)
          clear hk00
          clear hrE hx hok hs1 hR hE H1 Hst He Hp0 Hpp
          generalize opT p.t = op at *
          generalize nameT p.t = nm at *
          generalize numT p.t = nu at *
          generalize p.nm = x at *
          go_wp2_with (go_at_call 7; ((with_reducible refine cs.mono ?_); rintro e w4 ⟨rfl, hb4⟩; obtain ⟨u0, u1, u2, u3, u4⟩ := (UBox.b HS.out hb4).five; have B4 := bel_trans B3 hb4))
          go_quiet (fail)
          go_wp2
          go_roundw
          case rel => exact ⟨_, k + 1, rfl, by omega, by go_num, below_drewN B4 _, hnew⟩
          case measure => simp [intOf]; omega
        · obtain ⟨bb', o', q, A', M', Cc', hbe, hb', z0, z1, z2, z3, z4, hx', hok'⟩ := (UsW.b H1.out hB).at (show k - 1 < m by omega)
          injection hbe with hbe
          injection hbe with hbe1 hbe2 _
          subst hbe1 hbe2
          have hpv := Hpp.out k q (by omega) hx'
          rw [hpv] at hs1
          have g1 : decide ((k : Int) > 0) = true := decide_eq_true (by omega)
          have em : ((k - 1 : Nat) : Int) = (k : Int) - 1 := by omega
          have e1 : ((k : Int) - 1).toNat = k - 1 := by omega
          have e2 : 0 ≤ (k : Int) - 1 := by omega
          have e3 : (k : Int) - 1 < (m : Int) := by omega
          have g2 : decide (0 < k) = true := decide_eq_true (by omega)
          have h1 := @less_yes p.nm q.nm
          have h3 := @same_yes p.nm q.nm
          rcases linN.rng p.nm q.nm with hc | hc | hc
          · have hs2 := Lib.hid hs1.out
            rw [hc] at h1 h3
            simp only [Int.reduceNeg, decide_true, Int.reduceEq, decide_false] at h1 h3
            have h4 : (p.nm.toList = q.nm.toList) = False := by simpa using h3
            have hnew : Hid ((4 : Int) = F 0) := Lib.hid (by rw [← hR.out, hs2.out, if_neg (by omega), if_pos (by simp [badN, hc])])
            clear hrE hx hx' hok hok' hs1 hs2 hR hE hc hpv H1 Hst He Hp0 Hpp em
            generalize opT p.t = op at *
            generalize nameT p.t = nm at *
            generalize numT p.t = nu at *
            generalize p.nm = x at *
            generalize q.nm = y at *
            go_wp2_with (go_at_call 7; ((with_reducible refine cs.mono ?_); rintro e w4 ⟨rfl, hb4⟩; obtain ⟨u0, u1, u2, u3, u4⟩ := (UBox.b HS.out hb4).five; have z0' := (hb4.cell (w := W3) (p := ⟨bb, _, none⟩) (Nat.lt_of_lt_of_le hb' hB3.size)).trans ((hB3.cell (p := ⟨bb, _, none⟩) hb').trans z0); have B4 := bel_trans B3 hb4))
            go_quiet (fail)
            go_wp2
            go_ret
            exact ⟨one hnew.out, below_drewN B4 _⟩
          · have hs2 := Lib.hid hs1.out
            rw [hc] at h1 h3
            simp only [Int.reduceNeg, decide_true, Int.reduceEq, decide_false] at h1 h3
            have h4 : (p.nm.toList = q.nm.toList) = True := by simpa using h3
            have hnew : Hid ((4 : Int) = F 0) := Lib.hid (by rw [← hR.out, hs2.out, if_neg (by omega), if_pos (by simp [badN, hc])])
            clear hrE hx hx' hok hok' hs1 hs2 hR hE hc hpv H1 Hst He Hp0 Hpp em
            generalize opT p.t = op at *
            generalize nameT p.t = nm at *
            generalize numT p.t = nu at *
            generalize p.nm = x at *
            generalize q.nm = y at *
            go_wp2_with (go_at_call 7; ((with_reducible refine cs.mono ?_); rintro e w4 ⟨rfl, hb4⟩; obtain ⟨u0, u1, u2, u3, u4⟩ := (UBox.b HS.out hb4).five; have z0' := (hb4.cell (w := W3) (p := ⟨bb, _, none⟩) (Nat.lt_of_lt_of_le hb' hB3.size)).trans ((hB3.cell (p := ⟨bb, _, none⟩) hb').trans z0); have B4 := bel_trans B3 hb4))
            go_quiet (fail)
            go_wp2
            go_ret
            exact ⟨one hnew.out, below_drewN B4 _⟩
          · have hs2 := Lib.hid hs1.out
            rw [hc] at h1 h3
            simp only [Int.reduceNeg, decide_true, Int.reduceEq, decide_false] at h1 h3
            have h4 : (p.nm.toList = q.nm.toList) = False := by simpa using h3
            have hnew : Hid (F (k + 1) = F 0) := Lib.hid (by rw [← hR.out, hs2.out, if_neg (by omega), if_neg (by simp [badN, hc])])
            clear hrE hx hx' hok hok' hs1 hs2 hR hE hc hpv H1 Hst He Hp0 Hpp em
            generalize opT p.t = op at *
            generalize nameT p.t = nm at *
            generalize numT p.t = nu at *
            generalize p.nm = x at *
            generalize q.nm = y at *
            go_wp2_with (go_at_call 7; ((with_reducible refine cs.mono ?_); rintro e w4 ⟨rfl, hb4⟩; obtain ⟨u0, u1, u2, u3, u4⟩ := (UBox.b HS.out hb4).five; have z0' := (hb4.cell (w := W3) (p := ⟨bb, _, none⟩) (Nat.lt_of_lt_of_le hb' hB3.size)).trans ((hB3.cell (p := ⟨bb, _, none⟩) hb').trans z0); have B4 := bel_trans B3 hb4))
            go_quiet (fail)
            go_wp2
            go_roundw
            case rel => exact ⟨_, k + 1, rfl, by omega, by go_num, below_drewN B4 _, hnew⟩
            case measure => simp [intOf]; omega
      · have p1 : (E != 0) = true := bne_iff_ne.2 hE
        have hnew : Hid (E = F 0) := Lib.hid (by rw [← hR.out, hs1.out, if_pos hE])
        clear hrE hx hok hs1 hR hE H1 Hst He Hp0 Hpp
        generalize opT p.t = op at *
        generalize nameT p.t = nm at *
        generalize numT p.t = nu at *
        generalize p.nm = x at *
        go_wp2_with (go_at_call 7; ((with_reducible refine cs.mono ?_); rintro e w4 ⟨rfl, hb4⟩; obtain ⟨u0, u1, u2, u3, u4⟩ := (UBox.b HS.out hb4).five; have B4 := bel_trans B3 hb4))
        go_ret
        exact ⟨one hnew.out, B4⟩
    · have hnew : Hid ((0 : Int) = F 0) := Lib.hid (by rw [← hR.out, He.out k (by omega)])
      clear hR
      go_wp2
      go_ret
      exact ⟨one hnew.out, hB⟩
end Go.Proofs.Yteidknjhponpkaa.U
