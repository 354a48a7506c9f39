/-
  What is proved: the texts that package show and the document give of a right term and of a right claim.
-/
import Derived.Test.YtcigeclnbhcohaaGreatDoorZShK
import Derived.Test.YtcigeclnbhcohaaGreatDoorZShNc
import Derived.Test.YtcigeclnbhcohaaGreatDoorZRgtQ
import Derived.Test.YtcigeclnbhcohaaGreatDoorZCsR
namespace Go.Proofs.YtcigeclnbhcohaaGreatDoor.Sh
open Go.RowKit L T C Cs
set_option linter.unusedVariables false
set_option linter.unusedSimpArgs false
set_option maxRecDepth 100000

theorem slN (w : World) : SlS w none 0 0 [] := ⟨⟨rfl, fun h => absurd h (by omega)⟩, Nat.le_refl _, fun _ => rfl⟩
theorem own_cap {w : World} {base : Nat} {v : Value} {X : List ByteArray} (h : OwnS w base v X) : ∃ A c, v = .slice A X.length c ∧ SlS w A X.length c X ∧ c ≤ maxLen := by
  obtain ⟨A, c, hv, hS⟩ := h.slS
  refine ⟨A, c, hv, hS, ?_⟩
  rcases h.2 with ⟨rfl, hn⟩ | ⟨g, cap, cur, rfl, hb, hg, hnc, hcm, hcs, ht⟩
  · injection hv with h1 h2 h3; subst h3; exact Nat.zero_le _
  · injection hv with h1 h2 h3; subst h3; exact hcm
def svN : Sv := ⟨none, 0, 0, none, 0, 0⟩
theorem svN_ok (w : World) : svN.ok w [] [] := ⟨slN w, slN w, by unfold maxLen; show 0 ≤ _; omega, by unfold maxLen; show 0 ≤ _; omega⟩
theorem tP_five (bs : List ByteArray) (t : Tm) (h : need t 5 = false) : tP bs 5 t = tX bs t := by unfold tP; rw [h]; rfl
theorem need_five (t : Tm) : need t 5 = false := by
  have h : loT (opT t) ≤ 5 := by unfold loT; split <;> (try split) <;> omega
  unfold need
  rw [show decide ((5 : Int) < loT (opT t)) = false from decide_eq_false (by omega)]; simp
set_option maxHeartbeats 4000000 in
theorem Term_any {W : World} (E : Env W) (t : Tm) (hk : okT t) (hr : rightE t = 0) (a : Option Addr) (n c : Nat) (w : World) (hw : Below W.heap.size W w) (hA : ArW w t a n c) :
    Calls Tryz.prog 13 #[.agg #[.int .i64 (opT t), .string (nameT t), .int .i64 (numT t), .slice a n c]] w fun e w' => e = .returned (.string (tX [] t)) ∧ Below w.heap.size w w' := by
  obtain ⟨W2, hW2, hB2, hs2, S2⟩ := box1 w (opT t) (nameT t) (numT t) a n c
  have hsz := (rightE_part hr).2
  have cR := tRight_few t a n c W2 hsz (ArW.b hA hB2)
  have hb0 : shB [] := ⟨by simp, fun x hx => by simp at hx⟩
  have cT := fun (w' : World) (h : Below W2.heap.size W2 w') => term_any E hb0 t hk (by omega) svN [] 5 a n c w' (hw.trans ((bel_trans hB2 h).mono hw.size)) (svN_ok w') (ArW.b (ArW.b hA hB2) h) (by omega) (by omega)
  rw [hr] at cR
  rw [tP_five _ _ (need_five t)] at cT
  have HS := Lib.hid S2
  obtain ⟨s0, s1, s2, s3⟩ := S2.four
  unfold svN Sv.val at cT
  clear S2 hA hk hr hsz
  generalize tX [] t = R at *
  generalize opT t = op at *
  generalize nameT t = nm at *
  generalize numT t = nu at *
  have HT := Lib.hid cT
  clear cT
  go_enter Tryz.func13, Tryz.ntmps13
  go_wp2_with (first
    | (go_at_call 32; ((with_reducible refine cR.mono ?_); rintro e w3 ⟨rfl, hb3⟩; obtain ⟨q0, q1, q2, q3⟩ := (TBox.b HS.out hb3).four; have ct := HT.out w3 hb3))
    | (go_at_call 33; ((with_reducible refine ct.mono ?_); rintro e w4 ⟨rfl, hb4⟩)))
  go_ret
  exact ⟨rfl, bel_trans hB2 (bel_trans hb3 hb4)⟩
set_option maxHeartbeats 4000000 in
theorem RTerm_any (t : Tm) (hk : okT t) (hr : rightE t = 0) (a : Option Addr) (n c : Nat) (w : World) (hA : ArW w t a n c) :
    Calls Tryz.prog 14 #[.agg #[.int .i64 (opT t), .string (nameT t), .int .i64 (numT t), .slice a n c]] w fun e w' => e = .returned (.string (tX [] t)) ∧ Below w.heap.size w w' := by
  obtain ⟨W2, hW2, hB2, hs2, S2⟩ := box1 w (opT t) (nameT t) (numT t) a n c
  have hb0 : shB [] := ⟨by simp, fun x hx => by simp at hx⟩
  have cT := rterm_any hb0 t hk (by have := (rightE_part hr).2; omega) none 0 0 a n c W2 (slN W2).1 (ArW.b hA hB2)
  obtain ⟨s0, s1, s2, s3⟩ := S2.four
  clear S2 hA hk hr
  generalize tX [] t = R at *
  generalize opT t = op at *
  generalize nameT t = nm at *
  generalize numT t = nu at *
  go_enter Tryz.func14, Tryz.ntmps14
  go_wp2_with (go_at_call 34; ((with_reducible refine cT.mono ?_); rintro e w4 ⟨rfl, hb4⟩))
  go_ret
  exact ⟨rfl, bel_trans hB2 hb4⟩
/-- the text of a whole claim -/
noncomputable def clT (t : Cl) : ByteArray := cT (nmsA t) t [] 5 false
set_option maxHeartbeats 8000000 in
theorem Claim_any {W : World} (E : Env W) (t : Cl) (hk : okC t) (hr : crightE t = 0) (ks : SS) (a : Option Addr) (n c : Nat) (w : World) (hw : Below W.heap.size W w) (hA : ArWC w t ks a n c) :
    Calls Tryz.prog 16 #[.agg #[.int .i64 (opC t), .string (nmC t), .string (soC t), .slice ks.a ks.n ks.c, .slice a n c]] w fun e w' => e = .returned (.string (clT t)) ∧ Below w.heap.size w w' := by
  obtain ⟨W2, hW2, hB2, hs2, S2⟩ := cbox1 w (opC t) (nmC t) (soC t) ks a n c
  have hsz := (crightE_part hr).2
  have hA2 := ArWC.b hA hB2
  have cR := cRight_few t ks a n c W2 hsz hA2
  rw [hr] at cR
  have cN := fun (w' : World) (h : Below W2.heap.size W2 w') => names_any t ks a n c w' (ArWC.b hA2 h) (by omega)
  have hb0 : shB [] := ⟨by simp, fun x hx => by simp at hx⟩
  have hfs : ∀ x ∈ cmpS (srtS (nmsQ (allP yes t))), x.size ≤ 1000 := fun x hx => by
    have h1 := ((names_sorted _).2 x).1 hx
    rw [nmsQ_all] at h1
    have := nmsA_small t hk x h1
    omega
  have hfl : (cmpS (srtS (nmsQ (allP yes t)))).length ≤ 5000 := by
    have h1 := names_len (nmsQ (allP yes t))
    rw [nmsQ_all] at h1
    have := nmsA_len t
    rw [nmsQ_all]; omega
  have cC := fun (A : Option Addr) (N C : Nat) (w' : World) (h : Below W2.heap.size W2 w') (hS : SlS w' A N C (cmpS (srtS (nmsQ (allP yes t))))) (hC : C ≤ maxLen) => claim_any E hfs (by omega) t hk ⟨A, N, C, none, 0, 0⟩ [] 5 false ks a n c w' (hw.trans ((bel_trans hB2 h).mono hw.size)) ⟨hS, slN w', hC, by unfold maxLen; show 0 ≤ _; omega⟩ hb0 (by simp; omega) (ArWC.b hA2 h) (by omega) (by omega)
  have hR : cT (cmpS (srtS (nmsQ (allP yes t)))) t [] 5 false = clT t := by
    unfold clT; rw [nmsQ_all]; exact cT_congr (hasS_names _) _ _ _ _
  rw [hR] at cC
  unfold Sv.val at cC
  have HS := Lib.hid S2
  obtain ⟨ka, kn, kc⟩ := ks
  obtain ⟨s0, s1, s2, s3, s4⟩ := S2.five
  have l1 := Blk.lt S2
  dsimp only at *
  clear S2 hA hk hr hsz hA2 hR hfs hw
  generalize clT t = R at *
  generalize cmpS (srtS (nmsQ (allP yes t))) = X at *
  generalize opC t = op at *
  generalize nmC t = nm at *
  generalize soC t = so at *
  have HN := Lib.hid cN
  have HC := Lib.hid cC
  have HL := Lib.hid hfl
  clear cN cC hfl
  go_enter Tryz.func16, Tryz.ntmps16
  go_wp2_with (go_at_call 37; ((with_reducible refine cR.mono ?_); rintro e w3 ⟨rfl, hb3⟩))
  have B2d : Below W2.heap.size W2 w3.drew := hb3.drew
  have cn := HN.out _ B2d
  have q1 := (hb3.cell (p := ⟨w.heap.size, 0, none⟩) l1).trans s0
  have q2 := (hb3.cell (p := ⟨w.heap.size, 1, none⟩) l1).trans s1
  have q3 := (hb3.cell (p := ⟨w.heap.size, 2, none⟩) l1).trans s2
  have q4 := (hb3.cell (p := ⟨w.heap.size, 3, none⟩) l1).trans s3
  have q5 := (hb3.cell (p := ⟨w.heap.size, 4, none⟩) l1).trans s4
  go_wp2
  go_region_held3 (fun w' => w'.cell? ⟨w.heap.size, 0, none⟩ = some (.int .i64 op) ∧ w'.cell? ⟨w.heap.size, 1, none⟩ = some (.string nm) ∧ w'.cell? ⟨w.heap.size, 2, none⟩ = some (.string so) ∧ w'.cell? ⟨w.heap.size, 3, none⟩ = some (.slice ka kn kc) ∧ w'.cell? ⟨w.heap.size, 4, none⟩ = some (.slice a n c))
    (first | exact (CBox.b HS.out B5).five | exact (CBox.b HS.out B4).five | exact (CBox.b HS.out B2d).five | go_keep)
    (first
      | (go_at_call 38; ((with_reducible refine cn.mono ?_); rintro e w4 ⟨v, rfl, ho, hb4⟩; have B4 := bel_trans B2d hb4; obtain ⟨A4, C4, hv4, hS4, hC4⟩ := own_cap ho; obtain ⟨L4, hL4⟩ : ∃ L, X.length = L := ⟨_, rfl⟩; rw [hL4] at hv4 hS4; subst hv4; have cc := HC.out A4 L4 C4 w4 B4 hS4 hC4; clear hL4 hS4 hC4 ho))
      | (go_at_call 39; ((with_reducible refine cc.mono ?_); rintro e w5 ⟨rfl, hb5⟩; have B5 := bel_trans B4 hb5)))
  go_wp2
  go_ret
  exact ⟨rfl, bel_trans hB2 B5⟩
set_option maxHeartbeats 8000000 in
theorem RClaim_any (t : Cl) (hk : okC t) (hr : crightE t = 0) (ks : SS) (a : Option Addr) (n c : Nat) (w : World) (hA : ArWC w t ks a n c) :
    Calls Tryz.prog 17 #[.agg #[.int .i64 (opC t), .string (nmC t), .string (soC t), .slice ks.a ks.n ks.c, .slice a n c]] w fun e w' => e = .returned (.string (clT t)) ∧ Below w.heap.size w w' := by
  obtain ⟨W2, hW2, hB2, hs2, S2⟩ := cbox1 w (opC t) (nmC t) (soC t) ks a n c
  have hsz := (crightE_part hr).2
  have hA2 := ArWC.b hA hB2
  have cN := fun (w' : World) (h : Below W2.heap.size W2 w') => rnm_any t ks a n c w' (ArWC.b hA2 h) (by omega)
  have hb0 : shB [] := ⟨by simp, fun x hx => by simp at hx⟩
  have hfl : (nmsA t).length ≤ 5000 := by have := nmsA_len t; omega
  have cC := fun (A : Option Addr) (N C : Nat) (w' : World) (h : Below W2.heap.size W2 w') (hS : SlS w' A N C (nmsA t)) => rclaim_any (fr := nmsA t) (by omega) t hk [] 1 true A N C none 0 0 ks a n c w' hS (slN w') hb0 (by simp; omega) (ArWC.b hA2 h) (by omega) (by omega)
  have h41 : (5 : Int) - 1 = 4 := rfl
  have hnt : (!true) = false := rfl
  have hR : cT (nmsA t) t [] 4 false = clT t := by unfold clT; exact cT_four _ _ _ _
  rw [h41, hnt, hR] at cC
  have HS := Lib.hid S2
  obtain ⟨ka, kn, kc⟩ := ks
  obtain ⟨s0, s1, s2, s3, s4⟩ := S2.five
  dsimp only at *
  clear S2 hA hk hr hsz hA2 hR h41 hnt
  generalize clT t = R at *
  generalize nmsA t = X at *
  generalize opC t = op at *
  generalize nmC t = nm at *
  generalize soC t = so at *
  have HC := Lib.hid cC
  have HL := Lib.hid hfl
  have B2d : Below W2.heap.size W2 W2.drew := (Below.refl _ _).drew
  have cn := cN _ B2d
  clear cN cC hfl
  go_enter Tryz.func17, Tryz.ntmps17
  go_wp2
  go_region_held3 (fun w' => w'.cell? ⟨w.heap.size, 0, none⟩ = some (.int .i64 op) ∧ w'.cell? ⟨w.heap.size, 1, none⟩ = some (.string nm) ∧ w'.cell? ⟨w.heap.size, 2, none⟩ = some (.string so) ∧ w'.cell? ⟨w.heap.size, 3, none⟩ = some (.slice ka kn kc) ∧ w'.cell? ⟨w.heap.size, 4, none⟩ = some (.slice a n c))
    (first | exact (CBox.b HS.out B5).five | exact (CBox.b HS.out B4).five | exact (CBox.b HS.out B2d).five | go_keep)
    (first
      | (go_at_call 41; ((with_reducible refine cn.mono ?_); rintro e w4 ⟨v, rfl, ho, hb4⟩; have B4 := bel_trans B2d hb4; obtain ⟨A4, C4, hv4, hS4⟩ := ho.slS; obtain ⟨L4, hL4⟩ : ∃ L, X.length = L := ⟨_, rfl⟩; rw [hL4] at hv4 hS4; subst hv4; have cc := HC.out A4 L4 C4 w4 B4 hS4; clear hL4 hS4 ho))
      | (go_at_call 40; ((with_reducible refine cc.mono ?_); rintro e w5 ⟨rfl, hb5⟩; have B5 := bel_trans B4 hb5)))
  go_wp2
  go_ret
  exact ⟨rfl, bel_trans hB2 B5⟩
end Go.Proofs.YtcigeclnbhcohaaGreatDoor.Sh
