/-
  What is proved: the texts of terms and of claims are the document's, whatever the input.
-/
import Derived.Test.YtndhhmebaboeaaaGreatDoorZShAl
import Derived.Test.YtndhhmebaboeaaaGreatDoorZShSo
namespace Go.Proofs.YtndhhmebaboeaaaGreatDoor.Sh
open Go.RowKit L T C
set_option linter.unusedVariables false
set_option linter.unusedSimpArgs false
set_option maxRecDepth 100000

set_option maxHeartbeats 16000000 in
theorem showTerms (z : TmV) (W : World) (hz : ArW W z.t z.a z.n z.c ∧ smZ z.t) (E : Env W) :
    Calls Tryz.prog 3 #[z.val] W fun e w' => e = .returned (.bool true) ∧ Below W.heap.size W w' := by
  obtain ⟨t, a, n, c⟩ := z
  obtain ⟨hA, hsm⟩ := hz
  dsimp only at hA hsm
  unfold TmV.val
  dsimp only
  obtain ⟨W2, hW2, hB2, hs2, S2⟩ := box1 W (opT t) (nameT t) (numT t) a n c
  have hA2 := ArW.b hA hB2
  have cS := Size_any t a n c 300 W2 (by omega) hA2
  rw [show ((300 : Nat) : Int) = 300 from rfl] at cS
  have cR := fun (w' : World) (h : Below W2.heap.size W2 w') => C.TermRight8_any t a n c w' (ArW.b hA2 h)
  have cH := fun (w' : World) (h : Below W2.heap.size W2 w') => short_any t a n c w' hsm (ArW.b hA2 h)
  have cA := fun (w' : World) (h : Below W2.heap.size W2 w') => alive_any E w' ((hB2.trans (h.mono hB2.size)))
  have hT : partE t = 0 → shT t = true → okT t := fun h1 h2 => okT_of t h1 h2 hsm
  have HS := Lib.hid S2
  have HR := Lib.hid cR
  have HH := Lib.hid cH
  have HA := Lib.hid cA
  obtain ⟨s0, s1, s2, s3⟩ := S2.four
  have l1 := Blk.lt S2
  by_cases hg : 300 < szTo 300 t
  · have hd : decide (((szTo 300 t : Nat) : Int) > 300) = true := decide_eq_true (by omega)
    clear cR cH cA hT hsm hA hA2 S2
    generalize szTo 300 t = sz at *
    generalize opT t = op at *
    generalize nameT t = nm at *
    generalize numT t = nu at *
    go_enter Tryz.func3, Tryz.ntmps3
    go_wp2_with (first
      | (go_at_call 9; ((with_reducible refine cS.mono ?_); rintro e w3 ⟨rfl, hb3⟩; have ca := HA.out w3 hb3))
      | (go_at_call 12; ((with_reducible refine ca.mono ?_); rintro e w4 ⟨rfl, hb4⟩)))
    go_ret
    exact ⟨rfl, bel_trans hB2 (bel_trans hb3 hb4)⟩
  · have hd : decide (((szTo 300 t : Nat) : Int) > 300) = false := decide_eq_false (by omega)
    by_cases hr : rightE t = 0
    · cases hsh : shT t with
      | false =>
        rw [hsh] at cH HH
        rw [hr] at cR HR
        clear cR cH cA hT hsm hA hA2 S2
        generalize szTo 300 t = sz at *
        generalize opT t = op at *
        generalize nameT t = nm at *
        generalize numT t = nu at *
        go_enter Tryz.func3, Tryz.ntmps3
        go_wp2_with (first
          | (go_at_call 9; ((with_reducible refine cS.mono ?_); rintro e w3 ⟨rfl, hb3⟩; obtain ⟨q0, q1, q2, q3⟩ := (TBox.b HS.out hb3).four; have cr := HR.out w3 hb3))
          | (go_at_call 10; ((with_reducible refine cr.mono ?_); rintro e w4 ⟨rfl, hb4⟩; have h34 := bel_trans hb3 hb4; obtain ⟨q0, q1, q2, q3⟩ := (TBox.b HS.out h34).four; have ch := HH.out w4 h34))
          | (go_at_call 11; ((with_reducible refine ch.mono ?_); rintro e w5 ⟨rfl, hb5⟩; have h35 := bel_trans h34 hb5; have ca := HA.out w5 h35))
          | (go_at_call 12; ((with_reducible refine ca.mono ?_); rintro e w6 ⟨rfl, hb6⟩)))
        go_ret
        exact ⟨rfl, bel_trans hB2 (bel_trans h35 hb6)⟩
      | true =>
        have hk := hT (rightE_part hr).1 hsh
        have cT := fun (w' : World) (h : Below W2.heap.size W2 w') => Term_any E t hk hr a n c w' (hB2.trans (h.mono hB2.size)) (ArW.b hA2 h)
        have cX := fun (w' : World) (h : Below W2.heap.size W2 w') => RTerm_any t hk hr a n c w' (ArW.b hA2 h)
        rw [hsh] at cH HH
        rw [hr] at cR HR
        have HT := Lib.hid cT
        have HX := Lib.hid cX
        clear cR cH cA cT cX hk hT hsm hA hA2 S2
        generalize tX [] t = R at *
        generalize szTo 300 t = sz at *
        generalize opT t = op at *
        generalize nameT t = nm at *
        generalize numT t = nu at *
        go_enter Tryz.func3, Tryz.ntmps3
        go_wp2_with (first
          | (go_at_call 9; ((with_reducible refine cS.mono ?_); rintro e w3 ⟨rfl, hb3⟩; obtain ⟨q0, q1, q2, q3⟩ := (TBox.b HS.out hb3).four; have cr := HR.out w3 hb3))
          | (go_at_call 10; ((with_reducible refine cr.mono ?_); rintro e w4 ⟨rfl, hb4⟩; have h34 := bel_trans hb3 hb4; obtain ⟨q0, q1, q2, q3⟩ := (TBox.b HS.out h34).four; have ch := HH.out w4 h34))
          | (go_at_call 11; ((with_reducible refine ch.mono ?_); rintro e w5 ⟨rfl, hb5⟩; have h35 := bel_trans h34 hb5)))
        have B5d : Below W2.heap.size W2 w5.drew := h35.drew
        go_region_held3 (fun w' => w'.cell? ⟨W.heap.size, 0, none⟩ = some (.int .i64 op) ∧ w'.cell? ⟨W.heap.size, 1, none⟩ = some (.string nm) ∧ w'.cell? ⟨W.heap.size, 2, none⟩ = some (.int .i64 nu) ∧ w'.cell? ⟨W.heap.size, 3, none⟩ = some (.slice a n c))
          (first | exact (TBox.b HS.out B5d).four | exact (TBox.b HS.out BT).four | exact (TBox.b HS.out BX).four | exact (TBox.b HS.out BTX).four | exact (TBox.b HS.out BXT).four | exact (TBox.b HS.out BA).four | go_keep)
          (first
            | (go_at_call 13; ((with_reducible refine (HT.out _ B5d).mono ?_); rintro e w6 ⟨rfl, hb6⟩; have BT := bel_trans B5d hb6))
            | (go_at_call 14; ((with_reducible refine (HX.out _ BT).mono ?_); rintro e w7 ⟨rfl, hb7⟩; have BTX := bel_trans BT hb7))
            | (go_at_call 14; ((with_reducible refine (HX.out _ B5d).mono ?_); rintro e w8 ⟨rfl, hb8⟩; have BX := bel_trans B5d hb8))
            | (go_at_call 13; ((with_reducible refine (HT.out _ BX).mono ?_); rintro e w9 ⟨rfl, hb9⟩; have BTX := bel_trans BX hb9))
            | (go_at_call 12; ((with_reducible refine (HA.out _ BTX).mono ?_); rintro e w10 ⟨rfl, hb10⟩; have BA := bel_trans BTX hb10)))
        all_goals go_wp2
        all_goals go_ret
        all_goals exact ⟨rfl, bel_trans hB2 BA⟩
    · have hne : (rightE t != 0) = true := by simpa using hr
      clear cR cH cA hT hsm hA hA2 S2
      generalize rightE t = R at *
      generalize szTo 300 t = sz at *
      generalize opT t = op at *
      generalize nameT t = nm at *
      generalize numT t = nu at *
      go_enter Tryz.func3, Tryz.ntmps3
      go_wp2_with (first
        | (go_at_call 9; ((with_reducible refine cS.mono ?_); rintro e w3 ⟨rfl, hb3⟩; obtain ⟨q0, q1, q2, q3⟩ := (TBox.b HS.out hb3).four; have cr := HR.out w3 hb3))
        | (go_at_call 10; ((with_reducible refine cr.mono ?_); rintro e w4 ⟨rfl, hb4⟩; have h34 := bel_trans hb3 hb4; have ca := HA.out w4 h34))
        | (go_at_call 12; ((with_reducible refine ca.mono ?_); rintro e w5 ⟨rfl, hb5⟩)))
      go_ret
      exact ⟨rfl, bel_trans hB2 (bel_trans h34 hb5)⟩
set_option maxHeartbeats 16000000 in
theorem showClaims (z : ClV) (W : World) (hz : ArWC W z.t z.k z.a z.n z.c ∧ smC z.t) (E : Env W) :
    Calls Tryz.prog 4 #[z.val] W fun e w' => e = .returned (.bool true) ∧ Below W.heap.size W w' := by
  obtain ⟨t, ks, a, n, c⟩ := z
  obtain ⟨hA, hsm⟩ := hz
  dsimp only at hA hsm
  unfold ClV.val
  dsimp only
  obtain ⟨W2, hW2, hB2, hs2, S2⟩ := cbox1 W (opC t) (nmC t) (soC t) ks a n c
  have hA2 := ArWC.b hA hB2
  have cP := Plain_any t hsm ks a n c 300 (by omega) W2 hA2
  rw [show ((300 : Nat) : Int) = 300 from rfl] at cP
  have cA := fun (w' : World) (h : Below W2.heap.size W2 w') => alive_any E w' ((hB2.trans (h.mono hB2.size)))
  have HS := Lib.hid S2
  have HA := Lib.hid cA
  cases hp : plC t 300 with
  | false =>
    rw [hp] at cP
    obtain ⟨ka, kn, kc⟩ := ks
    obtain ⟨s0, s1, s2, s3, s4⟩ := S2.five
    dsimp only at *
    clear cA hsm hA hA2 S2 hp
    generalize opC t = op at *
    generalize nmC t = nm at *
    generalize soC t = so at *
    go_enter Tryz.func4, Tryz.ntmps4
    go_wp2_with (first
      | (go_at_call 15; ((with_reducible refine cP.mono ?_); rintro e w3 ⟨rfl, hb3⟩; have ca := HA.out w3 hb3))
      | (go_at_call 12; ((with_reducible refine ca.mono ?_); rintro e w4 ⟨rfl, hb4⟩)))
    go_ret
    exact ⟨rfl, bel_trans hB2 (bel_trans hb3 hb4)⟩
  | true =>
    rw [hp] at cP
    have hp2 := hp
    unfold plC at hp2
    rw [Bool.and_eq_true, Bool.and_eq_true, beq_iff_eq] at hp2
    have hr : crightE t = 0 := hp2.2.1
    have hk : okC t := okC_of t (crightE_part hr).1 hp2.2.2 hsm
    have cT := fun (w' : World) (h : Below W2.heap.size W2 w') => Claim_any E t hk hr ks a n c w' (hB2.trans (h.mono hB2.size)) (ArWC.b hA2 h)
    have cX := fun (w' : World) (h : Below W2.heap.size W2 w') => RClaim_any t hk hr ks a n c w' (ArWC.b hA2 h)
    obtain ⟨ka, kn, kc⟩ := ks
    obtain ⟨s0, s1, s2, s3, s4⟩ := S2.five
    dsimp only at *
    have HT := Lib.hid cT
    have HX := Lib.hid cX
    clear cA cT cX hk hr hsm hA hA2 S2 hp hp2
    generalize clT t = R at *
    generalize opC t = op at *
    generalize nmC t = nm at *
    generalize soC t = so at *
    go_enter Tryz.func4, Tryz.ntmps4
    go_wp2_with (go_at_call 15; ((with_reducible refine cP.mono ?_); rintro e w5 ⟨rfl, h35⟩))
    have B5d : Below W2.heap.size W2 w5.drew := h35.drew
    go_region_held3 (fun w' => w'.cell? ⟨W.heap.size, 0, none⟩ = some (.int .i64 op) ∧ w'.cell? ⟨W.heap.size, 1, none⟩ = some (.string nm) ∧ w'.cell? ⟨W.heap.size, 2, none⟩ = some (.string so) ∧ w'.cell? ⟨W.heap.size, 3, none⟩ = some (.slice ka kn kc) ∧ w'.cell? ⟨W.heap.size, 4, none⟩ = some (.slice a n c))
      (first | exact (CBox.b HS.out B5d).five | exact (CBox.b HS.out BT).five | exact (CBox.b HS.out BX).five | exact (CBox.b HS.out BTX).five | exact (CBox.b HS.out BA).five | go_keep)
      (first
        | (go_at_call 16; ((with_reducible refine (HT.out _ B5d).mono ?_); rintro e w6 ⟨rfl, hb6⟩; have BT := bel_trans B5d hb6))
        | (go_at_call 17; ((with_reducible refine (HX.out _ BT).mono ?_); rintro e w7 ⟨rfl, hb7⟩; have BTX := bel_trans BT hb7))
        | (go_at_call 17; ((with_reducible refine (HX.out _ B5d).mono ?_); rintro e w8 ⟨rfl, hb8⟩; have BX := bel_trans B5d hb8))
        | (go_at_call 16; ((with_reducible refine (HT.out _ BX).mono ?_); rintro e w9 ⟨rfl, hb9⟩; have BTX := bel_trans BX hb9))
        | (go_at_call 12; ((with_reducible refine (HA.out _ BTX).mono ?_); rintro e w10 ⟨rfl, hb10⟩; have BA := bel_trans BTX hb10)))
    all_goals go_wp2
    all_goals go_ret
    all_goals exact ⟨rfl, bel_trans hB2 BA⟩
end Go.Proofs.YtndhhmebaboeaaaGreatDoor.Sh
