/-
  What is proved: the text of a sequent is the document's, whatever the input.
-/
import Derived.Test.YtndhhmebaboeaaaGreatDoorQS
import Derived.Test.YtndhhmebaboeaaaGreatDoorZShAl
import Derived.BigQuiet
namespace Go.Proofs.YtndhhmebaboeaaaGreatDoor.Sh
open Go.RowKit L T C
set_option linter.unusedVariables false
set_option linter.unusedSimpArgs false
set_option maxRecDepth 100000

theorem goodY_of {q : Hy} (hn : q.nm.size ≤ 100) (hp : plC q.t 200 = true) (hs : smC q.t) : q.nm.size ≤ 100 ∧ okC q.t ∧ crightE q.t = 0 := by
  unfold plC at hp
  rw [Bool.and_eq_true, Bool.and_eq_true, beq_iff_eq] at hp
  exact ⟨hn, okC_of q.t (crightE_part hp.2.1).1 hp.2.2 hs, hp.2.1⟩
set_option maxHeartbeats 16000000 in
theorem showSeqs (z : Sq) (W : World) (hz : z.ok W) (E : Env W) :
    Calls Tryz.prog 5 #[z.val] W fun e w' => e = .returned (.bool true) ∧ Below W.heap.size W w' := by
  obtain ⟨va, vn, vc, V, ha, hn, hc, Y, t, ⟨ka, kn, kc⟩, a, n, c⟩ := z
  obtain ⟨hV, hY, hA, hsm, hVz, hYz⟩ := hz
  dsimp only at hV hY hA hsm hVz hYz
  unfold Sq.val
  dsimp only
  obtain ⟨W1, hW1, hB1, hs1, l1, S1⟩ := qbox W va vn vc ha hn hc (opC t) (nmC t) (soC t) ka kn kc a n c
  have hV1 := hV.b hB1
  have hY1 := hY.b hB1
  have hA1 := ArWC.b hA hB1
  have HS := Lib.hid (show ∀ w', Below W1.heap.size W1 w' → SCells w' W.heap.size va vn vc ha hn hc (opC t) (nmC t) (soC t) ka kn kc a n c from fun w' h => S1.b l1 h)
  have HA := Lib.hid (fun (w' : World) (h : Below W1.heap.size W1 w') => alive_any E w' ((hB1.trans (h.mono hB1.size))))
  have ca := HA.out W1 (Below.refl _ _)
  have cP := Plain_any t hsm ⟨ka, kn, kc⟩ a n c 200 (by omega) W1 hA1
  rw [show ((200 : Nat) : Int) = 200 from rfl] at cP
  have hvn : vn = V.length := hV.1
  have hhn : hn = Y.length := hY.1
  have hvm : vn ≤ 9223372036854775807 := by have h1 := hV.2.1; have h2 := hV.2.2.1; unfold maxLen at h2; omega
  have hhm : hn ≤ 9223372036854775807 := by have h1 := hY.2.1; have h2 := hY.2.2.1; unfold maxLen at h2; omega
  obtain ⟨z0, z1, z2, z3, z4, z5, z6⟩ := S1
  by_cases g1 : vn ≤ 20
  · have hd1 : decide ((vn : Int) > 20) = false := decide_eq_false (by omega)
    by_cases g2 : hn ≤ 20
    · have hd2 : decide ((hn : Int) > 20) = false := decide_eq_false (by omega)
      cases hp : plC t 200 with
      | false =>
        rw [hp] at cP
        clear hV hY hA hV1 hY1 hA1 hVz hYz hvn hhn hsm E ca hp
        generalize opC t = op at *
        generalize nmC t = nm at *
        generalize soC t = so at *
        dsimp only at cP
        go_enter Tryz.func5, Tryz.ntmps5
        go_wp2_with (first
          | (go_at_call 15; ((with_reducible refine cP.mono ?_); rintro e w3 ⟨rfl, hb3⟩; have ca := HA.out w3 hb3))
          | (go_at_call 12; ((with_reducible refine ca.mono ?_); rintro e w4 ⟨rfl, hb4⟩)))
        go_ret
        exact ⟨rfl, bel_trans hB1 (bel_trans hb3 hb4)⟩
      | true =>
        rw [hp] at cP
        unfold plC at hp
        rw [Bool.and_eq_true, Bool.and_eq_true, beq_iff_eq] at hp
        have hr : crightE t = 0 := hp.2.1
        have hk : okC t := okC_of t (crightE_part hr).1 hp.2.2 hsm
        have cEnd : (∀ j q, j < vn → V[j]? = some q → q.nm.size ≤ 100 ∧ q.so.size ≤ 100) → (∀ j q, j < hn → Y[j]? = some q → q.nm.size ≤ 100 ∧ plC q.t 200 = true) → ∀ (w' : World), Below W1.heap.size W1 w' →
            Calls Tryz.prog 20 #[.agg #[.slice va vn vc, .slice ha hn hc, .int .i64 (opC t), .string (nmC t), .string (soC t), .slice ka kn kc, .slice a n c]] w' (fun e w2 => e = .returned (.string (sqT V Y t)) ∧ Below w'.heap.size w' w2) ∧
            Calls Tryz.prog 21 #[.agg #[.slice va vn vc, .slice ha hn hc, .int .i64 (opC t), .string (nmC t), .string (soC t), .slice ka kn kc, .slice a n c]] w' (fun e w2 => e = .returned (.string (sqT V Y t)) ∧ Below w'.heap.size w' w2) := fun h1 h2 w' hb => by
          have gV : goodV V := ⟨by omega, fun q hq => by
            obtain ⟨j, hj, rfl⟩ := List.getElem_of_mem hq
            exact h1 j _ (by omega) (List.getElem?_eq_getElem hj)⟩
          have gY : goodY Y := ⟨by omega, fun q hq => by
            obtain ⟨j, hj, rfl⟩ := List.getElem_of_mem hq
            have := h2 j _ (by omega) (List.getElem?_eq_getElem hj)
            exact goodY_of this.1 this.2 (hYz _ hq).2⟩
          exact ⟨Seq_any E V Y t gV gY hk hr va vn vc ha hn hc ⟨ka, kn, kc⟩ a n c w' (hB1.trans (hb.mono hB1.size)) (hV1.b hb) (hY1.b hb) (ArWC.b hA1 hb), RSeq_any V Y t gV gY hk hr va vn vc ha hn hc ⟨ka, kn, kc⟩ a n c w' (hV1.b hb) (hY1.b hb) (ArWC.b hA1 hb)⟩
        have hvr : ∀ k, k < vn → ∃ b o, ∃ q : Vr, va = some ⟨b, o, none⟩ ∧ V[k]? = some q ∧ (q.nm.size ≤ 9223372036854775807 ∧ q.so.size ≤ 9223372036854775807) ∧ (∀ w', Below W1.heap.size W1 w' → w'.cell? ⟨b, o + k * 2, none⟩ = some (.string q.nm) ∧ w'.cell? ⟨b, o + k * 2 + 1, none⟩ = some (.string q.so)) := fun k hk2 => by
          obtain ⟨b, o, q, h1, h2, h3, h4⟩ := hV1.at hk2
          have hlt : b < W1.heap.size := World.block_lt_of_cell? _ _ h3
          exact ⟨b, o, q, h1, h2, hVz q (List.mem_of_getElem? h2), fun w' hb => ⟨(hb.cell (p := ⟨b, _, none⟩) hlt).trans h3, (hb.cell (p := ⟨b, _, none⟩) hlt).trans h4⟩⟩
        have hhr : ∀ k, k < hn → ∃ b o, ∃ q : Hy, ∃ (ka : Option Addr) (kn kc : Nat) (x : Option Addr) (xn xc : Nat), ha = some ⟨b, o, none⟩ ∧ Y[k]? = some q ∧ q.nm.size ≤ 9223372036854775807 ∧ (∀ w', Below W1.heap.size W1 w' → w'.cell? ⟨b, o + k * 6, none⟩ = some (.string q.nm) ∧ w'.cell? ⟨b, o + k * 6 + 1, none⟩ = some (.int .i64 (opC q.t)) ∧ w'.cell? ⟨b, o + k * 6 + 1 + 1, none⟩ = some (.string (nmC q.t)) ∧ w'.cell? ⟨b, o + k * 6 + 1 + 1 + 1, none⟩ = some (.string (soC q.t)) ∧
            w'.cell? ⟨b, o + k * 6 + 1 + 1 + 1 + 1, none⟩ = some (.slice ka kn kc) ∧ w'.cell? ⟨b, o + k * 6 + 1 + 1 + 1 + 1 + 1, none⟩ = some (.slice x xn xc)) ∧
            (∀ w5, Below W1.heap.size W1 w5 → Calls Tryz.prog 15 #[.agg #[.int .i64 (opC q.t), .string (nmC q.t), .string (soC q.t), .slice ka kn kc, .slice x xn xc], .int .i64 200] w5 fun e w6 => e = .returned (.bool (plC q.t 200)) ∧ Below w5.heap.size w5 w6) := fun k hk2 => by
          obtain ⟨b, o, q, ka, kn, kc, x, xn, xc, h1, h2, h3, h4, h5, h6, h7, h8, h9⟩ := hY1.at hk2
          have hlt : b < W1.heap.size := World.block_lt_of_cell? _ _ h3
          have hq := hYz q (List.mem_of_getElem? h2)
          exact ⟨b, o, q, ka, kn, kc, x, xn, xc, h1, h2, hq.1, fun w' hb => ⟨(hb.cell (p := ⟨b, _, none⟩) hlt).trans h3, (hb.cell (p := ⟨b, _, none⟩) hlt).trans h4, (hb.cell (p := ⟨b, _, none⟩) hlt).trans h5, (hb.cell (p := ⟨b, _, none⟩) hlt).trans h6, (hb.cell (p := ⟨b, _, none⟩) hlt).trans h7, (hb.cell (p := ⟨b, _, none⟩) hlt).trans h8⟩,
            fun w5 hb5 => Plain_any q.t hq.2 ⟨ka, kn, kc⟩ x xn xc 200 (by omega) w5 (ArWC.b h9 hb5)⟩
        have HE := Lib.hid cEnd
        have HVr := Lib.hid hvr
        have HHr := Lib.hid hhr
        clear cEnd hvr hhr hV hY hA hV1 hY1 hA1 hVz hYz hvn hhn hsm E ca hp hk hr g1 g2
        generalize sqT V Y t = R at *
        generalize opC t = op at *
        generalize nmC t = nm at *
        generalize soC t = so at *
        dsimp only at cP
        go_enter Tryz.func5, Tryz.ntmps5
        go_wp2_with (go_at_call 15; ((with_reducible refine cP.mono ?_); rintro e w3 ⟨rfl, hb3⟩; obtain ⟨x0, x1, x2, x3, x4, x5, x6⟩ := HS.out w3 hb3))
        go_loopw [27] (fun i wr0 => ∃ (wr : World) (k : Nat), wr = wr0 ∧ k ≤ vn ∧ i = .int .i64 k ∧ Hid (Below W1.heap.size W1 wr) ∧ Hid (∀ j q, j < k → V[j]? = some q → q.nm.size ≤ 100 ∧ q.so.size ≤ 100)) (fun i _ => vn - (intOf i).toNat)
        case atStart => exact ⟨_, 0, rfl, by omega, rfl, Lib.hid hb3, Lib.hid fun j q h => by omega⟩
        case round =>
          obtain ⟨wr, k, rfl, hk, rfl, hB, hall⟩ := hrel
          have hBr := hB.out
          clear z0 z1 z2 z3 z4 z5 z6 x0 x1 x2 x3 x4 x5 x6
          by_cases hlt : k < vn
          · obtain ⟨b, o, q, rfl, hVk, hqz, hy⟩ := HVr.out k hlt
            obtain ⟨y0, y1⟩ := hy wr hBr
            obtain ⟨W4, hW4, hB4, hs4, S4⟩ := vbox wr q.nm q.so
            have d0 := Blk.cell S4 0
            have d1 := Blk.cell S4 1
            simp only [List.getElem?_toArray, List.getElem?_cons_zero, List.getElem?_cons_succ] at d0 d1
            have l4 := Blk.lt S4
            have hk0 : 0 ≤ (k : Int) := by omega
            have hk1 : (k : Int) < (vn : Int) := by omega
            have hB4' := bel_trans hBr hB4
            obtain ⟨hq1, hq2⟩ := hqz
            clear HVr HHr HE hy S4 hs4
            by_cases n1 : q.nm.size ≤ 100
            · have e1 : decide ((q.nm.size : Int) > 100) = false := decide_eq_false (by omega)
              by_cases n2 : q.so.size ≤ 100
              · have e2 : decide ((q.so.size : Int) > 100) = false := decide_eq_false (by omega)
                have hall2 := Lib.hid (show ∀ j y, j < k + 1 → V[j]? = some y → y.nm.size ≤ 100 ∧ y.so.size ≤ 100 from fun j y hj hy => by
                  by_cases e : j = k
                  · subst e; rw [hVk] at hy; injection hy with hy; rw [← hy]; exact ⟨n1, n2⟩
                  · exact hall.out j y (by omega) hy)
                have HV := Lib.hid (fun (w : World) => sVar_any q n1 n2 w)
                have HX := Lib.hid (fun (w : World) => rVar_any q n1 n2 w)
                clear hVk hall n1 n2
                generalize varT q = XT at *
                generalize q.nm = qn at *
                generalize q.so = qs at *
                have HQ := Lib.hid (show ∀ w', Below W4.heap.size W4 w' → (w'.cell? ⟨wr.heap.size, 0, none⟩ = some (.string qn) ∧ w'.cell? ⟨wr.heap.size, 1, none⟩ = some (.string qs)) from fun w' h => ⟨(h.cell (p := ⟨wr.heap.size, _, none⟩) l4).trans d0, (h.cell (p := ⟨wr.heap.size, _, none⟩) l4).trans d1⟩)
                have B4d : Below W4.heap.size W4 W4.drew := (Below.refl _ _).drew
                go_wp2
                go_region_held3 (fun w' => w'.cell? ⟨wr.heap.size, 0, none⟩ = some (.string qn) ∧ w'.cell? ⟨wr.heap.size, 1, none⟩ = some (.string qs))
                  (first | exact HQ.out _ B4d | exact HQ.out _ BT | exact HQ.out _ BX | exact HQ.out _ BTX | go_keep)
                  (first
                    | (go_at_call 18; ((with_reducible refine (HV.out W4.drew).mono ?_); rintro e w6 ⟨rfl, hb6⟩; have BT := bel_trans B4d hb6))
                    | (go_at_call 19; ((with_reducible refine (HX.out w6).mono ?_); rintro e w7 ⟨rfl, hb7⟩; have BTX := bel_trans BT hb7))
                    | (go_at_call 19; ((with_reducible refine (HX.out W4.drew).mono ?_); rintro e w8 ⟨rfl, hb8⟩; have BX := bel_trans B4d hb8))
                    | (go_at_call 18; ((with_reducible refine (HV.out w8).mono ?_); rintro e w9 ⟨rfl, hb9⟩; have BTX := bel_trans BX hb9)))
                all_goals go_wp2
                all_goals go_roundw
                all_goals first
                  | exact ⟨_, k + 1, rfl, by omega, by go_num, Lib.hid (bel_trans hB4' BTX), hall2⟩
                  | (simp [intOf]; omega)
              · have e2 : decide ((q.so.size : Int) > 100) = true := decide_eq_true (by omega)
                clear hVk hall n1 n2
                generalize q.nm = qn at *
                generalize q.so = qs at *
                have B4d : Below W4.heap.size W4 W4.drew := (Below.refl _ _).drew
                have HQ := Lib.hid (show ∀ w', Below W4.heap.size W4 w' → (w'.cell? ⟨wr.heap.size, 0, none⟩ = some (.string qn) ∧ w'.cell? ⟨wr.heap.size, 1, none⟩ = some (.string qs)) from fun w' h => ⟨(h.cell (p := ⟨wr.heap.size, _, none⟩) l4).trans d0, (h.cell (p := ⟨wr.heap.size, _, none⟩) l4).trans d1⟩)
                go_wp2
                go_quiet (fail)
                all_goals go_wp2
                all_goals go_ret
                all_goals exact ⟨rfl, bel_trans hB1 (bel_trans hB4' (by first | exact Below.refl _ _ | exact below_drewN (Below.refl _ _) _ | exact B4d))⟩
            · have e1 : decide ((q.nm.size : Int) > 100) = true := decide_eq_true (by omega)
              clear hVk hall n1
              generalize q.nm = qn at *
              generalize q.so = qs at *
              have B4d : Below W4.heap.size W4 W4.drew := (Below.refl _ _).drew
              have HQ := Lib.hid (show ∀ w', Below W4.heap.size W4 w' → (w'.cell? ⟨wr.heap.size, 0, none⟩ = some (.string qn) ∧ w'.cell? ⟨wr.heap.size, 1, none⟩ = some (.string qs)) from fun w' h => ⟨(h.cell (p := ⟨wr.heap.size, _, none⟩) l4).trans d0, (h.cell (p := ⟨wr.heap.size, _, none⟩) l4).trans d1⟩)
              go_wp2
              go_quiet (fail)
              all_goals go_wp2
              all_goals go_ret
              all_goals exact ⟨rfl, bel_trans hB1 (bel_trans hB4' (by first | exact Below.refl _ _ | exact below_drewN (Below.refl _ _) _ | exact B4d))⟩
          · obtain rfl : k = vn := by omega
            have HE2 := Lib.hid (HE.out hall.out)
            obtain ⟨x0, x1, x2, x3, x4, x5, x6⟩ := HS.out wr hBr
            clear HVr HE hall
            go_wp2
            go_loopw [62] (fun i wr0 => ∃ (wq : World) (k : Nat), wq = wr0 ∧ k ≤ hn ∧ i = .int .i64 k ∧ Hid (Below W1.heap.size W1 wq) ∧ Hid (∀ j q, j < k → Y[j]? = some q → q.nm.size ≤ 100 ∧ plC q.t 200 = true)) (fun i _ => hn - (intOf i).toNat)
            case atStart => exact ⟨_, 0, rfl, by omega, rfl, hB, Lib.hid fun j q h => by omega⟩
            case round =>
              obtain ⟨wq, j, rfl, hj, rfl, hB, hall⟩ := hrel
              have hBq := hB.out
              clear x0 x1 x2 x3 x4 x5 x6
              by_cases hlt : j < hn
              · obtain ⟨b, o, q, ka', kn', kc', x, xn, xc, rfl, hYk, hqz, hy, cp⟩ := HHr.out j hlt
                obtain ⟨y0, y1, y2, y3, y4, y5⟩ := hy wq hBq
                obtain ⟨W4, hW4, hB4, hs4, S4⟩ := hbox wq q.nm (opC q.t) (nmC q.t) (soC q.t) ka' kn' kc' x xn xc
                have d0 := Blk.cell S4 0
                have d1 := Blk.cell S4 1
                have d2 := Blk.cell S4 2
                have d3 := Blk.cell S4 3
                have d4 := Blk.cell S4 4
                have d5 := Blk.cell S4 5
                simp only [List.getElem?_toArray, List.getElem?_cons_zero, List.getElem?_cons_succ] at d0 d1 d2 d3 d4 d5
                have hk0 : 0 ≤ (j : Int) := by omega
                have hk1 : (j : Int) < (hn : Int) := by omega
                have hB4' := bel_trans hBq hB4
                have cq := cp W4 hB4'
                clear HHr HE2 hy S4 hs4 cp
                by_cases n1 : q.nm.size ≤ 100
                · have e1 : decide ((q.nm.size : Int) > 100) = false := decide_eq_false (by omega)
                  cases hpl : plC q.t 200 with
                  | true =>
                    have hall2 := Lib.hid (show ∀ i y, i < j + 1 → Y[i]? = some y → y.nm.size ≤ 100 ∧ plC y.t 200 = true from fun i y hi hy => by
                      by_cases e : i = j
                      · subst e; rw [hYk] at hy; injection hy with hy; rw [← hy]; exact ⟨n1, hpl⟩
                      · exact hall.out i y (by omega) hy)
                    rw [hpl] at cq
                    clear hYk hall n1 hpl
                    generalize q.nm = qn at *
                    generalize opC q.t = qo at *
                    generalize nmC q.t = qm at *
                    generalize soC q.t = qs at *
                    go_wp2_with (go_at_call 15; ((with_reducible refine cq.mono ?_); rintro e w6 ⟨rfl, hb6⟩))
                    go_roundw
                    case rel => exact ⟨_, j + 1, rfl, by omega, by go_num, Lib.hid (bel_trans hB4' hb6), hall2⟩
                    case measure => simp [intOf]; omega
                  | false =>
                    rw [hpl] at cq
                    clear hYk hall n1 hpl
                    generalize q.nm = qn at *
                    generalize opC q.t = qo at *
                    generalize nmC q.t = qm at *
                    generalize soC q.t = qs at *
                    go_wp2_with (first
                      | (go_at_call 15; ((with_reducible refine cq.mono ?_); rintro e w6 ⟨rfl, hb6⟩; have hB6 := bel_trans hB4' hb6; have ca := HA.out w6 hB6))
                      | (go_at_call 12; ((with_reducible refine ca.mono ?_); rintro e w7 ⟨rfl, hb7⟩)))
                    go_ret
                    exact ⟨rfl, bel_trans hB1 (bel_trans hB6 hb7)⟩
                · have e1 : decide ((q.nm.size : Int) > 100) = true := decide_eq_true (by omega)
                  have ca := HA.out W4 hB4'
                  clear hYk hall n1 cq
                  generalize q.nm = qn at *
                  generalize opC q.t = qo at *
                  generalize nmC q.t = qm at *
                  generalize soC q.t = qs at *
                  go_wp2_with (go_at_call 12; ((with_reducible refine ca.mono ?_); rintro e w7 ⟨rfl, hb7⟩))
                  go_ret
                  exact ⟨rfl, bel_trans hB1 (bel_trans hB4' hb7)⟩
              · obtain rfl : j = hn := by omega
                have HT := Lib.hid (HE2.out hall.out)
                clear HE2 HHr hall
                have B5d : Below W1.heap.size W1 wq.drew := hBq.drew
                go_wp2
                go_region_held3 (fun w' => w'.cell? ⟨W.heap.size, 0, none⟩ = some (.slice va k vc) ∧ w'.cell? ⟨W.heap.size, 1, none⟩ = some (.slice ha j hc) ∧ w'.cell? ⟨W.heap.size, 2, none⟩ = some (.int .i64 op) ∧ w'.cell? ⟨W.heap.size, 3, none⟩ = some (.string nm) ∧ w'.cell? ⟨W.heap.size, 4, none⟩ = some (.string so) ∧ w'.cell? ⟨W.heap.size, 5, none⟩ = some (.slice ka kn kc) ∧ w'.cell? ⟨W.heap.size, 6, none⟩ = some (.slice a n c))
                  (first | exact HS.out _ B5d | exact HS.out _ BT | exact HS.out _ BX | exact HS.out _ BTX | exact HS.out _ BA | go_keep)
                  (first
                    | (go_at_call 20; ((with_reducible refine (HT.out _ B5d).1.mono ?_); rintro e w6 ⟨rfl, hb6⟩; have BT := bel_trans B5d hb6))
                    | (go_at_call 21; ((with_reducible refine (HT.out _ BT).2.mono ?_); rintro e w7 ⟨rfl, hb7⟩; have BTX := bel_trans BT hb7))
                    | (go_at_call 21; ((with_reducible refine (HT.out _ B5d).2.mono ?_); rintro e w8 ⟨rfl, hb8⟩; have BX := bel_trans B5d hb8))
                    | (go_at_call 20; ((with_reducible refine (HT.out _ BX).1.mono ?_); rintro e w9 ⟨rfl, hb9⟩; have BTX := bel_trans BX hb9))
                    | (go_at_call 12; ((with_reducible refine (HA.out _ BTX).mono ?_); rintro e w10 ⟨rfl, hb10⟩; have BA := bel_trans BTX hb10)))
                all_goals go_wp2
                all_goals go_ret
                all_goals exact ⟨rfl, bel_trans hB1 BA⟩
    · have hd2 : decide ((hn : Int) > 20) = true := decide_eq_true (by omega)
      clear hV hY hA hV1 hY1 hA1 hVz hYz hvn hhn hsm E cP
      go_enter Tryz.func5, Tryz.ntmps5
      go_wp2_with (go_at_call 12; ((with_reducible refine ca.mono ?_); rintro e w4 ⟨rfl, hb4⟩))
      go_ret
      exact ⟨rfl, bel_trans hB1 hb4⟩
  · have hd1 : decide ((vn : Int) > 20) = true := decide_eq_true (by omega)
    clear hV hY hA hV1 hY1 hA1 hVz hYz hvn hhn hsm E cP
    go_enter Tryz.func5, Tryz.ntmps5
    go_wp2_with (go_at_call 12; ((with_reducible refine ca.mono ?_); rintro e w4 ⟨rfl, hb4⟩))
    go_ret
    exact ⟨rfl, bel_trans hB1 hb4⟩
end Go.Proofs.YtndhhmebaboeaaaGreatDoor.Sh
