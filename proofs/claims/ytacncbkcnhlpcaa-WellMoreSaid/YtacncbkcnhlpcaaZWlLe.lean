/-
  What is proved: whether a way leads to a part of a claim, as the statements of layer 13 ask.
-/
import Derived.Test.YtacncbkcnhlpcaaZWlMo
import Derived.Test.YtacncbkcnhlpcaaWP
import Derived.Test.YtacncbkcnhlpcaaZClmB
import Derived.Test.YtacncbkcnhlpcaaZLibF
import Derived.Deep.RegionHeld3
import Derived.RegionTactic
namespace Go.Proofs.Ytacncbkcnhlpcaa.Wl
open Go.RowKit L T C
set_option linter.unusedVariables false
set_option linter.unusedSimpArgs false
set_option maxRecDepth 100000

theorem sl_tail {w : World} {b o n c : Nat} {x : Int} {r : List Int} (h : SlI w (some ⟨b, o, none⟩) n c (x :: r)) : SlI w (some ⟨b, o + 1, none⟩) (n - 1) (c - 1) r := by
  obtain ⟨h1, h2, h3, h4⟩ := h
  simp only [List.length_cons] at h1
  refine ⟨by omega, by omega, (fun h => by cases h), fun hn => ?_⟩
  obtain ⟨b', o', e, hb, hc⟩ := h4 (by omega)
  injection e with e
  injection e with e1 e2
  subst e1 e2
  refine ⟨b, o + 1, rfl, hb, fun i hi => ?_⟩
  have := hc (i + 1) (by simp; omega)
  rw [show o + 1 + i = o + (i + 1) by omega]
  simpa using this
theorem sl_nil {w : World} {a : Option Addr} {c : Nat} (h : a = none → c = 0) : SlI w a 0 c [] := ⟨rfl, Nat.zero_le _, h, fun h => absurd h (by omega)⟩
theorem leadsT_step {t y : Tm} {n : Int} {r : List Int} (h0 : 0 ≤ n) (h : (argsT t)[n.toNat]? = some y) : leadsT (n :: r) t = leadsT r y := by rw [leadsT, if_neg (by omega), h]
theorem leadsT_no {t : Tm} {n : Int} {r : List Int} (h : n < 0 ∨ (argsT t).length ≤ n.toNat) : leadsT (n :: r) t = false := by
  rw [leadsT]
  by_cases h0 : n < 0
  · rw [if_pos h0]
  · rw [if_neg h0, List.getElem?_eq_none (by omega)]
theorem drop_at {r : List Int} {k : Nat} {x : Int} (h : r[k]? = some x) : r.drop k = x :: r.drop (k + 1) := by
  obtain ⟨hk, rfl⟩ := List.getElem?_eq_some_iff.1 h
  exact List.drop_eq_getElem_cons hk
def LeadOk (X : List Int) : Prop := ∀ (c : Cl) (k : SS) (a : Option Addr) (n cc : Nat) (p : Option Addr) (pn pc : Nat) (w : World), SlI w p pn pc X → pn ≤ 1000000 → ArWC w c k a n cc → wt c ≤ 1000000 →
  Calls Try.prog 22 #[.agg #[.int .i64 (opC c), .string (nmC c), .string (soC c), .slice k.a k.n k.c, .slice a n cc], .slice p pn pc] w fun e w' => e = .returned (.bool (leadsC X c)) ∧ Below w.heap.size w w'
theorem lead_nil : LeadOk [] := by
  intro c k a n cc p pn pc w hX hpn hA hwt
  obtain rfl : pn = 0 := hX.1
  obtain ⟨W1, hW1, hB1, hs1, S1⟩ := cbox1 w (opC c) (nmC c) (soC c) k a n cc
  have HB := Lib.hid hB1
  have hr : leadsC [] c = true := by rw [leadsC]
  rw [hr]
  clear hX hA hB1 hs1 S1 hr
  go_enter Try.func22, Try.ntmps22
  go_wp2
  go_ret
  exact ⟨rfl, HB.out⟩
set_option maxHeartbeats 16000000 in
theorem lead_step (n0 : Int) (r : List Int) (ih : LeadOk r) : LeadOk (n0 :: r) := by
  intro c k a n cc p pn pc w hX hpn hA hwt
  have hT := ArWC.terms hA
  have hC := ArWC.subs hA
  have hkl : k.n = (tsC c).length := hT.1
  have hnl : n = (subC c).length := hC.1
  have hpl : pn = r.length + 1 := by rw [hX.1]; rfl
  have hsz := wt_mk c
  obtain ⟨W1, hW1, hB1, hs1, S1⟩ := cbox1 w (opC c) (nmC c) (soC c) k a n cc
  obtain ⟨b, o, x0, rfl, hb, y0, hx0⟩ := SlI.at (hX.below hB1) (k := 0) (by omega)
  have hx0 : n0 = x0 := by simpa using hx0
  rw [Nat.add_zero] at y0
  subst hx0
  have hpc : pn ≤ pc := hX.2.1
  obtain ⟨c0, c1, c2, c3, c4⟩ := S1.five
  obtain ⟨R, hR⟩ : ∃ R, leadsC (n0 :: r) c = R := ⟨_, rfl⟩
  rw [hR]
  have HR := Lib.hid hR
  have HB := Lib.hid hB1
  have HS1 := Lib.hid S1
  have Hs1 := Lib.hid hs1
  have HX := Lib.hid (hX.below hB1)
  have HT := Lib.hid (TsW.b hT hB1)
  have HC := Lib.hid (CsW.b hC hB1)
  have Hkl := Lib.hid hkl
  have Hnl := Lib.hid hnl
  have Hpl := Lib.hid hpl
  have Hih := Lib.hid ih
  have hwm : ∀ x ∈ subC c, wt x ≤ 1000000 := fun x hx => by have := wts_mem hx; omega
  have Hwm := Lib.hid hwm
  obtain ⟨ka, kn, kc⟩ := k
  dsimp only at *
  have hkn : kn ≤ 1000000 := by have : ∀ l : List Tm, l.length ≤ sizes l := (fun l => by induction l with | nil => exact Nat.zero_le _ | cons t l ih => rw [sizes, List.length_cons]; have : 1 ≤ size t := (by cases t; rw [size]; omega); omega); have := this (tsC c); omega
  have hn : n ≤ 1000000 := by have : ∀ l : List Cl, l.length ≤ wts l := (fun l => by induction l with | nil => exact Nat.zero_le _ | cons t l ih => rw [wts, List.length_cons, wt_mk]; omega); have := this (subC c); omega
  have g0 : ((pn : Int) == 0) = false := by simp; omega
  have g0' : ((pn : Int) = 0) = False := by simp; omega
  have i0 : (0 : Int) ≤ 0 := by omega
  have i1 : (0 : Int) < (pn : Int) := by omega
  have i2 : (1 : Int) ≤ (pn : Int) := by omega
  have i3 : (0 : Int) ≤ 1 := by omega
  clear ih hX hA hT hC hkl hnl hpl hsz hB1 S1 hs1 hR hwm hwt
  by_cases hneg : n0 < 0
  · have d0 : decide (n0 < 0) = true := decide_eq_true hneg
    have hRf : Hid (R = false) := Lib.hid (by rw [← HR.out, leadsC, if_pos hneg])
    go_enter Try.func22, Try.ntmps22
    go_wp2
    go_ret
    exact ⟨by rw [hRf.out] <;> rfl, HB.out⟩
  · have d0 : decide (n0 < 0) = false := decide_eq_false hneg
    obtain ⟨m0, rfl⟩ : ∃ m0 : Nat, n0 = (m0 : Int) := ⟨n0.toNat, by omega⟩
    have w0 : wrap64 ((kn : Int) + (n : Int)) = (kn : Int) + (n : Int) := by unfold wrap64; omega
    have w0' : IntKind.i64.wrap ((kn : Int) + (n : Int)) = (kn : Int) + (n : Int) := by rw [← w0]; simp [wrap64, IntKind.wrap, IntKind.bits, IntKind.signed]; omega
    by_cases hge : kn + n ≤ m0
    · have d1 : decide ((kn : Int) + (n : Int) ≤ (m0 : Int)) = true := decide_eq_true (by omega)
      have d1' : (kn : Int) + (n : Int) ≤ (m0 : Int) := by omega
      have hRf : Hid (R = false) := Lib.hid (by
        rw [← HR.out, leadsC, if_neg hneg, Int.toNat_natCast, if_neg (by rw [← Hkl.out]; omega), List.getElem?_eq_none (by rw [← Hkl.out, ← Hnl.out]; omega)])
      go_enter Try.func22, Try.ntmps22
      go_wp2
      go_ret
      exact ⟨by rw [hRf.out] <;> rfl, HB.out⟩
    · have d1 : decide ((kn : Int) + (n : Int) ≤ (m0 : Int)) = false := decide_eq_false (by omega)
      have d1' : ¬ (kn : Int) + (n : Int) ≤ (m0 : Int) := by omega
      by_cases hsub : kn ≤ m0
      · have d2 : decide ((kn : Int) ≤ (m0 : Int)) = true := decide_eq_true (by omega)
        have d2' : (kn : Int) ≤ (m0 : Int) := by omega
        obtain ⟨j, hj⟩ : ∃ j, j = m0 - kn := ⟨_, rfl⟩
        have hjm : (m0 : Int) = (kn : Int) + (j : Int) := by omega
        obtain ⟨bb, oo, x, k5, a5, n5, c5, rfl, hbb, z0, z1, z2, z3, z4, hx, hAx⟩ := IsC.at HC.out (i := j) (by omega)
        have hRf : Hid (R = leadsC r x) := Lib.hid (by
          rw [← HR.out, leadsC, if_neg hneg, Int.toNat_natCast, if_neg (by rw [← Hkl.out]; omega), ← Hkl.out, ← hj, hx])
        have j0 : ((m0 : Int) - (kn : Int)).toNat = j := by omega
        have j1 : 0 ≤ (m0 : Int) - (kn : Int) := by omega
        have j2 : (m0 : Int) - (kn : Int) < (n : Int) := by omega
        have w2 : wrap64 ((m0 : Int) - (kn : Int)) = (m0 : Int) - (kn : Int) := by unfold wrap64; omega
        have w2' : IntKind.i64.wrap ((m0 : Int) - (kn : Int)) = (m0 : Int) - (kn : Int) := by rw [← w2]; simp [wrap64, IntKind.wrap, IntKind.bits, IntKind.signed]; omega
        have hBd : Below W1.heap.size W1 W1.drew := (Below.refl _ _).drew
        have cL : ∀ (p' : Option Addr) (pn' pc' : Nat), SlI W1.drew p' pn' pc' r → _ := fun p' pn' pc' h => Hih.out x k5 a5 n5 c5 p' pn' pc' W1.drew h (by have := h.1; have := Hpl.out; omega) (ArWC.b hAx hBd) (Hwm.out x (List.mem_of_getElem? hx))
        have hTl : SlI W1.drew (some ⟨b, o + 1, none⟩) (pn - 1) (pc - 1) r := (sl_tail HX.out).below hBd
        have hTl1 : pc = 1 → SlI W1.drew (some ⟨b, o, none⟩) 0 0 r := fun e => by
          have hr0 : r = [] := List.eq_nil_of_length_eq_zero (by have := Hpl.out; omega)
          rw [hr0]; exact ⟨rfl, Nat.le_refl _, (fun h => by cases h), fun h => absurd h (by omega)⟩
        rw [hRf.out]
        generalize leadsC r x = RR at *
        have HTl := Lib.hid hTl
        have HTl1 := Lib.hid hTl1
        clear hx hAx hj hTl hTl1 HR hRf hjm
        by_cases hpc1 : pc = 1
        · obtain rfl : pn = 1 := by omega
          subst hpc1
          have cL1 := cL _ _ _ (HTl1.out rfl)
          clear cL
          go_enter Try.func22, Try.ntmps22
          go_wp2_with fail
          go_region_held3 (fun w' => w'.cell? ⟨w.heap.size, 3, none⟩ = some (.slice ka kn kc) ∧ w'.cell? ⟨w.heap.size, 4, none⟩ = some (.slice (some ⟨bb, oo, none⟩) n cc) ∧ w'.cell? ⟨bb, oo + j * 5, none⟩ = some (.int .i64 (opC x)) ∧ w'.cell? ⟨bb, oo + j * 5 + 1, none⟩ = some (.string (nmC x)) ∧ w'.cell? ⟨bb, oo + j * 5 + 1 + 1, none⟩ = some (.string (soC x)) ∧ w'.cell? ⟨bb, oo + j * 5 + 1 + 1 + 1, none⟩ = some (.slice k5.a k5.n k5.c) ∧ w'.cell? ⟨bb, oo + j * 5 + 1 + 1 + 1 + 1, none⟩ = some (.slice a5 n5 c5))
            (first | (exact ⟨c3, c4, z0, z1, z2, z3, z4⟩) | (exact ⟨(hb9.cell (p := ⟨w.heap.size, 3, none⟩) (by have := Hs1.out; show w.heap.size < W1.heap.size; omega)).trans c3, (hb9.cell (p := ⟨w.heap.size, 4, none⟩) (by have := Hs1.out; show w.heap.size < W1.heap.size; omega)).trans c4, (hb9.cell (p := ⟨bb, _, none⟩) hbb).trans z0, (hb9.cell (p := ⟨bb, _, none⟩) hbb).trans z1, (hb9.cell (p := ⟨bb, _, none⟩) hbb).trans z2, (hb9.cell (p := ⟨bb, _, none⟩) hbb).trans z3, (hb9.cell (p := ⟨bb, _, none⟩) hbb).trans z4⟩) | go_keep)
            ((go_at_call 22; ((with_reducible refine cL1.mono ?_); rintro e w9 ⟨rfl, hb9⟩)))
          all_goals
            go_wp2
            go_ret
            exact ⟨rfl, bel_trans HB.out (bel_trans hBd hb9)⟩
        · have cL1 := cL _ _ _ HTl.out
          have hpc2 : ((pc : Int) == 1) = false := by simp; omega
          clear cL
          go_enter Try.func22, Try.ntmps22
          go_wp2_with fail
          go_region_held3 (fun w' => w'.cell? ⟨w.heap.size, 3, none⟩ = some (.slice ka kn kc) ∧ w'.cell? ⟨w.heap.size, 4, none⟩ = some (.slice (some ⟨bb, oo, none⟩) n cc) ∧ w'.cell? ⟨bb, oo + j * 5, none⟩ = some (.int .i64 (opC x)) ∧ w'.cell? ⟨bb, oo + j * 5 + 1, none⟩ = some (.string (nmC x)) ∧ w'.cell? ⟨bb, oo + j * 5 + 1 + 1, none⟩ = some (.string (soC x)) ∧ w'.cell? ⟨bb, oo + j * 5 + 1 + 1 + 1, none⟩ = some (.slice k5.a k5.n k5.c) ∧ w'.cell? ⟨bb, oo + j * 5 + 1 + 1 + 1 + 1, none⟩ = some (.slice a5 n5 c5))
            (first | (exact ⟨c3, c4, z0, z1, z2, z3, z4⟩) | (exact ⟨(hb9.cell (p := ⟨w.heap.size, 3, none⟩) (by have := Hs1.out; show w.heap.size < W1.heap.size; omega)).trans c3, (hb9.cell (p := ⟨w.heap.size, 4, none⟩) (by have := Hs1.out; show w.heap.size < W1.heap.size; omega)).trans c4, (hb9.cell (p := ⟨bb, _, none⟩) hbb).trans z0, (hb9.cell (p := ⟨bb, _, none⟩) hbb).trans z1, (hb9.cell (p := ⟨bb, _, none⟩) hbb).trans z2, (hb9.cell (p := ⟨bb, _, none⟩) hbb).trans z3, (hb9.cell (p := ⟨bb, _, none⟩) hbb).trans z4⟩) | go_keep)
            ((go_at_call 22; ((with_reducible refine cL1.mono ?_); rintro e w9 ⟨rfl, hb9⟩)))
          all_goals
            go_wp2
            go_ret
            exact ⟨rfl, bel_trans HB.out (bel_trans hBd hb9)⟩
      · have d2 : decide ((kn : Int) ≤ (m0 : Int)) = false := decide_eq_false (by omega)
        have d2' : ¬ (kn : Int) ≤ (m0 : Int) := by omega
        obtain ⟨bb, oo, y, a', n', c', rfl, hbb, z0, z1, z2, z3, hy, hAy⟩ := IsT.at HT.out (k := m0) (by omega)
        have hRf : Hid (leadsT r y = R) := Lib.hid (by
          rw [← HR.out, leadsC, if_neg hneg, Int.toNat_natCast, if_pos (by rw [← Hkl.out]; omega), hy])
        have j0 : 0 ≤ (m0 : Int) := by omega
        have j1 : (m0 : Int) < (kn : Int) := by omega
        obtain ⟨W5, hW5, hB5, hs5, T5⟩ := box1 W1 (opT y) (nameT y) (numT y) a' n' c'
        have HAy := Lib.hid hAy
        have HT5 := Lib.hid T5
        have HB5 := Lib.hid hB5
        have hbW : b < W1.heap.size := hb
        obtain ⟨t0, t1, t2, t3⟩ := T5.four
        clear hAy T5 hB5 hs5 hy HR HC HT Hih Hwm
        go_enter Try.func22, Try.ntmps22
        go_wp2
        go_loopw [7] (fun i wr0 => ∃ (wr : World) (k : Nat) (u : Tm) (ua : Option Addr) (un uc : Nat), wr = wr0 ∧ 1 ≤ k ∧ k ≤ pn ∧ i = .int .i64 k ∧ Below W1.heap.size W1 wr ∧ Hid (TBox wr W1.heap.size (opT u) (nameT u) (numT u) ua un uc) ∧ Hid (ArW W1 u ua un uc) ∧ Hid (leadsT (r.drop (k - 1)) u = R)) (fun i _ => pn - (intOf i).toNat)
        case atStart => exact ⟨_, 1, y, a', n', c', rfl, Nat.le_refl _, by omega, rfl, HB5.out, HT5, HAy, hRf⟩
        case round =>
          obtain ⟨wr, k, u, ua, un, uc, rfl, hk1, hk, rfl, hBr, hTB, hAu, hRk⟩ := hrel
          by_cases hlt : k < pn
          · obtain ⟨b3, o3, x, e3, hb3, x0, hx⟩ := SlI.at HX.out hlt
            injection e3 with e3
            injection e3 with e3 e4
            subst e3 e4
            have hx2 : r[k - 1]? = some x := by
              rw [show k = (k - 1) + 1 by omega] at hx
              simpa using hx
            have x1 := (hBr.cell (p := ⟨b, _, none⟩) hbW).trans x0
            obtain ⟨p0, p1, p2, p3⟩ := hTB.out.four
            obtain ⟨q0, q1, q2, q3⟩ := hTB.out.free
            have hun : un = (argsT u).length := (ArW.args hAu.out).1
            have k0 : 0 ≤ (k : Int) := by omega
            have k1 : (k : Int) < (pn : Int) := by omega
            have hstep := drop_at hx2
            by_cases hxn : x < 0
            · have e0 : decide (x < 0) = true := decide_eq_true hxn
              have hRf2 : Hid (R = false) := Lib.hid (by rw [← hRk.out, hstep]; exact leadsT_no (.inl hxn))
              clear hx hx2 hun hstep hRk hTB hAu
              go_wp2
              go_quiet (fail)
              go_wp2
              go_ret
              exact ⟨by rw [hRf2.out] <;> rfl, bel_trans HB.out (below_drewN hBr _)⟩
            · have e0 : decide (x < 0) = false := decide_eq_false hxn
              obtain ⟨xn, rfl⟩ : ∃ xn : Nat, x = (xn : Int) := ⟨x.toNat, by omega⟩
              by_cases hxg : un ≤ xn
              · have e1 : decide ((un : Int) ≤ (xn : Int)) = true := decide_eq_true (by omega)
                have e1' : (un : Int) ≤ (xn : Int) := by omega
                have hRf2 : Hid (R = false) := Lib.hid (by rw [← hRk.out, hstep]; exact leadsT_no (.inr (by rw [← hun]; simpa using hxg)))
                clear hx hx2 hun hstep hRk hTB hAu
                go_wp2
                go_quiet (fail)
                go_wp2
                go_ret
                exact ⟨by rw [hRf2.out] <;> rfl, bel_trans HB.out (below_drewN hBr _)⟩
              · have e1 : decide ((un : Int) ≤ (xn : Int)) = false := decide_eq_false (by omega)
                have e1' : ¬ (un : Int) ≤ (xn : Int) := by omega
                obtain ⟨b2, o2, v, va, vn, vc, rfl, hb2, y0', y1', y2', y3', hv, hAv⟩ := IsT.at (ArW.args hAu.out) (k := xn) (by omega)
                have v0 := (hBr.cell (p := ⟨b2, _, none⟩) hb2).trans y0'
                have v1 := (hBr.cell (p := ⟨b2, _, none⟩) hb2).trans y1'
                have v2 := (hBr.cell (p := ⟨b2, _, none⟩) hb2).trans y2'
                have v3 := (hBr.cell (p := ⟨b2, _, none⟩) hb2).trans y3'
                have l0 : 0 ≤ (xn : Int) := by omega
                have l1 : (xn : Int) < (un : Int) := by omega
                have hnew : Hid (leadsT (r.drop (k + 1 - 1)) v = R) := Lib.hid (by
                  rw [← hRk.out, hstep, leadsT_step l0 (by rw [Int.toNat_natCast]; exact hv)]
                  rw [show k - 1 + 1 = k + 1 - 1 by omega])
                have hne : b2 ≠ W1.heap.size := Nat.ne_of_lt hb2
                have HAv : Hid (ArW W1 v va vn vc) := Lib.hid hAv
                have hPut : ∀ j, Hid (TBox (((((wr.drewN j).setCell ⟨W1.heap.size, 0, none⟩ (.int .i64 (opT v))).setCell ⟨W1.heap.size, 1, none⟩ (.string (nameT v))).setCell ⟨W1.heap.size, 2, none⟩ (.int .i64 (numT v))).setCell ⟨W1.heap.size, 3, none⟩ (.slice va vn vc)) W1.heap.size (opT v) (nameT v) (numT v) va vn vc) := fun j => Lib.hid (TBox.put (TBox.b hTB.out (below_drewN (Below.refl _ _) j)) _ _ _ _ _ _)
                have hBl : ∀ j (a0 a1 a2 a3 : Value), Below W1.heap.size W1 (((((wr.drewN j).setCell ⟨W1.heap.size, 0, none⟩ a0).setCell ⟨W1.heap.size, 1, none⟩ a1).setCell ⟨W1.heap.size, 2, none⟩ a2).setCell ⟨W1.heap.size, 3, none⟩ a3) := fun j a0 a1 a2 a3 =>
                  ((((below_drewN hBr j).setCell (p := ⟨W1.heap.size, 0, none⟩) (Nat.le_refl _) a0).setCell (p := ⟨W1.heap.size, 1, none⟩) (Nat.le_refl _) a1).setCell (p := ⟨W1.heap.size, 2, none⟩) (Nat.le_refl _) a2).setCell (p := ⟨W1.heap.size, 3, none⟩) (Nat.le_refl _) a3
                clear hx hx2 hun hstep hRk hAu hv hAv hTB y0' y1' y2' y3' x0
                go_wp2
                go_quiet (fail)
                go_wp2
                go_region
                all_goals
                  go_wp2
                  go_roundw
                  case rel => exact ⟨_, k + 1, v, va, vn, vc, rfl, by omega, by omega, by go_num, hBl _ _ _ _ _, hPut _, HAv, hnew⟩
                  case measure => simp [intOf]; omega
          · obtain rfl : k = pn := by omega
            have hRf2 : Hid (R = true) := Lib.hid (by rw [← hRk.out, List.drop_eq_nil_of_le (by have := Hpl.out; omega), leadsT])
            have k0 : ¬ (k : Int) < (k : Int) := by omega
            clear hRk hTB hAu
            go_wp2
            go_ret
            exact ⟨by rw [hRf2.out] <;> rfl, bel_trans HB.out hBr⟩
theorem leads_any : ∀ X : List Int, LeadOk X
  | [] => lead_nil
  | n0 :: r => lead_step n0 r (leads_any r)
end Go.Proofs.Ytacncbkcnhlpcaa.Wl
