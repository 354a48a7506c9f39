/-
  What is proved: the law over two substitutions one behind the other.
-/
import Derived.Test.YtbmniajimkondaaBQ
import Derived.Test.YtbmniajimkondaaBV
import Derived.Test.YtbmniajimkondaaZClmX
import Derived.Deep.Cut
import Derived.Deep.CutRange
namespace Go.Proofs.Ytbmniajimkondaa.U
open Go.RowKit L T C B
set_option linter.unusedVariables false
set_option linter.unusedSimpArgs false

set_option maxRecDepth 100000 in
set_option maxHeartbeats 64000000 in
theorem onceIn (a b : List Pr) (A : Option Addr) (n d : Nat) (A' : Option Addr) (n' d' : Nat) (t : Tm) (aT : Option Addr) (nT cT : Nat) (c : Cl) (kA : SS) (aA : Option Addr) (nA cA : Nat) (w : World) (H : UsW w A n d a) (hsm : smU a) (hz : ∀ p ∈ a, zT p.t) (H' : UsW w A' n' d' b) (hsm' : smU b) (hz' : ∀ p ∈ b, zT p.t) (HT : ArW w t aT nT cT) (hst : smT t) (HA : ArWC w c kA aA nA cA) (hsc : smC c) (q1 : n ≤ 6) (q2 : n' ≤ 6) (e1 : smallU a = true) (e2 : smallU b = true) (q3 : szTo 30 t ≤ 30) (q4 : wtTo 30 c ≤ 30) :
    Calls Try.prog 8 #[.slice A n d, .slice A' n' d', .agg #[.int .i64 (opT t), .string (nameT t), .int .i64 (numT t), .slice aT nT cT], .agg #[.int .i64 (opC c), .string (nmC c), .string (soC c), .slice kA.a kA.n kA.c, .slice aA nA cA]] w fun e w' => e = .returned (.bool true) ∧ Below w.heap.size w w' := by
  obtain ⟨W, hW, hB0, hs, ST, SC⟩ := ocBoxes w (opT t) (nameT t) (numT t) aT nT cT (opC c) (nmC c) (soC c) kA aA nA cA
  have gT := ArW.b HT hB0
  have gA := ArWC.b HA hB0
  have gU := UsW.b H hB0
  have gV := UsW.b H' hB0
  have g0 := fun (w' : World) => goes_any w'
  have z1 := fun (w' : World) (h : Below W.heap.size W w') => SmallU_any a A n d w' (UsW.b gU h)
  have z2 := fun (w' : World) (h : Below W.heap.size W w') => SmallU_any b A' n' d' w' (UsW.b gV h)
  have z3 := fun (w' : World) (h : Below W.heap.size W w') => Size_any t aT nT cT 30 w' (by omega) (ArW.b gT h)
  have z4 := fun (w' : World) (h : Below W.heap.size W w') => Big_any c kA aA nA cA 30 w' (by omega) (ArWC.b gA h)
  rw [show ((30 : Nat) : Int) = 30 from rfl] at z3 z4
  have HSA := Lib.hid SC
  have HST := Lib.hid ST
  have HQ := Lib.hid (show ∀ (w' : World), Below W.heap.size W w' → w'.cell? ⟨w.heap.size, 0, none⟩ = some (.int .i64 (opT t)) ∧ w'.cell? ⟨w.heap.size, 1, none⟩ = some (.string (nameT t)) ∧ w'.cell? ⟨w.heap.size, 2, none⟩ = some (.int .i64 (numT t)) ∧ w'.cell? ⟨w.heap.size, 3, none⟩ = some (.slice aT nT cT) ∧ w'.cell? ⟨w.heap.size + 1, 0, none⟩ = some (.int .i64 (opC c)) ∧ w'.cell? ⟨w.heap.size + 1, 1, none⟩ = some (.string (nmC c)) ∧ w'.cell? ⟨w.heap.size + 1, 2, none⟩ = some (.string (soC c)) ∧ w'.cell? ⟨w.heap.size + 1, 3, none⟩ = some (.slice kA.a kA.n kA.c) ∧ w'.cell? ⟨w.heap.size + 1, 4, none⟩ = some (.slice aA nA cA) from fun w' h => (by
    obtain ⟨q0, q1, q2, q3⟩ := (TBox.b HST.out h).four
    obtain ⟨p0, p1, p2, p3, p4⟩ := (CBox.b HSA.out h).five
    exact ⟨q0, q1, q2, q3, p0, p1, p2, p3, p4⟩))
  obtain ⟨t0, t1, t2, t3⟩ := ST.four
  obtain ⟨a0, a1, a2, a3, a4⟩ := SC.five
  have hBd : Below W.heap.size W W := Below.refl _ _
  have hna : n = a.length := H.1
  have hnb : n' = b.length := H'.1
  have hsza : ∀ p ∈ a, size p.t ≤ 60 := (smallU_of e1).2
  have hszb : ∀ p ∈ b, size p.t ≤ 60 := (smallU_of e2).2
  have hwt : size t ≤ 30 := (szTo_le t 30).1 q3
  have hwc : wt c ≤ 30 := Nat.le_trans (wtTo_le c 30 q4) q4
  rw [e1] at z1
  rw [e2] at z2
  have p1 : decide ((6 : Int) < (n : Int)) = false := decide_eq_false (by omega)
  have p2 : decide ((6 : Int) < (n' : Int)) = false := decide_eq_false (by omega)
  have p3 : decide ((30 : Int) < (szTo 30 t : Int)) = false := decide_eq_false (by omega)
  have p4 : decide (30 < wtTo 30 c) = false := decide_eq_false (by omega)
  rw [p4] at z4
  have cz := Lib.hid (show ∀ (p : Pr) (x : Option Addr) (y z : Nat) (w' : World), ArW w' p.t x y z → _ from fun p x y z w' h => Size_any p.t x y z 20 w' (by omega) h)
  have HTh := Lib.hid (show ∀ (w' : World), Below W.heap.size W w' → _ from fun w' h => Then_any a b hsm (fun p hp => by have := hsza p hp; omega) hsm' (fun p hp => by have := hszb p hp; omega) A n d A' n' d' w' (by omega) (UsW.b gU h) (UsW.b gV h))
  -- what is called with what Then has returned
  have hX1 : size (sbT (getK a 0) t) ≤ 1800 := by
    have := size_sb (b := a) (M := 60) (by omega) hsza 0 t
    rw [getLK hz] at this
    omega
  have hX2 : smT (sbT (getK a 0) t) := by
    have := smT_sb (b := a) (fun p hp => (hsm p hp).1) 0 t hst
    rwa [getLK hz] at this
  have HP := Lib.hid (show ∀ L : List Pr, ThenF a b L →
      (∀ (w' : World), Below W.heap.size W w' → Calls Try.prog 34 #[.slice A n d, .agg #[.int .i64 (opT t), .string (nameT t), .int .i64 (numT t), .slice aT nT cT]] w' fun e w1 => AnyT (sbT (getK a 0) t) w' e w1) ∧
      (∀ (x : Option Addr) (y z : Nat) (w' : World), Below W.heap.size W w' → ArW w' (sbT (getK a 0) t) x y z → Calls Try.prog 34 #[.slice A' n' d', .agg #[.int .i64 (opT (sbT (getK a 0) t)), .string (nameT (sbT (getK a 0) t)), .int .i64 (numT (sbT (getK a 0) t)), .slice x y z]] w' fun e w1 => AnyT (sbT (getK L 0) t) w' e w1) ∧
      (∀ (A2 : Option Addr) (N2 C2 : Nat) (w' : World), Below W.heap.size W w' → UsW w' A2 N2 C2 L → Calls Try.prog 34 #[.slice A2 N2 C2, .agg #[.int .i64 (opT t), .string (nameT t), .int .i64 (numT t), .slice aT nT cT]] w' fun e w1 => AnyT (sbT (getK L 0) t) w' e w1) from fun L hL => by
    have h60 := then_all hz' hL (P := fun u => size u ≤ 3600) (fun p hp => by have := hszb p hp; omega) (fun q hq => by
      have := size_sb (b := b) (M := 60) (by omega) hszb 0 q.t
      have h2 := hsza q hq
      have : size q.t * 60 ≤ 60 * 60 := Nat.mul_le_mul_right 60 h2
      omega)
    have hnm := then_names hL hsm hsm'
    have hLl : L.length < maxLen := by have := hL.2.1; unfold maxLen; omega
    refine ⟨fun w' h => oc_apply a (by unfold maxLen; omega) (fun p hp => by have := hsza p hp; omega) (fun p hp => (hsm p hp).2) t hst (by omega) A n d aT nT cT w' (UsW.b gU h) (ArW.b gT h), fun x y z w' h hx => ?_, fun A2 N2 C2 w' h hU => oc_apply L hLl (fun p hp => by have := h60 p hp; omega) hnm t hst (by omega) A2 N2 C2 aT nT cT w' hU (ArW.b gT h)⟩
    rw [← once_term hz hz' hL t]
    exact oc_apply b (by unfold maxLen; omega) (fun p hp => by have := hszb p hp; omega) (fun p hp => (hsm' p hp).2) _ hX2 (by omega) A' n' d' x y z w' (UsW.b gV h) hx)
  have HR := Lib.hid (show (∀ (w' : World), Below W.heap.size W w' → Calls Try.prog 36 #[.slice A n d, .agg #[.int .i64 (opC c), .string (nmC c), .string (soC c), .slice kA.a kA.n kA.c, .slice aA nA cA]] w' fun e w1 => e = .returned (.bool (r10 a c)) ∧ Below w'.heap.size w' w1) ∧
      (∀ (w' : World), Below W.heap.size W w' → Calls Try.prog 36 #[.slice A' n' d', .agg #[.int .i64 (opC c), .string (nmC c), .string (soC c), .slice kA.a kA.n kA.c, .slice aA nA cA]] w' fun e w1 => e = .returned (.bool (r10 b c)) ∧ Below w'.heap.size w' w1) from
    ⟨fun w' h => right10E_any a c (by omega) A n d kA aA nA cA w' (UsW.b gU h) (ArWC.b gA h), fun w' h => right10E_any b c (by omega) A' n' d' kA aA nA cA w' (UsW.b gV h) (ArWC.b gA h)⟩)
  have HC := Lib.hid (show ∀ L : List Pr, ThenF a b L → r10 a c = true → r10 b c = true →
      (∀ (w' : World), Below W.heap.size W w' → Calls Try.prog 38 #[.slice A n d, .agg #[.int .i64 (opC c), .string (nmC c), .string (soC c), .slice kA.a kA.n kA.c, .slice aA nA cA]] w' fun e w1 => AnyC (sbCl a 0 c) w' e w1) ∧
      (∀ (k0 : Option Addr) (k1 k2 : Nat) (x : Option Addr) (y z : Nat) (w' : World), Below W.heap.size W w' → ArWC w' (sbCl a 0 c) ⟨k0, k1, k2⟩ x y z → Calls Try.prog 38 #[.slice A' n' d', .agg #[.int .i64 (opC (sbCl a 0 c)), .string (nmC (sbCl a 0 c)), .string (soC (sbCl a 0 c)), .slice k0 k1 k2, .slice x y z]] w' fun e w1 => AnyC (sbCl L 0 c) w' e w1) ∧
      (∀ (A2 : Option Addr) (N2 C2 : Nat) (w' : World), Below W.heap.size W w' → UsW w' A2 N2 C2 L → Calls Try.prog 38 #[.slice A2 N2 C2, .agg #[.int .i64 (opC c), .string (nmC c), .string (soC c), .slice kA.a kA.n kA.c, .slice aA nA cA]] w' fun e w1 => AnyC (sbCl L 0 c) w' e w1) from fun L hL h1 h2 => by
    have h60 := then_all hz' hL (P := fun u => size u ≤ 3600) (fun p hp => by have := hszb p hp; omega) (fun q hq => by
      have := size_sb (b := b) (M := 60) (by omega) hszb 0 q.t
      have h2 := hsza q hq
      have : size q.t * 60 ≤ 60 * 60 := Nat.mul_le_mul_right 60 h2
      omega)
    have hnm := then_names hL hsm hsm'
    have hLl : L.length < maxLen := by have := hL.2.1; unfold maxLen; omega
    have hoa := r10_low h1
    have hw1 : wt (sbCl a 0 c) ≤ 1800 := by
      have := wt_sb (b := a) (M := 60) (by omega) hsza c 0
      rw [sbRl_eq hoa c 0 (Int.le_refl _) (by omega)] at this
      omega
    have hs1 : smC (sbCl a 0 c) := by
      have := smC_sb (b := a) (fun p hp => (hsm p hp).1) c 0 hsc
      rwa [sbRl_eq hoa c 0 (Int.le_refl _) (by omega)] at this
    refine ⟨fun w' h => oc_applyC a (by unfold maxLen; omega) (fun p hp => by have := hsza p hp; omega) (fun p hp => (hsm p hp).2) c hsc (by omega) A n d kA aA nA cA w' (UsW.b gU h) (ArWC.b gA h), fun k0 k1 k2 x y z w' h hx => ?_, fun A2 N2 C2 w' h hU => oc_applyC L hLl (fun p hp => by have := h60 p hp; omega) hnm c hsc (by omega) A2 N2 C2 kA aA nA cA w' hU (ArWC.b gA h)⟩
    rw [← once_claim hz hz' hL hoa (r10_low h2) hsza c hwc]
    exact oc_applyC b (by unfold maxLen; omega) (fun p hp => by have := hszb p hp; omega) (fun p hp => (hsm' p hp).2) _ hs1 (by omega) A' n' d' ⟨k0, k1, k2⟩ x y z w' (UsW.b gV h) hx)
  have cTm := fun (r : Tm) (A : Option Addr) (N C : Nat) (A' : Option Addr) (N' C' : Nat) (w' : World) (h : ArW w' r A N C) (h' : ArW w' r A' N' C') => (Term_any r r A N C A' N' C' w' h h').mono (R' := fun e w1 => e = .returned (.bool true) ∧ Below w'.heap.size w' w1) fun e w1 h => by rw [eqT_iff.2 rfl] at h; exact h
  have cEx := fun (r : Cl) (K0 : Option Addr) (K1 K2 : Nat) (A : Option Addr) (N C : Nat) (V0 : Option Addr) (V1 V2 : Nat) (A' : Option Addr) (N' C' : Nat) (w' : World) (h : ArWC w' r ⟨K0, K1, K2⟩ A N C) (h' : ArWC w' r ⟨V0, V1, V2⟩ A' N' C') => (Exact_any r r ⟨K0, K1, K2⟩ A N C ⟨V0, V1, V2⟩ A' N' C' w' h h').mono (R' := fun e w1 => e = .returned (.bool true) ∧ Below w'.heap.size w' w1) fun e w1 h => by rw [exC_refl] at h; exact h
  have GU := Lib.hid gU
  have GV := Lib.hid gV
  obtain ⟨kAa, kAn, kAc⟩ := kA
  dsimp only at *
  unfold AnyT at HP
  unfold AnyC at HC
  clear ST SC gT gA gU gV HT HA H H' hst hsc hsm hz hsm' hz' hs HSA HST e1 e2 q3 q4 hsza hszb hwt hwc hX1 hX2 p4 hna hnb
  generalize sbT (getK a 0) t = rX at *
  generalize sbCl a 0 c = rY at *
  generalize r10 a c = RA at *
  generalize r10 b c = RB at *
  generalize szTo 30 t = sz at *
  generalize wtTo 30 c = wz at *
  have HQ' := HQ
  generalize opC c = oA at *
  generalize nmC c = mA at *
  generalize soC c = pA at *
  generalize opT t = oT at *
  generalize nameT t = mT at *
  generalize numT t = pT at *
  go_enter Try.func8, Try.ntmps8
  go_upto_region 4 with (first
    | (go_at_call 24; ((with_reducible refine (z1 _ (by assumption)).mono ?_); rintro e wX ⟨rfl, hbX⟩; have Bz : Below W.heap.size W wX := bel_trans (by first | assumption | exact Below.drew (by assumption) | exact Below.refl _ _ | exact (Below.refl _ _).drew) hbX; obtain ⟨t0, t1, t2, t3, a0, a1, a2, a3, a4⟩ := HQ.out _ Bz))
    | (go_at_call 24; ((with_reducible refine (z2 _ (by assumption)).mono ?_); rintro e wX ⟨rfl, hbX⟩; have Bz : Below W.heap.size W wX := bel_trans (by first | assumption | exact Below.drew (by assumption) | exact Below.refl _ _ | exact (Below.refl _ _).drew) hbX; obtain ⟨t0, t1, t2, t3, a0, a1, a2, a3, a4⟩ := HQ.out _ Bz))
    | (go_at_call 12; ((with_reducible refine (z3 _ (by assumption)).mono ?_); rintro e wX ⟨rfl, hbX⟩; have Bz : Below W.heap.size W wX := bel_trans (by first | assumption | exact Below.drew (by assumption) | exact Below.refl _ _ | exact (Below.refl _ _).drew) hbX; obtain ⟨t0, t1, t2, t3, a0, a1, a2, a3, a4⟩ := HQ.out _ Bz))
    | (go_at_call 33; ((with_reducible refine (z4 _ (by assumption)).mono ?_); rintro e wX ⟨rfl, hbX⟩; have Bz : Below W.heap.size W wX := bel_trans (by first | assumption | exact Below.drew (by assumption) | exact Below.refl _ _ | exact (Below.refl _ _).drew) hbX; obtain ⟨t0, t1, t2, t3, a0, a1, a2, a3, a4⟩ := HQ.out _ Bz)))
  go_loopw [9] (fun i wr0 => ∃ (wr : World) (k : Nat), wr = wr0 ∧ k ≤ n ∧ i = .int .i64 k ∧ Below W.heap.size W wr) (fun i _ => n - (intOf i).toNat)
  case atStart => exact ⟨_, 0, rfl, by omega, rfl, Bz⟩
  case round =>
    clear Bz t0 t1 t2 t3 a0 a1 a2 a3 a4
    obtain ⟨wr, k, rfl, hk, rfl, Bz⟩ := hrel
    by_cases hlt : k < n
    · obtain ⟨bb, o, p', a', m', c'', hA1, hbb, y0, y1, y2, y3, y4, hp', hok⟩ := ((GU.out).b Bz).at hlt
      subst hA1
      have czk := fun (w' : World) (h : Below wr.heap.size wr w') => cz.out p' a' m' c'' w' (ArW.b hok h)
      rw [show ((20 : Nat) : Int) = 20 from rfl] at czk
      have hk0 : 0 ≤ (k : Int) := by omega
      have hk1 : (k : Int) < (n : Int) := by omega
      have hBr : Below wr.heap.size wr wr := Below.refl _ _
      have HB := Lib.hid Bz
      clear hok y0 hp'
      generalize opT p'.t = ox at *
      generalize nameT p'.t = mx at *
      generalize numT p'.t = px at *
      generalize szTo 20 p'.t = sx at *
      by_cases hsx : sx ≤ 20
      · have hd : decide ((20 : Int) < (sx : Int)) = false := decide_eq_false (by omega)
        clear hsx
        go_wp2_with (go_at_call 12; ((with_reducible refine (czk _ (by assumption)).mono ?_); rintro e wX ⟨rfl, hbX⟩; have Bx := bel_trans HB.out hbX))
        go_roundw
        case rel => exact ⟨_, k + 1, rfl, by omega, by go_num, Bx⟩
        case measure => simp [intOf]; omega
      · have hd : decide ((20 : Int) < (sx : Int)) = true := decide_eq_true (by omega)
        clear hsx
        go_wp2_with (first
          | (go_at_call 12; ((with_reducible refine (czk _ (by assumption)).mono ?_); rintro e wX ⟨rfl, hbX⟩; have Bx := bel_trans HB.out hbX))
          | (go_at_call 25; ((with_reducible refine (g0 _).mono ?_); rintro e wY ⟨rfl, hbY⟩; have By := bel_trans Bx hbY)))
        go_ret
        exact ⟨rfl, bel_trans hB0 By⟩
    · obtain rfl : k = n := by omega
      obtain ⟨t0, t1, t2, t3, a0, a1, a2, a3, a4⟩ := HQ.out _ Bz
      go_upto_region 9 with fail
      go_loopw [10] (fun i wr0 => ∃ (wr : World) (k : Nat), wr = wr0 ∧ k ≤ n' ∧ i = .int .i64 k ∧ Below W.heap.size W wr) (fun i _ => n' - (intOf i).toNat)
      case atStart => exact ⟨_, 0, rfl, by omega, rfl, Bz⟩
      case round =>
        clear Bz t0 t1 t2 t3 a0 a1 a2 a3 a4
        obtain ⟨wr, k, rfl, hk, rfl, Bz⟩ := hrel
        by_cases hlt : k < n'
        · obtain ⟨bb, o, p', a', m', c'', hA1, hbb, y0, y1, y2, y3, y4, hp', hok⟩ := ((GV.out).b Bz).at hlt
          subst hA1
          have czk := fun (w' : World) (h : Below wr.heap.size wr w') => cz.out p' a' m' c'' w' (ArW.b hok h)
          rw [show ((20 : Nat) : Int) = 20 from rfl] at czk
          have hk0 : 0 ≤ (k : Int) := by omega
          have hk1 : (k : Int) < (n' : Int) := by omega
          have hBr : Below wr.heap.size wr wr := Below.refl _ _
          have HB := Lib.hid Bz
          clear hok y0 hp'
          generalize opT p'.t = ox at *
          generalize nameT p'.t = mx at *
          generalize numT p'.t = px at *
          generalize szTo 20 p'.t = sx at *
          by_cases hsx : sx ≤ 20
          · have hd : decide ((20 : Int) < (sx : Int)) = false := decide_eq_false (by omega)
            clear hsx
            go_wp2_with (go_at_call 12; ((with_reducible refine (czk _ (by assumption)).mono ?_); rintro e wX ⟨rfl, hbX⟩; have Bx := bel_trans HB.out hbX))
            go_roundw
            case rel => exact ⟨_, k + 1, rfl, by omega, by go_num, Bx⟩
            case measure => simp [intOf]; omega
          · have hd : decide ((20 : Int) < (sx : Int)) = true := decide_eq_true (by omega)
            clear hsx
            go_wp2_with (first
              | (go_at_call 12; ((with_reducible refine (czk _ (by assumption)).mono ?_); rintro e wX ⟨rfl, hbX⟩; have Bx := bel_trans HB.out hbX))
              | (go_at_call 25; ((with_reducible refine (g0 _).mono ?_); rintro e wY ⟨rfl, hbY⟩; have By := bel_trans Bx hbY)))
            go_ret
            exact ⟨rfl, bel_trans hB0 By⟩
        · obtain rfl : k = n' := by omega
          obtain ⟨t0, t1, t2, t3, a0, a1, a2, a3, a4⟩ := HQ.out _ Bz
          go_upto_region 14 with (go_at_call 40; ((with_reducible refine (HTh.out _ Bz).mono ?_); rintro e w1 ⟨A2, N2, C2, L, rfl, hU1, hL1, hb1⟩; have HU1 := Lib.hid hU1; have HL1 := Lib.hid hL1; have B1 := bel_trans Bz hb1; clear hU1 hL1))
          obtain ⟨c1, c2, c3⟩ := HP.out L HL1.out
          clear HP HTh cz z1 z2 z3 z4 t0 t1 t2 t3 a0 a1 a2 a3 a4
          have c3 := fun (w' : World) (h : Below w1.heap.size w1 w') => c3 A2 N2 C2 w' (bel_trans B1 h) (UsW.b HU1.out h)
          have c2 := fun (x : Option Addr) (y z : Nat) (w' : World) (h : Below w1.heap.size w1 w') => c2 x y z w' (bel_trans B1 h)
          have c1 := fun (w' : World) (h : Below w1.heap.size w1 w') => c1 w' (bel_trans B1 h)
          have HQ1 := Lib.hid (fun (w' : World) (h : Below w1.heap.size w1 w') => HQ.out w' (bel_trans B1 h))
          have HC := Lib.hid (HC.out L HL1.out)
          generalize sbT (getK L 0) t = rZ at *
          generalize sbCl L 0 c = rU at *
          have hB1r : Below w1.heap.size w1 w1 := Below.refl _ _
          obtain ⟨t0, t1, t2, t3, a0, a1, a2, a3, a4⟩ := HQ1.out w1 hB1r
          go_cut [80] from 71 (fun v wc => v = .bool false ∧ Below w1.heap.size w1 wc)
          case first =>
            clear HC HR cEx g0
            go_region_held3 (fun w' => w'.cell? ⟨w.heap.size, 0, none⟩ = some (.int .i64 oT) ∧ w'.cell? ⟨w.heap.size, 1, none⟩ = some (.string mT) ∧ w'.cell? ⟨w.heap.size, 2, none⟩ = some (.int .i64 pT) ∧ w'.cell? ⟨w.heap.size, 3, none⟩ = some (.slice aT nT cT))
              (first | (exact (by obtain ⟨t0, t1, t2, t3, -⟩ := HQ1.out _ (by first | assumption | exact Below.drew (by assumption) | exact Below.refl _ _ | exact (Below.refl _ _).drew); exact ⟨t0, t1, t2, t3⟩)) | go_keep)
              (first
                | (go_at_call 34; (first
                    | ((with_reducible refine (c1 _ (by first | assumption | exact Below.drew (by assumption) | exact Below.refl _ _ | exact (Below.refl _ _).drew)).mono ?_); rintro e wX ⟨A5, N5, C5, rfl, hX, hbX⟩; have Bn : Below w1.heap.size w1 wX := bel_trans (a := w1) (by first | assumption | exact Below.drew (by assumption) | exact Below.refl _ _ | exact (Below.refl _ _).drew) hbX; (try (have HX5 := Lib.hid (ArW.b HX5.out (by first | exact hbX | exact bel_trans ((Below.refl _ _).drew) hbX)))); (try (have HX6 := Lib.hid (ArW.b HX6.out (by first | exact hbX | exact bel_trans ((Below.refl _ _).drew) hbX)))); (try (have HX7 := Lib.hid (ArW.b HX7.out (by first | exact hbX | exact bel_trans ((Below.refl _ _).drew) hbX)))); have HX5 := Lib.hid hX; clear hX)
                    | ((with_reducible refine (c3 _ (by first | assumption | exact Below.drew (by assumption) | exact Below.refl _ _ | exact (Below.refl _ _).drew)).mono ?_); rintro e wX ⟨A7, N7, C7, rfl, hX, hbX⟩; have Bn : Below w1.heap.size w1 wX := bel_trans (a := w1) (by first | assumption | exact Below.drew (by assumption) | exact Below.refl _ _ | exact (Below.refl _ _).drew) hbX; (try (have HX5 := Lib.hid (ArW.b HX5.out (by first | exact hbX | exact bel_trans ((Below.refl _ _).drew) hbX)))); (try (have HX6 := Lib.hid (ArW.b HX6.out (by first | exact hbX | exact bel_trans ((Below.refl _ _).drew) hbX)))); (try (have HX7 := Lib.hid (ArW.b HX7.out (by first | exact hbX | exact bel_trans ((Below.refl _ _).drew) hbX)))); have HX7 := Lib.hid hX; clear hX)
                    | ((with_reducible refine (c2 _ _ _ _ (by first | assumption | exact Below.drew (by assumption) | exact Below.refl _ _ | exact (Below.refl _ _).drew) (by first | exact HX5.out | exact ArW.b HX5.out (Below.refl _ _).drew)).mono ?_); rintro e wX ⟨A6, N6, C6, rfl, hX, hbX⟩; have Bn : Below w1.heap.size w1 wX := bel_trans (a := w1) (by first | assumption | exact Below.drew (by assumption) | exact Below.refl _ _ | exact (Below.refl _ _).drew) hbX; (try (have HX5 := Lib.hid (ArW.b HX5.out (by first | exact hbX | exact bel_trans ((Below.refl _ _).drew) hbX)))); (try (have HX6 := Lib.hid (ArW.b HX6.out (by first | exact hbX | exact bel_trans ((Below.refl _ _).drew) hbX)))); (try (have HX7 := Lib.hid (ArW.b HX7.out (by first | exact hbX | exact bel_trans ((Below.refl _ _).drew) hbX)))); have HX6 := Lib.hid hX; clear hX)))
                | (go_at_call 29; ((with_reducible refine (cTm _ _ _ _ _ _ _ _ (by first | exact HX6.out | exact ArW.b HX6.out (Below.refl _ _).drew) (by first | exact HX7.out | exact ArW.b HX7.out (Below.refl _ _).drew)).mono ?_); rintro e wX ⟨rfl, hbX⟩; have Bn : Below w1.heap.size w1 wX := bel_trans (a := w1) (by first | assumption | exact Below.drew (by assumption) | exact Below.refl _ _ | exact (Below.refl _ _).drew) hbX)))
            all_goals ((try go_wp2_with fail); go_meet; exact ⟨rfl, Bn⟩)
          case rest =>
            obtain ⟨rfl, Bn⟩ := hcut
            clear c1 c2 c3 cTm t0 t1 t2 t3 a0 a1 a2 a3 a4
            obtain ⟨t0, t1, t2, t3, a0, a1, a2, a3, a4⟩ := HQ1.out _ Bn
            obtain ⟨r1, r2⟩ := HR.out
            have r1 := fun (w' : World) (h : Below w1.heap.size w1 w') => r1 w' (bel_trans B1 h)
            have r2 := fun (w' : World) (h : Below w1.heap.size w1 w') => r2 w' (bel_trans B1 h)
            cases RA with
            | false =>
              clear HC cEx
              go_wp2_with (first
                | (go_at_call 36; ((with_reducible refine (r1 _ (by first | assumption | exact Below.drew (by assumption) | exact Below.refl _ _ | exact (Below.refl _ _).drew)).mono ?_); rintro e wX ⟨rfl, hbX⟩; have Bn : Below w1.heap.size w1 wX := bel_trans (a := w1) (by first | assumption | exact Below.drew (by assumption) | exact Below.refl _ _ | exact (Below.refl _ _).drew) hbX; obtain ⟨t0, t1, t2, t3, a0, a1, a2, a3, a4⟩ := HQ1.out _ Bn))
                | (go_at_call 25; ((with_reducible refine (g0 _).mono ?_); rintro e wX ⟨rfl, hbX⟩; have Bn : Below w1.heap.size w1 wX := bel_trans (a := w1) (by first | assumption | exact Below.drew (by assumption) | exact Below.refl _ _ | exact (Below.refl _ _).drew) hbX; obtain ⟨t0, t1, t2, t3, a0, a1, a2, a3, a4⟩ := HQ1.out _ Bn)))
              go_ret
              exact ⟨rfl, bel_trans hB0 (bel_trans B1 Bn)⟩
            | true =>
              cases RB with
              | false =>
                clear HC cEx
                go_wp2_with (first
                  | (go_at_call 36; ((with_reducible refine (r1 _ (by first | assumption | exact Below.drew (by assumption) | exact Below.refl _ _ | exact (Below.refl _ _).drew)).mono ?_); rintro e wX ⟨rfl, hbX⟩; have Bn : Below w1.heap.size w1 wX := bel_trans (a := w1) (by first | assumption | exact Below.drew (by assumption) | exact Below.refl _ _ | exact (Below.refl _ _).drew) hbX; obtain ⟨t0, t1, t2, t3, a0, a1, a2, a3, a4⟩ := HQ1.out _ Bn))
                  | (go_at_call 36; ((with_reducible refine (r2 _ (by first | assumption | exact Below.drew (by assumption) | exact Below.refl _ _ | exact (Below.refl _ _).drew)).mono ?_); rintro e wX ⟨rfl, hbX⟩; have Bn : Below w1.heap.size w1 wX := bel_trans (a := w1) (by first | assumption | exact Below.drew (by assumption) | exact Below.refl _ _ | exact (Below.refl _ _).drew) hbX; obtain ⟨t0, t1, t2, t3, a0, a1, a2, a3, a4⟩ := HQ1.out _ Bn))
                  | (go_at_call 25; ((with_reducible refine (g0 _).mono ?_); rintro e wX ⟨rfl, hbX⟩; have Bn : Below w1.heap.size w1 wX := bel_trans (a := w1) (by first | assumption | exact Below.drew (by assumption) | exact Below.refl _ _ | exact (Below.refl _ _).drew) hbX; obtain ⟨t0, t1, t2, t3, a0, a1, a2, a3, a4⟩ := HQ1.out _ Bn)))
                go_ret
                exact ⟨rfl, bel_trans hB0 (bel_trans B1 Bn)⟩
              | true =>
                obtain ⟨d1, d2, d3⟩ := HC.out rfl rfl
                have d3 := fun (w' : World) (h : Below w1.heap.size w1 w') => d3 A2 N2 C2 w' (bel_trans B1 h) (UsW.b HU1.out h)
                have d2 := fun (k0 : Option Addr) (k1 k2 : Nat) (x : Option Addr) (y z : Nat) (w' : World) (h : Below w1.heap.size w1 w') => d2 k0 k1 k2 x y z w' (bel_trans B1 h)
                have d1 := fun (w' : World) (h : Below w1.heap.size w1 w') => d1 w' (bel_trans B1 h)
                clear HC
                go_upto_region 18 with (first
                  | (go_at_call 36; ((with_reducible refine (r1 _ (by first | assumption | exact Below.drew (by assumption) | exact Below.refl _ _ | exact (Below.refl _ _).drew)).mono ?_); rintro e wX ⟨rfl, hbX⟩; have Bn : Below w1.heap.size w1 wX := bel_trans (a := w1) (by first | assumption | exact Below.drew (by assumption) | exact Below.refl _ _ | exact (Below.refl _ _).drew) hbX; obtain ⟨t0, t1, t2, t3, a0, a1, a2, a3, a4⟩ := HQ1.out _ Bn))
                  | (go_at_call 36; ((with_reducible refine (r2 _ (by first | assumption | exact Below.drew (by assumption) | exact Below.refl _ _ | exact (Below.refl _ _).drew)).mono ?_); rintro e wX ⟨rfl, hbX⟩; have Bn : Below w1.heap.size w1 wX := bel_trans (a := w1) (by first | assumption | exact Below.drew (by assumption) | exact Below.refl _ _ | exact (Below.refl _ _).drew) hbX; obtain ⟨t0, t1, t2, t3, a0, a1, a2, a3, a4⟩ := HQ1.out _ Bn)))
                clear r1 r2
                go_region_held3 (fun w' => w'.cell? ⟨w.heap.size + 1, 0, none⟩ = some (.int .i64 oA) ∧ w'.cell? ⟨w.heap.size + 1, 1, none⟩ = some (.string mA) ∧ w'.cell? ⟨w.heap.size + 1, 2, none⟩ = some (.string pA) ∧ w'.cell? ⟨w.heap.size + 1, 3, none⟩ = some (.slice kAa kAn kAc) ∧ w'.cell? ⟨w.heap.size + 1, 4, none⟩ = some (.slice aA nA cA))
                  (first | (exact (by obtain ⟨-, -, -, -, a0, a1, a2, a3, a4⟩ := HQ1.out _ (by first | assumption | exact Below.drew (by assumption) | exact Below.refl _ _ | exact (Below.refl _ _).drew); exact ⟨a0, a1, a2, a3, a4⟩)) | go_keep)
                  (first
                    | (go_at_call 38; (first
                        | ((with_reducible refine (d1 _ (by first | assumption | exact Below.drew (by assumption) | exact Below.refl _ _ | exact (Below.refl _ _).drew)).mono ?_); rintro e wX ⟨K50, K51, K52, A5, N5, C5, rfl, hX, hbX⟩; have Bn : Below w1.heap.size w1 wX := bel_trans (a := w1) (by first | assumption | exact Below.drew (by assumption) | exact Below.refl _ _ | exact (Below.refl _ _).drew) hbX; (try (have HX5 := Lib.hid (ArWC.b HX5.out (by first | exact hbX | exact bel_trans ((Below.refl _ _).drew) hbX)))); (try (have HX6 := Lib.hid (ArWC.b HX6.out (by first | exact hbX | exact bel_trans ((Below.refl _ _).drew) hbX)))); (try (have HX7 := Lib.hid (ArWC.b HX7.out (by first | exact hbX | exact bel_trans ((Below.refl _ _).drew) hbX)))); have HX5 := Lib.hid hX; clear hX)
                        | ((with_reducible refine (d3 _ (by first | assumption | exact Below.drew (by assumption) | exact Below.refl _ _ | exact (Below.refl _ _).drew)).mono ?_); rintro e wX ⟨K70, K71, K72, A7, N7, C7, rfl, hX, hbX⟩; have Bn : Below w1.heap.size w1 wX := bel_trans (a := w1) (by first | assumption | exact Below.drew (by assumption) | exact Below.refl _ _ | exact (Below.refl _ _).drew) hbX; (try (have HX5 := Lib.hid (ArWC.b HX5.out (by first | exact hbX | exact bel_trans ((Below.refl _ _).drew) hbX)))); (try (have HX6 := Lib.hid (ArWC.b HX6.out (by first | exact hbX | exact bel_trans ((Below.refl _ _).drew) hbX)))); (try (have HX7 := Lib.hid (ArWC.b HX7.out (by first | exact hbX | exact bel_trans ((Below.refl _ _).drew) hbX)))); have HX7 := Lib.hid hX; clear hX)
                        | ((with_reducible refine (d2 _ _ _ _ _ _ _ (by first | assumption | exact Below.drew (by assumption) | exact Below.refl _ _ | exact (Below.refl _ _).drew) (by first | exact HX5.out | exact ArWC.b HX5.out (Below.refl _ _).drew)).mono ?_); rintro e wX ⟨K60, K61, K62, A6, N6, C6, rfl, hX, hbX⟩; have Bn : Below w1.heap.size w1 wX := bel_trans (a := w1) (by first | assumption | exact Below.drew (by assumption) | exact Below.refl _ _ | exact (Below.refl _ _).drew) hbX; (try (have HX5 := Lib.hid (ArWC.b HX5.out (by first | exact hbX | exact bel_trans ((Below.refl _ _).drew) hbX)))); (try (have HX6 := Lib.hid (ArWC.b HX6.out (by first | exact hbX | exact bel_trans ((Below.refl _ _).drew) hbX)))); (try (have HX7 := Lib.hid (ArWC.b HX7.out (by first | exact hbX | exact bel_trans ((Below.refl _ _).drew) hbX)))); have HX6 := Lib.hid hX; clear hX)))
                    | (go_at_call 37; ((with_reducible refine (cEx _ _ _ _ _ _ _ _ _ _ _ _ _ _ (by first | exact HX6.out | exact ArWC.b HX6.out (Below.refl _ _).drew) (by first | exact HX7.out | exact ArWC.b HX7.out (Below.refl _ _).drew)).mono ?_); rintro e wX ⟨rfl, hbX⟩; have Bn : Below w1.heap.size w1 wX := bel_trans (a := w1) (by first | assumption | exact Below.drew (by assumption) | exact Below.refl _ _ | exact (Below.refl _ _).drew) hbX))
                    | (go_at_call 25; ((with_reducible refine (g0 _).mono ?_); rintro e wX ⟨rfl, hbX⟩; have Bn : Below w1.heap.size w1 wX := bel_trans (a := w1) (by first | assumption | exact Below.drew (by assumption) | exact Below.refl _ _ | exact (Below.refl _ _).drew) hbX)))
                all_goals go_wp2
                all_goals go_ret
                all_goals exact ⟨rfl, bel_trans hB0 (bel_trans B1 Bn)⟩
theorem substOnce (A : Option Addr) (n d : Nat) (a : List Pr) (A' : Option Addr) (n' d' : Nat) (b : List Pr) (z : TmV) (z2 : ClV) (w : World) (_ : n ≤ 9223372036854775807) (H : UsW w A n d a ∧ smU a ∧ ∀ p ∈ a, zT p.t) (_ : n' ≤ 9223372036854775807) (H' : UsW w A' n' d' b ∧ smU b ∧ ∀ p ∈ b, zT p.t) (HT : ArW w z.t z.a z.n z.c ∧ smT z.t) (HA : ArWC w z2.t z2.k z2.a z2.n z2.c ∧ smC z2.t) :
    Calls Try.prog 8 #[.slice A n d, .slice A' n' d', z.val, z2.val] w fun e w' => e = .returned (.bool true) ∧ Below w.heap.size w w' := by
  by_cases h : n ≤ 6 ∧ n' ≤ 6 ∧ smallU a = true ∧ smallU b = true ∧ szTo 30 z.t ≤ 30 ∧ wtTo 30 z2.t ≤ 30
  · exact onceIn a b A n d A' n' d' z.t z.a z.n z.c z2.t z2.k z2.a z2.n z2.c w H.1 H.2.1 H.2.2 H'.1 H'.2.1 H'.2.2 HT.1 HT.2 HA.1 HA.2 h.1 h.2.1 h.2.2.1 h.2.2.2.1 h.2.2.2.2.1 h.2.2.2.2.2
  · exact onceOut a b A n d A' n' d' z.t z.a z.n z.c z2.t z2.k z2.a z2.n z2.c w H.1 H.2.1 H.2.2 H'.1 H'.2.1 H'.2.2 HT.1 HT.2 HA.1 HA.2 h
end Go.Proofs.Ytbmniajimkondaa.U
