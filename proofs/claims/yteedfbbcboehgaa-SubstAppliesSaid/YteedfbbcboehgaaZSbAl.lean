/-
  What is proved: the law over what a substitution makes of a term and of a claim.
-/
import Derived.Test.YteedfbbcboehgaaZSbAw
import Derived.Test.YteedfbbcboehgaaZSbTe
import Derived.Test.YteedfbbcboehgaaZSbOz
import Derived.Test.YteedfbbcboehgaaBM
import Derived.Test.YteedfbbcboehgaaZSbAc
import Derived.Test.YteedfbbcboehgaaZSbCo
import Derived.Test.YteedfbbcboehgaaZSbV
import Derived.Test.YteedfbbcboehgaaZSbW
import Derived.Test.YteedfbbcboehgaaZClmX
import Derived.Test.YteedfbbcboehgaaBC
namespace Go.Proofs.Yteedfbbcboehgaa.U
open Go.RowKit L T C B
set_option linter.unusedVariables false
set_option linter.unusedSimpArgs false

theorem tcBoxes (w : World) (o : Int) (s : ByteArray) (z : Int) (a : Option Addr) (n c : Nat) (o' : Int) (s' z' : ByteArray) (k' : SS) (a' : Option Addr) (n' c' : Nat) :
    ∃ W, (w.alloc (.cells #[.int .i64 o, .string s, .int .i64 z, .slice a n c] 24)).alloc (.cells #[.int .i64 o', .string s', .string z', .slice k'.a k'.n k'.c, .slice a' n' c'] 53) = W ∧ Below w.heap.size w W ∧ W.heap.size = w.heap.size + 2 ∧ TBox W w.heap.size o s z a n c ∧ CBox W (w.heap.size + 1) o' s' z' k' a' n' c' := by
  obtain ⟨W1, h1, hb1, hs1, S1⟩ := box1 w o s z a n c
  obtain ⟨W2, h2, hb2, hs2, S2⟩ := cbox1 W1 o' s' z' k' a' n' c'
  refine ⟨W2, by rw [h1]; exact h2, bel_trans hb1 hb2, by omega, TBox.b S1 hb2, ?_⟩
  rw [hs1] at S2
  exact S2
theorem al_apply (l : List Pr) (hs : smallU l = true) (hsm : smU l) (t : Tm) (hst : smT t) (hw : size t ≤ 60) (A : Option Addr) (n c : Nat) (a : Option Addr) (m d : Nat) (w' : World) (hU : UsW w' A n c l) (hA : ArW w' t a m d) :
    Calls Try.prog 43 #[.slice A n c, .agg #[.int .i64 (opT t), .string (nameT t), .int .i64 (numT t), .slice a m d]] w' fun e w1 => AnyT (sbT (getK l 0) t) w' e w1 := by
  obtain ⟨h1, h2⟩ := smallU_of hs
  exact (Apply_any l (fun p hp => by have := h2 p hp; omega) (fun p hp => (hsm p hp).2) (by unfold maxLen; omega) t hst (by omega) A n c a m d w' hU hA).mono fun e w1 h => (by
    obtain ⟨a, n, c, e1, hA, hb⟩ := h
    exact ⟨a, n, c, e1, ArP.ar (fun b hb => by unfold Nw at hb; omega) _ hA, hb⟩)
theorem al_ref (l : List Pr) (hs : smallU l = true) (hz : ∀ p ∈ l, zT p.t) (t : Tm) (hw : size t ≤ 60) (A : Option Addr) (n c : Nat) (a : Option Addr) (m d : Nat) (w' : World) (hU : UsW w' A n c l) (hA : ArW w' t a m d) :
    Calls Try.prog 44 #[.slice A n c, .agg #[.int .i64 (opT t), .string (nameT t), .int .i64 (numT t), .slice a m d]] w' fun e w1 => AnyT (sbT (getK l 0) t) w' e w1 := by
  obtain ⟨h1, h2⟩ := smallU_of hs
  have h := Apply10_any l (fun p hp => by have := h2 p hp; omega) t (by omega) A n c a m d w' hU hA
  rw [get_eq (fun p hp => lf_wk0 p.t (hz p hp))] at h
  exact h
theorem al_applyC (l : List Pr) (hs : smallU l = true) (hsm : smU l) (t : Cl) (hst : smC t) (hw : wt t ≤ 60) (A : Option Addr) (n c : Nat) (kA : SS) (aA : Option Addr) (nA cA : Nat) (w' : World) (hU : UsW w' A n c l) (hA : ArWC w' t kA aA nA cA) :
    Calls Try.prog 47 #[.slice A n c, .agg #[.int .i64 (opC t), .string (nmC t), .string (soC t), .slice kA.a kA.n kA.c, .slice aA nA cA]] w' fun e w1 => AnyC (sbCl l 0 t) w' e w1 := by
  obtain ⟨h1, h2⟩ := smallU_of hs
  exact (ApplyClaim_any l (fun p hp => by have := h2 p hp; omega) (fun p hp => (hsm p hp).2) (by unfold maxLen; omega) t hst (by omega) A n c kA aA nA cA w' hU hA).mono fun e w1 h => (by
    obtain ⟨ka, kn, kc, a, n, c, e1, hA, hb⟩ := h
    exact ⟨ka, kn, kc, a, n, c, e1, ArCP.ar (fun b hb => by unfold Nw at hb; omega) _ hA, hb⟩)
theorem al_refC (l : List Pr) (hs : smallU l = true) (hok : ∀ p ∈ l, okN p.t) (t : Cl) (hw : wt t ≤ 60) (A : Option Addr) (n c : Nat) (kA : SS) (aA : Option Addr) (nA cA : Nat) (w' : World) (hU : UsW w' A n c l) (hA : ArWC w' t kA aA nA cA) :
    Calls Try.prog 48 #[.slice A n c, .agg #[.int .i64 (opC t), .string (nmC t), .string (soC t), .slice kA.a kA.n kA.c, .slice aA nA cA]] w' fun e w1 => AnyC (sbCl l 0 t) w' e w1 := by
  obtain ⟨h1, h2⟩ := smallU_of hs
  have h := ApplyClaim10_any l (fun p hp => by have := h2 p hp; omega) t (by omega) A n c kA aA nA cA w' hU hA
  rw [sbRl_eq hok t 0 (Int.le_refl _) (by omega)] at h
  exact h
set_option maxRecDepth 100000 in
set_option maxHeartbeats 32000000 in
theorem appliesB (l : List Pr) (A : Option Addr) (n d : Nat) (t : Tm) (aT : Option Addr) (nT cT : Nat) (c : Cl) (kA : SS) (aA : Option Addr) (nA cA : Nat) (w : World) (H : UsW w A n d l) (hsm : smU l) (hz : ∀ p ∈ l, zT p.t) (HT : ArW w t aT nT cT) (hst : smT t) (HA : ArWC w c kA aA nA cA) (hsc : smC c) :
    Calls Try.prog 8 #[.slice A n d, .agg #[.int .i64 (opT t), .string (nameT t), .int .i64 (numT t), .slice aT nT cT], .agg #[.int .i64 (opC c), .string (nmC c), .string (soC c), .slice kA.a kA.n kA.c, .slice aA nA cA]] w fun e w' => e = .returned (.bool true) ∧ Below w.heap.size w w' := by
  obtain ⟨W, hW, hB0, hs, ST, SC⟩ := tcBoxes w (opT t) (nameT t) (numT t) aT nT cT (opC c) (nmC c) (soC c) kA aA nA cA
  have gT := ArW.b HT hB0
  have gA := ArWC.b HA hB0
  have gU := UsW.b H hB0
  have g0 := fun (w' : World) => goes_any w'
  have z1 := fun (w' : World) (h : Below W.heap.size W w') => SmallU_any l A n d w' (UsW.b gU h)
  have z2 := fun (w' : World) (h : Below W.heap.size W w') => Small_any [t] (some ⟨w'.heap.size, 0, none⟩) 1 1 (w'.alloc (.cells #[.int .i64 (opT t), .string (nameT t), .int .i64 (numT t), .slice aT nT cT] 24)) (tbox_ts (TBox.new w' (opT t) (nameT t) (numT t) aT nT cT) (ArW.b gT (bel_alloc h _)))
  rw [small_one] at z2
  have zA := fun (w' : World) (h : Below W.heap.size W w') => Big_any c kA aA nA cA 60 w' (by omega) (ArWC.b gA h)
  rw [show ((60 : Nat) : Int) = 60 from rfl] at zA
  have HSA := Lib.hid SC
  have HST := Lib.hid ST
  obtain ⟨t0, t1, t2, t3⟩ := ST.four
  obtain ⟨a0, a1, a2, a3, a4⟩ := SC.five
  have hBd : Below W.heap.size W W := Below.refl _ _
  have ls : w.heap.size + 1 < W.heap.size := by omega
  have HP := Lib.hid (show smallU l = true → size t ≤ 60 → wtTo 60 c ≤ 60 →
      (∀ (w' : World), Below W.heap.size W w' → Calls Try.prog 43 #[.slice A n d, .agg #[.int .i64 (opT t), .string (nameT t), .int .i64 (numT t), .slice aT nT cT]] w' fun e w1 => AnyT (sbT (getK l 0) t) w' e w1) ∧
      (∀ (w' : World), Below W.heap.size W w' → Calls Try.prog 44 #[.slice A n d, .agg #[.int .i64 (opT t), .string (nameT t), .int .i64 (numT t), .slice aT nT cT]] w' fun e w1 => AnyT (sbT (getK l 0) t) w' e w1) ∧
      (∀ (w' : World), Below W.heap.size W w' → Calls Try.prog 45 #[.slice A n d, .agg #[.int .i64 (opC c), .string (nmC c), .string (soC c), .slice kA.a kA.n kA.c, .slice aA nA cA]] w' fun e w1 => e = .returned (.bool (r10 l c)) ∧ Below w'.heap.size w' w1) ∧
      (∀ (w' : World), Below W.heap.size W w' → Calls Try.prog 47 #[.slice A n d, .agg #[.int .i64 (opC c), .string (nmC c), .string (soC c), .slice kA.a kA.n kA.c, .slice aA nA cA]] w' fun e w1 => AnyC (sbCl l 0 c) w' e w1) ∧
      (r10 l c = true → ∀ (w' : World), Below W.heap.size W w' → Calls Try.prog 48 #[.slice A n d, .agg #[.int .i64 (opC c), .string (nmC c), .string (soC c), .slice kA.a kA.n kA.c, .slice aA nA cA]] w' fun e w1 => AnyC (sbCl l 0 c) w' e w1) from fun h1 h2 h3 => by
    have hw := Nat.le_trans (wtTo_le c 60 h3) h3
    exact ⟨fun w' h => al_apply l h1 hsm t hst h2 A n d aT nT cT w' (UsW.b gU h) (ArW.b gT h), fun w' h => al_ref l h1 hz t h2 A n d aT nT cT w' (UsW.b gU h) (ArW.b gT h),
      fun w' h => right10E_any l c (by omega) A n d kA aA nA cA w' (UsW.b gU h) (ArWC.b gA h), fun w' h => al_applyC l h1 hsm c hsc hw A n d kA aA nA cA w' (UsW.b gU h) (ArWC.b gA h),
      fun hr w' h => al_refC l h1 (r10_low hr) c hw A n d kA aA nA cA w' (UsW.b gU h) (ArWC.b gA h)⟩)
  have cTm := fun (r : Tm) (A : Option Addr) (N C : Nat) (A' : Option Addr) (N' C' : Nat) (w' : World) (h : ArW w' r A N C) (h' : ArW w' r A' N' C') => (Term_any r r A N C A' N' C' w' h h').mono (R' := fun e w1 => e = .returned (.bool true) ∧ Below w'.heap.size w' w1) fun e w1 h => by rw [eqT_iff.2 rfl] at h; exact h
  have cEx := fun (r : Cl) (K0 : Option Addr) (K1 K2 : Nat) (A : Option Addr) (N C : Nat) (V0 : Option Addr) (V1 V2 : Nat) (A' : Option Addr) (N' C' : Nat) (w' : World) (h : ArWC w' r ⟨K0, K1, K2⟩ A N C) (h' : ArWC w' r ⟨V0, V1, V2⟩ A' N' C') => (Exact_any r r ⟨K0, K1, K2⟩ A N C ⟨V0, V1, V2⟩ A' N' C' w' h h').mono (R' := fun e w1 => e = .returned (.bool true) ∧ Below w'.heap.size w' w1) fun e w1 h => by rw [exC_refl] at h; exact h
  have HQ := Lib.hid (show ∀ (w' : World), Below W.heap.size W w' → w'.cell? ⟨w.heap.size, 0, none⟩ = some (.int .i64 (opT t)) ∧ w'.cell? ⟨w.heap.size, 1, none⟩ = some (.string (nameT t)) ∧ w'.cell? ⟨w.heap.size, 2, none⟩ = some (.int .i64 (numT t)) ∧ w'.cell? ⟨w.heap.size, 3, none⟩ = some (.slice aT nT cT) ∧ w'.cell? ⟨w.heap.size + 1, 0, none⟩ = some (.int .i64 (opC c)) ∧ w'.cell? ⟨w.heap.size + 1, 1, none⟩ = some (.string (nmC c)) ∧ w'.cell? ⟨w.heap.size + 1, 2, none⟩ = some (.string (soC c)) ∧ w'.cell? ⟨w.heap.size + 1, 3, none⟩ = some (.slice kA.a kA.n kA.c) ∧ w'.cell? ⟨w.heap.size + 1, 4, none⟩ = some (.slice aA nA cA) from fun w' h => (by
    obtain ⟨q0, q1, q2, q3⟩ := (TBox.b HST.out h).four
    obtain ⟨p0, p1, p2, p3, p4⟩ := (CBox.b HSA.out h).five
    exact ⟨q0, q1, q2, q3, p0, p1, p2, p3, p4⟩))
  obtain ⟨kAa, kAn, kAc⟩ := kA
  dsimp only at *
  clear ST SC gT gA gU HT HA H hst hsc hsm hz hs
  unfold AnyT AnyC at HP
  generalize smallU l = s1 at *
  generalize r10 l c = RR at *
  generalize size t = sz at *
  generalize wtTo 60 c = wz at *
  generalize sbT (getK l 0) t = r1 at *
  generalize sbCl l 0 c = r2 at *
  generalize opC c = oA at *
  generalize nmC c = mA at *
  generalize soC c = pA at *
  generalize opT t = oT at *
  generalize nameT t = mT at *
  generalize numT t = pT at *
  cases s1 with
  | false =>
    clear HP z2 zA cTm cEx
    go_enter Try.func8, Try.ntmps8
    go_wp2_with (first
      | (go_at_call 31; ((with_reducible refine (z1 _ (by assumption)).mono ?_); rintro e wX ⟨rfl, hbX⟩; have Bz := bel_trans (a := W) (by assumption) hbX; obtain ⟨t0, t1, t2, t3, a0, a1, a2, a3, a4⟩ := HQ.out _ Bz))
      | (go_at_call 32; ((with_reducible refine (g0 _).mono ?_); rintro e wX ⟨rfl, hbX⟩; have Bz := bel_trans (a := W) (by first | assumption | exact Below.drew (by assumption) | exact Below.refl _ _ | exact (Below.refl _ _).drew) hbX)))
    go_ret
    exact ⟨rfl, bel_trans hB0 Bz⟩
  | true =>
    by_cases q1 : sz ≤ 60
    · have p1 : decide (sz ≤ 60) = true := decide_eq_true q1
      rw [p1] at z2
      by_cases q2 : wz ≤ 60
      · have p2 : decide (60 < wz) = false := decide_eq_false (by omega)
        rw [p2] at zA
        obtain ⟨c1, c2, c3, c4, c5⟩ := HP.out rfl q1 q2
        clear HP p1 p2 q1 q2
        go_enter Try.func8, Try.ntmps8
        go_wp2_with (first
          | (go_at_call 31; ((with_reducible refine (z1 _ (by assumption)).mono ?_); rintro e wX ⟨rfl, hbX⟩; have Bz := bel_trans (a := W) (by assumption) hbX; obtain ⟨t0, t1, t2, t3, a0, a1, a2, a3, a4⟩ := HQ.out _ Bz))
          | (go_at_call 22; ((with_reducible refine (z2 _ (by assumption)).mono ?_); rintro e wY ⟨rfl, hbX⟩; have Bz := bel_trans (a := W) (bel_alloc (by assumption) _) hbX; obtain ⟨t0, t1, t2, t3, a0, a1, a2, a3, a4⟩ := HQ.out _ Bz))
          | (go_at_call 42; ((with_reducible refine (zA _ (by assumption)).mono ?_); rintro e wX ⟨rfl, hbX⟩; have Bz := bel_trans (a := W) (by assumption) hbX; obtain ⟨t0, t1, t2, t3, a0, a1, a2, a3, a4⟩ := HQ.out _ Bz)))
        clear z1 z2 zA
        obtain ⟨t0, t1, t2, t3, a0, a1, a2, a3, a4⟩ := HQ.out _ Bz
        go_region_held3 (fun w' => w'.cell? ⟨w.heap.size, 0, none⟩ = some (.int .i64 oT) ∧ w'.cell? ⟨w.heap.size, 1, none⟩ = some (.string mT) ∧ w'.cell? ⟨w.heap.size, 2, none⟩ = some (.int .i64 pT) ∧ w'.cell? ⟨w.heap.size, 3, none⟩ = some (.slice aT nT cT) ∧ w'.cell? ⟨w.heap.size + 1, 0, none⟩ = some (.int .i64 oA) ∧ w'.cell? ⟨w.heap.size + 1, 1, none⟩ = some (.string mA) ∧ w'.cell? ⟨w.heap.size + 1, 2, none⟩ = some (.string pA) ∧ w'.cell? ⟨w.heap.size + 1, 3, none⟩ = some (.slice kAa kAn kAc) ∧ w'.cell? ⟨w.heap.size + 1, 4, none⟩ = some (.slice aA nA cA))
          (first | (exact HQ.out _ (by first | assumption | exact Below.drew (by assumption) | exact Below.refl _ _ | exact (Below.refl _ _).drew)) | go_keep)
          (first
            | (go_at_call 43; ((with_reducible refine (c1 _ (by first | assumption | exact Below.drew (by assumption) | exact Below.refl _ _ | exact (Below.refl _ _).drew)).mono ?_); rintro e wX ⟨A5, N5, C5, rfl, hX, hbX⟩; have Bz : Below W.heap.size W wX := bel_trans (by first | assumption | exact Below.drew (by assumption) | exact Below.refl _ _ | exact (Below.refl _ _).drew) hbX; (try (have HX5 := Lib.hid (ArW.b HX5.out (by first | exact hbX | exact bel_trans ((Below.refl _ _).drew) hbX)))); (try (have HX7 := Lib.hid (ArW.b HX7.out (by first | exact hbX | exact bel_trans ((Below.refl _ _).drew) hbX)))); have HX5 := Lib.hid hX; clear hX))
            | (go_at_call 44; ((with_reducible refine (c2 _ (by first | assumption | exact Below.drew (by assumption) | exact Below.refl _ _ | exact (Below.refl _ _).drew)).mono ?_); rintro e wX ⟨A7, N7, C7, rfl, hX, hbX⟩; have Bz : Below W.heap.size W wX := bel_trans (by first | assumption | exact Below.drew (by assumption) | exact Below.refl _ _ | exact (Below.refl _ _).drew) hbX; (try (have HX5 := Lib.hid (ArW.b HX5.out (by first | exact hbX | exact bel_trans ((Below.refl _ _).drew) hbX)))); (try (have HX7 := Lib.hid (ArW.b HX7.out (by first | exact hbX | exact bel_trans ((Below.refl _ _).drew) hbX)))); have HX7 := Lib.hid hX; clear hX))
            | (go_at_call 40; ((with_reducible refine (cTm _ _ _ _ _ _ _ _ (by first | exact HX5.out | exact ArW.b HX5.out (Below.refl _ _).drew) (by first | exact HX7.out | exact ArW.b HX7.out (Below.refl _ _).drew)).mono ?_); rintro e wX ⟨rfl, hbX⟩; have Bz : Below W.heap.size W wX := bel_trans (by first | assumption | exact Below.drew (by assumption) | exact Below.refl _ _ | exact (Below.refl _ _).drew) hbX)))
        all_goals clear c1 c2 cTm
        all_goals try clear HX5 HX7
        all_goals go_wp2_with fail
        all_goals (
          obtain ⟨t0, t1, t2, t3, a0, a1, a2, a3, a4⟩ := HQ.out _ Bz
          cases RR with
          | false =>
            clear c5 c4 cEx
            refine wp_region_noPanic ?_
            refine wp_region_held_drew (S := fun w' => w'.cell? ⟨w.heap.size, 0, none⟩ = some (.int .i64 oT) ∧ w'.cell? ⟨w.heap.size, 1, none⟩ = some (.string mT) ∧ w'.cell? ⟨w.heap.size, 2, none⟩ = some (.int .i64 pT) ∧ w'.cell? ⟨w.heap.size, 3, none⟩ = some (.slice aT nT cT) ∧ w'.cell? ⟨w.heap.size + 1, 0, none⟩ = some (.int .i64 oA) ∧ w'.cell? ⟨w.heap.size + 1, 1, none⟩ = some (.string mA) ∧ w'.cell? ⟨w.heap.size + 1, 2, none⟩ = some (.string pA) ∧ w'.cell? ⟨w.heap.size + 1, 3, none⟩ = some (.slice kAa kAn kAc) ∧ w'.cell? ⟨w.heap.size + 1, 4, none⟩ = some (.slice aA nA cA)) (by kernel_rfl) (by exact HQ.out _ (by first | assumption | exact Below.drew (by assumption) | exact Below.refl _ _ | exact (Below.refl _ _).drew)) (fun hHeld => ?_)
            refine wpAnyH_take (i := 0) (v := ?_) rfl (by kernel_rfl) (by kernel_rfl) (by kernel_rfl) (fun _ _ _ h => h) (Or.inl ⟨by rfl, ?hy⟩) (by assumption) ?_
            case hy => (intro w hSw; (try dsimp only at hSw); go_simp; try (with_reducible rfl))
            (try simp only [Act.put, List.setIfInBounds_toArray, List.set_cons_zero, List.set_cons_succ])
            refine wpAnyH_take (i := 1) (v := ?_) rfl (by kernel_rfl) (by kernel_rfl) (by kernel_rfl) (fun _ _ _ h => h) (Or.inl ⟨by rfl, ?hy⟩) (by assumption) ?_
            case hy => (intro w hSw; (try dsimp only at hSw); go_simp; try (with_reducible rfl))
            (try simp only [Act.put, List.setIfInBounds_toArray, List.set_cons_zero, List.set_cons_succ])
            refine wpAnyH_ready (rs := [2]) (by kernel_rfl) (by simp) ?_
            refine AllReadyH.cons rfl (fun KK hKK => ?_) AllReadyH.nil
            go_simp
            (go_at_call 45; ((with_reducible refine (c3 _ (by first | assumption | exact Below.drew (by assumption) | exact Below.refl _ _ | exact (Below.refl _ _).drew)).mono ?_); rintro e wX ⟨rfl, hbX⟩; have Bz : Below W.heap.size W wX := bel_trans (by first | assumption | exact Below.drew (by assumption) | exact Below.refl _ _ | exact (Below.refl _ _).drew) hbX; (try (have HX5 := Lib.hid (ArWC.b HX5.out (by first | exact hbX | exact bel_trans ((Below.refl _ _).drew) hbX)))); (try (have HX7 := Lib.hid (ArWC.b HX7.out (by first | exact hbX | exact bel_trans ((Below.refl _ _).drew) hbX))))))
            refine hKK.out _ _ (by exact HQ.out _ (by first | assumption | exact Below.drew (by assumption) | exact Below.refl _ _ | exact (Below.refl _ _).drew)) (fun hHeld => ?_)
            clear hKK KK
            (try simp only [Act.put, List.setIfInBounds_toArray, List.set_cons_zero, List.set_cons_succ])
            refine wpAnyH_take (i := 3) (v := ?_) rfl (by kernel_rfl) (by kernel_rfl) (by kernel_rfl) (fun _ _ _ h => h) (Or.inl ⟨by rfl, ?hy⟩) (by assumption) ?_
            case hy => (intro w hSw; (try dsimp only at hSw); go_simp; try (with_reducible rfl))
            (try simp only [Act.put, List.setIfInBounds_toArray, List.set_cons_zero, List.set_cons_succ])
            refine wpAnyH_take (i := 4) (v := ?_) rfl (by kernel_rfl) (by kernel_rfl) (by kernel_rfl) (fun _ _ _ h => h) (Or.inl ⟨by rfl, ?hy⟩) (by assumption) ?_
            case hy => (intro w hSw; (try dsimp only at hSw); go_simp; try (with_reducible rfl))
            (try simp only [Act.put, List.setIfInBounds_toArray, List.set_cons_zero, List.set_cons_succ])
            refine wpAnyH_take (i := 5) (v := undef) rfl (by kernel_rfl) (by kernel_rfl) (by kernel_rfl) (fun _ _ _ h => h) (Or.inr ⟨by rfl, rfl⟩) (by assumption) ?_
            (try simp only [Act.put, List.setIfInBounds_toArray, List.set_cons_zero, List.set_cons_succ])
            refine wpAnyH_take (i := 6) (v := undef) rfl (by kernel_rfl) (by kernel_rfl) (by kernel_rfl) (fun _ _ _ h => h) (Or.inr ⟨by rfl, rfl⟩) (by assumption) ?_
            (try simp only [Act.put, List.setIfInBounds_toArray, List.set_cons_zero, List.set_cons_succ])
            refine wpAnyH_take (i := 7) (v := undef) rfl (by kernel_rfl) (by kernel_rfl) (by kernel_rfl) (fun _ _ _ h => h) (Or.inr ⟨by rfl, rfl⟩) (by assumption) ?_
            (try simp only [Act.put, List.setIfInBounds_toArray, List.set_cons_zero, List.set_cons_succ])
            refine wpAnyH_take (i := 8) (v := undef) rfl (by kernel_rfl) (by kernel_rfl) (by kernel_rfl) (fun _ _ _ h => h) (Or.inr ⟨by rfl, rfl⟩) (by assumption) ?_
            (try simp only [Act.put, List.setIfInBounds_toArray, List.set_cons_zero, List.set_cons_succ])
            refine wpAnyH_take (i := 9) (v := undef) rfl (by kernel_rfl) (by kernel_rfl) (by kernel_rfl) (fun _ _ _ h => h) (Or.inr ⟨by rfl, rfl⟩) (by assumption) ?_
            (try simp only [Act.put, List.setIfInBounds_toArray, List.set_cons_zero, List.set_cons_succ])
            refine wpAnyH_take (i := 10) (v := undef) rfl (by kernel_rfl) (by kernel_rfl) (by kernel_rfl) (fun _ _ _ h => h) (Or.inr ⟨by rfl, rfl⟩) (by assumption) ?_
            (try simp only [Act.put, List.setIfInBounds_toArray, List.set_cons_zero, List.set_cons_succ])
            refine wpAnyH_take (i := 11) (v := undef) rfl (by kernel_rfl) (by kernel_rfl) (by kernel_rfl) (fun _ _ _ h => h) (Or.inr ⟨by rfl, rfl⟩) (by assumption) ?_
            (try simp only [Act.put, List.setIfInBounds_toArray, List.set_cons_zero, List.set_cons_succ])
            refine wpAnyH_take (i := 12) (v := ?_) rfl (by kernel_rfl) (by kernel_rfl) (by kernel_rfl) (fun _ _ _ h => h) (Or.inl ⟨by rfl, ?hy⟩) (by assumption) ?_
            case hy => (intro w hSw; (try dsimp only at hSw); go_simp; try (with_reducible rfl))
            (try simp only [Act.put, List.setIfInBounds_toArray, List.set_cons_zero, List.set_cons_succ])
            refine wpAnyH_take (i := 13) (v := ?_) rfl (by kernel_rfl) (by kernel_rfl) (by kernel_rfl) (fun _ _ _ h => h) (Or.inl ⟨by rfl, ?hy⟩) (by assumption) ?_
            case hy => (intro w hSw; (try dsimp only at hSw); go_simp; try (with_reducible rfl))
            (try simp only [Act.put, List.setIfInBounds_toArray, List.set_cons_zero, List.set_cons_succ])
            refine wpAnyH_ready (rs := [14]) (by kernel_rfl) (by simp) ?_
            refine AllReadyH.cons rfl (fun KK hKK => ?_) AllReadyH.nil
            go_simp
            (go_at_call 32; ((with_reducible refine (g0 _).mono ?_); rintro e wX ⟨rfl, hbX⟩; have Bz := bel_trans (a := W) (by first | assumption | exact Below.drew (by assumption) | exact Below.refl _ _ | exact (Below.refl _ _).drew) hbX))
            refine hKK.out _ _ (by exact HQ.out _ (by first | assumption | exact Below.drew (by assumption) | exact Below.refl _ _ | exact (Below.refl _ _).drew)) (fun hHeld => ?_)
            clear hKK KK
            (try simp only [Act.put, List.setIfInBounds_toArray, List.set_cons_zero, List.set_cons_succ])
            refine wpAnyH_take (i := 15) (v := ?_) rfl (by kernel_rfl) (by kernel_rfl) (by kernel_rfl) (fun _ _ _ h => h) (Or.inl ⟨by rfl, ?hy⟩) (by assumption) ?_
            case hy => (intro w hSw; (try dsimp only at hSw); go_simp; try (with_reducible rfl))
            (try simp only [Act.put, List.setIfInBounds_toArray, List.set_cons_zero, List.set_cons_succ])
            refine wpAnyH_take (i := 16) (v := ?_) rfl (by kernel_rfl) (by kernel_rfl) (by kernel_rfl) (fun _ _ _ h => h) (Or.inl ⟨by rfl, ?hy⟩) (by assumption) ?_
            case hy => (intro w hSw; (try dsimp only at hSw); go_simp; try (with_reducible rfl))
            (try simp only [Act.put, List.setIfInBounds_toArray, List.set_cons_zero, List.set_cons_succ])
            (try simp only [List.getElem_toArray, List.getElem_cons_succ, List.getElem_cons_zero, Act.put, List.setIfInBounds_toArray, List.set_cons_zero, List.set_cons_succ])
            refine wpAnyH_done (by kernel_rfl) ?_ _
            refine NoPanic.normal ?_
            all_goals go_wp2
            all_goals go_ret
            all_goals exact ⟨rfl, bel_trans hB0 Bz⟩
          | true =>
            replace c5 := c5 rfl
            go_region_held3 (fun w' => w'.cell? ⟨w.heap.size, 0, none⟩ = some (.int .i64 oT) ∧ w'.cell? ⟨w.heap.size, 1, none⟩ = some (.string mT) ∧ w'.cell? ⟨w.heap.size, 2, none⟩ = some (.int .i64 pT) ∧ w'.cell? ⟨w.heap.size, 3, none⟩ = some (.slice aT nT cT) ∧ w'.cell? ⟨w.heap.size + 1, 0, none⟩ = some (.int .i64 oA) ∧ w'.cell? ⟨w.heap.size + 1, 1, none⟩ = some (.string mA) ∧ w'.cell? ⟨w.heap.size + 1, 2, none⟩ = some (.string pA) ∧ w'.cell? ⟨w.heap.size + 1, 3, none⟩ = some (.slice kAa kAn kAc) ∧ w'.cell? ⟨w.heap.size + 1, 4, none⟩ = some (.slice aA nA cA))
              (first | (exact HQ.out _ (by first | assumption | exact Below.drew (by assumption) | exact Below.refl _ _ | exact (Below.refl _ _).drew)) | go_keep)
              (first
                | (go_at_call 45; ((with_reducible refine (c3 _ (by first | assumption | exact Below.drew (by assumption) | exact Below.refl _ _ | exact (Below.refl _ _).drew)).mono ?_); rintro e wX ⟨rfl, hbX⟩; have Bz : Below W.heap.size W wX := bel_trans (by first | assumption | exact Below.drew (by assumption) | exact Below.refl _ _ | exact (Below.refl _ _).drew) hbX; (try (have HX5 := Lib.hid (ArWC.b HX5.out (by first | exact hbX | exact bel_trans ((Below.refl _ _).drew) hbX)))); (try (have HX7 := Lib.hid (ArWC.b HX7.out (by first | exact hbX | exact bel_trans ((Below.refl _ _).drew) hbX))))))
                | (go_at_call 47; ((with_reducible refine (c4 _ (by first | assumption | exact Below.drew (by assumption) | exact Below.refl _ _ | exact (Below.refl _ _).drew)).mono ?_); rintro e wX ⟨K50, K51, K52, A5, N5, C5, rfl, hX, hbX⟩; have Bz : Below W.heap.size W wX := bel_trans (by first | assumption | exact Below.drew (by assumption) | exact Below.refl _ _ | exact (Below.refl _ _).drew) hbX; (try (have HX5 := Lib.hid (ArWC.b HX5.out (by first | exact hbX | exact bel_trans ((Below.refl _ _).drew) hbX)))); (try (have HX7 := Lib.hid (ArWC.b HX7.out (by first | exact hbX | exact bel_trans ((Below.refl _ _).drew) hbX)))); have HX5 := Lib.hid hX; clear hX))
                | (go_at_call 48; ((with_reducible refine (c5 _ (by first | assumption | exact Below.drew (by assumption) | exact Below.refl _ _ | exact (Below.refl _ _).drew)).mono ?_); rintro e wX ⟨K70, K71, K72, A7, N7, C7, rfl, hX, hbX⟩; have Bz : Below W.heap.size W wX := bel_trans (by first | assumption | exact Below.drew (by assumption) | exact Below.refl _ _ | exact (Below.refl _ _).drew) hbX; (try (have HX5 := Lib.hid (ArWC.b HX5.out (by first | exact hbX | exact bel_trans ((Below.refl _ _).drew) hbX)))); (try (have HX7 := Lib.hid (ArWC.b HX7.out (by first | exact hbX | exact bel_trans ((Below.refl _ _).drew) hbX)))); have HX7 := Lib.hid hX; clear hX))
                | (go_at_call 46; ((with_reducible refine (cEx _ _ _ _ _ _ _ _ _ _ _ _ _ _ (by first | exact HX5.out | exact ArWC.b HX5.out (Below.refl _ _).drew) (by first | exact HX7.out | exact ArWC.b HX7.out (Below.refl _ _).drew)).mono ?_); rintro e wX ⟨rfl, hbX⟩; have Bz : Below W.heap.size W wX := bel_trans (by first | assumption | exact Below.drew (by assumption) | exact Below.refl _ _ | exact (Below.refl _ _).drew) hbX))
                | (go_at_call 32; ((with_reducible refine (g0 _).mono ?_); rintro e wX ⟨rfl, hbX⟩; have Bz := bel_trans (a := W) (by first | assumption | exact Below.drew (by assumption) | exact Below.refl _ _ | exact (Below.refl _ _).drew) hbX)))
            all_goals go_wp2
            all_goals go_ret
            all_goals exact ⟨rfl, bel_trans hB0 Bz⟩)
      · have p2 : decide (60 < wz) = true := decide_eq_true (by omega)
        rw [p2] at zA
        clear HP cTm cEx
        go_enter Try.func8, Try.ntmps8
        go_wp2_with (first
          | (go_at_call 31; ((with_reducible refine (z1 _ (by assumption)).mono ?_); rintro e wX ⟨rfl, hbX⟩; have Bz := bel_trans (a := W) (by assumption) hbX; obtain ⟨t0, t1, t2, t3, a0, a1, a2, a3, a4⟩ := HQ.out _ Bz))
          | (go_at_call 22; ((with_reducible refine (z2 _ (by assumption)).mono ?_); rintro e wY ⟨rfl, hbX⟩; have Bz := bel_trans (a := W) (bel_alloc (by assumption) _) hbX; obtain ⟨t0, t1, t2, t3, a0, a1, a2, a3, a4⟩ := HQ.out _ Bz))
          | (go_at_call 42; ((with_reducible refine (zA _ (by assumption)).mono ?_); rintro e wX ⟨rfl, hbX⟩; have Bz := bel_trans (a := W) (by assumption) hbX; obtain ⟨t0, t1, t2, t3, a0, a1, a2, a3, a4⟩ := HQ.out _ Bz))
          | (go_at_call 32; ((with_reducible refine (g0 _).mono ?_); rintro e wX ⟨rfl, hbX⟩; have Bz := bel_trans (a := W) (by first | assumption | exact Below.drew (by assumption) | exact Below.refl _ _ | exact (Below.refl _ _).drew) hbX)))
        go_ret
        exact ⟨rfl, bel_trans hB0 Bz⟩
    · have p1 : decide (sz ≤ 60) = false := decide_eq_false q1
      rw [p1] at z2
      clear HP zA cTm cEx
      go_enter Try.func8, Try.ntmps8
      go_wp2_with (first
        | (go_at_call 31; ((with_reducible refine (z1 _ (by assumption)).mono ?_); rintro e wX ⟨rfl, hbX⟩; have Bz := bel_trans (a := W) (by assumption) hbX; obtain ⟨t0, t1, t2, t3, a0, a1, a2, a3, a4⟩ := HQ.out _ Bz))
        | (go_at_call 22; ((with_reducible refine (z2 _ (by assumption)).mono ?_); rintro e wY ⟨rfl, hbX⟩; have Bz := bel_trans (a := W) (bel_alloc (by assumption) _) hbX; obtain ⟨t0, t1, t2, t3, a0, a1, a2, a3, a4⟩ := HQ.out _ Bz))
        | (go_at_call 32; ((with_reducible refine (g0 _).mono ?_); rintro e wX ⟨rfl, hbX⟩; have Bz := bel_trans (a := W) (by first | assumption | exact Below.drew (by assumption) | exact Below.refl _ _ | exact (Below.refl _ _).drew) hbX)))
      go_ret
      exact ⟨rfl, bel_trans hB0 Bz⟩
theorem substApplies (A : Option Addr) (n d : Nat) (l : List Pr) (z : TmV) (z2 : ClV) (w : World) (_ : n ≤ 9223372036854775807) (H : UsW w A n d l ∧ smU l ∧ ∀ p ∈ l, zT p.t) (HT : ArW w z.t z.a z.n z.c ∧ smT z.t) (HA : ArWC w z2.t z2.k z2.a z2.n z2.c ∧ smC z2.t) :
    Calls Try.prog 8 #[.slice A n d, z.val, z2.val] w fun e w' => e = .returned (.bool true) ∧ Below w.heap.size w w' :=
  appliesB l A n d z.t z.a z.n z.c z2.t z2.k z2.a z2.n z2.c w H.1 H.2.1 H.2.2 HT.1 HT.2 HA.1 HA.2
end Go.Proofs.Yteedfbbcboehgaa.U
