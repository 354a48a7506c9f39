/-
  What is proved: the law over what a substitution has for a name, and what it is with a pair more.
-/
import Derived.Test.YtnodcpifbcabmaaZSbPm
import Derived.Test.YtnodcpifbcabmaaZSbGt
import Derived.Test.YtnodcpifbcabmaaBN
import Derived.Test.YtnodcpifbcabmaaZSbW
import Derived.Test.YtnodcpifbcabmaaZSbCp
import Derived.Test.YtnodcpifbcabmaaZTrmY
import Derived.Test.YtnodcpifbcabmaaBM
namespace Go.Proofs.Ytnodcpifbcabmaa.U
open Go.RowKit L T C B Mt
set_option linter.unusedVariables false
set_option linter.unusedSimpArgs false

def zeroTm : Tm := .mk 0 ⟨#[]⟩ 0 []
/-- what Get answers, with one form for both ways -/
def GetQ (r : Tm) (ok : Bool) (w : World) (e : Ending) (w' : World) : Prop := ∃ (a : Option Addr) (n c : Nat), e = .returned (.tuple #[.agg #[.int .i64 (opT r), .string (nameT r), .int .i64 (numT r), .slice a n c], .bool ok]) ∧ ArW w' r a n c ∧ Below w.heap.size w w'
theorem GetP.q {l : List Pr} {s : ByteArray} {w : World} {e : Ending} {w' : World} (h : GetP l s w e w') : GetQ ((getU l s).getD zeroTm) (getU l s).isSome w e w' := by
  rcases h with ⟨t, a, n, c, h1, h2, h3, h4⟩ | ⟨h1, h2, h3⟩
  · rw [h1]; exact ⟨a, n, c, h2, h3, h4⟩
  · rw [h1]
    refine ⟨none, 0, 0, h2, ?_, h3⟩
    show ArW w' (.mk 0 ⟨#[]⟩ 0 []) none 0 0
    unfold ArW
    rw [Ar]
    exact ⟨rfl, Nat.le_refl _, Nat.zero_le _, fun _ => rfl, fun h => absurd h (by omega)⟩
theorem mem_putU {l : List Pr} {x p : Pr} (h : p ∈ putU l x) : p = x ∨ p ∈ l := by
  unfold putU insP at h
  rcases List.mem_append.1 h with h | h
  · exact .inr (List.mem_filter.1 (List.mem_of_mem_take h)).1
  · rcases List.mem_cons.1 h with h | h
    · exact .inl h
    · exact .inr (List.mem_filter.1 (List.mem_of_mem_drop h)).1
theorem eqP_refl' (p : Pr) : eqP p p = true := by
  unfold eqP
  rw [eqS_iff.2 rfl, eqT_iff.2 rfl]; rfl
theorem eqPs_same : ∀ l : List Pr, eqPs l l = true
  | [] => rfl
  | p :: l => by rw [eqPs, eqPs_same l, eqP_refl']; rfl
theorem box_us {w : World} {B : Nat} {p : Pr} {a : Option Addr} {n c : Nat} (hA : ArW w p.t a n c) :
    UsW (w.alloc (.cells #[.string p.nm, .int .i64 (opT p.t), .string (nameT p.t), .int .i64 (numT p.t), .slice a n c] 43)) (some ⟨w.heap.size, 0, none⟩) 1 1 [p] :=
  (box_any (Nat.le_refl _) (Ar.p _ hA)).us (fun b hb => by simp; omega)
set_option maxRecDepth 100000 in
set_option maxHeartbeats 32000000 in
theorem putsB (l : List Pr) (x : Pr) (A : Option Addr) (n d : Nat) (aT : Option Addr) (nT cT : Nat) (w : World) (H : UsW w A n d l) (HT : ArW w x.t aT nT cT) :
    Calls Try.prog 5 #[.slice A n d, .string x.nm, .agg #[.int .i64 (opT x.t), .string (nameT x.t), .int .i64 (numT x.t), .slice aT nT cT]] w fun e w' => e = .returned (.bool true) ∧ Below w.heap.size w w' := by
  obtain ⟨W, hW, hB0, hs, ST⟩ := box1 w (opT x.t) (nameT x.t) (numT x.t) aT nT cT
  have gT := ArW.b HT hB0
  have gU := UsW.b H hB0
  have g0 := fun (w' : World) => goes_any w'
  have z1 := fun (w' : World) (h : Below W.heap.size W w') => SmallU_any l A n d w' (UsW.b gU h)
  have z2 := fun (w' : World) (h : Below W.heap.size W w') => Small_any [x.t] (some ⟨w'.heap.size, 0, none⟩) 1 1 (w'.alloc (.cells #[.int .i64 (opT x.t), .string (nameT x.t), .int .i64 (numT x.t), .slice aT nT cT] 24)) (tbox_ts (TBox.new w' (opT x.t) (nameT x.t) (numT x.t) aT nT cT) (ArW.b gT (bel_alloc h _)))
  rw [small_one] at z2
  have HST := Lib.hid ST
  obtain ⟨t0, t1, t2, t3⟩ := ST.four
  have hBd : Below W.heap.size W W := Below.refl _ _
  have HQ := Lib.hid (show ∀ (w' : World), Below W.heap.size W w' → w'.cell? ⟨w.heap.size, 0, none⟩ = some (.int .i64 (opT x.t)) ∧ w'.cell? ⟨w.heap.size, 1, none⟩ = some (.string (nameT x.t)) ∧ w'.cell? ⟨w.heap.size, 1 + 1, none⟩ = some (.int .i64 (numT x.t)) ∧ w'.cell? ⟨w.heap.size, 1 + 1 + 1, none⟩ = some (.slice aT nT cT) from fun w' h => (TBox.b HST.out h).four)
  have HP := Lib.hid (show smallU l = true → size x.t ≤ 60 →
      (∀ w', Below W.heap.size W w' → Calls Try.prog 25 #[.slice A n d, .string x.nm] w' fun e w1 => GetQ ((getU l x.nm).getD zeroTm) (getU l x.nm).isSome w' e w1) ∧
      (∀ w', Below W.heap.size W w' → Calls Try.prog 26 #[.slice A n d, .string x.nm] w' fun e w1 => GetQ ((getU l x.nm).getD zeroTm) (getU l x.nm).isSome w' e w1) ∧
      (∀ w', Below W.heap.size W w' → Calls Try.prog 27 #[.slice A n d, .string x.nm, .agg #[.int .i64 (opT x.t), .string (nameT x.t), .int .i64 (numT x.t), .slice aT nT cT]] w' fun e w1 => ∃ A N C, e = .returned (.slice A N C) ∧ UsW w1 A N C (putU l x) ∧ Below w'.heap.size w' w1) ∧
      (∀ w', Below W.heap.size W w' → Calls Try.prog 31 #[.slice A n d, .string x.nm, .agg #[.int .i64 (opT x.t), .string (nameT x.t), .int .i64 (numT x.t), .slice aT nT cT]] w' fun e w1 => ∃ A N C, e = .returned (.slice A N C) ∧ UsW w1 A N C (putU l x) ∧ Below w'.heap.size w' w1) ∧
      (∀ w' A7 N7 C7, UsW w' A7 N7 C7 (putU l x) → Calls Try.prog 25 #[.slice A7 N7 C7, .string x.nm] w' fun e w1 => GetQ x.t true w' e w1) ∧
      (∀ w', Below W.heap.size W w' → Calls Try.prog 29 #[.slice A n d] w' fun e w1 => e = .returned (.int .i64 (rgU none l)) ∧ Below w'.heap.size w' w1) ∧
      (∀ w', Below W.heap.size W w' → Calls Try.prog 29 #[.slice (some ⟨w'.heap.size, 0, none⟩) 1 1] (w'.alloc (.cells #[.string x.nm, .int .i64 (opT x.t), .string (nameT x.t), .int .i64 (numT x.t), .slice aT nT cT] 43)) fun e w1 => e = .returned (.int .i64 (rgU none [x])) ∧ Below w'.heap.size w' w1) ∧
      (∀ w' A7 N7 C7, UsW w' A7 N7 C7 (putU l x) → Calls Try.prog 29 #[.slice A7 N7 C7] w' fun e w1 => e = .returned (.int .i64 (rgU none (putU l x))) ∧ Below w'.heap.size w' w1) from fun h1 h2 => by
    obtain ⟨q1, q2⟩ := smallU_of h1
    have hn : n = l.length := H.1
    have qx : ∀ p ∈ putU l x, size p.t ≤ 60 := fun p hp => by rcases mem_putU hp with rfl | hp; exact h2; exact q2 p hp
    refine ⟨fun w' h => (Get_any l (fun p hp => by have := q2 p hp; omega) x.nm A n d w' (UsW.b gU h)).mono fun e w1 h => h.q, fun w' h => (Get10_any l x.nm A n d w' (UsW.b gU h)).mono fun e w1 h => h.q,
      fun w' h => Put_any l (fun p hp => by have := q2 p hp; omega) x (by omega) A n d aT nT cT w' (by omega) (UsW.b gU h) (ArW.b gT h), fun w' h => ?_, fun w' A7 N7 C7 h => ?_, fun w' h => RightU_few l (fun p hp => by have := q2 p hp; omega) A n d w' (UsW.b gU h), fun w' h => ?_, fun w' A7 N7 C7 h => RightU_few (putU l x) (fun p hp => by have := qx p hp; omega) A7 N7 C7 w' h⟩
    · have := Put10_any l x A n d aT nT cT w' (by omega) (UsW.b gU h) (ArW.b gT h)
      rw [putR_eq] at this
      exact this
    · have := (Get_any (putU l x) (fun p hp => by have := qx p hp; omega) x.nm A7 N7 C7 w' h).mono fun e w1 h => h.q
      rw [getU_put] at this
      exact this
    · exact (RightU_few [x] (fun p hp => by rw [List.mem_singleton] at hp; subst hp; omega) _ _ _ _ (box_us (B := 0) (ArW.b gT h))).mono fun e w1 ⟨e1, e2⟩ => ⟨e1, bel_trans (bel_alloc (Below.refl _ _) _) e2⟩)
  have HE := Lib.hid (show rgU none l = 0 → rgU none [x] = 0 → rgU none (putU l x) = 0 from rgU_put l x)
  have cTm := fun (r : Tm) (A : Option Addr) (N C : Nat) (A' : Option Addr) (N' C' : Nat) (w' : World) (h : ArW w' r A N C) (h' : ArW w' r A' N' C') => (Term_any r r A N C A' N' C' w' h h').mono (R' := fun e w1 => e = .returned (.bool true) ∧ Below w'.heap.size w' w1) fun e w1 h => by rw [eqT_iff.2 rfl] at h; exact h
  have cTx := fun (A : Option Addr) (N C : Nat) (w' : World) (h : ArW w' x.t A N C) (h' : Below W.heap.size W w') => cTm x.t A N C aT nT cT w' h (ArW.b gT h')
  have cPs := fun (M : List Pr) (A : Option Addr) (N C : Nat) (A' : Option Addr) (N' C' : Nat) (w' : World) (h : UsW w' A N C M) (h' : UsW w' A' N' C' M) => (Pairs_any M M A N C A' N' C' w' h h').mono (R' := fun e w1 => e = .returned (.bool true) ∧ Below w'.heap.size w' w1) fun e w1 h => by rw [eqPs_same] at h; exact h
  clear ST gT gU HT H hs
  unfold GetQ at HP
  generalize smallU l = s1 at *
  generalize size x.t = sz at *
  generalize (getU l x.nm).getD zeroTm = r at *
  generalize (getU l x.nm).isSome = ok at *
  generalize rgU none l = E1 at *
  generalize rgU none [x] = E2 at *
  generalize rgU none (putU l x) = E3 at *
  generalize putU l x = M at *
  have HX := Lib.hid (show ∀ (a : Option Addr) (n c : Nat) (w' : World), ArW w' x.t a n c → ArW w' x.t a n c from fun _ _ _ _ h => h)
  generalize opT x.t = oT at *
  generalize nameT x.t = mT at *
  generalize numT x.t = pT at *
  generalize x.nm = xn at *
  cases s1 with
  | false =>
    clear HP z2 cTm cTx cPs HE
    go_enter Try.func5, Try.ntmps5
    go_wp2_with (first
      | (go_at_call 23; ((with_reducible refine (z1 _ hBd).mono ?_); rintro e wX ⟨rfl, hbX⟩; have Bz := bel_trans hBd hbX; obtain ⟨t0, t1, t2, t3⟩ := HQ.out _ Bz))
      | (go_at_call 24; ((with_reducible refine (g0 _).mono ?_); rintro e wX ⟨rfl, hbX⟩; have Bz := bel_trans Bz hbX)))
    go_ret
    exact ⟨rfl, bel_trans hB0 Bz⟩
  | true =>
    by_cases q1 : sz ≤ 60
    · have p1 : decide (sz ≤ 60) = true := decide_eq_true q1
      rw [p1] at z2
      obtain ⟨c1, c2, c3, c4, c5, c6, c7, c8⟩ := HP.out rfl q1
      clear HP p1 q1
      by_cases hE1 : E1 = 0
      · by_cases hE2 : E2 = 0
        · have hE3 := HE.out hE1 hE2
          rw [hE1] at c6
          rw [hE2] at c7
          rw [hE3] at c8
          clear HE hE1 hE2 hE3
          go_enter Try.func5, Try.ntmps5
          go_wp2_with (first
            | (go_at_call 23; ((with_reducible refine (z1 _ hBd).mono ?_); rintro e wX ⟨rfl, hbX⟩; have Bz := bel_trans hBd hbX; obtain ⟨t0, t1, t2, t3⟩ := HQ.out _ Bz))
            | (go_at_call 17; ((with_reducible refine (z2 _ Bz).mono ?_); rintro e wY ⟨rfl, hbX⟩; have Bz := bel_trans (bel_alloc Bz _) hbX; obtain ⟨t0, t1, t2, t3⟩ := HQ.out _ Bz))
            | (go_at_call 25; ((with_reducible refine (c1 _ Bz).mono ?_); rintro e w3 ⟨aa3, nn3, cc3, rfl, h3, hb3⟩; have Bz := bel_trans Bz hb3; have X3 := Lib.hid h3; clear h3; obtain ⟨W4, hW4, hB4, hs4, S4⟩ := box1 w3 (opT r) (nameT r) (numT r) aa3 nn3 cc3; have Bz := bel_trans Bz hB4; have X3 := Lib.hid (ArW.b X3.out hB4); have HS4 := Lib.hid S4; clear S4 hs4; obtain ⟨t0, t1, t2, t3⟩ := HQ.out _ Bz))
            | (go_at_call 26; ((with_reducible refine (c2 _ Bz).mono ?_); rintro e w5 ⟨aa5, nn5, cc5, rfl, h5, hb5⟩; have Bz := bel_trans Bz hb5; have X5 := Lib.hid h5; clear h5; obtain ⟨W6, hW6, hB6, hs6, S6⟩ := box1 w5 (opT r) (nameT r) (numT r) aa5 nn5 cc5; have Bz := bel_trans Bz hB6; have C4 := bel_trans hb5 hB6; have X5 := Lib.hid (ArW.b X5.out hB6); have HS6 := Lib.hid S6; clear S6 hs6; obtain ⟨t0, t1, t2, t3⟩ := HQ.out _ Bz))
            | (go_at_call 27; ((with_reducible refine (c3 _ Bz).mono ?_); rintro e w7 ⟨A7, N7, C7, rfl, h7, hb7⟩; have Bz := bel_trans Bz hb7; have C4 := bel_trans C4 hb7; have C6 := hb7; have U7 := Lib.hid h7; clear h7; obtain ⟨t0, t1, t2, t3⟩ := HQ.out _ Bz))
            | (go_at_call 25; ((with_reducible refine (c5 _ _ _ _ U7.out).mono ?_); rintro e w8 ⟨a8, n8, c8', rfl, h8, hb8⟩; have X8 := Lib.hid h8; clear h8; obtain ⟨W9, hW9, hB9, hs9, S9⟩ := box1 w8 oT mT pT a8 n8 c8'; have D7 := bel_trans hb8 hB9; have Bz := bel_trans Bz D7; have C4 := bel_trans C4 D7; have C6 := bel_trans C6 D7; have X8 := Lib.hid (ArW.b X8.out hB9); have HS9 := Lib.hid S9; obtain ⟨s0, s1, s2, s3⟩ := S9.four; clear S9 hs9; obtain ⟨t0, t1, t2, t3⟩ := HQ.out _ Bz))
            | (go_at_call 28; ((with_reducible refine (cTx _ _ _ _ X8.out Bz).mono ?_); rintro e w10 ⟨rfl, hb10⟩; have D7 := bel_trans D7 hb10; have Bz := bel_trans Bz hb10; have C4 := bel_trans C4 hb10; have C6 := bel_trans C6 hb10; obtain ⟨t0, t1, t2, t3⟩ := HQ.out _ Bz; obtain ⟨p0, p1, p2, p3⟩ := (TBox.b HS4.out C4).four; obtain ⟨q0, q1, q2, q3⟩ := (TBox.b HS6.out C6).four))
            | (go_at_call 29; ((with_reducible refine (c6 _ Bz).mono ?_); rintro e w11 ⟨rfl, hb11⟩; have D7 := bel_trans D7 hb11; have Bz := bel_trans Bz hb11; have C4 := bel_trans C4 hb11; have C6 := bel_trans C6 hb11; obtain ⟨t0, t1, t2, t3⟩ := HQ.out _ Bz; obtain ⟨p0, p1, p2, p3⟩ := (TBox.b HS4.out C4).four; obtain ⟨q0, q1, q2, q3⟩ := (TBox.b HS6.out C6).four))
            | (go_at_call 29; ((with_reducible refine (c7 _ Bz).mono ?_); rintro e w12 ⟨rfl, hb12⟩; have D7 := bel_trans D7 hb12; have Bz := bel_trans Bz hb12; have C4 := bel_trans C4 hb12; have C6 := bel_trans C6 hb12; obtain ⟨t0, t1, t2, t3⟩ := HQ.out _ Bz; obtain ⟨p0, p1, p2, p3⟩ := (TBox.b HS4.out C4).four; obtain ⟨q0, q1, q2, q3⟩ := (TBox.b HS6.out C6).four))
            | (go_at_call 29; ((with_reducible refine (c8 _ _ _ _ (UsW.b U7.out D7)).mono ?_); rintro e w13 ⟨rfl, hb13⟩; have D7 := bel_trans D7 hb13; have Bz := bel_trans Bz hb13; have C4 := bel_trans C4 hb13; have C6 := bel_trans C6 hb13; obtain ⟨t0, t1, t2, t3⟩ := HQ.out _ Bz; obtain ⟨p0, p1, p2, p3⟩ := (TBox.b HS4.out C4).four; obtain ⟨q0, q1, q2, q3⟩ := (TBox.b HS6.out C6).four))
            | (go_at_call 28; ((with_reducible refine (cTm r _ _ _ _ _ _ _ (ArW.b X3.out C4) (ArW.b X5.out C6)).mono ?_); rintro e w14 ⟨rfl, hb14⟩; have D7 := bel_trans D7 hb14; have Bz := bel_trans Bz hb14; obtain ⟨t0, t1, t2, t3⟩ := HQ.out _ Bz))
            | (go_at_call 31; ((with_reducible refine (c4 _ Bz).mono ?_); rintro e w15 ⟨A15, N15, C15, rfl, h15, hb15⟩; have D7 := bel_trans D7 hb15; have Bz := bel_trans Bz hb15; have U15 := Lib.hid h15; clear h15))
            | (go_at_call 30; ((with_reducible refine (cPs _ _ _ _ _ _ _ _ (UsW.b U7.out D7) U15.out).mono ?_); rintro e w16 ⟨rfl, hb16⟩; have Bz := bel_trans Bz hb16))
            | (go_at_call 24; ((with_reducible refine (g0 _).mono ?_); rintro e wX ⟨rfl, hbX⟩; have Bz := bel_trans Bz hbX)))
          all_goals go_ret
          all_goals exact ⟨rfl, bel_trans hB0 Bz⟩
        · have hE2' : (E2 == 0) = false := beq_eq_false_iff_ne.2 hE2
          rw [hE1] at c6
          clear HE hE1 c8
          go_enter Try.func5, Try.ntmps5
          go_wp2_with (first
            | (go_at_call 23; ((with_reducible refine (z1 _ hBd).mono ?_); rintro e wX ⟨rfl, hbX⟩; have Bz := bel_trans hBd hbX; obtain ⟨t0, t1, t2, t3⟩ := HQ.out _ Bz))
            | (go_at_call 17; ((with_reducible refine (z2 _ Bz).mono ?_); rintro e wY ⟨rfl, hbX⟩; have Bz := bel_trans (bel_alloc Bz _) hbX; obtain ⟨t0, t1, t2, t3⟩ := HQ.out _ Bz))
            | (go_at_call 25; ((with_reducible refine (c1 _ Bz).mono ?_); rintro e w3 ⟨aa3, nn3, cc3, rfl, h3, hb3⟩; have Bz := bel_trans Bz hb3; have X3 := Lib.hid h3; clear h3; obtain ⟨W4, hW4, hB4, hs4, S4⟩ := box1 w3 (opT r) (nameT r) (numT r) aa3 nn3 cc3; have Bz := bel_trans Bz hB4; have X3 := Lib.hid (ArW.b X3.out hB4); have HS4 := Lib.hid S4; clear S4 hs4; obtain ⟨t0, t1, t2, t3⟩ := HQ.out _ Bz))
            | (go_at_call 26; ((with_reducible refine (c2 _ Bz).mono ?_); rintro e w5 ⟨aa5, nn5, cc5, rfl, h5, hb5⟩; have Bz := bel_trans Bz hb5; have X5 := Lib.hid h5; clear h5; obtain ⟨W6, hW6, hB6, hs6, S6⟩ := box1 w5 (opT r) (nameT r) (numT r) aa5 nn5 cc5; have Bz := bel_trans Bz hB6; have C4 := bel_trans hb5 hB6; have X5 := Lib.hid (ArW.b X5.out hB6); have HS6 := Lib.hid S6; clear S6 hs6; obtain ⟨t0, t1, t2, t3⟩ := HQ.out _ Bz))
            | (go_at_call 27; ((with_reducible refine (c3 _ Bz).mono ?_); rintro e w7 ⟨A7, N7, C7, rfl, h7, hb7⟩; have Bz := bel_trans Bz hb7; have C4 := bel_trans C4 hb7; have C6 := hb7; have U7 := Lib.hid h7; clear h7; obtain ⟨t0, t1, t2, t3⟩ := HQ.out _ Bz))
            | (go_at_call 25; ((with_reducible refine (c5 _ _ _ _ U7.out).mono ?_); rintro e w8 ⟨a8, n8, c8', rfl, h8, hb8⟩; have X8 := Lib.hid h8; clear h8; obtain ⟨W9, hW9, hB9, hs9, S9⟩ := box1 w8 oT mT pT a8 n8 c8'; have D7 := bel_trans hb8 hB9; have Bz := bel_trans Bz D7; have C4 := bel_trans C4 D7; have C6 := bel_trans C6 D7; have X8 := Lib.hid (ArW.b X8.out hB9); have HS9 := Lib.hid S9; obtain ⟨s0, s1, s2, s3⟩ := S9.four; clear S9 hs9; obtain ⟨t0, t1, t2, t3⟩ := HQ.out _ Bz))
            | (go_at_call 28; ((with_reducible refine (cTx _ _ _ _ X8.out Bz).mono ?_); rintro e w10 ⟨rfl, hb10⟩; have D7 := bel_trans D7 hb10; have Bz := bel_trans Bz hb10; have C4 := bel_trans C4 hb10; have C6 := bel_trans C6 hb10; obtain ⟨t0, t1, t2, t3⟩ := HQ.out _ Bz; obtain ⟨p0, p1, p2, p3⟩ := (TBox.b HS4.out C4).four; obtain ⟨q0, q1, q2, q3⟩ := (TBox.b HS6.out C6).four))
            | (go_at_call 29; ((with_reducible refine (c6 _ Bz).mono ?_); rintro e w11 ⟨rfl, hb11⟩; have D7 := bel_trans D7 hb11; have Bz := bel_trans Bz hb11; have C4 := bel_trans C4 hb11; have C6 := bel_trans C6 hb11; obtain ⟨t0, t1, t2, t3⟩ := HQ.out _ Bz; obtain ⟨p0, p1, p2, p3⟩ := (TBox.b HS4.out C4).four; obtain ⟨q0, q1, q2, q3⟩ := (TBox.b HS6.out C6).four))
            | (go_at_call 29; ((with_reducible refine (c7 _ Bz).mono ?_); rintro e w12 ⟨rfl, hb12⟩; have D7 := bel_trans D7 hb12; have Bz := bel_trans Bz hb12; have C4 := bel_trans C4 hb12; have C6 := bel_trans C6 hb12; obtain ⟨t0, t1, t2, t3⟩ := HQ.out _ Bz; obtain ⟨p0, p1, p2, p3⟩ := (TBox.b HS4.out C4).four; obtain ⟨q0, q1, q2, q3⟩ := (TBox.b HS6.out C6).four))
            | (go_at_call 28; ((with_reducible refine (cTm r _ _ _ _ _ _ _ (ArW.b X3.out C4) (ArW.b X5.out C6)).mono ?_); rintro e w14 ⟨rfl, hb14⟩; have D7 := bel_trans D7 hb14; have Bz := bel_trans Bz hb14; obtain ⟨t0, t1, t2, t3⟩ := HQ.out _ Bz))
            | (go_at_call 31; ((with_reducible refine (c4 _ Bz).mono ?_); rintro e w15 ⟨A15, N15, C15, rfl, h15, hb15⟩; have D7 := bel_trans D7 hb15; have Bz := bel_trans Bz hb15; have U15 := Lib.hid h15; clear h15))
            | (go_at_call 30; ((with_reducible refine (cPs _ _ _ _ _ _ _ _ (UsW.b U7.out D7) U15.out).mono ?_); rintro e w16 ⟨rfl, hb16⟩; have Bz := bel_trans Bz hb16))
            | (go_at_call 24; ((with_reducible refine (g0 _).mono ?_); rintro e wX ⟨rfl, hbX⟩; have Bz := bel_trans Bz hbX)))
          all_goals go_ret
          all_goals exact ⟨rfl, bel_trans hB0 Bz⟩
      · have hE1' : (E1 == 0) = false := beq_eq_false_iff_ne.2 hE1
        clear HE c7 c8
        go_enter Try.func5, Try.ntmps5
        go_wp2_with (first
          | (go_at_call 23; ((with_reducible refine (z1 _ hBd).mono ?_); rintro e wX ⟨rfl, hbX⟩; have Bz := bel_trans hBd hbX; obtain ⟨t0, t1, t2, t3⟩ := HQ.out _ Bz))
          | (go_at_call 17; ((with_reducible refine (z2 _ Bz).mono ?_); rintro e wY ⟨rfl, hbX⟩; have Bz := bel_trans (bel_alloc Bz _) hbX; obtain ⟨t0, t1, t2, t3⟩ := HQ.out _ Bz))
          | (go_at_call 25; ((with_reducible refine (c1 _ Bz).mono ?_); rintro e w3 ⟨aa3, nn3, cc3, rfl, h3, hb3⟩; have Bz := bel_trans Bz hb3; have X3 := Lib.hid h3; clear h3; obtain ⟨W4, hW4, hB4, hs4, S4⟩ := box1 w3 (opT r) (nameT r) (numT r) aa3 nn3 cc3; have Bz := bel_trans Bz hB4; have X3 := Lib.hid (ArW.b X3.out hB4); have HS4 := Lib.hid S4; clear S4 hs4; obtain ⟨t0, t1, t2, t3⟩ := HQ.out _ Bz))
          | (go_at_call 26; ((with_reducible refine (c2 _ Bz).mono ?_); rintro e w5 ⟨aa5, nn5, cc5, rfl, h5, hb5⟩; have Bz := bel_trans Bz hb5; have X5 := Lib.hid h5; clear h5; obtain ⟨W6, hW6, hB6, hs6, S6⟩ := box1 w5 (opT r) (nameT r) (numT r) aa5 nn5 cc5; have Bz := bel_trans Bz hB6; have C4 := bel_trans hb5 hB6; have X5 := Lib.hid (ArW.b X5.out hB6); have HS6 := Lib.hid S6; clear S6 hs6; obtain ⟨t0, t1, t2, t3⟩ := HQ.out _ Bz))
          | (go_at_call 27; ((with_reducible refine (c3 _ Bz).mono ?_); rintro e w7 ⟨A7, N7, C7, rfl, h7, hb7⟩; have Bz := bel_trans Bz hb7; have C4 := bel_trans C4 hb7; have C6 := hb7; have U7 := Lib.hid h7; clear h7; obtain ⟨t0, t1, t2, t3⟩ := HQ.out _ Bz))
          | (go_at_call 25; ((with_reducible refine (c5 _ _ _ _ U7.out).mono ?_); rintro e w8 ⟨a8, n8, c8', rfl, h8, hb8⟩; have X8 := Lib.hid h8; clear h8; obtain ⟨W9, hW9, hB9, hs9, S9⟩ := box1 w8 oT mT pT a8 n8 c8'; have D7 := bel_trans hb8 hB9; have Bz := bel_trans Bz D7; have C4 := bel_trans C4 D7; have C6 := bel_trans C6 D7; have X8 := Lib.hid (ArW.b X8.out hB9); have HS9 := Lib.hid S9; obtain ⟨s0, s1, s2, s3⟩ := S9.four; clear S9 hs9; obtain ⟨t0, t1, t2, t3⟩ := HQ.out _ Bz))
          | (go_at_call 28; ((with_reducible refine (cTx _ _ _ _ X8.out Bz).mono ?_); rintro e w10 ⟨rfl, hb10⟩; have D7 := bel_trans D7 hb10; have Bz := bel_trans Bz hb10; have C4 := bel_trans C4 hb10; have C6 := bel_trans C6 hb10; obtain ⟨t0, t1, t2, t3⟩ := HQ.out _ Bz; obtain ⟨p0, p1, p2, p3⟩ := (TBox.b HS4.out C4).four; obtain ⟨q0, q1, q2, q3⟩ := (TBox.b HS6.out C6).four))
          | (go_at_call 29; ((with_reducible refine (c6 _ Bz).mono ?_); rintro e w11 ⟨rfl, hb11⟩; have D7 := bel_trans D7 hb11; have Bz := bel_trans Bz hb11; have C4 := bel_trans C4 hb11; have C6 := bel_trans C6 hb11; obtain ⟨t0, t1, t2, t3⟩ := HQ.out _ Bz; obtain ⟨p0, p1, p2, p3⟩ := (TBox.b HS4.out C4).four; obtain ⟨q0, q1, q2, q3⟩ := (TBox.b HS6.out C6).four))
          | (go_at_call 28; ((with_reducible refine (cTm r _ _ _ _ _ _ _ (ArW.b X3.out C4) (ArW.b X5.out C6)).mono ?_); rintro e w14 ⟨rfl, hb14⟩; have D7 := bel_trans D7 hb14; have Bz := bel_trans Bz hb14; obtain ⟨t0, t1, t2, t3⟩ := HQ.out _ Bz))
          | (go_at_call 31; ((with_reducible refine (c4 _ Bz).mono ?_); rintro e w15 ⟨A15, N15, C15, rfl, h15, hb15⟩; have D7 := bel_trans D7 hb15; have Bz := bel_trans Bz hb15; have U15 := Lib.hid h15; clear h15))
          | (go_at_call 30; ((with_reducible refine (cPs _ _ _ _ _ _ _ _ (UsW.b U7.out D7) U15.out).mono ?_); rintro e w16 ⟨rfl, hb16⟩; have Bz := bel_trans Bz hb16))
          | (go_at_call 24; ((with_reducible refine (g0 _).mono ?_); rintro e wX ⟨rfl, hbX⟩; have Bz := bel_trans Bz hbX)))
        all_goals go_ret
        all_goals exact ⟨rfl, bel_trans hB0 Bz⟩
    · have p1 : decide (sz ≤ 60) = false := decide_eq_false q1
      rw [p1] at z2
      clear HP cTm cTx cPs HE q1 p1
      go_enter Try.func5, Try.ntmps5
      go_wp2_with (first
        | (go_at_call 23; ((with_reducible refine (z1 _ hBd).mono ?_); rintro e wX ⟨rfl, hbX⟩; have Bz := bel_trans hBd hbX; obtain ⟨t0, t1, t2, t3⟩ := HQ.out _ Bz))
        | (go_at_call 17; ((with_reducible refine (z2 _ Bz).mono ?_); rintro e wY ⟨rfl, hbX⟩; have Bz := bel_trans (bel_alloc Bz _) hbX; obtain ⟨t0, t1, t2, t3⟩ := HQ.out _ Bz))
        | (go_at_call 24; ((with_reducible refine (g0 _).mono ?_); rintro e wX ⟨rfl, hbX⟩; have Bz := bel_trans Bz hbX)))
      go_ret
      exact ⟨rfl, bel_trans hB0 Bz⟩
theorem substPuts (A : Option Addr) (n d : Nat) (l : List Pr) (s : ByteArray) (z : TmV) (w : World) (_ : n ≤ 9223372036854775807) (H : UsW w A n d l ∧ smU l) (_ : s.size ≤ 9223372036854775807) (HT : ArW w z.t z.a z.n z.c ∧ smT z.t) :
    Calls Try.prog 5 #[.slice A n d, .string s, z.val] w fun e w' => e = .returned (.bool true) ∧ Below w.heap.size w w' :=
  putsB l ⟨s, z.t⟩ A n d z.a z.n z.c w H.1 HT.1
end Go.Proofs.Ytnodcpifbcabmaa.U
