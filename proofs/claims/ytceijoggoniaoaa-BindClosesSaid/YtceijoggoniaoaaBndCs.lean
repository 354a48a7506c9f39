/-
  What is proved: the law over Close, All and Ex.
-/
import Derived.Test.YtceijoggoniaoaaBndLo
import Derived.Test.YtceijoggoniaoaaBndRf
import Derived.Test.YtceijoggoniaoaaBndOp
import Derived.Deep.RegionHeld3
namespace Go.Proofs.Ytceijoggoniaoaa.B
open Go.RowKit L T C
set_option linter.unusedVariables false
set_option linter.unusedSimpArgs false

theorem row1C (Z : World) (r : Cl) (K : SS) (A : Option Addr) (N C : Nat) (o : Int) (s z : ByteArray) (h : ArWC Z r K A N C) :
    ArWC (Z.alloc (.cells #[.int .i64 (opC r), .string (nmC r), .string (soC r), .slice K.a K.n K.c, .slice A N C] 25)) (.mk o s z [] [r]) SS.nil (some ⟨Z.heap.size, 0, none⟩) 1 1 := by
  have hb : Below Z.heap.size Z (Z.alloc (.cells #[.int .i64 (opC r), .string (nmC r), .string (soC r), .slice K.a K.n K.c, .slice A N C] 25)) := bel_alloc (Below.refl _ _) _
  have X := CBox.new Z (opC r) (nmC r) (soC r) K A N C
  obtain ⟨y0, y1, y2, y3, y4⟩ := X.five
  unfold ArWC
  rw [ArC]
  refine ⟨⟨rfl, Nat.le_refl _, Nat.zero_le _, fun _ => rfl, fun h => absurd h (by simp [SS.nil])⟩, rfl, Nat.le_refl _, by unfold maxLen; omega, (fun h => by cases h), fun _ => ⟨Z.heap.size, 0, rfl, Blk.lt X, ?_⟩⟩
  rw [RwC]
  exact ⟨⟨K, A, N, C, y0, y1, y2, y3, y4, ArWC.b h hb⟩, by rw [RwC]; trivial⟩
set_option maxRecDepth 100000 in
set_option maxHeartbeats 32000000 in
theorem closesB (A : Cl) (kA : SS) (aA : Option Addr) (nA cA : Nat) (name s0 : ByteArray) (w : World) (HA : ArWC w A kA aA nA cA) :
    Calls Try.prog 6 #[.agg #[.int .i64 (opC A), .string (nmC A), .string (soC A), .slice kA.a kA.n kA.c, .slice aA nA cA], .string name, .string s0] w fun e w' => e = .returned (.bool true) ∧ Below w.heap.size w w' := by
  obtain ⟨W, hW, hB0, hs, SA⟩ := cbox1 w (opC A) (nmC A) (soC A) kA aA nA cA
  have gA := ArWC.b HA hB0
  have g0 := fun (w' : World) => alive_any w'
  have zA := fun (w' : World) (h : Below W.heap.size W w') => Big_any A kA aA nA cA 200 w' (by omega) (ArWC.b gA h)
  rw [show ((200 : Nat) : Int) = 200 from rfl] at zA
  have HC := Lib.hid (show wtTo 200 A ≤ 200 → ∀ (w' : World), Below W.heap.size W w' →
      (Calls Try.prog 29 #[.agg #[.int .i64 (opC A), .string (nmC A), .string (soC A), .slice kA.a kA.n kA.c, .slice aA nA cA], .string name] w' fun e w1 => ∃ K0 K1 K2 A' N' C', e = .returned (.agg #[.int .i64 (opC (wkC (fClose name) 0 A)), .string (nmC (wkC (fClose name) 0 A)), .string (soC (wkC (fClose name) 0 A)), .slice K0 K1 K2, .slice A' N' C']) ∧ ArWC w1 (wkC (fClose name) 0 A) ⟨K0, K1, K2⟩ A' N' C' ∧ Below w'.heap.size w' w1) ∧
      (Calls Try.prog 26 #[.agg #[.int .i64 (opC A), .string (nmC A), .string (soC A), .slice kA.a kA.n kA.c, .slice aA nA cA], .string name] w' fun e w1 => ∃ K0 K1 K2 A' N' C', e = .returned (.agg #[.int .i64 (opC (wkC (fClose name) 0 A)), .string (nmC (wkC (fClose name) 0 A)), .string (soC (wkC (fClose name) 0 A)), .slice K0 K1 K2, .slice A' N' C']) ∧ ArWC w1 (wkC (fClose name) 0 A) ⟨K0, K1, K2⟩ A' N' C' ∧ Below w'.heap.size w' w1) ∧
      (Calls Try.prog 27 #[.string name, .string s0, .agg #[.int .i64 (opC A), .string (nmC A), .string (soC A), .slice kA.a kA.n kA.c, .slice aA nA cA]] w' fun e w1 => ∃ K0 K1 K2 A' N' C', e = .returned (.agg #[.int .i64 11, .string name, .string s0, .slice K0 K1 K2, .slice A' N' C']) ∧ ArCP (Nw 0 0 w'.heap.size w1.heap.size) w1 (.mk 11 name s0 [] [wkC (fClose name) 0 A]) ⟨K0, K1, K2⟩ A' N' C' ∧ Below w'.heap.size w' w1) ∧
      (Calls Try.prog 28 #[.string name, .string s0, .agg #[.int .i64 (opC A), .string (nmC A), .string (soC A), .slice kA.a kA.n kA.c, .slice aA nA cA]] w' fun e w1 => ∃ K0 K1 K2 A' N' C', e = .returned (.agg #[.int .i64 12, .string name, .string s0, .slice K0 K1 K2, .slice A' N' C']) ∧ ArCP (Nw 0 0 w'.heap.size w1.heap.size) w1 (.mk 12 name s0 [] [wkC (fClose name) 0 A]) ⟨K0, K1, K2⟩ A' N' C' ∧ Below w'.heap.size w' w1) from fun h1 w' hb => by
    have s1 := small_c h1
    exact ⟨(Close_any name A kA aA nA cA w' (by omega) (ArWC.b gA hb)).mono fun e w1 h => h.rv, (refClose_any name A kA aA nA cA w' (by omega) (ArWC.b gA hb)).mono fun e w1 h => h.rv, (All_any name s0 A kA aA nA cA w' (by omega) (ArWC.b gA hb)), (Ex_any name s0 A kA aA nA cA w' (by omega) (ArWC.b gA hb))⟩)
  have cE := fun (r : Cl) => exact_self r
  have HSA := Lib.hid SA
  obtain ⟨a0, a1, a2, a3, a4⟩ := SA.five
  have hBd : Below W.heap.size W W := Below.refl _ _
  clear SA gA HA
  generalize wtTo 200 A = tA at *
  generalize wkC (fClose name) 0 A = rr at *
  generalize opC A = oA at *
  generalize nmC A = mA at *
  generalize soC A = pA at *
  obtain ⟨kAa, kAn, kAc⟩ := kA
  dsimp only at *
  have cE11 := fun (K0 : Option Addr) (K1 K2 : Nat) (A' : Option Addr) (N' C' : Nat) (V0 : Option Addr) (V1 V2 : Nat) (A2 : Option Addr) (N2 C2 : Nat) (w' : World) (h : ArWC w' (.mk 11 name s0 [] [rr]) ⟨K0, K1, K2⟩ A' N' C') (h' : ArWC w' (.mk 11 name s0 [] [rr]) ⟨V0, V1, V2⟩ A2 N2 C2) => (show Calls Try.prog 18 #[.agg #[.int .i64 11, .string name, .string s0, .slice K0 K1 K2, .slice A' N' C'], .agg #[.int .i64 11, .string name, .string s0, .slice V0 V1 V2, .slice A2 N2 C2]] w' fun e w1 => e = .returned (.bool true) ∧ Below w'.heap.size w' w1 from exact_self (.mk 11 name s0 [] [rr]) K0 K1 K2 A' N' C' V0 V1 V2 A2 N2 C2 w' h h')
  have cE12 := fun (K0 : Option Addr) (K1 K2 : Nat) (A' : Option Addr) (N' C' : Nat) (V0 : Option Addr) (V1 V2 : Nat) (A2 : Option Addr) (N2 C2 : Nat) (w' : World) (h : ArWC w' (.mk 12 name s0 [] [rr]) ⟨K0, K1, K2⟩ A' N' C') (h' : ArWC w' (.mk 12 name s0 [] [rr]) ⟨V0, V1, V2⟩ A2 N2 C2) => (show Calls Try.prog 18 #[.agg #[.int .i64 12, .string name, .string s0, .slice K0 K1 K2, .slice A' N' C'], .agg #[.int .i64 12, .string name, .string s0, .slice V0 V1 V2, .slice A2 N2 C2]] w' fun e w1 => e = .returned (.bool true) ∧ Below w'.heap.size w' w1 from exact_self (.mk 12 name s0 [] [rr]) K0 K1 K2 A' N' C' V0 V1 V2 A2 N2 C2 w' h h')
  by_cases q1 : tA ≤ 200
  · by_cases q2 : name.size ≤ 300
    · have c1 := fun (w' : World) (hb : Below W.heap.size W w') => (HC.out q1 w' hb).1
      have c2 := fun (w' : World) (hb : Below W.heap.size W w') => (HC.out q1 w' hb).2.1
      have c3 := fun (w' : World) (hb : Below W.heap.size W w') => (HC.out q1 w' hb).2.2.1
      have c4 := fun (w' : World) (hb : Below W.heap.size W w') => (HC.out q1 w' hb).2.2.2
      go_enter Try.func6, Try.ntmps6
      go_wp2_with (first
        | (go_at_call 9; ((with_reducible refine (g0 _).mono ?_); rintro e wX ⟨rfl, hbX⟩; have Bz := bel_trans (a := W) (by first | assumption | exact Below.drew (by assumption)) hbX; (try (have HX5 := Lib.hid (ArWC.b HX5.out (by first | exact hbX | exact bel_trans ((Below.refl _ _).drew) hbX)))); (try (have HX7 := Lib.hid (ArWC.b HX7.out (by first | exact hbX | exact bel_trans ((Below.refl _ _).drew) hbX)))); (try (have HY5 := Lib.hid (ArW.b HY5.out (by first | exact hbX | exact bel_trans ((Below.refl _ _).drew) hbX)))); (try (have HY7 := Lib.hid (ArW.b HY7.out (by first | exact hbX | exact bel_trans ((Below.refl _ _).drew) hbX)))); obtain ⟨a0, a1, a2, a3, a4⟩ := (CBox.b HSA.out Bz).five))
        | (go_at_call 10; ((with_reducible refine (zA _ (by first | assumption | exact Below.drew (by assumption))).mono ?_); rintro e wX ⟨rfl, hbX⟩; have Bz := bel_trans (a := W) (by first | assumption | exact Below.drew (by assumption)) hbX; (try (have HX5 := Lib.hid (ArWC.b HX5.out (by first | exact hbX | exact bel_trans ((Below.refl _ _).drew) hbX)))); (try (have HX7 := Lib.hid (ArWC.b HX7.out (by first | exact hbX | exact bel_trans ((Below.refl _ _).drew) hbX)))); (try (have HY5 := Lib.hid (ArW.b HY5.out (by first | exact hbX | exact bel_trans ((Below.refl _ _).drew) hbX)))); (try (have HY7 := Lib.hid (ArW.b HY7.out (by first | exact hbX | exact bel_trans ((Below.refl _ _).drew) hbX)))); obtain ⟨a0, a1, a2, a3, a4⟩ := (CBox.b HSA.out Bz).five))
        | (go_at_call 26; ((with_reducible refine (c2 _ (by first | assumption | exact Below.drew (by assumption))).mono ?_); rintro e w5 ⟨K50, K51, K52, A5, N5, C5, rfl, hX, hbX⟩; obtain ⟨W6, hW6, hb6, -, X6⟩ := cbox1 w5 (opC rr) (nmC rr) (soC rr) ⟨K50, K51, K52⟩ A5 N5 C5; dsimp only at hW6; have Bz := bel_trans (a := W) (bel_trans (a := W) (by first | assumption | exact Below.drew (by assumption)) hbX) hb6; have HX6 := Lib.hid (ArWC.b hX hb6); have HB7 := Lib.hid X6; obtain ⟨a0, a1, a2, a3, a4⟩ := (CBox.b HSA.out Bz).five; clear hX X6)))
      have Bd6 : Below W6.heap.size W6 W6.drew := (Below.refl _ _).drew
      have Sd := CBox.b HSA.out (bel_trans (a := W) Bz Bd6)
      refine wp_region_noPanic ?_
      refine wp_region_held_drew (S := fun w' => w'.cell? ⟨w.heap.size, 0, none⟩ = some (.int .i64 oA) ∧ w'.cell? ⟨w.heap.size, 1, none⟩ = some (.string mA) ∧ w'.cell? ⟨w.heap.size, 2, none⟩ = some (.string pA) ∧ w'.cell? ⟨w.heap.size, 3, none⟩ = some (.slice kAa kAn kAc) ∧ w'.cell? ⟨w.heap.size, 4, none⟩ = some (.slice aA nA cA)) (by kernel_rfl) (by obtain ⟨q0, q1, q2, q3, q4⟩ := Sd.five; exact ⟨q0, q1, q2, q3, q4⟩) (fun hHeld => ?_)
      have Bc := bel_trans (a := W) Bz Bd6
      have b_W6 := Bd6
      have hz6 := Bz.size
      have hlt6 : w.heap.size < W6.heap.size := by omega
      generalize W6.drew = Wd at *
      refine wpAnyH_take (i := 0) (v := ?_) rfl (by kernel_rfl) (by kernel_rfl) (by kernel_rfl) (fun _ _ _ h => h) (Or.inl ⟨by rfl, ?hy⟩) (by assumption) ?_
      case hy => (intro w hSw; (try dsimp only at hSw); go_simp; try (with_reducible rfl))
      (try simp only [Act.put, List.setIfInBounds_toArray, List.set_cons_zero, List.set_cons_succ])
      refine wpAnyH_take (i := 1) (v := ?_) rfl (by kernel_rfl) (by kernel_rfl) (by kernel_rfl) (fun _ _ _ h => h) (Or.inl ⟨by rfl, ?hy⟩) (by assumption) ?_
      case hy => (intro w hSw; (try dsimp only at hSw); go_simp; try (with_reducible rfl))
      (try simp only [Act.put, List.setIfInBounds_toArray, List.set_cons_zero, List.set_cons_succ])
      refine wpAnyH_take (i := 2) (v := ?_) rfl (by kernel_rfl) (by kernel_rfl) (by kernel_rfl) (fun _ _ _ h => h) (Or.inl ⟨by rfl, ?hy⟩) (by assumption) ?_
      case hy => (intro w hSw; (try dsimp only at hSw); go_simp; try (with_reducible rfl))
      (try simp only [Act.put, List.setIfInBounds_toArray, List.set_cons_zero, List.set_cons_succ])
      refine wpAnyH_take (i := 4) (v := ?_) rfl (by kernel_rfl) (by kernel_rfl) (by kernel_rfl) (fun _ _ _ h => h) (Or.inl ⟨by rfl, ?hy⟩) (by assumption) ?_
      case hy => (intro w hSw; (try dsimp only at hSw); go_simp; try (with_reducible rfl))
      (try simp only [Act.put, List.setIfInBounds_toArray, List.set_cons_zero, List.set_cons_succ])
      refine wpAnyH_take (i := 5) (v := ?_) rfl (by kernel_rfl) (by kernel_rfl) (by kernel_rfl) (fun _ _ _ h => h) (Or.inl ⟨by rfl, ?hy⟩) (by assumption) ?_
      case hy => (intro w hSw; (try dsimp only at hSw); go_simp; try (with_reducible rfl))
      (try simp only [Act.put, List.setIfInBounds_toArray, List.set_cons_zero, List.set_cons_succ])
      refine wpAnyH_take (i := 6) (v := ?_) rfl (by kernel_rfl) (by kernel_rfl) (by kernel_rfl) (fun _ _ _ h => h) (Or.inl ⟨by rfl, ?hy⟩) (by assumption) ?_
      case hy => (intro w hSw; (try dsimp only at hSw); go_simp; try (with_reducible rfl))
      (try simp only [Act.put, List.setIfInBounds_toArray, List.set_cons_zero, List.set_cons_succ])
      refine wpAnyH_ready (rs := [3, 8, 9]) (by kernel_rfl) (by simp) ?_
      refine AllReadyH.cons rfl (fun KK hKK => ?_) ?_
      · go_simp
        (go_at_call 27; ((with_reducible refine (c3 _ Bc).mono ?_); rintro e wA ⟨P0, P1, P2, PA, PN, PC, rfl, hX, hb⟩))
        have stA := Lib.hid (rfl : Wd.heap.size = Wd.heap.size)
        have hzA := hb.size
        have HXA := Lib.hid hX
        clear hX
        have Bc := bel_trans (a := W) Bc hb
        have b_W6 := bel_trans (a := W6) b_W6 hb
        have b_wA := Below.refl wA.heap.size wA
        refine hKK.out _ _ (by obtain ⟨q0, q1, q2, q3, q4⟩ := CBox.five (CBox.b HSA.out Bc); exact ⟨q0, q1, q2, q3, q4⟩) (fun hHeld => ?_)
        clear hKK KK
        (try simp only [Act.put, List.setIfInBounds_toArray, List.set_cons_zero, List.set_cons_succ])
        refine wpAnyH_ready (rs := [7, 8, 9]) (by kernel_rfl) (by simp) ?_
        refine AllReadyH.cons rfl (fun KK hKK => ?_) ?_
        · go_simp
          (go_at_call 28; ((with_reducible refine (c4 _ Bc).mono ?_); rintro e wE ⟨E0, E1, E2, EA, EN, EC, rfl, hX, hb⟩))
          have stE := Lib.hid (rfl : wA.heap.size = wA.heap.size)
          have hzE := hb.size
          have HXE := Lib.hid hX
          clear hX
          have Bc := bel_trans (a := W) Bc hb
          have b_W6 := bel_trans (a := W6) b_W6 hb
          have b_wA := bel_trans (a := wA) b_wA hb
          have b_wE := Below.refl wE.heap.size wE
          refine hKK.out _ _ (by obtain ⟨q0, q1, q2, q3, q4⟩ := CBox.five (CBox.b HSA.out Bc); exact ⟨q0, q1, q2, q3, q4⟩) (fun hHeld => ?_)
          clear hKK KK
          (try simp only [Act.put, List.setIfInBounds_toArray, List.set_cons_zero, List.set_cons_succ])
          refine wpAnyH_ready (rs := [8, 9]) (by kernel_rfl) (by simp) ?_
          refine AllReadyH.cons rfl (fun KK hKK => ?_) ?_
          · obtain ⟨V8, hV8⟩ : ∃ V, wE.alloc (.cells #[.int .i64 0, .string ⟨#[]⟩, .string ⟨#[]⟩, .slice none 0 0, .slice none 0 0] 25) = V := ⟨_, rfl⟩
            obtain ⟨p8, hp8⟩ : ∃ p, wE.heap.size = p := ⟨_, rfl⟩
            have hb8 : Below wE.heap.size wE V8 := by rw [← hV8]; exact bel_alloc (Below.refl _ _) _
            have hz8 : V8.heap.size = p8 + 1 := by rw [← hV8, ← hp8]; simp
            have Z8 : CBox V8 p8 0 ⟨#[]⟩ ⟨#[]⟩ SS.nil none 0 0 := by rw [← hV8, ← hp8]; exact CBox.new wE 0 ⟨#[]⟩ ⟨#[]⟩ SS.nil none 0 0
            go_simp
            have Hp8 := Lib.hid hp8
            have Hz8 := Lib.hid hz8
            clear hV8 hp8 hz8
            have Bc := bel_trans (a := W) Bc hb8
            have b_W6 := bel_trans (a := W6) b_W6 hb8
            have b_wA := bel_trans (a := wA) b_wA hb8
            have b_wE := bel_trans (a := wE) b_wE hb8
            refine hKK.out _ _ (by obtain ⟨q0, q1, q2, q3, q4⟩ := CBox.five (CBox.b HSA.out Bc); exact ⟨q0, q1, q2, q3, q4⟩) (fun hHeld => ?_)
            clear hKK KK
            (try simp only [Act.put, List.setIfInBounds_toArray, List.set_cons_zero, List.set_cons_succ])
            refine wpAnyH_ready (rs := [9]) (by kernel_rfl) (by simp) ?_
            refine AllReadyH.cons rfl (fun KK hKK => ?_) ?_
            · obtain ⟨V9, hV9⟩ : ∃ V, V8.alloc (.cells #[.int .i64 0, .string ⟨#[]⟩, .string ⟨#[]⟩, .slice none 0 0, .slice none 0 0] 25) = V := ⟨_, rfl⟩
              obtain ⟨p9, hp9⟩ : ∃ p, V8.heap.size = p := ⟨_, rfl⟩
              have hb9 : Below V8.heap.size V8 V9 := by rw [← hV9]; exact bel_alloc (Below.refl _ _) _
              have hz9 : V9.heap.size = p9 + 1 := by rw [← hV9, ← hp9]; simp
              have Z9 : CBox V9 p9 0 ⟨#[]⟩ ⟨#[]⟩ SS.nil none 0 0 := by rw [← hV9, ← hp9]; exact CBox.new V8 0 ⟨#[]⟩ ⟨#[]⟩ SS.nil none 0 0
              go_simp
              have Hp9 := Lib.hid hp9
              have Hz9 := Lib.hid hz9
              clear hV9 hp9 hz9
              have Bc := bel_trans (a := W) Bc hb9
              have b_W6 := bel_trans (a := W6) b_W6 hb9
              have b_wA := bel_trans (a := wA) b_wA hb9
              have b_wE := bel_trans (a := wE) b_wE hb9
              have Z8 := CBox.b Z8 hb9
              refine hKK.out _ _ (by obtain ⟨q0, q1, q2, q3, q4⟩ := CBox.five (CBox.b HSA.out Bc); exact ⟨q0, q1, q2, q3, q4⟩) (fun hHeld => ?_)
              clear hKK KK
              (try simp only [Act.put, List.setIfInBounds_toArray, List.set_cons_zero, List.set_cons_succ])
              refine wpAnyH_ready (rs := [10]) (by kernel_rfl) (by simp) ?_
              refine AllReadyH.cons rfl (fun KK hKK => ?_) ?_
              · obtain ⟨z0, z1, z2, z3, z4⟩ := Z8.five
                obtain ⟨y0, y1, y2, y3, y4⟩ := Z8.free
                dsimp only [SS.nil] at z3
                have B8 := CBox.put Z8 11 name s0 ⟨P0, P1, P2⟩ PA PN PC
                have O8 := fun b (hb : b ≠ p8) => put5_other V9 p8 b (.int .i64 11) (.string name) (.string s0) (.slice P0 P1 P2) (.slice PA PN PC) hb
                have S8 := put5_size V9 p8 (.int .i64 11) (.string name) (.string s0) (.slice P0 P1 P2) (.slice PA PN PC)
                have hpw : W6.heap.size ≤ p8 ∧ W6.heap.size ≤ p9 ∧ p8 ≠ p9 ∧ w.heap.size < W6.heap.size := by have e8 := Hp8.out; have e9 := Hp9.out; have s6 := Bd6.size; have t0 := Hz8.out; have t1 := Hz9.out; have t2 := hzA; have t3 := hzE; have t4 := b_W6.size; omega
                have L8 := put5_below Bc (show W.heap.size ≤ p8 by have := hz6; omega) (.int .i64 11) (.string name) (.string s0) (.slice P0 P1 P2) (.slice PA PN PC)
                have L68 := put5_below b_W6 hpw.1 (.int .i64 11) (.string name) (.string s0) (.slice P0 P1 P2) (.slice PA PN PC)
                obtain ⟨U8, hU8⟩ : ∃ U, put5 V9 p8 (.int .i64 11) (.string name) (.string s0) (.slice P0 P1 P2) (.slice PA PN PC) = U := ⟨_, rfl⟩
                dsimp only at B8
                rw [hU8] at B8 O8 S8 L8 L68
                unfold put5 at hU8
                go_simp
                clear hU8
                refine hKK.out _ _ (by obtain ⟨q0, q1, q2, q3, q4⟩ := CBox.five (((O8 w.heap.size (by omega)).trans (CBox.b HSA.out Bc) : CBox U8 w.heap.size oA mA pA ⟨kAa, kAn, kAc⟩ aA nA cA)); exact ⟨q0, q1, q2, q3, q4⟩) (fun hHeld => ?_)
                clear hKK KK
                (try simp only [Act.put, List.setIfInBounds_toArray, List.set_cons_zero, List.set_cons_succ])
                have Z9 : CBox U8 p9 0 ⟨#[]⟩ ⟨#[]⟩ SS.nil none 0 0 := (O8 p9 (fun h => hpw.2.2.1 h.symm)).trans Z9
                refine wpAnyH_ready (rs := [11]) (by kernel_rfl) (by simp) ?_
                refine AllReadyH.cons rfl (fun KK hKK => ?_) ?_
                · obtain ⟨z0, z1, z2, z3, z4⟩ := Z9.five
                  obtain ⟨y0, y1, y2, y3, y4⟩ := Z9.free
                  dsimp only [SS.nil] at z3
                  have B9 := CBox.put Z9 12 name s0 ⟨E0, E1, E2⟩ EA EN EC
                  have O9 := fun b (hb : b ≠ p9) => put5_other U8 p9 b (.int .i64 12) (.string name) (.string s0) (.slice E0 E1 E2) (.slice EA EN EC) hb
                  have S9 := put5_size U8 p9 (.int .i64 12) (.string name) (.string s0) (.slice E0 E1 E2) (.slice EA EN EC)
                  have L9 := put5_below L8 (show W.heap.size ≤ p9 by have := hz6; omega) (.int .i64 12) (.string name) (.string s0) (.slice E0 E1 E2) (.slice EA EN EC)
                  have L69 := put5_below L68 hpw.2.1 (.int .i64 12) (.string name) (.string s0) (.slice E0 E1 E2) (.slice EA EN EC)
                  obtain ⟨WF, hWF⟩ : ∃ U, put5 U8 p9 (.int .i64 12) (.string name) (.string s0) (.slice E0 E1 E2) (.slice EA EN EC) = U := ⟨_, rfl⟩
                  dsimp only at B9
                  rw [hWF] at B9 O9 S9 L9 L69
                  unfold put5 at hWF
                  go_simp
                  clear hWF
                  refine hKK.out _ _ (by obtain ⟨q0, q1, q2, q3, q4⟩ := CBox.five (((O9 w.heap.size (by omega)).trans ((O8 w.heap.size (by omega)).trans (CBox.b HSA.out Bc)) : CBox WF w.heap.size oA mA pA ⟨kAa, kAn, kAc⟩ aA nA cA)); exact ⟨q0, q1, q2, q3, q4⟩) (fun hHeld => ?_)
                  clear hKK KK
                  (try simp only [Act.put, List.setIfInBounds_toArray, List.set_cons_zero, List.set_cons_succ])
                  refine wpAnyH_done (by kernel_rfl) ?_ _
                  refine NoPanic.normal ?_
                  have s6 := Bd6.size
                  have eA := hzA
                  have eE := hzE
                  have e8 := Hp8.out
                  have t0 := Hz8.out
                  have t1 := Hz9.out
                  have e9 := Hp9.out
                  have sA2 := b_wA.size
                  have sE2 := b_wE.size
                  have FC : CBox WF w.heap.size oA mA pA ⟨kAa, kAn, kAc⟩ aA nA cA := (O9 _ (by omega)).trans ((O8 _ (by omega)).trans (CBox.b HSA.out Bc))
                  have FS := CBox.b HB7.out L69
                  have FX := Lib.hid (ArWC.b HX6.out L69)
                  have F8 : CBox WF p8 11 name s0 ⟨P0, P1, P2⟩ PA PN PC := (O9 _ hpw.2.2.1).trans B8
                  have keep := fun (V : World) (hb : Below V.heap.size V V9) (b : Nat) (h1 : b < V.heap.size) (h2 : b ≠ p8) (h3 : b ≠ p9) => (O9 b h3).trans ((O8 b h2).trans (hb.block b h1))
                  have FA := Lib.hid (ArCP.ar (B := WF.heap.size) (fun b hb => hb) _ (ArCP.to (Q := fun b => b < WF.heap.size) (fun b hb => keep wA b_wA b (by unfold Nw at hb; omega) (by unfold Nw at hb; omega) (by unfold Nw at hb; omega)) (fun b hb => by unfold Nw at hb; omega) _ HXA.out) : ArWC WF (.mk 11 name s0 [] [rr]) ⟨P0, P1, P2⟩ PA PN PC)
                  have FE := Lib.hid (ArCP.ar (B := WF.heap.size) (fun b hb => hb) _ (ArCP.to (Q := fun b => b < WF.heap.size) (fun b hb => keep wE b_wE b (by unfold Nw at hb; omega) (by unfold Nw at hb; omega) (by unfold Nw at hb; omega)) (fun b hb => by unfold Nw at hb; omega) _ HXE.out) : ArWC WF (.mk 12 name s0 [] [rr]) ⟨E0, E1, E2⟩ EA EN EC)
                  have FB := Lib.hid L9
                  clear e8 e9 t0 t1 eA eE s6 sA2 sE2
                  clear HXA HXE Z8 Z9 O8 O9 S8 S9 L8 L68 keep
                  obtain ⟨T1, hT1, hb1, -, X1⟩ := cbox1 WF (opC rr) (nmC rr) (soC rr) ⟨K50, K51, K52⟩ A5 N5 C5
                  have R1 := row1C WF rr ⟨K50, K51, K52⟩ A5 N5 C5 11 name s0 FX.out
                  dsimp only [SS.nil] at hT1 R1
                  rw [hT1] at R1
                  obtain ⟨T2, hT2, hb2, -, X2⟩ := cbox1 T1 11 name s0 SS.nil (some ⟨WF.heap.size, 0, none⟩) 1 1
                  dsimp only [SS.nil] at hT2
                  obtain ⟨T3, hT3, hb3, -, X3⟩ := cbox1 T2 (opC rr) (nmC rr) (soC rr) ⟨K50, K51, K52⟩ A5 N5 C5
                  have b02 := bel_trans hb1 hb2
                  have R3 := row1C T2 rr ⟨K50, K51, K52⟩ A5 N5 C5 12 name s0 (ArWC.b FX.out b02)
                  dsimp only [SS.nil] at hT3 R3
                  rw [hT3] at R3
                  obtain ⟨T4, hT4, hb4, -, X4⟩ := cbox1 T3 12 name s0 SS.nil (some ⟨T2.heap.size, 0, none⟩) 1 1
                  dsimp only [SS.nil] at hT4
                  have b34 := bel_trans hb3 hb4
                  have b04 := bel_trans b02 b34
                  obtain ⟨f0, f1, f2, f3, f4⟩ := FS.five
                  obtain ⟨g0, g1, g2, g3, g4⟩ := (CBox.b FS b02).five
                  have FW := Lib.hid (bel_trans (a := W) FB.out b04)
                  have FX4 := Lib.hid (ArWC.b FX.out b04)
                  have FA4 := Lib.hid (ArWC.b FA.out b04)
                  have FE4 := Lib.hid (ArWC.b FE.out b04)
                  have FO4 := Lib.hid (ArWC.b R1 (bel_trans hb2 b34))
                  have FT4 := Lib.hid (ArWC.b R3 hb4)
                  have HQ4 := Lib.hid (show ∀ W', Below T4.heap.size T4 W' → W'.cell? ⟨w.heap.size, 0, none⟩ = some (.int .i64 oA) ∧ W'.cell? ⟨w.heap.size, 1, none⟩ = some (.string mA) ∧ W'.cell? ⟨w.heap.size, 2, none⟩ = some (.string pA) ∧ W'.cell? ⟨w.heap.size, 3, none⟩ = some (.slice kAa kAn kAc) ∧ W'.cell? ⟨w.heap.size, 4, none⟩ = some (.slice aA nA cA) ∧ W'.cell? ⟨w5.heap.size, 0, none⟩ = some (.int .i64 (opC rr)) ∧ W'.cell? ⟨w5.heap.size, 1, none⟩ = some (.string (nmC rr)) ∧ W'.cell? ⟨w5.heap.size, 2, none⟩ = some (.string (soC rr)) ∧ W'.cell? ⟨w5.heap.size, 3, none⟩ = some (.slice K50 K51 K52) ∧ W'.cell? ⟨w5.heap.size, 4, none⟩ = some (.slice A5 N5 C5) ∧ W'.cell? ⟨p8, 0, none⟩ = some (.int .i64 11) ∧ W'.cell? ⟨p8, 1, none⟩ = some (.string name) ∧ W'.cell? ⟨p8, 2, none⟩ = some (.string s0) ∧ W'.cell? ⟨p8, 3, none⟩ = some (.slice P0 P1 P2) ∧ W'.cell? ⟨p8, 4, none⟩ = some (.slice PA PN PC) ∧ W'.cell? ⟨p9, 0, none⟩ = some (.int .i64 12) ∧ W'.cell? ⟨p9, 1, none⟩ = some (.string name) ∧ W'.cell? ⟨p9, 2, none⟩ = some (.string s0) ∧ W'.cell? ⟨p9, 3, none⟩ = some (.slice E0 E1 E2) ∧ W'.cell? ⟨p9, 4, none⟩ = some (.slice EA EN EC) ∧ W'.cell? ⟨T1.heap.size, 0, none⟩ = some (.int .i64 11) ∧ W'.cell? ⟨T1.heap.size, 1, none⟩ = some (.string name) ∧ W'.cell? ⟨T1.heap.size, 2, none⟩ = some (.string s0) ∧ W'.cell? ⟨T1.heap.size, 3, none⟩ = some (.slice none 0 0) ∧ W'.cell? ⟨T1.heap.size, 4, none⟩ = some (.slice (some ⟨WF.heap.size, 0, none⟩) 1 1) ∧ W'.cell? ⟨T3.heap.size, 0, none⟩ = some (.int .i64 12) ∧ W'.cell? ⟨T3.heap.size, 1, none⟩ = some (.string name) ∧ W'.cell? ⟨T3.heap.size, 2, none⟩ = some (.string s0) ∧ W'.cell? ⟨T3.heap.size, 3, none⟩ = some (.slice none 0 0) ∧ W'.cell? ⟨T3.heap.size, 4, none⟩ = some (.slice (some ⟨T2.heap.size, 0, none⟩) 1 1) from fun W' hb => by
                    obtain ⟨a0, a1, a2, a3, a4⟩ := (CBox.b (CBox.b FC b04) hb).five
                    obtain ⟨b0, b1, b2, b3, b4⟩ := (CBox.b (CBox.b FS b04) hb).five
                    obtain ⟨c0, c1, c2, c3, c4⟩ := (CBox.b (CBox.b F8 b04) hb).five
                    obtain ⟨d0, d1, d2, d3, d4⟩ := (CBox.b (CBox.b B9 b04) hb).five
                    obtain ⟨e0, e1, e2, e3, e4⟩ := (CBox.b (CBox.b X2 b34) hb).five
                    obtain ⟨h0, h1, h2, h3, h4⟩ := (CBox.b X4 hb).five
                    exact ⟨a0, a1, a2, a3, a4, b0, b1, b2, b3, b4, c0, c1, c2, c3, c4, d0, d1, d2, d3, d4, e0, e1, e2, e3, e4, h0, h1, h2, h3, h4⟩)
                  clear FC FS F8 B9 X1 X2 X3 X4 R1 R3 hb1 hb2 hb3 hb4 b02 b34 b04
                  go_wp2_with fail
                  go_region_held3 (fun w' => w'.cell? ⟨w.heap.size, 0, none⟩ = some (.int .i64 oA) ∧ w'.cell? ⟨w.heap.size, 1, none⟩ = some (.string mA) ∧ w'.cell? ⟨w.heap.size, 2, none⟩ = some (.string pA) ∧ w'.cell? ⟨w.heap.size, 3, none⟩ = some (.slice kAa kAn kAc) ∧ w'.cell? ⟨w.heap.size, 4, none⟩ = some (.slice aA nA cA) ∧ w'.cell? ⟨w5.heap.size, 0, none⟩ = some (.int .i64 (opC rr)) ∧ w'.cell? ⟨w5.heap.size, 1, none⟩ = some (.string (nmC rr)) ∧ w'.cell? ⟨w5.heap.size, 2, none⟩ = some (.string (soC rr)) ∧ w'.cell? ⟨w5.heap.size, 3, none⟩ = some (.slice K50 K51 K52) ∧ w'.cell? ⟨w5.heap.size, 4, none⟩ = some (.slice A5 N5 C5) ∧ w'.cell? ⟨p8, 0, none⟩ = some (.int .i64 11) ∧ w'.cell? ⟨p8, 1, none⟩ = some (.string name) ∧ w'.cell? ⟨p8, 2, none⟩ = some (.string s0) ∧ w'.cell? ⟨p8, 3, none⟩ = some (.slice P0 P1 P2) ∧ w'.cell? ⟨p8, 4, none⟩ = some (.slice PA PN PC) ∧ w'.cell? ⟨p9, 0, none⟩ = some (.int .i64 12) ∧ w'.cell? ⟨p9, 1, none⟩ = some (.string name) ∧ w'.cell? ⟨p9, 2, none⟩ = some (.string s0) ∧ w'.cell? ⟨p9, 3, none⟩ = some (.slice E0 E1 E2) ∧ w'.cell? ⟨p9, 4, none⟩ = some (.slice EA EN EC) ∧ w'.cell? ⟨T1.heap.size, 0, none⟩ = some (.int .i64 11) ∧ w'.cell? ⟨T1.heap.size, 1, none⟩ = some (.string name) ∧ w'.cell? ⟨T1.heap.size, 2, none⟩ = some (.string s0) ∧ w'.cell? ⟨T1.heap.size, 3, none⟩ = some (.slice none 0 0) ∧ w'.cell? ⟨T1.heap.size, 4, none⟩ = some (.slice (some ⟨WF.heap.size, 0, none⟩) 1 1) ∧ w'.cell? ⟨T3.heap.size, 0, none⟩ = some (.int .i64 12) ∧ w'.cell? ⟨T3.heap.size, 1, none⟩ = some (.string name) ∧ w'.cell? ⟨T3.heap.size, 2, none⟩ = some (.string s0) ∧ w'.cell? ⟨T3.heap.size, 3, none⟩ = some (.slice none 0 0) ∧ w'.cell? ⟨T3.heap.size, 4, none⟩ = some (.slice (some ⟨T2.heap.size, 0, none⟩) 1 1)) (first | (exact HQ4.out _ (by first | assumption | exact Below.drew (by assumption) | exact Below.refl _ _ | exact (Below.refl _ _).drew)) | go_keep)
                    (first
                      | (go_at_call 29; ((with_reducible refine (c1 _ (bel_trans (a := W) FW.out (by first | assumption | exact Below.drew (by assumption) | exact Below.refl _ _ | exact (Below.refl _ _).drew))).mono ?_); rintro e wX ⟨G0, G1, G2, GA, GN, GC, rfl, hX, hbX⟩; have Bt : Below T4.heap.size T4 wX := bel_trans (by first | assumption | exact Below.drew (by assumption) | exact Below.refl _ _ | exact (Below.refl _ _).drew) hbX; have HG := Lib.hid hX; clear hX))
                      | (go_at_call 18; ((with_reducible refine (cE rr _ _ _ _ _ _ _ _ _ _ _ _ _ (by first | exact HG.out | exact ArWC.b HG.out (Below.refl _ _).drew) (ArWC.b FX4.out (by first | assumption | exact Below.drew (by assumption) | exact Below.refl _ _ | exact (Below.refl _ _).drew))).mono ?_); rintro e wX ⟨rfl, hbX⟩; have Bt : Below T4.heap.size T4 wX := bel_trans (by first | assumption | exact Below.drew (by assumption) | exact Below.refl _ _ | exact (Below.refl _ _).drew) hbX))
                      | (go_at_call 18; ((with_reducible refine (cE11 _ _ _ _ _ _ _ _ _ _ _ _ _ (ArWC.b FA4.out (by first | assumption | exact Below.drew (by assumption) | exact Below.refl _ _ | exact (Below.refl _ _).drew)) (ArWC.b FO4.out (by first | assumption | exact Below.drew (by assumption) | exact Below.refl _ _ | exact (Below.refl _ _).drew))).mono ?_); rintro e wX ⟨rfl, hbX⟩; have Bt : Below T4.heap.size T4 wX := bel_trans (by first | assumption | exact Below.drew (by assumption) | exact Below.refl _ _ | exact (Below.refl _ _).drew) hbX))
                      | (go_at_call 18; ((with_reducible refine (cE12 _ _ _ _ _ _ _ _ _ _ _ _ _ (ArWC.b FE4.out (by first | assumption | exact Below.drew (by assumption) | exact Below.refl _ _ | exact (Below.refl _ _).drew)) (ArWC.b FT4.out (by first | assumption | exact Below.drew (by assumption) | exact Below.refl _ _ | exact (Below.refl _ _).drew))).mono ?_); rintro e wX ⟨rfl, hbX⟩; have Bt : Below T4.heap.size T4 wX := bel_trans (by first | assumption | exact Below.drew (by assumption) | exact Below.refl _ _ | exact (Below.refl _ _).drew) hbX)))
                  all_goals go_wp2
                  all_goals go_ret
                  all_goals exact ⟨rfl, bel_trans hB0 (bel_trans (a := W) FW.out Bt)⟩
                exact AllReadyH.nil
              exact AllReadyH.nil
            exact AllReadyH.nil
          refine AllReadyH.cons rfl (fun KK hKK => ?_) ?_
          · obtain ⟨V9, hV9⟩ : ∃ V, wE.alloc (.cells #[.int .i64 0, .string ⟨#[]⟩, .string ⟨#[]⟩, .slice none 0 0, .slice none 0 0] 25) = V := ⟨_, rfl⟩
            obtain ⟨p9, hp9⟩ : ∃ p, wE.heap.size = p := ⟨_, rfl⟩
            have hb9 : Below wE.heap.size wE V9 := by rw [← hV9]; exact bel_alloc (Below.refl _ _) _
            have hz9 : V9.heap.size = p9 + 1 := by rw [← hV9, ← hp9]; simp
            have Z9 : CBox V9 p9 0 ⟨#[]⟩ ⟨#[]⟩ SS.nil none 0 0 := by rw [← hV9, ← hp9]; exact CBox.new wE 0 ⟨#[]⟩ ⟨#[]⟩ SS.nil none 0 0
            go_simp
            have Hp9 := Lib.hid hp9
            have Hz9 := Lib.hid hz9
            clear hV9 hp9 hz9
            have Bc := bel_trans (a := W) Bc hb9
            have b_W6 := bel_trans (a := W6) b_W6 hb9
            have b_wA := bel_trans (a := wA) b_wA hb9
            have b_wE := bel_trans (a := wE) b_wE hb9
            refine hKK.out _ _ (by obtain ⟨q0, q1, q2, q3, q4⟩ := CBox.five (CBox.b HSA.out Bc); exact ⟨q0, q1, q2, q3, q4⟩) (fun hHeld => ?_)
            clear hKK KK
            (try simp only [Act.put, List.setIfInBounds_toArray, List.set_cons_zero, List.set_cons_succ])
            refine wpAnyH_ready (rs := [8]) (by kernel_rfl) (by simp) ?_
            refine AllReadyH.cons rfl (fun KK hKK => ?_) ?_
            · obtain ⟨V8, hV8⟩ : ∃ V, V9.alloc (.cells #[.int .i64 0, .string ⟨#[]⟩, .string ⟨#[]⟩, .slice none 0 0, .slice none 0 0] 25) = V := ⟨_, rfl⟩
              obtain ⟨p8, hp8⟩ : ∃ p, V9.heap.size = p := ⟨_, rfl⟩
              have hb8 : Below V9.heap.size V9 V8 := by rw [← hV8]; exact bel_alloc (Below.refl _ _) _
              have hz8 : V8.heap.size = p8 + 1 := by rw [← hV8, ← hp8]; simp
              have Z8 : CBox V8 p8 0 ⟨#[]⟩ ⟨#[]⟩ SS.nil none 0 0 := by rw [← hV8, ← hp8]; exact CBox.new V9 0 ⟨#[]⟩ ⟨#[]⟩ SS.nil none 0 0
              go_simp
              have Hp8 := Lib.hid hp8
              have Hz8 := Lib.hid hz8
              clear hV8 hp8 hz8
              have Bc := bel_trans (a := W) Bc hb8
              have b_W6 := bel_trans (a := W6) b_W6 hb8
              have b_wA := bel_trans (a := wA) b_wA hb8
              have b_wE := bel_trans (a := wE) b_wE hb8
              have Z9 := CBox.b Z9 hb8
              refine hKK.out _ _ (by obtain ⟨q0, q1, q2, q3, q4⟩ := CBox.five (CBox.b HSA.out Bc); exact ⟨q0, q1, q2, q3, q4⟩) (fun hHeld => ?_)
              clear hKK KK
              (try simp only [Act.put, List.setIfInBounds_toArray, List.set_cons_zero, List.set_cons_succ])
              refine wpAnyH_ready (rs := [10]) (by kernel_rfl) (by simp) ?_
              refine AllReadyH.cons rfl (fun KK hKK => ?_) ?_
              · obtain ⟨z0, z1, z2, z3, z4⟩ := Z8.five
                obtain ⟨y0, y1, y2, y3, y4⟩ := Z8.free
                dsimp only [SS.nil] at z3
                have B8 := CBox.put Z8 11 name s0 ⟨P0, P1, P2⟩ PA PN PC
                have O8 := fun b (hb : b ≠ p8) => put5_other V8 p8 b (.int .i64 11) (.string name) (.string s0) (.slice P0 P1 P2) (.slice PA PN PC) hb
                have S8 := put5_size V8 p8 (.int .i64 11) (.string name) (.string s0) (.slice P0 P1 P2) (.slice PA PN PC)
                have hpw : W6.heap.size ≤ p8 ∧ W6.heap.size ≤ p9 ∧ p8 ≠ p9 ∧ w.heap.size < W6.heap.size := by have e8 := Hp8.out; have e9 := Hp9.out; have s6 := Bd6.size; have t0 := Hz8.out; have t1 := Hz9.out; have t2 := hzA; have t3 := hzE; have t4 := b_W6.size; omega
                have L8 := put5_below Bc (show W.heap.size ≤ p8 by have := hz6; omega) (.int .i64 11) (.string name) (.string s0) (.slice P0 P1 P2) (.slice PA PN PC)
                have L68 := put5_below b_W6 hpw.1 (.int .i64 11) (.string name) (.string s0) (.slice P0 P1 P2) (.slice PA PN PC)
                obtain ⟨U8, hU8⟩ : ∃ U, put5 V8 p8 (.int .i64 11) (.string name) (.string s0) (.slice P0 P1 P2) (.slice PA PN PC) = U := ⟨_, rfl⟩
                dsimp only at B8
                rw [hU8] at B8 O8 S8 L8 L68
                unfold put5 at hU8
                go_simp
                clear hU8
                refine hKK.out _ _ (by obtain ⟨q0, q1, q2, q3, q4⟩ := CBox.five (((O8 w.heap.size (by omega)).trans (CBox.b HSA.out Bc) : CBox U8 w.heap.size oA mA pA ⟨kAa, kAn, kAc⟩ aA nA cA)); exact ⟨q0, q1, q2, q3, q4⟩) (fun hHeld => ?_)
                clear hKK KK
                (try simp only [Act.put, List.setIfInBounds_toArray, List.set_cons_zero, List.set_cons_succ])
                have Z9 : CBox U8 p9 0 ⟨#[]⟩ ⟨#[]⟩ SS.nil none 0 0 := (O8 p9 (fun h => hpw.2.2.1 h.symm)).trans Z9
                refine wpAnyH_ready (rs := [11]) (by kernel_rfl) (by simp) ?_
                refine AllReadyH.cons rfl (fun KK hKK => ?_) ?_
                · obtain ⟨z0, z1, z2, z3, z4⟩ := Z9.five
                  obtain ⟨y0, y1, y2, y3, y4⟩ := Z9.free
                  dsimp only [SS.nil] at z3
                  have B9 := CBox.put Z9 12 name s0 ⟨E0, E1, E2⟩ EA EN EC
                  have O9 := fun b (hb : b ≠ p9) => put5_other U8 p9 b (.int .i64 12) (.string name) (.string s0) (.slice E0 E1 E2) (.slice EA EN EC) hb
                  have S9 := put5_size U8 p9 (.int .i64 12) (.string name) (.string s0) (.slice E0 E1 E2) (.slice EA EN EC)
                  have L9 := put5_below L8 (show W.heap.size ≤ p9 by have := hz6; omega) (.int .i64 12) (.string name) (.string s0) (.slice E0 E1 E2) (.slice EA EN EC)
                  have L69 := put5_below L68 hpw.2.1 (.int .i64 12) (.string name) (.string s0) (.slice E0 E1 E2) (.slice EA EN EC)
                  obtain ⟨WF, hWF⟩ : ∃ U, put5 U8 p9 (.int .i64 12) (.string name) (.string s0) (.slice E0 E1 E2) (.slice EA EN EC) = U := ⟨_, rfl⟩
                  dsimp only at B9
                  rw [hWF] at B9 O9 S9 L9 L69
                  unfold put5 at hWF
                  go_simp
                  clear hWF
                  refine hKK.out _ _ (by obtain ⟨q0, q1, q2, q3, q4⟩ := CBox.five (((O9 w.heap.size (by omega)).trans ((O8 w.heap.size (by omega)).trans (CBox.b HSA.out Bc)) : CBox WF w.heap.size oA mA pA ⟨kAa, kAn, kAc⟩ aA nA cA)); exact ⟨q0, q1, q2, q3, q4⟩) (fun hHeld => ?_)
                  clear hKK KK
                  (try simp only [Act.put, List.setIfInBounds_toArray, List.set_cons_zero, List.set_cons_succ])
                  refine wpAnyH_done (by kernel_rfl) ?_ _
                  refine NoPanic.normal ?_
                  have s6 := Bd6.size
                  have eA := hzA
                  have eE := hzE
                  have e8 := Hp8.out
                  have t0 := Hz8.out
                  have t1 := Hz9.out
                  have e9 := Hp9.out
                  have sA2 := b_wA.size
                  have sE2 := b_wE.size
                  have FC : CBox WF w.heap.size oA mA pA ⟨kAa, kAn, kAc⟩ aA nA cA := (O9 _ (by omega)).trans ((O8 _ (by omega)).trans (CBox.b HSA.out Bc))
                  have FS := CBox.b HB7.out L69
                  have FX := Lib.hid (ArWC.b HX6.out L69)
                  have F8 : CBox WF p8 11 name s0 ⟨P0, P1, P2⟩ PA PN PC := (O9 _ hpw.2.2.1).trans B8
                  have keep := fun (V : World) (hb : Below V.heap.size V V8) (b : Nat) (h1 : b < V.heap.size) (h2 : b ≠ p8) (h3 : b ≠ p9) => (O9 b h3).trans ((O8 b h2).trans (hb.block b h1))
                  have FA := Lib.hid (ArCP.ar (B := WF.heap.size) (fun b hb => hb) _ (ArCP.to (Q := fun b => b < WF.heap.size) (fun b hb => keep wA b_wA b (by unfold Nw at hb; omega) (by unfold Nw at hb; omega) (by unfold Nw at hb; omega)) (fun b hb => by unfold Nw at hb; omega) _ HXA.out) : ArWC WF (.mk 11 name s0 [] [rr]) ⟨P0, P1, P2⟩ PA PN PC)
                  have FE := Lib.hid (ArCP.ar (B := WF.heap.size) (fun b hb => hb) _ (ArCP.to (Q := fun b => b < WF.heap.size) (fun b hb => keep wE b_wE b (by unfold Nw at hb; omega) (by unfold Nw at hb; omega) (by unfold Nw at hb; omega)) (fun b hb => by unfold Nw at hb; omega) _ HXE.out) : ArWC WF (.mk 12 name s0 [] [rr]) ⟨E0, E1, E2⟩ EA EN EC)
                  have FB := Lib.hid L9
                  clear e8 e9 t0 t1 eA eE s6 sA2 sE2
                  clear HXA HXE Z8 Z9 O8 O9 S8 S9 L8 L68 keep
                  obtain ⟨T1, hT1, hb1, -, X1⟩ := cbox1 WF (opC rr) (nmC rr) (soC rr) ⟨K50, K51, K52⟩ A5 N5 C5
                  have R1 := row1C WF rr ⟨K50, K51, K52⟩ A5 N5 C5 11 name s0 FX.out
                  dsimp only [SS.nil] at hT1 R1
                  rw [hT1] at R1
                  obtain ⟨T2, hT2, hb2, -, X2⟩ := cbox1 T1 11 name s0 SS.nil (some ⟨WF.heap.size, 0, none⟩) 1 1
                  dsimp only [SS.nil] at hT2
                  obtain ⟨T3, hT3, hb3, -, X3⟩ := cbox1 T2 (opC rr) (nmC rr) (soC rr) ⟨K50, K51, K52⟩ A5 N5 C5
                  have b02 := bel_trans hb1 hb2
                  have R3 := row1C T2 rr ⟨K50, K51, K52⟩ A5 N5 C5 12 name s0 (ArWC.b FX.out b02)
                  dsimp only [SS.nil] at hT3 R3
                  rw [hT3] at R3
                  obtain ⟨T4, hT4, hb4, -, X4⟩ := cbox1 T3 12 name s0 SS.nil (some ⟨T2.heap.size, 0, none⟩) 1 1
                  dsimp only [SS.nil] at hT4
                  have b34 := bel_trans hb3 hb4
                  have b04 := bel_trans b02 b34
                  obtain ⟨f0, f1, f2, f3, f4⟩ := FS.five
                  obtain ⟨g0, g1, g2, g3, g4⟩ := (CBox.b FS b02).five
                  have FW := Lib.hid (bel_trans (a := W) FB.out b04)
                  have FX4 := Lib.hid (ArWC.b FX.out b04)
                  have FA4 := Lib.hid (ArWC.b FA.out b04)
                  have FE4 := Lib.hid (ArWC.b FE.out b04)
                  have FO4 := Lib.hid (ArWC.b R1 (bel_trans hb2 b34))
                  have FT4 := Lib.hid (ArWC.b R3 hb4)
                  have HQ4 := Lib.hid (show ∀ W', Below T4.heap.size T4 W' → W'.cell? ⟨w.heap.size, 0, none⟩ = some (.int .i64 oA) ∧ W'.cell? ⟨w.heap.size, 1, none⟩ = some (.string mA) ∧ W'.cell? ⟨w.heap.size, 2, none⟩ = some (.string pA) ∧ W'.cell? ⟨w.heap.size, 3, none⟩ = some (.slice kAa kAn kAc) ∧ W'.cell? ⟨w.heap.size, 4, none⟩ = some (.slice aA nA cA) ∧ W'.cell? ⟨w5.heap.size, 0, none⟩ = some (.int .i64 (opC rr)) ∧ W'.cell? ⟨w5.heap.size, 1, none⟩ = some (.string (nmC rr)) ∧ W'.cell? ⟨w5.heap.size, 2, none⟩ = some (.string (soC rr)) ∧ W'.cell? ⟨w5.heap.size, 3, none⟩ = some (.slice K50 K51 K52) ∧ W'.cell? ⟨w5.heap.size, 4, none⟩ = some (.slice A5 N5 C5) ∧ W'.cell? ⟨p8, 0, none⟩ = some (.int .i64 11) ∧ W'.cell? ⟨p8, 1, none⟩ = some (.string name) ∧ W'.cell? ⟨p8, 2, none⟩ = some (.string s0) ∧ W'.cell? ⟨p8, 3, none⟩ = some (.slice P0 P1 P2) ∧ W'.cell? ⟨p8, 4, none⟩ = some (.slice PA PN PC) ∧ W'.cell? ⟨p9, 0, none⟩ = some (.int .i64 12) ∧ W'.cell? ⟨p9, 1, none⟩ = some (.string name) ∧ W'.cell? ⟨p9, 2, none⟩ = some (.string s0) ∧ W'.cell? ⟨p9, 3, none⟩ = some (.slice E0 E1 E2) ∧ W'.cell? ⟨p9, 4, none⟩ = some (.slice EA EN EC) ∧ W'.cell? ⟨T1.heap.size, 0, none⟩ = some (.int .i64 11) ∧ W'.cell? ⟨T1.heap.size, 1, none⟩ = some (.string name) ∧ W'.cell? ⟨T1.heap.size, 2, none⟩ = some (.string s0) ∧ W'.cell? ⟨T1.heap.size, 3, none⟩ = some (.slice none 0 0) ∧ W'.cell? ⟨T1.heap.size, 4, none⟩ = some (.slice (some ⟨WF.heap.size, 0, none⟩) 1 1) ∧ W'.cell? ⟨T3.heap.size, 0, none⟩ = some (.int .i64 12) ∧ W'.cell? ⟨T3.heap.size, 1, none⟩ = some (.string name) ∧ W'.cell? ⟨T3.heap.size, 2, none⟩ = some (.string s0) ∧ W'.cell? ⟨T3.heap.size, 3, none⟩ = some (.slice none 0 0) ∧ W'.cell? ⟨T3.heap.size, 4, none⟩ = some (.slice (some ⟨T2.heap.size, 0, none⟩) 1 1) from fun W' hb => by
                    obtain ⟨a0, a1, a2, a3, a4⟩ := (CBox.b (CBox.b FC b04) hb).five
                    obtain ⟨b0, b1, b2, b3, b4⟩ := (CBox.b (CBox.b FS b04) hb).five
                    obtain ⟨c0, c1, c2, c3, c4⟩ := (CBox.b (CBox.b F8 b04) hb).five
                    obtain ⟨d0, d1, d2, d3, d4⟩ := (CBox.b (CBox.b B9 b04) hb).five
                    obtain ⟨e0, e1, e2, e3, e4⟩ := (CBox.b (CBox.b X2 b34) hb).five
                    obtain ⟨h0, h1, h2, h3, h4⟩ := (CBox.b X4 hb).five
                    exact ⟨a0, a1, a2, a3, a4, b0, b1, b2, b3, b4, c0, c1, c2, c3, c4, d0, d1, d2, d3, d4, e0, e1, e2, e3, e4, h0, h1, h2, h3, h4⟩)
                  clear FC FS F8 B9 X1 X2 X3 X4 R1 R3 hb1 hb2 hb3 hb4 b02 b34 b04
                  go_wp2_with fail
                  go_region_held3 (fun w' => w'.cell? ⟨w.heap.size, 0, none⟩ = some (.int .i64 oA) ∧ w'.cell? ⟨w.heap.size, 1, none⟩ = some (.string mA) ∧ w'.cell? ⟨w.heap.size, 2, none⟩ = some (.string pA) ∧ w'.cell? ⟨w.heap.size, 3, none⟩ = some (.slice kAa kAn kAc) ∧ w'.cell? ⟨w.heap.size, 4, none⟩ = some (.slice aA nA cA) ∧ w'.cell? ⟨w5.heap.size, 0, none⟩ = some (.int .i64 (opC rr)) ∧ w'.cell? ⟨w5.heap.size, 1, none⟩ = some (.string (nmC rr)) ∧ w'.cell? ⟨w5.heap.size, 2, none⟩ = some (.string (soC rr)) ∧ w'.cell? ⟨w5.heap.size, 3, none⟩ = some (.slice K50 K51 K52) ∧ w'.cell? ⟨w5.heap.size, 4, none⟩ = some (.slice A5 N5 C5) ∧ w'.cell? ⟨p8, 0, none⟩ = some (.int .i64 11) ∧ w'.cell? ⟨p8, 1, none⟩ = some (.string name) ∧ w'.cell? ⟨p8, 2, none⟩ = some (.string s0) ∧ w'.cell? ⟨p8, 3, none⟩ = some (.slice P0 P1 P2) ∧ w'.cell? ⟨p8, 4, none⟩ = some (.slice PA PN PC) ∧ w'.cell? ⟨p9, 0, none⟩ = some (.int .i64 12) ∧ w'.cell? ⟨p9, 1, none⟩ = some (.string name) ∧ w'.cell? ⟨p9, 2, none⟩ = some (.string s0) ∧ w'.cell? ⟨p9, 3, none⟩ = some (.slice E0 E1 E2) ∧ w'.cell? ⟨p9, 4, none⟩ = some (.slice EA EN EC) ∧ w'.cell? ⟨T1.heap.size, 0, none⟩ = some (.int .i64 11) ∧ w'.cell? ⟨T1.heap.size, 1, none⟩ = some (.string name) ∧ w'.cell? ⟨T1.heap.size, 2, none⟩ = some (.string s0) ∧ w'.cell? ⟨T1.heap.size, 3, none⟩ = some (.slice none 0 0) ∧ w'.cell? ⟨T1.heap.size, 4, none⟩ = some (.slice (some ⟨WF.heap.size, 0, none⟩) 1 1) ∧ w'.cell? ⟨T3.heap.size, 0, none⟩ = some (.int .i64 12) ∧ w'.cell? ⟨T3.heap.size, 1, none⟩ = some (.string name) ∧ w'.cell? ⟨T3.heap.size, 2, none⟩ = some (.string s0) ∧ w'.cell? ⟨T3.heap.size, 3, none⟩ = some (.slice none 0 0) ∧ w'.cell? ⟨T3.heap.size, 4, none⟩ = some (.slice (some ⟨T2.heap.size, 0, none⟩) 1 1)) (first | (exact HQ4.out _ (by first | assumption | exact Below.drew (by assumption) | exact Below.refl _ _ | exact (Below.refl _ _).drew)) | go_keep)
                    (first
                      | (go_at_call 29; ((with_reducible refine (c1 _ (bel_trans (a := W) FW.out (by first | assumption | exact Below.drew (by assumption) | exact Below.refl _ _ | exact (Below.refl _ _).drew))).mono ?_); rintro e wX ⟨G0, G1, G2, GA, GN, GC, rfl, hX, hbX⟩; have Bt : Below T4.heap.size T4 wX := bel_trans (by first | assumption | exact Below.drew (by assumption) | exact Below.refl _ _ | exact (Below.refl _ _).drew) hbX; have HG := Lib.hid hX; clear hX))
                      | (go_at_call 18; ((with_reducible refine (cE rr _ _ _ _ _ _ _ _ _ _ _ _ _ (by first | exact HG.out | exact ArWC.b HG.out (Below.refl _ _).drew) (ArWC.b FX4.out (by first | assumption | exact Below.drew (by assumption) | exact Below.refl _ _ | exact (Below.refl _ _).drew))).mono ?_); rintro e wX ⟨rfl, hbX⟩; have Bt : Below T4.heap.size T4 wX := bel_trans (by first | assumption | exact Below.drew (by assumption) | exact Below.refl _ _ | exact (Below.refl _ _).drew) hbX))
                      | (go_at_call 18; ((with_reducible refine (cE11 _ _ _ _ _ _ _ _ _ _ _ _ _ (ArWC.b FA4.out (by first | assumption | exact Below.drew (by assumption) | exact Below.refl _ _ | exact (Below.refl _ _).drew)) (ArWC.b FO4.out (by first | assumption | exact Below.drew (by assumption) | exact Below.refl _ _ | exact (Below.refl _ _).drew))).mono ?_); rintro e wX ⟨rfl, hbX⟩; have Bt : Below T4.heap.size T4 wX := bel_trans (by first | assumption | exact Below.drew (by assumption) | exact Below.refl _ _ | exact (Below.refl _ _).drew) hbX))
                      | (go_at_call 18; ((with_reducible refine (cE12 _ _ _ _ _ _ _ _ _ _ _ _ _ (ArWC.b FE4.out (by first | assumption | exact Below.drew (by assumption) | exact Below.refl _ _ | exact (Below.refl _ _).drew)) (ArWC.b FT4.out (by first | assumption | exact Below.drew (by assumption) | exact Below.refl _ _ | exact (Below.refl _ _).drew))).mono ?_); rintro e wX ⟨rfl, hbX⟩; have Bt : Below T4.heap.size T4 wX := bel_trans (by first | assumption | exact Below.drew (by assumption) | exact Below.refl _ _ | exact (Below.refl _ _).drew) hbX)))
                  all_goals go_wp2
                  all_goals go_ret
                  all_goals exact ⟨rfl, bel_trans hB0 (bel_trans (a := W) FW.out Bt)⟩
                exact AllReadyH.nil
              exact AllReadyH.nil
            exact AllReadyH.nil
          exact AllReadyH.nil
        refine AllReadyH.cons rfl (fun KK hKK => ?_) ?_
        · obtain ⟨V8, hV8⟩ : ∃ V, wA.alloc (.cells #[.int .i64 0, .string ⟨#[]⟩, .string ⟨#[]⟩, .slice none 0 0, .slice none 0 0] 25) = V := ⟨_, rfl⟩
          obtain ⟨p8, hp8⟩ : ∃ p, wA.heap.size = p := ⟨_, rfl⟩
          have hb8 : Below wA.heap.size wA V8 := by rw [← hV8]; exact bel_alloc (Below.refl _ _) _
          have hz8 : V8.heap.size = p8 + 1 := by rw [← hV8, ← hp8]; simp
          have Z8 : CBox V8 p8 0 ⟨#[]⟩ ⟨#[]⟩ SS.nil none 0 0 := by rw [← hV8, ← hp8]; exact CBox.new wA 0 ⟨#[]⟩ ⟨#[]⟩ SS.nil none 0 0
          go_simp
          have Hp8 := Lib.hid hp8
          have Hz8 := Lib.hid hz8
          clear hV8 hp8 hz8
          have Bc := bel_trans (a := W) Bc hb8
          have b_W6 := bel_trans (a := W6) b_W6 hb8
          have b_wA := bel_trans (a := wA) b_wA hb8
          refine hKK.out _ _ (by obtain ⟨q0, q1, q2, q3, q4⟩ := CBox.five (CBox.b HSA.out Bc); exact ⟨q0, q1, q2, q3, q4⟩) (fun hHeld => ?_)
          clear hKK KK
          (try simp only [Act.put, List.setIfInBounds_toArray, List.set_cons_zero, List.set_cons_succ])
          refine wpAnyH_ready (rs := [7, 9]) (by kernel_rfl) (by simp) ?_
          refine AllReadyH.cons rfl (fun KK hKK => ?_) ?_
          · go_simp
            (go_at_call 28; ((with_reducible refine (c4 _ Bc).mono ?_); rintro e wE ⟨E0, E1, E2, EA, EN, EC, rfl, hX, hb⟩))
            have stE := Lib.hid (rfl : V8.heap.size = V8.heap.size)
            have hzE := hb.size
            have HXE := Lib.hid hX
            clear hX
            have Bc := bel_trans (a := W) Bc hb
            have b_W6 := bel_trans (a := W6) b_W6 hb
            have b_wA := bel_trans (a := wA) b_wA hb
            have Z8 := CBox.b Z8 hb
            have b_wE := Below.refl wE.heap.size wE
            refine hKK.out _ _ (by obtain ⟨q0, q1, q2, q3, q4⟩ := CBox.five (CBox.b HSA.out Bc); exact ⟨q0, q1, q2, q3, q4⟩) (fun hHeld => ?_)
            clear hKK KK
            (try simp only [Act.put, List.setIfInBounds_toArray, List.set_cons_zero, List.set_cons_succ])
            refine wpAnyH_ready (rs := [9]) (by kernel_rfl) (by simp) ?_
            refine AllReadyH.cons rfl (fun KK hKK => ?_) ?_
            · obtain ⟨V9, hV9⟩ : ∃ V, wE.alloc (.cells #[.int .i64 0, .string ⟨#[]⟩, .string ⟨#[]⟩, .slice none 0 0, .slice none 0 0] 25) = V := ⟨_, rfl⟩
              obtain ⟨p9, hp9⟩ : ∃ p, wE.heap.size = p := ⟨_, rfl⟩
              have hb9 : Below wE.heap.size wE V9 := by rw [← hV9]; exact bel_alloc (Below.refl _ _) _
              have hz9 : V9.heap.size = p9 + 1 := by rw [← hV9, ← hp9]; simp
              have Z9 : CBox V9 p9 0 ⟨#[]⟩ ⟨#[]⟩ SS.nil none 0 0 := by rw [← hV9, ← hp9]; exact CBox.new wE 0 ⟨#[]⟩ ⟨#[]⟩ SS.nil none 0 0
              go_simp
              have Hp9 := Lib.hid hp9
              have Hz9 := Lib.hid hz9
              clear hV9 hp9 hz9
              have Bc := bel_trans (a := W) Bc hb9
              have b_W6 := bel_trans (a := W6) b_W6 hb9
              have b_wA := bel_trans (a := wA) b_wA hb9
              have b_wE := bel_trans (a := wE) b_wE hb9
              have Z8 := CBox.b Z8 hb9
              refine hKK.out _ _ (by obtain ⟨q0, q1, q2, q3, q4⟩ := CBox.five (CBox.b HSA.out Bc); exact ⟨q0, q1, q2, q3, q4⟩) (fun hHeld => ?_)
              clear hKK KK
              (try simp only [Act.put, List.setIfInBounds_toArray, List.set_cons_zero, List.set_cons_succ])
              refine wpAnyH_ready (rs := [10]) (by kernel_rfl) (by simp) ?_
              refine AllReadyH.cons rfl (fun KK hKK => ?_) ?_
              · obtain ⟨z0, z1, z2, z3, z4⟩ := Z8.five
                obtain ⟨y0, y1, y2, y3, y4⟩ := Z8.free
                dsimp only [SS.nil] at z3
                have B8 := CBox.put Z8 11 name s0 ⟨P0, P1, P2⟩ PA PN PC
                have O8 := fun b (hb : b ≠ p8) => put5_other V9 p8 b (.int .i64 11) (.string name) (.string s0) (.slice P0 P1 P2) (.slice PA PN PC) hb
                have S8 := put5_size V9 p8 (.int .i64 11) (.string name) (.string s0) (.slice P0 P1 P2) (.slice PA PN PC)
                have hpw : W6.heap.size ≤ p8 ∧ W6.heap.size ≤ p9 ∧ p8 ≠ p9 ∧ w.heap.size < W6.heap.size := by have e8 := Hp8.out; have e9 := Hp9.out; have s6 := Bd6.size; have t0 := Hz8.out; have t1 := Hz9.out; have t2 := hzA; have t3 := hzE; have t4 := b_W6.size; omega
                have L8 := put5_below Bc (show W.heap.size ≤ p8 by have := hz6; omega) (.int .i64 11) (.string name) (.string s0) (.slice P0 P1 P2) (.slice PA PN PC)
                have L68 := put5_below b_W6 hpw.1 (.int .i64 11) (.string name) (.string s0) (.slice P0 P1 P2) (.slice PA PN PC)
                obtain ⟨U8, hU8⟩ : ∃ U, put5 V9 p8 (.int .i64 11) (.string name) (.string s0) (.slice P0 P1 P2) (.slice PA PN PC) = U := ⟨_, rfl⟩
                dsimp only at B8
                rw [hU8] at B8 O8 S8 L8 L68
                unfold put5 at hU8
                go_simp
                clear hU8
                refine hKK.out _ _ (by obtain ⟨q0, q1, q2, q3, q4⟩ := CBox.five (((O8 w.heap.size (by omega)).trans (CBox.b HSA.out Bc) : CBox U8 w.heap.size oA mA pA ⟨kAa, kAn, kAc⟩ aA nA cA)); exact ⟨q0, q1, q2, q3, q4⟩) (fun hHeld => ?_)
                clear hKK KK
                (try simp only [Act.put, List.setIfInBounds_toArray, List.set_cons_zero, List.set_cons_succ])
                have Z9 : CBox U8 p9 0 ⟨#[]⟩ ⟨#[]⟩ SS.nil none 0 0 := (O8 p9 (fun h => hpw.2.2.1 h.symm)).trans Z9
                refine wpAnyH_ready (rs := [11]) (by kernel_rfl) (by simp) ?_
                refine AllReadyH.cons rfl (fun KK hKK => ?_) ?_
                · obtain ⟨z0, z1, z2, z3, z4⟩ := Z9.five
                  obtain ⟨y0, y1, y2, y3, y4⟩ := Z9.free
                  dsimp only [SS.nil] at z3
                  have B9 := CBox.put Z9 12 name s0 ⟨E0, E1, E2⟩ EA EN EC
                  have O9 := fun b (hb : b ≠ p9) => put5_other U8 p9 b (.int .i64 12) (.string name) (.string s0) (.slice E0 E1 E2) (.slice EA EN EC) hb
                  have S9 := put5_size U8 p9 (.int .i64 12) (.string name) (.string s0) (.slice E0 E1 E2) (.slice EA EN EC)
                  have L9 := put5_below L8 (show W.heap.size ≤ p9 by have := hz6; omega) (.int .i64 12) (.string name) (.string s0) (.slice E0 E1 E2) (.slice EA EN EC)
                  have L69 := put5_below L68 hpw.2.1 (.int .i64 12) (.string name) (.string s0) (.slice E0 E1 E2) (.slice EA EN EC)
                  obtain ⟨WF, hWF⟩ : ∃ U, put5 U8 p9 (.int .i64 12) (.string name) (.string s0) (.slice E0 E1 E2) (.slice EA EN EC) = U := ⟨_, rfl⟩
                  dsimp only at B9
                  rw [hWF] at B9 O9 S9 L9 L69
                  unfold put5 at hWF
                  go_simp
                  clear hWF
                  refine hKK.out _ _ (by obtain ⟨q0, q1, q2, q3, q4⟩ := CBox.five (((O9 w.heap.size (by omega)).trans ((O8 w.heap.size (by omega)).trans (CBox.b HSA.out Bc)) : CBox WF w.heap.size oA mA pA ⟨kAa, kAn, kAc⟩ aA nA cA)); exact ⟨q0, q1, q2, q3, q4⟩) (fun hHeld => ?_)
                  clear hKK KK
                  (try simp only [Act.put, List.setIfInBounds_toArray, List.set_cons_zero, List.set_cons_succ])
                  refine wpAnyH_done (by kernel_rfl) ?_ _
                  refine NoPanic.normal ?_
                  have s6 := Bd6.size
                  have eA := hzA
                  have eE := hzE
                  have e8 := Hp8.out
                  have t0 := Hz8.out
                  have t1 := Hz9.out
                  have e9 := Hp9.out
                  have sA2 := b_wA.size
                  have sE2 := b_wE.size
                  have FC : CBox WF w.heap.size oA mA pA ⟨kAa, kAn, kAc⟩ aA nA cA := (O9 _ (by omega)).trans ((O8 _ (by omega)).trans (CBox.b HSA.out Bc))
                  have FS := CBox.b HB7.out L69
                  have FX := Lib.hid (ArWC.b HX6.out L69)
                  have F8 : CBox WF p8 11 name s0 ⟨P0, P1, P2⟩ PA PN PC := (O9 _ hpw.2.2.1).trans B8
                  have keep := fun (V : World) (hb : Below V.heap.size V V9) (b : Nat) (h1 : b < V.heap.size) (h2 : b ≠ p8) (h3 : b ≠ p9) => (O9 b h3).trans ((O8 b h2).trans (hb.block b h1))
                  have FA := Lib.hid (ArCP.ar (B := WF.heap.size) (fun b hb => hb) _ (ArCP.to (Q := fun b => b < WF.heap.size) (fun b hb => keep wA b_wA b (by unfold Nw at hb; omega) (by unfold Nw at hb; omega) (by unfold Nw at hb; omega)) (fun b hb => by unfold Nw at hb; omega) _ HXA.out) : ArWC WF (.mk 11 name s0 [] [rr]) ⟨P0, P1, P2⟩ PA PN PC)
                  have FE := Lib.hid (ArCP.ar (B := WF.heap.size) (fun b hb => hb) _ (ArCP.to (Q := fun b => b < WF.heap.size) (fun b hb => keep wE b_wE b (by unfold Nw at hb; omega) (by unfold Nw at hb; omega) (by unfold Nw at hb; omega)) (fun b hb => by unfold Nw at hb; omega) _ HXE.out) : ArWC WF (.mk 12 name s0 [] [rr]) ⟨E0, E1, E2⟩ EA EN EC)
                  have FB := Lib.hid L9
                  clear e8 e9 t0 t1 eA eE s6 sA2 sE2
                  clear HXA HXE Z8 Z9 O8 O9 S8 S9 L8 L68 keep
                  obtain ⟨T1, hT1, hb1, -, X1⟩ := cbox1 WF (opC rr) (nmC rr) (soC rr) ⟨K50, K51, K52⟩ A5 N5 C5
                  have R1 := row1C WF rr ⟨K50, K51, K52⟩ A5 N5 C5 11 name s0 FX.out
                  dsimp only [SS.nil] at hT1 R1
                  rw [hT1] at R1
                  obtain ⟨T2, hT2, hb2, -, X2⟩ := cbox1 T1 11 name s0 SS.nil (some ⟨WF.heap.size, 0, none⟩) 1 1
                  dsimp only [SS.nil] at hT2
                  obtain ⟨T3, hT3, hb3, -, X3⟩ := cbox1 T2 (opC rr) (nmC rr) (soC rr) ⟨K50, K51, K52⟩ A5 N5 C5
                  have b02 := bel_trans hb1 hb2
                  have R3 := row1C T2 rr ⟨K50, K51, K52⟩ A5 N5 C5 12 name s0 (ArWC.b FX.out b02)
                  dsimp only [SS.nil] at hT3 R3
                  rw [hT3] at R3
                  obtain ⟨T4, hT4, hb4, -, X4⟩ := cbox1 T3 12 name s0 SS.nil (some ⟨T2.heap.size, 0, none⟩) 1 1
                  dsimp only [SS.nil] at hT4
                  have b34 := bel_trans hb3 hb4
                  have b04 := bel_trans b02 b34
                  obtain ⟨f0, f1, f2, f3, f4⟩ := FS.five
                  obtain ⟨g0, g1, g2, g3, g4⟩ := (CBox.b FS b02).five
                  have FW := Lib.hid (bel_trans (a := W) FB.out b04)
                  have FX4 := Lib.hid (ArWC.b FX.out b04)
                  have FA4 := Lib.hid (ArWC.b FA.out b04)
                  have FE4 := Lib.hid (ArWC.b FE.out b04)
                  have FO4 := Lib.hid (ArWC.b R1 (bel_trans hb2 b34))
                  have FT4 := Lib.hid (ArWC.b R3 hb4)
                  have HQ4 := Lib.hid (show ∀ W', Below T4.heap.size T4 W' → W'.cell? ⟨w.heap.size, 0, none⟩ = some (.int .i64 oA) ∧ W'.cell? ⟨w.heap.size, 1, none⟩ = some (.string mA) ∧ W'.cell? ⟨w.heap.size, 2, none⟩ = some (.string pA) ∧ W'.cell? ⟨w.heap.size, 3, none⟩ = some (.slice kAa kAn kAc) ∧ W'.cell? ⟨w.heap.size, 4, none⟩ = some (.slice aA nA cA) ∧ W'.cell? ⟨w5.heap.size, 0, none⟩ = some (.int .i64 (opC rr)) ∧ W'.cell? ⟨w5.heap.size, 1, none⟩ = some (.string (nmC rr)) ∧ W'.cell? ⟨w5.heap.size, 2, none⟩ = some (.string (soC rr)) ∧ W'.cell? ⟨w5.heap.size, 3, none⟩ = some (.slice K50 K51 K52) ∧ W'.cell? ⟨w5.heap.size, 4, none⟩ = some (.slice A5 N5 C5) ∧ W'.cell? ⟨p8, 0, none⟩ = some (.int .i64 11) ∧ W'.cell? ⟨p8, 1, none⟩ = some (.string name) ∧ W'.cell? ⟨p8, 2, none⟩ = some (.string s0) ∧ W'.cell? ⟨p8, 3, none⟩ = some (.slice P0 P1 P2) ∧ W'.cell? ⟨p8, 4, none⟩ = some (.slice PA PN PC) ∧ W'.cell? ⟨p9, 0, none⟩ = some (.int .i64 12) ∧ W'.cell? ⟨p9, 1, none⟩ = some (.string name) ∧ W'.cell? ⟨p9, 2, none⟩ = some (.string s0) ∧ W'.cell? ⟨p9, 3, none⟩ = some (.slice E0 E1 E2) ∧ W'.cell? ⟨p9, 4, none⟩ = some (.slice EA EN EC) ∧ W'.cell? ⟨T1.heap.size, 0, none⟩ = some (.int .i64 11) ∧ W'.cell? ⟨T1.heap.size, 1, none⟩ = some (.string name) ∧ W'.cell? ⟨T1.heap.size, 2, none⟩ = some (.string s0) ∧ W'.cell? ⟨T1.heap.size, 3, none⟩ = some (.slice none 0 0) ∧ W'.cell? ⟨T1.heap.size, 4, none⟩ = some (.slice (some ⟨WF.heap.size, 0, none⟩) 1 1) ∧ W'.cell? ⟨T3.heap.size, 0, none⟩ = some (.int .i64 12) ∧ W'.cell? ⟨T3.heap.size, 1, none⟩ = some (.string name) ∧ W'.cell? ⟨T3.heap.size, 2, none⟩ = some (.string s0) ∧ W'.cell? ⟨T3.heap.size, 3, none⟩ = some (.slice none 0 0) ∧ W'.cell? ⟨T3.heap.size, 4, none⟩ = some (.slice (some ⟨T2.heap.size, 0, none⟩) 1 1) from fun W' hb => by
                    obtain ⟨a0, a1, a2, a3, a4⟩ := (CBox.b (CBox.b FC b04) hb).five
                    obtain ⟨b0, b1, b2, b3, b4⟩ := (CBox.b (CBox.b FS b04) hb).five
                    obtain ⟨c0, c1, c2, c3, c4⟩ := (CBox.b (CBox.b F8 b04) hb).five
                    obtain ⟨d0, d1, d2, d3, d4⟩ := (CBox.b (CBox.b B9 b04) hb).five
                    obtain ⟨e0, e1, e2, e3, e4⟩ := (CBox.b (CBox.b X2 b34) hb).five
                    obtain ⟨h0, h1, h2, h3, h4⟩ := (CBox.b X4 hb).five
                    exact ⟨a0, a1, a2, a3, a4, b0, b1, b2, b3, b4, c0, c1, c2, c3, c4, d0, d1, d2, d3, d4, e0, e1, e2, e3, e4, h0, h1, h2, h3, h4⟩)
                  clear FC FS F8 B9 X1 X2 X3 X4 R1 R3 hb1 hb2 hb3 hb4 b02 b34 b04
                  go_wp2_with fail
                  go_region_held3 (fun w' => w'.cell? ⟨w.heap.size, 0, none⟩ = some (.int .i64 oA) ∧ w'.cell? ⟨w.heap.size, 1, none⟩ = some (.string mA) ∧ w'.cell? ⟨w.heap.size, 2, none⟩ = some (.string pA) ∧ w'.cell? ⟨w.heap.size, 3, none⟩ = some (.slice kAa kAn kAc) ∧ w'.cell? ⟨w.heap.size, 4, none⟩ = some (.slice aA nA cA) ∧ w'.cell? ⟨w5.heap.size, 0, none⟩ = some (.int .i64 (opC rr)) ∧ w'.cell? ⟨w5.heap.size, 1, none⟩ = some (.string (nmC rr)) ∧ w'.cell? ⟨w5.heap.size, 2, none⟩ = some (.string (soC rr)) ∧ w'.cell? ⟨w5.heap.size, 3, none⟩ = some (.slice K50 K51 K52) ∧ w'.cell? ⟨w5.heap.size, 4, none⟩ = some (.slice A5 N5 C5) ∧ w'.cell? ⟨p8, 0, none⟩ = some (.int .i64 11) ∧ w'.cell? ⟨p8, 1, none⟩ = some (.string name) ∧ w'.cell? ⟨p8, 2, none⟩ = some (.string s0) ∧ w'.cell? ⟨p8, 3, none⟩ = some (.slice P0 P1 P2) ∧ w'.cell? ⟨p8, 4, none⟩ = some (.slice PA PN PC) ∧ w'.cell? ⟨p9, 0, none⟩ = some (.int .i64 12) ∧ w'.cell? ⟨p9, 1, none⟩ = some (.string name) ∧ w'.cell? ⟨p9, 2, none⟩ = some (.string s0) ∧ w'.cell? ⟨p9, 3, none⟩ = some (.slice E0 E1 E2) ∧ w'.cell? ⟨p9, 4, none⟩ = some (.slice EA EN EC) ∧ w'.cell? ⟨T1.heap.size, 0, none⟩ = some (.int .i64 11) ∧ w'.cell? ⟨T1.heap.size, 1, none⟩ = some (.string name) ∧ w'.cell? ⟨T1.heap.size, 2, none⟩ = some (.string s0) ∧ w'.cell? ⟨T1.heap.size, 3, none⟩ = some (.slice none 0 0) ∧ w'.cell? ⟨T1.heap.size, 4, none⟩ = some (.slice (some ⟨WF.heap.size, 0, none⟩) 1 1) ∧ w'.cell? ⟨T3.heap.size, 0, none⟩ = some (.int .i64 12) ∧ w'.cell? ⟨T3.heap.size, 1, none⟩ = some (.string name) ∧ w'.cell? ⟨T3.heap.size, 2, none⟩ = some (.string s0) ∧ w'.cell? ⟨T3.heap.size, 3, none⟩ = some (.slice none 0 0) ∧ w'.cell? ⟨T3.heap.size, 4, none⟩ = some (.slice (some ⟨T2.heap.size, 0, none⟩) 1 1)) (first | (exact HQ4.out _ (by first | assumption | exact Below.drew (by assumption) | exact Below.refl _ _ | exact (Below.refl _ _).drew)) | go_keep)
                    (first
                      | (go_at_call 29; ((with_reducible refine (c1 _ (bel_trans (a := W) FW.out (by first | assumption | exact Below.drew (by assumption) | exact Below.refl _ _ | exact (Below.refl _ _).drew))).mono ?_); rintro e wX ⟨G0, G1, G2, GA, GN, GC, rfl, hX, hbX⟩; have Bt : Below T4.heap.size T4 wX := bel_trans (by first | assumption | exact Below.drew (by assumption) | exact Below.refl _ _ | exact (Below.refl _ _).drew) hbX; have HG := Lib.hid hX; clear hX))
                      | (go_at_call 18; ((with_reducible refine (cE rr _ _ _ _ _ _ _ _ _ _ _ _ _ (by first | exact HG.out | exact ArWC.b HG.out (Below.refl _ _).drew) (ArWC.b FX4.out (by first | assumption | exact Below.drew (by assumption) | exact Below.refl _ _ | exact (Below.refl _ _).drew))).mono ?_); rintro e wX ⟨rfl, hbX⟩; have Bt : Below T4.heap.size T4 wX := bel_trans (by first | assumption | exact Below.drew (by assumption) | exact Below.refl _ _ | exact (Below.refl _ _).drew) hbX))
                      | (go_at_call 18; ((with_reducible refine (cE11 _ _ _ _ _ _ _ _ _ _ _ _ _ (ArWC.b FA4.out (by first | assumption | exact Below.drew (by assumption) | exact Below.refl _ _ | exact (Below.refl _ _).drew)) (ArWC.b FO4.out (by first | assumption | exact Below.drew (by assumption) | exact Below.refl _ _ | exact (Below.refl _ _).drew))).mono ?_); rintro e wX ⟨rfl, hbX⟩; have Bt : Below T4.heap.size T4 wX := bel_trans (by first | assumption | exact Below.drew (by assumption) | exact Below.refl _ _ | exact (Below.refl _ _).drew) hbX))
                      | (go_at_call 18; ((with_reducible refine (cE12 _ _ _ _ _ _ _ _ _ _ _ _ _ (ArWC.b FE4.out (by first | assumption | exact Below.drew (by assumption) | exact Below.refl _ _ | exact (Below.refl _ _).drew)) (ArWC.b FT4.out (by first | assumption | exact Below.drew (by assumption) | exact Below.refl _ _ | exact (Below.refl _ _).drew))).mono ?_); rintro e wX ⟨rfl, hbX⟩; have Bt : Below T4.heap.size T4 wX := bel_trans (by first | assumption | exact Below.drew (by assumption) | exact Below.refl _ _ | exact (Below.refl _ _).drew) hbX)))
                  all_goals go_wp2
                  all_goals go_ret
                  all_goals exact ⟨rfl, bel_trans hB0 (bel_trans (a := W) FW.out Bt)⟩
                exact AllReadyH.nil
              exact AllReadyH.nil
            exact AllReadyH.nil
          refine AllReadyH.cons rfl (fun KK hKK => ?_) ?_
          · obtain ⟨V9, hV9⟩ : ∃ V, V8.alloc (.cells #[.int .i64 0, .string ⟨#[]⟩, .string ⟨#[]⟩, .slice none 0 0, .slice none 0 0] 25) = V := ⟨_, rfl⟩
            obtain ⟨p9, hp9⟩ : ∃ p, V8.heap.size = p := ⟨_, rfl⟩
            have hb9 : Below V8.heap.size V8 V9 := by rw [← hV9]; exact bel_alloc (Below.refl _ _) _
            have hz9 : V9.heap.size = p9 + 1 := by rw [← hV9, ← hp9]; simp
            have Z9 : CBox V9 p9 0 ⟨#[]⟩ ⟨#[]⟩ SS.nil none 0 0 := by rw [← hV9, ← hp9]; exact CBox.new V8 0 ⟨#[]⟩ ⟨#[]⟩ SS.nil none 0 0
            go_simp
            have Hp9 := Lib.hid hp9
            have Hz9 := Lib.hid hz9
            clear hV9 hp9 hz9
            have Bc := bel_trans (a := W) Bc hb9
            have b_W6 := bel_trans (a := W6) b_W6 hb9
            have b_wA := bel_trans (a := wA) b_wA hb9
            have Z8 := CBox.b Z8 hb9
            refine hKK.out _ _ (by obtain ⟨q0, q1, q2, q3, q4⟩ := CBox.five (CBox.b HSA.out Bc); exact ⟨q0, q1, q2, q3, q4⟩) (fun hHeld => ?_)
            clear hKK KK
            (try simp only [Act.put, List.setIfInBounds_toArray, List.set_cons_zero, List.set_cons_succ])
            refine wpAnyH_ready (rs := [7]) (by kernel_rfl) (by simp) ?_
            refine AllReadyH.cons rfl (fun KK hKK => ?_) ?_
            · go_simp
              (go_at_call 28; ((with_reducible refine (c4 _ Bc).mono ?_); rintro e wE ⟨E0, E1, E2, EA, EN, EC, rfl, hX, hb⟩))
              have stE := Lib.hid (rfl : V9.heap.size = V9.heap.size)
              have hzE := hb.size
              have HXE := Lib.hid hX
              clear hX
              have Bc := bel_trans (a := W) Bc hb
              have b_W6 := bel_trans (a := W6) b_W6 hb
              have b_wA := bel_trans (a := wA) b_wA hb
              have Z8 := CBox.b Z8 hb
              have Z9 := CBox.b Z9 hb
              have b_wE := Below.refl wE.heap.size wE
              refine hKK.out _ _ (by obtain ⟨q0, q1, q2, q3, q4⟩ := CBox.five (CBox.b HSA.out Bc); exact ⟨q0, q1, q2, q3, q4⟩) (fun hHeld => ?_)
              clear hKK KK
              (try simp only [Act.put, List.setIfInBounds_toArray, List.set_cons_zero, List.set_cons_succ])
              refine wpAnyH_ready (rs := [10]) (by kernel_rfl) (by simp) ?_
              refine AllReadyH.cons rfl (fun KK hKK => ?_) ?_
              · obtain ⟨z0, z1, z2, z3, z4⟩ := Z8.five
                obtain ⟨y0, y1, y2, y3, y4⟩ := Z8.free
                dsimp only [SS.nil] at z3
                have B8 := CBox.put Z8 11 name s0 ⟨P0, P1, P2⟩ PA PN PC
                have O8 := fun b (hb : b ≠ p8) => put5_other wE p8 b (.int .i64 11) (.string name) (.string s0) (.slice P0 P1 P2) (.slice PA PN PC) hb
                have S8 := put5_size wE p8 (.int .i64 11) (.string name) (.string s0) (.slice P0 P1 P2) (.slice PA PN PC)
                have hpw : W6.heap.size ≤ p8 ∧ W6.heap.size ≤ p9 ∧ p8 ≠ p9 ∧ w.heap.size < W6.heap.size := by have e8 := Hp8.out; have e9 := Hp9.out; have s6 := Bd6.size; have t0 := Hz8.out; have t1 := Hz9.out; have t2 := hzA; have t3 := hzE; have t4 := b_W6.size; omega
                have L8 := put5_below Bc (show W.heap.size ≤ p8 by have := hz6; omega) (.int .i64 11) (.string name) (.string s0) (.slice P0 P1 P2) (.slice PA PN PC)
                have L68 := put5_below b_W6 hpw.1 (.int .i64 11) (.string name) (.string s0) (.slice P0 P1 P2) (.slice PA PN PC)
                obtain ⟨U8, hU8⟩ : ∃ U, put5 wE p8 (.int .i64 11) (.string name) (.string s0) (.slice P0 P1 P2) (.slice PA PN PC) = U := ⟨_, rfl⟩
                dsimp only at B8
                rw [hU8] at B8 O8 S8 L8 L68
                unfold put5 at hU8
                go_simp
                clear hU8
                refine hKK.out _ _ (by obtain ⟨q0, q1, q2, q3, q4⟩ := CBox.five (((O8 w.heap.size (by omega)).trans (CBox.b HSA.out Bc) : CBox U8 w.heap.size oA mA pA ⟨kAa, kAn, kAc⟩ aA nA cA)); exact ⟨q0, q1, q2, q3, q4⟩) (fun hHeld => ?_)
                clear hKK KK
                (try simp only [Act.put, List.setIfInBounds_toArray, List.set_cons_zero, List.set_cons_succ])
                have Z9 : CBox U8 p9 0 ⟨#[]⟩ ⟨#[]⟩ SS.nil none 0 0 := (O8 p9 (fun h => hpw.2.2.1 h.symm)).trans Z9
                refine wpAnyH_ready (rs := [11]) (by kernel_rfl) (by simp) ?_
                refine AllReadyH.cons rfl (fun KK hKK => ?_) ?_
                · obtain ⟨z0, z1, z2, z3, z4⟩ := Z9.five
                  obtain ⟨y0, y1, y2, y3, y4⟩ := Z9.free
                  dsimp only [SS.nil] at z3
                  have B9 := CBox.put Z9 12 name s0 ⟨E0, E1, E2⟩ EA EN EC
                  have O9 := fun b (hb : b ≠ p9) => put5_other U8 p9 b (.int .i64 12) (.string name) (.string s0) (.slice E0 E1 E2) (.slice EA EN EC) hb
                  have S9 := put5_size U8 p9 (.int .i64 12) (.string name) (.string s0) (.slice E0 E1 E2) (.slice EA EN EC)
                  have L9 := put5_below L8 (show W.heap.size ≤ p9 by have := hz6; omega) (.int .i64 12) (.string name) (.string s0) (.slice E0 E1 E2) (.slice EA EN EC)
                  have L69 := put5_below L68 hpw.2.1 (.int .i64 12) (.string name) (.string s0) (.slice E0 E1 E2) (.slice EA EN EC)
                  obtain ⟨WF, hWF⟩ : ∃ U, put5 U8 p9 (.int .i64 12) (.string name) (.string s0) (.slice E0 E1 E2) (.slice EA EN EC) = U := ⟨_, rfl⟩
                  dsimp only at B9
                  rw [hWF] at B9 O9 S9 L9 L69
                  unfold put5 at hWF
                  go_simp
                  clear hWF
                  refine hKK.out _ _ (by obtain ⟨q0, q1, q2, q3, q4⟩ := CBox.five (((O9 w.heap.size (by omega)).trans ((O8 w.heap.size (by omega)).trans (CBox.b HSA.out Bc)) : CBox WF w.heap.size oA mA pA ⟨kAa, kAn, kAc⟩ aA nA cA)); exact ⟨q0, q1, q2, q3, q4⟩) (fun hHeld => ?_)
                  clear hKK KK
                  (try simp only [Act.put, List.setIfInBounds_toArray, List.set_cons_zero, List.set_cons_succ])
                  refine wpAnyH_done (by kernel_rfl) ?_ _
                  refine NoPanic.normal ?_
                  have s6 := Bd6.size
                  have eA := hzA
                  have eE := hzE
                  have e8 := Hp8.out
                  have t0 := Hz8.out
                  have t1 := Hz9.out
                  have e9 := Hp9.out
                  have sA2 := b_wA.size
                  have sE2 := b_wE.size
                  have FC : CBox WF w.heap.size oA mA pA ⟨kAa, kAn, kAc⟩ aA nA cA := (O9 _ (by omega)).trans ((O8 _ (by omega)).trans (CBox.b HSA.out Bc))
                  have FS := CBox.b HB7.out L69
                  have FX := Lib.hid (ArWC.b HX6.out L69)
                  have F8 : CBox WF p8 11 name s0 ⟨P0, P1, P2⟩ PA PN PC := (O9 _ hpw.2.2.1).trans B8
                  have keep := fun (V : World) (hb : Below V.heap.size V wE) (b : Nat) (h1 : b < V.heap.size) (h2 : b ≠ p8) (h3 : b ≠ p9) => (O9 b h3).trans ((O8 b h2).trans (hb.block b h1))
                  have FA := Lib.hid (ArCP.ar (B := WF.heap.size) (fun b hb => hb) _ (ArCP.to (Q := fun b => b < WF.heap.size) (fun b hb => keep wA b_wA b (by unfold Nw at hb; omega) (by unfold Nw at hb; omega) (by unfold Nw at hb; omega)) (fun b hb => by unfold Nw at hb; omega) _ HXA.out) : ArWC WF (.mk 11 name s0 [] [rr]) ⟨P0, P1, P2⟩ PA PN PC)
                  have FE := Lib.hid (ArCP.ar (B := WF.heap.size) (fun b hb => hb) _ (ArCP.to (Q := fun b => b < WF.heap.size) (fun b hb => keep wE b_wE b (by unfold Nw at hb; omega) (by unfold Nw at hb; omega) (by unfold Nw at hb; omega)) (fun b hb => by unfold Nw at hb; omega) _ HXE.out) : ArWC WF (.mk 12 name s0 [] [rr]) ⟨E0, E1, E2⟩ EA EN EC)
                  have FB := Lib.hid L9
                  clear e8 e9 t0 t1 eA eE s6 sA2 sE2
                  clear HXA HXE Z8 Z9 O8 O9 S8 S9 L8 L68 keep
                  obtain ⟨T1, hT1, hb1, -, X1⟩ := cbox1 WF (opC rr) (nmC rr) (soC rr) ⟨K50, K51, K52⟩ A5 N5 C5
                  have R1 := row1C WF rr ⟨K50, K51, K52⟩ A5 N5 C5 11 name s0 FX.out
                  dsimp only [SS.nil] at hT1 R1
                  rw [hT1] at R1
                  obtain ⟨T2, hT2, hb2, -, X2⟩ := cbox1 T1 11 name s0 SS.nil (some ⟨WF.heap.size, 0, none⟩) 1 1
                  dsimp only [SS.nil] at hT2
                  obtain ⟨T3, hT3, hb3, -, X3⟩ := cbox1 T2 (opC rr) (nmC rr) (soC rr) ⟨K50, K51, K52⟩ A5 N5 C5
                  have b02 := bel_trans hb1 hb2
                  have R3 := row1C T2 rr ⟨K50, K51, K52⟩ A5 N5 C5 12 name s0 (ArWC.b FX.out b02)
                  dsimp only [SS.nil] at hT3 R3
                  rw [hT3] at R3
                  obtain ⟨T4, hT4, hb4, -, X4⟩ := cbox1 T3 12 name s0 SS.nil (some ⟨T2.heap.size, 0, none⟩) 1 1
                  dsimp only [SS.nil] at hT4
                  have b34 := bel_trans hb3 hb4
                  have b04 := bel_trans b02 b34
                  obtain ⟨f0, f1, f2, f3, f4⟩ := FS.five
                  obtain ⟨g0, g1, g2, g3, g4⟩ := (CBox.b FS b02).five
                  have FW := Lib.hid (bel_trans (a := W) FB.out b04)
                  have FX4 := Lib.hid (ArWC.b FX.out b04)
                  have FA4 := Lib.hid (ArWC.b FA.out b04)
                  have FE4 := Lib.hid (ArWC.b FE.out b04)
                  have FO4 := Lib.hid (ArWC.b R1 (bel_trans hb2 b34))
                  have FT4 := Lib.hid (ArWC.b R3 hb4)
                  have HQ4 := Lib.hid (show ∀ W', Below T4.heap.size T4 W' → W'.cell? ⟨w.heap.size, 0, none⟩ = some (.int .i64 oA) ∧ W'.cell? ⟨w.heap.size, 1, none⟩ = some (.string mA) ∧ W'.cell? ⟨w.heap.size, 2, none⟩ = some (.string pA) ∧ W'.cell? ⟨w.heap.size, 3, none⟩ = some (.slice kAa kAn kAc) ∧ W'.cell? ⟨w.heap.size, 4, none⟩ = some (.slice aA nA cA) ∧ W'.cell? ⟨w5.heap.size, 0, none⟩ = some (.int .i64 (opC rr)) ∧ W'.cell? ⟨w5.heap.size, 1, none⟩ = some (.string (nmC rr)) ∧ W'.cell? ⟨w5.heap.size, 2, none⟩ = some (.string (soC rr)) ∧ W'.cell? ⟨w5.heap.size, 3, none⟩ = some (.slice K50 K51 K52) ∧ W'.cell? ⟨w5.heap.size, 4, none⟩ = some (.slice A5 N5 C5) ∧ W'.cell? ⟨p8, 0, none⟩ = some (.int .i64 11) ∧ W'.cell? ⟨p8, 1, none⟩ = some (.string name) ∧ W'.cell? ⟨p8, 2, none⟩ = some (.string s0) ∧ W'.cell? ⟨p8, 3, none⟩ = some (.slice P0 P1 P2) ∧ W'.cell? ⟨p8, 4, none⟩ = some (.slice PA PN PC) ∧ W'.cell? ⟨p9, 0, none⟩ = some (.int .i64 12) ∧ W'.cell? ⟨p9, 1, none⟩ = some (.string name) ∧ W'.cell? ⟨p9, 2, none⟩ = some (.string s0) ∧ W'.cell? ⟨p9, 3, none⟩ = some (.slice E0 E1 E2) ∧ W'.cell? ⟨p9, 4, none⟩ = some (.slice EA EN EC) ∧ W'.cell? ⟨T1.heap.size, 0, none⟩ = some (.int .i64 11) ∧ W'.cell? ⟨T1.heap.size, 1, none⟩ = some (.string name) ∧ W'.cell? ⟨T1.heap.size, 2, none⟩ = some (.string s0) ∧ W'.cell? ⟨T1.heap.size, 3, none⟩ = some (.slice none 0 0) ∧ W'.cell? ⟨T1.heap.size, 4, none⟩ = some (.slice (some ⟨WF.heap.size, 0, none⟩) 1 1) ∧ W'.cell? ⟨T3.heap.size, 0, none⟩ = some (.int .i64 12) ∧ W'.cell? ⟨T3.heap.size, 1, none⟩ = some (.string name) ∧ W'.cell? ⟨T3.heap.size, 2, none⟩ = some (.string s0) ∧ W'.cell? ⟨T3.heap.size, 3, none⟩ = some (.slice none 0 0) ∧ W'.cell? ⟨T3.heap.size, 4, none⟩ = some (.slice (some ⟨T2.heap.size, 0, none⟩) 1 1) from fun W' hb => by
                    obtain ⟨a0, a1, a2, a3, a4⟩ := (CBox.b (CBox.b FC b04) hb).five
                    obtain ⟨b0, b1, b2, b3, b4⟩ := (CBox.b (CBox.b FS b04) hb).five
                    obtain ⟨c0, c1, c2, c3, c4⟩ := (CBox.b (CBox.b F8 b04) hb).five
                    obtain ⟨d0, d1, d2, d3, d4⟩ := (CBox.b (CBox.b B9 b04) hb).five
                    obtain ⟨e0, e1, e2, e3, e4⟩ := (CBox.b (CBox.b X2 b34) hb).five
                    obtain ⟨h0, h1, h2, h3, h4⟩ := (CBox.b X4 hb).five
                    exact ⟨a0, a1, a2, a3, a4, b0, b1, b2, b3, b4, c0, c1, c2, c3, c4, d0, d1, d2, d3, d4, e0, e1, e2, e3, e4, h0, h1, h2, h3, h4⟩)
                  clear FC FS F8 B9 X1 X2 X3 X4 R1 R3 hb1 hb2 hb3 hb4 b02 b34 b04
                  go_wp2_with fail
                  go_region_held3 (fun w' => w'.cell? ⟨w.heap.size, 0, none⟩ = some (.int .i64 oA) ∧ w'.cell? ⟨w.heap.size, 1, none⟩ = some (.string mA) ∧ w'.cell? ⟨w.heap.size, 2, none⟩ = some (.string pA) ∧ w'.cell? ⟨w.heap.size, 3, none⟩ = some (.slice kAa kAn kAc) ∧ w'.cell? ⟨w.heap.size, 4, none⟩ = some (.slice aA nA cA) ∧ w'.cell? ⟨w5.heap.size, 0, none⟩ = some (.int .i64 (opC rr)) ∧ w'.cell? ⟨w5.heap.size, 1, none⟩ = some (.string (nmC rr)) ∧ w'.cell? ⟨w5.heap.size, 2, none⟩ = some (.string (soC rr)) ∧ w'.cell? ⟨w5.heap.size, 3, none⟩ = some (.slice K50 K51 K52) ∧ w'.cell? ⟨w5.heap.size, 4, none⟩ = some (.slice A5 N5 C5) ∧ w'.cell? ⟨p8, 0, none⟩ = some (.int .i64 11) ∧ w'.cell? ⟨p8, 1, none⟩ = some (.string name) ∧ w'.cell? ⟨p8, 2, none⟩ = some (.string s0) ∧ w'.cell? ⟨p8, 3, none⟩ = some (.slice P0 P1 P2) ∧ w'.cell? ⟨p8, 4, none⟩ = some (.slice PA PN PC) ∧ w'.cell? ⟨p9, 0, none⟩ = some (.int .i64 12) ∧ w'.cell? ⟨p9, 1, none⟩ = some (.string name) ∧ w'.cell? ⟨p9, 2, none⟩ = some (.string s0) ∧ w'.cell? ⟨p9, 3, none⟩ = some (.slice E0 E1 E2) ∧ w'.cell? ⟨p9, 4, none⟩ = some (.slice EA EN EC) ∧ w'.cell? ⟨T1.heap.size, 0, none⟩ = some (.int .i64 11) ∧ w'.cell? ⟨T1.heap.size, 1, none⟩ = some (.string name) ∧ w'.cell? ⟨T1.heap.size, 2, none⟩ = some (.string s0) ∧ w'.cell? ⟨T1.heap.size, 3, none⟩ = some (.slice none 0 0) ∧ w'.cell? ⟨T1.heap.size, 4, none⟩ = some (.slice (some ⟨WF.heap.size, 0, none⟩) 1 1) ∧ w'.cell? ⟨T3.heap.size, 0, none⟩ = some (.int .i64 12) ∧ w'.cell? ⟨T3.heap.size, 1, none⟩ = some (.string name) ∧ w'.cell? ⟨T3.heap.size, 2, none⟩ = some (.string s0) ∧ w'.cell? ⟨T3.heap.size, 3, none⟩ = some (.slice none 0 0) ∧ w'.cell? ⟨T3.heap.size, 4, none⟩ = some (.slice (some ⟨T2.heap.size, 0, none⟩) 1 1)) (first | (exact HQ4.out _ (by first | assumption | exact Below.drew (by assumption) | exact Below.refl _ _ | exact (Below.refl _ _).drew)) | go_keep)
                    (first
                      | (go_at_call 29; ((with_reducible refine (c1 _ (bel_trans (a := W) FW.out (by first | assumption | exact Below.drew (by assumption) | exact Below.refl _ _ | exact (Below.refl _ _).drew))).mono ?_); rintro e wX ⟨G0, G1, G2, GA, GN, GC, rfl, hX, hbX⟩; have Bt : Below T4.heap.size T4 wX := bel_trans (by first | assumption | exact Below.drew (by assumption) | exact Below.refl _ _ | exact (Below.refl _ _).drew) hbX; have HG := Lib.hid hX; clear hX))
                      | (go_at_call 18; ((with_reducible refine (cE rr _ _ _ _ _ _ _ _ _ _ _ _ _ (by first | exact HG.out | exact ArWC.b HG.out (Below.refl _ _).drew) (ArWC.b FX4.out (by first | assumption | exact Below.drew (by assumption) | exact Below.refl _ _ | exact (Below.refl _ _).drew))).mono ?_); rintro e wX ⟨rfl, hbX⟩; have Bt : Below T4.heap.size T4 wX := bel_trans (by first | assumption | exact Below.drew (by assumption) | exact Below.refl _ _ | exact (Below.refl _ _).drew) hbX))
                      | (go_at_call 18; ((with_reducible refine (cE11 _ _ _ _ _ _ _ _ _ _ _ _ _ (ArWC.b FA4.out (by first | assumption | exact Below.drew (by assumption) | exact Below.refl _ _ | exact (Below.refl _ _).drew)) (ArWC.b FO4.out (by first | assumption | exact Below.drew (by assumption) | exact Below.refl _ _ | exact (Below.refl _ _).drew))).mono ?_); rintro e wX ⟨rfl, hbX⟩; have Bt : Below T4.heap.size T4 wX := bel_trans (by first | assumption | exact Below.drew (by assumption) | exact Below.refl _ _ | exact (Below.refl _ _).drew) hbX))
                      | (go_at_call 18; ((with_reducible refine (cE12 _ _ _ _ _ _ _ _ _ _ _ _ _ (ArWC.b FE4.out (by first | assumption | exact Below.drew (by assumption) | exact Below.refl _ _ | exact (Below.refl _ _).drew)) (ArWC.b FT4.out (by first | assumption | exact Below.drew (by assumption) | exact Below.refl _ _ | exact (Below.refl _ _).drew))).mono ?_); rintro e wX ⟨rfl, hbX⟩; have Bt : Below T4.heap.size T4 wX := bel_trans (by first | assumption | exact Below.drew (by assumption) | exact Below.refl _ _ | exact (Below.refl _ _).drew) hbX)))
                  all_goals go_wp2
                  all_goals go_ret
                  all_goals exact ⟨rfl, bel_trans hB0 (bel_trans (a := W) FW.out Bt)⟩
                exact AllReadyH.nil
              exact AllReadyH.nil
            exact AllReadyH.nil
          exact AllReadyH.nil
        refine AllReadyH.cons rfl (fun KK hKK => ?_) ?_
        · obtain ⟨V9, hV9⟩ : ∃ V, wA.alloc (.cells #[.int .i64 0, .string ⟨#[]⟩, .string ⟨#[]⟩, .slice none 0 0, .slice none 0 0] 25) = V := ⟨_, rfl⟩
          obtain ⟨p9, hp9⟩ : ∃ p, wA.heap.size = p := ⟨_, rfl⟩
          have hb9 : Below wA.heap.size wA V9 := by rw [← hV9]; exact bel_alloc (Below.refl _ _) _
          have hz9 : V9.heap.size = p9 + 1 := by rw [← hV9, ← hp9]; simp
          have Z9 : CBox V9 p9 0 ⟨#[]⟩ ⟨#[]⟩ SS.nil none 0 0 := by rw [← hV9, ← hp9]; exact CBox.new wA 0 ⟨#[]⟩ ⟨#[]⟩ SS.nil none 0 0
          go_simp
          have Hp9 := Lib.hid hp9
          have Hz9 := Lib.hid hz9
          clear hV9 hp9 hz9
          have Bc := bel_trans (a := W) Bc hb9
          have b_W6 := bel_trans (a := W6) b_W6 hb9
          have b_wA := bel_trans (a := wA) b_wA hb9
          refine hKK.out _ _ (by obtain ⟨q0, q1, q2, q3, q4⟩ := CBox.five (CBox.b HSA.out Bc); exact ⟨q0, q1, q2, q3, q4⟩) (fun hHeld => ?_)
          clear hKK KK
          (try simp only [Act.put, List.setIfInBounds_toArray, List.set_cons_zero, List.set_cons_succ])
          refine wpAnyH_ready (rs := [7, 8]) (by kernel_rfl) (by simp) ?_
          refine AllReadyH.cons rfl (fun KK hKK => ?_) ?_
          · go_simp
            (go_at_call 28; ((with_reducible refine (c4 _ Bc).mono ?_); rintro e wE ⟨E0, E1, E2, EA, EN, EC, rfl, hX, hb⟩))
            have stE := Lib.hid (rfl : V9.heap.size = V9.heap.size)
            have hzE := hb.size
            have HXE := Lib.hid hX
            clear hX
            have Bc := bel_trans (a := W) Bc hb
            have b_W6 := bel_trans (a := W6) b_W6 hb
            have b_wA := bel_trans (a := wA) b_wA hb
            have Z9 := CBox.b Z9 hb
            have b_wE := Below.refl wE.heap.size wE
            refine hKK.out _ _ (by obtain ⟨q0, q1, q2, q3, q4⟩ := CBox.five (CBox.b HSA.out Bc); exact ⟨q0, q1, q2, q3, q4⟩) (fun hHeld => ?_)
            clear hKK KK
            (try simp only [Act.put, List.setIfInBounds_toArray, List.set_cons_zero, List.set_cons_succ])
            refine wpAnyH_ready (rs := [8]) (by kernel_rfl) (by simp) ?_
            refine AllReadyH.cons rfl (fun KK hKK => ?_) ?_
            · obtain ⟨V8, hV8⟩ : ∃ V, wE.alloc (.cells #[.int .i64 0, .string ⟨#[]⟩, .string ⟨#[]⟩, .slice none 0 0, .slice none 0 0] 25) = V := ⟨_, rfl⟩
              obtain ⟨p8, hp8⟩ : ∃ p, wE.heap.size = p := ⟨_, rfl⟩
              have hb8 : Below wE.heap.size wE V8 := by rw [← hV8]; exact bel_alloc (Below.refl _ _) _
              have hz8 : V8.heap.size = p8 + 1 := by rw [← hV8, ← hp8]; simp
              have Z8 : CBox V8 p8 0 ⟨#[]⟩ ⟨#[]⟩ SS.nil none 0 0 := by rw [← hV8, ← hp8]; exact CBox.new wE 0 ⟨#[]⟩ ⟨#[]⟩ SS.nil none 0 0
              go_simp
              have Hp8 := Lib.hid hp8
              have Hz8 := Lib.hid hz8
              clear hV8 hp8 hz8
              have Bc := bel_trans (a := W) Bc hb8
              have b_W6 := bel_trans (a := W6) b_W6 hb8
              have b_wA := bel_trans (a := wA) b_wA hb8
              have b_wE := bel_trans (a := wE) b_wE hb8
              have Z9 := CBox.b Z9 hb8
              refine hKK.out _ _ (by obtain ⟨q0, q1, q2, q3, q4⟩ := CBox.five (CBox.b HSA.out Bc); exact ⟨q0, q1, q2, q3, q4⟩) (fun hHeld => ?_)
              clear hKK KK
              (try simp only [Act.put, List.setIfInBounds_toArray, List.set_cons_zero, List.set_cons_succ])
              refine wpAnyH_ready (rs := [10]) (by kernel_rfl) (by simp) ?_
              refine AllReadyH.cons rfl (fun KK hKK => ?_) ?_
              · obtain ⟨z0, z1, z2, z3, z4⟩ := Z8.five
                obtain ⟨y0, y1, y2, y3, y4⟩ := Z8.free
                dsimp only [SS.nil] at z3
                have B8 := CBox.put Z8 11 name s0 ⟨P0, P1, P2⟩ PA PN PC
                have O8 := fun b (hb : b ≠ p8) => put5_other V8 p8 b (.int .i64 11) (.string name) (.string s0) (.slice P0 P1 P2) (.slice PA PN PC) hb
                have S8 := put5_size V8 p8 (.int .i64 11) (.string name) (.string s0) (.slice P0 P1 P2) (.slice PA PN PC)
                have hpw : W6.heap.size ≤ p8 ∧ W6.heap.size ≤ p9 ∧ p8 ≠ p9 ∧ w.heap.size < W6.heap.size := by have e8 := Hp8.out; have e9 := Hp9.out; have s6 := Bd6.size; have t0 := Hz8.out; have t1 := Hz9.out; have t2 := hzA; have t3 := hzE; have t4 := b_W6.size; omega
                have L8 := put5_below Bc (show W.heap.size ≤ p8 by have := hz6; omega) (.int .i64 11) (.string name) (.string s0) (.slice P0 P1 P2) (.slice PA PN PC)
                have L68 := put5_below b_W6 hpw.1 (.int .i64 11) (.string name) (.string s0) (.slice P0 P1 P2) (.slice PA PN PC)
                obtain ⟨U8, hU8⟩ : ∃ U, put5 V8 p8 (.int .i64 11) (.string name) (.string s0) (.slice P0 P1 P2) (.slice PA PN PC) = U := ⟨_, rfl⟩
                dsimp only at B8
                rw [hU8] at B8 O8 S8 L8 L68
                unfold put5 at hU8
                go_simp
                clear hU8
                refine hKK.out _ _ (by obtain ⟨q0, q1, q2, q3, q4⟩ := CBox.five (((O8 w.heap.size (by omega)).trans (CBox.b HSA.out Bc) : CBox U8 w.heap.size oA mA pA ⟨kAa, kAn, kAc⟩ aA nA cA)); exact ⟨q0, q1, q2, q3, q4⟩) (fun hHeld => ?_)
                clear hKK KK
                (try simp only [Act.put, List.setIfInBounds_toArray, List.set_cons_zero, List.set_cons_succ])
                have Z9 : CBox U8 p9 0 ⟨#[]⟩ ⟨#[]⟩ SS.nil none 0 0 := (O8 p9 (fun h => hpw.2.2.1 h.symm)).trans Z9
                refine wpAnyH_ready (rs := [11]) (by kernel_rfl) (by simp) ?_
                refine AllReadyH.cons rfl (fun KK hKK => ?_) ?_
                · obtain ⟨z0, z1, z2, z3, z4⟩ := Z9.five
                  obtain ⟨y0, y1, y2, y3, y4⟩ := Z9.free
                  dsimp only [SS.nil] at z3
                  have B9 := CBox.put Z9 12 name s0 ⟨E0, E1, E2⟩ EA EN EC
                  have O9 := fun b (hb : b ≠ p9) => put5_other U8 p9 b (.int .i64 12) (.string name) (.string s0) (.slice E0 E1 E2) (.slice EA EN EC) hb
                  have S9 := put5_size U8 p9 (.int .i64 12) (.string name) (.string s0) (.slice E0 E1 E2) (.slice EA EN EC)
                  have L9 := put5_below L8 (show W.heap.size ≤ p9 by have := hz6; omega) (.int .i64 12) (.string name) (.string s0) (.slice E0 E1 E2) (.slice EA EN EC)
                  have L69 := put5_below L68 hpw.2.1 (.int .i64 12) (.string name) (.string s0) (.slice E0 E1 E2) (.slice EA EN EC)
                  obtain ⟨WF, hWF⟩ : ∃ U, put5 U8 p9 (.int .i64 12) (.string name) (.string s0) (.slice E0 E1 E2) (.slice EA EN EC) = U := ⟨_, rfl⟩
                  dsimp only at B9
                  rw [hWF] at B9 O9 S9 L9 L69
                  unfold put5 at hWF
                  go_simp
                  clear hWF
                  refine hKK.out _ _ (by obtain ⟨q0, q1, q2, q3, q4⟩ := CBox.five (((O9 w.heap.size (by omega)).trans ((O8 w.heap.size (by omega)).trans (CBox.b HSA.out Bc)) : CBox WF w.heap.size oA mA pA ⟨kAa, kAn, kAc⟩ aA nA cA)); exact ⟨q0, q1, q2, q3, q4⟩) (fun hHeld => ?_)
                  clear hKK KK
                  (try simp only [Act.put, List.setIfInBounds_toArray, List.set_cons_zero, List.set_cons_succ])
                  refine wpAnyH_done (by kernel_rfl) ?_ _
                  refine NoPanic.normal ?_
                  have s6 := Bd6.size
                  have eA := hzA
                  have eE := hzE
                  have e8 := Hp8.out
                  have t0 := Hz8.out
                  have t1 := Hz9.out
                  have e9 := Hp9.out
                  have sA2 := b_wA.size
                  have sE2 := b_wE.size
                  have FC : CBox WF w.heap.size oA mA pA ⟨kAa, kAn, kAc⟩ aA nA cA := (O9 _ (by omega)).trans ((O8 _ (by omega)).trans (CBox.b HSA.out Bc))
                  have FS := CBox.b HB7.out L69
                  have FX := Lib.hid (ArWC.b HX6.out L69)
                  have F8 : CBox WF p8 11 name s0 ⟨P0, P1, P2⟩ PA PN PC := (O9 _ hpw.2.2.1).trans B8
                  have keep := fun (V : World) (hb : Below V.heap.size V V8) (b : Nat) (h1 : b < V.heap.size) (h2 : b ≠ p8) (h3 : b ≠ p9) => (O9 b h3).trans ((O8 b h2).trans (hb.block b h1))
                  have FA := Lib.hid (ArCP.ar (B := WF.heap.size) (fun b hb => hb) _ (ArCP.to (Q := fun b => b < WF.heap.size) (fun b hb => keep wA b_wA b (by unfold Nw at hb; omega) (by unfold Nw at hb; omega) (by unfold Nw at hb; omega)) (fun b hb => by unfold Nw at hb; omega) _ HXA.out) : ArWC WF (.mk 11 name s0 [] [rr]) ⟨P0, P1, P2⟩ PA PN PC)
                  have FE := Lib.hid (ArCP.ar (B := WF.heap.size) (fun b hb => hb) _ (ArCP.to (Q := fun b => b < WF.heap.size) (fun b hb => keep wE b_wE b (by unfold Nw at hb; omega) (by unfold Nw at hb; omega) (by unfold Nw at hb; omega)) (fun b hb => by unfold Nw at hb; omega) _ HXE.out) : ArWC WF (.mk 12 name s0 [] [rr]) ⟨E0, E1, E2⟩ EA EN EC)
                  have FB := Lib.hid L9
                  clear e8 e9 t0 t1 eA eE s6 sA2 sE2
                  clear HXA HXE Z8 Z9 O8 O9 S8 S9 L8 L68 keep
                  obtain ⟨T1, hT1, hb1, -, X1⟩ := cbox1 WF (opC rr) (nmC rr) (soC rr) ⟨K50, K51, K52⟩ A5 N5 C5
                  have R1 := row1C WF rr ⟨K50, K51, K52⟩ A5 N5 C5 11 name s0 FX.out
                  dsimp only [SS.nil] at hT1 R1
                  rw [hT1] at R1
                  obtain ⟨T2, hT2, hb2, -, X2⟩ := cbox1 T1 11 name s0 SS.nil (some ⟨WF.heap.size, 0, none⟩) 1 1
                  dsimp only [SS.nil] at hT2
                  obtain ⟨T3, hT3, hb3, -, X3⟩ := cbox1 T2 (opC rr) (nmC rr) (soC rr) ⟨K50, K51, K52⟩ A5 N5 C5
                  have b02 := bel_trans hb1 hb2
                  have R3 := row1C T2 rr ⟨K50, K51, K52⟩ A5 N5 C5 12 name s0 (ArWC.b FX.out b02)
                  dsimp only [SS.nil] at hT3 R3
                  rw [hT3] at R3
                  obtain ⟨T4, hT4, hb4, -, X4⟩ := cbox1 T3 12 name s0 SS.nil (some ⟨T2.heap.size, 0, none⟩) 1 1
                  dsimp only [SS.nil] at hT4
                  have b34 := bel_trans hb3 hb4
                  have b04 := bel_trans b02 b34
                  obtain ⟨f0, f1, f2, f3, f4⟩ := FS.five
                  obtain ⟨g0, g1, g2, g3, g4⟩ := (CBox.b FS b02).five
                  have FW := Lib.hid (bel_trans (a := W) FB.out b04)
                  have FX4 := Lib.hid (ArWC.b FX.out b04)
                  have FA4 := Lib.hid (ArWC.b FA.out b04)
                  have FE4 := Lib.hid (ArWC.b FE.out b04)
                  have FO4 := Lib.hid (ArWC.b R1 (bel_trans hb2 b34))
                  have FT4 := Lib.hid (ArWC.b R3 hb4)
                  have HQ4 := Lib.hid (show ∀ W', Below T4.heap.size T4 W' → W'.cell? ⟨w.heap.size, 0, none⟩ = some (.int .i64 oA) ∧ W'.cell? ⟨w.heap.size, 1, none⟩ = some (.string mA) ∧ W'.cell? ⟨w.heap.size, 2, none⟩ = some (.string pA) ∧ W'.cell? ⟨w.heap.size, 3, none⟩ = some (.slice kAa kAn kAc) ∧ W'.cell? ⟨w.heap.size, 4, none⟩ = some (.slice aA nA cA) ∧ W'.cell? ⟨w5.heap.size, 0, none⟩ = some (.int .i64 (opC rr)) ∧ W'.cell? ⟨w5.heap.size, 1, none⟩ = some (.string (nmC rr)) ∧ W'.cell? ⟨w5.heap.size, 2, none⟩ = some (.string (soC rr)) ∧ W'.cell? ⟨w5.heap.size, 3, none⟩ = some (.slice K50 K51 K52) ∧ W'.cell? ⟨w5.heap.size, 4, none⟩ = some (.slice A5 N5 C5) ∧ W'.cell? ⟨p8, 0, none⟩ = some (.int .i64 11) ∧ W'.cell? ⟨p8, 1, none⟩ = some (.string name) ∧ W'.cell? ⟨p8, 2, none⟩ = some (.string s0) ∧ W'.cell? ⟨p8, 3, none⟩ = some (.slice P0 P1 P2) ∧ W'.cell? ⟨p8, 4, none⟩ = some (.slice PA PN PC) ∧ W'.cell? ⟨p9, 0, none⟩ = some (.int .i64 12) ∧ W'.cell? ⟨p9, 1, none⟩ = some (.string name) ∧ W'.cell? ⟨p9, 2, none⟩ = some (.string s0) ∧ W'.cell? ⟨p9, 3, none⟩ = some (.slice E0 E1 E2) ∧ W'.cell? ⟨p9, 4, none⟩ = some (.slice EA EN EC) ∧ W'.cell? ⟨T1.heap.size, 0, none⟩ = some (.int .i64 11) ∧ W'.cell? ⟨T1.heap.size, 1, none⟩ = some (.string name) ∧ W'.cell? ⟨T1.heap.size, 2, none⟩ = some (.string s0) ∧ W'.cell? ⟨T1.heap.size, 3, none⟩ = some (.slice none 0 0) ∧ W'.cell? ⟨T1.heap.size, 4, none⟩ = some (.slice (some ⟨WF.heap.size, 0, none⟩) 1 1) ∧ W'.cell? ⟨T3.heap.size, 0, none⟩ = some (.int .i64 12) ∧ W'.cell? ⟨T3.heap.size, 1, none⟩ = some (.string name) ∧ W'.cell? ⟨T3.heap.size, 2, none⟩ = some (.string s0) ∧ W'.cell? ⟨T3.heap.size, 3, none⟩ = some (.slice none 0 0) ∧ W'.cell? ⟨T3.heap.size, 4, none⟩ = some (.slice (some ⟨T2.heap.size, 0, none⟩) 1 1) from fun W' hb => by
                    obtain ⟨a0, a1, a2, a3, a4⟩ := (CBox.b (CBox.b FC b04) hb).five
                    obtain ⟨b0, b1, b2, b3, b4⟩ := (CBox.b (CBox.b FS b04) hb).five
                    obtain ⟨c0, c1, c2, c3, c4⟩ := (CBox.b (CBox.b F8 b04) hb).five
                    obtain ⟨d0, d1, d2, d3, d4⟩ := (CBox.b (CBox.b B9 b04) hb).five
                    obtain ⟨e0, e1, e2, e3, e4⟩ := (CBox.b (CBox.b X2 b34) hb).five
                    obtain ⟨h0, h1, h2, h3, h4⟩ := (CBox.b X4 hb).five
                    exact ⟨a0, a1, a2, a3, a4, b0, b1, b2, b3, b4, c0, c1, c2, c3, c4, d0, d1, d2, d3, d4, e0, e1, e2, e3, e4, h0, h1, h2, h3, h4⟩)
                  clear FC FS F8 B9 X1 X2 X3 X4 R1 R3 hb1 hb2 hb3 hb4 b02 b34 b04
                  go_wp2_with fail
                  go_region_held3 (fun w' => w'.cell? ⟨w.heap.size, 0, none⟩ = some (.int .i64 oA) ∧ w'.cell? ⟨w.heap.size, 1, none⟩ = some (.string mA) ∧ w'.cell? ⟨w.heap.size, 2, none⟩ = some (.string pA) ∧ w'.cell? ⟨w.heap.size, 3, none⟩ = some (.slice kAa kAn kAc) ∧ w'.cell? ⟨w.heap.size, 4, none⟩ = some (.slice aA nA cA) ∧ w'.cell? ⟨w5.heap.size, 0, none⟩ = some (.int .i64 (opC rr)) ∧ w'.cell? ⟨w5.heap.size, 1, none⟩ = some (.string (nmC rr)) ∧ w'.cell? ⟨w5.heap.size, 2, none⟩ = some (.string (soC rr)) ∧ w'.cell? ⟨w5.heap.size, 3, none⟩ = some (.slice K50 K51 K52) ∧ w'.cell? ⟨w5.heap.size, 4, none⟩ = some (.slice A5 N5 C5) ∧ w'.cell? ⟨p8, 0, none⟩ = some (.int .i64 11) ∧ w'.cell? ⟨p8, 1, none⟩ = some (.string name) ∧ w'.cell? ⟨p8, 2, none⟩ = some (.string s0) ∧ w'.cell? ⟨p8, 3, none⟩ = some (.slice P0 P1 P2) ∧ w'.cell? ⟨p8, 4, none⟩ = some (.slice PA PN PC) ∧ w'.cell? ⟨p9, 0, none⟩ = some (.int .i64 12) ∧ w'.cell? ⟨p9, 1, none⟩ = some (.string name) ∧ w'.cell? ⟨p9, 2, none⟩ = some (.string s0) ∧ w'.cell? ⟨p9, 3, none⟩ = some (.slice E0 E1 E2) ∧ w'.cell? ⟨p9, 4, none⟩ = some (.slice EA EN EC) ∧ w'.cell? ⟨T1.heap.size, 0, none⟩ = some (.int .i64 11) ∧ w'.cell? ⟨T1.heap.size, 1, none⟩ = some (.string name) ∧ w'.cell? ⟨T1.heap.size, 2, none⟩ = some (.string s0) ∧ w'.cell? ⟨T1.heap.size, 3, none⟩ = some (.slice none 0 0) ∧ w'.cell? ⟨T1.heap.size, 4, none⟩ = some (.slice (some ⟨WF.heap.size, 0, none⟩) 1 1) ∧ w'.cell? ⟨T3.heap.size, 0, none⟩ = some (.int .i64 12) ∧ w'.cell? ⟨T3.heap.size, 1, none⟩ = some (.string name) ∧ w'.cell? ⟨T3.heap.size, 2, none⟩ = some (.string s0) ∧ w'.cell? ⟨T3.heap.size, 3, none⟩ = some (.slice none 0 0) ∧ w'.cell? ⟨T3.heap.size, 4, none⟩ = some (.slice (some ⟨T2.heap.size, 0, none⟩) 1 1)) (first | (exact HQ4.out _ (by first | assumption | exact Below.drew (by assumption) | exact Below.refl _ _ | exact (Below.refl _ _).drew)) | go_keep)
                    (first
                      | (go_at_call 29; ((with_reducible refine (c1 _ (bel_trans (a := W) FW.out (by first | assumption | exact Below.drew (by assumption) | exact Below.refl _ _ | exact (Below.refl _ _).drew))).mono ?_); rintro e wX ⟨G0, G1, G2, GA, GN, GC, rfl, hX, hbX⟩; have Bt : Below T4.heap.size T4 wX := bel_trans (by first | assumption | exact Below.drew (by assumption) | exact Below.refl _ _ | exact (Below.refl _ _).drew) hbX; have HG := Lib.hid hX; clear hX))
                      | (go_at_call 18; ((with_reducible refine (cE rr _ _ _ _ _ _ _ _ _ _ _ _ _ (by first | exact HG.out | exact ArWC.b HG.out (Below.refl _ _).drew) (ArWC.b FX4.out (by first | assumption | exact Below.drew (by assumption) | exact Below.refl _ _ | exact (Below.refl _ _).drew))).mono ?_); rintro e wX ⟨rfl, hbX⟩; have Bt : Below T4.heap.size T4 wX := bel_trans (by first | assumption | exact Below.drew (by assumption) | exact Below.refl _ _ | exact (Below.refl _ _).drew) hbX))
                      | (go_at_call 18; ((with_reducible refine (cE11 _ _ _ _ _ _ _ _ _ _ _ _ _ (ArWC.b FA4.out (by first | assumption | exact Below.drew (by assumption) | exact Below.refl _ _ | exact (Below.refl _ _).drew)) (ArWC.b FO4.out (by first | assumption | exact Below.drew (by assumption) | exact Below.refl _ _ | exact (Below.refl _ _).drew))).mono ?_); rintro e wX ⟨rfl, hbX⟩; have Bt : Below T4.heap.size T4 wX := bel_trans (by first | assumption | exact Below.drew (by assumption) | exact Below.refl _ _ | exact (Below.refl _ _).drew) hbX))
                      | (go_at_call 18; ((with_reducible refine (cE12 _ _ _ _ _ _ _ _ _ _ _ _ _ (ArWC.b FE4.out (by first | assumption | exact Below.drew (by assumption) | exact Below.refl _ _ | exact (Below.refl _ _).drew)) (ArWC.b FT4.out (by first | assumption | exact Below.drew (by assumption) | exact Below.refl _ _ | exact (Below.refl _ _).drew))).mono ?_); rintro e wX ⟨rfl, hbX⟩; have Bt : Below T4.heap.size T4 wX := bel_trans (by first | assumption | exact Below.drew (by assumption) | exact Below.refl _ _ | exact (Below.refl _ _).drew) hbX)))
                  all_goals go_wp2
                  all_goals go_ret
                  all_goals exact ⟨rfl, bel_trans hB0 (bel_trans (a := W) FW.out Bt)⟩
                exact AllReadyH.nil
              exact AllReadyH.nil
            exact AllReadyH.nil
          refine AllReadyH.cons rfl (fun KK hKK => ?_) ?_
          · obtain ⟨V8, hV8⟩ : ∃ V, V9.alloc (.cells #[.int .i64 0, .string ⟨#[]⟩, .string ⟨#[]⟩, .slice none 0 0, .slice none 0 0] 25) = V := ⟨_, rfl⟩
            obtain ⟨p8, hp8⟩ : ∃ p, V9.heap.size = p := ⟨_, rfl⟩
            have hb8 : Below V9.heap.size V9 V8 := by rw [← hV8]; exact bel_alloc (Below.refl _ _) _
            have hz8 : V8.heap.size = p8 + 1 := by rw [← hV8, ← hp8]; simp
            have Z8 : CBox V8 p8 0 ⟨#[]⟩ ⟨#[]⟩ SS.nil none 0 0 := by rw [← hV8, ← hp8]; exact CBox.new V9 0 ⟨#[]⟩ ⟨#[]⟩ SS.nil none 0 0
            go_simp
            have Hp8 := Lib.hid hp8
            have Hz8 := Lib.hid hz8
            clear hV8 hp8 hz8
            have Bc := bel_trans (a := W) Bc hb8
            have b_W6 := bel_trans (a := W6) b_W6 hb8
            have b_wA := bel_trans (a := wA) b_wA hb8
            have Z9 := CBox.b Z9 hb8
            refine hKK.out _ _ (by obtain ⟨q0, q1, q2, q3, q4⟩ := CBox.five (CBox.b HSA.out Bc); exact ⟨q0, q1, q2, q3, q4⟩) (fun hHeld => ?_)
            clear hKK KK
            (try simp only [Act.put, List.setIfInBounds_toArray, List.set_cons_zero, List.set_cons_succ])
            refine wpAnyH_ready (rs := [7]) (by kernel_rfl) (by simp) ?_
            refine AllReadyH.cons rfl (fun KK hKK => ?_) ?_
            · go_simp
              (go_at_call 28; ((with_reducible refine (c4 _ Bc).mono ?_); rintro e wE ⟨E0, E1, E2, EA, EN, EC, rfl, hX, hb⟩))
              have stE := Lib.hid (rfl : V8.heap.size = V8.heap.size)
              have hzE := hb.size
              have HXE := Lib.hid hX
              clear hX
              have Bc := bel_trans (a := W) Bc hb
              have b_W6 := bel_trans (a := W6) b_W6 hb
              have b_wA := bel_trans (a := wA) b_wA hb
              have Z9 := CBox.b Z9 hb
              have Z8 := CBox.b Z8 hb
              have b_wE := Below.refl wE.heap.size wE
              refine hKK.out _ _ (by obtain ⟨q0, q1, q2, q3, q4⟩ := CBox.five (CBox.b HSA.out Bc); exact ⟨q0, q1, q2, q3, q4⟩) (fun hHeld => ?_)
              clear hKK KK
              (try simp only [Act.put, List.setIfInBounds_toArray, List.set_cons_zero, List.set_cons_succ])
              refine wpAnyH_ready (rs := [10]) (by kernel_rfl) (by simp) ?_
              refine AllReadyH.cons rfl (fun KK hKK => ?_) ?_
              · obtain ⟨z0, z1, z2, z3, z4⟩ := Z8.five
                obtain ⟨y0, y1, y2, y3, y4⟩ := Z8.free
                dsimp only [SS.nil] at z3
                have B8 := CBox.put Z8 11 name s0 ⟨P0, P1, P2⟩ PA PN PC
                have O8 := fun b (hb : b ≠ p8) => put5_other wE p8 b (.int .i64 11) (.string name) (.string s0) (.slice P0 P1 P2) (.slice PA PN PC) hb
                have S8 := put5_size wE p8 (.int .i64 11) (.string name) (.string s0) (.slice P0 P1 P2) (.slice PA PN PC)
                have hpw : W6.heap.size ≤ p8 ∧ W6.heap.size ≤ p9 ∧ p8 ≠ p9 ∧ w.heap.size < W6.heap.size := by have e8 := Hp8.out; have e9 := Hp9.out; have s6 := Bd6.size; have t0 := Hz8.out; have t1 := Hz9.out; have t2 := hzA; have t3 := hzE; have t4 := b_W6.size; omega
                have L8 := put5_below Bc (show W.heap.size ≤ p8 by have := hz6; omega) (.int .i64 11) (.string name) (.string s0) (.slice P0 P1 P2) (.slice PA PN PC)
                have L68 := put5_below b_W6 hpw.1 (.int .i64 11) (.string name) (.string s0) (.slice P0 P1 P2) (.slice PA PN PC)
                obtain ⟨U8, hU8⟩ : ∃ U, put5 wE p8 (.int .i64 11) (.string name) (.string s0) (.slice P0 P1 P2) (.slice PA PN PC) = U := ⟨_, rfl⟩
                dsimp only at B8
                rw [hU8] at B8 O8 S8 L8 L68
                unfold put5 at hU8
                go_simp
                clear hU8
                refine hKK.out _ _ (by obtain ⟨q0, q1, q2, q3, q4⟩ := CBox.five (((O8 w.heap.size (by omega)).trans (CBox.b HSA.out Bc) : CBox U8 w.heap.size oA mA pA ⟨kAa, kAn, kAc⟩ aA nA cA)); exact ⟨q0, q1, q2, q3, q4⟩) (fun hHeld => ?_)
                clear hKK KK
                (try simp only [Act.put, List.setIfInBounds_toArray, List.set_cons_zero, List.set_cons_succ])
                have Z9 : CBox U8 p9 0 ⟨#[]⟩ ⟨#[]⟩ SS.nil none 0 0 := (O8 p9 (fun h => hpw.2.2.1 h.symm)).trans Z9
                refine wpAnyH_ready (rs := [11]) (by kernel_rfl) (by simp) ?_
                refine AllReadyH.cons rfl (fun KK hKK => ?_) ?_
                · obtain ⟨z0, z1, z2, z3, z4⟩ := Z9.five
                  obtain ⟨y0, y1, y2, y3, y4⟩ := Z9.free
                  dsimp only [SS.nil] at z3
                  have B9 := CBox.put Z9 12 name s0 ⟨E0, E1, E2⟩ EA EN EC
                  have O9 := fun b (hb : b ≠ p9) => put5_other U8 p9 b (.int .i64 12) (.string name) (.string s0) (.slice E0 E1 E2) (.slice EA EN EC) hb
                  have S9 := put5_size U8 p9 (.int .i64 12) (.string name) (.string s0) (.slice E0 E1 E2) (.slice EA EN EC)
                  have L9 := put5_below L8 (show W.heap.size ≤ p9 by have := hz6; omega) (.int .i64 12) (.string name) (.string s0) (.slice E0 E1 E2) (.slice EA EN EC)
                  have L69 := put5_below L68 hpw.2.1 (.int .i64 12) (.string name) (.string s0) (.slice E0 E1 E2) (.slice EA EN EC)
                  obtain ⟨WF, hWF⟩ : ∃ U, put5 U8 p9 (.int .i64 12) (.string name) (.string s0) (.slice E0 E1 E2) (.slice EA EN EC) = U := ⟨_, rfl⟩
                  dsimp only at B9
                  rw [hWF] at B9 O9 S9 L9 L69
                  unfold put5 at hWF
                  go_simp
                  clear hWF
                  refine hKK.out _ _ (by obtain ⟨q0, q1, q2, q3, q4⟩ := CBox.five (((O9 w.heap.size (by omega)).trans ((O8 w.heap.size (by omega)).trans (CBox.b HSA.out Bc)) : CBox WF w.heap.size oA mA pA ⟨kAa, kAn, kAc⟩ aA nA cA)); exact ⟨q0, q1, q2, q3, q4⟩) (fun hHeld => ?_)
                  clear hKK KK
                  (try simp only [Act.put, List.setIfInBounds_toArray, List.set_cons_zero, List.set_cons_succ])
                  refine wpAnyH_done (by kernel_rfl) ?_ _
                  refine NoPanic.normal ?_
                  have s6 := Bd6.size
                  have eA := hzA
                  have eE := hzE
                  have e8 := Hp8.out
                  have t0 := Hz8.out
                  have t1 := Hz9.out
                  have e9 := Hp9.out
                  have sA2 := b_wA.size
                  have sE2 := b_wE.size
                  have FC : CBox WF w.heap.size oA mA pA ⟨kAa, kAn, kAc⟩ aA nA cA := (O9 _ (by omega)).trans ((O8 _ (by omega)).trans (CBox.b HSA.out Bc))
                  have FS := CBox.b HB7.out L69
                  have FX := Lib.hid (ArWC.b HX6.out L69)
                  have F8 : CBox WF p8 11 name s0 ⟨P0, P1, P2⟩ PA PN PC := (O9 _ hpw.2.2.1).trans B8
                  have keep := fun (V : World) (hb : Below V.heap.size V wE) (b : Nat) (h1 : b < V.heap.size) (h2 : b ≠ p8) (h3 : b ≠ p9) => (O9 b h3).trans ((O8 b h2).trans (hb.block b h1))
                  have FA := Lib.hid (ArCP.ar (B := WF.heap.size) (fun b hb => hb) _ (ArCP.to (Q := fun b => b < WF.heap.size) (fun b hb => keep wA b_wA b (by unfold Nw at hb; omega) (by unfold Nw at hb; omega) (by unfold Nw at hb; omega)) (fun b hb => by unfold Nw at hb; omega) _ HXA.out) : ArWC WF (.mk 11 name s0 [] [rr]) ⟨P0, P1, P2⟩ PA PN PC)
                  have FE := Lib.hid (ArCP.ar (B := WF.heap.size) (fun b hb => hb) _ (ArCP.to (Q := fun b => b < WF.heap.size) (fun b hb => keep wE b_wE b (by unfold Nw at hb; omega) (by unfold Nw at hb; omega) (by unfold Nw at hb; omega)) (fun b hb => by unfold Nw at hb; omega) _ HXE.out) : ArWC WF (.mk 12 name s0 [] [rr]) ⟨E0, E1, E2⟩ EA EN EC)
                  have FB := Lib.hid L9
                  clear e8 e9 t0 t1 eA eE s6 sA2 sE2
                  clear HXA HXE Z8 Z9 O8 O9 S8 S9 L8 L68 keep
                  obtain ⟨T1, hT1, hb1, -, X1⟩ := cbox1 WF (opC rr) (nmC rr) (soC rr) ⟨K50, K51, K52⟩ A5 N5 C5
                  have R1 := row1C WF rr ⟨K50, K51, K52⟩ A5 N5 C5 11 name s0 FX.out
                  dsimp only [SS.nil] at hT1 R1
                  rw [hT1] at R1
                  obtain ⟨T2, hT2, hb2, -, X2⟩ := cbox1 T1 11 name s0 SS.nil (some ⟨WF.heap.size, 0, none⟩) 1 1
                  dsimp only [SS.nil] at hT2
                  obtain ⟨T3, hT3, hb3, -, X3⟩ := cbox1 T2 (opC rr) (nmC rr) (soC rr) ⟨K50, K51, K52⟩ A5 N5 C5
                  have b02 := bel_trans hb1 hb2
                  have R3 := row1C T2 rr ⟨K50, K51, K52⟩ A5 N5 C5 12 name s0 (ArWC.b FX.out b02)
                  dsimp only [SS.nil] at hT3 R3
                  rw [hT3] at R3
                  obtain ⟨T4, hT4, hb4, -, X4⟩ := cbox1 T3 12 name s0 SS.nil (some ⟨T2.heap.size, 0, none⟩) 1 1
                  dsimp only [SS.nil] at hT4
                  have b34 := bel_trans hb3 hb4
                  have b04 := bel_trans b02 b34
                  obtain ⟨f0, f1, f2, f3, f4⟩ := FS.five
                  obtain ⟨g0, g1, g2, g3, g4⟩ := (CBox.b FS b02).five
                  have FW := Lib.hid (bel_trans (a := W) FB.out b04)
                  have FX4 := Lib.hid (ArWC.b FX.out b04)
                  have FA4 := Lib.hid (ArWC.b FA.out b04)
                  have FE4 := Lib.hid (ArWC.b FE.out b04)
                  have FO4 := Lib.hid (ArWC.b R1 (bel_trans hb2 b34))
                  have FT4 := Lib.hid (ArWC.b R3 hb4)
                  have HQ4 := Lib.hid (show ∀ W', Below T4.heap.size T4 W' → W'.cell? ⟨w.heap.size, 0, none⟩ = some (.int .i64 oA) ∧ W'.cell? ⟨w.heap.size, 1, none⟩ = some (.string mA) ∧ W'.cell? ⟨w.heap.size, 2, none⟩ = some (.string pA) ∧ W'.cell? ⟨w.heap.size, 3, none⟩ = some (.slice kAa kAn kAc) ∧ W'.cell? ⟨w.heap.size, 4, none⟩ = some (.slice aA nA cA) ∧ W'.cell? ⟨w5.heap.size, 0, none⟩ = some (.int .i64 (opC rr)) ∧ W'.cell? ⟨w5.heap.size, 1, none⟩ = some (.string (nmC rr)) ∧ W'.cell? ⟨w5.heap.size, 2, none⟩ = some (.string (soC rr)) ∧ W'.cell? ⟨w5.heap.size, 3, none⟩ = some (.slice K50 K51 K52) ∧ W'.cell? ⟨w5.heap.size, 4, none⟩ = some (.slice A5 N5 C5) ∧ W'.cell? ⟨p8, 0, none⟩ = some (.int .i64 11) ∧ W'.cell? ⟨p8, 1, none⟩ = some (.string name) ∧ W'.cell? ⟨p8, 2, none⟩ = some (.string s0) ∧ W'.cell? ⟨p8, 3, none⟩ = some (.slice P0 P1 P2) ∧ W'.cell? ⟨p8, 4, none⟩ = some (.slice PA PN PC) ∧ W'.cell? ⟨p9, 0, none⟩ = some (.int .i64 12) ∧ W'.cell? ⟨p9, 1, none⟩ = some (.string name) ∧ W'.cell? ⟨p9, 2, none⟩ = some (.string s0) ∧ W'.cell? ⟨p9, 3, none⟩ = some (.slice E0 E1 E2) ∧ W'.cell? ⟨p9, 4, none⟩ = some (.slice EA EN EC) ∧ W'.cell? ⟨T1.heap.size, 0, none⟩ = some (.int .i64 11) ∧ W'.cell? ⟨T1.heap.size, 1, none⟩ = some (.string name) ∧ W'.cell? ⟨T1.heap.size, 2, none⟩ = some (.string s0) ∧ W'.cell? ⟨T1.heap.size, 3, none⟩ = some (.slice none 0 0) ∧ W'.cell? ⟨T1.heap.size, 4, none⟩ = some (.slice (some ⟨WF.heap.size, 0, none⟩) 1 1) ∧ W'.cell? ⟨T3.heap.size, 0, none⟩ = some (.int .i64 12) ∧ W'.cell? ⟨T3.heap.size, 1, none⟩ = some (.string name) ∧ W'.cell? ⟨T3.heap.size, 2, none⟩ = some (.string s0) ∧ W'.cell? ⟨T3.heap.size, 3, none⟩ = some (.slice none 0 0) ∧ W'.cell? ⟨T3.heap.size, 4, none⟩ = some (.slice (some ⟨T2.heap.size, 0, none⟩) 1 1) from fun W' hb => by
                    obtain ⟨a0, a1, a2, a3, a4⟩ := (CBox.b (CBox.b FC b04) hb).five
                    obtain ⟨b0, b1, b2, b3, b4⟩ := (CBox.b (CBox.b FS b04) hb).five
                    obtain ⟨c0, c1, c2, c3, c4⟩ := (CBox.b (CBox.b F8 b04) hb).five
                    obtain ⟨d0, d1, d2, d3, d4⟩ := (CBox.b (CBox.b B9 b04) hb).five
                    obtain ⟨e0, e1, e2, e3, e4⟩ := (CBox.b (CBox.b X2 b34) hb).five
                    obtain ⟨h0, h1, h2, h3, h4⟩ := (CBox.b X4 hb).five
                    exact ⟨a0, a1, a2, a3, a4, b0, b1, b2, b3, b4, c0, c1, c2, c3, c4, d0, d1, d2, d3, d4, e0, e1, e2, e3, e4, h0, h1, h2, h3, h4⟩)
                  clear FC FS F8 B9 X1 X2 X3 X4 R1 R3 hb1 hb2 hb3 hb4 b02 b34 b04
                  go_wp2_with fail
                  go_region_held3 (fun w' => w'.cell? ⟨w.heap.size, 0, none⟩ = some (.int .i64 oA) ∧ w'.cell? ⟨w.heap.size, 1, none⟩ = some (.string mA) ∧ w'.cell? ⟨w.heap.size, 2, none⟩ = some (.string pA) ∧ w'.cell? ⟨w.heap.size, 3, none⟩ = some (.slice kAa kAn kAc) ∧ w'.cell? ⟨w.heap.size, 4, none⟩ = some (.slice aA nA cA) ∧ w'.cell? ⟨w5.heap.size, 0, none⟩ = some (.int .i64 (opC rr)) ∧ w'.cell? ⟨w5.heap.size, 1, none⟩ = some (.string (nmC rr)) ∧ w'.cell? ⟨w5.heap.size, 2, none⟩ = some (.string (soC rr)) ∧ w'.cell? ⟨w5.heap.size, 3, none⟩ = some (.slice K50 K51 K52) ∧ w'.cell? ⟨w5.heap.size, 4, none⟩ = some (.slice A5 N5 C5) ∧ w'.cell? ⟨p8, 0, none⟩ = some (.int .i64 11) ∧ w'.cell? ⟨p8, 1, none⟩ = some (.string name) ∧ w'.cell? ⟨p8, 2, none⟩ = some (.string s0) ∧ w'.cell? ⟨p8, 3, none⟩ = some (.slice P0 P1 P2) ∧ w'.cell? ⟨p8, 4, none⟩ = some (.slice PA PN PC) ∧ w'.cell? ⟨p9, 0, none⟩ = some (.int .i64 12) ∧ w'.cell? ⟨p9, 1, none⟩ = some (.string name) ∧ w'.cell? ⟨p9, 2, none⟩ = some (.string s0) ∧ w'.cell? ⟨p9, 3, none⟩ = some (.slice E0 E1 E2) ∧ w'.cell? ⟨p9, 4, none⟩ = some (.slice EA EN EC) ∧ w'.cell? ⟨T1.heap.size, 0, none⟩ = some (.int .i64 11) ∧ w'.cell? ⟨T1.heap.size, 1, none⟩ = some (.string name) ∧ w'.cell? ⟨T1.heap.size, 2, none⟩ = some (.string s0) ∧ w'.cell? ⟨T1.heap.size, 3, none⟩ = some (.slice none 0 0) ∧ w'.cell? ⟨T1.heap.size, 4, none⟩ = some (.slice (some ⟨WF.heap.size, 0, none⟩) 1 1) ∧ w'.cell? ⟨T3.heap.size, 0, none⟩ = some (.int .i64 12) ∧ w'.cell? ⟨T3.heap.size, 1, none⟩ = some (.string name) ∧ w'.cell? ⟨T3.heap.size, 2, none⟩ = some (.string s0) ∧ w'.cell? ⟨T3.heap.size, 3, none⟩ = some (.slice none 0 0) ∧ w'.cell? ⟨T3.heap.size, 4, none⟩ = some (.slice (some ⟨T2.heap.size, 0, none⟩) 1 1)) (first | (exact HQ4.out _ (by first | assumption | exact Below.drew (by assumption) | exact Below.refl _ _ | exact (Below.refl _ _).drew)) | go_keep)
                    (first
                      | (go_at_call 29; ((with_reducible refine (c1 _ (bel_trans (a := W) FW.out (by first | assumption | exact Below.drew (by assumption) | exact Below.refl _ _ | exact (Below.refl _ _).drew))).mono ?_); rintro e wX ⟨G0, G1, G2, GA, GN, GC, rfl, hX, hbX⟩; have Bt : Below T4.heap.size T4 wX := bel_trans (by first | assumption | exact Below.drew (by assumption) | exact Below.refl _ _ | exact (Below.refl _ _).drew) hbX; have HG := Lib.hid hX; clear hX))
                      | (go_at_call 18; ((with_reducible refine (cE rr _ _ _ _ _ _ _ _ _ _ _ _ _ (by first | exact HG.out | exact ArWC.b HG.out (Below.refl _ _).drew) (ArWC.b FX4.out (by first | assumption | exact Below.drew (by assumption) | exact Below.refl _ _ | exact (Below.refl _ _).drew))).mono ?_); rintro e wX ⟨rfl, hbX⟩; have Bt : Below T4.heap.size T4 wX := bel_trans (by first | assumption | exact Below.drew (by assumption) | exact Below.refl _ _ | exact (Below.refl _ _).drew) hbX))
                      | (go_at_call 18; ((with_reducible refine (cE11 _ _ _ _ _ _ _ _ _ _ _ _ _ (ArWC.b FA4.out (by first | assumption | exact Below.drew (by assumption) | exact Below.refl _ _ | exact (Below.refl _ _).drew)) (ArWC.b FO4.out (by first | assumption | exact Below.drew (by assumption) | exact Below.refl _ _ | exact (Below.refl _ _).drew))).mono ?_); rintro e wX ⟨rfl, hbX⟩; have Bt : Below T4.heap.size T4 wX := bel_trans (by first | assumption | exact Below.drew (by assumption) | exact Below.refl _ _ | exact (Below.refl _ _).drew) hbX))
                      | (go_at_call 18; ((with_reducible refine (cE12 _ _ _ _ _ _ _ _ _ _ _ _ _ (ArWC.b FE4.out (by first | assumption | exact Below.drew (by assumption) | exact Below.refl _ _ | exact (Below.refl _ _).drew)) (ArWC.b FT4.out (by first | assumption | exact Below.drew (by assumption) | exact Below.refl _ _ | exact (Below.refl _ _).drew))).mono ?_); rintro e wX ⟨rfl, hbX⟩; have Bt : Below T4.heap.size T4 wX := bel_trans (by first | assumption | exact Below.drew (by assumption) | exact Below.refl _ _ | exact (Below.refl _ _).drew) hbX)))
                  all_goals go_wp2
                  all_goals go_ret
                  all_goals exact ⟨rfl, bel_trans hB0 (bel_trans (a := W) FW.out Bt)⟩
                exact AllReadyH.nil
              exact AllReadyH.nil
            exact AllReadyH.nil
          exact AllReadyH.nil
        exact AllReadyH.nil
      refine AllReadyH.cons rfl (fun KK hKK => ?_) ?_
      · obtain ⟨V8, hV8⟩ : ∃ V, Wd.alloc (.cells #[.int .i64 0, .string ⟨#[]⟩, .string ⟨#[]⟩, .slice none 0 0, .slice none 0 0] 25) = V := ⟨_, rfl⟩
        obtain ⟨p8, hp8⟩ : ∃ p, Wd.heap.size = p := ⟨_, rfl⟩
        have hb8 : Below Wd.heap.size Wd V8 := by rw [← hV8]; exact bel_alloc (Below.refl _ _) _
        have hz8 : V8.heap.size = p8 + 1 := by rw [← hV8, ← hp8]; simp
        have Z8 : CBox V8 p8 0 ⟨#[]⟩ ⟨#[]⟩ SS.nil none 0 0 := by rw [← hV8, ← hp8]; exact CBox.new Wd 0 ⟨#[]⟩ ⟨#[]⟩ SS.nil none 0 0
        go_simp
        have Hp8 := Lib.hid hp8
        have Hz8 := Lib.hid hz8
        clear hV8 hp8 hz8
        have Bc := bel_trans (a := W) Bc hb8
        have b_W6 := bel_trans (a := W6) b_W6 hb8
        refine hKK.out _ _ (by obtain ⟨q0, q1, q2, q3, q4⟩ := CBox.five (CBox.b HSA.out Bc); exact ⟨q0, q1, q2, q3, q4⟩) (fun hHeld => ?_)
        clear hKK KK
        (try simp only [Act.put, List.setIfInBounds_toArray, List.set_cons_zero, List.set_cons_succ])
        refine wpAnyH_ready (rs := [3, 9]) (by kernel_rfl) (by simp) ?_
        refine AllReadyH.cons rfl (fun KK hKK => ?_) ?_
        · go_simp
          (go_at_call 27; ((with_reducible refine (c3 _ Bc).mono ?_); rintro e wA ⟨P0, P1, P2, PA, PN, PC, rfl, hX, hb⟩))
          have stA := Lib.hid (rfl : V8.heap.size = V8.heap.size)
          have hzA := hb.size
          have HXA := Lib.hid hX
          clear hX
          have Bc := bel_trans (a := W) Bc hb
          have b_W6 := bel_trans (a := W6) b_W6 hb
          have Z8 := CBox.b Z8 hb
          have b_wA := Below.refl wA.heap.size wA
          refine hKK.out _ _ (by obtain ⟨q0, q1, q2, q3, q4⟩ := CBox.five (CBox.b HSA.out Bc); exact ⟨q0, q1, q2, q3, q4⟩) (fun hHeld => ?_)
          clear hKK KK
          (try simp only [Act.put, List.setIfInBounds_toArray, List.set_cons_zero, List.set_cons_succ])
          refine wpAnyH_ready (rs := [7, 9]) (by kernel_rfl) (by simp) ?_
          refine AllReadyH.cons rfl (fun KK hKK => ?_) ?_
          · go_simp
            (go_at_call 28; ((with_reducible refine (c4 _ Bc).mono ?_); rintro e wE ⟨E0, E1, E2, EA, EN, EC, rfl, hX, hb⟩))
            have stE := Lib.hid (rfl : wA.heap.size = wA.heap.size)
            have hzE := hb.size
            have HXE := Lib.hid hX
            clear hX
            have Bc := bel_trans (a := W) Bc hb
            have b_W6 := bel_trans (a := W6) b_W6 hb
            have b_wA := bel_trans (a := wA) b_wA hb
            have Z8 := CBox.b Z8 hb
            have b_wE := Below.refl wE.heap.size wE
            refine hKK.out _ _ (by obtain ⟨q0, q1, q2, q3, q4⟩ := CBox.five (CBox.b HSA.out Bc); exact ⟨q0, q1, q2, q3, q4⟩) (fun hHeld => ?_)
            clear hKK KK
            (try simp only [Act.put, List.setIfInBounds_toArray, List.set_cons_zero, List.set_cons_succ])
            refine wpAnyH_ready (rs := [9]) (by kernel_rfl) (by simp) ?_
            refine AllReadyH.cons rfl (fun KK hKK => ?_) ?_
            · obtain ⟨V9, hV9⟩ : ∃ V, wE.alloc (.cells #[.int .i64 0, .string ⟨#[]⟩, .string ⟨#[]⟩, .slice none 0 0, .slice none 0 0] 25) = V := ⟨_, rfl⟩
              obtain ⟨p9, hp9⟩ : ∃ p, wE.heap.size = p := ⟨_, rfl⟩
              have hb9 : Below wE.heap.size wE V9 := by rw [← hV9]; exact bel_alloc (Below.refl _ _) _
              have hz9 : V9.heap.size = p9 + 1 := by rw [← hV9, ← hp9]; simp
              have Z9 : CBox V9 p9 0 ⟨#[]⟩ ⟨#[]⟩ SS.nil none 0 0 := by rw [← hV9, ← hp9]; exact CBox.new wE 0 ⟨#[]⟩ ⟨#[]⟩ SS.nil none 0 0
              go_simp
              have Hp9 := Lib.hid hp9
              have Hz9 := Lib.hid hz9
              clear hV9 hp9 hz9
              have Bc := bel_trans (a := W) Bc hb9
              have b_W6 := bel_trans (a := W6) b_W6 hb9
              have b_wA := bel_trans (a := wA) b_wA hb9
              have b_wE := bel_trans (a := wE) b_wE hb9
              have Z8 := CBox.b Z8 hb9
              refine hKK.out _ _ (by obtain ⟨q0, q1, q2, q3, q4⟩ := CBox.five (CBox.b HSA.out Bc); exact ⟨q0, q1, q2, q3, q4⟩) (fun hHeld => ?_)
              clear hKK KK
              (try simp only [Act.put, List.setIfInBounds_toArray, List.set_cons_zero, List.set_cons_succ])
              refine wpAnyH_ready (rs := [10]) (by kernel_rfl) (by simp) ?_
              refine AllReadyH.cons rfl (fun KK hKK => ?_) ?_
              · obtain ⟨z0, z1, z2, z3, z4⟩ := Z8.five
                obtain ⟨y0, y1, y2, y3, y4⟩ := Z8.free
                dsimp only [SS.nil] at z3
                have B8 := CBox.put Z8 11 name s0 ⟨P0, P1, P2⟩ PA PN PC
                have O8 := fun b (hb : b ≠ p8) => put5_other V9 p8 b (.int .i64 11) (.string name) (.string s0) (.slice P0 P1 P2) (.slice PA PN PC) hb
                have S8 := put5_size V9 p8 (.int .i64 11) (.string name) (.string s0) (.slice P0 P1 P2) (.slice PA PN PC)
                have hpw : W6.heap.size ≤ p8 ∧ W6.heap.size ≤ p9 ∧ p8 ≠ p9 ∧ w.heap.size < W6.heap.size := by have e8 := Hp8.out; have e9 := Hp9.out; have s6 := Bd6.size; have t0 := Hz8.out; have t1 := Hz9.out; have t2 := hzA; have t3 := hzE; have t4 := b_W6.size; omega
                have L8 := put5_below Bc (show W.heap.size ≤ p8 by have := hz6; omega) (.int .i64 11) (.string name) (.string s0) (.slice P0 P1 P2) (.slice PA PN PC)
                have L68 := put5_below b_W6 hpw.1 (.int .i64 11) (.string name) (.string s0) (.slice P0 P1 P2) (.slice PA PN PC)
                obtain ⟨U8, hU8⟩ : ∃ U, put5 V9 p8 (.int .i64 11) (.string name) (.string s0) (.slice P0 P1 P2) (.slice PA PN PC) = U := ⟨_, rfl⟩
                dsimp only at B8
                rw [hU8] at B8 O8 S8 L8 L68
                unfold put5 at hU8
                go_simp
                clear hU8
                refine hKK.out _ _ (by obtain ⟨q0, q1, q2, q3, q4⟩ := CBox.five (((O8 w.heap.size (by omega)).trans (CBox.b HSA.out Bc) : CBox U8 w.heap.size oA mA pA ⟨kAa, kAn, kAc⟩ aA nA cA)); exact ⟨q0, q1, q2, q3, q4⟩) (fun hHeld => ?_)
                clear hKK KK
                (try simp only [Act.put, List.setIfInBounds_toArray, List.set_cons_zero, List.set_cons_succ])
                have Z9 : CBox U8 p9 0 ⟨#[]⟩ ⟨#[]⟩ SS.nil none 0 0 := (O8 p9 (fun h => hpw.2.2.1 h.symm)).trans Z9
                refine wpAnyH_ready (rs := [11]) (by kernel_rfl) (by simp) ?_
                refine AllReadyH.cons rfl (fun KK hKK => ?_) ?_
                · obtain ⟨z0, z1, z2, z3, z4⟩ := Z9.five
                  obtain ⟨y0, y1, y2, y3, y4⟩ := Z9.free
                  dsimp only [SS.nil] at z3
                  have B9 := CBox.put Z9 12 name s0 ⟨E0, E1, E2⟩ EA EN EC
                  have O9 := fun b (hb : b ≠ p9) => put5_other U8 p9 b (.int .i64 12) (.string name) (.string s0) (.slice E0 E1 E2) (.slice EA EN EC) hb
                  have S9 := put5_size U8 p9 (.int .i64 12) (.string name) (.string s0) (.slice E0 E1 E2) (.slice EA EN EC)
                  have L9 := put5_below L8 (show W.heap.size ≤ p9 by have := hz6; omega) (.int .i64 12) (.string name) (.string s0) (.slice E0 E1 E2) (.slice EA EN EC)
                  have L69 := put5_below L68 hpw.2.1 (.int .i64 12) (.string name) (.string s0) (.slice E0 E1 E2) (.slice EA EN EC)
                  obtain ⟨WF, hWF⟩ : ∃ U, put5 U8 p9 (.int .i64 12) (.string name) (.string s0) (.slice E0 E1 E2) (.slice EA EN EC) = U := ⟨_, rfl⟩
                  dsimp only at B9
                  rw [hWF] at B9 O9 S9 L9 L69
                  unfold put5 at hWF
                  go_simp
                  clear hWF
                  refine hKK.out _ _ (by obtain ⟨q0, q1, q2, q3, q4⟩ := CBox.five (((O9 w.heap.size (by omega)).trans ((O8 w.heap.size (by omega)).trans (CBox.b HSA.out Bc)) : CBox WF w.heap.size oA mA pA ⟨kAa, kAn, kAc⟩ aA nA cA)); exact ⟨q0, q1, q2, q3, q4⟩) (fun hHeld => ?_)
                  clear hKK KK
                  (try simp only [Act.put, List.setIfInBounds_toArray, List.set_cons_zero, List.set_cons_succ])
                  refine wpAnyH_done (by kernel_rfl) ?_ _
                  refine NoPanic.normal ?_
                  have s6 := Bd6.size
                  have eA := hzA
                  have eE := hzE
                  have e8 := Hp8.out
                  have t0 := Hz8.out
                  have t1 := Hz9.out
                  have e9 := Hp9.out
                  have sA2 := b_wA.size
                  have sE2 := b_wE.size
                  have FC : CBox WF w.heap.size oA mA pA ⟨kAa, kAn, kAc⟩ aA nA cA := (O9 _ (by omega)).trans ((O8 _ (by omega)).trans (CBox.b HSA.out Bc))
                  have FS := CBox.b HB7.out L69
                  have FX := Lib.hid (ArWC.b HX6.out L69)
                  have F8 : CBox WF p8 11 name s0 ⟨P0, P1, P2⟩ PA PN PC := (O9 _ hpw.2.2.1).trans B8
                  have keep := fun (V : World) (hb : Below V.heap.size V V9) (b : Nat) (h1 : b < V.heap.size) (h2 : b ≠ p8) (h3 : b ≠ p9) => (O9 b h3).trans ((O8 b h2).trans (hb.block b h1))
                  have FA := Lib.hid (ArCP.ar (B := WF.heap.size) (fun b hb => hb) _ (ArCP.to (Q := fun b => b < WF.heap.size) (fun b hb => keep wA b_wA b (by unfold Nw at hb; omega) (by unfold Nw at hb; omega) (by unfold Nw at hb; omega)) (fun b hb => by unfold Nw at hb; omega) _ HXA.out) : ArWC WF (.mk 11 name s0 [] [rr]) ⟨P0, P1, P2⟩ PA PN PC)
                  have FE := Lib.hid (ArCP.ar (B := WF.heap.size) (fun b hb => hb) _ (ArCP.to (Q := fun b => b < WF.heap.size) (fun b hb => keep wE b_wE b (by unfold Nw at hb; omega) (by unfold Nw at hb; omega) (by unfold Nw at hb; omega)) (fun b hb => by unfold Nw at hb; omega) _ HXE.out) : ArWC WF (.mk 12 name s0 [] [rr]) ⟨E0, E1, E2⟩ EA EN EC)
                  have FB := Lib.hid L9
                  clear e8 e9 t0 t1 eA eE s6 sA2 sE2
                  clear HXA HXE Z8 Z9 O8 O9 S8 S9 L8 L68 keep
                  obtain ⟨T1, hT1, hb1, -, X1⟩ := cbox1 WF (opC rr) (nmC rr) (soC rr) ⟨K50, K51, K52⟩ A5 N5 C5
                  have R1 := row1C WF rr ⟨K50, K51, K52⟩ A5 N5 C5 11 name s0 FX.out
                  dsimp only [SS.nil] at hT1 R1
                  rw [hT1] at R1
                  obtain ⟨T2, hT2, hb2, -, X2⟩ := cbox1 T1 11 name s0 SS.nil (some ⟨WF.heap.size, 0, none⟩) 1 1
                  dsimp only [SS.nil] at hT2
                  obtain ⟨T3, hT3, hb3, -, X3⟩ := cbox1 T2 (opC rr) (nmC rr) (soC rr) ⟨K50, K51, K52⟩ A5 N5 C5
                  have b02 := bel_trans hb1 hb2
                  have R3 := row1C T2 rr ⟨K50, K51, K52⟩ A5 N5 C5 12 name s0 (ArWC.b FX.out b02)
                  dsimp only [SS.nil] at hT3 R3
                  rw [hT3] at R3
                  obtain ⟨T4, hT4, hb4, -, X4⟩ := cbox1 T3 12 name s0 SS.nil (some ⟨T2.heap.size, 0, none⟩) 1 1
                  dsimp only [SS.nil] at hT4
                  have b34 := bel_trans hb3 hb4
                  have b04 := bel_trans b02 b34
                  obtain ⟨f0, f1, f2, f3, f4⟩ := FS.five
                  obtain ⟨g0, g1, g2, g3, g4⟩ := (CBox.b FS b02).five
                  have FW := Lib.hid (bel_trans (a := W) FB.out b04)
                  have FX4 := Lib.hid (ArWC.b FX.out b04)
                  have FA4 := Lib.hid (ArWC.b FA.out b04)
                  have FE4 := Lib.hid (ArWC.b FE.out b04)
                  have FO4 := Lib.hid (ArWC.b R1 (bel_trans hb2 b34))
                  have FT4 := Lib.hid (ArWC.b R3 hb4)
                  have HQ4 := Lib.hid (show ∀ W', Below T4.heap.size T4 W' → W'.cell? ⟨w.heap.size, 0, none⟩ = some (.int .i64 oA) ∧ W'.cell? ⟨w.heap.size, 1, none⟩ = some (.string mA) ∧ W'.cell? ⟨w.heap.size, 2, none⟩ = some (.string pA) ∧ W'.cell? ⟨w.heap.size, 3, none⟩ = some (.slice kAa kAn kAc) ∧ W'.cell? ⟨w.heap.size, 4, none⟩ = some (.slice aA nA cA) ∧ W'.cell? ⟨w5.heap.size, 0, none⟩ = some (.int .i64 (opC rr)) ∧ W'.cell? ⟨w5.heap.size, 1, none⟩ = some (.string (nmC rr)) ∧ W'.cell? ⟨w5.heap.size, 2, none⟩ = some (.string (soC rr)) ∧ W'.cell? ⟨w5.heap.size, 3, none⟩ = some (.slice K50 K51 K52) ∧ W'.cell? ⟨w5.heap.size, 4, none⟩ = some (.slice A5 N5 C5) ∧ W'.cell? ⟨p8, 0, none⟩ = some (.int .i64 11) ∧ W'.cell? ⟨p8, 1, none⟩ = some (.string name) ∧ W'.cell? ⟨p8, 2, none⟩ = some (.string s0) ∧ W'.cell? ⟨p8, 3, none⟩ = some (.slice P0 P1 P2) ∧ W'.cell? ⟨p8, 4, none⟩ = some (.slice PA PN PC) ∧ W'.cell? ⟨p9, 0, none⟩ = some (.int .i64 12) ∧ W'.cell? ⟨p9, 1, none⟩ = some (.string name) ∧ W'.cell? ⟨p9, 2, none⟩ = some (.string s0) ∧ W'.cell? ⟨p9, 3, none⟩ = some (.slice E0 E1 E2) ∧ W'.cell? ⟨p9, 4, none⟩ = some (.slice EA EN EC) ∧ W'.cell? ⟨T1.heap.size, 0, none⟩ = some (.int .i64 11) ∧ W'.cell? ⟨T1.heap.size, 1, none⟩ = some (.string name) ∧ W'.cell? ⟨T1.heap.size, 2, none⟩ = some (.string s0) ∧ W'.cell? ⟨T1.heap.size, 3, none⟩ = some (.slice none 0 0) ∧ W'.cell? ⟨T1.heap.size, 4, none⟩ = some (.slice (some ⟨WF.heap.size, 0, none⟩) 1 1) ∧ W'.cell? ⟨T3.heap.size, 0, none⟩ = some (.int .i64 12) ∧ W'.cell? ⟨T3.heap.size, 1, none⟩ = some (.string name) ∧ W'.cell? ⟨T3.heap.size, 2, none⟩ = some (.string s0) ∧ W'.cell? ⟨T3.heap.size, 3, none⟩ = some (.slice none 0 0) ∧ W'.cell? ⟨T3.heap.size, 4, none⟩ = some (.slice (some ⟨T2.heap.size, 0, none⟩) 1 1) from fun W' hb => by
                    obtain ⟨a0, a1, a2, a3, a4⟩ := (CBox.b (CBox.b FC b04) hb).five
                    obtain ⟨b0, b1, b2, b3, b4⟩ := (CBox.b (CBox.b FS b04) hb).five
                    obtain ⟨c0, c1, c2, c3, c4⟩ := (CBox.b (CBox.b F8 b04) hb).five
                    obtain ⟨d0, d1, d2, d3, d4⟩ := (CBox.b (CBox.b B9 b04) hb).five
                    obtain ⟨e0, e1, e2, e3, e4⟩ := (CBox.b (CBox.b X2 b34) hb).five
                    obtain ⟨h0, h1, h2, h3, h4⟩ := (CBox.b X4 hb).five
                    exact ⟨a0, a1, a2, a3, a4, b0, b1, b2, b3, b4, c0, c1, c2, c3, c4, d0, d1, d2, d3, d4, e0, e1, e2, e3, e4, h0, h1, h2, h3, h4⟩)
                  clear FC FS F8 B9 X1 X2 X3 X4 R1 R3 hb1 hb2 hb3 hb4 b02 b34 b04
                  go_wp2_with fail
                  go_region_held3 (fun w' => w'.cell? ⟨w.heap.size, 0, none⟩ = some (.int .i64 oA) ∧ w'.cell? ⟨w.heap.size, 1, none⟩ = some (.string mA) ∧ w'.cell? ⟨w.heap.size, 2, none⟩ = some (.string pA) ∧ w'.cell? ⟨w.heap.size, 3, none⟩ = some (.slice kAa kAn kAc) ∧ w'.cell? ⟨w.heap.size, 4, none⟩ = some (.slice aA nA cA) ∧ w'.cell? ⟨w5.heap.size, 0, none⟩ = some (.int .i64 (opC rr)) ∧ w'.cell? ⟨w5.heap.size, 1, none⟩ = some (.string (nmC rr)) ∧ w'.cell? ⟨w5.heap.size, 2, none⟩ = some (.string (soC rr)) ∧ w'.cell? ⟨w5.heap.size, 3, none⟩ = some (.slice K50 K51 K52) ∧ w'.cell? ⟨w5.heap.size, 4, none⟩ = some (.slice A5 N5 C5) ∧ w'.cell? ⟨p8, 0, none⟩ = some (.int .i64 11) ∧ w'.cell? ⟨p8, 1, none⟩ = some (.string name) ∧ w'.cell? ⟨p8, 2, none⟩ = some (.string s0) ∧ w'.cell? ⟨p8, 3, none⟩ = some (.slice P0 P1 P2) ∧ w'.cell? ⟨p8, 4, none⟩ = some (.slice PA PN PC) ∧ w'.cell? ⟨p9, 0, none⟩ = some (.int .i64 12) ∧ w'.cell? ⟨p9, 1, none⟩ = some (.string name) ∧ w'.cell? ⟨p9, 2, none⟩ = some (.string s0) ∧ w'.cell? ⟨p9, 3, none⟩ = some (.slice E0 E1 E2) ∧ w'.cell? ⟨p9, 4, none⟩ = some (.slice EA EN EC) ∧ w'.cell? ⟨T1.heap.size, 0, none⟩ = some (.int .i64 11) ∧ w'.cell? ⟨T1.heap.size, 1, none⟩ = some (.string name) ∧ w'.cell? ⟨T1.heap.size, 2, none⟩ = some (.string s0) ∧ w'.cell? ⟨T1.heap.size, 3, none⟩ = some (.slice none 0 0) ∧ w'.cell? ⟨T1.heap.size, 4, none⟩ = some (.slice (some ⟨WF.heap.size, 0, none⟩) 1 1) ∧ w'.cell? ⟨T3.heap.size, 0, none⟩ = some (.int .i64 12) ∧ w'.cell? ⟨T3.heap.size, 1, none⟩ = some (.string name) ∧ w'.cell? ⟨T3.heap.size, 2, none⟩ = some (.string s0) ∧ w'.cell? ⟨T3.heap.size, 3, none⟩ = some (.slice none 0 0) ∧ w'.cell? ⟨T3.heap.size, 4, none⟩ = some (.slice (some ⟨T2.heap.size, 0, none⟩) 1 1)) (first | (exact HQ4.out _ (by first | assumption | exact Below.drew (by assumption) | exact Below.refl _ _ | exact (Below.refl _ _).drew)) | go_keep)
                    (first
                      | (go_at_call 29; ((with_reducible refine (c1 _ (bel_trans (a := W) FW.out (by first | assumption | exact Below.drew (by assumption) | exact Below.refl _ _ | exact (Below.refl _ _).drew))).mono ?_); rintro e wX ⟨G0, G1, G2, GA, GN, GC, rfl, hX, hbX⟩; have Bt : Below T4.heap.size T4 wX := bel_trans (by first | assumption | exact Below.drew (by assumption) | exact Below.refl _ _ | exact (Below.refl _ _).drew) hbX; have HG := Lib.hid hX; clear hX))
                      | (go_at_call 18; ((with_reducible refine (cE rr _ _ _ _ _ _ _ _ _ _ _ _ _ (by first | exact HG.out | exact ArWC.b HG.out (Below.refl _ _).drew) (ArWC.b FX4.out (by first | assumption | exact Below.drew (by assumption) | exact Below.refl _ _ | exact (Below.refl _ _).drew))).mono ?_); rintro e wX ⟨rfl, hbX⟩; have Bt : Below T4.heap.size T4 wX := bel_trans (by first | assumption | exact Below.drew (by assumption) | exact Below.refl _ _ | exact (Below.refl _ _).drew) hbX))
                      | (go_at_call 18; ((with_reducible refine (cE11 _ _ _ _ _ _ _ _ _ _ _ _ _ (ArWC.b FA4.out (by first | assumption | exact Below.drew (by assumption) | exact Below.refl _ _ | exact (Below.refl _ _).drew)) (ArWC.b FO4.out (by first | assumption | exact Below.drew (by assumption) | exact Below.refl _ _ | exact (Below.refl _ _).drew))).mono ?_); rintro e wX ⟨rfl, hbX⟩; have Bt : Below T4.heap.size T4 wX := bel_trans (by first | assumption | exact Below.drew (by assumption) | exact Below.refl _ _ | exact (Below.refl _ _).drew) hbX))
                      | (go_at_call 18; ((with_reducible refine (cE12 _ _ _ _ _ _ _ _ _ _ _ _ _ (ArWC.b FE4.out (by first | assumption | exact Below.drew (by assumption) | exact Below.refl _ _ | exact (Below.refl _ _).drew)) (ArWC.b FT4.out (by first | assumption | exact Below.drew (by assumption) | exact Below.refl _ _ | exact (Below.refl _ _).drew))).mono ?_); rintro e wX ⟨rfl, hbX⟩; have Bt : Below T4.heap.size T4 wX := bel_trans (by first | assumption | exact Below.drew (by assumption) | exact Below.refl _ _ | exact (Below.refl _ _).drew) hbX)))
                  all_goals go_wp2
                  all_goals go_ret
                  all_goals exact ⟨rfl, bel_trans hB0 (bel_trans (a := W) FW.out Bt)⟩
                exact AllReadyH.nil
              exact AllReadyH.nil
            exact AllReadyH.nil
          refine AllReadyH.cons rfl (fun KK hKK => ?_) ?_
          · obtain ⟨V9, hV9⟩ : ∃ V, wA.alloc (.cells #[.int .i64 0, .string ⟨#[]⟩, .string ⟨#[]⟩, .slice none 0 0, .slice none 0 0] 25) = V := ⟨_, rfl⟩
            obtain ⟨p9, hp9⟩ : ∃ p, wA.heap.size = p := ⟨_, rfl⟩
            have hb9 : Below wA.heap.size wA V9 := by rw [← hV9]; exact bel_alloc (Below.refl _ _) _
            have hz9 : V9.heap.size = p9 + 1 := by rw [← hV9, ← hp9]; simp
            have Z9 : CBox V9 p9 0 ⟨#[]⟩ ⟨#[]⟩ SS.nil none 0 0 := by rw [← hV9, ← hp9]; exact CBox.new wA 0 ⟨#[]⟩ ⟨#[]⟩ SS.nil none 0 0
            go_simp
            have Hp9 := Lib.hid hp9
            have Hz9 := Lib.hid hz9
            clear hV9 hp9 hz9
            have Bc := bel_trans (a := W) Bc hb9
            have b_W6 := bel_trans (a := W6) b_W6 hb9
            have b_wA := bel_trans (a := wA) b_wA hb9
            have Z8 := CBox.b Z8 hb9
            refine hKK.out _ _ (by obtain ⟨q0, q1, q2, q3, q4⟩ := CBox.five (CBox.b HSA.out Bc); exact ⟨q0, q1, q2, q3, q4⟩) (fun hHeld => ?_)
            clear hKK KK
            (try simp only [Act.put, List.setIfInBounds_toArray, List.set_cons_zero, List.set_cons_succ])
            refine wpAnyH_ready (rs := [7]) (by kernel_rfl) (by simp) ?_
            refine AllReadyH.cons rfl (fun KK hKK => ?_) ?_
            · go_simp
              (go_at_call 28; ((with_reducible refine (c4 _ Bc).mono ?_); rintro e wE ⟨E0, E1, E2, EA, EN, EC, rfl, hX, hb⟩))
              have stE := Lib.hid (rfl : V9.heap.size = V9.heap.size)
              have hzE := hb.size
              have HXE := Lib.hid hX
              clear hX
              have Bc := bel_trans (a := W) Bc hb
              have b_W6 := bel_trans (a := W6) b_W6 hb
              have b_wA := bel_trans (a := wA) b_wA hb
              have Z8 := CBox.b Z8 hb
              have Z9 := CBox.b Z9 hb
              have b_wE := Below.refl wE.heap.size wE
              refine hKK.out _ _ (by obtain ⟨q0, q1, q2, q3, q4⟩ := CBox.five (CBox.b HSA.out Bc); exact ⟨q0, q1, q2, q3, q4⟩) (fun hHeld => ?_)
              clear hKK KK
              (try simp only [Act.put, List.setIfInBounds_toArray, List.set_cons_zero, List.set_cons_succ])
              refine wpAnyH_ready (rs := [10]) (by kernel_rfl) (by simp) ?_
              refine AllReadyH.cons rfl (fun KK hKK => ?_) ?_
              · obtain ⟨z0, z1, z2, z3, z4⟩ := Z8.five
                obtain ⟨y0, y1, y2, y3, y4⟩ := Z8.free
                dsimp only [SS.nil] at z3
                have B8 := CBox.put Z8 11 name s0 ⟨P0, P1, P2⟩ PA PN PC
                have O8 := fun b (hb : b ≠ p8) => put5_other wE p8 b (.int .i64 11) (.string name) (.string s0) (.slice P0 P1 P2) (.slice PA PN PC) hb
                have S8 := put5_size wE p8 (.int .i64 11) (.string name) (.string s0) (.slice P0 P1 P2) (.slice PA PN PC)
                have hpw : W6.heap.size ≤ p8 ∧ W6.heap.size ≤ p9 ∧ p8 ≠ p9 ∧ w.heap.size < W6.heap.size := by have e8 := Hp8.out; have e9 := Hp9.out; have s6 := Bd6.size; have t0 := Hz8.out; have t1 := Hz9.out; have t2 := hzA; have t3 := hzE; have t4 := b_W6.size; omega
                have L8 := put5_below Bc (show W.heap.size ≤ p8 by have := hz6; omega) (.int .i64 11) (.string name) (.string s0) (.slice P0 P1 P2) (.slice PA PN PC)
                have L68 := put5_below b_W6 hpw.1 (.int .i64 11) (.string name) (.string s0) (.slice P0 P1 P2) (.slice PA PN PC)
                obtain ⟨U8, hU8⟩ : ∃ U, put5 wE p8 (.int .i64 11) (.string name) (.string s0) (.slice P0 P1 P2) (.slice PA PN PC) = U := ⟨_, rfl⟩
                dsimp only at B8
                rw [hU8] at B8 O8 S8 L8 L68
                unfold put5 at hU8
                go_simp
                clear hU8
                refine hKK.out _ _ (by obtain ⟨q0, q1, q2, q3, q4⟩ := CBox.five (((O8 w.heap.size (by omega)).trans (CBox.b HSA.out Bc) : CBox U8 w.heap.size oA mA pA ⟨kAa, kAn, kAc⟩ aA nA cA)); exact ⟨q0, q1, q2, q3, q4⟩) (fun hHeld => ?_)
                clear hKK KK
                (try simp only [Act.put, List.setIfInBounds_toArray, List.set_cons_zero, List.set_cons_succ])
                have Z9 : CBox U8 p9 0 ⟨#[]⟩ ⟨#[]⟩ SS.nil none 0 0 := (O8 p9 (fun h => hpw.2.2.1 h.symm)).trans Z9
                refine wpAnyH_ready (rs := [11]) (by kernel_rfl) (by simp) ?_
                refine AllReadyH.cons rfl (fun KK hKK => ?_) ?_
                · obtain ⟨z0, z1, z2, z3, z4⟩ := Z9.five
                  obtain ⟨y0, y1, y2, y3, y4⟩ := Z9.free
                  dsimp only [SS.nil] at z3
                  have B9 := CBox.put Z9 12 name s0 ⟨E0, E1, E2⟩ EA EN EC
                  have O9 := fun b (hb : b ≠ p9) => put5_other U8 p9 b (.int .i64 12) (.string name) (.string s0) (.slice E0 E1 E2) (.slice EA EN EC) hb
                  have S9 := put5_size U8 p9 (.int .i64 12) (.string name) (.string s0) (.slice E0 E1 E2) (.slice EA EN EC)
                  have L9 := put5_below L8 (show W.heap.size ≤ p9 by have := hz6; omega) (.int .i64 12) (.string name) (.string s0) (.slice E0 E1 E2) (.slice EA EN EC)
                  have L69 := put5_below L68 hpw.2.1 (.int .i64 12) (.string name) (.string s0) (.slice E0 E1 E2) (.slice EA EN EC)
                  obtain ⟨WF, hWF⟩ : ∃ U, put5 U8 p9 (.int .i64 12) (.string name) (.string s0) (.slice E0 E1 E2) (.slice EA EN EC) = U := ⟨_, rfl⟩
                  dsimp only at B9
                  rw [hWF] at B9 O9 S9 L9 L69
                  unfold put5 at hWF
                  go_simp
                  clear hWF
                  refine hKK.out _ _ (by obtain ⟨q0, q1, q2, q3, q4⟩ := CBox.five (((O9 w.heap.size (by omega)).trans ((O8 w.heap.size (by omega)).trans (CBox.b HSA.out Bc)) : CBox WF w.heap.size oA mA pA ⟨kAa, kAn, kAc⟩ aA nA cA)); exact ⟨q0, q1, q2, q3, q4⟩) (fun hHeld => ?_)
                  clear hKK KK
                  (try simp only [Act.put, List.setIfInBounds_toArray, List.set_cons_zero, List.set_cons_succ])
                  refine wpAnyH_done (by kernel_rfl) ?_ _
                  refine NoPanic.normal ?_
                  have s6 := Bd6.size
                  have eA := hzA
                  have eE := hzE
                  have e8 := Hp8.out
                  have t0 := Hz8.out
                  have t1 := Hz9.out
                  have e9 := Hp9.out
                  have sA2 := b_wA.size
                  have sE2 := b_wE.size
                  have FC : CBox WF w.heap.size oA mA pA ⟨kAa, kAn, kAc⟩ aA nA cA := (O9 _ (by omega)).trans ((O8 _ (by omega)).trans (CBox.b HSA.out Bc))
                  have FS := CBox.b HB7.out L69
                  have FX := Lib.hid (ArWC.b HX6.out L69)
                  have F8 : CBox WF p8 11 name s0 ⟨P0, P1, P2⟩ PA PN PC := (O9 _ hpw.2.2.1).trans B8
                  have keep := fun (V : World) (hb : Below V.heap.size V wE) (b : Nat) (h1 : b < V.heap.size) (h2 : b ≠ p8) (h3 : b ≠ p9) => (O9 b h3).trans ((O8 b h2).trans (hb.block b h1))
                  have FA := Lib.hid (ArCP.ar (B := WF.heap.size) (fun b hb => hb) _ (ArCP.to (Q := fun b => b < WF.heap.size) (fun b hb => keep wA b_wA b (by unfold Nw at hb; omega) (by unfold Nw at hb; omega) (by unfold Nw at hb; omega)) (fun b hb => by unfold Nw at hb; omega) _ HXA.out) : ArWC WF (.mk 11 name s0 [] [rr]) ⟨P0, P1, P2⟩ PA PN PC)
                  have FE := Lib.hid (ArCP.ar (B := WF.heap.size) (fun b hb => hb) _ (ArCP.to (Q := fun b => b < WF.heap.size) (fun b hb => keep wE b_wE b (by unfold Nw at hb; omega) (by unfold Nw at hb; omega) (by unfold Nw at hb; omega)) (fun b hb => by unfold Nw at hb; omega) _ HXE.out) : ArWC WF (.mk 12 name s0 [] [rr]) ⟨E0, E1, E2⟩ EA EN EC)
                  have FB := Lib.hid L9
                  clear e8 e9 t0 t1 eA eE s6 sA2 sE2
                  clear HXA HXE Z8 Z9 O8 O9 S8 S9 L8 L68 keep
                  obtain ⟨T1, hT1, hb1, -, X1⟩ := cbox1 WF (opC rr) (nmC rr) (soC rr) ⟨K50, K51, K52⟩ A5 N5 C5
                  have R1 := row1C WF rr ⟨K50, K51, K52⟩ A5 N5 C5 11 name s0 FX.out
                  dsimp only [SS.nil] at hT1 R1
                  rw [hT1] at R1
                  obtain ⟨T2, hT2, hb2, -, X2⟩ := cbox1 T1 11 name s0 SS.nil (some ⟨WF.heap.size, 0, none⟩) 1 1
                  dsimp only [SS.nil] at hT2
                  obtain ⟨T3, hT3, hb3, -, X3⟩ := cbox1 T2 (opC rr) (nmC rr) (soC rr) ⟨K50, K51, K52⟩ A5 N5 C5
                  have b02 := bel_trans hb1 hb2
                  have R3 := row1C T2 rr ⟨K50, K51, K52⟩ A5 N5 C5 12 name s0 (ArWC.b FX.out b02)
                  dsimp only [SS.nil] at hT3 R3
                  rw [hT3] at R3
                  obtain ⟨T4, hT4, hb4, -, X4⟩ := cbox1 T3 12 name s0 SS.nil (some ⟨T2.heap.size, 0, none⟩) 1 1
                  dsimp only [SS.nil] at hT4
                  have b34 := bel_trans hb3 hb4
                  have b04 := bel_trans b02 b34
                  obtain ⟨f0, f1, f2, f3, f4⟩ := FS.five
                  obtain ⟨g0, g1, g2, g3, g4⟩ := (CBox.b FS b02).five
                  have FW := Lib.hid (bel_trans (a := W) FB.out b04)
                  have FX4 := Lib.hid (ArWC.b FX.out b04)
                  have FA4 := Lib.hid (ArWC.b FA.out b04)
                  have FE4 := Lib.hid (ArWC.b FE.out b04)
                  have FO4 := Lib.hid (ArWC.b R1 (bel_trans hb2 b34))
                  have FT4 := Lib.hid (ArWC.b R3 hb4)
                  have HQ4 := Lib.hid (show ∀ W', Below T4.heap.size T4 W' → W'.cell? ⟨w.heap.size, 0, none⟩ = some (.int .i64 oA) ∧ W'.cell? ⟨w.heap.size, 1, none⟩ = some (.string mA) ∧ W'.cell? ⟨w.heap.size, 2, none⟩ = some (.string pA) ∧ W'.cell? ⟨w.heap.size, 3, none⟩ = some (.slice kAa kAn kAc) ∧ W'.cell? ⟨w.heap.size, 4, none⟩ = some (.slice aA nA cA) ∧ W'.cell? ⟨w5.heap.size, 0, none⟩ = some (.int .i64 (opC rr)) ∧ W'.cell? ⟨w5.heap.size, 1, none⟩ = some (.string (nmC rr)) ∧ W'.cell? ⟨w5.heap.size, 2, none⟩ = some (.string (soC rr)) ∧ W'.cell? ⟨w5.heap.size, 3, none⟩ = some (.slice K50 K51 K52) ∧ W'.cell? ⟨w5.heap.size, 4, none⟩ = some (.slice A5 N5 C5) ∧ W'.cell? ⟨p8, 0, none⟩ = some (.int .i64 11) ∧ W'.cell? ⟨p8, 1, none⟩ = some (.string name) ∧ W'.cell? ⟨p8, 2, none⟩ = some (.string s0) ∧ W'.cell? ⟨p8, 3, none⟩ = some (.slice P0 P1 P2) ∧ W'.cell? ⟨p8, 4, none⟩ = some (.slice PA PN PC) ∧ W'.cell? ⟨p9, 0, none⟩ = some (.int .i64 12) ∧ W'.cell? ⟨p9, 1, none⟩ = some (.string name) ∧ W'.cell? ⟨p9, 2, none⟩ = some (.string s0) ∧ W'.cell? ⟨p9, 3, none⟩ = some (.slice E0 E1 E2) ∧ W'.cell? ⟨p9, 4, none⟩ = some (.slice EA EN EC) ∧ W'.cell? ⟨T1.heap.size, 0, none⟩ = some (.int .i64 11) ∧ W'.cell? ⟨T1.heap.size, 1, none⟩ = some (.string name) ∧ W'.cell? ⟨T1.heap.size, 2, none⟩ = some (.string s0) ∧ W'.cell? ⟨T1.heap.size, 3, none⟩ = some (.slice none 0 0) ∧ W'.cell? ⟨T1.heap.size, 4, none⟩ = some (.slice (some ⟨WF.heap.size, 0, none⟩) 1 1) ∧ W'.cell? ⟨T3.heap.size, 0, none⟩ = some (.int .i64 12) ∧ W'.cell? ⟨T3.heap.size, 1, none⟩ = some (.string name) ∧ W'.cell? ⟨T3.heap.size, 2, none⟩ = some (.string s0) ∧ W'.cell? ⟨T3.heap.size, 3, none⟩ = some (.slice none 0 0) ∧ W'.cell? ⟨T3.heap.size, 4, none⟩ = some (.slice (some ⟨T2.heap.size, 0, none⟩) 1 1) from fun W' hb => by
                    obtain ⟨a0, a1, a2, a3, a4⟩ := (CBox.b (CBox.b FC b04) hb).five
                    obtain ⟨b0, b1, b2, b3, b4⟩ := (CBox.b (CBox.b FS b04) hb).five
                    obtain ⟨c0, c1, c2, c3, c4⟩ := (CBox.b (CBox.b F8 b04) hb).five
                    obtain ⟨d0, d1, d2, d3, d4⟩ := (CBox.b (CBox.b B9 b04) hb).five
                    obtain ⟨e0, e1, e2, e3, e4⟩ := (CBox.b (CBox.b X2 b34) hb).five
                    obtain ⟨h0, h1, h2, h3, h4⟩ := (CBox.b X4 hb).five
                    exact ⟨a0, a1, a2, a3, a4, b0, b1, b2, b3, b4, c0, c1, c2, c3, c4, d0, d1, d2, d3, d4, e0, e1, e2, e3, e4, h0, h1, h2, h3, h4⟩)
                  clear FC FS F8 B9 X1 X2 X3 X4 R1 R3 hb1 hb2 hb3 hb4 b02 b34 b04
                  go_wp2_with fail
                  go_region_held3 (fun w' => w'.cell? ⟨w.heap.size, 0, none⟩ = some (.int .i64 oA) ∧ w'.cell? ⟨w.heap.size, 1, none⟩ = some (.string mA) ∧ w'.cell? ⟨w.heap.size, 2, none⟩ = some (.string pA) ∧ w'.cell? ⟨w.heap.size, 3, none⟩ = some (.slice kAa kAn kAc) ∧ w'.cell? ⟨w.heap.size, 4, none⟩ = some (.slice aA nA cA) ∧ w'.cell? ⟨w5.heap.size, 0, none⟩ = some (.int .i64 (opC rr)) ∧ w'.cell? ⟨w5.heap.size, 1, none⟩ = some (.string (nmC rr)) ∧ w'.cell? ⟨w5.heap.size, 2, none⟩ = some (.string (soC rr)) ∧ w'.cell? ⟨w5.heap.size, 3, none⟩ = some (.slice K50 K51 K52) ∧ w'.cell? ⟨w5.heap.size, 4, none⟩ = some (.slice A5 N5 C5) ∧ w'.cell? ⟨p8, 0, none⟩ = some (.int .i64 11) ∧ w'.cell? ⟨p8, 1, none⟩ = some (.string name) ∧ w'.cell? ⟨p8, 2, none⟩ = some (.string s0) ∧ w'.cell? ⟨p8, 3, none⟩ = some (.slice P0 P1 P2) ∧ w'.cell? ⟨p8, 4, none⟩ = some (.slice PA PN PC) ∧ w'.cell? ⟨p9, 0, none⟩ = some (.int .i64 12) ∧ w'.cell? ⟨p9, 1, none⟩ = some (.string name) ∧ w'.cell? ⟨p9, 2, none⟩ = some (.string s0) ∧ w'.cell? ⟨p9, 3, none⟩ = some (.slice E0 E1 E2) ∧ w'.cell? ⟨p9, 4, none⟩ = some (.slice EA EN EC) ∧ w'.cell? ⟨T1.heap.size, 0, none⟩ = some (.int .i64 11) ∧ w'.cell? ⟨T1.heap.size, 1, none⟩ = some (.string name) ∧ w'.cell? ⟨T1.heap.size, 2, none⟩ = some (.string s0) ∧ w'.cell? ⟨T1.heap.size, 3, none⟩ = some (.slice none 0 0) ∧ w'.cell? ⟨T1.heap.size, 4, none⟩ = some (.slice (some ⟨WF.heap.size, 0, none⟩) 1 1) ∧ w'.cell? ⟨T3.heap.size, 0, none⟩ = some (.int .i64 12) ∧ w'.cell? ⟨T3.heap.size, 1, none⟩ = some (.string name) ∧ w'.cell? ⟨T3.heap.size, 2, none⟩ = some (.string s0) ∧ w'.cell? ⟨T3.heap.size, 3, none⟩ = some (.slice none 0 0) ∧ w'.cell? ⟨T3.heap.size, 4, none⟩ = some (.slice (some ⟨T2.heap.size, 0, none⟩) 1 1)) (first | (exact HQ4.out _ (by first | assumption | exact Below.drew (by assumption) | exact Below.refl _ _ | exact (Below.refl _ _).drew)) | go_keep)
                    (first
                      | (go_at_call 29; ((with_reducible refine (c1 _ (bel_trans (a := W) FW.out (by first | assumption | exact Below.drew (by assumption) | exact Below.refl _ _ | exact (Below.refl _ _).drew))).mono ?_); rintro e wX ⟨G0, G1, G2, GA, GN, GC, rfl, hX, hbX⟩; have Bt : Below T4.heap.size T4 wX := bel_trans (by first | assumption | exact Below.drew (by assumption) | exact Below.refl _ _ | exact (Below.refl _ _).drew) hbX; have HG := Lib.hid hX; clear hX))
                      | (go_at_call 18; ((with_reducible refine (cE rr _ _ _ _ _ _ _ _ _ _ _ _ _ (by first | exact HG.out | exact ArWC.b HG.out (Below.refl _ _).drew) (ArWC.b FX4.out (by first | assumption | exact Below.drew (by assumption) | exact Below.refl _ _ | exact (Below.refl _ _).drew))).mono ?_); rintro e wX ⟨rfl, hbX⟩; have Bt : Below T4.heap.size T4 wX := bel_trans (by first | assumption | exact Below.drew (by assumption) | exact Below.refl _ _ | exact (Below.refl _ _).drew) hbX))
                      | (go_at_call 18; ((with_reducible refine (cE11 _ _ _ _ _ _ _ _ _ _ _ _ _ (ArWC.b FA4.out (by first | assumption | exact Below.drew (by assumption) | exact Below.refl _ _ | exact (Below.refl _ _).drew)) (ArWC.b FO4.out (by first | assumption | exact Below.drew (by assumption) | exact Below.refl _ _ | exact (Below.refl _ _).drew))).mono ?_); rintro e wX ⟨rfl, hbX⟩; have Bt : Below T4.heap.size T4 wX := bel_trans (by first | assumption | exact Below.drew (by assumption) | exact Below.refl _ _ | exact (Below.refl _ _).drew) hbX))
                      | (go_at_call 18; ((with_reducible refine (cE12 _ _ _ _ _ _ _ _ _ _ _ _ _ (ArWC.b FE4.out (by first | assumption | exact Below.drew (by assumption) | exact Below.refl _ _ | exact (Below.refl _ _).drew)) (ArWC.b FT4.out (by first | assumption | exact Below.drew (by assumption) | exact Below.refl _ _ | exact (Below.refl _ _).drew))).mono ?_); rintro e wX ⟨rfl, hbX⟩; have Bt : Below T4.heap.size T4 wX := bel_trans (by first | assumption | exact Below.drew (by assumption) | exact Below.refl _ _ | exact (Below.refl _ _).drew) hbX)))
                  all_goals go_wp2
                  all_goals go_ret
                  all_goals exact ⟨rfl, bel_trans hB0 (bel_trans (a := W) FW.out Bt)⟩
                exact AllReadyH.nil
              exact AllReadyH.nil
            exact AllReadyH.nil
          exact AllReadyH.nil
        refine AllReadyH.cons rfl (fun KK hKK => ?_) ?_
        · obtain ⟨V9, hV9⟩ : ∃ V, V8.alloc (.cells #[.int .i64 0, .string ⟨#[]⟩, .string ⟨#[]⟩, .slice none 0 0, .slice none 0 0] 25) = V := ⟨_, rfl⟩
          obtain ⟨p9, hp9⟩ : ∃ p, V8.heap.size = p := ⟨_, rfl⟩
          have hb9 : Below V8.heap.size V8 V9 := by rw [← hV9]; exact bel_alloc (Below.refl _ _) _
          have hz9 : V9.heap.size = p9 + 1 := by rw [← hV9, ← hp9]; simp
          have Z9 : CBox V9 p9 0 ⟨#[]⟩ ⟨#[]⟩ SS.nil none 0 0 := by rw [← hV9, ← hp9]; exact CBox.new V8 0 ⟨#[]⟩ ⟨#[]⟩ SS.nil none 0 0
          go_simp
          have Hp9 := Lib.hid hp9
          have Hz9 := Lib.hid hz9
          clear hV9 hp9 hz9
          have Bc := bel_trans (a := W) Bc hb9
          have b_W6 := bel_trans (a := W6) b_W6 hb9
          have Z8 := CBox.b Z8 hb9
          refine hKK.out _ _ (by obtain ⟨q0, q1, q2, q3, q4⟩ := CBox.five (CBox.b HSA.out Bc); exact ⟨q0, q1, q2, q3, q4⟩) (fun hHeld => ?_)
          clear hKK KK
          (try simp only [Act.put, List.setIfInBounds_toArray, List.set_cons_zero, List.set_cons_succ])
          refine wpAnyH_ready (rs := [3]) (by kernel_rfl) (by simp) ?_
          refine AllReadyH.cons rfl (fun KK hKK => ?_) ?_
          · go_simp
            (go_at_call 27; ((with_reducible refine (c3 _ Bc).mono ?_); rintro e wA ⟨P0, P1, P2, PA, PN, PC, rfl, hX, hb⟩))
            have stA := Lib.hid (rfl : V9.heap.size = V9.heap.size)
            have hzA := hb.size
            have HXA := Lib.hid hX
            clear hX
            have Bc := bel_trans (a := W) Bc hb
            have b_W6 := bel_trans (a := W6) b_W6 hb
            have Z8 := CBox.b Z8 hb
            have Z9 := CBox.b Z9 hb
            have b_wA := Below.refl wA.heap.size wA
            refine hKK.out _ _ (by obtain ⟨q0, q1, q2, q3, q4⟩ := CBox.five (CBox.b HSA.out Bc); exact ⟨q0, q1, q2, q3, q4⟩) (fun hHeld => ?_)
            clear hKK KK
            (try simp only [Act.put, List.setIfInBounds_toArray, List.set_cons_zero, List.set_cons_succ])
            refine wpAnyH_ready (rs := [7]) (by kernel_rfl) (by simp) ?_
            refine AllReadyH.cons rfl (fun KK hKK => ?_) ?_
            · go_simp
              (go_at_call 28; ((with_reducible refine (c4 _ Bc).mono ?_); rintro e wE ⟨E0, E1, E2, EA, EN, EC, rfl, hX, hb⟩))
              have stE := Lib.hid (rfl : wA.heap.size = wA.heap.size)
              have hzE := hb.size
              have HXE := Lib.hid hX
              clear hX
              have Bc := bel_trans (a := W) Bc hb
              have b_W6 := bel_trans (a := W6) b_W6 hb
              have b_wA := bel_trans (a := wA) b_wA hb
              have Z8 := CBox.b Z8 hb
              have Z9 := CBox.b Z9 hb
              have b_wE := Below.refl wE.heap.size wE
              refine hKK.out _ _ (by obtain ⟨q0, q1, q2, q3, q4⟩ := CBox.five (CBox.b HSA.out Bc); exact ⟨q0, q1, q2, q3, q4⟩) (fun hHeld => ?_)
              clear hKK KK
              (try simp only [Act.put, List.setIfInBounds_toArray, List.set_cons_zero, List.set_cons_succ])
              refine wpAnyH_ready (rs := [10]) (by kernel_rfl) (by simp) ?_
              refine AllReadyH.cons rfl (fun KK hKK => ?_) ?_
              · obtain ⟨z0, z1, z2, z3, z4⟩ := Z8.five
                obtain ⟨y0, y1, y2, y3, y4⟩ := Z8.free
                dsimp only [SS.nil] at z3
                have B8 := CBox.put Z8 11 name s0 ⟨P0, P1, P2⟩ PA PN PC
                have O8 := fun b (hb : b ≠ p8) => put5_other wE p8 b (.int .i64 11) (.string name) (.string s0) (.slice P0 P1 P2) (.slice PA PN PC) hb
                have S8 := put5_size wE p8 (.int .i64 11) (.string name) (.string s0) (.slice P0 P1 P2) (.slice PA PN PC)
                have hpw : W6.heap.size ≤ p8 ∧ W6.heap.size ≤ p9 ∧ p8 ≠ p9 ∧ w.heap.size < W6.heap.size := by have e8 := Hp8.out; have e9 := Hp9.out; have s6 := Bd6.size; have t0 := Hz8.out; have t1 := Hz9.out; have t2 := hzA; have t3 := hzE; have t4 := b_W6.size; omega
                have L8 := put5_below Bc (show W.heap.size ≤ p8 by have := hz6; omega) (.int .i64 11) (.string name) (.string s0) (.slice P0 P1 P2) (.slice PA PN PC)
                have L68 := put5_below b_W6 hpw.1 (.int .i64 11) (.string name) (.string s0) (.slice P0 P1 P2) (.slice PA PN PC)
                obtain ⟨U8, hU8⟩ : ∃ U, put5 wE p8 (.int .i64 11) (.string name) (.string s0) (.slice P0 P1 P2) (.slice PA PN PC) = U := ⟨_, rfl⟩
                dsimp only at B8
                rw [hU8] at B8 O8 S8 L8 L68
                unfold put5 at hU8
                go_simp
                clear hU8
                refine hKK.out _ _ (by obtain ⟨q0, q1, q2, q3, q4⟩ := CBox.five (((O8 w.heap.size (by omega)).trans (CBox.b HSA.out Bc) : CBox U8 w.heap.size oA mA pA ⟨kAa, kAn, kAc⟩ aA nA cA)); exact ⟨q0, q1, q2, q3, q4⟩) (fun hHeld => ?_)
                clear hKK KK
                (try simp only [Act.put, List.setIfInBounds_toArray, List.set_cons_zero, List.set_cons_succ])
                have Z9 : CBox U8 p9 0 ⟨#[]⟩ ⟨#[]⟩ SS.nil none 0 0 := (O8 p9 (fun h => hpw.2.2.1 h.symm)).trans Z9
                refine wpAnyH_ready (rs := [11]) (by kernel_rfl) (by simp) ?_
                refine AllReadyH.cons rfl (fun KK hKK => ?_) ?_
                · obtain ⟨z0, z1, z2, z3, z4⟩ := Z9.five
                  obtain ⟨y0, y1, y2, y3, y4⟩ := Z9.free
                  dsimp only [SS.nil] at z3
                  have B9 := CBox.put Z9 12 name s0 ⟨E0, E1, E2⟩ EA EN EC
                  have O9 := fun b (hb : b ≠ p9) => put5_other U8 p9 b (.int .i64 12) (.string name) (.string s0) (.slice E0 E1 E2) (.slice EA EN EC) hb
                  have S9 := put5_size U8 p9 (.int .i64 12) (.string name) (.string s0) (.slice E0 E1 E2) (.slice EA EN EC)
                  have L9 := put5_below L8 (show W.heap.size ≤ p9 by have := hz6; omega) (.int .i64 12) (.string name) (.string s0) (.slice E0 E1 E2) (.slice EA EN EC)
                  have L69 := put5_below L68 hpw.2.1 (.int .i64 12) (.string name) (.string s0) (.slice E0 E1 E2) (.slice EA EN EC)
                  obtain ⟨WF, hWF⟩ : ∃ U, put5 U8 p9 (.int .i64 12) (.string name) (.string s0) (.slice E0 E1 E2) (.slice EA EN EC) = U := ⟨_, rfl⟩
                  dsimp only at B9
                  rw [hWF] at B9 O9 S9 L9 L69
                  unfold put5 at hWF
                  go_simp
                  clear hWF
                  refine hKK.out _ _ (by obtain ⟨q0, q1, q2, q3, q4⟩ := CBox.five (((O9 w.heap.size (by omega)).trans ((O8 w.heap.size (by omega)).trans (CBox.b HSA.out Bc)) : CBox WF w.heap.size oA mA pA ⟨kAa, kAn, kAc⟩ aA nA cA)); exact ⟨q0, q1, q2, q3, q4⟩) (fun hHeld => ?_)
                  clear hKK KK
                  (try simp only [Act.put, List.setIfInBounds_toArray, List.set_cons_zero, List.set_cons_succ])
                  refine wpAnyH_done (by kernel_rfl) ?_ _
                  refine NoPanic.normal ?_
                  have s6 := Bd6.size
                  have eA := hzA
                  have eE := hzE
                  have e8 := Hp8.out
                  have t0 := Hz8.out
                  have t1 := Hz9.out
                  have e9 := Hp9.out
                  have sA2 := b_wA.size
                  have sE2 := b_wE.size
                  have FC : CBox WF w.heap.size oA mA pA ⟨kAa, kAn, kAc⟩ aA nA cA := (O9 _ (by omega)).trans ((O8 _ (by omega)).trans (CBox.b HSA.out Bc))
                  have FS := CBox.b HB7.out L69
                  have FX := Lib.hid (ArWC.b HX6.out L69)
                  have F8 : CBox WF p8 11 name s0 ⟨P0, P1, P2⟩ PA PN PC := (O9 _ hpw.2.2.1).trans B8
                  have keep := fun (V : World) (hb : Below V.heap.size V wE) (b : Nat) (h1 : b < V.heap.size) (h2 : b ≠ p8) (h3 : b ≠ p9) => (O9 b h3).trans ((O8 b h2).trans (hb.block b h1))
                  have FA := Lib.hid (ArCP.ar (B := WF.heap.size) (fun b hb => hb) _ (ArCP.to (Q := fun b => b < WF.heap.size) (fun b hb => keep wA b_wA b (by unfold Nw at hb; omega) (by unfold Nw at hb; omega) (by unfold Nw at hb; omega)) (fun b hb => by unfold Nw at hb; omega) _ HXA.out) : ArWC WF (.mk 11 name s0 [] [rr]) ⟨P0, P1, P2⟩ PA PN PC)
                  have FE := Lib.hid (ArCP.ar (B := WF.heap.size) (fun b hb => hb) _ (ArCP.to (Q := fun b => b < WF.heap.size) (fun b hb => keep wE b_wE b (by unfold Nw at hb; omega) (by unfold Nw at hb; omega) (by unfold Nw at hb; omega)) (fun b hb => by unfold Nw at hb; omega) _ HXE.out) : ArWC WF (.mk 12 name s0 [] [rr]) ⟨E0, E1, E2⟩ EA EN EC)
                  have FB := Lib.hid L9
                  clear e8 e9 t0 t1 eA eE s6 sA2 sE2
                  clear HXA HXE Z8 Z9 O8 O9 S8 S9 L8 L68 keep
                  obtain ⟨T1, hT1, hb1, -, X1⟩ := cbox1 WF (opC rr) (nmC rr) (soC rr) ⟨K50, K51, K52⟩ A5 N5 C5
                  have R1 := row1C WF rr ⟨K50, K51, K52⟩ A5 N5 C5 11 name s0 FX.out
                  dsimp only [SS.nil] at hT1 R1
                  rw [hT1] at R1
                  obtain ⟨T2, hT2, hb2, -, X2⟩ := cbox1 T1 11 name s0 SS.nil (some ⟨WF.heap.size, 0, none⟩) 1 1
                  dsimp only [SS.nil] at hT2
                  obtain ⟨T3, hT3, hb3, -, X3⟩ := cbox1 T2 (opC rr) (nmC rr) (soC rr) ⟨K50, K51, K52⟩ A5 N5 C5
                  have b02 := bel_trans hb1 hb2
                  have R3 := row1C T2 rr ⟨K50, K51, K52⟩ A5 N5 C5 12 name s0 (ArWC.b FX.out b02)
                  dsimp only [SS.nil] at hT3 R3
                  rw [hT3] at R3
                  obtain ⟨T4, hT4, hb4, -, X4⟩ := cbox1 T3 12 name s0 SS.nil (some ⟨T2.heap.size, 0, none⟩) 1 1
                  dsimp only [SS.nil] at hT4
                  have b34 := bel_trans hb3 hb4
                  have b04 := bel_trans b02 b34
                  obtain ⟨f0, f1, f2, f3, f4⟩ := FS.five
                  obtain ⟨g0, g1, g2, g3, g4⟩ := (CBox.b FS b02).five
                  have FW := Lib.hid (bel_trans (a := W) FB.out b04)
                  have FX4 := Lib.hid (ArWC.b FX.out b04)
                  have FA4 := Lib.hid (ArWC.b FA.out b04)
                  have FE4 := Lib.hid (ArWC.b FE.out b04)
                  have FO4 := Lib.hid (ArWC.b R1 (bel_trans hb2 b34))
                  have FT4 := Lib.hid (ArWC.b R3 hb4)
                  have HQ4 := Lib.hid (show ∀ W', Below T4.heap.size T4 W' → W'.cell? ⟨w.heap.size, 0, none⟩ = some (.int .i64 oA) ∧ W'.cell? ⟨w.heap.size, 1, none⟩ = some (.string mA) ∧ W'.cell? ⟨w.heap.size, 2, none⟩ = some (.string pA) ∧ W'.cell? ⟨w.heap.size, 3, none⟩ = some (.slice kAa kAn kAc) ∧ W'.cell? ⟨w.heap.size, 4, none⟩ = some (.slice aA nA cA) ∧ W'.cell? ⟨w5.heap.size, 0, none⟩ = some (.int .i64 (opC rr)) ∧ W'.cell? ⟨w5.heap.size, 1, none⟩ = some (.string (nmC rr)) ∧ W'.cell? ⟨w5.heap.size, 2, none⟩ = some (.string (soC rr)) ∧ W'.cell? ⟨w5.heap.size, 3, none⟩ = some (.slice K50 K51 K52) ∧ W'.cell? ⟨w5.heap.size, 4, none⟩ = some (.slice A5 N5 C5) ∧ W'.cell? ⟨p8, 0, none⟩ = some (.int .i64 11) ∧ W'.cell? ⟨p8, 1, none⟩ = some (.string name) ∧ W'.cell? ⟨p8, 2, none⟩ = some (.string s0) ∧ W'.cell? ⟨p8, 3, none⟩ = some (.slice P0 P1 P2) ∧ W'.cell? ⟨p8, 4, none⟩ = some (.slice PA PN PC) ∧ W'.cell? ⟨p9, 0, none⟩ = some (.int .i64 12) ∧ W'.cell? ⟨p9, 1, none⟩ = some (.string name) ∧ W'.cell? ⟨p9, 2, none⟩ = some (.string s0) ∧ W'.cell? ⟨p9, 3, none⟩ = some (.slice E0 E1 E2) ∧ W'.cell? ⟨p9, 4, none⟩ = some (.slice EA EN EC) ∧ W'.cell? ⟨T1.heap.size, 0, none⟩ = some (.int .i64 11) ∧ W'.cell? ⟨T1.heap.size, 1, none⟩ = some (.string name) ∧ W'.cell? ⟨T1.heap.size, 2, none⟩ = some (.string s0) ∧ W'.cell? ⟨T1.heap.size, 3, none⟩ = some (.slice none 0 0) ∧ W'.cell? ⟨T1.heap.size, 4, none⟩ = some (.slice (some ⟨WF.heap.size, 0, none⟩) 1 1) ∧ W'.cell? ⟨T3.heap.size, 0, none⟩ = some (.int .i64 12) ∧ W'.cell? ⟨T3.heap.size, 1, none⟩ = some (.string name) ∧ W'.cell? ⟨T3.heap.size, 2, none⟩ = some (.string s0) ∧ W'.cell? ⟨T3.heap.size, 3, none⟩ = some (.slice none 0 0) ∧ W'.cell? ⟨T3.heap.size, 4, none⟩ = some (.slice (some ⟨T2.heap.size, 0, none⟩) 1 1) from fun W' hb => by
                    obtain ⟨a0, a1, a2, a3, a4⟩ := (CBox.b (CBox.b FC b04) hb).five
                    obtain ⟨b0, b1, b2, b3, b4⟩ := (CBox.b (CBox.b FS b04) hb).five
                    obtain ⟨c0, c1, c2, c3, c4⟩ := (CBox.b (CBox.b F8 b04) hb).five
                    obtain ⟨d0, d1, d2, d3, d4⟩ := (CBox.b (CBox.b B9 b04) hb).five
                    obtain ⟨e0, e1, e2, e3, e4⟩ := (CBox.b (CBox.b X2 b34) hb).five
                    obtain ⟨h0, h1, h2, h3, h4⟩ := (CBox.b X4 hb).five
                    exact ⟨a0, a1, a2, a3, a4, b0, b1, b2, b3, b4, c0, c1, c2, c3, c4, d0, d1, d2, d3, d4, e0, e1, e2, e3, e4, h0, h1, h2, h3, h4⟩)
                  clear FC FS F8 B9 X1 X2 X3 X4 R1 R3 hb1 hb2 hb3 hb4 b02 b34 b04
                  go_wp2_with fail
                  go_region_held3 (fun w' => w'.cell? ⟨w.heap.size, 0, none⟩ = some (.int .i64 oA) ∧ w'.cell? ⟨w.heap.size, 1, none⟩ = some (.string mA) ∧ w'.cell? ⟨w.heap.size, 2, none⟩ = some (.string pA) ∧ w'.cell? ⟨w.heap.size, 3, none⟩ = some (.slice kAa kAn kAc) ∧ w'.cell? ⟨w.heap.size, 4, none⟩ = some (.slice aA nA cA) ∧ w'.cell? ⟨w5.heap.size, 0, none⟩ = some (.int .i64 (opC rr)) ∧ w'.cell? ⟨w5.heap.size, 1, none⟩ = some (.string (nmC rr)) ∧ w'.cell? ⟨w5.heap.size, 2, none⟩ = some (.string (soC rr)) ∧ w'.cell? ⟨w5.heap.size, 3, none⟩ = some (.slice K50 K51 K52) ∧ w'.cell? ⟨w5.heap.size, 4, none⟩ = some (.slice A5 N5 C5) ∧ w'.cell? ⟨p8, 0, none⟩ = some (.int .i64 11) ∧ w'.cell? ⟨p8, 1, none⟩ = some (.string name) ∧ w'.cell? ⟨p8, 2, none⟩ = some (.string s0) ∧ w'.cell? ⟨p8, 3, none⟩ = some (.slice P0 P1 P2) ∧ w'.cell? ⟨p8, 4, none⟩ = some (.slice PA PN PC) ∧ w'.cell? ⟨p9, 0, none⟩ = some (.int .i64 12) ∧ w'.cell? ⟨p9, 1, none⟩ = some (.string name) ∧ w'.cell? ⟨p9, 2, none⟩ = some (.string s0) ∧ w'.cell? ⟨p9, 3, none⟩ = some (.slice E0 E1 E2) ∧ w'.cell? ⟨p9, 4, none⟩ = some (.slice EA EN EC) ∧ w'.cell? ⟨T1.heap.size, 0, none⟩ = some (.int .i64 11) ∧ w'.cell? ⟨T1.heap.size, 1, none⟩ = some (.string name) ∧ w'.cell? ⟨T1.heap.size, 2, none⟩ = some (.string s0) ∧ w'.cell? ⟨T1.heap.size, 3, none⟩ = some (.slice none 0 0) ∧ w'.cell? ⟨T1.heap.size, 4, none⟩ = some (.slice (some ⟨WF.heap.size, 0, none⟩) 1 1) ∧ w'.cell? ⟨T3.heap.size, 0, none⟩ = some (.int .i64 12) ∧ w'.cell? ⟨T3.heap.size, 1, none⟩ = some (.string name) ∧ w'.cell? ⟨T3.heap.size, 2, none⟩ = some (.string s0) ∧ w'.cell? ⟨T3.heap.size, 3, none⟩ = some (.slice none 0 0) ∧ w'.cell? ⟨T3.heap.size, 4, none⟩ = some (.slice (some ⟨T2.heap.size, 0, none⟩) 1 1)) (first | (exact HQ4.out _ (by first | assumption | exact Below.drew (by assumption) | exact Below.refl _ _ | exact (Below.refl _ _).drew)) | go_keep)
                    (first
                      | (go_at_call 29; ((with_reducible refine (c1 _ (bel_trans (a := W) FW.out (by first | assumption | exact Below.drew (by assumption) | exact Below.refl _ _ | exact (Below.refl _ _).drew))).mono ?_); rintro e wX ⟨G0, G1, G2, GA, GN, GC, rfl, hX, hbX⟩; have Bt : Below T4.heap.size T4 wX := bel_trans (by first | assumption | exact Below.drew (by assumption) | exact Below.refl _ _ | exact (Below.refl _ _).drew) hbX; have HG := Lib.hid hX; clear hX))
                      | (go_at_call 18; ((with_reducible refine (cE rr _ _ _ _ _ _ _ _ _ _ _ _ _ (by first | exact HG.out | exact ArWC.b HG.out (Below.refl _ _).drew) (ArWC.b FX4.out (by first | assumption | exact Below.drew (by assumption) | exact Below.refl _ _ | exact (Below.refl _ _).drew))).mono ?_); rintro e wX ⟨rfl, hbX⟩; have Bt : Below T4.heap.size T4 wX := bel_trans (by first | assumption | exact Below.drew (by assumption) | exact Below.refl _ _ | exact (Below.refl _ _).drew) hbX))
                      | (go_at_call 18; ((with_reducible refine (cE11 _ _ _ _ _ _ _ _ _ _ _ _ _ (ArWC.b FA4.out (by first | assumption | exact Below.drew (by assumption) | exact Below.refl _ _ | exact (Below.refl _ _).drew)) (ArWC.b FO4.out (by first | assumption | exact Below.drew (by assumption) | exact Below.refl _ _ | exact (Below.refl _ _).drew))).mono ?_); rintro e wX ⟨rfl, hbX⟩; have Bt : Below T4.heap.size T4 wX := bel_trans (by first | assumption | exact Below.drew (by assumption) | exact Below.refl _ _ | exact (Below.refl _ _).drew) hbX))
                      | (go_at_call 18; ((with_reducible refine (cE12 _ _ _ _ _ _ _ _ _ _ _ _ _ (ArWC.b FE4.out (by first | assumption | exact Below.drew (by assumption) | exact Below.refl _ _ | exact (Below.refl _ _).drew)) (ArWC.b FT4.out (by first | assumption | exact Below.drew (by assumption) | exact Below.refl _ _ | exact (Below.refl _ _).drew))).mono ?_); rintro e wX ⟨rfl, hbX⟩; have Bt : Below T4.heap.size T4 wX := bel_trans (by first | assumption | exact Below.drew (by assumption) | exact Below.refl _ _ | exact (Below.refl _ _).drew) hbX)))
                  all_goals go_wp2
                  all_goals go_ret
                  all_goals exact ⟨rfl, bel_trans hB0 (bel_trans (a := W) FW.out Bt)⟩
                exact AllReadyH.nil
              exact AllReadyH.nil
            exact AllReadyH.nil
          exact AllReadyH.nil
        exact AllReadyH.nil
      refine AllReadyH.cons rfl (fun KK hKK => ?_) ?_
      · obtain ⟨V9, hV9⟩ : ∃ V, Wd.alloc (.cells #[.int .i64 0, .string ⟨#[]⟩, .string ⟨#[]⟩, .slice none 0 0, .slice none 0 0] 25) = V := ⟨_, rfl⟩
        obtain ⟨p9, hp9⟩ : ∃ p, Wd.heap.size = p := ⟨_, rfl⟩
        have hb9 : Below Wd.heap.size Wd V9 := by rw [← hV9]; exact bel_alloc (Below.refl _ _) _
        have hz9 : V9.heap.size = p9 + 1 := by rw [← hV9, ← hp9]; simp
        have Z9 : CBox V9 p9 0 ⟨#[]⟩ ⟨#[]⟩ SS.nil none 0 0 := by rw [← hV9, ← hp9]; exact CBox.new Wd 0 ⟨#[]⟩ ⟨#[]⟩ SS.nil none 0 0
        go_simp
        have Hp9 := Lib.hid hp9
        have Hz9 := Lib.hid hz9
        clear hV9 hp9 hz9
        have Bc := bel_trans (a := W) Bc hb9
        have b_W6 := bel_trans (a := W6) b_W6 hb9
        refine hKK.out _ _ (by obtain ⟨q0, q1, q2, q3, q4⟩ := CBox.five (CBox.b HSA.out Bc); exact ⟨q0, q1, q2, q3, q4⟩) (fun hHeld => ?_)
        clear hKK KK
        (try simp only [Act.put, List.setIfInBounds_toArray, List.set_cons_zero, List.set_cons_succ])
        refine wpAnyH_ready (rs := [3, 8]) (by kernel_rfl) (by simp) ?_
        refine AllReadyH.cons rfl (fun KK hKK => ?_) ?_
        · go_simp
          (go_at_call 27; ((with_reducible refine (c3 _ Bc).mono ?_); rintro e wA ⟨P0, P1, P2, PA, PN, PC, rfl, hX, hb⟩))
          have stA := Lib.hid (rfl : V9.heap.size = V9.heap.size)
          have hzA := hb.size
          have HXA := Lib.hid hX
          clear hX
          have Bc := bel_trans (a := W) Bc hb
          have b_W6 := bel_trans (a := W6) b_W6 hb
          have Z9 := CBox.b Z9 hb
          have b_wA := Below.refl wA.heap.size wA
          refine hKK.out _ _ (by obtain ⟨q0, q1, q2, q3, q4⟩ := CBox.five (CBox.b HSA.out Bc); exact ⟨q0, q1, q2, q3, q4⟩) (fun hHeld => ?_)
          clear hKK KK
          (try simp only [Act.put, List.setIfInBounds_toArray, List.set_cons_zero, List.set_cons_succ])
          refine wpAnyH_ready (rs := [7, 8]) (by kernel_rfl) (by simp) ?_
          refine AllReadyH.cons rfl (fun KK hKK => ?_) ?_
          · go_simp
            (go_at_call 28; ((with_reducible refine (c4 _ Bc).mono ?_); rintro e wE ⟨E0, E1, E2, EA, EN, EC, rfl, hX, hb⟩))
            have stE := Lib.hid (rfl : wA.heap.size = wA.heap.size)
            have hzE := hb.size
            have HXE := Lib.hid hX
            clear hX
            have Bc := bel_trans (a := W) Bc hb
            have b_W6 := bel_trans (a := W6) b_W6 hb
            have b_wA := bel_trans (a := wA) b_wA hb
            have Z9 := CBox.b Z9 hb
            have b_wE := Below.refl wE.heap.size wE
            refine hKK.out _ _ (by obtain ⟨q0, q1, q2, q3, q4⟩ := CBox.five (CBox.b HSA.out Bc); exact ⟨q0, q1, q2, q3, q4⟩) (fun hHeld => ?_)
            clear hKK KK
            (try simp only [Act.put, List.setIfInBounds_toArray, List.set_cons_zero, List.set_cons_succ])
            refine wpAnyH_ready (rs := [8]) (by kernel_rfl) (by simp) ?_
            refine AllReadyH.cons rfl (fun KK hKK => ?_) ?_
            · obtain ⟨V8, hV8⟩ : ∃ V, wE.alloc (.cells #[.int .i64 0, .string ⟨#[]⟩, .string ⟨#[]⟩, .slice none 0 0, .slice none 0 0] 25) = V := ⟨_, rfl⟩
              obtain ⟨p8, hp8⟩ : ∃ p, wE.heap.size = p := ⟨_, rfl⟩
              have hb8 : Below wE.heap.size wE V8 := by rw [← hV8]; exact bel_alloc (Below.refl _ _) _
              have hz8 : V8.heap.size = p8 + 1 := by rw [← hV8, ← hp8]; simp
              have Z8 : CBox V8 p8 0 ⟨#[]⟩ ⟨#[]⟩ SS.nil none 0 0 := by rw [← hV8, ← hp8]; exact CBox.new wE 0 ⟨#[]⟩ ⟨#[]⟩ SS.nil none 0 0
              go_simp
              have Hp8 := Lib.hid hp8
              have Hz8 := Lib.hid hz8
              clear hV8 hp8 hz8
              have Bc := bel_trans (a := W) Bc hb8
              have b_W6 := bel_trans (a := W6) b_W6 hb8
              have b_wA := bel_trans (a := wA) b_wA hb8
              have b_wE := bel_trans (a := wE) b_wE hb8
              have Z9 := CBox.b Z9 hb8
              refine hKK.out _ _ (by obtain ⟨q0, q1, q2, q3, q4⟩ := CBox.five (CBox.b HSA.out Bc); exact ⟨q0, q1, q2, q3, q4⟩) (fun hHeld => ?_)
              clear hKK KK
              (try simp only [Act.put, List.setIfInBounds_toArray, List.set_cons_zero, List.set_cons_succ])
              refine wpAnyH_ready (rs := [10]) (by kernel_rfl) (by simp) ?_
              refine AllReadyH.cons rfl (fun KK hKK => ?_) ?_
              · obtain ⟨z0, z1, z2, z3, z4⟩ := Z8.five
                obtain ⟨y0, y1, y2, y3, y4⟩ := Z8.free
                dsimp only [SS.nil] at z3
                have B8 := CBox.put Z8 11 name s0 ⟨P0, P1, P2⟩ PA PN PC
                have O8 := fun b (hb : b ≠ p8) => put5_other V8 p8 b (.int .i64 11) (.string name) (.string s0) (.slice P0 P1 P2) (.slice PA PN PC) hb
                have S8 := put5_size V8 p8 (.int .i64 11) (.string name) (.string s0) (.slice P0 P1 P2) (.slice PA PN PC)
                have hpw : W6.heap.size ≤ p8 ∧ W6.heap.size ≤ p9 ∧ p8 ≠ p9 ∧ w.heap.size < W6.heap.size := by have e8 := Hp8.out; have e9 := Hp9.out; have s6 := Bd6.size; have t0 := Hz8.out; have t1 := Hz9.out; have t2 := hzA; have t3 := hzE; have t4 := b_W6.size; omega
                have L8 := put5_below Bc (show W.heap.size ≤ p8 by have := hz6; omega) (.int .i64 11) (.string name) (.string s0) (.slice P0 P1 P2) (.slice PA PN PC)
                have L68 := put5_below b_W6 hpw.1 (.int .i64 11) (.string name) (.string s0) (.slice P0 P1 P2) (.slice PA PN PC)
                obtain ⟨U8, hU8⟩ : ∃ U, put5 V8 p8 (.int .i64 11) (.string name) (.string s0) (.slice P0 P1 P2) (.slice PA PN PC) = U := ⟨_, rfl⟩
                dsimp only at B8
                rw [hU8] at B8 O8 S8 L8 L68
                unfold put5 at hU8
                go_simp
                clear hU8
                refine hKK.out _ _ (by obtain ⟨q0, q1, q2, q3, q4⟩ := CBox.five (((O8 w.heap.size (by omega)).trans (CBox.b HSA.out Bc) : CBox U8 w.heap.size oA mA pA ⟨kAa, kAn, kAc⟩ aA nA cA)); exact ⟨q0, q1, q2, q3, q4⟩) (fun hHeld => ?_)
                clear hKK KK
                (try simp only [Act.put, List.setIfInBounds_toArray, List.set_cons_zero, List.set_cons_succ])
                have Z9 : CBox U8 p9 0 ⟨#[]⟩ ⟨#[]⟩ SS.nil none 0 0 := (O8 p9 (fun h => hpw.2.2.1 h.symm)).trans Z9
                refine wpAnyH_ready (rs := [11]) (by kernel_rfl) (by simp) ?_
                refine AllReadyH.cons rfl (fun KK hKK => ?_) ?_
                · obtain ⟨z0, z1, z2, z3, z4⟩ := Z9.five
                  obtain ⟨y0, y1, y2, y3, y4⟩ := Z9.free
                  dsimp only [SS.nil] at z3
                  have B9 := CBox.put Z9 12 name s0 ⟨E0, E1, E2⟩ EA EN EC
                  have O9 := fun b (hb : b ≠ p9) => put5_other U8 p9 b (.int .i64 12) (.string name) (.string s0) (.slice E0 E1 E2) (.slice EA EN EC) hb
                  have S9 := put5_size U8 p9 (.int .i64 12) (.string name) (.string s0) (.slice E0 E1 E2) (.slice EA EN EC)
                  have L9 := put5_below L8 (show W.heap.size ≤ p9 by have := hz6; omega) (.int .i64 12) (.string name) (.string s0) (.slice E0 E1 E2) (.slice EA EN EC)
                  have L69 := put5_below L68 hpw.2.1 (.int .i64 12) (.string name) (.string s0) (.slice E0 E1 E2) (.slice EA EN EC)
                  obtain ⟨WF, hWF⟩ : ∃ U, put5 U8 p9 (.int .i64 12) (.string name) (.string s0) (.slice E0 E1 E2) (.slice EA EN EC) = U := ⟨_, rfl⟩
                  dsimp only at B9
                  rw [hWF] at B9 O9 S9 L9 L69
                  unfold put5 at hWF
                  go_simp
                  clear hWF
                  refine hKK.out _ _ (by obtain ⟨q0, q1, q2, q3, q4⟩ := CBox.five (((O9 w.heap.size (by omega)).trans ((O8 w.heap.size (by omega)).trans (CBox.b HSA.out Bc)) : CBox WF w.heap.size oA mA pA ⟨kAa, kAn, kAc⟩ aA nA cA)); exact ⟨q0, q1, q2, q3, q4⟩) (fun hHeld => ?_)
                  clear hKK KK
                  (try simp only [Act.put, List.setIfInBounds_toArray, List.set_cons_zero, List.set_cons_succ])
                  refine wpAnyH_done (by kernel_rfl) ?_ _
                  refine NoPanic.normal ?_
                  have s6 := Bd6.size
                  have eA := hzA
                  have eE := hzE
                  have e8 := Hp8.out
                  have t0 := Hz8.out
                  have t1 := Hz9.out
                  have e9 := Hp9.out
                  have sA2 := b_wA.size
                  have sE2 := b_wE.size
                  have FC : CBox WF w.heap.size oA mA pA ⟨kAa, kAn, kAc⟩ aA nA cA := (O9 _ (by omega)).trans ((O8 _ (by omega)).trans (CBox.b HSA.out Bc))
                  have FS := CBox.b HB7.out L69
                  have FX := Lib.hid (ArWC.b HX6.out L69)
                  have F8 : CBox WF p8 11 name s0 ⟨P0, P1, P2⟩ PA PN PC := (O9 _ hpw.2.2.1).trans B8
                  have keep := fun (V : World) (hb : Below V.heap.size V V8) (b : Nat) (h1 : b < V.heap.size) (h2 : b ≠ p8) (h3 : b ≠ p9) => (O9 b h3).trans ((O8 b h2).trans (hb.block b h1))
                  have FA := Lib.hid (ArCP.ar (B := WF.heap.size) (fun b hb => hb) _ (ArCP.to (Q := fun b => b < WF.heap.size) (fun b hb => keep wA b_wA b (by unfold Nw at hb; omega) (by unfold Nw at hb; omega) (by unfold Nw at hb; omega)) (fun b hb => by unfold Nw at hb; omega) _ HXA.out) : ArWC WF (.mk 11 name s0 [] [rr]) ⟨P0, P1, P2⟩ PA PN PC)
                  have FE := Lib.hid (ArCP.ar (B := WF.heap.size) (fun b hb => hb) _ (ArCP.to (Q := fun b => b < WF.heap.size) (fun b hb => keep wE b_wE b (by unfold Nw at hb; omega) (by unfold Nw at hb; omega) (by unfold Nw at hb; omega)) (fun b hb => by unfold Nw at hb; omega) _ HXE.out) : ArWC WF (.mk 12 name s0 [] [rr]) ⟨E0, E1, E2⟩ EA EN EC)
                  have FB := Lib.hid L9
                  clear e8 e9 t0 t1 eA eE s6 sA2 sE2
                  clear HXA HXE Z8 Z9 O8 O9 S8 S9 L8 L68 keep
                  obtain ⟨T1, hT1, hb1, -, X1⟩ := cbox1 WF (opC rr) (nmC rr) (soC rr) ⟨K50, K51, K52⟩ A5 N5 C5
                  have R1 := row1C WF rr ⟨K50, K51, K52⟩ A5 N5 C5 11 name s0 FX.out
                  dsimp only [SS.nil] at hT1 R1
                  rw [hT1] at R1
                  obtain ⟨T2, hT2, hb2, -, X2⟩ := cbox1 T1 11 name s0 SS.nil (some ⟨WF.heap.size, 0, none⟩) 1 1
                  dsimp only [SS.nil] at hT2
                  obtain ⟨T3, hT3, hb3, -, X3⟩ := cbox1 T2 (opC rr) (nmC rr) (soC rr) ⟨K50, K51, K52⟩ A5 N5 C5
                  have b02 := bel_trans hb1 hb2
                  have R3 := row1C T2 rr ⟨K50, K51, K52⟩ A5 N5 C5 12 name s0 (ArWC.b FX.out b02)
                  dsimp only [SS.nil] at hT3 R3
                  rw [hT3] at R3
                  obtain ⟨T4, hT4, hb4, -, X4⟩ := cbox1 T3 12 name s0 SS.nil (some ⟨T2.heap.size, 0, none⟩) 1 1
                  dsimp only [SS.nil] at hT4
                  have b34 := bel_trans hb3 hb4
                  have b04 := bel_trans b02 b34
                  obtain ⟨f0, f1, f2, f3, f4⟩ := FS.five
                  obtain ⟨g0, g1, g2, g3, g4⟩ := (CBox.b FS b02).five
                  have FW := Lib.hid (bel_trans (a := W) FB.out b04)
                  have FX4 := Lib.hid (ArWC.b FX.out b04)
                  have FA4 := Lib.hid (ArWC.b FA.out b04)
                  have FE4 := Lib.hid (ArWC.b FE.out b04)
                  have FO4 := Lib.hid (ArWC.b R1 (bel_trans hb2 b34))
                  have FT4 := Lib.hid (ArWC.b R3 hb4)
                  have HQ4 := Lib.hid (show ∀ W', Below T4.heap.size T4 W' → W'.cell? ⟨w.heap.size, 0, none⟩ = some (.int .i64 oA) ∧ W'.cell? ⟨w.heap.size, 1, none⟩ = some (.string mA) ∧ W'.cell? ⟨w.heap.size, 2, none⟩ = some (.string pA) ∧ W'.cell? ⟨w.heap.size, 3, none⟩ = some (.slice kAa kAn kAc) ∧ W'.cell? ⟨w.heap.size, 4, none⟩ = some (.slice aA nA cA) ∧ W'.cell? ⟨w5.heap.size, 0, none⟩ = some (.int .i64 (opC rr)) ∧ W'.cell? ⟨w5.heap.size, 1, none⟩ = some (.string (nmC rr)) ∧ W'.cell? ⟨w5.heap.size, 2, none⟩ = some (.string (soC rr)) ∧ W'.cell? ⟨w5.heap.size, 3, none⟩ = some (.slice K50 K51 K52) ∧ W'.cell? ⟨w5.heap.size, 4, none⟩ = some (.slice A5 N5 C5) ∧ W'.cell? ⟨p8, 0, none⟩ = some (.int .i64 11) ∧ W'.cell? ⟨p8, 1, none⟩ = some (.string name) ∧ W'.cell? ⟨p8, 2, none⟩ = some (.string s0) ∧ W'.cell? ⟨p8, 3, none⟩ = some (.slice P0 P1 P2) ∧ W'.cell? ⟨p8, 4, none⟩ = some (.slice PA PN PC) ∧ W'.cell? ⟨p9, 0, none⟩ = some (.int .i64 12) ∧ W'.cell? ⟨p9, 1, none⟩ = some (.string name) ∧ W'.cell? ⟨p9, 2, none⟩ = some (.string s0) ∧ W'.cell? ⟨p9, 3, none⟩ = some (.slice E0 E1 E2) ∧ W'.cell? ⟨p9, 4, none⟩ = some (.slice EA EN EC) ∧ W'.cell? ⟨T1.heap.size, 0, none⟩ = some (.int .i64 11) ∧ W'.cell? ⟨T1.heap.size, 1, none⟩ = some (.string name) ∧ W'.cell? ⟨T1.heap.size, 2, none⟩ = some (.string s0) ∧ W'.cell? ⟨T1.heap.size, 3, none⟩ = some (.slice none 0 0) ∧ W'.cell? ⟨T1.heap.size, 4, none⟩ = some (.slice (some ⟨WF.heap.size, 0, none⟩) 1 1) ∧ W'.cell? ⟨T3.heap.size, 0, none⟩ = some (.int .i64 12) ∧ W'.cell? ⟨T3.heap.size, 1, none⟩ = some (.string name) ∧ W'.cell? ⟨T3.heap.size, 2, none⟩ = some (.string s0) ∧ W'.cell? ⟨T3.heap.size, 3, none⟩ = some (.slice none 0 0) ∧ W'.cell? ⟨T3.heap.size, 4, none⟩ = some (.slice (some ⟨T2.heap.size, 0, none⟩) 1 1) from fun W' hb => by
                    obtain ⟨a0, a1, a2, a3, a4⟩ := (CBox.b (CBox.b FC b04) hb).five
                    obtain ⟨b0, b1, b2, b3, b4⟩ := (CBox.b (CBox.b FS b04) hb).five
                    obtain ⟨c0, c1, c2, c3, c4⟩ := (CBox.b (CBox.b F8 b04) hb).five
                    obtain ⟨d0, d1, d2, d3, d4⟩ := (CBox.b (CBox.b B9 b04) hb).five
                    obtain ⟨e0, e1, e2, e3, e4⟩ := (CBox.b (CBox.b X2 b34) hb).five
                    obtain ⟨h0, h1, h2, h3, h4⟩ := (CBox.b X4 hb).five
                    exact ⟨a0, a1, a2, a3, a4, b0, b1, b2, b3, b4, c0, c1, c2, c3, c4, d0, d1, d2, d3, d4, e0, e1, e2, e3, e4, h0, h1, h2, h3, h4⟩)
                  clear FC FS F8 B9 X1 X2 X3 X4 R1 R3 hb1 hb2 hb3 hb4 b02 b34 b04
                  go_wp2_with fail
                  go_region_held3 (fun w' => w'.cell? ⟨w.heap.size, 0, none⟩ = some (.int .i64 oA) ∧ w'.cell? ⟨w.heap.size, 1, none⟩ = some (.string mA) ∧ w'.cell? ⟨w.heap.size, 2, none⟩ = some (.string pA) ∧ w'.cell? ⟨w.heap.size, 3, none⟩ = some (.slice kAa kAn kAc) ∧ w'.cell? ⟨w.heap.size, 4, none⟩ = some (.slice aA nA cA) ∧ w'.cell? ⟨w5.heap.size, 0, none⟩ = some (.int .i64 (opC rr)) ∧ w'.cell? ⟨w5.heap.size, 1, none⟩ = some (.string (nmC rr)) ∧ w'.cell? ⟨w5.heap.size, 2, none⟩ = some (.string (soC rr)) ∧ w'.cell? ⟨w5.heap.size, 3, none⟩ = some (.slice K50 K51 K52) ∧ w'.cell? ⟨w5.heap.size, 4, none⟩ = some (.slice A5 N5 C5) ∧ w'.cell? ⟨p8, 0, none⟩ = some (.int .i64 11) ∧ w'.cell? ⟨p8, 1, none⟩ = some (.string name) ∧ w'.cell? ⟨p8, 2, none⟩ = some (.string s0) ∧ w'.cell? ⟨p8, 3, none⟩ = some (.slice P0 P1 P2) ∧ w'.cell? ⟨p8, 4, none⟩ = some (.slice PA PN PC) ∧ w'.cell? ⟨p9, 0, none⟩ = some (.int .i64 12) ∧ w'.cell? ⟨p9, 1, none⟩ = some (.string name) ∧ w'.cell? ⟨p9, 2, none⟩ = some (.string s0) ∧ w'.cell? ⟨p9, 3, none⟩ = some (.slice E0 E1 E2) ∧ w'.cell? ⟨p9, 4, none⟩ = some (.slice EA EN EC) ∧ w'.cell? ⟨T1.heap.size, 0, none⟩ = some (.int .i64 11) ∧ w'.cell? ⟨T1.heap.size, 1, none⟩ = some (.string name) ∧ w'.cell? ⟨T1.heap.size, 2, none⟩ = some (.string s0) ∧ w'.cell? ⟨T1.heap.size, 3, none⟩ = some (.slice none 0 0) ∧ w'.cell? ⟨T1.heap.size, 4, none⟩ = some (.slice (some ⟨WF.heap.size, 0, none⟩) 1 1) ∧ w'.cell? ⟨T3.heap.size, 0, none⟩ = some (.int .i64 12) ∧ w'.cell? ⟨T3.heap.size, 1, none⟩ = some (.string name) ∧ w'.cell? ⟨T3.heap.size, 2, none⟩ = some (.string s0) ∧ w'.cell? ⟨T3.heap.size, 3, none⟩ = some (.slice none 0 0) ∧ w'.cell? ⟨T3.heap.size, 4, none⟩ = some (.slice (some ⟨T2.heap.size, 0, none⟩) 1 1)) (first | (exact HQ4.out _ (by first | assumption | exact Below.drew (by assumption) | exact Below.refl _ _ | exact (Below.refl _ _).drew)) | go_keep)
                    (first
                      | (go_at_call 29; ((with_reducible refine (c1 _ (bel_trans (a := W) FW.out (by first | assumption | exact Below.drew (by assumption) | exact Below.refl _ _ | exact (Below.refl _ _).drew))).mono ?_); rintro e wX ⟨G0, G1, G2, GA, GN, GC, rfl, hX, hbX⟩; have Bt : Below T4.heap.size T4 wX := bel_trans (by first | assumption | exact Below.drew (by assumption) | exact Below.refl _ _ | exact (Below.refl _ _).drew) hbX; have HG := Lib.hid hX; clear hX))
                      | (go_at_call 18; ((with_reducible refine (cE rr _ _ _ _ _ _ _ _ _ _ _ _ _ (by first | exact HG.out | exact ArWC.b HG.out (Below.refl _ _).drew) (ArWC.b FX4.out (by first | assumption | exact Below.drew (by assumption) | exact Below.refl _ _ | exact (Below.refl _ _).drew))).mono ?_); rintro e wX ⟨rfl, hbX⟩; have Bt : Below T4.heap.size T4 wX := bel_trans (by first | assumption | exact Below.drew (by assumption) | exact Below.refl _ _ | exact (Below.refl _ _).drew) hbX))
                      | (go_at_call 18; ((with_reducible refine (cE11 _ _ _ _ _ _ _ _ _ _ _ _ _ (ArWC.b FA4.out (by first | assumption | exact Below.drew (by assumption) | exact Below.refl _ _ | exact (Below.refl _ _).drew)) (ArWC.b FO4.out (by first | assumption | exact Below.drew (by assumption) | exact Below.refl _ _ | exact (Below.refl _ _).drew))).mono ?_); rintro e wX ⟨rfl, hbX⟩; have Bt : Below T4.heap.size T4 wX := bel_trans (by first | assumption | exact Below.drew (by assumption) | exact Below.refl _ _ | exact (Below.refl _ _).drew) hbX))
                      | (go_at_call 18; ((with_reducible refine (cE12 _ _ _ _ _ _ _ _ _ _ _ _ _ (ArWC.b FE4.out (by first | assumption | exact Below.drew (by assumption) | exact Below.refl _ _ | exact (Below.refl _ _).drew)) (ArWC.b FT4.out (by first | assumption | exact Below.drew (by assumption) | exact Below.refl _ _ | exact (Below.refl _ _).drew))).mono ?_); rintro e wX ⟨rfl, hbX⟩; have Bt : Below T4.heap.size T4 wX := bel_trans (by first | assumption | exact Below.drew (by assumption) | exact Below.refl _ _ | exact (Below.refl _ _).drew) hbX)))
                  all_goals go_wp2
                  all_goals go_ret
                  all_goals exact ⟨rfl, bel_trans hB0 (bel_trans (a := W) FW.out Bt)⟩
                exact AllReadyH.nil
              exact AllReadyH.nil
            exact AllReadyH.nil
          refine AllReadyH.cons rfl (fun KK hKK => ?_) ?_
          · obtain ⟨V8, hV8⟩ : ∃ V, wA.alloc (.cells #[.int .i64 0, .string ⟨#[]⟩, .string ⟨#[]⟩, .slice none 0 0, .slice none 0 0] 25) = V := ⟨_, rfl⟩
            obtain ⟨p8, hp8⟩ : ∃ p, wA.heap.size = p := ⟨_, rfl⟩
            have hb8 : Below wA.heap.size wA V8 := by rw [← hV8]; exact bel_alloc (Below.refl _ _) _
            have hz8 : V8.heap.size = p8 + 1 := by rw [← hV8, ← hp8]; simp
            have Z8 : CBox V8 p8 0 ⟨#[]⟩ ⟨#[]⟩ SS.nil none 0 0 := by rw [← hV8, ← hp8]; exact CBox.new wA 0 ⟨#[]⟩ ⟨#[]⟩ SS.nil none 0 0
            go_simp
            have Hp8 := Lib.hid hp8
            have Hz8 := Lib.hid hz8
            clear hV8 hp8 hz8
            have Bc := bel_trans (a := W) Bc hb8
            have b_W6 := bel_trans (a := W6) b_W6 hb8
            have b_wA := bel_trans (a := wA) b_wA hb8
            have Z9 := CBox.b Z9 hb8
            refine hKK.out _ _ (by obtain ⟨q0, q1, q2, q3, q4⟩ := CBox.five (CBox.b HSA.out Bc); exact ⟨q0, q1, q2, q3, q4⟩) (fun hHeld => ?_)
            clear hKK KK
            (try simp only [Act.put, List.setIfInBounds_toArray, List.set_cons_zero, List.set_cons_succ])
            refine wpAnyH_ready (rs := [7]) (by kernel_rfl) (by simp) ?_
            refine AllReadyH.cons rfl (fun KK hKK => ?_) ?_
            · go_simp
              (go_at_call 28; ((with_reducible refine (c4 _ Bc).mono ?_); rintro e wE ⟨E0, E1, E2, EA, EN, EC, rfl, hX, hb⟩))
              have stE := Lib.hid (rfl : V8.heap.size = V8.heap.size)
              have hzE := hb.size
              have HXE := Lib.hid hX
              clear hX
              have Bc := bel_trans (a := W) Bc hb
              have b_W6 := bel_trans (a := W6) b_W6 hb
              have b_wA := bel_trans (a := wA) b_wA hb
              have Z9 := CBox.b Z9 hb
              have Z8 := CBox.b Z8 hb
              have b_wE := Below.refl wE.heap.size wE
              refine hKK.out _ _ (by obtain ⟨q0, q1, q2, q3, q4⟩ := CBox.five (CBox.b HSA.out Bc); exact ⟨q0, q1, q2, q3, q4⟩) (fun hHeld => ?_)
              clear hKK KK
              (try simp only [Act.put, List.setIfInBounds_toArray, List.set_cons_zero, List.set_cons_succ])
              refine wpAnyH_ready (rs := [10]) (by kernel_rfl) (by simp) ?_
              refine AllReadyH.cons rfl (fun KK hKK => ?_) ?_
              · obtain ⟨z0, z1, z2, z3, z4⟩ := Z8.five
                obtain ⟨y0, y1, y2, y3, y4⟩ := Z8.free
                dsimp only [SS.nil] at z3
                have B8 := CBox.put Z8 11 name s0 ⟨P0, P1, P2⟩ PA PN PC
                have O8 := fun b (hb : b ≠ p8) => put5_other wE p8 b (.int .i64 11) (.string name) (.string s0) (.slice P0 P1 P2) (.slice PA PN PC) hb
                have S8 := put5_size wE p8 (.int .i64 11) (.string name) (.string s0) (.slice P0 P1 P2) (.slice PA PN PC)
                have hpw : W6.heap.size ≤ p8 ∧ W6.heap.size ≤ p9 ∧ p8 ≠ p9 ∧ w.heap.size < W6.heap.size := by have e8 := Hp8.out; have e9 := Hp9.out; have s6 := Bd6.size; have t0 := Hz8.out; have t1 := Hz9.out; have t2 := hzA; have t3 := hzE; have t4 := b_W6.size; omega
                have L8 := put5_below Bc (show W.heap.size ≤ p8 by have := hz6; omega) (.int .i64 11) (.string name) (.string s0) (.slice P0 P1 P2) (.slice PA PN PC)
                have L68 := put5_below b_W6 hpw.1 (.int .i64 11) (.string name) (.string s0) (.slice P0 P1 P2) (.slice PA PN PC)
                obtain ⟨U8, hU8⟩ : ∃ U, put5 wE p8 (.int .i64 11) (.string name) (.string s0) (.slice P0 P1 P2) (.slice PA PN PC) = U := ⟨_, rfl⟩
                dsimp only at B8
                rw [hU8] at B8 O8 S8 L8 L68
                unfold put5 at hU8
                go_simp
                clear hU8
                refine hKK.out _ _ (by obtain ⟨q0, q1, q2, q3, q4⟩ := CBox.five (((O8 w.heap.size (by omega)).trans (CBox.b HSA.out Bc) : CBox U8 w.heap.size oA mA pA ⟨kAa, kAn, kAc⟩ aA nA cA)); exact ⟨q0, q1, q2, q3, q4⟩) (fun hHeld => ?_)
                clear hKK KK
                (try simp only [Act.put, List.setIfInBounds_toArray, List.set_cons_zero, List.set_cons_succ])
                have Z9 : CBox U8 p9 0 ⟨#[]⟩ ⟨#[]⟩ SS.nil none 0 0 := (O8 p9 (fun h => hpw.2.2.1 h.symm)).trans Z9
                refine wpAnyH_ready (rs := [11]) (by kernel_rfl) (by simp) ?_
                refine AllReadyH.cons rfl (fun KK hKK => ?_) ?_
                · obtain ⟨z0, z1, z2, z3, z4⟩ := Z9.five
                  obtain ⟨y0, y1, y2, y3, y4⟩ := Z9.free
                  dsimp only [SS.nil] at z3
                  have B9 := CBox.put Z9 12 name s0 ⟨E0, E1, E2⟩ EA EN EC
                  have O9 := fun b (hb : b ≠ p9) => put5_other U8 p9 b (.int .i64 12) (.string name) (.string s0) (.slice E0 E1 E2) (.slice EA EN EC) hb
                  have S9 := put5_size U8 p9 (.int .i64 12) (.string name) (.string s0) (.slice E0 E1 E2) (.slice EA EN EC)
                  have L9 := put5_below L8 (show W.heap.size ≤ p9 by have := hz6; omega) (.int .i64 12) (.string name) (.string s0) (.slice E0 E1 E2) (.slice EA EN EC)
                  have L69 := put5_below L68 hpw.2.1 (.int .i64 12) (.string name) (.string s0) (.slice E0 E1 E2) (.slice EA EN EC)
                  obtain ⟨WF, hWF⟩ : ∃ U, put5 U8 p9 (.int .i64 12) (.string name) (.string s0) (.slice E0 E1 E2) (.slice EA EN EC) = U := ⟨_, rfl⟩
                  dsimp only at B9
                  rw [hWF] at B9 O9 S9 L9 L69
                  unfold put5 at hWF
                  go_simp
                  clear hWF
                  refine hKK.out _ _ (by obtain ⟨q0, q1, q2, q3, q4⟩ := CBox.five (((O9 w.heap.size (by omega)).trans ((O8 w.heap.size (by omega)).trans (CBox.b HSA.out Bc)) : CBox WF w.heap.size oA mA pA ⟨kAa, kAn, kAc⟩ aA nA cA)); exact ⟨q0, q1, q2, q3, q4⟩) (fun hHeld => ?_)
                  clear hKK KK
                  (try simp only [Act.put, List.setIfInBounds_toArray, List.set_cons_zero, List.set_cons_succ])
                  refine wpAnyH_done (by kernel_rfl) ?_ _
                  refine NoPanic.normal ?_
                  have s6 := Bd6.size
                  have eA := hzA
                  have eE := hzE
                  have e8 := Hp8.out
                  have t0 := Hz8.out
                  have t1 := Hz9.out
                  have e9 := Hp9.out
                  have sA2 := b_wA.size
                  have sE2 := b_wE.size
                  have FC : CBox WF w.heap.size oA mA pA ⟨kAa, kAn, kAc⟩ aA nA cA := (O9 _ (by omega)).trans ((O8 _ (by omega)).trans (CBox.b HSA.out Bc))
                  have FS := CBox.b HB7.out L69
                  have FX := Lib.hid (ArWC.b HX6.out L69)
                  have F8 : CBox WF p8 11 name s0 ⟨P0, P1, P2⟩ PA PN PC := (O9 _ hpw.2.2.1).trans B8
                  have keep := fun (V : World) (hb : Below V.heap.size V wE) (b : Nat) (h1 : b < V.heap.size) (h2 : b ≠ p8) (h3 : b ≠ p9) => (O9 b h3).trans ((O8 b h2).trans (hb.block b h1))
                  have FA := Lib.hid (ArCP.ar (B := WF.heap.size) (fun b hb => hb) _ (ArCP.to (Q := fun b => b < WF.heap.size) (fun b hb => keep wA b_wA b (by unfold Nw at hb; omega) (by unfold Nw at hb; omega) (by unfold Nw at hb; omega)) (fun b hb => by unfold Nw at hb; omega) _ HXA.out) : ArWC WF (.mk 11 name s0 [] [rr]) ⟨P0, P1, P2⟩ PA PN PC)
                  have FE := Lib.hid (ArCP.ar (B := WF.heap.size) (fun b hb => hb) _ (ArCP.to (Q := fun b => b < WF.heap.size) (fun b hb => keep wE b_wE b (by unfold Nw at hb; omega) (by unfold Nw at hb; omega) (by unfold Nw at hb; omega)) (fun b hb => by unfold Nw at hb; omega) _ HXE.out) : ArWC WF (.mk 12 name s0 [] [rr]) ⟨E0, E1, E2⟩ EA EN EC)
                  have FB := Lib.hid L9
                  clear e8 e9 t0 t1 eA eE s6 sA2 sE2
                  clear HXA HXE Z8 Z9 O8 O9 S8 S9 L8 L68 keep
                  obtain ⟨T1, hT1, hb1, -, X1⟩ := cbox1 WF (opC rr) (nmC rr) (soC rr) ⟨K50, K51, K52⟩ A5 N5 C5
                  have R1 := row1C WF rr ⟨K50, K51, K52⟩ A5 N5 C5 11 name s0 FX.out
                  dsimp only [SS.nil] at hT1 R1
                  rw [hT1] at R1
                  obtain ⟨T2, hT2, hb2, -, X2⟩ := cbox1 T1 11 name s0 SS.nil (some ⟨WF.heap.size, 0, none⟩) 1 1
                  dsimp only [SS.nil] at hT2
                  obtain ⟨T3, hT3, hb3, -, X3⟩ := cbox1 T2 (opC rr) (nmC rr) (soC rr) ⟨K50, K51, K52⟩ A5 N5 C5
                  have b02 := bel_trans hb1 hb2
                  have R3 := row1C T2 rr ⟨K50, K51, K52⟩ A5 N5 C5 12 name s0 (ArWC.b FX.out b02)
                  dsimp only [SS.nil] at hT3 R3
                  rw [hT3] at R3
                  obtain ⟨T4, hT4, hb4, -, X4⟩ := cbox1 T3 12 name s0 SS.nil (some ⟨T2.heap.size, 0, none⟩) 1 1
                  dsimp only [SS.nil] at hT4
                  have b34 := bel_trans hb3 hb4
                  have b04 := bel_trans b02 b34
                  obtain ⟨f0, f1, f2, f3, f4⟩ := FS.five
                  obtain ⟨g0, g1, g2, g3, g4⟩ := (CBox.b FS b02).five
                  have FW := Lib.hid (bel_trans (a := W) FB.out b04)
                  have FX4 := Lib.hid (ArWC.b FX.out b04)
                  have FA4 := Lib.hid (ArWC.b FA.out b04)
                  have FE4 := Lib.hid (ArWC.b FE.out b04)
                  have FO4 := Lib.hid (ArWC.b R1 (bel_trans hb2 b34))
                  have FT4 := Lib.hid (ArWC.b R3 hb4)
                  have HQ4 := Lib.hid (show ∀ W', Below T4.heap.size T4 W' → W'.cell? ⟨w.heap.size, 0, none⟩ = some (.int .i64 oA) ∧ W'.cell? ⟨w.heap.size, 1, none⟩ = some (.string mA) ∧ W'.cell? ⟨w.heap.size, 2, none⟩ = some (.string pA) ∧ W'.cell? ⟨w.heap.size, 3, none⟩ = some (.slice kAa kAn kAc) ∧ W'.cell? ⟨w.heap.size, 4, none⟩ = some (.slice aA nA cA) ∧ W'.cell? ⟨w5.heap.size, 0, none⟩ = some (.int .i64 (opC rr)) ∧ W'.cell? ⟨w5.heap.size, 1, none⟩ = some (.string (nmC rr)) ∧ W'.cell? ⟨w5.heap.size, 2, none⟩ = some (.string (soC rr)) ∧ W'.cell? ⟨w5.heap.size, 3, none⟩ = some (.slice K50 K51 K52) ∧ W'.cell? ⟨w5.heap.size, 4, none⟩ = some (.slice A5 N5 C5) ∧ W'.cell? ⟨p8, 0, none⟩ = some (.int .i64 11) ∧ W'.cell? ⟨p8, 1, none⟩ = some (.string name) ∧ W'.cell? ⟨p8, 2, none⟩ = some (.string s0) ∧ W'.cell? ⟨p8, 3, none⟩ = some (.slice P0 P1 P2) ∧ W'.cell? ⟨p8, 4, none⟩ = some (.slice PA PN PC) ∧ W'.cell? ⟨p9, 0, none⟩ = some (.int .i64 12) ∧ W'.cell? ⟨p9, 1, none⟩ = some (.string name) ∧ W'.cell? ⟨p9, 2, none⟩ = some (.string s0) ∧ W'.cell? ⟨p9, 3, none⟩ = some (.slice E0 E1 E2) ∧ W'.cell? ⟨p9, 4, none⟩ = some (.slice EA EN EC) ∧ W'.cell? ⟨T1.heap.size, 0, none⟩ = some (.int .i64 11) ∧ W'.cell? ⟨T1.heap.size, 1, none⟩ = some (.string name) ∧ W'.cell? ⟨T1.heap.size, 2, none⟩ = some (.string s0) ∧ W'.cell? ⟨T1.heap.size, 3, none⟩ = some (.slice none 0 0) ∧ W'.cell? ⟨T1.heap.size, 4, none⟩ = some (.slice (some ⟨WF.heap.size, 0, none⟩) 1 1) ∧ W'.cell? ⟨T3.heap.size, 0, none⟩ = some (.int .i64 12) ∧ W'.cell? ⟨T3.heap.size, 1, none⟩ = some (.string name) ∧ W'.cell? ⟨T3.heap.size, 2, none⟩ = some (.string s0) ∧ W'.cell? ⟨T3.heap.size, 3, none⟩ = some (.slice none 0 0) ∧ W'.cell? ⟨T3.heap.size, 4, none⟩ = some (.slice (some ⟨T2.heap.size, 0, none⟩) 1 1) from fun W' hb => by
                    obtain ⟨a0, a1, a2, a3, a4⟩ := (CBox.b (CBox.b FC b04) hb).five
                    obtain ⟨b0, b1, b2, b3, b4⟩ := (CBox.b (CBox.b FS b04) hb).five
                    obtain ⟨c0, c1, c2, c3, c4⟩ := (CBox.b (CBox.b F8 b04) hb).five
                    obtain ⟨d0, d1, d2, d3, d4⟩ := (CBox.b (CBox.b B9 b04) hb).five
                    obtain ⟨e0, e1, e2, e3, e4⟩ := (CBox.b (CBox.b X2 b34) hb).five
                    obtain ⟨h0, h1, h2, h3, h4⟩ := (CBox.b X4 hb).five
                    exact ⟨a0, a1, a2, a3, a4, b0, b1, b2, b3, b4, c0, c1, c2, c3, c4, d0, d1, d2, d3, d4, e0, e1, e2, e3, e4, h0, h1, h2, h3, h4⟩)
                  clear FC FS F8 B9 X1 X2 X3 X4 R1 R3 hb1 hb2 hb3 hb4 b02 b34 b04
                  go_wp2_with fail
                  go_region_held3 (fun w' => w'.cell? ⟨w.heap.size, 0, none⟩ = some (.int .i64 oA) ∧ w'.cell? ⟨w.heap.size, 1, none⟩ = some (.string mA) ∧ w'.cell? ⟨w.heap.size, 2, none⟩ = some (.string pA) ∧ w'.cell? ⟨w.heap.size, 3, none⟩ = some (.slice kAa kAn kAc) ∧ w'.cell? ⟨w.heap.size, 4, none⟩ = some (.slice aA nA cA) ∧ w'.cell? ⟨w5.heap.size, 0, none⟩ = some (.int .i64 (opC rr)) ∧ w'.cell? ⟨w5.heap.size, 1, none⟩ = some (.string (nmC rr)) ∧ w'.cell? ⟨w5.heap.size, 2, none⟩ = some (.string (soC rr)) ∧ w'.cell? ⟨w5.heap.size, 3, none⟩ = some (.slice K50 K51 K52) ∧ w'.cell? ⟨w5.heap.size, 4, none⟩ = some (.slice A5 N5 C5) ∧ w'.cell? ⟨p8, 0, none⟩ = some (.int .i64 11) ∧ w'.cell? ⟨p8, 1, none⟩ = some (.string name) ∧ w'.cell? ⟨p8, 2, none⟩ = some (.string s0) ∧ w'.cell? ⟨p8, 3, none⟩ = some (.slice P0 P1 P2) ∧ w'.cell? ⟨p8, 4, none⟩ = some (.slice PA PN PC) ∧ w'.cell? ⟨p9, 0, none⟩ = some (.int .i64 12) ∧ w'.cell? ⟨p9, 1, none⟩ = some (.string name) ∧ w'.cell? ⟨p9, 2, none⟩ = some (.string s0) ∧ w'.cell? ⟨p9, 3, none⟩ = some (.slice E0 E1 E2) ∧ w'.cell? ⟨p9, 4, none⟩ = some (.slice EA EN EC) ∧ w'.cell? ⟨T1.heap.size, 0, none⟩ = some (.int .i64 11) ∧ w'.cell? ⟨T1.heap.size, 1, none⟩ = some (.string name) ∧ w'.cell? ⟨T1.heap.size, 2, none⟩ = some (.string s0) ∧ w'.cell? ⟨T1.heap.size, 3, none⟩ = some (.slice none 0 0) ∧ w'.cell? ⟨T1.heap.size, 4, none⟩ = some (.slice (some ⟨WF.heap.size, 0, none⟩) 1 1) ∧ w'.cell? ⟨T3.heap.size, 0, none⟩ = some (.int .i64 12) ∧ w'.cell? ⟨T3.heap.size, 1, none⟩ = some (.string name) ∧ w'.cell? ⟨T3.heap.size, 2, none⟩ = some (.string s0) ∧ w'.cell? ⟨T3.heap.size, 3, none⟩ = some (.slice none 0 0) ∧ w'.cell? ⟨T3.heap.size, 4, none⟩ = some (.slice (some ⟨T2.heap.size, 0, none⟩) 1 1)) (first | (exact HQ4.out _ (by first | assumption | exact Below.drew (by assumption) | exact Below.refl _ _ | exact (Below.refl _ _).drew)) | go_keep)
                    (first
                      | (go_at_call 29; ((with_reducible refine (c1 _ (bel_trans (a := W) FW.out (by first | assumption | exact Below.drew (by assumption) | exact Below.refl _ _ | exact (Below.refl _ _).drew))).mono ?_); rintro e wX ⟨G0, G1, G2, GA, GN, GC, rfl, hX, hbX⟩; have Bt : Below T4.heap.size T4 wX := bel_trans (by first | assumption | exact Below.drew (by assumption) | exact Below.refl _ _ | exact (Below.refl _ _).drew) hbX; have HG := Lib.hid hX; clear hX))
                      | (go_at_call 18; ((with_reducible refine (cE rr _ _ _ _ _ _ _ _ _ _ _ _ _ (by first | exact HG.out | exact ArWC.b HG.out (Below.refl _ _).drew) (ArWC.b FX4.out (by first | assumption | exact Below.drew (by assumption) | exact Below.refl _ _ | exact (Below.refl _ _).drew))).mono ?_); rintro e wX ⟨rfl, hbX⟩; have Bt : Below T4.heap.size T4 wX := bel_trans (by first | assumption | exact Below.drew (by assumption) | exact Below.refl _ _ | exact (Below.refl _ _).drew) hbX))
                      | (go_at_call 18; ((with_reducible refine (cE11 _ _ _ _ _ _ _ _ _ _ _ _ _ (ArWC.b FA4.out (by first | assumption | exact Below.drew (by assumption) | exact Below.refl _ _ | exact (Below.refl _ _).drew)) (ArWC.b FO4.out (by first | assumption | exact Below.drew (by assumption) | exact Below.refl _ _ | exact (Below.refl _ _).drew))).mono ?_); rintro e wX ⟨rfl, hbX⟩; have Bt : Below T4.heap.size T4 wX := bel_trans (by first | assumption | exact Below.drew (by assumption) | exact Below.refl _ _ | exact (Below.refl _ _).drew) hbX))
                      | (go_at_call 18; ((with_reducible refine (cE12 _ _ _ _ _ _ _ _ _ _ _ _ _ (ArWC.b FE4.out (by first | assumption | exact Below.drew (by assumption) | exact Below.refl _ _ | exact (Below.refl _ _).drew)) (ArWC.b FT4.out (by first | assumption | exact Below.drew (by assumption) | exact Below.refl _ _ | exact (Below.refl _ _).drew))).mono ?_); rintro e wX ⟨rfl, hbX⟩; have Bt : Below T4.heap.size T4 wX := bel_trans (by first | assumption | exact Below.drew (by assumption) | exact Below.refl _ _ | exact (Below.refl _ _).drew) hbX)))
                  all_goals go_wp2
                  all_goals go_ret
                  all_goals exact ⟨rfl, bel_trans hB0 (bel_trans (a := W) FW.out Bt)⟩
                exact AllReadyH.nil
              exact AllReadyH.nil
            exact AllReadyH.nil
          exact AllReadyH.nil
        refine AllReadyH.cons rfl (fun KK hKK => ?_) ?_
        · obtain ⟨V8, hV8⟩ : ∃ V, V9.alloc (.cells #[.int .i64 0, .string ⟨#[]⟩, .string ⟨#[]⟩, .slice none 0 0, .slice none 0 0] 25) = V := ⟨_, rfl⟩
          obtain ⟨p8, hp8⟩ : ∃ p, V9.heap.size = p := ⟨_, rfl⟩
          have hb8 : Below V9.heap.size V9 V8 := by rw [← hV8]; exact bel_alloc (Below.refl _ _) _
          have hz8 : V8.heap.size = p8 + 1 := by rw [← hV8, ← hp8]; simp
          have Z8 : CBox V8 p8 0 ⟨#[]⟩ ⟨#[]⟩ SS.nil none 0 0 := by rw [← hV8, ← hp8]; exact CBox.new V9 0 ⟨#[]⟩ ⟨#[]⟩ SS.nil none 0 0
          go_simp
          have Hp8 := Lib.hid hp8
          have Hz8 := Lib.hid hz8
          clear hV8 hp8 hz8
          have Bc := bel_trans (a := W) Bc hb8
          have b_W6 := bel_trans (a := W6) b_W6 hb8
          have Z9 := CBox.b Z9 hb8
          refine hKK.out _ _ (by obtain ⟨q0, q1, q2, q3, q4⟩ := CBox.five (CBox.b HSA.out Bc); exact ⟨q0, q1, q2, q3, q4⟩) (fun hHeld => ?_)
          clear hKK KK
          (try simp only [Act.put, List.setIfInBounds_toArray, List.set_cons_zero, List.set_cons_succ])
          refine wpAnyH_ready (rs := [3]) (by kernel_rfl) (by simp) ?_
          refine AllReadyH.cons rfl (fun KK hKK => ?_) ?_
          · go_simp
            (go_at_call 27; ((with_reducible refine (c3 _ Bc).mono ?_); rintro e wA ⟨P0, P1, P2, PA, PN, PC, rfl, hX, hb⟩))
            have stA := Lib.hid (rfl : V8.heap.size = V8.heap.size)
            have hzA := hb.size
            have HXA := Lib.hid hX
            clear hX
            have Bc := bel_trans (a := W) Bc hb
            have b_W6 := bel_trans (a := W6) b_W6 hb
            have Z9 := CBox.b Z9 hb
            have Z8 := CBox.b Z8 hb
            have b_wA := Below.refl wA.heap.size wA
            refine hKK.out _ _ (by obtain ⟨q0, q1, q2, q3, q4⟩ := CBox.five (CBox.b HSA.out Bc); exact ⟨q0, q1, q2, q3, q4⟩) (fun hHeld => ?_)
            clear hKK KK
            (try simp only [Act.put, List.setIfInBounds_toArray, List.set_cons_zero, List.set_cons_succ])
            refine wpAnyH_ready (rs := [7]) (by kernel_rfl) (by simp) ?_
            refine AllReadyH.cons rfl (fun KK hKK => ?_) ?_
            · go_simp
              (go_at_call 28; ((with_reducible refine (c4 _ Bc).mono ?_); rintro e wE ⟨E0, E1, E2, EA, EN, EC, rfl, hX, hb⟩))
              have stE := Lib.hid (rfl : wA.heap.size = wA.heap.size)
              have hzE := hb.size
              have HXE := Lib.hid hX
              clear hX
              have Bc := bel_trans (a := W) Bc hb
              have b_W6 := bel_trans (a := W6) b_W6 hb
              have b_wA := bel_trans (a := wA) b_wA hb
              have Z9 := CBox.b Z9 hb
              have Z8 := CBox.b Z8 hb
              have b_wE := Below.refl wE.heap.size wE
              refine hKK.out _ _ (by obtain ⟨q0, q1, q2, q3, q4⟩ := CBox.five (CBox.b HSA.out Bc); exact ⟨q0, q1, q2, q3, q4⟩) (fun hHeld => ?_)
              clear hKK KK
              (try simp only [Act.put, List.setIfInBounds_toArray, List.set_cons_zero, List.set_cons_succ])
              refine wpAnyH_ready (rs := [10]) (by kernel_rfl) (by simp) ?_
              refine AllReadyH.cons rfl (fun KK hKK => ?_) ?_
              · obtain ⟨z0, z1, z2, z3, z4⟩ := Z8.five
                obtain ⟨y0, y1, y2, y3, y4⟩ := Z8.free
                dsimp only [SS.nil] at z3
                have B8 := CBox.put Z8 11 name s0 ⟨P0, P1, P2⟩ PA PN PC
                have O8 := fun b (hb : b ≠ p8) => put5_other wE p8 b (.int .i64 11) (.string name) (.string s0) (.slice P0 P1 P2) (.slice PA PN PC) hb
                have S8 := put5_size wE p8 (.int .i64 11) (.string name) (.string s0) (.slice P0 P1 P2) (.slice PA PN PC)
                have hpw : W6.heap.size ≤ p8 ∧ W6.heap.size ≤ p9 ∧ p8 ≠ p9 ∧ w.heap.size < W6.heap.size := by have e8 := Hp8.out; have e9 := Hp9.out; have s6 := Bd6.size; have t0 := Hz8.out; have t1 := Hz9.out; have t2 := hzA; have t3 := hzE; have t4 := b_W6.size; omega
                have L8 := put5_below Bc (show W.heap.size ≤ p8 by have := hz6; omega) (.int .i64 11) (.string name) (.string s0) (.slice P0 P1 P2) (.slice PA PN PC)
                have L68 := put5_below b_W6 hpw.1 (.int .i64 11) (.string name) (.string s0) (.slice P0 P1 P2) (.slice PA PN PC)
                obtain ⟨U8, hU8⟩ : ∃ U, put5 wE p8 (.int .i64 11) (.string name) (.string s0) (.slice P0 P1 P2) (.slice PA PN PC) = U := ⟨_, rfl⟩
                dsimp only at B8
                rw [hU8] at B8 O8 S8 L8 L68
                unfold put5 at hU8
                go_simp
                clear hU8
                refine hKK.out _ _ (by obtain ⟨q0, q1, q2, q3, q4⟩ := CBox.five (((O8 w.heap.size (by omega)).trans (CBox.b HSA.out Bc) : CBox U8 w.heap.size oA mA pA ⟨kAa, kAn, kAc⟩ aA nA cA)); exact ⟨q0, q1, q2, q3, q4⟩) (fun hHeld => ?_)
                clear hKK KK
                (try simp only [Act.put, List.setIfInBounds_toArray, List.set_cons_zero, List.set_cons_succ])
                have Z9 : CBox U8 p9 0 ⟨#[]⟩ ⟨#[]⟩ SS.nil none 0 0 := (O8 p9 (fun h => hpw.2.2.1 h.symm)).trans Z9
                refine wpAnyH_ready (rs := [11]) (by kernel_rfl) (by simp) ?_
                refine AllReadyH.cons rfl (fun KK hKK => ?_) ?_
                · obtain ⟨z0, z1, z2, z3, z4⟩ := Z9.five
                  obtain ⟨y0, y1, y2, y3, y4⟩ := Z9.free
                  dsimp only [SS.nil] at z3
                  have B9 := CBox.put Z9 12 name s0 ⟨E0, E1, E2⟩ EA EN EC
                  have O9 := fun b (hb : b ≠ p9) => put5_other U8 p9 b (.int .i64 12) (.string name) (.string s0) (.slice E0 E1 E2) (.slice EA EN EC) hb
                  have S9 := put5_size U8 p9 (.int .i64 12) (.string name) (.string s0) (.slice E0 E1 E2) (.slice EA EN EC)
                  have L9 := put5_below L8 (show W.heap.size ≤ p9 by have := hz6; omega) (.int .i64 12) (.string name) (.string s0) (.slice E0 E1 E2) (.slice EA EN EC)
                  have L69 := put5_below L68 hpw.2.1 (.int .i64 12) (.string name) (.string s0) (.slice E0 E1 E2) (.slice EA EN EC)
                  obtain ⟨WF, hWF⟩ : ∃ U, put5 U8 p9 (.int .i64 12) (.string name) (.string s0) (.slice E0 E1 E2) (.slice EA EN EC) = U := ⟨_, rfl⟩
                  dsimp only at B9
                  rw [hWF] at B9 O9 S9 L9 L69
                  unfold put5 at hWF
                  go_simp
                  clear hWF
                  refine hKK.out _ _ (by obtain ⟨q0, q1, q2, q3, q4⟩ := CBox.five (((O9 w.heap.size (by omega)).trans ((O8 w.heap.size (by omega)).trans (CBox.b HSA.out Bc)) : CBox WF w.heap.size oA mA pA ⟨kAa, kAn, kAc⟩ aA nA cA)); exact ⟨q0, q1, q2, q3, q4⟩) (fun hHeld => ?_)
                  clear hKK KK
                  (try simp only [Act.put, List.setIfInBounds_toArray, List.set_cons_zero, List.set_cons_succ])
                  refine wpAnyH_done (by kernel_rfl) ?_ _
                  refine NoPanic.normal ?_
                  have s6 := Bd6.size
                  have eA := hzA
                  have eE := hzE
                  have e8 := Hp8.out
                  have t0 := Hz8.out
                  have t1 := Hz9.out
                  have e9 := Hp9.out
                  have sA2 := b_wA.size
                  have sE2 := b_wE.size
                  have FC : CBox WF w.heap.size oA mA pA ⟨kAa, kAn, kAc⟩ aA nA cA := (O9 _ (by omega)).trans ((O8 _ (by omega)).trans (CBox.b HSA.out Bc))
                  have FS := CBox.b HB7.out L69
                  have FX := Lib.hid (ArWC.b HX6.out L69)
                  have F8 : CBox WF p8 11 name s0 ⟨P0, P1, P2⟩ PA PN PC := (O9 _ hpw.2.2.1).trans B8
                  have keep := fun (V : World) (hb : Below V.heap.size V wE) (b : Nat) (h1 : b < V.heap.size) (h2 : b ≠ p8) (h3 : b ≠ p9) => (O9 b h3).trans ((O8 b h2).trans (hb.block b h1))
                  have FA := Lib.hid (ArCP.ar (B := WF.heap.size) (fun b hb => hb) _ (ArCP.to (Q := fun b => b < WF.heap.size) (fun b hb => keep wA b_wA b (by unfold Nw at hb; omega) (by unfold Nw at hb; omega) (by unfold Nw at hb; omega)) (fun b hb => by unfold Nw at hb; omega) _ HXA.out) : ArWC WF (.mk 11 name s0 [] [rr]) ⟨P0, P1, P2⟩ PA PN PC)
                  have FE := Lib.hid (ArCP.ar (B := WF.heap.size) (fun b hb => hb) _ (ArCP.to (Q := fun b => b < WF.heap.size) (fun b hb => keep wE b_wE b (by unfold Nw at hb; omega) (by unfold Nw at hb; omega) (by unfold Nw at hb; omega)) (fun b hb => by unfold Nw at hb; omega) _ HXE.out) : ArWC WF (.mk 12 name s0 [] [rr]) ⟨E0, E1, E2⟩ EA EN EC)
                  have FB := Lib.hid L9
                  clear e8 e9 t0 t1 eA eE s6 sA2 sE2
                  clear HXA HXE Z8 Z9 O8 O9 S8 S9 L8 L68 keep
                  obtain ⟨T1, hT1, hb1, -, X1⟩ := cbox1 WF (opC rr) (nmC rr) (soC rr) ⟨K50, K51, K52⟩ A5 N5 C5
                  have R1 := row1C WF rr ⟨K50, K51, K52⟩ A5 N5 C5 11 name s0 FX.out
                  dsimp only [SS.nil] at hT1 R1
                  rw [hT1] at R1
                  obtain ⟨T2, hT2, hb2, -, X2⟩ := cbox1 T1 11 name s0 SS.nil (some ⟨WF.heap.size, 0, none⟩) 1 1
                  dsimp only [SS.nil] at hT2
                  obtain ⟨T3, hT3, hb3, -, X3⟩ := cbox1 T2 (opC rr) (nmC rr) (soC rr) ⟨K50, K51, K52⟩ A5 N5 C5
                  have b02 := bel_trans hb1 hb2
                  have R3 := row1C T2 rr ⟨K50, K51, K52⟩ A5 N5 C5 12 name s0 (ArWC.b FX.out b02)
                  dsimp only [SS.nil] at hT3 R3
                  rw [hT3] at R3
                  obtain ⟨T4, hT4, hb4, -, X4⟩ := cbox1 T3 12 name s0 SS.nil (some ⟨T2.heap.size, 0, none⟩) 1 1
                  dsimp only [SS.nil] at hT4
                  have b34 := bel_trans hb3 hb4
                  have b04 := bel_trans b02 b34
                  obtain ⟨f0, f1, f2, f3, f4⟩ := FS.five
                  obtain ⟨g0, g1, g2, g3, g4⟩ := (CBox.b FS b02).five
                  have FW := Lib.hid (bel_trans (a := W) FB.out b04)
                  have FX4 := Lib.hid (ArWC.b FX.out b04)
                  have FA4 := Lib.hid (ArWC.b FA.out b04)
                  have FE4 := Lib.hid (ArWC.b FE.out b04)
                  have FO4 := Lib.hid (ArWC.b R1 (bel_trans hb2 b34))
                  have FT4 := Lib.hid (ArWC.b R3 hb4)
                  have HQ4 := Lib.hid (show ∀ W', Below T4.heap.size T4 W' → W'.cell? ⟨w.heap.size, 0, none⟩ = some (.int .i64 oA) ∧ W'.cell? ⟨w.heap.size, 1, none⟩ = some (.string mA) ∧ W'.cell? ⟨w.heap.size, 2, none⟩ = some (.string pA) ∧ W'.cell? ⟨w.heap.size, 3, none⟩ = some (.slice kAa kAn kAc) ∧ W'.cell? ⟨w.heap.size, 4, none⟩ = some (.slice aA nA cA) ∧ W'.cell? ⟨w5.heap.size, 0, none⟩ = some (.int .i64 (opC rr)) ∧ W'.cell? ⟨w5.heap.size, 1, none⟩ = some (.string (nmC rr)) ∧ W'.cell? ⟨w5.heap.size, 2, none⟩ = some (.string (soC rr)) ∧ W'.cell? ⟨w5.heap.size, 3, none⟩ = some (.slice K50 K51 K52) ∧ W'.cell? ⟨w5.heap.size, 4, none⟩ = some (.slice A5 N5 C5) ∧ W'.cell? ⟨p8, 0, none⟩ = some (.int .i64 11) ∧ W'.cell? ⟨p8, 1, none⟩ = some (.string name) ∧ W'.cell? ⟨p8, 2, none⟩ = some (.string s0) ∧ W'.cell? ⟨p8, 3, none⟩ = some (.slice P0 P1 P2) ∧ W'.cell? ⟨p8, 4, none⟩ = some (.slice PA PN PC) ∧ W'.cell? ⟨p9, 0, none⟩ = some (.int .i64 12) ∧ W'.cell? ⟨p9, 1, none⟩ = some (.string name) ∧ W'.cell? ⟨p9, 2, none⟩ = some (.string s0) ∧ W'.cell? ⟨p9, 3, none⟩ = some (.slice E0 E1 E2) ∧ W'.cell? ⟨p9, 4, none⟩ = some (.slice EA EN EC) ∧ W'.cell? ⟨T1.heap.size, 0, none⟩ = some (.int .i64 11) ∧ W'.cell? ⟨T1.heap.size, 1, none⟩ = some (.string name) ∧ W'.cell? ⟨T1.heap.size, 2, none⟩ = some (.string s0) ∧ W'.cell? ⟨T1.heap.size, 3, none⟩ = some (.slice none 0 0) ∧ W'.cell? ⟨T1.heap.size, 4, none⟩ = some (.slice (some ⟨WF.heap.size, 0, none⟩) 1 1) ∧ W'.cell? ⟨T3.heap.size, 0, none⟩ = some (.int .i64 12) ∧ W'.cell? ⟨T3.heap.size, 1, none⟩ = some (.string name) ∧ W'.cell? ⟨T3.heap.size, 2, none⟩ = some (.string s0) ∧ W'.cell? ⟨T3.heap.size, 3, none⟩ = some (.slice none 0 0) ∧ W'.cell? ⟨T3.heap.size, 4, none⟩ = some (.slice (some ⟨T2.heap.size, 0, none⟩) 1 1) from fun W' hb => by
                    obtain ⟨a0, a1, a2, a3, a4⟩ := (CBox.b (CBox.b FC b04) hb).five
                    obtain ⟨b0, b1, b2, b3, b4⟩ := (CBox.b (CBox.b FS b04) hb).five
                    obtain ⟨c0, c1, c2, c3, c4⟩ := (CBox.b (CBox.b F8 b04) hb).five
                    obtain ⟨d0, d1, d2, d3, d4⟩ := (CBox.b (CBox.b B9 b04) hb).five
                    obtain ⟨e0, e1, e2, e3, e4⟩ := (CBox.b (CBox.b X2 b34) hb).five
                    obtain ⟨h0, h1, h2, h3, h4⟩ := (CBox.b X4 hb).five
                    exact ⟨a0, a1, a2, a3, a4, b0, b1, b2, b3, b4, c0, c1, c2, c3, c4, d0, d1, d2, d3, d4, e0, e1, e2, e3, e4, h0, h1, h2, h3, h4⟩)
                  clear FC FS F8 B9 X1 X2 X3 X4 R1 R3 hb1 hb2 hb3 hb4 b02 b34 b04
                  go_wp2_with fail
                  go_region_held3 (fun w' => w'.cell? ⟨w.heap.size, 0, none⟩ = some (.int .i64 oA) ∧ w'.cell? ⟨w.heap.size, 1, none⟩ = some (.string mA) ∧ w'.cell? ⟨w.heap.size, 2, none⟩ = some (.string pA) ∧ w'.cell? ⟨w.heap.size, 3, none⟩ = some (.slice kAa kAn kAc) ∧ w'.cell? ⟨w.heap.size, 4, none⟩ = some (.slice aA nA cA) ∧ w'.cell? ⟨w5.heap.size, 0, none⟩ = some (.int .i64 (opC rr)) ∧ w'.cell? ⟨w5.heap.size, 1, none⟩ = some (.string (nmC rr)) ∧ w'.cell? ⟨w5.heap.size, 2, none⟩ = some (.string (soC rr)) ∧ w'.cell? ⟨w5.heap.size, 3, none⟩ = some (.slice K50 K51 K52) ∧ w'.cell? ⟨w5.heap.size, 4, none⟩ = some (.slice A5 N5 C5) ∧ w'.cell? ⟨p8, 0, none⟩ = some (.int .i64 11) ∧ w'.cell? ⟨p8, 1, none⟩ = some (.string name) ∧ w'.cell? ⟨p8, 2, none⟩ = some (.string s0) ∧ w'.cell? ⟨p8, 3, none⟩ = some (.slice P0 P1 P2) ∧ w'.cell? ⟨p8, 4, none⟩ = some (.slice PA PN PC) ∧ w'.cell? ⟨p9, 0, none⟩ = some (.int .i64 12) ∧ w'.cell? ⟨p9, 1, none⟩ = some (.string name) ∧ w'.cell? ⟨p9, 2, none⟩ = some (.string s0) ∧ w'.cell? ⟨p9, 3, none⟩ = some (.slice E0 E1 E2) ∧ w'.cell? ⟨p9, 4, none⟩ = some (.slice EA EN EC) ∧ w'.cell? ⟨T1.heap.size, 0, none⟩ = some (.int .i64 11) ∧ w'.cell? ⟨T1.heap.size, 1, none⟩ = some (.string name) ∧ w'.cell? ⟨T1.heap.size, 2, none⟩ = some (.string s0) ∧ w'.cell? ⟨T1.heap.size, 3, none⟩ = some (.slice none 0 0) ∧ w'.cell? ⟨T1.heap.size, 4, none⟩ = some (.slice (some ⟨WF.heap.size, 0, none⟩) 1 1) ∧ w'.cell? ⟨T3.heap.size, 0, none⟩ = some (.int .i64 12) ∧ w'.cell? ⟨T3.heap.size, 1, none⟩ = some (.string name) ∧ w'.cell? ⟨T3.heap.size, 2, none⟩ = some (.string s0) ∧ w'.cell? ⟨T3.heap.size, 3, none⟩ = some (.slice none 0 0) ∧ w'.cell? ⟨T3.heap.size, 4, none⟩ = some (.slice (some ⟨T2.heap.size, 0, none⟩) 1 1)) (first | (exact HQ4.out _ (by first | assumption | exact Below.drew (by assumption) | exact Below.refl _ _ | exact (Below.refl _ _).drew)) | go_keep)
                    (first
                      | (go_at_call 29; ((with_reducible refine (c1 _ (bel_trans (a := W) FW.out (by first | assumption | exact Below.drew (by assumption) | exact Below.refl _ _ | exact (Below.refl _ _).drew))).mono ?_); rintro e wX ⟨G0, G1, G2, GA, GN, GC, rfl, hX, hbX⟩; have Bt : Below T4.heap.size T4 wX := bel_trans (by first | assumption | exact Below.drew (by assumption) | exact Below.refl _ _ | exact (Below.refl _ _).drew) hbX; have HG := Lib.hid hX; clear hX))
                      | (go_at_call 18; ((with_reducible refine (cE rr _ _ _ _ _ _ _ _ _ _ _ _ _ (by first | exact HG.out | exact ArWC.b HG.out (Below.refl _ _).drew) (ArWC.b FX4.out (by first | assumption | exact Below.drew (by assumption) | exact Below.refl _ _ | exact (Below.refl _ _).drew))).mono ?_); rintro e wX ⟨rfl, hbX⟩; have Bt : Below T4.heap.size T4 wX := bel_trans (by first | assumption | exact Below.drew (by assumption) | exact Below.refl _ _ | exact (Below.refl _ _).drew) hbX))
                      | (go_at_call 18; ((with_reducible refine (cE11 _ _ _ _ _ _ _ _ _ _ _ _ _ (ArWC.b FA4.out (by first | assumption | exact Below.drew (by assumption) | exact Below.refl _ _ | exact (Below.refl _ _).drew)) (ArWC.b FO4.out (by first | assumption | exact Below.drew (by assumption) | exact Below.refl _ _ | exact (Below.refl _ _).drew))).mono ?_); rintro e wX ⟨rfl, hbX⟩; have Bt : Below T4.heap.size T4 wX := bel_trans (by first | assumption | exact Below.drew (by assumption) | exact Below.refl _ _ | exact (Below.refl _ _).drew) hbX))
                      | (go_at_call 18; ((with_reducible refine (cE12 _ _ _ _ _ _ _ _ _ _ _ _ _ (ArWC.b FE4.out (by first | assumption | exact Below.drew (by assumption) | exact Below.refl _ _ | exact (Below.refl _ _).drew)) (ArWC.b FT4.out (by first | assumption | exact Below.drew (by assumption) | exact Below.refl _ _ | exact (Below.refl _ _).drew))).mono ?_); rintro e wX ⟨rfl, hbX⟩; have Bt : Below T4.heap.size T4 wX := bel_trans (by first | assumption | exact Below.drew (by assumption) | exact Below.refl _ _ | exact (Below.refl _ _).drew) hbX)))
                  all_goals go_wp2
                  all_goals go_ret
                  all_goals exact ⟨rfl, bel_trans hB0 (bel_trans (a := W) FW.out Bt)⟩
                exact AllReadyH.nil
              exact AllReadyH.nil
            exact AllReadyH.nil
          exact AllReadyH.nil
        exact AllReadyH.nil
      exact AllReadyH.nil
    · go_enter Try.func6, Try.ntmps6
      go_wp2_with (first
        | (go_at_call 9; ((with_reducible refine (g0 _).mono ?_); rintro e wX ⟨rfl, hbX⟩; have Bz := bel_trans (a := W) (by first | assumption | exact Below.drew (by assumption)) hbX; (try (have HX5 := Lib.hid (ArWC.b HX5.out (by first | exact hbX | exact bel_trans ((Below.refl _ _).drew) hbX)))); (try (have HX7 := Lib.hid (ArWC.b HX7.out (by first | exact hbX | exact bel_trans ((Below.refl _ _).drew) hbX)))); (try (have HY5 := Lib.hid (ArW.b HY5.out (by first | exact hbX | exact bel_trans ((Below.refl _ _).drew) hbX)))); (try (have HY7 := Lib.hid (ArW.b HY7.out (by first | exact hbX | exact bel_trans ((Below.refl _ _).drew) hbX)))); obtain ⟨a0, a1, a2, a3, a4⟩ := (CBox.b HSA.out Bz).five))
        | (go_at_call 10; ((with_reducible refine (zA _ (by first | assumption | exact Below.drew (by assumption))).mono ?_); rintro e wX ⟨rfl, hbX⟩; have Bz := bel_trans (a := W) (by first | assumption | exact Below.drew (by assumption)) hbX; (try (have HX5 := Lib.hid (ArWC.b HX5.out (by first | exact hbX | exact bel_trans ((Below.refl _ _).drew) hbX)))); (try (have HX7 := Lib.hid (ArWC.b HX7.out (by first | exact hbX | exact bel_trans ((Below.refl _ _).drew) hbX)))); (try (have HY5 := Lib.hid (ArW.b HY5.out (by first | exact hbX | exact bel_trans ((Below.refl _ _).drew) hbX)))); (try (have HY7 := Lib.hid (ArW.b HY7.out (by first | exact hbX | exact bel_trans ((Below.refl _ _).drew) hbX)))); obtain ⟨a0, a1, a2, a3, a4⟩ := (CBox.b HSA.out Bz).five)))
      go_ret
      exact ⟨rfl, bel_trans hB0 Bz⟩
  · go_enter Try.func6, Try.ntmps6
    go_wp2_with (first
        | (go_at_call 9; ((with_reducible refine (g0 _).mono ?_); rintro e wX ⟨rfl, hbX⟩; have Bz := bel_trans (a := W) (by first | assumption | exact Below.drew (by assumption)) hbX; (try (have HX5 := Lib.hid (ArWC.b HX5.out (by first | exact hbX | exact bel_trans ((Below.refl _ _).drew) hbX)))); (try (have HX7 := Lib.hid (ArWC.b HX7.out (by first | exact hbX | exact bel_trans ((Below.refl _ _).drew) hbX)))); (try (have HY5 := Lib.hid (ArW.b HY5.out (by first | exact hbX | exact bel_trans ((Below.refl _ _).drew) hbX)))); (try (have HY7 := Lib.hid (ArW.b HY7.out (by first | exact hbX | exact bel_trans ((Below.refl _ _).drew) hbX)))); obtain ⟨a0, a1, a2, a3, a4⟩ := (CBox.b HSA.out Bz).five))
        | (go_at_call 10; ((with_reducible refine (zA _ (by first | assumption | exact Below.drew (by assumption))).mono ?_); rintro e wX ⟨rfl, hbX⟩; have Bz := bel_trans (a := W) (by first | assumption | exact Below.drew (by assumption)) hbX; (try (have HX5 := Lib.hid (ArWC.b HX5.out (by first | exact hbX | exact bel_trans ((Below.refl _ _).drew) hbX)))); (try (have HX7 := Lib.hid (ArWC.b HX7.out (by first | exact hbX | exact bel_trans ((Below.refl _ _).drew) hbX)))); (try (have HY5 := Lib.hid (ArW.b HY5.out (by first | exact hbX | exact bel_trans ((Below.refl _ _).drew) hbX)))); (try (have HY7 := Lib.hid (ArW.b HY7.out (by first | exact hbX | exact bel_trans ((Below.refl _ _).drew) hbX)))); obtain ⟨a0, a1, a2, a3, a4⟩ := (CBox.b HSA.out Bz).five)))
    go_ret
    exact ⟨rfl, bel_trans hB0 Bz⟩
theorem bindCloses (x : ClV) (name s0 : ByteArray) (w : World) (hx : ArWC w x.t x.k x.a x.n x.c) (_ : name.size ≤ 9223372036854775807) (_ : s0.size ≤ 9223372036854775807) :
    Calls Try.prog 6 #[x.val, .string name, .string s0] w fun e w' => e = .returned (.bool true) ∧ Below w.heap.size w w' :=
  closesB x.t x.k x.a x.n x.c name s0 w hx
end Go.Proofs.Ytceijoggoniaoaa.B
