/-
  What is proved: the law over a claim that is closed and opened with the variable, and the other way round.
-/
import Derived.Test.YtokkafekdaniaaaRgtU
import Derived.Test.YtokkafekdaniaaaRgtF
import Derived.Test.YtokkafekdaniaaaRgtG
import Derived.Test.YtokkafekdaniaaaRgtN
import Derived.Test.YtokkafekdaniaaaLibHs
import Derived.Test.YtokkafekdaniaaaBndS
import Derived.Test.YtokkafekdaniaaaClmO
namespace Go.Proofs.Ytokkafekdaniaaa.B
open Go.RowKit L T C
set_option linter.unusedVariables false
set_option linter.unusedSimpArgs false

theorem box1t (w : World) (o : Int) (s : ByteArray) : ∃ Z W4, w.alloc (.cells #[.int .i64 0, .string ⟨#[]⟩, .int .i64 0, .slice none 0 0] 24) = Z ∧ TBox Z w.heap.size 0 ⟨#[]⟩ 0 none 0 0 ∧
    (((Z.setCell ⟨w.heap.size, 0, none⟩ (.int .i64 o)).setCell ⟨w.heap.size, 1, none⟩ (.string s)).setCell ⟨w.heap.size, 2, none⟩ (.int .i64 0)).setCell ⟨w.heap.size, 3, none⟩ (.slice none 0 0) = W4 ∧ TBox W4 w.heap.size o s 0 none 0 0 ∧ Below w.heap.size w W4 := by
  obtain ⟨Z, hZ, hb, hs, S⟩ := box1 w 0 ⟨#[]⟩ 0 none 0 0
  exact ⟨Z, _, hZ, S, rfl, TBox.put S o s 0 none 0 0, put_below hb (Nat.le_refl _) _ _ _ _⟩
theorem row1N (Z : World) (r : Cl) (K : SS) (A : Option Addr) (N C : Nat) (h : ArWC Z r K A N C) :
    CsW (Z.alloc (.cells #[.int .i64 (opC r), .string (nmC r), .string (soC r), .slice K.a K.n K.c, .slice A N C] 43)) (some ⟨Z.heap.size, 0, none⟩) 1 1 [r] := by
  have hb : Below Z.heap.size Z (Z.alloc (.cells #[.int .i64 (opC r), .string (nmC r), .string (soC r), .slice K.a K.n K.c, .slice A N C] 43)) := bel_alloc (Below.refl _ _) _
  have X := CBox.new Z (opC r) (nmC r) (soC r) K A N C
  obtain ⟨y0, y1, y2, y3, y4⟩ := X.five
  refine ⟨rfl, Nat.le_refl _, by unfold maxLen; omega, (fun h => by cases h), fun _ => ⟨Z.heap.size, 0, rfl, Blk.lt X, ?_⟩⟩
  rw [RwC]
  exact ⟨⟨K, A, N, C, y0, y1, y2, y3, y4, ArWC.b h hb⟩, by rw [RwC]; trivial⟩
set_option maxRecDepth 100000 in
set_option maxHeartbeats 32000000 in
theorem backB (A : Cl) (kA : SS) (aA : Option Addr) (nA cA : Nat) (name : ByteArray) (w : World) (HA : ArWC w A kA aA nA cA) :
    Calls Try.prog 7 #[.agg #[.int .i64 (opC A), .string (nmC A), .string (soC A), .slice kA.a kA.n kA.c, .slice aA nA cA], .string name] w fun e w' => e = .returned (.bool true) ∧ Below w.heap.size w w' := by
  obtain ⟨W, hW, hB0, hs, SA⟩ := cbox1 w (opC A) (nmC A) (soC A) kA aA nA cA
  have gA0 := ArWC.b HA hB0
  have g0 := fun (w' : World) => alive_any w'
  have zA := fun (w' : World) (h : Below W.heap.size W w') => Big_any A kA aA nA cA 200 w' (by omega) (ArWC.b gA0 h)
  rw [show ((200 : Nat) : Int) = 200 from rfl] at zA
  have cR := fun (w' : World) (h : Below W.heap.size W w') => Right8C_any A kA aA nA cA w' (ArWC.b gA0 h)
  have cS := fun (w' : World) (h : Below W.heap.size W w') => SmallC_any A kA aA nA cA w' (ArWC.b gA0 h)
  have HC := Lib.hid (show wtTo 200 A ≤ 200 → crightE A = 0 → smallC A = true →
      (∀ (w' : World), Below W.heap.size W w' → Calls Try.prog 48 #[.agg #[.int .i64 (opC A), .string (nmC A), .string (soC A), .slice kA.a kA.n kA.c, .slice aA nA cA], .string name] w' fun e w1 => ∃ K0 K1 K2 A' N' C', e = .returned (.agg #[.int .i64 (opC (wkC (fClose name) 0 A)), .string (nmC (wkC (fClose name) 0 A)), .string (soC (wkC (fClose name) 0 A)), .slice K0 K1 K2, .slice A' N' C']) ∧ ArWC w1 (wkC (fClose name) 0 A) ⟨K0, K1, K2⟩ A' N' C' ∧ Below w'.heap.size w' w1) ∧
      (∀ K0 K1 K2 A' N' C' (w' : World), ArWC w' (wkC (fClose name) 0 A) ⟨K0, K1, K2⟩ A' N' C' → Calls Try.prog 47 #[.agg #[.int .i64 (opC (wkC (fClose name) 0 A)), .string (nmC (wkC (fClose name) 0 A)), .string (soC (wkC (fClose name) 0 A)), .slice K0 K1 K2, .slice A' N' C'], .agg #[.int .i64 1, .string name, .int .i64 0, .slice none 0 0]] w' fun e w1 => ∃ K0 K1 K2 A' N' C', e = .returned (.agg #[.int .i64 (opC (A)), .string (nmC (A)), .string (soC (A)), .slice K0 K1 K2, .slice A' N' C']) ∧ ArWC w1 (A) ⟨K0, K1, K2⟩ A' N' C' ∧ Below w'.heap.size w' w1) ∧
      (∀ (w' : World), Below W.heap.size W w' → Calls Try.prog 47 #[.agg #[.int .i64 (opC A), .string (nmC A), .string (soC A), .slice kA.a kA.n kA.c, .slice aA nA cA], .agg #[.int .i64 1, .string name, .int .i64 0, .slice none 0 0]] w' fun e w1 => ∃ K0 K1 K2 A' N' C', e = .returned (.agg #[.int .i64 (opC (wkC (fOpen (var name)) 0 A)), .string (nmC (wkC (fOpen (var name)) 0 A)), .string (soC (wkC (fOpen (var name)) 0 A)), .slice K0 K1 K2, .slice A' N' C']) ∧ ArWC w1 (wkC (fOpen (var name)) 0 A) ⟨K0, K1, K2⟩ A' N' C' ∧ Below w'.heap.size w' w1) ∧
      (hasS (putsN [] (nmsC A)) name = false → ∀ K0 K1 K2 A' N' C' (w' : World), ArWC w' (wkC (fOpen (var name)) 0 A) ⟨K0, K1, K2⟩ A' N' C' → Calls Try.prog 48 #[.agg #[.int .i64 (opC (wkC (fOpen (var name)) 0 A)), .string (nmC (wkC (fOpen (var name)) 0 A)), .string (soC (wkC (fOpen (var name)) 0 A)), .slice K0 K1 K2, .slice A' N' C'], .string name] w' fun e w1 => ∃ K0 K1 K2 A' N' C', e = .returned (.agg #[.int .i64 (opC (A)), .string (nmC (A)), .string (soC (A)), .slice K0 K1 K2, .slice A' N' C']) ∧ ArWC w1 (A) ⟨K0, K1, K2⟩ A' N' C' ∧ Below w'.heap.size w' w1) ∧
      (∀ a1 d1 (w' : World), CsW w' a1 1 d1 [A] → Calls Try.prog 50 #[.slice a1 1 d1] w' fun e w1 => RtS (putsN [] (nmsC A)) w' e w1) ∧
      (putsN [] (nmsC A)).length ≤ 200 from fun h1 h2 h3 => by
    have s1 := small_cR h1
    have hp := plain_right h2 h3
    have e1 := open_closeC name A 0 (Int.le_refl _) hp
    have w1 := wt_close name A 0
    have w2 := wt_open (var name) A 0
    have sv : size (var name) = 1 := by simp [var, size, sizes]
    rw [sv, Nat.mul_one] at w2
    refine ⟨fun w' hb => (Close_any name A kA aA nA cA w' (by omega) (ArWC.b gA0 hb)).mono fun e w1 h => h.rv, fun K0 K1 K2 A' N' C' w' ha => ?_, fun w' hb => ?_, fun hf K0 K1 K2 A' N' C' w' ha => ?_, fun a1 d1 w' hc => Names8_one A a1 d1 w' (by omega) hc, ?_⟩
    · have := (Open_any _ ⟨K0, K1, K2⟩ A' N' C' (var name) none 0 0 w' (by omega) (by omega) ha (arLeaf _ _ _ _)).mono fun e w1 h => h.rv
      rw [e1] at this
      exact this
    · exact (Open_any A kA aA nA cA (var name) none 0 0 w' (by omega) (by omega) (ArWC.b gA0 hb) (arLeaf _ _ _ _)).mono fun e w1 h => h.rv
    · have hfr : freshC name A := freshC_of name A (fun hm => by
        have : name ∈ putsN [] (nmsC A) := (mem_putsN _ _ _).2 (.inr hm)
        rw [← hasS_iff] at this
        rw [this] at hf; cases hf)
      have e2 := close_openC name A 0 (Int.le_refl _) hp hfr
      have := (Close_any name _ ⟨K0, K1, K2⟩ A' N' C' w' (by omega) ha).mono fun e w1 h => h.rv
      rw [e2] at this
      exact this
    · have h4 := putsN_len (nmsC A) []
      have h5 := nmsC_len A
      simp at h4; omega)
  have c4 := fun (Aq : Option Addr) (n q : Nat) (w' : World) (h : SlS w' Aq n q (putsN [] (nmsC A))) (hn : n ≤ 9223372036854775807) => Has_any Aq n q (putsN [] (nmsC A)) name w' h.1 hn
  have cE0 := fun (K0 : Option Addr) (K1 K2 : Nat) (A' : Option Addr) (N' C' : Nat) (w' : World) (h : ArWC w' A ⟨K0, K1, K2⟩ A' N' C') (h2 : Below W.heap.size W w') => (Exact_any A A ⟨K0, K1, K2⟩ A' N' C' kA aA nA cA w' h (ArWC.b gA0 h2)).mono (R' := fun e w1 => e = .returned (.bool true) ∧ Below w'.heap.size w' w1) fun e w1 h => by rw [exC_refl] at h; exact h
  have gA1 := fun (w' : World) (h : Below W.heap.size W w') => ArWC.b gA0 h
  have HSA := Lib.hid SA
  obtain ⟨a0, a1, a2, a3, a4⟩ := SA.five
  have hBd : Below W.heap.size W W := Below.refl _ _
  obtain ⟨kAa, kAn, kAc⟩ := kA
  dsimp only at *
  have hrow := fun (Z : World) (h : ArWC Z A ⟨kAa, kAn, kAc⟩ aA nA cA) => row1N Z A ⟨kAa, kAn, kAc⟩ aA nA cA h
  dsimp only at hrow
  clear SA gA0 HA
  generalize wtTo 200 A = tA at *
  generalize hR : crightE A = R at *
  generalize hsm : smallC A = sm at *
  by_cases q1 : tA ≤ 200
  · by_cases q2 : name.size ≤ 300
    · by_cases q3 : R = 0
      · have p3 : (R != 0) = false := by rw [q3]; rfl
        cases sm with
        | true =>
          obtain ⟨c1', c2, c5', c6, c3, hlen⟩ := HC.out q1 q3 rfl
          clear HC q3 hR hsm
          generalize hrr1 : wkC (fClose name) 0 A = rr1 at *
          generalize hrr2 : wkC (fOpen (var name)) 0 A = rr2 at *
          generalize hNM : putsN [] (nmsC A) = NM at *
          clear hrr1 hrr2 hNM
          have HA := Lib.hid gA1
          have HRow := Lib.hid hrow
          generalize hoA : opC A = oA at *
          generalize hmA : nmC A = mA at *
          generalize hpA : soC A = pA at *
          clear hoA hmA hpA gA1 hrow
          go_enter Try.func7, Try.ntmps7
          go_wp2_with (first
            | (go_at_call 44; ((with_reducible refine (g0 _).mono ?_); rintro e wX ⟨rfl, hbX⟩; have Bz := bel_trans (a := W) (by assumption) hbX; obtain ⟨a0, a1, a2, a3, a4⟩ := (CBox.b HSA.out Bz).five))
            | (go_at_call 33; ((with_reducible refine (zA _ (by assumption)).mono ?_); rintro e wX ⟨rfl, hbX⟩; have Bz := bel_trans (a := W) (by assumption) hbX; obtain ⟨a0, a1, a2, a3, a4⟩ := (CBox.b HSA.out Bz).five))
            | (go_at_call 45; ((with_reducible refine (cR _ (by assumption)).mono ?_); rintro e wX ⟨rfl, hbX⟩; have Bz := bel_trans (a := W) (by assumption) hbX; obtain ⟨a0, a1, a2, a3, a4⟩ := (CBox.b HSA.out Bz).five))
            | (go_at_call 46; ((with_reducible refine (cS _ (by assumption)).mono ?_); rintro e wX ⟨rfl, hbX⟩; have Bz := bel_trans (a := W) (by assumption) hbX; obtain ⟨a0, a1, a2, a3, a4⟩ := (CBox.b HSA.out Bz).five; obtain ⟨Z, W5, hZ, bz, hW5, bw, hb5⟩ := box1t wX 1 name; have Bv := bel_trans (a := W) Bz hb5; obtain ⟨z0, z1, z2, z3⟩ := bz.four; obtain ⟨f0, f1, f2, f3⟩ := bz.free; have HV := Lib.hid bw; clear bz bw)))
          have hBd5 : Below W5.heap.size W5 W5 := Below.refl _ _
          have HBv := Lib.hid Bv
          have HQ := Lib.hid (show ∀ w' : World, Below W5.heap.size W5 w' → w'.cell? ⟨w.heap.size, 0, none⟩ = some (.int .i64 oA) ∧ w'.cell? ⟨w.heap.size, 1, none⟩ = some (.string mA) ∧ w'.cell? ⟨w.heap.size, 2, none⟩ = some (.string pA) ∧ w'.cell? ⟨w.heap.size, 3, none⟩ = some (.slice kAa kAn kAc) ∧ w'.cell? ⟨w.heap.size, 4, none⟩ = some (.slice aA nA cA) ∧ w'.cell? ⟨wX.heap.size, 0, none⟩ = some (.int .i64 1) ∧ w'.cell? ⟨wX.heap.size, 1, none⟩ = some (.string name) ∧ w'.cell? ⟨wX.heap.size, 2, none⟩ = some (.int .i64 0) ∧ w'.cell? ⟨wX.heap.size, 3, none⟩ = some (.slice none 0 0) from fun w' hb => by
            obtain ⟨x0, x1, x2, x3, x4⟩ := (CBox.b HSA.out (bel_trans (a := W) HBv.out hb)).five
            obtain ⟨y0, y1, y2, y3⟩ := (TBox.b HV.out hb).four
            exact ⟨x0, x1, x2, x3, x4, y0, y1, y2, y3⟩)
          have c1 := fun (w' : World) (hb : Below W5.heap.size W5 w') => c1' w' (bel_trans (a := W) HBv.out hb)
          have c5 := fun (w' : World) (hb : Below W5.heap.size W5 w') => c5' w' (bel_trans (a := W) HBv.out hb)
          have cE := fun (K0 : Option Addr) (K1 K2 : Nat) (A' : Option Addr) (N' C' : Nat) (w' : World) (h : ArWC w' A ⟨K0, K1, K2⟩ A' N' C') (h2 : Below W5.heap.size W5 w') => cE0 K0 K1 K2 A' N' C' w' h (bel_trans (a := W) HBv.out h2)
          have gA := fun (w' : World) (hb : Below W5.heap.size W5 w') => HA.out w' (bel_trans (a := W) HBv.out hb)
          clear c1' c5' cE0 Bz Bv g0 zA cR cS z0 z1 z2 z3 f0 f1 f2 f3 a0 a1 a2 a3 a4
          go_wp2_with fail
          generalize hHH : hasS NM name = hh at *
          cases hh with
          | true =>
            clear c6 c5
            go_region_held3 (fun w' => w'.cell? ⟨w.heap.size, 0, none⟩ = some (.int .i64 oA) ∧ w'.cell? ⟨w.heap.size, 1, none⟩ = some (.string mA) ∧ w'.cell? ⟨w.heap.size, 2, none⟩ = some (.string pA) ∧ w'.cell? ⟨w.heap.size, 3, none⟩ = some (.slice kAa kAn kAc) ∧ w'.cell? ⟨w.heap.size, 4, none⟩ = some (.slice aA nA cA) ∧ w'.cell? ⟨wX.heap.size, 0, none⟩ = some (.int .i64 1) ∧ w'.cell? ⟨wX.heap.size, 1, none⟩ = some (.string name) ∧ w'.cell? ⟨wX.heap.size, 2, none⟩ = some (.int .i64 0) ∧ w'.cell? ⟨wX.heap.size, 3, none⟩ = some (.slice none 0 0))
              (first | (exact HQ.out _ (by first | assumption | exact Below.drew (by assumption) | exact Below.refl _ _ | exact (Below.refl _ _).drew | exact bel_alloc (by assumption) _ | exact (bel_alloc (by assumption) _).drew | exact bel_alloc (Below.drew (by assumption)) _ | exact (bel_alloc (Below.drew (by assumption)) _).drew)) | go_keep)
              (first
                | (go_at_call 48; ((with_reducible refine (c1 _ (by first | assumption | exact Below.drew (by assumption) | exact Below.refl _ _ | exact (Below.refl _ _).drew | exact bel_alloc (by assumption) _ | exact (bel_alloc (by assumption) _).drew | exact bel_alloc (Below.drew (by assumption)) _ | exact (bel_alloc (Below.drew (by assumption)) _).drew)).mono ?_); rintro e wY ⟨K50, K51, K52, A5, N5, C5, rfl, hX, hbY⟩; have By : Below W5.heap.size W5 wY := bel_trans (by first | assumption | exact Below.drew (by assumption) | exact Below.refl _ _ | exact (Below.refl _ _).drew | exact bel_alloc (by assumption) _ | exact (bel_alloc (by assumption) _).drew | exact bel_alloc (Below.drew (by assumption)) _ | exact (bel_alloc (Below.drew (by assumption)) _).drew) hbY; have HX5 := Lib.hid hX; clear hX))
                | (go_at_call 47; ((with_reducible refine (c2 _ _ _ _ _ _ _ (by first | exact HX5.out | exact ArWC.b HX5.out (Below.refl _ _).drew)).mono ?_); rintro e wY ⟨K60, K61, K62, A6, N6, C6, rfl, hX, hbY⟩; have By : Below W5.heap.size W5 wY := bel_trans (by first | assumption | exact Below.drew (by assumption) | exact Below.refl _ _ | exact (Below.refl _ _).drew | exact bel_alloc (by assumption) _ | exact (bel_alloc (by assumption) _).drew | exact bel_alloc (Below.drew (by assumption)) _ | exact (bel_alloc (Below.drew (by assumption)) _).drew) hbY; have HX6 := Lib.hid hX; clear hX))
                | (go_at_call 35; ((with_reducible refine (cE _ _ _ _ _ _ _ (by first | exact HX6.out | exact ArWC.b HX6.out (Below.refl _ _).drew) (by first | assumption | exact Below.drew (by assumption) | exact Below.refl _ _ | exact (Below.refl _ _).drew | exact bel_alloc (by assumption) _ | exact (bel_alloc (by assumption) _).drew | exact bel_alloc (Below.drew (by assumption)) _ | exact (bel_alloc (Below.drew (by assumption)) _).drew)).mono ?_); rintro e wY ⟨rfl, hbY⟩; have By : Below W5.heap.size W5 wY := bel_trans (by first | assumption | exact Below.drew (by assumption) | exact Below.refl _ _ | exact (Below.refl _ _).drew | exact bel_alloc (by assumption) _ | exact (bel_alloc (by assumption) _).drew | exact bel_alloc (Below.drew (by assumption)) _ | exact (bel_alloc (Below.drew (by assumption)) _).drew) hbY)))
            all_goals go_wp2_with fail
            obtain ⟨x0, x1, x2, x3, x4, y0, y1, y2, y3⟩ := HQ.out _ By
            refine wp_region_noPanic ?_
            refine wp_region_held_drew (S := fun w' => w'.cell? ⟨w.heap.size, 0, none⟩ = some (.int .i64 oA) ∧ w'.cell? ⟨w.heap.size, 1, none⟩ = some (.string mA) ∧ w'.cell? ⟨w.heap.size, 2, none⟩ = some (.string pA) ∧ w'.cell? ⟨w.heap.size, 3, none⟩ = some (.slice kAa kAn kAc) ∧ w'.cell? ⟨w.heap.size, 4, none⟩ = some (.slice aA nA cA) ∧ w'.cell? ⟨wX.heap.size, 0, none⟩ = some (.int .i64 1) ∧ w'.cell? ⟨wX.heap.size, 1, none⟩ = some (.string name) ∧ w'.cell? ⟨wX.heap.size, 2, none⟩ = some (.int .i64 0) ∧ w'.cell? ⟨wX.heap.size, 3, none⟩ = some (.slice none 0 0)) (by kernel_rfl) (by exact HQ.out _ (by first | assumption | exact Below.drew (by assumption) | exact Below.refl _ _ | exact (Below.refl _ _).drew | exact bel_alloc (by assumption) _ | exact (bel_alloc (by assumption) _).drew | exact bel_alloc (Below.drew (by assumption)) _ | exact (bel_alloc (Below.drew (by assumption)) _).drew)) (fun hHeld => ?_)
            refine wpAnyH_take (i := 0) (v := ?_) rfl (by kernel_rfl) (by kernel_rfl) (by kernel_rfl) (fun _ _ _ h => h) (Or.inl ⟨by rfl, ?hy⟩) (by assumption) ?_
            case hy => (intro w hSw; (try dsimp only at hSw); go_simp; try (with_reducible rfl))
            (try simp only [Act.put, List.setIfInBounds_toArray, List.set_cons_zero, List.set_cons_succ])
            refine wpAnyH_take (i := 3) (v := ?_) rfl (by kernel_rfl) (by kernel_rfl) (by kernel_rfl) (fun _ _ _ h => h) (Or.inl ⟨by rfl, ?hy⟩) (by assumption) ?_
            case hy => (intro w hSw; (try dsimp only at hSw); go_simp; try (with_reducible rfl))
            (try simp only [Act.put, List.setIfInBounds_toArray, List.set_cons_zero, List.set_cons_succ])
            refine wpAnyH_ready (rs := [1]) (by kernel_rfl) (by simp) ?_
            refine AllReadyH.cons rfl (fun KK hKK => ?_) AllReadyH.nil
            go_simp
            refine hKK.out _ _ (by exact HQ.out _ (by first | assumption | exact Below.drew (by assumption) | exact Below.refl _ _ | exact (Below.refl _ _).drew | exact bel_alloc (by assumption) _ | exact (bel_alloc (by assumption) _).drew | exact bel_alloc (Below.drew (by assumption)) _ | exact (bel_alloc (Below.drew (by assumption)) _).drew)) (fun hHeld => ?_)
            clear hKK KK
            (try simp only [Act.put, List.setIfInBounds_toArray, List.set_cons_zero, List.set_cons_succ])
            refine wpAnyH_ready (rs := [2]) (by kernel_rfl) (by simp) ?_
            refine AllReadyH.cons rfl (fun KK hKK => ?_) AllReadyH.nil
            go_simp
            (go_at_call 50; ((with_reducible refine (c3 _ _ _ (by first | exact HRow.out _ (gA _ (by first | assumption | exact Below.drew (by assumption) | exact Below.refl _ _ | exact (Below.refl _ _).drew | exact bel_alloc (by assumption) _ | exact (bel_alloc (by assumption) _).drew | exact bel_alloc (Below.drew (by assumption)) _ | exact (bel_alloc (Below.drew (by assumption)) _).drew)) | exact CsW.b (HRow.out _ (gA _ (by first | assumption | exact Below.drew (by assumption) | exact Below.refl _ _ | exact (Below.refl _ _).drew | exact bel_alloc (by assumption) _ | exact (bel_alloc (by assumption) _).drew | exact bel_alloc (Below.drew (by assumption)) _ | exact (bel_alloc (Below.drew (by assumption)) _).drew))) (Below.refl _ _).drew)).mono ?_); rintro e wY ⟨AN, CN, rfl, hN, hbY⟩; have By : Below W5.heap.size W5 wY := bel_trans (by first | assumption | exact Below.drew (by assumption) | exact Below.refl _ _ | exact (Below.refl _ _).drew | exact bel_alloc (by assumption) _ | exact (bel_alloc (by assumption) _).drew | exact bel_alloc (Below.drew (by assumption)) _ | exact (bel_alloc (Below.drew (by assumption)) _).drew) hbY; have HN := Lib.hid hN; clear hN))
            refine hKK.out _ _ (by exact HQ.out _ (by first | assumption | exact Below.drew (by assumption) | exact Below.refl _ _ | exact (Below.refl _ _).drew | exact bel_alloc (by assumption) _ | exact (bel_alloc (by assumption) _).drew | exact bel_alloc (Below.drew (by assumption)) _ | exact (bel_alloc (Below.drew (by assumption)) _).drew)) (fun hHeld => ?_)
            clear hKK KK
            (try simp only [Act.put, List.setIfInBounds_toArray, List.set_cons_zero, List.set_cons_succ])
            refine wpAnyH_ready (rs := [4]) (by kernel_rfl) (by simp) ?_
            refine AllReadyH.cons rfl (fun KK hKK => ?_) AllReadyH.nil
            go_simp
            (go_at_call 49; ((with_reducible refine (c4 _ _ _ _ (by first | exact HN.out | exact SlS.w HN.out (Below.refl _ _).drew) (by omega)).mono ?_); rintro e wY ⟨rfl, rfl⟩))
            refine hKK.out _ _ (by exact HQ.out _ (by first | assumption | exact Below.drew (by assumption) | exact Below.refl _ _ | exact (Below.refl _ _).drew | exact bel_alloc (by assumption) _ | exact (bel_alloc (by assumption) _).drew | exact bel_alloc (Below.drew (by assumption)) _ | exact (bel_alloc (Below.drew (by assumption)) _).drew)) (fun hHeld => ?_)
            clear hKK KK
            (try simp only [Act.put, List.setIfInBounds_toArray, List.set_cons_zero, List.set_cons_succ])
            refine wpAnyH_take (i := 5) (v := ?_) rfl (by kernel_rfl) (by kernel_rfl) (by kernel_rfl) (fun _ _ _ h => h) (Or.inl ⟨by rfl, ?hy⟩) (by assumption) ?_
            case hy => (intro w hSw; (try dsimp only at hSw); go_simp; try (with_reducible rfl))
            (try simp only [Act.put, List.setIfInBounds_toArray, List.set_cons_zero, List.set_cons_succ])
            refine wpAnyH_take (i := 6) (v := undef) rfl (by kernel_rfl) (by kernel_rfl) (by kernel_rfl) (fun _ _ _ h => h) (Or.inr ⟨by rfl, rfl⟩) (by assumption) ?_
            (try simp only [Act.put, List.setIfInBounds_toArray, List.set_cons_zero, List.set_cons_succ])
            refine wpAnyH_take (i := 7) (v := undef) rfl (by kernel_rfl) (by kernel_rfl) (by kernel_rfl) (fun _ _ _ h => h) (Or.inr ⟨by rfl, rfl⟩) (by assumption) ?_
            (try simp only [Act.put, List.setIfInBounds_toArray, List.set_cons_zero, List.set_cons_succ])
            refine wpAnyH_take (i := 8) (v := undef) rfl (by kernel_rfl) (by kernel_rfl) (by kernel_rfl) (fun _ _ _ h => h) (Or.inr ⟨by rfl, rfl⟩) (by assumption) ?_
            (try simp only [Act.put, List.setIfInBounds_toArray, List.set_cons_zero, List.set_cons_succ])
            refine wpAnyH_take (i := 9) (v := undef) rfl (by kernel_rfl) (by kernel_rfl) (by kernel_rfl) (fun _ _ _ h => h) (Or.inr ⟨by rfl, rfl⟩) (by assumption) ?_
            (try simp only [Act.put, List.setIfInBounds_toArray, List.set_cons_zero, List.set_cons_succ])
            refine wpAnyH_take (i := 10) (v := undef) rfl (by kernel_rfl) (by kernel_rfl) (by kernel_rfl) (fun _ _ _ h => h) (Or.inr ⟨by rfl, rfl⟩) (by assumption) ?_
            (try simp only [Act.put, List.setIfInBounds_toArray, List.set_cons_zero, List.set_cons_succ])
            refine wpAnyH_take (i := 11) (v := undef) rfl (by kernel_rfl) (by kernel_rfl) (by kernel_rfl) (fun _ _ _ h => h) (Or.inr ⟨by rfl, rfl⟩) (by assumption) ?_
            (try simp only [Act.put, List.setIfInBounds_toArray, List.set_cons_zero, List.set_cons_succ])
            refine wpAnyH_take (i := 12) (v := undef) rfl (by kernel_rfl) (by kernel_rfl) (by kernel_rfl) (fun _ _ _ h => h) (Or.inr ⟨by rfl, rfl⟩) (by assumption) ?_
            (try simp only [Act.put, List.setIfInBounds_toArray, List.set_cons_zero, List.set_cons_succ])
            refine wpAnyH_take (i := 13) (v := ?_) rfl (by kernel_rfl) (by kernel_rfl) (by kernel_rfl) (fun _ _ _ h => h) (Or.inl ⟨by rfl, ?hy⟩) (by assumption) ?_
            case hy => (intro w hSw; (try dsimp only at hSw); go_simp; try (with_reducible rfl))
            (try simp only [Act.put, List.setIfInBounds_toArray, List.set_cons_zero, List.set_cons_succ])
            refine wpAnyH_take (i := 14) (v := ?_) rfl (by kernel_rfl) (by kernel_rfl) (by kernel_rfl) (fun _ _ _ h => h) (Or.inl ⟨by rfl, ?hy⟩) (by assumption) ?_
            case hy => (intro w hSw; (try dsimp only at hSw); go_simp; try (with_reducible rfl))
            (try simp only [Act.put, List.setIfInBounds_toArray, List.set_cons_zero, List.set_cons_succ])
            (try simp only [List.getElem_toArray, List.getElem_cons_succ, List.getElem_cons_zero, Act.put, List.setIfInBounds_toArray, List.set_cons_zero, List.set_cons_succ])
            refine wpAnyH_done (by kernel_rfl) ?_ _
            refine NoPanic.normal ?_
            all_goals go_wp2
            all_goals go_ret
            all_goals exact ⟨rfl, bel_trans hB0 (bel_trans (a := W) HBv.out By)⟩
          | false =>
            have c6F := c6 rfl
            clear c6
            go_region_held3 (fun w' => w'.cell? ⟨w.heap.size, 0, none⟩ = some (.int .i64 oA) ∧ w'.cell? ⟨w.heap.size, 1, none⟩ = some (.string mA) ∧ w'.cell? ⟨w.heap.size, 2, none⟩ = some (.string pA) ∧ w'.cell? ⟨w.heap.size, 3, none⟩ = some (.slice kAa kAn kAc) ∧ w'.cell? ⟨w.heap.size, 4, none⟩ = some (.slice aA nA cA) ∧ w'.cell? ⟨wX.heap.size, 0, none⟩ = some (.int .i64 1) ∧ w'.cell? ⟨wX.heap.size, 1, none⟩ = some (.string name) ∧ w'.cell? ⟨wX.heap.size, 2, none⟩ = some (.int .i64 0) ∧ w'.cell? ⟨wX.heap.size, 3, none⟩ = some (.slice none 0 0))
              (first | (exact HQ.out _ (by first | assumption | exact Below.drew (by assumption) | exact Below.refl _ _ | exact (Below.refl _ _).drew | exact bel_alloc (by assumption) _ | exact (bel_alloc (by assumption) _).drew | exact bel_alloc (Below.drew (by assumption)) _ | exact (bel_alloc (Below.drew (by assumption)) _).drew)) | go_keep)
              (first
                | (go_at_call 48; ((with_reducible refine (c1 _ (by first | assumption | exact Below.drew (by assumption) | exact Below.refl _ _ | exact (Below.refl _ _).drew | exact bel_alloc (by assumption) _ | exact (bel_alloc (by assumption) _).drew | exact bel_alloc (Below.drew (by assumption)) _ | exact (bel_alloc (Below.drew (by assumption)) _).drew)).mono ?_); rintro e wY ⟨K50, K51, K52, A5, N5, C5, rfl, hX, hbY⟩; have By : Below W5.heap.size W5 wY := bel_trans (by first | assumption | exact Below.drew (by assumption) | exact Below.refl _ _ | exact (Below.refl _ _).drew | exact bel_alloc (by assumption) _ | exact (bel_alloc (by assumption) _).drew | exact bel_alloc (Below.drew (by assumption)) _ | exact (bel_alloc (Below.drew (by assumption)) _).drew) hbY; have HX5 := Lib.hid hX; clear hX))
                | (go_at_call 47; ((with_reducible refine (c2 _ _ _ _ _ _ _ (by first | exact HX5.out | exact ArWC.b HX5.out (Below.refl _ _).drew)).mono ?_); rintro e wY ⟨K60, K61, K62, A6, N6, C6, rfl, hX, hbY⟩; have By : Below W5.heap.size W5 wY := bel_trans (by first | assumption | exact Below.drew (by assumption) | exact Below.refl _ _ | exact (Below.refl _ _).drew | exact bel_alloc (by assumption) _ | exact (bel_alloc (by assumption) _).drew | exact bel_alloc (Below.drew (by assumption)) _ | exact (bel_alloc (Below.drew (by assumption)) _).drew) hbY; have HX6 := Lib.hid hX; clear hX))
                | (go_at_call 35; ((with_reducible refine (cE _ _ _ _ _ _ _ (by first | exact HX6.out | exact ArWC.b HX6.out (Below.refl _ _).drew) (by first | assumption | exact Below.drew (by assumption) | exact Below.refl _ _ | exact (Below.refl _ _).drew | exact bel_alloc (by assumption) _ | exact (bel_alloc (by assumption) _).drew | exact bel_alloc (Below.drew (by assumption)) _ | exact (bel_alloc (Below.drew (by assumption)) _).drew)).mono ?_); rintro e wY ⟨rfl, hbY⟩; have By : Below W5.heap.size W5 wY := bel_trans (by first | assumption | exact Below.drew (by assumption) | exact Below.refl _ _ | exact (Below.refl _ _).drew | exact bel_alloc (by assumption) _ | exact (bel_alloc (by assumption) _).drew | exact bel_alloc (Below.drew (by assumption)) _ | exact (bel_alloc (Below.drew (by assumption)) _).drew) hbY)))
            all_goals go_wp2_with fail
            go_region_held3 (fun w' => w'.cell? ⟨w.heap.size, 0, none⟩ = some (.int .i64 oA) ∧ w'.cell? ⟨w.heap.size, 1, none⟩ = some (.string mA) ∧ w'.cell? ⟨w.heap.size, 2, none⟩ = some (.string pA) ∧ w'.cell? ⟨w.heap.size, 3, none⟩ = some (.slice kAa kAn kAc) ∧ w'.cell? ⟨w.heap.size, 4, none⟩ = some (.slice aA nA cA) ∧ w'.cell? ⟨wX.heap.size, 0, none⟩ = some (.int .i64 1) ∧ w'.cell? ⟨wX.heap.size, 1, none⟩ = some (.string name) ∧ w'.cell? ⟨wX.heap.size, 2, none⟩ = some (.int .i64 0) ∧ w'.cell? ⟨wX.heap.size, 3, none⟩ = some (.slice none 0 0))
              (first | (exact HQ.out _ (by first | assumption | exact Below.drew (by assumption) | exact Below.refl _ _ | exact (Below.refl _ _).drew | exact bel_alloc (by assumption) _ | exact (bel_alloc (by assumption) _).drew | exact bel_alloc (Below.drew (by assumption)) _ | exact (bel_alloc (Below.drew (by assumption)) _).drew)) | go_keep)
              (first
                | (go_at_call 50; ((with_reducible refine (c3 _ _ _ (by first | exact HRow.out _ (gA _ (by first | assumption | exact Below.drew (by assumption) | exact Below.refl _ _ | exact (Below.refl _ _).drew | exact bel_alloc (by assumption) _ | exact (bel_alloc (by assumption) _).drew | exact bel_alloc (Below.drew (by assumption)) _ | exact (bel_alloc (Below.drew (by assumption)) _).drew)) | exact CsW.b (HRow.out _ (gA _ (by first | assumption | exact Below.drew (by assumption) | exact Below.refl _ _ | exact (Below.refl _ _).drew | exact bel_alloc (by assumption) _ | exact (bel_alloc (by assumption) _).drew | exact bel_alloc (Below.drew (by assumption)) _ | exact (bel_alloc (Below.drew (by assumption)) _).drew))) (Below.refl _ _).drew)).mono ?_); rintro e wY ⟨AN, CN, rfl, hN, hbY⟩; have By : Below W5.heap.size W5 wY := bel_trans (by first | assumption | exact Below.drew (by assumption) | exact Below.refl _ _ | exact (Below.refl _ _).drew | exact bel_alloc (by assumption) _ | exact (bel_alloc (by assumption) _).drew | exact bel_alloc (Below.drew (by assumption)) _ | exact (bel_alloc (Below.drew (by assumption)) _).drew) hbY; have HN := Lib.hid hN; clear hN))
                | (go_at_call 49; ((with_reducible refine (c4 _ _ _ _ (by first | exact HN.out | exact SlS.w HN.out (Below.refl _ _).drew) (by omega)).mono ?_); rintro e wY ⟨rfl, rfl⟩))
                | (go_at_call 47; ((with_reducible refine (c5 _ (by first | assumption | exact Below.drew (by assumption) | exact Below.refl _ _ | exact (Below.refl _ _).drew | exact bel_alloc (by assumption) _ | exact (bel_alloc (by assumption) _).drew | exact bel_alloc (Below.drew (by assumption)) _ | exact (bel_alloc (Below.drew (by assumption)) _).drew)).mono ?_); rintro e wY ⟨K70, K71, K72, A7, N7, C7, rfl, hX, hbY⟩; have By : Below W5.heap.size W5 wY := bel_trans (by first | assumption | exact Below.drew (by assumption) | exact Below.refl _ _ | exact (Below.refl _ _).drew | exact bel_alloc (by assumption) _ | exact (bel_alloc (by assumption) _).drew | exact bel_alloc (Below.drew (by assumption)) _ | exact (bel_alloc (Below.drew (by assumption)) _).drew) hbY; have HX7 := Lib.hid hX; clear hX))
                | (go_at_call 48; ((with_reducible refine (c6F _ _ _ _ _ _ _ (by first | exact HX7.out | exact ArWC.b HX7.out (Below.refl _ _).drew)).mono ?_); rintro e wY ⟨K80, K81, K82, A8, N8, C8, rfl, hX, hbY⟩; have By : Below W5.heap.size W5 wY := bel_trans (by first | assumption | exact Below.drew (by assumption) | exact Below.refl _ _ | exact (Below.refl _ _).drew | exact bel_alloc (by assumption) _ | exact (bel_alloc (by assumption) _).drew | exact bel_alloc (Below.drew (by assumption)) _ | exact (bel_alloc (Below.drew (by assumption)) _).drew) hbY; have HX8 := Lib.hid hX; clear hX))
                | (go_at_call 35; ((with_reducible refine (cE _ _ _ _ _ _ _ (by first | exact HX8.out | exact ArWC.b HX8.out (Below.refl _ _).drew) (by first | assumption | exact Below.drew (by assumption) | exact Below.refl _ _ | exact (Below.refl _ _).drew | exact bel_alloc (by assumption) _ | exact (bel_alloc (by assumption) _).drew | exact bel_alloc (Below.drew (by assumption)) _ | exact (bel_alloc (Below.drew (by assumption)) _).drew)).mono ?_); rintro e wY ⟨rfl, hbY⟩; have By : Below W5.heap.size W5 wY := bel_trans (by first | assumption | exact Below.drew (by assumption) | exact Below.refl _ _ | exact (Below.refl _ _).drew | exact bel_alloc (by assumption) _ | exact (bel_alloc (by assumption) _).drew | exact bel_alloc (Below.drew (by assumption)) _ | exact (bel_alloc (Below.drew (by assumption)) _).drew) hbY)))
            all_goals go_wp2
            all_goals go_ret
            all_goals exact ⟨rfl, bel_trans hB0 (bel_trans (a := W) HBv.out By)⟩
        | false =>
          clear HC q3 hR hsm
          go_enter Try.func7, Try.ntmps7
          go_wp2_with (first
            | (go_at_call 44; ((with_reducible refine (g0 _).mono ?_); rintro e wX ⟨rfl, hbX⟩; have Bz := bel_trans (a := W) (by assumption) hbX; obtain ⟨a0, a1, a2, a3, a4⟩ := (CBox.b HSA.out Bz).five))
            | (go_at_call 33; ((with_reducible refine (zA _ (by assumption)).mono ?_); rintro e wX ⟨rfl, hbX⟩; have Bz := bel_trans (a := W) (by assumption) hbX; obtain ⟨a0, a1, a2, a3, a4⟩ := (CBox.b HSA.out Bz).five))
            | (go_at_call 45; ((with_reducible refine (cR _ (by assumption)).mono ?_); rintro e wX ⟨rfl, hbX⟩; have Bz := bel_trans (a := W) (by assumption) hbX; obtain ⟨a0, a1, a2, a3, a4⟩ := (CBox.b HSA.out Bz).five))
            | (go_at_call 46; ((with_reducible refine (cS _ (by assumption)).mono ?_); rintro e wX ⟨rfl, hbX⟩; have Bz := bel_trans (a := W) (by assumption) hbX; obtain ⟨a0, a1, a2, a3, a4⟩ := (CBox.b HSA.out Bz).five)))
          go_ret
          exact ⟨rfl, bel_trans hB0 Bz⟩
      · have p3 : (R != 0) = true := bne_iff_ne.2 q3
        clear HC q3 hR hsm
        go_enter Try.func7, Try.ntmps7
        go_wp2_with (first
          | (go_at_call 44; ((with_reducible refine (g0 _).mono ?_); rintro e wX ⟨rfl, hbX⟩; have Bz := bel_trans (a := W) (by assumption) hbX; obtain ⟨a0, a1, a2, a3, a4⟩ := (CBox.b HSA.out Bz).five))
          | (go_at_call 33; ((with_reducible refine (zA _ (by assumption)).mono ?_); rintro e wX ⟨rfl, hbX⟩; have Bz := bel_trans (a := W) (by assumption) hbX; obtain ⟨a0, a1, a2, a3, a4⟩ := (CBox.b HSA.out Bz).five))
          | (go_at_call 45; ((with_reducible refine (cR _ (by assumption)).mono ?_); rintro e wX ⟨rfl, hbX⟩; have Bz := bel_trans (a := W) (by assumption) hbX; obtain ⟨a0, a1, a2, a3, a4⟩ := (CBox.b HSA.out Bz).five)))
        go_ret
        exact ⟨rfl, bel_trans hB0 Bz⟩
    · go_enter Try.func7, Try.ntmps7
      go_wp2_with (first
        | (go_at_call 44; ((with_reducible refine (g0 _).mono ?_); rintro e wX ⟨rfl, hbX⟩; have Bz := bel_trans (a := W) (by assumption) hbX; obtain ⟨a0, a1, a2, a3, a4⟩ := (CBox.b HSA.out Bz).five))
        | (go_at_call 33; ((with_reducible refine (zA _ (by assumption)).mono ?_); rintro e wX ⟨rfl, hbX⟩; have Bz := bel_trans (a := W) (by assumption) hbX; obtain ⟨a0, a1, a2, a3, a4⟩ := (CBox.b HSA.out Bz).five)))
      go_ret
      exact ⟨rfl, bel_trans hB0 Bz⟩
  · go_enter Try.func7, Try.ntmps7
    go_wp2_with (first
      | (go_at_call 44; ((with_reducible refine (g0 _).mono ?_); rintro e wX ⟨rfl, hbX⟩; have Bz := bel_trans (a := W) (by assumption) hbX; obtain ⟨a0, a1, a2, a3, a4⟩ := (CBox.b HSA.out Bz).five))
      | (go_at_call 33; ((with_reducible refine (zA _ (by assumption)).mono ?_); rintro e wX ⟨rfl, hbX⟩; have Bz := bel_trans (a := W) (by assumption) hbX; obtain ⟨a0, a1, a2, a3, a4⟩ := (CBox.b HSA.out Bz).five)))
    go_ret
    exact ⟨rfl, bel_trans hB0 Bz⟩
theorem bindBack (x : ClV) (name : ByteArray) (w : World) (hx : ArWC w x.t x.k x.a x.n x.c) (_ : name.size ≤ 9223372036854775807) :
    Calls Try.prog 7 #[x.val, .string name] w fun e w' => e = .returned (.bool true) ∧ Below w.heap.size w w' :=
  backB x.t x.k x.a x.n x.c name w hx
end Go.Proofs.Ytokkafekdaniaaa.B
