/-
  What is proved: the walk of CnfClean: it returns true.
-/
import Derived.Test.YthchjceibpcgbaaGreatDoorZCpV
import Derived.Test.YthchjceibpcgbaaGreatDoorZCpK
import Derived.Test.YthchjceibpcgbaaGreatDoorZCnP
import Derived.Test.YthchjceibpcgbaaGreatDoorZCnC
import Derived.Test.YthchjceibpcgbaaGreatDoorZCnR
import Derived.Test.YthchjceibpcgbaaGreatDoorZCnD
namespace Go.Proofs.YthchjceibpcgbaaGreatDoor.Cn
open Go.RowKit L Lt
set_option linter.unusedVariables false
set_option linter.unusedSimpArgs false

/-- a box made empty and then filled -/
theorem boxS (w : World) (N : Int) (a : Option Addr) (n c : Nat) : ∃ W1, w.alloc (.cells #[.int .i64 0, .slice none 0 0] 24) = W1 ∧ W1.frozen? ⟨w.heap.size, 0, none⟩ = false ∧ W1.frozen? ⟨w.heap.size, 1, none⟩ = false ∧ W1.cell? ⟨w.heap.size, 0, none⟩ = some (.int .i64 0) ∧ W1.cell? ⟨w.heap.size, 1, none⟩ = some (.slice none 0 0) ∧
    CBox ((W1.setCell ⟨w.heap.size, 0, none⟩ (.int .i64 N)).setCell ⟨w.heap.size, 1, none⟩ (.slice a n c)) w.heap.size N a n c ∧ Below w.heap.size w ((W1.setCell ⟨w.heap.size, 0, none⟩ (.int .i64 N)).setCell ⟨w.heap.size, 1, none⟩ (.slice a n c)) := by
  have h := CBox.new w 0 none 0 0
  exact ⟨_, rfl, h.free.1, h.free.2, h.two.1, h.two.2, (h.put0 N).put1 a n c, (((bel_alloc (Below.refl _ _) _).setCell (p := ⟨w.heap.size, 0, none⟩) (Nat.le_refl _) _).setCell (p := ⟨w.heap.size, 1, none⟩) (Nat.le_refl _) _)⟩
theorem lg_len {G : List (List Int)} {m : Int} (h : lgG G m = false) : (G.length : Int) ≤ m ∧ ∀ X ∈ G, X.length ≤ 70 := by
  unfold lgG at h
  rw [Bool.or_eq_false_iff] at h
  refine ⟨by have := of_decide_eq_false h.1; omega, fun X hX => ?_⟩
  have h2 := List.any_eq_false.1 h.2 X hX
  simp at h2; omega
theorem clC_r {G : List (List Int)} (h : ∀ X ∈ G, R64s X ∧ X.length ≤ 70) : ∀ X ∈ clC G, R64s X ∧ X.length ≤ 70 := fun X hX => by
  obtain ⟨Y, hY, rfl, _⟩ := (clC_mem _ _).1 hX
  exact ⟨cl_r (h Y hY).1, Nat.le_trans (cl_len Y) (h Y hY).2⟩
set_option maxRecDepth 100000 in
set_option maxHeartbeats 16000000 in
theorem cnfClean (z : CfZ) (b : Option Addr) (m d : Nat) (V : List Bool) (W : World) (h : z.ok W) (hm : m ≤ 9223372036854775807) (hV : SlB W b m d V) (HT : Dig.Tab W) :
    Calls Tryz.prog 4 #[z.val, .slice b m d] W fun e w' => e = .returned (.bool true) ∧ Below W.heap.size W w' := by
  obtain ⟨N, a, n, c, G⟩ := z
  show Calls Tryz.prog 4 #[.agg #[.int .i64 N, .slice a n c], .slice b m d] W _
  obtain ⟨W2, hW2, hB2, S2⟩ := boxC W N a n c
  have h2 := h.below hB2
  have HS := Lib.hid (show ∀ w', Below W2.heap.size W2 w' → (w'.cell? ⟨W.heap.size, 0, none⟩ = some (.int .i64 N) ∧ w'.cell? ⟨W.heap.size, 1, none⟩ = some (.slice a n c)) from fun w' hb => (S2.b hb).two)
  obtain ⟨s0, s1⟩ := S2.two
  have CA := Lib.hid (fun (w : World) (hb : Below W2.heap.size W2 w) => alive_any HT w (bel_trans hB2 hb))
  have CL := Lib.hid (fun (w : World) (hb : Below W2.heap.size W2 w) => RLong_any a n c G 40 w (h2.2.2.1.below hb) h2.2.1)
  have CQ := Lib.hid (fun (w : World) (hb : Below W2.heap.size W2 w) => (show Calls Tryz.prog 18 #[.agg #[.int .i64 N, .slice a n c]] w (fun e w' => e = .returned (.tuple #[.int .i64 (rgC N G).1, .int .i64 (rgC N G).2]) ∧ Below w.heap.size w w') from RRightC_any ⟨N, a, n, c, G⟩ w (h2.below hb)))
  have HB2 := Lib.hid hB2
  have B0 : Below W2.heap.size W2 W2 := Below.refl _ _
  by_cases hg : lgG G 40 = false ∧ (rgC N G).2 = 0 ∧ (m : Int) = N
  · obtain ⟨hlg, hrg, hmn⟩ := hg
    rw [hlg] at CL
    rw [hrg] at CQ
    obtain ⟨hl1, hl2⟩ := lg_len hlg
    have hG : ∀ X ∈ G, R64s X ∧ X.length ≤ 70 := fun X hX => ⟨(h.2.2.2 X hX).1, hl2 X hX⟩
    have hn40 : n ≤ 40 := by have h3 : n = G.length := h.2.2.1.1; omega
    have hNr : R64 N := h.1
    have HG := Lib.hid hG
    have HC := Lib.hid (clC_r hG)
    have HCl := Lib.hid (clC_len G)
    have HnG := Lib.hid (show n = G.length from h.2.2.1.1)
    have CC := Lib.hid (fun (w : World) (hb : Below W2.heap.size W2 w) => CClean_any N a n c G w (h2.2.2.1.below hb) (by omega) (fun X hX => ⟨(HG.out X hX).1, by have := (HG.out X hX).2; omega⟩))
    have hvl : (clC G).all (fun c => hld c V) = G.all (fun c => hld c V) := clC_hld (fun c hc => (hG c hc).1) (fun c hc x hx => by
      have h3 := (rg1_ok.1 ((rgC_ok.1 hrg).2.2 c hc)).2 x hx
      have h4 : m = V.length := hV.1
      omega)
    have hh1 := hdC_all G 0 V
    have hh2 := hdC_all (clC G) 0 V
    rw [hvl] at hh2
    have CH := Lib.hid (fun (w : World) (hb : Below W2.heap.size W2 w) => (show Calls Tryz.prog 8 #[.agg #[.int .i64 N, .slice a n c], .slice b m d] w (fun e w' => e = .returned (.tuple #[.int .i64 (hdC 0 G V).1, .bool (hdC 0 G V).2]) ∧ Below w.heap.size w w') from RHoldsC_any ⟨N, a, n, c, G⟩ b m d V w (h2.below hb) ((hV.below hB2).below hb) hm (fun X hX => by have := (HG.out X hX).2; omega)))
    have CK := Lib.hid (fun (A : Option Addr) (q k : Nat) (w : World) (hb : Below W2.heap.size W2 w) (hS : SlG w A q k (clC G)) => (show Calls Tryz.prog 8 #[.agg #[.int .i64 N, .slice A q k], .slice b m d] w (fun e w' => e = .returned (.tuple #[.int .i64 (hdC 0 (clC G) V).1, .bool (hdC 0 (clC G) V).2]) ∧ Below w.heap.size w w') from RHoldsC_any ⟨N, A, q, k, clC G⟩ b m d V w ⟨hNr, by show q ≤ _; rw [hS.1]; have := HCl.out; have := HnG.out; omega, hS, fun X hX => ⟨(HC.out X hX).1, by have := (HC.out X hX).2; omega⟩⟩ ((hV.below hB2).below hb) hm (fun X hX => by have := (HC.out X hX).2; omega)))
    have CC2 := Lib.hid (fun (A : Option Addr) (q k : Nat) (w : World) (hS : SlG w A q k (clC G)) => by
      have := CClean_any N A q k (clC G) w hS (by rw [hS.1]; have := HCl.out; have := HnG.out; omega) (fun X hX => ⟨(HC.out X hX).1, by have := (HC.out X hX).2; omega⟩)
      rwa [clC_clC] at this)
    have CB := Lib.hid (fun (A : Option Addr) (q k : Nat) (A' : Option Addr) (q' k' : Nat) (w : World) (hS : SlG w A q k (clC G)) (hS' : SlG w A' q' k' (clC G)) => CnfB_any N A q k (clC G) N A' q' k' (clC G) w hS hS' (by rw [hS.1]; have := HCl.out; have := HnG.out; omega) (fun X hX => by have := (HC.out X hX).2; omega))
    simp only [decide_true, Bool.and_self, and_self] at CB
    have hq := Lib.hid (show ∀ (w : World) A q k, SlG w A q k (clC G) → q ≤ n ∧ (q : Int) ≤ (n : Int) ∧ q ≤ 40 from fun w A q k hS => by have h1 := hS.1; have := HCl.out; have := HnG.out; omega)
    have q1 : ((m : Int) != N) = false := by simp [hmn]
    clear h h2 hB2 S2 HT hV hlg hrg hmn hl1 hl2 hG hvl
    rw [hh1] at CH
    rw [hh2] at CK
    generalize (hdC 0 G V).1 = R1 at *
    generalize (hdC 0 (clC G) V).1 = R2 at *
    generalize G.all (fun c => hld c V) = rr at *
    generalize (rgC N G).1 = R3 at *
    have q2 : (rr == rr) = true := by simp
    clear hh1 hh2 HG HC HCl
    generalize clC G = K at *
    go_enter Tryz.func4, Tryz.ntmps4
    go_wp2_with (first
      | (go_at_call 5; ((with_reducible refine (CA.out _ (by assumption)).mono ?_); rintro e w1 ⟨rfl, b1⟩; have B1 := bel_trans (a := W2) (by assumption) b1; obtain ⟨u0, u1⟩ := HS.out _ B1; clear b1))
      | (go_at_call 18; ((with_reducible refine (CQ.out _ (by assumption)).mono ?_); rintro e w2 ⟨rfl, b2⟩; have B2 := bel_trans (a := W2) (by assumption) b2; obtain ⟨v0, v1⟩ := HS.out _ B2; clear b2))
      | (go_at_call 6; ((with_reducible refine (CL.out _ (by assumption)).mono ?_); rintro e w3 ⟨rfl, rfl⟩))
      | (go_at_call 10; ((with_reducible refine (CC.out _ B2).mono ?_); rintro e w4 ⟨A4, q4, k4, rfl, hS4, b4⟩; have B4 := bel_trans B2 b4; obtain ⟨W4, hW4, f0, f1, g0, g1, T4, b4'⟩ := boxS w4 N A4 q4 k4; have B5 := bel_trans B4 b4'; have HS5 := Lib.hid (hS4.below b4'); have hQ := hq.out _ _ _ _ hS4; obtain ⟨x0, x1⟩ := HS.out _ B5; obtain ⟨y0, y1⟩ := T4.two; have HT5 := Lib.hid T4; clear hS4 b4 b4' T4))
      | (go_at_call 8; ((with_reducible refine (CH.out _ B5).mono ?_); rintro e w6 ⟨rfl, b6⟩; have B6 := bel_trans B5 b6; obtain ⟨z0, z1⟩ := (HT5.out.b b6).two; have HS6 := Lib.hid (HS5.out.below b6); have HT6 := Lib.hid (HT5.out.b b6); clear b6))
      | (go_at_call 8; ((with_reducible refine (CK.out _ _ _ _ B6 HS6.out).mono ?_); rintro e w7 ⟨rfl, b7⟩; have B7 := bel_trans B6 b7; obtain ⟨p0, p1⟩ := (HT6.out.b b7).two; obtain ⟨o0, o1⟩ := HS.out _ B7; have HS7 := Lib.hid (HS6.out.below b7); have HT7 := Lib.hid (HT6.out.b b7); clear b7)))
    have C2 := fun w (hb : Below w7.heap.size w7 w) => CC2.out A4 q4 k4 w (HS7.out.below hb)
    have hd : Below w7.heap.size w7 w7.drew := (Below.refl _ _).drew
    obtain ⟨d0, d1⟩ := (HT7.out.b hd).two
    obtain ⟨e0, e1⟩ := HS.out _ (bel_trans B7 hd)
    have hq2 := hQ.2.1
    have q3 : decide ((q4 : Int) ≤ (n : Int)) = true := decide_eq_true hq2
    go_wp2_with fail
    go_region_with (first
      | (go_at_call 10; ((with_reducible refine (C2 _ hd).mono ?_); rintro e w8 ⟨A8, q8, k8, rfl, hS8, b8⟩; have B8 := Lib.hid (bel_trans hd b8 : Below w7.heap.size w7 w8); obtain ⟨r0, r1⟩ := (HT7.out.b B8.out).two; obtain ⟨r2, r3⟩ := HS.out _ (bel_trans B7 B8.out); have cB := CB.out _ _ _ _ _ _ _ hS8 (HS7.out.below B8.out); clear hS8 b8))
      | (go_at_call 9; ((with_reducible refine cB.mono ?_); rintro e w9 ⟨rfl, b9⟩; have B9 := Lib.hid (bel_trans B8.out b9 : Below w7.heap.size w7 w9); obtain ⟨i0, i1⟩ := (HT7.out.b B9.out).two; obtain ⟨i2, i3⟩ := HS.out _ (bel_trans B7 B9.out); clear b9)))
    all_goals go_wp2
    all_goals go_ret
    all_goals exact ⟨rfl, bel_trans HB2.out (bel_trans B7 B9.out)⟩
  · clear h h2 hB2 S2 HT hV
    generalize (rgC N G).1 = R3 at *
    generalize (rgC N G).2 = R2 at *
    generalize lgG G 40 = lg at *
    cases lg
    · by_cases hr : R2 = 0
      · have hmn : (m : Int) ≠ N := fun e => hg ⟨rfl, hr, e⟩
        have q1 : ((m : Int) != N) = true := by simp [hmn]
        subst hr
        clear hg hmn
        go_enter Tryz.func4, Tryz.ntmps4
        go_wp2_with (first
          | (go_at_call 5; ((with_reducible refine (CA.out _ (by assumption)).mono ?_); rintro e w1 ⟨rfl, b1⟩; have B1 := bel_trans (a := W2) (by assumption) b1; obtain ⟨u0, u1⟩ := HS.out _ B1; clear b1))
          | (go_at_call 18; ((with_reducible refine (CQ.out _ (by assumption)).mono ?_); rintro e w2 ⟨rfl, b2⟩; have B2 := bel_trans (a := W2) (by assumption) b2; obtain ⟨v0, v1⟩ := HS.out _ B2; clear b2))
          | (go_at_call 6; ((with_reducible refine (CL.out _ (by assumption)).mono ?_); rintro e w3 ⟨rfl, rfl⟩)))
        go_ret
        exact ⟨rfl, bel_trans HB2.out B2⟩
      · have q1 : (R2 != 0) = true := by simp [hr]
        clear hg hr
        go_enter Tryz.func4, Tryz.ntmps4
        go_wp2_with (first
          | (go_at_call 5; ((with_reducible refine (CA.out _ (by assumption)).mono ?_); rintro e w1 ⟨rfl, b1⟩; have B1 := bel_trans (a := W2) (by assumption) b1; obtain ⟨u0, u1⟩ := HS.out _ B1; clear b1))
          | (go_at_call 18; ((with_reducible refine (CQ.out _ (by assumption)).mono ?_); rintro e w2 ⟨rfl, b2⟩; have B2 := bel_trans (a := W2) (by assumption) b2; obtain ⟨v0, v1⟩ := HS.out _ B2; clear b2))
          | (go_at_call 6; ((with_reducible refine (CL.out _ (by assumption)).mono ?_); rintro e w3 ⟨rfl, rfl⟩)))
        go_ret
        exact ⟨rfl, bel_trans HB2.out B2⟩
    · clear hg
      go_enter Tryz.func4, Tryz.ntmps4
      go_wp2_with (first
        | (go_at_call 5; ((with_reducible refine (CA.out _ (by assumption)).mono ?_); rintro e w1 ⟨rfl, b1⟩; have B1 := bel_trans (a := W2) (by assumption) b1; obtain ⟨u0, u1⟩ := HS.out _ B1; clear b1))
        | (go_at_call 18; ((with_reducible refine (CQ.out _ (by assumption)).mono ?_); rintro e w2 ⟨rfl, b2⟩; have B2 := bel_trans (a := W2) (by assumption) b2; obtain ⟨v0, v1⟩ := HS.out _ B2; clear b2))
        | (go_at_call 6; ((with_reducible refine (CL.out _ (by assumption)).mono ?_); rintro e w3 ⟨rfl, rfl⟩)))
      go_ret
      exact ⟨rfl, bel_trans HB2.out B2⟩
end Go.Proofs.YthchjceibpcgbaaGreatDoor.Cn
