/-
  What is proved: the walk of CnfTells: it returns true.
-/
import Derived.Test.YthchjceibpcgbaaGreatDoorZCnLc
import Derived.Test.YthchjceibpcgbaaGreatDoorGM
import Derived.Deep.RegionHeld3
import Derived.Test.YthchjceibpcgbaaGreatDoorPB
import Derived.Test.YthchjceibpcgbaaGreatDoorZCpU
import Derived.Test.YthchjceibpcgbaaGreatDoorZCnV
import Derived.Test.YthchjceibpcgbaaGreatDoorCT
import Derived.Test.YthchjceibpcgbaaGreatDoorLC
namespace Go.Proofs.YthchjceibpcgbaaGreatDoor.Cn
open Go.RowKit L Lt Fi
set_option linter.unusedVariables false
set_option linter.unusedSimpArgs false

set_option maxRecDepth 100000 in
set_option maxHeartbeats 16000000 in
theorem cnfTells (z : CfZ) (z' : CfZ) (b : Option Addr) (m d : Nat) (V : List Bool) (W : World) (h : z.ok W) (h' : z'.ok W) (hm : m ≤ 9223372036854775807) (hV : SlB W b m d V) (HT : Dig.Tab W) :
    Calls Tryz.prog 3 #[z.val, z'.val, .slice b m d] W fun e w' => e = .returned (.bool true) ∧ Below W.heap.size W w' := by
  obtain ⟨N, a, n, c, G⟩ := z
  obtain ⟨M, a', n', c', K⟩ := z'
  show Calls Tryz.prog 3 #[.agg #[.int .i64 N, .slice a n c], .agg #[.int .i64 M, .slice a' n' c'], .slice b m d] W _
  obtain ⟨W2, hW2, hB2, S2, S2'⟩ := boxC2 W N a n c M a' n' c'
  have h2 := h.below hB2
  have h2' := h'.below hB2
  have HS := Lib.hid (show ∀ w', Below W2.heap.size W2 w' → (w'.cell? ⟨W.heap.size, 0, none⟩ = some (.int .i64 N) ∧ w'.cell? ⟨W.heap.size, 1, none⟩ = some (.slice a n c)) ∧ (w'.cell? ⟨W.heap.size + 1, 0, none⟩ = some (.int .i64 M) ∧ w'.cell? ⟨W.heap.size + 1, 1, none⟩ = some (.slice a' n' c')) from fun w' hb => ⟨(S2.b hb).two, (S2'.b hb).two⟩)
  obtain ⟨s0, s1⟩ := S2.two
  obtain ⟨s2, s3⟩ := S2'.two
  have CA := Lib.hid (fun (w : World) (hb : Below W2.heap.size W2 w) => alive_any HT w (bel_trans hB2 hb))
  have CL := Lib.hid (fun (w : World) (hb : Below W2.heap.size W2 w) => RLong_any a n c G 40 w (h2.2.2.1.below hb) h2.2.1)
  have CL' := Lib.hid (fun (w : World) (hb : Below W2.heap.size W2 w) => RLong_any a' n' c' K 40 w (h2'.2.2.1.below hb) h2'.2.1)
  have HB2 := Lib.hid hB2
  have B0 : Below W2.heap.size W2 W2 := Below.refl _ _
  by_cases hg : lgG G 40 = false ∧ lgG K 40 = false ∧ m ≤ 2000
  · obtain ⟨hlg, hlg', hm2⟩ := hg
    rw [hlg] at CL
    rw [hlg'] at CL'
    obtain ⟨hl1, hl2⟩ := lg_len hlg
    obtain ⟨hl1', hl2'⟩ := lg_len hlg'
    have hG : ∀ X ∈ G, R64s X ∧ X.length ≤ 70 := fun X hX => ⟨(h.2.2.2 X hX).1, hl2 X hX⟩
    have hK : ∀ X ∈ K, R64s X ∧ X.length ≤ 70 := fun X hX => ⟨(h'.2.2.2 X hX).1, hl2' X hX⟩
    have hn40 : n ≤ 40 := by have h3 : n = G.length := h.2.2.1.1; omega
    have hn40' : n' ≤ 40 := by have h3 : n' = K.length := h'.2.2.1.1; omega
    have g1 : ∀ X ∈ G, R64s X ∧ X.length ≤ 1000000 := fun X hX => ⟨(hG X hX).1, by have := (hG X hX).2; omega⟩
    have g2 : ∀ X ∈ G, X.length ≤ 1000000000 := fun X hX => by have := (hG X hX).2; omega
    have k2 : ∀ X ∈ K, X.length ≤ 1000000000 := fun X hX => by have := (hK X hX).2; omega
    have g3 : ∀ X ∈ G, R64s X ∧ X.length ≤ 1000 := fun X hX => ⟨(hG X hX).1, by have := (hG X hX).2; omega⟩
    have g4 : ∀ X ∈ G, R64s X ∧ X.length ≤ 1000000000 := fun X hX => ⟨(hG X hX).1, by have := (hG X hX).2; omega⟩
    have k4 : ∀ X ∈ K, R64s X ∧ X.length ≤ 1000000000 := fun X hX => ⟨(hK X hX).1, by have := (hK X hX).2; omega⟩
    have gk : ∀ X ∈ G ++ K, X.length ≤ 9223372036854775807 := fun X hX => by
      rcases List.mem_append.1 hX with h1 | h1
      · have := g2 X h1; omega
      · have := k2 X h1; omega
    have gc : ∀ X ∈ clC G, X.length ≤ 9223372036854775807 := fun X hX => by have := (clC_r hG X hX).2; omega
    have CH := Lib.hid (fun (w : World) (hb : Below W2.heap.size W2 w) => (show Calls Tryz.prog 7 #[.agg #[.int .i64 N, .slice a n c], .slice b m d] w (fun e w' => e = .returned (.tuple #[.int .i64 (hdC 0 G V).1, .bool (hdC 0 G V).2]) ∧ Below w.heap.size w w') from CHolds_any ⟨N, a, n, c, G⟩ b m d V w (h2.below hb) ((hV.below hB2).below hb) hm g2))
    have CH' := Lib.hid (fun (w : World) (hb : Below W2.heap.size W2 w) => (show Calls Tryz.prog 8 #[.agg #[.int .i64 N, .slice a n c], .slice b m d] w (fun e w' => e = .returned (.tuple #[.int .i64 (hdC 0 G V).1, .bool (hdC 0 G V).2]) ∧ Below w.heap.size w w') from RHoldsC_any ⟨N, a, n, c, G⟩ b m d V w (h2.below hb) ((hV.below hB2).below hb) hm g2))
    have CC := Lib.hid (fun (w : World) (hb : Below W2.heap.size W2 w) => CClean_any N a n c G w (h2.2.2.1.below hb) (by omega) g1)
    have CC' := Lib.hid (fun (w : World) (hb : Below W2.heap.size W2 w) => RCClean_any N a n c G w (h2.2.2.1.below hb) (by omega) g1)
    have CB := Lib.hid (fun (A : Option Addr) (q k : Nat) (A' : Option Addr) (q' k' : Nat) (w : World) (hS : SlG w A q k (clC G)) (hS' : SlG w A' q' k' (clC G)) => CnfB_any N A q k (clC G) N A' q' k' (clC G) w hS hS' (by rw [hS.1]; have := clC_len G; omega) gc)
    simp only [decide_true, Bool.and_self, and_self] at CB
    have CD := Lib.hid (fun (w : World) (hb : Below W2.heap.size W2 w) => CAdd_any N a n c G a' n' c' K w (h2.2.2.1.below hb) (h2'.2.2.1.below hb) (by omega) (by omega) g2 k2)
    have hgk : (G ++ K).length ≤ 80 := by rw [List.length_append]; omega
    have CB' := Lib.hid (fun (A : Option Addr) (q k : Nat) (A' : Option Addr) (q' k' : Nat) (w : World) (hS : SlG w A q k (G ++ K)) (hS' : SlG w A' q' k' (G ++ K)) => CnfB_any N A q k (G ++ K) N A' q' k' (G ++ K) w hS hS' (by rw [hS.1]; omega) gk)
    simp only [decide_true, Bool.and_self, and_self] at CB'
    have CV := Lib.hid (fun (w : World) (hb : Below W2.heap.size W2 w) => CVars_any N a n c G w (h2.2.2.1.below hb) (by omega) g3)
    have CV' := Lib.hid (fun (w : World) (hb : Below W2.heap.size W2 w) => RVars_any N a n c G w (h2.2.2.1.below hb) (by omega) g3)
    have hvl : (vrC G).length ≤ 100000 := by have := vrC_len (G := G) (fun X hX => (g3 X hX).2); omega
    have CI := Lib.hid (fun (A : Option Addr) (q k : Nat) (A' : Option Addr) (q' k' : Nat) (w : World) (hS : SlI w A q k (vrC G)) (hS' : SlI w A' q' k' (vrC G)) => Ints_any A q k (vrC G) A' q' k' (vrC G) w hS hS' (by rw [hS.1]; omega))
    simp only [decide_true] at CI
    have CS := Lib.hid (fun (w : World) (hb : Below W2.heap.size W2 w) => CSame_any N a n c G M a' n' c' K w (h2.2.2.1.below hb) (h2'.2.2.1.below hb) h2.2.1 h2'.2.1 g4 k4)
    have CS' := Lib.hid (fun (w : World) (hb : Below W2.heap.size W2 w) => RSameC_any N a n c G M a' n' c' K w (h2.2.2.1.below hb) (h2'.2.2.1.below hb) h2.2.1 g2 k2)
    have CE := Lib.hid (fun (w : World) (hb : Below W2.heap.size W2 w) => CSame_any N a n c G N a n c G w (h2.2.2.1.below hb) (h2.2.2.1.below hb) h2.2.1 h2.2.1 g4 g4)
    simp only [smC_self] at CE
    have HG := Lib.hid (fun (w : World) (hb : Below W2.heap.size W2 w) => h2.2.2.1.below hb)
    have HK := Lib.hid (fun (w : World) (hb : Below W2.heap.size W2 w) => h2'.2.2.1.below hb)
    have q0 : decide ((m : Int) > 2000) = false := decide_eq_false (by omega)
    clear h h' h2 h2' hB2 S2 S2' HT hV hlg hlg' hG hK g1 g2 g3 g4 k2 k4 gk gc hvl
    generalize smC N G M K = sm at *
    have q3 : (sm == sm) = true := by simp
    generalize (hdC 0 G V).1 = R1 at *
    generalize (hdC 0 G V).2 = rr at *
    have q1 : (R1 != R1) = false := by simp
    have q2 : (rr != rr) = false := by simp
    generalize clC G = CG at *
    generalize vrC G = VG at *
    have HGl := Lib.hid hgk
    clear hgk
    go_enter Tryz.func3, Tryz.ntmps3
    go_wp2_with (first
      | (go_at_call 5; ((with_reducible refine (CA.out _ (by assumption)).mono ?_); rintro e w1 ⟨rfl, b1⟩; have B1 := bel_trans (a := W2) (by assumption) b1; obtain ⟨⟨u0, u1⟩, u2, u3⟩ := HS.out _ B1; clear b1))
      | (go_at_call 6; ((with_reducible refine (CL.out _ (by assumption)).mono ?_); rintro e w2 ⟨rfl, rfl⟩))
      | (go_at_call 6; ((with_reducible refine (CL'.out _ (by assumption)).mono ?_); rintro e w2 ⟨rfl, rfl⟩))
      | (go_at_call 7; ((with_reducible refine (CH.out _ B1).mono ?_); rintro e w4 ⟨rfl, b4⟩; have B4 := bel_trans B1 b4; obtain ⟨⟨v0, v1⟩, v2, v3⟩ := HS.out _ B4; clear b4))
      | (go_at_call 8; ((with_reducible refine (CH'.out _ B4).mono ?_); rintro e w5 ⟨rfl, b5⟩; have B5 := bel_trans B4 b5; obtain ⟨⟨x0, x1⟩, x2, x3⟩ := HS.out _ B5; clear b5)))
    have HSk := Lib.hid (show ∀ w', Below w5.heap.size w5 w' → w'.cell? ⟨W.heap.size, 0, none⟩ = some (.int .i64 N) ∧ w'.cell? ⟨W.heap.size, 1, none⟩ = some (.slice a n c) ∧ w'.cell? ⟨W.heap.size + 1, 1, none⟩ = some (.slice a' n' c') from fun w' hb => have h := HS.out _ (bel_trans B5 hb); ⟨h.1.1, h.1.2, h.2.2⟩)
    have lG := Lib.hid (show ∀ w, Below w5.heap.size w5 w → SlGP (fun q => q < w5.heap.size) w a n c G from fun w hb => (HG.out w5 B5).low.below hb)
    have lK := Lib.hid (show ∀ w, Below w5.heap.size w5 w → SlGP (fun q => q < w5.heap.size) w a' n' c' K from fun w hb => (HK.out w5 B5).low.below hb)
    have hl1 : ([] : List (List Int)).length + n ≤ 1000000000 := by simp; omega
    have hl2 : ([] ++ G).length + n' ≤ 1000000000 := by have := (HG.out w5 B5).1; simp only [List.nil_append]; omega
    obtain ⟨L, hL⟩ : ∃ L, ([] ++ G ++ K).length = L := ⟨_, rfl⟩
    have hL80 : L ≤ 80 := by have := HGl.out; rw [← hL]; exact this
    go_wp2_with fail
    go_region_held3 (fun w' => w'.cell? ⟨W.heap.size, 0, none⟩ = some (.int .i64 N) ∧ w'.cell? ⟨W.heap.size, 1, none⟩ = some (.slice a n c) ∧ w'.cell? ⟨W.heap.size + 1, 1, none⟩ = some (.slice a' n' c')) (first | exact HSk.out _ (HF.out.2.2) | exact HSk.out _ (B7.out) | exact HSk.out _ (bel_alloc B7.out _) | exact HSk.out _ (HT6.out.2.1) | exact HSk.out _ (bel_alloc HT6.out.2.1 _) | exact HSk.out _ ((Below.refl _ _).drew) | exact HSk.out _ (bel_alloc (Below.refl _ _) _) | exact HSk.out _ ((bel_alloc (Below.refl _ _) _).drew) | exact HSk.out _ (bel_alloc (bel_alloc (Below.refl _ _) _) _) | exact HSk.out _ ((bel_alloc (bel_alloc (Below.refl _ _) _) _).drew) | exact HSk.out _ (bel_alloc (bel_alloc (Below.refl _ _) _).drew _) | exact HSk.out _ (Below.refl _ _)) (first
      | (refine step_TB (by rfl) _ _ (by rfl) w5 (.slice (some ⟨w5.heap.size, 0, none⟩) 0 0) [] _ (by rfl) (TB.sb w5) a n c G (by rfl) lG.out hl1 ?_; intro v6 w6 h6; have HT6 := Lib.hid h6; clear h6)
      | (refine step_TB (by rfl) _ _ (by rfl) w5 (.slice (some ⟨w5.heap.size, 0, none⟩) 0 0) [] _ (by rfl) (TB.drew (TB.sb w5)) a n c G (by rfl) lG.out hl1 ?_; intro v6 w6 h6; have HT6 := Lib.hid h6; clear h6)
      | (refine step_TB (by rfl) _ _ (by rfl) w5 (.slice (some ⟨w5.heap.size, 0, none⟩) 0 0) [] _ (by rfl) (TB.sdb w5) a n c G (by rfl) lG.out hl1 ?_; intro v6 w6 h6; have HT6 := Lib.hid h6; clear h6)
      | (refine step_TB (by rfl) _ _ (by rfl) w5 (.slice (some ⟨w5.heap.size, 0, none⟩) 0 0) [] _ (by rfl) (TB.s w5) a n c G (by rfl) lG.out hl1 ?_; intro v6 w6 h6; have HT6 := Lib.hid h6; clear h6)
      | (refine step_TB (by rfl) _ _ (by rfl) w5 (.slice (some ⟨w5.heap.size, 0, none⟩) 0 0) [] _ (by rfl) (TB.drew (TB.s w5)) a n c G (by rfl) lG.out hl1 ?_; intro v6 w6 h6; have HT6 := Lib.hid h6; clear h6)
      | (refine step_TB (by rfl) _ _ (by rfl) w5 (.slice (some ⟨w5.heap.size + 1, 0, none⟩) 0 0) [] _ (by rfl) (TB.ls w5) a n c G (by rfl) lG.out hl1 ?_; intro v6 w6 h6; have HT6 := Lib.hid h6; clear h6)
      | (refine step_TB (by rfl) _ _ (by rfl) w5 (.slice (some ⟨w5.heap.size + 1, 0, none⟩) 0 0) [] _ (by rfl) (TB.drew (TB.ls w5)) a n c G (by rfl) lG.out hl1 ?_; intro v6 w6 h6; have HT6 := Lib.hid h6; clear h6)
      | (refine step_TB (by rfl) _ _ (by rfl) w5 (.slice (some ⟨w5.heap.size + 1, 0, none⟩) 0 0) [] _ (by rfl) (TB.lds w5) a n c G (by rfl) lG.out hl1 ?_; intro v6 w6 h6; have HT6 := Lib.hid h6; clear h6)
      | (refine step_TB (by rfl) _ _ (by rfl) w5 v6 ([] ++ G) _ (by rfl) (HT6.out) a' n' c' K (by rfl) lK.out hl2 ?_; intro v7 w7 h7; obtain ⟨A7, k7, rfl, ⟨f0, f1, i0, i1⟩, hF⟩ := TB.fin N L hL (h7); have HF := Lib.hid hF; have B7 := Lib.hid h7.2.1; clear hF h7)
      | (refine step_TB (by rfl) _ _ (by rfl) w5 v6 ([] ++ G) _ (by rfl) (HT6.out) a' n' c' K (by rfl) lK.out hl2 ?_; intro v7 w7 h7; obtain ⟨A7, k7, rfl, ⟨f0, f1, i0, i1⟩, hF⟩ := TB.fin1 N L hL (h7); have HF := Lib.hid hF; have B7 := Lib.hid h7.2.1; clear hF h7)
      | (refine step_TB (by rfl) _ _ (by rfl) w5 v6 ([] ++ G) _ (by rfl) (TB.box HT6.out) a' n' c' K (by rfl) lK.out hl2 ?_; intro v7 w7 h7; obtain ⟨A7, k7, rfl, ⟨f0, f1, i0, i1⟩, hF⟩ := TB.fin N L hL (h7); have HF := Lib.hid hF; have B7 := Lib.hid h7.2.1; clear hF h7))
    · obtain ⟨T8, S8, b8⟩ := HF.out
      obtain ⟨w8, hw8⟩ : ∃ w8, (w7.alloc (.cells #[.int .i64 N, .slice A7 L k7] 24)) = w8 := ⟨_, rfl⟩
      rw [hw8] at T8 S8 b8
      try rw [hw8]
      have B8 : Below W2.heap.size W2 w8 := bel_trans B5 b8
      have HSb := Lib.hid (show ∀ w', Below w8.heap.size w8 w' → w'.cell? ⟨W.heap.size, 0, none⟩ = some (.int .i64 N) ∧ w'.cell? ⟨W.heap.size, 1, none⟩ = some (.slice a n c) ∧ w'.cell? ⟨W.heap.size + 1, 0, none⟩ = some (.int .i64 M) ∧ w'.cell? ⟨W.heap.size + 1, 1, none⟩ = some (.slice a' n' c') ∧ w'.cell? ⟨w7.heap.size, 0, none⟩ = some (.int .i64 N) ∧ w'.cell? ⟨w7.heap.size, 1, none⟩ = some (.slice A7 L k7) from fun w' hb => have h := HS.out _ (bel_trans B8 hb); have h2 := (T8.b hb).two; ⟨h.1.1, h.1.2, h.2.1, h.2.2, h2.1, h2.2⟩)
      have S8' := Lib.hid (show ∀ w', Below w8.heap.size w8 w' → SlG w' A7 L k7 (G ++ K) from fun w' hb => S8.below hb)
      have R0 := Lib.hid (show Below w8.heap.size w8 w8 from Below.refl _ _)
      have R0d := Lib.hid (show Below w8.heap.size w8 w8.drew from (Below.refl _ _).drew)
      have BB := Lib.hid (show ∀ w', Below w8.heap.size w8 w' → Below W2.heap.size W2 w' from fun w' hb => bel_trans B8 hb)
      obtain ⟨l0, l1, l2, l3, l4, l5⟩ := HSb.out _ R0.out
      clear B7 HF T8 S8 b8
      go_wp2_with fail
      go_region_held3 (fun w' => w'.cell? ⟨W.heap.size, 0, none⟩ = some (.int .i64 N) ∧ w'.cell? ⟨W.heap.size, 1, none⟩ = some (.slice a n c) ∧ w'.cell? ⟨W.heap.size + 1, 0, none⟩ = some (.int .i64 M) ∧ w'.cell? ⟨W.heap.size + 1, 1, none⟩ = some (.slice a' n' c') ∧ w'.cell? ⟨w7.heap.size, 0, none⟩ = some (.int .i64 N) ∧ w'.cell? ⟨w7.heap.size, 1, none⟩ = some (.slice A7 L k7)) (first | exact HSb.out _ R13.out | exact HSb.out _ R12.out | exact HSb.out _ R11.out | exact HSb.out _ R10.out | exact HSb.out _ R9.out | exact HSb.out _ R0.out | exact HSb.out _ R0d.out) (first
        | (go_at_call 10; ((with_reducible refine (CC.out _ (BB.out _ (by first | exact R0.out | exact R0d.out))).mono ?_); rintro e w9 ⟨A9, q9, k9, rfl, hS9, b9⟩; have R9 := Lib.hid (show Below w8.heap.size w8 w9 from bel_trans (by first | exact R0.out | exact R0d.out) b9); have H9 := Lib.hid hS9; clear hS9 b9))
        | (go_at_call 11; ((with_reducible refine (CC'.out _ (BB.out _ R9.out)).mono ?_); rintro e w10 ⟨A10, q10, k10, rfl, hS10, b10⟩; have R10 := Lib.hid (show Below w8.heap.size w8 w10 from bel_trans R9.out b10); have H10 := Lib.hid hS10; have cB := CB.out _ _ _ _ _ _ _ (H9.out.below b10) hS10; clear hS10 b10))
        | (go_at_call 9; ((with_reducible refine (cB).mono ?_); rintro e w11 ⟨rfl, b11⟩; have R11 := Lib.hid (show Below w8.heap.size w8 w11 from bel_trans R10.out b11); clear cB b11))
        | (go_at_call 12; ((with_reducible refine (CD.out _ (BB.out _ R11.out)).mono ?_); rintro e w12 ⟨A12, q12, k12, rfl, hS12, b12⟩; have R12 := Lib.hid (show Below w8.heap.size w8 w12 from bel_trans R11.out b12); have cB' := CB'.out _ _ _ _ _ _ _ hS12 (S8'.out _ R12.out); clear hS12 b12))
        | (go_at_call 9; ((with_reducible refine (cB').mono ?_); rintro e w13 ⟨rfl, b13⟩; have R13 := Lib.hid (show Below w8.heap.size w8 w13 from bel_trans R12.out b13); clear cB' b13)))
      all_goals obtain ⟨m0, m1, m2, m3, m4, m5⟩ := HSb.out _ R13.out
      all_goals go_wp2_with fail
      all_goals go_region_held3 (fun w' => w'.cell? ⟨W.heap.size, 0, none⟩ = some (.int .i64 N) ∧ w'.cell? ⟨W.heap.size, 1, none⟩ = some (.slice a n c) ∧ w'.cell? ⟨W.heap.size + 1, 0, none⟩ = some (.int .i64 M) ∧ w'.cell? ⟨W.heap.size + 1, 1, none⟩ = some (.slice a' n' c') ∧ w'.cell? ⟨w7.heap.size, 0, none⟩ = some (.int .i64 N) ∧ w'.cell? ⟨w7.heap.size, 1, none⟩ = some (.slice A7 L k7)) (first | exact HSb.out _ R19.out | exact HSb.out _ R18.out | exact HSb.out _ R17.out | exact HSb.out _ R16.out | exact HSb.out _ R15.out | exact HSb.out _ R14.out | exact HSb.out _ R13.out | exact HSb.out _ R13.out.drew) (first
        | (go_at_call 14; ((with_reducible refine (CV.out _ (BB.out _ (by first | exact R13.out | exact R13.out.drew))).mono ?_); rintro e w14 ⟨A14, q14, k14, rfl, hS14, b14⟩; have R14 := Lib.hid (show Below w8.heap.size w8 w14 from bel_trans (by first | exact R13.out | exact R13.out.drew) b14); have H14 := Lib.hid hS14; clear hS14 b14))
        | (go_at_call 15; ((with_reducible refine (CV'.out _ (BB.out _ R14.out)).mono ?_); rintro e w15 ⟨A15, q15, k15, rfl, hS15, b15⟩; have R15 := Lib.hid (show Below w8.heap.size w8 w15 from bel_trans R14.out b15); have cI := CI.out _ _ _ _ _ _ _ (H14.out.below b15) hS15; clear hS15 b15))
        | (go_at_call 13; ((with_reducible refine (cI).mono ?_); rintro e w16 ⟨rfl, b16⟩; have R16 := Lib.hid (show Below w8.heap.size w8 w16 from bel_trans R15.out b16); clear cI b16))
        | (go_at_call 16; ((with_reducible refine (CS.out _ (BB.out _ R16.out)).mono ?_); rintro e w17 ⟨rfl, b17⟩; have R17 := Lib.hid (show Below w8.heap.size w8 w17 from bel_trans R16.out b17); clear b17))
        | (go_at_call 17; ((with_reducible refine (CS'.out _ (BB.out _ R17.out)).mono ?_); rintro e w18 ⟨rfl, b18⟩; have R18 := Lib.hid (show Below w8.heap.size w8 w18 from bel_trans R17.out b18); clear b18))
        | (go_at_call 16; ((with_reducible refine (CE.out _ (BB.out _ R18.out)).mono ?_); rintro e w19 ⟨rfl, b19⟩; have R19 := Lib.hid (show Below w8.heap.size w8 w19 from bel_trans R18.out b19); clear b19)))
      all_goals go_wp2
      all_goals go_ret
      all_goals exact ⟨rfl, bel_trans HB2.out (BB.out _ R19.out)⟩
    · obtain ⟨T8, S8, b8⟩ := HF.out
      obtain ⟨w8, hw8⟩ : ∃ w8, ((w7.setCell ⟨w6.heap.size, 0, none⟩ (.int .i64 N)).setCell ⟨w6.heap.size, 1, none⟩ (.slice A7 L k7)) = w8 := ⟨_, rfl⟩
      rw [hw8] at T8 S8 b8
      try rw [hw8]
      have B8 : Below W2.heap.size W2 w8 := bel_trans B5 b8
      have HSb := Lib.hid (show ∀ w', Below w8.heap.size w8 w' → w'.cell? ⟨W.heap.size, 0, none⟩ = some (.int .i64 N) ∧ w'.cell? ⟨W.heap.size, 1, none⟩ = some (.slice a n c) ∧ w'.cell? ⟨W.heap.size + 1, 0, none⟩ = some (.int .i64 M) ∧ w'.cell? ⟨W.heap.size + 1, 1, none⟩ = some (.slice a' n' c') ∧ w'.cell? ⟨w6.heap.size, 0, none⟩ = some (.int .i64 N) ∧ w'.cell? ⟨w6.heap.size, 1, none⟩ = some (.slice A7 L k7) from fun w' hb => have h := HS.out _ (bel_trans B8 hb); have h2 := (T8.b hb).two; ⟨h.1.1, h.1.2, h.2.1, h.2.2, h2.1, h2.2⟩)
      have S8' := Lib.hid (show ∀ w', Below w8.heap.size w8 w' → SlG w' A7 L k7 (G ++ K) from fun w' hb => S8.below hb)
      have R0 := Lib.hid (show Below w8.heap.size w8 w8 from Below.refl _ _)
      have R0d := Lib.hid (show Below w8.heap.size w8 w8.drew from (Below.refl _ _).drew)
      have BB := Lib.hid (show ∀ w', Below w8.heap.size w8 w' → Below W2.heap.size W2 w' from fun w' hb => bel_trans B8 hb)
      obtain ⟨l0, l1, l2, l3, l4, l5⟩ := HSb.out _ R0.out
      clear B7 HF T8 S8 b8
      go_wp2_with fail
      go_region_held3 (fun w' => w'.cell? ⟨W.heap.size, 0, none⟩ = some (.int .i64 N) ∧ w'.cell? ⟨W.heap.size, 1, none⟩ = some (.slice a n c) ∧ w'.cell? ⟨W.heap.size + 1, 0, none⟩ = some (.int .i64 M) ∧ w'.cell? ⟨W.heap.size + 1, 1, none⟩ = some (.slice a' n' c') ∧ w'.cell? ⟨w6.heap.size, 0, none⟩ = some (.int .i64 N) ∧ w'.cell? ⟨w6.heap.size, 1, none⟩ = some (.slice A7 L k7)) (first | exact HSb.out _ R13.out | exact HSb.out _ R12.out | exact HSb.out _ R11.out | exact HSb.out _ R10.out | exact HSb.out _ R9.out | exact HSb.out _ R0.out | exact HSb.out _ R0d.out) (first
        | (go_at_call 10; ((with_reducible refine (CC.out _ (BB.out _ (by first | exact R0.out | exact R0d.out))).mono ?_); rintro e w9 ⟨A9, q9, k9, rfl, hS9, b9⟩; have R9 := Lib.hid (show Below w8.heap.size w8 w9 from bel_trans (by first | exact R0.out | exact R0d.out) b9); have H9 := Lib.hid hS9; clear hS9 b9))
        | (go_at_call 11; ((with_reducible refine (CC'.out _ (BB.out _ R9.out)).mono ?_); rintro e w10 ⟨A10, q10, k10, rfl, hS10, b10⟩; have R10 := Lib.hid (show Below w8.heap.size w8 w10 from bel_trans R9.out b10); have H10 := Lib.hid hS10; have cB := CB.out _ _ _ _ _ _ _ (H9.out.below b10) hS10; clear hS10 b10))
        | (go_at_call 9; ((with_reducible refine (cB).mono ?_); rintro e w11 ⟨rfl, b11⟩; have R11 := Lib.hid (show Below w8.heap.size w8 w11 from bel_trans R10.out b11); clear cB b11))
        | (go_at_call 12; ((with_reducible refine (CD.out _ (BB.out _ R11.out)).mono ?_); rintro e w12 ⟨A12, q12, k12, rfl, hS12, b12⟩; have R12 := Lib.hid (show Below w8.heap.size w8 w12 from bel_trans R11.out b12); have cB' := CB'.out _ _ _ _ _ _ _ hS12 (S8'.out _ R12.out); clear hS12 b12))
        | (go_at_call 9; ((with_reducible refine (cB').mono ?_); rintro e w13 ⟨rfl, b13⟩; have R13 := Lib.hid (show Below w8.heap.size w8 w13 from bel_trans R12.out b13); clear cB' b13)))
      all_goals obtain ⟨m0, m1, m2, m3, m4, m5⟩ := HSb.out _ R13.out
      all_goals go_wp2_with fail
      all_goals go_region_held3 (fun w' => w'.cell? ⟨W.heap.size, 0, none⟩ = some (.int .i64 N) ∧ w'.cell? ⟨W.heap.size, 1, none⟩ = some (.slice a n c) ∧ w'.cell? ⟨W.heap.size + 1, 0, none⟩ = some (.int .i64 M) ∧ w'.cell? ⟨W.heap.size + 1, 1, none⟩ = some (.slice a' n' c') ∧ w'.cell? ⟨w6.heap.size, 0, none⟩ = some (.int .i64 N) ∧ w'.cell? ⟨w6.heap.size, 1, none⟩ = some (.slice A7 L k7)) (first | exact HSb.out _ R19.out | exact HSb.out _ R18.out | exact HSb.out _ R17.out | exact HSb.out _ R16.out | exact HSb.out _ R15.out | exact HSb.out _ R14.out | exact HSb.out _ R13.out | exact HSb.out _ R13.out.drew) (first
        | (go_at_call 14; ((with_reducible refine (CV.out _ (BB.out _ (by first | exact R13.out | exact R13.out.drew))).mono ?_); rintro e w14 ⟨A14, q14, k14, rfl, hS14, b14⟩; have R14 := Lib.hid (show Below w8.heap.size w8 w14 from bel_trans (by first | exact R13.out | exact R13.out.drew) b14); have H14 := Lib.hid hS14; clear hS14 b14))
        | (go_at_call 15; ((with_reducible refine (CV'.out _ (BB.out _ R14.out)).mono ?_); rintro e w15 ⟨A15, q15, k15, rfl, hS15, b15⟩; have R15 := Lib.hid (show Below w8.heap.size w8 w15 from bel_trans R14.out b15); have cI := CI.out _ _ _ _ _ _ _ (H14.out.below b15) hS15; clear hS15 b15))
        | (go_at_call 13; ((with_reducible refine (cI).mono ?_); rintro e w16 ⟨rfl, b16⟩; have R16 := Lib.hid (show Below w8.heap.size w8 w16 from bel_trans R15.out b16); clear cI b16))
        | (go_at_call 16; ((with_reducible refine (CS.out _ (BB.out _ R16.out)).mono ?_); rintro e w17 ⟨rfl, b17⟩; have R17 := Lib.hid (show Below w8.heap.size w8 w17 from bel_trans R16.out b17); clear b17))
        | (go_at_call 17; ((with_reducible refine (CS'.out _ (BB.out _ R17.out)).mono ?_); rintro e w18 ⟨rfl, b18⟩; have R18 := Lib.hid (show Below w8.heap.size w8 w18 from bel_trans R17.out b18); clear b18))
        | (go_at_call 16; ((with_reducible refine (CE.out _ (BB.out _ R18.out)).mono ?_); rintro e w19 ⟨rfl, b19⟩; have R19 := Lib.hid (show Below w8.heap.size w8 w19 from bel_trans R18.out b19); clear b19)))
      all_goals go_wp2
      all_goals go_ret
      all_goals exact ⟨rfl, bel_trans HB2.out (BB.out _ R19.out)⟩
    · obtain ⟨T8, S8, b8⟩ := HF.out
      obtain ⟨w8, hw8⟩ : ∃ w8, ((w7.setCell ⟨(w5.heap.size + 1), 0, none⟩ (.int .i64 N)).setCell ⟨(w5.heap.size + 1), 1, none⟩ (.slice A7 L k7)) = w8 := ⟨_, rfl⟩
      rw [hw8] at T8 S8 b8
      try rw [hw8]
      have B8 : Below W2.heap.size W2 w8 := bel_trans B5 b8
      have HSb := Lib.hid (show ∀ w', Below w8.heap.size w8 w' → w'.cell? ⟨W.heap.size, 0, none⟩ = some (.int .i64 N) ∧ w'.cell? ⟨W.heap.size, 1, none⟩ = some (.slice a n c) ∧ w'.cell? ⟨W.heap.size + 1, 0, none⟩ = some (.int .i64 M) ∧ w'.cell? ⟨W.heap.size + 1, 1, none⟩ = some (.slice a' n' c') ∧ w'.cell? ⟨(w5.heap.size + 1), 0, none⟩ = some (.int .i64 N) ∧ w'.cell? ⟨(w5.heap.size + 1), 1, none⟩ = some (.slice A7 L k7) from fun w' hb => have h := HS.out _ (bel_trans B8 hb); have h2 := (T8.b hb).two; ⟨h.1.1, h.1.2, h.2.1, h.2.2, h2.1, h2.2⟩)
      have S8' := Lib.hid (show ∀ w', Below w8.heap.size w8 w' → SlG w' A7 L k7 (G ++ K) from fun w' hb => S8.below hb)
      have R0 := Lib.hid (show Below w8.heap.size w8 w8 from Below.refl _ _)
      have R0d := Lib.hid (show Below w8.heap.size w8 w8.drew from (Below.refl _ _).drew)
      have BB := Lib.hid (show ∀ w', Below w8.heap.size w8 w' → Below W2.heap.size W2 w' from fun w' hb => bel_trans B8 hb)
      obtain ⟨l0, l1, l2, l3, l4, l5⟩ := HSb.out _ R0.out
      clear B7 HF T8 S8 b8
      go_wp2_with fail
      go_region_held3 (fun w' => w'.cell? ⟨W.heap.size, 0, none⟩ = some (.int .i64 N) ∧ w'.cell? ⟨W.heap.size, 1, none⟩ = some (.slice a n c) ∧ w'.cell? ⟨W.heap.size + 1, 0, none⟩ = some (.int .i64 M) ∧ w'.cell? ⟨W.heap.size + 1, 1, none⟩ = some (.slice a' n' c') ∧ w'.cell? ⟨(w5.heap.size + 1), 0, none⟩ = some (.int .i64 N) ∧ w'.cell? ⟨(w5.heap.size + 1), 1, none⟩ = some (.slice A7 L k7)) (first | exact HSb.out _ R13.out | exact HSb.out _ R12.out | exact HSb.out _ R11.out | exact HSb.out _ R10.out | exact HSb.out _ R9.out | exact HSb.out _ R0.out | exact HSb.out _ R0d.out) (first
        | (go_at_call 10; ((with_reducible refine (CC.out _ (BB.out _ (by first | exact R0.out | exact R0d.out))).mono ?_); rintro e w9 ⟨A9, q9, k9, rfl, hS9, b9⟩; have R9 := Lib.hid (show Below w8.heap.size w8 w9 from bel_trans (by first | exact R0.out | exact R0d.out) b9); have H9 := Lib.hid hS9; clear hS9 b9))
        | (go_at_call 11; ((with_reducible refine (CC'.out _ (BB.out _ R9.out)).mono ?_); rintro e w10 ⟨A10, q10, k10, rfl, hS10, b10⟩; have R10 := Lib.hid (show Below w8.heap.size w8 w10 from bel_trans R9.out b10); have H10 := Lib.hid hS10; have cB := CB.out _ _ _ _ _ _ _ (H9.out.below b10) hS10; clear hS10 b10))
        | (go_at_call 9; ((with_reducible refine (cB).mono ?_); rintro e w11 ⟨rfl, b11⟩; have R11 := Lib.hid (show Below w8.heap.size w8 w11 from bel_trans R10.out b11); clear cB b11))
        | (go_at_call 12; ((with_reducible refine (CD.out _ (BB.out _ R11.out)).mono ?_); rintro e w12 ⟨A12, q12, k12, rfl, hS12, b12⟩; have R12 := Lib.hid (show Below w8.heap.size w8 w12 from bel_trans R11.out b12); have cB' := CB'.out _ _ _ _ _ _ _ hS12 (S8'.out _ R12.out); clear hS12 b12))
        | (go_at_call 9; ((with_reducible refine (cB').mono ?_); rintro e w13 ⟨rfl, b13⟩; have R13 := Lib.hid (show Below w8.heap.size w8 w13 from bel_trans R12.out b13); clear cB' b13)))
      all_goals obtain ⟨m0, m1, m2, m3, m4, m5⟩ := HSb.out _ R13.out
      all_goals go_wp2_with fail
      all_goals go_region_held3 (fun w' => w'.cell? ⟨W.heap.size, 0, none⟩ = some (.int .i64 N) ∧ w'.cell? ⟨W.heap.size, 1, none⟩ = some (.slice a n c) ∧ w'.cell? ⟨W.heap.size + 1, 0, none⟩ = some (.int .i64 M) ∧ w'.cell? ⟨W.heap.size + 1, 1, none⟩ = some (.slice a' n' c') ∧ w'.cell? ⟨(w5.heap.size + 1), 0, none⟩ = some (.int .i64 N) ∧ w'.cell? ⟨(w5.heap.size + 1), 1, none⟩ = some (.slice A7 L k7)) (first | exact HSb.out _ R19.out | exact HSb.out _ R18.out | exact HSb.out _ R17.out | exact HSb.out _ R16.out | exact HSb.out _ R15.out | exact HSb.out _ R14.out | exact HSb.out _ R13.out | exact HSb.out _ R13.out.drew) (first
        | (go_at_call 14; ((with_reducible refine (CV.out _ (BB.out _ (by first | exact R13.out | exact R13.out.drew))).mono ?_); rintro e w14 ⟨A14, q14, k14, rfl, hS14, b14⟩; have R14 := Lib.hid (show Below w8.heap.size w8 w14 from bel_trans (by first | exact R13.out | exact R13.out.drew) b14); have H14 := Lib.hid hS14; clear hS14 b14))
        | (go_at_call 15; ((with_reducible refine (CV'.out _ (BB.out _ R14.out)).mono ?_); rintro e w15 ⟨A15, q15, k15, rfl, hS15, b15⟩; have R15 := Lib.hid (show Below w8.heap.size w8 w15 from bel_trans R14.out b15); have cI := CI.out _ _ _ _ _ _ _ (H14.out.below b15) hS15; clear hS15 b15))
        | (go_at_call 13; ((with_reducible refine (cI).mono ?_); rintro e w16 ⟨rfl, b16⟩; have R16 := Lib.hid (show Below w8.heap.size w8 w16 from bel_trans R15.out b16); clear cI b16))
        | (go_at_call 16; ((with_reducible refine (CS.out _ (BB.out _ R16.out)).mono ?_); rintro e w17 ⟨rfl, b17⟩; have R17 := Lib.hid (show Below w8.heap.size w8 w17 from bel_trans R16.out b17); clear b17))
        | (go_at_call 17; ((with_reducible refine (CS'.out _ (BB.out _ R17.out)).mono ?_); rintro e w18 ⟨rfl, b18⟩; have R18 := Lib.hid (show Below w8.heap.size w8 w18 from bel_trans R17.out b18); clear b18))
        | (go_at_call 16; ((with_reducible refine (CE.out _ (BB.out _ R18.out)).mono ?_); rintro e w19 ⟨rfl, b19⟩; have R19 := Lib.hid (show Below w8.heap.size w8 w19 from bel_trans R18.out b19); clear b19)))
      all_goals go_wp2
      all_goals go_ret
      all_goals exact ⟨rfl, bel_trans HB2.out (BB.out _ R19.out)⟩
    · obtain ⟨T8, S8, b8⟩ := HF.out
      obtain ⟨w8, hw8⟩ : ∃ w8, ((w7.setCell ⟨w5.heap.size, 0, none⟩ (.int .i64 N)).setCell ⟨w5.heap.size, 1, none⟩ (.slice A7 L k7)) = w8 := ⟨_, rfl⟩
      rw [hw8] at T8 S8 b8
      try rw [hw8]
      have B8 : Below W2.heap.size W2 w8 := bel_trans B5 b8
      have HSb := Lib.hid (show ∀ w', Below w8.heap.size w8 w' → w'.cell? ⟨W.heap.size, 0, none⟩ = some (.int .i64 N) ∧ w'.cell? ⟨W.heap.size, 1, none⟩ = some (.slice a n c) ∧ w'.cell? ⟨W.heap.size + 1, 0, none⟩ = some (.int .i64 M) ∧ w'.cell? ⟨W.heap.size + 1, 1, none⟩ = some (.slice a' n' c') ∧ w'.cell? ⟨w5.heap.size, 0, none⟩ = some (.int .i64 N) ∧ w'.cell? ⟨w5.heap.size, 1, none⟩ = some (.slice A7 L k7) from fun w' hb => have h := HS.out _ (bel_trans B8 hb); have h2 := (T8.b hb).two; ⟨h.1.1, h.1.2, h.2.1, h.2.2, h2.1, h2.2⟩)
      have S8' := Lib.hid (show ∀ w', Below w8.heap.size w8 w' → SlG w' A7 L k7 (G ++ K) from fun w' hb => S8.below hb)
      have R0 := Lib.hid (show Below w8.heap.size w8 w8 from Below.refl _ _)
      have R0d := Lib.hid (show Below w8.heap.size w8 w8.drew from (Below.refl _ _).drew)
      have BB := Lib.hid (show ∀ w', Below w8.heap.size w8 w' → Below W2.heap.size W2 w' from fun w' hb => bel_trans B8 hb)
      obtain ⟨l0, l1, l2, l3, l4, l5⟩ := HSb.out _ R0.out
      clear B7 HF T8 S8 b8
      go_wp2_with fail
      go_region_held3 (fun w' => w'.cell? ⟨W.heap.size, 0, none⟩ = some (.int .i64 N) ∧ w'.cell? ⟨W.heap.size, 1, none⟩ = some (.slice a n c) ∧ w'.cell? ⟨W.heap.size + 1, 0, none⟩ = some (.int .i64 M) ∧ w'.cell? ⟨W.heap.size + 1, 1, none⟩ = some (.slice a' n' c') ∧ w'.cell? ⟨w5.heap.size, 0, none⟩ = some (.int .i64 N) ∧ w'.cell? ⟨w5.heap.size, 1, none⟩ = some (.slice A7 L k7)) (first | exact HSb.out _ R13.out | exact HSb.out _ R12.out | exact HSb.out _ R11.out | exact HSb.out _ R10.out | exact HSb.out _ R9.out | exact HSb.out _ R0.out | exact HSb.out _ R0d.out) (first
        | (go_at_call 10; ((with_reducible refine (CC.out _ (BB.out _ (by first | exact R0.out | exact R0d.out))).mono ?_); rintro e w9 ⟨A9, q9, k9, rfl, hS9, b9⟩; have R9 := Lib.hid (show Below w8.heap.size w8 w9 from bel_trans (by first | exact R0.out | exact R0d.out) b9); have H9 := Lib.hid hS9; clear hS9 b9))
        | (go_at_call 11; ((with_reducible refine (CC'.out _ (BB.out _ R9.out)).mono ?_); rintro e w10 ⟨A10, q10, k10, rfl, hS10, b10⟩; have R10 := Lib.hid (show Below w8.heap.size w8 w10 from bel_trans R9.out b10); have H10 := Lib.hid hS10; have cB := CB.out _ _ _ _ _ _ _ (H9.out.below b10) hS10; clear hS10 b10))
        | (go_at_call 9; ((with_reducible refine (cB).mono ?_); rintro e w11 ⟨rfl, b11⟩; have R11 := Lib.hid (show Below w8.heap.size w8 w11 from bel_trans R10.out b11); clear cB b11))
        | (go_at_call 12; ((with_reducible refine (CD.out _ (BB.out _ R11.out)).mono ?_); rintro e w12 ⟨A12, q12, k12, rfl, hS12, b12⟩; have R12 := Lib.hid (show Below w8.heap.size w8 w12 from bel_trans R11.out b12); have cB' := CB'.out _ _ _ _ _ _ _ hS12 (S8'.out _ R12.out); clear hS12 b12))
        | (go_at_call 9; ((with_reducible refine (cB').mono ?_); rintro e w13 ⟨rfl, b13⟩; have R13 := Lib.hid (show Below w8.heap.size w8 w13 from bel_trans R12.out b13); clear cB' b13)))
      all_goals obtain ⟨m0, m1, m2, m3, m4, m5⟩ := HSb.out _ R13.out
      all_goals go_wp2_with fail
      all_goals go_region_held3 (fun w' => w'.cell? ⟨W.heap.size, 0, none⟩ = some (.int .i64 N) ∧ w'.cell? ⟨W.heap.size, 1, none⟩ = some (.slice a n c) ∧ w'.cell? ⟨W.heap.size + 1, 0, none⟩ = some (.int .i64 M) ∧ w'.cell? ⟨W.heap.size + 1, 1, none⟩ = some (.slice a' n' c') ∧ w'.cell? ⟨w5.heap.size, 0, none⟩ = some (.int .i64 N) ∧ w'.cell? ⟨w5.heap.size, 1, none⟩ = some (.slice A7 L k7)) (first | exact HSb.out _ R19.out | exact HSb.out _ R18.out | exact HSb.out _ R17.out | exact HSb.out _ R16.out | exact HSb.out _ R15.out | exact HSb.out _ R14.out | exact HSb.out _ R13.out | exact HSb.out _ R13.out.drew) (first
        | (go_at_call 14; ((with_reducible refine (CV.out _ (BB.out _ (by first | exact R13.out | exact R13.out.drew))).mono ?_); rintro e w14 ⟨A14, q14, k14, rfl, hS14, b14⟩; have R14 := Lib.hid (show Below w8.heap.size w8 w14 from bel_trans (by first | exact R13.out | exact R13.out.drew) b14); have H14 := Lib.hid hS14; clear hS14 b14))
        | (go_at_call 15; ((with_reducible refine (CV'.out _ (BB.out _ R14.out)).mono ?_); rintro e w15 ⟨A15, q15, k15, rfl, hS15, b15⟩; have R15 := Lib.hid (show Below w8.heap.size w8 w15 from bel_trans R14.out b15); have cI := CI.out _ _ _ _ _ _ _ (H14.out.below b15) hS15; clear hS15 b15))
        | (go_at_call 13; ((with_reducible refine (cI).mono ?_); rintro e w16 ⟨rfl, b16⟩; have R16 := Lib.hid (show Below w8.heap.size w8 w16 from bel_trans R15.out b16); clear cI b16))
        | (go_at_call 16; ((with_reducible refine (CS.out _ (BB.out _ R16.out)).mono ?_); rintro e w17 ⟨rfl, b17⟩; have R17 := Lib.hid (show Below w8.heap.size w8 w17 from bel_trans R16.out b17); clear b17))
        | (go_at_call 17; ((with_reducible refine (CS'.out _ (BB.out _ R17.out)).mono ?_); rintro e w18 ⟨rfl, b18⟩; have R18 := Lib.hid (show Below w8.heap.size w8 w18 from bel_trans R17.out b18); clear b18))
        | (go_at_call 16; ((with_reducible refine (CE.out _ (BB.out _ R18.out)).mono ?_); rintro e w19 ⟨rfl, b19⟩; have R19 := Lib.hid (show Below w8.heap.size w8 w19 from bel_trans R18.out b19); clear b19)))
      all_goals go_wp2
      all_goals go_ret
      all_goals exact ⟨rfl, bel_trans HB2.out (BB.out _ R19.out)⟩
  · clear h h' h2 h2' hB2 S2 S2' HT hV
    generalize lgG G 40 = lg at *
    generalize lgG K 40 = lg' at *
    cases lg
    · cases lg'
      · have hm2 : ¬ m ≤ 2000 := fun e => hg ⟨rfl, rfl, e⟩
        have q0 : decide ((m : Int) > 2000) = true := decide_eq_true (by omega)
        clear hg hm2
        go_enter Tryz.func3, Tryz.ntmps3
        go_wp2_with (first
          | (go_at_call 5; ((with_reducible refine (CA.out _ (by assumption)).mono ?_); rintro e w1 ⟨rfl, b1⟩; have B1 := bel_trans (a := W2) (by assumption) b1; obtain ⟨⟨u0, u1⟩, u2, u3⟩ := HS.out _ B1; clear b1))
          | (go_at_call 6; ((with_reducible refine (CL.out _ (by assumption)).mono ?_); rintro e w2 ⟨rfl, rfl⟩))
          | (go_at_call 6; ((with_reducible refine (CL'.out _ (by assumption)).mono ?_); rintro e w2 ⟨rfl, rfl⟩)))
        go_ret
        exact ⟨rfl, bel_trans HB2.out B1⟩
      · clear hg
        go_enter Tryz.func3, Tryz.ntmps3
        go_wp2_with (first
          | (go_at_call 5; ((with_reducible refine (CA.out _ (by assumption)).mono ?_); rintro e w1 ⟨rfl, b1⟩; have B1 := bel_trans (a := W2) (by assumption) b1; obtain ⟨⟨u0, u1⟩, u2, u3⟩ := HS.out _ B1; clear b1))
          | (go_at_call 6; ((with_reducible refine (CL.out _ (by assumption)).mono ?_); rintro e w2 ⟨rfl, rfl⟩))
          | (go_at_call 6; ((with_reducible refine (CL'.out _ (by assumption)).mono ?_); rintro e w2 ⟨rfl, rfl⟩)))
        go_ret
        exact ⟨rfl, bel_trans HB2.out B1⟩
    · clear hg
      go_enter Tryz.func3, Tryz.ntmps3
      go_wp2_with (first
        | (go_at_call 5; ((with_reducible refine (CA.out _ (by assumption)).mono ?_); rintro e w1 ⟨rfl, b1⟩; have B1 := bel_trans (a := W2) (by assumption) b1; obtain ⟨⟨u0, u1⟩, u2, u3⟩ := HS.out _ B1; clear b1))
        | (go_at_call 6; ((with_reducible refine (CL.out _ (by assumption)).mono ?_); rintro e w2 ⟨rfl, rfl⟩))
        | (go_at_call 6; ((with_reducible refine (CL'.out _ (by assumption)).mono ?_); rintro e w2 ⟨rfl, rfl⟩)))
      go_ret
      exact ⟨rfl, bel_trans HB2.out B1⟩
end Go.Proofs.YthchjceibpcgbaaGreatDoor.Cn
