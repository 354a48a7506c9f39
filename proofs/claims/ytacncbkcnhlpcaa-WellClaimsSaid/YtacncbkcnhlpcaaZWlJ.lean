/-
  What is proved: the sort of a term of few parts, as package well tells.
-/
import Derived.Test.YtacncbkcnhlpcaaZWlZ
import Derived.Test.YtacncbkcnhlpcaaZWlV
import Derived.Test.YtacncbkcnhlpcaaZRgtQ
namespace Go.Proofs.Ytacncbkcnhlpcaa.Wl
open Go.RowKit L T C
open Sgn (SlG Fm Core cores)
set_option linter.unusedVariables false
set_option linter.unusedSimpArgs false
set_option maxRecDepth 100000

/-- what is told of any term -/
def tinW (K : List Core) (V : List Vr) (B : List ByteArray) (t : Tm) : Wr := if rightE t ≠ 0 then .bad (rightE t) [] else wlT K V B t
theorem right_part {t : Tm} (h : rightE t = 0) : partE t = 0 := by
  unfold rightE at h
  split at h
  · cases h
  · split at h
    · cases h
    · exact h
theorem boxesW (w : World) (a : Option Addr) (n c : Nat) (b : Option Addr) (m d : Nat) (o : Int) (s : ByteArray) (z : Int) (ta : Option Addr) (tn tc : Nat) :
    ∃ W, (w.alloc (.cells #[.slice a n c, .slice b m d] 25)).alloc (.cells #[.int .i64 o, .string s, .int .i64 z, .slice ta tn tc] 33) = W ∧ Below w.heap.size w W ∧ Sgn.SBox W w.heap.size a n c b m d ∧ TBox W (w.heap.size + 1) o s z ta tn tc := by
  refine ⟨_, rfl, bel_alloc (bel_alloc (Below.refl _ _) _) _, Sgn.Blk.alloc (Sgn.Blk.new w _ _) _, ?_⟩
  have := TBox.new (w.alloc (.cells #[.slice a n c, .slice b m d] 25)) o s z ta tn tc
  rwa [show (w.alloc (.cells #[.slice a n c, .slice b m d] 25)).heap.size = w.heap.size + 1 by simp] at this

set_option maxHeartbeats 4000000 in
theorem Within_any (a : Option Addr) (n c : Nat) (b : Option Addr) (m d : Nat) (G : List Fm) (vp : Option Addr) (vn vc : Nat) (V : List Vr) (p : Option Addr) (q e : Nat) (B : List ByteArray) (t : Tm) (ta : Option Addr) (tn tc : Nat) (w : World)
    (hG : SlG w b m d G) (hm : m ≤ 1000000) (hK : ∀ C ∈ cores G, C.2.1.length ≤ 1000000) (hV : IsV w vp vn V) (hvn : vn ≤ 1000000) (hB : IsS w p q B) (hq : q ≤ 1000000) (hz : size t ≤ 4096) (hA : ArW w t ta tn tc) :
    Calls Try.prog 13 #[.agg #[.slice a n c, .slice b m d], .slice vp vn vc, .slice p q e, .agg #[.int .i64 (opT t), .string (nameT t), .int .i64 (numT t), .slice ta tn tc]] w (TmP (tinW (cores G) V B t) [] w) := by
  obtain ⟨W2, hW2, hB2, S2, T2⟩ := boxesW w a n c b m d (opT t) (nameT t) (numT t) ta tn tc
  have cR := tRight_few t ta tn tc W2 hz (ArW.b hA hB2)
  have cM : ∀ w', Below W2.heap.size W2 w' → _ := fun w' h => made_any vp vn vc V w' ((hV.below hB2).below h)
  have HS2 := Lib.hid S2
  have HT2 := Lib.hid T2
  have HB2 := Lib.hid hB2
  have hE : ∀ g w', Below W2.heap.size W2 w' → g < w'.heap.size ∧ w'.cell? ⟨g, 0, none⟩ = some (.slice vp vn vc) ∧ IsV w' vp vn V → (⟨a, n, c, b, m, d, g, vp, vn, vc, p, q, e, G, V, B⟩ : Ev).ok w' := fun g w' h ⟨h1, h2, h3⟩ =>
    ⟨(hG.below hB2).below h, hm, hK, h1, h2, h3, hvn, (hB.below hB2).below h, hq⟩
  have cT : rightE t = 0 → ∀ g w', Below W2.heap.size W2 w' → Hid (g < w'.heap.size ∧ w'.cell? ⟨g, 0, none⟩ = some (.slice vp vn vc) ∧ IsV w' vp vn V) →
      Calls Try.prog 29 #[.agg #[.slice a n c, .slice b m d, fnV g, .slice p q e], .agg #[.int .i64 (opT t), .string (nameT t), .int .i64 (numT t), .slice ta tn tc], .slice none 0 0] w' (TmP (wlT (cores G) V B t) [] w') := fun hr g w' h h2 =>
    term_any t ⟨a, n, c, b, m, d, g, vp, vn, vc, p, q, e, G, V, B⟩ none 0 0 [] ta tn tc w' (hE g w' h h2.out) (right_part hr) (by omega) (SlI.nil w') (ArW.b hA (bel_trans hB2 h))
  have hP0 : rightE t ≠ 0 → ∀ w', Below w.heap.size w w' → TmP (tinW (cores G) V B t) [] w (.returned (.tuple #[.string ⟨#[]⟩, .slice none 0 0, .int .i64 (rightE t)])) w' := fun h w' hb => by
    unfold tinW; rw [if_pos h]
    exact ⟨none, 0, 0, rfl, by show SlI _ _ _ _ (if rightE t = 0 then [] else [] ++ []); rw [if_neg h]; exact SlI.nil _, hb⟩
  have hP1 : rightE t = 0 → tinW (cores G) V B t = wlT (cores G) V B t := fun h => by unfold tinW; rw [if_neg (by rw [h]; simp)]
  obtain ⟨t0, t1, t2, t3⟩ := T2.four
  obtain ⟨s0, s1⟩ := S2.two
  clear hG hK hV hB hA hE S2 T2 hB2
  generalize wlT (cores G) V B t = WT at *
  generalize tinW (cores G) V B t = TW at *
  by_cases hr : rightE t = 0
  · rw [hP1 hr] at *
    have cT := cT hr
    unfold TmP at cT
    rw [hr] at cR
    have HP : Hid (∀ A N C w', SlI w' A N C (if WT.e = 0 then [] else [] ++ WT.way) → Below w.heap.size w w' → TmP WT [] w (.returned (.tuple #[.string WT.so, .slice A N C, .int .i64 WT.e])) w') := Lib.hid fun A N C w' h1 h2 => ⟨A, N, C, rfl, h1, h2⟩
    generalize TmP WT [] w = PP at *
    obtain ⟨we, ww, ws⟩ := WT
    dsimp only at *
    clear hP0 hP1 hr
    go_enter Try.func13, Try.ntmps13
    go_wp2_with (go_at_call 27; ((with_reducible refine cR.mono ?_); rintro e w3 ⟨rfl, hb3⟩))
    have B3d : Below W2.heap.size W2 w3.drew := hb3.drew
    have T3 : ∀ w', Below W2.heap.size W2 w' → w'.cell? ⟨w.heap.size, 0, none⟩ = some (.slice a n c) ∧ w'.cell? ⟨w.heap.size, 1, none⟩ = some (.slice b m d) ∧ w'.cell? ⟨w.heap.size + 1, 0, none⟩ = some (.int .i64 (opT t)) ∧ w'.cell? ⟨w.heap.size + 1, 1, none⟩ = some (.string (nameT t)) ∧ w'.cell? ⟨w.heap.size + 1, 2, none⟩ = some (.int .i64 (numT t)) ∧ w'.cell? ⟨w.heap.size + 1, 3, none⟩ = some (.slice ta tn tc) := fun w' h => by
      obtain ⟨t0, t1, t2, t3⟩ := (TBox.b HT2.out h).four
      obtain ⟨s0, s1⟩ := (HS2.out.b h).two
      exact ⟨s0, s1, t0, t1, t2, t3⟩
    obtain ⟨u0, u1, u2, u3, u4, u5⟩ := T3 _ hb3
    go_region_held3 (fun w' => w'.cell? ⟨w.heap.size, 0, none⟩ = some (.slice a n c) ∧ w'.cell? ⟨w.heap.size, 1, none⟩ = some (.slice b m d) ∧ w'.cell? ⟨w.heap.size + 1, 0, none⟩ = some (.int .i64 (opT t)) ∧ w'.cell? ⟨w.heap.size + 1, 1, none⟩ = some (.string (nameT t)) ∧ w'.cell? ⟨w.heap.size + 1, 2, none⟩ = some (.int .i64 (numT t)) ∧ w'.cell? ⟨w.heap.size + 1, 3, none⟩ = some (.slice ta tn tc))
      (first | (exact T3 _ B7) | (exact T3 _ B6) | (exact T3 _ B3d) | go_keep)
      (first
        | (go_at_call 28; ((with_reducible refine (cM _ B3d).mono ?_); rintro e w6 ⟨g, rfl, hb6, hg6⟩; have B6 := bel_trans B3d hb6))
        | (go_at_call 29; ((with_reducible refine (cT g _ B6 hg6).mono ?_); rintro e w7 ⟨A7, N7, C7, rfl, hI7, hb7⟩; have B7 := bel_trans B6 hb7)))
    have HZ := Lib.hid (HP.out _ _ _ _ hI7 (bel_trans HB2.out B7))
    clear hI7 HP
    go_wp2
    first | exact HZ.out | (simp [bodyPost, results, Try.results13, go_sem]; exact HZ.out)
  · have HP := Lib.hid (hP0 hr)
    have h1 : (rightE t != 0) = true := by simp [hr]
    generalize TmP TW [] w = PP at *
    generalize rightE t = R at *
    clear hP0 hP1 cT hr
    go_enter Try.func13, Try.ntmps13
    go_wp2_with (go_at_call 27; ((with_reducible refine cR.mono ?_); rintro e w3 ⟨rfl, hb3⟩))
    have HZ := Lib.hid (HP.out _ (bel_trans HB2.out hb3))
    first | exact HZ.out | (simp [bodyPost, results, Try.results13, go_sem]; exact HZ.out)
set_option maxHeartbeats 4000000 in
theorem Term13_any (a : Option Addr) (n c : Nat) (b : Option Addr) (m d : Nat) (G : List Fm) (vp : Option Addr) (vn vc : Nat) (V : List Vr) (t : Tm) (ta : Option Addr) (tn tc : Nat) (w : World)
    (hG : SlG w b m d G) (hm : m ≤ 1000000) (hK : ∀ C ∈ cores G, C.2.1.length ≤ 1000000) (hV : IsV w vp vn V) (hvn : vn ≤ 1000000) (hz : size t ≤ 4096) (hA : ArW w t ta tn tc) :
    Calls Try.prog 14 #[.agg #[.slice a n c, .slice b m d], .slice vp vn vc, .agg #[.int .i64 (opT t), .string (nameT t), .int .i64 (numT t), .slice ta tn tc]] w (TmP (tinW (cores G) V [] t) [] w) := by
  obtain ⟨W2, hW2, hB2, S2, T2⟩ := boxesW w a n c b m d (opT t) (nameT t) (numT t) ta tn tc
  have cT := Within_any a n c b m d G vp vn vc V none 0 0 [] t ta tn tc W2 (hG.below hB2) hm hK (hV.below hB2) hvn (IsS.nil _ _) (by omega) hz (ArW.b hA hB2)
  generalize tinW (cores G) V [] t = WT at *
  have HP : Hid (∀ A N C w', SlI w' A N C (if WT.e = 0 then [] else [] ++ WT.way) → Below w.heap.size w w' → TmP WT [] w (.returned (.tuple #[.string WT.so, .slice A N C, .int .i64 WT.e])) w') := Lib.hid fun A N C w' h1 h2 => ⟨A, N, C, rfl, h1, h2⟩
  unfold TmP at cT
  generalize TmP WT [] w = PP at *
  obtain ⟨we, ww, ws⟩ := WT
  obtain ⟨t0, t1, t2, t3⟩ := T2.four
  obtain ⟨s0, s1⟩ := S2.two
  have HB2 := Lib.hid hB2
  dsimp only at *
  clear hG hK hV hA S2 T2 hB2
  go_enter Try.func14, Try.ntmps14
  go_wp2_with (go_at_call 13; ((with_reducible refine cT.mono ?_); rintro e w3 ⟨A7, N7, C7, rfl, hI7, hb7⟩))
  have HZ := Lib.hid (HP.out _ _ _ _ hI7 (bel_trans HB2.out hb7))
  first | exact HZ.out | (simp [bodyPost, results, Try.results14, go_sem]; exact HZ.out)
end Go.Proofs.Ytacncbkcnhlpcaa.Wl
