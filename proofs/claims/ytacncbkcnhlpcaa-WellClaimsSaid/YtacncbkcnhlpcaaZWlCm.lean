/-
  What is proved: the first error of a claim of few parts, as package well tells.
-/
import Derived.Test.YtacncbkcnhlpcaaZWlCl
import Derived.Test.YtacncbkcnhlpcaaZWlJ
import Derived.Test.YtacncbkcnhlpcaaZCsR
namespace Go.Proofs.Ytacncbkcnhlpcaa.Wl
open Go.RowKit L T C
open Cs (cRight_few)
open Sgn (SlG Fm Core cores)
set_option linter.unusedVariables false
set_option linter.unusedSimpArgs false
set_option maxRecDepth 100000

/-- what is told of any claim -/
def cinW (S : List ByteArray) (K : List Core) (V : List Vr) (B : List ByteArray) (t : Cl) : Wr := if crightE t ≠ 0 then .bad (crightE t) [] else wlC S K V B t
theorem cright_part {t : Cl} (h : crightE t = 0) : cpartE t = 0 := by
  unfold crightE at h
  split at h
  · cases h
  · split at h
    · cases h
    · exact h
theorem boxesCW (w : World) (a : Option Addr) (n c : Nat) (b : Option Addr) (m d : Nat) (o : Int) (s z : ByteArray) (k : SS) (ta : Option Addr) (tn tc : Nat) :
    ∃ W, (w.alloc (.cells #[.slice a n c, .slice b m d] 25)).alloc (.cells #[.int .i64 o, .string s, .string z, .slice k.a k.n k.c, .slice ta tn tc] 46) = W ∧ Below w.heap.size w W ∧ Sgn.SBox W w.heap.size a n c b m d ∧ CBox W (w.heap.size + 1) o s z k ta tn tc := by
  refine ⟨_, rfl, bel_alloc (bel_alloc (Below.refl _ _) _) _, Sgn.Blk.alloc (Sgn.Blk.new w _ _) _, ?_⟩
  have := CBox.new (w.alloc (.cells #[.slice a n c, .slice b m d] 25)) o s z k ta tn tc
  rwa [show (w.alloc (.cells #[.slice a n c, .slice b m d] 25)).heap.size = w.heap.size + 1 by simp] at this

set_option maxHeartbeats 4000000 in
theorem Claim13_any (a : Option Addr) (n c : Nat) (S : List ByteArray) (b : Option Addr) (m d : Nat) (G : List Fm) (vp : Option Addr) (vn vc : Nat) (V : List Vr) (t : Cl) (ks : SS) (ta : Option Addr) (tn tc : Nat) (w : World)
    (hS : IsS w a n S) (hn : n ≤ 1000000) (hG : SlG w b m d G) (hm : m ≤ 1000000) (hK : ∀ C ∈ cores G, C.2.1.length ≤ 1000000) (hV : IsV w vp vn V) (hvn : vn ≤ 1000000) (hz : wt t ≤ 4096) (hA : ArWC w t ks ta tn tc) :
    Calls Try.prog 18 #[.agg #[.slice a n c, .slice b m d], .slice vp vn vc, .agg #[.int .i64 (opC t), .string (nmC t), .string (soC t), .slice ks.a ks.n ks.c, .slice ta tn tc]] w (ClP (cinW S (cores G) V [] t) [] w) := by
  obtain ⟨W2, hW2, hB2, S2, T2⟩ := boxesCW w a n c b m d (opC t) (nmC t) (soC t) ks ta tn tc
  have cR := cRight_few t ks ta tn tc W2 hz (ArWC.b hA hB2)
  have cM : ∀ w', Below W2.heap.size W2 w' → _ := fun w' h => made_any vp vn vc V w' ((hV.below hB2).below h)
  have HS2 := Lib.hid S2
  have HT2 := Lib.hid T2
  have HB2 := Lib.hid hB2
  have hE : ∀ g w', Below W2.heap.size W2 w' → g < w'.heap.size ∧ w'.cell? ⟨g, 0, none⟩ = some (.slice vp vn vc) ∧ IsV w' vp vn V → (⟨a, n, c, b, m, d, g, vp, vn, vc, none, 0, 0, G, V, []⟩ : Ev).ok w' := fun g w' h ⟨h1, h2, h3⟩ =>
    ⟨(hG.below hB2).below h, hm, hK, h1, h2, h3, hvn, IsS.nil _ _, Nat.zero_le _⟩
  have cT : crightE t = 0 → ∀ g w', Below W2.heap.size W2 w' → Hid (g < w'.heap.size ∧ w'.cell? ⟨g, 0, none⟩ = some (.slice vp vn vc) ∧ IsV w' vp vn V) →
      Calls Try.prog 34 #[.agg #[.slice a n c, .slice b m d, fnV g, .slice none 0 0], .agg #[.int .i64 (opC t), .string (nmC t), .string (soC t), .slice ks.a ks.n ks.c, .slice ta tn tc], .slice none 0 0] w' (ClP (wlC S (cores G) V [] t) [] w') := fun hr g w' h h2 =>
    claim_any t S ⟨a, n, c, b, m, d, g, vp, vn, vc, none, 0, 0, G, V, []⟩ none 0 0 [] ks ta tn tc w' (hE g w' h h2.out) ((hS.below hB2).below h) hn (cright_part hr) (by omega) (by show 0 + wt t ≤ 1000000; omega) (Nat.le_refl _) (fun _ => rfl) (SlI.nil w') (ArWC.b hA (bel_trans hB2 h))
  have hP0 : crightE t ≠ 0 → ∀ w', Below w.heap.size w w' → ClP (cinW S (cores G) V [] t) [] w (.returned (.tuple #[.slice none 0 0, .int .i64 (crightE t)])) w' := fun h w' hb => by
    unfold cinW; rw [if_pos h]
    exact ⟨none, 0, 0, rfl, by show SlI _ _ _ _ (if crightE t = 0 then [] else [] ++ []); rw [if_neg h]; exact SlI.nil _, hb⟩
  have hP1 : crightE t = 0 → cinW S (cores G) V [] t = wlC S (cores G) V [] t := fun h => by unfold cinW; rw [if_neg (by rw [h]; simp)]
  obtain ⟨t0, t1, t2, t3, t4⟩ := T2.five
  obtain ⟨s0, s1⟩ := S2.two
  obtain ⟨ka, kn, kc⟩ := ks
  clear hG hK hV hS hA hE S2 T2 hB2
  generalize wlC S (cores G) V [] t = WT at *
  generalize cinW S (cores G) V [] t = TW at *
  dsimp only at *
  by_cases hr : crightE t = 0
  · rw [hP1 hr] at *
    have cT := cT hr
    unfold ClP at cT
    rw [hr] at cR
    have HP : Hid (∀ A N C w', SlI w' A N C (if WT.e = 0 then [] else [] ++ WT.way) → Below w.heap.size w w' → ClP WT [] w (.returned (.tuple #[.slice A N C, .int .i64 WT.e])) w') := Lib.hid fun A N C w' h1 h2 => ⟨A, N, C, rfl, h1, h2⟩
    generalize ClP WT [] w = PP at *
    obtain ⟨we, ww, ws⟩ := WT
    dsimp only at *
    clear hP0 hP1 hr
    go_enter Try.func18, Try.ntmps18
    go_wp2_with (go_at_call 33; ((with_reducible refine cR.mono ?_); rintro e w3 ⟨rfl, hb3⟩))
    have B3d : Below W2.heap.size W2 w3.drew := hb3.drew
    have T3 : ∀ w', Below W2.heap.size W2 w' → w'.cell? ⟨w.heap.size, 0, none⟩ = some (.slice a n c) ∧ w'.cell? ⟨w.heap.size, 1, none⟩ = some (.slice b m d) ∧ w'.cell? ⟨w.heap.size + 1, 0, none⟩ = some (.int .i64 (opC t)) ∧ w'.cell? ⟨w.heap.size + 1, 1, none⟩ = some (.string (nmC t)) ∧ w'.cell? ⟨w.heap.size + 1, 2, none⟩ = some (.string (soC t)) ∧ w'.cell? ⟨w.heap.size + 1, 3, none⟩ = some (.slice ka kn kc) ∧ w'.cell? ⟨w.heap.size + 1, 4, none⟩ = some (.slice ta tn tc) := fun w' h => by
      obtain ⟨t0, t1, t2, t3, t4⟩ := (CBox.b HT2.out h).five
      obtain ⟨s0, s1⟩ := (HS2.out.b h).two
      exact ⟨s0, s1, t0, t1, t2, t3, t4⟩
    obtain ⟨u0, u1, u2, u3, u4, u5, u6⟩ := T3 _ hb3
    go_region_held3 (fun w' => w'.cell? ⟨w.heap.size, 0, none⟩ = some (.slice a n c) ∧ w'.cell? ⟨w.heap.size, 1, none⟩ = some (.slice b m d) ∧ w'.cell? ⟨w.heap.size + 1, 0, none⟩ = some (.int .i64 (opC t)) ∧ w'.cell? ⟨w.heap.size + 1, 1, none⟩ = some (.string (nmC t)) ∧ w'.cell? ⟨w.heap.size + 1, 2, none⟩ = some (.string (soC t)) ∧ w'.cell? ⟨w.heap.size + 1, 3, none⟩ = some (.slice ka kn kc) ∧ w'.cell? ⟨w.heap.size + 1, 4, none⟩ = some (.slice ta tn tc))
      (first | (exact T3 _ B7) | (exact T3 _ B6) | (exact T3 _ B3d) | go_keep)
      (first
        | (go_at_call 28; ((with_reducible refine (cM _ B3d).mono ?_); rintro e w6 ⟨g, rfl, hb6, hg6⟩; have B6 := bel_trans B3d hb6))
        | (go_at_call 34; ((with_reducible refine (cT g _ B6 hg6).mono ?_); rintro e w7 ⟨A7, N7, C7, rfl, hI7, hb7⟩; have B7 := bel_trans B6 hb7)))
    have HZ := Lib.hid (HP.out _ _ _ _ hI7 (bel_trans HB2.out B7))
    clear hI7 HP
    go_wp2
    first | exact HZ.out | (simp [bodyPost, results, Try.results18, go_sem]; exact HZ.out)
  · have HP := Lib.hid (hP0 hr)
    have h1 : (crightE t != 0) = true := by simp [hr]
    generalize ClP TW [] w = PP at *
    generalize crightE t = R at *
    clear hP0 hP1 cT hr
    go_enter Try.func18, Try.ntmps18
    go_wp2_with (go_at_call 33; ((with_reducible refine cR.mono ?_); rintro e w3 ⟨rfl, hb3⟩))
    have HZ := Lib.hid (HP.out _ (bel_trans HB2.out hb3))
    first | exact HZ.out | (simp [bodyPost, results, Try.results18, go_sem]; exact HZ.out)
end Go.Proofs.Ytacncbkcnhlpcaa.Wl
