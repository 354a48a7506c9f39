/-
  What is proved: the first error of variables, by package well.
-/
import Derived.Test.YtacncbkcnhlpcaaZWlR
import Derived.Deep.RegionHeld3
namespace Go.Proofs.Ytacncbkcnhlpcaa.Wl
open Go.RowKit L T C
open Sgn (knownB nmB SlG Fm Core cores hasN FindPost FBox FBox.new Find_few)
set_option linter.unusedVariables false
set_option linter.unusedSimpArgs false
set_option maxRecDepth 100000

def varE (S : List ByteArray) (K : List Core) (P : List Vr) (v : Vr) : Int :=
  if (!nmB v.1 || hasN K v.1) = true then 10 else if (!rangeB S v.2) = true then 11 else if (sortV P v.1).isSome = true then 4 else 0
/-- what the query makes; what it holds -/
theorem made_any (b : Option Addr) (m d : Nat) (V : List Vr) (w : World) (hV : IsV w b m V) :
    Calls Try.prog 28 #[.slice b m d] w fun e w' => ∃ g, e = .returned (.func (.func 49) #[] #[.pointer (some ⟨g, 0, none⟩)]) ∧ Below w.heap.size w w' ∧ Hid (g < w'.heap.size ∧ w'.cell? ⟨g, 0, none⟩ = some (.slice b m d) ∧ IsV w' b m V) :=
  (sortsOf_any b m d w).mono fun e w' ⟨he, hw⟩ => by
    subst hw
    refine ⟨_, he, bel_alloc (Below.refl _ _) _, Lib.hid ⟨by simp, Sgn.Blk.cell (Sgn.Blk.new w #[.slice b m d] 26) 0, hV.below (bel_alloc (Below.refl _ _) _)⟩⟩

set_option maxHeartbeats 4000000 in
theorem varError_any (a : Option Addr) (n c : Nat) (S : List ByteArray) (b : Option Addr) (m d : Nat) (G : List Fm) (p : Option Addr) (k e : Nat) (P : List Vr) (v : Vr) (w : World) (hS : IsS w a n S) (hn : n ≤ 1000000) (hG : SlG w b m d G) (hm : m ≤ 1000000) (hK : ∀ C ∈ cores G, C.2.1.length ≤ 1000000) (hP : IsV w p k P) (hk : k ≤ 1000000) (hv : v.1.size ≤ 9223372036854775807) :
    Calls Try.prog 23 #[.agg #[.slice a n c, .slice b m d], .slice p k e, .agg #[.string v.1, .string v.2]] w fun e w' => e = .returned (.int .i64 (varE S (cores G) P v)) ∧ Below w.heap.size w w' := by
  obtain ⟨W2, hW2⟩ : ∃ W, (w.alloc (.cells #[.slice a n c, .slice b m d] 25)).alloc (.cells #[.string v.1, .string v.2] 64) = W := ⟨_, rfl⟩
  have hB2 : Below w.heap.size w W2 := by rw [← hW2]; exact bel_alloc (bel_alloc (Below.refl _ _) _) _
  have S2 : Sgn.Blk W2 w.heap.size #[.slice a n c, .slice b m d] 25 := by rw [← hW2]; exact Sgn.Blk.alloc (Sgn.Blk.new w _ _) _
  have V2 : VBox W2 (w.heap.size + 1) v.1 v.2 := by
    have h := VBox.new (w.alloc (.cells #[.slice a n c, .slice b m d] 25)) v.1 v.2
    rw [hW2] at h
    rwa [show (w.alloc (.cells #[.slice a n c, .slice b m d] 25)).heap.size = w.heap.size + 1 by simp] at h
  have cF := Find_few a n c b m d G v.1 W2 (hG.below hB2) hm hK
  have cM : ∀ w', Below W2.heap.size W2 w' → _ := fun w' h => made_any p k e P w' ((hP.below hB2).below h)
  have cQ : ∀ g w', g < w'.heap.size → w'.cell? ⟨g, 0, none⟩ = some (.slice p k e) → IsV w' p k P → _ := fun g w' h1 h2 h3 => sortsOf1_any g v.1 p k e P w' h1 h2 h3 (by omega)
  have cN := fun (w : World) => Name_any v.1 w hv
  have cW := fun (w : World) => Word_all v.1 w
  have cR : ∀ w', Below W2.heap.size W2 w' → _ := fun w' h => ranges_any a n c S b m d v.2 w' ((hS.below hB2).below h) (by omega)
  have s0 : W2.cell? ⟨w.heap.size, 0, none⟩ = some (.slice a n c) := Sgn.Blk.cell S2 0
  have s1 : W2.cell? ⟨w.heap.size, 1, none⟩ = some (.slice b m d) := Sgn.Blk.cell S2 1
  obtain ⟨v0, v1⟩ := V2.two
  have lS := Sgn.Blk.lt S2
  have lV := Sgn.Blk.lt V2
  unfold varE nmB
  generalize nameB v.1.data.toList = N at *
  generalize wordB v.1.data.toList = B at *
  generalize rangeB S v.2 = R at *
  unfold FindPost at cF
  generalize hasN (cores G) v.1 = H at *
  have hA : sortA P v.1 = .tuple #[.string ((sortV P v.1).getD ⟨#[]⟩), .bool (sortV P v.1).isSome] := by unfold sortA; cases sortV P v.1 <;> rfl
  simp only [hA] at cQ
  generalize (sortV P v.1).getD ⟨#[]⟩ = Z at *
  generalize (sortV P v.1).isSome = T at *
  generalize v.1 = nm at *
  generalize v.2 = rs at *
  have HB2 := Lib.hid hB2
  clear hS hG hP hK S2 V2 hA hB2
  go_enter Try.func23, Try.ntmps23
  go_wp2_with (go_at_call 38; ((with_reducible refine cF.mono ?_); rintro e w3 ⟨f, rfl, -, -, hb3⟩; have t0 := (hb3.cell lS).trans s0; have t1 := (hb3.cell lS).trans s1))
  have B5 : Below W2.heap.size W2 (w3.alloc (.cells #[.string f.name, .slice f.a f.m f.c, .string f.res] 62)) := bel_alloc hb3 _
  generalize w3.alloc (.cells #[.string f.name, .slice f.a f.m f.c, .string f.res] 62) = W5 at *
  have B5d : Below W2.heap.size W2 W5.drew := B5.drew
  have V0 : ∀ w', Below W2.heap.size W2 w' → w'.cell? ⟨w.heap.size + 1, 0, none⟩ = some (.string nm) := fun w' h => (h.cell (p := ⟨w.heap.size + 1, 0, none⟩) lV).trans v0
  have u0 := V0 _ B5
  go_region_held3 (fun w' => w'.cell? ⟨w.heap.size + 1, 0, none⟩ = some (.string nm))
    (first | go_keep | (exact V0 _ B6) | (exact V0 _ (by assumption)))
    (first
      | (go_at_call 28; ((with_reducible refine (cM _ (by assumption)).mono ?_); rintro e w6 ⟨g, rfl, hb6, hg6⟩; have B6 := bel_trans (a := W2) (by assumption) hb6))
      | (go_at_call 49; ((with_reducible refine (cQ _ _ hg6.out.1 hg6.out.2.1 hg6.out.2.2).mono ?_); rintro e w7 ⟨rfl, hb7⟩; have B6 := bel_trans (a := W2) (by assumption) hb7)))
  have V1 : ∀ w', Below W2.heap.size W2 w' → w'.cell? ⟨w.heap.size + 1, 1, none⟩ = some (.string rs) := fun w' h => (h.cell (p := ⟨w.heap.size + 1, 1, none⟩) lV).trans v1
  have S0 : ∀ w', Below W2.heap.size W2 w' → w'.cell? ⟨w.heap.size, 0, none⟩ = some (.slice a n c) := fun w' h => (h.cell (p := ⟨w.heap.size, 0, none⟩) lS).trans s0
  have S1 : ∀ w', Below W2.heap.size W2 w' → w'.cell? ⟨w.heap.size, 1, none⟩ = some (.slice b m d) := fun w' h => (h.cell (p := ⟨w.heap.size, 1, none⟩) lS).trans s1
  have B7 := B6
  have x0 := V0 _ B7
  clear cF cM cQ hg6 u0 t0 t1 v0 v1 s0 s1 hb6 hb7 B5 B5d hb3
  cases N <;> cases B <;> cases H <;> cases R <;> cases T
  all_goals
    go_wp2_with (first
      | (go_at_call 39; ((with_reducible refine (cN _).mono ?_); rintro e w8 ⟨rfl, rfl⟩))
      | (go_at_call 40; ((with_reducible refine (cW _).mono ?_); rintro e w8 ⟨rfl, hb8⟩; have B8 := bel_trans B7 hb8; have y0 := S0 _ B8; have y1 := S1 _ B8; have y2 := V1 _ B8))
      | (go_at_call 41; ((with_reducible refine (cR _ B8).mono ?_); rintro e w9 ⟨rfl, hb9⟩; have B9 := bel_trans B8 hb9)))
    go_ret
    first | exact ⟨rfl, bel_trans HB2.out B9⟩ | exact ⟨rfl, bel_trans HB2.out B8⟩ | exact ⟨rfl, bel_trans HB2.out B7⟩
end Go.Proofs.Ytacncbkcnhlpcaa.Wl
