/-
  What is proved: the law on which signatures may be, walked.
-/
import Derived.Test.YtakcbpmdjdadnaaSgnV
import Derived.Test.YtakcbpmdjdadnaaSgnU
import Derived.Test.YtakcbpmdjdadnaaSgnH
namespace Go.Proofs.Ytakcbpmdjdadnaa.Sgn
open Go.RowKit L Srt
set_option linter.unusedVariables false
set_option linter.unusedSimpArgs false

/-- a signature as it comes in -/
structure SgV where
  a : Option Addr
  n : Nat
  c : Nat
  S : List ByteArray
  b : Option Addr
  m : Nat
  d : Nat
  G : List Fm
def SgV.val (z : SgV) : Value := .agg #[.slice z.a z.n z.c, .slice z.b z.m z.d]
def SgV.ok (z : SgV) (W : World) : Prop := SlS W z.a z.n z.c z.S ∧ z.n ≤ 9223372036854775807 ∧ sizedS z.S ∧ SlG W z.b z.m z.d z.G ∧ z.m ≤ 9223372036854775807 ∧ ∀ C ∈ cores z.G, szC C
def FmV.val (f : Fm) : Value := .agg #[.string f.name, .slice f.a f.m f.c, .string f.res]
def FmV.ok (f : Fm) (W : World) : Prop := f.ok W ∧ szC f.core

set_option maxRecDepth 100000 in
set_option maxHeartbeats 8000000 in
theorem rights_walk (z : SgV) (f : Fm) (w : World) (hz : z.ok w) (hf : FmV.ok f w) :
    Calls Try.prog 3 #[z.val, FmV.val f] w fun e w' => e = .returned (.bool true) ∧ Below w.heap.size w w' := by
  obtain ⟨a, n, c, S, b, m, d, G⟩ := z
  obtain ⟨hS, hn, hzS, hG, hm, hzG⟩ := hz
  obtain ⟨hf, hzF⟩ := hf
  simp only at hS hn hzS hG hm hzG
  show Calls Try.prog 3 #[.agg #[.slice a n c, .slice b m d], .agg #[.string f.name, .slice f.a f.m f.c, .string f.res]] w _
  obtain ⟨W2, hW2, hB2, S2, F2⟩ := boxes w a n c b m d f.name f.a f.m f.c f.res
  have ca := fun (w : World) => alive_any w
  have cL : ∀ w', Below W2.heap.size W2 w' → Calls Try.prog 9 #[.agg #[.slice a n c, .slice b m d]] w' fun e w1 => e = .returned (.bool (longS S (cores G))) ∧ Below w'.heap.size w' w1 := fun w' h => Long_any a n c S b m d G w' ((hS.below hB2).below h).1 hn hzS ((hG.below hB2).below h).1 hm hzG
  have cM : ∀ w', Below W2.heap.size W2 w' → Calls Try.prog 10 #[.agg #[.string f.name, .slice f.a f.m f.c, .string f.res]] w' fun e w1 => e = .returned (.bool (longC f.core)) ∧ Below w'.heap.size w' w1 := fun w' h => LongFun_any f w' ((hf.below hB2).below h) hzF
  obtain ⟨s0, s1⟩ := S2.two
  obtain ⟨f0, f1, f2⟩ := F2.three
  cases hl : longS S (cores G) with
  | true =>
    rw [hl] at cL
    clear cM hS hzS hG hzG hf hzF
    generalize f.name = nm at *
    generalize f.a = A at *
    generalize f.m = M at *
    generalize f.c = Cc at *
    generalize f.res = rs at *
    go_enter Try.func3, Try.ntmps3
    go_wp2_with (first
      | (go_at_call 8; ((with_reducible refine (ca _).mono ?_); rintro e w3 ⟨rfl, hb3⟩; obtain ⟨s30, s31⟩ := (S2.b hb3).two))
      | (go_at_call 9; ((with_reducible refine (cL _ hb3).mono ?_); rintro e w4 ⟨rfl, hb4⟩)))
    go_ret
    exact ⟨rfl, bel_trans hB2 (bel_trans hb3 hb4)⟩
  | false =>
    rw [hl] at cL
    cases hlc : longC f.core with
    | true =>
      rw [hlc] at cM
      clear hS hzS hG hzG hf hzF
      generalize f.name = nm at *
      generalize f.a = A at *
      generalize f.m = M at *
      generalize f.c = Cc at *
      generalize f.res = rs at *
      go_enter Try.func3, Try.ntmps3
      go_wp2_with (first
        | (go_at_call 8; ((with_reducible refine (ca _).mono ?_); rintro e w3 ⟨rfl, hb3⟩; obtain ⟨s30, s31⟩ := (S2.b hb3).two))
        | (go_at_call 9; ((with_reducible refine (cL _ hb3).mono ?_); rintro e w4 ⟨rfl, hb4⟩; have b4 := bel_trans hb3 hb4; obtain ⟨f40, f41, f42⟩ := (F2.b b4).three))
        | (go_at_call 10; ((with_reducible refine (cM _ b4).mono ?_); rintro e w5 ⟨rfl, hb5⟩)))
      go_ret
      exact ⟨rfl, bel_trans hB2 (bel_trans b4 hb5)⟩
    | false =>
      rw [hlc] at cM
      obtain ⟨hS70, hoS, hG20, hoK⟩ := longS_no hl
      obtain ⟨hoC, hX20⟩ := long_no hlc
      have hn2 : n ≤ 1000000 := by rw [hS.1.1]; omega
      have cR : ∀ w', Below W2.heap.size W2 w' → Calls Try.prog 11 #[.agg #[.slice a n c, .slice b m d]] w' fun e w1 => e = .returned (.int .i64 (signE S (cores G))) ∧ Below w'.heap.size w' w1 := fun w' h => Right6_any a n c S b m d G w' ((hS.below hB2).below h) hn2 hoS ((hG.below hB2).below h) hoK
      have cR' : ∀ w', Below W2.heap.size W2 w' → Calls Try.prog 12 #[.agg #[.slice a n c, .slice b m d]] w' fun e w1 => e = .returned (.int .i64 (signE S (cores G))) ∧ Below w'.heap.size w' w1 := fun w' h => refRight6_any a n c S b m d G w' ((hS.below hB2).below h) hn2 hoS ((hG.below hB2).below h) hoK
      have cC : ∀ w', Below W2.heap.size W2 w' → Calls Try.prog 13 #[.agg #[.slice a n c, .slice b m d], .agg #[.string f.name, .slice f.a f.m f.c, .string f.res]] w' fun e w1 => e = .returned (.int .i64 (checkE S f.core)) ∧ Below w'.heap.size w' w1 := fun w' h => Check_any a n c S b m d f w' ((hS.below hB2).below h) hn2 ((hf.below hB2).below h) hoC
      have cC' : ∀ w', Below W2.heap.size W2 w' → Calls Try.prog 14 #[.agg #[.slice a n c, .slice b m d], .agg #[.string f.name, .slice f.a f.m f.c, .string f.res]] w' fun e w1 => e = .returned (.int .i64 (checkE S f.core)) ∧ Below w'.heap.size w' w1 := fun w' h => refCheck_any a n c S b m d f w' ((hS.below hB2).below h) hn2 ((hf.below hB2).below h) hoC
      have ls := Blk.lt S2
      have lf := Blk.lt F2
      clear hS hzS hG hzG hf hzF hoS hoK hoC
      generalize signE S (cores G) = E at *
      generalize checkE S f.core = Ce at *
      generalize f.name = nm at *
      generalize f.a = A at *
      generalize f.m = M at *
      generalize f.c = Cc at *
      generalize f.res = rs at *
      go_enter Try.func3, Try.ntmps3
      go_wp2_with (first
        | (go_at_call 8; ((with_reducible refine (ca _).mono ?_); rintro e w3 ⟨rfl, hb3⟩; obtain ⟨s30, s31⟩ := (S2.b hb3).two))
        | (go_at_call 9; ((with_reducible refine (cL _ hb3).mono ?_); rintro e w4 ⟨rfl, hb4⟩; have b4 := bel_trans hb3 hb4; obtain ⟨f40, f41, f42⟩ := (F2.b b4).three))
        | (go_at_call 10; ((with_reducible refine (cM _ b4).mono ?_); rintro e w5 ⟨rfl, hb5⟩; have b5 := bel_trans b4 hb5; obtain ⟨s50, s51⟩ := (S2.b b5).two; obtain ⟨f50, f51, f52⟩ := (F2.b b5).three)))
      have Bn : Below W2.heap.size W2 w5.drew := b5.drew
      clear cL cM ca s30 s31 f40 f41 f42 hW2
      go_region_held3 (fun w' => w'.cell? ⟨w.heap.size, 0, none⟩ = some (.slice a n c) ∧ w'.cell? ⟨w.heap.size, 1, none⟩ = some (.slice b m d) ∧ w'.cell? ⟨w.heap.size + 1, 0, none⟩ = some (.string nm) ∧ w'.cell? ⟨w.heap.size + 1, 1, none⟩ = some (.slice A M Cc) ∧ w'.cell? ⟨w.heap.size + 1, 2, none⟩ = some (.string rs))
        (first | (exact ⟨(Bn.cell ls).trans s0, (Bn.cell ls).trans s1, (Bn.cell lf).trans f0, (Bn.cell lf).trans f1, (Bn.cell lf).trans f2⟩) | go_keep)
        (first
          | (go_at_call 11; ((with_reducible refine (cR _ (by assumption)).mono ?_); rintro e w6 ⟨rfl, hb6⟩; have Bn := bel_trans (a := W2) (by assumption) hb6))
          | (go_at_call 12; ((with_reducible refine (cR' _ (by assumption)).mono ?_); rintro e w6 ⟨rfl, hb6⟩; have Bn := bel_trans (a := W2) (by assumption) hb6))
          | (go_at_call 13; ((with_reducible refine (cC _ (by assumption)).mono ?_); rintro e w6 ⟨rfl, hb6⟩; have Bn := bel_trans (a := W2) (by assumption) hb6))
          | (go_at_call 14; ((with_reducible refine (cC' _ (by assumption)).mono ?_); rintro e w6 ⟨rfl, hb6⟩; have Bn := bel_trans (a := W2) (by assumption) hb6)))
      all_goals go_wp2
      all_goals go_ret
      all_goals exact ⟨rfl, bel_trans hB2 Bn⟩
end Go.Proofs.Ytakcbpmdjdadnaa.Sgn
