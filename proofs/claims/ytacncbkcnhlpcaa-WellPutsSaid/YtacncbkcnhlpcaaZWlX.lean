/-
  What is proved: the first error of variables: the whole list, by package well.
-/
import Derived.Test.YtacncbkcnhlpcaaZWlV
namespace Go.Proofs.Ytacncbkcnhlpcaa.Wl
open Go.RowKit L T C
open Sgn (knownB nmB SlG Fm Core cores hasN)
set_option linter.unusedVariables false
set_option linter.unusedSimpArgs false
set_option maxRecDepth 100000

def varsE (S : List ByteArray) (K : List Core) : List Vr → List Vr → Int
  | _, [] => 0
  | P, v :: l => if varE S K P v ≠ 0 then varE S K P v else varsE S K (P ++ [v]) l
def varsV (S : List ByteArray) (K : List Core) (V : List Vr) : Int := if 256 < V.length then 2 else varsE S K [] V
theorem varsE_at {S : List ByteArray} {K : List Core} {V : List Vr} {k : Nat} {v : Vr} (h : V[k]? = some v) :
    varsE S K (V.take k) (V.drop k) = if varE S K (V.take k) v ≠ 0 then varE S K (V.take k) v else varsE S K (V.take (k + 1)) (V.drop (k + 1)) := by
  obtain ⟨hk, rfl⟩ := List.getElem?_eq_some_iff.1 h
  rw [List.drop_eq_getElem_cons hk, varsE, List.take_succ_eq_append_getElem hk]
theorem varsE_end {S : List ByteArray} {K : List Core} {V : List Vr} {k : Nat} (h : V.length ≤ k) : varsE S K (V.take k) (V.drop k) = 0 := by
  rw [List.drop_eq_nil_of_le h]; rfl

set_option maxHeartbeats 4000000 in
theorem Vars_any (a : Option Addr) (n c : Nat) (S : List ByteArray) (b : Option Addr) (m d : Nat) (G : List Fm) (p : Option Addr) (q e : Nat) (V : List Vr) (w : World) (hS : IsS w a n S) (hn : n ≤ 1000000) (hG : SlG w b m d G) (hm : m ≤ 1000000) (hK : ∀ C ∈ cores G, C.2.1.length ≤ 1000000) (hV : SlV w p q e V) (hz : ∀ v ∈ V, v.1.size ≤ 9223372036854775807) (hq : q ≤ 1000000) :
    Calls Try.prog 9 #[.agg #[.slice a n c, .slice b m d], .slice p q e] w fun e w' => e = .returned (.int .i64 (varsV S (cores G) V)) ∧ Below w.heap.size w w' := by
  obtain ⟨W1, hW1⟩ : ∃ W1, w.alloc (.cells #[.slice a n c, .slice b m d] 25) = W1 := ⟨_, rfl⟩
  have hB1 : Below w.heap.size w W1 := by rw [← hW1]; exact bel_alloc (Below.refl _ _) _
  have S1 := Sgn.Blk.new w #[.slice a n c, .slice b m d] 25
  rw [hW1] at S1
  have lS := Sgn.Blk.lt S1
  have s0 : W1.cell? ⟨w.heap.size, 0, none⟩ = some (.slice a n c) := Sgn.Blk.cell S1 0
  have s1 : W1.cell? ⟨w.heap.size, 1, none⟩ = some (.slice b m d) := Sgn.Blk.cell S1 1
  have hlen : V.length = q := hV.1.1.symm
  have hqe : q ≤ e := hV.2.1
  have hE : varsV S (cores G) V = if 256 < q then 2 else varsE S (cores G) (V.take 0) (V.drop 0) := by unfold varsV; rw [hlen]; rfl
  have hst : ∀ k (v : Vr), V[k]? = some v → varsE S (cores G) (V.take k) (V.drop k) = if varE S (cores G) (V.take k) v ≠ 0 then varE S (cores G) (V.take k) v else varsE S (cores G) (V.take (k + 1)) (V.drop (k + 1)) := fun k v h => varsE_at h
  have he : ∀ k, q ≤ k → varsE S (cores G) (V.take k) (V.drop k) = 0 := fun k h => varsE_end (by rw [hlen]; exact h)
  have cV : ∀ (v : Vr) (k : Nat) w', V[k]? = some v → k ≤ q → Below W1.heap.size W1 w' → Calls Try.prog 23 #[.agg #[.slice a n c, .slice b m d], .slice p k e, .agg #[.string v.1, .string v.2]] w' fun e w1 => e = .returned (.int .i64 (varE S (cores G) (V.take k) v)) ∧ Below w'.heap.size w' w1 :=
    fun v k w' hk hkq h => varError_any a n c S b m d G p k e (V.take k) v w' ((hS.below hB1).below h) hn ((hG.below hB1).below h) hm hK (((hV.1.below hB1).below h).take k hkq) (by omega) (hz v (List.mem_of_getElem? hk))
  obtain ⟨F, hF⟩ : ∃ F : Nat → Int, ∀ k, varsE S (cores G) (V.take k) (V.drop k) = F k := ⟨_, fun _ => rfl⟩
  obtain ⟨E1, hE1⟩ : ∃ E1 : Nat → Vr → Int, ∀ k v, varE S (cores G) (V.take k) v = E1 k v := ⟨_, fun _ _ => rfl⟩
  simp only [hF, hE1] at hst he hE cV
  generalize varsV S (cores G) V = R at *
  have HB1 := Lib.hid hB1
  have HV := Lib.hid (hV.1.below hB1)
  clear hF hE1 hS hG hK hV hz hlen hB1 S1
  by_cases h256 : 256 < q
  · rw [if_pos h256] at hE
    have HE := Lib.hid hE
    have h257 : 256 < (q : Int) := by omega
    clear hE hst he cV HV
    go_enter Try.func9, Try.ntmps9
    go_wp2
    go_ret
    exact ⟨one HE.out.symm, HB1.out⟩
  · rw [if_neg h256] at hE
    have h257 : ¬ 256 < (q : Int) := by omega
    have HE := Lib.hid hE
    have Hst := Lib.hid hst
    have He := Lib.hid he
    have HC := Lib.hid cV
    have S0 : ∀ w', Below W1.heap.size W1 w' → w'.cell? ⟨w.heap.size, 0, none⟩ = some (.slice a n c) := fun w' h => (h.cell (p := ⟨w.heap.size, 0, none⟩) lS).trans s0
    have S1 : ∀ w', Below W1.heap.size W1 w' → w'.cell? ⟨w.heap.size, 1, none⟩ = some (.slice b m d) := fun w' h => (h.cell (p := ⟨w.heap.size, 1, none⟩) lS).trans s1
    clear hE hst he cV
    go_enter Try.func9, Try.ntmps9
    go_wp2
    clear s0 s1 hW1
    go_loopw [13] (fun i wr0 => ∃ (wr : World) (k : Nat), wr = wr0 ∧ k ≤ q ∧ i = .int .i64 k ∧ Below W1.heap.size W1 wr ∧ Hid (F k = F 0)) (fun i _ => q - (intOf i).toNat)
    case atStart => exact ⟨_, 0, rfl, by omega, rfl, Below.refl _ _, Lib.hid rfl⟩
    case round =>
      obtain ⟨wr, k, rfl, hk, rfl, hB, hR⟩ := hrel
      by_cases hlt : k < q
      · obtain ⟨bb, o, v, rfl, hb, y1, y2, hx⟩ := (HV.out.below hB).at hlt
        have hs1 := Hst.out k v hx
        have hk0 : 0 ≤ (k : Int) := by omega
        have hk1 : (k : Int) < (q : Int) := by omega
        have hk2 : (k : Int) ≤ (e : Int) := by omega
        have cc := fun w' h => HC.out v k w' hx hk h
        obtain ⟨nm, rs⟩ := v
        simp only at hs1 y1 y2 cc
        clear hx Hst HC HV
        generalize hX : E1 k (nm, rs) = X at *
        have tn : ((k : Int)).toNat = k := by omega
        have W := VBox.new wr nm rs
        have B5 : Below W1.heap.size W1 (wr.alloc (.cells #[.string nm, .string rs] 64)) := bel_alloc hB _
        obtain ⟨u0, u1⟩ := W.two
        have lW := Sgn.Blk.lt W
        have B5d : Below (wr.alloc (.cells #[.string nm, .string rs] 64)).heap.size (wr.alloc (.cells #[.string nm, .string rs] 64)) (wr.alloc (.cells #[.string nm, .string rs] 64)).drew := (Below.refl _ _).drew
        have U0 : ∀ w', Below (wr.alloc (.cells #[.string nm, .string rs] 64)).heap.size (wr.alloc (.cells #[.string nm, .string rs] 64)) w' → w'.cell? ⟨wr.heap.size, 0, none⟩ = some (.string nm) := fun w' h => (h.cell (p := ⟨wr.heap.size, 0, none⟩) lW).trans u0
        have U1 : ∀ w', Below (wr.alloc (.cells #[.string nm, .string rs] 64)).heap.size (wr.alloc (.cells #[.string nm, .string rs] 64)) w' → w'.cell? ⟨wr.heap.size, 1, none⟩ = some (.string rs) := fun w' h => (h.cell (p := ⟨wr.heap.size, 1, none⟩) lW).trans u1
        clear W
        by_cases hX0 : X = 0
        · rw [if_neg (by simp [hX0])] at hs1
          have hnew : Hid (F (k + 1) = F 0) := by show _ = _; rw [← hR.out, hs1]
          subst hX0
          clear hR hs1 hX
          go_wp2
          generalize wr.alloc (.cells #[.string nm, .string rs] 64) = W5 at *
          have s50 := S0 _ B5
          have s51 := S1 _ B5
          clear y1 y2
          go_region_held3 (fun w' => w'.cell? ⟨w.heap.size, 0, none⟩ = some (.slice a n c) ∧ w'.cell? ⟨w.heap.size, 1, none⟩ = some (.slice b m d) ∧ w'.cell? ⟨wr.heap.size, 0, none⟩ = some (.string nm) ∧ w'.cell? ⟨wr.heap.size, 1, none⟩ = some (.string rs))
            (first | (exact ⟨S0 _ (bel_trans B5 B6), S1 _ (bel_trans B5 B6), U0 _ B6, U1 _ B6⟩) | go_keep | (exact ⟨S0 _ (bel_trans B5 B5d), S1 _ (bel_trans B5 B5d), U0 _ B5d, U1 _ B5d⟩))
            (first
              | (go_at_call 23; ((with_reducible refine (cc _ (bel_trans B5 B5d)).mono ?_); rintro e w6 ⟨rfl, hb6⟩; have B6 := bel_trans B5d hb6)))
          have B7 := bel_trans B5 B6
          go_wp2
          go_roundw
          case rel => exact ⟨_, k + 1, rfl, by omega, by go_num, B7, hnew⟩
          case measure => simp [intOf]; omega
        · have h1 : (X != 0) = true := by simp [hX0]
          rw [if_pos hX0] at hs1
          have hnew : Hid (F 0 = X) := by show _ = _; rw [← hR.out, hs1]
          clear hR hs1 hX
          go_wp2
          generalize wr.alloc (.cells #[.string nm, .string rs] 64) = W5 at *
          have s50 := S0 _ B5
          have s51 := S1 _ B5
          clear y1 y2
          go_region_held3 (fun w' => w'.cell? ⟨w.heap.size, 0, none⟩ = some (.slice a n c) ∧ w'.cell? ⟨w.heap.size, 1, none⟩ = some (.slice b m d) ∧ w'.cell? ⟨wr.heap.size, 0, none⟩ = some (.string nm) ∧ w'.cell? ⟨wr.heap.size, 1, none⟩ = some (.string rs))
            (first | (exact ⟨S0 _ (bel_trans B5 B6), S1 _ (bel_trans B5 B6), U0 _ B6, U1 _ B6⟩) | go_keep | (exact ⟨S0 _ (bel_trans B5 B5d), S1 _ (bel_trans B5 B5d), U0 _ B5d, U1 _ B5d⟩))
            (first
              | (go_at_call 23; ((with_reducible refine (cc _ (bel_trans B5 B5d)).mono ?_); rintro e w6 ⟨rfl, hb6⟩; have B6 := bel_trans B5d hb6)))
          have B7 := bel_trans B5 B6
          go_wp2
          go_ret
          exact ⟨one (hnew.out.symm.trans HE.out.symm), bel_trans HB1.out B7⟩
      · have hnew : Hid (F 0 = 0) := by show _ = _; rw [← hR.out, He.out k (by omega)]
        clear hR
        go_wp2
        go_ret
        exact ⟨one (hnew.out.symm.trans HE.out.symm), bel_trans HB1.out hB⟩
end Go.Proofs.Ytacncbkcnhlpcaa.Wl
