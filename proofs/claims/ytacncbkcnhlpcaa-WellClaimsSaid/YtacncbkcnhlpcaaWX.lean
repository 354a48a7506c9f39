/-
  What is proved: the first error of variables: the whole list, by package well.
  What is proved: the first error of variables, by the document's answer.
  What is proved: the law over variables that go with a signature.
-/
import Derived.Test.YtacncbkcnhlpcaaZWlV
import Derived.Test.YtacncbkcnhlpcaaZWlK
import Derived.Test.YtacncbkcnhlpcaaZWlFw
import Derived.Test.YtacncbkcnhlpcaaZWlG
namespace Go.Proofs.Ytacncbkcnhlpcaa.Wl
open Go.RowKit L T C
open Sgn (knownB nmB SlG Fm Core cores hasN)
set_option linter.unusedVariables false
set_option linter.unusedSimpArgs false
set_option maxRecDepth 100000

def varsE (S : List ByteArray) (K : List Core) : List Vr → List Vr → Int
  | _, [] => 0
  | P, v :: l => if varE S K P v ≠ 0 then varE S K P v else varsE S K (P ++ [v]) l
def varsV (S : List ByteArray) (K : List Core) (V : List Vr) : Int := if 256 < V.length then 2 else varsE S K [] V
theorem varsE_at {S : List ByteArray} {K : List Core} {V : List Vr} {k : Nat} {v : Vr} (h : V[k]? = some v) :
    varsE S K (V.take k) (V.drop k) = if varE S K (V.take k) v ≠ 0 then varE S K (V.take k) v else varsE S K (V.take (k + 1)) (V.drop (k + 1)) := by
  obtain ⟨hk, rfl⟩ := List.getElem?_eq_some_iff.1 h
  rw [List.drop_eq_getElem_cons hk, varsE, List.take_succ_eq_append_getElem hk]
theorem varsE_end {S : List ByteArray} {K : List Core} {V : List Vr} {k : Nat} (h : V.length ≤ k) : varsE S K (V.take k) (V.drop k) = 0 := by
  rw [List.drop_eq_nil_of_le h]; rfl

set_option maxHeartbeats 4000000 in
theorem Vars_any (a : Option Addr) (n c : Nat) (S : List ByteArray) (b : Option Addr) (m d : Nat) (G : List Fm) (p : Option Addr) (q e : Nat) (V : List Vr) (w : World) (hS : IsS w a n S) (hn : n ≤ 1000000) (hG : SlG w b m d G) (hm : m ≤ 1000000) (hK : ∀ C ∈ cores G, C.2.1.length ≤ 1000000) (hV : SlV w p q e V) (hz : ∀ v ∈ V, v.1.size ≤ 9223372036854775807) (hq : q ≤ 1000000) :
    Calls Try.prog 9 #[.agg #[.slice a n c, .slice b m d], .slice p q e] w fun e w' => e = .returned (.int .i64 (varsV S (cores G) V)) ∧ Below w.heap.size w w' := by
  obtain ⟨W1, hW1⟩ : ∃ W1, w.alloc (.cells #[.slice a n c, .slice b m d] 25) = W1 := ⟨_, rfl⟩
  have hB1 : Below w.heap.size w W1 := by rw [← hW1]; exact bel_alloc (Below.refl _ _) _
  have S1 := Sgn.Blk.new w #[.slice a n c, .slice b m d] 25
  rw [hW1] at S1
  have lS := Sgn.Blk.lt S1
  have s0 : W1.cell? ⟨w.heap.size, 0, none⟩ = some (.slice a n c) := Sgn.Blk.cell S1 0
  have s1 : W1.cell? ⟨w.heap.size, 1, none⟩ = some (.slice b m d) := Sgn.Blk.cell S1 1
  have hlen : V.length = q := hV.1.1.symm
  have hqe : q ≤ e := hV.2.1
  have hE : varsV S (cores G) V = if 256 < q then 2 else varsE S (cores G) (V.take 0) (V.drop 0) := by unfold varsV; rw [hlen]; rfl
  have hst : ∀ k (v : Vr), V[k]? = some v → varsE S (cores G) (V.take k) (V.drop k) = if varE S (cores G) (V.take k) v ≠ 0 then varE S (cores G) (V.take k) v else varsE S (cores G) (V.take (k + 1)) (V.drop (k + 1)) := fun k v h => varsE_at h
  have he : ∀ k, q ≤ k → varsE S (cores G) (V.take k) (V.drop k) = 0 := fun k h => varsE_end (by rw [hlen]; exact h)
  have cV : ∀ (v : Vr) (k : Nat) w', V[k]? = some v → k ≤ q → Below W1.heap.size W1 w' → Calls Try.prog 23 #[.agg #[.slice a n c, .slice b m d], .slice p k e, .agg #[.string v.1, .string v.2]] w' fun e w1 => e = .returned (.int .i64 (varE S (cores G) (V.take k) v)) ∧ Below w'.heap.size w' w1 :=
    fun v k w' hk hkq h => varError_any a n c S b m d G p k e (V.take k) v w' ((hS.below hB1).below h) hn ((hG.below hB1).below h) hm hK (((hV.1.below hB1).below h).take k hkq) (by omega) (hz v (List.mem_of_getElem? hk))
  obtain ⟨F, hF⟩ : ∃ F : Nat → Int, ∀ k, varsE S (cores G) (V.take k) (V.drop k) = F k := ⟨_, fun _ => rfl⟩
  obtain ⟨E1, hE1⟩ : ∃ E1 : Nat → Vr → Int, ∀ k v, varE S (cores G) (V.take k) v = E1 k v := ⟨_, fun _ _ => rfl⟩
  simp only [hF, hE1] at hst he hE cV
  generalize varsV S (cores G) V = R at *
  have HB1 := Lib.hid hB1
  have HV := Lib.hid (hV.1.below hB1)
  clear hF hE1 hS hG hK hV hz hlen hB1 S1
  by_cases h256 : 256 < q
  · rw [if_pos h256] at hE
    have HE := Lib.hid hE
    have h257 : 256 < (q : Int) := by omega
    clear hE hst he cV HV
    go_enter Try.func9, Try.ntmps9
    go_wp2
    go_ret
    exact ⟨one HE.out.symm, HB1.out⟩
  · rw [if_neg h256] at hE
    have h257 : ¬ 256 < (q : Int) := by omega
    have HE := Lib.hid hE
    have Hst := Lib.hid hst
    have He := Lib.hid he
    have HC := Lib.hid cV
    have S0 : ∀ w', Below W1.heap.size W1 w' → w'.cell? ⟨w.heap.size, 0, none⟩ = some (.slice a n c) := fun w' h => (h.cell (p := ⟨w.heap.size, 0, none⟩) lS).trans s0
    have S1 : ∀ w', Below W1.heap.size W1 w' → w'.cell? ⟨w.heap.size, 1, none⟩ = some (.slice b m d) := fun w' h => (h.cell (p := ⟨w.heap.size, 1, none⟩) lS).trans s1
    clear hE hst he cV
    go_enter Try.func9, Try.ntmps9
    go_wp2
    clear s0 s1 hW1
    go_loopw [13] (fun i wr0 => ∃ (wr : World) (k : Nat), wr = wr0 ∧ k ≤ q ∧ i = .int .i64 k ∧ Below W1.heap.size W1 wr ∧ Hid (F k = F 0)) (fun i _ => q - (intOf i).toNat)
    case atStart => exact ⟨_, 0, rfl, by omega, rfl, Below.refl _ _, Lib.hid rfl⟩
    case round =>
      obtain ⟨wr, k, rfl, hk, rfl, hB, hR⟩ := hrel
      by_cases hlt : k < q
      · obtain ⟨bb, o, v, rfl, hb, y1, y2, hx⟩ := (HV.out.below hB).at hlt
        have hs1 := Hst.out k v hx
        have hk0 : 0 ≤ (k : Int) := by omega
        have hk1 : (k : Int) < (q : Int) := by omega
        have hk2 : (k : Int) ≤ (e : Int) := by omega
        have cc := fun w' h => HC.out v k w' hx hk h
        obtain ⟨nm, rs⟩ := v
        simp only at hs1 y1 y2 cc
        clear hx Hst HC HV
        generalize hX : E1 k (nm, rs) = X at *
        have tn : ((k : Int)).toNat = k := by omega
        have W := VBox.new wr nm rs
        have B5 : Below W1.heap.size W1 (wr.alloc (.cells #[.string nm, .string rs] 64)) := bel_alloc hB _
        obtain ⟨u0, u1⟩ := W.two
        have lW := Sgn.Blk.lt W
        have B5d : Below (wr.alloc (.cells #[.string nm, .string rs] 64)).heap.size (wr.alloc (.cells #[.string nm, .string rs] 64)) (wr.alloc (.cells #[.string nm, .string rs] 64)).drew := (Below.refl _ _).drew
        have U0 : ∀ w', Below (wr.alloc (.cells #[.string nm, .string rs] 64)).heap.size (wr.alloc (.cells #[.string nm, .string rs] 64)) w' → w'.cell? ⟨wr.heap.size, 0, none⟩ = some (.string nm) := fun w' h => (h.cell (p := ⟨wr.heap.size, 0, none⟩) lW).trans u0
        have U1 : ∀ w', Below (wr.alloc (.cells #[.string nm, .string rs] 64)).heap.size (wr.alloc (.cells #[.string nm, .string rs] 64)) w' → w'.cell? ⟨wr.heap.size, 1, none⟩ = some (.string rs) := fun w' h => (h.cell (p := ⟨wr.heap.size, 1, none⟩) lW).trans u1
        clear W
        by_cases hX0 : X = 0
        · rw [if_neg (by simp [hX0])] at hs1
          have hnew : Hid (F (k + 1) = F 0) := by show _ = _; rw [← hR.out, hs1]
          subst hX0
          clear hR hs1 hX
          go_wp2
          generalize wr.alloc (.cells #[.string nm, .string rs] 64) = W5 at *
          have s50 := S0 _ B5
          have s51 := S1 _ B5
          clear y1 y2
          go_region_held3 (fun w' => w'.cell? ⟨w.heap.size, 0, none⟩ = some (.slice a n c) ∧ w'.cell? ⟨w.heap.size, 1, none⟩ = some (.slice b m d) ∧ w'.cell? ⟨wr.heap.size, 0, none⟩ = some (.string nm) ∧ w'.cell? ⟨wr.heap.size, 1, none⟩ = some (.string rs))
            (first | (exact ⟨S0 _ (bel_trans B5 B6), S1 _ (bel_trans B5 B6), U0 _ B6, U1 _ B6⟩) | go_keep | (exact ⟨S0 _ (bel_trans B5 B5d), S1 _ (bel_trans B5 B5d), U0 _ B5d, U1 _ B5d⟩))
            (first
              | (go_at_call 23; ((with_reducible refine (cc _ (bel_trans B5 B5d)).mono ?_); rintro e w6 ⟨rfl, hb6⟩; have B6 := bel_trans B5d hb6)))
          have B7 := bel_trans B5 B6
          go_wp2
          go_roundw
          case rel => exact ⟨_, k + 1, rfl, by omega, by go_num, B7, hnew⟩
          case measure => simp [intOf]; omega
        · have h1 : (X != 0) = true := by simp [hX0]
          rw [if_pos hX0] at hs1
          have hnew : Hid (F 0 = X) := by show _ = _; rw [← hR.out, hs1]
          clear hR hs1 hX
          go_wp2
          generalize wr.alloc (.cells #[.string nm, .string rs] 64) = W5 at *
          have s50 := S0 _ B5
          have s51 := S1 _ B5
          clear y1 y2
          go_region_held3 (fun w' => w'.cell? ⟨w.heap.size, 0, none⟩ = some (.slice a n c) ∧ w'.cell? ⟨w.heap.size, 1, none⟩ = some (.slice b m d) ∧ w'.cell? ⟨wr.heap.size, 0, none⟩ = some (.string nm) ∧ w'.cell? ⟨wr.heap.size, 1, none⟩ = some (.string rs))
            (first | (exact ⟨S0 _ (bel_trans B5 B6), S1 _ (bel_trans B5 B6), U0 _ B6, U1 _ B6⟩) | go_keep | (exact ⟨S0 _ (bel_trans B5 B5d), S1 _ (bel_trans B5 B5d), U0 _ B5d, U1 _ B5d⟩))
            (first
              | (go_at_call 23; ((with_reducible refine (cc _ (bel_trans B5 B5d)).mono ?_); rintro e w6 ⟨rfl, hb6⟩; have B6 := bel_trans B5d hb6)))
          have B7 := bel_trans B5 B6
          go_wp2
          go_ret
          exact ⟨one (hnew.out.symm.trans HE.out.symm), bel_trans HB1.out B7⟩
      · have hnew : Hid (F 0 = 0) := by show _ = _; rw [← hR.out, He.out k (by omega)]
        clear hR
        go_wp2
        go_ret
        exact ⟨one (hnew.out.symm.trans HE.out.symm), bel_trans HB1.out hB⟩
end Go.Proofs.Ytacncbkcnhlpcaa.Wl
namespace Go.Proofs.Ytacncbkcnhlpcaa.Wl
open Go.RowKit L T C
open Sgn (knownB nmB SlG Fm Core cores hasN FindPost)
set_option linter.unusedVariables false
set_option linter.unusedSimpArgs false
set_option maxRecDepth 100000

set_option maxHeartbeats 8000000 in
theorem Vars13_any (a : Option Addr) (n c : Nat) (S : List ByteArray) (b : Option Addr) (m d : Nat) (G : List Fm) (p : Option Addr) (q e : Nat) (V : List Vr) (w : World) (hS : IsS w a n S) (hn : n ≤ 1000000) (hG : SlG w b m d G) (hm : m ≤ 1000000) (hV : SlV w p q e V) (hz : ∀ v ∈ V, v.1.size ≤ 9223372036854775807) (hq : q ≤ 1000000) :
    Calls Try.prog 10 #[.agg #[.slice a n c, .slice b m d], .slice p q e] w fun e w' => e = .returned (.int .i64 (varsV S (cores G) V)) ∧ Below w.heap.size w w' := by
  obtain ⟨W1, hW1⟩ : ∃ W1, w.alloc (.cells #[.slice a n c, .slice b m d] 25) = W1 := ⟨_, rfl⟩
  have hB1 : Below w.heap.size w W1 := by rw [← hW1]; exact bel_alloc (Below.refl _ _) _
  have S1 := Sgn.Blk.new w #[.slice a n c, .slice b m d] 25
  rw [hW1] at S1
  have lS := Sgn.Blk.lt S1
  have s0 : W1.cell? ⟨w.heap.size, 0, none⟩ = some (.slice a n c) := Sgn.Blk.cell S1 0
  have s1 : W1.cell? ⟨w.heap.size, 1, none⟩ = some (.slice b m d) := Sgn.Blk.cell S1 1
  have hlen : V.length = q := hV.1.1.symm
  have hqe : q ≤ e := hV.2.1
  have hE : varsV S (cores G) V = if 256 < q then 2 else varsE S (cores G) (V.take 0) (V.drop 0) := by unfold varsV; rw [hlen]; rfl
  have hst : ∀ k (v : Vr), V[k]? = some v → varsE S (cores G) (V.take k) (V.drop k) = if varE S (cores G) (V.take k) v ≠ 0 then varE S (cores G) (V.take k) v else varsE S (cores G) (V.take (k + 1)) (V.drop (k + 1)) := fun k v h => varsE_at h
  have he : ∀ k, q ≤ k → varsE S (cores G) (V.take k) (V.drop k) = 0 := fun k h => varsE_end (by rw [hlen]; exact h)
  have cF : ∀ (s : ByteArray) w', Below W1.heap.size W1 w' → Calls Try.prog 24 #[.agg #[.slice a n c, .slice b m d], .string s] w' fun e w1 => ∃ (x y : ByteArray) (A : Option Addr) (M C : Nat), e = .returned (.tuple #[.agg #[.string x, .slice A M C, .string y], .bool (hasN (cores G) s)]) ∧ Below w'.heap.size w' w1 :=
    fun s w' h => (Find13_any a n c b m d G s w' ((hG.below hB1).below h) hm).mono fun e w1 ⟨f, h1, _, _, h2⟩ => ⟨_, _, _, _, _, h1, h2⟩
  have cK : ∀ (s : ByteArray) w', Below W1.heap.size W1 w' → _ := fun s w' h => Known13_any a n c S b m d s w' ((hS.below hB1).below h) (by omega)
  have cN : ∀ (v : Vr) (k : Nat), V[k]? = some v → ∀ w', _ := fun v k hk w' => Name13_any v.1 w' (hz v (List.mem_of_getElem? hk))
  have cT : ∀ (s : ByteArray) (k : Nat) w', k ≤ q → Below W1.heap.size W1 w' → Calls Try.prog 20 #[.slice p k e, .string s] w' fun e w1 => e = .returned (.tuple #[.string ((sortV (V.take k) s).getD ⟨#[]⟩), .bool (sortV (V.take k) s).isSome]) ∧ w1 = w' :=
    fun s k w' hk h => (Sort13_any s p k e (V.take k) w' (((hV.1.below hB1).below h).take k hk) (by omega)).mono fun e w1 ⟨h1, h2⟩ => ⟨by rw [h1]; unfold sortA; cases sortV (V.take k) s <;> rfl, h2⟩
  have hvar : ∀ P (nm rs : ByteArray), varE S (cores G) P (nm, rs) = if (!nmB nm || hasN (cores G) nm) = true then 10 else if (!(knownB S rs && !(rs.toList == [66, 111, 111, 108]))) = true then 11 else if (sortV P nm).isSome = true then 4 else 0 := fun P nm rs => by unfold varE rangeB; rw [sBool_l]
  obtain ⟨F, hF⟩ : ∃ F : Nat → Int, ∀ k, varsE S (cores G) (V.take k) (V.drop k) = F k := ⟨_, fun _ => rfl⟩
  simp only [hF] at hst he hE
  generalize varsV S (cores G) V = R at *
  have HB1 := Lib.hid hB1
  have HV := Lib.hid (hV.1.below hB1)
  clear hF hS hG hV hz hlen hB1 S1
  by_cases h256 : 256 < q
  · rw [if_pos h256] at hE
    have HE := Lib.hid hE
    have h257 : 256 < (q : Int) := by omega
    clear hE hst he cF cK cN cT hvar HV
    go_enter Try.func10, Try.ntmps10
    go_wp2
    go_ret
    exact ⟨one HE.out.symm, HB1.out⟩
  · rw [if_neg h256] at hE
    have h257 : ¬ 256 < (q : Int) := by omega
    have HE := Lib.hid hE
    have Hst := Lib.hid hst
    have He := Lib.hid he
    have HF := Lib.hid cF
    have HK := Lib.hid cK
    have HN := Lib.hid cN
    have HT := Lib.hid cT
    have Hvar := Lib.hid hvar
    have S0 : ∀ w', Below W1.heap.size W1 w' → w'.cell? ⟨w.heap.size, 0, none⟩ = some (.slice a n c) := fun w' h => (h.cell (p := ⟨w.heap.size, 0, none⟩) lS).trans s0
    have S1 : ∀ w', Below W1.heap.size W1 w' → w'.cell? ⟨w.heap.size, 1, none⟩ = some (.slice b m d) := fun w' h => (h.cell (p := ⟨w.heap.size, 1, none⟩) lS).trans s1
    clear hE hst he cF cK cN cT hvar
    go_enter Try.func10, Try.ntmps10
    go_wp2
    clear s0 s1 hW1
    go_loopw [5] (fun i wr0 => ∃ (wr : World) (k : Nat), wr = wr0 ∧ k ≤ q ∧ i = .int .i64 k ∧ Below W1.heap.size W1 wr ∧ Hid (F k = F 0)) (fun i _ => q - (intOf i).toNat)
    case atStart => exact ⟨_, 0, rfl, by omega, rfl, Below.refl _ _, Lib.hid rfl⟩
    case round =>
      obtain ⟨wr, k, rfl, hk, rfl, hB, hR⟩ := hrel
      by_cases hlt : k < q
      · obtain ⟨bb, o, v, rfl, hb, y1, y2, hx⟩ := (HV.out.below hB).at hlt
        have hs1 := Hst.out k v hx
        have hk0 : 0 ≤ (k : Int) := by omega
        have hk1 : (k : Int) < (q : Int) := by omega
        have hk2 : (k : Int) ≤ (e : Int) := by omega
        have cN := HN.out v k hx
        obtain ⟨nm, rs⟩ := v
        simp only at hs1 y1 y2 cN
        have cF := HF.out nm
        have cK := HK.out rs
        have cT := HT.out nm k
        have hX := Hvar.out (V.take k) nm rs
        clear hx Hst HF HN HK HT HV Hvar
        generalize varE S (cores G) (V.take k) (nm, rs) = X at *
        generalize nmB nm = N at *
        generalize hasN (cores G) nm = H at *
        generalize knownB S rs = Kn at *
        generalize (sortV (V.take k) nm).getD ⟨#[]⟩ = Z at *
        generalize (sortV (V.take k) nm).isSome = T at *
        have tn : ((k : Int)).toNat = k := by omega
        have hBd : Below W1.heap.size W1 wr.drew := hB.drew
        have hW : Below wr.heap.size wr wr.drew := (Below.refl _ _).drew
        have s50 := S0 _ hB
        have s51 := S1 _ hB
        have Y1 : ∀ w', Below wr.heap.size wr w' → w'.cell? ⟨bb, o + k * 2, none⟩ = some (.string nm) := fun w' h => (h.cell (p := ⟨bb, o + k * 2, none⟩) hb).trans y1
        have Y2 : ∀ w', Below wr.heap.size wr w' → w'.cell? ⟨bb, o + k * 2 + 1, none⟩ = some (.string rs) := fun w' h => (h.cell (p := ⟨bb, o + k * 2 + 1, none⟩) hb).trans y2
        have HsX := Lib.hid hs1
        have HX := Lib.hid hX
        clear hs1 hX
        have F5 := Sgn.FBox.new wr ⟨#[]⟩ none 0 0 ⟨#[]⟩
        have hA : Below wr.heap.size wr (wr.alloc (.cells #[.string ⟨#[]⟩, .slice none 0 0, .string ⟨#[]⟩] 62)) := bel_alloc (Below.refl _ _) _
        have hAd : Below (wr.alloc (.cells #[.string ⟨#[]⟩, .slice none 0 0, .string ⟨#[]⟩] 62)).heap.size (wr.alloc (.cells #[.string ⟨#[]⟩, .slice none 0 0, .string ⟨#[]⟩] 62)) (wr.alloc (.cells #[.string ⟨#[]⟩, .slice none 0 0, .string ⟨#[]⟩] 62)).drew := (Below.refl _ _).drew
        have hWa := bel_trans hA hAd
        have hBa := bel_trans hB hWa
        go_wp2_with fail
        go_region_held3 (fun w' => w'.cell? ⟨w.heap.size, 0, none⟩ = some (.slice a n c) ∧ w'.cell? ⟨w.heap.size, 1, none⟩ = some (.slice b m d) ∧ w'.cell? ⟨bb, o + k * 2, none⟩ = some (.string nm))
          (first | (exact ⟨S0 _ (bel_trans hB B6), S1 _ (bel_trans hB B6), Y1 _ B6⟩) | (exact ⟨S0 _ (bel_alloc (bel_trans hB B6) _), S1 _ (bel_alloc (bel_trans hB B6) _), Y1 _ (bel_alloc B6 _)⟩) | (exact ⟨S0 _ (Sgn.below_set3 (bel_trans hB B6) hB.size _ _ _), S1 _ (Sgn.below_set3 (bel_trans hB B6) hB.size _ _ _), Y1 _ (Sgn.below_set3 B6 (Nat.le_refl _) _ _ _)⟩) | (exact ⟨S0 _ hBa, S1 _ hBa, Y1 _ hWa⟩) | go_keep)
          (first
            | (go_at_call 24; ((with_reducible refine (cF _ hBd).mono ?_); rintro e w6 ⟨x6, y6, A6, M6, C6, rfl, hb6⟩; have B6 := bel_trans hW hb6))
            | (go_at_call 24; ((with_reducible refine (cF _ hBa).mono ?_); rintro e w6 ⟨x6, y6, A6, M6, C6, rfl, hb6⟩; have B6 := bel_trans hWa hb6; obtain ⟨f0, f1, f2⟩ := (F5.b (bel_trans hAd hb6)).three; obtain ⟨q0, q1, q2⟩ := (F5.b (bel_trans hAd hb6)).free)))
        · have B7 : Below wr.heap.size wr (w6.alloc (.cells #[.string x6, .slice A6 M6 C6, .string y6] 62)) := bel_alloc B6 _
          generalize (w6.alloc (.cells #[.string x6, .slice A6 M6 C6, .string y6] 62)) = W7 at *
          have c7 := bel_trans hB B7
          have z0 := S0 _ c7
          have z1 := S1 _ c7
          have yz1 := Y1 _ B7
          have yz2 := Y2 _ B7
          clear y1 y2 s50 s51 hb6 B6 cF F5 hA hAd hWa hBa hBd hW
          try clear f0 f1 f2 q0 q1 q2
          cases H with
          | true =>
            have hnew : Hid ((10 : Int) = F 0) := by
              have e1 : X = 10 := by rw [HX.out]; simp
              show _ = _
              rw [← hR.out, HsX.out, e1]; rfl
            clear hR HsX HX cK cN cT
            go_wp2
            go_ret
            exact ⟨one (hnew.out.trans HE.out.symm), bel_trans HB1.out (bel_trans hB B7)⟩
          | false =>
            cases N with
            | false =>
              have hnew : Hid ((10 : Int) = F 0) := by
                have e1 : X = 10 := by rw [HX.out]; simp
                show _ = _
                rw [← hR.out, HsX.out, e1]; rfl
              clear hR HsX HX cK cT
              go_wp2_with (go_at_call 25; ((with_reducible refine (cN _).mono ?_); rintro e w8 ⟨rfl, hb8⟩; have B8 := bel_trans B7 hb8))
              go_ret
              exact ⟨one (hnew.out.trans HE.out.symm), bel_trans HB1.out (bel_trans hB B8)⟩
            | true =>
              go_wp2_with (go_at_call 25; ((with_reducible refine (cN _).mono ?_); rintro e w8 ⟨rfl, hb8⟩; have B8 := bel_trans B7 hb8))
              have c8 := bel_trans hB B8
              have g0 := S0 _ c8
              have g1 := S1 _ c8
              have g3 := Y2 _ B8
              have c8d := c8.drew
              have B8d := B8.drew
              clear z0 z1 yz1 yz2 hb8
              cases Kn with
              | false =>
                have hnew : Hid ((11 : Int) = F 0) := by
                  have e1 : X = 11 := by rw [HX.out]; simp
                  show _ = _
                  rw [← hR.out, HsX.out, e1]; rfl
                clear hR HsX HX cN cT
                refine wp_region_noPanic ?_
                refine wp_region_held_drew (S := fun w' => w'.cell? ⟨w.heap.size, 0, none⟩ = some (.slice a n c) ∧ w'.cell? ⟨w.heap.size, 1, none⟩ = some (.slice b m d) ∧ w'.cell? ⟨bb, o + k * 2 + 1, none⟩ = some (.string rs)) (by kernel_rfl) (by exact ⟨S0 _ c8d, S1 _ c8d, Y2 _ B8d⟩) (fun hHeld => ?_)
                refine wpAnyH_take (i := 0) (v := ?_) rfl (by kernel_rfl) (by kernel_rfl) (by kernel_rfl) (fun _ _ _ h => h) (Or.inl ⟨by rfl, ?hy⟩) (by assumption) ?_
                case hy => (intro w hSw; (try dsimp only at hSw); go_simp; try (with_reducible rfl))
                (try simp only [Act.put, List.setIfInBounds_toArray, List.set_cons_zero, List.set_cons_succ])
                refine wpAnyH_take (i := 1) (v := ?_) rfl (by kernel_rfl) (by kernel_rfl) (by kernel_rfl) (fun _ _ _ h => h) (Or.inl ⟨by rfl, ?hy⟩) (by assumption) ?_
                case hy => (intro w hSw; (try dsimp only at hSw); go_simp; try (with_reducible rfl))
                (try simp only [Act.put, List.setIfInBounds_toArray, List.set_cons_zero, List.set_cons_succ])
                refine wpAnyH_take (i := 2) (v := ?_) rfl (by kernel_rfl) (by kernel_rfl) (by kernel_rfl) (fun _ _ _ h => h) (Or.inl ⟨by rfl, ?hy⟩) (by assumption) ?_
                case hy => (intro w hSw; (try dsimp only at hSw); go_simp; try (with_reducible rfl))
                (try simp only [Act.put, List.setIfInBounds_toArray, List.set_cons_zero, List.set_cons_succ])
                refine wpAnyH_take (i := 3) (v := ?_) rfl (by kernel_rfl) (by kernel_rfl) (by kernel_rfl) (fun _ _ _ h => h) (Or.inl ⟨by rfl, ?hy⟩) (by assumption) ?_
                case hy => (intro w hSw; (try dsimp only at hSw); go_simp; try (with_reducible rfl))
                (try simp only [Act.put, List.setIfInBounds_toArray, List.set_cons_zero, List.set_cons_succ])
                refine wpAnyH_take (i := 4) (v := ?_) rfl (by kernel_rfl) (by kernel_rfl) (by kernel_rfl) (fun _ _ _ h => h) (Or.inl ⟨by rfl, ?hy⟩) (by assumption) ?_
                case hy => (intro w hSw; (try dsimp only at hSw); go_simp; try (with_reducible rfl))
                (try simp only [Act.put, List.setIfInBounds_toArray, List.set_cons_zero, List.set_cons_succ])
                refine wpAnyH_take (i := 5) (v := ?_) rfl (by kernel_rfl) (by kernel_rfl) (by kernel_rfl) (fun _ _ _ h => h) (Or.inl ⟨by rfl, ?hy⟩) (by assumption) ?_
                case hy => (intro w hSw; (try dsimp only at hSw); go_simp; try (with_reducible rfl))
                (try simp only [Act.put, List.setIfInBounds_toArray, List.set_cons_zero, List.set_cons_succ])
                refine wpAnyH_ready (rs := [6]) (by kernel_rfl) (by simp) ?_
                refine AllReadyH.cons rfl (fun KK hKK => ?_) AllReadyH.nil
                go_simp
                (go_at_call 26; ((with_reducible refine (cK _ c8d).mono ?_); rintro e w9 ⟨rfl, hb9⟩; have B9 := bel_trans B8d hb9))
                refine hKK.out _ _ (by exact ⟨S0 _ (bel_trans hB B9), S1 _ (bel_trans hB B9), Y2 _ B9⟩) (fun hHeld => ?_)
                clear hKK KK
                (try simp only [Act.put, List.setIfInBounds_toArray, List.set_cons_zero, List.set_cons_succ])
                refine wpAnyH_take (i := 7) (v := ?_) rfl (by kernel_rfl) (by kernel_rfl) (by kernel_rfl) (fun _ _ _ h => h) (Or.inl ⟨by rfl, ?hy⟩) (by assumption) ?_
                case hy => (intro w hSw; (try dsimp only at hSw); go_simp; try (with_reducible rfl))
                (try simp only [Act.put, List.setIfInBounds_toArray, List.set_cons_zero, List.set_cons_succ])
                refine wpAnyH_take (i := 8) (v := ?_) rfl (by kernel_rfl) (by kernel_rfl) (by kernel_rfl) (fun _ _ _ h => h) (Or.inl ⟨by rfl, ?hy⟩) (by assumption) ?_
                case hy => (intro w hSw; (try dsimp only at hSw); go_simp; try (with_reducible rfl))
                (try simp only [Act.put, List.setIfInBounds_toArray, List.set_cons_zero, List.set_cons_succ])
                refine wpAnyH_take (i := 9) (v := undef) rfl (by kernel_rfl) (by kernel_rfl) (by kernel_rfl) (fun _ _ _ h => h) (Or.inr ⟨by rfl, rfl⟩) (by assumption) ?_
                (try simp only [Act.put, List.setIfInBounds_toArray, List.set_cons_zero, List.set_cons_succ])
                refine wpAnyH_take (i := 10) (v := undef) rfl (by kernel_rfl) (by kernel_rfl) (by kernel_rfl) (fun _ _ _ h => h) (Or.inr ⟨by rfl, rfl⟩) (by assumption) ?_
                (try simp only [Act.put, List.setIfInBounds_toArray, List.set_cons_zero, List.set_cons_succ])
                refine wpAnyH_take (i := 11) (v := undef) rfl (by kernel_rfl) (by kernel_rfl) (by kernel_rfl) (fun _ _ _ h => h) (Or.inr ⟨by rfl, rfl⟩) (by assumption) ?_
                (try simp only [Act.put, List.setIfInBounds_toArray, List.set_cons_zero, List.set_cons_succ])
                refine wpAnyH_take (i := 12) (v := undef) rfl (by kernel_rfl) (by kernel_rfl) (by kernel_rfl) (fun _ _ _ h => h) (Or.inr ⟨by rfl, rfl⟩) (by assumption) ?_
                (try simp only [Act.put, List.setIfInBounds_toArray, List.set_cons_zero, List.set_cons_succ])
                refine wpAnyH_take (i := 13) (v := undef) rfl (by kernel_rfl) (by kernel_rfl) (by kernel_rfl) (fun _ _ _ h => h) (Or.inr ⟨by rfl, rfl⟩) (by assumption) ?_
                (try simp only [Act.put, List.setIfInBounds_toArray, List.set_cons_zero, List.set_cons_succ])
                refine wpAnyH_take (i := 14) (v := undef) rfl (by kernel_rfl) (by kernel_rfl) (by kernel_rfl) (fun _ _ _ h => h) (Or.inr ⟨by rfl, rfl⟩) (by assumption) ?_
                (try simp only [Act.put, List.setIfInBounds_toArray, List.set_cons_zero, List.set_cons_succ])
                refine wpAnyH_take (i := 15) (v := ?_) rfl (by kernel_rfl) (by kernel_rfl) (by kernel_rfl) (fun _ _ _ h => h) (Or.inl ⟨by rfl, ?hy⟩) (by assumption) ?_
                case hy => (intro w hSw; (try dsimp only at hSw); go_simp; try (with_reducible rfl))
                (try simp only [Act.put, List.setIfInBounds_toArray, List.set_cons_zero, List.set_cons_succ])
                (try simp only [List.getElem_toArray, List.getElem_cons_succ, List.getElem_cons_zero, Act.put, List.setIfInBounds_toArray, List.set_cons_zero, List.set_cons_succ])
                refine wpAnyH_done (by kernel_rfl) ?_ _
                refine NoPanic.normal ?_
                all_goals
                  go_wp2
                  go_ret
                  exact ⟨one (hnew.out.trans HE.out.symm), bel_trans HB1.out (bel_trans hB B9)⟩
              | true =>
                cases h1 : rs.toList == [66, 111, 111, 108]
                · have h2 : (rs.toList = [66, 111, 111, 108]) = False := by simpa using h1
                  cases T with
                  | true =>
                    have hnew : Hid ((4 : Int) = F 0) := by
                      have e1 : X = 4 := by rw [HX.out]; simp [h1]
                      show _ = _
                      rw [← hR.out, HsX.out, e1]; rfl
                    clear hR HsX HX cN
                    go_region_held3 (fun w' => w'.cell? ⟨w.heap.size, 0, none⟩ = some (.slice a n c) ∧ w'.cell? ⟨w.heap.size, 1, none⟩ = some (.slice b m d) ∧ w'.cell? ⟨bb, o + k * 2 + 1, none⟩ = some (.string rs))
                      (first | (exact ⟨S0 _ (bel_trans hB B9), S1 _ (bel_trans hB B9), Y2 _ B9⟩) | (exact ⟨S0 _ c8d, S1 _ c8d, Y2 _ B8d⟩) | go_keep)
                      (first
                        | (go_at_call 26; ((with_reducible refine (cK _ c8d).mono ?_); rintro e w9 ⟨rfl, hb9⟩; have B9 := bel_trans B8d hb9)))
                    all_goals
                      have c9 := bel_trans hB B9
                      have m1 := Y1 _ B9
                      go_wp2
                      go_quiet ((go_at_call 20; exact Calls.quiet_of_same (cT _ hk (below_drewN c9 _))))
                      go_wp2
                      go_ret
                      exact ⟨one (hnew.out.trans HE.out.symm), bel_trans HB1.out (below_drewN c9 _)⟩
                  | false =>
                    have hnew : Hid (F (k + 1) = F 0) := by
                      have e1 : X = 0 := by rw [HX.out]; simp [h1]
                      show _ = _
                      rw [← hR.out, HsX.out, e1]; rfl
                    clear hR HsX HX cN
                    go_region_held3 (fun w' => w'.cell? ⟨w.heap.size, 0, none⟩ = some (.slice a n c) ∧ w'.cell? ⟨w.heap.size, 1, none⟩ = some (.slice b m d) ∧ w'.cell? ⟨bb, o + k * 2 + 1, none⟩ = some (.string rs))
                      (first | (exact ⟨S0 _ (bel_trans hB B9), S1 _ (bel_trans hB B9), Y2 _ B9⟩) | (exact ⟨S0 _ c8d, S1 _ c8d, Y2 _ B8d⟩) | go_keep)
                      (first
                        | (go_at_call 26; ((with_reducible refine (cK _ c8d).mono ?_); rintro e w9 ⟨rfl, hb9⟩; have B9 := bel_trans B8d hb9)))
                    all_goals
                      have c9 := bel_trans hB B9
                      have m1 := Y1 _ B9
                      go_wp2
                      go_quiet ((go_at_call 20; exact Calls.quiet_of_same (cT _ hk (below_drewN c9 _))))
                      go_wp2
                      go_roundw
                      case rel => exact ⟨_, k + 1, rfl, by omega, by go_num, below_drewN c9 _, hnew⟩
                      case measure => simp [intOf]; omega
                · have h2 : (rs.toList = [66, 111, 111, 108]) = True := by simpa using h1
                  have hnew : Hid ((11 : Int) = F 0) := by
                    have e1 : X = 11 := by rw [HX.out]; simp [h1]
                    show _ = _
                    rw [← hR.out, HsX.out, e1]; rfl
                  clear hR HsX HX cN cT
                  go_region_held3 (fun w' => w'.cell? ⟨w.heap.size, 0, none⟩ = some (.slice a n c) ∧ w'.cell? ⟨w.heap.size, 1, none⟩ = some (.slice b m d) ∧ w'.cell? ⟨bb, o + k * 2 + 1, none⟩ = some (.string rs))
                    (first | (exact ⟨S0 _ (bel_trans hB B9), S1 _ (bel_trans hB B9), Y2 _ B9⟩) | (exact ⟨S0 _ c8d, S1 _ c8d, Y2 _ B8d⟩) | go_keep)
                    (first
                      | (go_at_call 26; ((with_reducible refine (cK _ c8d).mono ?_); rintro e w9 ⟨rfl, hb9⟩; have B9 := bel_trans B8d hb9)))
                  all_goals
                    go_wp2
                    go_ret
                    exact ⟨one (hnew.out.trans HE.out.symm), bel_trans HB1.out (bel_trans hB B9)⟩
        · have B7 : Below wr.heap.size wr (((w6.setCell ⟨wr.heap.size, 0, none⟩ (.string x6)).setCell ⟨wr.heap.size, 1, none⟩ (.slice A6 M6 C6)).setCell ⟨wr.heap.size, 2, none⟩ (.string y6)) := Sgn.below_set3 B6 (Nat.le_refl _) _ _ _
          generalize (((w6.setCell ⟨wr.heap.size, 0, none⟩ (.string x6)).setCell ⟨wr.heap.size, 1, none⟩ (.slice A6 M6 C6)).setCell ⟨wr.heap.size, 2, none⟩ (.string y6)) = W7 at *
          have c7 := bel_trans hB B7
          have z0 := S0 _ c7
          have z1 := S1 _ c7
          have yz1 := Y1 _ B7
          have yz2 := Y2 _ B7
          clear y1 y2 s50 s51 hb6 B6 cF F5 hA hAd hWa hBa hBd hW
          try clear f0 f1 f2 q0 q1 q2
          cases H with
          | true =>
            have hnew : Hid ((10 : Int) = F 0) := by
              have e1 : X = 10 := by rw [HX.out]; simp
              show _ = _
              rw [← hR.out, HsX.out, e1]; rfl
            clear hR HsX HX cK cN cT
            go_wp2
            go_ret
            exact ⟨one (hnew.out.trans HE.out.symm), bel_trans HB1.out (bel_trans hB B7)⟩
          | false =>
            cases N with
            | false =>
              have hnew : Hid ((10 : Int) = F 0) := by
                have e1 : X = 10 := by rw [HX.out]; simp
                show _ = _
                rw [← hR.out, HsX.out, e1]; rfl
              clear hR HsX HX cK cT
              go_wp2_with (go_at_call 25; ((with_reducible refine (cN _).mono ?_); rintro e w8 ⟨rfl, hb8⟩; have B8 := bel_trans B7 hb8))
              go_ret
              exact ⟨one (hnew.out.trans HE.out.symm), bel_trans HB1.out (bel_trans hB B8)⟩
            | true =>
              go_wp2_with (go_at_call 25; ((with_reducible refine (cN _).mono ?_); rintro e w8 ⟨rfl, hb8⟩; have B8 := bel_trans B7 hb8))
              have c8 := bel_trans hB B8
              have g0 := S0 _ c8
              have g1 := S1 _ c8
              have g3 := Y2 _ B8
              have c8d := c8.drew
              have B8d := B8.drew
              clear z0 z1 yz1 yz2 hb8
              cases Kn with
              | false =>
                have hnew : Hid ((11 : Int) = F 0) := by
                  have e1 : X = 11 := by rw [HX.out]; simp
                  show _ = _
                  rw [← hR.out, HsX.out, e1]; rfl
                clear hR HsX HX cN cT
                refine wp_region_noPanic ?_
                refine wp_region_held_drew (S := fun w' => w'.cell? ⟨w.heap.size, 0, none⟩ = some (.slice a n c) ∧ w'.cell? ⟨w.heap.size, 1, none⟩ = some (.slice b m d) ∧ w'.cell? ⟨bb, o + k * 2 + 1, none⟩ = some (.string rs)) (by kernel_rfl) (by exact ⟨S0 _ c8d, S1 _ c8d, Y2 _ B8d⟩) (fun hHeld => ?_)
                refine wpAnyH_take (i := 0) (v := ?_) rfl (by kernel_rfl) (by kernel_rfl) (by kernel_rfl) (fun _ _ _ h => h) (Or.inl ⟨by rfl, ?hy⟩) (by assumption) ?_
                case hy => (intro w hSw; (try dsimp only at hSw); go_simp; try (with_reducible rfl))
                (try simp only [Act.put, List.setIfInBounds_toArray, List.set_cons_zero, List.set_cons_succ])
                refine wpAnyH_take (i := 1) (v := ?_) rfl (by kernel_rfl) (by kernel_rfl) (by kernel_rfl) (fun _ _ _ h => h) (Or.inl ⟨by rfl, ?hy⟩) (by assumption) ?_
                case hy => (intro w hSw; (try dsimp only at hSw); go_simp; try (with_reducible rfl))
                (try simp only [Act.put, List.setIfInBounds_toArray, List.set_cons_zero, List.set_cons_succ])
                refine wpAnyH_take (i := 2) (v := ?_) rfl (by kernel_rfl) (by kernel_rfl) (by kernel_rfl) (fun _ _ _ h => h) (Or.inl ⟨by rfl, ?hy⟩) (by assumption) ?_
                case hy => (intro w hSw; (try dsimp only at hSw); go_simp; try (with_reducible rfl))
                (try simp only [Act.put, List.setIfInBounds_toArray, List.set_cons_zero, List.set_cons_succ])
                refine wpAnyH_take (i := 3) (v := ?_) rfl (by kernel_rfl) (by kernel_rfl) (by kernel_rfl) (fun _ _ _ h => h) (Or.inl ⟨by rfl, ?hy⟩) (by assumption) ?_
                case hy => (intro w hSw; (try dsimp only at hSw); go_simp; try (with_reducible rfl))
                (try simp only [Act.put, List.setIfInBounds_toArray, List.set_cons_zero, List.set_cons_succ])
                refine wpAnyH_take (i := 4) (v := ?_) rfl (by kernel_rfl) (by kernel_rfl) (by kernel_rfl) (fun _ _ _ h => h) (Or.inl ⟨by rfl, ?hy⟩) (by assumption) ?_
                case hy => (intro w hSw; (try dsimp only at hSw); go_simp; try (with_reducible rfl))
                (try simp only [Act.put, List.setIfInBounds_toArray, List.set_cons_zero, List.set_cons_succ])
                refine wpAnyH_take (i := 5) (v := ?_) rfl (by kernel_rfl) (by kernel_rfl) (by kernel_rfl) (fun _ _ _ h => h) (Or.inl ⟨by rfl, ?hy⟩) (by assumption) ?_
                case hy => (intro w hSw; (try dsimp only at hSw); go_simp; try (with_reducible rfl))
                (try simp only [Act.put, List.setIfInBounds_toArray, List.set_cons_zero, List.set_cons_succ])
                refine wpAnyH_ready (rs := [6]) (by kernel_rfl) (by simp) ?_
                refine AllReadyH.cons rfl (fun KK hKK => ?_) AllReadyH.nil
                go_simp
                (go_at_call 26; ((with_reducible refine (cK _ c8d).mono ?_); rintro e w9 ⟨rfl, hb9⟩; have B9 := bel_trans B8d hb9))
                refine hKK.out _ _ (by exact ⟨S0 _ (bel_trans hB B9), S1 _ (bel_trans hB B9), Y2 _ B9⟩) (fun hHeld => ?_)
                clear hKK KK
                (try simp only [Act.put, List.setIfInBounds_toArray, List.set_cons_zero, List.set_cons_succ])
                refine wpAnyH_take (i := 7) (v := ?_) rfl (by kernel_rfl) (by kernel_rfl) (by kernel_rfl) (fun _ _ _ h => h) (Or.inl ⟨by rfl, ?hy⟩) (by assumption) ?_
                case hy => (intro w hSw; (try dsimp only at hSw); go_simp; try (with_reducible rfl))
                (try simp only [Act.put, List.setIfInBounds_toArray, List.set_cons_zero, List.set_cons_succ])
                refine wpAnyH_take (i := 8) (v := ?_) rfl (by kernel_rfl) (by kernel_rfl) (by kernel_rfl) (fun _ _ _ h => h) (Or.inl ⟨by rfl, ?hy⟩) (by assumption) ?_
                case hy => (intro w hSw; (try dsimp only at hSw); go_simp; try (with_reducible rfl))
                (try simp only [Act.put, List.setIfInBounds_toArray, List.set_cons_zero, List.set_cons_succ])
                refine wpAnyH_take (i := 9) (v := undef) rfl (by kernel_rfl) (by kernel_rfl) (by kernel_rfl) (fun _ _ _ h => h) (Or.inr ⟨by rfl, rfl⟩) (by assumption) ?_
                (try simp only [Act.put, List.setIfInBounds_toArray, List.set_cons_zero, List.set_cons_succ])
                refine wpAnyH_take (i := 10) (v := undef) rfl (by kernel_rfl) (by kernel_rfl) (by kernel_rfl) (fun _ _ _ h => h) (Or.inr ⟨by rfl, rfl⟩) (by assumption) ?_
                (try simp only [Act.put, List.setIfInBounds_toArray, List.set_cons_zero, List.set_cons_succ])
                refine wpAnyH_take (i := 11) (v := undef) rfl (by kernel_rfl) (by kernel_rfl) (by kernel_rfl) (fun _ _ _ h => h) (Or.inr ⟨by rfl, rfl⟩) (by assumption) ?_
                (try simp only [Act.put, List.setIfInBounds_toArray, List.set_cons_zero, List.set_cons_succ])
                refine wpAnyH_take (i := 12) (v := undef) rfl (by kernel_rfl) (by kernel_rfl) (by kernel_rfl) (fun _ _ _ h => h) (Or.inr ⟨by rfl, rfl⟩) (by assumption) ?_
                (try simp only [Act.put, List.setIfInBounds_toArray, List.set_cons_zero, List.set_cons_succ])
                refine wpAnyH_take (i := 13) (v := undef) rfl (by kernel_rfl) (by kernel_rfl) (by kernel_rfl) (fun _ _ _ h => h) (Or.inr ⟨by rfl, rfl⟩) (by assumption) ?_
                (try simp only [Act.put, List.setIfInBounds_toArray, List.set_cons_zero, List.set_cons_succ])
                refine wpAnyH_take (i := 14) (v := undef) rfl (by kernel_rfl) (by kernel_rfl) (by kernel_rfl) (fun _ _ _ h => h) (Or.inr ⟨by rfl, rfl⟩) (by assumption) ?_
                (try simp only [Act.put, List.setIfInBounds_toArray, List.set_cons_zero, List.set_cons_succ])
                refine wpAnyH_take (i := 15) (v := ?_) rfl (by kernel_rfl) (by kernel_rfl) (by kernel_rfl) (fun _ _ _ h => h) (Or.inl ⟨by rfl, ?hy⟩) (by assumption) ?_
                case hy => (intro w hSw; (try dsimp only at hSw); go_simp; try (with_reducible rfl))
                (try simp only [Act.put, List.setIfInBounds_toArray, List.set_cons_zero, List.set_cons_succ])
                (try simp only [List.getElem_toArray, List.getElem_cons_succ, List.getElem_cons_zero, Act.put, List.setIfInBounds_toArray, List.set_cons_zero, List.set_cons_succ])
                refine wpAnyH_done (by kernel_rfl) ?_ _
                refine NoPanic.normal ?_
                all_goals
                  go_wp2
                  go_ret
                  exact ⟨one (hnew.out.trans HE.out.symm), bel_trans HB1.out (bel_trans hB B9)⟩
              | true =>
                cases h1 : rs.toList == [66, 111, 111, 108]
                · have h2 : (rs.toList = [66, 111, 111, 108]) = False := by simpa using h1
                  cases T with
                  | true =>
                    have hnew : Hid ((4 : Int) = F 0) := by
                      have e1 : X = 4 := by rw [HX.out]; simp [h1]
                      show _ = _
                      rw [← hR.out, HsX.out, e1]; rfl
                    clear hR HsX HX cN
                    go_region_held3 (fun w' => w'.cell? ⟨w.heap.size, 0, none⟩ = some (.slice a n c) ∧ w'.cell? ⟨w.heap.size, 1, none⟩ = some (.slice b m d) ∧ w'.cell? ⟨bb, o + k * 2 + 1, none⟩ = some (.string rs))
                      (first | (exact ⟨S0 _ (bel_trans hB B9), S1 _ (bel_trans hB B9), Y2 _ B9⟩) | (exact ⟨S0 _ c8d, S1 _ c8d, Y2 _ B8d⟩) | go_keep)
                      (first
                        | (go_at_call 26; ((with_reducible refine (cK _ c8d).mono ?_); rintro e w9 ⟨rfl, hb9⟩; have B9 := bel_trans B8d hb9)))
                    all_goals
                      have c9 := bel_trans hB B9
                      have m1 := Y1 _ B9
                      go_wp2
                      go_quiet ((go_at_call 20; exact Calls.quiet_of_same (cT _ hk (below_drewN c9 _))))
                      go_wp2
                      go_ret
                      exact ⟨one (hnew.out.trans HE.out.symm), bel_trans HB1.out (below_drewN c9 _)⟩
                  | false =>
                    have hnew : Hid (F (k + 1) = F 0) := by
                      have e1 : X = 0 := by rw [HX.out]; simp [h1]
                      show _ = _
                      rw [← hR.out, HsX.out, e1]; rfl
                    clear hR HsX HX cN
                    go_region_held3 (fun w' => w'.cell? ⟨w.heap.size, 0, none⟩ = some (.slice a n c) ∧ w'.cell? ⟨w.heap.size, 1, none⟩ = some (.slice b m d) ∧ w'.cell? ⟨bb, o + k * 2 + 1, none⟩ = some (.string rs))
                      (first | (exact ⟨S0 _ (bel_trans hB B9), S1 _ (bel_trans hB B9), Y2 _ B9⟩) | (exact ⟨S0 _ c8d, S1 _ c8d, Y2 _ B8d⟩) | go_keep)
                      (first
                        | (go_at_call 26; ((with_reducible refine (cK _ c8d).mono ?_); rintro e w9 ⟨rfl, hb9⟩; have B9 := bel_trans B8d hb9)))
                    all_goals
                      have c9 := bel_trans hB B9
                      have m1 := Y1 _ B9
                      go_wp2
                      go_quiet ((go_at_call 20; exact Calls.quiet_of_same (cT _ hk (below_drewN c9 _))))
                      go_wp2
                      go_roundw
                      case rel => exact ⟨_, k + 1, rfl, by omega, by go_num, below_drewN c9 _, hnew⟩
                      case measure => simp [intOf]; omega
                · have h2 : (rs.toList = [66, 111, 111, 108]) = True := by simpa using h1
                  have hnew : Hid ((11 : Int) = F 0) := by
                    have e1 : X = 11 := by rw [HX.out]; simp [h1]
                    show _ = _
                    rw [← hR.out, HsX.out, e1]; rfl
                  clear hR HsX HX cN cT
                  go_region_held3 (fun w' => w'.cell? ⟨w.heap.size, 0, none⟩ = some (.slice a n c) ∧ w'.cell? ⟨w.heap.size, 1, none⟩ = some (.slice b m d) ∧ w'.cell? ⟨bb, o + k * 2 + 1, none⟩ = some (.string rs))
                    (first | (exact ⟨S0 _ (bel_trans hB B9), S1 _ (bel_trans hB B9), Y2 _ B9⟩) | (exact ⟨S0 _ c8d, S1 _ c8d, Y2 _ B8d⟩) | go_keep)
                    (first
                      | (go_at_call 26; ((with_reducible refine (cK _ c8d).mono ?_); rintro e w9 ⟨rfl, hb9⟩; have B9 := bel_trans B8d hb9)))
                  all_goals
                    go_wp2
                    go_ret
                    exact ⟨one (hnew.out.trans HE.out.symm), bel_trans HB1.out (bel_trans hB B9)⟩
      · have hnew : Hid (F 0 = 0) := by show _ = _; rw [← hR.out, He.out k (by omega)]
        clear hR
        go_wp2
        go_ret
        exact ⟨one (hnew.out.symm.trans HE.out.symm), bel_trans HB1.out hB⟩
end Go.Proofs.Ytacncbkcnhlpcaa.Wl
namespace Go.Proofs.Ytacncbkcnhlpcaa.Wl
open Go.RowKit L T C
open Sgn (SlG Fm Core cores)
set_option linter.unusedVariables false
set_option linter.unusedSimpArgs false
set_option maxRecDepth 100000

theorem few_of {n v : Nat} {G : List Fm} {w : World} {b : Option Addr} {m d : Nat} (hG : SlG w b m d G) (h : fewZ n G v = true) : n ≤ 400 ∧ m ≤ 400 ∧ v ≤ 400 ∧ (∀ f ∈ G, f.m ≤ 400) ∧ ∀ C ∈ cores G, C.2.1.length ≤ 1000000 := by
  unfold fewZ at h
  obtain ⟨h1, h2⟩ := fewL_of h
  have hm : m = G.length := hG.1.1
  have h3 : ∀ f ∈ G, f.m ≤ 400 := fun f hf => h2 _ (List.mem_map.2 ⟨f, hf, rfl⟩)
  refine ⟨by omega, by omega, by omega, h3, fun C hC => ?_⟩
  obtain ⟨f, hf, rfl⟩ := List.mem_map.1 hC
  have h4 : f.m = f.X.length := (hG.1.2.2 f hf).1.1
  have h5 := h3 f hf
  show f.X.length ≤ 1000000
  omega
set_option maxHeartbeats 16000000 in
theorem varsB (z : SgZ) (p : Option Addr) (q e : Nat) (V : List Vr) (w : World) (hz : z.ok w) (hq : q ≤ 17592186044416) (hVs : SlV w p q e V ∧ ∀ v ∈ V, v.1.size ≤ 9223372036854775807 ∧ v.2.size ≤ 9223372036854775807) :
    Calls Try.prog 3 #[z.val, .slice p q e] w fun e w' => e = .returned (.bool true) ∧ Below w.heap.size w w' := by
  obtain ⟨hV, hs⟩ := hVs
  obtain ⟨a, n, c, S, b, m, d, G⟩ := z
  obtain ⟨hS, hn, hG, hm, hK⟩ := hz
  dsimp only at hS hn hG hm hK
  unfold SgZ.val
  dsimp only
  obtain ⟨W, hW⟩ : ∃ W1, w.alloc (.cells #[.slice a n c, .slice b m d] 25) = W1 := ⟨_, rfl⟩
  have hB : Below w.heap.size w W := by rw [← hW]; exact bel_alloc (Below.refl _ _) _
  have S1 := Sgn.SBox.new w a n c b m d
  rw [hW] at S1
  obtain ⟨s0, s1⟩ := S1.two
  have HS1 := Lib.hid S1
  have HB := Lib.hid hB
  have cF := fun (w' : World) (h : Below W.heap.size W w') => Few_any a n c b m d G p q e w' hn ((hG.below hB).below h) hm hK hq
  have g0 := fun (w' : World) => goes_any w'
  have HC := Lib.hid (show fewZ n G q = true → (∀ w', Below W.heap.size W w' → Calls Try.prog 9 #[.agg #[.slice a n c, .slice b m d], .slice p q e] w' fun e w1 => e = .returned (.int .i64 (varsV S (cores G) V)) ∧ Below w'.heap.size w' w1) ∧
      (∀ w', Below W.heap.size W w' → Calls Try.prog 10 #[.agg #[.slice a n c, .slice b m d], .slice p q e] w' fun e w1 => e = .returned (.int .i64 (varsV S (cores G) V)) ∧ Below w'.heap.size w' w1) from fun h => by
    obtain ⟨h1, h2, h3, h4, h5⟩ := few_of hG h
    exact ⟨fun w' hb => Vars_any a n c S b m d G p q e V w' ((hS.1.below hB).below hb) (by omega) ((hG.below hB).below hb) (by omega) h5 ((hV.below hB).below hb) (fun v hv => (hs v hv).1) (by omega), fun w' hb => Vars13_any a n c S b m d G p q e V w' ((hS.1.below hB).below hb) (by omega) ((hG.below hB).below hb) (by omega) ((hV.below hB).below hb) (fun v hv => (hs v hv).1) (by omega)⟩)
  have HQ := Lib.hid (show ∀ w', Below W.heap.size W w' → w'.cell? ⟨w.heap.size, 0, none⟩ = some (.slice a n c) ∧ w'.cell? ⟨w.heap.size, 1, none⟩ = some (.slice b m d) from fun w' h => (HS1.out.b h).two)
  have hBd : Below W.heap.size W W := Below.refl _ _
  generalize fewZ n G q = F at *
  generalize varsV S (cores G) V = R at *
  clear hS hn hG hm hK hV hs hq hB S1
  cases F with
  | true =>
    obtain ⟨c1, c2⟩ := HC.out rfl
    clear HC
    go_enter Try.func3, Try.ntmps3
    go_wp2_with fail
    go_region_held3 (fun w' => w'.cell? ⟨w.heap.size, 0, none⟩ = some (.slice a n c) ∧ w'.cell? ⟨w.heap.size, 1, none⟩ = some (.slice b m d))
      (first | (exact HQ.out _ (by first | assumption | exact Below.drew (by assumption) | exact Below.refl _ _ | exact (Below.refl _ _).drew)) | go_keep)
      (first
        | (go_at_call 8; ((with_reducible refine (cF _ (by first | assumption | exact Below.drew (by assumption) | exact Below.refl _ _ | exact (Below.refl _ _).drew)).mono ?_); rintro e wX ⟨rfl, hbX⟩; have Bz : Below W.heap.size W wX := bel_trans (by first | assumption | exact Below.drew (by assumption) | exact Below.refl _ _ | exact (Below.refl _ _).drew) hbX))
        | (go_at_call 9; ((with_reducible refine (c1 _ (by first | assumption | exact Below.drew (by assumption) | exact Below.refl _ _ | exact (Below.refl _ _).drew)).mono ?_); rintro e wX ⟨rfl, hbX⟩; have Bz : Below W.heap.size W wX := bel_trans (by first | assumption | exact Below.drew (by assumption) | exact Below.refl _ _ | exact (Below.refl _ _).drew) hbX))
        | (go_at_call 10; ((with_reducible refine (c2 _ (by first | assumption | exact Below.drew (by assumption) | exact Below.refl _ _ | exact (Below.refl _ _).drew)).mono ?_); rintro e wX ⟨rfl, hbX⟩; have Bz : Below W.heap.size W wX := bel_trans (by first | assumption | exact Below.drew (by assumption) | exact Below.refl _ _ | exact (Below.refl _ _).drew) hbX))
        | (go_at_call 11; ((with_reducible refine (g0 _).mono ?_); rintro e wX ⟨rfl, hbX⟩; have Bz : Below W.heap.size W wX := bel_trans (by first | assumption | exact Below.drew (by assumption) | exact Below.refl _ _ | exact (Below.refl _ _).drew) hbX)))
    all_goals
      go_wp2
      go_ret
      exact ⟨rfl, bel_trans HB.out Bz⟩
  | false =>
    clear HC
    go_enter Try.func3, Try.ntmps3
    go_wp2_with fail
    refine wp_region_noPanic ?_
    refine wp_region_held_drew (S := fun w' => w'.cell? ⟨w.heap.size, 0, none⟩ = some (.slice a n c) ∧ w'.cell? ⟨w.heap.size, 1, none⟩ = some (.slice b m d)) (by kernel_rfl) (by exact HQ.out _ (Below.drew hBd)) (fun hHeld => ?_)
    refine wpAnyH_take (i := 0) (v := ?_) rfl (by kernel_rfl) (by kernel_rfl) (by kernel_rfl) (fun _ _ _ h => h) (Or.inl ⟨by rfl, ?hy⟩) (by assumption) ?_
    case hy => (intro w hSw; (try dsimp only at hSw); go_simp; try (with_reducible rfl))
    (try simp only [List.getElem_toArray, List.getElem_cons_succ, List.getElem_cons_zero, Act.put, List.setIfInBounds_toArray, List.set_cons_zero, List.set_cons_succ])
    refine wpAnyH_take (i := 1) (v := ?_) rfl (by kernel_rfl) (by kernel_rfl) (by kernel_rfl) (fun _ _ _ h => h) (Or.inl ⟨by rfl, ?hy⟩) (by assumption) ?_
    case hy => (intro w hSw; (try dsimp only at hSw); go_simp; try (with_reducible rfl))
    (try simp only [List.getElem_toArray, List.getElem_cons_succ, List.getElem_cons_zero, Act.put, List.setIfInBounds_toArray, List.set_cons_zero, List.set_cons_succ])
    refine wpAnyH_ready (rs := [2]) (by kernel_rfl) (by simp) ?_
    refine AllReadyH.cons rfl (fun KK hKK => ?_) AllReadyH.nil
    go_simp
    (go_at_call 8; ((with_reducible refine (cF _ (by first | assumption | exact Below.drew (by assumption) | exact Below.refl _ _ | exact (Below.refl _ _).drew)).mono ?_); rintro e wX ⟨rfl, hbX⟩; have Bz : Below W.heap.size W wX := bel_trans (by first | assumption | exact Below.drew (by assumption) | exact Below.refl _ _ | exact (Below.refl _ _).drew) hbX))
    refine hKK.out _ _ (by exact HQ.out _ Bz) (fun hHeld => ?_)
    clear hKK KK
    (try simp only [List.getElem_toArray, List.getElem_cons_succ, List.getElem_cons_zero, Act.put, List.setIfInBounds_toArray, List.set_cons_zero, List.set_cons_succ])
    refine wpAnyH_take (i := 3) (v := ?_) rfl (by kernel_rfl) (by kernel_rfl) (by kernel_rfl) (fun _ _ _ h => h) (Or.inl ⟨by rfl, ?hy⟩) (by assumption) ?_
    case hy => (intro w hSw; (try dsimp only at hSw); go_simp; try (with_reducible rfl))
    (try simp only [List.getElem_toArray, List.getElem_cons_succ, List.getElem_cons_zero, Act.put, List.setIfInBounds_toArray, List.set_cons_zero, List.set_cons_succ])
    refine wpAnyH_take (i := 4) (v := ?_) rfl (by kernel_rfl) (by kernel_rfl) (by kernel_rfl) (fun _ _ _ h => h) (Or.inl ⟨by rfl, ?hy⟩) (by assumption) ?_
    case hy => (intro w hSw; (try dsimp only at hSw); go_simp; try (with_reducible rfl))
    (try simp only [List.getElem_toArray, List.getElem_cons_succ, List.getElem_cons_zero, Act.put, List.setIfInBounds_toArray, List.set_cons_zero, List.set_cons_succ])
    refine wpAnyH_take (i := 5) (v := undef) rfl (by kernel_rfl) (by kernel_rfl) (by kernel_rfl) (fun _ _ _ h => h) (Or.inr ⟨by rfl, rfl⟩) (by assumption) ?_
    (try simp only [List.getElem_toArray, List.getElem_cons_succ, List.getElem_cons_zero, Act.put, List.setIfInBounds_toArray, List.set_cons_zero, List.set_cons_succ])
    refine wpAnyH_take (i := 6) (v := undef) rfl (by kernel_rfl) (by kernel_rfl) (by kernel_rfl) (fun _ _ _ h => h) (Or.inr ⟨by rfl, rfl⟩) (by assumption) ?_
    (try simp only [List.getElem_toArray, List.getElem_cons_succ, List.getElem_cons_zero, Act.put, List.setIfInBounds_toArray, List.set_cons_zero, List.set_cons_succ])
    refine wpAnyH_take (i := 7) (v := undef) rfl (by kernel_rfl) (by kernel_rfl) (by kernel_rfl) (fun _ _ _ h => h) (Or.inr ⟨by rfl, rfl⟩) (by assumption) ?_
    (try simp only [List.getElem_toArray, List.getElem_cons_succ, List.getElem_cons_zero, Act.put, List.setIfInBounds_toArray, List.set_cons_zero, List.set_cons_succ])
    refine wpAnyH_take (i := 8) (v := undef) rfl (by kernel_rfl) (by kernel_rfl) (by kernel_rfl) (fun _ _ _ h => h) (Or.inr ⟨by rfl, rfl⟩) (by assumption) ?_
    (try simp only [List.getElem_toArray, List.getElem_cons_succ, List.getElem_cons_zero, Act.put, List.setIfInBounds_toArray, List.set_cons_zero, List.set_cons_succ])
    refine wpAnyH_take (i := 9) (v := undef) rfl (by kernel_rfl) (by kernel_rfl) (by kernel_rfl) (fun _ _ _ h => h) (Or.inr ⟨by rfl, rfl⟩) (by assumption) ?_
    (try simp only [List.getElem_toArray, List.getElem_cons_succ, List.getElem_cons_zero, Act.put, List.setIfInBounds_toArray, List.set_cons_zero, List.set_cons_succ])
    refine wpAnyH_take (i := 10) (v := undef) rfl (by kernel_rfl) (by kernel_rfl) (by kernel_rfl) (fun _ _ _ h => h) (Or.inr ⟨by rfl, rfl⟩) (by assumption) ?_
    (try simp only [List.getElem_toArray, List.getElem_cons_succ, List.getElem_cons_zero, Act.put, List.setIfInBounds_toArray, List.set_cons_zero, List.set_cons_succ])
    refine wpAnyH_take (i := 11) (v := undef) rfl (by kernel_rfl) (by kernel_rfl) (by kernel_rfl) (fun _ _ _ h => h) (Or.inr ⟨by rfl, rfl⟩) (by assumption) ?_
    (try simp only [List.getElem_toArray, List.getElem_cons_succ, List.getElem_cons_zero, Act.put, List.setIfInBounds_toArray, List.set_cons_zero, List.set_cons_succ])
    refine wpAnyH_take (i := 12) (v := ?_) rfl (by kernel_rfl) (by kernel_rfl) (by kernel_rfl) (fun _ _ _ h => h) (Or.inl ⟨by rfl, ?hy⟩) (by assumption) ?_
    case hy => (intro w hSw; (try dsimp only at hSw); go_simp; try (with_reducible rfl))
    (try simp only [List.getElem_toArray, List.getElem_cons_succ, List.getElem_cons_zero, Act.put, List.setIfInBounds_toArray, List.set_cons_zero, List.set_cons_succ])
    refine wpAnyH_take (i := 13) (v := ?_) rfl (by kernel_rfl) (by kernel_rfl) (by kernel_rfl) (fun _ _ _ h => h) (Or.inl ⟨by rfl, ?hy⟩) (by assumption) ?_
    case hy => (intro w hSw; (try dsimp only at hSw); go_simp; try (with_reducible rfl))
    (try simp only [List.getElem_toArray, List.getElem_cons_succ, List.getElem_cons_zero, Act.put, List.setIfInBounds_toArray, List.set_cons_zero, List.set_cons_succ])
    refine wpAnyH_ready (rs := [14]) (by kernel_rfl) (by simp) ?_
    refine AllReadyH.cons rfl (fun KK hKK => ?_) AllReadyH.nil
    go_simp
    (go_at_call 11; ((with_reducible refine (g0 _).mono ?_); rintro e wX ⟨rfl, hbX⟩; have Bz : Below W.heap.size W wX := bel_trans (by first | assumption | exact Below.drew (by assumption) | exact Below.refl _ _ | exact (Below.refl _ _).drew) hbX))
    refine hKK.out _ _ (by exact HQ.out _ Bz) (fun hHeld => ?_)
    clear hKK KK
    (try simp only [List.getElem_toArray, List.getElem_cons_succ, List.getElem_cons_zero, Act.put, List.setIfInBounds_toArray, List.set_cons_zero, List.set_cons_succ])
    refine wpAnyH_take (i := 15) (v := ?_) rfl (by kernel_rfl) (by kernel_rfl) (by kernel_rfl) (fun _ _ _ h => h) (Or.inl ⟨by rfl, ?hy⟩) (by assumption) ?_
    case hy => (intro w hSw; (try dsimp only at hSw); go_simp; try (with_reducible rfl))
    (try simp only [List.getElem_toArray, List.getElem_cons_succ, List.getElem_cons_zero, Act.put, List.setIfInBounds_toArray, List.set_cons_zero, List.set_cons_succ])
    refine wpAnyH_take (i := 16) (v := ?_) rfl (by kernel_rfl) (by kernel_rfl) (by kernel_rfl) (fun _ _ _ h => h) (Or.inl ⟨by rfl, ?hy⟩) (by assumption) ?_
    case hy => (intro w hSw; (try dsimp only at hSw); go_simp; try (with_reducible rfl))
    (try simp only [List.getElem_toArray, List.getElem_cons_succ, List.getElem_cons_zero, Act.put, List.setIfInBounds_toArray, List.set_cons_zero, List.set_cons_succ])
    refine wpAnyH_done (by kernel_rfl) ?_ _
    refine NoPanic.normal ?_
    all_goals go_wp2
    all_goals go_ret
    all_goals exact ⟨rfl, bel_trans HB.out Bz⟩
end Go.Proofs.Ytacncbkcnhlpcaa.Wl
