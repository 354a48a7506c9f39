/-
  What is proved: the library's stable sort of any number of pairs by their names.
  What is proved: package subst's ordered of any pairs: by rising names, of each name the first term.
  What is proved: package subst's Then of any two lists of pairs, fewer than twenty taken together: of each name the first term is what the two put in its place one behind the other.
  What is proved: package subst's Then of any two lists of pairs: by rising names, of each name the first term of what the two put in its place one behind the other.
-/
import Derived.Test.YteidknjhponpkaaZSbUt
import Derived.Test.YteidknjhponpkaaM1
import Derived.Test.YteidknjhponpkaaSO
import Derived.Test.YteidknjhponpkaaVC
import Derived.Test.YteidknjhponpkaaBM
import Derived.Test.YteidknjhponpkaaZSbCf
namespace Go.Proofs.Yteidknjhponpkaa.U
open Go.RowKit L T C B
set_option linter.unusedVariables false
set_option linter.unusedSimpArgs false

def hu0 : Hu := ⟨⟨#[]⟩, 0, ⟨#[]⟩, 0, none, 0, 0⟩
def HH (hs : List Hu) (i : Nat) : Hu := hs.getD i hu0
theorem HH_some {hs : List Hu} {i : Nat} {h : Hu} (e : hs[i]? = some h) : HH hs i = h := by unfold HH; rw [List.getD_eq_getElem?_getD, e]; rfl
theorem HH_map (hs : List Hu) : (List.range hs.length).map (HH hs) = hs := by
  refine List.ext_getElem (by simp) fun i h1 h2 => ?_
  rw [List.getElem_map, List.getElem_range]
  exact HH_some (List.getElem?_eq_getElem h2)
theorem HH_nm {hs : List Hu} {l : List Pr} (hl : hs.length = l.length) (hn : ∀ (i : Nat) (h : Hu) (p : Pr), hs[i]? = some h → l[i]? = some p → h.nm = p.nm) (i : Nat) : (HH hs i).nm = (atP l i).nm := by
  by_cases hi : i < l.length
  · have h1 : hs[i]? = some (hs[i]'(by omega)) := List.getElem?_eq_getElem _
    have h2 : l[i]? = some (l[i]) := List.getElem?_eq_getElem _
    rw [HH_some h1, atP_some h2]
    exact hn i _ _ h1 h2
  · have h1 : hs[i]? = none := List.getElem?_eq_none (by omega)
    have h2 : l[i]? = none := List.getElem?_eq_none (by omega)
    unfold HH atP
    rw [List.getD_eq_getElem?_getD, List.getD_eq_getElem?_getD, h1, h2]; rfl
theorem cmpU_of {hs : List Hu} {l : List Pr} (hl : hs.length = l.length) (hn : ∀ (i : Nat) (h : Hu) (p : Pr), hs[i]? = some h → l[i]? = some p → h.nm = p.nm) : CmpU (HH hs) (cfP l) := fun i j w => by
  have h := ordered1_any ⟨(HH hs i).nm, .mk (HH hs i).op (HH hs i).s (HH hs i).z []⟩ ⟨(HH hs j).nm, .mk (HH hs j).op (HH hs j).s (HH hs j).z []⟩ (HH hs i).a (HH hs i).n (HH hs i).c (HH hs j).a (HH hs j).n (HH hs j).c w
  have e : cmpN (HH hs i).nm (HH hs j).nm = cfP l i j := by rw [HH_nm hl hn, HH_nm hl hn]; rfl
  dsimp only at h
  rw [e] at h
  exact h
theorem sortU2_any (l : List Pr) (lo g n c : Nat) (w : World) (hG : OwnP w lo (.slice (some ⟨g, 0, none⟩) n c) l) (hlen : n = l.length) (hlg : lo ≤ g) (hlw : lo ≤ w.heap.size) (hn : n ≤ 1000000) :
    Calls Try.prog 54 #[.slice (some ⟨g, 0, none⟩) n c, .func (.func 55) #[] #[]] w fun e w' => (∃ v, e = .returned v) ∧ (∃ Y, OwnP w' lo (.slice (some ⟨g, 0, none⟩) n c) Y ∧ SameF Y l ∧ SrtU Y) ∧ Below lo w w' := by
  obtain ⟨hs, h1, h2, h3⟩ := hG
  have hnm : ∀ (i : Nat) (h : Hu) (p : Pr), hs[i]? = some h → l[i]? = some p → h.nm = p.nm := fun i h p e1 e2 => (h3 i h p e1 e2).1.1
  have hrow : RowH (HH hs) lo c w g (List.range n) := by
    unfold RowH
    rw [List.length_range, hlen, ← h2, HH_map, h2, ← hlen]
    exact h1
  have hg : g < w.heap.size := (World.ownsRow.lt h1 g rfl).2
  refine (stableFunc_any (HH hs) lo c g n w (cfP l) (cmpU_of h2 hnm) (cfP_cmp l) (List.range n) List.pairwise_lt_range (fun y hy => List.mem_range.1 hy) n c (by simp) hn w (Below.refl _ _) hrow).mono ?_
  rintro e w' ⟨k1, ⟨Z, k2, k3, k4⟩, k5⟩
  have k3' : Z.Perm (List.range l.length) := by rw [← hlen]; exact k3
  have hZ : Z.length = n := by rw [k3.length_eq]; simp
  refine ⟨k1, ⟨Z.map (atP l), ⟨Z.map (HH hs), ?_, by simp, fun i h p e1 e2 => ?_⟩, ⟨by rw [List.length_map, hZ, hlen], sorted_get k3' k4, sorted_mem k3'⟩, sorted_srt k4⟩, (Below.refl _ _).grown k5 hlw (fun k e => by injection e with e; rw [← e]; exact hlg)⟩
  · unfold RowH at k2
    rwa [hZ] at k2
  · rw [List.getElem?_map] at e1 e2
    obtain ⟨z, hz, rfl⟩ := Option.map_eq_some_iff.1 e1
    rw [hz] at e2
    obtain rfl : atP l z = p := by simpa using e2
    have hzn : z < l.length := List.mem_range.1 (k3'.mem_iff.1 (List.mem_of_getElem? hz))
    have a1 : hs[z]? = some (hs[z]'(by omega)) := List.getElem?_eq_getElem _
    rw [HH_some a1]
    refine (h3 z _ _ a1 (atP_get hzn)).to (fun b hb => ?_) (fun b hb => ⟨Nat.lt_of_lt_of_le hb.1 k5.size, hb.2⟩)
    exact k5.block b hb.1 (fun e => hb.2 e.symm)
end Go.Proofs.Yteidknjhponpkaa.U
namespace Go.Proofs.Yteidknjhponpkaa.U
open Go.RowKit L T C B
set_option linter.unusedVariables false
set_option linter.unusedSimpArgs false

set_option maxRecDepth 100000 in
set_option maxHeartbeats 4000000 in
/-- any pairs, put in order -/
theorem orderedS_any (l : List Pr) (A : Option Addr) (n c : Nat) (w : World) (hG : UsW w A n c l) (hn : n ≤ 1000) :
    Calls Try.prog 31 #[.slice A n c] w fun e w' => ∃ A' m C' Y, e = .returned (.slice A' m C') ∧ OwnP w' w.heap.size (.slice A' m C') Y ∧ (LessF Y l ∧ RisU Y) ∧ Below w.heap.size w w' := by
  by_cases h1 : n < 2
  · refine (orderedU_inc l (fun k p q h1 h2 => ?_) A n c w hG (by omega)).mono ?_
    · have := (List.getElem?_eq_some_iff.1 h2).1
      have := hG.1
      omega
    · rintro e w' ⟨A', C', rfl, ho, hb⟩
      exact ⟨A', n, C', l, rfl, ho, ⟨LessF.refl l, ris_few (by have := hG.1; omega)⟩, hb⟩
  · have cC := cloneU_any A n c l w hG (by omega)
    have hl : n = l.length := hG.1
    have HL := Lib.hid hl
    have HS := Lib.hid (show ∀ (g C' : Nat) (W : World), OwnP W w.heap.size (.slice (some ⟨g, 0, none⟩) n C') l → w.heap.size ≤ g → w.heap.size ≤ W.heap.size → _ from fun g C' W h h1 h2 => sortU2_any l w.heap.size g n C' W h hl h1 h2 (by omega))
    have HK := Lib.hid (show ∀ (X : List Pr) (g C' : Nat) (W : World), OwnP W w.heap.size (.slice (some ⟨g, 0, none⟩) n C') X → n = X.length → w.heap.size ≤ g → w.heap.size ≤ W.heap.size → _ from fun X g C' W h hl h1 h2 => compactU2_any X w.heap.size g n C' W h hl h1 h2 (by omega))
    clear hG hl
    go_enter Try.func31, Try.ntmps31
    go_wp2_with (first
      | (go_at_call 53; ((with_reducible refine cC.mono ?_); rintro e w1 ⟨v, rfl, ho, hb1⟩; obtain ⟨A', C', hv, -, -, -, hpos⟩ := ho.slice; rw [← HL.out] at hv hpos; obtain ⟨g, hA', hg1, hg2⟩ := hpos (by omega); subst hA'; subst hv; have HO := Lib.hid ho; clear ho hpos; have hsO := HS.out g C' w1 HO.out hg1 hb1.size))
      | (go_at_call 54; ((with_reducible refine hsO.mono ?_); rintro e w2 ⟨⟨v2, rfl⟩, ⟨X, hX, hSX, hOX⟩, hb2⟩; have HX := Lib.hid hX; have HSX := Lib.hid hSX; have HOX := Lib.hid hOX; clear hX hSX hOX; have hb12 : Below w.heap.size w w2 := hb1.trans hb2; have hkO := HK.out X g C' w2 HX.out (HL.out.trans HSX.out.1.symm) hg1 hb12.size))
      | (go_at_call 56; ((with_reducible refine hkO.mono ?_); rintro e w3 ⟨m, rfl, ⟨Y, hY, hLY, hRY⟩, hb3⟩; have HY := Lib.hid hY; have HLY := Lib.hid hLY; have HRY := Lib.hid (hRY HOX.out); clear hY hLY hRY)))
    go_ret
    exact ⟨_, _, _, _, rfl, HY.out, ⟨HLY.out.same HSX.out, HRY.out⟩, hb12.trans hb3⟩
end Go.Proofs.Yteidknjhponpkaa.U
namespace Go.Proofs.Yteidknjhponpkaa.U
open Go.RowKit L T C B
set_option linter.unusedVariables false
set_option linter.unusedSimpArgs false

/-- what Then returns -/
def ThenF (a b L : List Pr) : Prop := (∀ s, getU L s = getU (a.map (thenB b) ++ b) s) ∧ L.length ≤ a.length + b.length ∧ ∀ x ∈ L, x ∈ b ∨ ∃ q ∈ a, x = thenB b q
theorem thenF_of {a b Y L : List Pr} (h1 : LessF Y a) (h2 : LessF L (Y.map (thenB b) ++ b)) : ThenF a b L := by
  refine ⟨fun s => ?_, ?_, fun x hx => ?_⟩
  · rw [h2.2.1 s, getU_app, getU_app]
    have e : ∀ X : List Pr, getU (X.map (thenB b)) s = (getU X s).map (sbT (getK b 0)) := fun X => getU_map (sbT (getK b 0)) s X
    rw [e, e, h1.2.1 s]
  · have := h2.1
    rw [List.length_append, List.length_map] at this
    have := h1.1
    omega
  · rcases List.mem_append.1 (h2.2.2 x hx) with h | h
    · obtain ⟨q, hq, rfl⟩ := List.mem_map.1 h
      exact .inr ⟨q, h1.2.2 q hq, rfl⟩
    · exact .inl h
set_option maxRecDepth 100000 in
set_option maxHeartbeats 8000000 in
theorem Then_any (a b : List Pr) (hsa : smU a) (hza : ∀ p ∈ a, size p.t ≤ 1000000) (hsb : smU b) (hzb : ∀ p ∈ b, 1 + size p.t ≤ 1000000) (A : Option Addr) (n c : Nat) (A' : Option Addr) (n' c' : Nat) (w : World) (hn : n + n' < 20) (hG : UsW w A n c a) (hG' : UsW w A' n' c' b) :
    Calls Try.prog 16 #[.slice A n c, .slice A' n' c'] w fun e w' => ∃ A2 N2 C2 L, e = .returned (.slice A2 N2 C2) ∧ UsW w' A2 N2 C2 L ∧ ThenF a b L ∧ Below w.heap.size w w' := by
  have hna : n = a.length := hG.1
  have hnb : n' = b.length := hG'.1
  have cO := orderedU_any a A n c w hG (by omega)
  have HF := Lib.hid (show ∀ w', Below w.heap.size w w' → _ from fun w' h => firsts_at b w.heap.size w A' n' c' w' (fun p hp => (hsb p hp).2) (by unfold maxLen; omega) hG' h.size h)
  have HIn := Lib.hid (show ∀ (p : Pr), p ∈ a → InOk b 0 p.t ∧ smT p.t ∧ size p.t ≤ 1000000 from fun p h => ⟨inTerm_any b hzb 0 p.t, (hsa p h).1, hza p h⟩)
  have HCp := Lib.hid (show ∀ w', Below w.heap.size w w' → _ from fun w' h => copied_any b (fun p hp => by have := hzb p hp; omega) A' n' c' w' (by omega) (hG'.b h))
  have HO2 := Lib.hid (show ∀ (Y : List Pr) (A3 : Option Addr) (N3 C3 : Nat) (w' : World), N3 < 20 → UsW w' A3 N3 C3 (Y.map (thenB b) ++ b) → _ from fun Y A3 N3 C3 w' h9 h => orderedU_any _ A3 N3 C3 w' h h9)
  have HNa := Lib.hid hna
  have HNb := Lib.hid hnb
  have HEnd := Lib.hid (show ∀ (Y : List Pr) (m : Nat), m = Y.length → mixB Y b m = Y.map (thenB b) from fun Y m h => by unfold mixB; rw [List.take_of_length_le (by omega), List.drop_eq_nil_of_le (by omega), List.append_nil])
  have HSt := Lib.hid (show ∀ Y : List Pr, mixB Y b 0 = Y from fun Y => by unfold mixB; rw [List.take_zero]; rfl)
  have HN := Lib.hid hn
  clear hG hG' hsa hza hsb hzb hna hnb hn
  go_enter Try.func16, Try.ntmps16
  go_wp2_with (first
    | (go_at_call 31; ((with_reducible refine cO.mono ?_); rintro e w1 ⟨A1, m, C1, Y, rfl, ho, hLY, hb1⟩; have HO := Lib.hid ho; have HLY := Lib.hid hLY; clear ho hLY))
    | (go_at_call 32; ((with_reducible refine (HF.out w1 hb1).mono ?_); rintro e w2 ⟨rfl, hM, hb2⟩; have HM := Lib.hid hM; clear hM)))
  have H0 : Hid (OwnP w2 w.heap.size (.slice A1 m C1) (mixB Y b 0) ∧ MapU w.heap.size w2 w1.heap.size b) := Lib.hid ⟨by rw [HSt.out Y]; exact HO.out.below hb2, HM.out⟩
  have hB2 := bel_trans hb1 hb2
  have HNm := Lib.hid (show m = Y.length from by obtain ⟨A0, c0, hv, -⟩ := HO.out.slice; injection hv)
  have hmn : m + n' < 20 := by have := HNm.out; have := HLY.out.1; have := HNa.out; have := HN.out; omega
  have hs1 := hb1.size
  have hs2 := HM.out.lt
  go_loopw [15] (fun i wr0 => ∃ (wr : World) (k : Nat), wr = wr0 ∧ k ≤ m ∧ i = .int .i64 k ∧ Below w.heap.size w wr ∧ Hid (OwnP wr w.heap.size (.slice A1 m C1) (mixB Y b k) ∧ MapU w.heap.size wr w1.heap.size b ∧ (∀ g, A1 = some ⟨g, 0, none⟩ → g < w1.heap.size))) (fun i _ => m - (intOf i).toNat)
  case atStart => exact ⟨_, 0, rfl, by omega, rfl, hB2, Lib.hid ⟨H0.out.1, H0.out.2, fun g hg => by subst hg; exact (HO.out.lt g rfl).2⟩⟩
  case round =>
    obtain ⟨wr, k, rfl, hk, rfl, hB, hR⟩ := hrel
    by_cases hlt : k < m
    · have hka : k < Y.length := by rw [← HNm.out]; exact hlt
      obtain ⟨p, hp⟩ : ∃ p, Y[k]? = some p := ⟨_, List.getElem?_eq_getElem hka⟩
      obtain ⟨bb, o, p', a', m', c'', hA1, hbb, y0, y1, y2, y3, y4, hp', hok⟩ := (hR.out.1.us).at hlt
      rw [mixB_at hp] at hp'
      injection hp' with hp'
      subst hp'
      obtain ⟨A0, c0, hv, _, _, _, hpos⟩ := hR.out.1.slice
      obtain ⟨g, hA0, hg1, hg2⟩ := hpos (by rw [mixB_len]; omega)
      injection hv with hv1 hv2 hv3
      rw [← hv1, hA1] at hA0
      injection hA0 with hA0
      injection hA0 with e1 e2
      subst e1 e2 hA1
      have hgm := hR.out.2.2 bb rfl
      rw [Nat.zero_add] at y0 y1 y2 y3 y4
      obtain ⟨W4, hW4, hB4, hs4, S4⟩ := ubox1 wr p.nm (opT p.t) (nameT p.t) (numT p.t) a' m' c''
      obtain ⟨hin, hsm, hsz⟩ := HIn.out p (HLY.out.2.2 p (List.mem_of_getElem? hp))
      have cc := hin w.heap.size w1.heap.size a' m' c'' W4 (hR.out.2.1.b hB.size hB4) (Nat.le_trans hB.size hB4.size) hsm hsz (ArW.b hok hB4)
      unfold RtT at cc
      obtain ⟨f0, f1, f2, f3, f4⟩ := S4.five
      have HGo := Lib.hid (show ∀ (w5 : World) (a5 : Option Addr) (n5 c5 : Nat), Below W4.heap.size W4 w5 → ArP (Nw 0 0 W4.heap.size w5.heap.size) w5 (sbT (getK b 0) p.t) a5 n5 c5 →
          (∃ u0 u1 u2 u3 : Value, w5.cell? ⟨bb, k * 5 + 1, none⟩ = some u0 ∧ w5.cell? ⟨bb, k * 5 + 1 + 1, none⟩ = some u1 ∧ w5.cell? ⟨bb, k * 5 + 1 + 1 + 1, none⟩ = some u2 ∧ w5.cell? ⟨bb, k * 5 + 1 + 1 + 1 + 1, none⟩ = some u3) ∧ (∀ j, w5.frozen? ⟨bb, j, none⟩ = false) ∧
          Below w.heap.size w (setT w5 bb k (opT (sbT (getK b 0) p.t)) (nameT (sbT (getK b 0) p.t)) (numT (sbT (getK b 0) p.t)) a5 n5 c5) ∧ Hid (OwnP (setT w5 bb k (opT (sbT (getK b 0) p.t)) (nameT (sbT (getK b 0) p.t)) (numT (sbT (getK b 0) p.t)) a5 n5 c5) w.heap.size (.slice (some ⟨bb, 0, none⟩) m C1) (mixB Y b (k + 1)) ∧ MapU w.heap.size (setT w5 bb k (opT (sbT (getK b 0) p.t)) (nameT (sbT (getK b 0) p.t)) (numT (sbT (getK b 0) p.t)) a5 n5 c5) w1.heap.size b ∧ (∀ g, (some ⟨bb, 0, none⟩ : Option Addr) = some ⟨g, 0, none⟩ → g < w1.heap.size)) from fun w5 a5 n5 c5 h5 hA5 => by
        have b5 := bel_trans hB4 h5
        have ho5 := hR.out.1.below b5
        have hrow : ∃ hs, OwnU w5 w.heap.size (.slice (some ⟨bb, 0, none⟩) m C1) hs ∧ hs.length = (mixB Y b k).length := by obtain ⟨hs, q1, q2, _⟩ := ho5; exact ⟨hs, q1, q2⟩
        obtain ⟨hs, q1, q2⟩ := hrow
        rw [mixB_len] at q2
        obtain ⟨cur, hg0, hl0, ht0⟩ := q1.row
        have hcell : ∀ j, j < 5 → ∃ u, w5.cell? ⟨bb, k * 5 + j, none⟩ = some u := fun j hj => ⟨_, by rw [cell_of_row w5 bb _ _ _ _ hg0]; exact Array.getElem?_eq_getElem (by omega)⟩
        obtain ⟨u0, k0⟩ := hcell 1 (by omega)
        obtain ⟨u1, k1⟩ := hcell 2 (by omega)
        obtain ⟨u2, k2⟩ := hcell 3 (by omega)
        obtain ⟨u3, k3⟩ := hcell 4 (by omega)
        refine ⟨⟨u0, u1, u2, u3, k0, k1, k2, k3⟩, fun j => q1.row.free j, setT_below (bel_trans (bel_trans hB hB4) h5) hg1 k _ _ _ _ _ _, Lib.hid ⟨?_, ?_, hR.out.2.2⟩⟩
        · have := ho5.setT (mixB_at hp) (sbT (getK b 0) p.t) a5 n5 c5 (ArP.to (fun _ _ => rfl) (fun x hx => by have := hB4.size; unfold Nw at hx; omega) _ hA5)
          rw [← mixB_step hp]
          exact this
        · exact (((hR.out.2.1.b hB.size hB4).b (Nat.le_trans hB.size hB4.size) h5).keep (setT_other w5 bb k w1.heap.size _ _ _ _ _ _ (by omega)) (setT_below (Below.refl _ _) hg1 k _ _ _ _ _ _)))
      unfold setT at HGo
      clear hp hok hR S4 hs4 hpos hsm hsz hin hv1 hv2 hv3
      generalize sbT (getK b 0) p.t = r at *
      generalize opT p.t = op' at *
      generalize nameT p.t = nm' at *
      generalize numT p.t = nu' at *
      generalize p.nm = xn at *
      have hk0 : 0 ≤ (k : Int) := by omega
      have hk1 : (k : Int) < (m : Int) := by omega
      go_wp2_with (go_at_call 33; ((with_reducible refine cc.mono ?_); rintro e w5 ⟨a5, n5, c5, rfl, hF, hb5⟩; obtain ⟨⟨u0, u1, u2, u3, q0, q1, q2, q3⟩, hfz, hBn, Hn⟩ := HGo.out w5 a5 n5 c5 hb5 hF; have g0 := hfz (k * 5 + 1); have g1 := hfz (k * 5 + 1 + 1); have g2 := hfz (k * 5 + 1 + 1 + 1); have g3 := hfz (k * 5 + 1 + 1 + 1 + 1); clear hF hfz))
      go_roundw
      case rel => exact ⟨_, k + 1, rfl, by omega, by go_num, hBn, Hn⟩
      case measure => simp [intOf]; omega
    · obtain rfl : k = m := by omega
      obtain ⟨ho, hM, hgl⟩ := hR.out
      rw [HEnd.out Y k HNm.out] at ho
      have HOw := Lib.hid ho
      have cCp := HCp.out wr hB
      have hlen : (Y.map (thenB b)).length + b.length ≤ 1000000000 := by rw [List.length_map, ← HNm.out, ← HNb.out]; omega
      have HLen := Lib.hid (show (Y.map (thenB b) ++ b).length = k + n' by rw [List.length_append, List.length_map, ← HNm.out, ← HNb.out])
      have hown : ∀ q, (Value.slice A1 k C1).ownBlock = some q → q < wr.heap.size := fun q hq => (ho.lt q hq).2
      have hbs := hB.size
      clear hR ho hM hgl HF HIn HCp
      go_wp2_with (first
        | (go_at_call 34; ((with_reducible refine cCp.mono ?_); rintro e w6 ⟨A6, C6, rfl, -, hU6, hb6⟩; have HU6 := Lib.hid hU6; clear hU6))
        | (at_builtin; ((refine app_pairs rfl (.tmp 29) (.tmp 31) rfl w.heap.size _ (Y.map (thenB b)) rfl (HOw.out.below hb6) _ (fun x hx => ⟨hx.2, fun e => by have := hown x e; have := hx.1; omega⟩) _ _ _ b rfl HU6.out hlen (Nat.le_trans hbs hb6.size) ?_); intro v7 w7 ho7 hg7; have hb7 : Below w.heap.size w6 w7 := (Below.refl _ w6).grown hg7 (Nat.le_trans hbs hb6.size) (fun q hq => (HOw.out.lt q hq).1); obtain ⟨A7, C7, hv7, -⟩ := ho7.slice; rw [HLen.out] at hv7; subst hv7; have hB7 := (hB.trans (hb6.mono hbs)).trans hb7; have cO7 := HO2.out Y A7 (k + n') C7 w7 hmn ho7.us; clear ho7))
        | (go_at_call 31; ((with_reducible refine cO7.mono ?_); rintro e w8 ⟨A8, N8, C8, L, rfl, ho8, hL8, hb8⟩; have HO8 := Lib.hid ho8; have HL8 := Lib.hid hL8; clear ho8 hL8)))
      go_ret
      exact ⟨_, _, _, _, rfl, HO8.out.us, thenF_of HLY.out HL8.out, hB7.trans (hb8.mono hB7.size)⟩
end Go.Proofs.Yteidknjhponpkaa.U
namespace Go.Proofs.Yteidknjhponpkaa.U
open Go.RowKit L T C B
set_option linter.unusedVariables false
set_option linter.unusedSimpArgs false

set_option maxRecDepth 100000 in
set_option maxHeartbeats 8000000 in
theorem Then2_any (a b : List Pr) (hsa : smU a) (hza : ∀ p ∈ a, size p.t ≤ 1000000) (hsb : smU b) (hzb : ∀ p ∈ b, 1 + size p.t ≤ 1000000) (A : Option Addr) (n c : Nat) (A' : Option Addr) (n' c' : Nat) (w : World) (hn : n + n' ≤ 1000) (hG : UsW w A n c a) (hG' : UsW w A' n' c' b) :
    Calls Try.prog 16 #[.slice A n c, .slice A' n' c'] w fun e w' => ∃ A2 N2 C2 L, e = .returned (.slice A2 N2 C2) ∧ UsW w' A2 N2 C2 L ∧ (ThenF a b L ∧ RisU L) ∧ Below w.heap.size w w' := by
  have hna : n = a.length := hG.1
  have hnb : n' = b.length := hG'.1
  have cO := orderedS_any a A n c w hG (by omega)
  have HF := Lib.hid (show ∀ w', Below w.heap.size w w' → _ from fun w' h => firsts_at b w.heap.size w A' n' c' w' (fun p hp => (hsb p hp).2) (by unfold maxLen; omega) hG' h.size h)
  have HIn := Lib.hid (show ∀ (p : Pr), p ∈ a → InOk b 0 p.t ∧ smT p.t ∧ size p.t ≤ 1000000 from fun p h => ⟨inTerm_any b hzb 0 p.t, (hsa p h).1, hza p h⟩)
  have HCp := Lib.hid (show ∀ w', Below w.heap.size w w' → _ from fun w' h => copied_any b (fun p hp => by have := hzb p hp; omega) A' n' c' w' (by omega) (hG'.b h))
  have HO2 := Lib.hid (show ∀ (Y : List Pr) (A3 : Option Addr) (N3 C3 : Nat) (w' : World), N3 ≤ 1000 → UsW w' A3 N3 C3 (Y.map (thenB b) ++ b) → _ from fun Y A3 N3 C3 w' h9 h => orderedS_any _ A3 N3 C3 w' h h9)
  have HNa := Lib.hid hna
  have HNb := Lib.hid hnb
  have HEnd := Lib.hid (show ∀ (Y : List Pr) (m : Nat), m = Y.length → mixB Y b m = Y.map (thenB b) from fun Y m h => by unfold mixB; rw [List.take_of_length_le (by omega), List.drop_eq_nil_of_le (by omega), List.append_nil])
  have HSt := Lib.hid (show ∀ Y : List Pr, mixB Y b 0 = Y from fun Y => by unfold mixB; rw [List.take_zero]; rfl)
  have HN := Lib.hid hn
  clear hG hG' hsa hza hsb hzb hna hnb hn
  go_enter Try.func16, Try.ntmps16
  go_wp2_with (first
    | (go_at_call 31; ((with_reducible refine cO.mono ?_); rintro e w1 ⟨A1, m, C1, Y, rfl, ho, hLY, hb1⟩; have HO := Lib.hid ho; have HLY := Lib.hid hLY; clear ho hLY))
    | (go_at_call 32; ((with_reducible refine (HF.out w1 hb1).mono ?_); rintro e w2 ⟨rfl, hM, hb2⟩; have HM := Lib.hid hM; clear hM)))
  have H0 : Hid (OwnP w2 w.heap.size (.slice A1 m C1) (mixB Y b 0) ∧ MapU w.heap.size w2 w1.heap.size b) := Lib.hid ⟨by rw [HSt.out Y]; exact HO.out.below hb2, HM.out⟩
  have hB2 := bel_trans hb1 hb2
  have HNm := Lib.hid (show m = Y.length from by obtain ⟨A0, c0, hv, -⟩ := HO.out.slice; injection hv)
  have hmn : m + n' ≤ 1000 := by have := HNm.out; have := HLY.out.1.1; have := HNa.out; have := HN.out; omega
  have hs1 := hb1.size
  have hs2 := HM.out.lt
  go_loopw [15] (fun i wr0 => ∃ (wr : World) (k : Nat), wr = wr0 ∧ k ≤ m ∧ i = .int .i64 k ∧ Below w.heap.size w wr ∧ Hid (OwnP wr w.heap.size (.slice A1 m C1) (mixB Y b k) ∧ MapU w.heap.size wr w1.heap.size b ∧ (∀ g, A1 = some ⟨g, 0, none⟩ → g < w1.heap.size))) (fun i _ => m - (intOf i).toNat)
  case atStart => exact ⟨_, 0, rfl, by omega, rfl, hB2, Lib.hid ⟨H0.out.1, H0.out.2, fun g hg => by subst hg; exact (HO.out.lt g rfl).2⟩⟩
  case round =>
    obtain ⟨wr, k, rfl, hk, rfl, hB, hR⟩ := hrel
    by_cases hlt : k < m
    · have hka : k < Y.length := by rw [← HNm.out]; exact hlt
      obtain ⟨p, hp⟩ : ∃ p, Y[k]? = some p := ⟨_, List.getElem?_eq_getElem hka⟩
      obtain ⟨bb, o, p', a', m', c'', hA1, hbb, y0, y1, y2, y3, y4, hp', hok⟩ := (hR.out.1.us).at hlt
      rw [mixB_at hp] at hp'
      injection hp' with hp'
      subst hp'
      obtain ⟨A0, c0, hv, _, _, _, hpos⟩ := hR.out.1.slice
      obtain ⟨g, hA0, hg1, hg2⟩ := hpos (by rw [mixB_len]; omega)
      injection hv with hv1 hv2 hv3
      rw [← hv1, hA1] at hA0
      injection hA0 with hA0
      injection hA0 with e1 e2
      subst e1 e2 hA1
      have hgm := hR.out.2.2 bb rfl
      rw [Nat.zero_add] at y0 y1 y2 y3 y4
      obtain ⟨W4, hW4, hB4, hs4, S4⟩ := ubox1 wr p.nm (opT p.t) (nameT p.t) (numT p.t) a' m' c''
      obtain ⟨hin, hsm, hsz⟩ := HIn.out p (HLY.out.1.2.2 p (List.mem_of_getElem? hp))
      have cc := hin w.heap.size w1.heap.size a' m' c'' W4 (hR.out.2.1.b hB.size hB4) (Nat.le_trans hB.size hB4.size) hsm hsz (ArW.b hok hB4)
      unfold RtT at cc
      obtain ⟨f0, f1, f2, f3, f4⟩ := S4.five
      have HGo := Lib.hid (show ∀ (w5 : World) (a5 : Option Addr) (n5 c5 : Nat), Below W4.heap.size W4 w5 → ArP (Nw 0 0 W4.heap.size w5.heap.size) w5 (sbT (getK b 0) p.t) a5 n5 c5 →
          (∃ u0 u1 u2 u3 : Value, w5.cell? ⟨bb, k * 5 + 1, none⟩ = some u0 ∧ w5.cell? ⟨bb, k * 5 + 1 + 1, none⟩ = some u1 ∧ w5.cell? ⟨bb, k * 5 + 1 + 1 + 1, none⟩ = some u2 ∧ w5.cell? ⟨bb, k * 5 + 1 + 1 + 1 + 1, none⟩ = some u3) ∧ (∀ j, w5.frozen? ⟨bb, j, none⟩ = false) ∧
          Below w.heap.size w (setT w5 bb k (opT (sbT (getK b 0) p.t)) (nameT (sbT (getK b 0) p.t)) (numT (sbT (getK b 0) p.t)) a5 n5 c5) ∧ Hid (OwnP (setT w5 bb k (opT (sbT (getK b 0) p.t)) (nameT (sbT (getK b 0) p.t)) (numT (sbT (getK b 0) p.t)) a5 n5 c5) w.heap.size (.slice (some ⟨bb, 0, none⟩) m C1) (mixB Y b (k + 1)) ∧ MapU w.heap.size (setT w5 bb k (opT (sbT (getK b 0) p.t)) (nameT (sbT (getK b 0) p.t)) (numT (sbT (getK b 0) p.t)) a5 n5 c5) w1.heap.size b ∧ (∀ g, (some ⟨bb, 0, none⟩ : Option Addr) = some ⟨g, 0, none⟩ → g < w1.heap.size)) from fun w5 a5 n5 c5 h5 hA5 => by
        have b5 := bel_trans hB4 h5
        have ho5 := hR.out.1.below b5
        have hrow : ∃ hs, OwnU w5 w.heap.size (.slice (some ⟨bb, 0, none⟩) m C1) hs ∧ hs.length = (mixB Y b k).length := by obtain ⟨hs, q1, q2, _⟩ := ho5; exact ⟨hs, q1, q2⟩
        obtain ⟨hs, q1, q2⟩ := hrow
        rw [mixB_len] at q2
        obtain ⟨cur, hg0, hl0, ht0⟩ := q1.row
        have hcell : ∀ j, j < 5 → ∃ u, w5.cell? ⟨bb, k * 5 + j, none⟩ = some u := fun j hj => ⟨_, by rw [cell_of_row w5 bb _ _ _ _ hg0]; exact Array.getElem?_eq_getElem (by omega)⟩
        obtain ⟨u0, k0⟩ := hcell 1 (by omega)
        obtain ⟨u1, k1⟩ := hcell 2 (by omega)
        obtain ⟨u2, k2⟩ := hcell 3 (by omega)
        obtain ⟨u3, k3⟩ := hcell 4 (by omega)
        refine ⟨⟨u0, u1, u2, u3, k0, k1, k2, k3⟩, fun j => q1.row.free j, setT_below (bel_trans (bel_trans hB hB4) h5) hg1 k _ _ _ _ _ _, Lib.hid ⟨?_, ?_, hR.out.2.2⟩⟩
        · have := ho5.setT (mixB_at hp) (sbT (getK b 0) p.t) a5 n5 c5 (ArP.to (fun _ _ => rfl) (fun x hx => by have := hB4.size; unfold Nw at hx; omega) _ hA5)
          rw [← mixB_step hp]
          exact this
        · exact (((hR.out.2.1.b hB.size hB4).b (Nat.le_trans hB.size hB4.size) h5).keep (setT_other w5 bb k w1.heap.size _ _ _ _ _ _ (by omega)) (setT_below (Below.refl _ _) hg1 k _ _ _ _ _ _)))
      unfold setT at HGo
      clear hp hok hR S4 hs4 hpos hsm hsz hin hv1 hv2 hv3
      generalize sbT (getK b 0) p.t = r at *
      generalize opT p.t = op' at *
      generalize nameT p.t = nm' at *
      generalize numT p.t = nu' at *
      generalize p.nm = xn at *
      have hk0 : 0 ≤ (k : Int) := by omega
      have hk1 : (k : Int) < (m : Int) := by omega
      go_wp2_with (go_at_call 33; ((with_reducible refine cc.mono ?_); rintro e w5 ⟨a5, n5, c5, rfl, hF, hb5⟩; obtain ⟨⟨u0, u1, u2, u3, q0, q1, q2, q3⟩, hfz, hBn, Hn⟩ := HGo.out w5 a5 n5 c5 hb5 hF; have g0 := hfz (k * 5 + 1); have g1 := hfz (k * 5 + 1 + 1); have g2 := hfz (k * 5 + 1 + 1 + 1); have g3 := hfz (k * 5 + 1 + 1 + 1 + 1); clear hF hfz))
      go_roundw
      case rel => exact ⟨_, k + 1, rfl, by omega, by go_num, hBn, Hn⟩
      case measure => simp [intOf]; omega
    · obtain rfl : k = m := by omega
      obtain ⟨ho, hM, hgl⟩ := hR.out
      rw [HEnd.out Y k HNm.out] at ho
      have HOw := Lib.hid ho
      have cCp := HCp.out wr hB
      have hlen : (Y.map (thenB b)).length + b.length ≤ 1000000000 := by rw [List.length_map, ← HNm.out, ← HNb.out]; omega
      have HLen := Lib.hid (show (Y.map (thenB b) ++ b).length = k + n' by rw [List.length_append, List.length_map, ← HNm.out, ← HNb.out])
      have hown : ∀ q, (Value.slice A1 k C1).ownBlock = some q → q < wr.heap.size := fun q hq => (ho.lt q hq).2
      have hbs := hB.size
      clear hR ho hM hgl HF HIn HCp
      go_wp2_with (first
        | (go_at_call 34; ((with_reducible refine cCp.mono ?_); rintro e w6 ⟨A6, C6, rfl, -, hU6, hb6⟩; have HU6 := Lib.hid hU6; clear hU6))
        | (at_builtin; ((refine app_pairs rfl (.tmp 29) (.tmp 31) rfl w.heap.size _ (Y.map (thenB b)) rfl (HOw.out.below hb6) _ (fun x hx => ⟨hx.2, fun e => by have := hown x e; have := hx.1; omega⟩) _ _ _ b rfl HU6.out hlen (Nat.le_trans hbs hb6.size) ?_); intro v7 w7 ho7 hg7; have hb7 : Below w.heap.size w6 w7 := (Below.refl _ w6).grown hg7 (Nat.le_trans hbs hb6.size) (fun q hq => (HOw.out.lt q hq).1); obtain ⟨A7, C7, hv7, -⟩ := ho7.slice; rw [HLen.out] at hv7; subst hv7; have hB7 := (hB.trans (hb6.mono hbs)).trans hb7; have cO7 := HO2.out Y A7 (k + n') C7 w7 hmn ho7.us; clear ho7))
        | (go_at_call 31; ((with_reducible refine cO7.mono ?_); rintro e w8 ⟨A8, N8, C8, L, rfl, ho8, hL8, hb8⟩; have HO8 := Lib.hid ho8; have HL8 := Lib.hid hL8; clear ho8 hL8)))
      go_ret
      exact ⟨_, _, _, _, rfl, HO8.out.us, ⟨thenF_of HLY.out.1 HL8.out.1, HL8.out.2⟩, hB7.trans (hb8.mono hB7.size)⟩
end Go.Proofs.Yteidknjhponpkaa.U
