/-
  What is proved: package subst's Then of any two lists of pairs, fewer than twenty taken together: of each name the first term is what the two put in its place one behind the other.
  What is proved: two substitutions, one behind the other, come to what Then makes of them (plain mathematics; for SubstOnce).
  What is proved: the law over two substitutions one behind the other: what is too great for it.
-/
import Derived.Test.YtbmniajimkondaaBM
import Derived.Test.YtbmniajimkondaaBO
import Derived.Test.YtbmniajimkondaaZSbMa
import Derived.Test.YtbmniajimkondaaZSbJ
import Derived.Test.YtbmniajimkondaaZSbOz
import Derived.Test.YtbmniajimkondaaZSbAc
import Derived.Test.YtbmniajimkondaaZSbAw
import Derived.Test.YtbmniajimkondaaZSbCo
import Derived.Test.YtbmniajimkondaaZSbV
import Derived.Test.YtbmniajimkondaaZSbW
import Derived.Test.YtbmniajimkondaaBL
import Derived.Test.YtbmniajimkondaaBC
namespace Go.Proofs.Ytbmniajimkondaa.U
open Go.RowKit L T C B
set_option linter.unusedVariables false
set_option linter.unusedSimpArgs false

/-- what Then returns -/
def ThenF (a b L : List Pr) : Prop := (∀ s, getU L s = getU (a.map (thenB b) ++ b) s) ∧ L.length ≤ a.length + b.length ∧ ∀ x ∈ L, x ∈ b ∨ ∃ q ∈ a, x = thenB b q
theorem thenF_of {a b Y L : List Pr} (h1 : LessF Y a) (h2 : LessF L (Y.map (thenB b) ++ b)) : ThenF a b L := by
  refine ⟨fun s => ?_, ?_, fun x hx => ?_⟩
  · rw [h2.2.1 s, getU_app, getU_app]
    have e : ∀ X : List Pr, getU (X.map (thenB b)) s = (getU X s).map (sbT (getK b 0)) := fun X => getU_map (sbT (getK b 0)) s X
    rw [e, e, h1.2.1 s]
  · have := h2.1
    rw [List.length_append, List.length_map] at this
    have := h1.1
    omega
  · rcases List.mem_append.1 (h2.2.2 x hx) with h | h
    · obtain ⟨q, hq, rfl⟩ := List.mem_map.1 h
      exact .inr ⟨q, h1.2.2 q hq, rfl⟩
    · exact .inl h
set_option maxRecDepth 100000 in
set_option maxHeartbeats 8000000 in
theorem Then_any (a b : List Pr) (hsa : smU a) (hza : ∀ p ∈ a, size p.t ≤ 1000000) (hsb : smU b) (hzb : ∀ p ∈ b, 1 + size p.t ≤ 1000000) (A : Option Addr) (n c : Nat) (A' : Option Addr) (n' c' : Nat) (w : World) (hn : n + n' < 20) (hG : UsW w A n c a) (hG' : UsW w A' n' c' b) :
    Calls Try.prog 40 #[.slice A n c, .slice A' n' c'] w fun e w' => ∃ A2 N2 C2 L, e = .returned (.slice A2 N2 C2) ∧ UsW w' A2 N2 C2 L ∧ ThenF a b L ∧ Below w.heap.size w w' := by
  have hna : n = a.length := hG.1
  have hnb : n' = b.length := hG'.1
  have cO := orderedU_any a A n c w hG (by omega)
  have HF := Lib.hid (show ∀ w', Below w.heap.size w w' → _ from fun w' h => firsts_at b w.heap.size w A' n' c' w' (fun p hp => (hsb p hp).2) (by unfold maxLen; omega) hG' h.size h)
  have HIn := Lib.hid (show ∀ (p : Pr), p ∈ a → InOk b 0 p.t ∧ smT p.t ∧ size p.t ≤ 1000000 from fun p h => ⟨inTerm_any b hzb 0 p.t, (hsa p h).1, hza p h⟩)
  have HCp := Lib.hid (show ∀ w', Below w.heap.size w w' → _ from fun w' h => copied_any b (fun p hp => by have := hzb p hp; omega) A' n' c' w' (by omega) (hG'.b h))
  have HO2 := Lib.hid (show ∀ (Y : List Pr) (A3 : Option Addr) (N3 C3 : Nat) (w' : World), N3 < 20 → UsW w' A3 N3 C3 (Y.map (thenB b) ++ b) → _ from fun Y A3 N3 C3 w' h9 h => orderedU_any _ A3 N3 C3 w' h h9)
  have HNa := Lib.hid hna
  have HNb := Lib.hid hnb
  have HEnd := Lib.hid (show ∀ (Y : List Pr) (m : Nat), m = Y.length → mixB Y b m = Y.map (thenB b) from fun Y m h => by unfold mixB; rw [List.take_of_length_le (by omega), List.drop_eq_nil_of_le (by omega), List.append_nil])
  have HSt := Lib.hid (show ∀ Y : List Pr, mixB Y b 0 = Y from fun Y => by unfold mixB; rw [List.take_zero]; rfl)
  have HN := Lib.hid hn
  clear hG hG' hsa hza hsb hzb hna hnb hn
  go_enter Try.func40, Try.ntmps40
  go_wp2_with (first
    | (go_at_call 86; ((with_reducible refine cO.mono ?_); rintro e w1 ⟨A1, m, C1, Y, rfl, ho, hLY, hb1⟩; have HO := Lib.hid ho; have HLY := Lib.hid hLY; clear ho hLY))
    | (go_at_call 76; ((with_reducible refine (HF.out w1 hb1).mono ?_); rintro e w2 ⟨rfl, hM, hb2⟩; have HM := Lib.hid hM; clear hM)))
  have H0 : Hid (OwnP w2 w.heap.size (.slice A1 m C1) (mixB Y b 0) ∧ MapU w.heap.size w2 w1.heap.size b) := Lib.hid ⟨by rw [HSt.out Y]; exact HO.out.below hb2, HM.out⟩
  have hB2 := bel_trans hb1 hb2
  have HNm := Lib.hid (show m = Y.length from by obtain ⟨A0, c0, hv, -⟩ := HO.out.slice; injection hv)
  have hmn : m + n' < 20 := by have := HNm.out; have := HLY.out.1; have := HNa.out; have := HN.out; omega
  have hs1 := hb1.size
  have hs2 := HM.out.lt
  go_loopw [15] (fun i wr0 => ∃ (wr : World) (k : Nat), wr = wr0 ∧ k ≤ m ∧ i = .int .i64 k ∧ Below w.heap.size w wr ∧ Hid (OwnP wr w.heap.size (.slice A1 m C1) (mixB Y b k) ∧ MapU w.heap.size wr w1.heap.size b ∧ (∀ g, A1 = some ⟨g, 0, none⟩ → g < w1.heap.size))) (fun i _ => m - (intOf i).toNat)
  case atStart => exact ⟨_, 0, rfl, by omega, rfl, hB2, Lib.hid ⟨H0.out.1, H0.out.2, fun g hg => by subst hg; exact (HO.out.lt g rfl).2⟩⟩
  case round =>
    obtain ⟨wr, k, rfl, hk, rfl, hB, hR⟩ := hrel
    by_cases hlt : k < m
    · have hka : k < Y.length := by rw [← HNm.out]; exact hlt
      obtain ⟨p, hp⟩ : ∃ p, Y[k]? = some p := ⟨_, List.getElem?_eq_getElem hka⟩
      obtain ⟨bb, o, p', a', m', c'', hA1, hbb, y0, y1, y2, y3, y4, hp', hok⟩ := (hR.out.1.us).at hlt
      rw [mixB_at hp] at hp'
      injection hp' with hp'
      subst hp'
      obtain ⟨A0, c0, hv, _, _, _, hpos⟩ := hR.out.1.slice
      obtain ⟨g, hA0, hg1, hg2⟩ := hpos (by rw [mixB_len]; omega)
      injection hv with hv1 hv2 hv3
      rw [← hv1, hA1] at hA0
      injection hA0 with hA0
      injection hA0 with e1 e2
      subst e1 e2 hA1
      have hgm := hR.out.2.2 bb rfl
      rw [Nat.zero_add] at y0 y1 y2 y3 y4
      obtain ⟨W4, hW4, hB4, hs4, S4⟩ := ubox1 wr p.nm (opT p.t) (nameT p.t) (numT p.t) a' m' c''
      obtain ⟨hin, hsm, hsz⟩ := HIn.out p (HLY.out.2.2 p (List.mem_of_getElem? hp))
      have cc := hin w.heap.size w1.heap.size a' m' c'' W4 (hR.out.2.1.b hB.size hB4) (Nat.le_trans hB.size hB4.size) hsm hsz (ArW.b hok hB4)
      unfold RtT at cc
      obtain ⟨f0, f1, f2, f3, f4⟩ := S4.five
      have HGo := Lib.hid (show ∀ (w5 : World) (a5 : Option Addr) (n5 c5 : Nat), Below W4.heap.size W4 w5 → ArP (Nw 0 0 W4.heap.size w5.heap.size) w5 (sbT (getK b 0) p.t) a5 n5 c5 →
          (∃ u0 u1 u2 u3 : Value, w5.cell? ⟨bb, k * 5 + 1, none⟩ = some u0 ∧ w5.cell? ⟨bb, k * 5 + 1 + 1, none⟩ = some u1 ∧ w5.cell? ⟨bb, k * 5 + 1 + 1 + 1, none⟩ = some u2 ∧ w5.cell? ⟨bb, k * 5 + 1 + 1 + 1 + 1, none⟩ = some u3) ∧ (∀ j, w5.frozen? ⟨bb, j, none⟩ = false) ∧
          Below w.heap.size w (setT w5 bb k (opT (sbT (getK b 0) p.t)) (nameT (sbT (getK b 0) p.t)) (numT (sbT (getK b 0) p.t)) a5 n5 c5) ∧ Hid (OwnP (setT w5 bb k (opT (sbT (getK b 0) p.t)) (nameT (sbT (getK b 0) p.t)) (numT (sbT (getK b 0) p.t)) a5 n5 c5) w.heap.size (.slice (some ⟨bb, 0, none⟩) m C1) (mixB Y b (k + 1)) ∧ MapU w.heap.size (setT w5 bb k (opT (sbT (getK b 0) p.t)) (nameT (sbT (getK b 0) p.t)) (numT (sbT (getK b 0) p.t)) a5 n5 c5) w1.heap.size b ∧ (∀ g, (some ⟨bb, 0, none⟩ : Option Addr) = some ⟨g, 0, none⟩ → g < w1.heap.size)) from fun w5 a5 n5 c5 h5 hA5 => by
        have b5 := bel_trans hB4 h5
        have ho5 := hR.out.1.below b5
        have hrow : ∃ hs, OwnU w5 w.heap.size (.slice (some ⟨bb, 0, none⟩) m C1) hs ∧ hs.length = (mixB Y b k).length := by obtain ⟨hs, q1, q2, _⟩ := ho5; exact ⟨hs, q1, q2⟩
        obtain ⟨hs, q1, q2⟩ := hrow
        rw [mixB_len] at q2
        obtain ⟨cur, hg0, hl0, ht0⟩ := q1.row
        have hcell : ∀ j, j < 5 → ∃ u, w5.cell? ⟨bb, k * 5 + j, none⟩ = some u := fun j hj => ⟨_, by rw [cell_of_row w5 bb _ _ _ _ hg0]; exact Array.getElem?_eq_getElem (by omega)⟩
        obtain ⟨u0, k0⟩ := hcell 1 (by omega)
        obtain ⟨u1, k1⟩ := hcell 2 (by omega)
        obtain ⟨u2, k2⟩ := hcell 3 (by omega)
        obtain ⟨u3, k3⟩ := hcell 4 (by omega)
        refine ⟨⟨u0, u1, u2, u3, k0, k1, k2, k3⟩, fun j => q1.row.free j, setT_below (bel_trans (bel_trans hB hB4) h5) hg1 k _ _ _ _ _ _, Lib.hid ⟨?_, ?_, hR.out.2.2⟩⟩
        · have := ho5.setT (mixB_at hp) (sbT (getK b 0) p.t) a5 n5 c5 (ArP.to (fun _ _ => rfl) (fun x hx => by have := hB4.size; unfold Nw at hx; omega) _ hA5)
          rw [← mixB_step hp]
          exact this
        · exact (((hR.out.2.1.b hB.size hB4).b (Nat.le_trans hB.size hB4.size) h5).keep (setT_other w5 bb k w1.heap.size _ _ _ _ _ _ (by omega)) (setT_below (Below.refl _ _) hg1 k _ _ _ _ _ _)))
      unfold setT at HGo
      clear hp hok hR S4 hs4 hpos hsm hsz hin hv1 hv2 hv3
      generalize sbT (getK b 0) p.t = r at *
      generalize opT p.t = op' at *
      generalize nameT p.t = nm' at *
      generalize numT p.t = nu' at *
      generalize p.nm = xn at *
      have hk0 : 0 ≤ (k : Int) := by omega
      have hk1 : (k : Int) < (m : Int) := by omega
      go_wp2_with (go_at_call 77; ((with_reducible refine cc.mono ?_); rintro e w5 ⟨a5, n5, c5, rfl, hF, hb5⟩; obtain ⟨⟨u0, u1, u2, u3, q0, q1, q2, q3⟩, hfz, hBn, Hn⟩ := HGo.out w5 a5 n5 c5 hb5 hF; have g0 := hfz (k * 5 + 1); have g1 := hfz (k * 5 + 1 + 1); have g2 := hfz (k * 5 + 1 + 1 + 1); have g3 := hfz (k * 5 + 1 + 1 + 1 + 1); clear hF hfz))
      go_roundw
      case rel => exact ⟨_, k + 1, rfl, by omega, by go_num, hBn, Hn⟩
      case measure => simp [intOf]; omega
    · obtain rfl : k = m := by omega
      obtain ⟨ho, hM, hgl⟩ := hR.out
      rw [HEnd.out Y k HNm.out] at ho
      have HOw := Lib.hid ho
      have cCp := HCp.out wr hB
      have hlen : (Y.map (thenB b)).length + b.length ≤ 1000000000 := by rw [List.length_map, ← HNm.out, ← HNb.out]; omega
      have HLen := Lib.hid (show (Y.map (thenB b) ++ b).length = k + n' by rw [List.length_append, List.length_map, ← HNm.out, ← HNb.out])
      have hown : ∀ q, (Value.slice A1 k C1).ownBlock = some q → q < wr.heap.size := fun q hq => (ho.lt q hq).2
      have hbs := hB.size
      clear hR ho hM hgl HF HIn HCp
      go_wp2_with (first
        | (go_at_call 69; ((with_reducible refine cCp.mono ?_); rintro e w6 ⟨A6, C6, rfl, -, hU6, hb6⟩; have HU6 := Lib.hid hU6; clear hU6))
        | (at_builtin; ((refine app_pairs rfl (.tmp 29) (.tmp 31) rfl w.heap.size _ (Y.map (thenB b)) rfl (HOw.out.below hb6) _ (fun x hx => ⟨hx.2, fun e => by have := hown x e; have := hx.1; omega⟩) _ _ _ b rfl HU6.out hlen (Nat.le_trans hbs hb6.size) ?_); intro v7 w7 ho7 hg7; have hb7 : Below w.heap.size w6 w7 := (Below.refl _ w6).grown hg7 (Nat.le_trans hbs hb6.size) (fun q hq => (HOw.out.lt q hq).1); obtain ⟨A7, C7, hv7, -⟩ := ho7.slice; rw [HLen.out] at hv7; subst hv7; have hB7 := (hB.trans (hb6.mono hbs)).trans hb7; have cO7 := HO2.out Y A7 (k + n') C7 w7 hmn ho7.us; clear ho7))
        | (go_at_call 86; ((with_reducible refine cO7.mono ?_); rintro e w8 ⟨A8, N8, C8, L, rfl, ho8, hL8, hb8⟩; have HO8 := Lib.hid ho8; have HL8 := Lib.hid hL8; clear ho8 hL8)))
      go_ret
      exact ⟨_, _, _, _, rfl, HO8.out.us, thenF_of HLY.out HL8.out, hB7.trans (hb8.mono hB7.size)⟩
end Go.Proofs.Ytbmniajimkondaa.U
namespace Go.Proofs.Ytbmniajimkondaa.U
open Go.RowKit L T C B
set_option linter.unusedVariables false
set_option linter.unusedSimpArgs false

mutual
theorem lf_zero : ∀ t : Tm, zT t → lfT 0 t = t
  | .mk o s z l, h => by
    rw [zT] at h
    have e3 : IntKind.i64.wrap (z + 0) = z := by rw [IntKind.wrap_i64]; omega
    rw [lfT, lfs_zero l h.2, e3]
    by_cases ho : o = 2
    · rw [if_pos ho]
    · rw [if_neg ho]
theorem lfs_zero : ∀ l : List Tm, zTs l → lfTs 0 l = l
  | [], _ => by rw [lfTs]
  | t :: l, h => by rw [zTs] at h; rw [lfTs, lf_zero t h.1, lfs_zero l h.2]
end
mutual
theorem zT_sb {b : List Pr} (hb : ∀ p ∈ b, zT p.t) : ∀ u : Tm, zT u → zT (sbT (getL b 0) u)
  | .mk o s z l, h => by
    have h' := h
    rw [zT] at h
    by_cases ho : o = 1
    · subst ho
      cases hg : getU b s with
      | some v =>
        obtain ⟨p, hp, rfl⟩ := getU_mem hg
        rw [sbT_put (t := .mk 1 s z l) rfl (show getL b 0 s = some _ from getL_some hg), lf_zero _ (hb p hp)]
        exact hb p hp
      | none =>
        rw [sbL_mk _ (.mk 1 s z l) (.inr (getL_none hg))]
        show zT (.mk 1 s z (sbTs (getL b 0) l))
        rw [zT]
        exact ⟨h.1, zTs_sb hb l h.2⟩
    · rw [sbL_mk _ (.mk o s z l) (.inl ho)]
      show zT (.mk o s z (sbTs (getL b 0) l))
      rw [zT]
      exact ⟨h.1, zTs_sb hb l h.2⟩
theorem zTs_sb {b : List Pr} (hb : ∀ p ∈ b, zT p.t) : ∀ l : List Tm, zTs l → zTs (sbTs (getL b 0) l)
  | [], _ => by rw [sbTs, zTs]; trivial
  | u :: l, h => by
    rw [zTs] at h
    rw [sbTs, zTs]
    exact ⟨zT_sb hb u h.1, zTs_sb hb l h.2⟩
end
mutual
theorem smT_lf (K : Int) : ∀ u : Tm, smT u → smT (lfT K u)
  | .mk o s z l, h => by rw [smT] at h; rw [lfT, smT]; exact ⟨h.1, smTs_lf K l h.2⟩
theorem smTs_lf (K : Int) : ∀ l : List Tm, smTs l → smTs (lfTs K l)
  | [], h => by rw [lfTs, smTs]; trivial
  | u :: l, h => by rw [smTs] at h; rw [lfTs, smTs]; exact ⟨smT_lf K u h.1, smTs_lf K l h.2⟩
end
mutual
theorem smT_sb {b : List Pr} (hb : ∀ p ∈ b, smT p.t) (K : Int) : ∀ u : Tm, smT u → smT (sbT (getL b K) u)
  | .mk o s z l, h => by
    have h' := h
    rw [smT] at h
    by_cases ho : o = 1
    · subst ho
      cases hg : getU b s with
      | some v =>
        obtain ⟨p, hp, rfl⟩ := getU_mem hg
        rw [sbT_put (t := .mk 1 s z l) rfl (show getL b K s = some _ from getL_some hg)]
        exact smT_lf K _ (hb p hp)
      | none =>
        rw [sbL_mk _ (.mk 1 s z l) (.inr (getL_none hg))]
        show smT (.mk 1 s z (sbTs (getL b K) l))
        rw [smT]
        exact ⟨h.1, smTs_sb hb K l h.2⟩
    · rw [sbL_mk _ (.mk o s z l) (.inl ho)]
      show smT (.mk o s z (sbTs (getL b K) l))
      rw [smT]
      exact ⟨h.1, smTs_sb hb K l h.2⟩
theorem smTs_sb {b : List Pr} (hb : ∀ p ∈ b, smT p.t) (K : Int) : ∀ l : List Tm, smTs l → smTs (sbTs (getL b K) l)
  | [], _ => by rw [sbTs, smTs]; trivial
  | u :: l, h => by
    rw [smTs] at h
    rw [sbTs, smTs]
    exact ⟨smT_sb hb K u h.1, smTs_sb hb K l h.2⟩
end
mutual
theorem smC_sb {b : List Pr} (hb : ∀ p ∈ b, smT p.t) : ∀ (c : Cl) (K : Int), smC c → smC (sbRl b K c)
  | .mk o s z ts cs, K, h => by
    rw [smC] at h
    rw [sbRl, smC, ← sbTs_map]
    exact ⟨smTs_sb hb K ts h.1, smCs_sb hb cs _ h.2⟩
theorem smCs_sb {b : List Pr} (hb : ∀ p ∈ b, smT p.t) : ∀ (cs : List Cl) (K : Int), smCs cs → smCs (sbRls b K cs)
  | [], K, _ => by rw [sbRls, smCs]; trivial
  | c :: cs, K, h => by
    rw [smCs] at h
    rw [sbRls, smCs]
    exact ⟨smC_sb hb c K h.1, smCs_sb hb cs K h.2⟩
end
mutual
theorem wt_sb {b : List Pr} {M : Nat} (hM : 1 ≤ M) (hb : ∀ p ∈ b, size p.t ≤ M) : ∀ (c : Cl) (K : Int), wt (sbRl b K c) ≤ wt c * M
  | .mk o s z ts cs, K => by
    have h1 := sizes_sb hM hb K ts
    have h2 := wts_sb hM hb cs (if o = 11 ∨ o = 12 then K + 1 else K)
    rw [sbRl, wt, wt, ← sbTs_map, Nat.add_mul, Nat.add_mul, Nat.one_mul]
    omega
theorem wts_sb {b : List Pr} {M : Nat} (hM : 1 ≤ M) (hb : ∀ p ∈ b, size p.t ≤ M) : ∀ (cs : List Cl) (K : Int), wts (sbRls b K cs) ≤ wts cs * M
  | [], K => by rw [sbRls, wts]; exact Nat.zero_le _
  | c :: cs, K => by
    have h1 := wt_sb hM hb c K
    have h2 := wts_sb hM hb cs K
    rw [sbRls, wts, wts, Nat.add_mul]
    omega
end
theorem getLK {l : List Pr} (h : ∀ p ∈ l, zT p.t) : getL l 0 = getK l 0 := get_eq (fun p hp => lf_wk0 p.t (h p hp))
theorem then_mix {a b L : List Pr} (hb : ∀ p ∈ b, zT p.t) (hL : ThenF a b L) (s : ByteArray) : getU L s = mixG a b s := by
  have h := mix_app (a := a) (a' := a) (b := b) (b' := b) (fun _ => rfl) (fun _ => rfl) s
  rw [getLK hb] at h
  rw [hL.1 s]
  exact h
/-- what is true of the terms of both lists, and of what comes of one by the other, is true of Then's -/
theorem then_all {a b L : List Pr} (hb : ∀ p ∈ b, zT p.t) (hL : ThenF a b L) {P : Tm → Prop} (h1 : ∀ p ∈ b, P p.t) (h2 : ∀ q ∈ a, P (sbT (getL b 0) q.t)) : ∀ p ∈ L, P p.t := fun p hp => by
  rcases hL.2.2 p hp with h | ⟨q, hq, rfl⟩
  · exact h1 p h
  · show P (sbT (getK b 0) q.t)
    rw [← getLK hb]
    exact h2 q hq
theorem then_names {a b L : List Pr} (hL : ThenF a b L) (h1 : smU a) (h2 : smU b) : ∀ p ∈ L, p.nm.size ≤ maxLen := fun p hp => by
  rcases hL.2.2 p hp with h | ⟨q, hq, rfl⟩
  · exact (h2 p h).2
  · exact (h1 q hq).2
theorem once_term {a b L : List Pr} (ha : ∀ p ∈ a, zT p.t) (hb : ∀ p ∈ b, zT p.t) (hL : ThenF a b L) (t : Tm) : sbT (getK b 0) (sbT (getK a 0) t) = sbT (getK L 0) t := by
  have hLz := then_all hb hL (P := zT) hb (fun q hq => zT_sb hb q.t (ha q hq))
  rw [← getLK ha, ← getLK hb, ← getLK hLz]
  exact once_t a b L (fun p hp => lf_zero p.t (hb p hp)) (then_mix hb hL) 0 t
theorem once_claim {a b L : List Pr} (ha : ∀ p ∈ a, zT p.t) (hb : ∀ p ∈ b, zT p.t) (hL : ThenF a b L) (hoa : ∀ p ∈ a, okN p.t) (hob : ∀ p ∈ b, okN p.t) (hsa : ∀ p ∈ a, size p.t ≤ 60) (c : Cl) (hw : wt c ≤ 30) :
    sbCl b 0 (sbCl a 0 c) = sbCl L 0 c := by
  have hLo := then_all hb hL (P := okN) hob (fun q hq => okN_sb hob (fun p hp => lf_zero p.t (hb p hp)) q.t (hoa q hq))
  have h1 := wt_sb (b := a) (M := 60) (by omega) hsa c 0
  rw [← sbRl_eq hoa c 0 (Int.le_refl _) (by omega), ← sbRl_eq hob _ 0 (Int.le_refl _) (by omega), ← sbRl_eq hLo c 0 (Int.le_refl _) (by omega)]
  exact once_c a b L (fun p hp => lf_zero p.t (hb p hp)) (then_mix hb hL) c 0
end Go.Proofs.Ytbmniajimkondaa.U
namespace Go.Proofs.Ytbmniajimkondaa.U
open Go.RowKit L T C B
set_option linter.unusedVariables false
set_option linter.unusedSimpArgs false

theorem ocBoxes (w : World) (o : Int) (s : ByteArray) (z : Int) (a : Option Addr) (n c : Nat) (o' : Int) (s' z' : ByteArray) (k' : SS) (a' : Option Addr) (n' c' : Nat) :
    ∃ W, (w.alloc (.cells #[.int .i64 o, .string s, .int .i64 z, .slice a n c] 24)).alloc (.cells #[.int .i64 o', .string s', .string z', .slice k'.a k'.n k'.c, .slice a' n' c'] 50) = W ∧ Below w.heap.size w W ∧ W.heap.size = w.heap.size + 2 ∧ TBox W w.heap.size o s z a n c ∧ CBox W (w.heap.size + 1) o' s' z' k' a' n' c' := by
  obtain ⟨W1, h1, hb1, hs1, S1⟩ := box1 w o s z a n c
  obtain ⟨W2, h2, hb2, hs2, S2⟩ := cbox1 W1 o' s' z' k' a' n' c'
  refine ⟨W2, by rw [h1]; exact h2, bel_trans hb1 hb2, by omega, TBox.b S1 hb2, ?_⟩
  rw [hs1] at S2
  exact S2
theorem oc_apply (l : List Pr) (hl : l.length < maxLen) (hs : ∀ p ∈ l, 1 + size p.t ≤ 1000000) (hn : ∀ p ∈ l, p.nm.size ≤ maxLen) (t : Tm) (hst : smT t) (hw : size t ≤ 1000000) (A : Option Addr) (n c : Nat) (a : Option Addr) (m d : Nat) (w' : World) (hU : UsW w' A n c l) (hA : ArW w' t a m d) :
    Calls Try.prog 34 #[.slice A n c, .agg #[.int .i64 (opT t), .string (nameT t), .int .i64 (numT t), .slice a m d]] w' fun e w1 => AnyT (sbT (getK l 0) t) w' e w1 :=
  (Apply_any l hs hn hl t hst hw A n c a m d w' hU hA).mono fun e w1 h => (by
    obtain ⟨a, n, c, e1, hA, hb⟩ := h
    exact ⟨a, n, c, e1, ArP.ar (fun b hb => by unfold Nw at hb; omega) _ hA, hb⟩)
theorem oc_applyC (l : List Pr) (hl : l.length < maxLen) (hs : ∀ p ∈ l, 1 + size p.t ≤ 1000000) (hn : ∀ p ∈ l, p.nm.size ≤ maxLen) (t : Cl) (hst : smC t) (hw : wt t ≤ 1000000) (A : Option Addr) (n c : Nat) (kA : SS) (aA : Option Addr) (nA cA : Nat) (w' : World) (hU : UsW w' A n c l) (hA : ArWC w' t kA aA nA cA) :
    Calls Try.prog 38 #[.slice A n c, .agg #[.int .i64 (opC t), .string (nmC t), .string (soC t), .slice kA.a kA.n kA.c, .slice aA nA cA]] w' fun e w1 => AnyC (sbCl l 0 t) w' e w1 :=
  (ApplyClaim_any l hs hn hl t hst hw A n c kA aA nA cA w' hU hA).mono fun e w1 h => (by
    obtain ⟨ka, kn, kc, a, n, c, e1, hA, hb⟩ := h
    exact ⟨ka, kn, kc, a, n, c, e1, ArCP.ar (fun b hb => by unfold Nw at hb; omega) _ hA, hb⟩)
set_option maxRecDepth 100000 in
set_option maxHeartbeats 32000000 in
theorem onceOut (a b : List Pr) (A : Option Addr) (n d : Nat) (A' : Option Addr) (n' d' : Nat) (t : Tm) (aT : Option Addr) (nT cT : Nat) (c : Cl) (kA : SS) (aA : Option Addr) (nA cA : Nat) (w : World) (H : UsW w A n d a) (hsm : smU a) (hz : ∀ p ∈ a, zT p.t) (H' : UsW w A' n' d' b) (hsm' : smU b) (hz' : ∀ p ∈ b, zT p.t) (HT : ArW w t aT nT cT) (hst : smT t) (HA : ArWC w c kA aA nA cA) (hsc : smC c) (hno : ¬ (n ≤ 6 ∧ n' ≤ 6 ∧ smallU a = true ∧ smallU b = true ∧ szTo 30 t ≤ 30 ∧ wtTo 30 c ≤ 30)) :
    Calls Try.prog 8 #[.slice A n d, .slice A' n' d', .agg #[.int .i64 (opT t), .string (nameT t), .int .i64 (numT t), .slice aT nT cT], .agg #[.int .i64 (opC c), .string (nmC c), .string (soC c), .slice kA.a kA.n kA.c, .slice aA nA cA]] w fun e w' => e = .returned (.bool true) ∧ Below w.heap.size w w' := by
  obtain ⟨W, hW, hB0, hs, ST, SC⟩ := ocBoxes w (opT t) (nameT t) (numT t) aT nT cT (opC c) (nmC c) (soC c) kA aA nA cA
  have gT := ArW.b HT hB0
  have gA := ArWC.b HA hB0
  have gU := UsW.b H hB0
  have gV := UsW.b H' hB0
  have g0 := fun (w' : World) => goes_any w'
  have z1 := fun (w' : World) (h : Below W.heap.size W w') => SmallU_any a A n d w' (UsW.b gU h)
  have z2 := fun (w' : World) (h : Below W.heap.size W w') => SmallU_any b A' n' d' w' (UsW.b gV h)
  have z3 := fun (w' : World) (h : Below W.heap.size W w') => Size_any t aT nT cT 30 w' (by omega) (ArW.b gT h)
  have z4 := fun (w' : World) (h : Below W.heap.size W w') => Big_any c kA aA nA cA 30 w' (by omega) (ArWC.b gA h)
  rw [show ((30 : Nat) : Int) = 30 from rfl] at z3 z4
  have HSA := Lib.hid SC
  have HST := Lib.hid ST
  have HQ := Lib.hid (show ∀ (w' : World), Below W.heap.size W w' → w'.cell? ⟨w.heap.size, 0, none⟩ = some (.int .i64 (opT t)) ∧ w'.cell? ⟨w.heap.size, 1, none⟩ = some (.string (nameT t)) ∧ w'.cell? ⟨w.heap.size, 2, none⟩ = some (.int .i64 (numT t)) ∧ w'.cell? ⟨w.heap.size, 3, none⟩ = some (.slice aT nT cT) ∧ w'.cell? ⟨w.heap.size + 1, 0, none⟩ = some (.int .i64 (opC c)) ∧ w'.cell? ⟨w.heap.size + 1, 1, none⟩ = some (.string (nmC c)) ∧ w'.cell? ⟨w.heap.size + 1, 2, none⟩ = some (.string (soC c)) ∧ w'.cell? ⟨w.heap.size + 1, 3, none⟩ = some (.slice kA.a kA.n kA.c) ∧ w'.cell? ⟨w.heap.size + 1, 4, none⟩ = some (.slice aA nA cA) from fun w' h => (by
    obtain ⟨q0, q1, q2, q3⟩ := (TBox.b HST.out h).four
    obtain ⟨p0, p1, p2, p3, p4⟩ := (CBox.b HSA.out h).five
    exact ⟨q0, q1, q2, q3, p0, p1, p2, p3, p4⟩))
  obtain ⟨t0, t1, t2, t3⟩ := ST.four
  obtain ⟨a0, a1, a2, a3, a4⟩ := SC.five
  have hBd : Below W.heap.size W W := Below.refl _ _
  obtain ⟨kAa, kAn, kAc⟩ := kA
  dsimp only at *
  clear ST SC gT gA gU gV HT HA H H' hst hsc hsm hz hsm' hz' hs HSA HST
  generalize smallU a = s1 at *
  generalize smallU b = s2 at *
  generalize szTo 30 t = sz at *
  generalize wtTo 30 c = wz at *
  generalize opC c = oA at *
  generalize nmC c = mA at *
  generalize soC c = pA at *
  generalize opT t = oT at *
  generalize nameT t = mT at *
  generalize numT t = pT at *
  by_cases q1 : n ≤ 6
  · have p1 : decide ((6 : Int) < (n : Int)) = false := decide_eq_false (by omega)
    by_cases q2 : n' ≤ 6
    · have p2 : decide ((6 : Int) < (n' : Int)) = false := decide_eq_false (by omega)
      cases s1 with
      | false =>
        clear hno q1 q2
        go_enter Try.func8, Try.ntmps8
        go_wp2_with (first
          | (go_at_call 24; ((with_reducible refine (z1 _ (by assumption)).mono ?_); rintro e wX ⟨rfl, hbX⟩; have Bz : Below W.heap.size W wX := bel_trans (by first | assumption | exact Below.drew (by assumption) | exact Below.refl _ _ | exact (Below.refl _ _).drew) hbX; obtain ⟨t0, t1, t2, t3, a0, a1, a2, a3, a4⟩ := HQ.out _ Bz))
          | (go_at_call 24; ((with_reducible refine (z2 _ (by assumption)).mono ?_); rintro e wX ⟨rfl, hbX⟩; have Bz : Below W.heap.size W wX := bel_trans (by first | assumption | exact Below.drew (by assumption) | exact Below.refl _ _ | exact (Below.refl _ _).drew) hbX; obtain ⟨t0, t1, t2, t3, a0, a1, a2, a3, a4⟩ := HQ.out _ Bz))
          | (go_at_call 12; ((with_reducible refine (z3 _ (by assumption)).mono ?_); rintro e wX ⟨rfl, hbX⟩; have Bz : Below W.heap.size W wX := bel_trans (by first | assumption | exact Below.drew (by assumption) | exact Below.refl _ _ | exact (Below.refl _ _).drew) hbX; obtain ⟨t0, t1, t2, t3, a0, a1, a2, a3, a4⟩ := HQ.out _ Bz))
          | (go_at_call 33; ((with_reducible refine (z4 _ (by assumption)).mono ?_); rintro e wX ⟨rfl, hbX⟩; have Bz : Below W.heap.size W wX := bel_trans (by first | assumption | exact Below.drew (by assumption) | exact Below.refl _ _ | exact (Below.refl _ _).drew) hbX; obtain ⟨t0, t1, t2, t3, a0, a1, a2, a3, a4⟩ := HQ.out _ Bz))
          | (go_at_call 25; ((with_reducible refine (g0 _).mono ?_); rintro e wX ⟨rfl, hbX⟩; have Bz : Below W.heap.size W wX := bel_trans (by first | assumption | exact Below.drew (by assumption) | exact Below.refl _ _ | exact (Below.refl _ _).drew) hbX; obtain ⟨t0, t1, t2, t3, a0, a1, a2, a3, a4⟩ := HQ.out _ Bz)))
        go_ret
        exact ⟨rfl, bel_trans hB0 Bz⟩
      | true =>
        cases s2 with
        | false =>
          clear hno q1 q2
          go_enter Try.func8, Try.ntmps8
          go_wp2_with (first
            | (go_at_call 24; ((with_reducible refine (z1 _ (by assumption)).mono ?_); rintro e wX ⟨rfl, hbX⟩; have Bz : Below W.heap.size W wX := bel_trans (by first | assumption | exact Below.drew (by assumption) | exact Below.refl _ _ | exact (Below.refl _ _).drew) hbX; obtain ⟨t0, t1, t2, t3, a0, a1, a2, a3, a4⟩ := HQ.out _ Bz))
            | (go_at_call 24; ((with_reducible refine (z2 _ (by assumption)).mono ?_); rintro e wX ⟨rfl, hbX⟩; have Bz : Below W.heap.size W wX := bel_trans (by first | assumption | exact Below.drew (by assumption) | exact Below.refl _ _ | exact (Below.refl _ _).drew) hbX; obtain ⟨t0, t1, t2, t3, a0, a1, a2, a3, a4⟩ := HQ.out _ Bz))
            | (go_at_call 12; ((with_reducible refine (z3 _ (by assumption)).mono ?_); rintro e wX ⟨rfl, hbX⟩; have Bz : Below W.heap.size W wX := bel_trans (by first | assumption | exact Below.drew (by assumption) | exact Below.refl _ _ | exact (Below.refl _ _).drew) hbX; obtain ⟨t0, t1, t2, t3, a0, a1, a2, a3, a4⟩ := HQ.out _ Bz))
            | (go_at_call 33; ((with_reducible refine (z4 _ (by assumption)).mono ?_); rintro e wX ⟨rfl, hbX⟩; have Bz : Below W.heap.size W wX := bel_trans (by first | assumption | exact Below.drew (by assumption) | exact Below.refl _ _ | exact (Below.refl _ _).drew) hbX; obtain ⟨t0, t1, t2, t3, a0, a1, a2, a3, a4⟩ := HQ.out _ Bz))
            | (go_at_call 25; ((with_reducible refine (g0 _).mono ?_); rintro e wX ⟨rfl, hbX⟩; have Bz : Below W.heap.size W wX := bel_trans (by first | assumption | exact Below.drew (by assumption) | exact Below.refl _ _ | exact (Below.refl _ _).drew) hbX; obtain ⟨t0, t1, t2, t3, a0, a1, a2, a3, a4⟩ := HQ.out _ Bz)))
          go_ret
          exact ⟨rfl, bel_trans hB0 Bz⟩
        | true =>
          by_cases q3 : sz ≤ 30
          · have p3 : decide ((30 : Int) < (sz : Int)) = false := decide_eq_false (by omega)
            have p4 : decide (30 < wz) = true := decide_eq_true (Nat.lt_of_not_le fun h => hno ⟨q1, q2, rfl, rfl, q3, h⟩)
            rw [p4] at z4
            clear hno q1 q2 q3
            go_enter Try.func8, Try.ntmps8
            go_wp2_with (first
              | (go_at_call 24; ((with_reducible refine (z1 _ (by assumption)).mono ?_); rintro e wX ⟨rfl, hbX⟩; have Bz : Below W.heap.size W wX := bel_trans (by first | assumption | exact Below.drew (by assumption) | exact Below.refl _ _ | exact (Below.refl _ _).drew) hbX; obtain ⟨t0, t1, t2, t3, a0, a1, a2, a3, a4⟩ := HQ.out _ Bz))
              | (go_at_call 24; ((with_reducible refine (z2 _ (by assumption)).mono ?_); rintro e wX ⟨rfl, hbX⟩; have Bz : Below W.heap.size W wX := bel_trans (by first | assumption | exact Below.drew (by assumption) | exact Below.refl _ _ | exact (Below.refl _ _).drew) hbX; obtain ⟨t0, t1, t2, t3, a0, a1, a2, a3, a4⟩ := HQ.out _ Bz))
              | (go_at_call 12; ((with_reducible refine (z3 _ (by assumption)).mono ?_); rintro e wX ⟨rfl, hbX⟩; have Bz : Below W.heap.size W wX := bel_trans (by first | assumption | exact Below.drew (by assumption) | exact Below.refl _ _ | exact (Below.refl _ _).drew) hbX; obtain ⟨t0, t1, t2, t3, a0, a1, a2, a3, a4⟩ := HQ.out _ Bz))
              | (go_at_call 33; ((with_reducible refine (z4 _ (by assumption)).mono ?_); rintro e wX ⟨rfl, hbX⟩; have Bz : Below W.heap.size W wX := bel_trans (by first | assumption | exact Below.drew (by assumption) | exact Below.refl _ _ | exact (Below.refl _ _).drew) hbX; obtain ⟨t0, t1, t2, t3, a0, a1, a2, a3, a4⟩ := HQ.out _ Bz))
              | (go_at_call 25; ((with_reducible refine (g0 _).mono ?_); rintro e wX ⟨rfl, hbX⟩; have Bz : Below W.heap.size W wX := bel_trans (by first | assumption | exact Below.drew (by assumption) | exact Below.refl _ _ | exact (Below.refl _ _).drew) hbX; obtain ⟨t0, t1, t2, t3, a0, a1, a2, a3, a4⟩ := HQ.out _ Bz)))
            go_ret
            exact ⟨rfl, bel_trans hB0 Bz⟩
          · have p3 : decide ((30 : Int) < (sz : Int)) = true := decide_eq_true (by omega)
            clear hno q1 q2 q3
            go_enter Try.func8, Try.ntmps8
            go_wp2_with (first
              | (go_at_call 24; ((with_reducible refine (z1 _ (by assumption)).mono ?_); rintro e wX ⟨rfl, hbX⟩; have Bz : Below W.heap.size W wX := bel_trans (by first | assumption | exact Below.drew (by assumption) | exact Below.refl _ _ | exact (Below.refl _ _).drew) hbX; obtain ⟨t0, t1, t2, t3, a0, a1, a2, a3, a4⟩ := HQ.out _ Bz))
              | (go_at_call 24; ((with_reducible refine (z2 _ (by assumption)).mono ?_); rintro e wX ⟨rfl, hbX⟩; have Bz : Below W.heap.size W wX := bel_trans (by first | assumption | exact Below.drew (by assumption) | exact Below.refl _ _ | exact (Below.refl _ _).drew) hbX; obtain ⟨t0, t1, t2, t3, a0, a1, a2, a3, a4⟩ := HQ.out _ Bz))
              | (go_at_call 12; ((with_reducible refine (z3 _ (by assumption)).mono ?_); rintro e wX ⟨rfl, hbX⟩; have Bz : Below W.heap.size W wX := bel_trans (by first | assumption | exact Below.drew (by assumption) | exact Below.refl _ _ | exact (Below.refl _ _).drew) hbX; obtain ⟨t0, t1, t2, t3, a0, a1, a2, a3, a4⟩ := HQ.out _ Bz))
              | (go_at_call 33; ((with_reducible refine (z4 _ (by assumption)).mono ?_); rintro e wX ⟨rfl, hbX⟩; have Bz : Below W.heap.size W wX := bel_trans (by first | assumption | exact Below.drew (by assumption) | exact Below.refl _ _ | exact (Below.refl _ _).drew) hbX; obtain ⟨t0, t1, t2, t3, a0, a1, a2, a3, a4⟩ := HQ.out _ Bz))
              | (go_at_call 25; ((with_reducible refine (g0 _).mono ?_); rintro e wX ⟨rfl, hbX⟩; have Bz : Below W.heap.size W wX := bel_trans (by first | assumption | exact Below.drew (by assumption) | exact Below.refl _ _ | exact (Below.refl _ _).drew) hbX; obtain ⟨t0, t1, t2, t3, a0, a1, a2, a3, a4⟩ := HQ.out _ Bz)))
            go_ret
            exact ⟨rfl, bel_trans hB0 Bz⟩
    · have p2 : decide ((6 : Int) < (n' : Int)) = true := decide_eq_true (by omega)
      clear hno q1 q2
      go_enter Try.func8, Try.ntmps8
      go_wp2_with (first
        | (go_at_call 24; ((with_reducible refine (z1 _ (by assumption)).mono ?_); rintro e wX ⟨rfl, hbX⟩; have Bz : Below W.heap.size W wX := bel_trans (by first | assumption | exact Below.drew (by assumption) | exact Below.refl _ _ | exact (Below.refl _ _).drew) hbX; obtain ⟨t0, t1, t2, t3, a0, a1, a2, a3, a4⟩ := HQ.out _ Bz))
        | (go_at_call 24; ((with_reducible refine (z2 _ (by assumption)).mono ?_); rintro e wX ⟨rfl, hbX⟩; have Bz : Below W.heap.size W wX := bel_trans (by first | assumption | exact Below.drew (by assumption) | exact Below.refl _ _ | exact (Below.refl _ _).drew) hbX; obtain ⟨t0, t1, t2, t3, a0, a1, a2, a3, a4⟩ := HQ.out _ Bz))
        | (go_at_call 12; ((with_reducible refine (z3 _ (by assumption)).mono ?_); rintro e wX ⟨rfl, hbX⟩; have Bz : Below W.heap.size W wX := bel_trans (by first | assumption | exact Below.drew (by assumption) | exact Below.refl _ _ | exact (Below.refl _ _).drew) hbX; obtain ⟨t0, t1, t2, t3, a0, a1, a2, a3, a4⟩ := HQ.out _ Bz))
        | (go_at_call 33; ((with_reducible refine (z4 _ (by assumption)).mono ?_); rintro e wX ⟨rfl, hbX⟩; have Bz : Below W.heap.size W wX := bel_trans (by first | assumption | exact Below.drew (by assumption) | exact Below.refl _ _ | exact (Below.refl _ _).drew) hbX; obtain ⟨t0, t1, t2, t3, a0, a1, a2, a3, a4⟩ := HQ.out _ Bz))
        | (go_at_call 25; ((with_reducible refine (g0 _).mono ?_); rintro e wX ⟨rfl, hbX⟩; have Bz : Below W.heap.size W wX := bel_trans (by first | assumption | exact Below.drew (by assumption) | exact Below.refl _ _ | exact (Below.refl _ _).drew) hbX; obtain ⟨t0, t1, t2, t3, a0, a1, a2, a3, a4⟩ := HQ.out _ Bz)))
      go_ret
      exact ⟨rfl, bel_trans hB0 Bz⟩
  · have p1 : decide ((6 : Int) < (n : Int)) = true := decide_eq_true (by omega)
    clear hno q1
    go_enter Try.func8, Try.ntmps8
    go_wp2_with (first
      | (go_at_call 24; ((with_reducible refine (z1 _ (by assumption)).mono ?_); rintro e wX ⟨rfl, hbX⟩; have Bz : Below W.heap.size W wX := bel_trans (by first | assumption | exact Below.drew (by assumption) | exact Below.refl _ _ | exact (Below.refl _ _).drew) hbX; obtain ⟨t0, t1, t2, t3, a0, a1, a2, a3, a4⟩ := HQ.out _ Bz))
      | (go_at_call 24; ((with_reducible refine (z2 _ (by assumption)).mono ?_); rintro e wX ⟨rfl, hbX⟩; have Bz : Below W.heap.size W wX := bel_trans (by first | assumption | exact Below.drew (by assumption) | exact Below.refl _ _ | exact (Below.refl _ _).drew) hbX; obtain ⟨t0, t1, t2, t3, a0, a1, a2, a3, a4⟩ := HQ.out _ Bz))
      | (go_at_call 12; ((with_reducible refine (z3 _ (by assumption)).mono ?_); rintro e wX ⟨rfl, hbX⟩; have Bz : Below W.heap.size W wX := bel_trans (by first | assumption | exact Below.drew (by assumption) | exact Below.refl _ _ | exact (Below.refl _ _).drew) hbX; obtain ⟨t0, t1, t2, t3, a0, a1, a2, a3, a4⟩ := HQ.out _ Bz))
      | (go_at_call 33; ((with_reducible refine (z4 _ (by assumption)).mono ?_); rintro e wX ⟨rfl, hbX⟩; have Bz : Below W.heap.size W wX := bel_trans (by first | assumption | exact Below.drew (by assumption) | exact Below.refl _ _ | exact (Below.refl _ _).drew) hbX; obtain ⟨t0, t1, t2, t3, a0, a1, a2, a3, a4⟩ := HQ.out _ Bz))
      | (go_at_call 25; ((with_reducible refine (g0 _).mono ?_); rintro e wX ⟨rfl, hbX⟩; have Bz : Below W.heap.size W wX := bel_trans (by first | assumption | exact Below.drew (by assumption) | exact Below.refl _ _ | exact (Below.refl _ _).drew) hbX; obtain ⟨t0, t1, t2, t3, a0, a1, a2, a3, a4⟩ := HQ.out _ Bz)))
    go_ret
    exact ⟨rfl, bel_trans hB0 Bz⟩
end Go.Proofs.Ytbmniajimkondaa.U
