/-
  What is proved: package bind's visit, with any function that changes one part: every part of the terms of a claim is changed so, in place, within as many binders as lie around it; nothing else is.
-/
import Derived.Test.YtokkafekdaniaaaBndB
namespace Go.Proofs.Ytokkafekdaniaaa.B
open Go.RowKit L T C
set_option linter.unusedVariables false
set_option linter.unusedSimpArgs false

def HdC (P : Nat → Prop) (w : World) (h : Hc) (t : Cl) : Prop := (h.op = opC t ∧ h.nm = nmC t ∧ h.so = soC t) ∧ ArCP P w t h.k h.a h.n h.c
theorem hdC_to {P Q : Nat → Prop} {w w' : World} {h : Hc} {t : Cl} (hh : HdC P w h t) (hb : ∀ b, P b → w'.heap[b]? = w.heap[b]?) (hq : ∀ b, P b → Q b) : HdC Q w' h t :=
  ⟨hh.1, ArCP.to hb hq t hh.2⟩
theorem rowC_rwCP {P : Nat → Prop} {w : World} {g : Nat} {hs : List Hc} {l : List Cl} (hr : RowC w g hs) (hl : hs.length = l.length) (h : ∀ k (hk : k < l.length) (hk2 : k < hs.length), HdC P w hs[k] l[k]) : RwCP P w g 0 l := by
  refine rwCP_of l 0 fun k t hk => ?_
  obtain ⟨hk1, rfl⟩ := List.getElem?_eq_some_iff.1 hk
  have hk2 : k < hs.length := by omega
  obtain ⟨c0, c1, c2, c3, c4⟩ := hr.at hk2
  have h5 := h k hk1 hk2
  rw [Nat.zero_add]
  exact ⟨_, _, _, _, by rw [← h5.1.1]; exact c0, by rw [← h5.1.2.1]; exact c1, by rw [← h5.1.2.2]; exact c2, c3, c4, h5.2⟩
def VCI (f : Fn) (k : Int) (w wr : World) (g lo hi : Nat) (l : List Cl) (n i : Nat) : Prop :=
  Ch w wr lo hi ∧ ∃ hs m, hs.length = n ∧ RowC wr g hs ∧ g + 1 ≤ m ∧ m ≤ hi ∧ FrCL wr (l.drop i) m hi (hs.drop i) ∧ ∀ j x h, j < i → l[j]? = some x → hs[j]? = some h → HdC (Nw (g + 1) m w.heap.size wr.heap.size) wr h (wkC f k x)
theorem VCI.next {f : Fn} {k : Int} {w wr : World} {g lo hi : Nat} {l : List Cl} {n i : Nat} (h : VCI f k w wr g lo hi l n i) (hl : l.length = n) (hi0 : i < n) (hlg : lo ≤ g) (hgw : g < w.heap.size) (hhi : hi ≤ w.heap.size) :
    ∃ x hx m m', l[i]? = some x ∧ FrC wr x m m' hx ∧ g + 1 ≤ m ∧ m' ≤ wr.heap.size ∧ (wr.cell? ⟨g, i * 5, none⟩ = some (.int .i64 hx.op) ∧ wr.cell? ⟨g, i * 5 + 1, none⟩ = some (.string hx.nm) ∧ wr.cell? ⟨g, i * 5 + 1 + 1, none⟩ = some (.string hx.so) ∧ wr.cell? ⟨g, i * 5 + 1 + 1 + 1, none⟩ = some (.slice hx.k.a hx.k.n hx.k.c) ∧ wr.cell? ⟨g, i * 5 + 1 + 1 + 1 + 1, none⟩ = some (.slice hx.a hx.n hx.c)) ∧
      (∀ W4 w5, Below wr.heap.size wr W4 → Ch W4 w5 m m' → ArCP (Nw m m' W4.heap.size w5.heap.size) w5 (wkC f k x) hx.k hx.a hx.n hx.c → VCI f k w w5 g lo hi l n (i + 1)) := by
  obtain ⟨hC, hs, mid, h1, h2, h3, h3b, h4, h5⟩ := h
  have hkl : i < l.length := by omega
  have hks : i < hs.length := by omega
  rw [List.drop_eq_getElem_cons hkl, List.drop_eq_getElem_cons hks, FrCL] at h4
  obtain ⟨hx, hsr, mid', e, hF, hL⟩ := h4
  simp only [List.cons.injEq] at e
  obtain ⟨rfl, rfl⟩ := e
  have q1 := hF.le
  have q2 := hL.le
  have q3 := hC.1.size
  have hxx : l[i]? = some l[i] := List.getElem?_eq_getElem hkl
  have hgl := h2.lt
  obtain ⟨e1, e2, e3⟩ := FrC.hd hF
  refine ⟨l[i], hs[i], mid, mid', hxx, hF, h3, by omega, h2.at hks, ?_⟩
  intro W4 w5 b4 c5 hA
  have q4 := b4.size
  have q5 := c5.1.size
  have hold : ∀ b, b < wr.heap.size → (b < mid ∨ mid' ≤ b) → w5.heap[b]? = wr.heap[b]? := fun b u v => (c5.out (by omega) v).trans (b4.block b u)
  refine ⟨(hC.trans (Ch.of_below (lo := lo) (hi := hi) b4 (by omega)) (Nat.le_refl _) (Nat.le_refl _)).trans c5 (by omega) q2, hs, mid', h1, h2.of_block (hold g (by omega) (by omega)), by omega, q2, ?_, fun j y hy hj hy1 hy2 => ?_⟩
  · exact FrCL.same _ (fun b u v => hold b (by omega) (Or.inr u)) hL
  · by_cases ej : j = i
    · subst ej
      rw [List.getElem?_eq_getElem hks] at hy2
      rw [hxx] at hy1
      injection hy1 with hy1
      injection hy2 with hy2
      subst hy1 hy2
      refine ⟨?_, ArCP.to (fun _ _ => rfl) (fun b hb => by unfold Nw at hb ⊢; omega) _ hA⟩
      rw [wkC_mk]
      exact ⟨e1, e2, e3⟩
    · exact hdC_to (h5 j y hy (by omega) hy1 hy2) (fun b hb => hold b (by unfold Nw at hb; omega) (by unfold Nw at hb; omega)) (fun b hb => by unfold Nw at hb ⊢; omega)
theorem VCI.done {f : Fn} {k : Int} {w wr : World} {g lo hi : Nat} {l : List Cl} {n : Nat} (h : VCI f k w wr g lo hi l n n) (hl : l.length = n) (hlg : lo ≤ g) (hgw : g < hi) :
    Ch w wr lo hi ∧ RwCP (Nw lo hi w.heap.size wr.heap.size) wr g 0 (wkCs f k l) := by
  obtain ⟨hC, hs, mid, h1, h2, h3, h3b, h4, h5⟩ := h
  refine ⟨hC, rowC_rwCP h2 (by rw [wkCs_map, List.length_map]; omega) fun j hj hj2 => ?_⟩
  have hjl : j < l.length := by rw [wkCs_map, List.length_map] at hj; exact hj
  have := h5 j l[j] hs[j] (by omega) (List.getElem?_eq_getElem hjl) (List.getElem?_eq_getElem hj2)
  have e : (wkCs f k l)[j] = wkC f k l[j] := by simp [wkCs_map]
  rw [e]
  exact hdC_to this (fun _ _ => rfl) (fun b hb => by unfold Nw at hb ⊢; omega)
/-- the walk over a claim -/
def VsOk (F : Nat) (caps : Array Value) (f : Fn) (K : Int) (B0 : Nat) (w0 : World) (c : Cl) : Prop :=
  ∀ (h : Hc) (lo hi : Nat) (w : World) (k : Int), FrC w c lo hi h → hi ≤ w.heap.size → B0 ≤ lo → Below B0 w0 w → 0 ≤ k → k + wt c ≤ K → K ≤ 1000000000 →
    Calls Try.prog 115 #[.agg #[.int .i64 h.op, .string h.nm, .string h.so, .slice h.k.a h.k.n h.k.c, .slice h.a h.n h.c], .int .i64 k, .func (.func F) #[] caps] w fun e w' => e = .returned (.tuple #[]) ∧ Ch w w' lo hi ∧ ArCP (Nw lo hi w.heap.size w'.heap.size) w' (wkC f k c) h.k h.a h.n h.c
theorem kin_le (o k : Int) : k ≤ kin o k ∧ kin o k ≤ k + 1 := by unfold kin; split <;> omega
set_option maxRecDepth 100000 in
set_option maxHeartbeats 8000000 in
theorem vs_step (F : Nat) (caps : Array Value) (hE : ∀ (args : Array Value) (w : World), (callFunc F args).run Try.prog w = .ok (.enter F args) w) (f : Fn) (K : Int) (B0 : Nat) (w0 : World) (hF : ClosOk F caps f K B0 w0) (t : Cl) (hok : ∀ x ∈ subC t, VsOk F caps f K B0 w0 x) : VsOk F caps f K B0 w0 t := by
  intro h lo hi w k hFr hhi hB hb hk0 hkK hKm
  obtain ⟨W1, hW1, hB1, hs1, S1⟩ := cbox1 w h.op h.nm h.so h.k h.a h.n h.c
  have hwt := wt_mk t
  have hwp := wts_len (subC t)
  have hfr : ∃ mid, lo ≤ mid ∧ mid ≤ hi ∧ FrK w (tsC t) lo mid h.k ∧ (h.n = (subC t).length ∧ h.n ≤ h.c ∧ h.c ≤ maxLen ∧ (h.a = none → h.c = 0)) ∧ (0 < h.n → ∃ g hs, h.a = some ⟨g, 0, none⟩ ∧ mid ≤ g ∧ RowC w g hs ∧ FrCL w (subC t) (g + 1) hi hs) := by
    cases t with
    | mk o s z ts l =>
      rw [FrC] at hFr
      obtain ⟨_, mid, h1, h2, h3, h4⟩ := hFr
      exact ⟨mid, h1.le, h3, h1, h2, h4⟩
  obtain ⟨eo, en, es⟩ := FrC.hd hFr
  rw [eo] at hW1 S1 ⊢
  obtain ⟨mid, hlm, hmh, hTs, ⟨hn, hc1, hc2, hc3⟩, hg⟩ := hfr
  have hkm : h.k.n ≤ 9223372036854775807 := by have := hTs.ks (Nat.le_refl _); have h2 := this.2.2.1; have h3 := this.2.1; unfold maxLen at h2; omega
  have hnm : h.n ≤ 9223372036854775807 := by unfold maxLen at hc2; omega
  have cT := vt_any F caps hE f K B0 w0 hF (tsC t) h.k lo mid W1 k (hTs.same (fun b u v => hB1.block b (by omega))) (by omega) hB (hb.trans (hB1.mono (by have := hb.size; omega))) hk0 (by omega)
  obtain ⟨ka1, ka2⟩ := kin_le (opC t) k
  have HQ := Lib.hid (show ∀ w2, Ch W1 w2 lo mid → Below B0 w0 w2 ∧ (0 < h.n → ∃ g, h.a = some ⟨g, 0, none⟩ ∧ mid ≤ g ∧ g < hi ∧ g < w2.heap.size ∧ VCI f (kin (opC t) k) w2 w2 g mid hi (subC t) h.n 0) from fun w2 c2 => by
    refine ⟨(hb.trans (hB1.mono (by have := hb.size; omega))).trans (c2.1.mono hB), fun h0 => ?_⟩
    obtain ⟨g, hs, e, hg1, hrow, hL⟩ := hg h0
    have hl1 := hrow.lt
    have hl2 := hL.le
    have q := c2.1.size
    exact ⟨g, e, hg1, by omega, by omega, Ch.refl _ _ _, hs, g + 1, by rw [hL.len, hn], hrow.of_block ((c2.out (by omega) (Or.inr (by omega))).trans (hB1.block g hl1)), Nat.le_refl _, by omega, by rw [List.drop_zero, List.drop_zero]; exact FrCL.same _ (fun b u v => (c2.out (by omega) (Or.inr (by omega))).trans (hB1.block b (by omega))) hL, fun j x h hj => absurd hj (by omega)⟩)
  have HFin := Lib.hid (show ∀ w2 wr, Ch W1 w2 lo mid → ArP (Nw lo mid W1.heap.size w2.heap.size) w2 (.mk 0 ⟨#[]⟩ 0 (wks f k (tsC t))) h.k.a h.k.n h.k.c → Ch w2 wr mid hi → (0 < h.n → ∃ g, h.a = some ⟨g, 0, none⟩ ∧ mid ≤ g ∧ g < hi ∧ RwCP (Nw mid hi w2.heap.size wr.heap.size) wr g 0 (wkCs f (kin (opC t) k) (subC t))) → Ch w wr lo hi ∧ ArCP (Nw lo hi w.heap.size wr.heap.size) wr (wkC f k t) h.k h.a h.n h.c from fun w2 wr c2 hA c3 hR => by
    have q2 := c2.1.size
    have q3 := c3.1.size
    refine ⟨((Ch.of_below hB1 (by omega)).trans c2 (Nat.le_refl _) hmh).trans c3 hlm (Nat.le_refl _), ?_⟩
    rw [wkC_mk, ArCP]
    refine ⟨ArP.to (fun b hb => c3.out (by unfold Nw at hb; omega) (by unfold Nw at hb; omega)) (fun b hb => by unfold Nw at hb ⊢; omega) _ hA, by rw [wkCs_map, List.length_map]; exact hn, hc1, hc2, hc3, fun h0 => ?_⟩
    obtain ⟨g, e, hg1, hg2, hr⟩ := hR h0
    have hq : ∀ b, Nw mid hi w2.heap.size wr.heap.size b → Nw lo hi w.heap.size wr.heap.size b := fun b hb => by unfold Nw at hb ⊢; omega
    exact ⟨g, 0, e, Or.inl ⟨by omega, hg2⟩, RwCP.to (fun _ _ => rfl) hq (Or.inl ⟨hg1, hg2⟩) _ hr⟩)
  have HK := Lib.hid (show ∀ i x, (subC t)[i]? = some x → VsOk F caps f K B0 w0 x ∧ kin (opC t) k + wt x ≤ K from fun i x hx => ⟨hok x (List.mem_of_getElem? hx), by have := wts_mem (List.mem_of_getElem? hx); omega⟩)
  have HS := Lib.hid S1
  have Hn := Lib.hid hn
  have HB := Lib.hid hB
  have Hk0 := Lib.hid (show 0 ≤ kin (opC t) k by omega)
  have HKm := Lib.hid hKm
  have hsz1 : hi ≤ W1.heap.size := by omega
  have hwlt : w.heap.size < W1.heap.size := by omega
  have hmw : mid ≤ w.heap.size := by omega
  have hwrap : IntKind.i64.wrap (k + 1) = k + 1 := by rw [IntKind.wrap_i64]; omega
  obtain ⟨s0, s1, s2, s3, s4⟩ := S1.five
  clear hFr hok S1 hn hs1 hg hc2 hc3 hTs hF hwt hwp ka1 ka2 hkK hKm hk0 eo en es
  generalize hk2e : kin (opC t) k = k2 at *
  have Hk2 := Lib.hid hk2e
  clear hk2e
  generalize tsC t = lt at *
  generalize subC t = l at *
  generalize opC t = op at *
  generalize h.nm = nm at *
  generalize h.so = so at *
  generalize h.k = kk at *
  generalize h.a = a at *
  generalize h.n = n at *
  generalize h.c = c at *
  obtain ⟨ka, kn, kc⟩ := kk
  dsimp only at *
  by_cases h1 : op = 11
  · subst h1
    obtain rfl : k2 = k + 1 := by have := Hk2.out; unfold kin at this; simp at this; exact this.symm
    go_enter Try.func115, Try.ntmps115
    go_wp2_with (go_at_call 174; ((with_reducible refine cT.mono ?_); rintro e w2 ⟨rfl, c2, hA2⟩; have HA2 := Lib.hid hA2; have HC2 := Lib.hid c2; have S2 : CBox w2 w.heap.size 11 nm so ⟨ka, kn, kc⟩ a n c := (c2.2 w.heap.size hmw hwlt).trans HS.out; obtain ⟨e0, e1, e2, e3, e4⟩ := S2.five; have HQ2 := Lib.hid (HQ.out w2 c2); clear hA2 c2))
    have hb2 := HQ2.out.1
    have Hb2 := Lib.hid hb2
    have HP0 := Lib.hid HQ2.out.2
    have hz2 : W1.heap.size ≤ w2.heap.size := HC2.out.1.size
    clear hb2 HQ HQ2
    have HC0 : Hid (Ch w2 w2 mid hi) := Lib.hid (Ch.refl _ _ _)
    go_loopw [26] (fun i wr0 => ∃ (wr : World) (j : Nat), wr = wr0 ∧ j ≤ n ∧ i = .int .i64 j ∧ Hid (Ch w2 wr mid hi) ∧ Hid (0 < n → ∃ g, a = some ⟨g, 0, none⟩ ∧ mid ≤ g ∧ g < hi ∧ g < w2.heap.size ∧ VCI f (k + 1) w2 wr g mid hi l n j)) (fun i _ => n - (intOf i).toNat)
    case atStart => exact ⟨_, 0, rfl, by omega, rfl, HC0, HP0⟩
    case round =>
      obtain ⟨wr, i, rfl, hi0, rfl, hAt, hR⟩ := hrel
      by_cases hlt : i < n
      · obtain ⟨g, rfl, hmg, hgh, hgw, hV⟩ := hR.out (by omega)
        obtain ⟨x, hx, m, m', hxl, hFx, hgm, hm2, ⟨y0, y1, y2, y3, y4⟩, hNext⟩ := hV.next Hn.out.symm hlt hmg hgw (by omega)
        obtain ⟨W4, hW4, hB4, hs4, S4⟩ := cbox1 wr hx.op hx.nm hx.so hx.k hx.a hx.n hx.c
        obtain ⟨f0, f1, f2, f3, f4⟩ := S4.five
        obtain ⟨cK, hkx⟩ := HK.out i x hxl
        have cV := cK hx m m' W4 (k + 1) (FrC.same _ (fun b u v => hB4.block b (by omega)) hFx) (by omega) (by have := HB.out; omega) ((Hb2.out.trans (hAt.out.1.mono (by have := HB.out; omega))).trans (hB4.mono (by have := HB.out; have := hAt.out.1.size; omega))) Hk0.out hkx HKm.out
        have HNx := Lib.hid (fun w5 => hNext W4 w5 hB4)
        clear hxl hFx hNext hV hR cK hkx HK HP0 S4
        generalize hx.op = op' at *
        generalize hx.nm = nm' at *
        generalize hx.so = so' at *
        generalize hx.k = k' at *
        generalize hx.a = A' at *
        generalize hx.n = N' at *
        generalize hx.c = C' at *
        obtain ⟨ka', kn', kc'⟩ := k'
        dsimp only at *
        have hj0 : 0 ≤ (i : Int) := by omega
        have hj1 : (i : Int) < (n : Int) := by omega
        have := hwrap
        go_wp2_with (go_at_call 115; ((with_reducible refine cV.mono ?_); rintro e w5 ⟨rfl, c5, hA5⟩; have HN5 := Lib.hid (HNx.out w5 c5 hA5); clear hA5 c5))
        go_roundw
        case rel => exact ⟨_, i + 1, rfl, by omega, by go_num, Lib.hid HN5.out.1, Lib.hid (fun _ => ⟨g, rfl, hmg, hgh, hgw, HN5.out⟩)⟩
        case measure => simp [intOf]; omega
      · obtain rfl : i = n := by omega
        have Hfin := Lib.hid (HFin.out w2 wr HC2.out HA2.out hAt.out (fun h0 => by
          obtain ⟨g, e, h1, h2, h3, h4⟩ := hR.out h0
          exact ⟨g, e, h1, h2, (h4.done Hn.out.symm h1 h2).2⟩))
        clear hR hAt
        go_wp2
        simp [bodyPost, results, Try.results115, go_sem]
        exact Hfin.out
  · by_cases h2 : op = 12
    · subst h2
      obtain rfl : k2 = k + 1 := by have := Hk2.out; unfold kin at this; simp at this; exact this.symm
      go_enter Try.func115, Try.ntmps115
      go_wp2_with (go_at_call 174; ((with_reducible refine cT.mono ?_); rintro e w2 ⟨rfl, c2, hA2⟩; have HA2 := Lib.hid hA2; have HC2 := Lib.hid c2; have S2 : CBox w2 w.heap.size 12 nm so ⟨ka, kn, kc⟩ a n c := (c2.2 w.heap.size hmw hwlt).trans HS.out; obtain ⟨e0, e1, e2, e3, e4⟩ := S2.five; have HQ2 := Lib.hid (HQ.out w2 c2); clear hA2 c2))
      have hb2 := HQ2.out.1
      have Hb2 := Lib.hid hb2
      have HP0 := Lib.hid HQ2.out.2
      have hz2 : W1.heap.size ≤ w2.heap.size := HC2.out.1.size
      clear hb2 HQ HQ2
      have HC0 : Hid (Ch w2 w2 mid hi) := Lib.hid (Ch.refl _ _ _)
      go_loopw [26] (fun i wr0 => ∃ (wr : World) (j : Nat), wr = wr0 ∧ j ≤ n ∧ i = .int .i64 j ∧ Hid (Ch w2 wr mid hi) ∧ Hid (0 < n → ∃ g, a = some ⟨g, 0, none⟩ ∧ mid ≤ g ∧ g < hi ∧ g < w2.heap.size ∧ VCI f (k + 1) w2 wr g mid hi l n j)) (fun i _ => n - (intOf i).toNat)
      case atStart => exact ⟨_, 0, rfl, by omega, rfl, HC0, HP0⟩
      case round =>
        obtain ⟨wr, i, rfl, hi0, rfl, hAt, hR⟩ := hrel
        by_cases hlt : i < n
        · obtain ⟨g, rfl, hmg, hgh, hgw, hV⟩ := hR.out (by omega)
          obtain ⟨x, hx, m, m', hxl, hFx, hgm, hm2, ⟨y0, y1, y2, y3, y4⟩, hNext⟩ := hV.next Hn.out.symm hlt hmg hgw (by omega)
          obtain ⟨W4, hW4, hB4, hs4, S4⟩ := cbox1 wr hx.op hx.nm hx.so hx.k hx.a hx.n hx.c
          obtain ⟨f0, f1, f2, f3, f4⟩ := S4.five
          obtain ⟨cK, hkx⟩ := HK.out i x hxl
          have cV := cK hx m m' W4 (k + 1) (FrC.same _ (fun b u v => hB4.block b (by omega)) hFx) (by omega) (by have := HB.out; omega) ((Hb2.out.trans (hAt.out.1.mono (by have := HB.out; omega))).trans (hB4.mono (by have := HB.out; have := hAt.out.1.size; omega))) Hk0.out hkx HKm.out
          have HNx := Lib.hid (fun w5 => hNext W4 w5 hB4)
          clear hxl hFx hNext hV hR cK hkx HK HP0 S4
          generalize hx.op = op' at *
          generalize hx.nm = nm' at *
          generalize hx.so = so' at *
          generalize hx.k = k' at *
          generalize hx.a = A' at *
          generalize hx.n = N' at *
          generalize hx.c = C' at *
          obtain ⟨ka', kn', kc'⟩ := k'
          dsimp only at *
          have hj0 : 0 ≤ (i : Int) := by omega
          have hj1 : (i : Int) < (n : Int) := by omega
          have := hwrap
          go_wp2_with (go_at_call 115; ((with_reducible refine cV.mono ?_); rintro e w5 ⟨rfl, c5, hA5⟩; have HN5 := Lib.hid (HNx.out w5 c5 hA5); clear hA5 c5))
          go_roundw
          case rel => exact ⟨_, i + 1, rfl, by omega, by go_num, Lib.hid HN5.out.1, Lib.hid (fun _ => ⟨g, rfl, hmg, hgh, hgw, HN5.out⟩)⟩
          case measure => simp [intOf]; omega
        · obtain rfl : i = n := by omega
          have Hfin := Lib.hid (HFin.out w2 wr HC2.out HA2.out hAt.out (fun h0 => by
            obtain ⟨g, e, h1, h2, h3, h4⟩ := hR.out h0
            exact ⟨g, e, h1, h2, (h4.done Hn.out.symm h1 h2).2⟩))
          clear hR hAt
          go_wp2
          simp [bodyPost, results, Try.results115, go_sem]
          exact Hfin.out
    · obtain rfl : k2 = k := by have := Hk2.out; unfold kin at this; rw [if_neg (by omega)] at this; exact this.symm
      have o1 : (op == 11) = false := by simp [h1]
      have o2 : (op == 12) = false := by simp [h2]
      clear h1 h2
      go_enter Try.func115, Try.ntmps115
      go_wp2_with (go_at_call 174; ((with_reducible refine cT.mono ?_); rintro e w2 ⟨rfl, c2, hA2⟩; have HA2 := Lib.hid hA2; have HC2 := Lib.hid c2; have S2 : CBox w2 w.heap.size op nm so ⟨ka, kn, kc⟩ a n c := (c2.2 w.heap.size hmw hwlt).trans HS.out; obtain ⟨e0, e1, e2, e3, e4⟩ := S2.five; have HQ2 := Lib.hid (HQ.out w2 c2); clear hA2 c2))
      have hb2 := HQ2.out.1
      have Hb2 := Lib.hid hb2
      have HP0 := Lib.hid HQ2.out.2
      have hz2 : W1.heap.size ≤ w2.heap.size := HC2.out.1.size
      clear hb2 HQ HQ2
      have HC0 : Hid (Ch w2 w2 mid hi) := Lib.hid (Ch.refl _ _ _)
      go_loopw [26] (fun i wr0 => ∃ (wr : World) (j : Nat), wr = wr0 ∧ j ≤ n ∧ i = .int .i64 j ∧ Hid (Ch w2 wr mid hi) ∧ Hid (0 < n → ∃ g, a = some ⟨g, 0, none⟩ ∧ mid ≤ g ∧ g < hi ∧ g < w2.heap.size ∧ VCI f k2 w2 wr g mid hi l n j)) (fun i _ => n - (intOf i).toNat)
      case atStart => exact ⟨_, 0, rfl, by omega, rfl, HC0, HP0⟩
      case round =>
        obtain ⟨wr, i, rfl, hi0, rfl, hAt, hR⟩ := hrel
        by_cases hlt : i < n
        · obtain ⟨g, rfl, hmg, hgh, hgw, hV⟩ := hR.out (by omega)
          obtain ⟨x, hx, m, m', hxl, hFx, hgm, hm2, ⟨y0, y1, y2, y3, y4⟩, hNext⟩ := hV.next Hn.out.symm hlt hmg hgw (by omega)
          obtain ⟨W4, hW4, hB4, hs4, S4⟩ := cbox1 wr hx.op hx.nm hx.so hx.k hx.a hx.n hx.c
          obtain ⟨f0, f1, f2, f3, f4⟩ := S4.five
          obtain ⟨cK, hkx⟩ := HK.out i x hxl
          have cV := cK hx m m' W4 k2 (FrC.same _ (fun b u v => hB4.block b (by omega)) hFx) (by omega) (by have := HB.out; omega) ((Hb2.out.trans (hAt.out.1.mono (by have := HB.out; omega))).trans (hB4.mono (by have := HB.out; have := hAt.out.1.size; omega))) Hk0.out hkx HKm.out
          have HNx := Lib.hid (fun w5 => hNext W4 w5 hB4)
          clear hxl hFx hNext hV hR cK hkx HK HP0 S4
          generalize hx.op = op' at *
          generalize hx.nm = nm' at *
          generalize hx.so = so' at *
          generalize hx.k = k' at *
          generalize hx.a = A' at *
          generalize hx.n = N' at *
          generalize hx.c = C' at *
          obtain ⟨ka', kn', kc'⟩ := k'
          dsimp only at *
          have hj0 : 0 ≤ (i : Int) := by omega
          have hj1 : (i : Int) < (n : Int) := by omega
          have := hwrap
          go_wp2_with (go_at_call 115; ((with_reducible refine cV.mono ?_); rintro e w5 ⟨rfl, c5, hA5⟩; have HN5 := Lib.hid (HNx.out w5 c5 hA5); clear hA5 c5))
          go_roundw
          case rel => exact ⟨_, i + 1, rfl, by omega, by go_num, Lib.hid HN5.out.1, Lib.hid (fun _ => ⟨g, rfl, hmg, hgh, hgw, HN5.out⟩)⟩
          case measure => simp [intOf]; omega
        · obtain rfl : i = n := by omega
          have Hfin := Lib.hid (HFin.out w2 wr HC2.out HA2.out hAt.out (fun h0 => by
            obtain ⟨g, e, h1, h2, h3, h4⟩ := hR.out h0
            exact ⟨g, e, h1, h2, (h4.done Hn.out.symm h1 h2).2⟩))
          clear hR hAt
          go_wp2
          simp [bodyPost, results, Try.results115, go_sem]
          exact Hfin.out
theorem vs_any (F : Nat) (caps : Array Value) (hE : ∀ (args : Array Value) (w : World), (callFunc F args).run Try.prog w = .ok (.enter F args) w) (f : Fn) (K : Int) (B0 : Nat) (w0 : World) (hF : ClosOk F caps f K B0 w0) (t : Cl) : VsOk F caps f K B0 w0 t := Cl.ind (vs_step F caps hE f K B0 w0 hF) t
end Go.Proofs.Ytokkafekdaniaaa.B
