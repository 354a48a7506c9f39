/-
  What is proved: who writes into all parts of a claim in blocks of its own changes no other block.
-/
import Derived.Test.YtnjcemhfmhiikaaClmU
import Derived.Test.YtnjcemhfmhiikaaClmC
namespace Go.Proofs.Ytnjcemhfmhiikaa.C
open Go.RowKit L T
set_option linter.unusedVariables false
set_option linter.unusedSimpArgs false

/-- the row with another op in one place -/
def Hc.with (h : Hc) (x : Int) : Hc := ⟨x, h.nm, h.so, h.k, h.a, h.n, h.c⟩
theorem RowC.op {w : World} {g : Nat} {hs : List Hc} (hr : RowC w g hs) (k : Nat) (x : Int) (hk : k < hs.length) : RowC (w.setCell ⟨g, k * 5, none⟩ (.int .i64 x)) g (hs.set k (hs[k].with x)) := by
  obtain ⟨cur, hg, hl, ht⟩ := hr
  refine ⟨cur.setIfInBounds (k * 5) (.int .i64 x), heap_setCell_same _ _ _ _ _ _ hg, by simp; omega, flatC_ext (by simp; omega) fun i hi j hj => ?_⟩
  rw [List.length_set] at hi
  rw [Array.getElem?_toList, Array.getElem?_setIfInBounds]
  by_cases e : k * 5 = i * 5 + j
  · obtain rfl : i = k := by omega
    obtain rfl : j = 0 := by omega
    rw [if_pos e, if_pos (by omega)]
    simp [Hc.with, Hc.cells]
  · rw [if_neg e, ← Array.getElem?_toList, ← List.getElem?_take_of_lt (show i * 5 + j < hs.length * 5 by omega), ht, flatC_get hs i j hi hj]
    by_cases e2 : i = k
    · subst e2
      have hc : j = 1 ∨ j = 2 ∨ j = 3 ∨ j = 4 := by omega
      rcases hc with rfl | rfl | rfl | rfl <;> simp [Hc.with, Hc.cells]
    · rw [List.getElem_set_ne (fun x => e2 x.symm)]
def SplC (W1 wr : World) (g lo hi : Nat) (l : List Cl) (n k : Nat) : Prop :=
  Below lo W1 wr ∧ (∀ b, hi ≤ b → b < W1.heap.size → wr.heap[b]? = W1.heap[b]?) ∧ ∃ hs mid, hs.length = n ∧ RowC wr g hs ∧ g + 1 ≤ mid ∧ FrCL wr (l.drop k) mid hi (hs.drop k)
theorem SplC.at {W1 wr : World} {g lo hi : Nat} {l : List Cl} {n k : Nat} (h : SplC W1 wr g lo hi l n k) (hl : l.length = n) (hk : k < n) (hlg : lo ≤ g) (hhi : hi ≤ W1.heap.size) :
    ∃ x hx mid mid', l[k]? = some x ∧ FrC wr x mid mid' hx ∧ mid' ≤ wr.heap.size ∧ (wr.cell? ⟨g, k * 5, none⟩ = some (.int .i64 hx.op) ∧ wr.cell? ⟨g, k * 5 + 1, none⟩ = some (.string hx.nm) ∧ wr.cell? ⟨g, k * 5 + 1 + 1, none⟩ = some (.string hx.so) ∧ wr.cell? ⟨g, k * 5 + 1 + 1 + 1, none⟩ = some (.slice hx.k.a hx.k.n hx.k.c) ∧ wr.cell? ⟨g, k * 5 + 1 + 1 + 1 + 1, none⟩ = some (.slice hx.a hx.n hx.c)) ∧
      Hid (∀ w4, SplAt wr w4 mid mid' → w4.cell? ⟨g, k * 5, none⟩ = some (.int .i64 hx.op) ∧ w4.frozen? ⟨g, k * 5, none⟩ = false ∧ SplAt W1 w4 lo hi ∧ SplAt W1 (w4.setCell ⟨g, k * 5, none⟩ (.int .i64 (wrap64 (hx.op + 100)))) lo hi ∧ Hid (SplC W1 (w4.setCell ⟨g, k * 5, none⟩ (.int .i64 (wrap64 (hx.op + 100)))) g lo hi l n (k + 1))) := by
  obtain ⟨hB, hO, hs, mid, h1, h2, h3, h4⟩ := h
  have hkl : k < l.length := by omega
  have hks : k < hs.length := by omega
  rw [List.drop_eq_getElem_cons hkl, List.drop_eq_getElem_cons hks, FrCL] at h4
  obtain ⟨hx, hsr, mid', e, hF, hL⟩ := h4
  simp only [List.cons.injEq] at e
  obtain ⟨rfl, rfl⟩ := e
  have q1 := hF.le
  have q2 := hL.le
  have q3 := hB.size
  refine ⟨l[k], hs[k], mid, mid', List.getElem?_eq_getElem hkl, hF, by omega, h2.at hks, Lib.hid ?_⟩
  rintro w4 ⟨b4, o4⟩
  have hg := h2.lt
  have q4 := b4.size
  have hr4 : RowC w4 g hs := h2.of_block (b4.block g (by omega))
  have ho : ∀ b, b ≠ g → (w4.setCell ⟨g, k * 5, none⟩ (.int .i64 (wrap64 (hs[k].op + 100)))).heap[b]? = w4.heap[b]? := fun b hb => heap_setCell_other w4 ⟨g, k * 5, none⟩ b _ hb
  have B4 : Below lo W1 w4 := hB.trans (b4.mono (by omega))
  have B5 : Below lo W1 (w4.setCell ⟨g, k * 5, none⟩ (.int .i64 (wrap64 (hs[k].op + 100)))) := below_set B4 (by omega) _ _
  have O4 : ∀ b, hi ≤ b → b < W1.heap.size → w4.heap[b]? = W1.heap[b]? := fun b hb hb2 => (o4 b (by omega) (by omega)).trans (hO b hb hb2)
  have O5 : ∀ b, hi ≤ b → b < W1.heap.size → (w4.setCell ⟨g, k * 5, none⟩ (.int .i64 (wrap64 (hs[k].op + 100)))).heap[b]? = W1.heap[b]? := fun b hb hb2 => (ho b (by omega)).trans (O4 b hb hb2)
  refine ⟨(hr4.at hks).1, hr4.free _, ⟨B4, O4⟩, ⟨B5, O5⟩, Lib.hid ⟨B5, O5, hs.set k (hs[k].with (wrap64 (hs[k].op + 100))), mid', by simp [h1], hr4.op k _ hks, by omega, ?_⟩⟩
  rw [List.drop_set_of_lt (by omega)]
  exact FrCL.same _ (fun b hb1 hb2 => (ho b (by omega)).trans (o4 b hb1 (by omega))) hL
def SpoilOkC (t : Cl) : Prop := ∀ (h : Hc) (lo hi : Nat) (w : World), hi ≤ w.heap.size → FrC w t lo hi h →
  Calls Try.prog 25 #[.agg #[.int .i64 h.op, .string h.nm, .string h.so, .slice h.k.a h.k.n h.k.c, .slice h.a h.n h.c]] w fun e w' => e = .returned (.tuple #[]) ∧ SplAt w w' lo hi

set_option maxRecDepth 100000 in
set_option maxHeartbeats 8000000 in
theorem SpoilC_step (t : Cl) (hok : ∀ x ∈ subC t, SpoilOkC x) : SpoilOkC t := by
  intro h lo hi w hhi hF
  obtain ⟨W1, hW1, hB1, hs1, S1⟩ := cbox1 w h.op h.nm h.so h.k h.a h.n h.c
  have hfr : ∃ mid, lo ≤ mid ∧ mid ≤ hi ∧ (h.k.n = (tsC t).length ∧ h.k.n ≤ h.k.c ∧ h.k.c ≤ maxLen) ∧ (0 < h.k.n → ∃ g hs, h.k.a = some ⟨g, 0, none⟩ ∧ lo ≤ g ∧ Row w g hs ∧ FrL w (tsC t) (g + 1) mid hs) ∧ (h.n = (subC t).length ∧ h.n ≤ h.c ∧ h.c ≤ maxLen) ∧ (0 < h.n → ∃ g hs, h.a = some ⟨g, 0, none⟩ ∧ mid ≤ g ∧ RowC w g hs ∧ FrCL w (subC t) (g + 1) hi hs) := by
    cases t with
    | mk o s z ts l =>
      rw [FrC] at hF
      obtain ⟨_, mid, h1, h2, h3, h4⟩ := hF
      unfold FrK at h1
      rw [Fr] at h1
      exact ⟨mid, h1.2.2.1, h3, ⟨h1.2.1.1, h1.2.1.2.1, h1.2.1.2.2.1⟩, h1.2.2.2, ⟨h2.1, h2.2.1, h2.2.2.1⟩, h4⟩
  obtain ⟨mid, hlm, hmh, ⟨hkn, hkc1, hkc2⟩, hgk, ⟨hn, hc1, hc2⟩, hg⟩ := hfr
  have hkm : h.k.n ≤ 9223372036854775807 := by unfold maxLen at hkc2; omega
  have hnm : h.n ≤ 9223372036854775807 := by unfold maxLen at hc2; omega
  have hEnd : ∀ wr, SplAt W1 wr lo hi → SplAt w wr lo hi := fun wr b => by
    refine ⟨(hB1.mono (by omega)).trans b.1, fun i hb hb2 => (b.2 i hb (by omega)).trans (hB1.block i hb2)⟩
  have HK := Lib.hid (show ∀ k x, (subC t)[k]? = some x → ∀ (h : Hc) (lo hi : Nat) (w : World), hi ≤ w.heap.size → FrC w x lo hi h → Calls Try.prog 25 #[.agg #[.int .i64 h.op, .string h.nm, .string h.so, .slice h.k.a h.k.n h.k.c, .slice h.a h.n h.c]] w fun e w' => e = .returned (.tuple #[]) ∧ SplAt w w' lo hi from fun k x hx => hok x (List.mem_of_getElem? hx))
  have HP0 := Lib.hid (show 0 < h.k.n → ∃ g, h.k.a = some ⟨g, 0, none⟩ ∧ lo ≤ g ∧ Spl W1 W1 g lo mid (tsC t) h.k.n 0 from fun h0 => by
    obtain ⟨g, hs, e, hg1, hrow, hL⟩ := hgk h0
    exact ⟨g, e, hg1, Below.refl _ _, fun b _ _ => rfl, hs, g + 1, by rw [hL.len, hkn], hrow.of_block (hB1.block g hrow.lt), Nat.le_refl _, by rw [List.drop_zero, List.drop_zero]; exact FrL.same _ (fun b h1 h2 => hB1.block b (by omega)) hL⟩)
  have HQ0 := Lib.hid (show ∀ wr, SplAt W1 wr lo mid → SplAt W1 wr lo hi ∧ (0 < h.n → ∃ g, h.a = some ⟨g, 0, none⟩ ∧ mid ≤ g ∧ SplC W1 wr g lo hi (subC t) h.n 0) from fun wr hw => by
    refine ⟨⟨hw.1, fun b hb hb2 => hw.2 b (by omega) hb2⟩, fun h0 => ?_⟩
    obtain ⟨g, hs, e, hg1, hrow, hL⟩ := hg h0
    have hl1 := hrow.lt
    exact ⟨g, e, hg1, hw.1, fun b hb hb2 => hw.2 b (by omega) hb2, hs, g + 1, by rw [hL.len, hn], hrow.of_block ((hw.2 g hg1 (by omega)).trans (hB1.block g hl1)), Nat.le_refl _, by rw [List.drop_zero, List.drop_zero]; exact FrCL.same _ (fun b h1 h2 => (hw.2 b (by omega) (by omega)).trans (hB1.block b (by omega))) hL⟩)
  have HA0 := Lib.hid (show SplAt W1 W1 lo mid from ⟨Below.refl _ _, fun _ _ _ => rfl⟩)
  have HS := Lib.hid S1
  have HE := Lib.hid hEnd
  have Hn := Lib.hid hn
  have Hk := Lib.hid hkn
  have hsz1 : hi ≤ W1.heap.size := by omega
  have hsz2 : mid ≤ W1.heap.size := by omega
  have hwlt : w.heap.size < W1.heap.size := by omega
  have hmw : mid ≤ w.heap.size := by omega
  have Hs := Lib.hid hs1
  obtain ⟨s0, s1, s2, s3, s4⟩ := S1.five
  clear hF hok S1 hEnd hn hkn hs1 hg hgk hc2 hkc2
  generalize tsC t = lt at *
  generalize subC t = l at *
  generalize h.op = op at *
  generalize h.nm = nm at *
  generalize h.so = so at *
  generalize h.k = kk at *
  generalize h.a = a at *
  generalize h.n = n at *
  generalize h.c = c at *
  obtain ⟨ka, kn, kc⟩ := kk
  dsimp only at *
  go_enter Try.func25, Try.ntmps25
  go_wp2
  go_loopw [7] (fun i wr0 => ∃ (wr : World) (k : Nat), wr = wr0 ∧ k ≤ kn ∧ i = .int .i64 k ∧ Hid (SplAt W1 wr lo mid) ∧ Hid (0 < kn → ∃ g, ka = some ⟨g, 0, none⟩ ∧ lo ≤ g ∧ Spl W1 wr g lo mid lt kn k)) (fun i _ => kn - (intOf i).toNat)
  case atStart => exact ⟨_, 0, rfl, by omega, rfl, HA0, HP0⟩
  case round =>
    obtain ⟨wr, k, rfl, hk, rfl, hAt, hR⟩ := hrel
    have hbx := hAt.out.2 w.heap.size hmw hwlt
    have Sr : CBox wr w.heap.size op nm so ⟨ka, kn, kc⟩ a n c := hbx.trans HS.out
    obtain ⟨e0, e1, e2, e3, e4⟩ := Sr.five
    clear Sr hbx
    by_cases hlt : k < kn
    · obtain ⟨g, rfl, hlg, hSp⟩ := hR.out (by omega)
      obtain ⟨x, hx, mid1, mid2, hxk, hFx, hmid, ⟨y0, y1, y2, y3⟩, hGo⟩ := hSp.at Hk.out.symm hlt hlg hsz2
      have cc := Spoil_any x hx mid1 mid2 wr hmid hFx
      clear hxk hFx HK hR hSp
      generalize hx.op = op' at *
      generalize hx.nm = nm' at *
      generalize hx.nu = nu' at *
      generalize hx.a = A' at *
      generalize hx.n = N' at *
      generalize hx.c = C' at *
      have hk0 : 0 ≤ (k : Int) := by omega
      have hk1 : (k : Int) < (kn : Int) := by omega
      go_wp2_with (go_at_call 50; ((with_reducible refine cc.mono ?_); rintro e w4 ⟨rfl, hb4⟩; obtain ⟨⟨⟨q0, q1, q2, q3⟩, ⟨g0, g1, g2, g3⟩⟩, hO4, Hn4⟩ := hGo.out w4 hb4; have S4 : CBox w4 w.heap.size op nm so ⟨some ⟨g, 0, none⟩, kn, kc⟩ a n c := (hO4 w.heap.size hmw hwlt).trans HS.out; obtain ⟨v0, v1, v2, v3, v4⟩ := S4.five; clear hO4 S4 hb4))
      go_roundw
      case rel => exact ⟨_, k + 1, rfl, by omega, by go_num, Lib.hid ⟨Hn4.out.1, Hn4.out.2.1⟩, Lib.hid (fun _ => ⟨g, rfl, hlg, Hn4.out⟩)⟩
      case measure => simp [intOf]; omega
    · obtain rfl : k = kn := by omega
      have hQ := HQ0.out wr hAt.out
      have HQ1 := Lib.hid hQ.1
      have HQ2 := Lib.hid hQ.2
      clear hQ hR hAt HP0 HA0 HQ0
      go_wp2
      go_loopw [29] (fun i wr0 => ∃ (wr : World) (k : Nat), wr = wr0 ∧ k ≤ n ∧ i = .int .i64 k ∧ Hid (SplAt W1 wr lo hi) ∧ Hid (0 < n → ∃ g, a = some ⟨g, 0, none⟩ ∧ mid ≤ g ∧ SplC W1 wr g lo hi l n k)) (fun i _ => n - (intOf i).toNat)
      case atStart => exact ⟨_, 0, rfl, by omega, rfl, HQ1, HQ2⟩
      case round =>
        clear e0 e1 e2 e3 e4 HQ1 HQ2
        obtain ⟨wr2, k2, rfl, hk2, rfl, hAt, hR⟩ := hrel
        have hbx := hAt.out.2 w.heap.size hhi hwlt
        have Sr : CBox wr2 w.heap.size op nm so ⟨ka, k, kc⟩ a n c := hbx.trans HS.out
        obtain ⟨e0, e1, e2, e3, e4⟩ := Sr.five
        clear Sr hbx
        by_cases hlt2 : k2 < n
        · obtain ⟨g, rfl, hlg, hSp⟩ := hR.out (by omega)
          obtain ⟨x, hx, mid1, mid2, hxk, hFx, hmid, ⟨y0, y1, y2, y3, y4⟩, hGo⟩ := hSp.at Hn.out.symm hlt2 (by omega) hsz1
          have cc := HK.out k2 x hxk hx mid1 mid2 wr2 hmid hFx
          clear hxk hFx HK hR hSp
          generalize hx.op = op' at *
          generalize hx.nm = nm' at *
          generalize hx.so = so' at *
          generalize hx.k = k' at *
          generalize hx.a = A' at *
          generalize hx.n = N' at *
          generalize hx.c = C' at *
          obtain ⟨ka', kn', kc'⟩ := k'
          dsimp only at *
          have hk0 : 0 ≤ (k2 : Int) := by omega
          have hk1 : (k2 : Int) < (n : Int) := by omega
          go_wp2_with (go_at_call 25; ((with_reducible refine cc.mono ?_); rintro e w4 ⟨rfl, hb4⟩; obtain ⟨q0, g0, hA4, hA5, Hn4⟩ := hGo.out w4 hb4; have S4 : CBox w4 w.heap.size op nm so ⟨ka, k, kc⟩ (some ⟨g, 0, none⟩) n c := (hA4.2 w.heap.size hhi hwlt).trans HS.out; obtain ⟨v0, v1, v2, v3, v4⟩ := S4.five; have HA5 := Lib.hid hA5; clear hA4 hA5 S4 hb4))
          go_roundw
          case rel => exact ⟨_, k2 + 1, rfl, by omega, by go_num, HA5, Lib.hid (fun _ => ⟨g, rfl, hlg, Hn4.out⟩)⟩
          case measure => simp [intOf]; omega
        · obtain rfl : k2 = n := by omega
          have Hfin := Lib.hid (HE.out wr2 hAt.out)
          clear hR hAt
          go_wp2
          simp [bodyPost, results, Try.results25, go_sem]
          exact Hfin.out
theorem SpoilC_any (t : Cl) : SpoilOkC t := Cl.ind SpoilC_step t
end Go.Proofs.Ytnjcemhfmhiikaa.C
