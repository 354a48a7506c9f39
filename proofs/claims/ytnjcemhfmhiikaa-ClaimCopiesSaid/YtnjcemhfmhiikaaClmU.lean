/-
  What is proved: who writes into all parts of a term in blocks of its own changes no other block.
-/
import Derived.Test.YtnjcemhfmhiikaaTrmK
namespace Go.Proofs.Ytnjcemhfmhiikaa.T
open Go.RowKit L
set_option linter.unusedVariables false
set_option linter.unusedSimpArgs false

/-- the row with another op in one place -/
def Hd.with (h : Hd) (x : Int) : Hd := ⟨x, h.nm, h.nu, h.a, h.n, h.c⟩
theorem Row.op {w : World} {g : Nat} {hs : List Hd} (hr : Row w g hs) (k : Nat) (x : Int) (hk : k < hs.length) : Row (w.setCell ⟨g, k * 4, none⟩ (.int .i64 x)) g (hs.set k (hs[k].with x)) := by
  obtain ⟨cur, hg, hl, ht⟩ := hr
  refine ⟨cur.setIfInBounds (k * 4) (.int .i64 x), heap_setCell_same _ _ _ _ _ _ hg, by simp; omega, flat_ext (by simp; omega) fun i hi j hj => ?_⟩
  rw [List.length_set] at hi
  rw [Array.getElem?_toList, Array.getElem?_setIfInBounds]
  by_cases e : k * 4 = i * 4 + j
  · obtain rfl : i = k := by omega
    obtain rfl : j = 0 := by omega
    rw [if_pos e, if_pos (by omega)]
    simp [Hd.with, Hd.cells]
  · rw [if_neg e, ← Array.getElem?_toList, ← List.getElem?_take_of_lt (show i * 4 + j < hs.length * 4 by omega), ht, flat_get hs i j hi hj]
    by_cases e2 : i = k
    · subst e2
      have hc : j = 1 ∨ j = 2 ∨ j = 3 := by omega
      rcases hc with rfl | rfl | rfl <;> simp [Hd.with, Hd.cells]
    · rw [List.getElem_set_ne (fun x => e2 x.symm)]
def Spl (W1 wr : World) (g lo hi : Nat) (l : List Tm) (n k : Nat) : Prop :=
  Below lo W1 wr ∧ (∀ b, hi ≤ b → b < W1.heap.size → wr.heap[b]? = W1.heap[b]?) ∧ ∃ hs mid, hs.length = n ∧ Row wr g hs ∧ g + 1 ≤ mid ∧ FrL wr (l.drop k) mid hi (hs.drop k)
/-- what a call leaves -/
def SplAt (w w' : World) (lo hi : Nat) : Prop := Below lo w w' ∧ ∀ b, hi ≤ b → b < w.heap.size → w'.heap[b]? = w.heap[b]?
theorem Spl.at {W1 wr : World} {g lo hi : Nat} {l : List Tm} {n k : Nat} (h : Spl W1 wr g lo hi l n k) (hl : l.length = n) (hk : k < n) (hlg : lo ≤ g) (hhi : hi ≤ W1.heap.size) :
    ∃ x hx mid mid', l[k]? = some x ∧ Fr wr x mid mid' hx ∧ mid' ≤ wr.heap.size ∧ (wr.cell? ⟨g, k * 4, none⟩ = some (.int .i64 hx.op) ∧ wr.cell? ⟨g, k * 4 + 1, none⟩ = some (.string hx.nm) ∧ wr.cell? ⟨g, k * 4 + 1 + 1, none⟩ = some (.int .i64 hx.nu) ∧ wr.cell? ⟨g, k * 4 + 1 + 1 + 1, none⟩ = some (.slice hx.a hx.n hx.c)) ∧
      Hid (∀ w4, SplAt wr w4 mid mid' → ((w4.cell? ⟨g, k * 4, none⟩ = some (.int .i64 hx.op) ∧ w4.cell? ⟨g, k * 4 + 1, none⟩ = some (.string hx.nm) ∧ w4.cell? ⟨g, k * 4 + 2, none⟩ = some (.int .i64 hx.nu) ∧ w4.cell? ⟨g, k * 4 + 3, none⟩ = some (.slice hx.a hx.n hx.c)) ∧ (w4.frozen? ⟨g, k * 4, none⟩ = false ∧ w4.frozen? ⟨g, k * 4 + 1, none⟩ = false ∧ w4.frozen? ⟨g, k * 4 + 2, none⟩ = false ∧ w4.frozen? ⟨g, k * 4 + 3, none⟩ = false)) ∧ (∀ b, hi ≤ b → b < W1.heap.size → w4.heap[b]? = W1.heap[b]?) ∧ Hid (Spl W1 (w4.setCell ⟨g, k * 4, none⟩ (.int .i64 (wrap64 (hx.op + 100)))) g lo hi l n (k + 1))) := by
  obtain ⟨hB, hO, hs, mid, h1, h2, h3, h4⟩ := h
  have hkl : k < l.length := by omega
  have hks : k < hs.length := by omega
  rw [List.drop_eq_getElem_cons hkl, List.drop_eq_getElem_cons hks, FrL] at h4
  obtain ⟨hx, hsr, mid', e, hF, hL⟩ := h4
  simp only [List.cons.injEq] at e
  obtain ⟨rfl, rfl⟩ := e
  have q1 := hF.le
  have q2 := hL.le
  have q3 := hB.size
  obtain ⟨c0, c1, c2, c3⟩ := h2.at hks
  refine ⟨l[k], hs[k], mid, mid', List.getElem?_eq_getElem hkl, hF, by omega, ⟨c0, c1, c2, c3⟩, Lib.hid ?_⟩
  rintro w4 ⟨b4, o4⟩
  have hg := h2.lt
  have q4 := b4.size
  have hr4 : Row w4 g hs := h2.of_block (b4.block g (by omega))
  obtain ⟨d0, d1, d2, d3⟩ := hr4.at hks
  refine ⟨⟨⟨d0, d1, d2, d3⟩, hr4.free _, hr4.free _, hr4.free _, hr4.free _⟩, fun b hb hb2 => (o4 b (by omega) (by omega)).trans (hO b hb hb2), Lib.hid ?_⟩
  have ho : ∀ b, b ≠ g → (w4.setCell ⟨g, k * 4, none⟩ (.int .i64 (wrap64 (hs[k].op + 100)))).heap[b]? = w4.heap[b]? := fun b hb => heap_setCell_other w4 ⟨g, k * 4, none⟩ b _ hb
  refine ⟨below_set (hB.trans (b4.mono (by omega))) (by omega) _ _, fun b hb hb2 => (ho b (by omega)).trans ((o4 b (by omega) (by omega)).trans (hO b hb hb2)), hs.set k (hs[k].with (wrap64 (hs[k].op + 100))), mid', by simp [h1], hr4.op k _ hks, by omega, ?_⟩
  rw [List.drop_set_of_lt (by omega)]
  exact FrL.same _ (fun b hb1 hb2 => (ho b (by omega)).trans (o4 b hb1 (by omega))) hL
def SpoilOk (t : Tm) : Prop := ∀ (h : Hd) (lo hi : Nat) (w : World), hi ≤ w.heap.size → Fr w t lo hi h →
  Calls Try.prog 50 #[.agg #[.int .i64 h.op, .string h.nm, .int .i64 h.nu, .slice h.a h.n h.c]] w fun e w' => e = .returned (.tuple #[]) ∧ SplAt w w' lo hi

set_option maxRecDepth 100000 in
set_option maxHeartbeats 4000000 in
theorem Spoil_step (t : Tm) (hok : ∀ x ∈ argsT t, SpoilOk x) : SpoilOk t := by
  intro h lo hi w hhi hF
  obtain ⟨W1, hW1, hB1, hs1, S1⟩ := box1 w h.op h.nm h.nu h.a h.n h.c
  have hfr : (h.n = (argsT t).length ∧ h.n ≤ h.c ∧ h.c ≤ maxLen ∧ (h.a = none → h.c = 0)) ∧ lo ≤ hi ∧ (0 < h.n → ∃ g hs, h.a = some ⟨g, 0, none⟩ ∧ lo ≤ g ∧ Row w g hs ∧ FrL w (argsT t) (g + 1) hi hs) := by
    cases t with
    | mk o s z l => rw [Fr] at hF; exact hF.2
  obtain ⟨⟨hn, hc1, hc2, _⟩, hlh, hg⟩ := hfr
  have hnm : h.n ≤ 9223372036854775807 := by unfold maxLen at hc2; omega
  have hEnd : ∀ wr, Below lo W1 wr → (∀ b, hi ≤ b → b < W1.heap.size → wr.heap[b]? = W1.heap[b]?) → SplAt w wr lo hi := fun wr b1 b2 => by
    refine ⟨(hB1.mono (by omega)).trans b1, fun b hb hb2 => (b2 b hb (by omega)).trans (hB1.block b hb2)⟩
  have HK := Lib.hid (show ∀ k x, (argsT t)[k]? = some x → ∀ (h : Hd) (lo hi : Nat) (w : World), hi ≤ w.heap.size → Fr w x lo hi h → Calls Try.prog 50 #[.agg #[.int .i64 h.op, .string h.nm, .int .i64 h.nu, .slice h.a h.n h.c]] w fun e w' => e = .returned (.tuple #[]) ∧ SplAt w w' lo hi from fun k x hx => hok x (List.mem_of_getElem? hx))
  have HS := Lib.hid S1
  have HE := Lib.hid hEnd
  have Hn := Lib.hid hn
  have Hs := Lib.hid hs1
  generalize argsT t = l at *
  generalize h.op = op at *
  generalize h.nm = nm at *
  generalize h.nu = nu at *
  generalize h.a = a at *
  generalize h.n = n at *
  generalize h.c = c at *
  have hsz1 : hi ≤ W1.heap.size := by omega
  have hwlt : w.heap.size < W1.heap.size := by omega
  by_cases hn0 : n = 0
  · subst hn0
    obtain ⟨s0, s1, s2, s3⟩ := S1.four
    clear hF hok S1 hEnd hn hs1 HK hg hc2
    go_enter Try.func50, Try.ntmps50
    go_wp2
    go_loopw [6] (fun i wr0 => wr0 = W1 ∧ i = .int .i64 0) (fun i _ => 0)
    case atStart => exact ⟨rfl, rfl⟩
    case round =>
      obtain ⟨rfl, rfl⟩ := hrel
      go_wp2
      simp [bodyPost, results, Try.results50, go_sem]
      exact HE.out _ (Below.refl _ _) (fun b _ _ => rfl)
  · obtain ⟨g, hs, rfl, hg1, hrow, hL⟩ := hg (by omega)
    have hgl := hrow.lt
    have P0 : Spl W1 W1 g lo hi l n 0 := ⟨Below.refl _ _, fun b _ _ => rfl, hs, g + 1, by rw [hL.len, hn], hrow.of_block (hB1.block g hgl), Nat.le_refl _, by rw [List.drop_zero, List.drop_zero]; exact FrL.same _ (fun b h1 h2 => hB1.block b (by omega)) hL⟩
    have HP0 := Lib.hid P0
    obtain ⟨s0, s1, s2, s3⟩ := S1.four
    clear hF hok S1 hEnd hn hs1 hg hc2 hrow hL P0
    go_enter Try.func50, Try.ntmps50
    go_wp2
    go_loopw [6] (fun i wr0 => ∃ (wr : World) (k : Nat), wr = wr0 ∧ k ≤ n ∧ i = .int .i64 k ∧ Hid (Spl W1 wr g lo hi l n k)) (fun i _ => n - (intOf i).toNat)
    case atStart => exact ⟨_, 0, rfl, by omega, rfl, HP0⟩
    case round =>
      obtain ⟨wr, k, rfl, hk, rfl, hR⟩ := hrel
      have hbx := hR.out.2.1 w.heap.size hhi hwlt
      have Sr : TBox wr w.heap.size op nm nu (some ⟨g, 0, none⟩) n c := hbx.trans HS.out
      obtain ⟨e0, e1, e2, e3⟩ := Sr.four
      have Hbx := Lib.hid hbx
      clear Sr hbx
      by_cases hlt : k < n
      · obtain ⟨x, hx, mid, mid', hxk, hFx, hmid, ⟨y0, y1, y2, y3⟩, hGo⟩ := hR.out.at Hn.out.symm hlt hg1 hsz1
        have cc := HK.out k x hxk hx mid mid' wr hmid hFx
        clear hxk hFx HK hR
        generalize hx.op = op' at *
        generalize hx.nm = nm' at *
        generalize hx.nu = nu' at *
        generalize hx.a = A' at *
        generalize hx.n = N' at *
        generalize hx.c = C' at *
        have hk0 : 0 ≤ (k : Int) := by omega
        have hk1 : (k : Int) < (n : Int) := by omega
        go_wp2_with (go_at_call 50; ((with_reducible refine cc.mono ?_); rintro e w4 ⟨rfl, hb4⟩; obtain ⟨⟨⟨q0, q1, q2, q3⟩, ⟨g0, g1, g2, g3⟩⟩, hO4, Hn4⟩ := hGo.out w4 hb4; have S4 : TBox w4 w.heap.size op nm nu (some ⟨g, 0, none⟩) n c := (hO4 w.heap.size hhi hwlt).trans HS.out; obtain ⟨v0, v1, v2, v3⟩ := S4.four; clear hO4 S4 hb4))
        go_roundw
        case rel => exact ⟨_, k + 1, rfl, by omega, by go_num, Hn4⟩
        case measure => simp [intOf]; omega
      · obtain rfl : k = n := by omega
        have Hfin := Lib.hid (HE.out wr hR.out.1 hR.out.2.1)
        clear hR
        go_wp2
        simp [bodyPost, results, Try.results50, go_sem]
        exact Hfin.out
theorem Spoil_any (t : Tm) : SpoilOk t := Tm.ind Spoil_step t
end Go.Proofs.Ytnjcemhfmhiikaa.T
