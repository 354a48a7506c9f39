/-
  What is proved: an argument that is a sequent reads as such.
  What is proved: the texts that package show and the document give of a sequent of right claims.
  What is proved: package show's text of a sequent.
  What is proved: the document's text of a sequent.
-/
import Derived.Test.YtndhhmebaboeaaaGreatDoorZShO
import Derived.Test.YtndhhmebaboeaaaGreatDoorZShFu
import Derived.Test.YtndhhmebaboeaaaGreatDoorZShSh
import Derived.Test.YtndhhmebaboeaaaGreatDoorZShSo
import Derived.Shelf.Strings.Builder1
import Derived.Deep.RegionHeld3
namespace Go.Proofs.YtndhhmebaboeaaaGreatDoor.Sh
open Go.RowKit Go.Deep Go.ChangeShapes Go.WideShapes Go.Joins L T C
set_option linter.unusedVariables false
set_option linter.unusedSimpArgs false
set_option maxRecDepth 100000

structure Vr where
  nm : ByteArray
  so : ByteArray
structure Hy where
  nm : ByteArray
  t : Cl
def VsW (w : World) (a : Option Addr) (n c : Nat) (l : List Vr) : Prop :=
  n = l.length ∧ n ≤ c ∧ c ≤ maxLen ∧ (a = none → c = 0) ∧ (0 < n → ∃ b o, a = some ⟨b, o, none⟩ ∧ b < w.heap.size ∧ ∀ (i : Nat) q, l[i]? = some q → w.cell? ⟨b, o + i * 2, none⟩ = some (.string q.nm) ∧ w.cell? ⟨b, o + i * 2 + 1, none⟩ = some (.string q.so))
def HsW (w : World) (a : Option Addr) (n c : Nat) (l : List Hy) : Prop :=
  n = l.length ∧ n ≤ c ∧ c ≤ maxLen ∧ (a = none → c = 0) ∧ (0 < n → ∃ b o, a = some ⟨b, o, none⟩ ∧ b < w.heap.size ∧ ∀ (i : Nat) q, l[i]? = some q → ∃ (k : SS) (x : Option Addr) (xn xc : Nat), w.cell? ⟨b, o + i * 6, none⟩ = some (.string q.nm) ∧ w.cell? ⟨b, o + i * 6 + 1, none⟩ = some (.int .i64 (opC q.t)) ∧ w.cell? ⟨b, o + i * 6 + 1 + 1, none⟩ = some (.string (nmC q.t)) ∧ w.cell? ⟨b, o + i * 6 + 1 + 1 + 1, none⟩ = some (.string (soC q.t)) ∧
    w.cell? ⟨b, o + i * 6 + 1 + 1 + 1 + 1, none⟩ = some (.slice k.a k.n k.c) ∧ w.cell? ⟨b, o + i * 6 + 1 + 1 + 1 + 1 + 1, none⟩ = some (.slice x xn xc) ∧ ArWC w q.t k x xn xc)
theorem VsW.b {w w' : World} {a : Option Addr} {n c : Nat} {l : List Vr} (h : VsW w a n c l) (hb : Below w.heap.size w w') : VsW w' a n c l := by
  refine ⟨h.1, h.2.1, h.2.2.1, h.2.2.2.1, fun hn => ?_⟩
  obtain ⟨b, o, e, hlt, hr⟩ := h.2.2.2.2 hn
  exact ⟨b, o, e, Nat.lt_of_lt_of_le hlt hb.size, fun i q hq => ⟨(hb.cell (p := ⟨b, _, none⟩) hlt).trans (hr i q hq).1, (hb.cell (p := ⟨b, _, none⟩) hlt).trans (hr i q hq).2⟩⟩
theorem HsW.b {w w' : World} {a : Option Addr} {n c : Nat} {l : List Hy} (h : HsW w a n c l) (hb : Below w.heap.size w w') : HsW w' a n c l := by
  refine ⟨h.1, h.2.1, h.2.2.1, h.2.2.2.1, fun hn => ?_⟩
  obtain ⟨b, o, e, hlt, hr⟩ := h.2.2.2.2 hn
  refine ⟨b, o, e, Nat.lt_of_lt_of_le hlt hb.size, fun i q hq => ?_⟩
  obtain ⟨k, x, xn, xc, h0, h1, h2, h3, h4, h5, h6⟩ := hr i q hq
  exact ⟨k, x, xn, xc, (hb.cell (p := ⟨b, _, none⟩) hlt).trans h0, (hb.cell (p := ⟨b, _, none⟩) hlt).trans h1, (hb.cell (p := ⟨b, _, none⟩) hlt).trans h2, (hb.cell (p := ⟨b, _, none⟩) hlt).trans h3, (hb.cell (p := ⟨b, _, none⟩) hlt).trans h4, (hb.cell (p := ⟨b, _, none⟩) hlt).trans h5, ArWC.b h6 hb⟩
section
variable {H : Type} {enc : TypeId × Value → H} {W : World}
theorem vr_cells (fuel : Nat) (cs : List Value) (x : DataW H × List MemPlace) (h : DataW.trod enc Tryz.prog W 0 (fun _ => true) true fuel 42 cs = some x) :
    ∃ p : Vr, cs = [.string p.nm, .string p.so] ∧ p.nm.size ≤ 9223372036854775807 ∧ p.so.size ≤ 9223372036854775807 := by
  obtain ⟨xs, n, hn, _, hcl, hxl, hi⟩ := DataW.trod_struct Tryz.underlying42 h
  have hC : Tryz.prog.cellsOf 42 = 2 := by kernel_rfl
  rw [hC] at hcl
  match cs, hcl with
  | [c0, c1], _ =>
    match xs, hxl with
    | [x0, x1], _ =>
      have g0 : DataW.trod enc Tryz.prog W 0 (fun _ => true) true n 9 (([c0, c1].drop 0).take (Tryz.prog.cellsOf 9)) = some x0 := hi 0 _ rfl
      have g1 : DataW.trod enc Tryz.prog W 0 (fun _ => true) true n 9 (([c0, c1].drop 1).take (Tryz.prog.cellsOf 9)) = some x1 := hi 1 _ rfl
      have z0 : Tryz.prog.cellsOf 9 = 1 := by kernel_rfl
      rw [z0] at g0 g1
      obtain ⟨s, rfl, hs⟩ := str_cell (v := c0) g0
      obtain ⟨r, rfl, hr⟩ := str_cell (v := c1) g1
      exact ⟨⟨s, r⟩, rfl, hs, hr⟩
theorem hy_cells (fuel : Nat) (cs : List Value) (x : DataW H × List MemPlace) (h : DataW.trod enc Tryz.prog W 0 (fun _ => true) true fuel 45 cs = some x) :
    ∃ p : Hy, ∃ k a n c, cs = [.string p.nm, .int .i64 (opC p.t), .string (nmC p.t), .string (soC p.t), .slice (SS.a k) (SS.n k) (SS.c k), .slice a n c] ∧ ArWC W p.t k a n c ∧ smC p.t ∧ p.nm.size ≤ 9223372036854775807 := by
  obtain ⟨xs, n, hn, _, hcl, hxl, hi⟩ := DataW.trod_struct Tryz.underlying45 h
  have hC : Tryz.prog.cellsOf 45 = 6 := by kernel_rfl
  rw [hC] at hcl
  match cs, hcl with
  | [c0, c1, c2, c3, c4, c5], _ =>
    match xs, hxl with
    | [x0, x1], _ =>
      have g0 : DataW.trod enc Tryz.prog W 0 (fun _ => true) true n 9 (([c0, c1, c2, c3, c4, c5].drop 0).take (Tryz.prog.cellsOf 9)) = some x0 := hi 0 _ rfl
      have g1 : DataW.trod enc Tryz.prog W 0 (fun _ => true) true n 33 (([c0, c1, c2, c3, c4, c5].drop 1).take (Tryz.prog.cellsOf 33)) = some x1 := hi 1 _ rfl
      have z0 : Tryz.prog.cellsOf 9 = 1 := by kernel_rfl
      have z1 : Tryz.prog.cellsOf 33 = 5 := by kernel_rfl
      rw [z0] at g0
      rw [z1] at g1
      obtain ⟨s, rfl, hs⟩ := str_cell (v := c0) g0
      obtain ⟨t, k, a, m, c, ⟨hf, hr⟩, hsm⟩ := claimZ_cells n n (Nat.le_refl _) _ _ g1
      have hf2 : [c1, c2, c3, c4, c5] = [.int .i64 (opC t), .string (nmC t), .string (soC t), .slice k.a k.n k.c, .slice a m c] := hf
      simp only [List.cons.injEq, and_true] at hf2
      obtain ⟨rfl, rfl, rfl, rfl, rfl⟩ := hf2
      exact ⟨⟨s, t⟩, k, a, m, c, rfl, hr, hsm, hs⟩
theorem vrs_open {v : Value} {fuel : Nat} {y : DataW H × List MemPlace} (h : DataW.trod enc Tryz.prog W 0 (fun _ => true) true fuel 37 [v] = some y) :
    ∃ a n c X, v = .slice a n c ∧ VsW W a n c X ∧ ∀ q ∈ X, q.nm.size ≤ 9223372036854775807 ∧ q.so.size ≤ 9223372036854775807 := by
  rcases DataW.trod_slice Tryz.underlying37 h with h0 | ⟨ad, len, cap, elems, rest, m, hn, hcs, _, _, hl, hmx, hlen, hi, _⟩
  · have h1 : v = .slice none 0 0 := by simpa using h0.1
    exact ⟨none, 0, 0, [], h1, ⟨rfl, Nat.le_refl _, Nat.zero_le _, fun _ => rfl, fun h => absurd h (by omega)⟩, fun q hq => by simp at hq⟩
  · have h1 : v = .slice (some ad) len cap := by simpa using hcs
    have hC : Tryz.prog.cellsOf 42 = 2 := by kernel_rfl
    obtain ⟨Y, hY, hall⟩ := T.list_ofT len (P := fun i (q : Vr) => W.cell? (ad.add (i * 2)) = some (.string q.nm) ∧ W.cell? ((ad.add (i * 2)).add 1) = some (.string q.so) ∧ q.nm.size ≤ 9223372036854775807 ∧ q.so.size ≤ 9223372036854775807) (fun i hin => by
      have hq := hi i (by omega)
      rw [List.getElem?_eq_getElem (show i < elems.length by omega)] at hq
      obtain ⟨cs', h1, h2⟩ := Option.bind_eq_some_iff.1 hq
      rw [hC] at h1
      obtain ⟨_, hl2, hat⟩ := World.cells?_some h1
      obtain ⟨q, hf, hs, hr⟩ := vr_cells _ _ _ h2
      subst hf
      exact ⟨q, by simpa [Addr.add] using hat 0 (by simp), hat 1 (by simp), hs, hr⟩)
    refine ⟨some ad, len, cap, Y, h1, ⟨hY.symm, hl, hmx, fun h => (by cases h), fun hn => ?_⟩, fun q hq => ?_⟩
    · obtain ⟨b, off, spot⟩ := ad
      have hspot : spot = none := by
        obtain ⟨h1, _⟩ := hall 0 (by omega)
        simpa [Addr.add] using World.cell?_spot h1
      subst hspot
      refine ⟨b, off, rfl, ?_, fun i q hq => ?_⟩
      · obtain ⟨h1, _⟩ := hall 0 (by omega)
        rw [Go.WideShapes.add_plain] at h1
        exact World.block_lt_of_cell? _ _ h1
      · obtain ⟨hi2, rfl⟩ := List.getElem?_eq_some_iff.1 hq
        obtain ⟨h1, h2, _⟩ := hall i hi2
        rw [Go.WideShapes.add_plain] at h1 h2
        rw [Go.WideShapes.add_plain] at h2
        exact ⟨h1, h2⟩
    · obtain ⟨i, hi2, rfl⟩ := List.getElem_of_mem hq
      exact (hall i hi2).2.2
theorem hys_open {v : Value} {fuel : Nat} {y : DataW H × List MemPlace} (h : DataW.trod enc Tryz.prog W 0 (fun _ => true) true fuel 38 [v] = some y) :
    ∃ a n c X, v = .slice a n c ∧ HsW W a n c X ∧ ∀ q ∈ X, q.nm.size ≤ 9223372036854775807 ∧ smC q.t := by
  rcases DataW.trod_slice Tryz.underlying38 h with h0 | ⟨ad, len, cap, elems, rest, m, hn, hcs, _, _, hl, hmx, hlen, hi, _⟩
  · have h1 : v = .slice none 0 0 := by simpa using h0.1
    exact ⟨none, 0, 0, [], h1, ⟨rfl, Nat.le_refl _, Nat.zero_le _, fun _ => rfl, fun h => absurd h (by omega)⟩, fun q hq => by simp at hq⟩
  · have h1 : v = .slice (some ad) len cap := by simpa using hcs
    have hC : Tryz.prog.cellsOf 45 = 6 := by kernel_rfl
    obtain ⟨Y, hY, hall⟩ := T.list_ofT len (P := fun i (q : Hy) => ∃ (k : SS) (x : Option Addr) (xn xc : Nat), W.cell? (ad.add (i * 6)) = some (.string q.nm) ∧ W.cell? ((ad.add (i * 6)).add 1) = some (.int .i64 (opC q.t)) ∧ W.cell? ((ad.add (i * 6)).add 2) = some (.string (nmC q.t)) ∧ W.cell? ((ad.add (i * 6)).add 3) = some (.string (soC q.t)) ∧ W.cell? ((ad.add (i * 6)).add 4) = some (.slice k.a k.n k.c) ∧ W.cell? ((ad.add (i * 6)).add 5) = some (.slice x xn xc) ∧ ArWC W q.t k x xn xc ∧ q.nm.size ≤ 9223372036854775807 ∧ smC q.t) (fun i hin => by
      have hq := hi i (by omega)
      rw [List.getElem?_eq_getElem (show i < elems.length by omega)] at hq
      obtain ⟨cs', h1, h2⟩ := Option.bind_eq_some_iff.1 hq
      rw [hC] at h1
      obtain ⟨_, hl2, hat⟩ := World.cells?_some h1
      obtain ⟨q, k, a, n', c, hf, hr, hsm, hs⟩ := hy_cells _ _ _ h2
      subst hf
      exact ⟨q, k, a, n', c, by simpa [Addr.add] using hat 0 (by simp), hat 1 (by simp), hat 2 (by simp), hat 3 (by simp), hat 4 (by simp), hat 5 (by simp), hr, hs, hsm⟩)
    refine ⟨some ad, len, cap, Y, h1, ⟨hY.symm, hl, hmx, fun h => (by cases h), fun hn => ?_⟩, fun q hq => ?_⟩
    · obtain ⟨b, off, spot⟩ := ad
      have hspot : spot = none := by
        obtain ⟨_, _, _, _, h1, _⟩ := hall 0 (by omega)
        simpa [Addr.add] using World.cell?_spot h1
      subst hspot
      refine ⟨b, off, rfl, ?_, fun i q hq => ?_⟩
      · obtain ⟨_, _, _, _, h1, _⟩ := hall 0 (by omega)
        rw [Go.WideShapes.add_plain] at h1
        exact World.block_lt_of_cell? _ _ h1
      · obtain ⟨hi2, rfl⟩ := List.getElem?_eq_some_iff.1 hq
        obtain ⟨k, a, n, c, h1, h2, h3, h4, h5, h6, h7, _⟩ := hall i hi2
        rw [Go.WideShapes.add_plain] at h1 h2 h3 h4 h5 h6
        rw [Go.WideShapes.add_plain] at h2 h3 h4 h5 h6
        exact ⟨k, a, n, c, h1, h2, h3, h4, h5, h6, h7⟩
    · obtain ⟨i, hi2, rfl⟩ := List.getElem_of_mem hq
      obtain ⟨_, _, _, _, _, _, _, _, _, _, _, h8, h9⟩ := hall i hi2
      exact ⟨h8, h9⟩
/-- a sequent by value -/
structure Sq where
  va : Option Addr
  vn : Nat
  vc : Nat
  V : List Vr
  ha : Option Addr
  hn : Nat
  hc : Nat
  Y : List Hy
  t : Cl
  k : SS
  a : Option Addr
  n : Nat
  c : Nat
def Sq.val (z : Sq) : Value := .agg #[.slice z.va z.vn z.vc, .slice z.ha z.hn z.hc, .int .i64 (opC z.t), .string (nmC z.t), .string (soC z.t), .slice z.k.a z.k.n z.k.c, .slice z.a z.n z.c]
def Sq.ok (z : Sq) (w : World) : Prop := VsW w z.va z.vn z.vc z.V ∧ HsW w z.ha z.hn z.hc z.Y ∧ ArWC w z.t z.k z.a z.n z.c ∧ smC z.t ∧ (∀ q ∈ z.V, q.nm.size ≤ 9223372036854775807 ∧ q.so.size ≤ 9223372036854775807) ∧ ∀ q ∈ z.Y, q.nm.size ≤ 9223372036854775807 ∧ smC q.t
theorem array7 {cs : Array Value} (h : cs.size = 7) : ∃ c0 c1 c2 c3 c4 c5 c6, cs = #[c0, c1, c2, c3, c4, c5, c6] := by
  obtain ⟨l⟩ := cs
  match l, h with
  | [c0, c1, c2, c3, c4, c5, c6], _ => exact ⟨c0, c1, c2, c3, c4, c5, c6, rfl⟩
theorem seq_open_all {r : Reach} {b0 : Nat} {v : Value} {d : DataW H} {p : List MemPlace} (hv : Value.okWide Tryz.prog W r b0 40 v) (h : DataW.Trod enc Tryz.prog W 0 (fun _ => true) true 40 v d p) :
    ∃ z : Sq, v = z.val ∧ z.ok W := by
  obtain ⟨cs, rfl, hsz⟩ := okWide_struct Tryz.underlying40 hv
  have hC : Tryz.prog.cellsOf 40 = 7 := by kernel_rfl
  obtain ⟨c0, c1, c2, c3, c4, c5, c6, rfl⟩ := array7 (hsz.trans hC)
  obtain ⟨fuel, hf⟩ := h
  obtain ⟨xs, n, _, _, hl, hlen, hi⟩ := DataW.trod_struct Tryz.underlying40 hf
  match xs, hlen with
  | [y0, y1, y2], _ =>
    have g0 : DataW.trod enc Tryz.prog W 0 (fun _ => true) true n 37 (([c0, c1, c2, c3, c4, c5, c6].drop 0).take (Tryz.prog.cellsOf 37)) = some y0 := hi 0 _ rfl
    have g1 : DataW.trod enc Tryz.prog W 0 (fun _ => true) true n 38 (([c0, c1, c2, c3, c4, c5, c6].drop 1).take (Tryz.prog.cellsOf 38)) = some y1 := hi 1 _ rfl
    have g2 : DataW.trod enc Tryz.prog W 0 (fun _ => true) true n 33 (([c0, c1, c2, c3, c4, c5, c6].drop 2).take (Tryz.prog.cellsOf 33)) = some y2 := hi 2 _ rfl
    have z0 : Tryz.prog.cellsOf 37 = 1 := by kernel_rfl
    have z1 : Tryz.prog.cellsOf 38 = 1 := by kernel_rfl
    have z2 : Tryz.prog.cellsOf 33 = 5 := by kernel_rfl
    rw [z0] at g0
    rw [z1] at g1
    rw [z2] at g2
    obtain ⟨va, vn, vc, V, rfl, hV, hVz⟩ := vrs_open (v := c0) g0
    obtain ⟨ha, hn, hc, Y, rfl, hY, hYz⟩ := hys_open (v := c1) g1
    obtain ⟨t, k, a, m, c, ⟨hf, hr⟩, hsm⟩ := claimZ_cells n n (Nat.le_refl _) _ _ g2
    have hf2 : [c2, c3, c4, c5, c6] = [.int .i64 (opC t), .string (nmC t), .string (soC t), .slice k.a k.n k.c, .slice a m c] := hf
    simp only [List.cons.injEq, and_true] at hf2
    obtain ⟨rfl, rfl, rfl, rfl, rfl⟩ := hf2
    exact ⟨⟨va, vn, vc, V, ha, hn, hc, Y, t, k, a, m, c⟩, rfl, hV, hY, hr, hsm, hVz, hYz⟩
end
end Go.Proofs.YtndhhmebaboeaaaGreatDoor.Sh
namespace Go.Proofs.YtndhhmebaboeaaaGreatDoor.Sh
open Go.RowKit L T C
set_option linter.unusedVariables false
set_option linter.unusedSimpArgs false
set_option maxRecDepth 100000

def NL : ByteArray := ⟨#[10]⟩
def varT (q : Vr) : ByteArray := (q.nm ++ ⟨#[58, 32]⟩) ++ q.so
theorem varT_size {q : Vr} (h : q.nm.size ≤ 100) (k : q.so.size ≤ 100) : (varT q).size ≤ 202 := by
  have z : (⟨#[58, 32]⟩ : ByteArray).size = 2 := rfl
  unfold varT; rw [ByteArray.size_append, ByteArray.size_append]; omega
theorem vbox (w : World) (s r : ByteArray) : ∃ W, w.alloc (.cells #[.string s, .string r] 42) = W ∧ Below w.heap.size w W ∧ W.heap.size = w.heap.size + 1 ∧ Blk W w.heap.size #[.string s, .string r] 42 :=
  ⟨_, rfl, bel_alloc (Below.refl _ _) _, by simp, Blk.new w _ _⟩
set_option maxHeartbeats 4000000 in
theorem sVar_any (q : Vr) (h : q.nm.size ≤ 100) (k : q.so.size ≤ 100) (w : World) :
    Calls Tryz.prog 18 #[.agg #[.string q.nm, .string q.so]] w fun e w' => e = .returned (.string (varT q)) ∧ Below w.heap.size w w' := by
  obtain ⟨W2, hW2, hB2, hs2, S2⟩ := vbox w q.nm q.so
  have c0 := Blk.cell S2 0
  have c1 := Blk.cell S2 1
  simp only [List.getElem?_toArray, List.getElem?_cons_zero, List.getElem?_cons_succ] at c0 c1
  have z : (⟨#[58, 32]⟩ : ByteArray).size = 2 := rfl
  obtain ⟨P, e1⟩ : ∃ v, q.nm ++ (⟨#[58, 32]⟩ : ByteArray) = v := ⟨_, rfl⟩
  obtain ⟨R, e2⟩ : ∃ v, P ++ q.so = v := ⟨_, rfl⟩
  have hP : P.size ≤ 102 := by rw [← e1, ByteArray.size_append]; omega
  have r1 : ∀ w, (Op.stringOp .add q.nm ⟨#[58, 32]⟩).run Tryz.prog w = .ok (.string P) w := fun w => by rw [run_string_add_sum w _ _ (by omega), e1]
  have r2 : ∀ w, (Op.stringOp .add P q.so).run Tryz.prog w = .ok (.string R) w := fun w => by rw [run_string_add_sum w _ _ (by omega), e2]
  have hT : varT q = R := by unfold varT; rw [e1, e2]
  rw [hT]
  clear e1 e2 hP hT z h k S2
  generalize q.nm = s at *
  generalize q.so = r at *
  go_enter Tryz.func18, Tryz.ntmps18
  go_wp2
  go_ret
  exact ⟨rfl, hB2⟩
set_option maxHeartbeats 4000000 in
theorem rVar_any (q : Vr) (h : q.nm.size ≤ 100) (k : q.so.size ≤ 100) (w : World) :
    Calls Tryz.prog 19 #[.agg #[.string q.nm, .string q.so]] w fun e w' => e = .returned (.string (varT q)) ∧ Below w.heap.size w w' := by
  obtain ⟨W2, hW2, hB2, hs2, S2⟩ := vbox w q.nm q.so
  have c0 := Blk.cell S2 0
  have c1 := Blk.cell S2 1
  simp only [List.getElem?_toArray, List.getElem?_cons_zero, List.getElem?_cons_succ] at c0 c1
  have z : (⟨#[58, 32]⟩ : ByteArray).size = 2 := rfl
  obtain ⟨P, e1⟩ : ∃ v, q.nm ++ (⟨#[58, 32]⟩ : ByteArray) = v := ⟨_, rfl⟩
  obtain ⟨R, e2⟩ : ∃ v, P ++ q.so = v := ⟨_, rfl⟩
  have hP : P.size ≤ 102 := by rw [← e1, ByteArray.size_append]; omega
  have r1 : ∀ w, (Op.stringOp .add q.nm ⟨#[58, 32]⟩).run Tryz.prog w = .ok (.string P) w := fun w => by rw [run_string_add_sum w _ _ (by omega), e1]
  have r2 : ∀ w, (Op.stringOp .add P q.so).run Tryz.prog w = .ok (.string R) w := fun w => by rw [run_string_add_sum w _ _ (by omega), e2]
  have hT : varT q = R := by unfold varT; rw [e1, e2]
  rw [hT]
  clear e1 e2 hP hT z h k S2
  generalize q.nm = s at *
  generalize q.so = r at *
  go_enter Tryz.func19, Tryz.ntmps19
  go_wp2
  go_ret
  exact ⟨rfl, hB2⟩

/-! a builder of the call's own -/
abbrev IsB (B b : Nat) (s : ByteArray) (w : World) : Prop := Lib.IsBuilder 68 5 B b (Lib.byteCells s.data.toList) w
theorem at_below {B b : Nat} {p : Value} {bs : List Value} {w w' : World} (h : Lib.BuilderAt 68 5 B b p bs w) (hb : Below w.heap.size w w') : Lib.BuilderAt 68 5 B b p bs w' := by
  obtain ⟨hB, v, hg, ho, hne⟩ := h
  have hlt := (Array.getElem?_eq_some_iff.1 hg).1
  refine ⟨hB, v, (hb.block b hlt).trans hg, ⟨ho.1, ?_⟩, hne⟩
  rcases ho.2 with h0 | ⟨g, cap, cur, e, h1, h2, h3⟩
  · exact .inl h0
  · exact .inr ⟨g, cap, cur, e, h1, (hb.block g (Array.getElem?_eq_some_iff.1 h2).1).trans h2, h3⟩
theorem IsB.bl {B b : Nat} {s : ByteArray} {w w' : World} (h : IsB B b s w) (hb : Below w.heap.size w w') : IsB B b s w' :=
  h.elim (fun h => .inl (at_below h hb)) (fun h => .inr (at_below h hb))
theorem isB_new (w : World) : IsB w.heap.size w.heap.size ⟨#[]⟩ (w.alloc (.cells #[.pointer none, .slice none 0 0] 68)) := Lib.fresh_isBuilder 68 5 w
theorem bcells_app (s t : ByteArray) : Lib.byteCells s.data.toList ++ Lib.strCells t = Lib.byteCells (s ++ t).data.toList := by
  show Lib.byteCells s.data.toList ++ Lib.byteCells t.data.toList = _
  unfold Lib.byteCells
  rw [← List.map_append]; congr 1
theorem bcells_len (s : ByteArray) : (Lib.byteCells s.data.toList).length = s.size := by
  unfold Lib.byteCells; rw [List.length_map]; show _ = Array.size _; simp
theorem write_any (B b : Nat) (s t : ByteArray) (w : World) (h : IsB B b s w) (hlen : s.size + t.size ≤ 140737488355328) (hBw : B ≤ w.heap.size) :
    Calls Tryz.prog 42 #[.pointer (some ⟨b, 0, none⟩), .string t] w fun e w' => e = .returned (.tuple #[.int .i64 t.size, .nilIface]) ∧ IsB B b (s ++ t) w' ∧ Below B w w' :=
  (Any.Builder_WriteString { Tryz.lays156 with } Tryz.Builder_Extra_156 B b (Lib.byteCells s.data.toList) t w h (by rw [bcells_len]; exact hlen) hBw).mono fun e w' ⟨he, h1, h2⟩ => ⟨he, by
    rw [bcells_app] at h1; exact Or.inr h1, h2⟩
theorem string_any (B b : Nat) (s : ByteArray) (w : World) (h : IsB B b s w) (hBw : B ≤ w.heap.size) :
    Calls Tryz.prog 43 #[.pointer (some ⟨b, 0, none⟩)] w fun e w' => e = .returned (.string s) ∧ Below B w w' :=
  Any.Builder_String_any { Tryz.lays156 with } Tryz.Builder_Extra_156 B b s.data.toList w h hBw

/-! lines one after another -/
def fX {α : Type} (g : α → ByteArray) (s0 : ByteArray) (l : List α) : ByteArray := l.foldl (fun s q => s ++ g q) s0
theorem fX_take {α : Type} (g : α → ByteArray) (s0 : ByteArray) {l : List α} {k : Nat} {q : α} (h : l[k]? = some q) : fX g s0 (l.take (k + 1)) = fX g s0 (l.take k) ++ g q := by
  obtain ⟨hk, rfl⟩ := List.getElem?_eq_some_iff.1 h
  unfold fX
  rw [List.take_add_one, List.getElem?_eq_getElem hk, List.foldl_append]; rfl
theorem fX_size {α : Type} (g : α → ByteArray) (K : Nat) : ∀ (l : List α) (s0 : ByteArray), (∀ q ∈ l, (g q).size ≤ K) → (fX g s0 l).size ≤ s0.size + K * l.length
  | [], s0, _ => by unfold fX; simp
  | q :: l, s0, h => by
    have h1 := h q (by simp)
    have ih := fX_size g K l (s0 ++ g q) (fun x hx => h x (by simp [hx]))
    unfold fX at ih ⊢
    rw [List.foldl_cons, List.length_cons, Nat.mul_add]
    rw [ByteArray.size_append] at ih
    omega
def vL (q : Vr) : ByteArray := varT q ++ ⟨#[10]⟩
noncomputable def hL (q : Hy) : ByteArray := ((q.nm ++ ⟨#[58, 32]⟩) ++ clT q.t) ++ ⟨#[10]⟩
noncomputable def gL (t : Cl) : ByteArray := (⟨#[124, 45, 32]⟩ ++ clT t) ++ ⟨#[10]⟩
noncomputable def sqT (V : List Vr) (Y : List Hy) (t : Cl) : ByteArray := fX hL (fX vL ⟨#[]⟩ V) Y ++ gL t
theorem clT_size {t : Cl} (hk : okC t) (hr : crightE t = 0) : (clT t).size ≤ 1000000000 := by
  have h1 := nmsA_len t
  have h2 := (crightE_part hr).2
  exact cT_size (by omega) hk ⟨by simp, fun x hx => by simp at hx⟩ (by simp; omega) _ _
/-- what the sequents' law lets by -/
def goodV (V : List Vr) : Prop := V.length ≤ 20 ∧ ∀ q ∈ V, q.nm.size ≤ 100 ∧ q.so.size ≤ 100
def goodY (Y : List Hy) : Prop := Y.length ≤ 20 ∧ ∀ q ∈ Y, q.nm.size ≤ 100 ∧ okC q.t ∧ crightE q.t = 0
theorem vL_size {q : Vr} (h : q.nm.size ≤ 100 ∧ q.so.size ≤ 100) : (vL q).size ≤ 203 := by
  have := varT_size h.1 h.2
  have z : (⟨#[10]⟩ : ByteArray).size = 1 := rfl
  unfold vL; rw [ByteArray.size_append]; omega
theorem hL_size {q : Hy} (h : q.nm.size ≤ 100 ∧ okC q.t ∧ crightE q.t = 0) : (hL q).size ≤ 1000000103 := by
  have := clT_size h.2.1 h.2.2
  have z : (⟨#[10]⟩ : ByteArray).size = 1 := rfl
  have z2 : (⟨#[58, 32]⟩ : ByteArray).size = 2 := rfl
  unfold hL; rw [ByteArray.size_append, ByteArray.size_append, ByteArray.size_append]; omega
theorem vX_size {V : List Vr} (h : goodV V) (k : Nat) : (fX vL ⟨#[]⟩ (V.take k)).size ≤ 4060 := by
  have h1 := fX_size vL 203 (V.take k) ⟨#[]⟩ (fun q hq => vL_size (h.2 q (List.mem_of_mem_take hq)))
  have h2 : (V.take k).length ≤ 20 := by rw [List.length_take]; have := h.1; omega
  have h3 : (⟨#[]⟩ : ByteArray).size = 0 := rfl
  have h4 : 203 * (V.take k).length ≤ 203 * 20 := Nat.mul_le_mul_left _ h2
  omega
theorem hX_size {s0 : ByteArray} (hs : s0.size ≤ 4060) {Y : List Hy} (h : goodY Y) (k : Nat) : (fX hL s0 (Y.take k)).size ≤ 20000010000 := by
  have h1 := fX_size hL 1000000103 (Y.take k) s0 (fun q hq => hL_size (h.2 q (List.mem_of_mem_take hq)))
  have h2 : (Y.take k).length ≤ 20 := by rw [List.length_take]; have := h.1; omega
  have h4 : 1000000103 * (Y.take k).length ≤ 1000000103 * 20 := Nat.mul_le_mul_left _ h2
  omega
def SCells (W : World) (g : Nat) (va : Option Addr) (vn vc : Nat) (ha : Option Addr) (hn hc : Nat) (o : Int) (s so : ByteArray) (ka : Option Addr) (kn kc : Nat) (a : Option Addr) (n c : Nat) : Prop :=
  W.cell? ⟨g, 0, none⟩ = some (.slice va vn vc) ∧ W.cell? ⟨g, 1, none⟩ = some (.slice ha hn hc) ∧ W.cell? ⟨g, 2, none⟩ = some (.int .i64 o) ∧ W.cell? ⟨g, 3, none⟩ = some (.string s) ∧ W.cell? ⟨g, 4, none⟩ = some (.string so) ∧ W.cell? ⟨g, 5, none⟩ = some (.slice ka kn kc) ∧ W.cell? ⟨g, 6, none⟩ = some (.slice a n c)
theorem qbox (w : World) (va : Option Addr) (vn vc : Nat) (ha : Option Addr) (hn hc : Nat) (o : Int) (s so : ByteArray) (ka : Option Addr) (kn kc : Nat) (a : Option Addr) (n c : Nat) :
    ∃ W, w.alloc (.cells #[.slice va vn vc, .slice ha hn hc, .int .i64 o, .string s, .string so, .slice ka kn kc, .slice a n c] 40) = W ∧ Below w.heap.size w W ∧ W.heap.size = w.heap.size + 1 ∧ w.heap.size < W.heap.size ∧ SCells W w.heap.size va vn vc ha hn hc o s so ka kn kc a n c := by
  have h := Blk.new w #[.slice va vn vc, .slice ha hn hc, .int .i64 o, .string s, .string so, .slice ka kn kc, .slice a n c] 40
  exact ⟨_, rfl, bel_alloc (Below.refl _ _) _, by simp, Blk.lt h, Blk.cell h 0, Blk.cell h 1, Blk.cell h 2, Blk.cell h 3, Blk.cell h 4, Blk.cell h 5, Blk.cell h 6⟩
theorem SCells.b {W w' : World} {g : Nat} {va : Option Addr} {vn vc : Nat} {ha : Option Addr} {hn hc : Nat} {o : Int} {s so : ByteArray} {ka : Option Addr} {kn kc : Nat} {a : Option Addr} {n c : Nat} (h : SCells W g va vn vc ha hn hc o s so ka kn kc a n c) (hg : g < W.heap.size) (hb : Below W.heap.size W w') : SCells w' g va vn vc ha hn hc o s so ka kn kc a n c :=
  ⟨(hb.cell (p := ⟨g, _, none⟩) hg).trans h.1, (hb.cell (p := ⟨g, _, none⟩) hg).trans h.2.1, (hb.cell (p := ⟨g, _, none⟩) hg).trans h.2.2.1, (hb.cell (p := ⟨g, _, none⟩) hg).trans h.2.2.2.1, (hb.cell (p := ⟨g, _, none⟩) hg).trans h.2.2.2.2.1, (hb.cell (p := ⟨g, _, none⟩) hg).trans h.2.2.2.2.2.1, (hb.cell (p := ⟨g, _, none⟩) hg).trans h.2.2.2.2.2.2⟩
theorem VsW.at {w : World} {a : Option Addr} {n c : Nat} {l : List Vr} (h : VsW w a n c l) {i : Nat} (hi : i < n) : ∃ b o q, a = some ⟨b, o, none⟩ ∧ l[i]? = some q ∧ w.cell? ⟨b, o + i * 2, none⟩ = some (.string q.nm) ∧ w.cell? ⟨b, o + i * 2 + 1, none⟩ = some (.string q.so) := by
  obtain ⟨b, o, e, hlt, hr⟩ := h.2.2.2.2 (by omega)
  have hil : i < l.length := by rw [← h.1]; exact hi
  exact ⟨b, o, l[i], e, List.getElem?_eq_getElem hil, hr i _ (List.getElem?_eq_getElem hil)⟩
theorem HsW.at {w : World} {a : Option Addr} {n c : Nat} {l : List Hy} (h : HsW w a n c l) {i : Nat} (hi : i < n) : ∃ b o q, ∃ (ka : Option Addr) (kn kc : Nat) (x : Option Addr) (xn xc : Nat), a = some ⟨b, o, none⟩ ∧ l[i]? = some q ∧ w.cell? ⟨b, o + i * 6, none⟩ = some (.string q.nm) ∧ w.cell? ⟨b, o + i * 6 + 1, none⟩ = some (.int .i64 (opC q.t)) ∧ w.cell? ⟨b, o + i * 6 + 1 + 1, none⟩ = some (.string (nmC q.t)) ∧ w.cell? ⟨b, o + i * 6 + 1 + 1 + 1, none⟩ = some (.string (soC q.t)) ∧
    w.cell? ⟨b, o + i * 6 + 1 + 1 + 1 + 1, none⟩ = some (.slice ka kn kc) ∧ w.cell? ⟨b, o + i * 6 + 1 + 1 + 1 + 1 + 1, none⟩ = some (.slice x xn xc) ∧ ArWC w q.t ⟨ka, kn, kc⟩ x xn xc := by
  obtain ⟨b, o, e, hlt, hr⟩ := h.2.2.2.2 (by omega)
  have hil : i < l.length := by rw [← h.1]; exact hi
  obtain ⟨k, x, xn, xc, h0, h1, h2, h3, h4, h5, h6⟩ := hr i _ (List.getElem?_eq_getElem hil)
  exact ⟨b, o, l[i], k.a, k.n, k.c, x, xn, xc, e, List.getElem?_eq_getElem hil, h0, h1, h2, h3, h4, h5, h6⟩
theorem hbox (w : World) (nm : ByteArray) (o : Int) (s so : ByteArray) (ka : Option Addr) (kn kc : Nat) (a : Option Addr) (n c : Nat) :
    ∃ W, w.alloc (.cells #[.string nm, .int .i64 o, .string s, .string so, .slice ka kn kc, .slice a n c] 45) = W ∧ Below w.heap.size w W ∧ W.heap.size = w.heap.size + 1 ∧ Blk W w.heap.size #[.string nm, .int .i64 o, .string s, .string so, .slice ka kn kc, .slice a n c] 45 :=
  ⟨_, rfl, bel_alloc (Below.refl _ _) _, by simp, Blk.new w _ _⟩
end Go.Proofs.YtndhhmebaboeaaaGreatDoor.Sh
namespace Go.Proofs.YtndhhmebaboeaaaGreatDoor.Sh
open Go.RowKit L T C
set_option linter.unusedVariables false
set_option linter.unusedSimpArgs false
set_option maxRecDepth 100000

set_option maxHeartbeats 16000000 in
theorem Seq_any {W : World} (E : Env W) (V : List Vr) (Y : List Hy) (t : Cl) (gV : goodV V) (gY : goodY Y) (hk : okC t) (hr : crightE t = 0) (va : Option Addr) (vn vc : Nat) (ha : Option Addr) (hn hc : Nat) (ks : SS) (a : Option Addr) (n c : Nat) (w : World) (hw : Below W.heap.size W w) (hV : VsW w va vn vc V) (hY : HsW w ha hn hc Y) (hA : ArWC w t ks a n c) :
    Calls Tryz.prog 20 #[.agg #[.slice va vn vc, .slice ha hn hc, .int .i64 (opC t), .string (nmC t), .string (soC t), .slice ks.a ks.n ks.c, .slice a n c]] w fun e w' => e = .returned (.string (sqT V Y t)) ∧ Below w.heap.size w w' := by
  obtain ⟨ka, kn, kc⟩ := ks
  dsimp only
  obtain ⟨W1, hW1, hB1, hs1, l1, S1⟩ := qbox w va vn vc ha hn hc (opC t) (nmC t) (soC t) ka kn kc a n c
  have hb2 : Below W1.heap.size W1 (W1.alloc (.cells #[.pointer none, .slice none 0 0] 68)) := bel_alloc (Below.refl _ _) _
  have hI2 := isB_new W1
  obtain ⟨W2, hW2⟩ : ∃ W2, W1.alloc (.cells #[.pointer none, .slice none 0 0] 68) = W2 := ⟨_, rfl⟩
  rw [hW2] at hb2 hI2
  have hV1 := hV.b hB1
  have hY1 := hY.b hB1
  have hA1 := ArWC.b hA hB1
  have hvn : vn ≤ 20 := by rw [hV.1]; exact gV.1
  have hhn : hn ≤ 20 := by rw [hY.1]; exact gY.1
  have hw1 : Below W.heap.size W W1 := hw.trans (hB1.mono hw.size)
  have HS := Lib.hid (show ∀ w', Below W1.heap.size W1 w' → SCells w' w.heap.size va vn vc ha hn hc (opC t) (nmC t) (soC t) ka kn kc a n c from fun w' h => S1.b l1 h)
  -- the variables' lines
  have hvr : ∀ k, k < vn → ∀ w', Below W1.heap.size W1 w' → ∃ b o q, va = some ⟨b, o, none⟩ ∧ w'.cell? ⟨b, o + k * 2, none⟩ = some (.string q.nm) ∧ w'.cell? ⟨b, o + k * 2 + 1, none⟩ = some (.string q.so) ∧ (∀ w, Calls Tryz.prog 18 #[.agg #[.string q.nm, .string q.so]] w fun e w' => e = .returned (.string (varT q)) ∧ Below w.heap.size w w') ∧
      (∀ w, (Op.stringOp .add (varT q) ⟨#[10]⟩).run Tryz.prog w = .ok (.string (vL q)) w) ∧ (∀ (w5 : World), IsB W1.heap.size W1.heap.size (fX vL ⟨#[]⟩ (V.take k)) w5 → W1.heap.size ≤ w5.heap.size → Calls Tryz.prog 42 #[.pointer (some ⟨W1.heap.size, 0, none⟩), .string (vL q)] w5 fun e w' => e = .returned (.tuple #[.int .i64 (vL q).size, .nilIface]) ∧ IsB W1.heap.size W1.heap.size (fX vL ⟨#[]⟩ (V.take (k + 1))) w' ∧ Below W1.heap.size w5 w') := fun k hk2 w' hb => by
    obtain ⟨b, o, q, h1, h2, h3, h4⟩ := (hV1.b hb).at hk2
    have hq := gV.2 q (List.mem_of_getElem? h2)
    have h5 := vL_size hq
    have h6 := varT_size hq.1 hq.2
    refine ⟨b, o, q, h1, h3, h4, fun w => sVar_any q hq.1 hq.2 w, fun w => run_string_add_sum w _ _ (by have z : (⟨#[10]⟩ : ByteArray).size = 1 := rfl; omega), fun w5 h hB => ?_⟩
    have h7 := vX_size gV k
    rw [fX_take vL _ h2]
    exact write_any _ _ _ _ w5 h (by omega) hB
  -- the hypotheses' lines
  have hhr : ∀ k, k < hn → ∀ w', Below W1.heap.size W1 w' → ∃ b o q, ∃ (ka : Option Addr) (kn kc : Nat) (x : Option Addr) (xn xc : Nat), ha = some ⟨b, o, none⟩ ∧ w'.cell? ⟨b, o + k * 6, none⟩ = some (.string q.nm) ∧ w'.cell? ⟨b, o + k * 6 + 1, none⟩ = some (.int .i64 (opC q.t)) ∧ w'.cell? ⟨b, o + k * 6 + 1 + 1, none⟩ = some (.string (nmC q.t)) ∧ w'.cell? ⟨b, o + k * 6 + 1 + 1 + 1, none⟩ = some (.string (soC q.t)) ∧
      w'.cell? ⟨b, o + k * 6 + 1 + 1 + 1 + 1, none⟩ = some (.slice ka kn kc) ∧ w'.cell? ⟨b, o + k * 6 + 1 + 1 + 1 + 1 + 1, none⟩ = some (.slice x xn xc) ∧
      (∀ w5, Below w'.heap.size w' w5 → Calls Tryz.prog 16 #[.agg #[.int .i64 (opC q.t), .string (nmC q.t), .string (soC q.t), .slice ka kn kc, .slice x xn xc]] w5 fun e w6 => e = .returned (.string (clT q.t)) ∧ Below w5.heap.size w5 w6) ∧
      ∃ P R, (∀ w, (Op.stringOp .add q.nm ⟨#[58, 32]⟩).run Tryz.prog w = .ok (.string P) w) ∧ (∀ w, (Op.stringOp .add P (clT q.t)).run Tryz.prog w = .ok (.string R) w) ∧ (∀ w, (Op.stringOp .add R ⟨#[10]⟩).run Tryz.prog w = .ok (.string (hL q)) w) ∧
      (∀ (w5 : World), IsB W1.heap.size W1.heap.size (fX hL (fX vL ⟨#[]⟩ V) (Y.take k)) w5 → W1.heap.size ≤ w5.heap.size → Calls Tryz.prog 42 #[.pointer (some ⟨W1.heap.size, 0, none⟩), .string (hL q)] w5 fun e w' => e = .returned (.tuple #[.int .i64 (hL q).size, .nilIface]) ∧ IsB W1.heap.size W1.heap.size (fX hL (fX vL ⟨#[]⟩ V) (Y.take (k + 1))) w' ∧ Below W1.heap.size w5 w') := fun k hk2 w' hb => by
    obtain ⟨b, o, q, ka, kn, kc, x, xn, xc, h1, h2, h3, h4, h5, h6, h7, h8, h9⟩ := (hY1.b hb).at hk2
    have hq := gY.2 q (List.mem_of_getElem? h2)
    have hs := hL_size hq
    have hcl := clT_size hq.2.1 hq.2.2
    have z : (⟨#[10]⟩ : ByteArray).size = 1 := rfl
    have z2 : (⟨#[58, 32]⟩ : ByteArray).size = 2 := rfl
    refine ⟨b, o, q, ka, kn, kc, x, xn, xc, h1, h3, h4, h5, h6, h7, h8, fun w5 hb5 => Claim_any E q.t hq.2.1 hq.2.2 ⟨ka, kn, kc⟩ x xn xc w5 (hw1.trans ((bel_trans hb hb5).mono hw1.size)) (ArWC.b h9 hb5), _, _, fun w => run_string_add_sum w _ _ (by omega), fun w => run_string_add_sum w _ _ (by rw [ByteArray.size_append]; omega), fun w => run_string_add_sum w _ _ (by rw [ByteArray.size_append, ByteArray.size_append]; omega), fun w5 h hB => ?_⟩
    have hv := vX_size gV V.length
    rw [List.take_length] at hv
    have hz := hX_size hv gY k
    rw [fX_take hL _ h2]
    exact write_any _ _ _ _ w5 h (by omega) hB
  -- the goal's line
  have cG := fun (w' : World) (hb : Below W1.heap.size W1 w') => Claim_any E t hk hr ⟨ka, kn, kc⟩ a n c w' (hw1.trans (hb.mono hw1.size)) (ArWC.b hA1 hb)
  have hcl := clT_size hk hr
  obtain ⟨G1, hG1⟩ : ∃ v, (⟨#[124, 45, 32]⟩ : ByteArray) ++ clT t = v := ⟨_, rfl⟩
  obtain ⟨G2, hG2⟩ : ∃ v, G1 ++ (⟨#[10]⟩ : ByteArray) = v := ⟨_, rfl⟩
  have zg1 : G1.size ≤ 1000000003 := by have z : (⟨#[124, 45, 32]⟩ : ByteArray).size = 3 := rfl; rw [← hG1, ByteArray.size_append]; omega
  have zg2 : G2.size ≤ 1000000004 := by have z : (⟨#[10]⟩ : ByteArray).size = 1 := rfl; rw [← hG2, ByteArray.size_append]; omega
  have r1 : ∀ w, (Op.stringOp .add ⟨#[124, 45, 32]⟩ (clT t)).run Tryz.prog w = .ok (.string G1) w := fun w => by rw [run_string_add_sum w _ _ (by have z : (⟨#[124, 45, 32]⟩ : ByteArray).size = 3 := rfl; omega), hG1]
  have r2 : ∀ w, (Op.stringOp .add G1 ⟨#[10]⟩).run Tryz.prog w = .ok (.string G2) w := fun w => by rw [run_string_add_sum w _ _ (by have z : (⟨#[10]⟩ : ByteArray).size = 1 := rfl; omega), hG2]
  have hZ : sqT V Y t = fX hL (fX vL ⟨#[]⟩ V) Y ++ G2 := by unfold sqT gL; rw [hG1, hG2]
  have cGw := fun (w5 : World) (h : IsB W1.heap.size W1.heap.size (fX hL (fX vL ⟨#[]⟩ V) Y) w5) (hB : W1.heap.size ≤ w5.heap.size) => write_any _ _ _ G2 w5 h (by
    have hv := vX_size gV V.length
    rw [List.take_length] at hv
    have hz := hX_size hv gY Y.length
    rw [List.take_length] at hz
    omega) hB
  rw [hZ]
  have hv0 : fX vL ⟨#[]⟩ (V.take 0) = ⟨#[]⟩ := rfl
  have hvE : fX vL ⟨#[]⟩ (V.take vn) = fX hL (fX vL ⟨#[]⟩ V) (Y.take 0) := by rw [hV.1, List.take_length]; rfl
  have hhE : fX hL (fX vL ⟨#[]⟩ V) (Y.take hn) = fX hL (fX vL ⟨#[]⟩ V) Y := by rw [hY.1, List.take_length]
  obtain ⟨F, hF⟩ : ∃ F : Nat → ByteArray, ∀ k, fX vL ⟨#[]⟩ (V.take k) = F k := ⟨_, fun _ => rfl⟩
  obtain ⟨G, hG⟩ : ∃ G : Nat → ByteArray, ∀ k, fX hL (fX vL ⟨#[]⟩ V) (Y.take k) = G k := ⟨_, fun _ => rfl⟩
  simp only [hF, hG] at hvr hhr hvE hhE hv0
  rw [← hhE] at cGw ⊢
  rw [← hv0] at hI2
  have HVr := Lib.hid hvr
  have HHr := Lib.hid hhr
  have HG := Lib.hid cG
  have HGw := Lib.hid cGw
  have HvE := Lib.hid hvE
  have Hst := Lib.hid (fun (w' : World) (s : ByteArray) (h : IsB W1.heap.size W1.heap.size s w') (hB : W1.heap.size ≤ w'.heap.size) => string_any W1.heap.size W1.heap.size s w' h hB)
  have HI2 := Lib.hid (And.intro hb2 hI2)
  clear hvr hhr cG cGw hvE hhE hv0 hF hG hZ hG1 hG2 zg1 zg2 hcl hV hY hA hV1 hY1 hA1 hk hr gV gY E hw hw1 S1
  generalize clT t = CT at *
  generalize opC t = op at *
  generalize nmC t = nm at *
  generalize soC t = so at *
  obtain ⟨z0, z1, z2, z3, z4, z5, z6⟩ := HS.out W2 hb2
  clear hb2 hI2 hs1
  go_enter Tryz.func20, Tryz.ntmps20
  go_wp2
  go_loopw [11] (fun i wr0 => ∃ (wr : World) (k : Nat), wr = wr0 ∧ k ≤ vn ∧ i = .int .i64 k ∧ Hid (Below W1.heap.size W1 wr ∧ IsB W1.heap.size W1.heap.size (F k) wr)) (fun i _ => vn - (intOf i).toNat)
  case atStart => exact ⟨_, 0, rfl, by omega, rfl, HI2⟩
  case round =>
    obtain ⟨wr, k, rfl, hk, rfl, hB⟩ := hrel
    obtain ⟨hBr, hIr⟩ := hB.out
    by_cases hlt : k < vn
    · obtain ⟨b, o, q, rfl, y0, y1, cv, r10, cwr⟩ := HVr.out k hlt wr hBr
      obtain ⟨W4, hW4, hB4, hs4, S4⟩ := vbox wr q.nm q.so
      have d0 := Blk.cell S4 0
      have d1 := Blk.cell S4 1
      simp only [List.getElem?_toArray, List.getElem?_cons_zero, List.getElem?_cons_succ] at d0 d1
      have hk0 : 0 ≤ (k : Int) := by omega
      have hk1 : (k : Int) < (vn : Int) := by omega
      have CW := Lib.hid cwr
      have HIr := Lib.hid hIr
      clear HVr HHr HG HGw HvE Hst HI2 hs4 S4 hIr cwr z0 z1 z2 z3 z4 z5 z6
      generalize vL q = L at *
      generalize varT q = X at *
      generalize q.nm = qn at *
      generalize q.so = qs at *
      go_wp2_with (first
        | (go_at_call 18; ((with_reducible refine (cv _).mono ?_); rintro e w5 ⟨rfl, hb5⟩; have hb45 := bel_trans hB4 hb5; have hB5 := bel_trans hBr hb45; have cw := CW.out w5 (HIr.out.bl hb45) hB5.size))
        | (go_at_call 42; ((with_reducible refine cw.mono ?_); rintro e w6 ⟨rfl, hI6, hb6⟩; have hB6 := Lib.hid (And.intro (hB5.trans hb6) hI6); clear hI6)))
      go_roundw
      case rel => exact ⟨_, k + 1, rfl, by omega, by go_num, hB6⟩
      case measure => simp [intOf]; omega
    · obtain rfl : k = vn := by omega
      have HI3 := Lib.hid (show Below W1.heap.size W1 wr ∧ IsB W1.heap.size W1.heap.size (G 0) wr from ⟨hBr, by rw [← HvE.out]; exact hIr⟩)
      obtain ⟨x0, x1, x2, x3, x4, x5, x6⟩ := HS.out wr hBr
      clear HVr HvE HI2 hIr hB z0 z1 z2 z3 z4 z5 z6
      go_wp2
      go_loopw [23] (fun i wr0 => ∃ (wq : World) (k : Nat), wq = wr0 ∧ k ≤ hn ∧ i = .int .i64 k ∧ Hid (Below W1.heap.size W1 wq ∧ IsB W1.heap.size W1.heap.size (G k) wq)) (fun i _ => hn - (intOf i).toNat)
      case atStart => exact ⟨_, 0, rfl, by omega, rfl, HI3⟩
      case round =>
        obtain ⟨wq, j, rfl, hj, rfl, hB⟩ := hrel
        obtain ⟨hBq, hIq⟩ := hB.out
        by_cases hlt : j < hn
        · obtain ⟨b, o, q, ka', kn', kc', x, xn, xc, rfl, y0, y1, y2, y3, y4, y5, cC, P, R, rp, rr, rl, cwr⟩ := HHr.out j hlt wq hBq
          obtain ⟨W4, hW4, hB4, hs4, S4⟩ := hbox wq q.nm (opC q.t) (nmC q.t) (soC q.t) ka' kn' kc' x xn xc
          have d0 := Blk.cell S4 0
          have d1 := Blk.cell S4 1
          have d2 := Blk.cell S4 2
          have d3 := Blk.cell S4 3
          have d4 := Blk.cell S4 4
          have d5 := Blk.cell S4 5
          simp only [List.getElem?_toArray, List.getElem?_cons_zero, List.getElem?_cons_succ] at d0 d1 d2 d3 d4 d5
          have lq := Blk.lt S4
          have hk0 : 0 ≤ (j : Int) := by omega
          have hk1 : (j : Int) < (hn : Int) := by omega
          have CW := Lib.hid cwr
          have HIq := Lib.hid hIq
          have HC := Lib.hid cC
          clear HHr HG HGw Hst HI3 hs4 S4 hIq cwr cC x0 x1 x2 x3 x4 x5 x6
          generalize hL q = LL at *
          generalize clT q.t = CQ at *
          generalize q.nm = qn at *
          generalize opC q.t = qo at *
          generalize nmC q.t = qm at *
          generalize soC q.t = qs at *
          have HQ := Lib.hid (show ∀ w', Below W4.heap.size W4 w' → (w'.cell? ⟨wq.heap.size, 0, none⟩ = some (.string qn) ∧ w'.cell? ⟨wq.heap.size, 1, none⟩ = some (.int .i64 qo) ∧ w'.cell? ⟨wq.heap.size, 1 + 1, none⟩ = some (.string qm) ∧ w'.cell? ⟨wq.heap.size, 1 + 1 + 1, none⟩ = some (.string qs) ∧ w'.cell? ⟨wq.heap.size, 1 + 1 + 1 + 1, none⟩ = some (.slice ka' kn' kc') ∧ w'.cell? ⟨wq.heap.size, 1 + 1 + 1 + 1 + 1, none⟩ = some (.slice x xn xc)) from fun w' h =>
            ⟨(h.cell (p := ⟨wq.heap.size, _, none⟩) lq).trans d0, (h.cell (p := ⟨wq.heap.size, _, none⟩) lq).trans d1, (h.cell (p := ⟨wq.heap.size, _, none⟩) lq).trans d2, (h.cell (p := ⟨wq.heap.size, _, none⟩) lq).trans d3, (h.cell (p := ⟨wq.heap.size, _, none⟩) lq).trans d4, (h.cell (p := ⟨wq.heap.size, _, none⟩) lq).trans d5⟩)
          have B4d : Below W4.heap.size W4 W4.drew := (Below.refl _ _).drew
          obtain ⟨e0, e1, e2, e3, e4, e5⟩ := HQ.out W4 (Below.refl _ _)
          go_wp2
          go_region_with (first
            | (go_at_call 16; ((with_reducible refine (HC.out _ (by first | exact hB4 | exact bel_trans hB4 B4d)).mono ?_); rintro e w5 ⟨rfl, hb5⟩; have B5 : Below W4.heap.size W4 w5 := (by first | exact hb5 | exact bel_trans B4d hb5); obtain ⟨v0, v1, v2, v3, v4, v5⟩ := HQ.out w5 B5; have hB5 := bel_trans hBq (bel_trans hB4 B5); have cw := CW.out w5 (HIq.out.bl (bel_trans hB4 B5)) hB5.size))
            | (go_at_call 42; ((with_reducible refine cw.mono ?_); rintro e w6 ⟨rfl, hI6, hb6⟩; have hB6 := Lib.hid (And.intro (hB5.trans hb6) hI6); clear hI6)))
          all_goals go_wp2
          all_goals go_roundw
          all_goals first
            | exact ⟨_, j + 1, rfl, by omega, by go_num, hB6⟩
            | (simp [intOf]; omega)
        · obtain rfl : j = hn := by omega
          have HIq := Lib.hid hIq
          obtain ⟨u0, u1, u2, u3, u4, u5, u6⟩ := HS.out wq hBq
          have cg := HG.out wq hBq
          clear HHr HI3 hIq hB x0 x1 x2 x3 x4 x5 x6
          go_wp2_with (first
            | (go_at_call 16; ((with_reducible refine cg.mono ?_); rintro e w5 ⟨rfl, hb5⟩; have hB5 := bel_trans hBq hb5; have cw := HGw.out w5 (HIq.out.bl hb5) hB5.size))
            | (go_at_call 42; ((with_reducible refine cw.mono ?_); rintro e w6 ⟨rfl, hI6, hb6⟩; have hB6 := hB5.trans hb6; have cs := Hst.out w6 _ hI6 hB6.size; clear hI6))
            | (go_at_call 43; ((with_reducible refine cs.mono ?_); rintro e w7 ⟨rfl, hb7⟩)))
          go_ret
          exact ⟨rfl, bel_trans hB1 (hB6.trans hb7)⟩
end Go.Proofs.YtndhhmebaboeaaaGreatDoor.Sh
namespace Go.Proofs.YtndhhmebaboeaaaGreatDoor.Sh
open Go.RowKit L T C
set_option linter.unusedVariables false
set_option linter.unusedSimpArgs false
set_option maxRecDepth 100000

set_option maxHeartbeats 16000000 in
theorem RSeq_any (V : List Vr) (Y : List Hy) (t : Cl) (gV : goodV V) (gY : goodY Y) (hk : okC t) (hr : crightE t = 0) (va : Option Addr) (vn vc : Nat) (ha : Option Addr) (hn hc : Nat) (ks : SS) (a : Option Addr) (n c : Nat) (w : World) (hV : VsW w va vn vc V) (hY : HsW w ha hn hc Y) (hA : ArWC w t ks a n c) :
    Calls Tryz.prog 21 #[.agg #[.slice va vn vc, .slice ha hn hc, .int .i64 (opC t), .string (nmC t), .string (soC t), .slice ks.a ks.n ks.c, .slice a n c]] w fun e w' => e = .returned (.string (sqT V Y t)) ∧ Below w.heap.size w w' := by
  obtain ⟨ka, kn, kc⟩ := ks
  dsimp only
  obtain ⟨W1, hW1, hB1, hs1, l1, S1⟩ := qbox w va vn vc ha hn hc (opC t) (nmC t) (soC t) ka kn kc a n c
  have hV1 := hV.b hB1
  have hY1 := hY.b hB1
  have hA1 := ArWC.b hA hB1
  have hvn : vn ≤ 20 := by rw [hV.1]; exact gV.1
  have hhn : hn ≤ 20 := by rw [hY.1]; exact gY.1
  have z : (⟨#[10]⟩ : ByteArray).size = 1 := rfl
  have z2 : (⟨#[58, 32]⟩ : ByteArray).size = 2 := rfl
  have z3 : (⟨#[124, 45, 32]⟩ : ByteArray).size = 3 := rfl
  have HS := Lib.hid (show ∀ w', Below W1.heap.size W1 w' → SCells w' w.heap.size va vn vc ha hn hc (opC t) (nmC t) (soC t) ka kn kc a n c from fun w' h => S1.b l1 h)
  have hvr : ∀ k, k < vn → ∃ b o, ∃ q : Vr, va = some ⟨b, o, none⟩ ∧ (∀ w', Below W1.heap.size W1 w' → w'.cell? ⟨b, o + k * 2, none⟩ = some (.string q.nm) ∧ w'.cell? ⟨b, o + k * 2 + 1, none⟩ = some (.string q.so)) ∧ (∀ w, Calls Tryz.prog 19 #[.agg #[.string q.nm, .string q.so]] w fun e w' => e = .returned (.string (varT q)) ∧ Below w.heap.size w w') ∧
      ∃ M, (∀ w, (Op.stringOp .add (fX vL ⟨#[]⟩ (V.take k)) (varT q)).run Tryz.prog w = .ok (.string M) w) ∧ (∀ w, (Op.stringOp .add M ⟨#[10]⟩).run Tryz.prog w = .ok (.string (fX vL ⟨#[]⟩ (V.take (k + 1)))) w) := fun k hk2 => by
    obtain ⟨b, o, q, h1, h2, h3, h4⟩ := hV1.at hk2
    have hlt : b < W1.heap.size := World.block_lt_of_cell? _ _ h3
    have hq := gV.2 q (List.mem_of_getElem? h2)
    have h6 := varT_size hq.1 hq.2
    have h7 := vX_size gV k
    refine ⟨b, o, q, h1, fun w' hb => ⟨(hb.cell (p := ⟨b, _, none⟩) hlt).trans h3, (hb.cell (p := ⟨b, _, none⟩) hlt).trans h4⟩, fun w => rVar_any q hq.1 hq.2 w, _, fun w => run_string_add_sum w _ _ (by omega), fun w => ?_⟩
    rw [run_string_add_sum w _ _ (by rw [ByteArray.size_append]; omega), fX_take vL _ h2]
    unfold vL; rw [ByteArray.append_assoc]
  have hhr : ∀ k, k < hn → ∃ b o, ∃ q : Hy, ∃ (ka : Option Addr) (kn kc : Nat) (x : Option Addr) (xn xc : Nat), ha = some ⟨b, o, none⟩ ∧ (∀ w', Below W1.heap.size W1 w' → w'.cell? ⟨b, o + k * 6, none⟩ = some (.string q.nm) ∧ w'.cell? ⟨b, o + k * 6 + 1, none⟩ = some (.int .i64 (opC q.t)) ∧ w'.cell? ⟨b, o + k * 6 + 1 + 1, none⟩ = some (.string (nmC q.t)) ∧ w'.cell? ⟨b, o + k * 6 + 1 + 1 + 1, none⟩ = some (.string (soC q.t)) ∧
      w'.cell? ⟨b, o + k * 6 + 1 + 1 + 1 + 1, none⟩ = some (.slice ka kn kc) ∧ w'.cell? ⟨b, o + k * 6 + 1 + 1 + 1 + 1 + 1, none⟩ = some (.slice x xn xc)) ∧
      (∀ w5, Below W1.heap.size W1 w5 → Calls Tryz.prog 17 #[.agg #[.int .i64 (opC q.t), .string (nmC q.t), .string (soC q.t), .slice ka kn kc, .slice x xn xc]] w5 fun e w6 => e = .returned (.string (clT q.t)) ∧ Below w5.heap.size w5 w6) ∧
      ∃ P1 P2 P3, (∀ w, (Op.stringOp .add (fX hL (fX vL ⟨#[]⟩ V) (Y.take k)) q.nm).run Tryz.prog w = .ok (.string P1) w) ∧ (∀ w, (Op.stringOp .add P1 ⟨#[58, 32]⟩).run Tryz.prog w = .ok (.string P2) w) ∧ (∀ w, (Op.stringOp .add P2 (clT q.t)).run Tryz.prog w = .ok (.string P3) w) ∧ (∀ w, (Op.stringOp .add P3 ⟨#[10]⟩).run Tryz.prog w = .ok (.string (fX hL (fX vL ⟨#[]⟩ V) (Y.take (k + 1)))) w) := fun k hk2 => by
    obtain ⟨b, o, q, ka, kn, kc, x, xn, xc, h1, h2, h3, h4, h5, h6, h7, h8, h9⟩ := hY1.at hk2
    have hlt : b < W1.heap.size := World.block_lt_of_cell? _ _ h3
    have hq := gY.2 q (List.mem_of_getElem? h2)
    have hcl := clT_size hq.2.1 hq.2.2
    have hq1 := hq.1
    have hv := vX_size gV V.length
    rw [List.take_length] at hv
    have hz := hX_size hv gY k
    refine ⟨b, o, q, ka, kn, kc, x, xn, xc, h1, fun w' hb => ⟨(hb.cell (p := ⟨b, _, none⟩) hlt).trans h3, (hb.cell (p := ⟨b, _, none⟩) hlt).trans h4, (hb.cell (p := ⟨b, _, none⟩) hlt).trans h5, (hb.cell (p := ⟨b, _, none⟩) hlt).trans h6, (hb.cell (p := ⟨b, _, none⟩) hlt).trans h7, (hb.cell (p := ⟨b, _, none⟩) hlt).trans h8⟩, fun w5 hb5 => RClaim_any q.t hq.2.1 hq.2.2 ⟨ka, kn, kc⟩ x xn xc w5 (ArWC.b h9 hb5), _, _, _, fun w => run_string_add_sum w _ _ (by omega), fun w => run_string_add_sum w _ _ (by rw [ByteArray.size_append]; omega), fun w => run_string_add_sum w _ _ (by rw [ByteArray.size_append, ByteArray.size_append]; omega), fun w => ?_⟩
    rw [run_string_add_sum w _ _ (by rw [ByteArray.size_append, ByteArray.size_append, ByteArray.size_append]; omega), fX_take hL _ h2]
    unfold hL; simp only [ByteArray.append_assoc]
  have cG := fun (w' : World) (hb : Below W1.heap.size W1 w') => RClaim_any t hk hr ⟨ka, kn, kc⟩ a n c w' (ArWC.b hA1 hb)
  have hcl := clT_size hk hr
  have hSz : (fX hL (fX vL ⟨#[]⟩ V) Y).size ≤ 20000010000 := by
    have hv := vX_size gV V.length
    rw [List.take_length] at hv
    have hz := hX_size hv gY Y.length
    rw [List.take_length] at hz
    exact hz
  have hGo : ∃ Q1 Q2, (∀ w, (Op.stringOp .add (fX hL (fX vL ⟨#[]⟩ V) Y) ⟨#[124, 45, 32]⟩).run Tryz.prog w = .ok (.string Q1) w) ∧ (∀ w, (Op.stringOp .add Q1 (clT t)).run Tryz.prog w = .ok (.string Q2) w) ∧ (∀ w, (Op.stringOp .add Q2 ⟨#[10]⟩).run Tryz.prog w = .ok (.string (sqT V Y t)) w) := by
    refine ⟨_, _, fun w => run_string_add_sum w _ _ (by omega), fun w => run_string_add_sum w _ _ (by rw [ByteArray.size_append]; omega), fun w => ?_⟩
    rw [run_string_add_sum w _ _ (by rw [ByteArray.size_append, ByteArray.size_append]; omega)]
    unfold sqT gL; simp only [ByteArray.append_assoc]
  have hv0 : fX vL ⟨#[]⟩ (V.take 0) = ⟨#[]⟩ := rfl
  have hvE : fX vL ⟨#[]⟩ (V.take vn) = fX hL (fX vL ⟨#[]⟩ V) (Y.take 0) := by rw [hV.1, List.take_length]; rfl
  have hhE : fX hL (fX vL ⟨#[]⟩ V) (Y.take hn) = fX hL (fX vL ⟨#[]⟩ V) Y := by rw [hY.1, List.take_length]
  obtain ⟨F, hF⟩ : ∃ F : Nat → ByteArray, ∀ k, fX vL ⟨#[]⟩ (V.take k) = F k := ⟨_, fun _ => rfl⟩
  obtain ⟨G, hG⟩ : ∃ G : Nat → ByteArray, ∀ k, fX hL (fX vL ⟨#[]⟩ V) (Y.take k) = G k := ⟨_, fun _ => rfl⟩
  simp only [hF, hG] at hvr hhr hvE hhE hv0
  rw [← hhE] at hGo
  have HVr := Lib.hid hvr
  have HHr := Lib.hid hhr
  have HG := Lib.hid cG
  have HGo := Lib.hid hGo
  have HvE := Lib.hid hvE
  have Hv0 := Lib.hid hv0
  clear hvr hhr cG hGo hvE hhE hv0 hF hG hcl hSz hV hY hA hV1 hY1 hA1 hk hr gV gY z z2 z3
  generalize sqT V Y t = Z at *
  generalize clT t = CT at *
  generalize opC t = op at *
  generalize nmC t = nm at *
  generalize soC t = so at *
  obtain ⟨z0, z1, z2, z3, z4, z5, z6⟩ := S1
  clear hs1
  go_enter Tryz.func21, Tryz.ntmps21
  go_wp2
  go_loopw [3, 4] (fun v i wr0 => ∃ (wr : World) (k : Nat), wr = wr0 ∧ k ≤ vn ∧ v = .string (F k) ∧ i = .int .i64 k ∧ Hid (Below W1.heap.size W1 wr)) (fun _ i _ => vn - (intOf i).toNat)
  case atStart => exact ⟨_, 0, rfl, by omega, by rw [Hv0.out], rfl, Lib.hid (Below.refl _ _)⟩
  case round =>
    obtain ⟨wr, k, rfl, hk, rfl, rfl, hB⟩ := hrel
    have hBr := hB.out
    obtain ⟨x0, x1, x2, x3, x4, x5, x6⟩ := HS.out wr hBr
    clear z0 z1 z2 z3 z4 z5 z6
    by_cases hlt : k < vn
    · obtain ⟨b, o, q, rfl, hy, cv, M, r1, r2⟩ := HVr.out k hlt
      obtain ⟨y0, y1⟩ := hy wr hBr
      have hk0 : 0 ≤ (k : Int) := by omega
      have hk1 : (k : Int) < (vn : Int) := by omega
      clear HVr HHr HG HGo HvE Hv0 hy
      generalize varT q = X at *
      generalize q.nm = qn at *
      generalize q.so = qs at *
      go_wp2_with (go_at_call 19; ((with_reducible refine (cv _).mono ?_); rintro e w5 ⟨rfl, hb5⟩; have hB5 := Lib.hid (bel_trans hBr hb5)))
      go_roundw
      case rel => exact ⟨_, k + 1, rfl, by omega, rfl, by go_num, hB5⟩
      case measure => simp [intOf]; omega
    · obtain rfl : k = vn := by omega
      have hE := HvE.out
      clear HVr HvE Hv0
      go_wp2
      go_loopw [3, 5] (fun v i wr0 => ∃ (wq : World) (k : Nat), wq = wr0 ∧ k ≤ hn ∧ v = .string (G k) ∧ i = .int .i64 k ∧ Hid (Below W1.heap.size W1 wq)) (fun _ i _ => hn - (intOf i).toNat)
      case atStart => exact ⟨_, 0, rfl, by omega, by rw [hE], rfl, hB⟩
      case round =>
        obtain ⟨wq, j, rfl, hj, rfl, rfl, hB⟩ := hrel
        have hBq := hB.out
        obtain ⟨u0, u1, u2, u3, u4, u5, u6⟩ := HS.out wq hBq
        clear x0 x1 x2 x3 x4 x5 x6 hE
        by_cases hlt : j < hn
        · obtain ⟨b, o, q, ka', kn', kc', x, xn, xc, rfl, hy, cC, P1, P2, P3, r1, r2, r3, r4⟩ := HHr.out j hlt
          have hk0 : 0 ≤ (j : Int) := by omega
          have hk1 : (j : Int) < (hn : Int) := by omega
          have HQ := Lib.hid (show ∀ w', Below W1.heap.size W1 w' → _ from fun w' h => And.intro (HS.out w' h).2.1 (hy w' h))
          obtain ⟨y0, y1, y2, y3, y4, y5⟩ := hy wq hBq
          have HC := Lib.hid cC
          clear HHr HG HGo hy cC
          generalize clT q.t = CQ at *
          generalize q.nm = qn at *
          generalize opC q.t = qo at *
          generalize nmC q.t = qm at *
          generalize soC q.t = qs at *
          have Bqd : Below W1.heap.size W1 wq.drew := hBq.drew
          have cq := HC.out wq.drew Bqd
          go_wp2
          go_region_held3 (fun w' => w'.cell? ⟨w.heap.size, 1, none⟩ = some (.slice (some ⟨b, o, none⟩) hn hc) ∧ w'.cell? ⟨b, o + j * 6, none⟩ = some (.string qn) ∧ w'.cell? ⟨b, o + j * 6 + 1, none⟩ = some (.int .i64 qo) ∧ w'.cell? ⟨b, o + j * 6 + 1 + 1, none⟩ = some (.string qm) ∧ w'.cell? ⟨b, o + j * 6 + 1 + 1 + 1, none⟩ = some (.string qs) ∧ w'.cell? ⟨b, o + j * 6 + 1 + 1 + 1 + 1, none⟩ = some (.slice ka' kn' kc') ∧ w'.cell? ⟨b, o + j * 6 + 1 + 1 + 1 + 1 + 1, none⟩ = some (.slice x xn xc))
            (first | exact HQ.out _ Bqd | exact HQ.out _ B5 | go_keep)
            (first
              | (go_at_call 17; ((with_reducible refine cq.mono ?_); rintro e w5 ⟨rfl, hb5⟩; have B5 := bel_trans Bqd hb5)))
          have hB5 := Lib.hid B5
          go_wp2
          go_roundw
          case rel => exact ⟨_, j + 1, rfl, by omega, rfl, by go_num, hB5⟩
          case measure => simp [intOf]; omega
        · obtain rfl : j = hn := by omega
          have cg := HG.out wq hBq
          obtain ⟨Q1, Q2, r1, r2, r3⟩ := HGo.out
          clear HHr HG HGo
          go_wp2_with (go_at_call 17; ((with_reducible refine cg.mono ?_); rintro e w5 ⟨rfl, hb5⟩; have hB5 := bel_trans hBq hb5))
          go_ret
          exact ⟨rfl, bel_trans hB1 hB5⟩
end Go.Proofs.YtndhhmebaboeaaaGreatDoor.Sh
