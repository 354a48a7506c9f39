/-
  What is proved: an argument that is a signature, or variables, reads as one, of lengths below 2^44 (the form's own reach).
-/
import Derived.Test.YtacncbkcnhlpcaaWA
import Derived.Test.YtacncbkcnhlpcaaBL
import Derived.SizedLaws
import Derived.Deep.Strs
namespace Go.Proofs.Ytacncbkcnhlpcaa.Wl
open Go.RowKit Go.Deep Go.ChangeShapes Go.WideShapes Go.Joins L T C
open Sgn (SlG Fm Core cores)
set_option linter.unusedVariables false
set_option linter.unusedSimpArgs false
set_option maxRecDepth 100000

structure SgZ where
  a : Option Addr
  n : Nat
  c : Nat
  S : List ByteArray
  b : Option Addr
  m : Nat
  d : Nat
  G : List Fm
def SgZ.val (z : SgZ) : Value := .agg #[.slice z.a z.n z.c, .slice z.b z.m z.d]
def SgZ.ok (z : SgZ) (W : World) : Prop := SlS W z.a z.n z.c z.S ∧ z.n ≤ 17592186044416 ∧ SlG W z.b z.m z.d z.G ∧ z.m ≤ 17592186044416 ∧ ∀ f ∈ z.G, f.m ≤ 17592186044416

section
variable {H : Type} {enc : TypeId × Value → H} {W : World} {sp : Nat → Bool}
theorem weights_all {P : Program} {e : TypeId} {n : Nat} : ∀ {ds : List (DataW H)} {x : DataW H}, x ∈ ds → n ∈ x.weights P e → n ∈ DataW.weightsAll P e ds
  | [], _, h, _ => by cases h
  | d :: r, x, h, hn => by
    simp only [DataW.weightsAll, List.mem_append]
    rcases List.mem_cons.1 h with rfl | h
    · exact .inl hn
    · exact .inr (weights_all h hn)
/-- a slice's length, and its elements' weights, by the form's reach -/
theorem len_w {t e : TypeId} {a : Option Addr} {n c fuel : Nat} {y : DataW H × List MemPlace} (hu : Try.prog.underlying t = some (.slice e)) (h : DataW.trod enc Try.prog W 0 sp true fuel t [.slice a n c] = some y) (hw : ∀ k ∈ y.1.weights Try.prog t, k ≤ reachBytes) :
    n * Try.prog.bytesOf e ≤ reachBytes := by
  rcases open_slice hu h with ⟨hcs, _⟩ | ⟨ad, len, cap, m, n', D, Pl, hcs, _, hl, hmx, hm, hx, hi⟩
  · simp at hcs
    obtain ⟨_, rfl, _⟩ := hcs
    simp
  · simp at hcs
    obtain ⟨_, rfl, _⟩ := hcs
    subst hx
    refine Nat.le_trans (Nat.mul_le_mul_right _ ?_) (hw _ (by simp only [DataW.weights, hu]; exact List.mem_cons_self ..))
    simp
theorem str_cellZ {v : Value} {fuel : Nat} {y : DataW H × List MemPlace} (h : DataW.trod enc Try.prog W 0 sp true fuel 9 [v] = some y) : ∃ s : ByteArray, v = .string s := by
  obtain ⟨s, e, _, hs⟩ := DataW.trod_string Try.underlying9 h
  exact ⟨s, by simpa using e⟩
theorem bytes16 : Try.prog.bytesOf 9 = 16 := by kernel_rfl
theorem reach16 {n : Nat} (h : n * 16 ≤ reachBytes) : n ≤ 17592186044416 := by
  have := Nat.lt_of_le_of_lt h reachBytes_lt
  omega
theorem strs_cellZ {v : Value} {fuel : Nat} {y : DataW H × List MemPlace} (h : DataW.trod enc Try.prog W 0 sp true fuel 22 [v] = some y) (hw : ∀ k ∈ y.1.weights Try.prog 22, k ≤ reachBytes) : ∃ A n c X, v = .slice A n c ∧ n ≤ 17592186044416 ∧ SlS W A n c X := by
  have key : ∀ A n c, v = .slice A n c → ∃ A n c X, v = .slice A n c ∧ n ≤ 17592186044416 ∧ SlS W A n c X := fun A n c e => by
    subst e
    obtain ⟨X, h1, h2, h3⟩ := strs_open (enc := enc) (W := W) (a := A) (n := n) (c := c) (d := y.1) (p := y.2) (sp := sp) ⟨fuel, by simpa [Value.cells] using h⟩
    have := len_w Try.underlying22 h hw
    rw [bytes16] at this
    exact ⟨_, _, _, X, rfl, reach16 this, h2⟩
  rcases open_strings Try.underlying22 Try.underlying9 (by kernel_rfl) h with ⟨hcs, _⟩ | ⟨ad, len, cap, ss, hcs, _⟩
  · exact key none 0 0 (by simpa using hcs)
  · exact key (some ad) len cap (by simpa using hcs)
theorem one_cellZ {a : Addr} {f0 : Nat} {x : DataW H × List MemPlace} {cs : List Value} {base : Nat}
    (hc : W.cells? base a 3 = some cs) (ht : DataW.trod enc Try.prog W 0 sp true f0 62 cs = some x) (hw : ∀ k ∈ x.1.weights Try.prog 62, k ≤ reachBytes) :
    ∃ f : Fm, W.cell? a = some (.string f.name) ∧ W.cell? (a.add 1) = some (.slice f.a f.m f.c) ∧ W.cell? (a.add 2) = some (.string f.res) ∧ f.ok W ∧ f.m ≤ 17592186044416 := by
  obtain ⟨_, hl, hat⟩ := World.cells?_some hc
  obtain ⟨xs, n2, _, hx, _, hxl, hf⟩ := DataW.trod_struct Try.underlying62 ht
  match cs, hl with
  | [c0, c1, c2], _ =>
    match xs, hxl with
    | [x0, x1, x2], _ =>
      have g0 : DataW.trod enc Try.prog W 0 sp true n2 9 (([c0, c1, c2].drop 0).take (Try.prog.cellsOf 9)) = some x0 := hf 0 _ rfl
      have g1 : DataW.trod enc Try.prog W 0 sp true n2 22 (([c0, c1, c2].drop 1).take (Try.prog.cellsOf 22)) = some x1 := hf 1 _ rfl
      have g2 : DataW.trod enc Try.prog W 0 sp true n2 9 (([c0, c1, c2].drop 2).take (Try.prog.cellsOf 9)) = some x2 := hf 2 _ rfl
      have z1 : Try.prog.cellsOf 22 = 1 := by kernel_rfl
      have z2 : Try.prog.cellsOf 9 = 1 := by kernel_rfl
      rw [z2] at g0 g2
      rw [z1] at g1
      subst hx
      obtain ⟨s, q0⟩ := str_cellZ g0
      obtain ⟨A, m, c, X, q1, hm, hX⟩ := strs_cellZ g1 (fun k hk => hw k (by simp [DataW.weights, Try.underlying62, DataW.weightsEach]; exact .inr (.inl hk)))
      obtain ⟨r, q2⟩ := str_cellZ g2
      have q0 : c0 = .string s := by simpa using q0
      have q1 : c1 = .slice A m c := by simpa using q1
      have q2 : c2 = .string r := by simpa using q2
      subst q0 q1 q2
      exact ⟨⟨s, A, m, c, X, r⟩, by simpa [Addr.add] using hat 0 (by decide), hat 1 (by decide), hat 2 (by decide), hX, hm⟩
theorem bytesF : 16 ≤ Try.prog.bytesOf 62 := by
  have : Try.prog.bytesOf 62 = 56 := by kernel_rfl
  omega
theorem funs_cellZ (hsp : ∀ b, sp b = true) {v : Value} {fuel : Nat} {y : DataW H × List MemPlace} (h : DataW.trod enc Try.prog W 0 sp true fuel 23 [v] = some y) (hw : ∀ k ∈ y.1.weights Try.prog 23, k ≤ reachBytes) :
    ∃ A n c G, v = .slice A n c ∧ n ≤ 17592186044416 ∧ SlG W A n c G ∧ ∀ f ∈ G, f.m ≤ 17592186044416 := by
  rcases open_slice Try.underlying23 h with ⟨hcs, _⟩ | ⟨ad, len, cap, m, n', D, Pl, hcs, _, hl, hmx, hm, hx, hi⟩
  · obtain rfl : v = .slice none 0 0 := by simpa using hcs
    exact ⟨_, _, _, [], rfl, by omega, Sgn.SlG.nul W, fun C hC => absurd hC (by simp)⟩
  · obtain rfl : v = .slice (some ad) len cap := by simpa using hcs
    have hlen := len_w Try.underlying23 h hw
    have hlen16 : len * 16 ≤ reachBytes := Nat.le_trans (Nat.mul_le_mul_left _ bytesF) hlen
    rw [hsp, if_pos rfl] at hm
    have hC : Try.prog.cellsOf 62 = 3 := by kernel_rfl
    subst hx
    obtain ⟨Y, hY, hall⟩ := list_ofV len (P := fun i (f : Fm) => W.cell? (ad.add (i * 3)) = some (.string f.name) ∧ W.cell? ((ad.add (i * 3)).add 1) = some (.slice f.a f.m f.c) ∧ W.cell? ((ad.add (i * 3)).add 2) = some (.string f.res) ∧ f.ok W ∧ f.m ≤ 17592186044416) (fun i hin => by
      obtain ⟨cs', h1, h2⟩ := hi i (by omega)
      rw [hC] at h1
      refine one_cellZ h1 h2 fun k hk => hw k ?_
      simp only [DataW.weights, Try.underlying23]
      refine List.mem_cons_of_mem _ (List.mem_append_left _ (weights_all (x := D i) ?_ hk))
      exact List.mem_map.2 ⟨i, List.mem_range.2 hin, rfl⟩)
    refine ⟨_, _, _, Y, rfl, reach16 hlen16, ⟨⟨hY.symm, fun hn => ?_, fun f hf => ?_⟩, hl, fun h => by cases h⟩, fun f hf => ?_⟩
    · obtain ⟨b, off, spot⟩ := ad
      have hspot : spot = none := by simpa [Addr.add] using World.cell?_spot (hall 0 (by omega)).1
      subst hspot
      refine ⟨b, off, rfl, ?_, fun i hi2 => ?_⟩
      · have := (hall 0 (by omega)).1
        rw [Go.WideShapes.add_plain] at this
        exact World.block_lt_of_cell? _ _ this
      · obtain ⟨h1, h2, h3, _⟩ := hall i hi2
        rw [Go.WideShapes.add_plain] at h1 h2 h3
        rw [Go.WideShapes.add_plain] at h2 h3
        exact ⟨h1, h2, h3⟩
    · obtain ⟨i, hi2, rfl⟩ := List.mem_iff_getElem.1 hf
      exact (hall i hi2).2.2.2.1
    · obtain ⟨i, hi2, rfl⟩ := List.mem_iff_getElem.1 hf
      exact (hall i hi2).2.2.2.2
theorem sign_openZ {r : Reach} {b0 : Nat} {v : Value} {d : DataW H} {p : List MemPlace} (hv : Value.okWide Try.prog W r b0 25 v) (h : DataW.Trod enc Try.prog W 0 (fun _ => true) true 25 v d p) (hw : ∀ k ∈ d.weights Try.prog 25, k ≤ reachBytes) :
    ∃ z : SgZ, v = z.val ∧ z.ok W := by
  obtain ⟨v0, v1, y0, y1, n, rfl, rfl, _, g0, g1⟩ := open_agg2 Try.underlying25 (by kernel_rfl) (by kernel_rfl) hv h
  have hw0 : ∀ k ∈ y0.1.weights Try.prog 22, k ≤ reachBytes := fun k hk => hw k (by simp [DataW.weights, Try.underlying25, DataW.weightsEach]; exact .inl hk)
  have hw1 : ∀ k ∈ y1.1.weights Try.prog 23, k ≤ reachBytes := fun k hk => hw k (by simp [DataW.weights, Try.underlying25, DataW.weightsEach]; exact .inr hk)
  obtain ⟨A, k, c, S, rfl, hk, hS⟩ := strs_cellZ g0 hw0
  obtain ⟨B, m, d, G, rfl, hm, hG, hzG⟩ := funs_cellZ (fun _ => rfl) g1 hw1
  exact ⟨⟨A, k, c, S, B, m, d, G⟩, rfl, hS, hk, hG, hm, hzG⟩
theorem vars_openZ {a : Option Addr} {n c : Nat} {d : DataW H} {p : List MemPlace} (h : DataW.Trod enc Try.prog W 0 (fun _ => true) true 26 (.slice a n c) d p) (hw : ∀ k ∈ d.weights Try.prog 26, k ≤ reachBytes) :
    ∃ V : List Vr, n ≤ 17592186044416 ∧ SlV W a n c V ∧ ∀ v ∈ V, v.1.size ≤ 9223372036854775807 ∧ v.2.size ≤ 9223372036854775807 := by
  obtain ⟨V, _, h1, h2⟩ := vars_open_all h
  obtain ⟨fuel, hf⟩ := h
  have hl := len_w (y := (d, p)) Try.underlying26 (by simpa [Value.cells] using hf) hw
  have h32 : Try.prog.bytesOf 64 = 32 := by kernel_rfl
  rw [h32] at hl
  exact ⟨V, reach16 (by omega), h1, h2⟩
end
end Go.Proofs.Ytacncbkcnhlpcaa.Wl
