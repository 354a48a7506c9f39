/-
  What is proved: the library's CompactFunc over places of lists of integers.
-/
import Derived.Test.YthchjceibpcgbaaGreatDoorFA
import Derived.Deep.DeepCutAuto
import Derived.Deep.CutRange
import Derived.Lib.SliceRun
namespace Go.Proofs.YthchjceibpcgbaaGreatDoor.Fi
open Go.RowKit L Lt Cn
set_option linter.unusedVariables false
set_option linter.unusedSimpArgs false

def EqIn (g gc gl n : Nat) (l : List (List Int)) (w0 : World) : Prop := ∀ (i j : Nat) (w : World), Below g w0 w → g ≤ w.heap.size → i < n → j < n →
  Calls Tryz.prog 61 #[.int .i64 i, .int .i64 j, .pointer (some ⟨gc, 0, none⟩), .pointer (some ⟨gl, 0, none⟩)] w fun e w' => e = .returned (.bool (eqR (atL l i) (atL l j))) ∧ Below w.heap.size w w'


def gof (e : Nat → Nat → Bool) : Nat → List Nat → List Nat
  | p, [] => []
  | p, y :: l => if e y p then gof e y l else y :: gof e y l
def comp (e : Nat → Nat → Bool) : List Nat → List Nat
  | [] => []
  | x :: l => x :: gof e x l
theorem gof_sub (e : Nat → Nat → Bool) : ∀ (l : List Nat) (p : Nat), (gof e p l).Sublist l
  | [], p => List.Sublist.refl _
  | y :: l, p => by
    rw [gof]; split
    · exact (gof_sub e l y).cons y
    · exact (gof_sub e l y).cons_cons y
theorem comp_sub (e : Nat → Nat → Bool) : ∀ l : List Nat, (comp e l).Sublist l
  | [] => List.Sublist.refl _
  | x :: l => (gof_sub e l x).cons_cons x
def lst : Nat → List Nat → Nat
  | p, [] => p
  | p, y :: l => lst y l
theorem lst_at : ∀ (l : List Nat) (p : Nat), (p :: l)[l.length]? = some (lst p l)
  | [], p => rfl
  | y :: l, p => by rw [List.length_cons, List.getElem?_cons_succ, lst_at l y]; rfl
theorem gof_snoc (e : Nat → Nat → Bool) (y : Nat) : ∀ (l : List Nat) (p : Nat), gof e p (l ++ [y]) = gof e p l ++ (if e y (lst p l) then [] else [y])
  | [], p => rfl
  | z :: l, p => by
    rw [List.cons_append, gof, gof, gof_snoc e y l z, lst]
    by_cases hh : e z p = true
    · rw [if_pos hh, if_pos hh]
    · rw [if_neg hh, if_neg hh, List.cons_append]
theorem comp_snoc (e : Nat → Nat → Bool) {Z : List Nat} {i p y : Nat} (h1 : Z[i]? = some p) (h2 : Z[i + 1]? = some y) : comp e (Z.take (i + 2)) = comp e (Z.take (i + 1)) ++ (if e y p then [] else [y]) := by
  rw [List.take_add_one (i := i + 1), h2]
  have hl : (Z.take (i + 1)).length = i + 1 := by have := (List.getElem?_eq_some_iff.1 h2).1; simp; omega
  cases hz : Z.take (i + 1) with
  | nil => rw [hz] at hl; simp at hl
  | cons x l =>
    have hlast : lst x l = p := by
      have h3 := lst_at l x
      rw [← hz, show l.length = i by rw [hz] at hl; simpa using hl, List.getElem?_take_of_lt (by omega), h1] at h3
      exact (Option.some.inj h3).symm
    rw [show (x :: l ++ (some y).toList) = x :: (l ++ [y]) from rfl, comp, comp, gof_snoc, hlast]
    rfl
/-- what has been kept so far stands first, the rest as it was -/
def CmpI (e : Nat → Nat → Bool) (Z : List Nat) (k j : Nat) (R : List Nat) : Prop := R = comp e (Z.take j) ++ Z.drop k ∧ k = (comp e (Z.take j)).length ∧ k + 1 ≤ j
theorem CmpI.same {e : Nat → Nat → Bool} {Z : List Nat} {k i p y : Nat} {R : List Nat} (h : CmpI e Z k (i + 1) R) (h1 : Z[i]? = some p) (h2 : Z[i + 1]? = some y) (he : e y p = true) : CmpI e Z k (i + 2) R := by
  obtain ⟨a, b, c⟩ := h
  have := comp_snoc e h1 h2
  rw [he, if_pos rfl, List.append_nil] at this
  exact ⟨by rw [this]; exact a, by rw [this]; exact b, by omega⟩
theorem CmpI.other {e : Nat → Nat → Bool} {Z : List Nat} {k i p y : Nat} {R : List Nat} (h : CmpI e Z k (i + 1) R) (h1 : Z[i]? = some p) (h2 : Z[i + 1]? = some y) (he : e y p = false) : CmpI e Z (k + 1) (i + 2) (R.set k y) := by
  obtain ⟨a, b, c⟩ := h
  have hz := (List.getElem?_eq_some_iff.1 h2).1
  have := comp_snoc e h1 h2
  rw [he, if_neg (by simp)] at this
  refine ⟨?_, by rw [this, List.length_append, ← b]; rfl, by omega⟩
  rw [this, a, List.drop_eq_getElem_cons (show k < Z.length by omega)]
  rw [List.set_append_right _ _ (by omega), ← b, Nat.sub_self, List.set_cons_zero]
  simp
theorem CmpI.at {e : Nat → Nat → Bool} {Z : List Nat} {k i q p : Nat} {R : List Nat} (h : CmpI e Z k (i + 1) R) (hq : i ≤ q) (h1 : Z[q]? = some p) : R[q]? = some p := by
  obtain ⟨a, b, c⟩ := h
  rw [a, List.getElem?_append_right (by omega), ← b, List.getElem?_drop, show k + (q - k) = q by omega]
  exact h1
theorem CmpI.len {e : Nat → Nat → Bool} {Z : List Nat} {k j : Nat} {R : List Nat} (h : CmpI e Z k j R) (hk : k ≤ Z.length) : R.length = Z.length := by
  obtain ⟨a, b, c⟩ := h
  rw [a, List.length_append, ← b, List.length_drop]; omega
/-- cells behind the kept ones set to nought -/
theorem RowN.wipe {g : Nat} {P : List Nat} : ∀ (m o : Nat) (R : List Nat) (w : World), P.length ≤ o → RowN w g (P ++ R) → ∃ R', R'.length = R.length ∧ RowN (w.setCells g o (List.replicate m (.int .i64 0))) g (P ++ R')
  | 0, o, R, w, _, h => ⟨R, rfl, h⟩
  | m + 1, o, R, w, ho, h => by
    have h1 := h.set o 0
    rw [List.set_append_right _ _ ho] at h1
    obtain ⟨R', h2, h3⟩ := RowN.wipe m (o + 1) _ _ (by omega) h1
    exact ⟨R', by rw [h2]; simp, h3⟩
theorem gr_setCells {w0 : World} {g : Nat} : ∀ (vs : List Value) (o : Nat) (w : World), w0.grownBy w (some g) → w0.grownBy (w.setCells g o vs) (some g)
  | [], o, w, h => h
  | v :: vs, o, w, h => gr_setCells vs (o + 1) _ (gr_set h _ _)
theorem clear_row (w : World) (g k : Nat) (R : List Nat) (n c : Nat) (hn : 0 < n) (hl : k + n ≤ R.length) (hr : RowN w g R) :
    ∀ ty, (Builtin.clear_ #[34] ty #[.slice (some ⟨g, k, none⟩) n c]).run Tryz.prog w = .ok (.tuple #[]) (w.setCells g k (List.replicate n (.int .i64 0))) := fun ty =>
  Lib.run_clear_slice (P := Tryz.prog) w 34 3 ty (.int .i64 0) Tryz.underlying34 (fun w => by kernel_rfl) rfl rfl g k n c hn (fun j hj => by rw [RowN.at hr (List.getElem?_eq_getElem (show k + j < R.length by omega))]; rfl) (fun j _ => Blk.free hr (k + j))

set_option maxRecDepth 100000 in
set_option maxHeartbeats 8000000 in
theorem compact_any (g gc gl n : Nat) (l : List (List Int)) (w0 : World) (hc : EqIn g gc gl n l w0) (ef : Nat → Nat → Bool) (hef : ∀ i j, eqR (atL l i) (atL l j) = ef i j) (zs : List Nat) (hlt : ∀ z ∈ zs, z < n) (N : Nat) (hN : N = zs.length) (hN2 : N ≤ 1000000) (w : World) (hb : Below g w0 w) (hr : RowN w g zs) :
    Calls Tryz.prog 60 #[.slice (some ⟨g, 0, none⟩) N N, .func (.func 61) #[] #[.pointer (some ⟨gc, 0, none⟩), .pointer (some ⟨gl, 0, none⟩)]] w fun e w' => e = .returned (.slice (some ⟨g, 0, none⟩) (comp ef zs).length N) ∧ (∃ R, RowN w' g (comp ef zs ++ R)) ∧ w.grownBy w' (some g) := by
  have hg := Blk.lt hr
  by_cases h2 : N < 2
  · have h2' : (N : Int) < 2 := by omega
    have hcz : comp ef zs = zs := by
      match zs, hN with
      | [], _ => rfl
      | [x], _ => rfl
      | x :: y :: l, h => simp at h; omega
    have Hr := Lib.hid (show Ending.returned (.slice (some ⟨g, 0, none⟩) N N) = .returned (.slice (some ⟨g, 0, none⟩) (comp ef zs).length N) ∧ ∃ R, RowN w g (comp ef zs ++ R) from by rw [hcz, ← hN]; exact ⟨rfl, [], by simpa using hr⟩)
    clear hr hc hlt hN hcz hef
    go_enter Tryz.func60, Tryz.ntmps60
    go_wp2
    go_ret
    exact ⟨Hr.out.1, Hr.out.2, World.grownBy.refl _ _⟩
  · have h2' : ¬ (N : Int) < 2 := by omega
    have HC := Lib.hid hc
    have Hef := Lib.hid hef
    have Hlt := Lib.hid hlt
    have HN := Lib.hid hN
    have HC0 : Hid (comp ef (zs.take 1) = zs.take 1) := by
      show _ = _
      match zs with
      | [] => rfl
      | x :: l => simp [comp, gof]
    have HCN : Hid (comp ef (zs.take N) = zs.take N → (∃ R, comp ef zs ++ R = zs) ∧ N = (comp ef zs).length) := fun h => by
      rw [hN, List.take_length] at h
      exact ⟨⟨[], by rw [h]; simp⟩, by rw [h]; exact hN⟩
    have HCD : Hid (∀ k R, CmpI ef zs k N R → (∃ R', R = comp ef zs ++ R') ∧ k = (comp ef zs).length) := fun k R h => by
      obtain ⟨a, b, c⟩ := h
      rw [hN, List.take_length] at a b
      exact ⟨⟨_, a⟩, b⟩
    have Hr := Lib.hid hr
    clear hr hc hlt hN hef
    go_enter Tryz.func60, Tryz.ntmps60
    go_wp2
    go_loopw [5] (fun i wr0 => ∃ (wr : World) (k : Nat), wr = wr0 ∧ k < N ∧ i = .int .i64 ((k : Int) + 1) ∧ w.grownBy wr (some g) ∧ Hid (RowN wr g zs ∧ comp ef (zs.take (k + 1)) = zs.take (k + 1))) (fun i _ => N - (intOf i).toNat)
    case atStart => exact ⟨_, 0, rfl, by omega, rfl, World.grownBy.refl _ _, Lib.hid ⟨Hr.out, HC0.out⟩⟩
    case round =>
      obtain ⟨wr, k, rfl, hk, rfl, hG, hR⟩ := hrel
      by_cases hlk : k + 1 < N
      · have hk0 : k < zs.length := by have := HN.out; omega
        have hk1 : k + 1 < zs.length := by have := HN.out; omega
        obtain ⟨x, hx⟩ : ∃ x, zs[k]? = some x := ⟨_, List.getElem?_eq_getElem hk0⟩
        obtain ⟨y, hy⟩ : ∃ y, zs[k + 1]? = some y := ⟨_, List.getElem?_eq_getElem hk1⟩
        have c0 := RowN.at hR.out.1 hx
        have c1 := RowN.at hR.out.1 hy
        have hgr := Blk.lt hR.out.1
        have hBd : Below wr.heap.size wr wr.drew := (Below.refl _ _).drew
        have hB2 : Below g w0 wr.drew := (hb.trans (gr_below hG (Nat.le_of_lt hg) (Nat.le_refl _))).drew
        have cE := HC.out y x wr.drew hB2 (Nat.le_of_lt hgr) (Hlt.out y (List.mem_of_getElem? hy)) (Hlt.out x (List.mem_of_getElem? hx))
        rw [Hef.out] at cE
        have hsn := comp_snoc ef hx hy
        have hwr : IntKind.i64.wrap ((k : Int) + 1 - 1) = (k : Int) := by rw [IntKind.wrap_i64]; omega
        have hwr2 : IntKind.i64.wrap (k : Int) = (k : Int) := by rw [IntKind.wrap_i64]; omega
        have hi0 : 0 ≤ (k : Int) := by omega
        have hi1 : 0 ≤ (k : Int) + 1 := by omega
        have hi2 : (k : Int) + 1 < (N : Int) := by omega
        have hi3 : (k : Int) < (N : Int) := by omega
        have HRow := Lib.hid hR.out.1
        cases heq : ef y x with
        | false =>
          rw [heq] at cE hsn
          have Hn := Lib.hid (show comp ef (zs.take (k + 1 + 1)) = zs.take (k + 1 + 1) from by
            rw [show k + 1 + 1 = k + 2 from rfl, hsn, hR.out.2, if_neg (by simp), List.take_add_one (i := k + 1), hy]; rfl)
          clear hR hx hy hk0 hk1 hsn heq
          go_upto_region 6 with fail
          go_region_held3 (fun w' => w'.cell? ⟨g, k, none⟩ = some (.int .i64 x) ∧ w'.cell? ⟨g, k + 1, none⟩ = some (.int .i64 y))
            (first | go_keep | (exact ⟨(B4.cell hgr).trans c0, (B4.cell hgr).trans c1⟩))
            (first | (go_at_call 61; ((with_reducible refine cE.mono ?_); rintro e w4 ⟨rfl, hb4⟩; have B4 := bel_trans hBd hb4; have H4 := Lib.hid (Blk.below HRow.out B4))))
          have hg4 : wr.grownBy w4 (some g) := gr_of_below B4 B4.tape
          go_wp2
          go_roundw
          case rel => exact ⟨_, k + 1, rfl, by omega, by go_num, hG.trans hg4, Lib.hid ⟨H4.out, Hn.out⟩⟩
          case measure => simp [intOf]; omega
        | true =>
          rw [heq] at cE hsn
          have Hst : Hid (CmpI ef zs (k + 1) (k + 2) zs) := by
            rw [if_pos rfl, List.append_nil, hR.out.2] at hsn
            refine ⟨by rw [hsn]; exact (List.take_append_drop _ _).symm, by rw [hsn]; simp; omega, by omega⟩
          clear hR hx hy hk0 hk1 hsn heq
          have hne : ¬ N = k + 1 := by omega
          have hle : (k : Int) + 1 ≤ (N : Int) := by omega
          go_upto_region 6 with fail
          go_region_held3 (fun w' => w'.cell? ⟨g, k, none⟩ = some (.int .i64 x) ∧ w'.cell? ⟨g, k + 1, none⟩ = some (.int .i64 y))
            (first | go_keep | (exact ⟨(B4.cell hgr).trans c0, (B4.cell hgr).trans c1⟩))
            (first | (go_at_call 61; ((with_reducible refine cE.mono ?_); rintro e w4 ⟨rfl, hb4⟩; have B4 := bel_trans hBd hb4; have H4 := Lib.hid (Blk.below HRow.out B4))))
          have hg4 : wr.grownBy w4 (some g) := gr_of_below B4 B4.tape
          have hG4 := hG.trans hg4
          clear c0 c1 hgr hBd hB2 cE HRow
          go_wp2
          go_loopw [5, 7] (fun kk jj wr0 => ∃ (w2 : World) (q i : Nat), w2 = wr0 ∧ kk = .int .i64 (q : Int) ∧ jj = .int .i64 ((i : Int) + 1) ∧ k + 2 + i ≤ N ∧ q + 1 ≤ k + 2 + i ∧ w.grownBy w2 (some g) ∧ Hid (∃ R, RowN w2 g R ∧ CmpI ef zs q (k + 2 + i) R)) (fun kk jj _ => N - (intOf jj).toNat)
          case atStart => exact ⟨_, k + 1, 0, rfl, by go_num, rfl, by omega, by omega, hG4, Lib.hid ⟨zs, H4.out, Hst.out⟩⟩
          case round =>
            obtain ⟨w2, q, i, rfl, rfl, rfl, hjn, hqj, hG2, hI⟩ := hrel
            obtain ⟨R, hRow2, hCI⟩ := hI.out
            have hgr2 := Blk.lt hRow2
            clear hI
            by_cases hlt2 : k + 2 + i < N
            · obtain ⟨x2, hx2⟩ : ∃ p, zs[k + 1 + i]? = some p := ⟨_, List.getElem?_eq_getElem (by have := HN.out; omega)⟩
              obtain ⟨y2, hy2⟩ : ∃ p, zs[k + 1 + i + 1]? = some p := ⟨_, List.getElem?_eq_getElem (by have := HN.out; omega)⟩
              rw [show k + 2 + i = k + 1 + i + 1 by omega] at hCI
              have c0 := RowN.at hRow2 (hCI.at (q := k + 1 + i) (by omega) hx2)
              have c1 := RowN.at hRow2 (hCI.at (q := k + 1 + i + 1) (by omega) hy2)
              rw [show k + 1 + i + 1 = k + 1 + (i + 1) by omega] at c1
              have hBd : Below w2.heap.size w2 w2.drew := (Below.refl _ _).drew
              have hB2 : Below g w0 w2.drew := (hb.trans (gr_below hG2 (Nat.le_of_lt hg) (Nat.le_refl _))).drew
              have cE := HC.out y2 x2 w2.drew hB2 (Nat.le_of_lt hgr2) (Hlt.out y2 (List.mem_of_getElem? hy2)) (Hlt.out x2 (List.mem_of_getElem? hx2))
              rw [Hef.out] at cE
              have HRow := Lib.hid hRow2
              have hwr3 : IntKind.i64.wrap ((i : Int) + 1 - 1) = (i : Int) := by rw [IntKind.wrap_i64]; omega
              have hwr4 : IntKind.i64.wrap (i : Int) = (i : Int) := by rw [IntKind.wrap_i64]; omega
              have j0 : 0 ≤ (i : Int) := by omega
              have j1 : 0 ≤ (i : Int) + 1 := by omega
              have j2 : (i : Int) + 1 < ((N - (k + 1) : Nat) : Int) := by omega
              have j3 : (i : Int) < ((N - (k + 1) : Nat) : Int) := by omega
              have q0 : 0 ≤ (q : Int) := by omega
              have q1 : (q : Int) < (N : Int) := by omega
              cases heq : ef y2 x2 with
              | true =>
                have Hn := Lib.hid (hCI.same hx2 hy2 heq)
                rw [heq] at cE
                clear hRow2 hCI hx2 hy2 heq
                go_upto_region 11 with fail
                go_region_held3 (fun w' => w'.cell? ⟨g, k + 1 + i, none⟩ = some (.int .i64 x2) ∧ w'.cell? ⟨g, k + 1 + (i + 1), none⟩ = some (.int .i64 y2))
                  (first | go_keep | (exact ⟨(B5.cell hgr2).trans c0, (B5.cell hgr2).trans c1⟩))
                  (first | (go_at_call 61; ((with_reducible refine cE.mono ?_); rintro e w5 ⟨rfl, hb5⟩; have B5 := bel_trans hBd hb5; have H5 := Lib.hid (Blk.below HRow.out B5))))
                have hg5 : w2.grownBy w5 (some g) := gr_of_below B5 B5.tape
                go_wp2
                all_goals go_roundw
                case rel => exact ⟨_, q, i + 1, rfl, rfl, by go_num, by omega, by omega, hG2.trans hg5, Lib.hid ⟨R, H5.out, by rw [show k + 2 + (i + 1) = k + 1 + i + 2 by omega]; exact Hn.out⟩⟩
                case measure => simp [intOf]; omega
              | false =>
                have Hn := Lib.hid (hCI.other hx2 hy2 heq)
                rw [heq] at cE
                have hRl := hCI.len (by have := HN.out; omega)
                obtain ⟨u, hu⟩ : ∃ u, R[q]? = some u := ⟨_, List.getElem?_eq_getElem (by have := HN.out; omega)⟩
                have cu := RowN.at hRow2 hu
                have fu := Blk.free hRow2 q
                clear hRow2 hCI hx2 hy2 heq hRl hu
                go_upto_region 11 with fail
                go_region_held3 (fun w' => w'.cell? ⟨g, k + 1 + i, none⟩ = some (.int .i64 x2) ∧ w'.cell? ⟨g, k + 1 + (i + 1), none⟩ = some (.int .i64 y2))
                  (first | go_keep | (exact ⟨(B5.cell hgr2).trans c0, (B5.cell hgr2).trans c1⟩))
                  (first | (go_at_call 61; ((with_reducible refine cE.mono ?_); rintro e w5 ⟨rfl, hb5⟩; have B5 := bel_trans hBd hb5; have H5 := Lib.hid (Blk.below HRow.out B5))))
                have hg5 : w2.grownBy w5 (some g) := gr_of_below B5 B5.tape
                have HS := Lib.hid (RowN.set H5.out q y2)
                have d1 := (B5.cell (p := ⟨g, k + 1 + (i + 1), none⟩) hgr2).trans c1
                have d2 := (B5.cell (p := ⟨g, q, none⟩) hgr2).trans cu
                have d3 := (B5.frozen (p := ⟨g, q, none⟩) hgr2).trans fu
                clear c0 c1 cu fu
                go_wp2
                all_goals go_roundw
                case rel => exact ⟨_, q + 1, i + 1, rfl, by go_num, by go_num, by omega, by omega, gr_set (hG2.trans hg5) _ _, Lib.hid ⟨_, HS.out, by rw [show k + 2 + (i + 1) = k + 1 + i + 2 by omega]; exact Hn.out⟩⟩
                case measure => simp [intOf]; omega
            · obtain rfl : N = k + 2 + i := by omega
              obtain ⟨⟨R', hR'⟩, hq⟩ := HCD.out q R hCI
              have hRl := hCI.len (by have := HN.out; omega)
              have hcl := clear_row w2 g q R (k + 2 + i - q) (k + 2 + i - q) (by omega) (by have := HN.out; omega) hRow2
              have HK := Lib.hid (show (∃ R2, RowN (w2.setCells g q (List.replicate (k + 2 + i - q) (.int .i64 0))) g (comp ef zs ++ R2)) ∧ q = (comp ef zs).length from by
                rw [hR'] at hRow2
                obtain ⟨R2, e1, e2⟩ := RowN.wipe (k + 2 + i - q) q R' w2 (by omega) hRow2
                exact ⟨⟨R2, e2⟩, hq⟩)
              have j2 : ¬ (i : Int) + 1 < ((k + 2 + i - (k + 1) : Nat) : Int) := by omega
              have q0 : 0 ≤ (q : Int) := by omega
              have q1 : (q : Int) ≤ ((k + 2 + i : Nat) : Int) := by omega
              have q2 : ¬ k + 2 + i = q := by omega
              have hG7 := gr_setCells (List.replicate (k + 2 + i - q) (.int .i64 0)) q w2 hG2
              clear hRow2 hCI hR' hq hRl
              go_wp2
              go_ret
              exact ⟨by rw [← HK.out.2]; rfl, HK.out.1, hG7⟩
      · have hi2 : ¬ (k : Int) + 1 < (N : Int) := by omega
        obtain rfl : N = k + 1 := by omega
        have HE := Lib.hid (HCN.out hR.out.2)
        have HRow := Lib.hid hR.out.1
        clear hR
        go_wp2
        go_ret
        obtain ⟨⟨R, h1⟩, h2⟩ := HE.out
        exact ⟨by rw [← h2]; rfl, ⟨R, by rw [h1]; exact HRow.out⟩, hG⟩

end Go.Proofs.YthchjceibpcgbaaGreatDoor.Fi
