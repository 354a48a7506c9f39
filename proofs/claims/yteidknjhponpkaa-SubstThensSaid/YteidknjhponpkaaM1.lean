/-
  What is proved: the first terms of lists put together, of neighbours swapped or left out (plain mathematics).
  What is proved: lists of pairs cut in two; a box of one pair as a list of one.
  What is proved: what the document's Put of layer 10 returns.
  What is proved: lists of pairs by rising names: the stable order keeps the first terms; of rising lists with the same first terms there is one; putting pairs in one by one (plain mathematics).
-/
import Derived.Test.YteidknjhponpkaaBM
import Derived.Test.YteidknjhponpkaaBB
import Derived.Test.YteidknjhponpkaaBS
import Derived.Deep.RegionHeld3
import Derived.Test.YteidknjhponpkaaBL
namespace Go.Proofs.Yteidknjhponpkaa.U
open Go.RowKit L T C B
set_option linter.unusedVariables false
set_option linter.unusedSimpArgs false

theorem getU_app (l m : List Pr) (s : ByteArray) : getU (l ++ m) s = match getU l s with | some u => some u | none => getU m s := by
  induction l with
  | nil => rw [getU]; rfl
  | cons p l ih =>
    rw [List.cons_append, getU, getU]
    by_cases h : (p.nm.toList == s.toList) = true
    · rw [if_pos h, if_pos h]
    · rw [if_neg h, if_neg h, ih]
theorem getU_swap (l m : List Pr) (p q : Pr) (h : (p.nm.toList == q.nm.toList) = false) (s : ByteArray) : getU (l ++ q :: p :: m) s = getU (l ++ p :: q :: m) s := by
  have e : getU (q :: p :: m) s = getU (p :: q :: m) s := by
    rw [getU, getU, getU, getU]
    by_cases h1 : (p.nm.toList == s.toList) = true
    · by_cases h2 : (q.nm.toList == s.toList) = true
      · rw [beq_iff_eq] at h1 h2
        rw [h1, ← h2, beq_self_eq_true] at h
        cases h
      · rw [if_pos h1, if_neg h2, if_pos h1]
    · by_cases h2 : (q.nm.toList == s.toList) = true
      · rw [if_neg h1, if_pos h2, if_neg h1]
      · rw [if_neg h1, if_neg h2, if_neg h1]
  rw [getU_app, getU_app, e]
theorem getU_drop (l m : List Pr) (p q : Pr) (h : (p.nm.toList == q.nm.toList) = true) (s : ByteArray) : getU (l ++ p :: m) s = getU (l ++ p :: q :: m) s := by
  have e : getU (p :: m) s = getU (p :: q :: m) s := by
    rw [getU, getU, getU]
    by_cases h1 : (p.nm.toList == s.toList) = true
    · rw [if_pos h1, if_pos h1]
    · have h2 : ¬ (q.nm.toList == s.toList) = true := by
        rw [beq_iff_eq] at h
        rw [← h]; exact h1
      rw [if_neg h1, if_neg h1, if_neg h2]
  rw [getU_app, getU_app, e]
theorem getU_map (f : Tm → Tm) (s : ByteArray) : ∀ l : List Pr, getU (l.map (fun p => (⟨p.nm, f p.t⟩ : Pr))) s = (getU l s).map f
  | [] => by rw [List.map_nil, getU]; rfl
  | p :: l => by
    rw [List.map_cons, getU, getU, getU_map f s l]
    by_cases h : (p.nm.toList == s.toList) = true
    · rw [if_pos h, if_pos h]; rfl
    · rw [if_neg h, if_neg h]
end Go.Proofs.Yteidknjhponpkaa.U
namespace Go.Proofs.Yteidknjhponpkaa.Mt
open Go.RowKit L T C U
set_option linter.unusedVariables false
set_option linter.unusedSimpArgs false

theorem UP.take {P : Nat → Prop} {w : World} {A : Option Addr} {n c : Nat} {l : List Pr} (h : UP P w A n c l) (k : Nat) (hk : k ≤ n) : UP P w A k c (l.take k) := by
  refine ⟨by rw [List.length_take, ← h.1]; omega, Nat.le_trans hk h.2.1, h.2.2.1, h.2.2.2.1, fun hn => ?_⟩
  obtain ⟨b, o, h1, h2, h3⟩ := h.2.2.2.2 (by omega)
  exact ⟨b, o, h1, h2, fun i p hi => h3 i p (by
    rw [List.getElem?_take] at hi
    split at hi
    · exact hi
    · cases hi)⟩
theorem UP.drop {P : Nat → Prop} {w : World} {b o : Nat} {n c : Nat} {l : List Pr} (h : UP P w (some ⟨b, o, none⟩) n c l) (k : Nat) (hk : k < n) : UP P w (some ⟨b, o + k * 5, none⟩) (n - k) (c - k) (l.drop k) := by
  refine ⟨by rw [List.length_drop, ← h.1], by have := h.2.1; omega, by have := h.2.2.1; omega, (fun e => by cases e), fun hn => ?_⟩
  obtain ⟨b', o', h1, h2, h3⟩ := h.2.2.2.2 (by omega)
  injection h1 with h1
  injection h1 with e1 e2
  subst e1 e2
  refine ⟨b, o + k * 5, rfl, h2, fun i p hi => ?_⟩
  obtain ⟨hd, h4, h5⟩ := h3 (k + i) p (by rw [List.getElem?_drop] at hi; exact hi)
  refine ⟨hd, h4, fun j u hj => ?_⟩
  rw [show o + k * 5 + i * 5 + j = o + (k + i) * 5 + j by omega]
  exact h5 j u hj
theorem UP.none' {P : Nat → Prop} {w : World} {A : Option Addr} {n c : Nat} (hn : n = 0) (hc : c ≤ maxLen) (h : A = none → c = 0) : UP P w A n c [] := by subst hn; exact ⟨rfl, Nat.zero_le _, hc, h, fun h => absurd h (by omega)⟩
/-- a box of one pair as a list of one -/
theorem box_up {P : Nat → Prop} {w : World} {z : Nat} {p : Pr} {a : Option Addr} {n c : Nat} (h : UBox w z p.nm (opT p.t) (nameT p.t) (numT p.t) a n c) (hz : P z) (hA : ArP P w p.t a n c) : UP P w (some ⟨z, 0, none⟩) 1 1 [p] := by
  refine ⟨rfl, Nat.le_refl _, (by unfold maxLen; omega), (fun e => by cases e), fun _ => ⟨z, 0, rfl, hz, fun i q hi => ?_⟩⟩
  have hi0 : i = 0 := by
    have := (List.getElem?_eq_some_iff.1 hi).1
    simpa using this
  subst hi0
  injection hi with hi
  subst hi
  refine ⟨huOf p a n c, ⟨⟨rfl, rfl, rfl, rfl⟩, hA⟩, fun j u hj => ?_⟩
  have := Blk.cell h j
  rw [Nat.zero_mul, Nat.add_zero, Nat.zero_add, this, ← hj]
  show #[Value.string p.nm, .int .i64 (opT p.t), .string (nameT p.t), .int .i64 (numT p.t), .slice a n c][j]? = [Value.string p.nm, .int .i64 (opT p.t), .string (nameT p.t), .int .i64 (numT p.t), .slice a n c][j]?
  simp
end Go.Proofs.Yteidknjhponpkaa.Mt
namespace Go.Proofs.Yteidknjhponpkaa.U
open Go.RowKit L T C B Mt
set_option linter.unusedVariables false
set_option linter.unusedSimpArgs false

/-- l from here on with x put, as the document's Put goes through it; d: x is put already -/
def putR (x : Pr) : Bool → List Pr → List Pr
  | d, [] => if d = true then [] else [x]
  | d, p :: l => if cmpN p.nm x.nm = 0 then putR x d l else if cmpN p.nm x.nm = 1 ∧ d = false then x :: p :: putR x true l else p :: putR x d l
theorem putR_step {x : Pr} {d : Bool} {l : List Pr} {k : Nat} {p : Pr} (h : l[k]? = some p) : putR x d (l.drop k) = if cmpN p.nm x.nm = 0 then putR x d (l.drop (k + 1)) else if cmpN p.nm x.nm = 1 ∧ d = false then x :: p :: putR x true (l.drop (k + 1)) else p :: putR x d (l.drop (k + 1)) := by rw [drop_u h, putR]
theorem box_any {B : Nat} {w : World} {p : Pr} {a : Option Addr} {n c : Nat} (hB : B ≤ w.heap.size) (hA : ArP (fun q => q < B) w p.t a n c) :
    UP (fun q => q < B ∨ q = w.heap.size) (w.alloc (.cells #[.string p.nm, .int .i64 (opT p.t), .string (nameT p.t), .int .i64 (numT p.t), .slice a n c] 43)) (some ⟨w.heap.size, 0, none⟩) 1 1 [p] :=
  box_up (a := a) (n := n) (c := c) (Blk.new w _ _) (.inr rfl) (ArP.to (fun q hq => (bel_alloc (Below.refl w.heap.size w) _).block q (Nat.lt_of_lt_of_le hq hB)) (fun q hq => .inl hq) _ hA)
set_option maxRecDepth 100000 in
set_option maxHeartbeats 16000000 in
theorem Put10_any (l : List Pr) (x : Pr) (b : Option Addr) (m d : Nat) (a : Option Addr) (n c : Nat) (w : World) (hl : l.length ≤ 1000000) (hG : UsW w b m d l) (hA : ArW w x.t a n c) :
    Calls Try.prog 35 #[.slice b m d, .string x.nm, .agg #[.int .i64 (opT x.t), .string (nameT x.t), .int .i64 (numT x.t), .slice a n c]] w fun e w' => ∃ A N C, e = .returned (.slice A N C) ∧ UsW w' A N C (putR x false l) ∧ Below w.heap.size w w' := by
  obtain ⟨W2, hW2, hB2, hs2, S2⟩ := box1 w (opT x.t) (nameT x.t) (numT x.t) a n c
  have hm : m ≤ 1000000 := by have := hG.1; omega
  have HG := Lib.hid (UsW.b hG hB2)
  have HS := Lib.hid S2
  have HAx := Lib.hid (ArW.b hA hB2)
  have HBx := Lib.hid (show ∀ (w1 : World), Below W2.heap.size W2 w1 → UP (fun q => q < W2.heap.size ∨ q = w1.heap.size) (w1.alloc (.cells #[.string x.nm, .int .i64 (opT x.t), .string (nameT x.t), .int .i64 (numT x.t), .slice a n c] 43)) (some ⟨w1.heap.size, 0, none⟩) 1 1 [x] from fun w1 h => box_any h.size (ArP.to (fun q hq => h.block q hq) (fun q hq => hq) _ (Ar.p _ HAx.out)))
  have HX := Lib.hid (show ∀ k, m ≤ k → ∀ dn, putR x dn (l.drop k) = if dn = true then [] else [x] from fun k h dn => by rw [List.drop_eq_nil_of_le (by rw [← hG.1]; exact h), putR])
  have HSt := Lib.hid (show ∀ (k : Nat) (p : Pr) (dn : Bool), l[k]? = some p → _ from fun k p dn h => putR_step (x := x) (d := dn) h)
  have HB2 := Lib.hid hB2
  have Hm := Lib.hid hm
  have hm63 : m ≤ 9223372036854775807 := by omega
  have H0 : Hid ([] ++ putR x false (l.drop 0) = putR x false l) := Lib.hid rfl
  clear hG hA S2 hl hm hs2
  generalize putR x false l = R at *
  generalize hop : opT x.t = op at *
  generalize hnm : nameT x.t = nm at *
  generalize hnu : numT x.t = nu at *
  generalize hxn : x.nm = xn at *
  clear hop hnm hnu hxn
  go_enter Try.func35, Try.ntmps35
  go_wp2
  go_loopw [7, 8, 9] (fun v dd i wr0 => ∃ (wr : World) (k : Nat) (dn : Bool) (Y : List Pr) (A : Option Addr) (N C : Nat), wr = wr0 ∧ k ≤ m ∧ Hid (N = Y.length) ∧ .slice A N C = v ∧ dd = .bool dn ∧ i = .int .i64 k ∧ N ≤ 2 * k ∧ Below W2.heap.size W2 wr ∧ Hid (OwnP wr W2.heap.size (.slice A N C) Y) ∧ Hid (Y ++ putR x dn (l.drop k) = R)) (fun _ _ i _ => m - (intOf i).toNat)
  case atStart => exact ⟨_, 0, false, [], none, 0, 0, rfl, by omega, Lib.hid rfl, rfl, rfl, rfl, by omega, Below.refl _ _, Lib.hid (OwnP.nil _ _), H0⟩
  case round =>
    obtain ⟨wr, k, dn, Y, A, N, C, rfl, hk, HN, rfl, rfl, rfl, hY, hB, HO, hR⟩ := hrel
    obtain ⟨v0, v1, v2, v3⟩ := (TBox.b HS.out hB).four
    by_cases hlt : k < m
    · obtain ⟨bb, o, p, pa, pn, pc, rfl, hb, y0, y1, y2, y3, y4, hx, hok⟩ := HG.out.at hlt
      have hs1 := HSt.out k p dn hx
      have hk0 : 0 ≤ (k : Int) := by omega
      have hk1 : (k : Int) < (m : Int) := by omega
      have HBp := Lib.hid (show ∀ (w1 : World), Below W2.heap.size W2 w1 → UP (fun q => q < W2.heap.size ∨ q = w1.heap.size) (w1.alloc (.cells #[.string p.nm, .int .i64 (opT p.t), .string (nameT p.t), .int .i64 (numT p.t), .slice pa pn pc] 43)) (some ⟨w1.heap.size, 0, none⟩) 1 1 [p] from fun w1 h => box_any h.size (ArP.to (fun q hq => h.block q hq) (fun q hq => hq) _ (Ar.p _ hok)))
      have hless := @less_yes p.nm xn
      have hsame := @same_yes p.nm xn
      have z0 := (hB.cell (p := ⟨bb, _, none⟩) hb).trans y0
      have z1 := (hB.cell (p := ⟨bb, _, none⟩) hb).trans y1
      have z2 := (hB.cell (p := ⟨bb, _, none⟩) hb).trans y2
      have z3 := (hB.cell (p := ⟨bb, _, none⟩) hb).trans y3
      have z4 := (hB.cell (p := ⟨bb, _, none⟩) hb).trans y4
      clear hx hok HG H0 HX HSt
      rcases linN.rng p.nm xn with hc | hc | hc
      · rw [hc] at hless hsame
        simp only [Int.reduceNeg, decide_true, Int.reduceEq, decide_false, reduceCtorEq] at hless hsame
        have hnew : Hid ((Y ++ [p]) ++ putR x dn (l.drop (k + 1)) = R) := Lib.hid (by rw [← hR.out, hs1, if_neg (by omega), if_neg (by omega)]; simp)
        clear hR hs1 hc
        generalize opT p.t = op' at *
        generalize nameT p.t = nm' at *
        generalize numT p.t = nu' at *
        generalize p.nm = y at *
        go_wp2_with (first
          | (at_builtin; ((refine app_pairs rfl (.tmp 40) (.tmp 45) rfl W2.heap.size _ Y rfl (HO.out.below (bel_alloc (Below.refl _ _) _)) (fun q => q < W2.heap.size ∨ q = wr.heap.size) (fun q hq => ⟨by have := hB.size; simp; omega, fun e => by have h8 := HO.out.lt q e; have h9 := hB.size; omega⟩) _ _ _ [p] rfl (HBp.out wr hB) (by have := Hm.out; have := HN.out; first | (rw [List.length_append]; simp; omega) | (simp; omega)) (by have := hB.size; simp; omega) ?_); intro v1 w1 ho1 hg1; have hb1 : Below W2.heap.size W2 w1 := (bel_alloc hB _).grown hg1 (by have := hB.size; simp; omega) (fun q hq => (HO.out.lt q hq).1); obtain ⟨A1, C1, hv1, -⟩ := ho1.slice; rw [show (Y ++ [p]).length = N + 1 by first | (rw [List.length_append, HN.out]; rfl) | (rw [List.length_append, List.length_append, HN.out]; rfl)] at hv1; subst hv1; have HO1 := Lib.hid ho1; clear ho1 hg1)))
        go_roundw
        case rel => exact ⟨_, k + 1, dn, Y ++ [p], A1, N + 1, C1, rfl, by omega, Lib.hid (by rw [List.length_append, HN.out]; rfl), rfl, rfl, by go_num, by omega, hb1, HO1, hnew⟩
        case measure => simp [intOf]; omega
      · rw [hc] at hless hsame
        simp only [Int.reduceNeg, decide_true, Int.reduceEq, decide_false, reduceCtorEq] at hless hsame
        have hnew : Hid (Y ++ putR x dn (l.drop (k + 1)) = R) := Lib.hid (by rw [← hR.out, hs1, if_pos hc])
        clear hR hs1 hc
        generalize opT p.t = op' at *
        generalize nameT p.t = nm' at *
        generalize numT p.t = nu' at *
        generalize p.nm = y at *
        go_wp2
        go_roundw
        case rel => exact ⟨_, k + 1, dn, Y, A, N, C, rfl, by omega, HN, rfl, rfl, by go_num, by omega, by first | exact hB | exact below_drewN hB _, by first | exact HO | exact Lib.hid (HO.out.below (Below.refl _ _).drew), hnew⟩
        case measure => simp [intOf]; omega
      · rw [hc] at hless hsame
        simp only [Int.reduceNeg, decide_true, Int.reduceEq, decide_false, reduceCtorEq] at hless hsame
        cases dn with
        | true =>
          have hnew : Hid ((Y ++ [p]) ++ putR x true (l.drop (k + 1)) = R) := Lib.hid (by rw [← hR.out, hs1, if_neg (by omega), if_neg (by simp)]; simp)
          clear hR hs1 hc
          generalize opT p.t = op' at *
          generalize nameT p.t = nm' at *
          generalize numT p.t = nu' at *
          generalize p.nm = y at *
          go_wp2_with (first
            | (at_builtin; ((refine app_pairs rfl (.tmp 40) (.tmp 45) rfl W2.heap.size _ Y rfl (HO.out.below (bel_alloc (Below.refl _ _) _)) (fun q => q < W2.heap.size ∨ q = wr.heap.size) (fun q hq => ⟨by have := hB.size; simp; omega, fun e => by have h8 := HO.out.lt q e; have h9 := hB.size; omega⟩) _ _ _ [p] rfl (HBp.out wr hB) (by have := Hm.out; have := HN.out; first | (rw [List.length_append]; simp; omega) | (simp; omega)) (by have := hB.size; simp; omega) ?_); intro v1 w1 ho1 hg1; have hb1 : Below W2.heap.size W2 w1 := (bel_alloc hB _).grown hg1 (by have := hB.size; simp; omega) (fun q hq => (HO.out.lt q hq).1); obtain ⟨A1, C1, hv1, -⟩ := ho1.slice; rw [show (Y ++ [p]).length = N + 1 by first | (rw [List.length_append, HN.out]; rfl) | (rw [List.length_append, List.length_append, HN.out]; rfl)] at hv1; subst hv1; have HO1 := Lib.hid ho1; clear ho1 hg1)))
          go_roundw
          case rel => exact ⟨_, k + 1, true, Y ++ [p], A1, N + 1, C1, rfl, by omega, Lib.hid (by rw [List.length_append, HN.out]; rfl), rfl, rfl, by go_num, by omega, hb1, HO1, hnew⟩
          case measure => simp [intOf]; omega
        | false =>
          have hnew : Hid ((Y ++ [x] ++ [p]) ++ putR x true (l.drop (k + 1)) = R) := Lib.hid (by rw [← hR.out, hs1, if_neg (by omega), if_pos ⟨hc, rfl⟩]; simp)
          clear hR hs1 hc
          generalize opT p.t = op' at *
          generalize nameT p.t = nm' at *
          generalize numT p.t = nu' at *
          generalize p.nm = y at *
          go_wp2_with (first
            | (at_builtin; ((refine app_pairs rfl (.tmp 27) (.tmp 31) rfl W2.heap.size _ Y rfl (HO.out.below (bel_alloc (Below.refl _ _) _)) (fun q => q < W2.heap.size ∨ q = wr.heap.size) (fun q hq => ⟨by have := hB.size; simp; omega, fun e => by have h8 := HO.out.lt q e; have h9 := hB.size; omega⟩) _ _ _ [x] rfl (HBx.out wr hB) (by have := Hm.out; have := HN.out; first | (rw [List.length_append]; simp; omega) | (simp; omega)) (by have := hB.size; simp; omega) ?_); intro v1 w1 ho1 hg1; have hb1 : Below W2.heap.size W2 w1 := (bel_alloc hB _).grown hg1 (by have := hB.size; simp; omega) (fun q hq => (HO.out.lt q hq).1); obtain ⟨A1, C1, hv1, -⟩ := ho1.slice; rw [show (Y ++ [x]).length = N + 1 by first | (rw [List.length_append, HN.out]; rfl) | (rw [List.length_append, List.length_append, HN.out]; rfl)] at hv1; subst hv1; have HO1 := Lib.hid ho1; clear ho1 hg1; have z0 := (hb1.cell (p := ⟨bb, _, none⟩) hb).trans y0; have z1 := (hb1.cell (p := ⟨bb, _, none⟩) hb).trans y1; have z2 := (hb1.cell (p := ⟨bb, _, none⟩) hb).trans y2; have z3 := (hb1.cell (p := ⟨bb, _, none⟩) hb).trans y3; have z4 := (hb1.cell (p := ⟨bb, _, none⟩) hb).trans y4))
            | (at_builtin; ((refine app_pairs rfl (.tmp 40) (.tmp 45) rfl W2.heap.size _ (Y ++ [x]) rfl (HO1.out.below (bel_alloc (Below.refl _ _) _)) (fun q => q < W2.heap.size ∨ q = w1.heap.size) (fun q hq => ⟨by have := hb1.size; simp; omega, fun e => by have h8 := HO1.out.lt q e; have h9 := hb1.size; omega⟩) _ _ _ [p] rfl (HBp.out w1 hb1) (by have := Hm.out; have := HN.out; first | (rw [List.length_append]; simp; omega) | (simp; omega)) (by have := hb1.size; simp; omega) ?_); intro v2 w2 ho2 hg2; have hb2 : Below W2.heap.size W2 w2 := (bel_alloc hb1 _).grown hg2 (by have := hb1.size; simp; omega) (fun q hq => (HO1.out.lt q hq).1); obtain ⟨A2, C2, hv2, -⟩ := ho2.slice; rw [show ((Y ++ [x]) ++ [p]).length = N + 1 + 1 by first | (rw [List.length_append, HN.out]; rfl) | (rw [List.length_append, List.length_append, HN.out]; rfl)] at hv2; subst hv2; have HO2 := Lib.hid ho2; clear ho2 hg2)))
          go_roundw
          case rel => exact ⟨_, k + 1, true, Y ++ [x] ++ [p], A2, N + 1 + 1, C2, rfl, by omega, Lib.hid (by rw [List.length_append, List.length_append, HN.out]; rfl), rfl, rfl, by go_num, by omega, hb2, HO2, hnew⟩
          case measure => simp [intOf]; omega
    · have hs1 := HX.out k (by omega) dn
      cases dn with
      | true =>
        have hnew : Hid (Y = R) := Lib.hid (by rw [← hR.out, hs1]; simp)
        clear hR hs1 HG H0 HX HSt
        go_wp2
        go_ret
        exact ⟨_, _, _, rfl, by rw [← hnew.out]; exact HO.out.us, bel_trans HB2.out hB⟩
      | false =>
        have hnew : Hid (Y ++ [x] = R) := Lib.hid (by rw [← hR.out, hs1]; rfl)
        clear hR hs1 HG H0 HX HSt
        go_wp2_with (first
          | (at_builtin; ((refine app_pairs rfl (.tmp 49) (.tmp 53) rfl W2.heap.size _ Y rfl (HO.out.below (bel_alloc (Below.refl _ _) _)) (fun q => q < W2.heap.size ∨ q = wr.heap.size) (fun q hq => ⟨by have := hB.size; simp; omega, fun e => by have h8 := HO.out.lt q e; have h9 := hB.size; omega⟩) _ _ _ [x] rfl (HBx.out wr hB) (by have := Hm.out; have := HN.out; first | (rw [List.length_append]; simp; omega) | (simp; omega)) (by have := hB.size; simp; omega) ?_); intro v1 w1 ho1 hg1; have hb1 : Below W2.heap.size W2 w1 := (bel_alloc hB _).grown hg1 (by have := hB.size; simp; omega) (fun q hq => (HO.out.lt q hq).1); obtain ⟨A1, C1, hv1, -⟩ := ho1.slice; rw [show (Y ++ [x]).length = N + 1 by first | (rw [List.length_append, HN.out]; rfl) | (rw [List.length_append, List.length_append, HN.out]; rfl)] at hv1; subst hv1; have HO1 := Lib.hid ho1; clear ho1 hg1)))
        go_ret
        exact ⟨_, _, _, rfl, by rw [← hnew.out]; exact HO1.out.us, bel_trans HB2.out hb1⟩
end Go.Proofs.Yteidknjhponpkaa.U
namespace Go.Proofs.Yteidknjhponpkaa.U
open Go.RowKit L T C B
set_option linter.unusedVariables false
set_option linter.unusedSimpArgs false

def pr0 : Pr := ⟨⟨#[]⟩, .mk 0 ⟨#[]⟩ 0 []⟩
def atP (l : List Pr) (i : Nat) : Pr := l.getD i pr0
theorem atP_some {l : List Pr} {i : Nat} {p : Pr} (h : l[i]? = some p) : atP l i = p := by unfold atP; rw [List.getD_eq_getElem?_getD, h]; rfl
theorem atP_get {l : List Pr} {i : Nat} (h : i < l.length) : l[i]? = some (atP l i) := by
  have : l[i]? = some l[i] := List.getElem?_eq_getElem h
  rw [this, atP_some this]
theorem cmpN_le {x y z : ByteArray} (h1 : cmpN x y ≤ 0) (h2 : cmpN y z ≤ 0) : cmpN x z ≤ 0 := by
  rcases linN.rng x y with a | a | a
  · rcases linN.rng y z with b | b | b
    · have := linN.trans x y z a b; omega
    · rw [← (linN.eq y z).1 b]; exact h1
    · omega
  · rw [(linN.eq x y).1 a]; exact h2
  · omega
theorem cmpN_lt {x y z : ByteArray} (h1 : cmpN x y < 0) (h2 : cmpN y z < 0) : cmpN x z < 0 := by
  have a : cmpN x y = -1 := by rcases linN.rng x y with a | a | a <;> omega
  have b : cmpN y z = -1 := by rcases linN.rng y z with a | a | a <;> omega
  have := linN.trans x y z a b; omega
def cfP (l : List Pr) (i j : Nat) : Int := cmpN (atP l i).nm (atP l j).nm
theorem cfP_cmp (l : List Pr) : Cmp3 (cfP l) := ⟨fun i j => linN.anti _ _, fun i j k => cmpN_le⟩
def SrtU (l : List Pr) : Prop := l.Pairwise fun p q => cmpN p.nm q.nm ≤ 0
def RisU (l : List Pr) : Prop := l.Pairwise fun p q => cmpN p.nm q.nm < 0
theorem eqNm {x y : ByteArray} : (x.toList == y.toList) = true ↔ x = y := eqS_iff
theorem getU_no {l : List Pr} {s : ByteArray} (h : ∀ p ∈ l, p.nm ≠ s) : getU l s = none := by
  induction l with
  | nil => rfl
  | cons p l ih =>
    rw [getU, if_neg (fun e => h p (by simp) (eqNm.1 e))]
    exact ih fun q hq => h q (List.mem_cons_of_mem _ hq)
theorem getU_none {l : List Pr} {s : ByteArray} (h : getU l s = none) : ∀ p ∈ l, p.nm ≠ s := by
  induction l with
  | nil => intro p hp; simp at hp
  | cons q l ih =>
    rw [getU] at h
    by_cases e : (q.nm.toList == s.toList) = true
    · rw [if_pos e] at h; cases h
    · rw [if_neg e] at h
      intro p hp
      rcases List.mem_cons.1 hp with rfl | hp
      · exact fun e2 => e (eqNm.2 e2)
      · exact ih h p hp
theorem getU_first {l : List Pr} {s : ByteArray} : ∀ {i : Nat} {p : Pr}, l[i]? = some p → p.nm = s → (∀ (j : Nat) (q : Pr), j < i → l[j]? = some q → q.nm ≠ s) → getU l s = some p.t := by
  induction l with
  | nil => intro i p h; simp at h
  | cons q l ih =>
    intro i p h hn hj
    cases i with
    | zero =>
      injection h with h
      subst h
      rw [getU, if_pos (eqNm.2 hn)]
    | succ i =>
      rw [getU, if_neg (fun e => hj 0 q (by omega) rfl (eqNm.1 e))]
      exact ih (by simpa using h) hn fun j r hjr hr => hj (j + 1) r (by omega) (by simpa using hr)
theorem getU_some {l : List Pr} {s : ByteArray} : ∀ {u : Tm}, getU l s = some u → ∃ (i : Nat) (p : Pr), l[i]? = some p ∧ p.nm = s ∧ p.t = u ∧ ∀ (j : Nat) (q : Pr), j < i → l[j]? = some q → q.nm ≠ s := by
  induction l with
  | nil => intro u h; cases h
  | cons q l ih =>
    intro u h
    rw [getU] at h
    by_cases e : (q.nm.toList == s.toList) = true
    · rw [if_pos e] at h
      injection h with h
      exact ⟨0, q, rfl, eqNm.1 e, h, fun j r hj => by omega⟩
    · rw [if_neg e] at h
      obtain ⟨i, p, h1, h2, h3, h4⟩ := ih h
      refine ⟨i + 1, p, by simpa using h1, h2, h3, fun j r hj hr => ?_⟩
      cases j with
      | zero => injection hr with hr; subst hr; exact fun e2 => e (eqNm.2 e2)
      | succ j => exact h4 j r (by omega) (by simpa using hr)
/-! the stable order -/
theorem sorted_srt {l : List Pr} {Z : List Nat} (h : Srt (cfP l) Z) : SrtU (Z.map (atP l)) := by
  unfold SrtU
  rw [List.pairwise_map]
  exact List.Pairwise.imp (fun h => lx_le h) h
theorem sorted_mem {l : List Pr} {Z : List Nat} (hp : Z.Perm (List.range l.length)) : ∀ x ∈ Z.map (atP l), x ∈ l := by
  intro x hx
  obtain ⟨z, hz, rfl⟩ := List.mem_map.1 hx
  have hz2 : z < l.length := List.mem_range.1 (hp.mem_iff.1 hz)
  exact List.mem_of_getElem? (atP_get hz2)
theorem sorted_get {l : List Pr} {Z : List Nat} (hp : Z.Perm (List.range l.length)) (hs : Srt (cfP l) Z) (s : ByteArray) : getU (Z.map (atP l)) s = getU l s := by
  cases hg : getU l s with
  | none => exact getU_no fun p hp2 => getU_none hg p (sorted_mem hp p hp2)
  | some u =>
    obtain ⟨i, p, h1, h2, h3, h4⟩ := getU_some hg
    have hi : i < l.length := (List.getElem?_eq_some_iff.1 h1).1
    obtain ⟨k, hk⟩ := List.mem_iff_getElem?.1 (hp.mem_iff.2 (List.mem_range.2 hi))
    have ha : atP l i = p := atP_some h1
    rw [← h3]
    refine getU_first (i := k) (p := p) (by rw [List.getElem?_map, hk]; exact congrArg some ha) h2 fun j q hj hq he => ?_
    rw [List.getElem?_map] at hq
    obtain ⟨z, hz, rfl⟩ := Option.map_eq_some_iff.1 hq
    have hlx := srt_at hs hz hk hj
    have hc : cfP l z i = 0 := by
      unfold cfP
      rw [linN.eq, he, ha, h2]
    have hzi : z < i := by rcases hlx with h | h <;> omega
    exact h4 z (atP l z) hzi (atP_get (by omega)) he
/-! rising lists -/
theorem ris_head {p : Pr} {l : List Pr} (h : RisU (p :: l)) : ∀ q ∈ l, cmpN p.nm q.nm < 0 := (List.pairwise_cons.1 h).1
theorem ris_tail {p : Pr} {l : List Pr} (h : RisU (p :: l)) : RisU l := (List.pairwise_cons.1 h).2
theorem cmp_self (x : ByteArray) : cmpN x x = 0 := (linN.eq x x).2 rfl
theorem ris_ne {p : Pr} {l : List Pr} (h : RisU (p :: l)) : getU l p.nm = none := getU_no fun q hq e => by
  have := ris_head h q hq
  rw [e, cmp_self] at this; omega
theorem ris_below {p q : Pr} {l : List Pr} (h : RisU (q :: l)) (hlt : cmpN p.nm q.nm < 0) : getU (q :: l) p.nm = none := getU_no fun r hr e => by
  rcases List.mem_cons.1 hr with rfl | hr
  · rw [e, cmp_self] at hlt; omega
  · have := cmpN_lt hlt (ris_head h r hr)
    rw [e, cmp_self] at this; omega
theorem getU_hd (p : Pr) (l : List Pr) : getU (p :: l) p.nm = some p.t := by rw [getU, if_pos (eqNm.2 rfl)]
theorem getU_tl {p : Pr} {l : List Pr} {s : ByteArray} (h : p.nm ≠ s) : getU (p :: l) s = getU l s := by rw [getU, if_neg (fun e => h (eqNm.1 e))]
theorem ris_ext : ∀ {A B : List Pr}, RisU A → RisU B → (∀ s, getU A s = getU B s) → A = B
  | [], [], _, _, _ => rfl
  | [], q :: B, _, _, h => by have := h q.nm; rw [getU_hd] at this; cases this
  | p :: A, [], _, _, h => by have := h p.nm; rw [getU_hd] at this; cases this
  | p :: A, q :: B, ha, hb, h => by
    have hc : cmpN p.nm q.nm = 0 := by
      rcases linN.rng p.nm q.nm with e | e | e
      · have h1 := h p.nm
        rw [getU_hd, ris_below hb (by omega)] at h1; cases h1
      · exact e
      · have h1 := h q.nm
        have h2 := linN.anti p.nm q.nm
        rw [getU_hd, ris_below ha (by omega)] at h1; cases h1
    have hn : p.nm = q.nm := (linN.eq _ _).1 hc
    have ht : p.t = q.t := by
      have h1 := h p.nm
      rw [getU_hd, hn, getU_hd] at h1
      injection h1
    have hpq : p = q := by cases p; cases q; simp only at hn ht; rw [hn, ht]
    subst hpq
    rw [ris_ext (ris_tail ha) (ris_tail hb) fun s => ?_]
    by_cases e : p.nm = s
    · subst e; rw [ris_ne ha, ris_ne hb]
    · have := h s
      rwa [getU_tl e, getU_tl e] at this
/-! a pair put in -/
theorem putR_cons (x : Pr) (d : Bool) (p : Pr) (l : List Pr) : putR x d (p :: l) = if cmpN p.nm x.nm = 0 then putR x d l else if cmpN p.nm x.nm = 1 ∧ d = false then x :: p :: putR x true l else p :: putR x d l := by rw [putR]
theorem putR_getT (x : Pr) : ∀ (l : List Pr) (s : ByteArray), getU (putR x true l) s = if x.nm = s then none else getU l s
  | [], s => by rw [putR]; show getU [] s = _; rw [getU]; split <;> rfl
  | p :: l, s => by
    rw [putR_cons]
    by_cases h0 : cmpN p.nm x.nm = 0
    · rw [if_pos h0, putR_getT x l s]
      have hn := (linN.eq _ _).1 h0
      by_cases e : x.nm = s
      · rw [if_pos e, if_pos e]
      · rw [if_neg e, if_neg e, getU_tl (by rw [hn]; exact e)]
    · rw [if_neg h0, if_neg (by simp), getU, getU, putR_getT x l s]
      by_cases e : x.nm = s
      · rw [if_pos e, if_pos e, if_neg (fun e2 => h0 ((linN.eq _ _).2 ((eqNm.1 e2).trans e.symm)))]
      · rw [if_neg e, if_neg e]
theorem putR_getF (x : Pr) : ∀ (l : List Pr) (s : ByteArray), getU (putR x false l) s = if x.nm = s then some x.t else getU l s
  | [], s => by
    rw [putR]
    by_cases e : x.nm = s
    · rw [if_pos e]
      show (if (x.nm.toList == s.toList) = true then some x.t else getU [] s) = _
      rw [if_pos (eqNm.2 e)]
    · rw [if_neg e]
      show (if (x.nm.toList == s.toList) = true then some x.t else getU [] s) = _
      rw [if_neg (fun e2 => e (eqNm.1 e2))]
  | p :: l, s => by
    rw [putR_cons]
    by_cases h0 : cmpN p.nm x.nm = 0
    · rw [if_pos h0, putR_getF x l s]
      have hn := (linN.eq _ _).1 h0
      by_cases e : x.nm = s
      · rw [if_pos e, if_pos e]
      · rw [if_neg e, if_neg e, getU_tl (by rw [hn]; exact e)]
    · rw [if_neg h0]
      by_cases h1 : cmpN p.nm x.nm = 1
      · rw [if_pos ⟨h1, rfl⟩, getU, getU, putR_getT x l s]
        by_cases e : x.nm = s
        · rw [if_pos (eqNm.2 e), if_pos e]
        · rw [if_neg (fun e2 => e (eqNm.1 e2)), if_neg e, if_neg e, getU]
      · rw [if_neg (fun h => h1 h.1), getU, getU, putR_getF x l s]
        by_cases e : x.nm = s
        · rw [if_pos e, if_pos e, if_neg (fun e2 => h0 ((linN.eq _ _).2 ((eqNm.1 e2).trans e.symm)))]
        · rw [if_neg e, if_neg e]
theorem putR_mem (x : Pr) : ∀ (d : Bool) (l : List Pr) (y : Pr), y ∈ putR x d l → y ∈ l ∨ (d = false ∧ y = x)
  | d, [], y, h => by
    rw [putR] at h
    cases d with
    | true => exact absurd h (by simp)
    | false => exact .inr ⟨rfl, by simpa using h⟩
  | d, p :: l, y, h => by
    rw [putR_cons] at h
    split at h
    · rcases putR_mem x d l y h with h | h
      · exact .inl (List.mem_cons_of_mem _ h)
      · exact .inr h
    · split at h
      · rename_i hd
        rcases List.mem_cons.1 h with h | h
        · exact .inr ⟨hd.2, h⟩
        · rcases List.mem_cons.1 h with h | h
          · exact .inl (by rw [h]; simp)
          · rcases putR_mem x true l y h with h | h
            · exact .inl (List.mem_cons_of_mem _ h)
            · exact absurd h.1 (by simp)
      · rcases List.mem_cons.1 h with h | h
        · exact .inl (by rw [h]; simp)
        · rcases putR_mem x d l y h with h | h
          · exact .inl (List.mem_cons_of_mem _ h)
          · exact .inr h
theorem putR_len (x : Pr) : ∀ (d : Bool) (l : List Pr), (putR x d l).length ≤ l.length + 1
  | d, [] => by rw [putR]; cases d <;> simp
  | d, p :: l => by
    rw [putR_cons]
    split
    · have := putR_len x d l; simp; omega
    · split
      · have : ∀ l : List Pr, (putR x true l).length ≤ l.length := fun l => by
          induction l with
          | nil => rw [putR]; simp
          | cons q l ih => rw [putR_cons]; split <;> simp <;> omega
        have := this l; simp; omega
      · have := putR_len x d l; simp; omega
theorem ris_putT (x : Pr) : ∀ {l : List Pr}, RisU l → RisU (putR x true l)
  | [], _ => by rw [putR]; exact List.Pairwise.nil
  | p :: l, h => by
    rw [putR_cons]
    split
    · exact ris_putT x (ris_tail h)
    · rw [if_neg (by simp)]
      refine List.pairwise_cons.2 ⟨fun y hy => ?_, ris_putT x (ris_tail h)⟩
      rcases putR_mem x true l y hy with hy | hy
      · exact ris_head h y hy
      · exact absurd hy.1 (by simp)
theorem ris_putF (x : Pr) : ∀ {l : List Pr}, RisU l → RisU (putR x false l)
  | [], _ => by rw [putR]; exact List.pairwise_singleton _ _
  | p :: l, h => by
    rw [putR_cons]
    split
    · exact ris_putF x (ris_tail h)
    · rename_i h0
      split
      · rename_i h1
        have hxp : cmpN x.nm p.nm < 0 := by have := linN.anti p.nm x.nm; omega
        refine List.pairwise_cons.2 ⟨fun y hy => ?_, List.pairwise_cons.2 ⟨fun y hy => ?_, ris_putT x (ris_tail h)⟩⟩
        · rcases List.mem_cons.1 hy with rfl | hy
          · exact hxp
          · rcases putR_mem x true l y hy with hy | hy
            · exact cmpN_lt hxp (ris_head h y hy)
            · exact absurd hy.1 (by simp)
        · rcases putR_mem x true l y hy with hy | hy
          · exact ris_head h y hy
          · exact absurd hy.1 (by simp)
      · rename_i h1
        have hpx : cmpN p.nm x.nm < 0 := by
          rcases linN.rng p.nm x.nm with a | a | a
          · omega
          · exact absurd a h0
          · exact absurd ⟨a, rfl⟩ h1
        refine List.pairwise_cons.2 ⟨fun y hy => ?_, ris_putF x (ris_tail h)⟩
        rcases putR_mem x false l y hy with hy | ⟨-, rfl⟩
        · exact ris_head h y hy
        · exact hpx
/-- all put in, the last one first -/
def putsR (l : List Pr) : List Pr := l.foldr (fun p o => putR p false o) []
theorem putsR_cons (p : Pr) (l : List Pr) : putsR (p :: l) = putR p false (putsR l) := rfl
theorem putsR_get : ∀ (l : List Pr) (s : ByteArray), getU (putsR l) s = getU l s
  | [], s => rfl
  | p :: l, s => by
    rw [putsR_cons, putR_getF, putsR_get l s, getU]
    by_cases e : p.nm = s
    · rw [if_pos e, if_pos (eqNm.2 e)]
    · rw [if_neg e, if_neg (fun e2 => e (eqNm.1 e2))]
theorem putsR_ris : ∀ l : List Pr, RisU (putsR l)
  | [] => List.Pairwise.nil
  | p :: l => by rw [putsR_cons]; exact ris_putF p (putsR_ris l)
theorem putsR_len : ∀ l : List Pr, (putsR l).length ≤ l.length
  | [] => Nat.le_refl _
  | p :: l => by rw [putsR_cons]; have := putR_len p false (putsR l); have := putsR_len l; simp; omega
theorem putsR_mem : ∀ (l : List Pr) (x : Pr), x ∈ putsR l → x ∈ l
  | [], x, h => h
  | p :: l, x, h => by
    rw [putsR_cons] at h
    rcases putR_mem p false _ x h with h | h
    · exact List.mem_cons_of_mem _ (putsR_mem l x h)
    · rw [h.2]; simp
end Go.Proofs.Yteidknjhponpkaa.U
