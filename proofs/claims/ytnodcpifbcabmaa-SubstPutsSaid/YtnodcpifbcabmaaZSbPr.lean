/-
  What is proved: what the document's Put of layer 10 returns.
-/
import Derived.Test.YtnodcpifbcabmaaBM
import Derived.Test.YtnodcpifbcabmaaZMtJ
namespace Go.Proofs.Ytnodcpifbcabmaa.U
open Go.RowKit L T C B Mt
set_option linter.unusedVariables false
set_option linter.unusedSimpArgs false

/-- l from here on with x put, as the document's Put goes through it; d: x is put already -/
def putR (x : Pr) : Bool → List Pr → List Pr
  | d, [] => if d = true then [] else [x]
  | d, p :: l => if cmpN p.nm x.nm = 0 then putR x d l else if cmpN p.nm x.nm = 1 ∧ d = false then x :: p :: putR x true l else p :: putR x d l
theorem putR_step {x : Pr} {d : Bool} {l : List Pr} {k : Nat} {p : Pr} (h : l[k]? = some p) : putR x d (l.drop k) = if cmpN p.nm x.nm = 0 then putR x d (l.drop (k + 1)) else if cmpN p.nm x.nm = 1 ∧ d = false then x :: p :: putR x true (l.drop (k + 1)) else p :: putR x d (l.drop (k + 1)) := by rw [drop_u h, putR]
theorem box_any {B : Nat} {w : World} {p : Pr} {a : Option Addr} {n c : Nat} (hB : B ≤ w.heap.size) (hA : ArP (fun q => q < B) w p.t a n c) :
    UP (fun q => q < B ∨ q = w.heap.size) (w.alloc (.cells #[.string p.nm, .int .i64 (opT p.t), .string (nameT p.t), .int .i64 (numT p.t), .slice a n c] 43)) (some ⟨w.heap.size, 0, none⟩) 1 1 [p] :=
  box_up (a := a) (n := n) (c := c) (Blk.new w _ _) (.inr rfl) (ArP.to (fun q hq => (bel_alloc (Below.refl w.heap.size w) _).block q (Nat.lt_of_lt_of_le hq hB)) (fun q hq => .inl hq) _ hA)
set_option maxRecDepth 100000 in
set_option maxHeartbeats 16000000 in
theorem Put10_any (l : List Pr) (x : Pr) (b : Option Addr) (m d : Nat) (a : Option Addr) (n c : Nat) (w : World) (hl : l.length ≤ 1000000) (hG : UsW w b m d l) (hA : ArW w x.t a n c) :
    Calls Try.prog 31 #[.slice b m d, .string x.nm, .agg #[.int .i64 (opT x.t), .string (nameT x.t), .int .i64 (numT x.t), .slice a n c]] w fun e w' => ∃ A N C, e = .returned (.slice A N C) ∧ UsW w' A N C (putR x false l) ∧ Below w.heap.size w w' := by
  obtain ⟨W2, hW2, hB2, hs2, S2⟩ := box1 w (opT x.t) (nameT x.t) (numT x.t) a n c
  have hm : m ≤ 1000000 := by have := hG.1; omega
  have HG := Lib.hid (UsW.b hG hB2)
  have HS := Lib.hid S2
  have HAx := Lib.hid (ArW.b hA hB2)
  have HBx := Lib.hid (show ∀ (w1 : World), Below W2.heap.size W2 w1 → UP (fun q => q < W2.heap.size ∨ q = w1.heap.size) (w1.alloc (.cells #[.string x.nm, .int .i64 (opT x.t), .string (nameT x.t), .int .i64 (numT x.t), .slice a n c] 43)) (some ⟨w1.heap.size, 0, none⟩) 1 1 [x] from fun w1 h => box_any h.size (ArP.to (fun q hq => h.block q hq) (fun q hq => hq) _ (Ar.p _ HAx.out)))
  have HX := Lib.hid (show ∀ k, m ≤ k → ∀ dn, putR x dn (l.drop k) = if dn = true then [] else [x] from fun k h dn => by rw [List.drop_eq_nil_of_le (by rw [← hG.1]; exact h), putR])
  have HSt := Lib.hid (show ∀ (k : Nat) (p : Pr) (dn : Bool), l[k]? = some p → _ from fun k p dn h => putR_step (x := x) (d := dn) h)
  have HB2 := Lib.hid hB2
  have Hm := Lib.hid hm
  have hm63 : m ≤ 9223372036854775807 := by omega
  have H0 : Hid ([] ++ putR x false (l.drop 0) = putR x false l) := Lib.hid rfl
  clear hG hA S2 hl hm hs2
  generalize putR x false l = R at *
  generalize hop : opT x.t = op at *
  generalize hnm : nameT x.t = nm at *
  generalize hnu : numT x.t = nu at *
  generalize hxn : x.nm = xn at *
  clear hop hnm hnu hxn
  go_enter Try.func31, Try.ntmps31
  go_wp2
  go_loopw [7, 8, 9] (fun v dd i wr0 => ∃ (wr : World) (k : Nat) (dn : Bool) (Y : List Pr) (A : Option Addr) (N C : Nat), wr = wr0 ∧ k ≤ m ∧ Hid (N = Y.length) ∧ .slice A N C = v ∧ dd = .bool dn ∧ i = .int .i64 k ∧ N ≤ 2 * k ∧ Below W2.heap.size W2 wr ∧ Hid (OwnP wr W2.heap.size (.slice A N C) Y) ∧ Hid (Y ++ putR x dn (l.drop k) = R)) (fun _ _ i _ => m - (intOf i).toNat)
  case atStart => exact ⟨_, 0, false, [], none, 0, 0, rfl, by omega, Lib.hid rfl, rfl, rfl, rfl, by omega, Below.refl _ _, Lib.hid (OwnP.nil _ _), H0⟩
  case round =>
    obtain ⟨wr, k, dn, Y, A, N, C, rfl, hk, HN, rfl, rfl, rfl, hY, hB, HO, hR⟩ := hrel
    obtain ⟨v0, v1, v2, v3⟩ := (TBox.b HS.out hB).four
    by_cases hlt : k < m
    · obtain ⟨bb, o, p, pa, pn, pc, rfl, hb, y0, y1, y2, y3, y4, hx, hok⟩ := HG.out.at hlt
      have hs1 := HSt.out k p dn hx
      have hk0 : 0 ≤ (k : Int) := by omega
      have hk1 : (k : Int) < (m : Int) := by omega
      have HBp := Lib.hid (show ∀ (w1 : World), Below W2.heap.size W2 w1 → UP (fun q => q < W2.heap.size ∨ q = w1.heap.size) (w1.alloc (.cells #[.string p.nm, .int .i64 (opT p.t), .string (nameT p.t), .int .i64 (numT p.t), .slice pa pn pc] 43)) (some ⟨w1.heap.size, 0, none⟩) 1 1 [p] from fun w1 h => box_any h.size (ArP.to (fun q hq => h.block q hq) (fun q hq => hq) _ (Ar.p _ hok)))
      have hless := @less_yes p.nm xn
      have hsame := @same_yes p.nm xn
      have z0 := (hB.cell (p := ⟨bb, _, none⟩) hb).trans y0
      have z1 := (hB.cell (p := ⟨bb, _, none⟩) hb).trans y1
      have z2 := (hB.cell (p := ⟨bb, _, none⟩) hb).trans y2
      have z3 := (hB.cell (p := ⟨bb, _, none⟩) hb).trans y3
      have z4 := (hB.cell (p := ⟨bb, _, none⟩) hb).trans y4
      clear hx hok HG H0 HX HSt
      rcases linN.rng p.nm xn with hc | hc | hc
      · rw [hc] at hless hsame
        simp only [Int.reduceNeg, decide_true, Int.reduceEq, decide_false, reduceCtorEq] at hless hsame
        have hnew : Hid ((Y ++ [p]) ++ putR x dn (l.drop (k + 1)) = R) := Lib.hid (by rw [← hR.out, hs1, if_neg (by omega), if_neg (by omega)]; simp)
        clear hR hs1 hc
        generalize opT p.t = op' at *
        generalize nameT p.t = nm' at *
        generalize numT p.t = nu' at *
        generalize p.nm = y at *
        go_wp2_with (first
          | (at_builtin; ((refine app_pairs rfl (.tmp 40) (.tmp 45) rfl W2.heap.size _ Y rfl (HO.out.below (bel_alloc (Below.refl _ _) _)) (fun q => q < W2.heap.size ∨ q = wr.heap.size) (fun q hq => ⟨by have := hB.size; simp; omega, fun e => by have h8 := HO.out.lt q e; have h9 := hB.size; omega⟩) _ _ _ [p] rfl (HBp.out wr hB) (by have := Hm.out; have := HN.out; first | (rw [List.length_append]; simp; omega) | (simp; omega)) (by have := hB.size; simp; omega) ?_); intro v1 w1 ho1 hg1; have hb1 : Below W2.heap.size W2 w1 := (bel_alloc hB _).grown hg1 (by have := hB.size; simp; omega) (fun q hq => (HO.out.lt q hq).1); obtain ⟨A1, C1, hv1, -⟩ := ho1.slice; rw [show (Y ++ [p]).length = N + 1 by first | (rw [List.length_append, HN.out]; rfl) | (rw [List.length_append, List.length_append, HN.out]; rfl)] at hv1; subst hv1; have HO1 := Lib.hid ho1; clear ho1 hg1)))
        go_roundw
        case rel => exact ⟨_, k + 1, dn, Y ++ [p], A1, N + 1, C1, rfl, by omega, Lib.hid (by rw [List.length_append, HN.out]; rfl), rfl, rfl, by go_num, by omega, hb1, HO1, hnew⟩
        case measure => simp [intOf]; omega
      · rw [hc] at hless hsame
        simp only [Int.reduceNeg, decide_true, Int.reduceEq, decide_false, reduceCtorEq] at hless hsame
        have hnew : Hid (Y ++ putR x dn (l.drop (k + 1)) = R) := Lib.hid (by rw [← hR.out, hs1, if_pos hc])
        clear hR hs1 hc
        generalize opT p.t = op' at *
        generalize nameT p.t = nm' at *
        generalize numT p.t = nu' at *
        generalize p.nm = y at *
        go_wp2
        go_roundw
        case rel => exact ⟨_, k + 1, dn, Y, A, N, C, rfl, by omega, HN, rfl, rfl, by go_num, by omega, by first | exact hB | exact below_drewN hB _, by first | exact HO | exact Lib.hid (HO.out.below (Below.refl _ _).drew), hnew⟩
        case measure => simp [intOf]; omega
      · rw [hc] at hless hsame
        simp only [Int.reduceNeg, decide_true, Int.reduceEq, decide_false, reduceCtorEq] at hless hsame
        cases dn with
        | true =>
          have hnew : Hid ((Y ++ [p]) ++ putR x true (l.drop (k + 1)) = R) := Lib.hid (by rw [← hR.out, hs1, if_neg (by omega), if_neg (by simp)]; simp)
          clear hR hs1 hc
          generalize opT p.t = op' at *
          generalize nameT p.t = nm' at *
          generalize numT p.t = nu' at *
          generalize p.nm = y at *
          go_wp2_with (first
            | (at_builtin; ((refine app_pairs rfl (.tmp 40) (.tmp 45) rfl W2.heap.size _ Y rfl (HO.out.below (bel_alloc (Below.refl _ _) _)) (fun q => q < W2.heap.size ∨ q = wr.heap.size) (fun q hq => ⟨by have := hB.size; simp; omega, fun e => by have h8 := HO.out.lt q e; have h9 := hB.size; omega⟩) _ _ _ [p] rfl (HBp.out wr hB) (by have := Hm.out; have := HN.out; first | (rw [List.length_append]; simp; omega) | (simp; omega)) (by have := hB.size; simp; omega) ?_); intro v1 w1 ho1 hg1; have hb1 : Below W2.heap.size W2 w1 := (bel_alloc hB _).grown hg1 (by have := hB.size; simp; omega) (fun q hq => (HO.out.lt q hq).1); obtain ⟨A1, C1, hv1, -⟩ := ho1.slice; rw [show (Y ++ [p]).length = N + 1 by first | (rw [List.length_append, HN.out]; rfl) | (rw [List.length_append, List.length_append, HN.out]; rfl)] at hv1; subst hv1; have HO1 := Lib.hid ho1; clear ho1 hg1)))
          go_roundw
          case rel => exact ⟨_, k + 1, true, Y ++ [p], A1, N + 1, C1, rfl, by omega, Lib.hid (by rw [List.length_append, HN.out]; rfl), rfl, rfl, by go_num, by omega, hb1, HO1, hnew⟩
          case measure => simp [intOf]; omega
        | false =>
          have hnew : Hid ((Y ++ [x] ++ [p]) ++ putR x true (l.drop (k + 1)) = R) := Lib.hid (by rw [← hR.out, hs1, if_neg (by omega), if_pos ⟨hc, rfl⟩]; simp)
          clear hR hs1 hc
          generalize opT p.t = op' at *
          generalize nameT p.t = nm' at *
          generalize numT p.t = nu' at *
          generalize p.nm = y at *
          go_wp2_with (first
            | (at_builtin; ((refine app_pairs rfl (.tmp 27) (.tmp 31) rfl W2.heap.size _ Y rfl (HO.out.below (bel_alloc (Below.refl _ _) _)) (fun q => q < W2.heap.size ∨ q = wr.heap.size) (fun q hq => ⟨by have := hB.size; simp; omega, fun e => by have h8 := HO.out.lt q e; have h9 := hB.size; omega⟩) _ _ _ [x] rfl (HBx.out wr hB) (by have := Hm.out; have := HN.out; first | (rw [List.length_append]; simp; omega) | (simp; omega)) (by have := hB.size; simp; omega) ?_); intro v1 w1 ho1 hg1; have hb1 : Below W2.heap.size W2 w1 := (bel_alloc hB _).grown hg1 (by have := hB.size; simp; omega) (fun q hq => (HO.out.lt q hq).1); obtain ⟨A1, C1, hv1, -⟩ := ho1.slice; rw [show (Y ++ [x]).length = N + 1 by first | (rw [List.length_append, HN.out]; rfl) | (rw [List.length_append, List.length_append, HN.out]; rfl)] at hv1; subst hv1; have HO1 := Lib.hid ho1; clear ho1 hg1; have z0 := (hb1.cell (p := ⟨bb, _, none⟩) hb).trans y0; have z1 := (hb1.cell (p := ⟨bb, _, none⟩) hb).trans y1; have z2 := (hb1.cell (p := ⟨bb, _, none⟩) hb).trans y2; have z3 := (hb1.cell (p := ⟨bb, _, none⟩) hb).trans y3; have z4 := (hb1.cell (p := ⟨bb, _, none⟩) hb).trans y4))
            | (at_builtin; ((refine app_pairs rfl (.tmp 40) (.tmp 45) rfl W2.heap.size _ (Y ++ [x]) rfl (HO1.out.below (bel_alloc (Below.refl _ _) _)) (fun q => q < W2.heap.size ∨ q = w1.heap.size) (fun q hq => ⟨by have := hb1.size; simp; omega, fun e => by have h8 := HO1.out.lt q e; have h9 := hb1.size; omega⟩) _ _ _ [p] rfl (HBp.out w1 hb1) (by have := Hm.out; have := HN.out; first | (rw [List.length_append]; simp; omega) | (simp; omega)) (by have := hb1.size; simp; omega) ?_); intro v2 w2 ho2 hg2; have hb2 : Below W2.heap.size W2 w2 := (bel_alloc hb1 _).grown hg2 (by have := hb1.size; simp; omega) (fun q hq => (HO1.out.lt q hq).1); obtain ⟨A2, C2, hv2, -⟩ := ho2.slice; rw [show ((Y ++ [x]) ++ [p]).length = N + 1 + 1 by first | (rw [List.length_append, HN.out]; rfl) | (rw [List.length_append, List.length_append, HN.out]; rfl)] at hv2; subst hv2; have HO2 := Lib.hid ho2; clear ho2 hg2)))
          go_roundw
          case rel => exact ⟨_, k + 1, true, Y ++ [x] ++ [p], A2, N + 1 + 1, C2, rfl, by omega, Lib.hid (by rw [List.length_append, List.length_append, HN.out]; rfl), rfl, rfl, by go_num, by omega, hb2, HO2, hnew⟩
          case measure => simp [intOf]; omega
    · have hs1 := HX.out k (by omega) dn
      cases dn with
      | true =>
        have hnew : Hid (Y = R) := Lib.hid (by rw [← hR.out, hs1]; simp)
        clear hR hs1 HG H0 HX HSt
        go_wp2
        go_ret
        exact ⟨_, _, _, rfl, by rw [← hnew.out]; exact HO.out.us, bel_trans HB2.out hB⟩
      | false =>
        have hnew : Hid (Y ++ [x] = R) := Lib.hid (by rw [← hR.out, hs1]; rfl)
        clear hR hs1 HG H0 HX HSt
        go_wp2_with (first
          | (at_builtin; ((refine app_pairs rfl (.tmp 49) (.tmp 53) rfl W2.heap.size _ Y rfl (HO.out.below (bel_alloc (Below.refl _ _) _)) (fun q => q < W2.heap.size ∨ q = wr.heap.size) (fun q hq => ⟨by have := hB.size; simp; omega, fun e => by have h8 := HO.out.lt q e; have h9 := hB.size; omega⟩) _ _ _ [x] rfl (HBx.out wr hB) (by have := Hm.out; have := HN.out; first | (rw [List.length_append]; simp; omega) | (simp; omega)) (by have := hB.size; simp; omega) ?_); intro v1 w1 ho1 hg1; have hb1 : Below W2.heap.size W2 w1 := (bel_alloc hB _).grown hg1 (by have := hB.size; simp; omega) (fun q hq => (HO.out.lt q hq).1); obtain ⟨A1, C1, hv1, -⟩ := ho1.slice; rw [show (Y ++ [x]).length = N + 1 by first | (rw [List.length_append, HN.out]; rfl) | (rw [List.length_append, List.length_append, HN.out]; rfl)] at hv1; subst hv1; have HO1 := Lib.hid ho1; clear ho1 hg1)))
        go_ret
        exact ⟨_, _, _, rfl, by rw [← hnew.out]; exact HO1.out.us, bel_trans HB2.out hb1⟩
end Go.Proofs.Ytnodcpifbcabmaa.U
