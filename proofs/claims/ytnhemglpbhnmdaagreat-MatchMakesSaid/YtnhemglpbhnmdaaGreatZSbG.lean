/-
  What is proved: what the document's Get answers: the term of the first pair of that name.
-/
import Derived.Test.YtnhemglpbhnmdaaGreatBM
namespace Go.Proofs.YtnhemglpbhnmdaaGreat.U
open Go.RowKit L T C
set_option linter.unusedVariables false
set_option linter.unusedSimpArgs false

def GetP (l : List Pr) (s : ByteArray) (w : World) (e : Ending) (w' : World) : Prop :=
  (∃ (t : Tm) (a : Option Addr) (n c : Nat), getU l s = some t ∧ e = .returned (.tuple #[.agg #[.int .i64 (opT t), .string (nameT t), .int .i64 (numT t), .slice a n c], .bool true]) ∧ ArW w' t a n c ∧ Below w.heap.size w w') ∨
  (getU l s = none ∧ e = .returned (.tuple #[.agg #[.int .i64 0, .string ⟨#[]⟩, .int .i64 0, .slice none 0 0], .bool false]) ∧ Below w.heap.size w w')
theorem getU_step {l : List Pr} {k : Nat} {p : Pr} {s : ByteArray} (h : l[k]? = some p) : getU (l.drop k) s = if p.nm.toList == s.toList then some p.t else getU (l.drop (k + 1)) s := by rw [drop_u h, getU]
set_option maxRecDepth 100000 in
set_option maxHeartbeats 4000000 in
theorem Get10_any (l : List Pr) (s : ByteArray) (b : Option Addr) (m d : Nat) (w : World) (hG : UsW w b m d l) :
    Calls Tryz.prog 114 #[.slice b m d, .string s] w fun e w' => GetP l s w e w' := by
  obtain ⟨W2, hW2, hB2, hs2, R2⟩ := box1 w 0 ⟨#[]⟩ 0 none 0 0
  have hm : m ≤ 9223372036854775807 := hG.lt63
  have H1 := Lib.hid hG
  have HR := Lib.hid R2
  have HE := Lib.hid (show ∀ k, m ≤ k → getU (l.drop k) s = none from fun k h => by rw [List.drop_eq_nil_of_le (by rw [← hG.1]; exact h), getU])
  have HF1 := Lib.hid (show ∀ (w3 w4 : World) (t : Tm) (a : Option Addr) (n c : Nat), getU l s = some t → ArW w t a n c → Below W2.heap.size W2 w3 → ∀ v0 v1 v2 v3, GetP l s w (.returned (.tuple #[.agg #[.int .i64 (opT t), .string (nameT t), .int .i64 (numT t), .slice a n c], .bool true])) ((((w3.setCell ⟨w.heap.size, 0, none⟩ v0).setCell ⟨w.heap.size, 1, none⟩ v1).setCell ⟨w.heap.size, 2, none⟩ v2).setCell ⟨w.heap.size, 3, none⟩ v3) from fun w3 _ t a n c h1 h2 h3 v0 v1 v2 v3 => by
    have hb := put_below (bel_trans hB2 h3) (Nat.le_refl _) v0 v1 v2 v3
    exact .inl ⟨t, a, n, c, h1, rfl, ArW.b h2 hb, hb⟩)
  have HF2 := Lib.hid (show ∀ (w3 : World), getU l s = none → Below W2.heap.size W2 w3 → ∀ v0 v1 v2 v3, GetP l s w (.returned (.tuple #[.agg #[.int .i64 0, .string ⟨#[]⟩, .int .i64 0, .slice none 0 0], .bool false])) ((((w3.setCell ⟨w.heap.size, 0, none⟩ v0).setCell ⟨w.heap.size, 1, none⟩ v1).setCell ⟨w.heap.size, 2, none⟩ v2).setCell ⟨w.heap.size, 3, none⟩ v3) from fun w3 h1 h3 v0 v1 v2 v3 => .inr ⟨h1, rfl, put_below (bel_trans hB2 h3) (Nat.le_refl _) v0 v1 v2 v3⟩)
  have h00 : getU (l.drop 0) s = getU l s := rfl
  have H00 := Lib.hid h00
  clear hG R2 hs2 h00
  go_enter Tryz.func114, Tryz.ntmps114
  go_wp2
  go_loopw [6] (fun i wr0 => ∃ (wr : World) (k : Nat), wr = wr0 ∧ k ≤ m ∧ i = .int .i64 k ∧ Below W2.heap.size W2 wr ∧ Hid (getU (l.drop k) s = getU l s)) (fun i _ => m - (intOf i).toNat)
  case atStart => exact ⟨_, 0, rfl, by omega, rfl, Below.refl _ _, H00⟩
  case round =>
    obtain ⟨wr, k, rfl, hk, rfl, hB, hR⟩ := hrel
    have R3 := TBox.b HR.out hB
    obtain ⟨r0, r1, r2, r3⟩ := R3.free
    obtain ⟨v0, v1, v2, v3⟩ := R3.four
    by_cases hlt : k < m
    · obtain ⟨bb, o, p, A, M, Cc, rfl, hb, z0, z1, z2, z3, z4, hx, hok⟩ := H1.out.at hlt
      have hbw := bel_trans hB2 hB
      have y0 := (hbw.cell (p := ⟨bb, _, none⟩) hb).trans z0
      have y1 := (hbw.cell (p := ⟨bb, _, none⟩) hb).trans z1
      have y2 := (hbw.cell (p := ⟨bb, _, none⟩) hb).trans z2
      have y3 := (hbw.cell (p := ⟨bb, _, none⟩) hb).trans z3
      have y4 := (hbw.cell (p := ⟨bb, _, none⟩) hb).trans z4
      have hs1 := getU_step (s := s) hx
      have hk0 : 0 ≤ (k : Int) := by omega
      have hk1 : (k : Int) < (m : Int) := by omega
      clear z0 z1 z2 z3 z4 hx hbw
      cases hq : p.nm.toList == s.toList with
      | true =>
        have hn := Lib.hid (fun v0 v1 v2 v3 => HF1.out wr wr p.t A M Cc (by rw [← hR.out, hs1, if_pos hq]) hok hB v0 v1 v2 v3)
        have F3 := TBox.put R3 (opT p.t) (nameT p.t) (numT p.t) A M Cc
        obtain ⟨x0, x1, x2, x3⟩ := F3.four
        clear HF1 HF2 hs1 hR hok R3 F3 H1
        generalize opT p.t = op at *
        generalize nameT p.t = nm at *
        generalize numT p.t = nu at *
        generalize p.nm = x at *
        go_wp2
        simp [bodyPost, results, Tryz.results114, go_sem, x0, x1, x2, x3]
        exact hn.out _ _ _ _
      | false =>
        have hnew : Hid (getU (l.drop (k + 1)) s = getU l s) := Lib.hid (by rw [← hR.out, hs1, if_neg (by rw [hq]; simp)])
        clear HF1 HF2 hs1 hR hok R3 H1
        generalize opT p.t = op at *
        generalize nameT p.t = nm at *
        generalize numT p.t = nu at *
        generalize p.nm = x at *
        go_wp2
        go_roundw
        case rel => exact ⟨_, k + 1, rfl, by omega, by go_num, hB, hnew⟩
        case measure => simp [intOf]; omega
    · have hn := Lib.hid (fun v0 v1 v2 v3 => HF2.out wr (by rw [← hR.out]; exact HE.out k (by omega)) hB v0 v1 v2 v3)
      have F3 := TBox.put R3 0 ⟨#[]⟩ 0 none 0 0
      obtain ⟨x0, x1, x2, x3⟩ := F3.four
      clear HF1 HF2 hR R3 F3
      go_wp2
      simp [bodyPost, results, Tryz.results114, go_sem, x0, x1, x2, x3]
      exact hn.out _ _ _ _
end Go.Proofs.YtnhemglpbhnmdaaGreat.U
