/-
  What is proved: the document's bound, May and get of layer 11.
-/
import Derived.Test.YtnodcpifbcabmaaZMtM
import Derived.Test.YtnodcpifbcabmaaBR
import Derived.Test.YtnodcpifbcabmaaZSbG
namespace Go.Proofs.Ytnodcpifbcabmaa.Mt
open Go.RowKit L T C B U
set_option linter.unusedVariables false
set_option linter.unusedSimpArgs false

theorem bdT_mk (t : Tm) : bdT t = (opT t == 2 || bdTs (argsT t)) := by cases t; rw [bdT]; rfl
theorem bdTs_step {x : Tm} {l : List Tm} {k : Nat} (h : l[k]? = some x) : bdTs (l.drop k) = (bdT x || bdTs (l.drop (k + 1))) := by rw [drop_t h, bdTs]
def BdOk (t : Tm) : Prop := ∀ (a : Option Addr) (n c : Nat) (w : World), ArW w t a n c →
  Calls Try.prog 77 #[.agg #[.int .i64 (opT t), .string (nameT t), .int .i64 (numT t), .slice a n c]] w fun e w' => e = .returned (.bool (bdT t)) ∧ Below w.heap.size w w'
set_option maxRecDepth 100000 in
set_option maxHeartbeats 8000000 in
theorem bd_step (t : Tm) (hok : ∀ x ∈ argsT t, BdOk x) : BdOk t := by
  intro a n c w hA
  obtain ⟨W2, hW2, hB2, hs2, S2⟩ := box1 w (opT t) (nameT t) (numT t) a n c
  have hT := TsW.b (ArW.args hA) hB2
  have hR : bdT t = (opT t == 2 || bdTs ((argsT t).drop 0)) := bdT_mk t
  generalize bdT t = R at *
  have hk2 : ∀ k x, (argsT t)[k]? = some x → BdOk x := fun k x h => hok x (List.mem_of_getElem? h)
  have hst : ∀ k x, (argsT t)[k]? = some x → bdTs ((argsT t).drop k) = (bdT x || bdTs ((argsT t).drop (k + 1))) := fun k x h => bdTs_step h
  have he : ∀ k, n ≤ k → bdTs ((argsT t).drop k) = false := fun k h => by rw [List.drop_eq_nil_of_le (by rw [← hT.1]; exact h), bdTs]
  have hn : n ≤ 9223372036854775807 := by have h1 := hT.2.1; have h2 := hT.2.2.1; unfold maxLen at h2; omega
  generalize argsT t = l at *
  obtain ⟨F, hF⟩ : ∃ F : Nat → Bool, ∀ k, bdTs (l.drop k) = F k := ⟨_, fun _ => rfl⟩
  simp only [hF] at hst he hR
  obtain ⟨s0, s1, s2, s3⟩ := S2.four
  have H1 := Lib.hid hT
  have Hst := Lib.hid hst
  have He := Lib.hid he
  have HK := Lib.hid hk2
  have HS := Lib.hid S2
  have HR := Lib.hid hR
  clear hA hT hst he hk2 hok hF S2 hR
  generalize opT t = op at *
  generalize nameT t = nm at *
  generalize numT t = nu at *
  by_cases h2 : op = 2
  · subst h2
    have hnew : Hid (true = R) := Lib.hid (by rw [HR.out]; rfl)
    go_enter Try.func77, Try.ntmps77
    go_wp2
    go_ret
    exact ⟨oneB hnew.out, hB2⟩
  have q2 : (op == 2) = false := beq_no' h2
  have HR2 : Hid (R = F 0) := Lib.hid (by rw [HR.out, q2]; rfl)
  clear h2
  go_enter Try.func77, Try.ntmps77
  go_wp2
  go_loopw [3] (fun i wr0 => ∃ (wr : World) (k : Nat), wr = wr0 ∧ k ≤ n ∧ i = .int .i64 k ∧ Below W2.heap.size W2 wr ∧ Hid (F k = F 0)) (fun i _ => n - (intOf i).toNat)
  case atStart => exact ⟨_, 0, rfl, by omega, rfl, Below.refl _ _, Lib.hid rfl⟩
  case round =>
    obtain ⟨wr, k, rfl, hk, rfl, hB, hRk⟩ := hrel
    obtain ⟨u0, u1, u2, s3r⟩ := (TBox.b HS.out hB).four
    by_cases hlt : k < n
    · obtain ⟨bb, o, x, A, M, Cc, rfl, hb, y0, y1, y2, y3, hx, hok⟩ := (TsW.b H1.out hB).at hlt
      have hs1 := Lib.hid (Hst.out k x hx)
      have cs := HK.out k x hx A M Cc wr hok
      clear hx hok H1 Hst HK HS
      generalize bdT x = px at *
      generalize opT x = op' at *
      generalize nameT x = nm' at *
      generalize numT x = nu' at *
      have hk0 : 0 ≤ (k : Int) := by omega
      have hk1 : (k : Int) < (n : Int) := by omega
      cases px with
      | false =>
        have hnew : Hid (F (k + 1) = F 0) := Lib.hid (by rw [← hRk.out, hs1.out]; rfl)
        clear hRk hs1
        go_wp2_with (go_at_call 77; ((with_reducible refine cs.mono ?_); rintro e w4 ⟨rfl, hb4⟩))
        go_roundw
        case rel => exact ⟨_, k + 1, rfl, by omega, by go_num, bel_trans hB hb4, hnew⟩
        case measure => simp [intOf]; omega
      | true =>
        have hnew : Hid (true = R) := Lib.hid (by rw [HR2.out, ← hRk.out, hs1.out]; rfl)
        clear hRk hs1
        go_wp2_with (go_at_call 77; ((with_reducible refine cs.mono ?_); rintro e w4 ⟨rfl, hb4⟩))
        go_ret
        exact ⟨oneB hnew.out, bel_trans hB2 (bel_trans hB hb4)⟩
    · have hnew : Hid (false = R) := Lib.hid (by rw [HR2.out, ← hRk.out, He.out k (by omega)])
      clear hRk
      go_wp2
      go_ret
      exact ⟨oneB hnew.out, bel_trans hB2 hB⟩
theorem Bound_any (t : Tm) : BdOk t := Tm.ind bd_step t
set_option maxRecDepth 100000 in
set_option maxHeartbeats 4000000 in
theorem Get11_any (l : List Pr) (s : ByteArray) (b : Option Addr) (m d : Nat) (w : World) (hG : UsW w b m d l) :
    Calls Try.prog 112 #[.slice b m d, .string s] w fun e w' => GetP l s w e w' := by
  obtain ⟨W2, hW2, hB2, hs2, R2⟩ := box1 w 0 ⟨#[]⟩ 0 none 0 0
  have hm : m ≤ 9223372036854775807 := hG.lt63
  have H1 := Lib.hid hG
  have HR := Lib.hid R2
  have HE := Lib.hid (show ∀ k, m ≤ k → getU (l.drop k) s = none from fun k h => by rw [List.drop_eq_nil_of_le (by rw [← hG.1]; exact h), getU])
  have HF1 := Lib.hid (show ∀ (w3 w4 : World) (t : Tm) (a : Option Addr) (n c : Nat), getU l s = some t → ArW w t a n c → Below W2.heap.size W2 w3 → ∀ v0 v1 v2 v3, GetP l s w (.returned (.tuple #[.agg #[.int .i64 (opT t), .string (nameT t), .int .i64 (numT t), .slice a n c], .bool true])) ((((w3.setCell ⟨w.heap.size, 0, none⟩ v0).setCell ⟨w.heap.size, 1, none⟩ v1).setCell ⟨w.heap.size, 2, none⟩ v2).setCell ⟨w.heap.size, 3, none⟩ v3) from fun w3 _ t a n c h1 h2 h3 v0 v1 v2 v3 => by
    have hb := put_below (bel_trans hB2 h3) (Nat.le_refl _) v0 v1 v2 v3
    exact .inl ⟨t, a, n, c, h1, rfl, ArW.b h2 hb, hb⟩)
  have HF2 := Lib.hid (show ∀ (w3 : World), getU l s = none → Below W2.heap.size W2 w3 → ∀ v0 v1 v2 v3, GetP l s w (.returned (.tuple #[.agg #[.int .i64 0, .string ⟨#[]⟩, .int .i64 0, .slice none 0 0], .bool false])) ((((w3.setCell ⟨w.heap.size, 0, none⟩ v0).setCell ⟨w.heap.size, 1, none⟩ v1).setCell ⟨w.heap.size, 2, none⟩ v2).setCell ⟨w.heap.size, 3, none⟩ v3) from fun w3 h1 h3 v0 v1 v2 v3 => .inr ⟨h1, rfl, put_below (bel_trans hB2 h3) (Nat.le_refl _) v0 v1 v2 v3⟩)
  have h00 : getU (l.drop 0) s = getU l s := rfl
  have H00 := Lib.hid h00
  clear hG R2 hs2 h00
  go_enter Try.func112, Try.ntmps112
  go_wp2
  go_loopw [6] (fun i wr0 => ∃ (wr : World) (k : Nat), wr = wr0 ∧ k ≤ m ∧ i = .int .i64 k ∧ Below W2.heap.size W2 wr ∧ Hid (getU (l.drop k) s = getU l s)) (fun i _ => m - (intOf i).toNat)
  case atStart => exact ⟨_, 0, rfl, by omega, rfl, Below.refl _ _, H00⟩
  case round =>
    obtain ⟨wr, k, rfl, hk, rfl, hB, hR⟩ := hrel
    have R3 := TBox.b HR.out hB
    obtain ⟨r0, r1, r2, r3⟩ := R3.free
    obtain ⟨v0, v1, v2, v3⟩ := R3.four
    by_cases hlt : k < m
    · obtain ⟨bb, o, p, A, M, Cc, rfl, hb, z0, z1, z2, z3, z4, hx, hok⟩ := H1.out.at hlt
      have hbw := bel_trans hB2 hB
      have y0 := (hbw.cell (p := ⟨bb, _, none⟩) hb).trans z0
      have y1 := (hbw.cell (p := ⟨bb, _, none⟩) hb).trans z1
      have y2 := (hbw.cell (p := ⟨bb, _, none⟩) hb).trans z2
      have y3 := (hbw.cell (p := ⟨bb, _, none⟩) hb).trans z3
      have y4 := (hbw.cell (p := ⟨bb, _, none⟩) hb).trans z4
      have hs1 := getU_step (s := s) hx
      have hk0 : 0 ≤ (k : Int) := by omega
      have hk1 : (k : Int) < (m : Int) := by omega
      clear z0 z1 z2 z3 z4 hx hbw
      cases hq : p.nm.toList == s.toList with
      | true =>
        have hn := Lib.hid (fun v0 v1 v2 v3 => HF1.out wr wr p.t A M Cc (by rw [← hR.out, hs1, if_pos hq]) hok hB v0 v1 v2 v3)
        have F3 := TBox.put R3 (opT p.t) (nameT p.t) (numT p.t) A M Cc
        obtain ⟨x0, x1, x2, x3⟩ := F3.four
        clear HF1 HF2 hs1 hR hok R3 F3 H1
        generalize opT p.t = op at *
        generalize nameT p.t = nm at *
        generalize numT p.t = nu at *
        generalize p.nm = x at *
        go_wp2
        simp [bodyPost, results, Try.results112, go_sem, x0, x1, x2, x3]
        exact hn.out _ _ _ _
      | false =>
        have hnew : Hid (getU (l.drop (k + 1)) s = getU l s) := Lib.hid (by rw [← hR.out, hs1, if_neg (by rw [hq]; simp)])
        clear HF1 HF2 hs1 hR hok R3 H1
        generalize opT p.t = op at *
        generalize nameT p.t = nm at *
        generalize numT p.t = nu at *
        generalize p.nm = x at *
        go_wp2
        go_roundw
        case rel => exact ⟨_, k + 1, rfl, by omega, by go_num, hB, hnew⟩
        case measure => simp [intOf]; omega
    · have hn := Lib.hid (fun v0 v1 v2 v3 => HF2.out wr (by rw [← hR.out]; exact HE.out k (by omega)) hB v0 v1 v2 v3)
      have F3 := TBox.put R3 0 ⟨#[]⟩ 0 none 0 0
      obtain ⟨x0, x1, x2, x3⟩ := F3.four
      clear HF1 HF2 hR R3 F3
      go_wp2
      simp [bodyPost, results, Try.results112, go_sem, x0, x1, x2, x3]
      exact hn.out _ _ _ _
end Go.Proofs.Ytnodcpifbcabmaa.Mt
