/-
  What is proved: the document's put of layer 11: a pair among rising names.
-/
import Derived.Test.YtnodcpifbcabmaaZMtM
import Derived.Test.YtnodcpifbcabmaaBM
import Derived.Test.YtnodcpifbcabmaaZMtH
import Derived.Deep.RegionHeld3
namespace Go.Proofs.Ytnodcpifbcabmaa.Mt
open Go.RowKit L T C B U
set_option linter.unusedVariables false
set_option linter.unusedSimpArgs false

theorem putL_pos {x : Pr} : ∀ (l : List Pr) (k : Nat), (∀ j p, j < k → l[j]? = some p → cmpN p.nm x.nm < 0) → (∀ p, l[k]? = some p → ¬ cmpN p.nm x.nm < 0) → k ≤ l.length → putL l x = l.take k ++ x :: l.drop k
  | [], k, _, _, hk => by
    have : k = 0 := by simpa using hk
    subst this; rfl
  | p :: l, 0, _, h, _ => by rw [putL, if_neg (h p rfl)]; rfl
  | p :: l, k + 1, h1, h2, hk => by
    rw [putL, if_pos (h1 0 p (by omega) rfl), putL_pos l k (fun j q hj hq => h1 (j + 1) q (by omega) (by simpa using hq)) (fun q hq => h2 q (by simpa using hq)) (by simpa using hk)]
    rfl
theorem UP.take {P : Nat → Prop} {w : World} {A : Option Addr} {n c : Nat} {l : List Pr} (h : UP P w A n c l) (k : Nat) (hk : k ≤ n) : UP P w A k c (l.take k) := by
  refine ⟨by rw [List.length_take, ← h.1]; omega, Nat.le_trans hk h.2.1, h.2.2.1, h.2.2.2.1, fun hn => ?_⟩
  obtain ⟨b, o, h1, h2, h3⟩ := h.2.2.2.2 (by omega)
  exact ⟨b, o, h1, h2, fun i p hi => h3 i p (by
    rw [List.getElem?_take] at hi
    split at hi
    · exact hi
    · cases hi)⟩
theorem UP.drop {P : Nat → Prop} {w : World} {b o : Nat} {n c : Nat} {l : List Pr} (h : UP P w (some ⟨b, o, none⟩) n c l) (k : Nat) (hk : k < n) : UP P w (some ⟨b, o + k * 5, none⟩) (n - k) (c - k) (l.drop k) := by
  refine ⟨by rw [List.length_drop, ← h.1], by have := h.2.1; omega, by have := h.2.2.1; omega, (fun e => by cases e), fun hn => ?_⟩
  obtain ⟨b', o', h1, h2, h3⟩ := h.2.2.2.2 (by omega)
  injection h1 with h1
  injection h1 with e1 e2
  subst e1 e2
  refine ⟨b, o + k * 5, rfl, h2, fun i p hi => ?_⟩
  obtain ⟨hd, h4, h5⟩ := h3 (k + i) p (by rw [List.getElem?_drop] at hi; exact hi)
  refine ⟨hd, h4, fun j u hj => ?_⟩
  rw [show o + k * 5 + i * 5 + j = o + (k + i) * 5 + j by omega]
  exact h5 j u hj
theorem UP.none' {P : Nat → Prop} {w : World} {A : Option Addr} {n c : Nat} (hn : n = 0) (hc : c ≤ maxLen) (h : A = none → c = 0) : UP P w A n c [] := by subst hn; exact ⟨rfl, Nat.zero_le _, hc, h, fun h => absurd h (by omega)⟩
/-- a box of one pair as a list of one -/
theorem box_up {P : Nat → Prop} {w : World} {z : Nat} {p : Pr} {a : Option Addr} {n c : Nat} (h : UBox w z p.nm (opT p.t) (nameT p.t) (numT p.t) a n c) (hz : P z) (hA : ArP P w p.t a n c) : UP P w (some ⟨z, 0, none⟩) 1 1 [p] := by
  refine ⟨rfl, Nat.le_refl _, (by unfold maxLen; omega), (fun e => by cases e), fun _ => ⟨z, 0, rfl, hz, fun i q hi => ?_⟩⟩
  have hi0 : i = 0 := by
    have := (List.getElem?_eq_some_iff.1 hi).1
    simpa using this
  subst hi0
  injection hi with hi
  subst hi
  refine ⟨huOf p a n c, ⟨⟨rfl, rfl, rfl, rfl⟩, hA⟩, fun j u hj => ?_⟩
  have := Blk.cell h j
  rw [Nat.zero_mul, Nat.add_zero, Nat.zero_add, this, ← hj]
  show #[Value.string p.nm, .int .i64 (opT p.t), .string (nameT p.t), .int .i64 (numT p.t), .slice a n c][j]? = [Value.string p.nm, .int .i64 (opT p.t), .string (nameT p.t), .int .i64 (numT p.t), .slice a n c][j]?
  simp
def PutP (l : List Pr) (x : Pr) (w : World) (e : Ending) (w' : World) : Prop := ∃ A C, e = .returned (.slice A (l.length + 1) C) ∧ UsW w' A (l.length + 1) C (putL l x) ∧ Below w.heap.size w w'
set_option maxRecDepth 100000 in
set_option maxHeartbeats 8000000 in
theorem Put11_any (l : List Pr) (x : Pr) (b : Option Addr) (m d : Nat) (a : Option Addr) (n c : Nat) (w : World) (hl : l.length ≤ 1000000) (hG : UsW w b m d l) (hA : ArW w x.t a n c) :
    Calls Try.prog 114 #[.slice b m d, .agg #[.string x.nm, .int .i64 (opT x.t), .string (nameT x.t), .int .i64 (numT x.t), .slice a n c]] w fun e w' => PutP l x w e w' := by
  obtain ⟨W2, hW2, hB2, hs2, S2⟩ := ubox1 w x.nm (opT x.t) (nameT x.t) (numT x.t) a n c
  have hG2 := UsW.b hG hB2
  have hA2 := ArW.b hA hB2
  have hm : m ≤ 9223372036854775807 := hG.lt63
  have hml : m = l.length := hG.1
  have hmd : m ≤ d := hG.2.1
  have hdM : d ≤ maxLen := hG.2.2.1
  have HD0 := Lib.hid hG.2.2.2.1
  obtain ⟨s0, s1, s2, s3, s4⟩ := S2.five
  have H1 := Lib.hid hG2
  have HA := Lib.hid hA2
  have HS := Lib.hid S2
  have l0 := Blk.lt S2
  clear hG hA hG2 hA2 S2
  have hml' := Lib.hid hml
  have hl' := Lib.hid hl
  clear hml hl
  obtain ⟨op, hop⟩ : ∃ z, opT x.t = z := ⟨_, rfl⟩
  obtain ⟨nm, hnm⟩ : ∃ z, nameT x.t = z := ⟨_, rfl⟩
  obtain ⟨nu, hnu⟩ : ∃ z, numT x.t = z := ⟨_, rfl⟩
  obtain ⟨xn, hxn⟩ : ∃ z, x.nm = z := ⟨_, rfl⟩
  rw [hop, hnm, hnu, hxn] at HS hW2
  rw [hop] at s1
  rw [hnm] at s2
  rw [hnu] at s3
  rw [hxn] at s0
  rw [hop, hnm, hnu, hxn]
  have Hop := Lib.hid hop
  have Hnm := Lib.hid hnm
  have Hnu := Lib.hid hnu
  have Hxn := Lib.hid hxn
  clear hop hnm hnu hxn
  have HUd := Lib.hid (show ∀ (W' : World), Below W2.heap.size W2 W' → UP (fun q => q < W2.heap.size) W' b m d l from fun W' h => (IsU.up H1.out).below (fun _ hq => hq) h)
  have HBx := Lib.hid (show ∀ (w1 : World), Below W2.heap.size W2 w1 → UP (fun q => q < W2.heap.size ∨ q = w1.heap.size) (w1.alloc (.cells #[.string xn, .int .i64 op, .string nm, .int .i64 nu, .slice a n c] 43)) (some ⟨w1.heap.size, 0, none⟩) 1 1 [x] from fun w1 h => by
    refine box_up (a := a) (n := n) (c := c) ?_ (.inr rfl) (ArP.to (fun q hq => (bel_alloc h _).block q hq) (fun q hq => .inl hq) _ (Ar.p _ HA.out))
    rw [Hop.out, Hnm.out, Hnu.out, Hxn.out]
    exact Blk.new w1 _ _)
  clear HA
  go_enter Try.func114, Try.ntmps114
  go_wp2
  go_loopw [5] (fun i wr0 => ∃ (wr : World) (k : Nat), wr = wr0 ∧ k ≤ m ∧ i = .int .i64 k ∧ Below W2.heap.size W2 wr ∧ Hid (∀ j p, j < k → l[j]? = some p → cmpN p.nm x.nm < 0)) (fun i _ => m - (intOf i).toNat)
  case atStart => exact ⟨_, 0, rfl, by omega, rfl, Below.refl _ _, Lib.hid (fun j p h => absurd h (by omega))⟩
  case round =>
    obtain ⟨wr, k, rfl, hk, rfl, hB, hR⟩ := hrel
    have R3 := UBox.b HS.out hB
    obtain ⟨u0, u1, u2, u3, u4⟩ := R3.five
    by_cases hlt : k < m
    · obtain ⟨bb, o, p, A, M, Cc, rfl, hb, y0, y1, y2, y3, y4, hx, hok⟩ := (UsW.b H1.out hB).at hlt
      have hk0 : 0 ≤ (k : Int) := by omega
      have hk1 : (k : Int) < (m : Int) := by omega
      have g1 : decide ((k : Int) < (m : Int)) = true := decide_eq_true (by omega)
      have g2 : decide (k < m) = true := decide_eq_true (by omega)
      have h1 := @less_yes p.nm xn
      by_cases hc : cmpN p.nm x.nm = -1
      · rw [← Hxn.out, hc] at h1
        rw [Hxn.out] at h1
        have hnew : Hid (∀ j q, j < k + 1 → l[j]? = some q → cmpN q.nm x.nm < 0) := Lib.hid (fun j q hj hq => by
          by_cases e : j = k
          · subst e; rw [hx] at hq; injection hq with hq; subst hq; omega
          · exact hR.out j q (by omega) hq)
        simp only [Int.reduceNeg, decide_true, Int.reduceEq, decide_false] at h1
        clear hx hok hR hc H1 HS R3 HUd HBx
        generalize opT p.t = op' at *
        generalize nameT p.t = nm' at *
        generalize numT p.t = nu' at *
        generalize p.nm = y at *
        go_wp2
        go_quiet (fail)
        go_wp2
        go_roundw
        case rel => exact ⟨_, k + 1, rfl, by omega, by go_num, below_drewN hB _, hnew⟩
        case measure => simp [intOf]; omega
      · have h1' : Go.Op.bytesLess p.nm.toList xn.toList = false := by rw [h1, ← Hxn.out]; exact decide_eq_false hc
        have HNo : Hid (∀ q, l[k]? = some q → ¬ cmpN q.nm x.nm < 0) := Lib.hid (fun q hq => by
          rw [hx] at hq; injection hq with hq; subst hq
          have := linN.rng p.nm x.nm
          omega)
        have HU1 := Lib.hid (show ∀ (W' : World), Below W2.heap.size W2 W' → UP (fun q => q < W2.heap.size) W' (some ⟨bb, o, none⟩) k d (l.take k) from fun W' h => UP.take (HUd.out W' h) k hk)
        have HU3 := Lib.hid (show ∀ (W' : World), Below W2.heap.size W2 W' → UP (fun q => q < W2.heap.size) W' (some ⟨bb, o + k * 5, none⟩) (m - k) (d - k) (l.drop k) from fun W' h => UP.drop (HUd.out W' h) k hlt)
        clear hx hok hc h1
        generalize opT p.t = op' at *
        generalize nameT p.t = nm' at *
        generalize numT p.t = nu' at *
        generalize p.nm = y at *
        have HP : Hid (l.take k ++ [x] ++ l.drop k = putL l x) := Lib.hid (by rw [putL_pos l k hR.out HNo.out (by have := hml'.out; omega), List.append_assoc]; rfl)
        have HL1 : Hid ((l.take k).length = k) := Lib.hid (by have := hml'.out; rw [List.length_take]; omega)
        have HL3 : Hid ((l.drop k).length = m - k) := Lib.hid (by have := hml'.out; rw [List.length_drop]; omega)
        have hs2' : W2.heap.size ≤ wr.heap.size := hB.size
        clear hR HNo H1 R3 HUd
        go_wp2
        go_quiet (fail)
        go_wp2_with (first
          | (at_builtin; ((refine app_pairs rfl (.tmp 23) (.tmp 26) rfl W2.heap.size (.slice none 0 0) [] rfl (OwnP.nil _ _) (fun q => q < W2.heap.size) (fun q hq => ⟨Nat.lt_of_lt_of_le hq hs2', by simp [Value.ownBlock]⟩) _ _ _ (l.take k) rfl (HU1.out _ (by first | exact hB | exact below_drewN hB _)) (by have := hml'.out; have := hl'.out; rw [HL1.out]; simp; omega) hs2' ?_); intro v1 w1 ho1 hg1; have hb1 : Below W2.heap.size W2 w1 := (by first | exact hB.grown hg1 hs2' (fun q hq => by simp [Value.ownBlock] at hq) | exact (below_drewN hB _).grown hg1 hs2' (fun q hq => by simp [Value.ownBlock] at hq)); obtain ⟨A1, C1, hv1, -⟩ := ho1.slice; rw [List.nil_append, HL1.out] at hv1; subst hv1; have HO1 := Lib.hid ho1; obtain ⟨q0, q1, q2, q3, q4⟩ := (UBox.b HS.out hb1).five; have hz1 := hb1.size; clear ho1 hg1))
          | (at_builtin; ((refine app_pairs rfl (.tmp 28) (.tmp 30) rfl W2.heap.size _ (l.take k) rfl (HO1.out.below (bel_alloc (Below.refl _ _) _)) (fun q => q < W2.heap.size ∨ q = w1.heap.size) (fun q hq => ⟨by simp; omega, fun e => by have := HO1.out.lt q e; omega⟩) _ _ _ [x] rfl (HBx.out w1 hb1) (by have := hml'.out; have := hl'.out; rw [HL1.out]; simp; omega) (by simp; omega) ?_); intro v2 w2 ho2 hg2; have hb2 : Below W2.heap.size W2 w2 := (bel_alloc hb1 _).grown hg2 (by simp; omega) (fun q hq => (HO1.out.lt q hq).1); have hz2 := hb2.size; obtain ⟨A2, C2, hv2, -⟩ := ho2.slice; rw [List.length_append, HL1.out, show k + [x].length = k + 1 from rfl] at hv2; subst hv2; have HO2 := Lib.hid ho2; clear ho2 hg2))
          | (at_builtin; ((refine app_pairs rfl (.tmp 32) (.tmp 35) rfl W2.heap.size _ (l.take k ++ [x]) rfl HO2.out (fun q => q < W2.heap.size) (fun q hq => ⟨by omega, fun e => by have := HO2.out.lt q e; omega⟩) _ _ _ (l.drop k) rfl (HU3.out _ hb2) (by have := hml'.out; have := hl'.out; rw [List.length_append, HL1.out, HL3.out]; simp; omega) hz2 ?_); intro v3 w3 ho3 hg3; have hb3 : Below W2.heap.size W2 w3 := hb2.grown hg3 hz2 (fun q hq => (HO2.out.lt q hq).1); obtain ⟨A3, C3, hv3, -⟩ := ho3.slice; rw [List.length_append, List.length_append, HL1.out, HL3.out, show k + [x].length + (m - k) = l.length + 1 by have := hml'.out; simp; omega] at hv3; subst hv3; rw [HP.out] at ho3; have HO3 := Lib.hid ho3; clear ho3 hg3)))
        go_ret
        exact ⟨_, _, rfl, HO3.out.us, (hB2.mono (Nat.le_refl _)).trans (hb3.mono hB2.size)⟩
    · have hkm : m = k := by omega
      subst hkm
      have HNo : Hid (∀ q, l[m]? = some q → ¬ cmpN q.nm x.nm < 0) := Lib.hid (fun q hq => by
        have := (List.getElem?_eq_some_iff.1 hq).1
        have := hml'.out
        omega)
      have HT : Hid (l.take m = l) := Lib.hid (List.take_of_length_le (by have := hml'.out; omega))
      have hk0 : 0 ≤ (m : Int) := by omega
      cases b with
      | none =>
        have hd0 : d = 0 := HD0.out rfl
        subst hd0
        have hm0 : m = 0 := by omega
        subst hm0
        have HU1 := Lib.hid (show ∀ (W' : World), Below W2.heap.size W2 W' → UP (fun q => q < W2.heap.size) W' none 0 0 (l.take 0) from fun W' h => by rw [HT.out]; exact HUd.out W' h)
        clear hlt HT hmd
        have HP : Hid (l.take 0 ++ [x] ++ [] = putL l x) := Lib.hid (by rw [putL_pos l 0 hR.out HNo.out (by have := hml'.out; omega), List.drop_eq_nil_of_le (by have := hml'.out; omega), List.append_nil])
        have HL1 : Hid ((l.take 0).length = 0) := Lib.hid (by have := hml'.out; rw [List.length_take]; omega)
        have HL3 : Hid (([] : List Pr).length = 0 - 0) := Lib.hid (by simp)
        have hs2' : W2.heap.size ≤ wr.heap.size := hB.size
        clear hR HNo H1 R3 HUd
        go_wp2
        go_quiet (fail)
        go_wp2_with (first
          | (at_builtin; ((refine app_pairs rfl (.tmp 23) (.tmp 26) rfl W2.heap.size (.slice none 0 0) [] rfl (OwnP.nil _ _) (fun q => q < W2.heap.size) (fun q hq => ⟨Nat.lt_of_lt_of_le hq hs2', by simp [Value.ownBlock]⟩) _ _ _ (l.take 0) rfl (HU1.out _ (by first | exact hB | exact below_drewN hB _)) (by have := hml'.out; have := hl'.out; rw [HL1.out]; simp <;> omega) hs2' ?_); intro v1 w1 ho1 hg1; have hb1 : Below W2.heap.size W2 w1 := (by first | exact hB.grown hg1 hs2' (fun q hq => by simp [Value.ownBlock] at hq) | exact (below_drewN hB _).grown hg1 hs2' (fun q hq => by simp [Value.ownBlock] at hq)); obtain ⟨A1, C1, hv1, -⟩ := ho1.slice; rw [List.nil_append, HL1.out] at hv1; subst hv1; have HO1 := Lib.hid ho1; obtain ⟨q0, q1, q2, q3, q4⟩ := (UBox.b HS.out hb1).five; have hz1 := hb1.size; clear ho1 hg1))
          | (at_builtin; ((refine app_pairs rfl (.tmp 28) (.tmp 30) rfl W2.heap.size _ (l.take 0) rfl (HO1.out.below (bel_alloc (Below.refl _ _) _)) (fun q => q < W2.heap.size ∨ q = w1.heap.size) (fun q hq => ⟨by simp <;> omega, fun e => by have := HO1.out.lt q e; omega⟩) _ _ _ [x] rfl (HBx.out w1 hb1) (by have := hml'.out; have := hl'.out; rw [HL1.out]; simp <;> omega) (by simp <;> omega) ?_); intro v2 w2 ho2 hg2; have hb2 : Below W2.heap.size W2 w2 := (bel_alloc hb1 _).grown hg2 (by simp <;> omega) (fun q hq => (HO1.out.lt q hq).1); have hz2 := hb2.size; obtain ⟨A2, C2, hv2, -⟩ := ho2.slice; rw [List.length_append, HL1.out, show 0 + [x].length = 0 + 1 from rfl] at hv2; subst hv2; have HO2 := Lib.hid ho2; clear ho2 hg2))
          | (at_builtin; ((refine app_pairs rfl (.tmp 32) (.tmp 35) rfl W2.heap.size _ (l.take 0 ++ [x]) rfl HO2.out (fun q => q < W2.heap.size) (fun q hq => ⟨by omega, fun e => by have := HO2.out.lt q e; omega⟩) _ _ _ [] rfl (UP.none' (by omega) (by omega) (fun e => by first | rfl | cases e | (split at e <;> cases e) | (simp at e; done) | (exfalso; split at e <;> simp at e))) (by have := hml'.out; have := hl'.out; rw [List.length_append, HL1.out, HL3.out]; simp <;> omega) hz2 ?_); intro v3 w3 ho3 hg3; have hb3 : Below W2.heap.size W2 w3 := hb2.grown hg3 hz2 (fun q hq => (HO2.out.lt q hq).1); obtain ⟨A3, C3, hv3, -⟩ := ho3.slice; rw [List.length_append, List.length_append, HL1.out, HL3.out, show 0 + [x].length + (0 - 0) = l.length + 1 by have := hml'.out; rw [List.length_singleton]; omega] at hv3; subst hv3; rw [HP.out] at ho3; have HO3 := Lib.hid ho3; clear ho3 hg3)))
        go_ret
        exact ⟨_, _, rfl, HO3.out.us, (hB2.mono (Nat.le_refl _)).trans (hb3.mono hB2.size)⟩
      | some ad =>
        have HU1 := Lib.hid (show ∀ (W' : World), Below W2.heap.size W2 W' → UP (fun q => q < W2.heap.size) W' (some ad) m d (l.take m) from fun W' h => by rw [HT.out]; exact HUd.out W' h)
        clear hlt HT
        have HP : Hid (l.take m ++ [x] ++ [] = putL l x) := Lib.hid (by rw [putL_pos l m hR.out HNo.out (by have := hml'.out; omega), List.drop_eq_nil_of_le (by have := hml'.out; omega), List.append_nil])
        have HL1 : Hid ((l.take m).length = m) := Lib.hid (by have := hml'.out; rw [List.length_take]; omega)
        have HL3 : Hid (([] : List Pr).length = m - m) := Lib.hid (by simp)
        have hs2' : W2.heap.size ≤ wr.heap.size := hB.size
        clear hR HNo H1 R3 HUd
        go_wp2
        go_quiet (fail)
        go_wp2_with (first
          | (at_builtin; ((refine app_pairs rfl (.tmp 23) (.tmp 26) rfl W2.heap.size (.slice none 0 0) [] rfl (OwnP.nil _ _) (fun q => q < W2.heap.size) (fun q hq => ⟨Nat.lt_of_lt_of_le hq hs2', by simp [Value.ownBlock]⟩) _ _ _ (l.take m) rfl (HU1.out _ (by first | exact hB | exact below_drewN hB _)) (by have := hml'.out; have := hl'.out; rw [HL1.out]; simp <;> omega) hs2' ?_); intro v1 w1 ho1 hg1; have hb1 : Below W2.heap.size W2 w1 := (by first | exact hB.grown hg1 hs2' (fun q hq => by simp [Value.ownBlock] at hq) | exact (below_drewN hB _).grown hg1 hs2' (fun q hq => by simp [Value.ownBlock] at hq)); obtain ⟨A1, C1, hv1, -⟩ := ho1.slice; rw [List.nil_append, HL1.out] at hv1; subst hv1; have HO1 := Lib.hid ho1; obtain ⟨q0, q1, q2, q3, q4⟩ := (UBox.b HS.out hb1).five; have hz1 := hb1.size; clear ho1 hg1))
          | (at_builtin; ((refine app_pairs rfl (.tmp 28) (.tmp 30) rfl W2.heap.size _ (l.take m) rfl (HO1.out.below (bel_alloc (Below.refl _ _) _)) (fun q => q < W2.heap.size ∨ q = w1.heap.size) (fun q hq => ⟨by simp <;> omega, fun e => by have := HO1.out.lt q e; omega⟩) _ _ _ [x] rfl (HBx.out w1 hb1) (by have := hml'.out; have := hl'.out; rw [HL1.out]; simp <;> omega) (by simp <;> omega) ?_); intro v2 w2 ho2 hg2; have hb2 : Below W2.heap.size W2 w2 := (bel_alloc hb1 _).grown hg2 (by simp <;> omega) (fun q hq => (HO1.out.lt q hq).1); have hz2 := hb2.size; obtain ⟨A2, C2, hv2, -⟩ := ho2.slice; rw [List.length_append, HL1.out, show m + [x].length = m + 1 from rfl] at hv2; subst hv2; have HO2 := Lib.hid ho2; clear ho2 hg2))
          | (at_builtin; ((refine app_pairs rfl (.tmp 32) (.tmp 35) rfl W2.heap.size _ (l.take m ++ [x]) rfl HO2.out (fun q => q < W2.heap.size) (fun q hq => ⟨by omega, fun e => by have := HO2.out.lt q e; omega⟩) _ _ _ [] rfl (UP.none' (by omega) (by omega) (fun e => by first | rfl | cases e | (split at e <;> cases e) | (simp at e; done) | (exfalso; split at e <;> simp at e))) (by have := hml'.out; have := hl'.out; rw [List.length_append, HL1.out, HL3.out]; simp <;> omega) hz2 ?_); intro v3 w3 ho3 hg3; have hb3 : Below W2.heap.size W2 w3 := hb2.grown hg3 hz2 (fun q hq => (HO2.out.lt q hq).1); obtain ⟨A3, C3, hv3, -⟩ := ho3.slice; rw [List.length_append, List.length_append, HL1.out, HL3.out, show m + [x].length + (m - m) = l.length + 1 by have := hml'.out; rw [List.length_singleton]; omega] at hv3; subst hv3; rw [HP.out] at ho3; have HO3 := Lib.hid ho3; clear ho3 hg3)))
        all_goals go_ret
        all_goals exact ⟨_, _, rfl, HO3.out.us, (hB2.mono (Nat.le_refl _)).trans (hb3.mono hB2.size)⟩
end Go.Proofs.Ytnodcpifbcabmaa.Mt
