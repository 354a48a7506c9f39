/-
  What is proved: the depth of a claim and whether a claim is right, by the document's answers of layer 13.
  What is proved: the first error of a claim's parts, by the document's answer of layer 13.
  What is proved: whether a claim is right, by the document's answer of layer 13.
-/
import Derived.Test.YtacncbkcnhlpcaaZRgtM
import Derived.Test.YtacncbkcnhlpcaaZClmWt
import Derived.Test.YtacncbkcnhlpcaaRS
namespace Go.Proofs.Ytacncbkcnhlpcaa.Wl
open Go.RowKit L T C
set_option linter.unusedVariables false
set_option linter.unusedSimpArgs false
set_option maxRecDepth 100000

theorem dpCs_le_take (l : List Cl) (k : Nat) : dpCs (l.take k) ≤ dpCs l := by
  have h := dpCs_app (l.take k) (l.drop k)
  rw [List.take_append_drop] at h
  omega
def Dep13Ok (t : Cl) : Prop := ∀ (kk : SS) (a : Option Addr) (n c most : Nat) (w : World), most ≤ 1000000000 → ArWC w t kk a n c →
  Calls Try.prog 67 #[.agg #[.int .i64 (opC t), .string (nmC t), .string (soC t), .slice kk.a kk.n kk.c, .slice a n c], .int .i64 most] w fun e w' => e = .returned (.int .i64 ((min (dpC t) (most + 1) : Nat) : Int)) ∧ Below w.heap.size w w'
set_option maxHeartbeats 4000000 in
theorem dep13_step (t : Cl) (hok : ∀ x ∈ subC t, Dep13Ok x) : Dep13Ok t := by
  intro kk a n c most w hm hA
  obtain ⟨ka, kn, kc⟩ := kk
  obtain ⟨W2, hW2, hB2, hs2, S2⟩ := cbox1 w (opC t) (nmC t) (soC t) ⟨ka, kn, kc⟩ a n c
  have hT := CsW.b (ArWC.subs hA) hB2
  dsimp only at hW2
  rw [dpC_mk]
  have hk2 : ∀ k x, (subC t)[k]? = some x → Dep13Ok x := fun k x h => hok x (List.mem_of_getElem? h)
  have hn : n ≤ 9223372036854775807 := by have h1 := hT.2.1; have h2 := hT.2.2.1; unfold maxLen at h2; omega
  have htk : ∀ k x, (subC t)[k]? = some x → dpCs ((subC t).take (k + 1)) = max (dpCs ((subC t).take k)) (dpC x) := fun k x h => dpCs_take h
  have hend : ∀ k, n ≤ k → dpCs ((subC t).take k) = dpCs (subC t) := fun k h => by rw [List.take_of_length_le (by rw [← hT.1]; exact h)]
  have hle : ∀ k, dpCs ((subC t).take k) ≤ dpCs (subC t) := fun k => dpCs_le_take _ k
  have h0 : dpCs ((subC t).take 0) = 0 := rfl
  generalize subC t = la at *
  obtain ⟨F, hF⟩ : ∃ F : Nat → Nat, ∀ k, dpCs (la.take k) = F k := ⟨_, fun _ => rfl⟩
  simp only [hF] at htk hend h0 hle
  generalize dpCs la = R at *
  obtain ⟨s0, s1, s2, s3, s4⟩ := S2.five
  have H1 := Lib.hid hT
  have Htk := Lib.hid htk
  have Hend := Lib.hid hend
  have Hle := Lib.hid hle
  have HK := Lib.hid hk2
  have HS := Lib.hid S2
  have HR0 : Hid (1 = min (1 + F 0) (most + 1)) := Lib.hid (by rw [h0]; omega)
  clear hA hT htk hend hk2 hok hF S2 h0 hle
  generalize opC t = op at *
  generalize nmC t = nm at *
  generalize soC t = so at *
  go_enter Try.func67, Try.ntmps67
  go_wp2
  go_loopw [5, 6] (fun q i wr0 => ∃ (wr : World) (k h : Nat), wr = wr0 ∧ k ≤ n ∧ q = .int .i64 h ∧ i = .int .i64 k ∧ Below W2.heap.size W2 wr ∧ 1 ≤ h ∧ h ≤ 1000000001 ∧ Hid (h = min (1 + F k) (most + 1))) (fun q i _ => n - (intOf i).toNat)
  case atStart => exact ⟨_, 0, 1, rfl, by omega, rfl, rfl, Below.refl _ _, by omega, by omega, HR0⟩
  case round =>
    obtain ⟨wr, k, h, rfl, hk, rfl, rfl, hB, hh1, hhm, hR⟩ := hrel
    obtain ⟨_, _, _, s3r, s4r⟩ := (CBox.b HS.out hB).five
    by_cases hlt : k < n
    · by_cases hhd : h ≤ most
      · have q1 : decide (h ≤ most) = true := decide_eq_true (by omega)
        obtain ⟨bb, o, x, xk, A, M, Cc, rfl, hb, y0, y1, y2, y3, y4, hx, hok⟩ := (CsW.b H1.out hB).at hlt
        have cs := HK.out k x hx xk A M Cc (most - 1) wr (by omega) hok
        have em : ((most - 1 : Nat) : Int) = (most : Int) - 1 := by omega
        rw [em] at cs
        have hst : Hid (max h (1 + min (dpC x) (most - 1 + 1)) = min (1 + F (k + 1)) (most + 1)) := Lib.hid (by rw [Htk.out k x hx, hR.out]; have := hR.out; omega)
        clear hx hok H1 Htk HK HS em hR
        generalize hdx : min (dpC x) (most - 1 + 1) = dx at *
        have hdm : dx ≤ 1000000000 := by omega
        clear hdx
        generalize opC x = op' at *
        generalize nmC x = nm' at *
        generalize soC x = so' at *
        have hk0 : 0 ≤ (k : Int) := by omega
        have hk1 : (k : Int) < (n : Int) := by omega
        clear hhd
        go_wp2_with (go_at_call 67; ((with_reducible refine cs.mono ?_); rintro e w4 ⟨rfl, hb4⟩))
        all_goals
          go_roundw
          case rel => exact ⟨_, k + 1, max h (1 + dx), rfl, by omega, by congr 1; split <;> omega, by go_num, bel_trans hB hb4, by omega, by omega, hst⟩
          case measure => simp [intOf]; omega
      · have q1 : decide (h ≤ most) = false := decide_eq_false (by omega)
        have hnew : Hid ((h : Int) = ((min (1 + R) (most + 1) : Nat) : Int)) := Lib.hid (by have h1 := hR.out; have h2 := Hle.out k; omega)
        have hk1 : (k : Int) < (n : Int) := by omega
        clear hR hhd
        go_wp2
        go_ret
        exact ⟨one hnew.out, bel_trans hB2 hB⟩
    · have hnew : Hid ((h : Int) = ((min (1 + R) (most + 1) : Nat) : Int)) := Lib.hid (by have h1 := hR.out; rw [Hend.out k (by omega)] at h1; omega)
      clear hR
      go_wp2
      go_ret
      exact ⟨one hnew.out, bel_trans hB2 hB⟩
theorem dep13_any (t : Cl) : Dep13Ok t := Cl.ind dep13_step t
end Go.Proofs.Ytacncbkcnhlpcaa.Wl
namespace Go.Proofs.Ytacncbkcnhlpcaa.Wl
open Go.RowKit L T C
set_option linter.unusedVariables false
set_option linter.unusedSimpArgs false
set_option maxRecDepth 100000

theorem rightsD_step {x : Tm} {l : List Tm} {k : Nat} (h : l[k]? = some x) : rightsE (l.drop k) = if rightE x ≠ 0 then rightE x else rightsE (l.drop (k + 1)) := by rw [drop_t h, rightsE]
theorem cpartsD_step {x : Cl} {l : List Cl} {k : Nat} (h : l[k]? = some x) : cpartsE (l.drop k) = if cpartE x ≠ 0 then cpartE x else cpartsE (l.drop (k + 1)) := by rw [drop_c h, cpartsE]
def PartOk (t : Cl) : Prop := ∀ (k : SS) (a : Option Addr) (n c : Nat) (w : World), ArWC w t k a n c →
  Calls Try.prog 68 #[.agg #[.int .i64 (opC t), .string (nmC t), .string (soC t), .slice k.a k.n k.c, .slice a n c]] w fun e w' => e = .returned (.int .i64 (cpartE t)) ∧ Below w.heap.size w w'
set_option maxHeartbeats 32000000 in
theorem part_form (lt : List Tm) (lc : List Cl) (op : Int) (nm so : ByteArray) (ka : Option Addr) (kn kc : Nat) (a : Option Addr) (n c : Nat) (R : Int) (F G : Nat → Int) (w W2 : World)
    (hW2 : w.alloc (.cells #[.int .i64 op, .string nm, .string so, .slice ka kn kc, .slice a n c] 46) = W2) (hB2 : Below w.heap.size w W2) (HS : Hid (CBox W2 w.heap.size op nm so ⟨ka, kn, kc⟩ a n c))
    (H1 : Hid (TsW W2 ka kn kc lt)) (H2 : Hid (CsW W2 a n c lc)) (hn : n ≤ 9223372036854775807) (hkn : kn ≤ 9223372036854775807)
    (Hst : Hid (∀ (k : Nat) (x : Tm), lt[k]? = some x → F k = if rightE x ≠ 0 then rightE x else F (k + 1))) (He : Hid (∀ k, kn ≤ k → F k = 0))
    (Hst' : Hid (∀ (k : Nat) (x : Cl), lc[k]? = some x → G k = if cpartE x ≠ 0 then cpartE x else G (k + 1))) (He' : Hid (∀ k, n ≤ k → G k = 0)) (HK : Hid (∀ (k : Nat) (x : Cl), lc[k]? = some x → PartOk x))
    (hR : Hid ((7 : Int) = R)) (hform : formC op nm so = true) :
    Calls Try.prog 68 #[.agg #[.int .i64 op, .string nm, .string so, .slice ka kn kc, .slice a n c]] w fun e w' => e = .returned (.int .i64 R) ∧ Below w.heap.size w w' := by
  obtain ⟨s0, s1, s2, s3, s4⟩ := HS.out.five
  clear H1 H2 Hst He Hst' He' HK HS
  by_cases hl : op < 1
  · have q0 : decide (op < 1) = true := decide_eq_true hl
    have q1 : (op == 11) = false := beq_no' (by omega)
    have q2 : (op == 12) = false := beq_no' (by omega)
    clear hform hl
    go_enter Try.func68, Try.ntmps68
    go_wp2
    go_ret
    exact ⟨one hR.out, hB2⟩
  · have q0 : decide (op < 1) = false := decide_eq_false hl
    by_cases hg : 12 < op
    · have q3 : decide (op > 12) = true := decide_eq_true hg
      have q1 : (op == 11) = false := beq_no' (by omega)
      have q2 : (op == 12) = false := beq_no' (by omega)
      clear hform hl hg
      go_enter Try.func68, Try.ntmps68
      go_wp2
      go_ret
      exact ⟨one hR.out, hB2⟩
    · have q3 : decide (op > 12) = false := decide_eq_false hg
      have h11 : op ≠ 11 := fun e => by subst e; simp [formC] at hform
      have h12 : op ≠ 12 := fun e => by subst e; simp [formC] at hform
      have q1 := beq_no' h11
      have q2 := beq_no' h12
      cases hE2 : so.toList.isEmpty with
      | false =>
        clear hform hl hg h11 h12
        go_enter Try.func68, Try.ntmps68
        go_wp2
        go_ret
        exact ⟨one hR.out, hB2⟩
      | true =>
        have h3 : op ≠ 3 := fun e => by subst e; first | (simp [formC, hE2] at hform; done) | (simp [formC, hE2] at hform; simp_all)
        have q4 : (op != 3) = true := bne_iff_ne.2 h3
        have hE : nm.toList.isEmpty = false := by
          cases hE : nm.toList.isEmpty with
          | false => rfl
          | true => exfalso; simp only [formC, hE, hE2] at hform; first | (simp at hform; done) | (simp at hform; omega)
        clear hform hl hg h11 h12 h3
        go_enter Try.func68, Try.ntmps68
        go_wp2
        go_ret
        exact ⟨one hR.out, hB2⟩
set_option maxHeartbeats 32000000 in
theorem part_op1 (lt : List Tm) (lc : List Cl) (nm so : ByteArray) (ka : Option Addr) (kn kc : Nat) (a : Option Addr) (n c : Nat) (R : Int) (F G : Nat → Int) (w W2 : World)
    (hW2 : w.alloc (.cells #[.int .i64 1, .string nm, .string so, .slice ka kn kc, .slice a n c] 46) = W2) (hB2 : Below w.heap.size w W2) (HS : Hid (CBox W2 w.heap.size 1 nm so ⟨ka, kn, kc⟩ a n c))
    (H1 : Hid (TsW W2 ka kn kc lt)) (H2 : Hid (CsW W2 a n c lc)) (hn : n ≤ 9223372036854775807) (hkn : kn ≤ 9223372036854775807)
    (Hst : Hid (∀ (k : Nat) (x : Tm), lt[k]? = some x → F k = if rightE x ≠ 0 then rightE x else F (k + 1))) (He : Hid (∀ k, kn ≤ k → F k = 0))
    (Hst' : Hid (∀ (k : Nat) (x : Cl), lc[k]? = some x → G k = if cpartE x ≠ 0 then cpartE x else G (k + 1))) (He' : Hid (∀ k, n ≤ k → G k = 0)) (HK : Hid (∀ (k : Nat) (x : Cl), lc[k]? = some x → PartOk x))
    (hR : Hid (R = if arityC 1 kn n = true then 12 else if F 0 ≠ 0 then F 0 else G 0)) (hE2 : so.toList.isEmpty = true) (hE : nm.toList.isEmpty = true) :
    Calls Try.prog 68 #[.agg #[.int .i64 1, .string nm, .string so, .slice ka kn kc, .slice a n c]] w fun e w' => e = .returned (.int .i64 R) ∧ Below w.heap.size w w' := by
  obtain ⟨s0, s1, s2, s3, s4⟩ := HS.out.five
  by_cases h8 : kn = 0
  · have w1 : ((kn : Int) != 0) = false := by subst h8; rfl
    by_cases h0 : n = 0
    · have w2 : ((n : Int) != 0) = false := by subst h0; rfl
      have har : arityC 1 kn n = false := by subst h8 h0; rfl
      have HYes : Hid (F 0 = 0 → R = G 0) := Lib.hid (fun h => by rw [hR.out, har, if_neg (by simp), if_neg (by omega)])
      have HNo : Hid (F 0 ≠ 0 → R = F 0) := Lib.hid (fun h => by rw [hR.out, har, if_neg (by simp), if_pos h])
      have H0 := Lib.hid h0
      have H8 := Lib.hid h8
      clear hR har h0 h8
      go_enter Try.func68, Try.ntmps68
      go_wp2
      go_loopw [6] (fun i wr0 => ∃ (wr : World) (k : Nat), wr = wr0 ∧ k ≤ 0 ∧ i = .int .i64 k ∧ Below W2.heap.size W2 wr ∧ Hid (F k = F 0)) (fun i _ => 0 - (intOf i).toNat)
      case atStart => exact ⟨_, 0, rfl, by omega, rfl, Below.refl _ _, Lib.hid rfl⟩
      case round =>
        obtain ⟨wr, k, rfl, hk, rfl, hB, hRk⟩ := hrel
        obtain ⟨_, _, _, s3r, s4r⟩ := (CBox.b HS.out hB).five
        have hk8 : ¬ (k : Int) < 0 := by omega
        have HG0 : Hid (G 0 = R) := Lib.hid ((HYes.out (by rw [← hRk.out, He.out k (by have := H8.out; omega)])).symm)
        clear hRk
        go_wp2
        go_loopw [8] (fun i wr0 => ∃ (wr' : World) (k : Nat), wr' = wr0 ∧ k ≤ 0 ∧ i = .int .i64 k ∧ Below W2.heap.size W2 wr' ∧ Hid (G k = R)) (fun i _ => 0 - (intOf i).toNat)
        case atStart => exact ⟨_, 0, rfl, by omega, rfl, hB, HG0⟩
        case round =>
          clear hB s3r s4r
          obtain ⟨wr', k', rfl, hk', rfl, hB, hRk⟩ := hrel
          obtain ⟨_, _, _, s3r, s4r⟩ := (CBox.b HS.out hB).five
          have hk9 : ¬ (k' : Int) < 0 := by omega
          have hnew : Hid ((0 : Int) = R) := Lib.hid (by rw [← hRk.out, He'.out k' (by have := H0.out; omega)])
          clear hRk
          go_wp2
          go_ret
          exact ⟨one hnew.out, bel_trans hB2 hB⟩
    · have w2 : ((n : Int) != 0) = true := bne_iff_ne.2 (by omega)
      have har : arityC 1 kn n = true := by simp [arityC, wantT, wantS, h0]
      have hR12 : Hid ((12 : Int) = R) := Lib.hid (by rw [hR.out, har, if_pos rfl])
      have H8 := Lib.hid h8
      clear har h0 h8 hR H1 H2 Hst He Hst' He' HK HS
      go_enter Try.func68, Try.ntmps68
      go_wp2
      go_ret
      exact ⟨one hR12.out, hB2⟩
  · have w1 : ((kn : Int) != 0) = true := bne_iff_ne.2 (by omega)
    have har : arityC 1 kn n = true := by simp [arityC, wantT, wantS, h8]
    have hR12 : Hid ((12 : Int) = R) := Lib.hid (by rw [hR.out, har, if_pos rfl])
    have H8 := Lib.hid h8
    clear har h8 hR H1 H2 Hst He Hst' He' HK HS
    go_enter Try.func68, Try.ntmps68
    go_wp2
    go_ret
    exact ⟨one hR12.out, hB2⟩
set_option maxHeartbeats 32000000 in
theorem part_op2 (lt : List Tm) (lc : List Cl) (nm so : ByteArray) (ka : Option Addr) (kn kc : Nat) (a : Option Addr) (n c : Nat) (R : Int) (F G : Nat → Int) (w W2 : World)
    (hW2 : w.alloc (.cells #[.int .i64 2, .string nm, .string so, .slice ka kn kc, .slice a n c] 46) = W2) (hB2 : Below w.heap.size w W2) (HS : Hid (CBox W2 w.heap.size 2 nm so ⟨ka, kn, kc⟩ a n c))
    (H1 : Hid (TsW W2 ka kn kc lt)) (H2 : Hid (CsW W2 a n c lc)) (hn : n ≤ 9223372036854775807) (hkn : kn ≤ 9223372036854775807)
    (Hst : Hid (∀ (k : Nat) (x : Tm), lt[k]? = some x → F k = if rightE x ≠ 0 then rightE x else F (k + 1))) (He : Hid (∀ k, kn ≤ k → F k = 0))
    (Hst' : Hid (∀ (k : Nat) (x : Cl), lc[k]? = some x → G k = if cpartE x ≠ 0 then cpartE x else G (k + 1))) (He' : Hid (∀ k, n ≤ k → G k = 0)) (HK : Hid (∀ (k : Nat) (x : Cl), lc[k]? = some x → PartOk x))
    (hR : Hid (R = if arityC 2 kn n = true then 12 else if F 0 ≠ 0 then F 0 else G 0)) (hE2 : so.toList.isEmpty = true) (hE : nm.toList.isEmpty = true) :
    Calls Try.prog 68 #[.agg #[.int .i64 2, .string nm, .string so, .slice ka kn kc, .slice a n c]] w fun e w' => e = .returned (.int .i64 R) ∧ Below w.heap.size w w' := by
  obtain ⟨s0, s1, s2, s3, s4⟩ := HS.out.five
  by_cases h8 : kn = 0
  · have w1 : ((kn : Int) != 0) = false := by subst h8; rfl
    by_cases h0 : n = 0
    · have w2 : ((n : Int) != 0) = false := by subst h0; rfl
      have har : arityC 2 kn n = false := by subst h8 h0; rfl
      have HYes : Hid (F 0 = 0 → R = G 0) := Lib.hid (fun h => by rw [hR.out, har, if_neg (by simp), if_neg (by omega)])
      have HNo : Hid (F 0 ≠ 0 → R = F 0) := Lib.hid (fun h => by rw [hR.out, har, if_neg (by simp), if_pos h])
      have H0 := Lib.hid h0
      have H8 := Lib.hid h8
      clear hR har h0 h8
      go_enter Try.func68, Try.ntmps68
      go_wp2
      go_loopw [6] (fun i wr0 => ∃ (wr : World) (k : Nat), wr = wr0 ∧ k ≤ 0 ∧ i = .int .i64 k ∧ Below W2.heap.size W2 wr ∧ Hid (F k = F 0)) (fun i _ => 0 - (intOf i).toNat)
      case atStart => exact ⟨_, 0, rfl, by omega, rfl, Below.refl _ _, Lib.hid rfl⟩
      case round =>
        obtain ⟨wr, k, rfl, hk, rfl, hB, hRk⟩ := hrel
        obtain ⟨_, _, _, s3r, s4r⟩ := (CBox.b HS.out hB).five
        have hk8 : ¬ (k : Int) < 0 := by omega
        have HG0 : Hid (G 0 = R) := Lib.hid ((HYes.out (by rw [← hRk.out, He.out k (by have := H8.out; omega)])).symm)
        clear hRk
        go_wp2
        go_loopw [8] (fun i wr0 => ∃ (wr' : World) (k : Nat), wr' = wr0 ∧ k ≤ 0 ∧ i = .int .i64 k ∧ Below W2.heap.size W2 wr' ∧ Hid (G k = R)) (fun i _ => 0 - (intOf i).toNat)
        case atStart => exact ⟨_, 0, rfl, by omega, rfl, hB, HG0⟩
        case round =>
          clear hB s3r s4r
          obtain ⟨wr', k', rfl, hk', rfl, hB, hRk⟩ := hrel
          obtain ⟨_, _, _, s3r, s4r⟩ := (CBox.b HS.out hB).five
          have hk9 : ¬ (k' : Int) < 0 := by omega
          have hnew : Hid ((0 : Int) = R) := Lib.hid (by rw [← hRk.out, He'.out k' (by have := H0.out; omega)])
          clear hRk
          go_wp2
          go_ret
          exact ⟨one hnew.out, bel_trans hB2 hB⟩
    · have w2 : ((n : Int) != 0) = true := bne_iff_ne.2 (by omega)
      have har : arityC 2 kn n = true := by simp [arityC, wantT, wantS, h0]
      have hR12 : Hid ((12 : Int) = R) := Lib.hid (by rw [hR.out, har, if_pos rfl])
      have H8 := Lib.hid h8
      clear har h0 h8 hR H1 H2 Hst He Hst' He' HK HS
      go_enter Try.func68, Try.ntmps68
      go_wp2
      go_ret
      exact ⟨one hR12.out, hB2⟩
  · have w1 : ((kn : Int) != 0) = true := bne_iff_ne.2 (by omega)
    have har : arityC 2 kn n = true := by simp [arityC, wantT, wantS, h8]
    have hR12 : Hid ((12 : Int) = R) := Lib.hid (by rw [hR.out, har, if_pos rfl])
    have H8 := Lib.hid h8
    clear har h8 hR H1 H2 Hst He Hst' He' HK HS
    go_enter Try.func68, Try.ntmps68
    go_wp2
    go_ret
    exact ⟨one hR12.out, hB2⟩
set_option maxHeartbeats 32000000 in
theorem part_op3 (lt : List Tm) (lc : List Cl) (nm so : ByteArray) (ka : Option Addr) (kn kc : Nat) (a : Option Addr) (n c : Nat) (R : Int) (F G : Nat → Int) (w W2 : World)
    (hW2 : w.alloc (.cells #[.int .i64 3, .string nm, .string so, .slice ka kn kc, .slice a n c] 46) = W2) (hB2 : Below w.heap.size w W2) (HS : Hid (CBox W2 w.heap.size 3 nm so ⟨ka, kn, kc⟩ a n c))
    (H1 : Hid (TsW W2 ka kn kc lt)) (H2 : Hid (CsW W2 a n c lc)) (hn : n ≤ 9223372036854775807) (hkn : kn ≤ 9223372036854775807)
    (Hst : Hid (∀ (k : Nat) (x : Tm), lt[k]? = some x → F k = if rightE x ≠ 0 then rightE x else F (k + 1))) (He : Hid (∀ k, kn ≤ k → F k = 0))
    (Hst' : Hid (∀ (k : Nat) (x : Cl), lc[k]? = some x → G k = if cpartE x ≠ 0 then cpartE x else G (k + 1))) (He' : Hid (∀ k, n ≤ k → G k = 0)) (HK : Hid (∀ (k : Nat) (x : Cl), lc[k]? = some x → PartOk x))
    (hR : Hid (R = if arityC 3 kn n = true then 12 else if F 0 ≠ 0 then F 0 else G 0)) (hE2 : so.toList.isEmpty = true) :
    Calls Try.prog 68 #[.agg #[.int .i64 3, .string nm, .string so, .slice ka kn kc, .slice a n c]] w fun e w' => e = .returned (.int .i64 R) ∧ Below w.heap.size w w' := by
  obtain ⟨s0, s1, s2, s3, s4⟩ := HS.out.five
  by_cases h8 : kn ≤ 8
  · have w1 := trivial
    by_cases h0 : n = 0
    · have w2 : ((n : Int) != 0) = false := by subst h0; rfl
      have wt0 : ((kn : Int) != (kn : Int)) = false := by simp
      have har : arityC 3 kn n = false := by simp [arityC, h0]; omega
      have HYes : Hid (F 0 = 0 → R = G 0) := Lib.hid (fun h => by rw [hR.out, har, if_neg (by simp), if_neg (by omega)])
      have HNo : Hid (F 0 ≠ 0 → R = F 0) := Lib.hid (fun h => by rw [hR.out, har, if_neg (by simp), if_pos h])
      have H0 := Lib.hid h0
      have H8 := Lib.hid h8
      clear hR har h0 h8
      go_enter Try.func68, Try.ntmps68
      go_wp2
      any_goals (first | (exfalso; have := H8.out; omega) | skip)
      go_loopw [6] (fun i wr0 => ∃ (wr : World) (k : Nat), wr = wr0 ∧ k ≤ kn ∧ i = .int .i64 k ∧ Below W2.heap.size W2 wr ∧ Hid (F k = F 0)) (fun i _ => kn - (intOf i).toNat)
      case atStart => exact ⟨_, 0, rfl, by omega, rfl, Below.refl _ _, Lib.hid rfl⟩
      case round =>
        obtain ⟨wr, k, rfl, hk, rfl, hB, hRk⟩ := hrel
        obtain ⟨_, _, _, s3r, s4r⟩ := (CBox.b HS.out hB).five
        by_cases hlt : k < kn
        · have hk0 : 0 ≤ (k : Int) := by omega
          have hk1 : (k : Int) < (kn : Int) := by have := H8.out; omega
          obtain ⟨bb, o, x, A, M, Cc, rfl, hb, y0, y1, y2, y3, hx, hok⟩ := (TsW.b H1.out hB).at (show k < kn by have := H8.out; omega)
          have hs1 := Lib.hid (Hst.out k x hx)
          have cs := Right7_any x A M Cc wr hok
          clear hx hok H1 Hst HK HS
          generalize rightE x = px at *
          generalize opT x = op' at *
          generalize nameT x = nm' at *
          generalize numT x = nu' at *
          by_cases hp : px = 0
          · have p1 : (px != 0) = false := by rw [hp]; rfl
            have hnew : Hid (F (k + 1) = F 0) := Lib.hid (by rw [← hRk.out, hs1.out, if_neg (by omega)])
            clear hRk hs1 hp
            go_wp2_with (go_at_call 30; ((with_reducible refine cs.mono ?_); rintro e w4 ⟨rfl, hb4⟩))
            go_roundw
            case rel => exact ⟨_, k + 1, rfl, by omega, by go_num, bel_trans hB hb4, hnew⟩
            case measure => simp [intOf]; omega
          · have p1 : (px != 0) = true := bne_iff_ne.2 hp
            have hnew : Hid (px = R) := Lib.hid (by have e : px = F 0 := (by rw [← hRk.out, hs1.out, if_pos hp]); rw [HNo.out (by rw [← e]; exact hp)]; exact e)
            clear hRk hs1 hp
            go_wp2_with (go_at_call 30; ((with_reducible refine cs.mono ?_); rintro e w4 ⟨rfl, hb4⟩))
            go_ret
            exact ⟨one hnew.out, bel_trans hB2 (bel_trans hB hb4)⟩
        · have hk8 : ¬ (k : Int) < (kn : Int) := by omega
          have HG0 : Hid (G 0 = R) := Lib.hid ((HYes.out (by rw [← hRk.out, He.out k (by have := H8.out; omega)])).symm)
          clear hRk
          go_wp2
          go_loopw [8] (fun i wr0 => ∃ (wr' : World) (k : Nat), wr' = wr0 ∧ k ≤ 0 ∧ i = .int .i64 k ∧ Below W2.heap.size W2 wr' ∧ Hid (G k = R)) (fun i _ => 0 - (intOf i).toNat)
          case atStart => exact ⟨_, 0, rfl, by omega, rfl, hB, HG0⟩
          case round =>
            clear hB s3r s4r
            obtain ⟨wr', k', rfl, hk', rfl, hB, hRk⟩ := hrel
            obtain ⟨_, _, _, s3r, s4r⟩ := (CBox.b HS.out hB).five
            have hk9 : ¬ (k' : Int) < 0 := by omega
            have hnew : Hid ((0 : Int) = R) := Lib.hid (by rw [← hRk.out, He'.out k' (by have := H0.out; omega)])
            clear hRk
            go_wp2
            go_ret
            exact ⟨one hnew.out, bel_trans hB2 hB⟩
    · have w2 : ((n : Int) != 0) = true := bne_iff_ne.2 (by omega)
      have har : arityC 3 kn n = true := by simp [arityC, h0]
      have hR12 : Hid ((12 : Int) = R) := Lib.hid (by rw [hR.out, har, if_pos rfl])
      have H8 := Lib.hid h8
      clear har h0 h8 hR H1 H2 Hst He Hst' He' HK HS
      have wt0 : ((kn : Int) != (kn : Int)) = false := by simp
      go_enter Try.func68, Try.ntmps68
      go_wp2
      any_goals (first | (exfalso; have := H8.out; omega) | skip)
      go_ret
      exact ⟨one hR12.out, hB2⟩
  · have w2 : ((kn : Int) != 8) = true := bne_iff_ne.2 (by omega)
    have har : arityC 3 kn n = true := by simp [arityC]; omega
    have hR12 : Hid ((12 : Int) = R) := Lib.hid (by rw [hR.out, har, if_pos rfl])
    have H8 := Lib.hid h8
    clear har h8 hR H1 H2 Hst He Hst' He' HK HS
    go_enter Try.func68, Try.ntmps68
    go_wp2
    any_goals (first | (exfalso; have := H8.out; omega) | skip)
    go_ret
    exact ⟨one hR12.out, hB2⟩
set_option maxHeartbeats 32000000 in
theorem part_op4 (lt : List Tm) (lc : List Cl) (nm so : ByteArray) (ka : Option Addr) (kn kc : Nat) (a : Option Addr) (n c : Nat) (R : Int) (F G : Nat → Int) (w W2 : World)
    (hW2 : w.alloc (.cells #[.int .i64 4, .string nm, .string so, .slice ka kn kc, .slice a n c] 46) = W2) (hB2 : Below w.heap.size w W2) (HS : Hid (CBox W2 w.heap.size 4 nm so ⟨ka, kn, kc⟩ a n c))
    (H1 : Hid (TsW W2 ka kn kc lt)) (H2 : Hid (CsW W2 a n c lc)) (hn : n ≤ 9223372036854775807) (hkn : kn ≤ 9223372036854775807)
    (Hst : Hid (∀ (k : Nat) (x : Tm), lt[k]? = some x → F k = if rightE x ≠ 0 then rightE x else F (k + 1))) (He : Hid (∀ k, kn ≤ k → F k = 0))
    (Hst' : Hid (∀ (k : Nat) (x : Cl), lc[k]? = some x → G k = if cpartE x ≠ 0 then cpartE x else G (k + 1))) (He' : Hid (∀ k, n ≤ k → G k = 0)) (HK : Hid (∀ (k : Nat) (x : Cl), lc[k]? = some x → PartOk x))
    (hR : Hid (R = if arityC 4 kn n = true then 12 else if F 0 ≠ 0 then F 0 else G 0)) (hE2 : so.toList.isEmpty = true) (hE : nm.toList.isEmpty = true) :
    Calls Try.prog 68 #[.agg #[.int .i64 4, .string nm, .string so, .slice ka kn kc, .slice a n c]] w fun e w' => e = .returned (.int .i64 R) ∧ Below w.heap.size w w' := by
  obtain ⟨s0, s1, s2, s3, s4⟩ := HS.out.five
  by_cases h8 : kn = 2
  · have w1 : ((kn : Int) != 2) = false := by subst h8; rfl
    by_cases h0 : n = 0
    · have w2 : ((n : Int) != 0) = false := by subst h0; rfl
      have har : arityC 4 kn n = false := by subst h8 h0; rfl
      have HYes : Hid (F 0 = 0 → R = G 0) := Lib.hid (fun h => by rw [hR.out, har, if_neg (by simp), if_neg (by omega)])
      have HNo : Hid (F 0 ≠ 0 → R = F 0) := Lib.hid (fun h => by rw [hR.out, har, if_neg (by simp), if_pos h])
      have H0 := Lib.hid h0
      have H8 := Lib.hid h8
      clear hR har h0 h8
      go_enter Try.func68, Try.ntmps68
      go_wp2
      go_loopw [6] (fun i wr0 => ∃ (wr : World) (k : Nat), wr = wr0 ∧ k ≤ 2 ∧ i = .int .i64 k ∧ Below W2.heap.size W2 wr ∧ Hid (F k = F 0)) (fun i _ => 2 - (intOf i).toNat)
      case atStart => exact ⟨_, 0, rfl, by omega, rfl, Below.refl _ _, Lib.hid rfl⟩
      case round =>
        obtain ⟨wr, k, rfl, hk, rfl, hB, hRk⟩ := hrel
        obtain ⟨_, _, _, s3r, s4r⟩ := (CBox.b HS.out hB).five
        by_cases hlt : k < 2
        · have hk0 : 0 ≤ (k : Int) := by omega
          have hk1 : (k : Int) < (kn : Int) := by have := H8.out; omega
          have hk2 : (k : Int) < 2 := by omega
          obtain ⟨bb, o, x, A, M, Cc, rfl, hb, y0, y1, y2, y3, hx, hok⟩ := (TsW.b H1.out hB).at (show k < kn by have := H8.out; omega)
          have hs1 := Lib.hid (Hst.out k x hx)
          have cs := Right7_any x A M Cc wr hok
          clear hx hok H1 Hst HK HS
          generalize rightE x = px at *
          generalize opT x = op' at *
          generalize nameT x = nm' at *
          generalize numT x = nu' at *
          by_cases hp : px = 0
          · have p1 : (px != 0) = false := by rw [hp]; rfl
            have hnew : Hid (F (k + 1) = F 0) := Lib.hid (by rw [← hRk.out, hs1.out, if_neg (by omega)])
            clear hRk hs1 hp
            go_wp2_with (go_at_call 30; ((with_reducible refine cs.mono ?_); rintro e w4 ⟨rfl, hb4⟩))
            go_roundw
            case rel => exact ⟨_, k + 1, rfl, by omega, by go_num, bel_trans hB hb4, hnew⟩
            case measure => simp [intOf]; omega
          · have p1 : (px != 0) = true := bne_iff_ne.2 hp
            have hnew : Hid (px = R) := Lib.hid (by have e : px = F 0 := (by rw [← hRk.out, hs1.out, if_pos hp]); rw [HNo.out (by rw [← e]; exact hp)]; exact e)
            clear hRk hs1 hp
            go_wp2_with (go_at_call 30; ((with_reducible refine cs.mono ?_); rintro e w4 ⟨rfl, hb4⟩))
            go_ret
            exact ⟨one hnew.out, bel_trans hB2 (bel_trans hB hb4)⟩
        · have hk8 : ¬ (k : Int) < 2 := by omega
          have HG0 : Hid (G 0 = R) := Lib.hid ((HYes.out (by rw [← hRk.out, He.out k (by have := H8.out; omega)])).symm)
          clear hRk
          go_wp2
          go_loopw [8] (fun i wr0 => ∃ (wr' : World) (k : Nat), wr' = wr0 ∧ k ≤ 0 ∧ i = .int .i64 k ∧ Below W2.heap.size W2 wr' ∧ Hid (G k = R)) (fun i _ => 0 - (intOf i).toNat)
          case atStart => exact ⟨_, 0, rfl, by omega, rfl, hB, HG0⟩
          case round =>
            clear hB s3r s4r
            obtain ⟨wr', k', rfl, hk', rfl, hB, hRk⟩ := hrel
            obtain ⟨_, _, _, s3r, s4r⟩ := (CBox.b HS.out hB).five
            have hk9 : ¬ (k' : Int) < 0 := by omega
            have hnew : Hid ((0 : Int) = R) := Lib.hid (by rw [← hRk.out, He'.out k' (by have := H0.out; omega)])
            clear hRk
            go_wp2
            go_ret
            exact ⟨one hnew.out, bel_trans hB2 hB⟩
    · have w2 : ((n : Int) != 0) = true := bne_iff_ne.2 (by omega)
      have har : arityC 4 kn n = true := by simp [arityC, wantT, wantS, h0]
      have hR12 : Hid ((12 : Int) = R) := Lib.hid (by rw [hR.out, har, if_pos rfl])
      have H8 := Lib.hid h8
      clear har h0 h8 hR H1 H2 Hst He Hst' He' HK HS
      go_enter Try.func68, Try.ntmps68
      go_wp2
      go_ret
      exact ⟨one hR12.out, hB2⟩
  · have w1 : ((kn : Int) != 2) = true := bne_iff_ne.2 (by omega)
    have har : arityC 4 kn n = true := by simp [arityC, wantT, wantS, h8]
    have hR12 : Hid ((12 : Int) = R) := Lib.hid (by rw [hR.out, har, if_pos rfl])
    have H8 := Lib.hid h8
    clear har h8 hR H1 H2 Hst He Hst' He' HK HS
    go_enter Try.func68, Try.ntmps68
    go_wp2
    go_ret
    exact ⟨one hR12.out, hB2⟩
set_option maxHeartbeats 32000000 in
theorem part_op5 (lt : List Tm) (lc : List Cl) (nm so : ByteArray) (ka : Option Addr) (kn kc : Nat) (a : Option Addr) (n c : Nat) (R : Int) (F G : Nat → Int) (w W2 : World)
    (hW2 : w.alloc (.cells #[.int .i64 5, .string nm, .string so, .slice ka kn kc, .slice a n c] 46) = W2) (hB2 : Below w.heap.size w W2) (HS : Hid (CBox W2 w.heap.size 5 nm so ⟨ka, kn, kc⟩ a n c))
    (H1 : Hid (TsW W2 ka kn kc lt)) (H2 : Hid (CsW W2 a n c lc)) (hn : n ≤ 9223372036854775807) (hkn : kn ≤ 9223372036854775807)
    (Hst : Hid (∀ (k : Nat) (x : Tm), lt[k]? = some x → F k = if rightE x ≠ 0 then rightE x else F (k + 1))) (He : Hid (∀ k, kn ≤ k → F k = 0))
    (Hst' : Hid (∀ (k : Nat) (x : Cl), lc[k]? = some x → G k = if cpartE x ≠ 0 then cpartE x else G (k + 1))) (He' : Hid (∀ k, n ≤ k → G k = 0)) (HK : Hid (∀ (k : Nat) (x : Cl), lc[k]? = some x → PartOk x))
    (hR : Hid (R = if arityC 5 kn n = true then 12 else if F 0 ≠ 0 then F 0 else G 0)) (hE2 : so.toList.isEmpty = true) (hE : nm.toList.isEmpty = true) :
    Calls Try.prog 68 #[.agg #[.int .i64 5, .string nm, .string so, .slice ka kn kc, .slice a n c]] w fun e w' => e = .returned (.int .i64 R) ∧ Below w.heap.size w w' := by
  obtain ⟨s0, s1, s2, s3, s4⟩ := HS.out.five
  by_cases h8 : kn = 2
  · have w1 : ((kn : Int) != 2) = false := by subst h8; rfl
    by_cases h0 : n = 0
    · have w2 : ((n : Int) != 0) = false := by subst h0; rfl
      have har : arityC 5 kn n = false := by subst h8 h0; rfl
      have HYes : Hid (F 0 = 0 → R = G 0) := Lib.hid (fun h => by rw [hR.out, har, if_neg (by simp), if_neg (by omega)])
      have HNo : Hid (F 0 ≠ 0 → R = F 0) := Lib.hid (fun h => by rw [hR.out, har, if_neg (by simp), if_pos h])
      have H0 := Lib.hid h0
      have H8 := Lib.hid h8
      clear hR har h0 h8
      go_enter Try.func68, Try.ntmps68
      go_wp2
      go_loopw [6] (fun i wr0 => ∃ (wr : World) (k : Nat), wr = wr0 ∧ k ≤ 2 ∧ i = .int .i64 k ∧ Below W2.heap.size W2 wr ∧ Hid (F k = F 0)) (fun i _ => 2 - (intOf i).toNat)
      case atStart => exact ⟨_, 0, rfl, by omega, rfl, Below.refl _ _, Lib.hid rfl⟩
      case round =>
        obtain ⟨wr, k, rfl, hk, rfl, hB, hRk⟩ := hrel
        obtain ⟨_, _, _, s3r, s4r⟩ := (CBox.b HS.out hB).five
        by_cases hlt : k < 2
        · have hk0 : 0 ≤ (k : Int) := by omega
          have hk1 : (k : Int) < (kn : Int) := by have := H8.out; omega
          have hk2 : (k : Int) < 2 := by omega
          obtain ⟨bb, o, x, A, M, Cc, rfl, hb, y0, y1, y2, y3, hx, hok⟩ := (TsW.b H1.out hB).at (show k < kn by have := H8.out; omega)
          have hs1 := Lib.hid (Hst.out k x hx)
          have cs := Right7_any x A M Cc wr hok
          clear hx hok H1 Hst HK HS
          generalize rightE x = px at *
          generalize opT x = op' at *
          generalize nameT x = nm' at *
          generalize numT x = nu' at *
          by_cases hp : px = 0
          · have p1 : (px != 0) = false := by rw [hp]; rfl
            have hnew : Hid (F (k + 1) = F 0) := Lib.hid (by rw [← hRk.out, hs1.out, if_neg (by omega)])
            clear hRk hs1 hp
            go_wp2_with (go_at_call 30; ((with_reducible refine cs.mono ?_); rintro e w4 ⟨rfl, hb4⟩))
            go_roundw
            case rel => exact ⟨_, k + 1, rfl, by omega, by go_num, bel_trans hB hb4, hnew⟩
            case measure => simp [intOf]; omega
          · have p1 : (px != 0) = true := bne_iff_ne.2 hp
            have hnew : Hid (px = R) := Lib.hid (by have e : px = F 0 := (by rw [← hRk.out, hs1.out, if_pos hp]); rw [HNo.out (by rw [← e]; exact hp)]; exact e)
            clear hRk hs1 hp
            go_wp2_with (go_at_call 30; ((with_reducible refine cs.mono ?_); rintro e w4 ⟨rfl, hb4⟩))
            go_ret
            exact ⟨one hnew.out, bel_trans hB2 (bel_trans hB hb4)⟩
        · have hk8 : ¬ (k : Int) < 2 := by omega
          have HG0 : Hid (G 0 = R) := Lib.hid ((HYes.out (by rw [← hRk.out, He.out k (by have := H8.out; omega)])).symm)
          clear hRk
          go_wp2
          go_loopw [8] (fun i wr0 => ∃ (wr' : World) (k : Nat), wr' = wr0 ∧ k ≤ 0 ∧ i = .int .i64 k ∧ Below W2.heap.size W2 wr' ∧ Hid (G k = R)) (fun i _ => 0 - (intOf i).toNat)
          case atStart => exact ⟨_, 0, rfl, by omega, rfl, hB, HG0⟩
          case round =>
            clear hB s3r s4r
            obtain ⟨wr', k', rfl, hk', rfl, hB, hRk⟩ := hrel
            obtain ⟨_, _, _, s3r, s4r⟩ := (CBox.b HS.out hB).five
            have hk9 : ¬ (k' : Int) < 0 := by omega
            have hnew : Hid ((0 : Int) = R) := Lib.hid (by rw [← hRk.out, He'.out k' (by have := H0.out; omega)])
            clear hRk
            go_wp2
            go_ret
            exact ⟨one hnew.out, bel_trans hB2 hB⟩
    · have w2 : ((n : Int) != 0) = true := bne_iff_ne.2 (by omega)
      have har : arityC 5 kn n = true := by simp [arityC, wantT, wantS, h0]
      have hR12 : Hid ((12 : Int) = R) := Lib.hid (by rw [hR.out, har, if_pos rfl])
      have H8 := Lib.hid h8
      clear har h0 h8 hR H1 H2 Hst He Hst' He' HK HS
      go_enter Try.func68, Try.ntmps68
      go_wp2
      go_ret
      exact ⟨one hR12.out, hB2⟩
  · have w1 : ((kn : Int) != 2) = true := bne_iff_ne.2 (by omega)
    have har : arityC 5 kn n = true := by simp [arityC, wantT, wantS, h8]
    have hR12 : Hid ((12 : Int) = R) := Lib.hid (by rw [hR.out, har, if_pos rfl])
    have H8 := Lib.hid h8
    clear har h8 hR H1 H2 Hst He Hst' He' HK HS
    go_enter Try.func68, Try.ntmps68
    go_wp2
    go_ret
    exact ⟨one hR12.out, hB2⟩
set_option maxHeartbeats 32000000 in
theorem part_op6 (lt : List Tm) (lc : List Cl) (nm so : ByteArray) (ka : Option Addr) (kn kc : Nat) (a : Option Addr) (n c : Nat) (R : Int) (F G : Nat → Int) (w W2 : World)
    (hW2 : w.alloc (.cells #[.int .i64 6, .string nm, .string so, .slice ka kn kc, .slice a n c] 46) = W2) (hB2 : Below w.heap.size w W2) (HS : Hid (CBox W2 w.heap.size 6 nm so ⟨ka, kn, kc⟩ a n c))
    (H1 : Hid (TsW W2 ka kn kc lt)) (H2 : Hid (CsW W2 a n c lc)) (hn : n ≤ 9223372036854775807) (hkn : kn ≤ 9223372036854775807)
    (Hst : Hid (∀ (k : Nat) (x : Tm), lt[k]? = some x → F k = if rightE x ≠ 0 then rightE x else F (k + 1))) (He : Hid (∀ k, kn ≤ k → F k = 0))
    (Hst' : Hid (∀ (k : Nat) (x : Cl), lc[k]? = some x → G k = if cpartE x ≠ 0 then cpartE x else G (k + 1))) (He' : Hid (∀ k, n ≤ k → G k = 0)) (HK : Hid (∀ (k : Nat) (x : Cl), lc[k]? = some x → PartOk x))
    (hR : Hid (R = if arityC 6 kn n = true then 12 else if F 0 ≠ 0 then F 0 else G 0)) (hE2 : so.toList.isEmpty = true) (hE : nm.toList.isEmpty = true) :
    Calls Try.prog 68 #[.agg #[.int .i64 6, .string nm, .string so, .slice ka kn kc, .slice a n c]] w fun e w' => e = .returned (.int .i64 R) ∧ Below w.heap.size w w' := by
  obtain ⟨s0, s1, s2, s3, s4⟩ := HS.out.five
  by_cases h8 : kn = 0
  · have w1 : ((kn : Int) != 0) = false := by subst h8; rfl
    by_cases h0 : n = 1
    · have w2 : ((n : Int) != 1) = false := by subst h0; rfl
      have har : arityC 6 kn n = false := by subst h8 h0; rfl
      have HYes : Hid (F 0 = 0 → R = G 0) := Lib.hid (fun h => by rw [hR.out, har, if_neg (by simp), if_neg (by omega)])
      have HNo : Hid (F 0 ≠ 0 → R = F 0) := Lib.hid (fun h => by rw [hR.out, har, if_neg (by simp), if_pos h])
      have H0 := Lib.hid h0
      have H8 := Lib.hid h8
      clear hR har h0 h8
      go_enter Try.func68, Try.ntmps68
      go_wp2
      go_loopw [6] (fun i wr0 => ∃ (wr : World) (k : Nat), wr = wr0 ∧ k ≤ 0 ∧ i = .int .i64 k ∧ Below W2.heap.size W2 wr ∧ Hid (F k = F 0)) (fun i _ => 0 - (intOf i).toNat)
      case atStart => exact ⟨_, 0, rfl, by omega, rfl, Below.refl _ _, Lib.hid rfl⟩
      case round =>
        obtain ⟨wr, k, rfl, hk, rfl, hB, hRk⟩ := hrel
        obtain ⟨_, _, _, s3r, s4r⟩ := (CBox.b HS.out hB).five
        have hk8 : ¬ (k : Int) < 0 := by omega
        have HG0 : Hid (G 0 = R) := Lib.hid ((HYes.out (by rw [← hRk.out, He.out k (by have := H8.out; omega)])).symm)
        clear hRk
        go_wp2
        go_loopw [8] (fun i wr0 => ∃ (wr' : World) (k : Nat), wr' = wr0 ∧ k ≤ 1 ∧ i = .int .i64 k ∧ Below W2.heap.size W2 wr' ∧ Hid (G k = R)) (fun i _ => 1 - (intOf i).toNat)
        case atStart => exact ⟨_, 0, rfl, by omega, rfl, hB, HG0⟩
        case round =>
          clear hB s3r s4r
          obtain ⟨wr', k', rfl, hk', rfl, hB, hRk⟩ := hrel
          obtain ⟨_, _, _, s3r, s4r⟩ := (CBox.b HS.out hB).five
          by_cases hlt' : k' < 1
          · have hk0 : 0 ≤ (k' : Int) := by omega
            have hk1 : (k' : Int) < (n : Int) := by have := H0.out; omega
            have hk2 : (k' : Int) < 1 := by omega
            obtain ⟨bb, o, x, xk, A, M, Cc, rfl, hb, y0, y1, y2, y3, y4, hx, hok⟩ := (CsW.b H2.out hB).at (show k' < n by have := H0.out; omega)
            have hs1 := Lib.hid (Hst'.out k' x hx)
            have cs := HK.out k' x hx xk A M Cc wr' hok
            clear hx hok H2 Hst' HK HS
            generalize cpartE x = px at *
            generalize opC x = op' at *
            generalize nmC x = nm' at *
            generalize soC x = so' at *
            by_cases hp : px = 0
            · have p1 : (px != 0) = false := by rw [hp]; rfl
              have hnew : Hid (G (k' + 1) = R) := Lib.hid (by rw [← hRk.out, hs1.out, if_neg (by omega)])
              clear hRk hs1 hp
              go_wp2_with (go_at_call 68; ((with_reducible refine cs.mono ?_); rintro e w4 ⟨rfl, hb4⟩))
              go_roundw
              case rel => exact ⟨_, k' + 1, rfl, by omega, by go_num, bel_trans hB hb4, hnew⟩
              case measure => simp [intOf]; omega
            · have p1 : (px != 0) = true := bne_iff_ne.2 hp
              have hnew : Hid (px = R) := Lib.hid (by rw [← hRk.out, hs1.out, if_pos hp])
              clear hRk hs1 hp
              go_wp2_with (go_at_call 68; ((with_reducible refine cs.mono ?_); rintro e w4 ⟨rfl, hb4⟩))
              go_ret
              exact ⟨one hnew.out, bel_trans hB2 (bel_trans hB hb4)⟩
          · have hk9 : ¬ (k' : Int) < 1 := by omega
            have hnew : Hid ((0 : Int) = R) := Lib.hid (by rw [← hRk.out, He'.out k' (by have := H0.out; omega)])
            clear hRk
            go_wp2
            go_ret
            exact ⟨one hnew.out, bel_trans hB2 hB⟩
    · have w2 : ((n : Int) != 1) = true := bne_iff_ne.2 (by omega)
      have har : arityC 6 kn n = true := by simp [arityC, wantT, wantS, h0]
      have hR12 : Hid ((12 : Int) = R) := Lib.hid (by rw [hR.out, har, if_pos rfl])
      have H8 := Lib.hid h8
      clear har h0 h8 hR H1 H2 Hst He Hst' He' HK HS
      go_enter Try.func68, Try.ntmps68
      go_wp2
      go_ret
      exact ⟨one hR12.out, hB2⟩
  · have w1 : ((kn : Int) != 0) = true := bne_iff_ne.2 (by omega)
    have har : arityC 6 kn n = true := by simp [arityC, wantT, wantS, h8]
    have hR12 : Hid ((12 : Int) = R) := Lib.hid (by rw [hR.out, har, if_pos rfl])
    have H8 := Lib.hid h8
    clear har h8 hR H1 H2 Hst He Hst' He' HK HS
    go_enter Try.func68, Try.ntmps68
    go_wp2
    go_ret
    exact ⟨one hR12.out, hB2⟩
set_option maxHeartbeats 32000000 in
theorem part_op7 (lt : List Tm) (lc : List Cl) (nm so : ByteArray) (ka : Option Addr) (kn kc : Nat) (a : Option Addr) (n c : Nat) (R : Int) (F G : Nat → Int) (w W2 : World)
    (hW2 : w.alloc (.cells #[.int .i64 7, .string nm, .string so, .slice ka kn kc, .slice a n c] 46) = W2) (hB2 : Below w.heap.size w W2) (HS : Hid (CBox W2 w.heap.size 7 nm so ⟨ka, kn, kc⟩ a n c))
    (H1 : Hid (TsW W2 ka kn kc lt)) (H2 : Hid (CsW W2 a n c lc)) (hn : n ≤ 9223372036854775807) (hkn : kn ≤ 9223372036854775807)
    (Hst : Hid (∀ (k : Nat) (x : Tm), lt[k]? = some x → F k = if rightE x ≠ 0 then rightE x else F (k + 1))) (He : Hid (∀ k, kn ≤ k → F k = 0))
    (Hst' : Hid (∀ (k : Nat) (x : Cl), lc[k]? = some x → G k = if cpartE x ≠ 0 then cpartE x else G (k + 1))) (He' : Hid (∀ k, n ≤ k → G k = 0)) (HK : Hid (∀ (k : Nat) (x : Cl), lc[k]? = some x → PartOk x))
    (hR : Hid (R = if arityC 7 kn n = true then 12 else if F 0 ≠ 0 then F 0 else G 0)) (hE2 : so.toList.isEmpty = true) (hE : nm.toList.isEmpty = true) :
    Calls Try.prog 68 #[.agg #[.int .i64 7, .string nm, .string so, .slice ka kn kc, .slice a n c]] w fun e w' => e = .returned (.int .i64 R) ∧ Below w.heap.size w w' := by
  obtain ⟨s0, s1, s2, s3, s4⟩ := HS.out.five
  by_cases h8 : kn = 0
  · have w1 : ((kn : Int) != 0) = false := by subst h8; rfl
    by_cases h0 : n = 2
    · have w2 : ((n : Int) != 2) = false := by subst h0; rfl
      have har : arityC 7 kn n = false := by subst h8 h0; rfl
      have HYes : Hid (F 0 = 0 → R = G 0) := Lib.hid (fun h => by rw [hR.out, har, if_neg (by simp), if_neg (by omega)])
      have HNo : Hid (F 0 ≠ 0 → R = F 0) := Lib.hid (fun h => by rw [hR.out, har, if_neg (by simp), if_pos h])
      have H0 := Lib.hid h0
      have H8 := Lib.hid h8
      clear hR har h0 h8
      go_enter Try.func68, Try.ntmps68
      go_wp2
      go_loopw [6] (fun i wr0 => ∃ (wr : World) (k : Nat), wr = wr0 ∧ k ≤ 0 ∧ i = .int .i64 k ∧ Below W2.heap.size W2 wr ∧ Hid (F k = F 0)) (fun i _ => 0 - (intOf i).toNat)
      case atStart => exact ⟨_, 0, rfl, by omega, rfl, Below.refl _ _, Lib.hid rfl⟩
      case round =>
        obtain ⟨wr, k, rfl, hk, rfl, hB, hRk⟩ := hrel
        obtain ⟨_, _, _, s3r, s4r⟩ := (CBox.b HS.out hB).five
        have hk8 : ¬ (k : Int) < 0 := by omega
        have HG0 : Hid (G 0 = R) := Lib.hid ((HYes.out (by rw [← hRk.out, He.out k (by have := H8.out; omega)])).symm)
        clear hRk
        go_wp2
        go_loopw [8] (fun i wr0 => ∃ (wr' : World) (k : Nat), wr' = wr0 ∧ k ≤ 2 ∧ i = .int .i64 k ∧ Below W2.heap.size W2 wr' ∧ Hid (G k = R)) (fun i _ => 2 - (intOf i).toNat)
        case atStart => exact ⟨_, 0, rfl, by omega, rfl, hB, HG0⟩
        case round =>
          clear hB s3r s4r
          obtain ⟨wr', k', rfl, hk', rfl, hB, hRk⟩ := hrel
          obtain ⟨_, _, _, s3r, s4r⟩ := (CBox.b HS.out hB).five
          by_cases hlt' : k' < 2
          · have hk0 : 0 ≤ (k' : Int) := by omega
            have hk1 : (k' : Int) < (n : Int) := by have := H0.out; omega
            have hk2 : (k' : Int) < 2 := by omega
            obtain ⟨bb, o, x, xk, A, M, Cc, rfl, hb, y0, y1, y2, y3, y4, hx, hok⟩ := (CsW.b H2.out hB).at (show k' < n by have := H0.out; omega)
            have hs1 := Lib.hid (Hst'.out k' x hx)
            have cs := HK.out k' x hx xk A M Cc wr' hok
            clear hx hok H2 Hst' HK HS
            generalize cpartE x = px at *
            generalize opC x = op' at *
            generalize nmC x = nm' at *
            generalize soC x = so' at *
            by_cases hp : px = 0
            · have p1 : (px != 0) = false := by rw [hp]; rfl
              have hnew : Hid (G (k' + 1) = R) := Lib.hid (by rw [← hRk.out, hs1.out, if_neg (by omega)])
              clear hRk hs1 hp
              go_wp2_with (go_at_call 68; ((with_reducible refine cs.mono ?_); rintro e w4 ⟨rfl, hb4⟩))
              go_roundw
              case rel => exact ⟨_, k' + 1, rfl, by omega, by go_num, bel_trans hB hb4, hnew⟩
              case measure => simp [intOf]; omega
            · have p1 : (px != 0) = true := bne_iff_ne.2 hp
              have hnew : Hid (px = R) := Lib.hid (by rw [← hRk.out, hs1.out, if_pos hp])
              clear hRk hs1 hp
              go_wp2_with (go_at_call 68; ((with_reducible refine cs.mono ?_); rintro e w4 ⟨rfl, hb4⟩))
              go_ret
              exact ⟨one hnew.out, bel_trans hB2 (bel_trans hB hb4)⟩
          · have hk9 : ¬ (k' : Int) < 2 := by omega
            have hnew : Hid ((0 : Int) = R) := Lib.hid (by rw [← hRk.out, He'.out k' (by have := H0.out; omega)])
            clear hRk
            go_wp2
            go_ret
            exact ⟨one hnew.out, bel_trans hB2 hB⟩
    · have w2 : ((n : Int) != 2) = true := bne_iff_ne.2 (by omega)
      have har : arityC 7 kn n = true := by simp [arityC, wantT, wantS, h0]
      have hR12 : Hid ((12 : Int) = R) := Lib.hid (by rw [hR.out, har, if_pos rfl])
      have H8 := Lib.hid h8
      clear har h0 h8 hR H1 H2 Hst He Hst' He' HK HS
      go_enter Try.func68, Try.ntmps68
      go_wp2
      go_ret
      exact ⟨one hR12.out, hB2⟩
  · have w1 : ((kn : Int) != 0) = true := bne_iff_ne.2 (by omega)
    have har : arityC 7 kn n = true := by simp [arityC, wantT, wantS, h8]
    have hR12 : Hid ((12 : Int) = R) := Lib.hid (by rw [hR.out, har, if_pos rfl])
    have H8 := Lib.hid h8
    clear har h8 hR H1 H2 Hst He Hst' He' HK HS
    go_enter Try.func68, Try.ntmps68
    go_wp2
    go_ret
    exact ⟨one hR12.out, hB2⟩
set_option maxHeartbeats 32000000 in
theorem part_op8 (lt : List Tm) (lc : List Cl) (nm so : ByteArray) (ka : Option Addr) (kn kc : Nat) (a : Option Addr) (n c : Nat) (R : Int) (F G : Nat → Int) (w W2 : World)
    (hW2 : w.alloc (.cells #[.int .i64 8, .string nm, .string so, .slice ka kn kc, .slice a n c] 46) = W2) (hB2 : Below w.heap.size w W2) (HS : Hid (CBox W2 w.heap.size 8 nm so ⟨ka, kn, kc⟩ a n c))
    (H1 : Hid (TsW W2 ka kn kc lt)) (H2 : Hid (CsW W2 a n c lc)) (hn : n ≤ 9223372036854775807) (hkn : kn ≤ 9223372036854775807)
    (Hst : Hid (∀ (k : Nat) (x : Tm), lt[k]? = some x → F k = if rightE x ≠ 0 then rightE x else F (k + 1))) (He : Hid (∀ k, kn ≤ k → F k = 0))
    (Hst' : Hid (∀ (k : Nat) (x : Cl), lc[k]? = some x → G k = if cpartE x ≠ 0 then cpartE x else G (k + 1))) (He' : Hid (∀ k, n ≤ k → G k = 0)) (HK : Hid (∀ (k : Nat) (x : Cl), lc[k]? = some x → PartOk x))
    (hR : Hid (R = if arityC 8 kn n = true then 12 else if F 0 ≠ 0 then F 0 else G 0)) (hE2 : so.toList.isEmpty = true) (hE : nm.toList.isEmpty = true) :
    Calls Try.prog 68 #[.agg #[.int .i64 8, .string nm, .string so, .slice ka kn kc, .slice a n c]] w fun e w' => e = .returned (.int .i64 R) ∧ Below w.heap.size w w' := by
  obtain ⟨s0, s1, s2, s3, s4⟩ := HS.out.five
  by_cases h8 : kn = 0
  · have w1 : ((kn : Int) != 0) = false := by subst h8; rfl
    by_cases h0 : n = 2
    · have w2 : ((n : Int) != 2) = false := by subst h0; rfl
      have har : arityC 8 kn n = false := by subst h8 h0; rfl
      have HYes : Hid (F 0 = 0 → R = G 0) := Lib.hid (fun h => by rw [hR.out, har, if_neg (by simp), if_neg (by omega)])
      have HNo : Hid (F 0 ≠ 0 → R = F 0) := Lib.hid (fun h => by rw [hR.out, har, if_neg (by simp), if_pos h])
      have H0 := Lib.hid h0
      have H8 := Lib.hid h8
      clear hR har h0 h8
      go_enter Try.func68, Try.ntmps68
      go_wp2
      go_loopw [6] (fun i wr0 => ∃ (wr : World) (k : Nat), wr = wr0 ∧ k ≤ 0 ∧ i = .int .i64 k ∧ Below W2.heap.size W2 wr ∧ Hid (F k = F 0)) (fun i _ => 0 - (intOf i).toNat)
      case atStart => exact ⟨_, 0, rfl, by omega, rfl, Below.refl _ _, Lib.hid rfl⟩
      case round =>
        obtain ⟨wr, k, rfl, hk, rfl, hB, hRk⟩ := hrel
        obtain ⟨_, _, _, s3r, s4r⟩ := (CBox.b HS.out hB).five
        have hk8 : ¬ (k : Int) < 0 := by omega
        have HG0 : Hid (G 0 = R) := Lib.hid ((HYes.out (by rw [← hRk.out, He.out k (by have := H8.out; omega)])).symm)
        clear hRk
        go_wp2
        go_loopw [8] (fun i wr0 => ∃ (wr' : World) (k : Nat), wr' = wr0 ∧ k ≤ 2 ∧ i = .int .i64 k ∧ Below W2.heap.size W2 wr' ∧ Hid (G k = R)) (fun i _ => 2 - (intOf i).toNat)
        case atStart => exact ⟨_, 0, rfl, by omega, rfl, hB, HG0⟩
        case round =>
          clear hB s3r s4r
          obtain ⟨wr', k', rfl, hk', rfl, hB, hRk⟩ := hrel
          obtain ⟨_, _, _, s3r, s4r⟩ := (CBox.b HS.out hB).five
          by_cases hlt' : k' < 2
          · have hk0 : 0 ≤ (k' : Int) := by omega
            have hk1 : (k' : Int) < (n : Int) := by have := H0.out; omega
            have hk2 : (k' : Int) < 2 := by omega
            obtain ⟨bb, o, x, xk, A, M, Cc, rfl, hb, y0, y1, y2, y3, y4, hx, hok⟩ := (CsW.b H2.out hB).at (show k' < n by have := H0.out; omega)
            have hs1 := Lib.hid (Hst'.out k' x hx)
            have cs := HK.out k' x hx xk A M Cc wr' hok
            clear hx hok H2 Hst' HK HS
            generalize cpartE x = px at *
            generalize opC x = op' at *
            generalize nmC x = nm' at *
            generalize soC x = so' at *
            by_cases hp : px = 0
            · have p1 : (px != 0) = false := by rw [hp]; rfl
              have hnew : Hid (G (k' + 1) = R) := Lib.hid (by rw [← hRk.out, hs1.out, if_neg (by omega)])
              clear hRk hs1 hp
              go_wp2_with (go_at_call 68; ((with_reducible refine cs.mono ?_); rintro e w4 ⟨rfl, hb4⟩))
              go_roundw
              case rel => exact ⟨_, k' + 1, rfl, by omega, by go_num, bel_trans hB hb4, hnew⟩
              case measure => simp [intOf]; omega
            · have p1 : (px != 0) = true := bne_iff_ne.2 hp
              have hnew : Hid (px = R) := Lib.hid (by rw [← hRk.out, hs1.out, if_pos hp])
              clear hRk hs1 hp
              go_wp2_with (go_at_call 68; ((with_reducible refine cs.mono ?_); rintro e w4 ⟨rfl, hb4⟩))
              go_ret
              exact ⟨one hnew.out, bel_trans hB2 (bel_trans hB hb4)⟩
          · have hk9 : ¬ (k' : Int) < 2 := by omega
            have hnew : Hid ((0 : Int) = R) := Lib.hid (by rw [← hRk.out, He'.out k' (by have := H0.out; omega)])
            clear hRk
            go_wp2
            go_ret
            exact ⟨one hnew.out, bel_trans hB2 hB⟩
    · have w2 : ((n : Int) != 2) = true := bne_iff_ne.2 (by omega)
      have har : arityC 8 kn n = true := by simp [arityC, wantT, wantS, h0]
      have hR12 : Hid ((12 : Int) = R) := Lib.hid (by rw [hR.out, har, if_pos rfl])
      have H8 := Lib.hid h8
      clear har h0 h8 hR H1 H2 Hst He Hst' He' HK HS
      go_enter Try.func68, Try.ntmps68
      go_wp2
      go_ret
      exact ⟨one hR12.out, hB2⟩
  · have w1 : ((kn : Int) != 0) = true := bne_iff_ne.2 (by omega)
    have har : arityC 8 kn n = true := by simp [arityC, wantT, wantS, h8]
    have hR12 : Hid ((12 : Int) = R) := Lib.hid (by rw [hR.out, har, if_pos rfl])
    have H8 := Lib.hid h8
    clear har h8 hR H1 H2 Hst He Hst' He' HK HS
    go_enter Try.func68, Try.ntmps68
    go_wp2
    go_ret
    exact ⟨one hR12.out, hB2⟩
set_option maxHeartbeats 32000000 in
theorem part_op9 (lt : List Tm) (lc : List Cl) (nm so : ByteArray) (ka : Option Addr) (kn kc : Nat) (a : Option Addr) (n c : Nat) (R : Int) (F G : Nat → Int) (w W2 : World)
    (hW2 : w.alloc (.cells #[.int .i64 9, .string nm, .string so, .slice ka kn kc, .slice a n c] 46) = W2) (hB2 : Below w.heap.size w W2) (HS : Hid (CBox W2 w.heap.size 9 nm so ⟨ka, kn, kc⟩ a n c))
    (H1 : Hid (TsW W2 ka kn kc lt)) (H2 : Hid (CsW W2 a n c lc)) (hn : n ≤ 9223372036854775807) (hkn : kn ≤ 9223372036854775807)
    (Hst : Hid (∀ (k : Nat) (x : Tm), lt[k]? = some x → F k = if rightE x ≠ 0 then rightE x else F (k + 1))) (He : Hid (∀ k, kn ≤ k → F k = 0))
    (Hst' : Hid (∀ (k : Nat) (x : Cl), lc[k]? = some x → G k = if cpartE x ≠ 0 then cpartE x else G (k + 1))) (He' : Hid (∀ k, n ≤ k → G k = 0)) (HK : Hid (∀ (k : Nat) (x : Cl), lc[k]? = some x → PartOk x))
    (hR : Hid (R = if arityC 9 kn n = true then 12 else if F 0 ≠ 0 then F 0 else G 0)) (hE2 : so.toList.isEmpty = true) (hE : nm.toList.isEmpty = true) :
    Calls Try.prog 68 #[.agg #[.int .i64 9, .string nm, .string so, .slice ka kn kc, .slice a n c]] w fun e w' => e = .returned (.int .i64 R) ∧ Below w.heap.size w w' := by
  obtain ⟨s0, s1, s2, s3, s4⟩ := HS.out.five
  by_cases h8 : kn = 0
  · have w1 : ((kn : Int) != 0) = false := by subst h8; rfl
    by_cases h0 : n = 2
    · have w2 : ((n : Int) != 2) = false := by subst h0; rfl
      have har : arityC 9 kn n = false := by subst h8 h0; rfl
      have HYes : Hid (F 0 = 0 → R = G 0) := Lib.hid (fun h => by rw [hR.out, har, if_neg (by simp), if_neg (by omega)])
      have HNo : Hid (F 0 ≠ 0 → R = F 0) := Lib.hid (fun h => by rw [hR.out, har, if_neg (by simp), if_pos h])
      have H0 := Lib.hid h0
      have H8 := Lib.hid h8
      clear hR har h0 h8
      go_enter Try.func68, Try.ntmps68
      go_wp2
      go_loopw [6] (fun i wr0 => ∃ (wr : World) (k : Nat), wr = wr0 ∧ k ≤ 0 ∧ i = .int .i64 k ∧ Below W2.heap.size W2 wr ∧ Hid (F k = F 0)) (fun i _ => 0 - (intOf i).toNat)
      case atStart => exact ⟨_, 0, rfl, by omega, rfl, Below.refl _ _, Lib.hid rfl⟩
      case round =>
        obtain ⟨wr, k, rfl, hk, rfl, hB, hRk⟩ := hrel
        obtain ⟨_, _, _, s3r, s4r⟩ := (CBox.b HS.out hB).five
        have hk8 : ¬ (k : Int) < 0 := by omega
        have HG0 : Hid (G 0 = R) := Lib.hid ((HYes.out (by rw [← hRk.out, He.out k (by have := H8.out; omega)])).symm)
        clear hRk
        go_wp2
        go_loopw [8] (fun i wr0 => ∃ (wr' : World) (k : Nat), wr' = wr0 ∧ k ≤ 2 ∧ i = .int .i64 k ∧ Below W2.heap.size W2 wr' ∧ Hid (G k = R)) (fun i _ => 2 - (intOf i).toNat)
        case atStart => exact ⟨_, 0, rfl, by omega, rfl, hB, HG0⟩
        case round =>
          clear hB s3r s4r
          obtain ⟨wr', k', rfl, hk', rfl, hB, hRk⟩ := hrel
          obtain ⟨_, _, _, s3r, s4r⟩ := (CBox.b HS.out hB).five
          by_cases hlt' : k' < 2
          · have hk0 : 0 ≤ (k' : Int) := by omega
            have hk1 : (k' : Int) < (n : Int) := by have := H0.out; omega
            have hk2 : (k' : Int) < 2 := by omega
            obtain ⟨bb, o, x, xk, A, M, Cc, rfl, hb, y0, y1, y2, y3, y4, hx, hok⟩ := (CsW.b H2.out hB).at (show k' < n by have := H0.out; omega)
            have hs1 := Lib.hid (Hst'.out k' x hx)
            have cs := HK.out k' x hx xk A M Cc wr' hok
            clear hx hok H2 Hst' HK HS
            generalize cpartE x = px at *
            generalize opC x = op' at *
            generalize nmC x = nm' at *
            generalize soC x = so' at *
            by_cases hp : px = 0
            · have p1 : (px != 0) = false := by rw [hp]; rfl
              have hnew : Hid (G (k' + 1) = R) := Lib.hid (by rw [← hRk.out, hs1.out, if_neg (by omega)])
              clear hRk hs1 hp
              go_wp2_with (go_at_call 68; ((with_reducible refine cs.mono ?_); rintro e w4 ⟨rfl, hb4⟩))
              go_roundw
              case rel => exact ⟨_, k' + 1, rfl, by omega, by go_num, bel_trans hB hb4, hnew⟩
              case measure => simp [intOf]; omega
            · have p1 : (px != 0) = true := bne_iff_ne.2 hp
              have hnew : Hid (px = R) := Lib.hid (by rw [← hRk.out, hs1.out, if_pos hp])
              clear hRk hs1 hp
              go_wp2_with (go_at_call 68; ((with_reducible refine cs.mono ?_); rintro e w4 ⟨rfl, hb4⟩))
              go_ret
              exact ⟨one hnew.out, bel_trans hB2 (bel_trans hB hb4)⟩
          · have hk9 : ¬ (k' : Int) < 2 := by omega
            have hnew : Hid ((0 : Int) = R) := Lib.hid (by rw [← hRk.out, He'.out k' (by have := H0.out; omega)])
            clear hRk
            go_wp2
            go_ret
            exact ⟨one hnew.out, bel_trans hB2 hB⟩
    · have w2 : ((n : Int) != 2) = true := bne_iff_ne.2 (by omega)
      have har : arityC 9 kn n = true := by simp [arityC, wantT, wantS, h0]
      have hR12 : Hid ((12 : Int) = R) := Lib.hid (by rw [hR.out, har, if_pos rfl])
      have H8 := Lib.hid h8
      clear har h0 h8 hR H1 H2 Hst He Hst' He' HK HS
      go_enter Try.func68, Try.ntmps68
      go_wp2
      go_ret
      exact ⟨one hR12.out, hB2⟩
  · have w1 : ((kn : Int) != 0) = true := bne_iff_ne.2 (by omega)
    have har : arityC 9 kn n = true := by simp [arityC, wantT, wantS, h8]
    have hR12 : Hid ((12 : Int) = R) := Lib.hid (by rw [hR.out, har, if_pos rfl])
    have H8 := Lib.hid h8
    clear har h8 hR H1 H2 Hst He Hst' He' HK HS
    go_enter Try.func68, Try.ntmps68
    go_wp2
    go_ret
    exact ⟨one hR12.out, hB2⟩
set_option maxHeartbeats 32000000 in
theorem part_op10 (lt : List Tm) (lc : List Cl) (nm so : ByteArray) (ka : Option Addr) (kn kc : Nat) (a : Option Addr) (n c : Nat) (R : Int) (F G : Nat → Int) (w W2 : World)
    (hW2 : w.alloc (.cells #[.int .i64 10, .string nm, .string so, .slice ka kn kc, .slice a n c] 46) = W2) (hB2 : Below w.heap.size w W2) (HS : Hid (CBox W2 w.heap.size 10 nm so ⟨ka, kn, kc⟩ a n c))
    (H1 : Hid (TsW W2 ka kn kc lt)) (H2 : Hid (CsW W2 a n c lc)) (hn : n ≤ 9223372036854775807) (hkn : kn ≤ 9223372036854775807)
    (Hst : Hid (∀ (k : Nat) (x : Tm), lt[k]? = some x → F k = if rightE x ≠ 0 then rightE x else F (k + 1))) (He : Hid (∀ k, kn ≤ k → F k = 0))
    (Hst' : Hid (∀ (k : Nat) (x : Cl), lc[k]? = some x → G k = if cpartE x ≠ 0 then cpartE x else G (k + 1))) (He' : Hid (∀ k, n ≤ k → G k = 0)) (HK : Hid (∀ (k : Nat) (x : Cl), lc[k]? = some x → PartOk x))
    (hR : Hid (R = if arityC 10 kn n = true then 12 else if F 0 ≠ 0 then F 0 else G 0)) (hE2 : so.toList.isEmpty = true) (hE : nm.toList.isEmpty = true) :
    Calls Try.prog 68 #[.agg #[.int .i64 10, .string nm, .string so, .slice ka kn kc, .slice a n c]] w fun e w' => e = .returned (.int .i64 R) ∧ Below w.heap.size w w' := by
  obtain ⟨s0, s1, s2, s3, s4⟩ := HS.out.five
  by_cases h8 : kn = 0
  · have w1 : ((kn : Int) != 0) = false := by subst h8; rfl
    by_cases h0 : n = 2
    · have w2 : ((n : Int) != 2) = false := by subst h0; rfl
      have har : arityC 10 kn n = false := by subst h8 h0; rfl
      have HYes : Hid (F 0 = 0 → R = G 0) := Lib.hid (fun h => by rw [hR.out, har, if_neg (by simp), if_neg (by omega)])
      have HNo : Hid (F 0 ≠ 0 → R = F 0) := Lib.hid (fun h => by rw [hR.out, har, if_neg (by simp), if_pos h])
      have H0 := Lib.hid h0
      have H8 := Lib.hid h8
      clear hR har h0 h8
      go_enter Try.func68, Try.ntmps68
      go_wp2
      go_loopw [6] (fun i wr0 => ∃ (wr : World) (k : Nat), wr = wr0 ∧ k ≤ 0 ∧ i = .int .i64 k ∧ Below W2.heap.size W2 wr ∧ Hid (F k = F 0)) (fun i _ => 0 - (intOf i).toNat)
      case atStart => exact ⟨_, 0, rfl, by omega, rfl, Below.refl _ _, Lib.hid rfl⟩
      case round =>
        obtain ⟨wr, k, rfl, hk, rfl, hB, hRk⟩ := hrel
        obtain ⟨_, _, _, s3r, s4r⟩ := (CBox.b HS.out hB).five
        have hk8 : ¬ (k : Int) < 0 := by omega
        have HG0 : Hid (G 0 = R) := Lib.hid ((HYes.out (by rw [← hRk.out, He.out k (by have := H8.out; omega)])).symm)
        clear hRk
        go_wp2
        go_loopw [8] (fun i wr0 => ∃ (wr' : World) (k : Nat), wr' = wr0 ∧ k ≤ 2 ∧ i = .int .i64 k ∧ Below W2.heap.size W2 wr' ∧ Hid (G k = R)) (fun i _ => 2 - (intOf i).toNat)
        case atStart => exact ⟨_, 0, rfl, by omega, rfl, hB, HG0⟩
        case round =>
          clear hB s3r s4r
          obtain ⟨wr', k', rfl, hk', rfl, hB, hRk⟩ := hrel
          obtain ⟨_, _, _, s3r, s4r⟩ := (CBox.b HS.out hB).five
          by_cases hlt' : k' < 2
          · have hk0 : 0 ≤ (k' : Int) := by omega
            have hk1 : (k' : Int) < (n : Int) := by have := H0.out; omega
            have hk2 : (k' : Int) < 2 := by omega
            obtain ⟨bb, o, x, xk, A, M, Cc, rfl, hb, y0, y1, y2, y3, y4, hx, hok⟩ := (CsW.b H2.out hB).at (show k' < n by have := H0.out; omega)
            have hs1 := Lib.hid (Hst'.out k' x hx)
            have cs := HK.out k' x hx xk A M Cc wr' hok
            clear hx hok H2 Hst' HK HS
            generalize cpartE x = px at *
            generalize opC x = op' at *
            generalize nmC x = nm' at *
            generalize soC x = so' at *
            by_cases hp : px = 0
            · have p1 : (px != 0) = false := by rw [hp]; rfl
              have hnew : Hid (G (k' + 1) = R) := Lib.hid (by rw [← hRk.out, hs1.out, if_neg (by omega)])
              clear hRk hs1 hp
              go_wp2_with (go_at_call 68; ((with_reducible refine cs.mono ?_); rintro e w4 ⟨rfl, hb4⟩))
              go_roundw
              case rel => exact ⟨_, k' + 1, rfl, by omega, by go_num, bel_trans hB hb4, hnew⟩
              case measure => simp [intOf]; omega
            · have p1 : (px != 0) = true := bne_iff_ne.2 hp
              have hnew : Hid (px = R) := Lib.hid (by rw [← hRk.out, hs1.out, if_pos hp])
              clear hRk hs1 hp
              go_wp2_with (go_at_call 68; ((with_reducible refine cs.mono ?_); rintro e w4 ⟨rfl, hb4⟩))
              go_ret
              exact ⟨one hnew.out, bel_trans hB2 (bel_trans hB hb4)⟩
          · have hk9 : ¬ (k' : Int) < 2 := by omega
            have hnew : Hid ((0 : Int) = R) := Lib.hid (by rw [← hRk.out, He'.out k' (by have := H0.out; omega)])
            clear hRk
            go_wp2
            go_ret
            exact ⟨one hnew.out, bel_trans hB2 hB⟩
    · have w2 : ((n : Int) != 2) = true := bne_iff_ne.2 (by omega)
      have har : arityC 10 kn n = true := by simp [arityC, wantT, wantS, h0]
      have hR12 : Hid ((12 : Int) = R) := Lib.hid (by rw [hR.out, har, if_pos rfl])
      have H8 := Lib.hid h8
      clear har h0 h8 hR H1 H2 Hst He Hst' He' HK HS
      go_enter Try.func68, Try.ntmps68
      go_wp2
      go_ret
      exact ⟨one hR12.out, hB2⟩
  · have w1 : ((kn : Int) != 0) = true := bne_iff_ne.2 (by omega)
    have har : arityC 10 kn n = true := by simp [arityC, wantT, wantS, h8]
    have hR12 : Hid ((12 : Int) = R) := Lib.hid (by rw [hR.out, har, if_pos rfl])
    have H8 := Lib.hid h8
    clear har h8 hR H1 H2 Hst He Hst' He' HK HS
    go_enter Try.func68, Try.ntmps68
    go_wp2
    go_ret
    exact ⟨one hR12.out, hB2⟩
set_option maxHeartbeats 32000000 in
theorem part_op11 (lt : List Tm) (lc : List Cl) (nm so : ByteArray) (ka : Option Addr) (kn kc : Nat) (a : Option Addr) (n c : Nat) (R : Int) (F G : Nat → Int) (w W2 : World)
    (hW2 : w.alloc (.cells #[.int .i64 11, .string nm, .string so, .slice ka kn kc, .slice a n c] 46) = W2) (hB2 : Below w.heap.size w W2) (HS : Hid (CBox W2 w.heap.size 11 nm so ⟨ka, kn, kc⟩ a n c))
    (H1 : Hid (TsW W2 ka kn kc lt)) (H2 : Hid (CsW W2 a n c lc)) (hn : n ≤ 9223372036854775807) (hkn : kn ≤ 9223372036854775807)
    (Hst : Hid (∀ (k : Nat) (x : Tm), lt[k]? = some x → F k = if rightE x ≠ 0 then rightE x else F (k + 1))) (He : Hid (∀ k, kn ≤ k → F k = 0))
    (Hst' : Hid (∀ (k : Nat) (x : Cl), lc[k]? = some x → G k = if cpartE x ≠ 0 then cpartE x else G (k + 1))) (He' : Hid (∀ k, n ≤ k → G k = 0)) (HK : Hid (∀ (k : Nat) (x : Cl), lc[k]? = some x → PartOk x))
    (hR : Hid (R = if arityC 11 kn n = true then 12 else if F 0 ≠ 0 then F 0 else G 0)) :
    Calls Try.prog 68 #[.agg #[.int .i64 11, .string nm, .string so, .slice ka kn kc, .slice a n c]] w fun e w' => e = .returned (.int .i64 R) ∧ Below w.heap.size w w' := by
  obtain ⟨s0, s1, s2, s3, s4⟩ := HS.out.five
  by_cases h8 : kn = 0
  · have w1 : ((kn : Int) != 0) = false := by subst h8; rfl
    by_cases h0 : n = 1
    · have w2 : ((n : Int) != 1) = false := by subst h0; rfl
      have har : arityC 11 kn n = false := by subst h8 h0; rfl
      have HYes : Hid (F 0 = 0 → R = G 0) := Lib.hid (fun h => by rw [hR.out, har, if_neg (by simp), if_neg (by omega)])
      have HNo : Hid (F 0 ≠ 0 → R = F 0) := Lib.hid (fun h => by rw [hR.out, har, if_neg (by simp), if_pos h])
      have H0 := Lib.hid h0
      have H8 := Lib.hid h8
      clear hR har h0 h8
      go_enter Try.func68, Try.ntmps68
      go_wp2
      go_loopw [6] (fun i wr0 => ∃ (wr : World) (k : Nat), wr = wr0 ∧ k ≤ 0 ∧ i = .int .i64 k ∧ Below W2.heap.size W2 wr ∧ Hid (F k = F 0)) (fun i _ => 0 - (intOf i).toNat)
      case atStart => exact ⟨_, 0, rfl, by omega, rfl, Below.refl _ _, Lib.hid rfl⟩
      case round =>
        obtain ⟨wr, k, rfl, hk, rfl, hB, hRk⟩ := hrel
        obtain ⟨_, _, _, s3r, s4r⟩ := (CBox.b HS.out hB).five
        have hk8 : ¬ (k : Int) < 0 := by omega
        have HG0 : Hid (G 0 = R) := Lib.hid ((HYes.out (by rw [← hRk.out, He.out k (by have := H8.out; omega)])).symm)
        clear hRk
        go_wp2
        go_loopw [8] (fun i wr0 => ∃ (wr' : World) (k : Nat), wr' = wr0 ∧ k ≤ 1 ∧ i = .int .i64 k ∧ Below W2.heap.size W2 wr' ∧ Hid (G k = R)) (fun i _ => 1 - (intOf i).toNat)
        case atStart => exact ⟨_, 0, rfl, by omega, rfl, hB, HG0⟩
        case round =>
          clear hB s3r s4r
          obtain ⟨wr', k', rfl, hk', rfl, hB, hRk⟩ := hrel
          obtain ⟨_, _, _, s3r, s4r⟩ := (CBox.b HS.out hB).five
          by_cases hlt' : k' < 1
          · have hk0 : 0 ≤ (k' : Int) := by omega
            have hk1 : (k' : Int) < (n : Int) := by have := H0.out; omega
            have hk2 : (k' : Int) < 1 := by omega
            obtain ⟨bb, o, x, xk, A, M, Cc, rfl, hb, y0, y1, y2, y3, y4, hx, hok⟩ := (CsW.b H2.out hB).at (show k' < n by have := H0.out; omega)
            have hs1 := Lib.hid (Hst'.out k' x hx)
            have cs := HK.out k' x hx xk A M Cc wr' hok
            clear hx hok H2 Hst' HK HS
            generalize cpartE x = px at *
            generalize opC x = op' at *
            generalize nmC x = nm' at *
            generalize soC x = so' at *
            by_cases hp : px = 0
            · have p1 : (px != 0) = false := by rw [hp]; rfl
              have hnew : Hid (G (k' + 1) = R) := Lib.hid (by rw [← hRk.out, hs1.out, if_neg (by omega)])
              clear hRk hs1 hp
              go_wp2_with (go_at_call 68; ((with_reducible refine cs.mono ?_); rintro e w4 ⟨rfl, hb4⟩))
              go_roundw
              case rel => exact ⟨_, k' + 1, rfl, by omega, by go_num, bel_trans hB hb4, hnew⟩
              case measure => simp [intOf]; omega
            · have p1 : (px != 0) = true := bne_iff_ne.2 hp
              have hnew : Hid (px = R) := Lib.hid (by rw [← hRk.out, hs1.out, if_pos hp])
              clear hRk hs1 hp
              go_wp2_with (go_at_call 68; ((with_reducible refine cs.mono ?_); rintro e w4 ⟨rfl, hb4⟩))
              go_ret
              exact ⟨one hnew.out, bel_trans hB2 (bel_trans hB hb4)⟩
          · have hk9 : ¬ (k' : Int) < 1 := by omega
            have hnew : Hid ((0 : Int) = R) := Lib.hid (by rw [← hRk.out, He'.out k' (by have := H0.out; omega)])
            clear hRk
            go_wp2
            go_ret
            exact ⟨one hnew.out, bel_trans hB2 hB⟩
    · have w2 : ((n : Int) != 1) = true := bne_iff_ne.2 (by omega)
      have har : arityC 11 kn n = true := by simp [arityC, wantT, wantS, h0]
      have hR12 : Hid ((12 : Int) = R) := Lib.hid (by rw [hR.out, har, if_pos rfl])
      have H8 := Lib.hid h8
      clear har h0 h8 hR H1 H2 Hst He Hst' He' HK HS
      go_enter Try.func68, Try.ntmps68
      go_wp2
      go_ret
      exact ⟨one hR12.out, hB2⟩
  · have w1 : ((kn : Int) != 0) = true := bne_iff_ne.2 (by omega)
    have har : arityC 11 kn n = true := by simp [arityC, wantT, wantS, h8]
    have hR12 : Hid ((12 : Int) = R) := Lib.hid (by rw [hR.out, har, if_pos rfl])
    have H8 := Lib.hid h8
    clear har h8 hR H1 H2 Hst He Hst' He' HK HS
    go_enter Try.func68, Try.ntmps68
    go_wp2
    go_ret
    exact ⟨one hR12.out, hB2⟩
set_option maxHeartbeats 32000000 in
theorem part_op12 (lt : List Tm) (lc : List Cl) (nm so : ByteArray) (ka : Option Addr) (kn kc : Nat) (a : Option Addr) (n c : Nat) (R : Int) (F G : Nat → Int) (w W2 : World)
    (hW2 : w.alloc (.cells #[.int .i64 12, .string nm, .string so, .slice ka kn kc, .slice a n c] 46) = W2) (hB2 : Below w.heap.size w W2) (HS : Hid (CBox W2 w.heap.size 12 nm so ⟨ka, kn, kc⟩ a n c))
    (H1 : Hid (TsW W2 ka kn kc lt)) (H2 : Hid (CsW W2 a n c lc)) (hn : n ≤ 9223372036854775807) (hkn : kn ≤ 9223372036854775807)
    (Hst : Hid (∀ (k : Nat) (x : Tm), lt[k]? = some x → F k = if rightE x ≠ 0 then rightE x else F (k + 1))) (He : Hid (∀ k, kn ≤ k → F k = 0))
    (Hst' : Hid (∀ (k : Nat) (x : Cl), lc[k]? = some x → G k = if cpartE x ≠ 0 then cpartE x else G (k + 1))) (He' : Hid (∀ k, n ≤ k → G k = 0)) (HK : Hid (∀ (k : Nat) (x : Cl), lc[k]? = some x → PartOk x))
    (hR : Hid (R = if arityC 12 kn n = true then 12 else if F 0 ≠ 0 then F 0 else G 0)) :
    Calls Try.prog 68 #[.agg #[.int .i64 12, .string nm, .string so, .slice ka kn kc, .slice a n c]] w fun e w' => e = .returned (.int .i64 R) ∧ Below w.heap.size w w' := by
  obtain ⟨s0, s1, s2, s3, s4⟩ := HS.out.five
  by_cases h8 : kn = 0
  · have w1 : ((kn : Int) != 0) = false := by subst h8; rfl
    by_cases h0 : n = 1
    · have w2 : ((n : Int) != 1) = false := by subst h0; rfl
      have har : arityC 12 kn n = false := by subst h8 h0; rfl
      have HYes : Hid (F 0 = 0 → R = G 0) := Lib.hid (fun h => by rw [hR.out, har, if_neg (by simp), if_neg (by omega)])
      have HNo : Hid (F 0 ≠ 0 → R = F 0) := Lib.hid (fun h => by rw [hR.out, har, if_neg (by simp), if_pos h])
      have H0 := Lib.hid h0
      have H8 := Lib.hid h8
      clear hR har h0 h8
      go_enter Try.func68, Try.ntmps68
      go_wp2
      go_loopw [6] (fun i wr0 => ∃ (wr : World) (k : Nat), wr = wr0 ∧ k ≤ 0 ∧ i = .int .i64 k ∧ Below W2.heap.size W2 wr ∧ Hid (F k = F 0)) (fun i _ => 0 - (intOf i).toNat)
      case atStart => exact ⟨_, 0, rfl, by omega, rfl, Below.refl _ _, Lib.hid rfl⟩
      case round =>
        obtain ⟨wr, k, rfl, hk, rfl, hB, hRk⟩ := hrel
        obtain ⟨_, _, _, s3r, s4r⟩ := (CBox.b HS.out hB).five
        have hk8 : ¬ (k : Int) < 0 := by omega
        have HG0 : Hid (G 0 = R) := Lib.hid ((HYes.out (by rw [← hRk.out, He.out k (by have := H8.out; omega)])).symm)
        clear hRk
        go_wp2
        go_loopw [8] (fun i wr0 => ∃ (wr' : World) (k : Nat), wr' = wr0 ∧ k ≤ 1 ∧ i = .int .i64 k ∧ Below W2.heap.size W2 wr' ∧ Hid (G k = R)) (fun i _ => 1 - (intOf i).toNat)
        case atStart => exact ⟨_, 0, rfl, by omega, rfl, hB, HG0⟩
        case round =>
          clear hB s3r s4r
          obtain ⟨wr', k', rfl, hk', rfl, hB, hRk⟩ := hrel
          obtain ⟨_, _, _, s3r, s4r⟩ := (CBox.b HS.out hB).five
          by_cases hlt' : k' < 1
          · have hk0 : 0 ≤ (k' : Int) := by omega
            have hk1 : (k' : Int) < (n : Int) := by have := H0.out; omega
            have hk2 : (k' : Int) < 1 := by omega
            obtain ⟨bb, o, x, xk, A, M, Cc, rfl, hb, y0, y1, y2, y3, y4, hx, hok⟩ := (CsW.b H2.out hB).at (show k' < n by have := H0.out; omega)
            have hs1 := Lib.hid (Hst'.out k' x hx)
            have cs := HK.out k' x hx xk A M Cc wr' hok
            clear hx hok H2 Hst' HK HS
            generalize cpartE x = px at *
            generalize opC x = op' at *
            generalize nmC x = nm' at *
            generalize soC x = so' at *
            by_cases hp : px = 0
            · have p1 : (px != 0) = false := by rw [hp]; rfl
              have hnew : Hid (G (k' + 1) = R) := Lib.hid (by rw [← hRk.out, hs1.out, if_neg (by omega)])
              clear hRk hs1 hp
              go_wp2_with (go_at_call 68; ((with_reducible refine cs.mono ?_); rintro e w4 ⟨rfl, hb4⟩))
              go_roundw
              case rel => exact ⟨_, k' + 1, rfl, by omega, by go_num, bel_trans hB hb4, hnew⟩
              case measure => simp [intOf]; omega
            · have p1 : (px != 0) = true := bne_iff_ne.2 hp
              have hnew : Hid (px = R) := Lib.hid (by rw [← hRk.out, hs1.out, if_pos hp])
              clear hRk hs1 hp
              go_wp2_with (go_at_call 68; ((with_reducible refine cs.mono ?_); rintro e w4 ⟨rfl, hb4⟩))
              go_ret
              exact ⟨one hnew.out, bel_trans hB2 (bel_trans hB hb4)⟩
          · have hk9 : ¬ (k' : Int) < 1 := by omega
            have hnew : Hid ((0 : Int) = R) := Lib.hid (by rw [← hRk.out, He'.out k' (by have := H0.out; omega)])
            clear hRk
            go_wp2
            go_ret
            exact ⟨one hnew.out, bel_trans hB2 hB⟩
    · have w2 : ((n : Int) != 1) = true := bne_iff_ne.2 (by omega)
      have har : arityC 12 kn n = true := by simp [arityC, wantT, wantS, h0]
      have hR12 : Hid ((12 : Int) = R) := Lib.hid (by rw [hR.out, har, if_pos rfl])
      have H8 := Lib.hid h8
      clear har h0 h8 hR H1 H2 Hst He Hst' He' HK HS
      go_enter Try.func68, Try.ntmps68
      go_wp2
      go_ret
      exact ⟨one hR12.out, hB2⟩
  · have w1 : ((kn : Int) != 0) = true := bne_iff_ne.2 (by omega)
    have har : arityC 12 kn n = true := by simp [arityC, wantT, wantS, h8]
    have hR12 : Hid ((12 : Int) = R) := Lib.hid (by rw [hR.out, har, if_pos rfl])
    have H8 := Lib.hid h8
    clear har h8 hR H1 H2 Hst He Hst' He' HK HS
    go_enter Try.func68, Try.ntmps68
    go_wp2
    go_ret
    exact ⟨one hR12.out, hB2⟩
theorem part13_step (t : Cl) (hok : ∀ x ∈ subC t, PartOk x) : PartOk t := by
  intro kk a n c w hA
  obtain ⟨ka, kn, kc⟩ := kk
  obtain ⟨W2, hW2, hB2, hs2, S2⟩ := cbox1 w (opC t) (nmC t) (soC t) ⟨ka, kn, kc⟩ a n c
  have hT := TsW.b (ArWC.terms hA) hB2
  have hC := CsW.b (ArWC.subs hA) hB2
  dsimp only at hT hW2
  have hR : cpartE t = if formC (opC t) (nmC t) (soC t) = true then 7 else if arityC (opC t) kn n = true then 12 else if rightsE (tsC t) ≠ 0 then rightsE (tsC t) else cpartsE (subC t) := by rw [cpartE_mk, ← hT.1, ← hC.1]
  generalize cpartE t = R at *
  have hk2 : ∀ k x, (subC t)[k]? = some x → PartOk x := fun k x h => hok x (List.mem_of_getElem? h)
  have hst : ∀ k x, (tsC t)[k]? = some x → rightsE ((tsC t).drop k) = if rightE x ≠ 0 then rightE x else rightsE ((tsC t).drop (k + 1)) := fun k x h => rightsD_step h
  have he : ∀ k, kn ≤ k → rightsE ((tsC t).drop k) = 0 := fun k h => by rw [List.drop_eq_nil_of_le (by rw [← hT.1]; exact h), rightsE]
  have hst' : ∀ k x, (subC t)[k]? = some x → cpartsE ((subC t).drop k) = if cpartE x ≠ 0 then cpartE x else cpartsE ((subC t).drop (k + 1)) := fun k x h => cpartsD_step h
  have he' : ∀ k, n ≤ k → cpartsE ((subC t).drop k) = 0 := fun k h => by rw [List.drop_eq_nil_of_le (by rw [← hC.1]; exact h), cpartsE]
  have hn : n ≤ 9223372036854775807 := by have h1 := hC.2.1; have h2 := hC.2.2.1; unfold maxLen at h2; omega
  have hkn : kn ≤ 9223372036854775807 := by have h1 := hT.2.1; have h2 := hT.2.2.1; unfold maxLen at h2; omega
  rw [show rightsE (tsC t) = rightsE ((tsC t).drop 0) from rfl, show cpartsE (subC t) = cpartsE ((subC t).drop 0) from rfl] at hR
  generalize tsC t = lt at *
  generalize subC t = lc at *
  obtain ⟨F, hF⟩ : ∃ F : Nat → Int, ∀ k, rightsE (lt.drop k) = F k := ⟨_, fun _ => rfl⟩
  obtain ⟨G, hG⟩ : ∃ G : Nat → Int, ∀ k, cpartsE (lc.drop k) = G k := ⟨_, fun _ => rfl⟩
  simp only [hF] at hst he hR
  simp only [hG] at hst' he' hR
  generalize opC t = op at *
  generalize nmC t = nm at *
  generalize soC t = so at *
  by_cases hform : formC op nm so = true
  · exact part_form lt lc op nm so ka kn kc a n c R F G w W2 hW2 hB2 (Lib.hid S2) (Lib.hid hT) (Lib.hid hC) hn hkn (Lib.hid hst) (Lib.hid he) (Lib.hid hst') (Lib.hid he') (Lib.hid hk2) (Lib.hid (by rw [hR, if_pos hform])) hform
  · rw [if_neg hform] at hR
    have hf : formC op nm so = false := by simpa using hform
    clear hform
    simp only [formC, Bool.or_eq_false_iff, decide_eq_false_iff_not, Bool.and_eq_false_iff, bne_eq_false_iff_eq, Bool.not_eq_false'] at hf
    obtain ⟨⟨hl, hg⟩, h4, h5⟩ := hf
    have hop : op = 1 ∨ op = 2 ∨ op = 3 ∨ op = 4 ∨ op = 5 ∨ op = 6 ∨ op = 7 ∨ op = 8 ∨ op = 9 ∨ op = 10 ∨ op = 11 ∨ op = 12 := by omega
    have hso : op ≠ 11 → op ≠ 12 → so.toList.isEmpty = true := fun h1 h2 => by rcases h5 with (h | h) | h <;> first | exact h | (exfalso; omega)
    have hnm : op ≠ 11 → op ≠ 12 → op ≠ 3 → nm.toList.isEmpty = true := fun h1 h2 h3 => by rcases h4 with (h | h | h) | h <;> first | exact h | (exfalso; omega)
    rcases hop with rfl | rfl | rfl | rfl | rfl | rfl | rfl | rfl | rfl | rfl | rfl | rfl
    · exact part_op1 lt lc nm so ka kn kc a n c R F G w W2 hW2 hB2 (Lib.hid S2) (Lib.hid hT) (Lib.hid hC) hn hkn (Lib.hid hst) (Lib.hid he) (Lib.hid hst') (Lib.hid he') (Lib.hid hk2) (Lib.hid hR) (hso (by decide) (by decide)) (hnm (by decide) (by decide) (by decide))
    · exact part_op2 lt lc nm so ka kn kc a n c R F G w W2 hW2 hB2 (Lib.hid S2) (Lib.hid hT) (Lib.hid hC) hn hkn (Lib.hid hst) (Lib.hid he) (Lib.hid hst') (Lib.hid he') (Lib.hid hk2) (Lib.hid hR) (hso (by decide) (by decide)) (hnm (by decide) (by decide) (by decide))
    · exact part_op3 lt lc nm so ka kn kc a n c R F G w W2 hW2 hB2 (Lib.hid S2) (Lib.hid hT) (Lib.hid hC) hn hkn (Lib.hid hst) (Lib.hid he) (Lib.hid hst') (Lib.hid he') (Lib.hid hk2) (Lib.hid hR) (hso (by decide) (by decide))
    · exact part_op4 lt lc nm so ka kn kc a n c R F G w W2 hW2 hB2 (Lib.hid S2) (Lib.hid hT) (Lib.hid hC) hn hkn (Lib.hid hst) (Lib.hid he) (Lib.hid hst') (Lib.hid he') (Lib.hid hk2) (Lib.hid hR) (hso (by decide) (by decide)) (hnm (by decide) (by decide) (by decide))
    · exact part_op5 lt lc nm so ka kn kc a n c R F G w W2 hW2 hB2 (Lib.hid S2) (Lib.hid hT) (Lib.hid hC) hn hkn (Lib.hid hst) (Lib.hid he) (Lib.hid hst') (Lib.hid he') (Lib.hid hk2) (Lib.hid hR) (hso (by decide) (by decide)) (hnm (by decide) (by decide) (by decide))
    · exact part_op6 lt lc nm so ka kn kc a n c R F G w W2 hW2 hB2 (Lib.hid S2) (Lib.hid hT) (Lib.hid hC) hn hkn (Lib.hid hst) (Lib.hid he) (Lib.hid hst') (Lib.hid he') (Lib.hid hk2) (Lib.hid hR) (hso (by decide) (by decide)) (hnm (by decide) (by decide) (by decide))
    · exact part_op7 lt lc nm so ka kn kc a n c R F G w W2 hW2 hB2 (Lib.hid S2) (Lib.hid hT) (Lib.hid hC) hn hkn (Lib.hid hst) (Lib.hid he) (Lib.hid hst') (Lib.hid he') (Lib.hid hk2) (Lib.hid hR) (hso (by decide) (by decide)) (hnm (by decide) (by decide) (by decide))
    · exact part_op8 lt lc nm so ka kn kc a n c R F G w W2 hW2 hB2 (Lib.hid S2) (Lib.hid hT) (Lib.hid hC) hn hkn (Lib.hid hst) (Lib.hid he) (Lib.hid hst') (Lib.hid he') (Lib.hid hk2) (Lib.hid hR) (hso (by decide) (by decide)) (hnm (by decide) (by decide) (by decide))
    · exact part_op9 lt lc nm so ka kn kc a n c R F G w W2 hW2 hB2 (Lib.hid S2) (Lib.hid hT) (Lib.hid hC) hn hkn (Lib.hid hst) (Lib.hid he) (Lib.hid hst') (Lib.hid he') (Lib.hid hk2) (Lib.hid hR) (hso (by decide) (by decide)) (hnm (by decide) (by decide) (by decide))
    · exact part_op10 lt lc nm so ka kn kc a n c R F G w W2 hW2 hB2 (Lib.hid S2) (Lib.hid hT) (Lib.hid hC) hn hkn (Lib.hid hst) (Lib.hid he) (Lib.hid hst') (Lib.hid he') (Lib.hid hk2) (Lib.hid hR) (hso (by decide) (by decide)) (hnm (by decide) (by decide) (by decide))
    · exact part_op11 lt lc nm so ka kn kc a n c R F G w W2 hW2 hB2 (Lib.hid S2) (Lib.hid hT) (Lib.hid hC) hn hkn (Lib.hid hst) (Lib.hid he) (Lib.hid hst') (Lib.hid he') (Lib.hid hk2) (Lib.hid hR)
    · exact part_op12 lt lc nm so ka kn kc a n c R F G w W2 hW2 hB2 (Lib.hid S2) (Lib.hid hT) (Lib.hid hC) hn hkn (Lib.hid hst) (Lib.hid he) (Lib.hid hst') (Lib.hid he') (Lib.hid hk2) (Lib.hid hR)
theorem part13_any (t : Cl) : PartOk t := Cl.ind part13_step t
end Go.Proofs.Ytacncbkcnhlpcaa.Wl
namespace Go.Proofs.Ytacncbkcnhlpcaa.Wl
open Go.RowKit L T C
set_option linter.unusedVariables false
set_option linter.unusedSimpArgs false
set_option maxRecDepth 100000

theorem wtTo_iff13 (c : Cl) (m : Nat) : wtTo m c ≤ m ↔ wt c ≤ m := by
  constructor
  · intro h; have := wtTo_le c m h; omega
  · intro h
    have h2 : ∀ c : Cl, ∀ m, wt c ≤ m → wtTo m c = wt c := fun c => by
      refine Cl.ind (P := fun c => ∀ m, wt c ≤ m → wtTo m c = wt c) (fun c ih m hm => ?_) c
      have key : ∀ (l : List Cl), (∀ x ∈ l, ∀ m, wt x ≤ m → wtTo m x = wt x) → ∀ m q, q + wts l ≤ m → wtTos m q l = q + wts l := by
        intro l
        induction l with
        | nil => intro _ m q _; rw [wtTos, wts]; rfl
        | cons x l ihl =>
          intro hx m q hq
          rw [wts] at hq ⊢
          rw [wtTos, if_pos (by omega), hx x (by simp) (m - q) (by omega), ihl (fun y hy => hx y (by simp [hy])) m _ (by omega)]; omega
      have hw := wt_mk c
      rw [wtTo_mk, szTos_small (tsC c) m 1 (by omega), key (subC c) ih m _ (by omega)]
      omega
    rw [h2 c m h]; exact h
set_option maxHeartbeats 8000000 in
theorem Right13_any (t : Cl) (k : SS) (a : Option Addr) (n c : Nat) (w : World) (hA : ArWC w t k a n c) :
    Calls Try.prog 35 #[.agg #[.int .i64 (opC t), .string (nmC t), .string (soC t), .slice k.a k.n k.c, .slice a n c]] w fun e w' => e = .returned (.int .i64 (crightE t)) ∧ Below w.heap.size w w' := by
  obtain ⟨W2, hW2, hB2, hs2, S2⟩ := cbox1 w (opC t) (nmC t) (soC t) k a n c
  have cT := dep13_any t k a n c 64 W2 (by omega) (ArWC.b hA hB2)
  have cS := fun (w' : World) (h : Below W2.heap.size W2 w') => Big_any t k a n c 4096 w' (by omega) (ArWC.b (ArWC.b hA hB2) h)
  have cP := fun (w' : World) (h : Below W2.heap.size W2 w') => part13_any t k a n c w' (ArWC.b (ArWC.b hA hB2) h)
  have hsz := wtTo_iff13 t 4096
  rw [show ((64 : Nat) : Int) = 64 from rfl, show 64 + 1 = 65 from rfl] at cT
  simp only [show ((4096 : Nat) : Int) = 4096 from rfl] at cS
  have hR : Hid (crightE t = if 64 < dpC t then 6 else if 4096 < wt t then 2 else cpartE t) := Lib.hid rfl
  obtain ⟨s0, s1, s2, s3, s4⟩ := S2.five
  obtain ⟨ka, kn, kc⟩ := k
  dsimp only at *
  have HS := Lib.hid S2
  clear S2 hA
  generalize crightE t = R at *
  generalize cpartE t = P at *
  generalize hbg : decide (4096 < wtTo 4096 t) = bg at *
  generalize wt t = sz0 at *
  generalize hdp : min (dpC t) 65 = dp at *
  generalize dpC t = d0 at *
  generalize opC t = op at *
  generalize nmC t = nm at *
  generalize soC t = nu at *
  by_cases h1 : 64 < d0
  · have q1 : decide ((dp : Int) > 64) = true := decide_eq_true (by omega)
    have hr : Hid ((6 : Int) = R) := Lib.hid (by rw [hR.out, if_pos h1])
    clear hR h1 hsz hdp hbg
    go_enter Try.func35, Try.ntmps35
    go_wp2_with (go_at_call 67; ((with_reducible refine cT.mono ?_); rintro e w3 ⟨rfl, hb3⟩; obtain ⟨u0, u1, u2, u3, u4⟩ := (CBox.b HS.out hb3).five))
    go_ret
    exact ⟨one hr.out, bel_trans hB2 hb3⟩
  · have q1 : decide ((dp : Int) > 64) = false := decide_eq_false (by omega)
    by_cases h2 : 4096 < sz0
    · have q2 : bg = true := by rw [← hbg]; exact decide_eq_true (by omega)
      have hr : Hid ((2 : Int) = R) := Lib.hid (by rw [hR.out, if_neg h1, if_pos h2])
      clear hR h1 h2 hsz hdp hbg
      subst q2
      go_enter Try.func35, Try.ntmps35
      go_wp2_with (first
        | (go_at_call 67; ((with_reducible refine cT.mono ?_); rintro e w3 ⟨rfl, hb3⟩; obtain ⟨u0, u1, u2, u3, u4⟩ := (CBox.b HS.out hb3).five))
        | (go_at_call 17; ((with_reducible refine (cS _ hb3).mono ?_); rintro e w4 ⟨rfl, hb4⟩; have B4 := bel_trans hb3 hb4)))
      go_ret
      exact ⟨one hr.out, bel_trans hB2 B4⟩
    · have q2 : bg = false := by rw [← hbg]; exact decide_eq_false (by omega)
      have hr : Hid (P = R) := Lib.hid (by rw [hR.out, if_neg h1, if_neg h2])
      clear hR h1 h2 hsz hdp hbg
      subst q2
      go_enter Try.func35, Try.ntmps35
      go_wp2_with (first
        | (go_at_call 67; ((with_reducible refine cT.mono ?_); rintro e w3 ⟨rfl, hb3⟩; obtain ⟨u0, u1, u2, u3, u4⟩ := (CBox.b HS.out hb3).five))
        | (go_at_call 17; ((with_reducible refine (cS _ hb3).mono ?_); rintro e w4 ⟨rfl, hb4⟩; have B4 := bel_trans hb3 hb4; obtain ⟨u0, u1, u2, u3, u4⟩ := (CBox.b HS.out B4).five))
        | (go_at_call 68; ((with_reducible refine (cP _ B4).mono ?_); rintro e w5 ⟨rfl, hb5⟩; have B5 := bel_trans B4 hb5)))
      go_ret
      exact ⟨one hr.out, bel_trans hB2 B5⟩
end Go.Proofs.Ytacncbkcnhlpcaa.Wl
