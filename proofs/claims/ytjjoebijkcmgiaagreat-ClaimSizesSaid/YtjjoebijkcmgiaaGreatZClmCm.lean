/-
  What is proved: what package claim's Compare and Same return: the order of claims, up to the names of binders.
-/
import Derived.Test.YtjjoebijkcmgiaaGreatBC
import Derived.Test.YtjjoebijkcmgiaaGreatBT
import Derived.Deep.RegionHeld3
namespace Go.Proofs.YtjjoebijkcmgiaaGreat.C
open Go.RowKit L T
set_option linter.unusedVariables false
set_option linter.unusedSimpArgs false

def CmpOkC (t : Cl) : Prop := ∀ (u : Cl) (k : SS) (a : Option Addr) (n c : Nat) (k' : SS) (a' : Option Addr) (n' c' : Nat) (w : World), ArWC w t k a n c → ArWC w u k' a' n' c' →
  Calls Tryz.prog 38 #[.agg #[.int .i64 (opC t), .string (nmC t), .string (soC t), .slice k.a k.n k.c, .slice a n c], .agg #[.int .i64 (opC u), .string (nmC u), .string (soC u), .slice k'.a k'.n k'.c, .slice a' n' c']] w fun e w' => e = .returned (.int .i64 (cmpC t u)) ∧ Below w.heap.size w w'

set_option maxRecDepth 100000 in
set_option maxHeartbeats 4000000 in
theorem CompareFuncC_of (l : List Cl) (hok : ∀ t ∈ l, CmpOkC t) (b : Option Addr) (m d : Nat) (b' : Option Addr) (d' : Nat) (l' : List Cl) (w : World) (hG : CsW w b m d l) (hG' : CsW w b' m d' l') :
    Calls Tryz.prog 87 #[.slice b m d, .slice b' m d', .func (.func 38) #[] #[]] w fun e w' => e = .returned (.int .i64 (cmpCs l l')) ∧ Below w.heap.size w w' := by
  have hst : ∀ k (f g : Cl), l[k]? = some f → l'[k]? = some g → cmpCs (l.drop k) (l'.drop k) = lex (cmpC f g) (cmpCs (l.drop (k + 1)) (l'.drop (k + 1))) := fun k f g h h2 => by rw [drop_c h, drop_c h2, cmpCs]
  have he : ∀ k, m ≤ k → cmpCs (l.drop k) (l'.drop k) = 0 := fun k h => by
    rw [List.drop_eq_nil_of_le (by rw [← hG.1]; exact h), cmpCs]
  have h0 : cmpCs l l' = cmpCs (l.drop 0) (l'.drop 0) := rfl
  have hk2 : ∀ k f, l[k]? = some f → CmpOkC f := fun k f h => hok f (List.mem_of_getElem? h)
  have hm : m ≤ 9223372036854775807 := by have h1 := hG.2.1; have h2 := hG.2.2.1; unfold maxLen at h2; omega
  rw [h0]
  obtain ⟨F, hF⟩ : ∃ F : Nat → Int, ∀ k, cmpCs (l.drop k) (l'.drop k) = F k := ⟨_, fun _ => rfl⟩
  simp only [hF] at hst he ⊢
  clear hF h0 hok
  have H1 := Lib.hid hG
  have H2 := Lib.hid hG'
  have Hst := Lib.hid hst
  have He := Lib.hid he
  have HK := Lib.hid hk2
  clear hG hG' hst he hk2
  go_enter Tryz.func87, Tryz.ntmps87
  go_wp2
  go_loopw [13] (fun i wr0 => ∃ (wr : World) (k : Nat), wr = wr0 ∧ k ≤ m ∧ i = .int .i64 k ∧ Below w.heap.size w wr ∧ Hid (F k = F 0)) (fun i _ => m - (intOf i).toNat)
  case atStart => exact ⟨_, 0, rfl, by omega, rfl, Below.refl _ _, Lib.hid rfl⟩
  case round =>
    obtain ⟨wr, k, rfl, hk, rfl, hB, hR⟩ := hrel
    by_cases hlt : k < m
    · obtain ⟨bb, o, t, kk, A, M, Cc, rfl, hb, y0, y1, y2, y3, y4, hx, hok⟩ := (CsW.b H1.out hB).at hlt
      obtain ⟨bb', o', u, kk', A', M', Cc', rfl, hb', z0, z1, z2, z3, z4, hx', hok'⟩ := (CsW.b H2.out hB).at hlt
      have hs1 := Lib.hid (Hst.out k t u hx hx')
      have hk0 : 0 ≤ (k : Int) := by omega
      have hk1 : (k : Int) < (m : Int) := by omega
      have hk2 : ¬ (m : Int) ≤ (k : Int) := by omega
      obtain ⟨W3, hW3, hB3, hs3, F3, G3⟩ := cbox2 wr (opC t) (nmC t) (soC t) kk A M Cc (opC u) (nmC u) (soC u) kk' A' M' Cc'
      have cs := HK.out k t hx u kk A M Cc kk' A' M' Cc' W3 (ArWC.b hok hB3) (ArWC.b hok' hB3)
      have B3 := bel_trans hB hB3
      obtain ⟨f0, f1, f2, f3, f4⟩ := F3.five
      obtain ⟨h0, h1, h2, h3, h4⟩ := G3.five
      have hA : Below wr.heap.size wr (wr.alloc (.cells #[.int .i64 (opC t), .string (nmC t), .string (soC t), .slice kk.a kk.n kk.c, .slice A M Cc] 25)) := bel_alloc (Below.refl _ _) _
      have v0 := (hA.cell hb').trans z0
      have v1 := (hA.cell hb').trans z1
      have v2 := (hA.cell hb').trans z2
      have v3 := (hA.cell hb').trans z3
      have v4 := (hA.cell hb').trans z4
      clear hx hx' hok hok' H1 H2 Hst HK hA
      generalize cmpC t u = Q at *
      generalize opC t = op at *
      generalize nmC t = nm at *
      generalize soC t = nu at *
      generalize opC u = op' at *
      generalize nmC u = nm' at *
      generalize soC u = nu' at *
      by_cases hQ : Q = 0
      · subst hQ
        have hnew : Hid (F (k + 1) = F 0) := by show _ = _; rw [← hR.out, hs1.out, zero_lex]
        clear hR hs1
        go_wp2_with (go_at_call 38; ((with_reducible refine cs.mono ?_); rintro e w4 ⟨rfl, hb4⟩))
        go_roundw
        case rel => exact ⟨_, k + 1, rfl, by omega, by go_num, bel_trans B3 hb4, hnew⟩
        case measure => simp [intOf]; omega
      · have hnew : Hid (Q = F 0) := by show _ = _; rw [← hR.out, hs1.out]; unfold lex; rw [if_pos hQ]
        have hq : (Q != 0) = true := by simpa using hQ
        clear hR hs1
        go_wp2_with (go_at_call 38; ((with_reducible refine cs.mono ?_); rintro e w4 ⟨rfl, hb4⟩))
        go_ret
        exact ⟨one hnew.out, bel_trans B3 hb4⟩
    · have hnew : Hid (0 = F 0) := by show _ = _; rw [← hR.out, He.out k (by omega)]
      clear hR
      go_wp2
      go_ret
      exact ⟨one hnew.out, hB⟩


theorem binds_any (o : Int) (s z : ByteArray) (k : SS) (a : Option Addr) (n c : Nat) (w : World) :
    Calls Tryz.prog 40 #[.agg #[.int .i64 o, .string s, .string z, .slice k.a k.n k.c, .slice a n c]] w fun e w' => e = .returned (.bool ((o == 11) || (o == 12))) ∧ Below w.heap.size w w' := by
  obtain ⟨W1, hW1, hB1, hs1, S1⟩ := cbox1 w o s z k a n c
  obtain ⟨s0, s1, s2, s3, s4⟩ := S1.five
  clear S1
  by_cases h1 : o = 11
  · subst h1
    go_enter Tryz.func40, Tryz.ntmps40
    go_wp2
    go_ret
    exact ⟨oneB (by decide), hB1⟩
  · have e1 : (o == 11) = false := by simpa using h1
    rw [e1]
    cases e2 : o == 12
    all_goals
      go_enter Tryz.func40, Tryz.ntmps40
      go_wp2
      go_ret
      exact ⟨rfl, hB1⟩
/-- what the comparison of names returns -/
def nmCmp (o : Int) (s s' : ByteArray) : Int := if ((o == 11) || (o == 12)) = true then 0 else cmpN s s'
theorem nmCmp_key {o : Int} {s s' : ByteArray} : nmCmp o s s' = cmpN (nmKey o s) (nmKey o s') := by
  unfold nmCmp nmKey
  by_cases h : o = 11 ∨ o = 12
  · have h2 : ((o == 11) || (o == 12)) = true := by rcases h with h | h <;> simp [h]
    rw [if_pos h2, if_pos h, if_pos h]
    exact ((linN.eq _ _).2 rfl).symm
  · have h2 : ¬ ((o == 11) || (o == 12)) = true := by simpa using h
    rw [if_neg h2, if_neg h, if_neg h]
set_option maxHeartbeats 1000000 in
theorem cmpNames_any (o : Int) (s z : ByteArray) (k : SS) (a : Option Addr) (n c : Nat) (o' : Int) (s' z' : ByteArray) (k' : SS) (a' : Option Addr) (n' c' : Nat) (w : World) :
    Calls Tryz.prog 64 #[.agg #[.int .i64 o, .string s, .string z, .slice k.a k.n k.c, .slice a n c], .agg #[.int .i64 o', .string s', .string z', .slice k'.a k'.n k'.c, .slice a' n' c']] w fun e w' => e = .returned (.int .i64 (nmCmp o s s')) ∧ Below w.heap.size w w' := by
  obtain ⟨W2, hW2, hB2, hs2, S2, T2⟩ := cbox2 w o s z k a n c o' s' z' k' a' n' c'
  obtain ⟨s0, s1, s2, s3, s4⟩ := S2.five
  have cB := binds_any o s z k a n c W2
  have HS := Lib.hid S2
  have HT := Lib.hid T2
  clear S2 T2
  unfold nmCmp
  cases hb : ((o == 11) || (o == 12))
  all_goals
    rw [hb] at cB
    clear hb
    go_enter Tryz.func64, Tryz.ntmps64
    go_wp2_with (first
      | (go_at_call 40; ((with_reducible refine cB.mono ?_); rintro e w3 ⟨rfl, hb3⟩; obtain ⟨u0, u1, u2, u3, u4⟩ := (CBox.b HS.out hb3).five; obtain ⟨v0, v1, v2, v3, v4⟩ := (CBox.b HT.out hb3).five))
      | (go_at_call 65; ((with_reducible refine (cmp_str _ _ _).mono ?_); rintro e w4 ⟨rfl, rfl⟩)))
    go_ret
    exact ⟨rfl, bel_trans hB2 hb3⟩
theorem lists_zero {n n' : Nat} (h : cmpI (n : Int) (n' : Int) = 0) : n = n' := by have := (linI.eq _ _).1 h; omega
set_option maxHeartbeats 1000000 in
theorem listsT_any (l l' : List Tm) (a : Option Addr) (n c : Nat) (a' : Option Addr) (n' c' : Nat) (w : World) (hT : TsW w a n c l) (hT' : TsW w a' n' c' l') :
    Calls Tryz.prog 66 #[.slice a n c, .slice a' n' c', .func (.func 67) #[] #[]] w fun e w' => e = .returned (.int .i64 (cmpTL l l')) ∧ Below w.heap.size w w' := by
  unfold cmpTL
  rw [show (l.length : Int) = (n : Int) by rw [hT.1], show (l'.length : Int) = (n' : Int) by rw [hT'.1]]
  by_cases h0 : cmpI (n : Int) (n' : Int) = 0
  · obtain rfl := lists_zero h0
    have cF := CompareFunc_of l (fun t _ => Compare_any t) a n c a' c' l' w hT hT'
    have hnew : Hid (cmpTs l l' = lex (cmpI (n : Int) (n : Int)) (cmpTs l l')) := by show _ = _; rw [h0, zero_lex]
    have cI := cmp_int (n : Int) (n : Int) w
    rw [h0] at cI
    clear hT hT' h0
    generalize cmpTs l l' = R at *
    go_enter Tryz.func66, Tryz.ntmps66
    go_wp2_with (first
      | (go_at_call 63; ((with_reducible refine cI.mono ?_); rintro e w4 ⟨rfl, rfl⟩))
      | (go_at_call 85; ((with_reducible refine cF.mono ?_); rintro e w5 ⟨rfl, hb5⟩)))
    go_ret
    exact ⟨one hnew.out, hb5⟩
  · have hnew : Hid (cmpI (n : Int) (n' : Int) = lex (cmpI (n : Int) (n' : Int)) (cmpTs l l')) := by show _ = _; unfold lex; rw [if_pos h0]
    have cI := cmp_int (n : Int) (n' : Int) w
    have hq : (cmpI (n : Int) (n' : Int) != 0) = true := by simpa using h0
    clear hT hT' h0
    generalize cmpI (n : Int) (n' : Int) = D at *
    generalize cmpTs l l' = R at *
    go_enter Tryz.func66, Tryz.ntmps66
    go_wp2_with (first
      | (go_at_call 63; ((with_reducible refine cI.mono ?_); rintro e w4 ⟨rfl, rfl⟩)))
    go_ret
    exact ⟨one hnew.out, Below.refl _ _⟩
set_option maxHeartbeats 1000000 in
theorem listsC_of (l : List Cl) (hok : ∀ t ∈ l, CmpOkC t) (l' : List Cl) (a : Option Addr) (n c : Nat) (a' : Option Addr) (n' c' : Nat) (w : World) (hT : CsW w a n c l) (hT' : CsW w a' n' c' l') :
    Calls Tryz.prog 68 #[.slice a n c, .slice a' n' c', .func (.func 38) #[] #[]] w fun e w' => e = .returned (.int .i64 (lex (cmpI l.length l'.length) (cmpCs l l'))) ∧ Below w.heap.size w w' := by
  rw [show (l.length : Int) = (n : Int) by rw [hT.1], show (l'.length : Int) = (n' : Int) by rw [hT'.1]]
  by_cases h0 : cmpI (n : Int) (n' : Int) = 0
  · obtain rfl := lists_zero h0
    have cF := CompareFuncC_of l hok a n c a' c' l' w hT hT'
    have hnew : Hid (cmpCs l l' = lex (cmpI (n : Int) (n : Int)) (cmpCs l l')) := by show _ = _; rw [h0, zero_lex]
    have cI := cmp_int (n : Int) (n : Int) w
    rw [h0] at cI
    clear hT hT' h0
    generalize cmpCs l l' = R at *
    go_enter Tryz.func68, Tryz.ntmps68
    go_wp2_with (first
      | (go_at_call 63; ((with_reducible refine cI.mono ?_); rintro e w4 ⟨rfl, rfl⟩))
      | (go_at_call 87; ((with_reducible refine cF.mono ?_); rintro e w5 ⟨rfl, hb5⟩)))
    go_ret
    exact ⟨one hnew.out, hb5⟩
  · have hnew : Hid (cmpI (n : Int) (n' : Int) = lex (cmpI (n : Int) (n' : Int)) (cmpCs l l')) := by show _ = _; unfold lex; rw [if_pos h0]
    have cI := cmp_int (n : Int) (n' : Int) w
    have hq : (cmpI (n : Int) (n' : Int) != 0) = true := by simpa using h0
    clear hT hT' h0
    generalize cmpI (n : Int) (n' : Int) = D at *
    generalize cmpCs l l' = R at *
    go_enter Tryz.func68, Tryz.ntmps68
    go_wp2_with (first
      | (go_at_call 63; ((with_reducible refine cI.mono ?_); rintro e w4 ⟨rfl, rfl⟩)))
    go_ret
    exact ⟨one hnew.out, Below.refl _ _⟩
end Go.Proofs.YtjjoebijkcmgiaaGreat.C
