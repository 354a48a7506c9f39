/-
  What is proved: what package claim's Compare and Same return: the order of claims, up to the names of binders.
  What is proved: what package claim's Compare and Same return.
  What is proved: SameC_any (taken out of ClmCp, for seats without that function).
-/
import Derived.Test.YtnhemglpbhnmdaaGreatBC
import Derived.Test.YtnhemglpbhnmdaaGreatBT
import Derived.Deep.RegionHeld3
namespace Go.Proofs.YtnhemglpbhnmdaaGreat.C
open Go.RowKit L T
set_option linter.unusedVariables false
set_option linter.unusedSimpArgs false

def CmpOkC (t : Cl) : Prop := ∀ (u : Cl) (k : SS) (a : Option Addr) (n c : Nat) (k' : SS) (a' : Option Addr) (n' c' : Nat) (w : World), ArWC w t k a n c → ArWC w u k' a' n' c' →
  Calls Tryz.prog 121 #[.agg #[.int .i64 (opC t), .string (nmC t), .string (soC t), .slice k.a k.n k.c, .slice a n c], .agg #[.int .i64 (opC u), .string (nmC u), .string (soC u), .slice k'.a k'.n k'.c, .slice a' n' c']] w fun e w' => e = .returned (.int .i64 (cmpC t u)) ∧ Below w.heap.size w w'

set_option maxRecDepth 100000 in
set_option maxHeartbeats 4000000 in
theorem CompareFuncC_of (l : List Cl) (hok : ∀ t ∈ l, CmpOkC t) (b : Option Addr) (m d : Nat) (b' : Option Addr) (d' : Nat) (l' : List Cl) (w : World) (hG : CsW w b m d l) (hG' : CsW w b' m d' l') :
    Calls Tryz.prog 177 #[.slice b m d, .slice b' m d', .func (.func 121) #[] #[]] w fun e w' => e = .returned (.int .i64 (cmpCs l l')) ∧ Below w.heap.size w w' := by
  have hst : ∀ k (f g : Cl), l[k]? = some f → l'[k]? = some g → cmpCs (l.drop k) (l'.drop k) = lex (cmpC f g) (cmpCs (l.drop (k + 1)) (l'.drop (k + 1))) := fun k f g h h2 => by rw [drop_c h, drop_c h2, cmpCs]
  have he : ∀ k, m ≤ k → cmpCs (l.drop k) (l'.drop k) = 0 := fun k h => by
    rw [List.drop_eq_nil_of_le (by rw [← hG.1]; exact h), cmpCs]
  have h0 : cmpCs l l' = cmpCs (l.drop 0) (l'.drop 0) := rfl
  have hk2 : ∀ k f, l[k]? = some f → CmpOkC f := fun k f h => hok f (List.mem_of_getElem? h)
  have hm : m ≤ 9223372036854775807 := by have h1 := hG.2.1; have h2 := hG.2.2.1; unfold maxLen at h2; omega
  rw [h0]
  obtain ⟨F, hF⟩ : ∃ F : Nat → Int, ∀ k, cmpCs (l.drop k) (l'.drop k) = F k := ⟨_, fun _ => rfl⟩
  simp only [hF] at hst he ⊢
  clear hF h0 hok
  have H1 := Lib.hid hG
  have H2 := Lib.hid hG'
  have Hst := Lib.hid hst
  have He := Lib.hid he
  have HK := Lib.hid hk2
  clear hG hG' hst he hk2
  go_enter Tryz.func177, Tryz.ntmps177
  go_wp2
  go_loopw [13] (fun i wr0 => ∃ (wr : World) (k : Nat), wr = wr0 ∧ k ≤ m ∧ i = .int .i64 k ∧ Below w.heap.size w wr ∧ Hid (F k = F 0)) (fun i _ => m - (intOf i).toNat)
  case atStart => exact ⟨_, 0, rfl, by omega, rfl, Below.refl _ _, Lib.hid rfl⟩
  case round =>
    obtain ⟨wr, k, rfl, hk, rfl, hB, hR⟩ := hrel
    by_cases hlt : k < m
    · obtain ⟨bb, o, t, kk, A, M, Cc, rfl, hb, y0, y1, y2, y3, y4, hx, hok⟩ := (CsW.b H1.out hB).at hlt
      obtain ⟨bb', o', u, kk', A', M', Cc', rfl, hb', z0, z1, z2, z3, z4, hx', hok'⟩ := (CsW.b H2.out hB).at hlt
      have hs1 := Lib.hid (Hst.out k t u hx hx')
      have hk0 : 0 ≤ (k : Int) := by omega
      have hk1 : (k : Int) < (m : Int) := by omega
      have hk2 : ¬ (m : Int) ≤ (k : Int) := by omega
      obtain ⟨W3, hW3, hB3, hs3, F3, G3⟩ := cbox2 wr (opC t) (nmC t) (soC t) kk A M Cc (opC u) (nmC u) (soC u) kk' A' M' Cc'
      have cs := HK.out k t hx u kk A M Cc kk' A' M' Cc' W3 (ArWC.b hok hB3) (ArWC.b hok' hB3)
      have B3 := bel_trans hB hB3
      obtain ⟨f0, f1, f2, f3, f4⟩ := F3.five
      obtain ⟨h0, h1, h2, h3, h4⟩ := G3.five
      have hA : Below wr.heap.size wr (wr.alloc (.cells #[.int .i64 (opC t), .string (nmC t), .string (soC t), .slice kk.a kk.n kk.c, .slice A M Cc] 25)) := bel_alloc (Below.refl _ _) _
      have v0 := (hA.cell hb').trans z0
      have v1 := (hA.cell hb').trans z1
      have v2 := (hA.cell hb').trans z2
      have v3 := (hA.cell hb').trans z3
      have v4 := (hA.cell hb').trans z4
      clear hx hx' hok hok' H1 H2 Hst HK hA
      generalize cmpC t u = Q at *
      generalize opC t = op at *
      generalize nmC t = nm at *
      generalize soC t = nu at *
      generalize opC u = op' at *
      generalize nmC u = nm' at *
      generalize soC u = nu' at *
      by_cases hQ : Q = 0
      · subst hQ
        have hnew : Hid (F (k + 1) = F 0) := by show _ = _; rw [← hR.out, hs1.out, zero_lex]
        clear hR hs1
        go_wp2_with (go_at_call 121; ((with_reducible refine cs.mono ?_); rintro e w4 ⟨rfl, hb4⟩))
        go_roundw
        case rel => exact ⟨_, k + 1, rfl, by omega, by go_num, bel_trans B3 hb4, hnew⟩
        case measure => simp [intOf]; omega
      · have hnew : Hid (Q = F 0) := by show _ = _; rw [← hR.out, hs1.out]; unfold lex; rw [if_pos hQ]
        have hq : (Q != 0) = true := by simpa using hQ
        clear hR hs1
        go_wp2_with (go_at_call 121; ((with_reducible refine cs.mono ?_); rintro e w4 ⟨rfl, hb4⟩))
        go_ret
        exact ⟨one hnew.out, bel_trans B3 hb4⟩
    · have hnew : Hid (0 = F 0) := by show _ = _; rw [← hR.out, He.out k (by omega)]
      clear hR
      go_wp2
      go_ret
      exact ⟨one hnew.out, hB⟩


theorem binds_any (o : Int) (s z : ByteArray) (k : SS) (a : Option Addr) (n c : Nat) (w : World) :
    Calls Tryz.prog 104 #[.agg #[.int .i64 o, .string s, .string z, .slice k.a k.n k.c, .slice a n c]] w fun e w' => e = .returned (.bool ((o == 11) || (o == 12))) ∧ Below w.heap.size w w' := by
  obtain ⟨W1, hW1, hB1, hs1, S1⟩ := cbox1 w o s z k a n c
  obtain ⟨s0, s1, s2, s3, s4⟩ := S1.five
  clear S1
  by_cases h1 : o = 11
  · subst h1
    go_enter Tryz.func104, Tryz.ntmps104
    go_wp2
    go_ret
    exact ⟨oneB (by decide), hB1⟩
  · have e1 : (o == 11) = false := by simpa using h1
    rw [e1]
    cases e2 : o == 12
    all_goals
      go_enter Tryz.func104, Tryz.ntmps104
      go_wp2
      go_ret
      exact ⟨rfl, hB1⟩
/-- what the comparison of names returns -/
def nmCmp (o : Int) (s s' : ByteArray) : Int := if ((o == 11) || (o == 12)) = true then 0 else cmpN s s'
theorem nmCmp_key {o : Int} {s s' : ByteArray} : nmCmp o s s' = cmpN (nmKey o s) (nmKey o s') := by
  unfold nmCmp nmKey
  by_cases h : o = 11 ∨ o = 12
  · have h2 : ((o == 11) || (o == 12)) = true := by rcases h with h | h <;> simp [h]
    rw [if_pos h2, if_pos h, if_pos h]
    exact ((linN.eq _ _).2 rfl).symm
  · have h2 : ¬ ((o == 11) || (o == 12)) = true := by simpa using h
    rw [if_neg h2, if_neg h, if_neg h]
set_option maxHeartbeats 1000000 in
theorem cmpNames_any (o : Int) (s z : ByteArray) (k : SS) (a : Option Addr) (n c : Nat) (o' : Int) (s' z' : ByteArray) (k' : SS) (a' : Option Addr) (n' c' : Nat) (w : World) :
    Calls Tryz.prog 155 #[.agg #[.int .i64 o, .string s, .string z, .slice k.a k.n k.c, .slice a n c], .agg #[.int .i64 o', .string s', .string z', .slice k'.a k'.n k'.c, .slice a' n' c']] w fun e w' => e = .returned (.int .i64 (nmCmp o s s')) ∧ Below w.heap.size w w' := by
  obtain ⟨W2, hW2, hB2, hs2, S2, T2⟩ := cbox2 w o s z k a n c o' s' z' k' a' n' c'
  obtain ⟨s0, s1, s2, s3, s4⟩ := S2.five
  have cB := binds_any o s z k a n c W2
  have HS := Lib.hid S2
  have HT := Lib.hid T2
  clear S2 T2
  unfold nmCmp
  cases hb : ((o == 11) || (o == 12))
  all_goals
    rw [hb] at cB
    clear hb
    go_enter Tryz.func155, Tryz.ntmps155
    go_wp2_with (first
      | (go_at_call 104; ((with_reducible refine cB.mono ?_); rintro e w3 ⟨rfl, hb3⟩; obtain ⟨u0, u1, u2, u3, u4⟩ := (CBox.b HS.out hb3).five; obtain ⟨v0, v1, v2, v3, v4⟩ := (CBox.b HT.out hb3).five))
      | (go_at_call 109; ((with_reducible refine (cmp_str _ _ _).mono ?_); rintro e w4 ⟨rfl, rfl⟩)))
    go_ret
    exact ⟨rfl, bel_trans hB2 hb3⟩
theorem lists_zero {n n' : Nat} (h : cmpI (n : Int) (n' : Int) = 0) : n = n' := by have := (linI.eq _ _).1 h; omega
set_option maxHeartbeats 1000000 in
theorem listsT_any (l l' : List Tm) (a : Option Addr) (n c : Nat) (a' : Option Addr) (n' c' : Nat) (w : World) (hT : TsW w a n c l) (hT' : TsW w a' n' c' l') :
    Calls Tryz.prog 156 #[.slice a n c, .slice a' n' c', .func (.func 122) #[] #[]] w fun e w' => e = .returned (.int .i64 (cmpTL l l')) ∧ Below w.heap.size w w' := by
  unfold cmpTL
  rw [show (l.length : Int) = (n : Int) by rw [hT.1], show (l'.length : Int) = (n' : Int) by rw [hT'.1]]
  by_cases h0 : cmpI (n : Int) (n' : Int) = 0
  · obtain rfl := lists_zero h0
    have cF := CompareFunc_of l (fun t _ => Compare_any t) a n c a' c' l' w hT hT'
    have hnew : Hid (cmpTs l l' = lex (cmpI (n : Int) (n : Int)) (cmpTs l l')) := by show _ = _; rw [h0, zero_lex]
    have cI := cmp_int (n : Int) (n : Int) w
    rw [h0] at cI
    clear hT hT' h0
    generalize cmpTs l l' = R at *
    go_enter Tryz.func156, Tryz.ntmps156
    go_wp2_with (first
      | (go_at_call 154; ((with_reducible refine cI.mono ?_); rintro e w4 ⟨rfl, rfl⟩))
      | (go_at_call 159; ((with_reducible refine cF.mono ?_); rintro e w5 ⟨rfl, hb5⟩)))
    go_ret
    exact ⟨one hnew.out, hb5⟩
  · have hnew : Hid (cmpI (n : Int) (n' : Int) = lex (cmpI (n : Int) (n' : Int)) (cmpTs l l')) := by show _ = _; unfold lex; rw [if_pos h0]
    have cI := cmp_int (n : Int) (n' : Int) w
    have hq : (cmpI (n : Int) (n' : Int) != 0) = true := by simpa using h0
    clear hT hT' h0
    generalize cmpI (n : Int) (n' : Int) = D at *
    generalize cmpTs l l' = R at *
    go_enter Tryz.func156, Tryz.ntmps156
    go_wp2_with (first
      | (go_at_call 154; ((with_reducible refine cI.mono ?_); rintro e w4 ⟨rfl, rfl⟩)))
    go_ret
    exact ⟨one hnew.out, Below.refl _ _⟩
set_option maxHeartbeats 1000000 in
theorem listsC_of (l : List Cl) (hok : ∀ t ∈ l, CmpOkC t) (l' : List Cl) (a : Option Addr) (n c : Nat) (a' : Option Addr) (n' c' : Nat) (w : World) (hT : CsW w a n c l) (hT' : CsW w a' n' c' l') :
    Calls Tryz.prog 157 #[.slice a n c, .slice a' n' c', .func (.func 121) #[] #[]] w fun e w' => e = .returned (.int .i64 (lex (cmpI l.length l'.length) (cmpCs l l'))) ∧ Below w.heap.size w w' := by
  rw [show (l.length : Int) = (n : Int) by rw [hT.1], show (l'.length : Int) = (n' : Int) by rw [hT'.1]]
  by_cases h0 : cmpI (n : Int) (n' : Int) = 0
  · obtain rfl := lists_zero h0
    have cF := CompareFuncC_of l hok a n c a' c' l' w hT hT'
    have hnew : Hid (cmpCs l l' = lex (cmpI (n : Int) (n : Int)) (cmpCs l l')) := by show _ = _; rw [h0, zero_lex]
    have cI := cmp_int (n : Int) (n : Int) w
    rw [h0] at cI
    clear hT hT' h0
    generalize cmpCs l l' = R at *
    go_enter Tryz.func157, Tryz.ntmps157
    go_wp2_with (first
      | (go_at_call 154; ((with_reducible refine cI.mono ?_); rintro e w4 ⟨rfl, rfl⟩))
      | (go_at_call 177; ((with_reducible refine cF.mono ?_); rintro e w5 ⟨rfl, hb5⟩)))
    go_ret
    exact ⟨one hnew.out, hb5⟩
  · have hnew : Hid (cmpI (n : Int) (n' : Int) = lex (cmpI (n : Int) (n' : Int)) (cmpCs l l')) := by show _ = _; unfold lex; rw [if_pos h0]
    have cI := cmp_int (n : Int) (n' : Int) w
    have hq : (cmpI (n : Int) (n' : Int) != 0) = true := by simpa using h0
    clear hT hT' h0
    generalize cmpI (n : Int) (n' : Int) = D at *
    generalize cmpCs l l' = R at *
    go_enter Tryz.func157, Tryz.ntmps157
    go_wp2_with (first
      | (go_at_call 154; ((with_reducible refine cI.mono ?_); rintro e w4 ⟨rfl, rfl⟩)))
    go_ret
    exact ⟨one hnew.out, Below.refl _ _⟩
end Go.Proofs.YtnhemglpbhnmdaaGreat.C
namespace Go.Proofs.YtnhemglpbhnmdaaGreat.C
open Go.RowKit L T
set_option linter.unusedVariables false
set_option linter.unusedSimpArgs false

def Three (w : World) (g : Nat) (x0 x1 x2 : Int) : Prop := Blk w g #[.int .i64 x0, .int .i64 x1, .int .i64 x2] 3
theorem or_three (g : Nat) (x0 x1 x2 : Int) (w : World) (h : Three w g x0 x1 x2) :
    Calls Tryz.prog 153 #[.slice (some ⟨g, 0, none⟩) 3 3] w fun e w' => e = .returned (.int .i64 (lex x0 (lex x1 x2))) ∧ w = w' := by
  have c0 := Blk.cell h 0
  have c1 := Blk.cell h 1
  have c2 := Blk.cell h 2
  have hr : Hid (lex x0 (lex x1 x2) = if x0 ≠ 0 then x0 else if x1 ≠ 0 then x1 else x2) := rfl
  generalize lex x0 (lex x1 x2) = R at *
  clear h
  by_cases h0 : x0 = 0
  · subst h0
    by_cases h1 : x1 = 0
    · subst h1
      by_cases h2 : x2 = 0
      · subst h2
        have hR : Hid ((0 : Int) = R) := by show _ = _; rw [hr.out]; simp
        clear hr
        go_enter Tryz.func153, Tryz.ntmps153
        go_wp2
        refine wp_loop_rounds 4 ?_
        rw [rounds_succ]; go_wp2
        rw [rounds_succ]; go_wp2
        rw [rounds_succ]; go_wp2
        rw [rounds_succ]; go_wp2
        go_ret
        exact ⟨one hR.out, rfl⟩
      · have hR : Hid (x2 = R) := by show _ = _; rw [hr.out]; simp
        have hb : (x2 != 0) = true := by simpa using h2
        clear hr
        go_enter Tryz.func153, Tryz.ntmps153
        go_wp2
        refine wp_loop_rounds 3 ?_
        rw [rounds_succ]; go_wp2
        rw [rounds_succ]; go_wp2
        rw [rounds_succ]; go_wp2
        go_ret
        exact ⟨one hR.out, rfl⟩
    · have hR : Hid (x1 = R) := by show _ = _; rw [hr.out]; simp [h1]
      have hb : (x1 != 0) = true := by simpa using h1
      clear hr
      go_enter Tryz.func153, Tryz.ntmps153
      go_wp2
      refine wp_loop_rounds 2 ?_
      rw [rounds_succ]; go_wp2
      rw [rounds_succ]; go_wp2
      go_ret
      exact ⟨one hR.out, rfl⟩
  · have hR : Hid (x0 = R) := by show _ = _; rw [hr.out]; simp [h0]
    have hb : (x0 != 0) = true := by simpa using h0
    clear hr
    go_enter Tryz.func153, Tryz.ntmps153
    go_wp2
    refine wp_loop_rounds 1 ?_
    rw [rounds_succ]; go_wp2
    go_ret
    exact ⟨one hR.out, rfl⟩
theorem cmpC_code (t u : Cl) : cmpC t u = lex (lex (cmpI (opC t) (opC u)) (lex (nmCmp (opC t) (nmC t) (nmC u)) (cmpN (soC t) (soC u)))) (lex (cmpTL (tsC t) (tsC u)) (lex (cmpI (subC t).length (subC u).length) (cmpCs (subC t) (subC u)))) := by
  rw [cmpC_mk, lex_assoc, lex_assoc]
  by_cases h : cmpI (opC t) (opC u) = 0
  · rw [(linI.eq _ _).1 h, nmCmp_key]
  · have e : ∀ y z : Int, lex (cmpI (opC t) (opC u)) y = lex (cmpI (opC t) (opC u)) z := fun y z => by unfold lex; rw [if_pos h, if_pos h]
    exact e _ _
set_option maxRecDepth 100000 in
set_option maxHeartbeats 8000000 in
theorem CompareC_step (t : Cl) (hok : ∀ x ∈ subC t, CmpOkC x) : CmpOkC t := by
  intro u k a n c k' a' n' c' w hA hA'
  obtain ⟨W2, hW2, hB2, hs2, S2, T2⟩ := cbox2 w (opC t) (nmC t) (soC t) k a n c (opC u) (nmC u) (soC u) k' a' n' c'
  rw [cmpC_code]
  have cT := fun (w' : World) (hb : Below W2.heap.size W2 w') => listsT_any (tsC t) (tsC u) k.a k.n k.c k'.a k'.n k'.c w' (TsW.b (ArWC.terms (ArWC.b hA hB2)) hb) (TsW.b (ArWC.terms (ArWC.b hA' hB2)) hb)
  have cL := fun (w' : World) (hb : Below W2.heap.size W2 w') => listsC_of (subC t) hok (subC u) a n c a' n' c' w' (CsW.b (ArWC.subs (ArWC.b hA hB2)) hb) (CsW.b (ArWC.subs (ArWC.b hA' hB2)) hb)
  have cN := fun (w' : World) => cmpNames_any (opC t) (nmC t) (soC t) k a n c (opC u) (nmC u) (soC u) k' a' n' c' w'
  clear hA hA' hok
  have lS := Blk.lt S2
  have lT := Blk.lt T2
  obtain ⟨s0, s1, s2, s3, s4⟩ := S2.five
  obtain ⟨t0, t1, t2, t3, t4⟩ := T2.five
  have HS := Lib.hid S2
  have HT := Lib.hid T2
  clear S2 T2
  generalize lex (cmpI (subC t).length (subC u).length) (cmpCs (subC t) (subC u)) = R at *
  generalize cmpTL (tsC t) (tsC u) = Q at *
  generalize opC t = op at *
  generalize nmC t = nm at *
  generalize soC t = so at *
  generalize opC u = op' at *
  generalize nmC u = nm' at *
  generalize soC u = so' at *
  have cI := fun (w : World) => cmp_int op op' w
  have cS := fun (w : World) => cmp_str so so' w
  generalize hx0 : cmpI op op' = x0 at *
  generalize hx1 : nmCmp op nm nm' = x1 at *
  generalize hx2 : cmpN so so' = x2 at *
  clear hx0 hx1 hx2
  have cO := fun (w0 : World) => or_three w0.heap.size x0 x1 x2 (w0.alloc (.cells #[.int .i64 x0, .int .i64 x1, .int .i64 x2] 3)) (Blk.new w0 _ _)
  generalize lex x0 (lex x1 x2) = D at *
  have hBd : Below W2.heap.size W2 W2.drew := (Below.refl _ _).drew
  have E1 : Hid (D ≠ 0 → D = lex D (lex Q R)) := fun h => by unfold lex; rw [if_pos h]
  have E2 : Hid (D = 0 → Q ≠ 0 → Q = lex D (lex Q R)) := fun h h2 => by rw [h, zero_lex]; unfold lex; rw [if_pos h2]
  have E3 : Hid (D = 0 → Q = 0 → R = lex D (lex Q R)) := fun h h2 => by rw [h, h2, zero_lex, zero_lex]
  generalize lex D (lex Q R) = V at *
  by_cases hD : D = 0
  · by_cases hQ : Q = 0
    · have hV := E3.out hD hQ
      subst hD hQ hV
      clear E1 E2 E3
      go_enter Tryz.func121, Tryz.ntmps121
      go_wp2_with fail
      go_region_held3 (fun w' => w'.cell? ⟨w.heap.size, 0, none⟩ = some (.int .i64 op) ∧ w'.cell? ⟨w.heap.size, 1, none⟩ = some (.string nm) ∧ w'.cell? ⟨w.heap.size, 2, none⟩ = some (.string so) ∧ w'.cell? ⟨w.heap.size, 3, none⟩ = some (.slice k.a k.n k.c) ∧ w'.cell? ⟨w.heap.size, 4, none⟩ = some (.slice a n c) ∧ w'.cell? ⟨w.heap.size + 1, 0, none⟩ = some (.int .i64 op') ∧ w'.cell? ⟨w.heap.size + 1, 1, none⟩ = some (.string nm') ∧ w'.cell? ⟨w.heap.size + 1, 2, none⟩ = some (.string so') ∧ w'.cell? ⟨w.heap.size + 1, 3, none⟩ = some (.slice k'.a k'.n k'.c) ∧ w'.cell? ⟨w.heap.size + 1, 4, none⟩ = some (.slice a' n' c'))
        (first | (exact ⟨(Bz.cell lS).trans s0, (Bz.cell lS).trans s1, (Bz.cell lS).trans s2, (Bz.cell lS).trans s3, (Bz.cell lS).trans s4, (Bz.cell lT).trans t0, (Bz.cell lT).trans t1, (Bz.cell lT).trans t2, (Bz.cell lT).trans t3, (Bz.cell lT).trans t4⟩) | go_keep)
        (first
          | (go_at_call 154; ((with_reducible refine (cI _).mono ?_); rintro e w4 ⟨rfl, rfl⟩))
          | (go_at_call 109; ((with_reducible refine (cS _).mono ?_); rintro e w4 ⟨rfl, rfl⟩))
          | (go_at_call 155; ((with_reducible refine (cN _).mono ?_); rintro e w4 ⟨rfl, hb4⟩; have Bz : Below W2.heap.size W2 w4 := bel_trans (a := W2) hBd hb4))
          | (go_at_call 153; ((with_reducible refine (cO _).mono ?_); rintro e w5 ⟨rfl, hw5⟩; have BF : Below W2.heap.size W2 w5 := (by rw [← hw5]; exact bel_alloc Bz _); obtain ⟨u0, u1, u2, u3, u4⟩ := (CBox.b HS.out BF).five; obtain ⟨v0, v1, v2, v3, v4⟩ := (CBox.b HT.out BF).five)))
      all_goals go_wp2_with (first
        | (go_at_call 156; ((with_reducible refine (cT _ BF).mono ?_); rintro e w6 ⟨rfl, hb6⟩; have B6 := bel_trans BF hb6; obtain ⟨m0, m1, m2, m3, m4⟩ := (CBox.b HS.out B6).five; obtain ⟨n0, n1, n2, n3, n4⟩ := (CBox.b HT.out B6).five))
        | (go_at_call 157; ((with_reducible refine (cL _ B6).mono ?_); rintro e w7 ⟨rfl, hb7⟩)))
      all_goals go_ret
      all_goals exact ⟨rfl, bel_trans hB2 (bel_trans B6 hb7)⟩
    · have hV := E2.out hD hQ
      have hq : (Q != 0) = true := by simpa using hQ
      subst hD
      have HV := Lib.hid hV
      clear E1 E2 E3 hV hQ
      go_enter Tryz.func121, Tryz.ntmps121
      go_wp2_with fail
      go_region_held3 (fun w' => w'.cell? ⟨w.heap.size, 0, none⟩ = some (.int .i64 op) ∧ w'.cell? ⟨w.heap.size, 1, none⟩ = some (.string nm) ∧ w'.cell? ⟨w.heap.size, 2, none⟩ = some (.string so) ∧ w'.cell? ⟨w.heap.size, 3, none⟩ = some (.slice k.a k.n k.c) ∧ w'.cell? ⟨w.heap.size, 4, none⟩ = some (.slice a n c) ∧ w'.cell? ⟨w.heap.size + 1, 0, none⟩ = some (.int .i64 op') ∧ w'.cell? ⟨w.heap.size + 1, 1, none⟩ = some (.string nm') ∧ w'.cell? ⟨w.heap.size + 1, 2, none⟩ = some (.string so') ∧ w'.cell? ⟨w.heap.size + 1, 3, none⟩ = some (.slice k'.a k'.n k'.c) ∧ w'.cell? ⟨w.heap.size + 1, 4, none⟩ = some (.slice a' n' c'))
        (first | (exact ⟨(Bz.cell lS).trans s0, (Bz.cell lS).trans s1, (Bz.cell lS).trans s2, (Bz.cell lS).trans s3, (Bz.cell lS).trans s4, (Bz.cell lT).trans t0, (Bz.cell lT).trans t1, (Bz.cell lT).trans t2, (Bz.cell lT).trans t3, (Bz.cell lT).trans t4⟩) | go_keep)
        (first
          | (go_at_call 154; ((with_reducible refine (cI _).mono ?_); rintro e w4 ⟨rfl, rfl⟩))
          | (go_at_call 109; ((with_reducible refine (cS _).mono ?_); rintro e w4 ⟨rfl, rfl⟩))
          | (go_at_call 155; ((with_reducible refine (cN _).mono ?_); rintro e w4 ⟨rfl, hb4⟩; have Bz : Below W2.heap.size W2 w4 := bel_trans (a := W2) hBd hb4))
          | (go_at_call 153; ((with_reducible refine (cO _).mono ?_); rintro e w5 ⟨rfl, hw5⟩; have BF : Below W2.heap.size W2 w5 := (by rw [← hw5]; exact bel_alloc Bz _); obtain ⟨u0, u1, u2, u3, u4⟩ := (CBox.b HS.out BF).five; obtain ⟨v0, v1, v2, v3, v4⟩ := (CBox.b HT.out BF).five)))
      all_goals go_wp2_with (first
        | (go_at_call 156; ((with_reducible refine (cT _ BF).mono ?_); rintro e w6 ⟨rfl, hb6⟩; have B6 := bel_trans BF hb6)))
      all_goals go_ret
      all_goals exact ⟨one HV.out, bel_trans hB2 B6⟩
  · have hV := E1.out hD
    have hq : (D != 0) = true := by simpa using hD
    have HV := Lib.hid hV
    clear E1 E2 E3 hV hD
    go_enter Tryz.func121, Tryz.ntmps121
    go_wp2_with fail
    go_region_held3 (fun w' => w'.cell? ⟨w.heap.size, 0, none⟩ = some (.int .i64 op) ∧ w'.cell? ⟨w.heap.size, 1, none⟩ = some (.string nm) ∧ w'.cell? ⟨w.heap.size, 2, none⟩ = some (.string so) ∧ w'.cell? ⟨w.heap.size, 3, none⟩ = some (.slice k.a k.n k.c) ∧ w'.cell? ⟨w.heap.size, 4, none⟩ = some (.slice a n c) ∧ w'.cell? ⟨w.heap.size + 1, 0, none⟩ = some (.int .i64 op') ∧ w'.cell? ⟨w.heap.size + 1, 1, none⟩ = some (.string nm') ∧ w'.cell? ⟨w.heap.size + 1, 2, none⟩ = some (.string so') ∧ w'.cell? ⟨w.heap.size + 1, 3, none⟩ = some (.slice k'.a k'.n k'.c) ∧ w'.cell? ⟨w.heap.size + 1, 4, none⟩ = some (.slice a' n' c'))
      (first | (exact ⟨(Bz.cell lS).trans s0, (Bz.cell lS).trans s1, (Bz.cell lS).trans s2, (Bz.cell lS).trans s3, (Bz.cell lS).trans s4, (Bz.cell lT).trans t0, (Bz.cell lT).trans t1, (Bz.cell lT).trans t2, (Bz.cell lT).trans t3, (Bz.cell lT).trans t4⟩) | go_keep)
      (first
        | (go_at_call 154; ((with_reducible refine (cI _).mono ?_); rintro e w4 ⟨rfl, rfl⟩))
        | (go_at_call 109; ((with_reducible refine (cS _).mono ?_); rintro e w4 ⟨rfl, rfl⟩))
        | (go_at_call 155; ((with_reducible refine (cN _).mono ?_); rintro e w4 ⟨rfl, hb4⟩; have Bz : Below W2.heap.size W2 w4 := bel_trans (a := W2) hBd hb4))
        | (go_at_call 153; ((with_reducible refine (cO _).mono ?_); rintro e w5 ⟨rfl, hw5⟩; have BF : Below W2.heap.size W2 w5 := (by rw [← hw5]; exact bel_alloc Bz _); obtain ⟨u0, u1, u2, u3, u4⟩ := (CBox.b HS.out BF).five; obtain ⟨v0, v1, v2, v3, v4⟩ := (CBox.b HT.out BF).five)))
    all_goals go_wp2
    all_goals go_ret
    all_goals exact ⟨one HV.out, bel_trans hB2 BF⟩
theorem CompareC_any (t : Cl) : CmpOkC t := Cl.ind CompareC_step t
end Go.Proofs.YtnhemglpbhnmdaaGreat.C
namespace Go.Proofs.YtnhemglpbhnmdaaGreat.C
open Go.RowKit L T
set_option linter.unusedVariables false
set_option linter.unusedSimpArgs false

set_option maxHeartbeats 1000000 in
theorem SameC_any (t u : Cl) (k : SS) (a : Option Addr) (n c : Nat) (k' : SS) (a' : Option Addr) (n' c' : Nat) (w : World) (hA : ArWC w t k a n c) (hA' : ArWC w u k' a' n' c') :
    Calls Tryz.prog 70 #[.agg #[.int .i64 (opC t), .string (nmC t), .string (soC t), .slice k.a k.n k.c, .slice a n c], .agg #[.int .i64 (opC u), .string (nmC u), .string (soC u), .slice k'.a k'.n k'.c, .slice a' n' c']] w fun e w' => e = .returned (.bool (eqC t u)) ∧ Below w.heap.size w w' := by
  obtain ⟨W2, hW2, hB2, hs2, S2, T2⟩ := cbox2 w (opC t) (nmC t) (soC t) k a n c (opC u) (nmC u) (soC u) k' a' n' c'
  have cC := CompareC_any t u k a n c k' a' n' c' W2 (ArWC.b hA hB2) (ArWC.b hA' hB2)
  rw [eqC_cmp]
  obtain ⟨s0, s1, s2, s3, s4⟩ := S2.five
  obtain ⟨t0, t1, t2, t3, t4⟩ := T2.five
  clear hA hA' S2 T2
  generalize cmpC t u = R at *
  generalize opC t = op at *
  generalize nmC t = nm at *
  generalize soC t = so at *
  generalize opC u = op' at *
  generalize nmC u = nm' at *
  generalize soC u = so' at *
  go_enter Tryz.func70, Tryz.ntmps70
  go_wp2_with (go_at_call 121; ((with_reducible refine cC.mono ?_); rintro e w3 ⟨rfl, hb3⟩))
  go_ret
  exact ⟨rfl, bel_trans hB2 hb3⟩
end Go.Proofs.YtnhemglpbhnmdaaGreat.C
