/-
  What is proved: what package claim's Compare and Same return: the order of claims, up to the names of binders.
  What is proved: what package claim's Compare and Same return.
  What is proved: package tree's two closures over a list of claims, which compare the claims at two places.
  What is proved: the library's insertion sort of a row of places, by the comparison of the terms at them.
  What is proved: the library's stable sort of fewer than twenty places; its CompactFunc where no two neighbours are alike.
-/
import Derived.Test.YtjjfbgadpgckeaaGreatBC
import Derived.Test.YtjjfbgadpgckeaaGreatBT
import Derived.Deep.RegionHeld3
namespace Go.Proofs.YtjjfbgadpgckeaaGreat.C
open Go.RowKit L T
set_option linter.unusedVariables false
set_option linter.unusedSimpArgs false

def CmpOkC (t : Cl) : Prop := ∀ (u : Cl) (k : SS) (a : Option Addr) (n c : Nat) (k' : SS) (a' : Option Addr) (n' c' : Nat) (w : World), ArWC w t k a n c → ArWC w u k' a' n' c' →
  Calls Tryz.prog 53 #[.agg #[.int .i64 (opC t), .string (nmC t), .string (soC t), .slice k.a k.n k.c, .slice a n c], .agg #[.int .i64 (opC u), .string (nmC u), .string (soC u), .slice k'.a k'.n k'.c, .slice a' n' c']] w fun e w' => e = .returned (.int .i64 (cmpC t u)) ∧ Below w.heap.size w w'

set_option maxRecDepth 100000 in
set_option maxHeartbeats 4000000 in
theorem CompareFuncC_of (l : List Cl) (hok : ∀ t ∈ l, CmpOkC t) (b : Option Addr) (m d : Nat) (b' : Option Addr) (d' : Nat) (l' : List Cl) (w : World) (hG : CsW w b m d l) (hG' : CsW w b' m d' l') :
    Calls Tryz.prog 114 #[.slice b m d, .slice b' m d', .func (.func 53) #[] #[]] w fun e w' => e = .returned (.int .i64 (cmpCs l l')) ∧ Below w.heap.size w w' := by
  have hst : ∀ k (f g : Cl), l[k]? = some f → l'[k]? = some g → cmpCs (l.drop k) (l'.drop k) = lex (cmpC f g) (cmpCs (l.drop (k + 1)) (l'.drop (k + 1))) := fun k f g h h2 => by rw [drop_c h, drop_c h2, cmpCs]
  have he : ∀ k, m ≤ k → cmpCs (l.drop k) (l'.drop k) = 0 := fun k h => by
    rw [List.drop_eq_nil_of_le (by rw [← hG.1]; exact h), cmpCs]
  have h0 : cmpCs l l' = cmpCs (l.drop 0) (l'.drop 0) := rfl
  have hk2 : ∀ k f, l[k]? = some f → CmpOkC f := fun k f h => hok f (List.mem_of_getElem? h)
  have hm : m ≤ 9223372036854775807 := by have h1 := hG.2.1; have h2 := hG.2.2.1; unfold maxLen at h2; omega
  rw [h0]
  obtain ⟨F, hF⟩ : ∃ F : Nat → Int, ∀ k, cmpCs (l.drop k) (l'.drop k) = F k := ⟨_, fun _ => rfl⟩
  simp only [hF] at hst he ⊢
  clear hF h0 hok
  have H1 := Lib.hid hG
  have H2 := Lib.hid hG'
  have Hst := Lib.hid hst
  have He := Lib.hid he
  have HK := Lib.hid hk2
  clear hG hG' hst he hk2
  go_enter Tryz.func114, Tryz.ntmps114
  go_wp2
  go_loopw [13] (fun i wr0 => ∃ (wr : World) (k : Nat), wr = wr0 ∧ k ≤ m ∧ i = .int .i64 k ∧ Below w.heap.size w wr ∧ Hid (F k = F 0)) (fun i _ => m - (intOf i).toNat)
  case atStart => exact ⟨_, 0, rfl, by omega, rfl, Below.refl _ _, Lib.hid rfl⟩
  case round =>
    obtain ⟨wr, k, rfl, hk, rfl, hB, hR⟩ := hrel
    by_cases hlt : k < m
    · obtain ⟨bb, o, t, kk, A, M, Cc, rfl, hb, y0, y1, y2, y3, y4, hx, hok⟩ := (CsW.b H1.out hB).at hlt
      obtain ⟨bb', o', u, kk', A', M', Cc', rfl, hb', z0, z1, z2, z3, z4, hx', hok'⟩ := (CsW.b H2.out hB).at hlt
      have hs1 := Lib.hid (Hst.out k t u hx hx')
      have hk0 : 0 ≤ (k : Int) := by omega
      have hk1 : (k : Int) < (m : Int) := by omega
      have hk2 : ¬ (m : Int) ≤ (k : Int) := by omega
      obtain ⟨W3, hW3, hB3, hs3, F3, G3⟩ := cbox2 wr (opC t) (nmC t) (soC t) kk A M Cc (opC u) (nmC u) (soC u) kk' A' M' Cc'
      have cs := HK.out k t hx u kk A M Cc kk' A' M' Cc' W3 (ArWC.b hok hB3) (ArWC.b hok' hB3)
      have B3 := bel_trans hB hB3
      obtain ⟨f0, f1, f2, f3, f4⟩ := F3.five
      obtain ⟨h0, h1, h2, h3, h4⟩ := G3.five
      have hA : Below wr.heap.size wr (wr.alloc (.cells #[.int .i64 (opC t), .string (nmC t), .string (soC t), .slice kk.a kk.n kk.c, .slice A M Cc] 25)) := bel_alloc (Below.refl _ _) _
      have v0 := (hA.cell hb').trans z0
      have v1 := (hA.cell hb').trans z1
      have v2 := (hA.cell hb').trans z2
      have v3 := (hA.cell hb').trans z3
      have v4 := (hA.cell hb').trans z4
      clear hx hx' hok hok' H1 H2 Hst HK hA
      generalize cmpC t u = Q at *
      generalize opC t = op at *
      generalize nmC t = nm at *
      generalize soC t = nu at *
      generalize opC u = op' at *
      generalize nmC u = nm' at *
      generalize soC u = nu' at *
      by_cases hQ : Q = 0
      · subst hQ
        have hnew : Hid (F (k + 1) = F 0) := by show _ = _; rw [← hR.out, hs1.out, zero_lex]
        clear hR hs1
        go_wp2_with (go_at_call 53; ((with_reducible refine cs.mono ?_); rintro e w4 ⟨rfl, hb4⟩))
        go_roundw
        case rel => exact ⟨_, k + 1, rfl, by omega, by go_num, bel_trans B3 hb4, hnew⟩
        case measure => simp [intOf]; omega
      · have hnew : Hid (Q = F 0) := by show _ = _; rw [← hR.out, hs1.out]; unfold lex; rw [if_pos hQ]
        have hq : (Q != 0) = true := by simpa using hQ
        clear hR hs1
        go_wp2_with (go_at_call 53; ((with_reducible refine cs.mono ?_); rintro e w4 ⟨rfl, hb4⟩))
        go_ret
        exact ⟨one hnew.out, bel_trans B3 hb4⟩
    · have hnew : Hid (0 = F 0) := by show _ = _; rw [← hR.out, He.out k (by omega)]
      clear hR
      go_wp2
      go_ret
      exact ⟨one hnew.out, hB⟩


theorem binds_any (o : Int) (s z : ByteArray) (k : SS) (a : Option Addr) (n c : Nat) (w : World) :
    Calls Tryz.prog 61 #[.agg #[.int .i64 o, .string s, .string z, .slice k.a k.n k.c, .slice a n c]] w fun e w' => e = .returned (.bool ((o == 11) || (o == 12))) ∧ Below w.heap.size w w' := by
  obtain ⟨W1, hW1, hB1, hs1, S1⟩ := cbox1 w o s z k a n c
  obtain ⟨s0, s1, s2, s3, s4⟩ := S1.five
  clear S1
  by_cases h1 : o = 11
  · subst h1
    go_enter Tryz.func61, Tryz.ntmps61
    go_wp2
    go_ret
    exact ⟨oneB (by decide), hB1⟩
  · have e1 : (o == 11) = false := by simpa using h1
    rw [e1]
    cases e2 : o == 12
    all_goals
      go_enter Tryz.func61, Tryz.ntmps61
      go_wp2
      go_ret
      exact ⟨rfl, hB1⟩
/-- what the comparison of names returns -/
def nmCmp (o : Int) (s s' : ByteArray) : Int := if ((o == 11) || (o == 12)) = true then 0 else cmpN s s'
theorem nmCmp_key {o : Int} {s s' : ByteArray} : nmCmp o s s' = cmpN (nmKey o s) (nmKey o s') := by
  unfold nmCmp nmKey
  by_cases h : o = 11 ∨ o = 12
  · have h2 : ((o == 11) || (o == 12)) = true := by rcases h with h | h <;> simp [h]
    rw [if_pos h2, if_pos h, if_pos h]
    exact ((linN.eq _ _).2 rfl).symm
  · have h2 : ¬ ((o == 11) || (o == 12)) = true := by simpa using h
    rw [if_neg h2, if_neg h, if_neg h]
set_option maxHeartbeats 1000000 in
theorem cmpNames_any (o : Int) (s z : ByteArray) (k : SS) (a : Option Addr) (n c : Nat) (o' : Int) (s' z' : ByteArray) (k' : SS) (a' : Option Addr) (n' c' : Nat) (w : World) :
    Calls Tryz.prog 92 #[.agg #[.int .i64 o, .string s, .string z, .slice k.a k.n k.c, .slice a n c], .agg #[.int .i64 o', .string s', .string z', .slice k'.a k'.n k'.c, .slice a' n' c']] w fun e w' => e = .returned (.int .i64 (nmCmp o s s')) ∧ Below w.heap.size w w' := by
  obtain ⟨W2, hW2, hB2, hs2, S2, T2⟩ := cbox2 w o s z k a n c o' s' z' k' a' n' c'
  obtain ⟨s0, s1, s2, s3, s4⟩ := S2.five
  have cB := binds_any o s z k a n c W2
  have HS := Lib.hid S2
  have HT := Lib.hid T2
  clear S2 T2
  unfold nmCmp
  cases hb : ((o == 11) || (o == 12))
  all_goals
    rw [hb] at cB
    clear hb
    go_enter Tryz.func92, Tryz.ntmps92
    go_wp2_with (first
      | (go_at_call 61; ((with_reducible refine cB.mono ?_); rintro e w3 ⟨rfl, hb3⟩; obtain ⟨u0, u1, u2, u3, u4⟩ := (CBox.b HS.out hb3).five; obtain ⟨v0, v1, v2, v3, v4⟩ := (CBox.b HT.out hb3).five))
      | (go_at_call 81; ((with_reducible refine (cmp_str _ _ _).mono ?_); rintro e w4 ⟨rfl, rfl⟩)))
    go_ret
    exact ⟨rfl, bel_trans hB2 hb3⟩
theorem lists_zero {n n' : Nat} (h : cmpI (n : Int) (n' : Int) = 0) : n = n' := by have := (linI.eq _ _).1 h; omega
set_option maxHeartbeats 1000000 in
theorem listsT_any (l l' : List Tm) (a : Option Addr) (n c : Nat) (a' : Option Addr) (n' c' : Nat) (w : World) (hT : TsW w a n c l) (hT' : TsW w a' n' c' l') :
    Calls Tryz.prog 93 #[.slice a n c, .slice a' n' c', .func (.func 43) #[] #[]] w fun e w' => e = .returned (.int .i64 (cmpTL l l')) ∧ Below w.heap.size w w' := by
  unfold cmpTL
  rw [show (l.length : Int) = (n : Int) by rw [hT.1], show (l'.length : Int) = (n' : Int) by rw [hT'.1]]
  by_cases h0 : cmpI (n : Int) (n' : Int) = 0
  · obtain rfl := lists_zero h0
    have cF := CompareFunc_of l (fun t _ => Compare_any t) a n c a' c' l' w hT hT'
    have hnew : Hid (cmpTs l l' = lex (cmpI (n : Int) (n : Int)) (cmpTs l l')) := by show _ = _; rw [h0, zero_lex]
    have cI := cmp_int (n : Int) (n : Int) w
    rw [h0] at cI
    clear hT hT' h0
    generalize cmpTs l l' = R at *
    go_enter Tryz.func93, Tryz.ntmps93
    go_wp2_with (first
      | (go_at_call 79; ((with_reducible refine cI.mono ?_); rintro e w4 ⟨rfl, rfl⟩))
      | (go_at_call 82; ((with_reducible refine cF.mono ?_); rintro e w5 ⟨rfl, hb5⟩)))
    go_ret
    exact ⟨one hnew.out, hb5⟩
  · have hnew : Hid (cmpI (n : Int) (n' : Int) = lex (cmpI (n : Int) (n' : Int)) (cmpTs l l')) := by show _ = _; unfold lex; rw [if_pos h0]
    have cI := cmp_int (n : Int) (n' : Int) w
    have hq : (cmpI (n : Int) (n' : Int) != 0) = true := by simpa using h0
    clear hT hT' h0
    generalize cmpI (n : Int) (n' : Int) = D at *
    generalize cmpTs l l' = R at *
    go_enter Tryz.func93, Tryz.ntmps93
    go_wp2_with (first
      | (go_at_call 79; ((with_reducible refine cI.mono ?_); rintro e w4 ⟨rfl, rfl⟩)))
    go_ret
    exact ⟨one hnew.out, Below.refl _ _⟩
set_option maxHeartbeats 1000000 in
theorem listsC_of (l : List Cl) (hok : ∀ t ∈ l, CmpOkC t) (l' : List Cl) (a : Option Addr) (n c : Nat) (a' : Option Addr) (n' c' : Nat) (w : World) (hT : CsW w a n c l) (hT' : CsW w a' n' c' l') :
    Calls Tryz.prog 94 #[.slice a n c, .slice a' n' c', .func (.func 53) #[] #[]] w fun e w' => e = .returned (.int .i64 (lex (cmpI l.length l'.length) (cmpCs l l'))) ∧ Below w.heap.size w w' := by
  rw [show (l.length : Int) = (n : Int) by rw [hT.1], show (l'.length : Int) = (n' : Int) by rw [hT'.1]]
  by_cases h0 : cmpI (n : Int) (n' : Int) = 0
  · obtain rfl := lists_zero h0
    have cF := CompareFuncC_of l hok a n c a' c' l' w hT hT'
    have hnew : Hid (cmpCs l l' = lex (cmpI (n : Int) (n : Int)) (cmpCs l l')) := by show _ = _; rw [h0, zero_lex]
    have cI := cmp_int (n : Int) (n : Int) w
    rw [h0] at cI
    clear hT hT' h0
    generalize cmpCs l l' = R at *
    go_enter Tryz.func94, Tryz.ntmps94
    go_wp2_with (first
      | (go_at_call 79; ((with_reducible refine cI.mono ?_); rintro e w4 ⟨rfl, rfl⟩))
      | (go_at_call 114; ((with_reducible refine cF.mono ?_); rintro e w5 ⟨rfl, hb5⟩)))
    go_ret
    exact ⟨one hnew.out, hb5⟩
  · have hnew : Hid (cmpI (n : Int) (n' : Int) = lex (cmpI (n : Int) (n' : Int)) (cmpCs l l')) := by show _ = _; unfold lex; rw [if_pos h0]
    have cI := cmp_int (n : Int) (n' : Int) w
    have hq : (cmpI (n : Int) (n' : Int) != 0) = true := by simpa using h0
    clear hT hT' h0
    generalize cmpI (n : Int) (n' : Int) = D at *
    generalize cmpCs l l' = R at *
    go_enter Tryz.func94, Tryz.ntmps94
    go_wp2_with (first
      | (go_at_call 79; ((with_reducible refine cI.mono ?_); rintro e w4 ⟨rfl, rfl⟩)))
    go_ret
    exact ⟨one hnew.out, Below.refl _ _⟩
end Go.Proofs.YtjjfbgadpgckeaaGreat.C
namespace Go.Proofs.YtjjfbgadpgckeaaGreat.C
open Go.RowKit L T
set_option linter.unusedVariables false
set_option linter.unusedSimpArgs false

def Three (w : World) (g : Nat) (x0 x1 x2 : Int) : Prop := Blk w g #[.int .i64 x0, .int .i64 x1, .int .i64 x2] 3
theorem or_three (g : Nat) (x0 x1 x2 : Int) (w : World) (h : Three w g x0 x1 x2) :
    Calls Tryz.prog 78 #[.slice (some ⟨g, 0, none⟩) 3 3] w fun e w' => e = .returned (.int .i64 (lex x0 (lex x1 x2))) ∧ w = w' := by
  have c0 := Blk.cell h 0
  have c1 := Blk.cell h 1
  have c2 := Blk.cell h 2
  have hr : Hid (lex x0 (lex x1 x2) = if x0 ≠ 0 then x0 else if x1 ≠ 0 then x1 else x2) := rfl
  generalize lex x0 (lex x1 x2) = R at *
  clear h
  by_cases h0 : x0 = 0
  · subst h0
    by_cases h1 : x1 = 0
    · subst h1
      by_cases h2 : x2 = 0
      · subst h2
        have hR : Hid ((0 : Int) = R) := by show _ = _; rw [hr.out]; simp
        clear hr
        go_enter Tryz.func78, Tryz.ntmps78
        go_wp2
        refine wp_loop_rounds 4 ?_
        rw [rounds_succ]; go_wp2
        rw [rounds_succ]; go_wp2
        rw [rounds_succ]; go_wp2
        rw [rounds_succ]; go_wp2
        go_ret
        exact ⟨one hR.out, rfl⟩
      · have hR : Hid (x2 = R) := by show _ = _; rw [hr.out]; simp
        have hb : (x2 != 0) = true := by simpa using h2
        clear hr
        go_enter Tryz.func78, Tryz.ntmps78
        go_wp2
        refine wp_loop_rounds 3 ?_
        rw [rounds_succ]; go_wp2
        rw [rounds_succ]; go_wp2
        rw [rounds_succ]; go_wp2
        go_ret
        exact ⟨one hR.out, rfl⟩
    · have hR : Hid (x1 = R) := by show _ = _; rw [hr.out]; simp [h1]
      have hb : (x1 != 0) = true := by simpa using h1
      clear hr
      go_enter Tryz.func78, Tryz.ntmps78
      go_wp2
      refine wp_loop_rounds 2 ?_
      rw [rounds_succ]; go_wp2
      rw [rounds_succ]; go_wp2
      go_ret
      exact ⟨one hR.out, rfl⟩
  · have hR : Hid (x0 = R) := by show _ = _; rw [hr.out]; simp [h0]
    have hb : (x0 != 0) = true := by simpa using h0
    clear hr
    go_enter Tryz.func78, Tryz.ntmps78
    go_wp2
    refine wp_loop_rounds 1 ?_
    rw [rounds_succ]; go_wp2
    go_ret
    exact ⟨one hR.out, rfl⟩
theorem cmpC_code (t u : Cl) : cmpC t u = lex (lex (cmpI (opC t) (opC u)) (lex (nmCmp (opC t) (nmC t) (nmC u)) (cmpN (soC t) (soC u)))) (lex (cmpTL (tsC t) (tsC u)) (lex (cmpI (subC t).length (subC u).length) (cmpCs (subC t) (subC u)))) := by
  rw [cmpC_mk, lex_assoc, lex_assoc]
  by_cases h : cmpI (opC t) (opC u) = 0
  · rw [(linI.eq _ _).1 h, nmCmp_key]
  · have e : ∀ y z : Int, lex (cmpI (opC t) (opC u)) y = lex (cmpI (opC t) (opC u)) z := fun y z => by unfold lex; rw [if_pos h, if_pos h]
    exact e _ _
set_option maxRecDepth 100000 in
set_option maxHeartbeats 8000000 in
theorem CompareC_step (t : Cl) (hok : ∀ x ∈ subC t, CmpOkC x) : CmpOkC t := by
  intro u k a n c k' a' n' c' w hA hA'
  obtain ⟨W2, hW2, hB2, hs2, S2, T2⟩ := cbox2 w (opC t) (nmC t) (soC t) k a n c (opC u) (nmC u) (soC u) k' a' n' c'
  rw [cmpC_code]
  have cT := fun (w' : World) (hb : Below W2.heap.size W2 w') => listsT_any (tsC t) (tsC u) k.a k.n k.c k'.a k'.n k'.c w' (TsW.b (ArWC.terms (ArWC.b hA hB2)) hb) (TsW.b (ArWC.terms (ArWC.b hA' hB2)) hb)
  have cL := fun (w' : World) (hb : Below W2.heap.size W2 w') => listsC_of (subC t) hok (subC u) a n c a' n' c' w' (CsW.b (ArWC.subs (ArWC.b hA hB2)) hb) (CsW.b (ArWC.subs (ArWC.b hA' hB2)) hb)
  have cN := fun (w' : World) => cmpNames_any (opC t) (nmC t) (soC t) k a n c (opC u) (nmC u) (soC u) k' a' n' c' w'
  clear hA hA' hok
  have lS := Blk.lt S2
  have lT := Blk.lt T2
  obtain ⟨s0, s1, s2, s3, s4⟩ := S2.five
  obtain ⟨t0, t1, t2, t3, t4⟩ := T2.five
  have HS := Lib.hid S2
  have HT := Lib.hid T2
  clear S2 T2
  generalize lex (cmpI (subC t).length (subC u).length) (cmpCs (subC t) (subC u)) = R at *
  generalize cmpTL (tsC t) (tsC u) = Q at *
  generalize opC t = op at *
  generalize nmC t = nm at *
  generalize soC t = so at *
  generalize opC u = op' at *
  generalize nmC u = nm' at *
  generalize soC u = so' at *
  have cI := fun (w : World) => cmp_int op op' w
  have cS := fun (w : World) => cmp_str so so' w
  generalize hx0 : cmpI op op' = x0 at *
  generalize hx1 : nmCmp op nm nm' = x1 at *
  generalize hx2 : cmpN so so' = x2 at *
  clear hx0 hx1 hx2
  have cO := fun (w0 : World) => or_three w0.heap.size x0 x1 x2 (w0.alloc (.cells #[.int .i64 x0, .int .i64 x1, .int .i64 x2] 3)) (Blk.new w0 _ _)
  generalize lex x0 (lex x1 x2) = D at *
  have hBd : Below W2.heap.size W2 W2.drew := (Below.refl _ _).drew
  have E1 : Hid (D ≠ 0 → D = lex D (lex Q R)) := fun h => by unfold lex; rw [if_pos h]
  have E2 : Hid (D = 0 → Q ≠ 0 → Q = lex D (lex Q R)) := fun h h2 => by rw [h, zero_lex]; unfold lex; rw [if_pos h2]
  have E3 : Hid (D = 0 → Q = 0 → R = lex D (lex Q R)) := fun h h2 => by rw [h, h2, zero_lex, zero_lex]
  generalize lex D (lex Q R) = V at *
  by_cases hD : D = 0
  · by_cases hQ : Q = 0
    · have hV := E3.out hD hQ
      subst hD hQ hV
      clear E1 E2 E3
      go_enter Tryz.func53, Tryz.ntmps53
      go_wp2_with fail
      go_region_held3 (fun w' => w'.cell? ⟨w.heap.size, 0, none⟩ = some (.int .i64 op) ∧ w'.cell? ⟨w.heap.size, 1, none⟩ = some (.string nm) ∧ w'.cell? ⟨w.heap.size, 2, none⟩ = some (.string so) ∧ w'.cell? ⟨w.heap.size, 3, none⟩ = some (.slice k.a k.n k.c) ∧ w'.cell? ⟨w.heap.size, 4, none⟩ = some (.slice a n c) ∧ w'.cell? ⟨w.heap.size + 1, 0, none⟩ = some (.int .i64 op') ∧ w'.cell? ⟨w.heap.size + 1, 1, none⟩ = some (.string nm') ∧ w'.cell? ⟨w.heap.size + 1, 2, none⟩ = some (.string so') ∧ w'.cell? ⟨w.heap.size + 1, 3, none⟩ = some (.slice k'.a k'.n k'.c) ∧ w'.cell? ⟨w.heap.size + 1, 4, none⟩ = some (.slice a' n' c'))
        (first | (exact ⟨(Bz.cell lS).trans s0, (Bz.cell lS).trans s1, (Bz.cell lS).trans s2, (Bz.cell lS).trans s3, (Bz.cell lS).trans s4, (Bz.cell lT).trans t0, (Bz.cell lT).trans t1, (Bz.cell lT).trans t2, (Bz.cell lT).trans t3, (Bz.cell lT).trans t4⟩) | go_keep)
        (first
          | (go_at_call 79; ((with_reducible refine (cI _).mono ?_); rintro e w4 ⟨rfl, rfl⟩))
          | (go_at_call 81; ((with_reducible refine (cS _).mono ?_); rintro e w4 ⟨rfl, rfl⟩))
          | (go_at_call 92; ((with_reducible refine (cN _).mono ?_); rintro e w4 ⟨rfl, hb4⟩; have Bz : Below W2.heap.size W2 w4 := bel_trans (a := W2) hBd hb4))
          | (go_at_call 78; ((with_reducible refine (cO _).mono ?_); rintro e w5 ⟨rfl, hw5⟩; have BF : Below W2.heap.size W2 w5 := (by rw [← hw5]; exact bel_alloc Bz _); obtain ⟨u0, u1, u2, u3, u4⟩ := (CBox.b HS.out BF).five; obtain ⟨v0, v1, v2, v3, v4⟩ := (CBox.b HT.out BF).five)))
      all_goals go_wp2_with (first
        | (go_at_call 93; ((with_reducible refine (cT _ BF).mono ?_); rintro e w6 ⟨rfl, hb6⟩; have B6 := bel_trans BF hb6; obtain ⟨m0, m1, m2, m3, m4⟩ := (CBox.b HS.out B6).five; obtain ⟨n0, n1, n2, n3, n4⟩ := (CBox.b HT.out B6).five))
        | (go_at_call 94; ((with_reducible refine (cL _ B6).mono ?_); rintro e w7 ⟨rfl, hb7⟩)))
      all_goals go_ret
      all_goals exact ⟨rfl, bel_trans hB2 (bel_trans B6 hb7)⟩
    · have hV := E2.out hD hQ
      have hq : (Q != 0) = true := by simpa using hQ
      subst hD
      have HV := Lib.hid hV
      clear E1 E2 E3 hV hQ
      go_enter Tryz.func53, Tryz.ntmps53
      go_wp2_with fail
      go_region_held3 (fun w' => w'.cell? ⟨w.heap.size, 0, none⟩ = some (.int .i64 op) ∧ w'.cell? ⟨w.heap.size, 1, none⟩ = some (.string nm) ∧ w'.cell? ⟨w.heap.size, 2, none⟩ = some (.string so) ∧ w'.cell? ⟨w.heap.size, 3, none⟩ = some (.slice k.a k.n k.c) ∧ w'.cell? ⟨w.heap.size, 4, none⟩ = some (.slice a n c) ∧ w'.cell? ⟨w.heap.size + 1, 0, none⟩ = some (.int .i64 op') ∧ w'.cell? ⟨w.heap.size + 1, 1, none⟩ = some (.string nm') ∧ w'.cell? ⟨w.heap.size + 1, 2, none⟩ = some (.string so') ∧ w'.cell? ⟨w.heap.size + 1, 3, none⟩ = some (.slice k'.a k'.n k'.c) ∧ w'.cell? ⟨w.heap.size + 1, 4, none⟩ = some (.slice a' n' c'))
        (first | (exact ⟨(Bz.cell lS).trans s0, (Bz.cell lS).trans s1, (Bz.cell lS).trans s2, (Bz.cell lS).trans s3, (Bz.cell lS).trans s4, (Bz.cell lT).trans t0, (Bz.cell lT).trans t1, (Bz.cell lT).trans t2, (Bz.cell lT).trans t3, (Bz.cell lT).trans t4⟩) | go_keep)
        (first
          | (go_at_call 79; ((with_reducible refine (cI _).mono ?_); rintro e w4 ⟨rfl, rfl⟩))
          | (go_at_call 81; ((with_reducible refine (cS _).mono ?_); rintro e w4 ⟨rfl, rfl⟩))
          | (go_at_call 92; ((with_reducible refine (cN _).mono ?_); rintro e w4 ⟨rfl, hb4⟩; have Bz : Below W2.heap.size W2 w4 := bel_trans (a := W2) hBd hb4))
          | (go_at_call 78; ((with_reducible refine (cO _).mono ?_); rintro e w5 ⟨rfl, hw5⟩; have BF : Below W2.heap.size W2 w5 := (by rw [← hw5]; exact bel_alloc Bz _); obtain ⟨u0, u1, u2, u3, u4⟩ := (CBox.b HS.out BF).five; obtain ⟨v0, v1, v2, v3, v4⟩ := (CBox.b HT.out BF).five)))
      all_goals go_wp2_with (first
        | (go_at_call 93; ((with_reducible refine (cT _ BF).mono ?_); rintro e w6 ⟨rfl, hb6⟩; have B6 := bel_trans BF hb6)))
      all_goals go_ret
      all_goals exact ⟨one HV.out, bel_trans hB2 B6⟩
  · have hV := E1.out hD
    have hq : (D != 0) = true := by simpa using hD
    have HV := Lib.hid hV
    clear E1 E2 E3 hV hD
    go_enter Tryz.func53, Tryz.ntmps53
    go_wp2_with fail
    go_region_held3 (fun w' => w'.cell? ⟨w.heap.size, 0, none⟩ = some (.int .i64 op) ∧ w'.cell? ⟨w.heap.size, 1, none⟩ = some (.string nm) ∧ w'.cell? ⟨w.heap.size, 2, none⟩ = some (.string so) ∧ w'.cell? ⟨w.heap.size, 3, none⟩ = some (.slice k.a k.n k.c) ∧ w'.cell? ⟨w.heap.size, 4, none⟩ = some (.slice a n c) ∧ w'.cell? ⟨w.heap.size + 1, 0, none⟩ = some (.int .i64 op') ∧ w'.cell? ⟨w.heap.size + 1, 1, none⟩ = some (.string nm') ∧ w'.cell? ⟨w.heap.size + 1, 2, none⟩ = some (.string so') ∧ w'.cell? ⟨w.heap.size + 1, 3, none⟩ = some (.slice k'.a k'.n k'.c) ∧ w'.cell? ⟨w.heap.size + 1, 4, none⟩ = some (.slice a' n' c'))
      (first | (exact ⟨(Bz.cell lS).trans s0, (Bz.cell lS).trans s1, (Bz.cell lS).trans s2, (Bz.cell lS).trans s3, (Bz.cell lS).trans s4, (Bz.cell lT).trans t0, (Bz.cell lT).trans t1, (Bz.cell lT).trans t2, (Bz.cell lT).trans t3, (Bz.cell lT).trans t4⟩) | go_keep)
      (first
        | (go_at_call 79; ((with_reducible refine (cI _).mono ?_); rintro e w4 ⟨rfl, rfl⟩))
        | (go_at_call 81; ((with_reducible refine (cS _).mono ?_); rintro e w4 ⟨rfl, rfl⟩))
        | (go_at_call 92; ((with_reducible refine (cN _).mono ?_); rintro e w4 ⟨rfl, hb4⟩; have Bz : Below W2.heap.size W2 w4 := bel_trans (a := W2) hBd hb4))
        | (go_at_call 78; ((with_reducible refine (cO _).mono ?_); rintro e w5 ⟨rfl, hw5⟩; have BF : Below W2.heap.size W2 w5 := (by rw [← hw5]; exact bel_alloc Bz _); obtain ⟨u0, u1, u2, u3, u4⟩ := (CBox.b HS.out BF).five; obtain ⟨v0, v1, v2, v3, v4⟩ := (CBox.b HT.out BF).five)))
    all_goals go_wp2
    all_goals go_ret
    all_goals exact ⟨one HV.out, bel_trans hB2 BF⟩
theorem CompareC_any (t : Cl) : CmpOkC t := Cl.ind CompareC_step t
end Go.Proofs.YtjjfbgadpgckeaaGreat.C
namespace Go.Proofs.YtjjfbgadpgckeaaGreat.C
open Go.RowKit L T
set_option linter.unusedVariables false
set_option linter.unusedSimpArgs false

def dftC : Cl := .mk 0 ⟨#[]⟩ ⟨#[]⟩ [] []
def atC (l : List Cl) (i : Nat) : Cl := l.getD i dftC
theorem atC_some {l : List Cl} {i : Nat} {t : Cl} (h : l[i]? = some t) : atC l i = t := by unfold atC; rw [List.getD_eq_getElem?_getD, h]; rfl

set_option maxRecDepth 100000 in
set_option maxHeartbeats 4000000 in
theorem firsts1_any (gc gl : Nat) (A : Option Addr) (n c : Nat) (l : List Cl) (i j : Nat) (w : World) (hgc : Blk w gc #[.func (.func 53) #[] #[]] 68) (hg : Blk w gl #[.slice A n c] 23) (hT : CsW w A n c l) (hi : i < n) (hj : j < n) :
    Calls Tryz.prog 88 #[.int .i64 i, .int .i64 j, .pointer (some ⟨gc, 0, none⟩), .pointer (some ⟨gl, 0, none⟩)] w fun e w' => e = .returned (.int .i64 (cmpC (atC l i) (atC l j))) ∧ Below w.heap.size w w' := by
  obtain ⟨bb, o, t, kk, A1, M, Cc, rfl, hb, y0, y1, y2, y3, y4, hx, hok⟩ := hT.at hi
  obtain ⟨bb', o', u, kk', A', M', Cc', h2, hb', z0, z1, z2, z3, z4, hx', hok'⟩ := hT.at hj
  injection h2 with h2
  injection h2 with h2 h3
  subst h2 h3
  rw [atC_some hx, atC_some hx']
  have hn : n ≤ 9223372036854775807 := by have h1 := hT.2.1; have h2 := hT.2.2.1; unfold maxLen at h2; omega
  have hBd : Below w.heap.size w w.drew := (Below.refl _ _).drew
  have cs := CompareC_any t u kk A1 M Cc kk' A' M' Cc' w.drew (ArWC.b hok hBd) (ArWC.b hok' hBd)
  have lg := Blk.lt hg
  have c0 := Blk.cell hg 0
  have lc := Blk.lt hgc
  have cc0 := Blk.cell hgc 0
  clear hx hx' hok hok' hT
  generalize cmpC t u = R at *
  generalize opC t = op2 at *
  generalize nmC t = nm2 at *
  generalize soC t = nu2 at *
  generalize opC u = op3 at *
  generalize nmC u = nm3 at *
  generalize soC u = nu3 at *
  have hi0 : 0 ≤ (i : Int) := by omega
  have hi1 : (i : Int) < (n : Int) := by omega
  have hj0 : 0 ≤ (j : Int) := by omega
  have hj1 : (j : Int) < (n : Int) := by omega
  go_enter Tryz.func88, Tryz.ntmps88
  go_wp2_with fail
  go_region_held3 (fun w' => w'.cell? ⟨gc, 0, none⟩ = some (.func (.func 53) #[] #[]) ∧ w'.cell? ⟨gl, 0, none⟩ = some (.slice (some ⟨bb, o, none⟩) n c) ∧ w'.cell? ⟨bb, o + i * 5, none⟩ = some (.int .i64 op2) ∧ w'.cell? ⟨bb, o + i * 5 + 1, none⟩ = some (.string nm2) ∧ w'.cell? ⟨bb, o + i * 5 + 1 + 1, none⟩ = some (.string nu2) ∧ w'.cell? ⟨bb, o + i * 5 + 1 + 1 + 1, none⟩ = some (.slice kk.a kk.n kk.c) ∧ w'.cell? ⟨bb, o + i * 5 + 1 + 1 + 1 + 1, none⟩ = some (.slice A1 M Cc) ∧ w'.cell? ⟨bb, o + j * 5, none⟩ = some (.int .i64 op3) ∧ w'.cell? ⟨bb, o + j * 5 + 1, none⟩ = some (.string nm3) ∧ w'.cell? ⟨bb, o + j * 5 + 1 + 1, none⟩ = some (.string nu3) ∧ w'.cell? ⟨bb, o + j * 5 + 1 + 1 + 1, none⟩ = some (.slice kk'.a kk'.n kk'.c) ∧ w'.cell? ⟨bb, o + j * 5 + 1 + 1 + 1 + 1, none⟩ = some (.slice A' M' Cc'))
    (first | go_keep | (exact ⟨(B4.cell lc).trans cc0, (B4.cell lg).trans c0, (B4.cell hb).trans y0, (B4.cell hb).trans y1, (B4.cell hb).trans y2, (B4.cell hb).trans y3, (B4.cell hb).trans y4, (B4.cell hb).trans z0, (B4.cell hb).trans z1, (B4.cell hb).trans z2, (B4.cell hb).trans z3, (B4.cell hb).trans z4⟩))
    (first | (go_at_call 53; ((with_reducible refine cs.mono ?_); rintro e w4 ⟨rfl, hb4⟩; have B4 := bel_trans hBd hb4)))
  go_wp2
  go_ret
  exact ⟨rfl, B4⟩
set_option maxRecDepth 100000 in
set_option maxHeartbeats 4000000 in
theorem firsts2_any (gc gl : Nat) (A : Option Addr) (n c : Nat) (l : List Cl) (i j : Nat) (w : World) (hgc : Blk w gc #[.func (.func 53) #[] #[]] 68) (hg : Blk w gl #[.slice A n c] 23) (hT : CsW w A n c l) (hi : i < n) (hj : j < n) :
    Calls Tryz.prog 89 #[.int .i64 i, .int .i64 j, .pointer (some ⟨gc, 0, none⟩), .pointer (some ⟨gl, 0, none⟩)] w fun e w' => e = .returned (.bool (eqC (atC l i) (atC l j))) ∧ Below w.heap.size w w' := by
  obtain ⟨bb, o, t, kk, A1, M, Cc, rfl, hb, y0, y1, y2, y3, y4, hx, hok⟩ := hT.at hi
  obtain ⟨bb', o', u, kk', A', M', Cc', h2, hb', z0, z1, z2, z3, z4, hx', hok'⟩ := hT.at hj
  injection h2 with h2
  injection h2 with h2 h3
  subst h2 h3
  rw [atC_some hx, atC_some hx']
  have hn : n ≤ 9223372036854775807 := by have h1 := hT.2.1; have h2 := hT.2.2.1; unfold maxLen at h2; omega
  have hBd : Below w.heap.size w w.drew := (Below.refl _ _).drew
  have cs := CompareC_any t u kk A1 M Cc kk' A' M' Cc' w.drew (ArWC.b hok hBd) (ArWC.b hok' hBd)
  have lg := Blk.lt hg
  have c0 := Blk.cell hg 0
  have lc := Blk.lt hgc
  have cc0 := Blk.cell hgc 0
  clear hx hx' hok hok' hT
  have he : eqC t u = (cmpC t u == 0) := eqC_cmp t u
  rw [he]
  clear he
  generalize cmpC t u = R at *
  generalize opC t = op2 at *
  generalize nmC t = nm2 at *
  generalize soC t = nu2 at *
  generalize opC u = op3 at *
  generalize nmC u = nm3 at *
  generalize soC u = nu3 at *
  have hi0 : 0 ≤ (i : Int) := by omega
  have hi1 : (i : Int) < (n : Int) := by omega
  have hj0 : 0 ≤ (j : Int) := by omega
  have hj1 : (j : Int) < (n : Int) := by omega
  go_enter Tryz.func89, Tryz.ntmps89
  go_wp2_with fail
  go_region_held3 (fun w' => w'.cell? ⟨gc, 0, none⟩ = some (.func (.func 53) #[] #[]) ∧ w'.cell? ⟨gl, 0, none⟩ = some (.slice (some ⟨bb, o, none⟩) n c) ∧ w'.cell? ⟨bb, o + i * 5, none⟩ = some (.int .i64 op2) ∧ w'.cell? ⟨bb, o + i * 5 + 1, none⟩ = some (.string nm2) ∧ w'.cell? ⟨bb, o + i * 5 + 1 + 1, none⟩ = some (.string nu2) ∧ w'.cell? ⟨bb, o + i * 5 + 1 + 1 + 1, none⟩ = some (.slice kk.a kk.n kk.c) ∧ w'.cell? ⟨bb, o + i * 5 + 1 + 1 + 1 + 1, none⟩ = some (.slice A1 M Cc) ∧ w'.cell? ⟨bb, o + j * 5, none⟩ = some (.int .i64 op3) ∧ w'.cell? ⟨bb, o + j * 5 + 1, none⟩ = some (.string nm3) ∧ w'.cell? ⟨bb, o + j * 5 + 1 + 1, none⟩ = some (.string nu3) ∧ w'.cell? ⟨bb, o + j * 5 + 1 + 1 + 1, none⟩ = some (.slice kk'.a kk'.n kk'.c) ∧ w'.cell? ⟨bb, o + j * 5 + 1 + 1 + 1 + 1, none⟩ = some (.slice A' M' Cc'))
    (first | go_keep | (exact ⟨(B4.cell lc).trans cc0, (B4.cell lg).trans c0, (B4.cell hb).trans y0, (B4.cell hb).trans y1, (B4.cell hb).trans y2, (B4.cell hb).trans y3, (B4.cell hb).trans y4, (B4.cell hb).trans z0, (B4.cell hb).trans z1, (B4.cell hb).trans z2, (B4.cell hb).trans z3, (B4.cell hb).trans z4⟩))
    (first | (go_at_call 53; ((with_reducible refine cs.mono ?_); rintro e w4 ⟨rfl, hb4⟩; have B4 := bel_trans hBd hb4)))
  go_wp2
  go_ret
  exact ⟨rfl, B4⟩
end Go.Proofs.YtjjfbgadpgckeaaGreat.C
namespace Go.Proofs.YtjjfbgadpgckeaaGreat.C
open Go.RowKit L T
set_option linter.unusedVariables false
set_option linter.unusedSimpArgs false

theorem gr_set {W0 W : World} {g : Nat} (h : W0.grownBy W (some g)) (k : Nat) (v : Value) : W0.grownBy (W.setCell ⟨g, k, none⟩ v) (some g) := h.trans (grown_setCell W g k v)
theorem gr_alloc {W0 W : World} {g : Nat} (h : W0.grownBy W (some g)) (o : Obj) : W0.grownBy (W.alloc o) (some g) := h.trans (World.grownBy_alloc W o (some g))
theorem gr_below {B g : Nat} {W W' : World} (h : W.grownBy W' (some g)) (hB : B ≤ W.heap.size) (hg : B ≤ g) : Below B W W' := (Below.refl B W).grown h hB (fun k e => by cases e; exact hg)
theorem gr_blk {W W' : World} {g x : Nat} {cs : Array Value} {t : TypeId} (h : Blk W x cs t) (hg : W.grownBy W' (some g)) (hne : x ≠ g) : Blk W' x cs t := Blk.grown h hg (fun e => hne (by cases e; rfl))

/-! insertion, from the right -/
def insRev (c : Nat → Nat → Int) (x : Nat) : List Nat → List Nat
  | [] => [x]
  | y :: l => if c x y < 0 then y :: insRev c x l else x :: y :: l
def isortR (c : Nat → Nat → Int) (acc : List Nat) (l : List Nat) : List Nat := l.foldl (fun a x => insRev c x a) acc
theorem insRev_len (c : Nat → Nat → Int) (x : Nat) : ∀ l : List Nat, (insRev c x l).length = l.length + 1
  | [] => rfl
  | y :: l => by rw [insRev]; split <;> simp [insRev_len c x l]
theorem insRev_perm (c : Nat → Nat → Int) (x : Nat) : ∀ l : List Nat, (insRev c x l).Perm (x :: l)
  | [] => List.Perm.refl _
  | y :: l => by
    rw [insRev]; split
    · exact ((insRev_perm c x l).cons y).trans (List.Perm.swap _ _ _)
    · exact List.Perm.refl _
theorem isortR_len (c : Nat → Nat → Int) : ∀ (l acc : List Nat), (isortR c acc l).length = acc.length + l.length
  | [], acc => by simp [isortR]
  | x :: l, acc => by
    have := isortR_len c l (insRev c x acc)
    rw [insRev_len] at this
    simp only [isortR, List.foldl_cons, List.length_cons] at this ⊢
    omega
theorem isortR_snoc (c : Nat → Nat → Int) (acc l : List Nat) (x : Nat) : isortR c acc (l ++ [x]) = insRev c x (isortR c acc l) := by simp [isortR]
theorem isortR_perm (c : Nat → Nat → Int) : ∀ (l acc : List Nat), (isortR c acc l).Perm (acc ++ l)
  | [], acc => by simp [isortR]
  | x :: l, acc => by
    have h := isortR_perm c l (insRev c x acc)
    refine (show (isortR c acc (x :: l)).Perm (insRev c x acc ++ l) from h).trans ?_
    refine ((insRev_perm c x acc).append_right l).trans ?_
    exact (List.perm_middle (a := x) (l₁ := acc) (l₂ := l)).symm

/-! a row of places -/
def RowN (w : World) (g : Nat) (zs : List Nat) : Prop := Blk w g (zs.map (fun z : Nat => Value.int .i64 (z : Int))).toArray 3
theorem RowN.at {w : World} {g : Nat} {zs : List Nat} (h : RowN w g zs) {k z : Nat} (hk : zs[k]? = some z) : w.cell? ⟨g, k, none⟩ = some (.int .i64 z) := by
  rw [Blk.cell h k]
  simp [hk]
theorem RowN.set {w : World} {g : Nat} {zs : List Nat} (h : RowN w g zs) (k z : Nat) : RowN (w.setCell ⟨g, k, none⟩ (.int .i64 z)) g (zs.set k z) := by
  have := Blk.set h k (.int .i64 (z : Int))
  unfold RowN
  rw [List.map_set]
  simpa using this
theorem swap_list (X T : List Nat) (x y : Nat) : ((X ++ y :: x :: T).set (X.length + 1) y).set X.length x = X ++ x :: y :: T := by
  rw [List.set_append_right _ _ (by omega), List.set_append_right _ _ (by omega)]
  simp
theorem swap_list2 (X T : List Nat) (x y : Nat) : ((X ++ y :: x :: T).set X.length x).set (X.length + 1) y = X ++ x :: y :: T := by
  rw [List.set_append_right _ _ (by omega), List.set_append_right _ _ (by omega)]
  simp

theorem gr_drewN {W0 W : World} {g : Nat} (h : W0.grownBy W (some g)) (n : Nat) : W0.grownBy (W.drewN n) (some g) := h.trans ⟨rfl, rfl, rfl, Nat.le_refl _, fun _ _ _ => rfl⟩
theorem gr_drew {W0 W : World} {g : Nat} (h : W0.grownBy W (some g)) : W0.grownBy W.drew (some g) := h.trans ⟨rfl, rfl, rfl, Nat.le_refl _, fun _ _ _ => rfl⟩
theorem gr_of_below {W W' : World} {g : Nat} (h : Below W.heap.size W W') (ht : W'.tape = W.tape) : W.grownBy W' (some g) := ⟨h.os, ht, h.output, h.size, fun k hk _ => h.block k hk⟩
/-- what a sort's comparison is: the closure, in every world that has what lies below the row -/
def CmpIn (g gc gl n : Nat) (l : List Cl) (w0 : World) : Prop := ∀ (i j : Nat) (w : World), Below g w0 w → g ≤ w.heap.size → i < n → j < n →
  Calls Tryz.prog 88 #[.int .i64 i, .int .i64 j, .pointer (some ⟨gc, 0, none⟩), .pointer (some ⟨gl, 0, none⟩)] w fun e w' => e = .returned (.int .i64 (cmpC (atC l i) (atC l j))) ∧ Below w.heap.size w w'

set_option maxRecDepth 100000 in
set_option maxHeartbeats 8000000 in
theorem insertion_any (g gc gl n : Nat) (l : List Cl) (w0 : World) (hc : CmpIn g gc gl n l w0) (pre seg post : List Nat) (hlt : ∀ z ∈ pre ++ seg ++ post, z < n) (N cap : Nat) (hN : N = (pre ++ seg ++ post).length) (hN2 : N ≤ 1000000) (w : World) (hb : Below g w0 w) (hr : RowN w g (pre ++ seg ++ post)) :
    Calls Tryz.prog 120 #[.slice (some ⟨g, 0, none⟩) N cap, .int .i64 pre.length, .int .i64 ((pre.length : Int) + (seg.length : Int)), .func (.func 88) #[] #[.pointer (some ⟨gc, 0, none⟩), .pointer (some ⟨gl, 0, none⟩)]] w fun e w' => (∃ v, e = .returned v) ∧ RowN w' g (pre ++ (isortR (fun i j => cmpC (atC l i) (atC l j)) [] seg).reverse ++ post) ∧ w.grownBy w' (some g) := by
  have hg := Blk.lt hr
  have HC := Lib.hid hc
  have Hlt := Lib.hid hlt
  generalize hcf : (fun i j => cmpC (atC l i) (atC l j)) = cf at *
  have hcf2 : ∀ i j, cmpC (atC l i) (atC l j) = cf i j := fun i j => by rw [← hcf]
  have Hcf := Lib.hid hcf2
  clear hc hlt hcf hcf2
  have H0 : Hid (RowN w g (pre ++ (isortR cf [] (seg.take 1)).reverse ++ (seg.drop 1 ++ post))) := by
    cases seg with
    | nil => show RowN w g _; simpa [isortR] using hr
    | cons x s => show RowN w g _; simpa [isortR, insRev] using hr
  have hl1 : pre.length ≤ 1000000 := by simp at hN; omega
  have hl2 : pre.length + seg.length ≤ 1000000 := by simp at hN; omega
  have HN := Lib.hid hN
  clear hr hN
  go_enter Tryz.func120, Tryz.ntmps120
  go_wp2
  go_loopw [8] (fun i wr0 => ∃ (wr : World) (m : Nat), wr = wr0 ∧ 1 ≤ m ∧ (m ≤ seg.length ∨ m = 1) ∧ i = .int .i64 ((pre.length : Int) + (m : Int)) ∧ w.grownBy wr (some g) ∧ Hid (RowN wr g (pre ++ (isortR cf [] (seg.take m)).reverse ++ (seg.drop m ++ post)))) (fun i _ => pre.length + seg.length - (intOf i).toNat)
  case atStart => exact ⟨_, 1, rfl, by omega, .inr rfl, rfl, World.grownBy.refl _ _, H0⟩
  case round =>
    obtain ⟨wr, m, rfl, hm1, hm2, rfl, hG, hR⟩ := hrel
    by_cases hlt : m < seg.length
    · have hx : seg[m]? = some seg[m] := List.getElem?_eq_getElem hlt
      obtain ⟨x, hxx⟩ : ∃ x, seg[m] = x := ⟨_, rfl⟩
      rw [hxx] at hx
      obtain ⟨P0, hP0⟩ : ∃ P0, isortR cf [] (seg.take m) = P0 := ⟨_, rfl⟩
      obtain ⟨rest, hrest⟩ : ∃ rest, seg.drop (m + 1) ++ post = rest := ⟨_, rfl⟩
      have hlen0 : P0.length = m := by rw [← hP0, isortR_len]; simp; omega
      have hd : seg.drop m ++ post = x :: rest := by rw [← hrest, ← hxx, ← List.cons_append, ← List.drop_eq_getElem_cons hlt]
      have hins : insRev cf x P0 = isortR cf [] (seg.take (m + 1)) := by
        rw [List.take_add_one, hx, ← hP0]
        exact (isortR_snoc cf [] _ x).symm
      have hR0 : Hid (RowN wr g (pre ++ P0.reverse ++ x :: ([] ++ rest))) := by
        have := hR.out
        rw [hP0, hd] at this
        exact this
      have Hfin := Lib.hid (show ∀ (P Q : List Nat) (W : World), (insRev cf x P).reverse ++ Q = (insRev cf x P0).reverse → (insRev cf x P).reverse = P.reverse ++ [x] → RowN W g (pre ++ P.reverse ++ x :: (Q ++ rest)) → RowN W g (pre ++ (isortR cf [] (seg.take (m + 1))).reverse ++ (seg.drop (m + 1) ++ post)) from fun P Q W h1 h2 h3 => by
        rw [← hins, ← h1, h2, hrest]
        simpa using h3)
      have Hall := Lib.hid (show ∀ (P Q : List Nat), (insRev cf x P).reverse ++ Q = (insRev cf x P0).reverse → ∀ y ∈ x :: P, y < n from fun P Q h1 y hy => by
        have h2 : y ∈ (insRev cf x P0).reverse := by
          rw [← h1]
          refine List.mem_append_left _ (List.mem_reverse.2 ((insRev_perm cf x P).mem_iff.2 hy))
        rw [List.mem_reverse, hins] at h2
        have h3 := (isortR_perm cf (seg.take (m + 1)) []).mem_iff.1 h2
        exact Hlt.out y (List.mem_append_left _ (List.mem_append_right _ (List.take_subset _ _ (by simpa using h3)))))
      have Hlq := Lib.hid (show ∀ (P Q : List Nat), (insRev cf x P).reverse ++ Q = (insRev cf x P0).reverse → P.length + Q.length = m from fun P Q h1 => by
        have := congrArg List.length h1
        rw [List.length_append, List.length_reverse, List.length_reverse, insRev_len, insRev_len] at this
        omega)
      have Hlen0 := Lib.hid hlen0
      clear hx hxx hP0 hrest hd hins hR hlen0
      have hpm : (pre.length : Int) + m < pre.length + seg.length := by omega
      go_wp2
      go_loopw [9] (fun i wr0 => ∃ (w2 : World) (P Q : List Nat), w2 = wr0 ∧ i = .int .i64 ((pre.length : Int) + (P.length : Int)) ∧ w.grownBy w2 (some g) ∧ Hid ((insRev cf x P).reverse ++ Q = (insRev cf x P0).reverse ∧ RowN w2 g (pre ++ P.reverse ++ x :: (Q ++ rest)))) (fun i _ => (intOf i).toNat)
      case atStart => exact ⟨_, P0, [], rfl, by rw [Hlen0.out], hG, Lib.hid ⟨by simp, hR0.out⟩⟩
      case round =>
        obtain ⟨w2, P, Q, rfl, rfl, hG2, hR2⟩ := hrel
        have hlq := Hlq.out P Q hR2.out.1
        cases P with
        | nil =>
          have Hn := Lib.hid (Hfin.out [] Q w2 hR2.out.1 rfl hR2.out.2)
          have hpl : (pre.length : Int) + (([] : List Nat).length : Int) = (pre.length : Int) := by simp
          rw [hpl]
          clear hpl hlq
          have hgd : ¬ (pre.length : Int) < (pre.length : Int) := by omega
          clear hR2
          go_wp2_with fail
          go_quiet (fail)
          go_wp2
          go_roundw
          case rel => exact ⟨_, m + 1, rfl, by omega, by omega, by go_num, gr_drewN hG2 _, Lib.hid (show RowN _ _ _ from Hn.out)⟩
          case measure => simp [intOf]; omega
        | cons y P =>
          have hxn := Hall.out (y :: P) Q hR2.out.1 x (by simp)
          have hyn := Hall.out (y :: P) Q hR2.out.1 y (by simp)
          have hrow := hR2.out.2
          have hX : (pre ++ (y :: P).reverse ++ x :: (Q ++ rest)) = (pre ++ P.reverse) ++ y :: x :: (Q ++ rest) := by simp
          rw [hX] at hrow
          have hXl : (pre ++ P.reverse).length = pre.length + P.length := by simp
          obtain ⟨k, hk⟩ : ∃ k, pre.length + P.length = k := ⟨_, rfl⟩
          have e0 : ((pre ++ P.reverse) ++ y :: x :: (Q ++ rest))[k]? = some y := by rw [List.getElem?_append_right (by omega), hXl, hk, Nat.sub_self]; rfl
          have e1 : ((pre ++ P.reverse) ++ y :: x :: (Q ++ rest))[k + 1]? = some x := by rw [List.getElem?_append_right (by omega), hXl, hk, Nat.add_sub_cancel_left]; rfl
          have c0 := hrow.at e0
          have c1 := hrow.at e1
          have q0 := Blk.free hrow k
          have q1 := Blk.free hrow (k + 1)
          have hsw1 := Lib.hid (show ∀ W, RowN W g ((pre ++ P.reverse) ++ y :: x :: (Q ++ rest)) → RowN ((W.setCell ⟨g, k + 1, none⟩ (.int .i64 y)).setCell ⟨g, k, none⟩ (.int .i64 x)) g (pre ++ P.reverse ++ x :: (y :: Q ++ rest)) from fun W h => by
            have h1 := (h.set (k + 1) y).set k x
            rw [← hk, ← hXl, swap_list] at h1
            rw [← hk, ← hXl]; exact h1)
          have hsw2 := Lib.hid (show ∀ W, RowN W g ((pre ++ P.reverse) ++ y :: x :: (Q ++ rest)) → RowN ((W.setCell ⟨g, k, none⟩ (.int .i64 x)).setCell ⟨g, k + 1, none⟩ (.int .i64 y)) g (pre ++ P.reverse ++ x :: (y :: Q ++ rest)) from fun W h => by
            have h1 := (h.set k x).set (k + 1) y
            rw [← hk, ← hXl, swap_list2] at h1
            rw [← hk, ← hXl]; exact h1)
          have hkk := Lib.hid hk
          have hpl : (pre.length : Int) + ((y :: P).length : Int) = (k : Int) + 1 := by simp; omega
          rw [hpl]
          have hg2 := Blk.lt hrow
          have hB2 : Below g w0 w2.drew := (hb.trans (gr_below hG2 (Nat.le_of_lt hg) (Nat.le_refl _))).drew
          have cC := HC.out x y w2.drew hB2 (Nat.le_of_lt hg2) hxn hyn
          rw [Hcf.out] at cC
          have hkn : (pre.length : Int) < (k : Int) + 1 := by omega
          have hkN : (k : Int) + 1 < (N : Int) := by
            have h1 := HN.out
            have h2 := congrArg List.length (show (pre ++ seg ++ post) = (pre ++ seg ++ post) from rfl)
            have h3 : P.length + 1 + Q.length = m := by simpa using hlq
            simp at h1
            omega
          have hwr : IntKind.i64.wrap ((k : Int) + 1 - 1) = (k : Int) := by rw [IntKind.wrap_i64]; omega
          have hwr2 : IntKind.i64.wrap (k : Int) = (k : Int) := by rw [IntKind.wrap_i64]; omega
          have hk0 : 0 ≤ (k : Int) := by omega
          have hk1 : 0 ≤ (k : Int) + 1 := by omega
          have hkN0 : (k : Int) < (N : Int) := by omega
          have hB2d : Below w2.heap.size w2 w2.drew := (Below.refl _ _).drew
          have HR2 := Lib.hid hR2.out.1
          have Hrow := Lib.hid hrow
          clear hR2 hrow hX e0 e1 hlq hpl hXl hk
          by_cases hneg : cf x y < 0
          · have hi2 : Hid ((insRev cf x P).reverse ++ (y :: Q) = (insRev cf x P0).reverse) := by
              have h1 := HR2.out
              rw [insRev, if_pos hneg] at h1
              show _ = _
              rw [← h1]; simp
            generalize cf x y = R at *
            go_wp2_with fail
            go_region_held3 (fun w' => w'.cell? ⟨g, k, none⟩ = some (.int .i64 y) ∧ w'.cell? ⟨g, k + 1, none⟩ = some (.int .i64 x))
              (first | go_keep | (exact ⟨(B4.cell hg2).trans c0, (B4.cell hg2).trans c1⟩))
              (first | (go_at_call 88; ((with_reducible refine cC.mono ?_); rintro e w4 ⟨rfl, hb4⟩; have B4 := bel_trans hB2d hb4; have H4 := Lib.hid (Blk.below Hrow.out B4); have z0 := (B4.cell (p := ⟨g, k, none⟩) hg2).trans c0; have z1 := (B4.cell (p := ⟨g, k + 1, none⟩) hg2).trans c1; have p0 := (B4.frozen (p := ⟨g, k, none⟩) hg2).trans q0; have p1 := (B4.frozen (p := ⟨g, k + 1, none⟩) hg2).trans q1)))
            have hg4 : w2.grownBy w4 (some g) := gr_of_below B4 B4.tape
            go_wp2
            go_region
            go_wp2
            exact ⟨⟨_, P, y :: Q, rfl, by congr 1; have := hkk.out; omega, gr_drew (gr_set (gr_set (hG2.trans hg4) _ _) _ _), Lib.hid ⟨hi2.out, hsw1.out _ H4.out⟩⟩, by simp [intOf] <;> omega⟩
          · have Hn := Lib.hid (Hfin.out (y :: P) Q · HR2.out (by rw [insRev, if_neg hneg]; simp))
            generalize cf x y = R at *
            go_wp2_with fail
            go_region_held3 (fun w' => w'.cell? ⟨g, k, none⟩ = some (.int .i64 y) ∧ w'.cell? ⟨g, k + 1, none⟩ = some (.int .i64 x))
              (first | go_keep | (exact ⟨(B4.cell hg2).trans c0, (B4.cell hg2).trans c1⟩))
              (first | (go_at_call 88; ((with_reducible refine cC.mono ?_); rintro e w4 ⟨rfl, hb4⟩; have B4 := bel_trans hB2d hb4; have H4 := Lib.hid (Blk.below Hrow.out B4); have z0 := (B4.cell (p := ⟨g, k, none⟩) hg2).trans c0; have z1 := (B4.cell (p := ⟨g, k + 1, none⟩) hg2).trans c1; have p0 := (B4.frozen (p := ⟨g, k, none⟩) hg2).trans q0; have p1 := (B4.frozen (p := ⟨g, k + 1, none⟩) hg2).trans q1)))
            have hg4 : w2.grownBy w4 (some g) := gr_of_below B4 B4.tape
            go_wp2
            go_roundw
            case rel => exact ⟨_, m + 1, rfl, by omega, by omega, by go_num, hG2.trans hg4, Lib.hid (Hn.out _ (by
              have h := H4.out
              rw [show pre ++ (y :: P).reverse ++ x :: (Q ++ rest) = (pre ++ P.reverse) ++ y :: x :: (Q ++ rest) by simp]
              exact h))⟩
            case measure => simp [intOf]; omega
    · have Hn : Hid (RowN wr g (pre ++ (isortR cf [] seg).reverse ++ post)) := by
        have h := hR.out
        rw [List.take_of_length_le (by omega), List.drop_eq_nil_of_le (by omega)] at h
        exact h
      have hpm : ¬ (pre.length : Int) + m < pre.length + seg.length := by omega
      clear hR
      go_wp2
      go_end0
      exact ⟨⟨_, rfl⟩, by (have h := Hn.out; rwa [List.append_assoc] at h), hG⟩
end Go.Proofs.YtjjfbgadpgckeaaGreat.C
namespace Go.Proofs.YtjjfbgadpgckeaaGreat.C
open Go.RowKit L T
set_option linter.unusedVariables false
set_option linter.unusedSimpArgs false

set_option maxRecDepth 100000 in
set_option maxHeartbeats 8000000 in
theorem stable_few (g gc gl n : Nat) (l : List Cl) (w0 : World) (hc : CmpIn g gc gl n l w0) (zs : List Nat) (hlt : ∀ z ∈ zs, z < n) (N cap : Nat) (hN : N = zs.length) (hN2 : N < 20) (w : World) (hb : Below g w0 w) (hr : RowN w g zs) :
    Calls Tryz.prog 106 #[.slice (some ⟨g, 0, none⟩) N cap, .int .i64 N, .func (.func 88) #[] #[.pointer (some ⟨gc, 0, none⟩), .pointer (some ⟨gl, 0, none⟩)]] w fun e w' => (∃ v, e = .returned v) ∧ RowN w' g (isortR (fun i j => cmpC (atC l i) (atC l j)) [] zs).reverse ∧ w.grownBy w' (some g) := by
  have cI := insertion_any g gc gl n l w0 hc [] zs [] (by simpa using hlt) N cap (by simpa using hN) (by omega) w hb (by simpa using hr)
  simp only [List.length_nil, List.nil_append, List.append_nil] at cI
  rw [show ((0 : Nat) : Int) = 0 from rfl, Int.zero_add, ← hN] at cI
  have h1 : ¬ (20 : Int) ≤ (N : Int) := by omega
  have h2 : ¬ (20 : Int) < (N : Int) := by omega
  clear hr hc hlt hN
  generalize (isortR (fun i j => cmpC (atC l i) (atC l j)) [] zs).reverse = Z at *
  go_enter Tryz.func106, Tryz.ntmps106
  go_wp2
  refine wp_loop_rounds 1 ?_
  rw [rounds_succ]
  go_wp2_with (go_at_call 120; ((with_reducible refine cI.mono ?_); rintro e w1 ⟨⟨v, rfl⟩, hR, hG⟩; have HR := Lib.hid hR; clear hR))
  refine wp_loop_rounds 1 ?_
  rw [rounds_succ]
  go_wp2
  go_end0
  exact ⟨⟨_, rfl⟩, HR.out, hG⟩
theorem stableFunc_few (g gc gl n : Nat) (l : List Cl) (w0 : World) (hc : CmpIn g gc gl n l w0) (zs : List Nat) (hlt : ∀ z ∈ zs, z < n) (N cap : Nat) (hN : N = zs.length) (hN2 : N < 20) (w : World) (hb : Below g w0 w) (hr : RowN w g zs) :
    Calls Tryz.prog 71 #[.slice (some ⟨g, 0, none⟩) N cap, .func (.func 88) #[] #[.pointer (some ⟨gc, 0, none⟩), .pointer (some ⟨gl, 0, none⟩)]] w fun e w' => (∃ v, e = .returned v) ∧ RowN w' g (isortR (fun i j => cmpC (atC l i) (atC l j)) [] zs).reverse ∧ w.grownBy w' (some g) := by
  have cI := stable_few g gc gl n l w0 hc zs hlt N cap hN hN2 w hb hr
  clear hr hc hlt hN
  generalize (isortR (fun i j => cmpC (atC l i) (atC l j)) [] zs).reverse = Z at *
  go_enter Tryz.func71, Tryz.ntmps71
  go_wp2_with (go_at_call 106; ((with_reducible refine cI.mono ?_); rintro e w1 ⟨⟨v, rfl⟩, hR, hG⟩; have HR := Lib.hid hR; clear hR))
  go_end0
  exact ⟨⟨_, rfl⟩, HR.out, hG⟩
def EqIn (g gc gl n : Nat) (l : List Cl) (w0 : World) : Prop := ∀ (i j : Nat) (w : World), Below g w0 w → g ≤ w.heap.size → i < n → j < n →
  Calls Tryz.prog 89 #[.int .i64 i, .int .i64 j, .pointer (some ⟨gc, 0, none⟩), .pointer (some ⟨gl, 0, none⟩)] w fun e w' => e = .returned (.bool (eqC (atC l i) (atC l j))) ∧ Below w.heap.size w w'

set_option maxRecDepth 100000 in
set_option maxHeartbeats 8000000 in
theorem compact_apart (g gc gl n : Nat) (l : List Cl) (w0 : World) (hc : EqIn g gc gl n l w0) (zs : List Nat) (hlt : ∀ z ∈ zs, z < n) (hne : ∀ k x y, zs[k]? = some x → zs[k + 1]? = some y → eqC (atC l y) (atC l x) = false) (N cap : Nat) (hN : N = zs.length) (hN2 : N ≤ 1000000) (w : World) (hb : Below g w0 w) (hr : RowN w g zs) :
    Calls Tryz.prog 73 #[.slice (some ⟨g, 0, none⟩) N cap, .func (.func 89) #[] #[.pointer (some ⟨gc, 0, none⟩), .pointer (some ⟨gl, 0, none⟩)]] w fun e w' => e = .returned (.slice (some ⟨g, 0, none⟩) N cap) ∧ RowN w' g zs ∧ w.grownBy w' (some g) := by
  have hg := Blk.lt hr
  by_cases h2 : N < 2
  · have h2' : (N : Int) < 2 := by omega
    have Hr := Lib.hid hr
    clear hr hc hne hlt hN
    go_enter Tryz.func73, Tryz.ntmps73
    go_wp2
    go_ret
    exact ⟨rfl, Hr.out, World.grownBy.refl _ _⟩
  · have h2' : ¬ (N : Int) < 2 := by omega
    have HC := Lib.hid hc
    have Hlt := Lib.hid hlt
    have Hne := Lib.hid hne
    have HN := Lib.hid hN
    have Hr := Lib.hid hr
    clear hr hc hne hlt hN
    go_enter Tryz.func73, Tryz.ntmps73
    go_wp2
    go_loopw [5] (fun i wr0 => ∃ (wr : World) (k : Nat), wr = wr0 ∧ k < N ∧ i = .int .i64 ((k : Int) + 1) ∧ w.grownBy wr (some g) ∧ Hid (RowN wr g zs)) (fun i _ => N - (intOf i).toNat)
    case atStart => exact ⟨_, 0, rfl, by omega, rfl, World.grownBy.refl _ _, Hr⟩
    case round =>
      obtain ⟨wr, k, rfl, hk, rfl, hG, hR⟩ := hrel
      by_cases hlk : k + 1 < N
      · have hk0 : k < zs.length := by have := HN.out; omega
        have hk1 : k + 1 < zs.length := by have := HN.out; omega
        obtain ⟨x, hx⟩ : ∃ x, zs[k]? = some x := ⟨_, List.getElem?_eq_getElem hk0⟩
        obtain ⟨y, hy⟩ : ∃ y, zs[k + 1]? = some y := ⟨_, List.getElem?_eq_getElem hk1⟩
        have c0 := RowN.at hR.out hx
        have c1 := RowN.at hR.out hy
        have hgr := Blk.lt hR.out
        have hBd : Below wr.heap.size wr wr.drew := (Below.refl _ _).drew
        have hB2 : Below g w0 wr.drew := (hb.trans (gr_below hG (Nat.le_of_lt hg) (Nat.le_refl _))).drew
        have cE := HC.out y x wr.drew hB2 (Nat.le_of_lt hgr) (Hlt.out y (List.mem_of_getElem? hy)) (Hlt.out x (List.mem_of_getElem? hx))
        rw [Hne.out k x y hx hy] at cE
        clear hx hy hk0 hk1
        have hwr : IntKind.i64.wrap ((k : Int) + 1 - 1) = (k : Int) := by rw [IntKind.wrap_i64]; omega
        have hwr2 : IntKind.i64.wrap (k : Int) = (k : Int) := by rw [IntKind.wrap_i64]; omega
        have hi0 : 0 ≤ (k : Int) := by omega
        have hi1 : 0 ≤ (k : Int) + 1 := by omega
        have hi2 : (k : Int) + 1 < (N : Int) := by omega
        have hi3 : (k : Int) < (N : Int) := by omega
        go_wp2_with fail
        go_region_held3 (fun w' => w'.cell? ⟨g, k, none⟩ = some (.int .i64 x) ∧ w'.cell? ⟨g, k + 1, none⟩ = some (.int .i64 y))
          (first | go_keep | (exact ⟨(B4.cell hgr).trans c0, (B4.cell hgr).trans c1⟩))
          (first | (go_at_call 89; ((with_reducible refine cE.mono ?_); rintro e w4 ⟨rfl, hb4⟩; have B4 := bel_trans hBd hb4; have H4 := Lib.hid (Blk.below hR.out B4))))
        have hg4 : wr.grownBy w4 (some g) := gr_of_below B4 B4.tape
        go_wp2
        go_roundw
        case rel => exact ⟨_, k + 1, rfl, by omega, by go_num, hG.trans hg4, H4⟩
        case measure => simp [intOf]; omega
      · have hi2 : ¬ (k : Int) + 1 < (N : Int) := by omega
        go_wp2
        go_ret
        exact ⟨rfl, hR.out, hG⟩
end Go.Proofs.YtjjfbgadpgckeaaGreat.C
