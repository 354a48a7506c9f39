/-
  What is proved: the law over what a claim is with another name for a variable.
-/
import Derived.Test.YtnhemglpbhnmdaaGreatZSbRn
import Derived.Test.YtnhemglpbhnmdaaGreatZSbTc
import Derived.Test.YtnhemglpbhnmdaaGreatZSbAw
import Derived.Test.YtnhemglpbhnmdaaGreatZSbTe
import Derived.Test.YtnhemglpbhnmdaaGreatZSbCo
import Derived.Test.YtnhemglpbhnmdaaGreatZSbV
import Derived.Test.YtnhemglpbhnmdaaGreatZClmX
import Derived.Test.YtnhemglpbhnmdaaGreatBC
import Derived.Test.YtnhemglpbhnmdaaGreatZLibHs
namespace Go.Proofs.YtnhemglpbhnmdaaGreat.U
open Go.RowKit L T C B
set_option linter.unusedVariables false
set_option linter.unusedSimpArgs false

theorem ownS_len {w : World} {base : Nat} {v : Value} {X : List ByteArray} (h : OwnS w base v X) : X.length ≤ 9223372036854775807 := by
  rcases h.2 with ⟨rfl, hn⟩ | ⟨g, cap, cur, rfl, hb, hg, hnc, hcm, hcs, ht⟩
  · omega
  · unfold maxLen at hcm; omega
mutual
theorem sm_ren {a b : ByteArray} (hb : b.size ≤ maxLen) (K : Int) : ∀ t : Tm, smT t → smT (sbT (getK (ren1 a b) K) t)
  | .mk o s z l, h => by
    rw [smT] at h
    by_cases hv : o = 1 ∧ a = s
    · rw [sbT_put (t := .mk o s z l) hv.1 (by show getK (ren1 a b) K s = _; rw [getK_ren, if_pos hv.2])]
      unfold varT
      rw [smT, smTs]
      exact ⟨hb, trivial⟩
    · rw [sbT_go (t := .mk o s z l) (by
        by_cases ho : o = 1
        · exact .inr (by show getK (ren1 a b) K s = _; rw [getK_ren, if_neg (fun e => hv ⟨ho, e⟩)])
        · exact .inl ho)]
      show smT (.mk o s z (l.map (sbT (getK (ren1 a b) K))))
      rw [smT, ← sbTs_map]
      exact ⟨h.1, sms_ren hb K l h.2⟩
theorem sms_ren {a b : ByteArray} (hb : b.size ≤ maxLen) (K : Int) : ∀ l : List Tm, smTs l → smTs (sbTs (getK (ren1 a b) K) l)
  | [], _ => by rw [sbTs, smTs]; trivial
  | t :: l, h => by rw [smTs] at h; rw [sbTs, smTs]; exact ⟨sm_ren hb K t h.1, sms_ren hb K l h.2⟩
end
mutual
theorem sz_ren (a b : ByteArray) (K : Int) : ∀ t : Tm, size (sbT (getK (ren1 a b) K) t) ≤ size t
  | .mk o s z l => by
    by_cases hv : o = 1 ∧ a = s
    · rw [sbT_put (t := .mk o s z l) hv.1 (by show getK (ren1 a b) K s = _; rw [getK_ren, if_pos hv.2])]
      unfold varT
      rw [size, size, sizes]; omega
    · rw [sbT_go (t := .mk o s z l) (by
        by_cases ho : o = 1
        · exact .inr (by show getK (ren1 a b) K s = _; rw [getK_ren, if_neg (fun e => hv ⟨ho, e⟩)])
        · exact .inl ho)]
      show size (.mk o s z (l.map (sbT (getK (ren1 a b) K)))) ≤ _
      rw [size, size, ← sbTs_map]
      have := szs_ren a b K l
      omega
theorem szs_ren (a b : ByteArray) (K : Int) : ∀ l : List Tm, sizes (sbTs (getK (ren1 a b) K) l) ≤ sizes l
  | [] => by rw [sbTs]; exact Nat.le_refl _
  | t :: l => by rw [sbTs, sizes, sizes]; have := sz_ren a b K t; have := szs_ren a b K l; omega
end
mutual
theorem smC_ren {a b : ByteArray} (hb : b.size ≤ maxLen) : ∀ (c : Cl) (K : Int), smC c → smC (sbCl (ren1 a b) K c)
  | .mk o s z ts cs, K, h => by
    rw [smC] at h
    rw [sbCl, smC, ← sbTs_map]
    exact ⟨sms_ren hb K ts h.1, smCs_ren hb cs _ h.2⟩
theorem smCs_ren {a b : ByteArray} (hb : b.size ≤ maxLen) : ∀ (l : List Cl) (K : Int), smCs l → smCs (sbCls (ren1 a b) K l)
  | [], K, _ => by rw [sbCls, smCs]; trivial
  | c :: l, K, h => by rw [smCs] at h; rw [sbCls, smCs]; exact ⟨smC_ren hb c K h.1, smCs_ren hb l K h.2⟩
end
mutual
theorem wt_ren (a b : ByteArray) : ∀ (c : Cl) (K : Int), wt (sbCl (ren1 a b) K c) ≤ wt c
  | .mk o s z ts cs, K => by
    rw [sbCl, wt, wt, ← sbTs_map]
    have := szs_ren a b K ts
    have := wts_ren a b cs (if o = 11 ∨ o = 12 then K + 1 else K)
    omega
theorem wts_ren (a b : ByteArray) : ∀ (l : List Cl) (K : Int), wts (sbCls (ren1 a b) K l) ≤ wts l
  | [], K => by rw [sbCls]; exact Nat.le_refl _
  | c :: l, K => by rw [sbCls, wts, wts]; have := wt_ren a b c K; have := wts_ren a b l K; omega
end
theorem ren_any (from_ to_ : ByteArray) (hf : from_.size ≤ maxLen) (t : Cl) (hst : smC t) (hsz : wt t ≤ 1000000) (ks : SS) (a : Option Addr) (n c : Nat) (w : World) (hA : ArWC w t ks a n c) :
    Calls Tryz.prog 9 #[.agg #[.int .i64 (opC t), .string (nmC t), .string (soC t), .slice ks.a ks.n ks.c, .slice a n c], .string from_, .string to_] w fun e w' => AnyC (sbCl (ren1 from_ to_) 0 t) w e w' :=
  (Rename_any from_ to_ hf t hst hsz ks a n c w hA).mono fun e w1 h => by
    obtain ⟨ka, kn, kc, a, n, c, e1, hA, hb⟩ := h
    exact ⟨ka, kn, kc, a, n, c, e1, ArCP.ar (fun b hb => by unfold Nw at hb; omega) _ hA, hb⟩
theorem ren_ref (from_ to_ : ByteArray) (t : Cl) (hsz : wt t ≤ 1000000) (A : Option Addr) (m d : Nat) (ks : SS) (a : Option Addr) (n c : Nat) (w : World) (hU : UsW w A m d (ren1 from_ to_)) (hA : ArWC w t ks a n c) :
    Calls Tryz.prog 11 #[.slice A m d, .agg #[.int .i64 (opC t), .string (nmC t), .string (soC t), .slice ks.a ks.n ks.c, .slice a n c]] w fun e w' => AnyC (sbCl (ren1 from_ to_) 0 t) w e w' := by
  have h := ApplyClaim10_any (ren1 from_ to_) (fun p hp => by rw [List.mem_singleton.1 hp]; show size (varT to_) ≤ 1000000; unfold varT; rw [size, sizes]; omega) t hsz A m d ks a n c w hU hA
  rw [sbRl_eq (fun p hp => by rw [List.mem_singleton.1 hp]; show okN (varT to_); unfold varT; rw [okN, okNs]; exact ⟨fun e => by omega, trivial⟩) t 0 (Int.le_refl _) (by omega)] at h
  exact h
theorem names_one (t : Cl) (hsz : wt t ≤ 10000) (ks : SS) (a : Option Addr) (n c : Nat) (w : World) (hA : ArWC w t ks a n c) :
    Calls Tryz.prog 13 #[.slice (some ⟨w.heap.size, 0, none⟩) 1 1] (w.alloc (.cells #[.int .i64 (opC t), .string (nmC t), .string (soC t), .slice ks.a ks.n ks.c, .slice a n c] 25)) fun e w' => ∃ (A : Option Addr) (N C : Nat), e = .returned (.slice A N C) ∧ (IsS w' A N (names (tsAll t)) ∧ N ≤ 9223372036854775807) ∧ Below w.heap.size w w' := by
  have hb : Below w.heap.size w (w.alloc (.cells #[.int .i64 (opC t), .string (nmC t), .string (soC t), .slice ks.a ks.n ks.c, .slice a n c] 25)) := bel_alloc (Below.refl _ _) _
  have S := CBox.new w (opC t) (nmC t) (soC t) ks a n c
  have hC : CsW (w.alloc (.cells #[.int .i64 (opC t), .string (nmC t), .string (soC t), .slice ks.a ks.n ks.c, .slice a n c] 25)) (some ⟨w.heap.size, 0, none⟩) 1 1 [t] := by
    refine ⟨rfl, Nat.le_refl _, by unfold maxLen; omega, (fun h => by cases h), (fun _ => ⟨_, _, rfl, by simp, ?_⟩)⟩
    rw [RwC]
    obtain ⟨c0, c1, c2, c3, c4⟩ := S.five
    exact ⟨⟨ks, a, n, c, by simp, by simp, by simp, by simp, by simp, ArWC.b hA hb⟩, by rw [RwC]; trivial⟩
  refine (ClaimNames_any [t] _ 1 1 _ hC (by rw [wts, wts]; omega)).mono fun e w' h => ?_
  obtain ⟨v, rfl, ho, hb2⟩ := h
  rw [tsAlls, tsAlls, List.append_nil] at ho
  obtain ⟨A, c', rfl, hS⟩ := ho.slS
  exact ⟨A, _, c', rfl, ⟨hS.1, ownS_len ho⟩, bel_trans hb hb2⟩
set_option maxRecDepth 100000 in
set_option maxHeartbeats 32000000 in
theorem renamesB (c : Cl) (kA : SS) (aA : Option Addr) (nA cA : Nat) (f g : ByteArray) (w : World) (HA : ArWC w c kA aA nA cA) (hsc : smC c) (hf : f.size ≤ maxLen) (hg : g.size ≤ maxLen) :
    Calls Tryz.prog 3 #[.agg #[.int .i64 (opC c), .string (nmC c), .string (soC c), .slice kA.a kA.n kA.c, .slice aA nA cA], .string f, .string g] w fun e w' => e = .returned (.bool true) ∧ Below w.heap.size w w' := by
  obtain ⟨W, hW, hB0, hs, SC⟩ := cbox1 w (opC c) (nmC c) (soC c) kA aA nA cA
  have gA := ArWC.b HA hB0
  have g0 := fun (w' : World) => goes_any w'
  have zA := fun (w' : World) (h : Below W.heap.size W w') => Big_any c kA aA nA cA 60 w' (by omega) (ArWC.b gA h)
  rw [show ((60 : Nat) : Int) = 60 from rfl] at zA
  have HSA := Lib.hid SC
  obtain ⟨a0, a1, a2, a3, a4⟩ := SC.five
  have hBd : Below W.heap.size W W := Below.refl _ _
  have ls : w.heap.size < W.heap.size := by omega
  have HP := Lib.hid (show wtTo 60 c ≤ 60 →
      (∀ (w' : World), Below W.heap.size W w' → Calls Tryz.prog 7 #[.slice none 0 0, .agg #[.int .i64 (opC c), .string (nmC c), .string (soC c), .slice kA.a kA.n kA.c, .slice aA nA cA]] w' fun e w1 => e = .returned (.bool (r10 [] c)) ∧ Below w'.heap.size w' w1) ∧
      (∀ (w' : World), Below W.heap.size W w' → Calls Tryz.prog 9 #[.agg #[.int .i64 (opC c), .string (nmC c), .string (soC c), .slice kA.a kA.n kA.c, .slice aA nA cA], .string f, .string g] w' fun e w1 => AnyC (sbCl (ren1 f g) 0 c) w' e w1) ∧
      (∀ (A : Option Addr) (w' : World), Below W.heap.size W w' → UsW w' A 1 1 (ren1 f g) → Calls Tryz.prog 11 #[.slice A 1 1, .agg #[.int .i64 (opC c), .string (nmC c), .string (soC c), .slice kA.a kA.n kA.c, .slice aA nA cA]] w' fun e w1 => AnyC (sbCl (ren1 f g) 0 c) w' e w1) ∧
      (∀ (w' : World), Below W.heap.size W w' → Calls Tryz.prog 13 #[.slice (some ⟨w'.heap.size, 0, none⟩) 1 1] (w'.alloc (.cells #[.int .i64 (opC c), .string (nmC c), .string (soC c), .slice kA.a kA.n kA.c, .slice aA nA cA] 25)) fun e w1 => ∃ (A : Option Addr) (N C : Nat), e = .returned (.slice A N C) ∧ (IsS w1 A N (names (tsAll c)) ∧ N ≤ 9223372036854775807) ∧ Below w'.heap.size w' w1) ∧
      (∀ (K0 : Option Addr) (K1 K2 : Nat) (A : Option Addr) (N C : Nat) (w' : World), ArWC w' (sbCl (ren1 f g) 0 c) ⟨K0, K1, K2⟩ A N C → Calls Tryz.prog 9 #[.agg #[.int .i64 (opC (sbCl (ren1 f g) 0 c)), .string (nmC (sbCl (ren1 f g) 0 c)), .string (soC (sbCl (ren1 f g) 0 c)), .slice K0 K1 K2, .slice A N C], .string g, .string f] w' fun e w1 => AnyC (sbCl (ren1 g f) 0 (sbCl (ren1 f g) 0 c)) w' e w1) from fun h3 => by
    have hw := Nat.le_trans (wtTo_le c 60 h3) h3
    have hw1 := wt_ren f g c 0
    exact ⟨fun w' h => right10E_any [] c (by omega) none 0 0 kA aA nA cA w' (UsW.nil _) (ArWC.b gA h), fun w' h => ren_any f g hf c hsc (by omega) kA aA nA cA w' (ArWC.b gA h),
      fun A w' h hU => ren_ref f g c (by omega) A 1 1 kA aA nA cA w' hU (ArWC.b gA h), fun w' h => names_one c (by omega) kA aA nA cA w' (ArWC.b gA h),
      fun K0 K1 K2 A N C w' h => ren_any g f hg _ (smC_ren hg c 0 hsc) (by omega) ⟨K0, K1, K2⟩ A N C w' h⟩)
  have cEx := fun (r : Cl) (K0 : Option Addr) (K1 K2 : Nat) (A : Option Addr) (N C : Nat) (V0 : Option Addr) (V1 V2 : Nat) (A' : Option Addr) (N' C' : Nat) (w' : World) (h : ArWC w' r ⟨K0, K1, K2⟩ A N C) (h' : ArWC w' r ⟨V0, V1, V2⟩ A' N' C') => (Exact_any r r ⟨K0, K1, K2⟩ A N C ⟨V0, V1, V2⟩ A' N' C' w' h h').mono (R' := fun e w1 => e = .returned (.bool true) ∧ Below w'.heap.size w' w1) fun e w1 h => by rw [exC_refl] at h; exact h
  have HBack := Lib.hid (show r10 [] c = true → hasS (names (tsAll c)) g = false → sbCl (ren1 g f) 0 (sbCl (ren1 f g) 0 c) = c from fun h1 h2 => back_claim h1 h2)
  have HgA := Lib.hid (show ∀ (w' : World), Below W.heap.size W w' → ArWC w' c kA aA nA cA from fun w' h => ArWC.b gA h)
  have cHs := fun (A : Option Addr) (N C : Nat) (w' : World) (h : IsS w' A N (names (tsAll c))) (h2 : N ≤ 9223372036854775807) => Has_any A N C (names (tsAll c)) g w' h h2
  obtain ⟨kAa, kAn, kAc⟩ := kA
  dsimp only at *
  clear SC gA HA hsc hs hf hg
  unfold AnyC at HP
  generalize hRR : r10 [] c = RR at *
  generalize wtTo 60 c = wz at *
  generalize names (tsAll c) = NM at *
  generalize sbCl (ren1 g f) 0 (sbCl (ren1 f g) 0 c) = r2 at *
  generalize sbCl (ren1 f g) 0 c = r1 at *
  generalize hHS : hasS NM g = HS at *
  clear hRR hHS
  by_cases q2 : wz ≤ 60
  · have p2 : decide (60 < wz) = false := decide_eq_false (by omega)
    rw [p2] at zA
    obtain ⟨c1, c2, c3, c4, c5⟩ := HP.out q2
    clear HP p2 q2
    cases RR with
    | false =>
      clear c2 c3 c4 c5 HBack cHs HgA cEx
      generalize opC c = oA at *
      generalize nmC c = mA at *
      generalize soC c = pA at *
      go_enter Tryz.func3, Tryz.ntmps3
      go_wp2_with (first
        | (go_at_call 6; ((with_reducible refine (zA _ (by assumption)).mono ?_); rintro e wX ⟨rfl, hbX⟩; have Bz := bel_trans (a := W) (by assumption) hbX; obtain ⟨a0, a1, a2, a3, a4⟩ := (CBox.b HSA.out Bz).five))
        | (go_at_call 7; ((with_reducible refine (c1 _ (by assumption)).mono ?_); rintro e wX ⟨rfl, hbX⟩; have Bz := bel_trans (a := W) (by assumption) hbX))
        | (go_at_call 8; ((with_reducible refine (g0 _).mono ?_); rintro e wX ⟨rfl, hbX⟩; have Bz := bel_trans (a := W) (by assumption) hbX)))
      go_ret
      exact ⟨rfl, bel_trans hB0 Bz⟩
    | true =>
      have HB2 := Lib.hid (HBack.out rfl)
      clear HBack
      have HCn := Lib.hid (show opC c = opC c ∧ nmC c = nmC c ∧ soC c = soC c from ⟨rfl, rfl, rfl⟩)
      have HEx2 := Lib.hid (show HS = false → ∀ (K0 : Option Addr) (K1 K2 : Nat) (A : Option Addr) (N C : Nat) (w' : World), Below W.heap.size W w' → ArWC w' r2 ⟨K0, K1, K2⟩ A N C → Calls Tryz.prog 10 #[.agg #[.int .i64 (opC r2), .string (nmC r2), .string (soC r2), .slice K0 K1 K2, .slice A N C], .agg #[.int .i64 (opC c), .string (nmC c), .string (soC c), .slice kAa kAn kAc, .slice aA nA cA]] w' fun e w1 => e = .returned (.bool true) ∧ Below w'.heap.size w' w1 from fun h K0 K1 K2 A N C w' hb hA => by
        have e := HB2.out h
        subst e
        exact cEx _ K0 K1 K2 A N C kAa kAn kAc aA nA cA w' hA (HgA.out w' hb))
      have cE1 := cEx r1
      clear cEx HB2 HCn HgA
      generalize opC c = oA at *
      generalize nmC c = mA at *
      generalize soC c = pA at *
      generalize opC r1 = o1 at *
      generalize nmC r1 = m1 at *
      generalize soC r1 = p1 at *
      generalize opC r2 = o2 at *
      generalize nmC r2 = m2 at *
      generalize soC r2 = p2 at *
      go_enter Tryz.func3, Tryz.ntmps3
      go_wp2_with (first
        | (go_at_call 6; ((with_reducible refine (zA _ (by assumption)).mono ?_); rintro e wX ⟨rfl, hbX⟩; have Bz := bel_trans (a := W) (by assumption) hbX; obtain ⟨a0, a1, a2, a3, a4⟩ := (CBox.b HSA.out Bz).five))
        | (go_at_call 7; ((with_reducible refine (c1 _ (by assumption)).mono ?_); rintro e wX ⟨rfl, hbX⟩; have Bz := bel_trans (a := W) (by assumption) hbX; obtain ⟨a0, a1, a2, a3, a4⟩ := (CBox.b HSA.out Bz).five))
        | (go_at_call 9; ((with_reducible refine (c2 _ Bz).mono ?_); rintro e w5 ⟨K0, K1, K2, A2, N2, C2, rfl, hA5, hb5⟩; have HA5 := Lib.hid hA5; clear hA5; obtain ⟨W6, hW6, hB6, hs6, S6⟩ := cbox1 w5 o1 m1 p1 ⟨K0, K1, K2⟩ A2 N2 C2; dsimp only at hW6 S6; obtain ⟨e0, e1, e2, e3, e4⟩ := S6.five; have B56 := bel_trans (bel_trans Bz hb5) hB6; obtain ⟨W7, hW7, hB7, hs7, U7⟩ := ubox1 W6 f 1 g 0 none 0 0; have B7 := bel_trans B56 hB7; have HA7 := Lib.hid (ArWC.b (ArWC.b HA5.out hB6) hB7); have HS7 := Lib.hid (CBox.b S6 hB7); have HU7 := Lib.hid (ren_us U7); clear S6 U7 hs6 hs7)))
      have HQ := Lib.hid (show ∀ (w' : World), Below W7.heap.size W7 w' → w'.cell? ⟨w.heap.size, 0, none⟩ = some (.int .i64 oA) ∧ w'.cell? ⟨w.heap.size, 1, none⟩ = some (.string mA) ∧ w'.cell? ⟨w.heap.size, 2, none⟩ = some (.string pA) ∧ w'.cell? ⟨w.heap.size, 3, none⟩ = some (.slice kAa kAn kAc) ∧ w'.cell? ⟨w.heap.size, 4, none⟩ = some (.slice aA nA cA) ∧ w'.cell? ⟨w5.heap.size, 0, none⟩ = some (.int .i64 o1) ∧ w'.cell? ⟨w5.heap.size, 1, none⟩ = some (.string m1) ∧ w'.cell? ⟨w5.heap.size, 2, none⟩ = some (.string p1) ∧ w'.cell? ⟨w5.heap.size, 3, none⟩ = some (.slice K0 K1 K2) ∧ w'.cell? ⟨w5.heap.size, 4, none⟩ = some (.slice A2 N2 C2) from fun w' h => (by
        obtain ⟨q0, q1, q2, q3, q4⟩ := (CBox.b HSA.out (bel_trans B7 h)).five
        obtain ⟨p0, p1, p2, p3, p4⟩ := (CBox.b HS7.out h).five
        exact ⟨q0, q1, q2, q3, q4, p0, p1, p2, p3, p4⟩))
      have d1 := fun (w' : World) (h : Below W7.heap.size W7 w') => c3 (some ⟨W6.heap.size, 0, none⟩) w' (bel_trans B7 h) (UsW.b HU7.out h)
      have d2 := fun (K50 : Option Addr) (K51 K52 : Nat) (A5 : Option Addr) (N5 C5 : Nat) (w' : World) (h : Below W7.heap.size W7 w') (hX : ArWC w' r1 ⟨K50, K51, K52⟩ A5 N5 C5) => cE1 K0 K1 K2 A2 N2 C2 K50 K51 K52 A5 N5 C5 w' (ArWC.b HA7.out h) hX
      have d3 := fun (w' : World) (h : Below W7.heap.size W7 w') => c4 w' (bel_trans B7 h)
      have d4 := fun (w' : World) (h : Below W7.heap.size W7 w') => c5 K0 K1 K2 A2 N2 C2 w' (ArWC.b HA7.out h)
      have d5 := Lib.hid (show HS = false → ∀ (K50 : Option Addr) (K51 K52 : Nat) (A5 : Option Addr) (N5 C5 : Nat) (w' : World), Below W7.heap.size W7 w' → ArWC w' r2 ⟨K50, K51, K52⟩ A5 N5 C5 → _ from fun hh K50 K51 K52 A5 N5 C5 w' h hX => HEx2.out hh K50 K51 K52 A5 N5 C5 w' (bel_trans B7 h) hX)
      clear c1 c2 c3 c4 c5 cE1 HEx2 hW6 hW7 zA e0 e1 e2 e3 e4 HA5
      obtain ⟨x0, x1, x2, x3, x4, y0, y1, y2, y3, y4⟩ := HQ.out _ (Below.refl _ _)
      have Bs : Below W7.heap.size W7 W7 := Below.refl _ _
      go_region_held3 (fun w' => w'.cell? ⟨w.heap.size, 0, none⟩ = some (.int .i64 oA) ∧ w'.cell? ⟨w.heap.size, 1, none⟩ = some (.string mA) ∧ w'.cell? ⟨w.heap.size, 2, none⟩ = some (.string pA) ∧ w'.cell? ⟨w.heap.size, 3, none⟩ = some (.slice kAa kAn kAc) ∧ w'.cell? ⟨w.heap.size, 4, none⟩ = some (.slice aA nA cA) ∧ w'.cell? ⟨w5.heap.size, 0, none⟩ = some (.int .i64 o1) ∧ w'.cell? ⟨w5.heap.size, 1, none⟩ = some (.string m1) ∧ w'.cell? ⟨w5.heap.size, 2, none⟩ = some (.string p1) ∧ w'.cell? ⟨w5.heap.size, 3, none⟩ = some (.slice K0 K1 K2) ∧ w'.cell? ⟨w5.heap.size, 4, none⟩ = some (.slice A2 N2 C2))
        (first | (exact HQ.out _ (by first | assumption | exact Below.drew (by assumption) | exact Below.refl _ _ | exact (Below.refl _ _).drew)) | go_keep)
        (first
          | (go_at_call 11; ((with_reducible refine (d1 _ (by first | assumption | exact Below.drew (by assumption) | exact Below.refl _ _ | exact (Below.refl _ _).drew)).mono ?_); rintro e wX ⟨K50, K51, K52, A5, N5, C5, rfl, hX, hbX⟩; have Bn : Below W7.heap.size W7 wX := bel_trans (by first | assumption | exact Below.drew (by assumption) | exact Below.refl _ _ | exact (Below.refl _ _).drew) hbX; have HX5 := Lib.hid hX; clear hX))
          | (go_at_call 10; ((with_reducible refine (d2 _ _ _ _ _ _ _ (by first | assumption | exact Below.drew (by assumption) | exact Below.refl _ _ | exact (Below.refl _ _).drew) (by first | exact HX5.out | exact ArWC.b HX5.out (Below.refl _ _).drew)).mono ?_); rintro e wX ⟨rfl, hbX⟩; have Bn : Below W7.heap.size W7 wX := bel_trans (by first | assumption | exact Below.drew (by assumption) | exact Below.refl _ _ | exact (Below.refl _ _).drew) hbX)))
      all_goals obtain ⟨x0, x1, x2, x3, x4, y0, y1, y2, y3, y4⟩ := HQ.out _ Bn
      cases HS with
      | true =>
        clear d1 d2 d4 d5
        go_wp2_with (first
          | (go_at_call 13; ((with_reducible refine (d3 _ Bn).mono ?_); rintro e wN ⟨AN, NN, CN, rfl, hN, hbN⟩; have HN := Lib.hid hN; have Bn := bel_trans Bn hbN; clear hN))
          | (go_at_call 12; ((with_reducible refine (cHs _ _ _ _ HN.out.1 HN.out.2).mono ?_); rintro e wH ⟨rfl, hwH⟩; subst hwH))
          | (go_at_call 8; ((with_reducible refine (g0 _).mono ?_); rintro e wX ⟨rfl, hbX⟩; have Bn := bel_trans Bn hbX)))
        go_ret
        exact ⟨rfl, bel_trans hB0 (bel_trans (a := W) B7 Bn)⟩
      | false =>
        have d6 := d5.out rfl
        clear d1 d2 d5
        go_wp2_with (first
          | (go_at_call 13; ((with_reducible refine (d3 _ Bn).mono ?_); rintro e wN ⟨AN, NN, CN, rfl, hN, hbN⟩; have HN := Lib.hid hN; have Bn := bel_trans Bn hbN; clear hN))
          | (go_at_call 12; ((with_reducible refine (cHs _ _ _ _ HN.out.1 HN.out.2).mono ?_); rintro e wH ⟨rfl, hwH⟩; subst hwH)))
        obtain ⟨x0, x1, x2, x3, x4, y0, y1, y2, y3, y4⟩ := HQ.out _ Bn
        go_region_held3 (fun w' => w'.cell? ⟨w.heap.size, 0, none⟩ = some (.int .i64 oA) ∧ w'.cell? ⟨w.heap.size, 1, none⟩ = some (.string mA) ∧ w'.cell? ⟨w.heap.size, 2, none⟩ = some (.string pA) ∧ w'.cell? ⟨w.heap.size, 3, none⟩ = some (.slice kAa kAn kAc) ∧ w'.cell? ⟨w.heap.size, 4, none⟩ = some (.slice aA nA cA) ∧ w'.cell? ⟨w5.heap.size, 0, none⟩ = some (.int .i64 o1) ∧ w'.cell? ⟨w5.heap.size, 1, none⟩ = some (.string m1) ∧ w'.cell? ⟨w5.heap.size, 2, none⟩ = some (.string p1) ∧ w'.cell? ⟨w5.heap.size, 3, none⟩ = some (.slice K0 K1 K2) ∧ w'.cell? ⟨w5.heap.size, 4, none⟩ = some (.slice A2 N2 C2))
          (first | (exact HQ.out _ (by first | assumption | exact Below.drew (by assumption) | exact Below.refl _ _ | exact (Below.refl _ _).drew)) | go_keep)
          (first
            | (go_at_call 9; ((with_reducible refine (d4 _ (by first | assumption | exact Below.drew (by assumption) | exact Below.refl _ _ | exact (Below.refl _ _).drew)).mono ?_); rintro e wX ⟨K50, K51, K52, A5, N5, C5, rfl, hX, hbX⟩; have Bn : Below W7.heap.size W7 wX := bel_trans (by first | assumption | exact Below.drew (by assumption) | exact Below.refl _ _ | exact (Below.refl _ _).drew) hbX; have HX5 := Lib.hid hX; clear hX))
            | (go_at_call 10; ((with_reducible refine (d6 _ _ _ _ _ _ _ (by first | assumption | exact Below.drew (by assumption) | exact Below.refl _ _ | exact (Below.refl _ _).drew) (by first | exact HX5.out | exact ArWC.b HX5.out (Below.refl _ _).drew)).mono ?_); rintro e wX ⟨rfl, hbX⟩; have Bn : Below W7.heap.size W7 wX := bel_trans (by first | assumption | exact Below.drew (by assumption) | exact Below.refl _ _ | exact (Below.refl _ _).drew) hbX))
            | (go_at_call 8; ((with_reducible refine (g0 _).mono ?_); rintro e wX ⟨rfl, hbX⟩; have Bn : Below W7.heap.size W7 wX := bel_trans (by first | assumption | exact Below.drew (by assumption) | exact Below.refl _ _ | exact (Below.refl _ _).drew) hbX)))
        all_goals go_wp2
        all_goals go_ret
        all_goals exact ⟨rfl, bel_trans hB0 (bel_trans (a := W) B7 Bn)⟩
  · have p2 : decide (60 < wz) = true := decide_eq_true (by omega)
    rw [p2] at zA
    clear HP HBack cHs HgA cEx p2 q2
    generalize opC c = oA at *
    generalize nmC c = mA at *
    generalize soC c = pA at *
    go_enter Tryz.func3, Tryz.ntmps3
    go_wp2_with (first
      | (go_at_call 6; ((with_reducible refine (zA _ (by assumption)).mono ?_); rintro e wX ⟨rfl, hbX⟩; have Bz := bel_trans (a := W) (by assumption) hbX))
      | (go_at_call 8; ((with_reducible refine (g0 _).mono ?_); rintro e wX ⟨rfl, hbX⟩; have Bz := bel_trans (a := W) (by assumption) hbX)))
    go_ret
    exact ⟨rfl, bel_trans hB0 Bz⟩
theorem substRenames (z : ClV) (f g : ByteArray) (w : World) (HA : ArWC w z.t z.k z.a z.n z.c ∧ smC z.t) (hf : f.size ≤ 9223372036854775807) (hg : g.size ≤ 9223372036854775807) :
    Calls Tryz.prog 3 #[z.val, .string f, .string g] w fun e w' => e = .returned (.bool true) ∧ Below w.heap.size w w' :=
  renamesB z.t z.k z.a z.n z.c f g w HA.1 HA.2 (by unfold maxLen; omega) (by unfold maxLen; omega)
end Go.Proofs.YtnhemglpbhnmdaaGreat.U
