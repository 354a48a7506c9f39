/-
  What is proved: the law that a pattern, and a claim, match what a substitution makes of them.
-/
import Derived.Test.YtnhemglpbhnmdaaGreatG1
import Derived.Test.YtnhemglpbhnmdaaGreatZMtAp
import Derived.Test.YtnhemglpbhnmdaaGreatZRgtF
import Derived.Test.YtnhemglpbhnmdaaGreatZSbAc
import Derived.Test.YtnhemglpbhnmdaaGreatZSbAw
import Derived.Test.YtnhemglpbhnmdaaGreatBM
import Derived.Test.YtnhemglpbhnmdaaGreatZSbCo
import Derived.Test.YtnhemglpbhnmdaaGreatZClmQ
import Derived.Test.YtnhemglpbhnmdaaGreatBC
import Derived.Test.YtnhemglpbhnmdaaGreatMX
import Derived.Test.YtnhemglpbhnmdaaGreatG2
import Derived.Test.YtnhemglpbhnmdaaGreatG3
import Derived.Test.YtnhemglpbhnmdaaGreatZSbCp
import Derived.Test.YtnhemglpbhnmdaaGreatZLibAp
import Derived.Test.YtnhemglpbhnmdaaGreatBL
namespace Go.Proofs.YtnhemglpbhnmdaaGreat.Mt
open Go.RowKit L T C B U
open List (getElem_toArray getElem_cons_succ getElem_cons_zero setIfInBounds_toArray set_cons_zero set_cons_succ)
set_option linter.unusedVariables false
set_option linter.unusedSimpArgs false

theorem mf2 (w : World) (o : Int) (s : ByteArray) (z : Int) (a : Option Addr) (n c : Nat) (o' : Int) (s' z' : ByteArray) (k' : SS) (a' : Option Addr) (n' c' : Nat) :
  ∃ W, (w.alloc (.cells #[.int .i64 o, .string s, .int .i64 z, .slice a n c] 31)).alloc (.cells #[.int .i64 o', .string s', .string z', .slice k'.a k'.n k'.c, .slice a' n' c'] 25) = W ∧ Below w.heap.size w W ∧ W.heap.size = w.heap.size + 2 ∧ TBox W w.heap.size o s z a n c ∧ CBox W (w.heap.size + 1) o' s' z' k' a' n' c' := by
 obtain ⟨W1, h1, hb1, hs1, S1⟩ := box1 w o s z a n c
 obtain ⟨W2, h2, hb2, hs2, S2⟩ := cbox1 W1 o' s' z' k' a' n' c'
 refine ⟨W2, by rw [h1]; exact h2, bel_trans hb1 hb2, by omega, TBox.b S1 hb2, ?_⟩
 rw [hs1] at S2
 exact S2
/-- the names so far, and what is known of the pairs so far -/
def FiR (W wr : World) (v : Value) (l : List Pr) : Prop := OwnS wr W.heap.size v (l.map Pr.nm) ∧ Fi l ∧ Below W.heap.size W wr
theorem FiR.step {W wr : World} {v : Value} {l : List Pr} {k : Nat} {x : Pr} (h : FiR W wr v (l.take k)) (hx : l[k]? = some x) (h1 : size x.t ≤ 50) (h2 : mayT x.t = true) (h3 : x.nm.size ≤ 100) {v' : Value} {w' : World} (ho : OwnS w' W.heap.size v' ((l.take k).map Pr.nm ++ [x.nm])) (hb : Below W.heap.size W w') : FiR W w' v' (l.take (k + 1)) := by
 have e : l.take (k + 1) = l.take k ++ [x] := by rw [List.take_add_one, hx]; rfl
 rw [e]
 refine ⟨by rw [List.map_append]; exact ho, fun y hy => ?_, hb⟩
 rcases List.mem_append.1 hy with hy | hy
 ·exact h.2.1 y hy
 ·rw [List.mem_singleton.1 hy]; exact ⟨h1, h2, h3⟩
theorem ownS_lo2 {W : World} {lo : Nat} {v : Value} {X : List ByteArray} (h : OwnS W lo v X) : ∀ r, v.ownBlock = some r → lo ≤ r ∧ r < W.heap.size := fun r hr => World.ownsRow.lt h r hr
theorem one_text {w : World} (x : ByteArray) : SlS (w.alloc (.cells #[.string x] 9)) (some ⟨w.heap.size, 0, none⟩) 1 1 [x] := by
 refine ⟨⟨rfl, fun _ => ⟨w.heap.size, 0, rfl, by simp, fun k hk => ?_⟩⟩, Nat.le_refl _, fun h => by cases h⟩
 have hk0 : k = 0 := by simpa using hk
 subst hk0
 simp
/-- append(vars, x.Name) -/
theorem fi_app {W w : World} {ops : Array Oper} {rest : List Oper} {o : Oper} {a : Act} {Q : Exit → Act → World → Prop} (hgd : o.guard = none) (s x : Operand)
  (ho : o.op = .call { callee := .builtin .append, args := #[s, x], argTypes := #[38, 38] })
  (v : Value) (Y : List ByteArray) (nx : ByteArray) (hs : a.eval s = v) (hx : a.eval x = .slice (some ⟨w.heap.size, 0, none⟩) 1 1) (hown : OwnS w W.heap.size v Y) (hb : Below W.heap.size W w) (hn : Y.length ≤ 1000000)
  (h : ∀ v' w', OwnS w' W.heap.size v' (Y ++ [nx]) → Below W.heap.size W w' → wpList Tryz.prog ops Q rest (a.put o.dst v') w') : wpList Tryz.prog ops Q (o :: rest) a (w.alloc (.cells #[.string nx] 9)) := by
 have hb2 : Below w.heap.size w (w.alloc (.cells #[.string nx] 9)) := bel_alloc (Below.refl _ _) _
 have hs1 := hb.size
 refine app_strs2 hgd s x ho W.heap.size v Y hs (hown.below hb2) _ 1 1 [nx] hx (one_text nx) (by omega) (by simp; omega) fun v' w' h1 h2 => h v' w' h1 ?_
 exact (bel_trans hb hb2).grown h2 (bel_trans hb hb2).size (fun q hq => (ownS_lo2 hown q hq).1)
theorem fi_apply {l : List Pr} {p : Tm} (h : Fi l) (hsp : smT p) (zp : size p ≤ 100) (hl : l.length ≤ 10) (A : Option Addr) (N C : Nat) (a : Option Addr) (n c : Nat) (w : World) (hU : UsW w A N C l) (hA : ArW w p a n c) :
  Calls Tryz.prog 19 #[.slice A N C, .agg #[.int .i64 (opT p), .string (nameT p), .int .i64 (numT p), .slice a n c]] w fun e w1 => ∃ a5 n5 c5, e = .returned (.agg #[.int .i64 (opT (sbT (getK l 0) p)), .string (nameT (sbT (getK l 0) p)), .int .i64 (numT (sbT (getK l 0) p)), .slice a5 n5 c5]) ∧ ArW w1 (sbT (getK l 0) p) a5 n5 c5 ∧ Below w.heap.size w w1 := by
 refine (Apply_any l (fun q hq => by have := (h q hq).1; omega) (fun q hq => by have := (h q hq).2.2; unfold maxLen; omega) (by unfold maxLen; omega) p hsp (by omega) A N C a n c w hU hA).mono fun e1 w1 h => ?_
 obtain ⟨a, n, c, e1, hA, hb⟩ := h
 exact ⟨a, n, c, e1, ArP.ar (fun b hb => by unfold Nw at hb; omega) _ hA, hb⟩
theorem fi_applyC {l : List Pr} {q : Cl} (h : Fi l) (hsq : smC q) (zq : wt q ≤ 100) (hl : l.length ≤ 10) (A : Option Addr) (N C : Nat) (kq : SS) (a : Option Addr) (n c : Nat) (w : World) (hU : UsW w A N C l) (hA : ArWC w q kq a n c) :
  Calls Tryz.prog 23 #[.slice A N C, .agg #[.int .i64 (opC q), .string (nmC q), .string (soC q), .slice kq.a kq.n kq.c, .slice a n c]] w fun e w1 => AnyC (sbCl l 0 q) w e w1 :=
 (ApplyClaim_any l (fun p hp => by have := (h p hp).1; omega) (fun p hp => by have := (h p hp).2.2; unfold maxLen; omega) (by unfold maxLen; omega) q hsq (by omega) A N C kq a n c w hU hA).mono fun e w1 h => (by
  obtain ⟨ka, kn, kc, a, n, c, e1, hA, hb⟩ := h
  exact ⟨ka, kn, kc, a, n, c, e1, ArCP.ar (fun b hb => by unfold Nw at hb; omega) _ hA, hb⟩)
theorem fi_get {l : List Pr} (hz : ∀ x ∈ l, size x.t ≤ 1000000) {s : ByteArray} {u : Tm} (hu : getU l s = some u) (A : Option Addr) (N C : Nat) (w : World) (hU : UsW w A N C l) :
  Calls Tryz.prog 26 #[.slice A N C, .string s] w fun e w1 => ∃ a5 n5 c5, e = .returned (.tuple #[.agg #[.int .i64 (opT u), .string (nameT u), .int .i64 (numT u), .slice a5 n5 c5], .bool true]) ∧ ArW w1 u a5 n5 c5 ∧ Below w.heap.size w w1 := by
 refine (Get_any l hz s A N C w hU).mono fun e w1 h => ?_
 rcases h with ⟨t, a, n, c, h1, h2, h3, h4⟩ | ⟨h1, -, -⟩
 ·rw [hu] at h1; injection h1 with h1; subst h1; exact ⟨a, n, c, h2, h3, h4⟩
 ·rw [hu] at h1; cases h1
set_option maxRecDepth 100000 in
set_option maxHeartbeats 64000000 in
theorem findsB (p : Tm) (ap : Option Addr) (np cp : Nat) (q : Cl) (kq : SS) (aq : Option Addr) (nq cq : Nat) (l : List Pr) (A : Option Addr) (n d : Nat) (w : World)
  (HP : ArW w p ap np cp) (hsp : smT p) (HQ0 : ArWC w q kq aq nq cq) (hsq : smC q) (HU0 : UsW w A n d l) (hsm : ∀ x ∈ l, size x.t ≤ 1000000 → True) :
  Calls Tryz.prog 5 #[.agg #[.int .i64 (opT p), .string (nameT p), .int .i64 (numT p), .slice ap np cp], .agg #[.int .i64 (opC q), .string (nmC q), .string (soC q), .slice kq.a kq.n kq.c, .slice aq nq cq], .slice A n d] w fun e w' => e = .returned (.bool true) ∧ Below w.heap.size w w' := by
 obtain ⟨W, hW, hB0, hs2, SP, SQ⟩ := mf2 w (opT p) (nameT p) (numT p) ap np cp (opC q) (nmC q) (soC q) kq aq nq cq
 have gP := ArW.b HP hB0
 have gQ := ArWC.b HQ0 hB0
 have gU := UsW.b HU0 hB0
 have zP := fun (w' : World) (hb : Below W.heap.size W w') => Size_any p ap np cp 100 w' (by omega) (ArW.b gP hb)
 have zQ := fun (w' : World) (hb : Below W.heap.size W w') => Big_any q kq aq nq cq 100 w' (by omega) (ArWC.b gQ hb)
 have z8 := fun (w' : World) (hb : Below W.heap.size W w') => Right8C_any q kq aq nq cq w' (ArWC.b gQ hb)
 rw [show ((100 : Nat) : Int) = 100 from rfl] at zP zQ
 have g0 := fun (w' : World) => alive11_any w'
 have hln : n = l.length := HU0.1
 have hn63 : n ≤ 9223372036854775807 := HU0.lt63
 have HSP := Lib.hid SP
 have HSQ := Lib.hid SQ
 have HQ := Lib.hid (show ∀ (w' : World), Below W.heap.size W w' → (w'.cell? ⟨w.heap.size, 0, none⟩ = some (.int .i64 (opT p)) ∧ w'.cell? ⟨w.heap.size, 1, none⟩ = some (.string (nameT p)) ∧ w'.cell? ⟨w.heap.size, 2, none⟩ = some (.int .i64 (numT p)) ∧ w'.cell? ⟨w.heap.size, 3, none⟩ = some (.slice ap np cp) ∧ w'.cell? ⟨w.heap.size + 1, 0, none⟩ = some (.int .i64 (opC q)) ∧ w'.cell? ⟨w.heap.size + 1, 1, none⟩ = some (.string (nmC q)) ∧ w'.cell? ⟨w.heap.size + 1, 2, none⟩ = some (.string (soC q)) ∧ w'.cell? ⟨w.heap.size + 1, 3, none⟩ = some (.slice kq.a kq.n kq.c) ∧ w'.cell? ⟨w.heap.size + 1, 4, none⟩ = some (.slice aq nq cq)) from fun w' h => (by
  obtain ⟨p0, p1, p2, p3⟩ := (TBox.b HSP.out h).four
  obtain ⟨q0, q1, q2, q3, q4⟩ := (CBox.b HSQ.out h).five
  exact ⟨p0, p1, p2, p3, q0, q1, q2, q3, q4⟩))
 have HU := Lib.hid (show ∀ (w' : World), Below W.heap.size W w' → UsW w' A n d l from fun w' h => UsW.b gU h)
 have HLn := Lib.hid hln
 have HM := Lib.hid (show szTo 100 p ≤ 100 → wtTo 100 q ≤ 100 → n ≤ 10 → Fi l → ∃ L1 L2 : List Pr,
   (∀ x ∈ L1 ++ L2, getU l x.nm = some x.t) ∧ L1.length ≤ 100 ∧ L2.length ≤ 100 ∧
   (∀ w', Below W.heap.size W w' → Calls Tryz.prog 19 #[.slice A n d, .agg #[.int .i64 (opT p), .string (nameT p), .int .i64 (numT p), .slice ap np cp]] w' fun e w1 => ∃ a5 n5 c5, e = .returned (.agg #[.int .i64 (opT (sbT (getK l 0) p)), .string (nameT (sbT (getK l 0) p)), .int .i64 (numT (sbT (getK l 0) p)), .slice a5 n5 c5]) ∧ ArW w1 (sbT (getK l 0) p) a5 n5 c5 ∧ Below w'.heap.size w' w1) ∧
   (∀ w', Below W.heap.size W w' → Calls Tryz.prog 23 #[.slice A n d, .agg #[.int .i64 (opC q), .string (nmC q), .string (soC q), .slice kq.a kq.n kq.c, .slice aq nq cq]] w' fun e w1 => AnyC (sbCl l 0 q) w' e w1) ∧
   (∀ (a' : Option Addr) (n' c' : Nat) (aX : Option Addr) (nX cX : Nat) w', Below W.heap.size W w' → ArW w' (sbT (getK l 0) p) a' n' c' → IsS w' aX nX (l.map Pr.nm) → Calls Tryz.prog 16 #[.agg #[.int .i64 (opT p), .string (nameT p), .int .i64 (numT p), .slice ap np cp], .agg #[.int .i64 (opT (sbT (getK l 0) p)), .string (nameT (sbT (getK l 0) p)), .int .i64 (numT (sbT (getK l 0) p)), .slice a' n' c'], .slice aX nX cX] w' fun e w1 => TwoPs L1 w' e w1) ∧
   (∀ (k0 : Option Addr) (k1 k2 : Nat) (a' : Option Addr) (n' c' : Nat) (aX : Option Addr) (nX cX : Nat) w', Below W.heap.size W w' → ArWC w' (sbCl l 0 q) ⟨k0, k1, k2⟩ a' n' c' → IsS w' aX nX (l.map Pr.nm) → Calls Tryz.prog 17 #[.agg #[.int .i64 (opC q), .string (nmC q), .string (soC q), .slice kq.a kq.n kq.c, .slice aq nq cq], .agg #[.int .i64 (opC (sbCl l 0 q)), .string (nmC (sbCl l 0 q)), .string (soC (sbCl l 0 q)), .slice k0 k1 k2, .slice a' n' c'], .slice aX nX cX] w' fun e w1 => TwoPs L2 w' e w1) ∧
   (∀ (A1 : Option Addr) (N1 C1 : Nat) (a' : Option Addr) (n' c' : Nat) (aX : Option Addr) (nX cX : Nat) w', Below W.heap.size W w' → UsW w' A1 N1 C1 L1 → ArW w' (sbT (getK l 0) p) a' n' c' → IsS w' aX nX (l.map Pr.nm) → Calls Tryz.prog 27 #[.slice A1 N1 C1, .agg #[.int .i64 (opT p), .string (nameT p), .int .i64 (numT p), .slice ap np cp], .agg #[.int .i64 (opT (sbT (getK l 0) p)), .string (nameT (sbT (getK l 0) p)), .int .i64 (numT (sbT (getK l 0) p)), .slice a' n' c'], .slice aX nX cX] w' fun e w1 => TwoPs L1 w' e w1) from fun h1 h2 h3 hF => by
  have zp := (szTo_le p 100).1 h1
  have zq := Nat.le_trans (wtTo_le q 100 h2) h2
  have hl : l.length ≤ 10 := by omega
  obtain ⟨L1, L2, m1, m2, m3, m4, m5, m6, m7⟩ := fi_all hF hsp hsq zp zq
  exact ⟨L1, L2, m4, m5, m6, fun w' hb => fi_apply hF hsp zp hl A n d ap np cp w' (UsW.b gU hb) (ArW.b gP hb), fun w' hb => fi_applyC hF hsq zq hl A n d kq aq nq cq w' (UsW.b gU hb) (ArWC.b gQ hb),
   fun a' n' c' aX nX cX w' hb hT hX => fi_term hF hsp zp m1 hl ap np cp a' n' c' aX nX cX w' (ArW.b gP hb) hT hX, fun k0 k1 k2 a' n' c' aX nX cX w' hb hT hX => fi_claim hF hsq zq m2 hl kq aq nq cq ⟨k0, k1, k2⟩ a' n' c' aX nX cX w' (ArWC.b gQ hb) hT hX,
   fun A1 N1 C1 a' n' c' aX nX cX w' hb hU1 hT hX => fi_more hF hsp zp m3 m7 m5 hl A1 N1 C1 ap np cp a' n' c' aX nX cX w' hU1 (ArW.b gP hb) hT hX⟩)
 have cPs := fun (L' : List Pr) (A : Option Addr) (N C : Nat) (A' : Option Addr) (N' C' : Nat) (w' : World) (h : UsW w' A N C L') (h' : UsW w' A' N' C' L') => (Pairs_any L' L' A N C A' N' C' w' h h').mono (R' := fun e w1 => e = .returned (.bool true) ∧ Below w'.heap.size w' w1) fun e w1 h => by rw [eqPs_refl] at h; exact h
 obtain ⟨kqa, kqn, kqc⟩ := kq
 dsimp only at *
 have hBd : Below W.heap.size W W := Below.refl _ _
 obtain ⟨s0, s1, s2, s3, q0, q1, q2, q3, q4⟩ := HQ.out _ hBd
 clear SP SQ gP gQ gU HP HQ0 HU0 hsp hsq hsm hs2 HSP HSQ hln
 unfold AnyC TwoPs at HM
 have HZ : ∀ t' : Tm, sbT (getK l 0) p = t' → True := fun _ _ => trivial
 clear HZ
 generalize hSb : sbT (getK l 0) p = tS at *
 generalize hSc : sbCl l 0 q = cS at *
 clear hSb hSc
 generalize szTo 100 p = wp at *
 generalize wtTo 100 q = wq at *
 generalize crightE q = E at *
 generalize opT p = op at *
 generalize nameT p = mp at *
 generalize numT p = zp at *
 generalize opC q = oq at *
 generalize nmC q = mq at *
 generalize soC q = zq at *
 generalize opT tS = oS at *
 generalize nameT tS = mS at *
 generalize numT tS = zS at *
 generalize opC cS = oC at *
 generalize nmC cS = mC at *
 generalize soC cS = zC at *
 by_cases h1 : wp ≤ 100
 ·have p1 : decide ((100 : Int) < (wp : Int)) = false := decide_eq_false (by omega)
  by_cases h2 : wq ≤ 100
  ·have p2 : decide (100 < wq) = false := decide_eq_false (by omega)
   rw [p2] at zQ
   by_cases h3 : n ≤ 10
   ·have p3 : decide ((10 : Int) < (n : Int)) = false := decide_eq_false (by omega)
    by_cases hE : E = 0
    ·subst hE
     have HF := Lib.hid (HM.out h1 h2 h3)
     have H10 := Lib.hid h3
     clear HM h1 h2 h3
     have hO0 := Lib.hid (show FiR W W (.slice none 0 0) (l.take 0) from ⟨by rw [List.take_zero]; exact OwnS.nil _ _, fun x hx => by simp at hx, Below.refl _ _⟩)
     go_enter Tryz.func5, Tryz.ntmps5
     go_wp2_with (first
      | (go_at_call 24; ((with_reducible refine (zP _ hBd).mono ?_); rintro e wX ⟨rfl, hbX⟩; have Bz := bel_trans hBd hbX; obtain ⟨s0, s1, s2, s3, q0, q1, q2, q3, q4⟩ := HQ.out _ Bz))
      | (go_at_call 6; ((with_reducible refine (zQ _ Bz).mono ?_); rintro e wX ⟨rfl, hbX⟩; have Bz := bel_trans Bz hbX; obtain ⟨s0, s1, s2, s3, q0, q1, q2, q3, q4⟩ := HQ.out _ Bz))
      | (go_at_call 21; ((with_reducible refine (z8 _ Bz).mono ?_); rintro e wX ⟨rfl, hbX⟩; have Bz := bel_trans Bz hbX; obtain ⟨s0, s1, s2, s3, q0, q1, q2, q3, q4⟩ := HQ.out _ Bz)))
     have hO1 := Lib.hid (show FiR W _ (.slice none 0 0) (l.take 0) from ⟨by rw [List.take_zero]; exact OwnS.nil _ _, fun x hx => by simp at hx, Bz⟩)
     go_loopw [7, 40] (fun v i wr0 => ∃ (wr : World) (k : Nat) (v' : Value), v' = v ∧ wr = wr0 ∧ k ≤ n ∧ i = .int .i64 k ∧ Hid (FiR W wr v' (l.take k))) (fun v i _ => n - (intOf i).toNat)
     case atStart => exact ⟨_, 0, _, rfl, rfl, by omega, rfl, hO1⟩
     case round =>
      clear hO0 hO1 zP zQ z8 p1 p2 p3
      obtain ⟨wr, k, v', rfl, rfl, hk, rfl, hR⟩ := hrel
      by_cases hlt : k < n
      ·clear HF cPs
       obtain ⟨hO9, hF9, hB9⟩ := hR.out
       have Bw := hB9
       have HO := Lib.hid hO9
       obtain ⟨bb, o, x, A9, M9, C9, rfl, hb, y0, y1, y2, y3, y4, hx, hok⟩ := (HU.out wr Bw).at hlt
       have HX5 := Lib.hid (show ∀ w', Below wr.heap.size wr w' → w'.cell? ⟨bb, o + k * 5, none⟩ = some (.string x.nm) ∧ True ∧ True ∧ True ∧ True from fun w' h => ⟨(h.cell (p := ⟨bb, _, none⟩) hb).trans y0, trivial, trivial, trivial, trivial⟩)
       obtain ⟨W3, hW3, hB3, hs3, S3⟩ := ubox1 wr x.nm (opT x.t) (nameT x.t) (numT x.t) A9 M9 C9
       obtain ⟨f0, f1, f2, f3, f4⟩ := S3.five
       have HS3 := Lib.hid S3
       have Bl := hB3
       have eS := fun (w' : World) (h : Below wr.heap.size wr w') => Size_any x.t A9 M9 C9 50 w' (by omega) (ArW.b hok h)
       rw [show ((50 : Nat) : Int) = 50 from rfl] at eS
       have eM := fun (w' : World) (h : Below wr.heap.size wr w') => May11_any x.t A9 M9 C9 w' (ArW.b hok h)
       have HTl := Lib.hid (show ((l.take k).map Pr.nm).length ≤ 1000000 from by have h1 := HLn.out; have h2 := H10.out; simp; omega)
       have HSt := Lib.hid (show szTo 50 x.t ≤ 50 → mayT x.t = true → x.nm.size ≤ 100 → ∀ (v6 : Value) (w6 : World), OwnS w6 W.heap.size v6 ((l.take k).map Pr.nm ++ [x.nm]) → Below W.heap.size W w6 → FiR W w6 v6 (l.take (k + 1)) from fun h1 h2 h3 v6 w6 ho hb6 => FiR.step hR.out hx ((szTo_le x.t 50).1 h1) h2 h3 ho hb6)
       have hk0 : 0 ≤ (k : Int) := by omega
       have hk1 : (k : Int) < (n : Int) := by omega
       clear hR hO9 hF9 hok hB9
       generalize szTo 50 x.t = sz at *
       generalize mayT x.t = my at *
       by_cases hs5 : sz ≤ 50
       ·have e1 : decide ((50 : Int) < (sz : Int)) = false := decide_eq_false (by omega)
        cases my with
        | false =>
         have HX := Lib.hid (show ∀ (w' : World), Below W3.heap.size W3 w' → (w'.cell? ⟨wr.heap.size, 0, none⟩ = some (.string x.nm) ∧ w'.cell? ⟨wr.heap.size, 1, none⟩ = some (.int .i64 (opT x.t)) ∧ w'.cell? ⟨wr.heap.size, 2, none⟩ = some (.string (nameT x.t)) ∧ w'.cell? ⟨wr.heap.size, 3, none⟩ = some (.int .i64 (numT x.t)) ∧ w'.cell? ⟨wr.heap.size, 4, none⟩ = some (.slice A9 M9 C9)) from fun w' h => (UBox.b HS3.out h).five)
         clear HSt HTl HO hs5
         have Bl : Below W3.heap.size W3 W3 := Below.refl _ _
         have HBw := Lib.hid (show ∀ w' : World, Below W3.heap.size W3 w' → Below W.heap.size W w' from fun w' h => bel_trans Bw (bel_trans hB3 h))
         have eS := fun (w' : World) (h : Below W3.heap.size W3 w') => eS w' (bel_trans hB3 h)
         have eM := fun (w' : World) (h : Below W3.heap.size W3 w') => eM w' (bel_trans hB3 h)
         clear HS3 hx
         generalize opT x.t = ox at *
         generalize nameT x.t = mx at *
         generalize numT x.t = zx at *
         generalize hnx : x.nm = nx at *
         clear hnx
         go_upto_region 7 with fail
         refine wp_region_noPanic ?_
         refine wp_region_held_drew (S := fun w' => w'.cell? ⟨wr.heap.size, 0, none⟩ = some (.string nx) ∧ w'.cell? ⟨wr.heap.size, 1, none⟩ = some (.int .i64 ox) ∧ w'.cell? ⟨wr.heap.size, 2, none⟩ = some (.string mx) ∧ w'.cell? ⟨wr.heap.size, 3, none⟩ = some (.int .i64 zx) ∧ w'.cell? ⟨wr.heap.size, 4, none⟩ = some (.slice A9 M9 C9)) (by kernel_rfl) (by exact HX.out _ (Below.drew Bl)) (fun hHeld => ?_)
         have Bl := Below.drew Bl
         refine wpAnyH_take (i := 0) (v := ?_) rfl (by kernel_rfl) (by kernel_rfl) (by kernel_rfl) (fun _ _ _ h => h) (Or.inl ⟨by rfl, ?hy⟩) (by assumption) ?_
         case hy => (intro w hSw; (try dsimp only at hSw); go_simp; try (with_reducible rfl))
         (try simp only [getElem_toArray, getElem_cons_succ, getElem_cons_zero, Act.put, setIfInBounds_toArray, set_cons_zero, set_cons_succ])
         refine wpAnyH_take (i := 1) (v := ?_) rfl (by kernel_rfl) (by kernel_rfl) (by kernel_rfl) (fun _ _ _ h => h) (Or.inl ⟨by rfl, ?hy⟩) (by assumption) ?_
         case hy => (intro w hSw; (try dsimp only at hSw); go_simp; try (with_reducible rfl))
         (try simp only [getElem_toArray, getElem_cons_succ, getElem_cons_zero, Act.put, setIfInBounds_toArray, set_cons_zero, set_cons_succ])
         refine wpAnyH_ready (rs := [2]) (by kernel_rfl) (by simp) ?_
         refine AllReadyH.cons rfl (fun KK hKK => ?_) AllReadyH.nil
         go_simp
         (go_at_call 24; ((with_reducible refine (eS _ Bl).mono ?_); rintro e wK ⟨rfl, hbK⟩; have Bl := bel_trans Bl hbK))
         refine hKK.out _ _ (by exact HX.out _ Bl) (fun hHeld => ?_)
         clear hKK KK
         (try simp only [getElem_toArray, getElem_cons_succ, getElem_cons_zero, Act.put, setIfInBounds_toArray, set_cons_zero, set_cons_succ])
         refine wpAnyH_take (i := 3) (v := ?_) rfl (by kernel_rfl) (by kernel_rfl) (by kernel_rfl) (fun _ _ _ h => h) (Or.inl ⟨by rfl, ?hy⟩) (by assumption) ?_
         case hy => (intro w hSw; (try dsimp only at hSw); go_simp; try (with_reducible rfl))
         (try simp only [getElem_toArray, getElem_cons_succ, getElem_cons_zero, Act.put, setIfInBounds_toArray, set_cons_zero, set_cons_succ])
         refine wpAnyH_take (i := 4) (v := ?_) rfl (by kernel_rfl) (by kernel_rfl) (by kernel_rfl) (fun _ _ _ h => h) (Or.inl ⟨by rfl, ?hy⟩) (by assumption) ?_
         case hy => (intro w hSw; (try dsimp only at hSw); go_simp; try (with_reducible rfl))
         (try simp only [getElem_toArray, getElem_cons_succ, getElem_cons_zero, Act.put, setIfInBounds_toArray, set_cons_zero, set_cons_succ])
         refine wpAnyH_take (i := 5) (v := ?_) rfl (by kernel_rfl) (by kernel_rfl) (by kernel_rfl) (fun _ _ _ h => h) (Or.inl ⟨by rfl, ?hy⟩) (by assumption) ?_
         case hy => (intro w hSw; (try dsimp only at hSw); go_simp; try (with_reducible rfl))
         (try simp only [getElem_toArray, getElem_cons_succ, getElem_cons_zero, Act.put, setIfInBounds_toArray, set_cons_zero, set_cons_succ])
         refine wpAnyH_take (i := 6) (v := ?_) rfl (by kernel_rfl) (by kernel_rfl) (by kernel_rfl) (fun _ _ _ h => h) (Or.inl ⟨by rfl, ?hy⟩) (by assumption) ?_
         case hy => (intro w hSw; (try dsimp only at hSw); go_simp; try (with_reducible rfl))
         (try simp only [getElem_toArray, getElem_cons_succ, getElem_cons_zero, Act.put, setIfInBounds_toArray, set_cons_zero, set_cons_succ])
         refine wpAnyH_ready (rs := [7]) (by kernel_rfl) (by simp) ?_
         refine AllReadyH.cons rfl (fun KK hKK => ?_) AllReadyH.nil
         go_simp
         (go_at_call 25; ((with_reducible refine (eM _ Bl).mono ?_); rintro e wK ⟨rfl, hbK⟩; have Bl := bel_trans Bl hbK))
         refine hKK.out _ _ (by exact HX.out _ Bl) (fun hHeld => ?_)
         clear hKK KK
         (try simp only [getElem_toArray, getElem_cons_succ, getElem_cons_zero, Act.put, setIfInBounds_toArray, set_cons_zero, set_cons_succ])
         refine wpAnyH_take (i := 8) (v := ?_) rfl (by kernel_rfl) (by kernel_rfl) (by kernel_rfl) (fun _ _ _ h => h) (Or.inl ⟨by rfl, ?hy⟩) (by assumption) ?_
         case hy => (intro w hSw; (try dsimp only at hSw); go_simp; try (with_reducible rfl))
         (try simp only [getElem_toArray, getElem_cons_succ, getElem_cons_zero, Act.put, setIfInBounds_toArray, set_cons_zero, set_cons_succ])
         refine wpAnyH_take (i := 9) (v := ?_) rfl (by kernel_rfl) (by kernel_rfl) (by kernel_rfl) (fun _ _ _ h => h) (Or.inl ⟨by rfl, ?hy⟩) (by assumption) ?_
         case hy => (intro w hSw; (try dsimp only at hSw); go_simp; try (with_reducible rfl))
         (try simp only [getElem_toArray, getElem_cons_succ, getElem_cons_zero, Act.put, setIfInBounds_toArray, set_cons_zero, set_cons_succ])
         refine wpAnyH_take (i := 10) (v := ?_) rfl (by kernel_rfl) (by kernel_rfl) (by kernel_rfl) (fun _ _ _ h => h) (Or.inl ⟨by rfl, ?hy⟩) (by assumption) ?_
         case hy => (intro w hSw; (try dsimp only at hSw); go_simp; try (with_reducible rfl))
         (try simp only [getElem_toArray, getElem_cons_succ, getElem_cons_zero, Act.put, setIfInBounds_toArray, set_cons_zero, set_cons_succ])
         refine wpAnyH_take (i := 11) (v := undef) rfl (by kernel_rfl) (by kernel_rfl) (by kernel_rfl) (fun _ _ _ h => h) (Or.inr ⟨by rfl, rfl⟩) (by assumption) ?_
         (try simp only [getElem_toArray, getElem_cons_succ, getElem_cons_zero, Act.put, setIfInBounds_toArray, set_cons_zero, set_cons_succ])
         refine wpAnyH_take (i := 12) (v := undef) rfl (by kernel_rfl) (by kernel_rfl) (by kernel_rfl) (fun _ _ _ h => h) (Or.inr ⟨by rfl, rfl⟩) (by assumption) ?_
         (try simp only [getElem_toArray, getElem_cons_succ, getElem_cons_zero, Act.put, setIfInBounds_toArray, set_cons_zero, set_cons_succ])
         refine wpAnyH_take (i := 13) (v := undef) rfl (by kernel_rfl) (by kernel_rfl) (by kernel_rfl) (fun _ _ _ h => h) (Or.inr ⟨by rfl, rfl⟩) (by assumption) ?_
         (try simp only [getElem_toArray, getElem_cons_succ, getElem_cons_zero, Act.put, setIfInBounds_toArray, set_cons_zero, set_cons_succ])
         refine wpAnyH_take (i := 14) (v := undef) rfl (by kernel_rfl) (by kernel_rfl) (by kernel_rfl) (fun _ _ _ h => h) (Or.inr ⟨by rfl, rfl⟩) (by assumption) ?_
         (try simp only [getElem_toArray, getElem_cons_succ, getElem_cons_zero, Act.put, setIfInBounds_toArray, set_cons_zero, set_cons_succ])
         refine wpAnyH_take (i := 15) (v := ?_) rfl (by kernel_rfl) (by kernel_rfl) (by kernel_rfl) (fun _ _ _ h => h) (Or.inl ⟨by rfl, ?hy⟩) (by assumption) ?_
         case hy => (intro w hSw; (try dsimp only at hSw); go_simp; try (with_reducible rfl))
         (try simp only [getElem_toArray, getElem_cons_succ, getElem_cons_zero, Act.put, setIfInBounds_toArray, set_cons_zero, set_cons_succ])
         refine wpAnyH_take (i := 16) (v := ?_) rfl (by kernel_rfl) (by kernel_rfl) (by kernel_rfl) (fun _ _ _ h => h) (Or.inl ⟨by rfl, ?hy⟩) (by assumption) ?_
         case hy => (intro w hSw; (try dsimp only at hSw); go_simp; try (with_reducible rfl))
         (try simp only [getElem_toArray, getElem_cons_succ, getElem_cons_zero, Act.put, setIfInBounds_toArray, set_cons_zero, set_cons_succ])
         refine wpAnyH_take (i := 17) (v := undef) rfl (by kernel_rfl) (by kernel_rfl) (by kernel_rfl) (fun _ _ _ h => h) (Or.inr ⟨by rfl, rfl⟩) (by assumption) ?_
         (try simp only [getElem_toArray, getElem_cons_succ, getElem_cons_zero, Act.put, setIfInBounds_toArray, set_cons_zero, set_cons_succ])
         refine wpAnyH_take (i := 18) (v := undef) rfl (by kernel_rfl) (by kernel_rfl) (by kernel_rfl) (fun _ _ _ h => h) (Or.inr ⟨by rfl, rfl⟩) (by assumption) ?_
         (try simp only [getElem_toArray, getElem_cons_succ, getElem_cons_zero, Act.put, setIfInBounds_toArray, set_cons_zero, set_cons_succ])
         refine wpAnyH_take (i := 19) (v := undef) rfl (by kernel_rfl) (by kernel_rfl) (by kernel_rfl) (fun _ _ _ h => h) (Or.inr ⟨by rfl, rfl⟩) (by assumption) ?_
         (try simp only [getElem_toArray, getElem_cons_succ, getElem_cons_zero, Act.put, setIfInBounds_toArray, set_cons_zero, set_cons_succ])
         refine wpAnyH_take (i := 20) (v := undef) rfl (by kernel_rfl) (by kernel_rfl) (by kernel_rfl) (fun _ _ _ h => h) (Or.inr ⟨by rfl, rfl⟩) (by assumption) ?_
         (try simp only [getElem_toArray, getElem_cons_succ, getElem_cons_zero, Act.put, setIfInBounds_toArray, set_cons_zero, set_cons_succ])
         refine wpAnyH_take (i := 21) (v := undef) rfl (by kernel_rfl) (by kernel_rfl) (by kernel_rfl) (fun _ _ _ h => h) (Or.inr ⟨by rfl, rfl⟩) (by assumption) ?_
         (try simp only [getElem_toArray, getElem_cons_succ, getElem_cons_zero, Act.put, setIfInBounds_toArray, set_cons_zero, set_cons_succ])
         refine wpAnyH_take (i := 22) (v := undef) rfl (by kernel_rfl) (by kernel_rfl) (by kernel_rfl) (fun _ _ _ h => h) (Or.inr ⟨by rfl, rfl⟩) (by assumption) ?_
         (try simp only [getElem_toArray, getElem_cons_succ, getElem_cons_zero, Act.put, setIfInBounds_toArray, set_cons_zero, set_cons_succ])
         refine wpAnyH_take (i := 23) (v := undef) rfl (by kernel_rfl) (by kernel_rfl) (by kernel_rfl) (fun _ _ _ h => h) (Or.inr ⟨by rfl, rfl⟩) (by assumption) ?_
         (try simp only [getElem_toArray, getElem_cons_succ, getElem_cons_zero, Act.put, setIfInBounds_toArray, set_cons_zero, set_cons_succ])
         refine wpAnyH_take (i := 24) (v := undef) rfl (by kernel_rfl) (by kernel_rfl) (by kernel_rfl) (fun _ _ _ h => h) (Or.inr ⟨by rfl, rfl⟩) (by assumption) ?_
         (try simp only [getElem_toArray, getElem_cons_succ, getElem_cons_zero, Act.put, setIfInBounds_toArray, set_cons_zero, set_cons_succ])
         refine wpAnyH_take (i := 25) (v := undef) rfl (by kernel_rfl) (by kernel_rfl) (by kernel_rfl) (fun _ _ _ h => h) (Or.inr ⟨by rfl, rfl⟩) (by assumption) ?_
         (try simp only [getElem_toArray, getElem_cons_succ, getElem_cons_zero, Act.put, setIfInBounds_toArray, set_cons_zero, set_cons_succ])
         refine wpAnyH_take (i := 26) (v := undef) rfl (by kernel_rfl) (by kernel_rfl) (by kernel_rfl) (fun _ _ _ h => h) (Or.inr ⟨by rfl, rfl⟩) (by assumption) ?_
         (try simp only [getElem_toArray, getElem_cons_succ, getElem_cons_zero, Act.put, setIfInBounds_toArray, set_cons_zero, set_cons_succ])
         refine wpAnyH_take (i := 27) (v := undef) rfl (by kernel_rfl) (by kernel_rfl) (by kernel_rfl) (fun _ _ _ h => h) (Or.inr ⟨by rfl, rfl⟩) (by assumption) ?_
         (try simp only [getElem_toArray, getElem_cons_succ, getElem_cons_zero, Act.put, setIfInBounds_toArray, set_cons_zero, set_cons_succ])
         refine wpAnyH_take (i := 28) (v := undef) rfl (by kernel_rfl) (by kernel_rfl) (by kernel_rfl) (fun _ _ _ h => h) (Or.inr ⟨by rfl, rfl⟩) (by assumption) ?_
         (try simp only [getElem_toArray, getElem_cons_succ, getElem_cons_zero, Act.put, setIfInBounds_toArray, set_cons_zero, set_cons_succ])
         refine wpAnyH_take (i := 29) (v := undef) rfl (by kernel_rfl) (by kernel_rfl) (by kernel_rfl) (fun _ _ _ h => h) (Or.inr ⟨by rfl, rfl⟩) (by assumption) ?_
         (try simp only [getElem_toArray, getElem_cons_succ, getElem_cons_zero, Act.put, setIfInBounds_toArray, set_cons_zero, set_cons_succ])
         refine wpAnyH_take (i := 30) (v := ?_) rfl (by kernel_rfl) (by kernel_rfl) (by kernel_rfl) (fun _ _ _ h => h) (Or.inl ⟨by rfl, ?hy⟩) (by assumption) ?_
         case hy => (intro w hSw; (try dsimp only at hSw); go_simp; try (with_reducible rfl))
         (try simp only [getElem_toArray, getElem_cons_succ, getElem_cons_zero, Act.put, setIfInBounds_toArray, set_cons_zero, set_cons_succ])
         (try simp only [getElem_toArray, getElem_cons_succ, getElem_cons_zero, Act.put, setIfInBounds_toArray, set_cons_zero, set_cons_succ])
         refine wpAnyH_done (by kernel_rfl) ?_ _
         refine NoPanic.normal ?_
         all_goals go_wp2_with (go_at_call 15; ((with_reducible refine (g0 _).mono ?_); rintro e wY ⟨rfl, hbY⟩; have Bl := bel_trans Bl hbY))
         all_goals go_ret
         all_goals exact ⟨rfl, bel_trans hB0 (bel_trans Bw (bel_trans hB3 Bl))⟩
        | true =>
         by_cases hn1 : x.nm.size ≤ 100
         ·have e2 : decide ((100 : Int) < (x.nm.size : Int)) = false := decide_eq_false (by omega)
          have HSt := Lib.hid (HSt.out hs5 rfl hn1)
          by_cases hk00 : k = 0
          ·have g1 : decide ((k : Int) > 0) = false := decide_eq_false (by omega)
           have g2 : decide (0 < k) = false := decide_eq_false (by omega)
           have HX := Lib.hid (show ∀ (w' : World), Below W3.heap.size W3 w' → (w'.cell? ⟨wr.heap.size, 0, none⟩ = some (.string x.nm) ∧ w'.cell? ⟨wr.heap.size, 1, none⟩ = some (.int .i64 (opT x.t)) ∧ w'.cell? ⟨wr.heap.size, 2, none⟩ = some (.string (nameT x.t)) ∧ w'.cell? ⟨wr.heap.size, 3, none⟩ = some (.int .i64 (numT x.t)) ∧ w'.cell? ⟨wr.heap.size, 4, none⟩ = some (.slice A9 M9 C9)) from fun w' h => (UBox.b HS3.out h).five)
           have HOw := Lib.hid (show ∀ w' : World, Below W3.heap.size W3 w' → OwnS w' W.heap.size v' ((l.take k).map Pr.nm) from fun w' h => OwnS.below HO.out (bel_trans hB3 h))
           clear hs5 hn1
           clear hk00
           have Bl : Below W3.heap.size W3 W3 := Below.refl _ _
           have HBw := Lib.hid (show ∀ w' : World, Below W3.heap.size W3 w' → Below W.heap.size W w' from fun w' h => bel_trans Bw (bel_trans hB3 h))
           have eS := fun (w' : World) (h : Below W3.heap.size W3 w') => eS w' (bel_trans hB3 h)
           have eM := fun (w' : World) (h : Below W3.heap.size W3 w') => eM w' (bel_trans hB3 h)
           clear HS3 hx
           generalize opT x.t = ox at *
           generalize nameT x.t = mx at *
           generalize numT x.t = zx at *
           generalize hnx : x.nm = nx at *
           clear hnx
           go_upto_region 7 with fail
           refine wp_region_noPanic ?_
           refine wp_region_held_drew (S := fun w' => w'.cell? ⟨wr.heap.size, 0, none⟩ = some (.string nx) ∧ w'.cell? ⟨wr.heap.size, 1, none⟩ = some (.int .i64 ox) ∧ w'.cell? ⟨wr.heap.size, 2, none⟩ = some (.string mx) ∧ w'.cell? ⟨wr.heap.size, 3, none⟩ = some (.int .i64 zx) ∧ w'.cell? ⟨wr.heap.size, 4, none⟩ = some (.slice A9 M9 C9)) (by kernel_rfl) (by exact HX.out _ (Below.drew Bl)) (fun hHeld => ?_)
           have Bl := Below.drew Bl
           refine wpAnyH_take (i := 0) (v := ?_) rfl (by kernel_rfl) (by kernel_rfl) (by kernel_rfl) (fun _ _ _ h => h) (Or.inl ⟨by rfl, ?hy⟩) (by assumption) ?_
           case hy => (intro w hSw; (try dsimp only at hSw); go_simp; try (with_reducible rfl))
           (try simp only [getElem_toArray, getElem_cons_succ, getElem_cons_zero, Act.put, setIfInBounds_toArray, set_cons_zero, set_cons_succ])
           refine wpAnyH_take (i := 1) (v := ?_) rfl (by kernel_rfl) (by kernel_rfl) (by kernel_rfl) (fun _ _ _ h => h) (Or.inl ⟨by rfl, ?hy⟩) (by assumption) ?_
           case hy => (intro w hSw; (try dsimp only at hSw); go_simp; try (with_reducible rfl))
           (try simp only [getElem_toArray, getElem_cons_succ, getElem_cons_zero, Act.put, setIfInBounds_toArray, set_cons_zero, set_cons_succ])
           refine wpAnyH_ready (rs := [2]) (by kernel_rfl) (by simp) ?_
           refine AllReadyH.cons rfl (fun KK hKK => ?_) AllReadyH.nil
           go_simp
           (go_at_call 24; ((with_reducible refine (eS _ Bl).mono ?_); rintro e wK ⟨rfl, hbK⟩; have Bl := bel_trans Bl hbK))
           refine hKK.out _ _ (by exact HX.out _ Bl) (fun hHeld => ?_)
           clear hKK KK
           (try simp only [getElem_toArray, getElem_cons_succ, getElem_cons_zero, Act.put, setIfInBounds_toArray, set_cons_zero, set_cons_succ])
           refine wpAnyH_take (i := 3) (v := ?_) rfl (by kernel_rfl) (by kernel_rfl) (by kernel_rfl) (fun _ _ _ h => h) (Or.inl ⟨by rfl, ?hy⟩) (by assumption) ?_
           case hy => (intro w hSw; (try dsimp only at hSw); go_simp; try (with_reducible rfl))
           (try simp only [getElem_toArray, getElem_cons_succ, getElem_cons_zero, Act.put, setIfInBounds_toArray, set_cons_zero, set_cons_succ])
           refine wpAnyH_take (i := 4) (v := ?_) rfl (by kernel_rfl) (by kernel_rfl) (by kernel_rfl) (fun _ _ _ h => h) (Or.inl ⟨by rfl, ?hy⟩) (by assumption) ?_
           case hy => (intro w hSw; (try dsimp only at hSw); go_simp; try (with_reducible rfl))
           (try simp only [getElem_toArray, getElem_cons_succ, getElem_cons_zero, Act.put, setIfInBounds_toArray, set_cons_zero, set_cons_succ])
           refine wpAnyH_take (i := 5) (v := ?_) rfl (by kernel_rfl) (by kernel_rfl) (by kernel_rfl) (fun _ _ _ h => h) (Or.inl ⟨by rfl, ?hy⟩) (by assumption) ?_
           case hy => (intro w hSw; (try dsimp only at hSw); go_simp; try (with_reducible rfl))
           (try simp only [getElem_toArray, getElem_cons_succ, getElem_cons_zero, Act.put, setIfInBounds_toArray, set_cons_zero, set_cons_succ])
           refine wpAnyH_take (i := 6) (v := ?_) rfl (by kernel_rfl) (by kernel_rfl) (by kernel_rfl) (fun _ _ _ h => h) (Or.inl ⟨by rfl, ?hy⟩) (by assumption) ?_
           case hy => (intro w hSw; (try dsimp only at hSw); go_simp; try (with_reducible rfl))
           (try simp only [getElem_toArray, getElem_cons_succ, getElem_cons_zero, Act.put, setIfInBounds_toArray, set_cons_zero, set_cons_succ])
           refine wpAnyH_ready (rs := [7]) (by kernel_rfl) (by simp) ?_
           refine AllReadyH.cons rfl (fun KK hKK => ?_) AllReadyH.nil
           go_simp
           (go_at_call 25; ((with_reducible refine (eM _ Bl).mono ?_); rintro e wK ⟨rfl, hbK⟩; have Bl := bel_trans Bl hbK))
           refine hKK.out _ _ (by exact HX.out _ Bl) (fun hHeld => ?_)
           clear hKK KK
           (try simp only [getElem_toArray, getElem_cons_succ, getElem_cons_zero, Act.put, setIfInBounds_toArray, set_cons_zero, set_cons_succ])
           refine wpAnyH_take (i := 8) (v := ?_) rfl (by kernel_rfl) (by kernel_rfl) (by kernel_rfl) (fun _ _ _ h => h) (Or.inl ⟨by rfl, ?hy⟩) (by assumption) ?_
           case hy => (intro w hSw; (try dsimp only at hSw); go_simp; try (with_reducible rfl))
           (try simp only [getElem_toArray, getElem_cons_succ, getElem_cons_zero, Act.put, setIfInBounds_toArray, set_cons_zero, set_cons_succ])
           refine wpAnyH_take (i := 9) (v := ?_) rfl (by kernel_rfl) (by kernel_rfl) (by kernel_rfl) (fun _ _ _ h => h) (Or.inl ⟨by rfl, ?hy⟩) (by assumption) ?_
           case hy => (intro w hSw; (try dsimp only at hSw); go_simp; try (with_reducible rfl))
           (try simp only [getElem_toArray, getElem_cons_succ, getElem_cons_zero, Act.put, setIfInBounds_toArray, set_cons_zero, set_cons_succ])
           refine wpAnyH_take (i := 10) (v := ?_) rfl (by kernel_rfl) (by kernel_rfl) (by kernel_rfl) (fun _ _ _ h => h) (Or.inl ⟨by rfl, ?hy⟩) (by assumption) ?_
           case hy => (intro w hSw; (try dsimp only at hSw); go_simp; try (with_reducible rfl))
           (try simp only [getElem_toArray, getElem_cons_succ, getElem_cons_zero, Act.put, setIfInBounds_toArray, set_cons_zero, set_cons_succ])
           refine wpAnyH_take (i := 11) (v := ?_) rfl (by kernel_rfl) (by kernel_rfl) (by kernel_rfl) (fun _ _ _ h => h) (Or.inl ⟨by rfl, ?hy⟩) (by assumption) ?_
           case hy => (intro w hSw; (try dsimp only at hSw); go_simp; try (with_reducible rfl))
           (try simp only [getElem_toArray, getElem_cons_succ, getElem_cons_zero, Act.put, setIfInBounds_toArray, set_cons_zero, set_cons_succ])
           refine wpAnyH_take (i := 12) (v := ?_) rfl (by kernel_rfl) (by kernel_rfl) (by kernel_rfl) (fun _ _ _ h => h) (Or.inl ⟨by rfl, ?hy⟩) (by assumption) ?_
           case hy => (intro w hSw; (try dsimp only at hSw); go_simp; try (with_reducible rfl))
           (try simp only [getElem_toArray, getElem_cons_succ, getElem_cons_zero, Act.put, setIfInBounds_toArray, set_cons_zero, set_cons_succ])
           refine wpAnyH_take (i := 13) (v := ?_) rfl (by kernel_rfl) (by kernel_rfl) (by kernel_rfl) (fun _ _ _ h => h) (Or.inl ⟨by rfl, ?hy⟩) (by assumption) ?_
           case hy => (intro w hSw; (try dsimp only at hSw); go_simp; try (with_reducible rfl))
           (try simp only [getElem_toArray, getElem_cons_succ, getElem_cons_zero, Act.put, setIfInBounds_toArray, set_cons_zero, set_cons_succ])
           refine wpAnyH_take (i := 14) (v := ?_) rfl (by kernel_rfl) (by kernel_rfl) (by kernel_rfl) (fun _ _ _ h => h) (Or.inl ⟨by rfl, ?hy⟩) (by assumption) ?_
           case hy => (intro w hSw; (try dsimp only at hSw); go_simp; try (with_reducible rfl))
           (try simp only [getElem_toArray, getElem_cons_succ, getElem_cons_zero, Act.put, setIfInBounds_toArray, set_cons_zero, set_cons_succ])
           refine wpAnyH_take (i := 15) (v := ?_) rfl (by kernel_rfl) (by kernel_rfl) (by kernel_rfl) (fun _ _ _ h => h) (Or.inl ⟨by rfl, ?hy⟩) (by assumption) ?_
           case hy => (intro w hSw; (try dsimp only at hSw); go_simp; try (with_reducible rfl))
           (try simp only [getElem_toArray, getElem_cons_succ, getElem_cons_zero, Act.put, setIfInBounds_toArray, set_cons_zero, set_cons_succ])
           refine wpAnyH_take (i := 16) (v := ?_) rfl (by kernel_rfl) (by kernel_rfl) (by kernel_rfl) (fun _ _ _ h => h) (Or.inl ⟨by rfl, ?hy⟩) (by assumption) ?_
           case hy => (intro w hSw; (try dsimp only at hSw); go_simp; try (with_reducible rfl))
           (try simp only [getElem_toArray, getElem_cons_succ, getElem_cons_zero, Act.put, setIfInBounds_toArray, set_cons_zero, set_cons_succ])
           refine wpAnyH_take (i := 17) (v := ?_) rfl (by kernel_rfl) (by kernel_rfl) (by kernel_rfl) (fun _ _ _ h => h) (Or.inl ⟨by rfl, ?hy⟩) (by assumption) ?_
           case hy => (intro w hSw; (try dsimp only at hSw); go_simp; try (with_reducible rfl))
           (try simp only [getElem_toArray, getElem_cons_succ, getElem_cons_zero, Act.put, setIfInBounds_toArray, set_cons_zero, set_cons_succ])
           refine wpAnyH_take (i := 18) (v := ?_) rfl (by kernel_rfl) (by kernel_rfl) (by kernel_rfl) (fun _ _ _ h => h) (Or.inl ⟨by rfl, ?hy⟩) (by assumption) ?_
           case hy => (intro w hSw; (try dsimp only at hSw); go_simp; try (with_reducible rfl))
           (try simp only [getElem_toArray, getElem_cons_succ, getElem_cons_zero, Act.put, setIfInBounds_toArray, set_cons_zero, set_cons_succ])
           refine wpAnyH_take (i := 19) (v := ?_) rfl (by kernel_rfl) (by kernel_rfl) (by kernel_rfl) (fun _ _ _ h => h) (Or.inl ⟨by rfl, ?hy⟩) (by assumption) ?_
           case hy => (intro w hSw; (try dsimp only at hSw); go_simp; try (with_reducible rfl))
           (try simp only [getElem_toArray, getElem_cons_succ, getElem_cons_zero, Act.put, setIfInBounds_toArray, set_cons_zero, set_cons_succ])
           refine wpAnyH_take (i := 20) (v := undef) rfl (by kernel_rfl) (by kernel_rfl) (by kernel_rfl) (fun _ _ _ h => h) (Or.inr ⟨by rfl, rfl⟩) (by assumption) ?_
           (try simp only [getElem_toArray, getElem_cons_succ, getElem_cons_zero, Act.put, setIfInBounds_toArray, set_cons_zero, set_cons_succ])
           refine wpAnyH_take (i := 21) (v := undef) rfl (by kernel_rfl) (by kernel_rfl) (by kernel_rfl) (fun _ _ _ h => h) (Or.inr ⟨by rfl, rfl⟩) (by assumption) ?_
           (try simp only [getElem_toArray, getElem_cons_succ, getElem_cons_zero, Act.put, setIfInBounds_toArray, set_cons_zero, set_cons_succ])
           refine wpAnyH_take (i := 22) (v := undef) rfl (by kernel_rfl) (by kernel_rfl) (by kernel_rfl) (fun _ _ _ h => h) (Or.inr ⟨by rfl, rfl⟩) (by assumption) ?_
           (try simp only [getElem_toArray, getElem_cons_succ, getElem_cons_zero, Act.put, setIfInBounds_toArray, set_cons_zero, set_cons_succ])
           refine wpAnyH_take (i := 23) (v := undef) rfl (by kernel_rfl) (by kernel_rfl) (by kernel_rfl) (fun _ _ _ h => h) (Or.inr ⟨by rfl, rfl⟩) (by assumption) ?_
           (try simp only [getElem_toArray, getElem_cons_succ, getElem_cons_zero, Act.put, setIfInBounds_toArray, set_cons_zero, set_cons_succ])
           refine wpAnyH_take (i := 24) (v := undef) rfl (by kernel_rfl) (by kernel_rfl) (by kernel_rfl) (fun _ _ _ h => h) (Or.inr ⟨by rfl, rfl⟩) (by assumption) ?_
           (try simp only [getElem_toArray, getElem_cons_succ, getElem_cons_zero, Act.put, setIfInBounds_toArray, set_cons_zero, set_cons_succ])
           refine wpAnyH_take (i := 25) (v := undef) rfl (by kernel_rfl) (by kernel_rfl) (by kernel_rfl) (fun _ _ _ h => h) (Or.inr ⟨by rfl, rfl⟩) (by assumption) ?_
           (try simp only [getElem_toArray, getElem_cons_succ, getElem_cons_zero, Act.put, setIfInBounds_toArray, set_cons_zero, set_cons_succ])
           refine wpAnyH_take (i := 26) (v := undef) rfl (by kernel_rfl) (by kernel_rfl) (by kernel_rfl) (fun _ _ _ h => h) (Or.inr ⟨by rfl, rfl⟩) (by assumption) ?_
           (try simp only [getElem_toArray, getElem_cons_succ, getElem_cons_zero, Act.put, setIfInBounds_toArray, set_cons_zero, set_cons_succ])
           refine wpAnyH_take (i := 27) (v := undef) rfl (by kernel_rfl) (by kernel_rfl) (by kernel_rfl) (fun _ _ _ h => h) (Or.inr ⟨by rfl, rfl⟩) (by assumption) ?_
           (try simp only [getElem_toArray, getElem_cons_succ, getElem_cons_zero, Act.put, setIfInBounds_toArray, set_cons_zero, set_cons_succ])
           refine wpAnyH_take (i := 28) (v := undef) rfl (by kernel_rfl) (by kernel_rfl) (by kernel_rfl) (fun _ _ _ h => h) (Or.inr ⟨by rfl, rfl⟩) (by assumption) ?_
           (try simp only [getElem_toArray, getElem_cons_succ, getElem_cons_zero, Act.put, setIfInBounds_toArray, set_cons_zero, set_cons_succ])
           refine wpAnyH_take (i := 29) (v := ?_) rfl (by kernel_rfl) (by kernel_rfl) (by kernel_rfl) (fun _ _ _ h => h) (Or.inl ⟨by rfl, ?hy⟩) (by assumption) ?_
           case hy => (intro w hSw; (try dsimp only at hSw); go_simp; try (with_reducible rfl))
           (try simp only [getElem_toArray, getElem_cons_succ, getElem_cons_zero, Act.put, setIfInBounds_toArray, set_cons_zero, set_cons_succ])
           refine wpAnyH_take (i := 30) (v := ?_) rfl (by kernel_rfl) (by kernel_rfl) (by kernel_rfl) (fun _ _ _ h => h) (Or.inl ⟨by rfl, ?hy⟩) (by assumption) ?_
           case hy => (intro w hSw; (try dsimp only at hSw); go_simp; try (with_reducible rfl))
           (try simp only [getElem_toArray, getElem_cons_succ, getElem_cons_zero, Act.put, setIfInBounds_toArray, set_cons_zero, set_cons_succ])
           (try simp only [getElem_toArray, getElem_cons_succ, getElem_cons_zero, Act.put, setIfInBounds_toArray, set_cons_zero, set_cons_succ])
           refine wpAnyH_done (by kernel_rfl) ?_ _
           refine NoPanic.normal ?_
           all_goals obtain ⟨f0, f1, f2, f3, f4⟩ := HX.out _ Bl
           all_goals go_wp2_with (at_builtin; ((refine fi_app rfl (.tmp 77) (.tmp 80) rfl v' ((l.take k).map Pr.nm) nx rfl rfl (HOw.out _ Bl) (HBw.out _ Bl) HTl.out ?_); intro v6 w6 ho6 hb6; have HO6 := Lib.hid ho6; clear ho6))
           all_goals go_roundw
           all_goals first | exact ⟨_, k + 1, v6, rfl, rfl, by omega, by go_num, Lib.hid (HSt.out v6 _ HO6.out hb6)⟩ | (simp [intOf]; omega)
          ·have g1 : decide ((k : Int) > 0) = true := decide_eq_true (by omega)
           obtain ⟨bb', o', y, A', M', Cc', hbe, hb', v0, v1, v2, v3, v4, hy, hok'⟩ := (HU.out wr Bw).at (show k - 1 < n by omega)
           injection hbe with hbe
           injection hbe with hbe1 hbe2 _
           subst hbe1 hbe2
           have em : ((k - 1 : Nat) : Int) = (k : Int) - 1 := by omega
           have ew : IntKind.i64.wrap ((k : Int) - 1) = (k : Int) - 1 := by rw [IntKind.wrap_i64]; omega
           have e3 : ((k : Int) - 1).toNat = k - 1 := by omega
           have e4 : 0 ≤ (k : Int) - 1 := by omega
           have e5 : (k : Int) - 1 < (n : Int) := by omega
           have e6 : 1 ≤ (k : Int) := by omega
           have e7 : (k : Int) ≤ (n : Int) := by omega
           have g2 : decide (0 < k) = true := decide_eq_true (by omega)
           have h1 := @less_yes x.nm y.nm
           have h3 := @same_yes x.nm y.nm
           rcases linN.rng x.nm y.nm with hc | hc | hc
           ·rw [hc] at h1 h3
            simp only [Int.reduceNeg, decide_true, Int.reduceEq, decide_false] at h1 h3
            have h4 : (x.nm.toList = y.nm.toList) = False := by simpa using h3
            have HX := Lib.hid (show ∀ (w' : World), Below W3.heap.size W3 w' → (w'.cell? ⟨wr.heap.size, 0, none⟩ = some (.string x.nm) ∧ w'.cell? ⟨wr.heap.size, 1, none⟩ = some (.int .i64 (opT x.t)) ∧ w'.cell? ⟨wr.heap.size, 2, none⟩ = some (.string (nameT x.t)) ∧ w'.cell? ⟨wr.heap.size, 3, none⟩ = some (.int .i64 (numT x.t)) ∧ w'.cell? ⟨wr.heap.size, 4, none⟩ = some (.slice A9 M9 C9) ∧ w'.cell? ⟨bb, o + (k - 1) * 5, none⟩ = some (.string y.nm)) from fun w' h => by
             obtain ⟨r0, r1, r2, r3, r4⟩ := (UBox.b HS3.out h).five
             exact ⟨r0, r1, r2, r3, r4, ((bel_trans hB3 h).cell (p := ⟨bb, _, none⟩) hb').trans v0⟩)
            clear hs5 hn1 hc hok' hy em v0 v1 v2 v3 v4
            generalize hny : y.nm = ny at *
            clear hny
            clear HSt HTl HO
            have Bl : Below W3.heap.size W3 W3 := Below.refl _ _
            have HBw := Lib.hid (show ∀ w' : World, Below W3.heap.size W3 w' → Below W.heap.size W w' from fun w' h => bel_trans Bw (bel_trans hB3 h))
            have eS := fun (w' : World) (h : Below W3.heap.size W3 w') => eS w' (bel_trans hB3 h)
            have eM := fun (w' : World) (h : Below W3.heap.size W3 w') => eM w' (bel_trans hB3 h)
            clear HS3 hx
            generalize opT x.t = ox at *
            generalize nameT x.t = mx at *
            generalize numT x.t = zx at *
            generalize hnx : x.nm = nx at *
            clear hnx
            go_upto_region 7 with fail
            refine wp_region_noPanic ?_
            refine wp_region_held_drew (S := fun w' => w'.cell? ⟨wr.heap.size, 0, none⟩ = some (.string nx) ∧ w'.cell? ⟨wr.heap.size, 1, none⟩ = some (.int .i64 ox) ∧ w'.cell? ⟨wr.heap.size, 2, none⟩ = some (.string mx) ∧ w'.cell? ⟨wr.heap.size, 3, none⟩ = some (.int .i64 zx) ∧ w'.cell? ⟨wr.heap.size, 4, none⟩ = some (.slice A9 M9 C9) ∧ w'.cell? ⟨bb, o + (k - 1) * 5, none⟩ = some (.string ny)) (by kernel_rfl) (by exact HX.out _ (Below.drew Bl)) (fun hHeld => ?_)
            have Bl := Below.drew Bl
            refine wpAnyH_take (i := 0) (v := ?_) rfl (by kernel_rfl) (by kernel_rfl) (by kernel_rfl) (fun _ _ _ h => h) (Or.inl ⟨by rfl, ?hy⟩) (by assumption) ?_
            case hy => (intro w hSw; (try dsimp only at hSw); go_simp; try (with_reducible rfl))
            (try simp only [getElem_toArray, getElem_cons_succ, getElem_cons_zero, Act.put, setIfInBounds_toArray, set_cons_zero, set_cons_succ])
            refine wpAnyH_take (i := 1) (v := ?_) rfl (by kernel_rfl) (by kernel_rfl) (by kernel_rfl) (fun _ _ _ h => h) (Or.inl ⟨by rfl, ?hy⟩) (by assumption) ?_
            case hy => (intro w hSw; (try dsimp only at hSw); go_simp; try (with_reducible rfl))
            (try simp only [getElem_toArray, getElem_cons_succ, getElem_cons_zero, Act.put, setIfInBounds_toArray, set_cons_zero, set_cons_succ])
            refine wpAnyH_ready (rs := [2]) (by kernel_rfl) (by simp) ?_
            refine AllReadyH.cons rfl (fun KK hKK => ?_) AllReadyH.nil
            go_simp
            (go_at_call 24; ((with_reducible refine (eS _ Bl).mono ?_); rintro e wK ⟨rfl, hbK⟩; have Bl := bel_trans Bl hbK))
            refine hKK.out _ _ (by exact HX.out _ Bl) (fun hHeld => ?_)
            clear hKK KK
            (try simp only [getElem_toArray, getElem_cons_succ, getElem_cons_zero, Act.put, setIfInBounds_toArray, set_cons_zero, set_cons_succ])
            refine wpAnyH_take (i := 3) (v := ?_) rfl (by kernel_rfl) (by kernel_rfl) (by kernel_rfl) (fun _ _ _ h => h) (Or.inl ⟨by rfl, ?hy⟩) (by assumption) ?_
            case hy => (intro w hSw; (try dsimp only at hSw); go_simp; try (with_reducible rfl))
            (try simp only [getElem_toArray, getElem_cons_succ, getElem_cons_zero, Act.put, setIfInBounds_toArray, set_cons_zero, set_cons_succ])
            refine wpAnyH_take (i := 4) (v := ?_) rfl (by kernel_rfl) (by kernel_rfl) (by kernel_rfl) (fun _ _ _ h => h) (Or.inl ⟨by rfl, ?hy⟩) (by assumption) ?_
            case hy => (intro w hSw; (try dsimp only at hSw); go_simp; try (with_reducible rfl))
            (try simp only [getElem_toArray, getElem_cons_succ, getElem_cons_zero, Act.put, setIfInBounds_toArray, set_cons_zero, set_cons_succ])
            refine wpAnyH_take (i := 5) (v := ?_) rfl (by kernel_rfl) (by kernel_rfl) (by kernel_rfl) (fun _ _ _ h => h) (Or.inl ⟨by rfl, ?hy⟩) (by assumption) ?_
            case hy => (intro w hSw; (try dsimp only at hSw); go_simp; try (with_reducible rfl))
            (try simp only [getElem_toArray, getElem_cons_succ, getElem_cons_zero, Act.put, setIfInBounds_toArray, set_cons_zero, set_cons_succ])
            refine wpAnyH_take (i := 6) (v := ?_) rfl (by kernel_rfl) (by kernel_rfl) (by kernel_rfl) (fun _ _ _ h => h) (Or.inl ⟨by rfl, ?hy⟩) (by assumption) ?_
            case hy => (intro w hSw; (try dsimp only at hSw); go_simp; try (with_reducible rfl))
            (try simp only [getElem_toArray, getElem_cons_succ, getElem_cons_zero, Act.put, setIfInBounds_toArray, set_cons_zero, set_cons_succ])
            refine wpAnyH_ready (rs := [7]) (by kernel_rfl) (by simp) ?_
            refine AllReadyH.cons rfl (fun KK hKK => ?_) AllReadyH.nil
            go_simp
            (go_at_call 25; ((with_reducible refine (eM _ Bl).mono ?_); rintro e wK ⟨rfl, hbK⟩; have Bl := bel_trans Bl hbK))
            refine hKK.out _ _ (by exact HX.out _ Bl) (fun hHeld => ?_)
            clear hKK KK
            (try simp only [getElem_toArray, getElem_cons_succ, getElem_cons_zero, Act.put, setIfInBounds_toArray, set_cons_zero, set_cons_succ])
            refine wpAnyH_take (i := 8) (v := ?_) rfl (by kernel_rfl) (by kernel_rfl) (by kernel_rfl) (fun _ _ _ h => h) (Or.inl ⟨by rfl, ?hy⟩) (by assumption) ?_
            case hy => (intro w hSw; (try dsimp only at hSw); go_simp; try (with_reducible rfl))
            (try simp only [getElem_toArray, getElem_cons_succ, getElem_cons_zero, Act.put, setIfInBounds_toArray, set_cons_zero, set_cons_succ])
            refine wpAnyH_take (i := 9) (v := ?_) rfl (by kernel_rfl) (by kernel_rfl) (by kernel_rfl) (fun _ _ _ h => h) (Or.inl ⟨by rfl, ?hy⟩) (by assumption) ?_
            case hy => (intro w hSw; (try dsimp only at hSw); go_simp; try (with_reducible rfl))
            (try simp only [getElem_toArray, getElem_cons_succ, getElem_cons_zero, Act.put, setIfInBounds_toArray, set_cons_zero, set_cons_succ])
            refine wpAnyH_take (i := 10) (v := ?_) rfl (by kernel_rfl) (by kernel_rfl) (by kernel_rfl) (fun _ _ _ h => h) (Or.inl ⟨by rfl, ?hy⟩) (by assumption) ?_
            case hy => (intro w hSw; (try dsimp only at hSw); go_simp; try (with_reducible rfl))
            (try simp only [getElem_toArray, getElem_cons_succ, getElem_cons_zero, Act.put, setIfInBounds_toArray, set_cons_zero, set_cons_succ])
            refine wpAnyH_take (i := 11) (v := ?_) rfl (by kernel_rfl) (by kernel_rfl) (by kernel_rfl) (fun _ _ _ h => h) (Or.inl ⟨by rfl, ?hy⟩) (by assumption) ?_
            case hy => (intro w hSw; (try dsimp only at hSw); go_simp; try (with_reducible rfl))
            (try simp only [getElem_toArray, getElem_cons_succ, getElem_cons_zero, Act.put, setIfInBounds_toArray, set_cons_zero, set_cons_succ])
            refine wpAnyH_take (i := 12) (v := ?_) rfl (by kernel_rfl) (by kernel_rfl) (by kernel_rfl) (fun _ _ _ h => h) (Or.inl ⟨by rfl, ?hy⟩) (by assumption) ?_
            case hy => (intro w hSw; (try dsimp only at hSw); go_simp; try (with_reducible rfl))
            (try simp only [getElem_toArray, getElem_cons_succ, getElem_cons_zero, Act.put, setIfInBounds_toArray, set_cons_zero, set_cons_succ])
            refine wpAnyH_take (i := 13) (v := ?_) rfl (by kernel_rfl) (by kernel_rfl) (by kernel_rfl) (fun _ _ _ h => h) (Or.inl ⟨by rfl, ?hy⟩) (by assumption) ?_
            case hy => (intro w hSw; (try dsimp only at hSw); go_simp; try (with_reducible rfl))
            (try simp only [getElem_toArray, getElem_cons_succ, getElem_cons_zero, Act.put, setIfInBounds_toArray, set_cons_zero, set_cons_succ])
            refine wpAnyH_take (i := 14) (v := ?_) rfl (by kernel_rfl) (by kernel_rfl) (by kernel_rfl) (fun _ _ _ h => h) (Or.inl ⟨by rfl, ?hy⟩) (by assumption) ?_
            case hy => (intro w hSw; (try dsimp only at hSw); go_simp; try (with_reducible rfl))
            (try simp only [getElem_toArray, getElem_cons_succ, getElem_cons_zero, Act.put, setIfInBounds_toArray, set_cons_zero, set_cons_succ])
            refine wpAnyH_take (i := 15) (v := ?_) rfl (by kernel_rfl) (by kernel_rfl) (by kernel_rfl) (fun _ _ _ h => h) (Or.inl ⟨by rfl, ?hy⟩) (by assumption) ?_
            case hy => (intro w hSw; (try dsimp only at hSw); go_simp; try (with_reducible rfl))
            (try simp only [getElem_toArray, getElem_cons_succ, getElem_cons_zero, Act.put, setIfInBounds_toArray, set_cons_zero, set_cons_succ])
            refine wpAnyH_take (i := 16) (v := ?_) rfl (by kernel_rfl) (by kernel_rfl) (by kernel_rfl) (fun _ _ _ h => h) (Or.inl ⟨by rfl, ?hy⟩) (by assumption) ?_
            case hy => (intro w hSw; (try dsimp only at hSw); go_simp; try (with_reducible rfl))
            (try simp only [getElem_toArray, getElem_cons_succ, getElem_cons_zero, Act.put, setIfInBounds_toArray, set_cons_zero, set_cons_succ])
            refine wpAnyH_take (i := 17) (v := ?_) rfl (by kernel_rfl) (by kernel_rfl) (by kernel_rfl) (fun _ _ _ h => h) (Or.inl ⟨by rfl, ?hy⟩) (by assumption) ?_
            case hy => (intro w hSw; (try dsimp only at hSw); go_simp; try (with_reducible rfl))
            (try simp only [getElem_toArray, getElem_cons_succ, getElem_cons_zero, Act.put, setIfInBounds_toArray, set_cons_zero, set_cons_succ])
            refine wpAnyH_take (i := 18) (v := ?_) rfl (by kernel_rfl) (by kernel_rfl) (by kernel_rfl) (fun _ _ _ h => h) (Or.inl ⟨by rfl, ?hy⟩) (by assumption) ?_
            case hy => (intro w hSw; (try dsimp only at hSw); go_simp; try (with_reducible rfl))
            (try simp only [getElem_toArray, getElem_cons_succ, getElem_cons_zero, Act.put, setIfInBounds_toArray, set_cons_zero, set_cons_succ])
            refine wpAnyH_take (i := 19) (v := ?_) rfl (by kernel_rfl) (by kernel_rfl) (by kernel_rfl) (fun _ _ _ h => h) (Or.inl ⟨by rfl, ?hy⟩) (by assumption) ?_
            case hy => (intro w hSw; (try dsimp only at hSw); go_simp; try (with_reducible rfl))
            (try simp only [getElem_toArray, getElem_cons_succ, getElem_cons_zero, Act.put, setIfInBounds_toArray, set_cons_zero, set_cons_succ])
            refine wpAnyH_take (i := 20) (v := ?_) rfl (by kernel_rfl) (by kernel_rfl) (by kernel_rfl) (fun _ _ _ h => h) (Or.inl ⟨by rfl, ?hy⟩) (by assumption) ?_
            case hy => (intro w hSw; (try dsimp only at hSw); go_simp; try (with_reducible rfl))
            (try simp only [getElem_toArray, getElem_cons_succ, getElem_cons_zero, Act.put, setIfInBounds_toArray, set_cons_zero, set_cons_succ])
            refine wpAnyH_take (i := 21) (v := ?_) rfl (by kernel_rfl) (by kernel_rfl) (by kernel_rfl) (fun _ _ _ h => h) (Or.inl ⟨by rfl, ?hy⟩) (by assumption) ?_
            case hy => (intro w hSw; (try dsimp only at hSw); go_simp; try (with_reducible rfl))
            (try simp only [getElem_toArray, getElem_cons_succ, getElem_cons_zero, Act.put, setIfInBounds_toArray, set_cons_zero, set_cons_succ])
            refine wpAnyH_take (i := 22) (v := ?_) rfl (by kernel_rfl) (by kernel_rfl) (by kernel_rfl) (fun _ _ _ h => h) (Or.inl ⟨by rfl, ?hy⟩) (by assumption) ?_
            case hy => (intro w hSw; (try dsimp only at hSw); go_simp; try (with_reducible rfl))
            (try simp only [getElem_toArray, getElem_cons_succ, getElem_cons_zero, Act.put, setIfInBounds_toArray, set_cons_zero, set_cons_succ])
            refine wpAnyH_take (i := 23) (v := ?_) rfl (by kernel_rfl) (by kernel_rfl) (by kernel_rfl) (fun _ _ _ h => h) (Or.inl ⟨by rfl, ?hy⟩) (by assumption) ?_
            case hy => (intro w hSw; (try dsimp only at hSw); go_simp; try (with_reducible rfl))
            (try simp only [getElem_toArray, getElem_cons_succ, getElem_cons_zero, Act.put, setIfInBounds_toArray, set_cons_zero, set_cons_succ])
            refine wpAnyH_take (i := 24) (v := ?_) rfl (by kernel_rfl) (by kernel_rfl) (by kernel_rfl) (fun _ _ _ h => h) (Or.inl ⟨by rfl, ?hy⟩) (by assumption) ?_
            case hy => (intro w hSw; (try dsimp only at hSw); go_simp; try (with_reducible rfl))
            (try simp only [getElem_toArray, getElem_cons_succ, getElem_cons_zero, Act.put, setIfInBounds_toArray, set_cons_zero, set_cons_succ])
            refine wpAnyH_take (i := 25) (v := ?_) rfl (by kernel_rfl) (by kernel_rfl) (by kernel_rfl) (fun _ _ _ h => h) (Or.inl ⟨by rfl, ?hy⟩) (by assumption) ?_
            case hy => (intro w hSw; (try dsimp only at hSw); go_simp; try (with_reducible rfl))
            (try simp only [getElem_toArray, getElem_cons_succ, getElem_cons_zero, Act.put, setIfInBounds_toArray, set_cons_zero, set_cons_succ])
            refine wpAnyH_take (i := 26) (v := ?_) rfl (by kernel_rfl) (by kernel_rfl) (by kernel_rfl) (fun _ _ _ h => h) (Or.inl ⟨by rfl, ?hy⟩) (by assumption) ?_
            case hy => (intro w hSw; (try dsimp only at hSw); go_simp; try (with_reducible rfl))
            (try simp only [getElem_toArray, getElem_cons_succ, getElem_cons_zero, Act.put, setIfInBounds_toArray, set_cons_zero, set_cons_succ])
            refine wpAnyH_take (i := 27) (v := ?_) rfl (by kernel_rfl) (by kernel_rfl) (by kernel_rfl) (fun _ _ _ h => h) (Or.inl ⟨by rfl, ?hy⟩) (by assumption) ?_
            case hy => (intro w hSw; (try dsimp only at hSw); go_simp; try (with_reducible rfl))
            (try simp only [getElem_toArray, getElem_cons_succ, getElem_cons_zero, Act.put, setIfInBounds_toArray, set_cons_zero, set_cons_succ])
            refine wpAnyH_take (i := 28) (v := ?_) rfl (by kernel_rfl) (by kernel_rfl) (by kernel_rfl) (fun _ _ _ h => h) (Or.inl ⟨by rfl, ?hy⟩) (by assumption) ?_
            case hy => (intro w hSw; (try dsimp only at hSw); go_simp; try (with_reducible rfl))
            (try simp only [getElem_toArray, getElem_cons_succ, getElem_cons_zero, Act.put, setIfInBounds_toArray, set_cons_zero, set_cons_succ])
            refine wpAnyH_take (i := 29) (v := ?_) rfl (by kernel_rfl) (by kernel_rfl) (by kernel_rfl) (fun _ _ _ h => h) (Or.inl ⟨by rfl, ?hy⟩) (by assumption) ?_
            case hy => (intro w hSw; (try dsimp only at hSw); go_simp; try (with_reducible rfl))
            (try simp only [getElem_toArray, getElem_cons_succ, getElem_cons_zero, Act.put, setIfInBounds_toArray, set_cons_zero, set_cons_succ])
            refine wpAnyH_take (i := 30) (v := ?_) rfl (by kernel_rfl) (by kernel_rfl) (by kernel_rfl) (fun _ _ _ h => h) (Or.inl ⟨by rfl, ?hy⟩) (by assumption) ?_
            case hy => (intro w hSw; (try dsimp only at hSw); go_simp; try (with_reducible rfl))
            (try simp only [getElem_toArray, getElem_cons_succ, getElem_cons_zero, Act.put, setIfInBounds_toArray, set_cons_zero, set_cons_succ])
            (try simp only [getElem_toArray, getElem_cons_succ, getElem_cons_zero, Act.put, setIfInBounds_toArray, set_cons_zero, set_cons_succ])
            refine wpAnyH_done (by kernel_rfl) ?_ _
            refine NoPanic.normal ?_
            all_goals go_wp2_with (go_at_call 15; ((with_reducible refine (g0 _).mono ?_); rintro e wY ⟨rfl, hbY⟩; have Bl := bel_trans Bl hbY))
            all_goals go_ret
            all_goals exact ⟨rfl, bel_trans hB0 (bel_trans Bw (bel_trans hB3 Bl))⟩
           ·rw [hc] at h1 h3
            simp only [Int.reduceNeg, decide_true, Int.reduceEq, decide_false] at h1 h3
            have h4 : (x.nm.toList = y.nm.toList) = True := by simpa using h3
            have HX := Lib.hid (show ∀ (w' : World), Below W3.heap.size W3 w' → (w'.cell? ⟨wr.heap.size, 0, none⟩ = some (.string x.nm) ∧ w'.cell? ⟨wr.heap.size, 1, none⟩ = some (.int .i64 (opT x.t)) ∧ w'.cell? ⟨wr.heap.size, 2, none⟩ = some (.string (nameT x.t)) ∧ w'.cell? ⟨wr.heap.size, 3, none⟩ = some (.int .i64 (numT x.t)) ∧ w'.cell? ⟨wr.heap.size, 4, none⟩ = some (.slice A9 M9 C9) ∧ w'.cell? ⟨bb, o + (k - 1) * 5, none⟩ = some (.string y.nm)) from fun w' h => by
             obtain ⟨r0, r1, r2, r3, r4⟩ := (UBox.b HS3.out h).five
             exact ⟨r0, r1, r2, r3, r4, ((bel_trans hB3 h).cell (p := ⟨bb, _, none⟩) hb').trans v0⟩)
            clear hs5 hn1 hc hok' hy em v0 v1 v2 v3 v4
            generalize hny : y.nm = ny at *
            clear hny
            clear HSt HTl HO
            have Bl : Below W3.heap.size W3 W3 := Below.refl _ _
            have HBw := Lib.hid (show ∀ w' : World, Below W3.heap.size W3 w' → Below W.heap.size W w' from fun w' h => bel_trans Bw (bel_trans hB3 h))
            have eS := fun (w' : World) (h : Below W3.heap.size W3 w') => eS w' (bel_trans hB3 h)
            have eM := fun (w' : World) (h : Below W3.heap.size W3 w') => eM w' (bel_trans hB3 h)
            clear HS3 hx
            generalize opT x.t = ox at *
            generalize nameT x.t = mx at *
            generalize numT x.t = zx at *
            generalize hnx : x.nm = nx at *
            clear hnx
            go_upto_region 7 with fail
            refine wp_region_noPanic ?_
            refine wp_region_held_drew (S := fun w' => w'.cell? ⟨wr.heap.size, 0, none⟩ = some (.string nx) ∧ w'.cell? ⟨wr.heap.size, 1, none⟩ = some (.int .i64 ox) ∧ w'.cell? ⟨wr.heap.size, 2, none⟩ = some (.string mx) ∧ w'.cell? ⟨wr.heap.size, 3, none⟩ = some (.int .i64 zx) ∧ w'.cell? ⟨wr.heap.size, 4, none⟩ = some (.slice A9 M9 C9) ∧ w'.cell? ⟨bb, o + (k - 1) * 5, none⟩ = some (.string ny)) (by kernel_rfl) (by exact HX.out _ (Below.drew Bl)) (fun hHeld => ?_)
            have Bl := Below.drew Bl
            refine wpAnyH_take (i := 0) (v := ?_) rfl (by kernel_rfl) (by kernel_rfl) (by kernel_rfl) (fun _ _ _ h => h) (Or.inl ⟨by rfl, ?hy⟩) (by assumption) ?_
            case hy => (intro w hSw; (try dsimp only at hSw); go_simp; try (with_reducible rfl))
            (try simp only [getElem_toArray, getElem_cons_succ, getElem_cons_zero, Act.put, setIfInBounds_toArray, set_cons_zero, set_cons_succ])
            refine wpAnyH_take (i := 1) (v := ?_) rfl (by kernel_rfl) (by kernel_rfl) (by kernel_rfl) (fun _ _ _ h => h) (Or.inl ⟨by rfl, ?hy⟩) (by assumption) ?_
            case hy => (intro w hSw; (try dsimp only at hSw); go_simp; try (with_reducible rfl))
            (try simp only [getElem_toArray, getElem_cons_succ, getElem_cons_zero, Act.put, setIfInBounds_toArray, set_cons_zero, set_cons_succ])
            refine wpAnyH_ready (rs := [2]) (by kernel_rfl) (by simp) ?_
            refine AllReadyH.cons rfl (fun KK hKK => ?_) AllReadyH.nil
            go_simp
            (go_at_call 24; ((with_reducible refine (eS _ Bl).mono ?_); rintro e wK ⟨rfl, hbK⟩; have Bl := bel_trans Bl hbK))
            refine hKK.out _ _ (by exact HX.out _ Bl) (fun hHeld => ?_)
            clear hKK KK
            (try simp only [getElem_toArray, getElem_cons_succ, getElem_cons_zero, Act.put, setIfInBounds_toArray, set_cons_zero, set_cons_succ])
            refine wpAnyH_take (i := 3) (v := ?_) rfl (by kernel_rfl) (by kernel_rfl) (by kernel_rfl) (fun _ _ _ h => h) (Or.inl ⟨by rfl, ?hy⟩) (by assumption) ?_
            case hy => (intro w hSw; (try dsimp only at hSw); go_simp; try (with_reducible rfl))
            (try simp only [getElem_toArray, getElem_cons_succ, getElem_cons_zero, Act.put, setIfInBounds_toArray, set_cons_zero, set_cons_succ])
            refine wpAnyH_take (i := 4) (v := ?_) rfl (by kernel_rfl) (by kernel_rfl) (by kernel_rfl) (fun _ _ _ h => h) (Or.inl ⟨by rfl, ?hy⟩) (by assumption) ?_
            case hy => (intro w hSw; (try dsimp only at hSw); go_simp; try (with_reducible rfl))
            (try simp only [getElem_toArray, getElem_cons_succ, getElem_cons_zero, Act.put, setIfInBounds_toArray, set_cons_zero, set_cons_succ])
            refine wpAnyH_take (i := 5) (v := ?_) rfl (by kernel_rfl) (by kernel_rfl) (by kernel_rfl) (fun _ _ _ h => h) (Or.inl ⟨by rfl, ?hy⟩) (by assumption) ?_
            case hy => (intro w hSw; (try dsimp only at hSw); go_simp; try (with_reducible rfl))
            (try simp only [getElem_toArray, getElem_cons_succ, getElem_cons_zero, Act.put, setIfInBounds_toArray, set_cons_zero, set_cons_succ])
            refine wpAnyH_take (i := 6) (v := ?_) rfl (by kernel_rfl) (by kernel_rfl) (by kernel_rfl) (fun _ _ _ h => h) (Or.inl ⟨by rfl, ?hy⟩) (by assumption) ?_
            case hy => (intro w hSw; (try dsimp only at hSw); go_simp; try (with_reducible rfl))
            (try simp only [getElem_toArray, getElem_cons_succ, getElem_cons_zero, Act.put, setIfInBounds_toArray, set_cons_zero, set_cons_succ])
            refine wpAnyH_ready (rs := [7]) (by kernel_rfl) (by simp) ?_
            refine AllReadyH.cons rfl (fun KK hKK => ?_) AllReadyH.nil
            go_simp
            (go_at_call 25; ((with_reducible refine (eM _ Bl).mono ?_); rintro e wK ⟨rfl, hbK⟩; have Bl := bel_trans Bl hbK))
            refine hKK.out _ _ (by exact HX.out _ Bl) (fun hHeld => ?_)
            clear hKK KK
            (try simp only [getElem_toArray, getElem_cons_succ, getElem_cons_zero, Act.put, setIfInBounds_toArray, set_cons_zero, set_cons_succ])
            refine wpAnyH_take (i := 8) (v := ?_) rfl (by kernel_rfl) (by kernel_rfl) (by kernel_rfl) (fun _ _ _ h => h) (Or.inl ⟨by rfl, ?hy⟩) (by assumption) ?_
            case hy => (intro w hSw; (try dsimp only at hSw); go_simp; try (with_reducible rfl))
            (try simp only [getElem_toArray, getElem_cons_succ, getElem_cons_zero, Act.put, setIfInBounds_toArray, set_cons_zero, set_cons_succ])
            refine wpAnyH_take (i := 9) (v := ?_) rfl (by kernel_rfl) (by kernel_rfl) (by kernel_rfl) (fun _ _ _ h => h) (Or.inl ⟨by rfl, ?hy⟩) (by assumption) ?_
            case hy => (intro w hSw; (try dsimp only at hSw); go_simp; try (with_reducible rfl))
            (try simp only [getElem_toArray, getElem_cons_succ, getElem_cons_zero, Act.put, setIfInBounds_toArray, set_cons_zero, set_cons_succ])
            refine wpAnyH_take (i := 10) (v := ?_) rfl (by kernel_rfl) (by kernel_rfl) (by kernel_rfl) (fun _ _ _ h => h) (Or.inl ⟨by rfl, ?hy⟩) (by assumption) ?_
            case hy => (intro w hSw; (try dsimp only at hSw); go_simp; try (with_reducible rfl))
            (try simp only [getElem_toArray, getElem_cons_succ, getElem_cons_zero, Act.put, setIfInBounds_toArray, set_cons_zero, set_cons_succ])
            refine wpAnyH_take (i := 11) (v := ?_) rfl (by kernel_rfl) (by kernel_rfl) (by kernel_rfl) (fun _ _ _ h => h) (Or.inl ⟨by rfl, ?hy⟩) (by assumption) ?_
            case hy => (intro w hSw; (try dsimp only at hSw); go_simp; try (with_reducible rfl))
            (try simp only [getElem_toArray, getElem_cons_succ, getElem_cons_zero, Act.put, setIfInBounds_toArray, set_cons_zero, set_cons_succ])
            refine wpAnyH_take (i := 12) (v := ?_) rfl (by kernel_rfl) (by kernel_rfl) (by kernel_rfl) (fun _ _ _ h => h) (Or.inl ⟨by rfl, ?hy⟩) (by assumption) ?_
            case hy => (intro w hSw; (try dsimp only at hSw); go_simp; try (with_reducible rfl))
            (try simp only [getElem_toArray, getElem_cons_succ, getElem_cons_zero, Act.put, setIfInBounds_toArray, set_cons_zero, set_cons_succ])
            refine wpAnyH_take (i := 13) (v := ?_) rfl (by kernel_rfl) (by kernel_rfl) (by kernel_rfl) (fun _ _ _ h => h) (Or.inl ⟨by rfl, ?hy⟩) (by assumption) ?_
            case hy => (intro w hSw; (try dsimp only at hSw); go_simp; try (with_reducible rfl))
            (try simp only [getElem_toArray, getElem_cons_succ, getElem_cons_zero, Act.put, setIfInBounds_toArray, set_cons_zero, set_cons_succ])
            refine wpAnyH_take (i := 14) (v := ?_) rfl (by kernel_rfl) (by kernel_rfl) (by kernel_rfl) (fun _ _ _ h => h) (Or.inl ⟨by rfl, ?hy⟩) (by assumption) ?_
            case hy => (intro w hSw; (try dsimp only at hSw); go_simp; try (with_reducible rfl))
            (try simp only [getElem_toArray, getElem_cons_succ, getElem_cons_zero, Act.put, setIfInBounds_toArray, set_cons_zero, set_cons_succ])
            refine wpAnyH_take (i := 15) (v := ?_) rfl (by kernel_rfl) (by kernel_rfl) (by kernel_rfl) (fun _ _ _ h => h) (Or.inl ⟨by rfl, ?hy⟩) (by assumption) ?_
            case hy => (intro w hSw; (try dsimp only at hSw); go_simp; try (with_reducible rfl))
            (try simp only [getElem_toArray, getElem_cons_succ, getElem_cons_zero, Act.put, setIfInBounds_toArray, set_cons_zero, set_cons_succ])
            refine wpAnyH_take (i := 16) (v := ?_) rfl (by kernel_rfl) (by kernel_rfl) (by kernel_rfl) (fun _ _ _ h => h) (Or.inl ⟨by rfl, ?hy⟩) (by assumption) ?_
            case hy => (intro w hSw; (try dsimp only at hSw); go_simp; try (with_reducible rfl))
            (try simp only [getElem_toArray, getElem_cons_succ, getElem_cons_zero, Act.put, setIfInBounds_toArray, set_cons_zero, set_cons_succ])
            refine wpAnyH_take (i := 17) (v := ?_) rfl (by kernel_rfl) (by kernel_rfl) (by kernel_rfl) (fun _ _ _ h => h) (Or.inl ⟨by rfl, ?hy⟩) (by assumption) ?_
            case hy => (intro w hSw; (try dsimp only at hSw); go_simp; try (with_reducible rfl))
            (try simp only [getElem_toArray, getElem_cons_succ, getElem_cons_zero, Act.put, setIfInBounds_toArray, set_cons_zero, set_cons_succ])
            refine wpAnyH_take (i := 18) (v := ?_) rfl (by kernel_rfl) (by kernel_rfl) (by kernel_rfl) (fun _ _ _ h => h) (Or.inl ⟨by rfl, ?hy⟩) (by assumption) ?_
            case hy => (intro w hSw; (try dsimp only at hSw); go_simp; try (with_reducible rfl))
            (try simp only [getElem_toArray, getElem_cons_succ, getElem_cons_zero, Act.put, setIfInBounds_toArray, set_cons_zero, set_cons_succ])
            refine wpAnyH_take (i := 19) (v := ?_) rfl (by kernel_rfl) (by kernel_rfl) (by kernel_rfl) (fun _ _ _ h => h) (Or.inl ⟨by rfl, ?hy⟩) (by assumption) ?_
            case hy => (intro w hSw; (try dsimp only at hSw); go_simp; try (with_reducible rfl))
            (try simp only [getElem_toArray, getElem_cons_succ, getElem_cons_zero, Act.put, setIfInBounds_toArray, set_cons_zero, set_cons_succ])
            refine wpAnyH_take (i := 20) (v := ?_) rfl (by kernel_rfl) (by kernel_rfl) (by kernel_rfl) (fun _ _ _ h => h) (Or.inl ⟨by rfl, ?hy⟩) (by assumption) ?_
            case hy => (intro w hSw; (try dsimp only at hSw); go_simp; try (with_reducible rfl))
            (try simp only [getElem_toArray, getElem_cons_succ, getElem_cons_zero, Act.put, setIfInBounds_toArray, set_cons_zero, set_cons_succ])
            refine wpAnyH_take (i := 21) (v := ?_) rfl (by kernel_rfl) (by kernel_rfl) (by kernel_rfl) (fun _ _ _ h => h) (Or.inl ⟨by rfl, ?hy⟩) (by assumption) ?_
            case hy => (intro w hSw; (try dsimp only at hSw); go_simp; try (with_reducible rfl))
            (try simp only [getElem_toArray, getElem_cons_succ, getElem_cons_zero, Act.put, setIfInBounds_toArray, set_cons_zero, set_cons_succ])
            refine wpAnyH_take (i := 22) (v := ?_) rfl (by kernel_rfl) (by kernel_rfl) (by kernel_rfl) (fun _ _ _ h => h) (Or.inl ⟨by rfl, ?hy⟩) (by assumption) ?_
            case hy => (intro w hSw; (try dsimp only at hSw); go_simp; try (with_reducible rfl))
            (try simp only [getElem_toArray, getElem_cons_succ, getElem_cons_zero, Act.put, setIfInBounds_toArray, set_cons_zero, set_cons_succ])
            refine wpAnyH_take (i := 23) (v := ?_) rfl (by kernel_rfl) (by kernel_rfl) (by kernel_rfl) (fun _ _ _ h => h) (Or.inl ⟨by rfl, ?hy⟩) (by assumption) ?_
            case hy => (intro w hSw; (try dsimp only at hSw); go_simp; try (with_reducible rfl))
            (try simp only [getElem_toArray, getElem_cons_succ, getElem_cons_zero, Act.put, setIfInBounds_toArray, set_cons_zero, set_cons_succ])
            refine wpAnyH_take (i := 24) (v := ?_) rfl (by kernel_rfl) (by kernel_rfl) (by kernel_rfl) (fun _ _ _ h => h) (Or.inl ⟨by rfl, ?hy⟩) (by assumption) ?_
            case hy => (intro w hSw; (try dsimp only at hSw); go_simp; try (with_reducible rfl))
            (try simp only [getElem_toArray, getElem_cons_succ, getElem_cons_zero, Act.put, setIfInBounds_toArray, set_cons_zero, set_cons_succ])
            refine wpAnyH_take (i := 25) (v := ?_) rfl (by kernel_rfl) (by kernel_rfl) (by kernel_rfl) (fun _ _ _ h => h) (Or.inl ⟨by rfl, ?hy⟩) (by assumption) ?_
            case hy => (intro w hSw; (try dsimp only at hSw); go_simp; try (with_reducible rfl))
            (try simp only [getElem_toArray, getElem_cons_succ, getElem_cons_zero, Act.put, setIfInBounds_toArray, set_cons_zero, set_cons_succ])
            refine wpAnyH_take (i := 26) (v := ?_) rfl (by kernel_rfl) (by kernel_rfl) (by kernel_rfl) (fun _ _ _ h => h) (Or.inl ⟨by rfl, ?hy⟩) (by assumption) ?_
            case hy => (intro w hSw; (try dsimp only at hSw); go_simp; try (with_reducible rfl))
            (try simp only [getElem_toArray, getElem_cons_succ, getElem_cons_zero, Act.put, setIfInBounds_toArray, set_cons_zero, set_cons_succ])
            refine wpAnyH_take (i := 27) (v := ?_) rfl (by kernel_rfl) (by kernel_rfl) (by kernel_rfl) (fun _ _ _ h => h) (Or.inl ⟨by rfl, ?hy⟩) (by assumption) ?_
            case hy => (intro w hSw; (try dsimp only at hSw); go_simp; try (with_reducible rfl))
            (try simp only [getElem_toArray, getElem_cons_succ, getElem_cons_zero, Act.put, setIfInBounds_toArray, set_cons_zero, set_cons_succ])
            refine wpAnyH_take (i := 28) (v := ?_) rfl (by kernel_rfl) (by kernel_rfl) (by kernel_rfl) (fun _ _ _ h => h) (Or.inl ⟨by rfl, ?hy⟩) (by assumption) ?_
            case hy => (intro w hSw; (try dsimp only at hSw); go_simp; try (with_reducible rfl))
            (try simp only [getElem_toArray, getElem_cons_succ, getElem_cons_zero, Act.put, setIfInBounds_toArray, set_cons_zero, set_cons_succ])
            refine wpAnyH_take (i := 29) (v := ?_) rfl (by kernel_rfl) (by kernel_rfl) (by kernel_rfl) (fun _ _ _ h => h) (Or.inl ⟨by rfl, ?hy⟩) (by assumption) ?_
            case hy => (intro w hSw; (try dsimp only at hSw); go_simp; try (with_reducible rfl))
            (try simp only [getElem_toArray, getElem_cons_succ, getElem_cons_zero, Act.put, setIfInBounds_toArray, set_cons_zero, set_cons_succ])
            refine wpAnyH_take (i := 30) (v := ?_) rfl (by kernel_rfl) (by kernel_rfl) (by kernel_rfl) (fun _ _ _ h => h) (Or.inl ⟨by rfl, ?hy⟩) (by assumption) ?_
            case hy => (intro w hSw; (try dsimp only at hSw); go_simp; try (with_reducible rfl))
            (try simp only [getElem_toArray, getElem_cons_succ, getElem_cons_zero, Act.put, setIfInBounds_toArray, set_cons_zero, set_cons_succ])
            (try simp only [getElem_toArray, getElem_cons_succ, getElem_cons_zero, Act.put, setIfInBounds_toArray, set_cons_zero, set_cons_succ])
            refine wpAnyH_done (by kernel_rfl) ?_ _
            refine NoPanic.normal ?_
            all_goals go_wp2_with (go_at_call 15; ((with_reducible refine (g0 _).mono ?_); rintro e wY ⟨rfl, hbY⟩; have Bl := bel_trans Bl hbY))
            all_goals go_ret
            all_goals exact ⟨rfl, bel_trans hB0 (bel_trans Bw (bel_trans hB3 Bl))⟩
           ·rw [hc] at h1 h3
            simp only [Int.reduceNeg, decide_true, Int.reduceEq, decide_false] at h1 h3
            have h4 : (x.nm.toList = y.nm.toList) = False := by simpa using h3
            have HX := Lib.hid (show ∀ (w' : World), Below W3.heap.size W3 w' → (w'.cell? ⟨wr.heap.size, 0, none⟩ = some (.string x.nm) ∧ w'.cell? ⟨wr.heap.size, 1, none⟩ = some (.int .i64 (opT x.t)) ∧ w'.cell? ⟨wr.heap.size, 2, none⟩ = some (.string (nameT x.t)) ∧ w'.cell? ⟨wr.heap.size, 3, none⟩ = some (.int .i64 (numT x.t)) ∧ w'.cell? ⟨wr.heap.size, 4, none⟩ = some (.slice A9 M9 C9) ∧ w'.cell? ⟨bb, o + (k - 1) * 5, none⟩ = some (.string y.nm)) from fun w' h => by
             obtain ⟨r0, r1, r2, r3, r4⟩ := (UBox.b HS3.out h).five
             exact ⟨r0, r1, r2, r3, r4, ((bel_trans hB3 h).cell (p := ⟨bb, _, none⟩) hb').trans v0⟩)
            clear hs5 hn1 hc hok' hy em v0 v1 v2 v3 v4
            generalize hny : y.nm = ny at *
            clear hny
            have HOw := Lib.hid (show ∀ w' : World, Below W3.heap.size W3 w' → OwnS w' W.heap.size v' ((l.take k).map Pr.nm) from fun w' h => OwnS.below HO.out (bel_trans hB3 h))
            have Bl : Below W3.heap.size W3 W3 := Below.refl _ _
            have HBw := Lib.hid (show ∀ w' : World, Below W3.heap.size W3 w' → Below W.heap.size W w' from fun w' h => bel_trans Bw (bel_trans hB3 h))
            have eS := fun (w' : World) (h : Below W3.heap.size W3 w') => eS w' (bel_trans hB3 h)
            have eM := fun (w' : World) (h : Below W3.heap.size W3 w') => eM w' (bel_trans hB3 h)
            clear HS3 hx
            generalize opT x.t = ox at *
            generalize nameT x.t = mx at *
            generalize numT x.t = zx at *
            generalize hnx : x.nm = nx at *
            clear hnx
            go_upto_region 7 with fail
            refine wp_region_noPanic ?_
            refine wp_region_held_drew (S := fun w' => w'.cell? ⟨wr.heap.size, 0, none⟩ = some (.string nx) ∧ w'.cell? ⟨wr.heap.size, 1, none⟩ = some (.int .i64 ox) ∧ w'.cell? ⟨wr.heap.size, 2, none⟩ = some (.string mx) ∧ w'.cell? ⟨wr.heap.size, 3, none⟩ = some (.int .i64 zx) ∧ w'.cell? ⟨wr.heap.size, 4, none⟩ = some (.slice A9 M9 C9) ∧ w'.cell? ⟨bb, o + (k - 1) * 5, none⟩ = some (.string ny)) (by kernel_rfl) (by exact HX.out _ (Below.drew Bl)) (fun hHeld => ?_)
            have Bl := Below.drew Bl
            refine wpAnyH_take (i := 0) (v := ?_) rfl (by kernel_rfl) (by kernel_rfl) (by kernel_rfl) (fun _ _ _ h => h) (Or.inl ⟨by rfl, ?hy⟩) (by assumption) ?_
            case hy => (intro w hSw; (try dsimp only at hSw); go_simp; try (with_reducible rfl))
            (try simp only [getElem_toArray, getElem_cons_succ, getElem_cons_zero, Act.put, setIfInBounds_toArray, set_cons_zero, set_cons_succ])
            refine wpAnyH_take (i := 1) (v := ?_) rfl (by kernel_rfl) (by kernel_rfl) (by kernel_rfl) (fun _ _ _ h => h) (Or.inl ⟨by rfl, ?hy⟩) (by assumption) ?_
            case hy => (intro w hSw; (try dsimp only at hSw); go_simp; try (with_reducible rfl))
            (try simp only [getElem_toArray, getElem_cons_succ, getElem_cons_zero, Act.put, setIfInBounds_toArray, set_cons_zero, set_cons_succ])
            refine wpAnyH_ready (rs := [2]) (by kernel_rfl) (by simp) ?_
            refine AllReadyH.cons rfl (fun KK hKK => ?_) AllReadyH.nil
            go_simp
            (go_at_call 24; ((with_reducible refine (eS _ Bl).mono ?_); rintro e wK ⟨rfl, hbK⟩; have Bl := bel_trans Bl hbK))
            refine hKK.out _ _ (by exact HX.out _ Bl) (fun hHeld => ?_)
            clear hKK KK
            (try simp only [getElem_toArray, getElem_cons_succ, getElem_cons_zero, Act.put, setIfInBounds_toArray, set_cons_zero, set_cons_succ])
            refine wpAnyH_take (i := 3) (v := ?_) rfl (by kernel_rfl) (by kernel_rfl) (by kernel_rfl) (fun _ _ _ h => h) (Or.inl ⟨by rfl, ?hy⟩) (by assumption) ?_
            case hy => (intro w hSw; (try dsimp only at hSw); go_simp; try (with_reducible rfl))
            (try simp only [getElem_toArray, getElem_cons_succ, getElem_cons_zero, Act.put, setIfInBounds_toArray, set_cons_zero, set_cons_succ])
            refine wpAnyH_take (i := 4) (v := ?_) rfl (by kernel_rfl) (by kernel_rfl) (by kernel_rfl) (fun _ _ _ h => h) (Or.inl ⟨by rfl, ?hy⟩) (by assumption) ?_
            case hy => (intro w hSw; (try dsimp only at hSw); go_simp; try (with_reducible rfl))
            (try simp only [getElem_toArray, getElem_cons_succ, getElem_cons_zero, Act.put, setIfInBounds_toArray, set_cons_zero, set_cons_succ])
            refine wpAnyH_take (i := 5) (v := ?_) rfl (by kernel_rfl) (by kernel_rfl) (by kernel_rfl) (fun _ _ _ h => h) (Or.inl ⟨by rfl, ?hy⟩) (by assumption) ?_
            case hy => (intro w hSw; (try dsimp only at hSw); go_simp; try (with_reducible rfl))
            (try simp only [getElem_toArray, getElem_cons_succ, getElem_cons_zero, Act.put, setIfInBounds_toArray, set_cons_zero, set_cons_succ])
            refine wpAnyH_take (i := 6) (v := ?_) rfl (by kernel_rfl) (by kernel_rfl) (by kernel_rfl) (fun _ _ _ h => h) (Or.inl ⟨by rfl, ?hy⟩) (by assumption) ?_
            case hy => (intro w hSw; (try dsimp only at hSw); go_simp; try (with_reducible rfl))
            (try simp only [getElem_toArray, getElem_cons_succ, getElem_cons_zero, Act.put, setIfInBounds_toArray, set_cons_zero, set_cons_succ])
            refine wpAnyH_ready (rs := [7]) (by kernel_rfl) (by simp) ?_
            refine AllReadyH.cons rfl (fun KK hKK => ?_) AllReadyH.nil
            go_simp
            (go_at_call 25; ((with_reducible refine (eM _ Bl).mono ?_); rintro e wK ⟨rfl, hbK⟩; have Bl := bel_trans Bl hbK))
            refine hKK.out _ _ (by exact HX.out _ Bl) (fun hHeld => ?_)
            clear hKK KK
            (try simp only [getElem_toArray, getElem_cons_succ, getElem_cons_zero, Act.put, setIfInBounds_toArray, set_cons_zero, set_cons_succ])
            refine wpAnyH_take (i := 8) (v := ?_) rfl (by kernel_rfl) (by kernel_rfl) (by kernel_rfl) (fun _ _ _ h => h) (Or.inl ⟨by rfl, ?hy⟩) (by assumption) ?_
            case hy => (intro w hSw; (try dsimp only at hSw); go_simp; try (with_reducible rfl))
            (try simp only [getElem_toArray, getElem_cons_succ, getElem_cons_zero, Act.put, setIfInBounds_toArray, set_cons_zero, set_cons_succ])
            refine wpAnyH_take (i := 9) (v := ?_) rfl (by kernel_rfl) (by kernel_rfl) (by kernel_rfl) (fun _ _ _ h => h) (Or.inl ⟨by rfl, ?hy⟩) (by assumption) ?_
            case hy => (intro w hSw; (try dsimp only at hSw); go_simp; try (with_reducible rfl))
            (try simp only [getElem_toArray, getElem_cons_succ, getElem_cons_zero, Act.put, setIfInBounds_toArray, set_cons_zero, set_cons_succ])
            refine wpAnyH_take (i := 10) (v := ?_) rfl (by kernel_rfl) (by kernel_rfl) (by kernel_rfl) (fun _ _ _ h => h) (Or.inl ⟨by rfl, ?hy⟩) (by assumption) ?_
            case hy => (intro w hSw; (try dsimp only at hSw); go_simp; try (with_reducible rfl))
            (try simp only [getElem_toArray, getElem_cons_succ, getElem_cons_zero, Act.put, setIfInBounds_toArray, set_cons_zero, set_cons_succ])
            refine wpAnyH_take (i := 11) (v := ?_) rfl (by kernel_rfl) (by kernel_rfl) (by kernel_rfl) (fun _ _ _ h => h) (Or.inl ⟨by rfl, ?hy⟩) (by assumption) ?_
            case hy => (intro w hSw; (try dsimp only at hSw); go_simp; try (with_reducible rfl))
            (try simp only [getElem_toArray, getElem_cons_succ, getElem_cons_zero, Act.put, setIfInBounds_toArray, set_cons_zero, set_cons_succ])
            refine wpAnyH_take (i := 12) (v := ?_) rfl (by kernel_rfl) (by kernel_rfl) (by kernel_rfl) (fun _ _ _ h => h) (Or.inl ⟨by rfl, ?hy⟩) (by assumption) ?_
            case hy => (intro w hSw; (try dsimp only at hSw); go_simp; try (with_reducible rfl))
            (try simp only [getElem_toArray, getElem_cons_succ, getElem_cons_zero, Act.put, setIfInBounds_toArray, set_cons_zero, set_cons_succ])
            refine wpAnyH_take (i := 13) (v := ?_) rfl (by kernel_rfl) (by kernel_rfl) (by kernel_rfl) (fun _ _ _ h => h) (Or.inl ⟨by rfl, ?hy⟩) (by assumption) ?_
            case hy => (intro w hSw; (try dsimp only at hSw); go_simp; try (with_reducible rfl))
            (try simp only [getElem_toArray, getElem_cons_succ, getElem_cons_zero, Act.put, setIfInBounds_toArray, set_cons_zero, set_cons_succ])
            refine wpAnyH_take (i := 14) (v := ?_) rfl (by kernel_rfl) (by kernel_rfl) (by kernel_rfl) (fun _ _ _ h => h) (Or.inl ⟨by rfl, ?hy⟩) (by assumption) ?_
            case hy => (intro w hSw; (try dsimp only at hSw); go_simp; try (with_reducible rfl))
            (try simp only [getElem_toArray, getElem_cons_succ, getElem_cons_zero, Act.put, setIfInBounds_toArray, set_cons_zero, set_cons_succ])
            refine wpAnyH_take (i := 15) (v := ?_) rfl (by kernel_rfl) (by kernel_rfl) (by kernel_rfl) (fun _ _ _ h => h) (Or.inl ⟨by rfl, ?hy⟩) (by assumption) ?_
            case hy => (intro w hSw; (try dsimp only at hSw); go_simp; try (with_reducible rfl))
            (try simp only [getElem_toArray, getElem_cons_succ, getElem_cons_zero, Act.put, setIfInBounds_toArray, set_cons_zero, set_cons_succ])
            refine wpAnyH_take (i := 16) (v := ?_) rfl (by kernel_rfl) (by kernel_rfl) (by kernel_rfl) (fun _ _ _ h => h) (Or.inl ⟨by rfl, ?hy⟩) (by assumption) ?_
            case hy => (intro w hSw; (try dsimp only at hSw); go_simp; try (with_reducible rfl))
            (try simp only [getElem_toArray, getElem_cons_succ, getElem_cons_zero, Act.put, setIfInBounds_toArray, set_cons_zero, set_cons_succ])
            refine wpAnyH_take (i := 17) (v := ?_) rfl (by kernel_rfl) (by kernel_rfl) (by kernel_rfl) (fun _ _ _ h => h) (Or.inl ⟨by rfl, ?hy⟩) (by assumption) ?_
            case hy => (intro w hSw; (try dsimp only at hSw); go_simp; try (with_reducible rfl))
            (try simp only [getElem_toArray, getElem_cons_succ, getElem_cons_zero, Act.put, setIfInBounds_toArray, set_cons_zero, set_cons_succ])
            refine wpAnyH_take (i := 18) (v := ?_) rfl (by kernel_rfl) (by kernel_rfl) (by kernel_rfl) (fun _ _ _ h => h) (Or.inl ⟨by rfl, ?hy⟩) (by assumption) ?_
            case hy => (intro w hSw; (try dsimp only at hSw); go_simp; try (with_reducible rfl))
            (try simp only [getElem_toArray, getElem_cons_succ, getElem_cons_zero, Act.put, setIfInBounds_toArray, set_cons_zero, set_cons_succ])
            refine wpAnyH_take (i := 19) (v := ?_) rfl (by kernel_rfl) (by kernel_rfl) (by kernel_rfl) (fun _ _ _ h => h) (Or.inl ⟨by rfl, ?hy⟩) (by assumption) ?_
            case hy => (intro w hSw; (try dsimp only at hSw); go_simp; try (with_reducible rfl))
            (try simp only [getElem_toArray, getElem_cons_succ, getElem_cons_zero, Act.put, setIfInBounds_toArray, set_cons_zero, set_cons_succ])
            refine wpAnyH_take (i := 20) (v := ?_) rfl (by kernel_rfl) (by kernel_rfl) (by kernel_rfl) (fun _ _ _ h => h) (Or.inl ⟨by rfl, ?hy⟩) (by assumption) ?_
            case hy => (intro w hSw; (try dsimp only at hSw); go_simp; try (with_reducible rfl))
            (try simp only [getElem_toArray, getElem_cons_succ, getElem_cons_zero, Act.put, setIfInBounds_toArray, set_cons_zero, set_cons_succ])
            refine wpAnyH_take (i := 21) (v := ?_) rfl (by kernel_rfl) (by kernel_rfl) (by kernel_rfl) (fun _ _ _ h => h) (Or.inl ⟨by rfl, ?hy⟩) (by assumption) ?_
            case hy => (intro w hSw; (try dsimp only at hSw); go_simp; try (with_reducible rfl))
            (try simp only [getElem_toArray, getElem_cons_succ, getElem_cons_zero, Act.put, setIfInBounds_toArray, set_cons_zero, set_cons_succ])
            refine wpAnyH_take (i := 22) (v := ?_) rfl (by kernel_rfl) (by kernel_rfl) (by kernel_rfl) (fun _ _ _ h => h) (Or.inl ⟨by rfl, ?hy⟩) (by assumption) ?_
            case hy => (intro w hSw; (try dsimp only at hSw); go_simp; try (with_reducible rfl))
            (try simp only [getElem_toArray, getElem_cons_succ, getElem_cons_zero, Act.put, setIfInBounds_toArray, set_cons_zero, set_cons_succ])
            refine wpAnyH_take (i := 23) (v := ?_) rfl (by kernel_rfl) (by kernel_rfl) (by kernel_rfl) (fun _ _ _ h => h) (Or.inl ⟨by rfl, ?hy⟩) (by assumption) ?_
            case hy => (intro w hSw; (try dsimp only at hSw); go_simp; try (with_reducible rfl))
            (try simp only [getElem_toArray, getElem_cons_succ, getElem_cons_zero, Act.put, setIfInBounds_toArray, set_cons_zero, set_cons_succ])
            refine wpAnyH_take (i := 24) (v := ?_) rfl (by kernel_rfl) (by kernel_rfl) (by kernel_rfl) (fun _ _ _ h => h) (Or.inl ⟨by rfl, ?hy⟩) (by assumption) ?_
            case hy => (intro w hSw; (try dsimp only at hSw); go_simp; try (with_reducible rfl))
            (try simp only [getElem_toArray, getElem_cons_succ, getElem_cons_zero, Act.put, setIfInBounds_toArray, set_cons_zero, set_cons_succ])
            refine wpAnyH_take (i := 25) (v := ?_) rfl (by kernel_rfl) (by kernel_rfl) (by kernel_rfl) (fun _ _ _ h => h) (Or.inl ⟨by rfl, ?hy⟩) (by assumption) ?_
            case hy => (intro w hSw; (try dsimp only at hSw); go_simp; try (with_reducible rfl))
            (try simp only [getElem_toArray, getElem_cons_succ, getElem_cons_zero, Act.put, setIfInBounds_toArray, set_cons_zero, set_cons_succ])
            refine wpAnyH_take (i := 26) (v := ?_) rfl (by kernel_rfl) (by kernel_rfl) (by kernel_rfl) (fun _ _ _ h => h) (Or.inl ⟨by rfl, ?hy⟩) (by assumption) ?_
            case hy => (intro w hSw; (try dsimp only at hSw); go_simp; try (with_reducible rfl))
            (try simp only [getElem_toArray, getElem_cons_succ, getElem_cons_zero, Act.put, setIfInBounds_toArray, set_cons_zero, set_cons_succ])
            refine wpAnyH_take (i := 27) (v := ?_) rfl (by kernel_rfl) (by kernel_rfl) (by kernel_rfl) (fun _ _ _ h => h) (Or.inl ⟨by rfl, ?hy⟩) (by assumption) ?_
            case hy => (intro w hSw; (try dsimp only at hSw); go_simp; try (with_reducible rfl))
            (try simp only [getElem_toArray, getElem_cons_succ, getElem_cons_zero, Act.put, setIfInBounds_toArray, set_cons_zero, set_cons_succ])
            refine wpAnyH_take (i := 28) (v := ?_) rfl (by kernel_rfl) (by kernel_rfl) (by kernel_rfl) (fun _ _ _ h => h) (Or.inl ⟨by rfl, ?hy⟩) (by assumption) ?_
            case hy => (intro w hSw; (try dsimp only at hSw); go_simp; try (with_reducible rfl))
            (try simp only [getElem_toArray, getElem_cons_succ, getElem_cons_zero, Act.put, setIfInBounds_toArray, set_cons_zero, set_cons_succ])
            refine wpAnyH_take (i := 29) (v := ?_) rfl (by kernel_rfl) (by kernel_rfl) (by kernel_rfl) (fun _ _ _ h => h) (Or.inl ⟨by rfl, ?hy⟩) (by assumption) ?_
            case hy => (intro w hSw; (try dsimp only at hSw); go_simp; try (with_reducible rfl))
            (try simp only [getElem_toArray, getElem_cons_succ, getElem_cons_zero, Act.put, setIfInBounds_toArray, set_cons_zero, set_cons_succ])
            refine wpAnyH_take (i := 30) (v := ?_) rfl (by kernel_rfl) (by kernel_rfl) (by kernel_rfl) (fun _ _ _ h => h) (Or.inl ⟨by rfl, ?hy⟩) (by assumption) ?_
            case hy => (intro w hSw; (try dsimp only at hSw); go_simp; try (with_reducible rfl))
            (try simp only [getElem_toArray, getElem_cons_succ, getElem_cons_zero, Act.put, setIfInBounds_toArray, set_cons_zero, set_cons_succ])
            (try simp only [getElem_toArray, getElem_cons_succ, getElem_cons_zero, Act.put, setIfInBounds_toArray, set_cons_zero, set_cons_succ])
            refine wpAnyH_done (by kernel_rfl) ?_ _
            refine NoPanic.normal ?_
            all_goals obtain ⟨f0, f1, f2, f3, f4, f5⟩ := HX.out _ Bl
            all_goals go_wp2_with (at_builtin; ((refine fi_app rfl (.tmp 77) (.tmp 80) rfl v' ((l.take k).map Pr.nm) nx rfl rfl (HOw.out _ Bl) (HBw.out _ Bl) HTl.out ?_); intro v6 w6 ho6 hb6; have HO6 := Lib.hid ho6; clear ho6))
            all_goals go_roundw
            all_goals first | exact ⟨_, k + 1, v6, rfl, rfl, by omega, by go_num, Lib.hid (HSt.out v6 _ HO6.out hb6)⟩ | (simp [intOf]; omega)
         ·have e2 : decide ((100 : Int) < (x.nm.size : Int)) = true := decide_eq_true (by omega)
          have HX := Lib.hid (show ∀ (w' : World), Below W3.heap.size W3 w' → (w'.cell? ⟨wr.heap.size, 0, none⟩ = some (.string x.nm) ∧ w'.cell? ⟨wr.heap.size, 1, none⟩ = some (.int .i64 (opT x.t)) ∧ w'.cell? ⟨wr.heap.size, 2, none⟩ = some (.string (nameT x.t)) ∧ w'.cell? ⟨wr.heap.size, 3, none⟩ = some (.int .i64 (numT x.t)) ∧ w'.cell? ⟨wr.heap.size, 4, none⟩ = some (.slice A9 M9 C9)) from fun w' h => (UBox.b HS3.out h).five)
          clear HSt HTl HO hs5 hn1
          have Bl : Below W3.heap.size W3 W3 := Below.refl _ _
          have HBw := Lib.hid (show ∀ w' : World, Below W3.heap.size W3 w' → Below W.heap.size W w' from fun w' h => bel_trans Bw (bel_trans hB3 h))
          have eS := fun (w' : World) (h : Below W3.heap.size W3 w') => eS w' (bel_trans hB3 h)
          have eM := fun (w' : World) (h : Below W3.heap.size W3 w') => eM w' (bel_trans hB3 h)
          clear HS3 hx
          generalize opT x.t = ox at *
          generalize nameT x.t = mx at *
          generalize numT x.t = zx at *
          generalize hnx : x.nm = nx at *
          clear hnx
          go_upto_region 7 with fail
          refine wp_region_noPanic ?_
          refine wp_region_held_drew (S := fun w' => w'.cell? ⟨wr.heap.size, 0, none⟩ = some (.string nx) ∧ w'.cell? ⟨wr.heap.size, 1, none⟩ = some (.int .i64 ox) ∧ w'.cell? ⟨wr.heap.size, 2, none⟩ = some (.string mx) ∧ w'.cell? ⟨wr.heap.size, 3, none⟩ = some (.int .i64 zx) ∧ w'.cell? ⟨wr.heap.size, 4, none⟩ = some (.slice A9 M9 C9)) (by kernel_rfl) (by exact HX.out _ (Below.drew Bl)) (fun hHeld => ?_)
          have Bl := Below.drew Bl
          refine wpAnyH_take (i := 0) (v := ?_) rfl (by kernel_rfl) (by kernel_rfl) (by kernel_rfl) (fun _ _ _ h => h) (Or.inl ⟨by rfl, ?hy⟩) (by assumption) ?_
          case hy => (intro w hSw; (try dsimp only at hSw); go_simp; try (with_reducible rfl))
          (try simp only [getElem_toArray, getElem_cons_succ, getElem_cons_zero, Act.put, setIfInBounds_toArray, set_cons_zero, set_cons_succ])
          refine wpAnyH_take (i := 1) (v := ?_) rfl (by kernel_rfl) (by kernel_rfl) (by kernel_rfl) (fun _ _ _ h => h) (Or.inl ⟨by rfl, ?hy⟩) (by assumption) ?_
          case hy => (intro w hSw; (try dsimp only at hSw); go_simp; try (with_reducible rfl))
          (try simp only [getElem_toArray, getElem_cons_succ, getElem_cons_zero, Act.put, setIfInBounds_toArray, set_cons_zero, set_cons_succ])
          refine wpAnyH_ready (rs := [2]) (by kernel_rfl) (by simp) ?_
          refine AllReadyH.cons rfl (fun KK hKK => ?_) AllReadyH.nil
          go_simp
          (go_at_call 24; ((with_reducible refine (eS _ Bl).mono ?_); rintro e wK ⟨rfl, hbK⟩; have Bl := bel_trans Bl hbK))
          refine hKK.out _ _ (by exact HX.out _ Bl) (fun hHeld => ?_)
          clear hKK KK
          (try simp only [getElem_toArray, getElem_cons_succ, getElem_cons_zero, Act.put, setIfInBounds_toArray, set_cons_zero, set_cons_succ])
          refine wpAnyH_take (i := 3) (v := ?_) rfl (by kernel_rfl) (by kernel_rfl) (by kernel_rfl) (fun _ _ _ h => h) (Or.inl ⟨by rfl, ?hy⟩) (by assumption) ?_
          case hy => (intro w hSw; (try dsimp only at hSw); go_simp; try (with_reducible rfl))
          (try simp only [getElem_toArray, getElem_cons_succ, getElem_cons_zero, Act.put, setIfInBounds_toArray, set_cons_zero, set_cons_succ])
          refine wpAnyH_take (i := 4) (v := ?_) rfl (by kernel_rfl) (by kernel_rfl) (by kernel_rfl) (fun _ _ _ h => h) (Or.inl ⟨by rfl, ?hy⟩) (by assumption) ?_
          case hy => (intro w hSw; (try dsimp only at hSw); go_simp; try (with_reducible rfl))
          (try simp only [getElem_toArray, getElem_cons_succ, getElem_cons_zero, Act.put, setIfInBounds_toArray, set_cons_zero, set_cons_succ])
          refine wpAnyH_take (i := 5) (v := ?_) rfl (by kernel_rfl) (by kernel_rfl) (by kernel_rfl) (fun _ _ _ h => h) (Or.inl ⟨by rfl, ?hy⟩) (by assumption) ?_
          case hy => (intro w hSw; (try dsimp only at hSw); go_simp; try (with_reducible rfl))
          (try simp only [getElem_toArray, getElem_cons_succ, getElem_cons_zero, Act.put, setIfInBounds_toArray, set_cons_zero, set_cons_succ])
          refine wpAnyH_take (i := 6) (v := ?_) rfl (by kernel_rfl) (by kernel_rfl) (by kernel_rfl) (fun _ _ _ h => h) (Or.inl ⟨by rfl, ?hy⟩) (by assumption) ?_
          case hy => (intro w hSw; (try dsimp only at hSw); go_simp; try (with_reducible rfl))
          (try simp only [getElem_toArray, getElem_cons_succ, getElem_cons_zero, Act.put, setIfInBounds_toArray, set_cons_zero, set_cons_succ])
          refine wpAnyH_ready (rs := [7]) (by kernel_rfl) (by simp) ?_
          refine AllReadyH.cons rfl (fun KK hKK => ?_) AllReadyH.nil
          go_simp
          (go_at_call 25; ((with_reducible refine (eM _ Bl).mono ?_); rintro e wK ⟨rfl, hbK⟩; have Bl := bel_trans Bl hbK))
          refine hKK.out _ _ (by exact HX.out _ Bl) (fun hHeld => ?_)
          clear hKK KK
          (try simp only [getElem_toArray, getElem_cons_succ, getElem_cons_zero, Act.put, setIfInBounds_toArray, set_cons_zero, set_cons_succ])
          refine wpAnyH_take (i := 8) (v := ?_) rfl (by kernel_rfl) (by kernel_rfl) (by kernel_rfl) (fun _ _ _ h => h) (Or.inl ⟨by rfl, ?hy⟩) (by assumption) ?_
          case hy => (intro w hSw; (try dsimp only at hSw); go_simp; try (with_reducible rfl))
          (try simp only [getElem_toArray, getElem_cons_succ, getElem_cons_zero, Act.put, setIfInBounds_toArray, set_cons_zero, set_cons_succ])
          refine wpAnyH_take (i := 9) (v := ?_) rfl (by kernel_rfl) (by kernel_rfl) (by kernel_rfl) (fun _ _ _ h => h) (Or.inl ⟨by rfl, ?hy⟩) (by assumption) ?_
          case hy => (intro w hSw; (try dsimp only at hSw); go_simp; try (with_reducible rfl))
          (try simp only [getElem_toArray, getElem_cons_succ, getElem_cons_zero, Act.put, setIfInBounds_toArray, set_cons_zero, set_cons_succ])
          refine wpAnyH_take (i := 10) (v := ?_) rfl (by kernel_rfl) (by kernel_rfl) (by kernel_rfl) (fun _ _ _ h => h) (Or.inl ⟨by rfl, ?hy⟩) (by assumption) ?_
          case hy => (intro w hSw; (try dsimp only at hSw); go_simp; try (with_reducible rfl))
          (try simp only [getElem_toArray, getElem_cons_succ, getElem_cons_zero, Act.put, setIfInBounds_toArray, set_cons_zero, set_cons_succ])
          refine wpAnyH_take (i := 11) (v := ?_) rfl (by kernel_rfl) (by kernel_rfl) (by kernel_rfl) (fun _ _ _ h => h) (Or.inl ⟨by rfl, ?hy⟩) (by assumption) ?_
          case hy => (intro w hSw; (try dsimp only at hSw); go_simp; try (with_reducible rfl))
          (try simp only [getElem_toArray, getElem_cons_succ, getElem_cons_zero, Act.put, setIfInBounds_toArray, set_cons_zero, set_cons_succ])
          refine wpAnyH_take (i := 12) (v := ?_) rfl (by kernel_rfl) (by kernel_rfl) (by kernel_rfl) (fun _ _ _ h => h) (Or.inl ⟨by rfl, ?hy⟩) (by assumption) ?_
          case hy => (intro w hSw; (try dsimp only at hSw); go_simp; try (with_reducible rfl))
          (try simp only [getElem_toArray, getElem_cons_succ, getElem_cons_zero, Act.put, setIfInBounds_toArray, set_cons_zero, set_cons_succ])
          refine wpAnyH_take (i := 13) (v := ?_) rfl (by kernel_rfl) (by kernel_rfl) (by kernel_rfl) (fun _ _ _ h => h) (Or.inl ⟨by rfl, ?hy⟩) (by assumption) ?_
          case hy => (intro w hSw; (try dsimp only at hSw); go_simp; try (with_reducible rfl))
          (try simp only [getElem_toArray, getElem_cons_succ, getElem_cons_zero, Act.put, setIfInBounds_toArray, set_cons_zero, set_cons_succ])
          refine wpAnyH_take (i := 14) (v := ?_) rfl (by kernel_rfl) (by kernel_rfl) (by kernel_rfl) (fun _ _ _ h => h) (Or.inl ⟨by rfl, ?hy⟩) (by assumption) ?_
          case hy => (intro w hSw; (try dsimp only at hSw); go_simp; try (with_reducible rfl))
          (try simp only [getElem_toArray, getElem_cons_succ, getElem_cons_zero, Act.put, setIfInBounds_toArray, set_cons_zero, set_cons_succ])
          refine wpAnyH_take (i := 15) (v := ?_) rfl (by kernel_rfl) (by kernel_rfl) (by kernel_rfl) (fun _ _ _ h => h) (Or.inl ⟨by rfl, ?hy⟩) (by assumption) ?_
          case hy => (intro w hSw; (try dsimp only at hSw); go_simp; try (with_reducible rfl))
          (try simp only [getElem_toArray, getElem_cons_succ, getElem_cons_zero, Act.put, setIfInBounds_toArray, set_cons_zero, set_cons_succ])
          refine wpAnyH_take (i := 16) (v := ?_) rfl (by kernel_rfl) (by kernel_rfl) (by kernel_rfl) (fun _ _ _ h => h) (Or.inl ⟨by rfl, ?hy⟩) (by assumption) ?_
          case hy => (intro w hSw; (try dsimp only at hSw); go_simp; try (with_reducible rfl))
          (try simp only [getElem_toArray, getElem_cons_succ, getElem_cons_zero, Act.put, setIfInBounds_toArray, set_cons_zero, set_cons_succ])
          refine wpAnyH_take (i := 17) (v := undef) rfl (by kernel_rfl) (by kernel_rfl) (by kernel_rfl) (fun _ _ _ h => h) (Or.inr ⟨by rfl, rfl⟩) (by assumption) ?_
          (try simp only [getElem_toArray, getElem_cons_succ, getElem_cons_zero, Act.put, setIfInBounds_toArray, set_cons_zero, set_cons_succ])
          refine wpAnyH_take (i := 18) (v := undef) rfl (by kernel_rfl) (by kernel_rfl) (by kernel_rfl) (fun _ _ _ h => h) (Or.inr ⟨by rfl, rfl⟩) (by assumption) ?_
          (try simp only [getElem_toArray, getElem_cons_succ, getElem_cons_zero, Act.put, setIfInBounds_toArray, set_cons_zero, set_cons_succ])
          refine wpAnyH_take (i := 19) (v := undef) rfl (by kernel_rfl) (by kernel_rfl) (by kernel_rfl) (fun _ _ _ h => h) (Or.inr ⟨by rfl, rfl⟩) (by assumption) ?_
          (try simp only [getElem_toArray, getElem_cons_succ, getElem_cons_zero, Act.put, setIfInBounds_toArray, set_cons_zero, set_cons_succ])
          refine wpAnyH_take (i := 20) (v := undef) rfl (by kernel_rfl) (by kernel_rfl) (by kernel_rfl) (fun _ _ _ h => h) (Or.inr ⟨by rfl, rfl⟩) (by assumption) ?_
          (try simp only [getElem_toArray, getElem_cons_succ, getElem_cons_zero, Act.put, setIfInBounds_toArray, set_cons_zero, set_cons_succ])
          refine wpAnyH_take (i := 21) (v := undef) rfl (by kernel_rfl) (by kernel_rfl) (by kernel_rfl) (fun _ _ _ h => h) (Or.inr ⟨by rfl, rfl⟩) (by assumption) ?_
          (try simp only [getElem_toArray, getElem_cons_succ, getElem_cons_zero, Act.put, setIfInBounds_toArray, set_cons_zero, set_cons_succ])
          refine wpAnyH_take (i := 22) (v := undef) rfl (by kernel_rfl) (by kernel_rfl) (by kernel_rfl) (fun _ _ _ h => h) (Or.inr ⟨by rfl, rfl⟩) (by assumption) ?_
          (try simp only [getElem_toArray, getElem_cons_succ, getElem_cons_zero, Act.put, setIfInBounds_toArray, set_cons_zero, set_cons_succ])
          refine wpAnyH_take (i := 23) (v := undef) rfl (by kernel_rfl) (by kernel_rfl) (by kernel_rfl) (fun _ _ _ h => h) (Or.inr ⟨by rfl, rfl⟩) (by assumption) ?_
          (try simp only [getElem_toArray, getElem_cons_succ, getElem_cons_zero, Act.put, setIfInBounds_toArray, set_cons_zero, set_cons_succ])
          refine wpAnyH_take (i := 24) (v := undef) rfl (by kernel_rfl) (by kernel_rfl) (by kernel_rfl) (fun _ _ _ h => h) (Or.inr ⟨by rfl, rfl⟩) (by assumption) ?_
          (try simp only [getElem_toArray, getElem_cons_succ, getElem_cons_zero, Act.put, setIfInBounds_toArray, set_cons_zero, set_cons_succ])
          refine wpAnyH_take (i := 25) (v := undef) rfl (by kernel_rfl) (by kernel_rfl) (by kernel_rfl) (fun _ _ _ h => h) (Or.inr ⟨by rfl, rfl⟩) (by assumption) ?_
          (try simp only [getElem_toArray, getElem_cons_succ, getElem_cons_zero, Act.put, setIfInBounds_toArray, set_cons_zero, set_cons_succ])
          refine wpAnyH_take (i := 26) (v := undef) rfl (by kernel_rfl) (by kernel_rfl) (by kernel_rfl) (fun _ _ _ h => h) (Or.inr ⟨by rfl, rfl⟩) (by assumption) ?_
          (try simp only [getElem_toArray, getElem_cons_succ, getElem_cons_zero, Act.put, setIfInBounds_toArray, set_cons_zero, set_cons_succ])
          refine wpAnyH_take (i := 27) (v := undef) rfl (by kernel_rfl) (by kernel_rfl) (by kernel_rfl) (fun _ _ _ h => h) (Or.inr ⟨by rfl, rfl⟩) (by assumption) ?_
          (try simp only [getElem_toArray, getElem_cons_succ, getElem_cons_zero, Act.put, setIfInBounds_toArray, set_cons_zero, set_cons_succ])
          refine wpAnyH_take (i := 28) (v := undef) rfl (by kernel_rfl) (by kernel_rfl) (by kernel_rfl) (fun _ _ _ h => h) (Or.inr ⟨by rfl, rfl⟩) (by assumption) ?_
          (try simp only [getElem_toArray, getElem_cons_succ, getElem_cons_zero, Act.put, setIfInBounds_toArray, set_cons_zero, set_cons_succ])
          refine wpAnyH_take (i := 29) (v := undef) rfl (by kernel_rfl) (by kernel_rfl) (by kernel_rfl) (fun _ _ _ h => h) (Or.inr ⟨by rfl, rfl⟩) (by assumption) ?_
          (try simp only [getElem_toArray, getElem_cons_succ, getElem_cons_zero, Act.put, setIfInBounds_toArray, set_cons_zero, set_cons_succ])
          refine wpAnyH_take (i := 30) (v := ?_) rfl (by kernel_rfl) (by kernel_rfl) (by kernel_rfl) (fun _ _ _ h => h) (Or.inl ⟨by rfl, ?hy⟩) (by assumption) ?_
          case hy => (intro w hSw; (try dsimp only at hSw); go_simp; try (with_reducible rfl))
          (try simp only [getElem_toArray, getElem_cons_succ, getElem_cons_zero, Act.put, setIfInBounds_toArray, set_cons_zero, set_cons_succ])
          (try simp only [getElem_toArray, getElem_cons_succ, getElem_cons_zero, Act.put, setIfInBounds_toArray, set_cons_zero, set_cons_succ])
          refine wpAnyH_done (by kernel_rfl) ?_ _
          refine NoPanic.normal ?_
          all_goals go_wp2_with (go_at_call 15; ((with_reducible refine (g0 _).mono ?_); rintro e wY ⟨rfl, hbY⟩; have Bl := bel_trans Bl hbY))
          all_goals go_ret
          all_goals exact ⟨rfl, bel_trans hB0 (bel_trans Bw (bel_trans hB3 Bl))⟩
       ·have e1 : decide ((50 : Int) < (sz : Int)) = true := decide_eq_true (by omega)
        have HX := Lib.hid (show ∀ (w' : World), Below W3.heap.size W3 w' → (w'.cell? ⟨wr.heap.size, 0, none⟩ = some (.string x.nm) ∧ w'.cell? ⟨wr.heap.size, 1, none⟩ = some (.int .i64 (opT x.t)) ∧ w'.cell? ⟨wr.heap.size, 2, none⟩ = some (.string (nameT x.t)) ∧ w'.cell? ⟨wr.heap.size, 3, none⟩ = some (.int .i64 (numT x.t)) ∧ w'.cell? ⟨wr.heap.size, 4, none⟩ = some (.slice A9 M9 C9)) from fun w' h => (UBox.b HS3.out h).five)
        clear HSt HTl HO hs5
        have Bl : Below W3.heap.size W3 W3 := Below.refl _ _
        have HBw := Lib.hid (show ∀ w' : World, Below W3.heap.size W3 w' → Below W.heap.size W w' from fun w' h => bel_trans Bw (bel_trans hB3 h))
        have eS := fun (w' : World) (h : Below W3.heap.size W3 w') => eS w' (bel_trans hB3 h)
        have eM := fun (w' : World) (h : Below W3.heap.size W3 w') => eM w' (bel_trans hB3 h)
        clear HS3 hx
        generalize opT x.t = ox at *
        generalize nameT x.t = mx at *
        generalize numT x.t = zx at *
        generalize hnx : x.nm = nx at *
        clear hnx
        go_upto_region 7 with fail
        refine wp_region_noPanic ?_
        refine wp_region_held_drew (S := fun w' => w'.cell? ⟨wr.heap.size, 0, none⟩ = some (.string nx) ∧ w'.cell? ⟨wr.heap.size, 1, none⟩ = some (.int .i64 ox) ∧ w'.cell? ⟨wr.heap.size, 2, none⟩ = some (.string mx) ∧ w'.cell? ⟨wr.heap.size, 3, none⟩ = some (.int .i64 zx) ∧ w'.cell? ⟨wr.heap.size, 4, none⟩ = some (.slice A9 M9 C9)) (by kernel_rfl) (by exact HX.out _ (Below.drew Bl)) (fun hHeld => ?_)
        have Bl := Below.drew Bl
        refine wpAnyH_take (i := 0) (v := ?_) rfl (by kernel_rfl) (by kernel_rfl) (by kernel_rfl) (fun _ _ _ h => h) (Or.inl ⟨by rfl, ?hy⟩) (by assumption) ?_
        case hy => (intro w hSw; (try dsimp only at hSw); go_simp; try (with_reducible rfl))
        (try simp only [getElem_toArray, getElem_cons_succ, getElem_cons_zero, Act.put, setIfInBounds_toArray, set_cons_zero, set_cons_succ])
        refine wpAnyH_take (i := 1) (v := ?_) rfl (by kernel_rfl) (by kernel_rfl) (by kernel_rfl) (fun _ _ _ h => h) (Or.inl ⟨by rfl, ?hy⟩) (by assumption) ?_
        case hy => (intro w hSw; (try dsimp only at hSw); go_simp; try (with_reducible rfl))
        (try simp only [getElem_toArray, getElem_cons_succ, getElem_cons_zero, Act.put, setIfInBounds_toArray, set_cons_zero, set_cons_succ])
        refine wpAnyH_ready (rs := [2]) (by kernel_rfl) (by simp) ?_
        refine AllReadyH.cons rfl (fun KK hKK => ?_) AllReadyH.nil
        go_simp
        (go_at_call 24; ((with_reducible refine (eS _ Bl).mono ?_); rintro e wK ⟨rfl, hbK⟩; have Bl := bel_trans Bl hbK))
        refine hKK.out _ _ (by exact HX.out _ Bl) (fun hHeld => ?_)
        clear hKK KK
        (try simp only [getElem_toArray, getElem_cons_succ, getElem_cons_zero, Act.put, setIfInBounds_toArray, set_cons_zero, set_cons_succ])
        refine wpAnyH_take (i := 3) (v := ?_) rfl (by kernel_rfl) (by kernel_rfl) (by kernel_rfl) (fun _ _ _ h => h) (Or.inl ⟨by rfl, ?hy⟩) (by assumption) ?_
        case hy => (intro w hSw; (try dsimp only at hSw); go_simp; try (with_reducible rfl))
        (try simp only [getElem_toArray, getElem_cons_succ, getElem_cons_zero, Act.put, setIfInBounds_toArray, set_cons_zero, set_cons_succ])
        refine wpAnyH_take (i := 4) (v := ?_) rfl (by kernel_rfl) (by kernel_rfl) (by kernel_rfl) (fun _ _ _ h => h) (Or.inl ⟨by rfl, ?hy⟩) (by assumption) ?_
        case hy => (intro w hSw; (try dsimp only at hSw); go_simp; try (with_reducible rfl))
        (try simp only [getElem_toArray, getElem_cons_succ, getElem_cons_zero, Act.put, setIfInBounds_toArray, set_cons_zero, set_cons_succ])
        refine wpAnyH_take (i := 5) (v := undef) rfl (by kernel_rfl) (by kernel_rfl) (by kernel_rfl) (fun _ _ _ h => h) (Or.inr ⟨by rfl, rfl⟩) (by assumption) ?_
        (try simp only [getElem_toArray, getElem_cons_succ, getElem_cons_zero, Act.put, setIfInBounds_toArray, set_cons_zero, set_cons_succ])
        refine wpAnyH_take (i := 6) (v := undef) rfl (by kernel_rfl) (by kernel_rfl) (by kernel_rfl) (fun _ _ _ h => h) (Or.inr ⟨by rfl, rfl⟩) (by assumption) ?_
        (try simp only [getElem_toArray, getElem_cons_succ, getElem_cons_zero, Act.put, setIfInBounds_toArray, set_cons_zero, set_cons_succ])
        refine wpAnyH_take (i := 7) (v := undef) rfl (by kernel_rfl) (by kernel_rfl) (by kernel_rfl) (fun _ _ _ h => h) (Or.inr ⟨by rfl, rfl⟩) (by assumption) ?_
        (try simp only [getElem_toArray, getElem_cons_succ, getElem_cons_zero, Act.put, setIfInBounds_toArray, set_cons_zero, set_cons_succ])
        refine wpAnyH_take (i := 8) (v := undef) rfl (by kernel_rfl) (by kernel_rfl) (by kernel_rfl) (fun _ _ _ h => h) (Or.inr ⟨by rfl, rfl⟩) (by assumption) ?_
        (try simp only [getElem_toArray, getElem_cons_succ, getElem_cons_zero, Act.put, setIfInBounds_toArray, set_cons_zero, set_cons_succ])
        refine wpAnyH_take (i := 9) (v := ?_) rfl (by kernel_rfl) (by kernel_rfl) (by kernel_rfl) (fun _ _ _ h => h) (Or.inl ⟨by rfl, ?hy⟩) (by assumption) ?_
        case hy => (intro w hSw; (try dsimp only at hSw); go_simp; try (with_reducible rfl))
        (try simp only [getElem_toArray, getElem_cons_succ, getElem_cons_zero, Act.put, setIfInBounds_toArray, set_cons_zero, set_cons_succ])
        refine wpAnyH_take (i := 10) (v := ?_) rfl (by kernel_rfl) (by kernel_rfl) (by kernel_rfl) (fun _ _ _ h => h) (Or.inl ⟨by rfl, ?hy⟩) (by assumption) ?_
        case hy => (intro w hSw; (try dsimp only at hSw); go_simp; try (with_reducible rfl))
        (try simp only [getElem_toArray, getElem_cons_succ, getElem_cons_zero, Act.put, setIfInBounds_toArray, set_cons_zero, set_cons_succ])
        refine wpAnyH_take (i := 11) (v := undef) rfl (by kernel_rfl) (by kernel_rfl) (by kernel_rfl) (fun _ _ _ h => h) (Or.inr ⟨by rfl, rfl⟩) (by assumption) ?_
        (try simp only [getElem_toArray, getElem_cons_succ, getElem_cons_zero, Act.put, setIfInBounds_toArray, set_cons_zero, set_cons_succ])
        refine wpAnyH_take (i := 12) (v := undef) rfl (by kernel_rfl) (by kernel_rfl) (by kernel_rfl) (fun _ _ _ h => h) (Or.inr ⟨by rfl, rfl⟩) (by assumption) ?_
        (try simp only [getElem_toArray, getElem_cons_succ, getElem_cons_zero, Act.put, setIfInBounds_toArray, set_cons_zero, set_cons_succ])
        refine wpAnyH_take (i := 13) (v := undef) rfl (by kernel_rfl) (by kernel_rfl) (by kernel_rfl) (fun _ _ _ h => h) (Or.inr ⟨by rfl, rfl⟩) (by assumption) ?_
        (try simp only [getElem_toArray, getElem_cons_succ, getElem_cons_zero, Act.put, setIfInBounds_toArray, set_cons_zero, set_cons_succ])
        refine wpAnyH_take (i := 14) (v := undef) rfl (by kernel_rfl) (by kernel_rfl) (by kernel_rfl) (fun _ _ _ h => h) (Or.inr ⟨by rfl, rfl⟩) (by assumption) ?_
        (try simp only [getElem_toArray, getElem_cons_succ, getElem_cons_zero, Act.put, setIfInBounds_toArray, set_cons_zero, set_cons_succ])
        refine wpAnyH_take (i := 15) (v := ?_) rfl (by kernel_rfl) (by kernel_rfl) (by kernel_rfl) (fun _ _ _ h => h) (Or.inl ⟨by rfl, ?hy⟩) (by assumption) ?_
        case hy => (intro w hSw; (try dsimp only at hSw); go_simp; try (with_reducible rfl))
        (try simp only [getElem_toArray, getElem_cons_succ, getElem_cons_zero, Act.put, setIfInBounds_toArray, set_cons_zero, set_cons_succ])
        refine wpAnyH_take (i := 16) (v := ?_) rfl (by kernel_rfl) (by kernel_rfl) (by kernel_rfl) (fun _ _ _ h => h) (Or.inl ⟨by rfl, ?hy⟩) (by assumption) ?_
        case hy => (intro w hSw; (try dsimp only at hSw); go_simp; try (with_reducible rfl))
        (try simp only [getElem_toArray, getElem_cons_succ, getElem_cons_zero, Act.put, setIfInBounds_toArray, set_cons_zero, set_cons_succ])
        refine wpAnyH_take (i := 17) (v := undef) rfl (by kernel_rfl) (by kernel_rfl) (by kernel_rfl) (fun _ _ _ h => h) (Or.inr ⟨by rfl, rfl⟩) (by assumption) ?_
        (try simp only [getElem_toArray, getElem_cons_succ, getElem_cons_zero, Act.put, setIfInBounds_toArray, set_cons_zero, set_cons_succ])
        refine wpAnyH_take (i := 18) (v := undef) rfl (by kernel_rfl) (by kernel_rfl) (by kernel_rfl) (fun _ _ _ h => h) (Or.inr ⟨by rfl, rfl⟩) (by assumption) ?_
        (try simp only [getElem_toArray, getElem_cons_succ, getElem_cons_zero, Act.put, setIfInBounds_toArray, set_cons_zero, set_cons_succ])
        refine wpAnyH_take (i := 19) (v := undef) rfl (by kernel_rfl) (by kernel_rfl) (by kernel_rfl) (fun _ _ _ h => h) (Or.inr ⟨by rfl, rfl⟩) (by assumption) ?_
        (try simp only [getElem_toArray, getElem_cons_succ, getElem_cons_zero, Act.put, setIfInBounds_toArray, set_cons_zero, set_cons_succ])
        refine wpAnyH_take (i := 20) (v := undef) rfl (by kernel_rfl) (by kernel_rfl) (by kernel_rfl) (fun _ _ _ h => h) (Or.inr ⟨by rfl, rfl⟩) (by assumption) ?_
        (try simp only [getElem_toArray, getElem_cons_succ, getElem_cons_zero, Act.put, setIfInBounds_toArray, set_cons_zero, set_cons_succ])
        refine wpAnyH_take (i := 21) (v := undef) rfl (by kernel_rfl) (by kernel_rfl) (by kernel_rfl) (fun _ _ _ h => h) (Or.inr ⟨by rfl, rfl⟩) (by assumption) ?_
        (try simp only [getElem_toArray, getElem_cons_succ, getElem_cons_zero, Act.put, setIfInBounds_toArray, set_cons_zero, set_cons_succ])
        refine wpAnyH_take (i := 22) (v := undef) rfl (by kernel_rfl) (by kernel_rfl) (by kernel_rfl) (fun _ _ _ h => h) (Or.inr ⟨by rfl, rfl⟩) (by assumption) ?_
        (try simp only [getElem_toArray, getElem_cons_succ, getElem_cons_zero, Act.put, setIfInBounds_toArray, set_cons_zero, set_cons_succ])
        refine wpAnyH_take (i := 23) (v := undef) rfl (by kernel_rfl) (by kernel_rfl) (by kernel_rfl) (fun _ _ _ h => h) (Or.inr ⟨by rfl, rfl⟩) (by assumption) ?_
        (try simp only [getElem_toArray, getElem_cons_succ, getElem_cons_zero, Act.put, setIfInBounds_toArray, set_cons_zero, set_cons_succ])
        refine wpAnyH_take (i := 24) (v := undef) rfl (by kernel_rfl) (by kernel_rfl) (by kernel_rfl) (fun _ _ _ h => h) (Or.inr ⟨by rfl, rfl⟩) (by assumption) ?_
        (try simp only [getElem_toArray, getElem_cons_succ, getElem_cons_zero, Act.put, setIfInBounds_toArray, set_cons_zero, set_cons_succ])
        refine wpAnyH_take (i := 25) (v := undef) rfl (by kernel_rfl) (by kernel_rfl) (by kernel_rfl) (fun _ _ _ h => h) (Or.inr ⟨by rfl, rfl⟩) (by assumption) ?_
        (try simp only [getElem_toArray, getElem_cons_succ, getElem_cons_zero, Act.put, setIfInBounds_toArray, set_cons_zero, set_cons_succ])
        refine wpAnyH_take (i := 26) (v := undef) rfl (by kernel_rfl) (by kernel_rfl) (by kernel_rfl) (fun _ _ _ h => h) (Or.inr ⟨by rfl, rfl⟩) (by assumption) ?_
        (try simp only [getElem_toArray, getElem_cons_succ, getElem_cons_zero, Act.put, setIfInBounds_toArray, set_cons_zero, set_cons_succ])
        refine wpAnyH_take (i := 27) (v := undef) rfl (by kernel_rfl) (by kernel_rfl) (by kernel_rfl) (fun _ _ _ h => h) (Or.inr ⟨by rfl, rfl⟩) (by assumption) ?_
        (try simp only [getElem_toArray, getElem_cons_succ, getElem_cons_zero, Act.put, setIfInBounds_toArray, set_cons_zero, set_cons_succ])
        refine wpAnyH_take (i := 28) (v := undef) rfl (by kernel_rfl) (by kernel_rfl) (by kernel_rfl) (fun _ _ _ h => h) (Or.inr ⟨by rfl, rfl⟩) (by assumption) ?_
        (try simp only [getElem_toArray, getElem_cons_succ, getElem_cons_zero, Act.put, setIfInBounds_toArray, set_cons_zero, set_cons_succ])
        refine wpAnyH_take (i := 29) (v := undef) rfl (by kernel_rfl) (by kernel_rfl) (by kernel_rfl) (fun _ _ _ h => h) (Or.inr ⟨by rfl, rfl⟩) (by assumption) ?_
        (try simp only [getElem_toArray, getElem_cons_succ, getElem_cons_zero, Act.put, setIfInBounds_toArray, set_cons_zero, set_cons_succ])
        refine wpAnyH_take (i := 30) (v := ?_) rfl (by kernel_rfl) (by kernel_rfl) (by kernel_rfl) (fun _ _ _ h => h) (Or.inl ⟨by rfl, ?hy⟩) (by assumption) ?_
        case hy => (intro w hSw; (try dsimp only at hSw); go_simp; try (with_reducible rfl))
        (try simp only [getElem_toArray, getElem_cons_succ, getElem_cons_zero, Act.put, setIfInBounds_toArray, set_cons_zero, set_cons_succ])
        (try simp only [getElem_toArray, getElem_cons_succ, getElem_cons_zero, Act.put, setIfInBounds_toArray, set_cons_zero, set_cons_succ])
        refine wpAnyH_done (by kernel_rfl) ?_ _
        refine NoPanic.normal ?_
        all_goals go_wp2_with (go_at_call 15; ((with_reducible refine (g0 _).mono ?_); rintro e wY ⟨rfl, hbY⟩; have Bl := bel_trans Bl hbY))
        all_goals go_ret
        all_goals exact ⟨rfl, bel_trans hB0 (bel_trans Bw (bel_trans hB3 Bl))⟩
      ·have hkn : n = k := by omega
       subst hkn
       have hR2 : FiR W wr v' l := by have := hR.out; rw [List.take_of_length_le (by have := HLn.out; omega)] at this; exact this
       obtain ⟨hO9, hFi, Bw⟩ := hR2
       obtain ⟨L1, L2, hget, hl1, hl2, d1, d3, d2, d4, d5⟩ := HF.out hFi
       obtain ⟨AV, CV, hv, hSl⟩ := hO9.slS
       subst hv
       have HIs := Lib.hid (show ∀ w', Below wr.heap.size wr w' → IsS w' AV (l.map Pr.nm).length (l.map Pr.nm) from fun w' h => hSl.1.below h)
       have HGt := Lib.hid (show ∀ (x : Pr), x ∈ L1 ++ L2 → ∀ w', Below W.heap.size W w' → _ from fun x hx w' h => fi_get (fun y hy => by have := (hFi y hy).1; omega) (hget x hx) A n d w' (HU.out w' h))
       have HL1 := Lib.hid hl1
       have HL2 := Lib.hid hl2
       have Bz := Bw
       have Bv : Below wr.heap.size wr wr := Below.refl _ _
       obtain ⟨s0, s1, s2, s3, q0, q1, q2, q3, q4⟩ := HQ.out _ Bz
       clear HF hR hO9 hFi hget hl1 hl2 hSl
       generalize (l.map Pr.nm).length = NV at *
       go_upto_region 11 with fail
       refine wp_region_noPanic ?_
       refine wp_region_held_drew (S := fun w' => w'.cell? ⟨w.heap.size, 0, none⟩ = some (.int .i64 op) ∧ w'.cell? ⟨w.heap.size, 1, none⟩ = some (.string mp) ∧ w'.cell? ⟨w.heap.size, 2, none⟩ = some (.int .i64 zp) ∧ w'.cell? ⟨w.heap.size, 3, none⟩ = some (.slice ap np cp) ∧ w'.cell? ⟨w.heap.size + 1, 0, none⟩ = some (.int .i64 oq) ∧ w'.cell? ⟨w.heap.size + 1, 1, none⟩ = some (.string mq) ∧ w'.cell? ⟨w.heap.size + 1, 2, none⟩ = some (.string zq) ∧ w'.cell? ⟨w.heap.size + 1, 3, none⟩ = some (.slice kqa kqn kqc) ∧ w'.cell? ⟨w.heap.size + 1, 4, none⟩ = some (.slice aq nq cq)) (by kernel_rfl) (by exact HQ.out _ (Below.drew Bz)) (fun hHeld => ?_)
       have Bz := Below.drew Bz
       have Bv := Below.drew Bv
       refine wpAnyH_take (i := 0) (v := ?_) rfl (by kernel_rfl) (by kernel_rfl) (by kernel_rfl) (fun _ _ _ h => h) (Or.inl ⟨by rfl, ?hy⟩) (by assumption) ?_
       case hy => (intro w hSw; (try dsimp only at hSw); go_simp; try (with_reducible rfl))
       (try simp only [getElem_toArray, getElem_cons_succ, getElem_cons_zero, Act.put, setIfInBounds_toArray, set_cons_zero, set_cons_succ])
       refine wpAnyH_take (i := 1) (v := ?_) rfl (by kernel_rfl) (by kernel_rfl) (by kernel_rfl) (fun _ _ _ h => h) (Or.inl ⟨by rfl, ?hy⟩) (by assumption) ?_
       case hy => (intro w hSw; (try dsimp only at hSw); go_simp; try (with_reducible rfl))
       (try simp only [getElem_toArray, getElem_cons_succ, getElem_cons_zero, Act.put, setIfInBounds_toArray, set_cons_zero, set_cons_succ])
       refine wpAnyH_take (i := 2) (v := ?_) rfl (by kernel_rfl) (by kernel_rfl) (by kernel_rfl) (fun _ _ _ h => h) (Or.inl ⟨by rfl, ?hy⟩) (by assumption) ?_
       case hy => (intro w hSw; (try dsimp only at hSw); go_simp; try (with_reducible rfl))
       (try simp only [getElem_toArray, getElem_cons_succ, getElem_cons_zero, Act.put, setIfInBounds_toArray, set_cons_zero, set_cons_succ])
       refine wpAnyH_take (i := 4) (v := ?_) rfl (by kernel_rfl) (by kernel_rfl) (by kernel_rfl) (fun _ _ _ h => h) (Or.inl ⟨by rfl, ?hy⟩) (by assumption) ?_
       case hy => (intro w hSw; (try dsimp only at hSw); go_simp; try (with_reducible rfl))
       (try simp only [getElem_toArray, getElem_cons_succ, getElem_cons_zero, Act.put, setIfInBounds_toArray, set_cons_zero, set_cons_succ])
       refine wpAnyH_ready (rs := [3]) (by kernel_rfl) (by simp) ?_
       refine AllReadyH.cons rfl (fun KK hKK => ?_) AllReadyH.nil
       go_simp
       (go_at_call 19; ((with_reducible refine (d1 _ Bz).mono ?_); rintro e wK ⟨a5, n5, c5, rfl, hA5, hbK⟩; have Bz := bel_trans Bz hbK; have Bv := bel_trans Bv hbK; have K5 := Lib.hid hA5; clear hA5))
       refine hKK.out _ _ (by exact HQ.out _ Bz) (fun hHeld => ?_)
       clear hKK KK
       (try simp only [getElem_toArray, getElem_cons_succ, getElem_cons_zero, Act.put, setIfInBounds_toArray, set_cons_zero, set_cons_succ])
       refine wpAnyH_ready (rs := [5]) (by kernel_rfl) (by simp) ?_
       refine AllReadyH.cons rfl (fun KK hKK => ?_) AllReadyH.nil
       go_simp
       (go_at_call 16; ((with_reducible refine (d2 _ _ _ _ _ _ _ Bz K5.out (HIs.out _ Bv)).mono ?_); rintro e wK ⟨A1, N1, M1, rfl, hU1, hbK⟩; have Bz := bel_trans Bz hbK; have Bv := bel_trans Bv hbK; have K1 := Lib.hid hU1; clear hU1))
       refine hKK.out _ _ (by exact HQ.out _ Bz) (fun hHeld => ?_)
       clear hKK KK
       (try simp only [getElem_toArray, getElem_cons_succ, getElem_cons_zero, Act.put, setIfInBounds_toArray, set_cons_zero, set_cons_succ])
       refine wpAnyH_take (i := 6) (v := ?_) rfl (by kernel_rfl) (by kernel_rfl) (by kernel_rfl) (fun _ _ _ h => h) (Or.inl ⟨by rfl, ?hy⟩) (by assumption) ?_
       case hy => (intro w hSw; (try dsimp only at hSw); go_simp; try (with_reducible rfl))
       (try simp only [getElem_toArray, getElem_cons_succ, getElem_cons_zero, Act.put, setIfInBounds_toArray, set_cons_zero, set_cons_succ])
       refine wpAnyH_take (i := 7) (v := ?_) rfl (by kernel_rfl) (by kernel_rfl) (by kernel_rfl) (fun _ _ _ h => h) (Or.inl ⟨by rfl, ?hy⟩) (by assumption) ?_
       case hy => (intro w hSw; (try dsimp only at hSw); go_simp; try (with_reducible rfl))
       (try simp only [getElem_toArray, getElem_cons_succ, getElem_cons_zero, Act.put, setIfInBounds_toArray, set_cons_zero, set_cons_succ])
       refine wpAnyH_take (i := 8) (v := ?_) rfl (by kernel_rfl) (by kernel_rfl) (by kernel_rfl) (fun _ _ _ h => h) (Or.inl ⟨by rfl, ?hy⟩) (by assumption) ?_
       case hy => (intro w hSw; (try dsimp only at hSw); go_simp; try (with_reducible rfl))
       (try simp only [getElem_toArray, getElem_cons_succ, getElem_cons_zero, Act.put, setIfInBounds_toArray, set_cons_zero, set_cons_succ])
       refine wpAnyH_take (i := 9) (v := ?_) rfl (by kernel_rfl) (by kernel_rfl) (by kernel_rfl) (fun _ _ _ h => h) (Or.inl ⟨by rfl, ?hy⟩) (by assumption) ?_
       case hy => (intro w hSw; (try dsimp only at hSw); go_simp; try (with_reducible rfl))
       (try simp only [getElem_toArray, getElem_cons_succ, getElem_cons_zero, Act.put, setIfInBounds_toArray, set_cons_zero, set_cons_succ])
       refine wpAnyH_take (i := 10) (v := ?_) rfl (by kernel_rfl) (by kernel_rfl) (by kernel_rfl) (fun _ _ _ h => h) (Or.inl ⟨by rfl, ?hy⟩) (by assumption) ?_
       case hy => (intro w hSw; (try dsimp only at hSw); go_simp; try (with_reducible rfl))
       (try simp only [getElem_toArray, getElem_cons_succ, getElem_cons_zero, Act.put, setIfInBounds_toArray, set_cons_zero, set_cons_succ])
       (try simp only [getElem_toArray, getElem_cons_succ, getElem_cons_zero, Act.put, setIfInBounds_toArray, set_cons_zero, set_cons_succ])
       refine wpAnyH_done (by kernel_rfl) ?_ _
       refine NoPanic.normal ?_
       obtain ⟨s0, s1, s2, s3, q0, q1, q2, q3, q4⟩ := HQ.out _ Bz
       go_upto_region 12 with fail
       refine wp_region_noPanic ?_
       refine wp_region_held_drew (S := fun w' => w'.cell? ⟨w.heap.size, 0, none⟩ = some (.int .i64 op) ∧ w'.cell? ⟨w.heap.size, 1, none⟩ = some (.string mp) ∧ w'.cell? ⟨w.heap.size, 2, none⟩ = some (.int .i64 zp) ∧ w'.cell? ⟨w.heap.size, 3, none⟩ = some (.slice ap np cp) ∧ w'.cell? ⟨w.heap.size + 1, 0, none⟩ = some (.int .i64 oq) ∧ w'.cell? ⟨w.heap.size + 1, 1, none⟩ = some (.string mq) ∧ w'.cell? ⟨w.heap.size + 1, 2, none⟩ = some (.string zq) ∧ w'.cell? ⟨w.heap.size + 1, 3, none⟩ = some (.slice kqa kqn kqc) ∧ w'.cell? ⟨w.heap.size + 1, 4, none⟩ = some (.slice aq nq cq)) (by kernel_rfl) (by exact HQ.out _ (Below.drew Bz)) (fun hHeld => ?_)
       have Bz := Below.drew Bz
       have Bv := Below.drew Bv
       have K1 := Lib.hid (UsW.b K1.out (Below.refl _ _).drew)
       refine wpAnyH_take (i := 0) (v := ?_) rfl (by kernel_rfl) (by kernel_rfl) (by kernel_rfl) (fun _ _ _ h => h) (Or.inl ⟨by rfl, ?hy⟩) (by assumption) ?_
       case hy => (intro w hSw; (try dsimp only at hSw); go_simp; try (with_reducible rfl))
       (try simp only [getElem_toArray, getElem_cons_succ, getElem_cons_zero, Act.put, setIfInBounds_toArray, set_cons_zero, set_cons_succ])
       refine wpAnyH_take (i := 1) (v := ?_) rfl (by kernel_rfl) (by kernel_rfl) (by kernel_rfl) (fun _ _ _ h => h) (Or.inl ⟨by rfl, ?hy⟩) (by assumption) ?_
       case hy => (intro w hSw; (try dsimp only at hSw); go_simp; try (with_reducible rfl))
       (try simp only [getElem_toArray, getElem_cons_succ, getElem_cons_zero, Act.put, setIfInBounds_toArray, set_cons_zero, set_cons_succ])
       refine wpAnyH_take (i := 2) (v := ?_) rfl (by kernel_rfl) (by kernel_rfl) (by kernel_rfl) (fun _ _ _ h => h) (Or.inl ⟨by rfl, ?hy⟩) (by assumption) ?_
       case hy => (intro w hSw; (try dsimp only at hSw); go_simp; try (with_reducible rfl))
       (try simp only [getElem_toArray, getElem_cons_succ, getElem_cons_zero, Act.put, setIfInBounds_toArray, set_cons_zero, set_cons_succ])
       refine wpAnyH_take (i := 4) (v := ?_) rfl (by kernel_rfl) (by kernel_rfl) (by kernel_rfl) (fun _ _ _ h => h) (Or.inl ⟨by rfl, ?hy⟩) (by assumption) ?_
       case hy => (intro w hSw; (try dsimp only at hSw); go_simp; try (with_reducible rfl))
       (try simp only [getElem_toArray, getElem_cons_succ, getElem_cons_zero, Act.put, setIfInBounds_toArray, set_cons_zero, set_cons_succ])
       refine wpAnyH_ready (rs := [3]) (by kernel_rfl) (by simp) ?_
       refine AllReadyH.cons rfl (fun KK hKK => ?_) AllReadyH.nil
       go_simp
       (go_at_call 23; ((with_reducible refine (d3 _ Bz).mono ?_); rintro e wK ⟨K50, K51, K52, A5, N5, M5, rfl, hA5, hbK⟩; have Bz := bel_trans Bz hbK; have Bv := bel_trans Bv hbK; have K1 := Lib.hid (UsW.b K1.out hbK); have K5 := Lib.hid hA5; clear hA5))
       refine hKK.out _ _ (by exact HQ.out _ Bz) (fun hHeld => ?_)
       clear hKK KK
       (try simp only [getElem_toArray, getElem_cons_succ, getElem_cons_zero, Act.put, setIfInBounds_toArray, set_cons_zero, set_cons_succ])
       refine wpAnyH_ready (rs := [5]) (by kernel_rfl) (by simp) ?_
       refine AllReadyH.cons rfl (fun KK hKK => ?_) AllReadyH.nil
       go_simp
       (go_at_call 17; ((with_reducible refine (d4 _ _ _ _ _ _ _ _ _ _ Bz K5.out (HIs.out _ Bv)).mono ?_); rintro e wK ⟨A2, N2, M2, rfl, hU2, hbK⟩; have Bz := bel_trans Bz hbK; have Bv := bel_trans Bv hbK; have K1 := Lib.hid (UsW.b K1.out hbK); have K2 := Lib.hid hU2; clear hU2))
       refine hKK.out _ _ (by exact HQ.out _ Bz) (fun hHeld => ?_)
       clear hKK KK
       (try simp only [getElem_toArray, getElem_cons_succ, getElem_cons_zero, Act.put, setIfInBounds_toArray, set_cons_zero, set_cons_succ])
       refine wpAnyH_take (i := 6) (v := ?_) rfl (by kernel_rfl) (by kernel_rfl) (by kernel_rfl) (fun _ _ _ h => h) (Or.inl ⟨by rfl, ?hy⟩) (by assumption) ?_
       case hy => (intro w hSw; (try dsimp only at hSw); go_simp; try (with_reducible rfl))
       (try simp only [getElem_toArray, getElem_cons_succ, getElem_cons_zero, Act.put, setIfInBounds_toArray, set_cons_zero, set_cons_succ])
       refine wpAnyH_take (i := 7) (v := ?_) rfl (by kernel_rfl) (by kernel_rfl) (by kernel_rfl) (fun _ _ _ h => h) (Or.inl ⟨by rfl, ?hy⟩) (by assumption) ?_
       case hy => (intro w hSw; (try dsimp only at hSw); go_simp; try (with_reducible rfl))
       (try simp only [getElem_toArray, getElem_cons_succ, getElem_cons_zero, Act.put, setIfInBounds_toArray, set_cons_zero, set_cons_succ])
       refine wpAnyH_take (i := 8) (v := ?_) rfl (by kernel_rfl) (by kernel_rfl) (by kernel_rfl) (fun _ _ _ h => h) (Or.inl ⟨by rfl, ?hy⟩) (by assumption) ?_
       case hy => (intro w hSw; (try dsimp only at hSw); go_simp; try (with_reducible rfl))
       (try simp only [getElem_toArray, getElem_cons_succ, getElem_cons_zero, Act.put, setIfInBounds_toArray, set_cons_zero, set_cons_succ])
       refine wpAnyH_take (i := 9) (v := ?_) rfl (by kernel_rfl) (by kernel_rfl) (by kernel_rfl) (fun _ _ _ h => h) (Or.inl ⟨by rfl, ?hy⟩) (by assumption) ?_
       case hy => (intro w hSw; (try dsimp only at hSw); go_simp; try (with_reducible rfl))
       (try simp only [getElem_toArray, getElem_cons_succ, getElem_cons_zero, Act.put, setIfInBounds_toArray, set_cons_zero, set_cons_succ])
       refine wpAnyH_take (i := 10) (v := ?_) rfl (by kernel_rfl) (by kernel_rfl) (by kernel_rfl) (fun _ _ _ h => h) (Or.inl ⟨by rfl, ?hy⟩) (by assumption) ?_
       case hy => (intro w hSw; (try dsimp only at hSw); go_simp; try (with_reducible rfl))
       (try simp only [getElem_toArray, getElem_cons_succ, getElem_cons_zero, Act.put, setIfInBounds_toArray, set_cons_zero, set_cons_succ])
       (try simp only [getElem_toArray, getElem_cons_succ, getElem_cons_zero, Act.put, setIfInBounds_toArray, set_cons_zero, set_cons_succ])
       refine wpAnyH_done (by kernel_rfl) ?_ _
       refine NoPanic.normal ?_
       clear d2 d3 d4 K5
       go_wp2_with (first
        | (at_builtin; (refine app_first rfl (.tmp 107) (.tmp 108) rfl rfl A1 N1 M1 L1 rfl K1.out (by have := HL1.out; omega) ?_); intro v1 w1 ho1 hb1; have HO1 := Lib.hid ho1; have HB1 := Lib.hid hb1; clear ho1 hb1)
        | (at_builtin; (refine app_second rfl (.tmp 109) (.tmp 110) rfl v1 L1 rfl HO1.out HB1.out A2 N2 M2 L2 rfl K2.out (by have := HL1.out; have := HL2.out; omega) ?_); intro AJ NJ CJ w2 hU2 hb2; have HJ := Lib.hid hU2; have B2 := bel_trans Bz hb2; have Bv2 := bel_trans Bv hb2; have K1 := Lib.hid (UsW.b K1.out hb2); have hNJ := hU2.lt63; clear hU2 hb2))
       go_loopw [113] (fun i wr0 => ∃ (wl : World) (j : Nat), wl = wr0 ∧ j ≤ NJ ∧ i = .int .i64 j ∧ Below w2.heap.size w2 wl) (fun i _ => NJ - (intOf i).toNat)
       case atStart => exact ⟨_, 0, rfl, by omega, rfl, Below.refl _ _⟩
       case round =>
        obtain ⟨wl, j, rfl, hj, rfl, hB⟩ := hrel
        by_cases hlt : j < NJ
        ·clear d1 d5 cPs
         obtain ⟨bb, o, x, A9, M9, C9, rfl, hb, y0, y1, y2, y3, y4, hx, hok⟩ := (UsW.b HJ.out hB).at hlt
         obtain ⟨W3, hW3, hB3, hs3, S3⟩ := ubox1 wl x.nm (opT x.t) (nameT x.t) (numT x.t) A9 M9 C9
         obtain ⟨f0, f1, f2, f3, f4⟩ := S3.five
         have HS3 := Lib.hid S3
         have Bl := bel_trans hB hB3
         have cG := HGt.out x (List.mem_of_getElem? hx) W3 (bel_trans B2 Bl)
         have HTm := Lib.hid (show ∀ (a5 : Option Addr) (n5 c5 : Nat) (w' : World), Below wl.heap.size wl w' → ArW w' x.t a5 n5 c5 → Calls Tryz.prog 18 #[.agg #[.int .i64 (opT x.t), .string (nameT x.t), .int .i64 (numT x.t), .slice a5 n5 c5], .agg #[.int .i64 (opT x.t), .string (nameT x.t), .int .i64 (numT x.t), .slice A9 M9 C9]] w' fun e w1 => e = .returned (.bool true) ∧ Below w'.heap.size w' w1 from fun a5 n5 c5 w' hb h => (Term_any x.t x.t a5 n5 c5 A9 M9 C9 w' h (ArW.b hok hb)).mono fun e w1 h => by rw [eqT_iff.2 rfl] at h; exact h)
         have hk0 : 0 ≤ (j : Int) := by omega
         have hk1 : (j : Int) < (NJ : Int) := by omega
         have HB3 := Lib.hid hB3
         have HB := Lib.hid hB
         clear hx hok S3 HJ HGt hs3
         generalize opT x.t = ox at *
         generalize nameT x.t = mx at *
         generalize numT x.t = zx at *
         generalize hnx : x.nm = nx at *
         clear hnx
         go_wp2_with (first
          | (go_at_call 26; ((with_reducible refine cG.mono ?_); rintro e w5 ⟨a5, n5, c5, rfl, hA5, hb5⟩; obtain ⟨W6, hW6, hb6, hs6, T6⟩ := box1 w5 ox mx zx a5 n5 c5; have hb56 := bel_trans hb5 hb6; have K5 := Lib.hid (ArW.b hA5 hb6); have B36 := bel_trans HB3.out hb56; obtain ⟨f0, f1, f2, f3, f4⟩ := (UBox.b HS3.out hb56).five; obtain ⟨t0, t1, t2, t3⟩ := T6.four; clear hA5 hs6 T6))
          | (go_at_call 18; ((with_reducible refine (HTm.out _ _ _ _ B36 K5.out).mono ?_); rintro e w7 ⟨rfl, hb7⟩; have B37 := bel_trans HB.out (bel_trans B36 hb7))))
         go_roundw
         case rel => exact ⟨_, j + 1, rfl, by omega, by go_num, B37⟩
         case measure => simp [intOf]; omega
        ·have Bz := bel_trans B2 hB
         have Bv := bel_trans Bv2 hB
         have K1 := Lib.hid (UsW.b K1.out hB)
         clear HJ HGt HO1 HB1
         obtain ⟨s0, s1, s2, s3, q0, q1, q2, q3, q4⟩ := HQ.out _ Bz
         go_upto_region 22 with fail
         refine wp_region_noPanic ?_
         refine wp_region_held_drew (S := fun w' => w'.cell? ⟨w.heap.size, 0, none⟩ = some (.int .i64 op) ∧ w'.cell? ⟨w.heap.size, 1, none⟩ = some (.string mp) ∧ w'.cell? ⟨w.heap.size, 2, none⟩ = some (.int .i64 zp) ∧ w'.cell? ⟨w.heap.size, 3, none⟩ = some (.slice ap np cp) ∧ w'.cell? ⟨w.heap.size + 1, 0, none⟩ = some (.int .i64 oq) ∧ w'.cell? ⟨w.heap.size + 1, 1, none⟩ = some (.string mq) ∧ w'.cell? ⟨w.heap.size + 1, 2, none⟩ = some (.string zq) ∧ w'.cell? ⟨w.heap.size + 1, 3, none⟩ = some (.slice kqa kqn kqc) ∧ w'.cell? ⟨w.heap.size + 1, 4, none⟩ = some (.slice aq nq cq)) (by kernel_rfl) (by exact HQ.out _ (Below.drew Bz)) (fun hHeld => ?_)
         have Bz := Below.drew Bz
         have Bv := Below.drew Bv
         have K1 := Lib.hid (UsW.b K1.out (Below.refl _ _).drew)
         refine wpAnyH_take (i := 0) (v := ?_) rfl (by kernel_rfl) (by kernel_rfl) (by kernel_rfl) (fun _ _ _ h => h) (Or.inl ⟨by rfl, ?hy⟩) (by assumption) ?_
         case hy => (intro w hSw; (try dsimp only at hSw); go_simp; try (with_reducible rfl))
         (try simp only [getElem_toArray, getElem_cons_succ, getElem_cons_zero, Act.put, setIfInBounds_toArray, set_cons_zero, set_cons_succ])
         refine wpAnyH_take (i := 1) (v := ?_) rfl (by kernel_rfl) (by kernel_rfl) (by kernel_rfl) (fun _ _ _ h => h) (Or.inl ⟨by rfl, ?hy⟩) (by assumption) ?_
         case hy => (intro w hSw; (try dsimp only at hSw); go_simp; try (with_reducible rfl))
         (try simp only [getElem_toArray, getElem_cons_succ, getElem_cons_zero, Act.put, setIfInBounds_toArray, set_cons_zero, set_cons_succ])
         refine wpAnyH_take (i := 2) (v := ?_) rfl (by kernel_rfl) (by kernel_rfl) (by kernel_rfl) (fun _ _ _ h => h) (Or.inl ⟨by rfl, ?hy⟩) (by assumption) ?_
         case hy => (intro w hSw; (try dsimp only at hSw); go_simp; try (with_reducible rfl))
         (try simp only [getElem_toArray, getElem_cons_succ, getElem_cons_zero, Act.put, setIfInBounds_toArray, set_cons_zero, set_cons_succ])
         refine wpAnyH_take (i := 3) (v := ?_) rfl (by kernel_rfl) (by kernel_rfl) (by kernel_rfl) (fun _ _ _ h => h) (Or.inl ⟨by rfl, ?hy⟩) (by assumption) ?_
         case hy => (intro w hSw; (try dsimp only at hSw); go_simp; try (with_reducible rfl))
         (try simp only [getElem_toArray, getElem_cons_succ, getElem_cons_zero, Act.put, setIfInBounds_toArray, set_cons_zero, set_cons_succ])
         refine wpAnyH_take (i := 5) (v := ?_) rfl (by kernel_rfl) (by kernel_rfl) (by kernel_rfl) (fun _ _ _ h => h) (Or.inl ⟨by rfl, ?hy⟩) (by assumption) ?_
         case hy => (intro w hSw; (try dsimp only at hSw); go_simp; try (with_reducible rfl))
         (try simp only [getElem_toArray, getElem_cons_succ, getElem_cons_zero, Act.put, setIfInBounds_toArray, set_cons_zero, set_cons_succ])
         refine wpAnyH_ready (rs := [4]) (by kernel_rfl) (by simp) ?_
         refine AllReadyH.cons rfl (fun KK hKK => ?_) AllReadyH.nil
         go_simp
         (go_at_call 19; ((with_reducible refine (d1 _ Bz).mono ?_); rintro e wK ⟨a5, n5, c5, rfl, hA5, hbK⟩; have Bz := bel_trans Bz hbK; have Bv := bel_trans Bv hbK; have K1 := Lib.hid (UsW.b K1.out hbK); have K5 := Lib.hid hA5; clear hA5))
         refine hKK.out _ _ (by exact HQ.out _ Bz) (fun hHeld => ?_)
         clear hKK KK
         (try simp only [getElem_toArray, getElem_cons_succ, getElem_cons_zero, Act.put, setIfInBounds_toArray, set_cons_zero, set_cons_succ])
         refine wpAnyH_ready (rs := [6]) (by kernel_rfl) (by simp) ?_
         refine AllReadyH.cons rfl (fun KK hKK => ?_) AllReadyH.nil
         go_simp
         (go_at_call 27; ((with_reducible refine (d5 _ _ _ _ _ _ _ _ _ _ Bz K1.out K5.out (HIs.out _ Bv)).mono ?_); rintro e wK ⟨A6, N6, M6, rfl, hU6, hbK⟩; have Bz := bel_trans Bz hbK; have Bv := bel_trans Bv hbK; have K1 := Lib.hid (UsW.b K1.out hbK); have K6 := Lib.hid hU6; clear hU6))
         refine hKK.out _ _ (by exact HQ.out _ Bz) (fun hHeld => ?_)
         clear hKK KK
         (try simp only [getElem_toArray, getElem_cons_succ, getElem_cons_zero, Act.put, setIfInBounds_toArray, set_cons_zero, set_cons_succ])
         refine wpAnyH_take (i := 7) (v := ?_) rfl (by kernel_rfl) (by kernel_rfl) (by kernel_rfl) (fun _ _ _ h => h) (Or.inl ⟨by rfl, ?hy⟩) (by assumption) ?_
         case hy => (intro w hSw; (try dsimp only at hSw); go_simp; try (with_reducible rfl))
         (try simp only [getElem_toArray, getElem_cons_succ, getElem_cons_zero, Act.put, setIfInBounds_toArray, set_cons_zero, set_cons_succ])
         refine wpAnyH_take (i := 8) (v := ?_) rfl (by kernel_rfl) (by kernel_rfl) (by kernel_rfl) (fun _ _ _ h => h) (Or.inl ⟨by rfl, ?hy⟩) (by assumption) ?_
         case hy => (intro w hSw; (try dsimp only at hSw); go_simp; try (with_reducible rfl))
         (try simp only [getElem_toArray, getElem_cons_succ, getElem_cons_zero, Act.put, setIfInBounds_toArray, set_cons_zero, set_cons_succ])
         refine wpAnyH_take (i := 9) (v := ?_) rfl (by kernel_rfl) (by kernel_rfl) (by kernel_rfl) (fun _ _ _ h => h) (Or.inl ⟨by rfl, ?hy⟩) (by assumption) ?_
         case hy => (intro w hSw; (try dsimp only at hSw); go_simp; try (with_reducible rfl))
         (try simp only [getElem_toArray, getElem_cons_succ, getElem_cons_zero, Act.put, setIfInBounds_toArray, set_cons_zero, set_cons_succ])
         refine wpAnyH_take (i := 10) (v := ?_) rfl (by kernel_rfl) (by kernel_rfl) (by kernel_rfl) (fun _ _ _ h => h) (Or.inl ⟨by rfl, ?hy⟩) (by assumption) ?_
         case hy => (intro w hSw; (try dsimp only at hSw); go_simp; try (with_reducible rfl))
         (try simp only [getElem_toArray, getElem_cons_succ, getElem_cons_zero, Act.put, setIfInBounds_toArray, set_cons_zero, set_cons_succ])
         refine wpAnyH_take (i := 11) (v := ?_) rfl (by kernel_rfl) (by kernel_rfl) (by kernel_rfl) (fun _ _ _ h => h) (Or.inl ⟨by rfl, ?hy⟩) (by assumption) ?_
         case hy => (intro w hSw; (try dsimp only at hSw); go_simp; try (with_reducible rfl))
         (try simp only [getElem_toArray, getElem_cons_succ, getElem_cons_zero, Act.put, setIfInBounds_toArray, set_cons_zero, set_cons_succ])
         (try simp only [getElem_toArray, getElem_cons_succ, getElem_cons_zero, Act.put, setIfInBounds_toArray, set_cons_zero, set_cons_succ])
         refine wpAnyH_done (by kernel_rfl) ?_ _
         refine NoPanic.normal ?_
         go_wp2_with (first
          | (go_at_call 28; ((with_reducible refine (cPs _ _ _ _ _ _ _ _ K6.out K1.out).mono ?_); rintro e w9 ⟨rfl, hb9⟩; have Bz := bel_trans Bz hb9))
          | (go_at_call 15; ((with_reducible refine (g0 _).mono ?_); rintro e wY ⟨rfl, hbY⟩; have Bz := bel_trans Bz hbY)))
         go_ret
         exact ⟨rfl, bel_trans hB0 Bz⟩
    ·have hE2 : (E != 0) = true := bne_iff_ne.2 hE
     clear hE
     clear HM cPs HU 
     go_enter Tryz.func5, Tryz.ntmps5
     go_wp2_with (first
      | (go_at_call 24; ((with_reducible refine (zP _ hBd).mono ?_); rintro e wX ⟨rfl, hbX⟩; have Bz := bel_trans hBd hbX; obtain ⟨s0, s1, s2, s3, q0, q1, q2, q3, q4⟩ := HQ.out _ Bz))
      | (go_at_call 6; ((with_reducible refine (zQ _ Bz).mono ?_); rintro e wX ⟨rfl, hbX⟩; have Bz := bel_trans Bz hbX; obtain ⟨s0, s1, s2, s3, q0, q1, q2, q3, q4⟩ := HQ.out _ Bz))
      | (go_at_call 21; ((with_reducible refine (z8 _ Bz).mono ?_); rintro e wX ⟨rfl, hbX⟩; have Bz := bel_trans Bz hbX; obtain ⟨s0, s1, s2, s3, q0, q1, q2, q3, q4⟩ := HQ.out _ Bz))
      | (go_at_call 15; ((with_reducible refine (g0 _).mono ?_); rintro e wY ⟨rfl, hbY⟩; have Bz := bel_trans Bz hbY)))
     go_ret
     exact ⟨rfl, bel_trans hB0 Bz⟩
   ·have p3 : decide ((10 : Int) < (n : Int)) = true := decide_eq_true (by omega)
    clear HM cPs HU z8
    go_enter Tryz.func5, Tryz.ntmps5
    go_wp2_with (first
     | (go_at_call 24; ((with_reducible refine (zP _ hBd).mono ?_); rintro e wX ⟨rfl, hbX⟩; have Bz := bel_trans hBd hbX; obtain ⟨s0, s1, s2, s3, q0, q1, q2, q3, q4⟩ := HQ.out _ Bz))
     | (go_at_call 6; ((with_reducible refine (zQ _ Bz).mono ?_); rintro e wX ⟨rfl, hbX⟩; have Bz := bel_trans Bz hbX; obtain ⟨s0, s1, s2, s3, q0, q1, q2, q3, q4⟩ := HQ.out _ Bz))
     | (go_at_call 15; ((with_reducible refine (g0 _).mono ?_); rintro e wY ⟨rfl, hbY⟩; have Bz := bel_trans Bz hbY)))
    go_ret
    exact ⟨rfl, bel_trans hB0 Bz⟩
  ·have p2 : decide (100 < wq) = true := decide_eq_true (by omega)
   rw [p2] at zQ
   clear HM cPs HU z8
   go_enter Tryz.func5, Tryz.ntmps5
   go_wp2_with (first
    | (go_at_call 24; ((with_reducible refine (zP _ hBd).mono ?_); rintro e wX ⟨rfl, hbX⟩; have Bz := bel_trans hBd hbX; obtain ⟨s0, s1, s2, s3, q0, q1, q2, q3, q4⟩ := HQ.out _ Bz))
    | (go_at_call 6; ((with_reducible refine (zQ _ Bz).mono ?_); rintro e wX ⟨rfl, hbX⟩; have Bz := bel_trans Bz hbX; obtain ⟨s0, s1, s2, s3, q0, q1, q2, q3, q4⟩ := HQ.out _ Bz))
    | (go_at_call 15; ((with_reducible refine (g0 _).mono ?_); rintro e wY ⟨rfl, hbY⟩; have Bz := bel_trans Bz hbY)))
   go_ret
   exact ⟨rfl, bel_trans hB0 Bz⟩
 ·have p1 : decide ((100 : Int) < (wp : Int)) = true := decide_eq_true (by omega)
  clear HM cPs HU z8 zQ
  go_enter Tryz.func5, Tryz.ntmps5
  go_wp2_with (first
   | (go_at_call 24; ((with_reducible refine (zP _ hBd).mono ?_); rintro e wX ⟨rfl, hbX⟩; have Bz := bel_trans hBd hbX; obtain ⟨s0, s1, s2, s3, q0, q1, q2, q3, q4⟩ := HQ.out _ Bz))
   | (go_at_call 15; ((with_reducible refine (g0 _).mono ?_); rintro e wY ⟨rfl, hbY⟩; have Bz := bel_trans Bz hbY)))
  go_ret
  exact ⟨rfl, bel_trans hB0 Bz⟩
theorem matchFinds (x : TmV) (z : ClV) (A : Option Addr) (n d : Nat) (l : List Pr) (w : World) (HP : ArW w x.t x.a x.n x.c ∧ smT x.t) (HQ : ArWC w z.t z.k z.a z.n z.c ∧ smC z.t) (hn : n ≤ 9223372036854775807) (HU : UsW w A n d l ∧ smU l) :
  Calls Tryz.prog 5 #[x.val, z.val, .slice A n d] w fun e w' => e = .returned (.bool true) ∧ Below w.heap.size w w' :=
 findsB x.t x.a x.n x.c z.t z.k z.a z.n z.c l A n d w HP.1 HP.2 HQ.1 HQ.2 HU.1 (fun _ _ _ => trivial)
end Go.Proofs.YtnhemglpbhnmdaaGreat.Mt
