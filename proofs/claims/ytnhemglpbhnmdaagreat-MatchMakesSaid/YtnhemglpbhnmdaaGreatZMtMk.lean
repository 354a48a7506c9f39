/-
  What is proved: the law that what matching finds makes the term, and the claim.
-/
import Derived.Test.YtnhemglpbhnmdaaGreatZMtMm
import Derived.Test.YtnhemglpbhnmdaaGreatMX
import Derived.Test.YtnhemglpbhnmdaaGreatZMtCf
import Derived.Test.YtnhemglpbhnmdaaGreatZRgtF
import Derived.Test.YtnhemglpbhnmdaaGreatBM
import Derived.Test.YtnhemglpbhnmdaaGreatZSbAc
import Derived.Test.YtnhemglpbhnmdaaGreatZSbAw
import Derived.Test.YtnhemglpbhnmdaaGreatZSbD
import Derived.Test.YtnhemglpbhnmdaaGreatZClmQ
import Derived.Test.YtnhemglpbhnmdaaGreatBC
import Derived.Test.YtnhemglpbhnmdaaGreatZLibHs
import Derived.Test.YtnhemglpbhnmdaaGreatZLibV
import Derived.Test.YtnhemglpbhnmdaaGreatZSbCo
import Derived.Deep.RegionHeld3
namespace Go.Proofs.YtnhemglpbhnmdaaGreat.Mt
open Go.RowKit L T C B U
set_option linter.unusedVariables false
set_option linter.unusedSimpArgs false

theorem mk4 (w : World) (o : Int) (s : ByteArray) (z : Int) (a : Option Addr) (n c : Nat) (o' : Int) (s' : ByteArray) (z' : Int) (a' : Option Addr) (n' c' : Nat) (oq : Int) (sq zq : ByteArray) (kq : SS) (aq : Option Addr) (nq cq : Nat) (oc : Int) (sc zc : ByteArray) (kc : SS) (ac : Option Addr) (nc cc : Nat) :
    ∃ W, (((w.alloc (.cells #[.int .i64 o, .string s, .int .i64 z, .slice a n c] 31)).alloc (.cells #[.int .i64 o', .string s', .int .i64 z', .slice a' n' c'] 31)).alloc (.cells #[.int .i64 oq, .string sq, .string zq, .slice kq.a kq.n kq.c, .slice aq nq cq] 25)).alloc (.cells #[.int .i64 oc, .string sc, .string zc, .slice kc.a kc.n kc.c, .slice ac nc cc] 25) = W ∧ Below w.heap.size w W ∧ W.heap.size = w.heap.size + 4 ∧
      TBox W w.heap.size o s z a n c ∧ TBox W (w.heap.size + 1) o' s' z' a' n' c' ∧ CBox W (w.heap.size + 2) oq sq zq kq aq nq cq ∧ CBox W (w.heap.size + 3) oc sc zc kc ac nc cc := by
  obtain ⟨W1, h1, hb1, hs1, S1, S2⟩ := box2 w o s z a n c o' s' z' a' n' c'
  obtain ⟨W2, h2, hb2, hs2, S3, S4⟩ := cbox2 W1 oq sq zq kq aq nq cq oc sc zc kc ac nc cc
  rw [h1]
  rw [hs1] at S3 S4
  exact ⟨W2, h2, bel_trans hb1 hb2, by omega, TBox.b S1 hb2, TBox.b S2 hb2, S3, S4⟩
theorem mk_apply (X : List ByteArray) (p t : Tm) (L : List Pr) (h : mat X p [] t = some L) (hsp : smT p) (hz : size p ≤ 300) (hg : good 4096 L) (hl : L.length ≤ 1000) (A : Option Addr) (N C : Nat) (a : Option Addr) (n c : Nat) (w : World) (hU : UsW w A N C L) (hA : ArW w p a n c) :
    Calls Tryz.prog 19 #[.slice A N C, .agg #[.int .i64 (opT p), .string (nameT p), .int .i64 (numT p), .slice a n c]] w fun e w1 => ∃ a5 n5 c5, e = .returned (.agg #[.int .i64 (opT t), .string (nameT t), .int .i64 (numT t), .slice a5 n5 c5]) ∧ ArW w1 t a5 n5 c5 ∧ Below w.heap.size w w1 := by
  have e := mat_makes X p [] t L h L (ExtU.refl _) (none_ok (mat_in X p [] t L h)) 0
  refine (Apply_any L (fun q hq => by have := (hg.2 q hq).1; omega) (fun q hq => (hg.2 q hq).2) (by unfold maxLen; omega) p hsp (by omega) A N C a n c w hU hA).mono fun e1 w1 h => ?_
  rw [e] at h
  obtain ⟨a, n, c, e1, hA, hb⟩ := h
  exact ⟨a, n, c, e1, ArP.ar (fun b hb => by unfold Nw at hb; omega) _ hA, hb⟩
theorem mk_applyC (l : List Pr) (hg : good 4096 l) (hl : l.length ≤ 1000) (q : Cl) (hsq : smC q) (hw : wt q ≤ 300) (A : Option Addr) (N C : Nat) (kq : SS) (a : Option Addr) (n c : Nat) (w : World) (hU : UsW w A N C l) (hA : ArWC w q kq a n c) :
    Calls Tryz.prog 23 #[.slice A N C, .agg #[.int .i64 (opC q), .string (nmC q), .string (soC q), .slice kq.a kq.n kq.c, .slice a n c]] w fun e w1 => AnyC (sbCl l 0 q) w e w1 :=
  (ApplyClaim_any l (fun p hp => by have := (hg.2 p hp).1; omega) (fun p hp => (hg.2 p hp).2) (by unfold maxLen; omega) q hsq (by omega) A N C kq a n c w hU hA).mono fun e w1 h => (by
    obtain ⟨ka, kn, kc, a, n, c, e1, hA, hb⟩ := h
    exact ⟨ka, kn, kc, a, n, c, e1, ArCP.ar (fun b hb => by unfold Nw at hb; omega) _ hA, hb⟩)
theorem mk_right (X : List ByteArray) (l : List Pr) (hO : OkU X l) (hg : good 4096 l) (A : Option Addr) (N C : Nat) (w : World) (hU : UsW w A N C l) :
    Calls Tryz.prog 20 #[.slice A N C] w fun e w1 => e = .returned (.int .i64 0) ∧ Below w.heap.size w w1 := by
  have h := RightU_few l (fun q hq => (hg.2 q hq).1) A N C w hU
  rw [rg_found hO hg.1] at h
  exact h
/-- an empty list of pairs of the call's own -/
theorem own_empty (w : World) : OwnP (w.alloc (.cells #[] 33)) w.heap.size (.slice (some ⟨w.heap.size, 0, none⟩) 0 0) [] :=
  ⟨[], ⟨rfl, .inr ⟨w.heap.size, 0, #[], rfl, Nat.le_refl _, Blk.new w #[] 33, Nat.le_refl _, Nat.zero_le _, rfl, rfl⟩⟩, rfl, fun i h p hi => by simp at hi⟩
/-- append([]api.Pair{}, l...) -/
theorem app_first {w : World} {ops : Array Oper} {rest : List Oper} {o : Oper} {a : Act} {Q : Exit → Act → World → Prop} (hgd : o.guard = none) (s x : Operand)
    (ho : o.op = .call { callee := .builtin .append, args := #[s, x], argTypes := #[34, 34] })
    (hs : a.eval s = .slice (some ⟨w.heap.size, 0, none⟩) 0 0) (A : Option Addr) (n c : Nat) (X : List Pr) (hx : a.eval x = .slice A n c) (hX : UsW w A n c X) (hn : X.length ≤ 1000000)
    (h : ∀ v' w', OwnP w' w.heap.size v' X → Below w.heap.size w w' → wpList Tryz.prog ops Q rest (a.put o.dst v') w') : wpList Tryz.prog ops Q (o :: rest) a (w.alloc (.cells #[] 33)) := by
  have hb : Below w.heap.size w (w.alloc (.cells #[] 33)) := bel_alloc (Below.refl _ _) _
  refine app_pairs hgd s x ho w.heap.size _ [] hs (own_empty w) (fun b => b < w.heap.size) (fun b hb2 => ⟨by simp; omega, fun e => by simp [Value.ownBlock] at e; omega⟩) A n c X hx (IsU.up (hX.bel hb)) (by simp; omega) (by simp) fun v' w' h1 h2 => h v' w' h1 ?_
  exact hb.grown h2 (by simp) (fun q hq => by simp [Value.ownBlock] at hq; omega)
/-- append(.., m...), a row of the call's own and a list that was there before it -/
theorem app_second {w0 w : World} {ops : Array Oper} {rest : List Oper} {o : Oper} {a : Act} {Q : Exit → Act → World → Prop} (hgd : o.guard = none) (s x : Operand)
    (ho : o.op = .call { callee := .builtin .append, args := #[s, x], argTypes := #[34, 34] })
    (v : Value) (Y : List Pr) (hs : a.eval s = v) (hown : OwnP w w0.heap.size v Y) (hb : Below w0.heap.size w0 w) (A : Option Addr) (n c : Nat) (X : List Pr) (hx : a.eval x = .slice A n c) (hX : UsW w0 A n c X) (hn : Y.length + X.length ≤ 1000000)
    (h : ∀ A' N' C' w', UsW w' A' N' C' (Y ++ X) → Below w0.heap.size w0 w' → wpList Tryz.prog ops Q rest (a.put o.dst (.slice A' N' C')) w') : wpList Tryz.prog ops Q (o :: rest) a w := by
  refine app_pairs hgd s x ho w0.heap.size v Y hs hown (fun b => b < w0.heap.size) (fun b hb2 => ⟨Nat.lt_of_lt_of_le hb2 hb.size, fun e => by have := hown.lt b e; omega⟩) A n c X hx (IsU.up (hX.bel hb)) (by omega) hb.size fun v' w' h1 h2 => ?_
  obtain ⟨A', C', rfl, -⟩ := h1.slice
  exact h A' _ C' w' h1.us (hb.grown h2 hb.size (fun q hq => (hown.lt q hq).1))
theorem someD {l : List Pr} {r : Option (List Pr)} (h : r.isSome = true) (e : r.getD [] = l) : r = some l := by
  cases r with
  | none => cases h
  | some x => rw [← e]; rfl
theorem noneD {r : Option (List Pr)} (h : r.isSome = false) : r.getD [] = [] := by
  cases r with
  | none => rfl
  | some x => cases h
set_option maxRecDepth 100000 in
set_option maxHeartbeats 64000000 in
theorem makesB (X : List ByteArray) (p t : Tm) (ap : Option Addr) (np cp : Nat) (aT : Option Addr) (nt ct : Nat) (q c : Cl) (kq : SS) (aq : Option Addr) (nq cq : Nat) (kc : SS) (ac : Option Addr) (nc cc : Nat) (aX : Option Addr) (nX cX : Nat) (w : World)
    (HP : ArW w p ap np cp) (hsp : smT p) (HT : ArW w t aT nt ct) (HQ0 : ArWC w q kq aq nq cq) (hsq : smC q) (HC : ArWC w c kc ac nc cc) (hX : IsS w aX nX X) (hnX : nX ≤ 9223372036854775807) :
    Calls Tryz.prog 4 #[.agg #[.int .i64 (opT p), .string (nameT p), .int .i64 (numT p), .slice ap np cp], .agg #[.int .i64 (opT t), .string (nameT t), .int .i64 (numT t), .slice aT nt ct], .agg #[.int .i64 (opC q), .string (nmC q), .string (soC q), .slice kq.a kq.n kq.c, .slice aq nq cq], .agg #[.int .i64 (opC c), .string (nmC c), .string (soC c), .slice kc.a kc.n kc.c, .slice ac nc cc], .slice aX nX cX] w fun e w' => e = .returned (.bool true) ∧ Below w.heap.size w w' := by
  obtain ⟨W, hW, hB0, hs2, SP, ST, SQ, SC⟩ := mk4 w (opT p) (nameT p) (numT p) ap np cp (opT t) (nameT t) (numT t) aT nt ct (opC q) (nmC q) (soC q) kq aq nq cq (opC c) (nmC c) (soC c) kc ac nc cc
  have gP := ArW.b HP hB0
  have gT := ArW.b HT hB0
  have gQ := ArWC.b HQ0 hB0
  have gC := ArWC.b HC hB0
  have gX := hX.below hB0
  have hBa : Below W.heap.size W (W.alloc (.cells #[.int .i64 (opT p), .string (nameT p), .int .i64 (numT p), .slice ap np cp, .int .i64 (opT t), .string (nameT t), .int .i64 (numT t), .slice aT nt ct] 31)) := bel_alloc (Below.refl _ _) _
  have cF := few11_any X [p, t] aX nX cX (some ⟨W.heap.size, 0, none⟩) 2 2 (W.alloc (.cells #[.int .i64 (opT p), .string (nameT p), .int .i64 (numT p), .slice ap np cp, .int .i64 (opT t), .string (nameT t), .int .i64 (numT t), .slice aT nt ct] 31)) (gX.below hBa) hnX (two_ts (Blk.new W _ _) (ArW.b gP hBa) (ArW.b gT hBa))
  have zQ := fun (w' : World) (hb : Below W.heap.size W w') => Big_any q kq aq nq cq 300 w' (by omega) (ArWC.b gQ hb)
  have zC := fun (w' : World) (hb : Below W.heap.size W w') => Big_any c kc ac nc cc 300 w' (by omega) (ArWC.b gC hb)
  rw [show ((300 : Nat) : Int) = 300 from rfl] at zQ zC
  have g0 := fun (w' : World) => alive11_any w'
  have hNX : nX = X.length := hX.1
  have HSP := Lib.hid SP
  have HST := Lib.hid ST
  have HSQ := Lib.hid SQ
  have HSC := Lib.hid SC
  have HQ := Lib.hid (show ∀ (w' : World), Below W.heap.size W w' → (w'.cell? ⟨w.heap.size, 0, none⟩ = some (.int .i64 (opT p)) ∧ w'.cell? ⟨w.heap.size, 1, none⟩ = some (.string (nameT p)) ∧ w'.cell? ⟨w.heap.size, 2, none⟩ = some (.int .i64 (numT p)) ∧ w'.cell? ⟨w.heap.size, 3, none⟩ = some (.slice ap np cp) ∧ w'.cell? ⟨w.heap.size + 1, 0, none⟩ = some (.int .i64 (opT t)) ∧ w'.cell? ⟨w.heap.size + 1, 1, none⟩ = some (.string (nameT t)) ∧ w'.cell? ⟨w.heap.size + 1, 2, none⟩ = some (.int .i64 (numT t)) ∧ w'.cell? ⟨w.heap.size + 1, 3, none⟩ = some (.slice aT nt ct) ∧ w'.cell? ⟨w.heap.size + 2, 0, none⟩ = some (.int .i64 (opC q)) ∧ w'.cell? ⟨w.heap.size + 2, 1, none⟩ = some (.string (nmC q)) ∧ w'.cell? ⟨w.heap.size + 2, 2, none⟩ = some (.string (soC q)) ∧ w'.cell? ⟨w.heap.size + 2, 3, none⟩ = some (.slice kq.a kq.n kq.c) ∧ w'.cell? ⟨w.heap.size + 2, 4, none⟩ = some (.slice aq nq cq) ∧ w'.cell? ⟨w.heap.size + 3, 0, none⟩ = some (.int .i64 (opC c)) ∧ w'.cell? ⟨w.heap.size + 3, 1, none⟩ = some (.string (nmC c)) ∧ w'.cell? ⟨w.heap.size + 3, 2, none⟩ = some (.string (soC c)) ∧ w'.cell? ⟨w.heap.size + 3, 3, none⟩ = some (.slice kc.a kc.n kc.c) ∧ w'.cell? ⟨w.heap.size + 3, 4, none⟩ = some (.slice ac nc cc)) from fun w' h => (by
    obtain ⟨p0, p1, p2, p3⟩ := (TBox.b HSP.out h).four
    obtain ⟨t0, t1, t2, t3⟩ := (TBox.b HST.out h).four
    obtain ⟨q0, q1, q2, q3, q4⟩ := (CBox.b HSQ.out h).five
    obtain ⟨r0, r1, r2, r3, r4⟩ := (CBox.b HSC.out h).five
    exact ⟨p0, p1, p2, p3, t0, t1, t2, t3, q0, q1, q2, q3, q4, r0, r1, r2, r3, r4⟩))
  have HM := Lib.hid (show few11 X [p, t] = true → wtTo 300 q ≤ 300 → wtTo 300 c ≤ 300 →
      (∀ w', Below W.heap.size W w' → Calls Tryz.prog 16 #[.agg #[.int .i64 (opT p), .string (nameT p), .int .i64 (numT p), .slice ap np cp], .agg #[.int .i64 (opT t), .string (nameT t), .int .i64 (numT t), .slice aT nt ct], .slice aX nX cX] w' fun e w1 => RtPs (mat X p [] t) w' e w1) ∧
      (∀ w', Below W.heap.size W w' → Calls Tryz.prog 17 #[.agg #[.int .i64 (opC q), .string (nmC q), .string (soC q), .slice kq.a kq.n kq.c, .slice aq nq cq], .agg #[.int .i64 (opC c), .string (nmC c), .string (soC c), .slice kc.a kc.n kc.c, .slice ac nc cc], .slice aX nX cX] w' fun e w1 => RtPs (matC X q [] c) w' e w1) ∧
      (∀ x ∈ (mat X p [] t).getD [] ++ (matC X q [] c).getD [], hasS X x.nm = true) ∧ ((mat X p [] t).getD []).length ≤ 1000 ∧ ((matC X q [] c).getD []).length ≤ 1000 ∧
      ((mat X p [] t).isSome = true →
        (∀ (A : Option Addr) (N C : Nat) (w' : World), Below W.heap.size W w' → UsW w' A N C ((mat X p [] t).getD []) → Calls Tryz.prog 19 #[.slice A N C, .agg #[.int .i64 (opT p), .string (nameT p), .int .i64 (numT p), .slice ap np cp]] w' fun e w1 => ∃ a5 n5 c5, e = .returned (.agg #[.int .i64 (opT t), .string (nameT t), .int .i64 (numT t), .slice a5 n5 c5]) ∧ ArW w1 t a5 n5 c5 ∧ Below w'.heap.size w' w1) ∧
        (∀ (A : Option Addr) (N C : Nat) (w' : World), UsW w' A N C ((mat X p [] t).getD []) → Calls Tryz.prog 20 #[.slice A N C] w' fun e w1 => e = .returned (.int .i64 0) ∧ Below w'.heap.size w' w1)) ∧
      ((matC X q [] c).isSome = true →
        (∀ (A : Option Addr) (N C : Nat) (w' : World), Below W.heap.size W w' → UsW w' A N C ((matC X q [] c).getD []) → Calls Tryz.prog 23 #[.slice A N C, .agg #[.int .i64 (opC q), .string (nmC q), .string (soC q), .slice kq.a kq.n kq.c, .slice aq nq cq]] w' fun e w1 => AnyC (sbCl ((matC X q [] c).getD []) 0 q) w' e w1) ∧
        (∀ (A : Option Addr) (N C : Nat) (w' : World), UsW w' A N C ((matC X q [] c).getD []) → Calls Tryz.prog 20 #[.slice A N C] w' fun e w1 => e = .returned (.int .i64 0) ∧ Below w'.heap.size w' w1) ∧
        eqC (sbCl ((matC X q [] c).getD []) 0 q) c = true) from fun h1 h2 h3 => by
    obtain ⟨f1, f2, f3⟩ := few11_of h1
    have zp := f3 p (by simp)
    have zt := f3 t (by simp)
    have wq := Nat.le_trans (wtTo_le q 300 h2) h2
    have wc := Nat.le_trans (wtTo_le c 300 h3) h3
    have fX : ∀ x ∈ X, x.size ≤ maxLen := fun x hx => by have := f2 x hx; unfold maxLen; omega
    have iT : ∀ L, mat X p [] t = some L → OkU X L ∧ good 4096 L ∧ L.length ≤ 1000 := fun L e => ⟨none_ok (mat_in X p [] t L e), mat_good 4096 X p [] t L e hsp (by omega) ⟨trivial, fun q hq => by cases hq⟩, by have := mat_len X p [] t L e; simp at this; omega⟩
    have iC : ∀ L, matC X q [] c = some L → OkU X L ∧ good 4096 L ∧ L.length ≤ 1000 := fun L e => ⟨none_ok (matC_in X q [] c L e), matC_good 4096 X q [] c L e hsq (by omega) ⟨trivial, fun q hq => by cases hq⟩, by have := matC_len X q [] c L e; simp at this; omega⟩
    refine ⟨fun w' hb => TermM_any X p t ap np cp aT nt ct aX nX cX w' (ArW.b gP hb) hsp (by omega) (ArW.b gT hb) (by omega) (gX.below hb) (by omega) fX, fun w' hb => ClaimM_any X q c kq aq nq cq kc ac nc cc aX nX cX w' (ArWC.b gQ hb) hsq (by omega) (ArWC.b gC hb) (by omega) (gX.below hb) (by omega) fX, ?_, ?_, ?_, fun e => ?_, fun e => ?_⟩
    · intro x hx
      rcases List.mem_append.1 hx with hx | hx
      · cases hr : mat X p [] t with
        | none => rw [hr] at hx; cases hx
        | some L => rw [hr] at hx; exact ((iT L hr).1 x hx).1
      · cases hr : matC X q [] c with
        | none => rw [hr] at hx; cases hx
        | some L => rw [hr] at hx; exact ((iC L hr).1 x hx).1
    · cases hr : mat X p [] t with
      | none => exact Nat.zero_le _
      | some L => exact (iT L hr).2.2
    · cases hr : matC X q [] c with
      | none => exact Nat.zero_le _
      | some L => exact (iC L hr).2.2
    · have hr := someD e rfl
      obtain ⟨i1, i2, i3⟩ := iT _ hr
      exact ⟨fun A N C w' hb hU => mk_apply X p t _ hr hsp zp i2 i3 A N C ap np cp w' hU (ArW.b gP hb), fun A N C w' hU => mk_right X _ i1 i2 A N C w' hU⟩
    · have hr := someD e rfl
      obtain ⟨i1, i2, i3⟩ := iC _ hr
      exact ⟨fun A N C w' hb hU => mk_applyC _ i2 i3 q hsq (by omega) A N C kq aq nq cq w' hU (ArWC.b gQ hb), fun A N C w' hU => mk_right X _ i1 i2 A N C w' hU, matC_makes X q [] c _ hr _ (ExtU.refl _) i1 0⟩)
  have HR8 := Lib.hid (show ∀ (w' : World), Below W.heap.size W w' → _ from fun w' hb => Right8C_any q kq aq nq cq w' (ArWC.b gQ hb))
  have HTm := Lib.hid (show ∀ (A : Option Addr) (N C : Nat) (w' : World), Below W.heap.size W w' → ArW w' t A N C → Calls Tryz.prog 18 #[.agg #[.int .i64 (opT t), .string (nameT t), .int .i64 (numT t), .slice A N C], .agg #[.int .i64 (opT t), .string (nameT t), .int .i64 (numT t), .slice aT nt ct]] w' fun e w1 => e = .returned (.bool true) ∧ Below w'.heap.size w' w1 from fun A N C w' hb h => (Term_any t t A N C aT nt ct w' h (ArW.b gT hb)).mono fun e w1 h => by rw [eqT_iff.2 rfl] at h; exact h)
  have HCl := Lib.hid (show eqC (sbCl ((matC X q [] c).getD []) 0 q) c = true → ∀ (K0 : Option Addr) (K1 K2 : Nat) (A : Option Addr) (N C : Nat) (w' : World), Below W.heap.size W w' → ArWC w' (sbCl ((matC X q [] c).getD []) 0 q) ⟨K0, K1, K2⟩ A N C → Calls Tryz.prog 22 #[.agg #[.int .i64 (opC (sbCl ((matC X q [] c).getD []) 0 q)), .string (nmC (sbCl ((matC X q [] c).getD []) 0 q)), .string (soC (sbCl ((matC X q [] c).getD []) 0 q)), .slice K0 K1 K2, .slice A N C], .agg #[.int .i64 (opC c), .string (nmC c), .string (soC c), .slice kc.a kc.n kc.c, .slice ac nc cc]] w' fun e w1 => e = .returned (.bool true) ∧ Below w'.heap.size w' w1 from fun he K0 K1 K2 A N C w' hb h => (Claim_any _ c ⟨K0, K1, K2⟩ A N C kc ac nc cc w' h (ArWC.b gC hb)).mono fun e w1 h => by rw [he] at h; exact h)
  have cHs := fun (s : ByteArray) (w' : World) (hb : Below W.heap.size W w') => Has_any aX nX cX X s w' (gX.below hb) hnX
  have HEm := Lib.hid (show (mat X p [] t).isSome = false → (mat X p [] t).getD [] = [] from noneD)
  have HEm2 := Lib.hid (show (matC X q [] c).isSome = false → (matC X q [] c).getD [] = [] from noneD)
  obtain ⟨kqa, kqn, kqc⟩ := kq
  obtain ⟨kca, kcn, kcc⟩ := kc
  dsimp only at *
  have hBd : Below W.heap.size W W := Below.refl _ _
  obtain ⟨s0, s1, s2, s3, t0, t1, t2, t3, q0, q1, q2, q3, q4, r0, r1, r2, r3, r4⟩ := HQ.out _ hBd
  clear SP ST SQ SC gP gT gQ gC gX HP HT HQ0 HC hX hsp hsq hs2 hNX HSP HST HSQ HSC
  unfold RtPs AnyC at HM
  generalize few11 X [p, t] = F at *
  generalize wtTo 300 q = wq at *
  generalize wtTo 300 c = wc at *
  generalize sbCl ((matC X q [] c).getD []) 0 q = r at *
  generalize (mat X p [] t).isSome = ok at *
  generalize (mat X p [] t).getD [] = LL at *
  generalize (matC X q [] c).isSome = is at *
  generalize (matC X q [] c).getD [] = MM at *
  generalize crightE q = E at *
  generalize eqC r c = EQ at *
  generalize opT p = op at *
  generalize nameT p = mp at *
  generalize numT p = zp at *
  generalize hot : opT t = ot at *
  generalize hmt : nameT t = mt at *
  generalize hzt : numT t = zt at *
  generalize opC q = oq at *
  generalize nmC q = mq at *
  generalize soC q = zq at *
  generalize opC c = oc at *
  generalize nmC c = mc at *
  generalize soC c = zc at *
  generalize opC r = orr at *
  generalize nmC r = mr at *
  generalize soC r = zr at *
  clear hot hmt hzt
  cases F with
  | false =>
    clear HM HTm HCl HR8 zQ zC cHs HEm HEm2
    go_enter Tryz.func4, Tryz.ntmps4
    go_wp2_with (first
      | (go_at_call 14; ((with_reducible refine cF.mono ?_); rintro e wX ⟨rfl, hbX⟩; have Bz := bel_trans hBa hbX))
      | (go_at_call 15; ((with_reducible refine (g0 _).mono ?_); rintro e wY ⟨rfl, hbY⟩; have Bz := bel_trans Bz hbY)))
    go_ret
    exact ⟨rfl, bel_trans hB0 Bz⟩
  | true =>
    by_cases q1 : wq ≤ 300
    · have p1 : decide (300 < wq) = false := decide_eq_false (by omega)
      rw [p1] at zQ
      by_cases q2 : wc ≤ 300
      · have p2 : decide (300 < wc) = false := decide_eq_false (by omega)
        rw [p2] at zC
        obtain ⟨c1, c2, hnm, hl1, hl2, hd, hf⟩ := HM.out rfl q1 q2
        have HNm := Lib.hid hnm
        have HL1 := Lib.hid hl1
        have HL2 := Lib.hid hl2
        have HD := Lib.hid hd
        have HF := Lib.hid hf
        clear HM p1 p2 q1 q2 hnm hl1 hl2 hd hf
        go_enter Tryz.func4, Tryz.ntmps4
        go_upto_region 5 with (first
          | (go_at_call 14; ((with_reducible refine cF.mono ?_); rintro e wX ⟨rfl, hbX⟩; have Bz := bel_trans hBa hbX; obtain ⟨s0, s1, s2, s3, t0, t1, t2, t3, q0, q1, q2, q3, q4, r0, r1, r2, r3, r4⟩ := HQ.out _ Bz))
          | (go_at_call 6; ((with_reducible refine (zQ _ Bz).mono ?_); rintro e wX ⟨rfl, hbX⟩; have Bz := bel_trans Bz hbX; obtain ⟨s0, s1, s2, s3, t0, t1, t2, t3, q0, q1, q2, q3, q4, r0, r1, r2, r3, r4⟩ := HQ.out _ Bz))
          | (go_at_call 6; ((with_reducible refine (zC _ Bz).mono ?_); rintro e wX ⟨rfl, hbX⟩; have Bz := bel_trans Bz hbX; obtain ⟨s0, s1, s2, s3, t0, t1, t2, t3, q0, q1, q2, q3, q4, r0, r1, r2, r3, r4⟩ := HQ.out _ Bz))
          | (go_at_call 16; ((with_reducible refine (c1 _ Bz).mono ?_); rintro e w3 ⟨A3, N3, C3, rfl, hU3, hb3⟩; have K1 := Lib.hid hU3; have Bz := bel_trans Bz hb3; obtain ⟨s0, s1, s2, s3, t0, t1, t2, t3, q0, q1, q2, q3, q4, r0, r1, r2, r3, r4⟩ := HQ.out _ Bz; clear hU3))
          | (go_at_call 17; ((with_reducible refine (c2 _ Bz).mono ?_); rintro e w4 ⟨A4, N4, C4, rfl, hU4, hb4⟩; have K1 := Lib.hid (UsW.b K1.out hb4); have K2 := Lib.hid hU4; have Bz := bel_trans Bz hb4; obtain ⟨s0, s1, s2, s3, t0, t1, t2, t3, q0, q1, q2, q3, q4, r0, r1, r2, r3, r4⟩ := HQ.out _ Bz; clear hU4)))
        clear c1 c2 cF zQ zC
        obtain ⟨s0, s1, s2, s3, t0, t1, t2, t3, q0, q1, q2, q3, q4, r0, r1, r2, r3, r4⟩ := HQ.out _ Bz
        go_cut [68] from 46 (fun v wc => v = .bool false ∧ Below W.heap.size W wc ∧ Hid (UsW wc A3 N3 C3 LL) ∧ Hid (UsW wc A4 N4 C4 MM))
        case first =>
          clear HF HEm2 HCl HR8 g0 cHs HNm
          cases ok with
          | false =>
            have e0 : LL = [] := HEm.out rfl
            have n0 : N3 = 0 := by have := K1.out.1; rw [e0] at this; exact this
            subst n0
            clear e0 HEm HD
            go_quiet (fail)
            all_goals go_wp2
            all_goals ((try go_wp2_with fail); go_meet; first | exact ⟨rfl, Bz, K1, K2⟩ | exact ⟨rfl, below_drewN Bz _, Lib.hid (UsW.b K1.out (below_drewN (Below.refl _ _) _)), Lib.hid (UsW.b K2.out (below_drewN (Below.refl _ _) _))⟩)
          | true =>
            obtain ⟨d1, d2⟩ := HD.out rfl
            clear HD HEm
            refine wp_region_noPanic ?_
            refine wp_region_held_drew (S := fun w' => w'.cell? ⟨w.heap.size, 0, none⟩ = some (.int .i64 op) ∧ w'.cell? ⟨w.heap.size, 1, none⟩ = some (.string mp) ∧ w'.cell? ⟨w.heap.size, 2, none⟩ = some (.int .i64 zp) ∧ w'.cell? ⟨w.heap.size, 3, none⟩ = some (.slice ap np cp) ∧ w'.cell? ⟨w.heap.size + 1, 0, none⟩ = some (.int .i64 ot) ∧ w'.cell? ⟨w.heap.size + 1, 1, none⟩ = some (.string mt) ∧ w'.cell? ⟨w.heap.size + 1, 2, none⟩ = some (.int .i64 zt) ∧ w'.cell? ⟨w.heap.size + 1, 3, none⟩ = some (.slice aT nt ct) ∧ w'.cell? ⟨w.heap.size + 2, 0, none⟩ = some (.int .i64 oq) ∧ w'.cell? ⟨w.heap.size + 2, 1, none⟩ = some (.string mq) ∧ w'.cell? ⟨w.heap.size + 2, 2, none⟩ = some (.string zq) ∧ w'.cell? ⟨w.heap.size + 2, 3, none⟩ = some (.slice kqa kqn kqc) ∧ w'.cell? ⟨w.heap.size + 2, 4, none⟩ = some (.slice aq nq cq) ∧ w'.cell? ⟨w.heap.size + 3, 0, none⟩ = some (.int .i64 oc) ∧ w'.cell? ⟨w.heap.size + 3, 1, none⟩ = some (.string mc) ∧ w'.cell? ⟨w.heap.size + 3, 2, none⟩ = some (.string zc) ∧ w'.cell? ⟨w.heap.size + 3, 3, none⟩ = some (.slice kca kcn kcc) ∧ w'.cell? ⟨w.heap.size + 3, 4, none⟩ = some (.slice ac nc cc)) (by kernel_rfl) (by exact HQ.out _ (Below.drew Bz)) (fun hHeld => ?_)
            have Bz := Below.drew Bz
            have K1 := Lib.hid (UsW.b K1.out (Below.refl _ _).drew)
            have K2 := Lib.hid (UsW.b K2.out (Below.refl _ _).drew)
            refine wpAnyH_take (i := 0) (v := ?_) rfl (by kernel_rfl) (by kernel_rfl) (by kernel_rfl) (fun _ _ _ h => h) (Or.inl ⟨by rfl, ?hy⟩) (by assumption) ?_
            case hy => (intro w hSw; (try dsimp only at hSw); go_simp; try (with_reducible rfl))
            (try simp only [List.getElem_toArray, List.getElem_cons_succ, List.getElem_cons_zero, Act.put, List.setIfInBounds_toArray, List.set_cons_zero, List.set_cons_succ])
            refine wpAnyH_take (i := 1) (v := ?_) rfl (by kernel_rfl) (by kernel_rfl) (by kernel_rfl) (fun _ _ _ h => h) (Or.inl ⟨by rfl, ?hy⟩) (by assumption) ?_
            case hy => (intro w hSw; (try dsimp only at hSw); go_simp; try (with_reducible rfl))
            (try simp only [List.getElem_toArray, List.getElem_cons_succ, List.getElem_cons_zero, Act.put, List.setIfInBounds_toArray, List.set_cons_zero, List.set_cons_succ])
            refine wpAnyH_take (i := 2) (v := ?_) rfl (by kernel_rfl) (by kernel_rfl) (by kernel_rfl) (fun _ _ _ h => h) (Or.inl ⟨by rfl, ?hy⟩) (by assumption) ?_
            case hy => (intro w hSw; (try dsimp only at hSw); go_simp; try (with_reducible rfl))
            (try simp only [List.getElem_toArray, List.getElem_cons_succ, List.getElem_cons_zero, Act.put, List.setIfInBounds_toArray, List.set_cons_zero, List.set_cons_succ])
            refine wpAnyH_take (i := 3) (v := ?_) rfl (by kernel_rfl) (by kernel_rfl) (by kernel_rfl) (fun _ _ _ h => h) (Or.inl ⟨by rfl, ?hy⟩) (by assumption) ?_
            case hy => (intro w hSw; (try dsimp only at hSw); go_simp; try (with_reducible rfl))
            (try simp only [List.getElem_toArray, List.getElem_cons_succ, List.getElem_cons_zero, Act.put, List.setIfInBounds_toArray, List.set_cons_zero, List.set_cons_succ])
            refine wpAnyH_take (i := 5) (v := ?_) rfl (by kernel_rfl) (by kernel_rfl) (by kernel_rfl) (fun _ _ _ h => h) (Or.inl ⟨by rfl, ?hy⟩) (by assumption) ?_
            case hy => (intro w hSw; (try dsimp only at hSw); go_simp; try (with_reducible rfl))
            (try simp only [List.getElem_toArray, List.getElem_cons_succ, List.getElem_cons_zero, Act.put, List.setIfInBounds_toArray, List.set_cons_zero, List.set_cons_succ])
            refine wpAnyH_ready (rs := [4]) (by kernel_rfl) (by simp) ?_
            refine AllReadyH.cons rfl (fun KK hKK => ?_) AllReadyH.nil
            go_simp
            (go_at_call 19; ((with_reducible refine (d1 _ _ _ _ Bz K1.out).mono ?_); rintro e wK ⟨a5, n5, c5, rfl, hA5, hbK⟩; have K1 := Lib.hid (UsW.b K1.out hbK); have K2 := Lib.hid (UsW.b K2.out hbK); have Bz := bel_trans Bz hbK; have K5 := Lib.hid hA5; clear hA5))
            refine hKK.out _ _ (by exact HQ.out _ Bz) (fun hHeld => ?_)
            clear hKK KK
            (try simp only [List.getElem_toArray, List.getElem_cons_succ, List.getElem_cons_zero, Act.put, List.setIfInBounds_toArray, List.set_cons_zero, List.set_cons_succ])
            refine wpAnyH_ready (rs := [6]) (by kernel_rfl) (by simp) ?_
            refine AllReadyH.cons rfl (fun KK hKK => ?_) AllReadyH.nil
            go_simp
            (go_at_call 18; ((with_reducible refine (HTm.out _ _ _ _ Bz K5.out).mono ?_); rintro e wK ⟨rfl, hbK⟩; have K1 := Lib.hid (UsW.b K1.out hbK); have K2 := Lib.hid (UsW.b K2.out hbK); have Bz := bel_trans Bz hbK))
            refine hKK.out _ _ (by exact HQ.out _ Bz) (fun hHeld => ?_)
            clear hKK KK
            (try simp only [List.getElem_toArray, List.getElem_cons_succ, List.getElem_cons_zero, Act.put, List.setIfInBounds_toArray, List.set_cons_zero, List.set_cons_succ])
            refine wpAnyH_take (i := 7) (v := ?_) rfl (by kernel_rfl) (by kernel_rfl) (by kernel_rfl) (fun _ _ _ h => h) (Or.inl ⟨by rfl, ?hy⟩) (by assumption) ?_
            case hy => (intro w hSw; (try dsimp only at hSw); go_simp; try (with_reducible rfl))
            (try simp only [List.getElem_toArray, List.getElem_cons_succ, List.getElem_cons_zero, Act.put, List.setIfInBounds_toArray, List.set_cons_zero, List.set_cons_succ])
            refine wpAnyH_take (i := 8) (v := ?_) rfl (by kernel_rfl) (by kernel_rfl) (by kernel_rfl) (fun _ _ _ h => h) (Or.inl ⟨by rfl, ?hy⟩) (by assumption) ?_
            case hy => (intro w hSw; (try dsimp only at hSw); go_simp; try (with_reducible rfl))
            (try simp only [List.getElem_toArray, List.getElem_cons_succ, List.getElem_cons_zero, Act.put, List.setIfInBounds_toArray, List.set_cons_zero, List.set_cons_succ])
            refine wpAnyH_take (i := 9) (v := ?_) rfl (by kernel_rfl) (by kernel_rfl) (by kernel_rfl) (fun _ _ _ h => h) (Or.inl ⟨by rfl, ?hy⟩) (by assumption) ?_
            case hy => (intro w hSw; (try dsimp only at hSw); go_simp; try (with_reducible rfl))
            (try simp only [List.getElem_toArray, List.getElem_cons_succ, List.getElem_cons_zero, Act.put, List.setIfInBounds_toArray, List.set_cons_zero, List.set_cons_succ])
            refine wpAnyH_ready (rs := [10]) (by kernel_rfl) (by simp) ?_
            refine AllReadyH.cons rfl (fun KK hKK => ?_) AllReadyH.nil
            go_simp
            (go_at_call 20; ((with_reducible refine (d2 _ _ _ _ K1.out).mono ?_); rintro e wK ⟨rfl, hbK⟩; have K1 := Lib.hid (UsW.b K1.out hbK); have K2 := Lib.hid (UsW.b K2.out hbK); have Bz := bel_trans Bz hbK))
            refine hKK.out _ _ (by exact HQ.out _ Bz) (fun hHeld => ?_)
            clear hKK KK
            (try simp only [List.getElem_toArray, List.getElem_cons_succ, List.getElem_cons_zero, Act.put, List.setIfInBounds_toArray, List.set_cons_zero, List.set_cons_succ])
            refine wpAnyH_take (i := 11) (v := ?_) rfl (by kernel_rfl) (by kernel_rfl) (by kernel_rfl) (fun _ _ _ h => h) (Or.inl ⟨by rfl, ?hy⟩) (by assumption) ?_
            case hy => (intro w hSw; (try dsimp only at hSw); go_simp; try (with_reducible rfl))
            (try simp only [List.getElem_toArray, List.getElem_cons_succ, List.getElem_cons_zero, Act.put, List.setIfInBounds_toArray, List.set_cons_zero, List.set_cons_succ])
            refine wpAnyH_take (i := 12) (v := ?_) rfl (by kernel_rfl) (by kernel_rfl) (by kernel_rfl) (fun _ _ _ h => h) (Or.inl ⟨by rfl, ?hy⟩) (by assumption) ?_
            case hy => (intro w hSw; (try dsimp only at hSw); go_simp; try (with_reducible rfl))
            (try simp only [List.getElem_toArray, List.getElem_cons_succ, List.getElem_cons_zero, Act.put, List.setIfInBounds_toArray, List.set_cons_zero, List.set_cons_succ])
            refine wpAnyH_take (i := 13) (v := ?_) rfl (by kernel_rfl) (by kernel_rfl) (by kernel_rfl) (fun _ _ _ h => h) (Or.inl ⟨by rfl, ?hy⟩) (by assumption) ?_
            case hy => (intro w hSw; (try dsimp only at hSw); go_simp; try (with_reducible rfl))
            (try simp only [List.getElem_toArray, List.getElem_cons_succ, List.getElem_cons_zero, Act.put, List.setIfInBounds_toArray, List.set_cons_zero, List.set_cons_succ])
            refine wpAnyH_take (i := 14) (v := ?_) rfl (by kernel_rfl) (by kernel_rfl) (by kernel_rfl) (fun _ _ _ h => h) (Or.inl ⟨by rfl, ?hy⟩) (by assumption) ?_
            case hy => (intro w hSw; (try dsimp only at hSw); go_simp; try (with_reducible rfl))
            (try simp only [List.getElem_toArray, List.getElem_cons_succ, List.getElem_cons_zero, Act.put, List.setIfInBounds_toArray, List.set_cons_zero, List.set_cons_succ])
            refine wpAnyH_take (i := 15) (v := ?_) rfl (by kernel_rfl) (by kernel_rfl) (by kernel_rfl) (fun _ _ _ h => h) (Or.inl ⟨by rfl, ?hy⟩) (by assumption) ?_
            case hy => (intro w hSw; (try dsimp only at hSw); go_simp; try (with_reducible rfl))
            (try simp only [List.getElem_toArray, List.getElem_cons_succ, List.getElem_cons_zero, Act.put, List.setIfInBounds_toArray, List.set_cons_zero, List.set_cons_succ])
            refine wpAnyH_take (i := 16) (v := ?_) rfl (by kernel_rfl) (by kernel_rfl) (by kernel_rfl) (fun _ _ _ h => h) (Or.inl ⟨by rfl, ?hy⟩) (by assumption) ?_
            case hy => (intro w hSw; (try dsimp only at hSw); go_simp; try (with_reducible rfl))
            (try simp only [List.getElem_toArray, List.getElem_cons_succ, List.getElem_cons_zero, Act.put, List.setIfInBounds_toArray, List.set_cons_zero, List.set_cons_succ])
            refine wpAnyH_take (i := 17) (v := ?_) rfl (by kernel_rfl) (by kernel_rfl) (by kernel_rfl) (fun _ _ _ h => h) (Or.inl ⟨by rfl, ?hy⟩) (by assumption) ?_
            case hy => (intro w hSw; (try dsimp only at hSw); go_simp; try (with_reducible rfl))
            (try simp only [List.getElem_toArray, List.getElem_cons_succ, List.getElem_cons_zero, Act.put, List.setIfInBounds_toArray, List.set_cons_zero, List.set_cons_succ])
            refine wpAnyH_take (i := 18) (v := undef) rfl (by kernel_rfl) (by kernel_rfl) (by kernel_rfl) (fun _ _ _ h => h) (Or.inr ⟨by rfl, rfl⟩) (by assumption) ?_
            (try simp only [List.getElem_toArray, List.getElem_cons_succ, List.getElem_cons_zero, Act.put, List.setIfInBounds_toArray, List.set_cons_zero, List.set_cons_succ])
            refine wpAnyH_take (i := 19) (v := undef) rfl (by kernel_rfl) (by kernel_rfl) (by kernel_rfl) (fun _ _ _ h => h) (Or.inr ⟨by rfl, rfl⟩) (by assumption) ?_
            (try simp only [List.getElem_toArray, List.getElem_cons_succ, List.getElem_cons_zero, Act.put, List.setIfInBounds_toArray, List.set_cons_zero, List.set_cons_succ])
            refine wpAnyH_take (i := 20) (v := undef) rfl (by kernel_rfl) (by kernel_rfl) (by kernel_rfl) (fun _ _ _ h => h) (Or.inr ⟨by rfl, rfl⟩) (by assumption) ?_
            (try simp only [List.getElem_toArray, List.getElem_cons_succ, List.getElem_cons_zero, Act.put, List.setIfInBounds_toArray, List.set_cons_zero, List.set_cons_succ])
            refine wpAnyH_take (i := 21) (v := ?_) rfl (by kernel_rfl) (by kernel_rfl) (by kernel_rfl) (fun _ _ _ h => h) (Or.inl ⟨by rfl, ?hy⟩) (by assumption) ?_
            case hy => (intro w hSw; (try dsimp only at hSw); go_simp; try (with_reducible rfl))
            (try simp only [List.getElem_toArray, List.getElem_cons_succ, List.getElem_cons_zero, Act.put, List.setIfInBounds_toArray, List.set_cons_zero, List.set_cons_succ])
            refine wpAnyH_take (i := 22) (v := ?_) rfl (by kernel_rfl) (by kernel_rfl) (by kernel_rfl) (fun _ _ _ h => h) (Or.inl ⟨by rfl, ?hy⟩) (by assumption) ?_
            case hy => (intro w hSw; (try dsimp only at hSw); go_simp; try (with_reducible rfl))
            (try simp only [List.getElem_toArray, List.getElem_cons_succ, List.getElem_cons_zero, Act.put, List.setIfInBounds_toArray, List.set_cons_zero, List.set_cons_succ])
            (try simp only [List.getElem_toArray, List.getElem_cons_succ, List.getElem_cons_zero, Act.put, List.setIfInBounds_toArray, List.set_cons_zero, List.set_cons_succ])
            refine wpAnyH_done (by kernel_rfl) ?_ _
            refine NoPanic.normal ?_
            all_goals ((try go_wp2_with fail); go_meet; first | exact ⟨rfl, Bz, K1, K2⟩ | exact ⟨rfl, below_drewN Bz _, Lib.hid (UsW.b K1.out (below_drewN (Below.refl _ _) _)), Lib.hid (UsW.b K2.out (below_drewN (Below.refl _ _) _))⟩)
        case rest =>
          obtain ⟨rfl, Bz, K1, K2⟩ := hcut
          clear HTm HD HEm
          obtain ⟨s0, s1, s2, s3, t0, t1, t2, t3, q0, q1, q2, q3, q4, r0, r1, r2, r3, r4⟩ := HQ.out _ Bz
          go_upto_region 7 with fail
          go_cut [96] from 69 (fun v wc => v = .bool false ∧ Below W.heap.size W wc ∧ Hid (UsW wc A3 N3 C3 LL) ∧ Hid (UsW wc A4 N4 C4 MM))
          case first =>
            clear cHs HNm g0
            cases is with
            | false =>
              have e0 : MM = [] := HEm2.out rfl
              have n0 : N4 = 0 := by have := K2.out.1; rw [e0] at this; exact this
              subst n0
              clear e0 HEm2 HF
              go_quiet (fail)
              all_goals go_wp2
              all_goals ((try go_wp2_with fail); go_meet; first | exact ⟨rfl, Bz, K1, K2⟩ | exact ⟨rfl, below_drewN Bz _, Lib.hid (UsW.b K1.out (below_drewN (Below.refl _ _) _)), Lib.hid (UsW.b K2.out (below_drewN (Below.refl _ _) _))⟩)
            | true =>
              obtain ⟨f1, f2, f3⟩ := HF.out rfl
              have f4 := HCl.out f3
              clear HF HEm2 HCl f3
              by_cases hE : E = 0
              · subst hE
                refine wp_region_noPanic ?_
                refine wp_region_held_drew (S := fun w' => w'.cell? ⟨w.heap.size, 0, none⟩ = some (.int .i64 op) ∧ w'.cell? ⟨w.heap.size, 1, none⟩ = some (.string mp) ∧ w'.cell? ⟨w.heap.size, 2, none⟩ = some (.int .i64 zp) ∧ w'.cell? ⟨w.heap.size, 3, none⟩ = some (.slice ap np cp) ∧ w'.cell? ⟨w.heap.size + 1, 0, none⟩ = some (.int .i64 ot) ∧ w'.cell? ⟨w.heap.size + 1, 1, none⟩ = some (.string mt) ∧ w'.cell? ⟨w.heap.size + 1, 2, none⟩ = some (.int .i64 zt) ∧ w'.cell? ⟨w.heap.size + 1, 3, none⟩ = some (.slice aT nt ct) ∧ w'.cell? ⟨w.heap.size + 2, 0, none⟩ = some (.int .i64 oq) ∧ w'.cell? ⟨w.heap.size + 2, 1, none⟩ = some (.string mq) ∧ w'.cell? ⟨w.heap.size + 2, 2, none⟩ = some (.string zq) ∧ w'.cell? ⟨w.heap.size + 2, 3, none⟩ = some (.slice kqa kqn kqc) ∧ w'.cell? ⟨w.heap.size + 2, 4, none⟩ = some (.slice aq nq cq) ∧ w'.cell? ⟨w.heap.size + 3, 0, none⟩ = some (.int .i64 oc) ∧ w'.cell? ⟨w.heap.size + 3, 1, none⟩ = some (.string mc) ∧ w'.cell? ⟨w.heap.size + 3, 2, none⟩ = some (.string zc) ∧ w'.cell? ⟨w.heap.size + 3, 3, none⟩ = some (.slice kca kcn kcc) ∧ w'.cell? ⟨w.heap.size + 3, 4, none⟩ = some (.slice ac nc cc)) (by kernel_rfl) (by exact HQ.out _ (Below.drew Bz)) (fun hHeld => ?_)
                have Bz := Below.drew Bz
                have K1 := Lib.hid (UsW.b K1.out (Below.refl _ _).drew)
                have K2 := Lib.hid (UsW.b K2.out (Below.refl _ _).drew)
                refine wpAnyH_take (i := 0) (v := ?_) rfl (by kernel_rfl) (by kernel_rfl) (by kernel_rfl) (fun _ _ _ h => h) (Or.inl ⟨by rfl, ?hy⟩) (by assumption) ?_
                case hy => (intro w hSw; (try dsimp only at hSw); go_simp; try (with_reducible rfl))
                (try simp only [List.getElem_toArray, List.getElem_cons_succ, List.getElem_cons_zero, Act.put, List.setIfInBounds_toArray, List.set_cons_zero, List.set_cons_succ])
                refine wpAnyH_take (i := 1) (v := ?_) rfl (by kernel_rfl) (by kernel_rfl) (by kernel_rfl) (fun _ _ _ h => h) (Or.inl ⟨by rfl, ?hy⟩) (by assumption) ?_
                case hy => (intro w hSw; (try dsimp only at hSw); go_simp; try (with_reducible rfl))
                (try simp only [List.getElem_toArray, List.getElem_cons_succ, List.getElem_cons_zero, Act.put, List.setIfInBounds_toArray, List.set_cons_zero, List.set_cons_succ])
                refine wpAnyH_take (i := 2) (v := ?_) rfl (by kernel_rfl) (by kernel_rfl) (by kernel_rfl) (fun _ _ _ h => h) (Or.inl ⟨by rfl, ?hy⟩) (by assumption) ?_
                case hy => (intro w hSw; (try dsimp only at hSw); go_simp; try (with_reducible rfl))
                (try simp only [List.getElem_toArray, List.getElem_cons_succ, List.getElem_cons_zero, Act.put, List.setIfInBounds_toArray, List.set_cons_zero, List.set_cons_succ])
                refine wpAnyH_ready (rs := [3]) (by kernel_rfl) (by simp) ?_
                refine AllReadyH.cons rfl (fun KK hKK => ?_) AllReadyH.nil
                go_simp
                (go_at_call 21; ((with_reducible refine (HR8.out _ Bz).mono ?_); rintro e wK ⟨rfl, hbK⟩; have K1 := Lib.hid (UsW.b K1.out hbK); have K2 := Lib.hid (UsW.b K2.out hbK); have Bz := bel_trans Bz hbK))
                refine hKK.out _ _ (by exact HQ.out _ Bz) (fun hHeld => ?_)
                clear hKK KK
                (try simp only [List.getElem_toArray, List.getElem_cons_succ, List.getElem_cons_zero, Act.put, List.setIfInBounds_toArray, List.set_cons_zero, List.set_cons_succ])
                refine wpAnyH_take (i := 4) (v := ?_) rfl (by kernel_rfl) (by kernel_rfl) (by kernel_rfl) (fun _ _ _ h => h) (Or.inl ⟨by rfl, ?hy⟩) (by assumption) ?_
                case hy => (intro w hSw; (try dsimp only at hSw); go_simp; try (with_reducible rfl))
                (try simp only [List.getElem_toArray, List.getElem_cons_succ, List.getElem_cons_zero, Act.put, List.setIfInBounds_toArray, List.set_cons_zero, List.set_cons_succ])
                refine wpAnyH_take (i := 5) (v := ?_) rfl (by kernel_rfl) (by kernel_rfl) (by kernel_rfl) (fun _ _ _ h => h) (Or.inl ⟨by rfl, ?hy⟩) (by assumption) ?_
                case hy => (intro w hSw; (try dsimp only at hSw); go_simp; try (with_reducible rfl))
                (try simp only [List.getElem_toArray, List.getElem_cons_succ, List.getElem_cons_zero, Act.put, List.setIfInBounds_toArray, List.set_cons_zero, List.set_cons_succ])
                refine wpAnyH_take (i := 6) (v := ?_) rfl (by kernel_rfl) (by kernel_rfl) (by kernel_rfl) (fun _ _ _ h => h) (Or.inl ⟨by rfl, ?hy⟩) (by assumption) ?_
                case hy => (intro w hSw; (try dsimp only at hSw); go_simp; try (with_reducible rfl))
                (try simp only [List.getElem_toArray, List.getElem_cons_succ, List.getElem_cons_zero, Act.put, List.setIfInBounds_toArray, List.set_cons_zero, List.set_cons_succ])
                refine wpAnyH_take (i := 7) (v := ?_) rfl (by kernel_rfl) (by kernel_rfl) (by kernel_rfl) (fun _ _ _ h => h) (Or.inl ⟨by rfl, ?hy⟩) (by assumption) ?_
                case hy => (intro w hSw; (try dsimp only at hSw); go_simp; try (with_reducible rfl))
                (try simp only [List.getElem_toArray, List.getElem_cons_succ, List.getElem_cons_zero, Act.put, List.setIfInBounds_toArray, List.set_cons_zero, List.set_cons_succ])
                refine wpAnyH_take (i := 9) (v := ?_) rfl (by kernel_rfl) (by kernel_rfl) (by kernel_rfl) (fun _ _ _ h => h) (Or.inl ⟨by rfl, ?hy⟩) (by assumption) ?_
                case hy => (intro w hSw; (try dsimp only at hSw); go_simp; try (with_reducible rfl))
                (try simp only [List.getElem_toArray, List.getElem_cons_succ, List.getElem_cons_zero, Act.put, List.setIfInBounds_toArray, List.set_cons_zero, List.set_cons_succ])
                refine wpAnyH_ready (rs := [8]) (by kernel_rfl) (by simp) ?_
                refine AllReadyH.cons rfl (fun KK hKK => ?_) AllReadyH.nil
                go_simp
                (go_at_call 23; ((with_reducible refine (f1 _ _ _ _ Bz K2.out).mono ?_); rintro e wK ⟨K50, K51, K52, A5, N5, M5, rfl, hA5, hbK⟩; have K1 := Lib.hid (UsW.b K1.out hbK); have K2 := Lib.hid (UsW.b K2.out hbK); have Bz := bel_trans Bz hbK; have K5 := Lib.hid hA5; clear hA5))
                refine hKK.out _ _ (by exact HQ.out _ Bz) (fun hHeld => ?_)
                clear hKK KK
                (try simp only [List.getElem_toArray, List.getElem_cons_succ, List.getElem_cons_zero, Act.put, List.setIfInBounds_toArray, List.set_cons_zero, List.set_cons_succ])
                refine wpAnyH_ready (rs := [10]) (by kernel_rfl) (by simp) ?_
                refine AllReadyH.cons rfl (fun KK hKK => ?_) AllReadyH.nil
                go_simp
                (go_at_call 22; ((with_reducible refine (f4 _ _ _ _ _ _ _ Bz K5.out).mono ?_); rintro e wK ⟨rfl, hbK⟩; have K1 := Lib.hid (UsW.b K1.out hbK); have K2 := Lib.hid (UsW.b K2.out hbK); have Bz := bel_trans Bz hbK))
                refine hKK.out _ _ (by exact HQ.out _ Bz) (fun hHeld => ?_)
                clear hKK KK
                (try simp only [List.getElem_toArray, List.getElem_cons_succ, List.getElem_cons_zero, Act.put, List.setIfInBounds_toArray, List.set_cons_zero, List.set_cons_succ])
                refine wpAnyH_take (i := 11) (v := ?_) rfl (by kernel_rfl) (by kernel_rfl) (by kernel_rfl) (fun _ _ _ h => h) (Or.inl ⟨by rfl, ?hy⟩) (by assumption) ?_
                case hy => (intro w hSw; (try dsimp only at hSw); go_simp; try (with_reducible rfl))
                (try simp only [List.getElem_toArray, List.getElem_cons_succ, List.getElem_cons_zero, Act.put, List.setIfInBounds_toArray, List.set_cons_zero, List.set_cons_succ])
                refine wpAnyH_take (i := 12) (v := ?_) rfl (by kernel_rfl) (by kernel_rfl) (by kernel_rfl) (fun _ _ _ h => h) (Or.inl ⟨by rfl, ?hy⟩) (by assumption) ?_
                case hy => (intro w hSw; (try dsimp only at hSw); go_simp; try (with_reducible rfl))
                (try simp only [List.getElem_toArray, List.getElem_cons_succ, List.getElem_cons_zero, Act.put, List.setIfInBounds_toArray, List.set_cons_zero, List.set_cons_succ])
                refine wpAnyH_take (i := 13) (v := ?_) rfl (by kernel_rfl) (by kernel_rfl) (by kernel_rfl) (fun _ _ _ h => h) (Or.inl ⟨by rfl, ?hy⟩) (by assumption) ?_
                case hy => (intro w hSw; (try dsimp only at hSw); go_simp; try (with_reducible rfl))
                (try simp only [List.getElem_toArray, List.getElem_cons_succ, List.getElem_cons_zero, Act.put, List.setIfInBounds_toArray, List.set_cons_zero, List.set_cons_succ])
                refine wpAnyH_take (i := 14) (v := ?_) rfl (by kernel_rfl) (by kernel_rfl) (by kernel_rfl) (fun _ _ _ h => h) (Or.inl ⟨by rfl, ?hy⟩) (by assumption) ?_
                case hy => (intro w hSw; (try dsimp only at hSw); go_simp; try (with_reducible rfl))
                (try simp only [List.getElem_toArray, List.getElem_cons_succ, List.getElem_cons_zero, Act.put, List.setIfInBounds_toArray, List.set_cons_zero, List.set_cons_succ])
                refine wpAnyH_ready (rs := [15]) (by kernel_rfl) (by simp) ?_
                refine AllReadyH.cons rfl (fun KK hKK => ?_) AllReadyH.nil
                go_simp
                (go_at_call 20; ((with_reducible refine (f2 _ _ _ _ K2.out).mono ?_); rintro e wK ⟨rfl, hbK⟩; have K1 := Lib.hid (UsW.b K1.out hbK); have K2 := Lib.hid (UsW.b K2.out hbK); have Bz := bel_trans Bz hbK))
                refine hKK.out _ _ (by exact HQ.out _ Bz) (fun hHeld => ?_)
                clear hKK KK
                (try simp only [List.getElem_toArray, List.getElem_cons_succ, List.getElem_cons_zero, Act.put, List.setIfInBounds_toArray, List.set_cons_zero, List.set_cons_succ])
                refine wpAnyH_take (i := 16) (v := ?_) rfl (by kernel_rfl) (by kernel_rfl) (by kernel_rfl) (fun _ _ _ h => h) (Or.inl ⟨by rfl, ?hy⟩) (by assumption) ?_
                case hy => (intro w hSw; (try dsimp only at hSw); go_simp; try (with_reducible rfl))
                (try simp only [List.getElem_toArray, List.getElem_cons_succ, List.getElem_cons_zero, Act.put, List.setIfInBounds_toArray, List.set_cons_zero, List.set_cons_succ])
                refine wpAnyH_take (i := 17) (v := ?_) rfl (by kernel_rfl) (by kernel_rfl) (by kernel_rfl) (fun _ _ _ h => h) (Or.inl ⟨by rfl, ?hy⟩) (by assumption) ?_
                case hy => (intro w hSw; (try dsimp only at hSw); go_simp; try (with_reducible rfl))
                (try simp only [List.getElem_toArray, List.getElem_cons_succ, List.getElem_cons_zero, Act.put, List.setIfInBounds_toArray, List.set_cons_zero, List.set_cons_succ])
                refine wpAnyH_take (i := 18) (v := ?_) rfl (by kernel_rfl) (by kernel_rfl) (by kernel_rfl) (fun _ _ _ h => h) (Or.inl ⟨by rfl, ?hy⟩) (by assumption) ?_
                case hy => (intro w hSw; (try dsimp only at hSw); go_simp; try (with_reducible rfl))
                (try simp only [List.getElem_toArray, List.getElem_cons_succ, List.getElem_cons_zero, Act.put, List.setIfInBounds_toArray, List.set_cons_zero, List.set_cons_succ])
                refine wpAnyH_take (i := 19) (v := ?_) rfl (by kernel_rfl) (by kernel_rfl) (by kernel_rfl) (fun _ _ _ h => h) (Or.inl ⟨by rfl, ?hy⟩) (by assumption) ?_
                case hy => (intro w hSw; (try dsimp only at hSw); go_simp; try (with_reducible rfl))
                (try simp only [List.getElem_toArray, List.getElem_cons_succ, List.getElem_cons_zero, Act.put, List.setIfInBounds_toArray, List.set_cons_zero, List.set_cons_succ])
                refine wpAnyH_take (i := 20) (v := ?_) rfl (by kernel_rfl) (by kernel_rfl) (by kernel_rfl) (fun _ _ _ h => h) (Or.inl ⟨by rfl, ?hy⟩) (by assumption) ?_
                case hy => (intro w hSw; (try dsimp only at hSw); go_simp; try (with_reducible rfl))
                (try simp only [List.getElem_toArray, List.getElem_cons_succ, List.getElem_cons_zero, Act.put, List.setIfInBounds_toArray, List.set_cons_zero, List.set_cons_succ])
                refine wpAnyH_take (i := 21) (v := ?_) rfl (by kernel_rfl) (by kernel_rfl) (by kernel_rfl) (fun _ _ _ h => h) (Or.inl ⟨by rfl, ?hy⟩) (by assumption) ?_
                case hy => (intro w hSw; (try dsimp only at hSw); go_simp; try (with_reducible rfl))
                (try simp only [List.getElem_toArray, List.getElem_cons_succ, List.getElem_cons_zero, Act.put, List.setIfInBounds_toArray, List.set_cons_zero, List.set_cons_succ])
                refine wpAnyH_take (i := 22) (v := ?_) rfl (by kernel_rfl) (by kernel_rfl) (by kernel_rfl) (fun _ _ _ h => h) (Or.inl ⟨by rfl, ?hy⟩) (by assumption) ?_
                case hy => (intro w hSw; (try dsimp only at hSw); go_simp; try (with_reducible rfl))
                (try simp only [List.getElem_toArray, List.getElem_cons_succ, List.getElem_cons_zero, Act.put, List.setIfInBounds_toArray, List.set_cons_zero, List.set_cons_succ])
                refine wpAnyH_take (i := 23) (v := undef) rfl (by kernel_rfl) (by kernel_rfl) (by kernel_rfl) (fun _ _ _ h => h) (Or.inr ⟨by rfl, rfl⟩) (by assumption) ?_
                (try simp only [List.getElem_toArray, List.getElem_cons_succ, List.getElem_cons_zero, Act.put, List.setIfInBounds_toArray, List.set_cons_zero, List.set_cons_succ])
                refine wpAnyH_take (i := 24) (v := undef) rfl (by kernel_rfl) (by kernel_rfl) (by kernel_rfl) (fun _ _ _ h => h) (Or.inr ⟨by rfl, rfl⟩) (by assumption) ?_
                (try simp only [List.getElem_toArray, List.getElem_cons_succ, List.getElem_cons_zero, Act.put, List.setIfInBounds_toArray, List.set_cons_zero, List.set_cons_succ])
                refine wpAnyH_take (i := 25) (v := undef) rfl (by kernel_rfl) (by kernel_rfl) (by kernel_rfl) (fun _ _ _ h => h) (Or.inr ⟨by rfl, rfl⟩) (by assumption) ?_
                (try simp only [List.getElem_toArray, List.getElem_cons_succ, List.getElem_cons_zero, Act.put, List.setIfInBounds_toArray, List.set_cons_zero, List.set_cons_succ])
                refine wpAnyH_take (i := 26) (v := ?_) rfl (by kernel_rfl) (by kernel_rfl) (by kernel_rfl) (fun _ _ _ h => h) (Or.inl ⟨by rfl, ?hy⟩) (by assumption) ?_
                case hy => (intro w hSw; (try dsimp only at hSw); go_simp; try (with_reducible rfl))
                (try simp only [List.getElem_toArray, List.getElem_cons_succ, List.getElem_cons_zero, Act.put, List.setIfInBounds_toArray, List.set_cons_zero, List.set_cons_succ])
                refine wpAnyH_take (i := 27) (v := ?_) rfl (by kernel_rfl) (by kernel_rfl) (by kernel_rfl) (fun _ _ _ h => h) (Or.inl ⟨by rfl, ?hy⟩) (by assumption) ?_
                case hy => (intro w hSw; (try dsimp only at hSw); go_simp; try (with_reducible rfl))
                (try simp only [List.getElem_toArray, List.getElem_cons_succ, List.getElem_cons_zero, Act.put, List.setIfInBounds_toArray, List.set_cons_zero, List.set_cons_succ])
                (try simp only [List.getElem_toArray, List.getElem_cons_succ, List.getElem_cons_zero, Act.put, List.setIfInBounds_toArray, List.set_cons_zero, List.set_cons_succ])
                refine wpAnyH_done (by kernel_rfl) ?_ _
                refine NoPanic.normal ?_
                all_goals ((try go_wp2_with fail); go_meet; first | exact ⟨rfl, Bz, K1, K2⟩ | exact ⟨rfl, below_drewN Bz _, Lib.hid (UsW.b K1.out (below_drewN (Below.refl _ _) _)), Lib.hid (UsW.b K2.out (below_drewN (Below.refl _ _) _))⟩)
              · have hE2 : (E == 0) = false := beq_false_of_ne hE
                clear hE f1 f4
                refine wp_region_noPanic ?_
                refine wp_region_held_drew (S := fun w' => w'.cell? ⟨w.heap.size, 0, none⟩ = some (.int .i64 op) ∧ w'.cell? ⟨w.heap.size, 1, none⟩ = some (.string mp) ∧ w'.cell? ⟨w.heap.size, 2, none⟩ = some (.int .i64 zp) ∧ w'.cell? ⟨w.heap.size, 3, none⟩ = some (.slice ap np cp) ∧ w'.cell? ⟨w.heap.size + 1, 0, none⟩ = some (.int .i64 ot) ∧ w'.cell? ⟨w.heap.size + 1, 1, none⟩ = some (.string mt) ∧ w'.cell? ⟨w.heap.size + 1, 2, none⟩ = some (.int .i64 zt) ∧ w'.cell? ⟨w.heap.size + 1, 3, none⟩ = some (.slice aT nt ct) ∧ w'.cell? ⟨w.heap.size + 2, 0, none⟩ = some (.int .i64 oq) ∧ w'.cell? ⟨w.heap.size + 2, 1, none⟩ = some (.string mq) ∧ w'.cell? ⟨w.heap.size + 2, 2, none⟩ = some (.string zq) ∧ w'.cell? ⟨w.heap.size + 2, 3, none⟩ = some (.slice kqa kqn kqc) ∧ w'.cell? ⟨w.heap.size + 2, 4, none⟩ = some (.slice aq nq cq) ∧ w'.cell? ⟨w.heap.size + 3, 0, none⟩ = some (.int .i64 oc) ∧ w'.cell? ⟨w.heap.size + 3, 1, none⟩ = some (.string mc) ∧ w'.cell? ⟨w.heap.size + 3, 2, none⟩ = some (.string zc) ∧ w'.cell? ⟨w.heap.size + 3, 3, none⟩ = some (.slice kca kcn kcc) ∧ w'.cell? ⟨w.heap.size + 3, 4, none⟩ = some (.slice ac nc cc)) (by kernel_rfl) (by exact HQ.out _ (Below.drew Bz)) (fun hHeld => ?_)
                have Bz := Below.drew Bz
                have K1 := Lib.hid (UsW.b K1.out (Below.refl _ _).drew)
                have K2 := Lib.hid (UsW.b K2.out (Below.refl _ _).drew)
                refine wpAnyH_take (i := 0) (v := ?_) rfl (by kernel_rfl) (by kernel_rfl) (by kernel_rfl) (fun _ _ _ h => h) (Or.inl ⟨by rfl, ?hy⟩) (by assumption) ?_
                case hy => (intro w hSw; (try dsimp only at hSw); go_simp; try (with_reducible rfl))
                (try simp only [List.getElem_toArray, List.getElem_cons_succ, List.getElem_cons_zero, Act.put, List.setIfInBounds_toArray, List.set_cons_zero, List.set_cons_succ])
                refine wpAnyH_take (i := 1) (v := ?_) rfl (by kernel_rfl) (by kernel_rfl) (by kernel_rfl) (fun _ _ _ h => h) (Or.inl ⟨by rfl, ?hy⟩) (by assumption) ?_
                case hy => (intro w hSw; (try dsimp only at hSw); go_simp; try (with_reducible rfl))
                (try simp only [List.getElem_toArray, List.getElem_cons_succ, List.getElem_cons_zero, Act.put, List.setIfInBounds_toArray, List.set_cons_zero, List.set_cons_succ])
                refine wpAnyH_take (i := 2) (v := ?_) rfl (by kernel_rfl) (by kernel_rfl) (by kernel_rfl) (fun _ _ _ h => h) (Or.inl ⟨by rfl, ?hy⟩) (by assumption) ?_
                case hy => (intro w hSw; (try dsimp only at hSw); go_simp; try (with_reducible rfl))
                (try simp only [List.getElem_toArray, List.getElem_cons_succ, List.getElem_cons_zero, Act.put, List.setIfInBounds_toArray, List.set_cons_zero, List.set_cons_succ])
                refine wpAnyH_ready (rs := [3]) (by kernel_rfl) (by simp) ?_
                refine AllReadyH.cons rfl (fun KK hKK => ?_) AllReadyH.nil
                go_simp
                (go_at_call 21; ((with_reducible refine (HR8.out _ Bz).mono ?_); rintro e wK ⟨rfl, hbK⟩; have K1 := Lib.hid (UsW.b K1.out hbK); have K2 := Lib.hid (UsW.b K2.out hbK); have Bz := bel_trans Bz hbK))
                refine hKK.out _ _ (by exact HQ.out _ Bz) (fun hHeld => ?_)
                clear hKK KK
                (try simp only [List.getElem_toArray, List.getElem_cons_succ, List.getElem_cons_zero, Act.put, List.setIfInBounds_toArray, List.set_cons_zero, List.set_cons_succ])
                refine wpAnyH_take (i := 4) (v := ?_) rfl (by kernel_rfl) (by kernel_rfl) (by kernel_rfl) (fun _ _ _ h => h) (Or.inl ⟨by rfl, ?hy⟩) (by assumption) ?_
                case hy => (intro w hSw; (try dsimp only at hSw); go_simp; try (with_reducible rfl))
                (try simp only [List.getElem_toArray, List.getElem_cons_succ, List.getElem_cons_zero, Act.put, List.setIfInBounds_toArray, List.set_cons_zero, List.set_cons_succ])
                refine wpAnyH_take (i := 5) (v := ?_) rfl (by kernel_rfl) (by kernel_rfl) (by kernel_rfl) (fun _ _ _ h => h) (Or.inl ⟨by rfl, ?hy⟩) (by assumption) ?_
                case hy => (intro w hSw; (try dsimp only at hSw); go_simp; try (with_reducible rfl))
                (try simp only [List.getElem_toArray, List.getElem_cons_succ, List.getElem_cons_zero, Act.put, List.setIfInBounds_toArray, List.set_cons_zero, List.set_cons_succ])
                refine wpAnyH_take (i := 6) (v := undef) rfl (by kernel_rfl) (by kernel_rfl) (by kernel_rfl) (fun _ _ _ h => h) (Or.inr ⟨by rfl, rfl⟩) (by assumption) ?_
                (try simp only [List.getElem_toArray, List.getElem_cons_succ, List.getElem_cons_zero, Act.put, List.setIfInBounds_toArray, List.set_cons_zero, List.set_cons_succ])
                refine wpAnyH_take (i := 7) (v := undef) rfl (by kernel_rfl) (by kernel_rfl) (by kernel_rfl) (fun _ _ _ h => h) (Or.inr ⟨by rfl, rfl⟩) (by assumption) ?_
                (try simp only [List.getElem_toArray, List.getElem_cons_succ, List.getElem_cons_zero, Act.put, List.setIfInBounds_toArray, List.set_cons_zero, List.set_cons_succ])
                refine wpAnyH_take (i := 8) (v := undef) rfl (by kernel_rfl) (by kernel_rfl) (by kernel_rfl) (fun _ _ _ h => h) (Or.inr ⟨by rfl, rfl⟩) (by assumption) ?_
                (try simp only [List.getElem_toArray, List.getElem_cons_succ, List.getElem_cons_zero, Act.put, List.setIfInBounds_toArray, List.set_cons_zero, List.set_cons_succ])
                refine wpAnyH_take (i := 9) (v := undef) rfl (by kernel_rfl) (by kernel_rfl) (by kernel_rfl) (fun _ _ _ h => h) (Or.inr ⟨by rfl, rfl⟩) (by assumption) ?_
                (try simp only [List.getElem_toArray, List.getElem_cons_succ, List.getElem_cons_zero, Act.put, List.setIfInBounds_toArray, List.set_cons_zero, List.set_cons_succ])
                refine wpAnyH_take (i := 10) (v := undef) rfl (by kernel_rfl) (by kernel_rfl) (by kernel_rfl) (fun _ _ _ h => h) (Or.inr ⟨by rfl, rfl⟩) (by assumption) ?_
                (try simp only [List.getElem_toArray, List.getElem_cons_succ, List.getElem_cons_zero, Act.put, List.setIfInBounds_toArray, List.set_cons_zero, List.set_cons_succ])
                refine wpAnyH_take (i := 11) (v := undef) rfl (by kernel_rfl) (by kernel_rfl) (by kernel_rfl) (fun _ _ _ h => h) (Or.inr ⟨by rfl, rfl⟩) (by assumption) ?_
                (try simp only [List.getElem_toArray, List.getElem_cons_succ, List.getElem_cons_zero, Act.put, List.setIfInBounds_toArray, List.set_cons_zero, List.set_cons_succ])
                refine wpAnyH_take (i := 12) (v := ?_) rfl (by kernel_rfl) (by kernel_rfl) (by kernel_rfl) (fun _ _ _ h => h) (Or.inl ⟨by rfl, ?hy⟩) (by assumption) ?_
                case hy => (intro w hSw; (try dsimp only at hSw); go_simp; try (with_reducible rfl))
                (try simp only [List.getElem_toArray, List.getElem_cons_succ, List.getElem_cons_zero, Act.put, List.setIfInBounds_toArray, List.set_cons_zero, List.set_cons_succ])
                refine wpAnyH_take (i := 13) (v := ?_) rfl (by kernel_rfl) (by kernel_rfl) (by kernel_rfl) (fun _ _ _ h => h) (Or.inl ⟨by rfl, ?hy⟩) (by assumption) ?_
                case hy => (intro w hSw; (try dsimp only at hSw); go_simp; try (with_reducible rfl))
                (try simp only [List.getElem_toArray, List.getElem_cons_succ, List.getElem_cons_zero, Act.put, List.setIfInBounds_toArray, List.set_cons_zero, List.set_cons_succ])
                refine wpAnyH_take (i := 14) (v := ?_) rfl (by kernel_rfl) (by kernel_rfl) (by kernel_rfl) (fun _ _ _ h => h) (Or.inl ⟨by rfl, ?hy⟩) (by assumption) ?_
                case hy => (intro w hSw; (try dsimp only at hSw); go_simp; try (with_reducible rfl))
                (try simp only [List.getElem_toArray, List.getElem_cons_succ, List.getElem_cons_zero, Act.put, List.setIfInBounds_toArray, List.set_cons_zero, List.set_cons_succ])
                refine wpAnyH_ready (rs := [15]) (by kernel_rfl) (by simp) ?_
                refine AllReadyH.cons rfl (fun KK hKK => ?_) AllReadyH.nil
                go_simp
                (go_at_call 20; ((with_reducible refine (f2 _ _ _ _ K2.out).mono ?_); rintro e wK ⟨rfl, hbK⟩; have K1 := Lib.hid (UsW.b K1.out hbK); have K2 := Lib.hid (UsW.b K2.out hbK); have Bz := bel_trans Bz hbK))
                refine hKK.out _ _ (by exact HQ.out _ Bz) (fun hHeld => ?_)
                clear hKK KK
                (try simp only [List.getElem_toArray, List.getElem_cons_succ, List.getElem_cons_zero, Act.put, List.setIfInBounds_toArray, List.set_cons_zero, List.set_cons_succ])
                refine wpAnyH_take (i := 16) (v := ?_) rfl (by kernel_rfl) (by kernel_rfl) (by kernel_rfl) (fun _ _ _ h => h) (Or.inl ⟨by rfl, ?hy⟩) (by assumption) ?_
                case hy => (intro w hSw; (try dsimp only at hSw); go_simp; try (with_reducible rfl))
                (try simp only [List.getElem_toArray, List.getElem_cons_succ, List.getElem_cons_zero, Act.put, List.setIfInBounds_toArray, List.set_cons_zero, List.set_cons_succ])
                refine wpAnyH_take (i := 17) (v := ?_) rfl (by kernel_rfl) (by kernel_rfl) (by kernel_rfl) (fun _ _ _ h => h) (Or.inl ⟨by rfl, ?hy⟩) (by assumption) ?_
                case hy => (intro w hSw; (try dsimp only at hSw); go_simp; try (with_reducible rfl))
                (try simp only [List.getElem_toArray, List.getElem_cons_succ, List.getElem_cons_zero, Act.put, List.setIfInBounds_toArray, List.set_cons_zero, List.set_cons_succ])
                refine wpAnyH_take (i := 18) (v := ?_) rfl (by kernel_rfl) (by kernel_rfl) (by kernel_rfl) (fun _ _ _ h => h) (Or.inl ⟨by rfl, ?hy⟩) (by assumption) ?_
                case hy => (intro w hSw; (try dsimp only at hSw); go_simp; try (with_reducible rfl))
                (try simp only [List.getElem_toArray, List.getElem_cons_succ, List.getElem_cons_zero, Act.put, List.setIfInBounds_toArray, List.set_cons_zero, List.set_cons_succ])
                refine wpAnyH_take (i := 19) (v := ?_) rfl (by kernel_rfl) (by kernel_rfl) (by kernel_rfl) (fun _ _ _ h => h) (Or.inl ⟨by rfl, ?hy⟩) (by assumption) ?_
                case hy => (intro w hSw; (try dsimp only at hSw); go_simp; try (with_reducible rfl))
                (try simp only [List.getElem_toArray, List.getElem_cons_succ, List.getElem_cons_zero, Act.put, List.setIfInBounds_toArray, List.set_cons_zero, List.set_cons_succ])
                refine wpAnyH_take (i := 20) (v := ?_) rfl (by kernel_rfl) (by kernel_rfl) (by kernel_rfl) (fun _ _ _ h => h) (Or.inl ⟨by rfl, ?hy⟩) (by assumption) ?_
                case hy => (intro w hSw; (try dsimp only at hSw); go_simp; try (with_reducible rfl))
                (try simp only [List.getElem_toArray, List.getElem_cons_succ, List.getElem_cons_zero, Act.put, List.setIfInBounds_toArray, List.set_cons_zero, List.set_cons_succ])
                refine wpAnyH_take (i := 21) (v := ?_) rfl (by kernel_rfl) (by kernel_rfl) (by kernel_rfl) (fun _ _ _ h => h) (Or.inl ⟨by rfl, ?hy⟩) (by assumption) ?_
                case hy => (intro w hSw; (try dsimp only at hSw); go_simp; try (with_reducible rfl))
                (try simp only [List.getElem_toArray, List.getElem_cons_succ, List.getElem_cons_zero, Act.put, List.setIfInBounds_toArray, List.set_cons_zero, List.set_cons_succ])
                refine wpAnyH_take (i := 22) (v := ?_) rfl (by kernel_rfl) (by kernel_rfl) (by kernel_rfl) (fun _ _ _ h => h) (Or.inl ⟨by rfl, ?hy⟩) (by assumption) ?_
                case hy => (intro w hSw; (try dsimp only at hSw); go_simp; try (with_reducible rfl))
                (try simp only [List.getElem_toArray, List.getElem_cons_succ, List.getElem_cons_zero, Act.put, List.setIfInBounds_toArray, List.set_cons_zero, List.set_cons_succ])
                refine wpAnyH_take (i := 23) (v := undef) rfl (by kernel_rfl) (by kernel_rfl) (by kernel_rfl) (fun _ _ _ h => h) (Or.inr ⟨by rfl, rfl⟩) (by assumption) ?_
                (try simp only [List.getElem_toArray, List.getElem_cons_succ, List.getElem_cons_zero, Act.put, List.setIfInBounds_toArray, List.set_cons_zero, List.set_cons_succ])
                refine wpAnyH_take (i := 24) (v := undef) rfl (by kernel_rfl) (by kernel_rfl) (by kernel_rfl) (fun _ _ _ h => h) (Or.inr ⟨by rfl, rfl⟩) (by assumption) ?_
                (try simp only [List.getElem_toArray, List.getElem_cons_succ, List.getElem_cons_zero, Act.put, List.setIfInBounds_toArray, List.set_cons_zero, List.set_cons_succ])
                refine wpAnyH_take (i := 25) (v := undef) rfl (by kernel_rfl) (by kernel_rfl) (by kernel_rfl) (fun _ _ _ h => h) (Or.inr ⟨by rfl, rfl⟩) (by assumption) ?_
                (try simp only [List.getElem_toArray, List.getElem_cons_succ, List.getElem_cons_zero, Act.put, List.setIfInBounds_toArray, List.set_cons_zero, List.set_cons_succ])
                refine wpAnyH_take (i := 26) (v := ?_) rfl (by kernel_rfl) (by kernel_rfl) (by kernel_rfl) (fun _ _ _ h => h) (Or.inl ⟨by rfl, ?hy⟩) (by assumption) ?_
                case hy => (intro w hSw; (try dsimp only at hSw); go_simp; try (with_reducible rfl))
                (try simp only [List.getElem_toArray, List.getElem_cons_succ, List.getElem_cons_zero, Act.put, List.setIfInBounds_toArray, List.set_cons_zero, List.set_cons_succ])
                refine wpAnyH_take (i := 27) (v := ?_) rfl (by kernel_rfl) (by kernel_rfl) (by kernel_rfl) (fun _ _ _ h => h) (Or.inl ⟨by rfl, ?hy⟩) (by assumption) ?_
                case hy => (intro w hSw; (try dsimp only at hSw); go_simp; try (with_reducible rfl))
                (try simp only [List.getElem_toArray, List.getElem_cons_succ, List.getElem_cons_zero, Act.put, List.setIfInBounds_toArray, List.set_cons_zero, List.set_cons_succ])
                (try simp only [List.getElem_toArray, List.getElem_cons_succ, List.getElem_cons_zero, Act.put, List.setIfInBounds_toArray, List.set_cons_zero, List.set_cons_succ])
                refine wpAnyH_done (by kernel_rfl) ?_ _
                refine NoPanic.normal ?_
                all_goals ((try go_wp2_with fail); go_meet; first | exact ⟨rfl, Bz, K1, K2⟩ | exact ⟨rfl, below_drewN Bz _, Lib.hid (UsW.b K1.out (below_drewN (Below.refl _ _) _)), Lib.hid (UsW.b K2.out (below_drewN (Below.refl _ _) _))⟩)
          case rest =>
            obtain ⟨rfl, Bz, K1, K2⟩ := hcut
            clear HF HCl HR8 HEm2
            go_wp2_with (first
              | (at_builtin; (refine app_first rfl (.tmp 97) (.tmp 98) rfl rfl A3 N3 C3 LL rfl K1.out (by have := HL1.out; omega) ?_); intro v1 w1 ho1 hb1; have HO1 := Lib.hid ho1; have HB1 := Lib.hid hb1; clear ho1 hb1)
              | (at_builtin; (refine app_second rfl (.tmp 99) (.tmp 100) rfl v1 LL rfl HO1.out HB1.out A4 N4 C4 MM rfl K2.out (by have := HL1.out; have := HL2.out; omega) ?_); intro AJ NJ CJ w2 hU2 hb2; have HJ := Lib.hid hU2; have B2 := bel_trans Bz hb2; have hNJ := hU2.lt63; clear hU2 hb2))
            go_loopw [103] (fun i wr0 => ∃ (wr : World) (k : Nat), wr = wr0 ∧ k ≤ NJ ∧ i = .int .i64 k ∧ Below w2.heap.size w2 wr) (fun i _ => NJ - (intOf i).toNat)
            case atStart => exact ⟨_, 0, rfl, by omega, rfl, Below.refl _ _⟩
            case round =>
              obtain ⟨wr, k, rfl, hk, rfl, hB⟩ := hrel
              by_cases hlt : k < NJ
              · obtain ⟨bb, o, x, A9, M9, C9, rfl, hb, y0, y1, y2, y3, y4, hx, hok⟩ := (UsW.b HJ.out hB).at hlt
                obtain ⟨W3, hW3, hB3, hs3, S3⟩ := ubox1 wr x.nm (opT x.t) (nameT x.t) (numT x.t) A9 M9 C9
                obtain ⟨u0, u1, u2, u3, u4⟩ := S3.five
                have hh := HNm.out x (List.mem_of_getElem? hx)
                have cH := cHs x.nm W3 (bel_trans B2 (bel_trans hB hB3))
                rw [hh] at cH
                have hk0 : 0 ≤ (k : Int) := by omega
                have hk1 : (k : Int) < (NJ : Int) := by omega
                have Bl := bel_trans hB hB3
                clear hh hx hok S3 HJ hs3
                generalize opT x.t = ox at *
                generalize nameT x.t = mx at *
                generalize numT x.t = zx at *
                generalize x.nm = nx at *
                go_wp2_with (go_at_call 12; ((with_reducible refine cH.mono ?_); rintro e wH ⟨rfl, rfl⟩))
                go_roundw
                case rel => exact ⟨_, k + 1, rfl, by omega, by go_num, Bl⟩
                case measure => simp [intOf]; omega
              · have Bz := bel_trans B2 hB
                go_wp2_with (go_at_call 15; ((with_reducible refine (g0 _).mono ?_); rintro e wY ⟨rfl, hbY⟩; have Bz := bel_trans Bz hbY))
                go_ret
                exact ⟨rfl, bel_trans hB0 Bz⟩
      · have p2 : decide (300 < wc) = true := decide_eq_true (by omega)
        rw [p2] at zC
        clear HM HTm HCl HR8 cHs HEm HEm2 p1 p2 q1 q2
        go_enter Tryz.func4, Tryz.ntmps4
        go_wp2_with (first
          | (go_at_call 14; ((with_reducible refine cF.mono ?_); rintro e wX ⟨rfl, hbX⟩; have Bz := bel_trans hBa hbX; obtain ⟨s0, s1, s2, s3, t0, t1, t2, t3, q0, q1, q2, q3, q4, r0, r1, r2, r3, r4⟩ := HQ.out _ Bz))
          | (go_at_call 6; ((with_reducible refine (zQ _ Bz).mono ?_); rintro e wX ⟨rfl, hbX⟩; have Bz := bel_trans Bz hbX; obtain ⟨s0, s1, s2, s3, t0, t1, t2, t3, q0, q1, q2, q3, q4, r0, r1, r2, r3, r4⟩ := HQ.out _ Bz))
          | (go_at_call 6; ((with_reducible refine (zC _ Bz).mono ?_); rintro e wX ⟨rfl, hbX⟩; have Bz := bel_trans Bz hbX; obtain ⟨s0, s1, s2, s3, t0, t1, t2, t3, q0, q1, q2, q3, q4, r0, r1, r2, r3, r4⟩ := HQ.out _ Bz))
          | (go_at_call 15; ((with_reducible refine (g0 _).mono ?_); rintro e wY ⟨rfl, hbY⟩; have Bz := bel_trans Bz hbY)))
        go_ret
        exact ⟨rfl, bel_trans hB0 Bz⟩
    · have p1 : decide (300 < wq) = true := decide_eq_true (by omega)
      rw [p1] at zQ
      clear HM HTm HCl HR8 zC cHs HEm HEm2 p1 q1
      go_enter Tryz.func4, Tryz.ntmps4
      go_wp2_with (first
        | (go_at_call 14; ((with_reducible refine cF.mono ?_); rintro e wX ⟨rfl, hbX⟩; have Bz := bel_trans hBa hbX; obtain ⟨s0, s1, s2, s3, t0, t1, t2, t3, q0, q1, q2, q3, q4, r0, r1, r2, r3, r4⟩ := HQ.out _ Bz))
        | (go_at_call 6; ((with_reducible refine (zQ _ Bz).mono ?_); rintro e wX ⟨rfl, hbX⟩; have Bz := bel_trans Bz hbX; obtain ⟨s0, s1, s2, s3, t0, t1, t2, t3, q0, q1, q2, q3, q4, r0, r1, r2, r3, r4⟩ := HQ.out _ Bz))
        | (go_at_call 15; ((with_reducible refine (g0 _).mono ?_); rintro e wY ⟨rfl, hbY⟩; have Bz := bel_trans Bz hbY)))
      go_ret
      exact ⟨rfl, bel_trans hB0 Bz⟩
theorem matchMakes (x y : TmV) (x2 y2 : ClV) (aX : Option Addr) (nX cX : Nat) (X : List ByteArray) (w : World) (HP : ArW w x.t x.a x.n x.c ∧ smT x.t) (HT : ArW w y.t y.a y.n y.c ∧ smT y.t) (HP2 : ArWC w x2.t x2.k x2.a x2.n x2.c ∧ smC x2.t) (HT2 : ArWC w y2.t y2.k y2.a y2.n y2.c ∧ smC y2.t) (hnX : nX ≤ 9223372036854775807) (HX : SlS w aX nX cX X ∧ sizedS X) :
    Calls Tryz.prog 4 #[x.val, y.val, x2.val, y2.val, .slice aX nX cX] w fun e w' => e = .returned (.bool true) ∧ Below w.heap.size w w' :=
  makesB X x.t y.t x.a x.n x.c y.a y.n y.c x2.t y2.t x2.k x2.a x2.n x2.c y2.k y2.a y2.n y2.c aX nX cX w HP.1 HP.2 HT.1 HP2.1 HP2.2 HT2.1 HX.1.1 hnX
end Go.Proofs.YtnhemglpbhnmdaaGreat.Mt
