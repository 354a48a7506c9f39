/-
  What is proved: package tree's walk over parts of a claim, below which lies what a closure of package claim's ends tells: each part, in preorder, is handed to the round of a loop, until a round says no more; package tree's iterator over them.
  What is proved: allC_stops (taken out of ClmV, for seats without that function).
  What is proved: what the closures of package claim tell of a claim by its Op, and what lies below it for them.
  What is proved: append of one claim to a list of claims in a cell, in a region that draws its order: what it makes, what it keeps.
  What is proved: package claim's ends: the outermost parts of a claim that its closure does not tell, in a list of the call's own.
-/
import Derived.Test.YtjjfbgadpgckeaaGreatBC
import Derived.RegionIn
import Derived.Test.YtjjfbgadpgckeaaGreatBT
namespace Go.Proofs.YtjjfbgadpgckeaaGreat.C
open Go.RowKit Go.Shelf L T
set_option linter.unusedVariables false
set_option linter.unusedSimpArgs false
attribute [local go_sem] Oper.semAt_some

/-! parts, below those that p tells by their Op alone -/
def kids (p : Int → Bool) (t : Cl) : List Cl := if p (opC t) then subC t else []
mutual
def allP (p : Int → Bool) : Cl → List Cl
  | .mk o s z ts l => .mk o s z ts l :: (if p o then allPs p l else [])
def allPs (p : Int → Bool) : List Cl → List Cl
  | [] => []
  | t :: l => allP p t ++ allPs p l
end
theorem allP_mk (p : Int → Bool) (t : Cl) : allP p t = t :: allPs p (kids p t) := by
  cases t with
  | mk o s z ts l => rw [allP]; unfold kids; show _ = _ :: allPs p (if p o then l else []); split <;> rfl
theorem allPs_app (p : Int → Bool) (l m : List Cl) : allPs p (l ++ m) = allPs p l ++ allPs p m := by
  induction l with
  | nil => rfl
  | cons t l ih => rw [List.cons_append, allPs, allPs, ih, List.append_assoc]
theorem allPs_pre {p : Int → Bool} {t : Cl} {l : List Cl} {k : Nat} (h : l[k]? = some t) : allPs p (l.take k) ++ allP p t <+: allPs p l := by
  have := allPs_app p (l.take (k + 1)) (l.drop (k + 1))
  rw [List.take_append_drop, take_c h, allPs_app] at this
  rw [this]
  have e : allPs p [t] = allP p t := by rw [allPs, allPs, List.append_nil]
  rw [e]
  exact List.prefix_append _ _
theorem kids_sub {p : Int → Bool} {t x : Cl} (h : x ∈ kids p t) : x ∈ subC t := by
  unfold kids at h
  split at h
  · exact h
  · cases h
mutual
theorem allP_len (p : Int → Bool) : ∀ t : Cl, (allP p t).length ≤ wt t
  | .mk o s z ts l => by
    rw [allP, wt, List.length_cons]
    have := allPs_len p l
    split
    · omega
    · simp; omega
theorem allPs_len (p : Int → Bool) : ∀ l : List Cl, (allPs p l).length ≤ wts l
  | [] => Nat.le_refl _
  | t :: l => by rw [allPs, wts, List.length_append]; have := allP_len p t; have := allPs_len p l; omega
end

/-! what a round keeps: what lay below n0, and every block but lists of claims and rows of several claims -/
def KeepC (W W' : World) : Prop := ∀ (k : Nat) (cs : Array Value) (t : TypeId), W.heap[k]? = some (.cells cs t (0, 0)) → t ≠ 23 → (t = 25 → cs.size = 5) → W'.heap[k]? = some (.cells cs t (0, 0))
def KpC (n0 : Nat) (W W' : World) : Prop := Below n0 W W' ∧ KeepC W W'
theorem KeepC.refl (W : World) : KeepC W W := fun k cs t h _ _ => h
theorem KeepC.trans {A B C : World} (h : KeepC A B) (k : KeepC B C) : KeepC A C := fun i cs t h0 h1 h2 => k i cs t (h i cs t h0 h1 h2) h1 h2
theorem KeepC.of_below {W W' : World} (h : Below W.heap.size W W') : KeepC W W' := fun k cs t h0 _ _ => (h.block k (Array.getElem?_eq_some_iff.1 h0).1).trans h0
theorem KpC.refl (n0 : Nat) (W : World) : KpC n0 W W := ⟨Below.refl _ _, KeepC.refl _⟩
theorem KpC.trans {n0 : Nat} {A B C : World} (h : KpC n0 A B) (k : KpC n0 B C) : KpC n0 A C := ⟨h.1.trans k.1, h.2.trans k.2⟩
theorem KpC.of_below {n0 : Nat} {W W' : World} (hn : n0 ≤ W.heap.size) (h : Below W.heap.size W W') : KpC n0 W W' := ⟨h.mono hn, KeepC.of_below h⟩
theorem KpC.obj {n0 : Nat} {w : World} (hn : n0 ≤ w.heap.size) (W : World) (l : Nat) (o o' : Obj) (hl : w.heap.size ≤ l) (h : W.heap[l]? = some o) (h1 : o.isCells = false) (h2 : o.isWalk = false) : KpC n0 W (W.putObj l o') :=
  ⟨belowK_b hn W l o o' hl h h1 h2, fun k cs t h0 _ _ => (World.putObj_heap_other (fun e => by subst e; rw [h] at h0; cases h0; cases h1)).trans h0⟩
theorem CBox.keep {W W' : World} {n0 g : Nat} {o : Int} {s z : ByteArray} {k : SS} {a : Option Addr} {n c : Nat} (h : CBox W g o s z k a n c) (hk : KpC n0 W W') : CBox W' g o s z k a n c := hk.2 g _ _ h (by decide) (fun _ => rfl)
theorem below_none {W W' : World} (h : W.grownBy W' none) : Below W.heap.size W W' := (Below.refl _ W).grown h (Nat.le_refl _) (fun k e => by cases e)

/-- a part of a claim, with where its lists lie -/
structure PtC (B : Nat) (w0 : World) where
  t : Cl
  k : SS
  a : Option Addr
  n : Nat
  c : Nat
  ok : ArC B w0 t k a n c
def encC {B : Nat} {w0 : World} (x : PtC B w0) : Array Value := #[.agg #[.int .i64 (opC x.t), .string (nmC x.t), .string (soC x.t), .slice x.k.a x.k.n x.k.c, .slice x.a x.n x.c]]
/-- what a closure of ends returns, in worlds that keep what W1 holds -/
def EndsOk (p : Int → Bool) (g : Nat) (W1 : World) : Prop :=
  ∀ (x : Cl) (k : SS) (a : Option Addr) (n c : Nat) (W : World), KeepC W1 W →
    Calls Tryz.prog 87 #[.agg #[.int .i64 (opC x), .string (nmC x), .string (soC x), .slice k.a k.n k.c, .slice a n c], .pointer (some ⟨g, 0, none⟩)] W fun e W' => e = .returned (if p (opC x) then .slice a n c else .slice none 0 0) ∧ W.grownBy W' none
theorem EndsOk.keep {p : Int → Bool} {g : Nat} {W1 W2 : World} (h : EndsOk p g W1) (hk : KeepC W1 W2) : EndsOk p g W2 := fun x k a n c W hw => h x k a n c W (hk.trans hw)
/-- what is asked of a round -/
def RoundsC (B : Nat) (w0 : World) (l N : Nat) (J Jx : List (PtC B w0) → World → Prop) : Prop :=
  ∀ m pre x W, J pre W → pre.length < N → YieldAt Fence.wide m Tryz.prog l (encC x) W fun e W' =>
    (e = .returned (.bool true) ∧ J (pre ++ [x]) W' ∧ KpC B W W') ∨ (e = .returned (.bool false) ∧ Jx (pre ++ [x]) W')
/-- the walk, at this claim -/
def VisitOkC (p : Int → Bool) (g B : Nat) (w0 : World) (l N : Nat) (J Jx : List (PtC B w0) → World → Prop) (t : Cl) : Prop :=
  ∀ (n : Nat) (k : SS) (a : Option Addr) (m c : Nat) (pre : List (PtC B w0)) (W : World), EndsOk p g W → ArC B w0 t k a m c → Below B w0 W → B ≤ W.heap.size → J pre W → pre.length + (allP p t).length ≤ N →
    CallsIn Fence.wide n Tryz.prog 98 #[.agg #[.int .i64 (opC t), .string (nmC t), .string (soC t), .slice k.a k.n k.c, .slice a m c], .func (.func 87) #[] #[.pointer (some ⟨g, 0, none⟩)], .func (.yield l) #[] #[]] W fun e W' =>
      (e = .returned (.bool true) ∧ (∃ ys, ys.map PtC.t = allP p t ∧ J (pre ++ ys) W') ∧ KpC B W W') ∨ (e = .returned (.bool false) ∧ ∃ q, q.map PtC.t <+: allP p t ∧ Jx (pre ++ q) W')

set_option maxRecDepth 100000 in
set_option maxHeartbeats 4000000 in
theorem visitC_step (p : Int → Bool) (g B : Nat) (w0 : World) (l N : Nat) (J Jx : List (PtC B w0) → World → Prop) (b0 : Nat) (hJ : AbidesFrom b0 J) (hY : RoundsC B w0 l N J Jx) (t : Cl) (hok : ∀ x ∈ subC t, VisitOkC p g B w0 l N J Jx x) : VisitOkC p g B w0 l N J Jx t := by
  intro n k a m c pre W hE hA hB hBW hJ0 hN
  obtain ⟨W2, hW2, hB2, hs2, S2⟩ := cbox1 W (opC t) (nmC t) (soC t) k a m c
  have hJ2 : J pre W2 := by rw [← hW2]; exact hJ pre W _ none hJ0 (World.grownBy_alloc W _ none) (fun r e => by cases e)
  have hE2 := hE.keep (KeepC.of_below hB2)
  have hp : 0 < (allP p t).length := by rw [allP_mk]; simp
  obtain ⟨fn, tmps, assign, body, hy, hR⟩ := hY (n - 1) pre ⟨t, k, a, m, c, hA⟩ W2 hJ2 (by omega)
  dsimp only [encC] at hy
  obtain ⟨s0, s1, s2, s3, s4⟩ := S2.five
  have hKW : KpC B W W2 := KpC.of_below hBW hB2
  have hB02 : Below B w0 W2 := hB.trans hKW.1
  -- what lies below it, as the closure tells
  obtain ⟨a', m', c', hv, hT⟩ : ∃ a' m' c', (if p (opC t) then Value.slice a m c else .slice none 0 0) = .slice a' m' c' ∧ IsC B w0 a' m' c' (kids p t) := by
    unfold kids
    by_cases h : p (opC t) = true
    · rw [if_pos h, if_pos h]; exact ⟨a, m, c, rfl, (ar_isC.1 hA).2⟩
    · rw [if_neg h, if_neg h]; exact ⟨none, 0, 0, rfl, rfl, Nat.le_refl _, Nat.zero_le _, fun _ => rfl, fun h => absurd h (by omega)⟩
  have cE := fun (W' : World) (hk : KeepC W2 W') => hE2 t k a m c W' hk
  rw [hv] at cE
  have hok' : ∀ x ∈ kids p t, VisitOkC p g B w0 l N J Jx x := fun x hx => hok x (kids_sub hx)
  have hsz : (allP p t).length = 1 + (allPs p (kids p t)).length := by rw [allP_mk, List.length_cons]; omega
  rw [allP_mk]
  clear hok hv
  refine callsIn_of_wp Tryz.func98 rfl trivial ?_ rfl
  simp only [Tryz.ntmps98, List.size_toArray, List.length_cons, List.length_nil, Nat.reduceAdd, Nat.reduceSub, Array.replicate_succ, Array.replicate_zero, List.push_toArray, List.append_toArray, List.nil_append, List.cons_append]
  have hdd : ∀ k : Nat, (Fence.wide.depth.isSome = true → 1 ≤ k) := fun k h => by cases h
  gi_wp2_with (first
    | ((try refine ⟨hdd _, ?_⟩); refine hR.mono ?_; clear hR; rintro e W3 (⟨rfl, hJ3, hk3⟩ | ⟨rfl, hx3⟩); all_goals (try (have hk3' := hk3; obtain ⟨u0, u1, u2, u3, u4⟩ := (S2.keep hk3).five)))
    | ((try refine ⟨trivial, ?_⟩); (try refine ⟨hdd _, ?_⟩); gi_at_call 87; refine (callsIn_wide.2 (cE W3 hk3.2)).mono ?_; rintro e W3b ⟨rfl, hW3b⟩; have hW3c := Lib.hid hW3b; clear hW3b))
  · have hJ3b : J (pre ++ [⟨t, k, a, m, c, hA⟩]) W3b := hJ _ W3 _ none hJ3 hW3c.out (fun r e => by cases e)
    have hK3b : KpC B W3 W3b := KpC.of_below (Nat.le_trans hBW (hKW.trans hk3).1.size) (below_none hW3c.out)
    have hE3 := Lib.hid (hE2.keep (hk3.2.trans hK3b.2))
    clear hJ3 hW3c
    have hJ3 := hJ3b
    have hK3 := (hKW.trans hk3).trans hK3b
    clear hJ3b
    have hn : m' ≤ 9223372036854775807 := by have h1 := hT.2.1; have h2 := hT.2.2.1; unfold maxLen at h2; omega
    have hW3 : B ≤ W3b.heap.size := Nat.le_trans hBW hK3.1.size
    have HT := Lib.hid hT
    have HJ := Lib.hid hJ
    have HK := Lib.hid (show ∀ k x, (kids p t)[k]? = some x → VisitOkC p g B w0 l N J Jx x from fun k x h => hok' x (List.mem_of_getElem? h))
    have H0 : Hid (∃ ys : List (PtC B w0), ys.map PtC.t = t :: allPs p ((kids p t).take 0) ∧ J (pre ++ ys) W3b) := ⟨[⟨t, k, a, m, c, hA⟩], rfl, hJ3⟩
    clear hT hJ hok' hJ3 hy hW2 s0 s1 s2 s3 s4 u0 u1 u2 u3 u4 S2 hJ2 hJ0 hY hK3b hE hE2 cE
    generalize hla : kids p t = la at *
    have HLa := Lib.hid hla
    clear hla
    generalize opC t = op at *
    generalize nmC t = nm at *
    generalize soC t = nu at *
    gi_loopw [17] (fun i wr0 => ∃ (wr : World) (k : Nat), wr = wr0 ∧ k ≤ m' ∧ i = .int .i64 k ∧ KpC B W3b wr ∧ Hid (∃ ys : List (PtC B w0), ys.map PtC.t = t :: allPs p (la.take k) ∧ J (pre ++ ys) wr)) (fun i _ => m' - (intOf i).toNat)
    case atStart => exact ⟨_, 0, rfl, by omega, rfl, KpC.refl _ _, H0⟩
    case round =>
      obtain ⟨wr, i, rfl, hk, rfl, hKr, hR⟩ := hrel
      have hBr : Below B w0 wr := (hB.trans hK3.1).trans hKr.1
      have hBs : B ≤ wr.heap.size := Nat.le_trans hW3 hKr.1.size
      by_cases hlt : i < m'
      · obtain ⟨bb, o, x, kk, A, M, Cc, rfl, hb, z0, z1, z2, z3, z4, hx, hok⟩ := HT.out.at hlt
        have y0 := (hBr.cell (p := ⟨bb, _, none⟩) hb).trans z0
        have y1 := (hBr.cell (p := ⟨bb, _, none⟩) hb).trans z1
        have y2 := (hBr.cell (p := ⟨bb, _, none⟩) hb).trans z2
        have y3 := (hBr.cell (p := ⟨bb, _, none⟩) hb).trans z3
        have y4 := (hBr.cell (p := ⟨bb, _, none⟩) hb).trans z4
        obtain ⟨ys, hys, hJr⟩ := hR.out
        have hlen : ys.length = 1 + (allPs p (la.take i)).length := by
          have := congrArg List.length hys
          rw [List.length_map, List.length_cons] at this
          omega
        have hpre := allPs_pre (p := p) hx
        have hlts : (allPs p (la.take i)).length + (allP p x).length ≤ (allPs p la).length := by
          have := hpre.length_le
          rwa [List.length_append] at this
        obtain ⟨W4, hW4, hB4, hs4, S4⟩ := cbox1 wr (opC x) (nmC x) (soC x) kk A M Cc
        have hJ4 : J (pre ++ ys) W4 := by rw [← hW4]; exact HJ.out _ wr _ none hJr (World.grownBy_alloc wr _ none) (fun r e => by cases e)
        have hK4 : KpC B wr W4 := KpC.of_below hBs hB4
        have cv := HK.out i x hx (n - 1) kk A M Cc (pre ++ ys) W4 (hE3.out.keep (hKr.2.trans hK4.2)) hok (hBr.trans hK4.1) (Nat.le_trans hBs hK4.1.size) hJ4 (by rw [List.length_append]; omega)
        obtain ⟨f0, f1, f2, f3, f4⟩ := S4.five
        have htk := take_c hx
        clear z0 z1 z2 z3 z4 hok hR HK HT HJ S4
        have Hx := Lib.hid hx
        have Hys := Lib.hid hys
        have Hpre := Lib.hid hpre
        have Htk := Lib.hid htk
        clear hx hys hpre htk hJr hJ4
        generalize opC x = op' at *
        generalize nmC x = nm' at *
        generalize soC x = nu' at *
        have hk0 : 0 ≤ (i : Int) := by omega
        have hk1 : (i : Int) < (m' : Int) := by omega
        gi_wp2_with ((try refine ⟨trivial, ?_⟩); (try refine ⟨hdd _, ?_⟩); gi_at_call 98; refine cv.mono ?_; clear cv; rintro e W5 (⟨rfl, hz, hk5⟩ | ⟨rfl, hq⟩); all_goals (first | (have Hz := Lib.hid hz; clear hz) | (have Hq := Lib.hid hq; clear hq)))
        · go_roundw
          case rel => exact ⟨_, i + 1, rfl, by omega, by go_num, (hKr.trans hK4).trans hk5, by
            obtain ⟨zs, h1, h2⟩ := Hz.out
            refine ⟨ys ++ zs, ?_, by rw [← List.append_assoc]; exact h2⟩
            rw [List.map_append, Hys.out, h1, Htk.out, allPs_app, List.cons_append]
            rw [show allPs p [x] = allP p x by rw [allPs, allPs, List.append_nil]]⟩
          case measure => simp [intOf]; omega
        · go_ret
          refine .inr ⟨rfl, ?_⟩
          rw [HLa.out]
          obtain ⟨q, h1, h2⟩ := Hq.out
          refine ⟨ys ++ q, ?_, by rw [← List.append_assoc]; exact h2⟩
          rw [List.map_append, Hys.out, List.cons_append]
          obtain ⟨r1, h3⟩ := h1
          obtain ⟨r2, h4⟩ := Hpre.out
          exact ⟨r1 ++ r2, by rw [← h4, ← h3]; simp⟩
      · obtain rfl : i = m' := by omega
        have hR2 : Hid (∃ ys : List (PtC B w0), ys.map PtC.t = t :: allPs p la ∧ J (pre ++ ys) wr) := by
          obtain ⟨ys, h1, h2⟩ := hR.out
          exact ⟨ys, by rw [h1, List.take_of_length_le (by have := HT.out.1; omega)], h2⟩
        clear hR
        gi_wp2
        go_ret
        exact .inl ⟨rfl, by rw [HLa.out]; exact hR2.out, hK3.trans hKr⟩
  · go_ret
    exact .inr ⟨rfl, [⟨t, k, a, m, c, hA⟩], ⟨_, by rw [List.map_singleton, List.singleton_append]⟩, hx3⟩
theorem visitC_any (p : Int → Bool) (g B : Nat) (w0 : World) (l N : Nat) (J Jx : List (PtC B w0) → World → Prop) (b0 : Nat) (hJ : AbidesFrom b0 J) (hY : RoundsC B w0 l N J Jx) (t : Cl) : VisitOkC p g B w0 l N J Jx t :=
  Cl.ind (visitC_step p g B w0 l N J Jx b0 hJ hY) t
theorem yieldC_any {m : Nat} (m' : Nat) {P : Program} {l : Nat} {args : Array Value} {W : World} {R : Ending → World → Prop} (h : YieldAt Fence.wide m P l args W R) : YieldAt Fence.wide m' P l args W R := yield_any rfl m' h

theorem tallC_any (o : Int) (s z : ByteArray) (k : SS) (a : Option Addr) (n c g : Nat) (w : World) :
    Calls Tryz.prog 60 #[.agg #[.int .i64 o, .string s, .string z, .slice k.a k.n k.c, .slice a n c], .func (.func 87) #[] #[.pointer (some ⟨g, 0, none⟩)]] w fun e w' => e = .returned (.func (.func 97) #[] #[.pointer (some ⟨w.heap.size, 0, none⟩), .pointer (some ⟨w.heap.size + 1, 0, none⟩)]) ∧ w' = (w.alloc (.cells #[.int .i64 o, .string s, .string z, .slice k.a k.n k.c, .slice a n c] 25)).alloc (.cells #[.func (.func 87) #[] #[.pointer (some ⟨g, 0, none⟩)]] 55) := by
  go_enter Tryz.func60, Tryz.ntmps60
  go_wp2
  go_ret
  exact ⟨rfl, rfl⟩
end Go.Proofs.YtjjfbgadpgckeaaGreat.C
namespace Go.Proofs.YtjjfbgadpgckeaaGreat.C
open Go.RowKit Go.Shelf L T
set_option linter.unusedVariables false
set_option linter.unusedSimpArgs false
attribute [local go_sem] Oper.semAt_some

set_option maxHeartbeats 2000000 in
theorem allC_stops (n : Nat) (p : Int → Bool) (gi B g g2 : Nat) (w0 w : World) (t : Cl) (k : SS) (a : Option Addr) (m c : Nat) (hE : EndsOk p gi w) (hA : ArC B w0 t k a m c) (hB : Below B w0 w) (hBw : B ≤ w.heap.size) (hT : CBox w g (opC t) (nmC t) (soC t) k a m c) (hF : Blk w g2 #[.func (.func 87) #[] #[.pointer (some ⟨gi, 0, none⟩)]] 55) :
    SeqStopsK Fence.wide n Tryz.prog 97 #[.pointer (some ⟨g, 0, none⟩), .pointer (some ⟨g2, 0, none⟩)] (encC (B := B) (w0 := w0)) (KpC B) (fun ys => ys.map PtC.t = allP p t) (fun pre => pre.map PtC.t <+: allP p t) (allP p t).length w := fun l J Jx W hW hJ hJx hY h0 => by
  have hY2 : RoundsC B w0 l (allP p t).length J Jx := fun m pre x W hj hl => yield_any rfl m (hY pre x W hj hl)
  have hv := visitC_any p gi B w0 l (allP p t).length J Jx _ hJ hY2 t (n - 1) k a m c [] W (hE.keep (KeepC.of_below hW)) hA (hB.trans (hW.mono hBw)) (Nat.le_trans hBw hW.size) h0 (by simp)
  obtain ⟨t0, t1, t2, t3, t4⟩ := (CBox.b hT hW).five
  have f0 := Blk.cell (Blk.below hF hW) 0
  have hdd : ∀ k : Nat, (Fence.wide.depth.isSome = true → 1 ≤ k) := fun k h => by cases h
  clear hY hY2 hT hA hJ hJx h0 hF hE
  refine callsIn_of_wp Tryz.func97 rfl trivial ?_ rfl
  simp only [Tryz.ntmps97, List.size_toArray, List.length_cons, List.length_nil, Nat.reduceAdd, Nat.reduceSub, Array.replicate_succ, Array.replicate_zero, List.push_toArray, List.append_toArray, List.nil_append, List.cons_append]
  gi_wp2_with ((try refine ⟨trivial, ?_⟩); (try refine ⟨hdd _, ?_⟩); gi_at_call 98; refine hv.mono ?_; clear hv; rintro e W5 (⟨rfl, hz, hk5⟩ | ⟨rfl, hq⟩); all_goals (first | (have Hz := Lib.hid hz; clear hz) | (have Hq := Lib.hid hq; clear hq)))
  · go_end0
    obtain ⟨ys, h1, h2⟩ := Hz.out
    exact ⟨⟨_, rfl⟩, .inl ⟨ys, h1, by simpa using h2⟩⟩
  · go_end0
    obtain ⟨ys, h1, h2⟩ := Hq.out
    exact ⟨⟨_, rfl⟩, .inr ⟨ys, h1, by simpa using h2⟩⟩
end Go.Proofs.YtjjfbgadpgckeaaGreat.C
namespace Go.Proofs.YtjjfbgadpgckeaaGreat.C
open Go.RowKit Go.Shelf L T
set_option linter.unusedVariables false
set_option linter.unusedSimpArgs false

/-- what a closure that tells by the Op returns, in worlds that keep what W1 holds -/
def InnOk (p : Int → Bool) (F : Nat) (caps : Array Value) (W1 : World) : Prop :=
  ∀ (x : Cl) (k : SS) (a : Option Addr) (n c : Nat) (W : World), KeepC W1 W →
    Calls Tryz.prog F (#[.agg #[.int .i64 (opC x), .string (nmC x), .string (soC x), .slice k.a k.n k.c, .slice a n c]] ++ caps) W fun e W' => e = .returned (.bool (p (opC x))) ∧ W.grownBy W' none
theorem InnOk.keep {p : Int → Bool} {F : Nat} {caps : Array Value} {W1 W2 : World} (h : InnOk p F caps W1) (hk : KeepC W1 W2) : InnOk p F caps W2 := fun x k a n c W hw => h x k a n c W (hk.trans hw)
def conP (o : Int) : Bool := decide (6 ≤ o) && decide (o ≤ 10)
def flatP (q o : Int) : Bool := (o == q) && ((q == 7) || (q == 8))
theorem gr_none_alloc (W : World) (o : Obj) : W.grownBy (W.alloc o) none := World.grownBy_alloc W o none
set_option maxRecDepth 100000 in
set_option maxHeartbeats 4000000 in
theorem con_ok (W1 : World) : InnOk conP 50 #[] W1 := fun x k a n c W hk => by
  obtain ⟨W2, hW2, hB2, hs2, S2⟩ := cbox1 W (opC x) (nmC x) (soC x) k a n c
  have hg : W.grownBy W2 none := by rw [← hW2]; exact gr_none_alloc _ _
  obtain ⟨s0, s1, s2, s3, s4⟩ := S2.five
  clear S2
  generalize opC x = op at *
  generalize nmC x = nm at *
  generalize soC x = so at *
  unfold conP
  show Calls _ _ #[_] _ _
  rw [show decide (6 ≤ op) = decide (op ≥ 6) from rfl]
  cases h1 : decide (op ≥ 6) <;> cases h2 : decide (op ≤ 10)
  all_goals
    go_enter Tryz.func50, Tryz.ntmps50
    go_wp2
    go_ret
    exact ⟨rfl, hg⟩
set_option maxRecDepth 100000 in
set_option maxHeartbeats 4000000 in
theorem flat_ok (q : Int) (g : Nat) (W1 : World) (hg1 : Blk W1 g #[.int .i64 q] 3) : InnOk (flatP q) 58 #[.pointer (some ⟨g, 0, none⟩)] W1 := fun x k a n c W hk => by
  obtain ⟨W2, hW2, hB2, hs2, S2⟩ := cbox1 W (opC x) (nmC x) (soC x) k a n c
  have hg : W.grownBy W2 none := by rw [← hW2]; exact gr_none_alloc _ _
  have hb : Blk W g #[.int .i64 q] 3 := hk g _ _ hg1 (by decide) (fun h => absurd h (by decide))
  have g0 := Blk.cell (Blk.below hb hB2) 0
  obtain ⟨s0, s1, s2, s3, s4⟩ := S2.five
  clear S2 hg1 hb
  generalize opC x = op at *
  generalize nmC x = nm at *
  generalize soC x = so at *
  unfold flatP
  show Calls _ _ #[_, _] _ _
  by_cases h1 : op = q
  · subst h1
    by_cases h7 : op = 7
    · subst h7
      go_enter Tryz.func58, Tryz.ntmps58
      go_wp2
      go_ret
      exact ⟨oneB (by decide), hg⟩
    · by_cases h8 : op = 8
      · subst h8
        go_enter Tryz.func58, Tryz.ntmps58
        go_wp2
        go_ret
        exact ⟨oneB (by decide), hg⟩
      · have e7 : (op == 7) = false := by simpa using h7
        have e8 : (op == 8) = false := by simpa using h8
        go_enter Tryz.func58, Tryz.ntmps58
        go_wp2
        go_ret
        exact ⟨oneB (by simp [h7, h8]), hg⟩
  · have e1 : (op == q) = false := by simpa using h1
    go_enter Tryz.func58, Tryz.ntmps58
    go_wp2
    go_ret
    exact ⟨oneB (by simp [h1]), hg⟩
set_option maxRecDepth 100000 in
set_option maxHeartbeats 4000000 in
theorem ends1_con (p : Int → Bool) (g : Nat) (W1 : World) (hg1 : Blk W1 g #[.func (.func 50) #[] #[]] 31) (hI : InnOk p 50 #[] W1) : EndsOk p g W1 := fun x k a n c W hk => by
  obtain ⟨W2, hW2, hB2, hs2, S2⟩ := cbox1 W (opC x) (nmC x) (soC x) k a n c
  have hg : W.grownBy W2 none := by rw [← hW2]; exact gr_none_alloc _ _
  have hb : Blk W g #[.func (.func 50) #[] #[]] 31 := hk g _ _ hg1 (by decide) (fun h => absurd h (by decide))
  have g0 := Blk.cell (Blk.below hb hB2) 0
  have cI := hI x k a n c W2 (hk.trans (KeepC.of_below hB2))
  change Calls _ _ #[_] _ _ at cI
  obtain ⟨s0, s1, s2, s3, s4⟩ := S2.five
  have HS := Lib.hid S2
  clear S2 hg1 hb hI
  generalize p (opC x) = b at *
  generalize opC x = op at *
  generalize nmC x = nm at *
  generalize soC x = so at *
  cases b
  all_goals
    go_enter Tryz.func87, Tryz.ntmps87
    go_wp2_with (first | (go_at_call 50; ((with_reducible refine cI.mono ?_); rintro e w3 ⟨rfl, hg3⟩; obtain ⟨u0, u1, u2, u3, u4⟩ := (CBox.b HS.out (below_none hg3)).five)))
    go_ret
    exact ⟨rfl, hg.trans hg3⟩
set_option maxRecDepth 100000 in
set_option maxHeartbeats 4000000 in
theorem ends1_flat (p : Int → Bool) (g0' : Nat) (g : Nat) (W1 : World) (hg1 : Blk W1 g #[.func (.func 58) #[] #[.pointer (some ⟨g0', 0, none⟩)]] 31) (hI : InnOk p 58 #[.pointer (some ⟨g0', 0, none⟩)] W1) : EndsOk p g W1 := fun x k a n c W hk => by
  obtain ⟨W2, hW2, hB2, hs2, S2⟩ := cbox1 W (opC x) (nmC x) (soC x) k a n c
  have hg : W.grownBy W2 none := by rw [← hW2]; exact gr_none_alloc _ _
  have hb : Blk W g #[.func (.func 58) #[] #[.pointer (some ⟨g0', 0, none⟩)]] 31 := hk g _ _ hg1 (by decide) (fun h => absurd h (by decide))
  have g0 := Blk.cell (Blk.below hb hB2) 0
  have cI := hI x k a n c W2 (hk.trans (KeepC.of_below hB2))
  change Calls _ _ #[_, .pointer (some ⟨g0', 0, none⟩)] _ _ at cI
  obtain ⟨s0, s1, s2, s3, s4⟩ := S2.five
  have HS := Lib.hid S2
  clear S2 hg1 hb hI
  generalize p (opC x) = b at *
  generalize opC x = op at *
  generalize nmC x = nm at *
  generalize soC x = so at *
  cases b
  all_goals
    go_enter Tryz.func87, Tryz.ntmps87
    go_wp2_with (first | (go_at_call 58; ((with_reducible refine cI.mono ?_); rintro e w3 ⟨rfl, hg3⟩; obtain ⟨u0, u1, u2, u3, u4⟩ := (CBox.b HS.out (below_none hg3)).five)))
    go_ret
    exact ⟨rfl, hg.trans hg3⟩
end Go.Proofs.YtjjfbgadpgckeaaGreat.C
namespace Go.Proofs.YtjjfbgadpgckeaaGreat.C
open Go.RowKit Go.Shelf L T
set_option linter.unusedVariables false
set_option linter.unusedSimpArgs false
attribute [local go_sem] Oper.semAt_some

/-- append(s, zero) to a row of the call's own: blocks that hold one term lie as they lay -/
theorem append_zeroC (Wz : World) (base : Nat) (v : Value) (hs : List Hc) (ho : OwnC Wz base v hs) (hnil : v = .slice none 0 0 ↔ hs = []) (hbase : base ≤ Wz.heap.size) (hn : hs.length < 1000000) (z : Nat)
    (hz : ∀ j u, (flatC [Hc.zero])[j]? = some u → Wz.cell? ((⟨z, 0, none⟩ : Addr).add j) = some u) :
    ∃ g cap W4, (∀ ty, (Builtin.append_ #[23, 23] ty #[v, .slice (some ⟨z, 0, none⟩) 1 1]).run Tryz.prog Wz = .ok (.slice (some ⟨g, 0, none⟩) (hs.length + 1) cap) W4) ∧
      OwnC W4 base (.slice (some ⟨g, 0, none⟩) (hs.length + 1) cap) (hs ++ [Hc.zero]) ∧ Wz.grownBy W4 v.ownBlock ∧ KeepC Wz W4 ∧ (Wz.heap.size ≤ g ∨ ∃ cur, Wz.heap[g]? = some (.cells cur 25 (0, 0)) ∧ cur.size ≠ 5) := by
  obtain ⟨i0, hi, hz0, hz1, hz2⟩ := info_parts claimI
  obtain ⟨v', W4, hr, h1, h2, h3⟩ := run_append_own (P := Tryz.prog) Wz base 23 23 25 i0 _ 5 88 Tryz.underlying23 hi hz0 hz1 hz2 rfl (by decide) v hs.length (flatC hs) ho ⟨z, 0, none⟩ 1 1 (flatC [Hc.zero]) (by rw [flatC_len]; rfl) hz (hc_one _) (by unfold maxLen; omega) (by omega) hbase
  have ho4 : OwnC W4 base v' (hs ++ [Hc.zero]) := by
    unfold OwnC
    rw [List.length_append, flatC_app]
    exact h1
  obtain ⟨A', c', hv', _, _, _, hA⟩ := ho4.slice
  obtain ⟨g, hg, _, hgl⟩ := hA (by simp)
  subst hg
  have hv2 : v' = .slice (some ⟨g, 0, none⟩) (hs.length + 1) c' := by rw [hv']; simp
  subst hv2
  have hrun : ∀ ty, (Builtin.append_ #[23, 23] ty #[v, .slice (some ⟨z, 0, none⟩) 1 1]).run Tryz.prog Wz = .ok (.slice (some ⟨g, 0, none⟩) (hs.length + 1) c') W4 := fun ty => by
    obtain ⟨v2, W5, hr2, _⟩ := run_append_own (P := Tryz.prog) Wz base 23 ty 25 i0 _ 5 88 Tryz.underlying23 hi hz0 hz1 hz2 rfl (by decide) v hs.length (flatC hs) ho ⟨z, 0, none⟩ 1 1 (flatC [Hc.zero]) (by rw [flatC_len]; rfl) hz (hc_one _) (by unfold maxLen; omega) (by omega) hbase
    exact hr
  refine ⟨g, c', W4, hrun, ho4, h2, ?_⟩
  rcases ho.2 with ⟨rfl, hz1'⟩ | ⟨g0, cap, cur, rfl, hb, hg0, hnc, hcm, hcs, ht⟩
  · have hgn : Wz.heap.size ≤ g := by
      rcases Nat.lt_or_ge g Wz.heap.size with hlt | hge
      · exfalso
        have hrn := run_append_nil (P := Tryz.prog) Wz 23 23 25 i0 _ Tryz.underlying23 hi hz0 ⟨z, 0, none⟩ 1 1 (flatC [Hc.zero]) (by rw [flatC_len, hz1]; rfl) hz (by omega) (by omega) (by rw [hz2]; decide)
        rw [hr] at hrn
        injection hrn with e1 e2
        injection e1 with e1
        injection e1 with e1
        injection e1 with e1
        omega
      · exact hge
    exact ⟨fun k cs t hk ht hc => (h2.block k (Array.getElem?_eq_some_iff.1 hk).1 (by simp [Value.ownBlock])).trans hk, .inl hgn⟩
  · have hne : hs ≠ [] := fun e => by have := hnil.2 e; cases this
    have hpos : 0 < hs.length := List.length_pos_iff.2 hne
    by_cases hroom : hs.length + 1 ≤ cap
    · have hcur : cur.size ≠ 5 := by omega
      have hkC : KeepC Wz W4 := fun k cs t hk ht hc => (h2.block k (Array.getElem?_eq_some_iff.1 hk).1 (fun e => by
        have e' : k = g0 := by simpa [Value.ownBlock] using e
        subst e'
        rw [hg0] at hk
        injection hk with hk
        injection hk with e1 e2 e3
        subst e1 e2
        exact hcur (hc rfl))).trans hk
      refine ⟨hkC, ?_⟩
      rcases Nat.lt_or_ge g Wz.heap.size with hlt | hge
      · have hrr := run_append_room (P := Tryz.prog) Wz 23 23 25 i0 Tryz.underlying23 hi g0 hs.length cap cur hg0 ⟨z, 0, none⟩ 1 1 (flatC [Hc.zero]) (by rw [flatC_len, hz1]; rfl) hz (hc_one _) hroom (by rw [hz1, flatC_len]; simp; omega)
        rw [hr] at hrr
        injection hrr with e1 e2
        injection e1 with e1
        injection e1 with e1
        injection e1 with e1
        subst e1
        exact .inr ⟨cur, hg0, hcur⟩
      · exact .inl hge
    · have holds : ∀ j u, (flatC hs)[j]? = some u → Wz.cell? ((⟨g0, 0, none⟩ : Addr).add j) = some u := World.ownsRow.cells (g := g0) ho rfl
      have hrg := run_append_grow (P := Tryz.prog) Wz 23 23 25 i0 _ Tryz.underlying23 hi hz0 ⟨g0, 0, none⟩ hs.length cap (flatC hs) (by rw [flatC_len, hz1]) holds ⟨z, 0, none⟩ 1 1 (flatC [Hc.zero]) (by rw [flatC_len, hz1]; rfl) hz (by omega) (by omega) (growslice_fits (by omega) (by rw [hz2]; omega))
      rw [hr] at hrg
      injection hrg with e1 e2
      injection e1 with e1
      injection e1 with e1
      injection e1 with e1
      refine ⟨?_, .inl (by omega)⟩
      rw [e2]
      exact KeepC.of_below (bel_alloc (Below.refl _ _).drew _)
def hcP {B : Nat} {w0 : World} (x : PtC B w0) : Hc := hcOf x.t x.k x.a x.n x.c
/-- a cell that holds a list of claims of the call's own, which lies behind it -/
def ColC (bs : Nat) (hs : List Hc) (W : World) : Prop := ∃ v, Blk W bs #[v] 23 ∧ OwnC W (bs + 1) v hs ∧ (v = .slice none 0 0 ↔ hs = [])
theorem colC_own {β : Type} (bs : Nat) (f : β → List Hc) : Own (fun (pre : β) W => ColC bs (f pre) W) := fun pre X Y row hs hg hr => by
  obtain ⟨v, h1, h2, h3⟩ := hs
  refine ⟨v, own_blk bs _ _ () X Y row h1 hg hr, World.ownsRow.kept h2 hg ?_, h3⟩
  rcases h2.2 with ⟨rfl, _⟩ | ⟨g0, cap, cur, rfl, hb, hg0, _⟩
  · exact .inl rfl
  · refine .inr (fun e => ?_)
    obtain ⟨o, ho, hc⟩ := hr g0 (by simpa [Value.ownBlock] using e.symm)
    rw [hg0] at ho; cases ho; cases hc
theorem ColC.below {bs : Nat} {hs : List Hc} {W W' : World} (h : ColC bs hs W) (hb : Below W.heap.size W W') : ColC bs hs W' := by
  obtain ⟨v, h1, h2, h3⟩ := h
  exact ⟨v, Blk.below h1 hb, h2.below hb, h3⟩
theorem keepC_past {W Wz W4 X : World} {gg bs : Nat} {v : Value} (hbz : Below W.heap.size W Wz) (hkC : KeepC Wz W4) (hgb : Wz.heap.size ≤ gg ∨ ∃ cur, Wz.heap[gg]? = some (.cells cur 25 (0, 0)) ∧ cur.size ≠ 5) (hR : Blk W bs #[v] 23) (hx : ∀ i, i ≠ gg → i ≠ bs → X.heap[i]? = W4.heap[i]?) : KeepC W X := fun k cs t hk ht hc => by
  have hlt := (Array.getElem?_eq_some_iff.1 hk).1
  have h1 : Wz.heap[k]? = some (.cells cs t (0, 0)) := (hbz.block k hlt).trans hk
  have hb : k ≠ bs := fun e => by
    subst e
    rw [show W.heap[k]? = _ from hR] at hk
    injection hk with hk
    injection hk with e1 e2 e3
    exact ht e2.symm
  have hg : k ≠ gg := fun e => by
    subst e
    rcases hgb with h | ⟨cur, h, hs⟩
    · have := hbz.size; omega
    · rw [h1] at h
      injection h with h
      injection h with e1 e2 e3
      subst e1 e2
      exact hs (hc rfl)
  exact (hx k hg hb).trans (hkC k cs t h1 ht hc)

/-- both orders of the two stores behind the append -/
def PostA (W4 : World) (gg bs N cap : Nat) (h : Hc) (X : World) : Prop := X = (set5 W4 gg N h).setCell ⟨bs, 0, none⟩ (.slice (some ⟨gg, 0, none⟩) (N + 1) cap) ∨ X = set5 (W4.setCell ⟨bs, 0, none⟩ (.slice (some ⟨gg, 0, none⟩) (N + 1) cap)) gg N h
theorem app_one (W : World) (bs N : Nat) (v : Value) (hs : List Hc) (x : Hc) (hR : Blk W bs #[v] 23) (ho : OwnC W (bs + 1) v hs) (hn : v = .slice none 0 0 ↔ hs = []) (hN : hs.length = N) (hlt : N < 1000000) :
    ∃ gg cap A0 c0 W4, v = .slice A0 N c0 ∧ (∀ ty, (Builtin.append_ #[23, 23] ty #[v, .slice (some ⟨W.heap.size, 0, none⟩) 1 1]).run Tryz.prog (W.alloc (.cells #[.int .i64 0, .string ⟨#[]⟩, .string ⟨#[]⟩, .slice none 0 0, .slice none 0 0] 25)).drew = .ok (.slice (some ⟨gg, 0, none⟩) (N + 1) cap) W4) ∧
      (W4.cell? ⟨gg, N * 5, none⟩ = some (.int .i64 0) ∧ W4.cell? ⟨gg, N * 5 + 1, none⟩ = some (.string ⟨#[]⟩) ∧ W4.cell? ⟨gg, N * 5 + 1 + 1, none⟩ = some (.string ⟨#[]⟩) ∧ W4.cell? ⟨gg, N * 5 + 1 + 1 + 1, none⟩ = some (.slice none 0 0) ∧ W4.cell? ⟨gg, N * 5 + 1 + 1 + 1 + 1, none⟩ = some (.slice none 0 0)) ∧
      (W4.frozen? ⟨gg, N * 5, none⟩ = false ∧ W4.frozen? ⟨gg, N * 5 + 1, none⟩ = false ∧ W4.frozen? ⟨gg, N * 5 + 2, none⟩ = false ∧ W4.frozen? ⟨gg, N * 5 + 3, none⟩ = false ∧ W4.frozen? ⟨gg, N * 5 + 4, none⟩ = false) ∧
      (W4.cell? ⟨bs, 0, none⟩ = some v ∧ W4.frozen? ⟨bs, 0, none⟩ = false) ∧ (¬ gg = bs ∧ ¬ bs = gg) ∧
      Hid (∀ X, PostA W4 gg bs N cap x X → (∀ B0, KeepsFrom B0 W X) ∧ KeepC W X ∧ (∀ B w0, B ≤ bs → Below B w0 W → Below B w0 X) ∧ ColC bs (hs ++ [x]) X) := by
  subst hN
  obtain ⟨Wz, hWz⟩ : ∃ Wz, (W.alloc (.cells #[.int .i64 0, .string ⟨#[]⟩, .string ⟨#[]⟩, .slice none 0 0, .slice none 0 0] 25)).drew = Wz := ⟨_, rfl⟩
  rw [hWz]
  have hbz : Below W.heap.size W Wz := by rw [← hWz]; exact (bel_alloc (Below.refl _ _) _).drew
  have hzc : CBox Wz W.heap.size 0 ⟨#[]⟩ ⟨#[]⟩ SS.nil none 0 0 := by rw [← hWz]; exact Blk.below (CBox.new W 0 ⟨#[]⟩ ⟨#[]⟩ SS.nil none 0 0) (Below.refl _ _).drew
  have hz : ∀ j u, (flatC [Hc.zero])[j]? = some u → Wz.cell? ((⟨W.heap.size, 0, none⟩ : Addr).add j) = some u := fun j u hj => by
    rw [Addr.add_lit, Nat.zero_add, Blk.cell hzc j, ← hj]
    have : (flatC [Hc.zero]).toArray = #[.int .i64 0, .string ⟨#[]⟩, .string ⟨#[]⟩, .slice none 0 0, .slice none 0 0] := rfl
    show #[Value.int IntKind.i64 0, .string ⟨#[]⟩, .string ⟨#[]⟩, .slice none 0 0, .slice none 0 0][j]? = _
    rw [← this]; simp
  have lR := Blk.lt hR
  obtain ⟨gg, cap, W4, hrun, ho4, hgr, hkC, hgb⟩ := append_zeroC Wz (bs + 1) v hs (ho.below hbz) hn (by have h2 := hbz.size; omega) hlt W.heap.size hz
  obtain ⟨A0, c0, hv0, _, _, _, hA0⟩ := ho.slice
  have hat : hs.length < (hs ++ [Hc.zero]).length := by simp
  obtain ⟨y0, y1, y2, y3, y4⟩ := ho4.at hat
  have e : (hs ++ [Hc.zero])[hs.length] = Hc.zero := by rw [List.getElem_append_right (by simp)]; simp
  rw [e] at y0 y1 y2 y3 y4
  have yf := ho4.row.free
  have hbw : v.ownBlock ≠ some bs := by
    rcases ho.2 with ⟨rfl, _⟩ | ⟨g0, cap0, cur, rfl, hb0, _⟩
    · simp [Value.ownBlock]
    · intro e; have : g0 = bs := by simpa [Value.ownBlock] using e
      omega
  have hR4 : Blk W4 bs #[v] 23 := Blk.grown (Blk.below hR hbz) hgr (fun e => hbw e.symm)
  have hrow : ∀ k, v.ownBlock = some k → bs + 1 ≤ k := fun k hk => by
    rcases ho.2 with ⟨rfl, _⟩ | ⟨g0, cap0, cur, rfl, hb0, _⟩
    · cases hk
    · have : g0 = k := by simpa [Value.ownBlock] using hk
      omega
  have K4 : KeepsOthers Wz W4 := KeepsOthers.of_grownBy hgr (fun j o hj hoj => by
    rcases ho.2 with ⟨rfl, _⟩ | ⟨g0, cap0, cur, rfl, hb0, hg0, _⟩
    · cases hj
    · have : g0 = j := by simpa [Value.ownBlock] using hj
      subst this
      have := (hbz.block g0 (Array.getElem?_eq_some_iff.1 hg0).1).trans hg0
      rw [this] at hoj
      injection hoj with hoj
      subst hoj
      rfl)
  have hgg : bs + 1 ≤ gg := by
    rcases ho4.2 with ⟨hv, _⟩ | ⟨g', cap', cur', hv', hb', _⟩
    · cases hv
    · injection hv' with e1; injection e1 with e1; injection e1 with e1; omega
  have hset : (hs ++ [Hc.zero]).set hs.length x = hs ++ [x] := by
    rw [List.set_append_right _ _ (by simp)]; simp
  have hcol : ∀ X, Blk X bs #[.slice (some ⟨gg, 0, none⟩) (hs.length + 1) cap] 23 → OwnC X (bs + 1) (.slice (some ⟨gg, 0, none⟩) (hs.length + 1) cap) ((hs ++ [Hc.zero]).set hs.length x) → ColC bs (hs ++ [x]) X := fun X h1 h2 => by
    rw [hset] at h2
    exact ⟨_, h1, h2, ⟨fun h => (by cases h), fun h => (by simp at h)⟩⟩
  have K4f : ∀ B0, KeepsFrom B0 W W4 := fun B0 => (keepsF hbz).trans (K4.from _)
  have BB : ∀ B w0, B ≤ bs → Below B w0 W → Below B w0 W4 := fun B w0 hB hb => hb.trans ((hbz.mono (show B ≤ W.heap.size by omega)).grown hgr (by have := hbz.size; omega) (fun k hk => by have := hrow k hk; omega))
  have hne : gg ≠ bs := by omega
  refine ⟨gg, cap, A0, c0, W4, hv0, hrun, ⟨y0, y1, y2, y3, y4⟩, ⟨yf _, yf _, yf _, yf _, yf _⟩, ⟨Blk.cell hR4 0, Blk.free hR4 0⟩, ⟨hne, fun e => hne e.symm⟩, ?_⟩
  rintro X (rfl | rfl)
  · refine ⟨fun B0 => (K4f B0).trans (((((((KeepsOthers.setCell _ _ _).trans (KeepsOthers.setCell _ _ _)).trans (KeepsOthers.setCell _ _ _)).trans (KeepsOthers.setCell _ _ _)).trans (KeepsOthers.setCell _ _ _)).trans (KeepsOthers.setCell _ _ _)).from _), keepC_past hbz hkC hgb hR (fun i h1 h2 => (heap_setCell_other _ ⟨bs, 0, none⟩ i _ h2).trans (set5_other _ _ _ _ _ h1)), fun B w0 hB hb => below_set (set5_below (BB B w0 hB hb) (by omega) _ _) hB _ _, hcol _ (blk_cell_set ((set5_other _ _ _ _ _ (fun e => hne e.symm)).trans hR4) _) ?_⟩
    exact row_far (ho4.set hs.length x hat) (by omega) _ _
  · refine ⟨fun B0 => (K4f B0).trans (((((((KeepsOthers.setCell _ _ _).trans (KeepsOthers.setCell _ _ _)).trans (KeepsOthers.setCell _ _ _)).trans (KeepsOthers.setCell _ _ _)).trans (KeepsOthers.setCell _ _ _)).trans (KeepsOthers.setCell _ _ _)).from _), keepC_past hbz hkC hgb hR (fun i h1 h2 => (set5_other _ _ _ _ _ h1).trans (heap_setCell_other _ ⟨bs, 0, none⟩ i _ h2)), fun B w0 hB hb => set5_below (below_set (BB B w0 hB hb) hB _ _) (by omega) _ _, hcol _ ((set5_other _ _ _ _ _ (fun e => hne e.symm)).trans (blk_cell_set hR4 _)) ?_⟩
    exact OwnC.set (row_far ho4 (by omega) 0 (.slice (some ⟨gg, 0, none⟩) (hs.length + 1) cap) : OwnC (W4.setCell ⟨bs, 0, none⟩ (.slice (some ⟨gg, 0, none⟩) (hs.length + 1) cap)) (bs + 1) _ _) hs.length x hat
end Go.Proofs.YtjjfbgadpgckeaaGreat.C
namespace Go.Proofs.YtjjfbgadpgckeaaGreat.C
open Go.RowKit Go.Shelf L T
set_option linter.unusedVariables false
set_option linter.unusedSimpArgs false
attribute [local go_sem] Oper.semAt_some

def fltC {B : Nat} {w0 : World} (p : Int → Bool) (pre : List (PtC B w0)) : List Hc := (pre.filter (fun x => !p (opC x.t))).map hcP
theorem fltC_yes {B : Nat} {w0 : World} {p : Int → Bool} {pre : List (PtC B w0)} {x : PtC B w0} (h : p (opC x.t) = true) : fltC p (pre ++ [x]) = fltC p pre := by
  unfold fltC; rw [List.filter_append]; simp [h]
theorem fltC_no {B : Nat} {w0 : World} {p : Int → Bool} {pre : List (PtC B w0)} {x : PtC B w0} (h : p (opC x.t) = false) : fltC p (pre ++ [x]) = fltC p pre ++ [hcP x] := by
  unfold fltC; rw [List.filter_append]; simp [h]
theorem fltC_len {B : Nat} {w0 : World} (p : Int → Bool) (pre : List (PtC B w0)) : (fltC p pre).length ≤ pre.length := by
  unfold fltC; rw [List.length_map]; exact List.length_filter_le _ _
/-- the blocks that the iterator is made of -/
theorem box_allC (w : World) (o : Int) (s z : ByteArray) (k : SS) (a : Option Addr) (n c g : Nat) :
    ∃ W, (w.alloc (.cells #[.int .i64 o, .string s, .string z, .slice k.a k.n k.c, .slice a n c] 25)).alloc (.cells #[.func (.func 87) #[] #[.pointer (some ⟨g, 0, none⟩)]] 55) = W ∧ Below w.heap.size w W ∧ W.heap.size = w.heap.size + 2 ∧ CBox W w.heap.size o s z k a n c ∧ Blk W (w.heap.size + 1) #[.func (.func 87) #[] #[.pointer (some ⟨g, 0, none⟩)]] 55 := by
  obtain ⟨W1, h1, hb, hs, t1⟩ := cbox1 w o s z k a n c
  rw [h1]
  refine ⟨_, rfl, bel_alloc hb _, by simp [hs], Blk.alloc t1 _, ?_⟩
  have := Blk.new W1 #[Value.func (.func 87) #[] #[.pointer (some ⟨g, 0, none⟩)]] 55
  rwa [hs] at this
theorem OwnC.base {w : World} {b b' : Nat} {v : Value} {hs : List Hc} (h : OwnC w b v hs) (hb : b' ≤ b) : OwnC w b' v hs := by
  refine ⟨h.1, ?_⟩
  rcases h.2 with hn | ⟨g, cap, cur, rfl, h1, rest⟩
  · exact .inl hn
  · exact .inr ⟨g, cap, cur, rfl, by omega, rest⟩

set_option maxRecDepth 100000 in
set_option maxHeartbeats 8000000 in
theorem ends_in_con (p : Int → Bool) (t : Cl) (k : SS) (a : Option Addr) (m c : Nat) (w : World) (hI : InnOk p 50 #[] w) (hsz : wt t ≤ 1000000) (hA : ArWC w t k a m c) :
    CallsIn Fence.wide 6 Tryz.prog 49 #[.agg #[.int .i64 (opC t), .string (nmC t), .string (soC t), .slice k.a k.n k.c, .slice a m c], .func (.func 50) #[] #[]] w fun e w' => ∃ v, e = .returned v ∧ (∃ pts : List (PtC w.heap.size w), pts.map PtC.t = allP p t ∧ OwnC w' w.heap.size v (fltC p pts)) ∧ Below w.heap.size w w' := by
  obtain ⟨W1, hW1, hB1, hs1, S1⟩ := cbox1 w (opC t) (nmC t) (soC t) k a m c
  obtain ⟨W2, hW2⟩ : ∃ W2, W1.alloc (.cells #[.func (.func 50) #[] #[]] 31) = W2 := ⟨_, rfl⟩
  have hB2 : Below W1.heap.size W1 W2 := by rw [← hW2]; exact bel_alloc (Below.refl _ _) _
  have hs2 : W2.heap.size = w.heap.size + 2 := by rw [← hW2, World.size_alloc, hs1]
  have I2 : Blk W2 (w.heap.size + 1) #[.func (.func 50) #[] #[]] 31 := by rw [← hW2, ← hs1]; exact Blk.new W1 _ _
  obtain ⟨W3, hW3⟩ : ∃ W3, W2.alloc (.cells #[.slice none 0 0] 23) = W3 := ⟨_, rfl⟩
  have hB3 : Below W2.heap.size W2 W3 := by rw [← hW3]; exact bel_alloc (Below.refl _ _) _
  have hs3 : W3.heap.size = w.heap.size + 3 := by rw [← hW3, World.size_alloc, hs2]
  have R3 : Blk W3 (w.heap.size + 2) #[.slice none 0 0] 23 := by rw [← hW3, ← hs2]; exact Blk.new W2 _ _
  have hB13 := bel_trans (bel_trans hB1 hB2) hB3
  obtain ⟨s0, s1, s2, s3, s4⟩ := (CBox.b (CBox.b S1 hB2) hB3).five
  obtain ⟨W5, hW5, hB5, hs5, A5, F5⟩ := box_allC W3 (opC t) (nmC t) (soC t) k a m c (w.heap.size + 1)
  rw [hs3] at A5 F5 hs5
  have R5 := Blk.below R3 hB5
  have I5 := Blk.below (Blk.below I2 hB3) hB5
  have B5 : Below w.heap.size w W5 := bel_trans hB13 hB5
  have hE5 := ends1_con p  (w.heap.size + 1) W5 I5 (hI.keep (KeepC.of_below B5))
  have hst := allC_stops (5 : Nat) p (w.heap.size + 1) w.heap.size (w.heap.size + 3) (w.heap.size + 3 + 1) w W5 t k a m c hE5 hA B5 B5.size A5 F5
  have cAll := tallC_any (opC t) (nmC t) (soC t) k a m c (w.heap.size + 1) W3
  rw [hW5, hs3] at cAll
  have hNN : (allP p t).length ≤ 1000000 := Nat.le_trans (allP_len p t) hsz
  have C5 : ColC (w.heap.size + 2) [] W5 := ⟨_, R5, OwnC.nil _ _, by simp⟩
  clear hA S1 I2 R3 R5 hE5 hsz
  refine callsIn_of_wp_marks Tryz.func49 rfl trivial ?_ rfl
  simp only [Tryz.ntmps49, List.size_toArray, List.length_cons, List.length_nil, Nat.reduceAdd, Nat.reduceSub, Array.replicate_succ, Array.replicate_zero, List.push_toArray, List.append_toArray, List.nil_append, List.cons_append]
  gi_wp2_with (refine ⟨trivial, ?_⟩; gi_at_call 60; refine (callsIn_wide.2 cAll).mono ?_; rintro e w' ⟨rfl, rfl⟩)
  refine wpIn_rangeFunc_ownH rfl (by decide) (gf := 97) (lb := #[.pointer (some ⟨w.heap.size + 3, 0, none⟩), .pointer (some ⟨w.heap.size + 3 + 1, 0, none⟩)]) rfl trivial (enters_of Tryz.func97 (by kernel_rfl) rfl)
    hst KpC.trans (KpC.obj B5.size) (Below.refl _ _) (fun _ => rfl)
    (fun pre W => (ColC (w.heap.size + 2) (fltC p pre) W ∧ Blk W (w.heap.size + 1) #[.func (.func 50) #[] #[]] 31) ∧ Below w.heap.size w W)
    (fun cd pre W => False)
    (OwnFrom.and (OwnFrom.and (Own.from (colC_own (w.heap.size + 2) (fltC p)) _) (Own.from (own_blk _ _ _) _)) (ownFrom_below (Nat.le_refl _) B5.size))
    (fun cd _ _ _ _ hs _ _ => hs)
    ⟨⟨C5, I5⟩, B5⟩
    (fun x a2 W => ∃ Bx, CBox W Bx (opC x.t) (nmC x.t) (soC x.t) x.k x.a x.n x.c ∧ a2 = { tmps := #[.agg #[.int .i64 (opC t), .string (nmC t), .string (soC t), .slice k.a k.n k.c, .slice a m c], .func (.func 50) #[] #[], .pointer (some ⟨w.heap.size, 0, none⟩), .pointer (some ⟨w.heap.size + 1, 0, none⟩), .slice none 0 0, .func (.func 87) #[] #[.pointer (some ⟨w.heap.size + 1, 0, none⟩)], .pointer (some ⟨w.heap.size + 2, 0, none⟩), .pointer (some ⟨Bx, 0, none⟩), .func (.func 87) #[] #[.pointer (some ⟨w.heap.size + 1, 0, none⟩)], .agg #[.int .i64 (opC t), .string (nmC t), .string (soC t), .slice k.a k.n k.c, .slice a m c], .func (.func 87) #[] #[.pointer (some ⟨w.heap.size + 1, 0, none⟩)], .func (.func 97) #[] #[.pointer (some ⟨w.heap.size + 3, 0, none⟩), .pointer (some ⟨w.heap.size + 3 + 1, 0, none⟩)], .agg #[.int .i64 (opC x.t), .string (nmC x.t), .string (soC x.t), .slice x.k.a x.k.n x.k.c, .slice x.a x.n x.c], undef, undef, undef, undef, undef, undef, undef, undef, undef, undef, undef], defers := [] })
    (fun x a2 _ X Y row hs hg hr => by obtain ⟨Bx, h2, h3⟩ := hs; exact ⟨Bx, own_blk Bx _ _ () X Y row h2 hg (fun r e => (hr r e).2), h3⟩)
    ?assign ?body ?done ?stop
  case assign =>
    rintro l pre x W K ⟨⟨hC, hF⟩, hB⟩ hK
    have hb : Below W.heap.size W (W.alloc (.cells #[.int .i64 (opC x.t), .string (nmC x.t), .string (soC x.t), .slice x.k.a x.k.n x.k.c, .slice x.a x.n x.c] 25)) := bel_alloc (Below.refl _ _) _
    unfold encC
    gi_wp2
    exact hK _ _ (keepsF hb) (KpC.of_below hB.size hb) ⟨⟨hC.below hb, Blk.below hF hb⟩, hB.trans (hb.mono hB.size)⟩ ⟨W.heap.size, CBox.new W _ _ _ _ _ _ _, rfl⟩
  case body =>
    rintro l pre x a2 W hl hr ⟨⟨hC, hF⟩, hB⟩ ⟨Bx, hX, rfl⟩ hlt
    have cI := (hI.keep (KeepC.of_below hB)) x.t x.k x.a x.n x.c W (KeepC.refl _)
    change Calls _ _ #[_] _ _ at cI
    have f0 := Blk.cell hF 0
    obtain ⟨x0, x1, x2, x3, x4⟩ := hX.five
    generalize hb : p (opC x.t) = b at *
    have Hb := Lib.hid hb
    clear hb
    cases b with
    | true =>
      gi_wp2_with (refine ⟨trivial, ?_⟩; gi_at_call 50; refine (CallsIn.inRound l (callsIn_wide.2 cI)).mono ?_; rintro e w5 ⟨rfl, hg5⟩; have hb5 := below_none hg5)
      exact ⟨keepsF hb5, KpC.of_below hB.size hb5, ⟨by rw [fltC_yes Hb.out]; exact hC.below hb5, Blk.below hF hb5⟩, hB.trans (hb5.mono hB.size)⟩
    | false =>
      gi_wp2_with (refine ⟨trivial, ?_⟩; gi_at_call 50; refine (CallsIn.inRound l (callsIn_wide.2 cI)).mono ?_; rintro e w5 ⟨rfl, hg5⟩; have hb5 := below_none hg5)
      have hB5 : Below w.heap.size w w5 := hB.trans (hb5.mono hB.size)
      obtain ⟨v, hR, ho, hn⟩ := hC.below hb5
      obtain ⟨hsl, hslE⟩ : ∃ hsl, fltC p pre = hsl := ⟨_, rfl⟩
      have hlN : (fltC p pre).length < 1000000 := by have := fltC_len p pre; omega
      obtain ⟨NL, hNL⟩ : ∃ NL, NL = (fltC p pre).length := ⟨_, rfl⟩
      obtain ⟨gg, cap, A0, c0, W4, hv, hrun, ⟨y0, y1, y2, y3, y4⟩, ⟨z0, z1, z2, z3, z4⟩, ⟨r4, q4⟩, ⟨hg1, hg2⟩, HP⟩ := app_one w5 (w.heap.size + 2) NL v (fltC p pre) (hcP x) hR ho hn hNL.symm (by omega)
      have HF5 := Blk.below hF hb5
      have FX := Lib.hid (show ∀ X, PostA W4 gg (w.heap.size + 2) NL cap (hcP x) X → (∀ B0, KeepsFrom B0 W X) ∧ KpC w.heap.size W X ∧ ((ColC (w.heap.size + 2) (fltC p (pre ++ [x])) X ∧ Blk X (w.heap.size + 1) #[.func (.func 50) #[] #[]] 31) ∧ Below w.heap.size w X) from fun X hX => by
        obtain ⟨q1, q2, q3, q4⟩ := HP.out X hX
        have hkX := (KeepC.of_below hb5).trans q2
        refine ⟨fun B0 => (keepsF hb5).trans (q1 B0), ⟨q3 _ _ (by omega) (hb5.mono hB.size), hkX⟩, ⟨by rw [fltC_no Hb.out]; exact q4, q2 _ _ _ HF5 (by decide) (fun h => absurd h (by decide))⟩, q3 _ _ (by omega) hB5⟩)
      have F1 := FX.out _ (.inl rfl)
      have F2 := FX.out _ (.inr rfl)
      clear FX
      unfold hcP hcOf set5 at F1 F2
      dsimp only at F1 F2
      obtain ⟨F1a, F1b, F1c⟩ := F1
      obtain ⟨F2a, F2b, F2c⟩ := F2
      have G1 := Lib.hid F1a
      have G2 := Lib.hid F1b
      have G3 := Lib.hid F1c
      have G4 := Lib.hid F2a
      have G5 := Lib.hid F2b
      have G6 := Lib.hid F2c
      clear F1a F1b F1c F2a F2b F2c
      obtain ⟨Wz, hWz⟩ : ∃ Wz, (w5.alloc (.cells #[.int .i64 0, .string ⟨#[]⟩, .string ⟨#[]⟩, .slice none 0 0, .slice none 0 0] 25)).drew = Wz := ⟨_, rfl⟩
      rw [hWz] at hrun
      have hbz : Below w5.heap.size w5 Wz := by rw [← hWz]; exact (bel_alloc (Below.refl _ _) _).drew
      have hX5 := CBox.b hX hb5
      obtain ⟨x05, x15, x25, x35, x45⟩ := hX5.five
      obtain ⟨x0z, x1z, x2z, x3z, x4z⟩ := (CBox.b hX5 hbz).five
      have r05 := Blk.cell hR 0
      have r0z := Blk.cell (Blk.below hR hbz) 0
      subst hv
      have hr22 := hrun 23
      have n1 : NL < 9223372036854775807 := by omega
      have n2 : (NL : Int) < (NL : Int) + 1 := by omega
      clear hX hX5 hR ho hn HP HF5 hC hF hrun cI hslE hNL hlN hB5 hB x0 x1 x2 x3 x4 f0
      gi_wp2
      refine wpIn_region_any (by kernel_rfl) ?_
      try (change wpAnyIn _ _ _ _ _ _ _ _ _ (World.drew _))
      refine (fun (rest : (?R : Prop)) => ?tree) ?tail
      case tree =>
        refine wpAnyIn_ready (rs := [0, 1, 3]) (by kernel_rfl) (by simp) (AllReadyIn.cons rfl (fun K hK => ?_) (AllReadyIn.cons rfl (fun K hK => ?_) (AllReadyIn.cons rfl (fun K hK => ?_) AllReadyIn.nil)))
        · go_simp
          refine hK _ _ ?_
          clear hK K
          refine wpAnyIn_ready (rs := [1, 2, 3]) (by kernel_rfl) (by simp) (AllReadyIn.cons rfl (fun K hK => ?_) (AllReadyIn.cons rfl (fun K hK => ?_) (AllReadyIn.cons rfl (fun K hK => ?_) AllReadyIn.nil)))
          · go_simp
            refine hK _ _ ?_
            clear hK K
            refine wpAnyIn_ready (rs := [2, 3]) (by kernel_rfl) (by simp) (AllReadyIn.cons rfl (fun K hK => ?_) (AllReadyIn.cons rfl (fun K hK => ?_) AllReadyIn.nil))
            · go_simp
              refine hK _ _ ?_
              clear hK K
              refine wpAnyIn_ready (rs := [3]) (by kernel_rfl) (by simp) (AllReadyIn.cons rfl (fun K hK => ?_) AllReadyIn.nil)
              · go_simp
                refine hK _ _ ?_
                clear hK K
                exact rest
            · go_simp
              refine hK _ _ ?_
              clear hK K
              refine wpAnyIn_ready (rs := [2]) (by kernel_rfl) (by simp) (AllReadyIn.cons rfl (fun K hK => ?_) AllReadyIn.nil)
              · go_simp
                refine hK _ _ ?_
                clear hK K
                exact rest
          · go_simp
            refine hK _ _ ?_
            clear hK K
            refine wpAnyIn_ready (rs := [1, 3]) (by kernel_rfl) (by simp) (AllReadyIn.cons rfl (fun K hK => ?_) (AllReadyIn.cons rfl (fun K hK => ?_) AllReadyIn.nil))
            · go_simp
              refine hK _ _ ?_
              clear hK K
              refine wpAnyIn_ready (rs := [3]) (by kernel_rfl) (by simp) (AllReadyIn.cons rfl (fun K hK => ?_) AllReadyIn.nil)
              · go_simp
                refine hK _ _ ?_
                clear hK K
                exact rest
            · go_simp
              refine hK _ _ ?_
              clear hK K
              refine wpAnyIn_ready (rs := [1]) (by kernel_rfl) (by simp) (AllReadyIn.cons rfl (fun K hK => ?_) AllReadyIn.nil)
              · go_simp
                refine hK _ _ ?_
                clear hK K
                exact rest
          · go_simp
            refine hK _ _ ?_
            clear hK K
            refine wpAnyIn_ready (rs := [1, 2]) (by kernel_rfl) (by simp) (AllReadyIn.cons rfl (fun K hK => ?_) (AllReadyIn.cons rfl (fun K hK => ?_) AllReadyIn.nil))
            · go_simp
              refine hK _ _ ?_
              clear hK K
              refine wpAnyIn_ready (rs := [2]) (by kernel_rfl) (by simp) (AllReadyIn.cons rfl (fun K hK => ?_) AllReadyIn.nil)
              · go_simp
                refine hK _ _ ?_
                clear hK K
                exact rest
            · go_simp
              refine hK _ _ ?_
              clear hK K
              refine wpAnyIn_ready (rs := [1]) (by kernel_rfl) (by simp) (AllReadyIn.cons rfl (fun K hK => ?_) AllReadyIn.nil)
              · go_simp
                refine hK _ _ ?_
                clear hK K
                exact rest
        · go_simp
          refine hK _ _ ?_
          clear hK K
          refine wpAnyIn_ready (rs := [0, 3]) (by kernel_rfl) (by simp) (AllReadyIn.cons rfl (fun K hK => ?_) (AllReadyIn.cons rfl (fun K hK => ?_) AllReadyIn.nil))
          · go_simp
            refine hK _ _ ?_
            clear hK K
            refine wpAnyIn_ready (rs := [2, 3]) (by kernel_rfl) (by simp) (AllReadyIn.cons rfl (fun K hK => ?_) (AllReadyIn.cons rfl (fun K hK => ?_) AllReadyIn.nil))
            · go_simp
              refine hK _ _ ?_
              clear hK K
              refine wpAnyIn_ready (rs := [3]) (by kernel_rfl) (by simp) (AllReadyIn.cons rfl (fun K hK => ?_) AllReadyIn.nil)
              · go_simp
                refine hK _ _ ?_
                clear hK K
                exact rest
            · go_simp
              refine hK _ _ ?_
              clear hK K
              refine wpAnyIn_ready (rs := [2]) (by kernel_rfl) (by simp) (AllReadyIn.cons rfl (fun K hK => ?_) AllReadyIn.nil)
              · go_simp
                refine hK _ _ ?_
                clear hK K
                exact rest
          · go_simp
            refine hK _ _ ?_
            clear hK K
            refine wpAnyIn_ready (rs := [0]) (by kernel_rfl) (by simp) (AllReadyIn.cons rfl (fun K hK => ?_) AllReadyIn.nil)
            · go_simp
              refine hK _ _ ?_
              clear hK K
              refine wpAnyIn_ready (rs := [2]) (by kernel_rfl) (by simp) (AllReadyIn.cons rfl (fun K hK => ?_) AllReadyIn.nil)
              · go_simp
                refine hK _ _ ?_
                clear hK K
                exact rest
        · go_simp
          refine hK _ _ ?_
          clear hK K
          refine wpAnyIn_ready (rs := [0, 1]) (by kernel_rfl) (by simp) (AllReadyIn.cons rfl (fun K hK => ?_) (AllReadyIn.cons rfl (fun K hK => ?_) AllReadyIn.nil))
          · go_simp
            refine hK _ _ ?_
            clear hK K
            refine wpAnyIn_ready (rs := [1, 2]) (by kernel_rfl) (by simp) (AllReadyIn.cons rfl (fun K hK => ?_) (AllReadyIn.cons rfl (fun K hK => ?_) AllReadyIn.nil))
            · go_simp
              refine hK _ _ ?_
              clear hK K
              refine wpAnyIn_ready (rs := [2]) (by kernel_rfl) (by simp) (AllReadyIn.cons rfl (fun K hK => ?_) AllReadyIn.nil)
              · go_simp
                refine hK _ _ ?_
                clear hK K
                exact rest
            · go_simp
              refine hK _ _ ?_
              clear hK K
              refine wpAnyIn_ready (rs := [1]) (by kernel_rfl) (by simp) (AllReadyIn.cons rfl (fun K hK => ?_) AllReadyIn.nil)
              · go_simp
                refine hK _ _ ?_
                clear hK K
                exact rest
          · go_simp
            refine hK _ _ ?_
            clear hK K
            refine wpAnyIn_ready (rs := [0]) (by kernel_rfl) (by simp) (AllReadyIn.cons rfl (fun K hK => ?_) AllReadyIn.nil)
            · go_simp
              refine hK _ _ ?_
              clear hK K
              refine wpAnyIn_ready (rs := [2]) (by kernel_rfl) (by simp) (AllReadyIn.cons rfl (fun K hK => ?_) AllReadyIn.nil)
              · go_simp
                refine hK _ _ ?_
                clear hK K
                exact rest
      case tail =>
        refine wpAnyIn_ready (rs := [4]) (by kernel_rfl) (by simp) (AllReadyIn.cons rfl (fun K hK => ?_) AllReadyIn.nil)
        rw [if_pos (show Region.wanted _ _ = true from rfl)]
        unfold Oper.wpIn
        refine ⟨by simp [Oper.about, resolve, Target.leads, Sem.run_pure], ?_⟩
        rw [Oper.semAt_plain _ _ _ (by intro c hc; cases hc)]
        simp [execOp, resolve, invoke, builtin, Act.eval, hr22, Result.andThen, Oper.uponIn]
        refine hK _ _ ?_
        clear hK K
        simp only [Act.put, List.size_toArray, List.length_cons, List.length_nil, List.setIfInBounds_toArray, List.set_cons_succ, List.set_cons_zero]
        refine wpAnyIn_ready (rs := [5, 7]) (by kernel_rfl) (by simp) (AllReadyIn.cons rfl (fun K hK => ?_) (AllReadyIn.cons rfl (fun K hK => ?_) AllReadyIn.nil))
        · go_simp
          refine hK _ _ ?_
          clear hK K
          refine wpAnyIn_ready (rs := [6, 7]) (by kernel_rfl) (by simp) (AllReadyIn.cons rfl (fun K hK => ?_) (AllReadyIn.cons rfl (fun K hK => ?_) AllReadyIn.nil))
          · go_simp
            refine hK _ _ ?_
            clear hK K
            refine wpAnyIn_ready (rs := [7]) (by kernel_rfl) (by simp) (AllReadyIn.cons rfl (fun K hK => ?_) AllReadyIn.nil)
            · go_simp
              refine hK _ _ ?_
              clear hK K
              refine wpAnyIn_done (by kernel_rfl) ?_ _
              (refine And.intro ?_ (And.intro ?_ ?_)) <;> with_reducible (first | exact G1.out _ | exact G4.out _ | exact G2.out | exact G5.out | exact G3.out | exact G6.out)
          · go_simp
            refine hK _ _ ?_
            clear hK K
            refine wpAnyIn_ready (rs := [6]) (by kernel_rfl) (by simp) (AllReadyIn.cons rfl (fun K hK => ?_) AllReadyIn.nil)
            · go_simp
              refine hK _ _ ?_
              clear hK K
              refine wpAnyIn_done (by kernel_rfl) ?_ _
              (refine And.intro ?_ (And.intro ?_ ?_)) <;> with_reducible (first | exact G1.out _ | exact G4.out _ | exact G2.out | exact G5.out | exact G3.out | exact G6.out)
        · go_simp
          refine hK _ _ ?_
          clear hK K
          refine wpAnyIn_ready (rs := [5]) (by kernel_rfl) (by simp) (AllReadyIn.cons rfl (fun K hK => ?_) AllReadyIn.nil)
          · go_simp
            refine hK _ _ ?_
            clear hK K
            refine wpAnyIn_ready (rs := [6]) (by kernel_rfl) (by simp) (AllReadyIn.cons rfl (fun K hK => ?_) AllReadyIn.nil)
            · go_simp
              refine hK _ _ ?_
              clear hK K
              refine wpAnyIn_done (by kernel_rfl) ?_ _
              (refine And.intro ?_ (And.intro ?_ ?_)) <;> with_reducible (first | exact G1.out _ | exact G4.out _ | exact G2.out | exact G5.out | exact G3.out | exact G6.out)
  case done =>
    rintro D zs W hD hS ⟨⟨hC, hF⟩, hB⟩ hK
    obtain ⟨v, hR, ho, hn⟩ := hC
    have c5 := Blk.cell hR 0
    have hbl := belowK_b (w := w) (Nat.le_refl _) W D _ (.deferred none) (Nat.le_trans B5.size hD) hK rfl rfl
    have hrow : OwnC (W.putObj D (.deferred none)) (w.heap.size + 2 + 1) v (fltC p zs) := World.ownsRow.kept ho (grownBy_putObj' W D (.deferred none)) (by
      rcases ho.2 with ⟨rfl, _⟩ | ⟨g0, cap0, cur, rfl, hb0, hg0, _⟩
      · exact .inl rfl
      · refine .inr (fun e => ?_)
        have : g0 = D := by simpa [Value.ownBlock] using e
        subst this
        rw [hg0] at hK; cases hK)
    gi_wp2
    refine ⟨by simp, .inl ⟨_, _, rfl, run_takeDeferred hK, ?_⟩⟩
    exact ⟨_, results_tmp rfl _ _ _, v, rfl, ⟨zs, hS, hrow.base (by omega)⟩, hB.trans hbl⟩
  case stop =>
    rintro D cd pre W hD hS h hK
    exact h.elim
end Go.Proofs.YtjjfbgadpgckeaaGreat.C
