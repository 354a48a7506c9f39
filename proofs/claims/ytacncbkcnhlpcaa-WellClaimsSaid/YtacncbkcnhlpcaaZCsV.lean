/-
  What is proved: package claim's iterator over the parts of a claim, as a loop may range over it.
-/
import Derived.Test.YtacncbkcnhlpcaaZClmP
import Derived.Test.YtacncbkcnhlpcaaBT
namespace Go.Proofs.Ytacncbkcnhlpcaa.Cs
open Go.RowKit Go.Shelf L T C
set_option linter.unusedVariables false
set_option linter.unusedSimpArgs false
attribute [local go_sem] Oper.semAt_some

/-! parts, below those that p tells by their Op alone -/
def kids (p : Int → Bool) (t : Cl) : List Cl := if p (opC t) then subC t else []
mutual
def allP (p : Int → Bool) : Cl → List Cl
  | .mk o s z ts l => .mk o s z ts l :: (if p o then allPs p l else [])
def allPs (p : Int → Bool) : List Cl → List Cl
  | [] => []
  | t :: l => allP p t ++ allPs p l
end
theorem allP_mk (p : Int → Bool) (t : Cl) : allP p t = t :: allPs p (kids p t) := by
  cases t with
  | mk o s z ts l => rw [allP]; unfold kids; show _ = _ :: allPs p (if p o then l else []); split <;> rfl
theorem allPs_app (p : Int → Bool) (l m : List Cl) : allPs p (l ++ m) = allPs p l ++ allPs p m := by
  induction l with
  | nil => rfl
  | cons t l ih => rw [List.cons_append, allPs, allPs, ih, List.append_assoc]
theorem allPs_pre {p : Int → Bool} {t : Cl} {l : List Cl} {k : Nat} (h : l[k]? = some t) : allPs p (l.take k) ++ allP p t <+: allPs p l := by
  have := allPs_app p (l.take (k + 1)) (l.drop (k + 1))
  rw [List.take_append_drop, take_c h, allPs_app] at this
  rw [this]
  have e : allPs p [t] = allP p t := by rw [allPs, allPs, List.append_nil]
  rw [e]
  exact List.prefix_append _ _
theorem kids_sub {p : Int → Bool} {t x : Cl} (h : x ∈ kids p t) : x ∈ subC t := by
  unfold kids at h
  split at h
  · exact h
  · cases h
mutual
theorem allP_len (p : Int → Bool) : ∀ t : Cl, (allP p t).length ≤ wt t
  | .mk o s z ts l => by
    rw [allP, wt, List.length_cons]
    have := allPs_len p l
    split
    · omega
    · simp; omega
theorem allPs_len (p : Int → Bool) : ∀ l : List Cl, (allPs p l).length ≤ wts l
  | [] => Nat.le_refl _
  | t :: l => by rw [allPs, wts, List.length_append]; have := allP_len p t; have := allPs_len p l; omega
end

/-! what a round keeps: what lay below n0, and every block that holds one claim -/
def KeepC (W W' : World) : Prop := ∀ (k : Nat) (cs : Array Value), W.heap[k]? = some (.cells cs 46 (0, 0)) → cs.size = 5 → W'.heap[k]? = some (.cells cs 46 (0, 0))
def KpC (n0 : Nat) (W W' : World) : Prop := Below n0 W W' ∧ KeepC W W'
theorem KeepC.refl (W : World) : KeepC W W := fun k cs h _ => h
theorem KeepC.trans {A B C : World} (h : KeepC A B) (k : KeepC B C) : KeepC A C := fun i cs h0 h1 => k i cs (h i cs h0 h1) h1
theorem KeepC.of_below {W W' : World} (h : Below W.heap.size W W') : KeepC W W' := fun k cs h0 _ => (h.block k (Array.getElem?_eq_some_iff.1 h0).1).trans h0
theorem KpC.refl (n0 : Nat) (W : World) : KpC n0 W W := ⟨Below.refl _ _, KeepC.refl _⟩
theorem KpC.trans {n0 : Nat} {A B C : World} (h : KpC n0 A B) (k : KpC n0 B C) : KpC n0 A C := ⟨h.1.trans k.1, h.2.trans k.2⟩
theorem KpC.of_below {n0 : Nat} {W W' : World} (hn : n0 ≤ W.heap.size) (h : Below W.heap.size W W') : KpC n0 W W' := ⟨h.mono hn, KeepC.of_below h⟩
theorem KpC.obj {n0 : Nat} {w : World} (hn : n0 ≤ w.heap.size) (W : World) (l : Nat) (o o' : Obj) (hl : w.heap.size ≤ l) (h : W.heap[l]? = some o) (h1 : o.isCells = false) (h2 : o.isWalk = false) : KpC n0 W (W.putObj l o') :=
  ⟨belowK_b hn W l o o' hl h h1 h2, fun k cs h0 _ => (World.putObj_heap_other (fun e => by subst e; rw [h] at h0; cases h0; cases h1)).trans h0⟩
theorem CBox.keep {W W' : World} {n0 g : Nat} {o : Int} {s z : ByteArray} {k : SS} {a : Option Addr} {n c : Nat} (h : CBox W g o s z k a n c) (hk : KpC n0 W W') : CBox W' g o s z k a n c := hk.2 g _ h rfl
theorem keepC_set {W : World} {g : Nat} {cs : Array Value} {t : TypeId} (h : Blk W g cs t) (hne : cs.size ≠ 5) (k : Nat) (v : Value) : KeepC W (W.setCell ⟨g, k, none⟩ v) := fun i cs2 h0 h1 => by
  refine (heap_setCell_other W ⟨g, k, none⟩ i v (fun e => ?_)).trans h0
  subst e
  rw [show W.heap[i]? = _ from h] at h0
  injection h0 with h0; injection h0 with h0
  exact hne (h0 ▸ h1)
theorem below_none {W W' : World} (h : W.grownBy W' none) : Below W.heap.size W W' := (Below.refl _ W).grown h (Nat.le_refl _) (fun k e => by cases e)

/-- a part of a claim, with where its lists lie -/
structure PtC (F : Cl → Prop) (B : Nat) (w0 : World) where
  t : Cl
  k : SS
  a : Option Addr
  n : Nat
  c : Nat
  ok : ArC B w0 t k a n c
  few : F t
def encC {F : Cl → Prop} {B : Nat} {w0 : World} (x : PtC F B w0) : Array Value := #[.agg #[.int .i64 (opC x.t), .string (nmC x.t), .string (soC x.t), .slice x.k.a x.k.n x.k.c, .slice x.a x.n x.c]]
/-- what a closure of ends returns, in worlds that keep what W1 holds -/
def EndsOk (p : Int → Bool) (g : Nat) (W1 : World) : Prop :=
  ∀ (x : Cl) (k : SS) (a : Option Addr) (n c : Nat) (W : World), KeepC W1 W →
    Calls Try.prog 86 #[.agg #[.int .i64 (opC x), .string (nmC x), .string (soC x), .slice k.a k.n k.c, .slice a n c]] W fun e W' => e = .returned (if p (opC x) then .slice a n c else .slice none 0 0) ∧ W.grownBy W' none
theorem EndsOk.keep {p : Int → Bool} {g : Nat} {W1 W2 : World} (h : EndsOk p g W1) (hk : KeepC W1 W2) : EndsOk p g W2 := fun x k a n c W hw => h x k a n c W (hk.trans hw)
/-- what is asked of a round -/
def RoundsC (F : Cl → Prop) (B : Nat) (w0 : World) (l N : Nat) (J Jx : List (PtC F B w0) → World → Prop) : Prop :=
  ∀ m pre x W, J pre W → pre.length < N → YieldAt Fence.wide m Try.prog l (encC x) W fun e W' =>
    (e = .returned (.bool true) ∧ J (pre ++ [x]) W' ∧ KpC B W W') ∨ (e = .returned (.bool false) ∧ Jx (pre ++ [x]) W')
/-- the walk, at this claim -/
def VisitOkC (F : Cl → Prop) (p : Int → Bool) (g B : Nat) (w0 : World) (l N : Nat) (J Jx : List (PtC F B w0) → World → Prop) (t : Cl) : Prop :=
  ∀ (n : Nat) (k : SS) (a : Option Addr) (m c : Nat) (pre : List (PtC F B w0)) (W : World), F t → EndsOk p g W → ArC B w0 t k a m c → Below B w0 W → B ≤ W.heap.size → J pre W → pre.length + (allP p t).length ≤ N →
    CallsIn Fence.wide n Try.prog 105 #[.agg #[.int .i64 (opC t), .string (nmC t), .string (soC t), .slice k.a k.n k.c, .slice a m c], .func (.func 86) #[] #[], .func (.yield l) #[] #[]] W fun e W' =>
      (e = .returned (.bool true) ∧ (∃ ys, ys.map PtC.t = allP p t ∧ J (pre ++ ys) W') ∧ KpC B W W') ∨ (e = .returned (.bool false) ∧ ∃ q, q.map PtC.t <+: allP p t ∧ Jx (pre ++ q) W')

set_option maxRecDepth 100000 in
set_option maxHeartbeats 4000000 in
theorem visitC_step (F : Cl → Prop) (hF : ∀ t x, F t → x ∈ subC t → F x) (p : Int → Bool) (g B : Nat) (w0 : World) (l N : Nat) (J Jx : List (PtC F B w0) → World → Prop) (b0 : Nat) (hJ : AbidesFrom b0 J) (hY : RoundsC F B w0 l N J Jx) (t : Cl) (hok : ∀ x ∈ subC t, VisitOkC F p g B w0 l N J Jx x) : VisitOkC F p g B w0 l N J Jx t := by
  intro n k a m c pre W hFt hE hA hB hBW hJ0 hN
  obtain ⟨W2, hW2, hB2, hs2, S2⟩ := cbox1 W (opC t) (nmC t) (soC t) k a m c
  have hJ2 : J pre W2 := by rw [← hW2]; exact hJ pre W _ none hJ0 (World.grownBy_alloc W _ none) (fun r e => by cases e)
  have hE2 := hE.keep (KeepC.of_below hB2)
  have hp : 0 < (allP p t).length := by rw [allP_mk]; simp
  obtain ⟨fn, tmps, assign, body, hy, hR⟩ := hY (n - 1) pre ⟨t, k, a, m, c, hA, hFt⟩ W2 hJ2 (by omega)
  dsimp only [encC] at hy
  obtain ⟨s0, s1, s2, s3, s4⟩ := S2.five
  have hKW : KpC B W W2 := KpC.of_below hBW hB2
  have hB02 : Below B w0 W2 := hB.trans hKW.1
  -- what lies below it, as the closure tells
  obtain ⟨a', m', c', hv, hT⟩ : ∃ a' m' c', (if p (opC t) then Value.slice a m c else .slice none 0 0) = .slice a' m' c' ∧ IsC B w0 a' m' c' (kids p t) := by
    unfold kids
    by_cases h : p (opC t) = true
    · rw [if_pos h, if_pos h]; exact ⟨a, m, c, rfl, (ar_isC.1 hA).2⟩
    · rw [if_neg h, if_neg h]; exact ⟨none, 0, 0, rfl, rfl, Nat.le_refl _, Nat.zero_le _, fun _ => rfl, fun h => absurd h (by omega)⟩
  have cE := fun (W' : World) (hk : KeepC W2 W') => hE2 t k a m c W' hk
  rw [hv] at cE
  have hok' : ∀ x ∈ kids p t, VisitOkC F p g B w0 l N J Jx x := fun x hx => hok x (kids_sub hx)
  have hsz : (allP p t).length = 1 + (allPs p (kids p t)).length := by rw [allP_mk, List.length_cons]; omega
  rw [allP_mk]
  clear hok hv
  refine callsIn_of_wp Try.func105 rfl trivial ?_ rfl
  simp only [Try.ntmps105, List.size_toArray, List.length_cons, List.length_nil, Nat.reduceAdd, Nat.reduceSub, Array.replicate_succ, Array.replicate_zero, List.push_toArray, List.append_toArray, List.nil_append, List.cons_append]
  have hdd : ∀ k : Nat, (Fence.wide.depth.isSome = true → 1 ≤ k) := fun k h => by cases h
  gi_wp2_with (first
    | ((try refine ⟨hdd _, ?_⟩); refine hR.mono ?_; clear hR; rintro e W3 (⟨rfl, hJ3, hk3⟩ | ⟨rfl, hx3⟩); all_goals (try (have hk3' := hk3; obtain ⟨u0, u1, u2, u3, u4⟩ := (CBox.keep S2 hk3).five)))
    | ((try refine ⟨trivial, ?_⟩); (try refine ⟨hdd _, ?_⟩); gi_at_call 86; refine (callsIn_wide.2 (cE W3 hk3.2)).mono ?_; rintro e W3b ⟨rfl, hW3b⟩; have hW3c := Lib.hid hW3b; clear hW3b))
  · have hJ3b : J (pre ++ [⟨t, k, a, m, c, hA, hFt⟩]) W3b := hJ _ W3 _ none hJ3 hW3c.out (fun r e => by cases e)
    have hK3b : KpC B W3 W3b := KpC.of_below (Nat.le_trans hBW (hKW.trans hk3).1.size) (below_none hW3c.out)
    have hE3 := Lib.hid (hE2.keep (hk3.2.trans hK3b.2))
    clear hJ3 hW3c
    have hJ3 := hJ3b
    have hK3 := (hKW.trans hk3).trans hK3b
    clear hJ3b
    have hn : m' ≤ 9223372036854775807 := by have h1 := hT.2.1; have h2 := hT.2.2.1; unfold maxLen at h2; omega
    have hW3 : B ≤ W3b.heap.size := Nat.le_trans hBW hK3.1.size
    have HT := Lib.hid hT
    have HJ := Lib.hid hJ
    have HK := Lib.hid (show ∀ k x, (kids p t)[k]? = some x → VisitOkC F p g B w0 l N J Jx x ∧ F x from fun k x h => ⟨hok' x (List.mem_of_getElem? h), hF t x hFt (kids_sub (List.mem_of_getElem? h))⟩)
    have H0 : Hid (∃ ys : List (PtC F B w0), ys.map PtC.t = t :: allPs p ((kids p t).take 0) ∧ J (pre ++ ys) W3b) := ⟨[⟨t, k, a, m, c, hA, hFt⟩], rfl, hJ3⟩
    clear hT hJ hok' hJ3 hy hW2 s0 s1 s2 s3 s4 u0 u1 u2 u3 u4 S2 hJ2 hJ0 hY hK3b hE hE2 cE
    generalize hla : kids p t = la at *
    have HLa := Lib.hid hla
    clear hla
    generalize opC t = op at *
    generalize nmC t = nm at *
    generalize soC t = nu at *
    gi_loopw [17] (fun i wr0 => ∃ (wr : World) (k : Nat), wr = wr0 ∧ k ≤ m' ∧ i = .int .i64 k ∧ KpC B W3b wr ∧ Hid (∃ ys : List (PtC F B w0), ys.map PtC.t = t :: allPs p (la.take k) ∧ J (pre ++ ys) wr)) (fun i _ => m' - (intOf i).toNat)
    case atStart => exact ⟨_, 0, rfl, by omega, rfl, KpC.refl _ _, H0⟩
    case round =>
      obtain ⟨wr, i, rfl, hk, rfl, hKr, hR⟩ := hrel
      have hBr : Below B w0 wr := (hB.trans hK3.1).trans hKr.1
      have hBs : B ≤ wr.heap.size := Nat.le_trans hW3 hKr.1.size
      by_cases hlt : i < m'
      · obtain ⟨bb, o, x, kk, A, M, Cc, rfl, hb, z0, z1, z2, z3, z4, hx, hok⟩ := HT.out.at hlt
        have y0 := (hBr.cell (p := ⟨bb, _, none⟩) hb).trans z0
        have y1 := (hBr.cell (p := ⟨bb, _, none⟩) hb).trans z1
        have y2 := (hBr.cell (p := ⟨bb, _, none⟩) hb).trans z2
        have y3 := (hBr.cell (p := ⟨bb, _, none⟩) hb).trans z3
        have y4 := (hBr.cell (p := ⟨bb, _, none⟩) hb).trans z4
        obtain ⟨ys, hys, hJr⟩ := hR.out
        have hlen : ys.length = 1 + (allPs p (la.take i)).length := by
          have := congrArg List.length hys
          rw [List.length_map, List.length_cons] at this
          omega
        have hpre := allPs_pre (p := p) hx
        have hlts : (allPs p (la.take i)).length + (allP p x).length ≤ (allPs p la).length := by
          have := hpre.length_le
          rwa [List.length_append] at this
        obtain ⟨W4, hW4, hB4, hs4, S4⟩ := cbox1 wr (opC x) (nmC x) (soC x) kk A M Cc
        have hJ4 : J (pre ++ ys) W4 := by rw [← hW4]; exact HJ.out _ wr _ none hJr (World.grownBy_alloc wr _ none) (fun r e => by cases e)
        have hK4 : KpC B wr W4 := KpC.of_below hBs hB4
        have cv := (HK.out i x hx).1 (n - 1) kk A M Cc (pre ++ ys) W4 (HK.out i x hx).2 (hE3.out.keep (hKr.2.trans hK4.2)) hok (hBr.trans hK4.1) (Nat.le_trans hBs hK4.1.size) hJ4 (by rw [List.length_append]; omega)
        obtain ⟨f0, f1, f2, f3, f4⟩ := S4.five
        have htk := take_c hx
        clear z0 z1 z2 z3 z4 hok hR HK HT HJ S4
        have Hx := Lib.hid hx
        have Hys := Lib.hid hys
        have Hpre := Lib.hid hpre
        have Htk := Lib.hid htk
        clear hx hys hpre htk hJr hJ4
        generalize opC x = op' at *
        generalize nmC x = nm' at *
        generalize soC x = nu' at *
        have hk0 : 0 ≤ (i : Int) := by omega
        have hk1 : (i : Int) < (m' : Int) := by omega
        gi_wp2_with ((try refine ⟨trivial, ?_⟩); (try refine ⟨hdd _, ?_⟩); gi_at_call 105; refine cv.mono ?_; clear cv; rintro e W5 (⟨rfl, hz, hk5⟩ | ⟨rfl, hq⟩); all_goals (first | (have Hz := Lib.hid hz; clear hz) | (have Hq := Lib.hid hq; clear hq)))
        · go_roundw
          case rel => exact ⟨_, i + 1, rfl, by omega, by go_num, (hKr.trans hK4).trans hk5, by
            obtain ⟨zs, h1, h2⟩ := Hz.out
            refine ⟨ys ++ zs, ?_, by rw [← List.append_assoc]; exact h2⟩
            rw [List.map_append, Hys.out, h1, Htk.out, allPs_app, List.cons_append]
            rw [show allPs p [x] = allP p x by rw [allPs, allPs, List.append_nil]]⟩
          case measure => simp [intOf]; omega
        · go_ret
          refine .inr ⟨rfl, ?_⟩
          rw [HLa.out]
          obtain ⟨q, h1, h2⟩ := Hq.out
          refine ⟨ys ++ q, ?_, by rw [← List.append_assoc]; exact h2⟩
          rw [List.map_append, Hys.out, List.cons_append]
          obtain ⟨r1, h3⟩ := h1
          obtain ⟨r2, h4⟩ := Hpre.out
          exact ⟨r1 ++ r2, by rw [← h4, ← h3]; simp⟩
      · obtain rfl : i = m' := by omega
        have hR2 : Hid (∃ ys : List (PtC F B w0), ys.map PtC.t = t :: allPs p la ∧ J (pre ++ ys) wr) := by
          obtain ⟨ys, h1, h2⟩ := hR.out
          exact ⟨ys, by rw [h1, List.take_of_length_le (by have := HT.out.1; omega)], h2⟩
        clear hR
        gi_wp2
        go_ret
        exact .inl ⟨rfl, by rw [HLa.out]; exact hR2.out, hK3.trans hKr⟩
  · go_ret
    exact .inr ⟨rfl, [⟨t, k, a, m, c, hA, hFt⟩], ⟨_, by rw [List.map_singleton, List.singleton_append]⟩, hx3⟩
theorem visitC_any (F : Cl → Prop) (hF : ∀ t x, F t → x ∈ subC t → F x) (p : Int → Bool) (g B : Nat) (w0 : World) (l N : Nat) (J Jx : List (PtC F B w0) → World → Prop) (b0 : Nat) (hJ : AbidesFrom b0 J) (hY : RoundsC F B w0 l N J Jx) (t : Cl) : VisitOkC F p g B w0 l N J Jx t :=
  Cl.ind (visitC_step F hF p g B w0 l N J Jx b0 hJ hY) t
theorem yieldC_any {m : Nat} (m' : Nat) {P : Program} {l : Nat} {args : Array Value} {W : World} {R : Ending → World → Prop} (h : YieldAt Fence.wide m P l args W R) : YieldAt Fence.wide m' P l args W R := yield_any rfl m' h

theorem tallC_any (o : Int) (s z : ByteArray) (k : SS) (a : Option Addr) (n c g : Nat) (w : World) :
    Calls Try.prog 87 #[.agg #[.int .i64 o, .string s, .string z, .slice k.a k.n k.c, .slice a n c], .func (.func 86) #[] #[]] w fun e w' => e = .returned (.func (.func 104) #[] #[.pointer (some ⟨w.heap.size, 0, none⟩), .pointer (some ⟨w.heap.size + 1, 0, none⟩)]) ∧ w' = (w.alloc (.cells #[.int .i64 o, .string s, .string z, .slice k.a k.n k.c, .slice a n c] 46)).alloc (.cells #[.func (.func 86) #[] #[]] 118) := by
  go_enter Try.func87, Try.ntmps87
  go_wp2
  go_ret
  exact ⟨rfl, rfl⟩
set_option maxHeartbeats 2000000 in
theorem allC_stops (F : Cl → Prop) (hFF : ∀ t x, F t → x ∈ subC t → F x) (n : Nat) (p : Int → Bool) (gi B g g2 : Nat) (w0 w : World) (t : Cl) (hFt : F t) (k : SS) (a : Option Addr) (m c : Nat) (hE : EndsOk p gi w) (hA : ArC B w0 t k a m c) (hB : Below B w0 w) (hBw : B ≤ w.heap.size) (hT : CBox w g (opC t) (nmC t) (soC t) k a m c) (hF : Blk w g2 #[.func (.func 86) #[] #[]] 118) :
    SeqStopsK Fence.wide n Try.prog 104 #[.pointer (some ⟨g, 0, none⟩), .pointer (some ⟨g2, 0, none⟩)] (encC (F := F) (B := B) (w0 := w0)) (KpC B) (fun ys => ys.map PtC.t = allP p t) (fun pre => pre.map PtC.t <+: allP p t) (allP p t).length w := fun l J Jx W hW hJ hJx hY h0 => by
  have hY2 : RoundsC F B w0 l (allP p t).length J Jx := fun m pre x W hj hl => yield_any rfl m (hY pre x W hj hl)
  have hv := visitC_any F hFF p gi B w0 l (allP p t).length J Jx _ hJ hY2 t (n - 1) k a m c [] W hFt (hE.keep (KeepC.of_below hW)) hA (hB.trans (hW.mono hBw)) (Nat.le_trans hBw hW.size) h0 (by simp)
  obtain ⟨t0, t1, t2, t3, t4⟩ := (CBox.b hT hW).five
  have f0 := Blk.cell (Blk.below hF hW) 0
  have hdd : ∀ k : Nat, (Fence.wide.depth.isSome = true → 1 ≤ k) := fun k h => by cases h
  clear hY hY2 hT hA hJ hJx h0 hF hE
  refine callsIn_of_wp Try.func104 rfl trivial ?_ rfl
  simp only [Try.ntmps104, List.size_toArray, List.length_cons, List.length_nil, Nat.reduceAdd, Nat.reduceSub, Array.replicate_succ, Array.replicate_zero, List.push_toArray, List.append_toArray, List.nil_append, List.cons_append]
  gi_wp2_with ((try refine ⟨trivial, ?_⟩); (try refine ⟨hdd _, ?_⟩); gi_at_call 105; refine hv.mono ?_; clear hv; rintro e W5 (⟨rfl, hz, hk5⟩ | ⟨rfl, hq⟩); all_goals (first | (have Hz := Lib.hid hz; clear hz) | (have Hq := Lib.hid hq; clear hq)))
  · go_end0
    obtain ⟨ys, h1, h2⟩ := Hz.out
    exact ⟨⟨_, rfl⟩, .inl ⟨ys, h1, by simpa using h2⟩⟩
  · go_end0
    obtain ⟨ys, h1, h2⟩ := Hq.out
    exact ⟨⟨_, rfl⟩, .inr ⟨ys, h1, by simpa using h2⟩⟩
theorem subs_any (o : Int) (s z : ByteArray) (k : SS) (a : Option Addr) (n c : Nat) (w : World) :
    Calls Try.prog 86 #[.agg #[.int .i64 o, .string s, .string z, .slice k.a k.n k.c, .slice a n c]] w fun e w' => e = .returned (.slice a n c) ∧ w' = w.alloc (.cells #[.int .i64 o, .string s, .string z, .slice k.a k.n k.c, .slice a n c] 46) := by
  go_enter Try.func86, Try.ntmps86
  go_wp2
  go_ret
  exact ⟨rfl, rfl⟩
def yes : Int → Bool := fun _ => true
theorem kids_yes (t : Cl) : kids yes t = subC t := rfl
theorem ends_subs (W : World) : EndsOk yes 0 W := fun x k a n c W2 hk =>
  (subs_any _ _ _ _ _ _ _ W2).mono fun e W' ⟨h1, h2⟩ => ⟨h1, by rw [h2]; exact World.grownBy_alloc W2 _ none⟩
/-- the blocks that the iterator is made of -/
theorem cbox_all (w : World) (o : Int) (s z : ByteArray) (k : SS) (a : Option Addr) (n c : Nat) :
    ∃ W, ((w.alloc (.cells #[.int .i64 o, .string s, .string z, .slice k.a k.n k.c, .slice a n c] 46)).alloc (.cells #[.int .i64 o, .string s, .string z, .slice k.a k.n k.c, .slice a n c] 46)).alloc (.cells #[.func (.func 86) #[] #[]] 118) = W ∧ Below w.heap.size w W ∧ W.heap.size = w.heap.size + 3 ∧ CBox W (w.heap.size + 1) o s z k a n c ∧ Blk W (w.heap.size + 2) #[.func (.func 86) #[] #[]] 118 := by
  obtain ⟨W2, h2, hb, hs, t1, t2⟩ := cbox2 w o s z k a n c o s z k a n c
  rw [h2]
  refine ⟨_, rfl, bel_alloc hb _, by simp [hs], Blk.alloc t2 _, ?_⟩
  have := Blk.new W2 #[Value.func (.func 86) #[] #[]] 118
  rwa [hs] at this
theorem call_any (o : Int) (s z : ByteArray) (k : SS) (a : Option Addr) (n c : Nat) (w : World) :
    Calls Try.prog 62 #[.agg #[.int .i64 o, .string s, .string z, .slice k.a k.n k.c, .slice a n c]] w fun e w' => e = .returned (.func (.func 104) #[] #[.pointer (some ⟨w.heap.size + 1, 0, none⟩), .pointer (some ⟨w.heap.size + 2, 0, none⟩)]) ∧ w' = ((w.alloc (.cells #[.int .i64 o, .string s, .string z, .slice k.a k.n k.c, .slice a n c] 46)).alloc (.cells #[.int .i64 o, .string s, .string z, .slice k.a k.n k.c, .slice a n c] 46)).alloc (.cells #[.func (.func 86) #[] #[]] 118) := by
  obtain ⟨W1, h1, hb1, hs1, S1⟩ := cbox1 w o s z k a n c
  have c1 := tallC_any o s z k a n c 0 W1
  rw [hs1, Nat.add_assoc] at c1
  rw [h1]
  obtain ⟨s0, s1, s2, s3, s4⟩ := S1.five
  clear S1
  go_enter Try.func62, Try.ntmps62
  go_wp2_with (go_at_call 87; ((with_reducible refine c1.mono ?_); rintro e w1 ⟨rfl, rfl⟩))
  go_ret
  exact ⟨rfl, rfl⟩
end Go.Proofs.Ytacncbkcnhlpcaa.Cs
