/-
  What is proved: package claim's iterator over the parts of a claim, as a loop may range over it.
  What is proved: the first error of one part of a claim, whose terms have few parts, as package claim tells it.
  What is proved: how many parts a claim has, and how deep it is, as package tree tells for few parts.
  What is proved: how deep a claim of few parts is, as package claim tells.
-/
import Derived.Test.YtcigeclnbhcohaaGreatDoorBC
import Derived.Test.YtcigeclnbhcohaaGreatDoorBT
import Derived.Test.YtcigeclnbhcohaaGreatDoorZRgtQ
import Derived.Test.YtcigeclnbhcohaaGreatDoorBD
import Derived.Test.YtcigeclnbhcohaaGreatDoorBR
namespace Go.Proofs.YtcigeclnbhcohaaGreatDoor.Cs
open Go.RowKit Go.Shelf L T C
set_option linter.unusedVariables false
set_option linter.unusedSimpArgs false
attribute [local go_sem] Oper.semAt_some

/-! parts, below those that p tells by their Op alone -/
def kids (p : Int → Bool) (t : Cl) : List Cl := if p (opC t) then subC t else []
mutual
def allP (p : Int → Bool) : Cl → List Cl
  | .mk o s z ts l => .mk o s z ts l :: (if p o then allPs p l else [])
def allPs (p : Int → Bool) : List Cl → List Cl
  | [] => []
  | t :: l => allP p t ++ allPs p l
end
theorem allP_mk (p : Int → Bool) (t : Cl) : allP p t = t :: allPs p (kids p t) := by
  cases t with
  | mk o s z ts l => rw [allP]; unfold kids; show _ = _ :: allPs p (if p o then l else []); split <;> rfl
theorem allPs_app (p : Int → Bool) (l m : List Cl) : allPs p (l ++ m) = allPs p l ++ allPs p m := by
  induction l with
  | nil => rfl
  | cons t l ih => rw [List.cons_append, allPs, allPs, ih, List.append_assoc]
theorem allPs_pre {p : Int → Bool} {t : Cl} {l : List Cl} {k : Nat} (h : l[k]? = some t) : allPs p (l.take k) ++ allP p t <+: allPs p l := by
  have := allPs_app p (l.take (k + 1)) (l.drop (k + 1))
  rw [List.take_append_drop, take_c h, allPs_app] at this
  rw [this]
  have e : allPs p [t] = allP p t := by rw [allPs, allPs, List.append_nil]
  rw [e]
  exact List.prefix_append _ _
theorem kids_sub {p : Int → Bool} {t x : Cl} (h : x ∈ kids p t) : x ∈ subC t := by
  unfold kids at h
  split at h
  · exact h
  · cases h
mutual
theorem allP_len (p : Int → Bool) : ∀ t : Cl, (allP p t).length ≤ wt t
  | .mk o s z ts l => by
    rw [allP, wt, List.length_cons]
    have := allPs_len p l
    split
    · omega
    · simp; omega
theorem allPs_len (p : Int → Bool) : ∀ l : List Cl, (allPs p l).length ≤ wts l
  | [] => Nat.le_refl _
  | t :: l => by rw [allPs, wts, List.length_append]; have := allP_len p t; have := allPs_len p l; omega
end

/-! what a round keeps: what lay below n0, and every block that holds one claim -/
def KeepC (W W' : World) : Prop := ∀ (k : Nat) (cs : Array Value), W.heap[k]? = some (.cells cs 33 (0, 0)) → cs.size = 5 → W'.heap[k]? = some (.cells cs 33 (0, 0))
def KpC (n0 : Nat) (W W' : World) : Prop := Below n0 W W' ∧ KeepC W W'
theorem KeepC.refl (W : World) : KeepC W W := fun k cs h _ => h
theorem KeepC.trans {A B C : World} (h : KeepC A B) (k : KeepC B C) : KeepC A C := fun i cs h0 h1 => k i cs (h i cs h0 h1) h1
theorem KeepC.of_below {W W' : World} (h : Below W.heap.size W W') : KeepC W W' := fun k cs h0 _ => (h.block k (Array.getElem?_eq_some_iff.1 h0).1).trans h0
theorem KpC.refl (n0 : Nat) (W : World) : KpC n0 W W := ⟨Below.refl _ _, KeepC.refl _⟩
theorem KpC.trans {n0 : Nat} {A B C : World} (h : KpC n0 A B) (k : KpC n0 B C) : KpC n0 A C := ⟨h.1.trans k.1, h.2.trans k.2⟩
theorem KpC.of_below {n0 : Nat} {W W' : World} (hn : n0 ≤ W.heap.size) (h : Below W.heap.size W W') : KpC n0 W W' := ⟨h.mono hn, KeepC.of_below h⟩
theorem KpC.obj {n0 : Nat} {w : World} (hn : n0 ≤ w.heap.size) (W : World) (l : Nat) (o o' : Obj) (hl : w.heap.size ≤ l) (h : W.heap[l]? = some o) (h1 : o.isCells = false) (h2 : o.isWalk = false) : KpC n0 W (W.putObj l o') :=
  ⟨belowK_b hn W l o o' hl h h1 h2, fun k cs h0 _ => (World.putObj_heap_other (fun e => by subst e; rw [h] at h0; cases h0; cases h1)).trans h0⟩
theorem CBox.keep {W W' : World} {n0 g : Nat} {o : Int} {s z : ByteArray} {k : SS} {a : Option Addr} {n c : Nat} (h : CBox W g o s z k a n c) (hk : KpC n0 W W') : CBox W' g o s z k a n c := hk.2 g _ h rfl
theorem keepC_set {W : World} {g : Nat} {cs : Array Value} {t : TypeId} (h : Blk W g cs t) (hne : cs.size ≠ 5) (k : Nat) (v : Value) : KeepC W (W.setCell ⟨g, k, none⟩ v) := fun i cs2 h0 h1 => by
  refine (heap_setCell_other W ⟨g, k, none⟩ i v (fun e => ?_)).trans h0
  subst e
  rw [show W.heap[i]? = _ from h] at h0
  injection h0 with h0; injection h0 with h0
  exact hne (h0 ▸ h1)
theorem below_none {W W' : World} (h : W.grownBy W' none) : Below W.heap.size W W' := (Below.refl _ W).grown h (Nat.le_refl _) (fun k e => by cases e)

/-- a part of a claim, with where its lists lie -/
structure PtC (F : Cl → Prop) (B : Nat) (w0 : World) where
  t : Cl
  k : SS
  a : Option Addr
  n : Nat
  c : Nat
  ok : ArC B w0 t k a n c
  few : F t
def encC {F : Cl → Prop} {B : Nat} {w0 : World} (x : PtC F B w0) : Array Value := #[.agg #[.int .i64 (opC x.t), .string (nmC x.t), .string (soC x.t), .slice x.k.a x.k.n x.k.c, .slice x.a x.n x.c]]
/-- what a closure of ends returns, in worlds that keep what W1 holds -/
def EndsOk (p : Int → Bool) (g : Nat) (W1 : World) : Prop :=
  ∀ (x : Cl) (k : SS) (a : Option Addr) (n c : Nat) (W : World), KeepC W1 W →
    Calls Tryz.prog 96 #[.agg #[.int .i64 (opC x), .string (nmC x), .string (soC x), .slice k.a k.n k.c, .slice a n c]] W fun e W' => e = .returned (if p (opC x) then .slice a n c else .slice none 0 0) ∧ W.grownBy W' none
theorem EndsOk.keep {p : Int → Bool} {g : Nat} {W1 W2 : World} (h : EndsOk p g W1) (hk : KeepC W1 W2) : EndsOk p g W2 := fun x k a n c W hw => h x k a n c W (hk.trans hw)
/-- what is asked of a round -/
def RoundsC (F : Cl → Prop) (B : Nat) (w0 : World) (l N : Nat) (J Jx : List (PtC F B w0) → World → Prop) : Prop :=
  ∀ m pre x W, J pre W → pre.length < N → YieldAt Fence.wide m Tryz.prog l (encC x) W fun e W' =>
    (e = .returned (.bool true) ∧ J (pre ++ [x]) W' ∧ KpC B W W') ∨ (e = .returned (.bool false) ∧ Jx (pre ++ [x]) W')
/-- the walk, at this claim -/
def VisitOkC (F : Cl → Prop) (p : Int → Bool) (g B : Nat) (w0 : World) (l N : Nat) (J Jx : List (PtC F B w0) → World → Prop) (t : Cl) : Prop :=
  ∀ (n : Nat) (k : SS) (a : Option Addr) (m c : Nat) (pre : List (PtC F B w0)) (W : World), F t → EndsOk p g W → ArC B w0 t k a m c → Below B w0 W → B ≤ W.heap.size → J pre W → pre.length + (allP p t).length ≤ N →
    CallsIn Fence.wide n Tryz.prog 100 #[.agg #[.int .i64 (opC t), .string (nmC t), .string (soC t), .slice k.a k.n k.c, .slice a m c], .func (.func 96) #[] #[], .func (.yield l) #[] #[]] W fun e W' =>
      (e = .returned (.bool true) ∧ (∃ ys, ys.map PtC.t = allP p t ∧ J (pre ++ ys) W') ∧ KpC B W W') ∨ (e = .returned (.bool false) ∧ ∃ q, q.map PtC.t <+: allP p t ∧ Jx (pre ++ q) W')

set_option maxRecDepth 100000 in
set_option maxHeartbeats 4000000 in
theorem visitC_step (F : Cl → Prop) (hF : ∀ t x, F t → x ∈ subC t → F x) (p : Int → Bool) (g B : Nat) (w0 : World) (l N : Nat) (J Jx : List (PtC F B w0) → World → Prop) (b0 : Nat) (hJ : AbidesFrom b0 J) (hY : RoundsC F B w0 l N J Jx) (t : Cl) (hok : ∀ x ∈ subC t, VisitOkC F p g B w0 l N J Jx x) : VisitOkC F p g B w0 l N J Jx t := by
  intro n k a m c pre W hFt hE hA hB hBW hJ0 hN
  obtain ⟨W2, hW2, hB2, hs2, S2⟩ := cbox1 W (opC t) (nmC t) (soC t) k a m c
  have hJ2 : J pre W2 := by rw [← hW2]; exact hJ pre W _ none hJ0 (World.grownBy_alloc W _ none) (fun r e => by cases e)
  have hE2 := hE.keep (KeepC.of_below hB2)
  have hp : 0 < (allP p t).length := by rw [allP_mk]; simp
  obtain ⟨fn, tmps, assign, body, hy, hR⟩ := hY (n - 1) pre ⟨t, k, a, m, c, hA, hFt⟩ W2 hJ2 (by omega)
  dsimp only [encC] at hy
  obtain ⟨s0, s1, s2, s3, s4⟩ := S2.five
  have hKW : KpC B W W2 := KpC.of_below hBW hB2
  have hB02 : Below B w0 W2 := hB.trans hKW.1
  -- what lies below it, as the closure tells
  obtain ⟨a', m', c', hv, hT⟩ : ∃ a' m' c', (if p (opC t) then Value.slice a m c else .slice none 0 0) = .slice a' m' c' ∧ IsC B w0 a' m' c' (kids p t) := by
    unfold kids
    by_cases h : p (opC t) = true
    · rw [if_pos h, if_pos h]; exact ⟨a, m, c, rfl, (ar_isC.1 hA).2⟩
    · rw [if_neg h, if_neg h]; exact ⟨none, 0, 0, rfl, rfl, Nat.le_refl _, Nat.zero_le _, fun _ => rfl, fun h => absurd h (by omega)⟩
  have cE := fun (W' : World) (hk : KeepC W2 W') => hE2 t k a m c W' hk
  rw [hv] at cE
  have hok' : ∀ x ∈ kids p t, VisitOkC F p g B w0 l N J Jx x := fun x hx => hok x (kids_sub hx)
  have hsz : (allP p t).length = 1 + (allPs p (kids p t)).length := by rw [allP_mk, List.length_cons]; omega
  rw [allP_mk]
  clear hok hv
  refine callsIn_of_wp Tryz.func100 rfl trivial ?_ rfl
  simp only [Tryz.ntmps100, List.size_toArray, List.length_cons, List.length_nil, Nat.reduceAdd, Nat.reduceSub, Array.replicate_succ, Array.replicate_zero, List.push_toArray, List.append_toArray, List.nil_append, List.cons_append]
  have hdd : ∀ k : Nat, (Fence.wide.depth.isSome = true → 1 ≤ k) := fun k h => by cases h
  gi_wp2_with (first
    | ((try refine ⟨hdd _, ?_⟩); refine hR.mono ?_; clear hR; rintro e W3 (⟨rfl, hJ3, hk3⟩ | ⟨rfl, hx3⟩); all_goals (try (have hk3' := hk3; obtain ⟨u0, u1, u2, u3, u4⟩ := (CBox.keep S2 hk3).five)))
    | ((try refine ⟨trivial, ?_⟩); (try refine ⟨hdd _, ?_⟩); gi_at_call 96; refine (callsIn_wide.2 (cE W3 hk3.2)).mono ?_; rintro e W3b ⟨rfl, hW3b⟩; have hW3c := Lib.hid hW3b; clear hW3b))
  · have hJ3b : J (pre ++ [⟨t, k, a, m, c, hA, hFt⟩]) W3b := hJ _ W3 _ none hJ3 hW3c.out (fun r e => by cases e)
    have hK3b : KpC B W3 W3b := KpC.of_below (Nat.le_trans hBW (hKW.trans hk3).1.size) (below_none hW3c.out)
    have hE3 := Lib.hid (hE2.keep (hk3.2.trans hK3b.2))
    clear hJ3 hW3c
    have hJ3 := hJ3b
    have hK3 := (hKW.trans hk3).trans hK3b
    clear hJ3b
    have hn : m' ≤ 9223372036854775807 := by have h1 := hT.2.1; have h2 := hT.2.2.1; unfold maxLen at h2; omega
    have hW3 : B ≤ W3b.heap.size := Nat.le_trans hBW hK3.1.size
    have HT := Lib.hid hT
    have HJ := Lib.hid hJ
    have HK := Lib.hid (show ∀ k x, (kids p t)[k]? = some x → VisitOkC F p g B w0 l N J Jx x ∧ F x from fun k x h => ⟨hok' x (List.mem_of_getElem? h), hF t x hFt (kids_sub (List.mem_of_getElem? h))⟩)
    have H0 : Hid (∃ ys : List (PtC F B w0), ys.map PtC.t = t :: allPs p ((kids p t).take 0) ∧ J (pre ++ ys) W3b) := ⟨[⟨t, k, a, m, c, hA, hFt⟩], rfl, hJ3⟩
    clear hT hJ hok' hJ3 hy hW2 s0 s1 s2 s3 s4 u0 u1 u2 u3 u4 S2 hJ2 hJ0 hY hK3b hE hE2 cE
    generalize hla : kids p t = la at *
    have HLa := Lib.hid hla
    clear hla
    generalize opC t = op at *
    generalize nmC t = nm at *
    generalize soC t = nu at *
    gi_loopw [17] (fun i wr0 => ∃ (wr : World) (k : Nat), wr = wr0 ∧ k ≤ m' ∧ i = .int .i64 k ∧ KpC B W3b wr ∧ Hid (∃ ys : List (PtC F B w0), ys.map PtC.t = t :: allPs p (la.take k) ∧ J (pre ++ ys) wr)) (fun i _ => m' - (intOf i).toNat)
    case atStart => exact ⟨_, 0, rfl, by omega, rfl, KpC.refl _ _, H0⟩
    case round =>
      obtain ⟨wr, i, rfl, hk, rfl, hKr, hR⟩ := hrel
      have hBr : Below B w0 wr := (hB.trans hK3.1).trans hKr.1
      have hBs : B ≤ wr.heap.size := Nat.le_trans hW3 hKr.1.size
      by_cases hlt : i < m'
      · obtain ⟨bb, o, x, kk, A, M, Cc, rfl, hb, z0, z1, z2, z3, z4, hx, hok⟩ := HT.out.at hlt
        have y0 := (hBr.cell (p := ⟨bb, _, none⟩) hb).trans z0
        have y1 := (hBr.cell (p := ⟨bb, _, none⟩) hb).trans z1
        have y2 := (hBr.cell (p := ⟨bb, _, none⟩) hb).trans z2
        have y3 := (hBr.cell (p := ⟨bb, _, none⟩) hb).trans z3
        have y4 := (hBr.cell (p := ⟨bb, _, none⟩) hb).trans z4
        obtain ⟨ys, hys, hJr⟩ := hR.out
        have hlen : ys.length = 1 + (allPs p (la.take i)).length := by
          have := congrArg List.length hys
          rw [List.length_map, List.length_cons] at this
          omega
        have hpre := allPs_pre (p := p) hx
        have hlts : (allPs p (la.take i)).length + (allP p x).length ≤ (allPs p la).length := by
          have := hpre.length_le
          rwa [List.length_append] at this
        obtain ⟨W4, hW4, hB4, hs4, S4⟩ := cbox1 wr (opC x) (nmC x) (soC x) kk A M Cc
        have hJ4 : J (pre ++ ys) W4 := by rw [← hW4]; exact HJ.out _ wr _ none hJr (World.grownBy_alloc wr _ none) (fun r e => by cases e)
        have hK4 : KpC B wr W4 := KpC.of_below hBs hB4
        have cv := (HK.out i x hx).1 (n - 1) kk A M Cc (pre ++ ys) W4 (HK.out i x hx).2 (hE3.out.keep (hKr.2.trans hK4.2)) hok (hBr.trans hK4.1) (Nat.le_trans hBs hK4.1.size) hJ4 (by rw [List.length_append]; omega)
        obtain ⟨f0, f1, f2, f3, f4⟩ := S4.five
        have htk := take_c hx
        clear z0 z1 z2 z3 z4 hok hR HK HT HJ S4
        have Hx := Lib.hid hx
        have Hys := Lib.hid hys
        have Hpre := Lib.hid hpre
        have Htk := Lib.hid htk
        clear hx hys hpre htk hJr hJ4
        generalize opC x = op' at *
        generalize nmC x = nm' at *
        generalize soC x = nu' at *
        have hk0 : 0 ≤ (i : Int) := by omega
        have hk1 : (i : Int) < (m' : Int) := by omega
        gi_wp2_with ((try refine ⟨trivial, ?_⟩); (try refine ⟨hdd _, ?_⟩); gi_at_call 100; refine cv.mono ?_; clear cv; rintro e W5 (⟨rfl, hz, hk5⟩ | ⟨rfl, hq⟩); all_goals (first | (have Hz := Lib.hid hz; clear hz) | (have Hq := Lib.hid hq; clear hq)))
        · go_roundw
          case rel => exact ⟨_, i + 1, rfl, by omega, by go_num, (hKr.trans hK4).trans hk5, by
            obtain ⟨zs, h1, h2⟩ := Hz.out
            refine ⟨ys ++ zs, ?_, by rw [← List.append_assoc]; exact h2⟩
            rw [List.map_append, Hys.out, h1, Htk.out, allPs_app, List.cons_append]
            rw [show allPs p [x] = allP p x by rw [allPs, allPs, List.append_nil]]⟩
          case measure => simp [intOf]; omega
        · go_ret
          refine .inr ⟨rfl, ?_⟩
          rw [HLa.out]
          obtain ⟨q, h1, h2⟩ := Hq.out
          refine ⟨ys ++ q, ?_, by rw [← List.append_assoc]; exact h2⟩
          rw [List.map_append, Hys.out, List.cons_append]
          obtain ⟨r1, h3⟩ := h1
          obtain ⟨r2, h4⟩ := Hpre.out
          exact ⟨r1 ++ r2, by rw [← h4, ← h3]; simp⟩
      · obtain rfl : i = m' := by omega
        have hR2 : Hid (∃ ys : List (PtC F B w0), ys.map PtC.t = t :: allPs p la ∧ J (pre ++ ys) wr) := by
          obtain ⟨ys, h1, h2⟩ := hR.out
          exact ⟨ys, by rw [h1, List.take_of_length_le (by have := HT.out.1; omega)], h2⟩
        clear hR
        gi_wp2
        go_ret
        exact .inl ⟨rfl, by rw [HLa.out]; exact hR2.out, hK3.trans hKr⟩
  · go_ret
    exact .inr ⟨rfl, [⟨t, k, a, m, c, hA, hFt⟩], ⟨_, by rw [List.map_singleton, List.singleton_append]⟩, hx3⟩
theorem visitC_any (F : Cl → Prop) (hF : ∀ t x, F t → x ∈ subC t → F x) (p : Int → Bool) (g B : Nat) (w0 : World) (l N : Nat) (J Jx : List (PtC F B w0) → World → Prop) (b0 : Nat) (hJ : AbidesFrom b0 J) (hY : RoundsC F B w0 l N J Jx) (t : Cl) : VisitOkC F p g B w0 l N J Jx t :=
  Cl.ind (visitC_step F hF p g B w0 l N J Jx b0 hJ hY) t
theorem yieldC_any {m : Nat} (m' : Nat) {P : Program} {l : Nat} {args : Array Value} {W : World} {R : Ending → World → Prop} (h : YieldAt Fence.wide m P l args W R) : YieldAt Fence.wide m' P l args W R := yield_any rfl m' h

theorem tallC_any (o : Int) (s z : ByteArray) (k : SS) (a : Option Addr) (n c g : Nat) (w : World) :
    Calls Tryz.prog 70 #[.agg #[.int .i64 o, .string s, .string z, .slice k.a k.n k.c, .slice a n c], .func (.func 96) #[] #[]] w fun e w' => e = .returned (.func (.func 99) #[] #[.pointer (some ⟨w.heap.size, 0, none⟩), .pointer (some ⟨w.heap.size + 1, 0, none⟩)]) ∧ w' = (w.alloc (.cells #[.int .i64 o, .string s, .string z, .slice k.a k.n k.c, .slice a n c] 33)).alloc (.cells #[.func (.func 96) #[] #[]] 97) := by
  go_enter Tryz.func70, Tryz.ntmps70
  go_wp2
  go_ret
  exact ⟨rfl, rfl⟩
set_option maxHeartbeats 2000000 in
theorem allC_stops (F : Cl → Prop) (hFF : ∀ t x, F t → x ∈ subC t → F x) (n : Nat) (p : Int → Bool) (gi B g g2 : Nat) (w0 w : World) (t : Cl) (hFt : F t) (k : SS) (a : Option Addr) (m c : Nat) (hE : EndsOk p gi w) (hA : ArC B w0 t k a m c) (hB : Below B w0 w) (hBw : B ≤ w.heap.size) (hT : CBox w g (opC t) (nmC t) (soC t) k a m c) (hF : Blk w g2 #[.func (.func 96) #[] #[]] 97) :
    SeqStopsK Fence.wide n Tryz.prog 99 #[.pointer (some ⟨g, 0, none⟩), .pointer (some ⟨g2, 0, none⟩)] (encC (F := F) (B := B) (w0 := w0)) (KpC B) (fun ys => ys.map PtC.t = allP p t) (fun pre => pre.map PtC.t <+: allP p t) (allP p t).length w := fun l J Jx W hW hJ hJx hY h0 => by
  have hY2 : RoundsC F B w0 l (allP p t).length J Jx := fun m pre x W hj hl => yield_any rfl m (hY pre x W hj hl)
  have hv := visitC_any F hFF p gi B w0 l (allP p t).length J Jx _ hJ hY2 t (n - 1) k a m c [] W hFt (hE.keep (KeepC.of_below hW)) hA (hB.trans (hW.mono hBw)) (Nat.le_trans hBw hW.size) h0 (by simp)
  obtain ⟨t0, t1, t2, t3, t4⟩ := (CBox.b hT hW).five
  have f0 := Blk.cell (Blk.below hF hW) 0
  have hdd : ∀ k : Nat, (Fence.wide.depth.isSome = true → 1 ≤ k) := fun k h => by cases h
  clear hY hY2 hT hA hJ hJx h0 hF hE
  refine callsIn_of_wp Tryz.func99 rfl trivial ?_ rfl
  simp only [Tryz.ntmps99, List.size_toArray, List.length_cons, List.length_nil, Nat.reduceAdd, Nat.reduceSub, Array.replicate_succ, Array.replicate_zero, List.push_toArray, List.append_toArray, List.nil_append, List.cons_append]
  gi_wp2_with ((try refine ⟨trivial, ?_⟩); (try refine ⟨hdd _, ?_⟩); gi_at_call 100; refine hv.mono ?_; clear hv; rintro e W5 (⟨rfl, hz, hk5⟩ | ⟨rfl, hq⟩); all_goals (first | (have Hz := Lib.hid hz; clear hz) | (have Hq := Lib.hid hq; clear hq)))
  · go_end0
    obtain ⟨ys, h1, h2⟩ := Hz.out
    exact ⟨⟨_, rfl⟩, .inl ⟨ys, h1, by simpa using h2⟩⟩
  · go_end0
    obtain ⟨ys, h1, h2⟩ := Hq.out
    exact ⟨⟨_, rfl⟩, .inr ⟨ys, h1, by simpa using h2⟩⟩
theorem subs_any (o : Int) (s z : ByteArray) (k : SS) (a : Option Addr) (n c : Nat) (w : World) :
    Calls Tryz.prog 96 #[.agg #[.int .i64 o, .string s, .string z, .slice k.a k.n k.c, .slice a n c]] w fun e w' => e = .returned (.slice a n c) ∧ w' = w.alloc (.cells #[.int .i64 o, .string s, .string z, .slice k.a k.n k.c, .slice a n c] 33) := by
  go_enter Tryz.func96, Tryz.ntmps96
  go_wp2
  go_ret
  exact ⟨rfl, rfl⟩
def yes : Int → Bool := fun _ => true
theorem kids_yes (t : Cl) : kids yes t = subC t := rfl
theorem ends_subs (W : World) : EndsOk yes 0 W := fun x k a n c W2 hk =>
  (subs_any _ _ _ _ _ _ _ W2).mono fun e W' ⟨h1, h2⟩ => ⟨h1, by rw [h2]; exact World.grownBy_alloc W2 _ none⟩
/-- the blocks that the iterator is made of -/
theorem cbox_all (w : World) (o : Int) (s z : ByteArray) (k : SS) (a : Option Addr) (n c : Nat) :
    ∃ W, ((w.alloc (.cells #[.int .i64 o, .string s, .string z, .slice k.a k.n k.c, .slice a n c] 33)).alloc (.cells #[.int .i64 o, .string s, .string z, .slice k.a k.n k.c, .slice a n c] 33)).alloc (.cells #[.func (.func 96) #[] #[]] 97) = W ∧ Below w.heap.size w W ∧ W.heap.size = w.heap.size + 3 ∧ CBox W (w.heap.size + 1) o s z k a n c ∧ Blk W (w.heap.size + 2) #[.func (.func 96) #[] #[]] 97 := by
  obtain ⟨W2, h2, hb, hs, t1, t2⟩ := cbox2 w o s z k a n c o s z k a n c
  rw [h2]
  refine ⟨_, rfl, bel_alloc hb _, by simp [hs], Blk.alloc t2 _, ?_⟩
  have := Blk.new W2 #[Value.func (.func 96) #[] #[]] 97
  rwa [hs] at this
theorem call_any (o : Int) (s z : ByteArray) (k : SS) (a : Option Addr) (n c : Nat) (w : World) :
    Calls Tryz.prog 68 #[.agg #[.int .i64 o, .string s, .string z, .slice k.a k.n k.c, .slice a n c]] w fun e w' => e = .returned (.func (.func 99) #[] #[.pointer (some ⟨w.heap.size + 1, 0, none⟩), .pointer (some ⟨w.heap.size + 2, 0, none⟩)]) ∧ w' = ((w.alloc (.cells #[.int .i64 o, .string s, .string z, .slice k.a k.n k.c, .slice a n c] 33)).alloc (.cells #[.int .i64 o, .string s, .string z, .slice k.a k.n k.c, .slice a n c] 33)).alloc (.cells #[.func (.func 96) #[] #[]] 97) := by
  obtain ⟨W1, h1, hb1, hs1, S1⟩ := cbox1 w o s z k a n c
  have c1 := tallC_any o s z k a n c 0 W1
  rw [hs1, Nat.add_assoc] at c1
  rw [h1]
  obtain ⟨s0, s1, s2, s3, s4⟩ := S1.five
  clear S1
  go_enter Tryz.func68, Tryz.ntmps68
  go_wp2_with (go_at_call 70; ((with_reducible refine c1.mono ?_); rintro e w1 ⟨rfl, rfl⟩))
  go_ret
  exact ⟨rfl, rfl⟩
end Go.Proofs.YtcigeclnbhcohaaGreatDoor.Cs
namespace Go.Proofs.YtcigeclnbhcohaaGreatDoor.Cs
open Go.RowKit L T C
set_option linter.unusedVariables false
set_option linter.unusedSimpArgs false

theorem takesC_any (op : Int) (nt ns : Nat) (w : World) :
    Calls Tryz.prog 98 #[.int .i64 op, .int .i64 nt, .int .i64 ns] w fun e w' => e = .returned (.bool (!arityC op nt ns)) ∧ w = w' := by
  have hop : op = 3 ∨ (op = 4 ∨ op = 5) ∨ (op = 6 ∨ op = 11 ∨ op = 12) ∨ (op = 7 ∨ op = 8 ∨ op = 9 ∨ op = 10) ∨ (op ≠ 3 ∧ op ≠ 4 ∧ op ≠ 5 ∧ op ≠ 6 ∧ op ≠ 11 ∧ op ≠ 12 ∧ op ≠ 7 ∧ op ≠ 8 ∧ op ≠ 9 ∧ op ≠ 10) := by omega
  rcases hop with rfl | h | h | h | ⟨n3, n4, n5, n6, n11, n12, n7, n8, n9, n10⟩
  · by_cases ha : nt ≤ 8
    · by_cases hb : ns = 0
      · have hr : Hid (true = (!arityC 3 nt ns)) := Lib.hid (by unfold arityC; simp [hb]; omega)
        have ha1 : (nt : Int) ≤ 8 := by omega
        have hb1 : ((ns : Int) == 0) = true := by simp [hb]
        generalize (!arityC 3 nt ns) = R at *
        clear ha hb
        go_enter Tryz.func98, Tryz.ntmps98
        go_wp2
        go_ret
        exact ⟨oneB hr.out, rfl⟩
      · have hr : Hid (false = (!arityC 3 nt ns)) := Lib.hid (by unfold arityC; simp; omega)
        have ha1 : (nt : Int) ≤ 8 := by omega
        have hb1 : ((ns : Int) == 0) = false := by simp; omega
        generalize (!arityC 3 nt ns) = R at *
        clear ha hb
        go_enter Tryz.func98, Tryz.ntmps98
        go_wp2
        go_ret
        exact ⟨oneB hr.out, rfl⟩
    · have hr : Hid (false = (!arityC 3 nt ns)) := Lib.hid (by unfold arityC; simp; omega)
      have ha1 : ¬ (nt : Int) ≤ 8 := by omega
      generalize (!arityC 3 nt ns) = R at *
      clear ha
      go_enter Tryz.func98, Tryz.ntmps98
      go_wp2
      go_ret
      exact ⟨oneB hr.out, rfl⟩
  · have hr : Hid ((decide (nt = 2) && decide (ns = 0)) = (!arityC op nt ns)) := Lib.hid (by rcases h with rfl | rfl <;> (unfold arityC wantT wantS; rw [Bool.eq_iff_iff]; simp [bne]))
    generalize (!arityC op nt ns) = R at *
    by_cases ha : nt = 2
    · have ha1 : ((nt : Int) == 2) = true := by simp [ha]
      by_cases hb : ns = 0
      · have hb1 : ((ns : Int) == 0) = true := by simp [hb]
        have hr2 : Hid (true = R) := Lib.hid (by rw [← hr.out, ha, hb]; rfl)
        clear ha hb hr
        rcases h with rfl | rfl <;>
        (go_enter Tryz.func98, Tryz.ntmps98
         go_wp2
         go_ret
         exact ⟨oneB hr2.out, rfl⟩)
      · have hb1 : ((ns : Int) == 0) = false := by simp; omega
        have hr2 : Hid (false = R) := Lib.hid (by rw [← hr.out]; simp [hb])
        clear ha hb hr
        rcases h with rfl | rfl <;>
        (go_enter Tryz.func98, Tryz.ntmps98
         go_wp2
         go_ret
         exact ⟨oneB hr2.out, rfl⟩)
    · have ha1 : ((nt : Int) == 2) = false := by simp; omega
      have hr2 : Hid (false = R) := Lib.hid (by rw [← hr.out]; simp [ha])
      clear ha hr
      rcases h with rfl | rfl <;>
      (go_enter Tryz.func98, Tryz.ntmps98
       go_wp2
       go_ret
       exact ⟨oneB hr2.out, rfl⟩)
  · have hr : Hid ((decide (nt = 0) && decide (ns = 1)) = (!arityC op nt ns)) := Lib.hid (by rcases h with rfl | rfl | rfl <;> (unfold arityC wantT wantS; rw [Bool.eq_iff_iff]; simp [bne]))
    generalize (!arityC op nt ns) = R at *
    by_cases ha : nt = 0
    · have ha1 : ((nt : Int) == 0) = true := by simp [ha]
      by_cases hb : ns = 1
      · have hb1 : ((ns : Int) == 1) = true := by simp [hb]
        have hr2 : Hid (true = R) := Lib.hid (by rw [← hr.out, ha, hb]; rfl)
        clear ha hb hr
        rcases h with rfl | rfl | rfl <;>
        (go_enter Tryz.func98, Tryz.ntmps98
         go_wp2
         go_ret
         exact ⟨oneB hr2.out, rfl⟩)
      · have hb1 : ((ns : Int) == 1) = false := by simp; omega
        have hr2 : Hid (false = R) := Lib.hid (by rw [← hr.out]; simp [hb])
        clear ha hb hr
        rcases h with rfl | rfl | rfl <;>
        (go_enter Tryz.func98, Tryz.ntmps98
         go_wp2
         go_ret
         exact ⟨oneB hr2.out, rfl⟩)
    · have ha1 : ((nt : Int) == 0) = false := by simp; omega
      have hr2 : Hid (false = R) := Lib.hid (by rw [← hr.out]; simp [ha])
      clear ha hr
      rcases h with rfl | rfl | rfl <;>
      (go_enter Tryz.func98, Tryz.ntmps98
       go_wp2
       go_ret
       exact ⟨oneB hr2.out, rfl⟩)
  · have hr : Hid ((decide (nt = 0) && decide (ns = 2)) = (!arityC op nt ns)) := Lib.hid (by rcases h with rfl | rfl | rfl | rfl <;> (unfold arityC wantT wantS; rw [Bool.eq_iff_iff]; simp [bne]))
    generalize (!arityC op nt ns) = R at *
    by_cases ha : nt = 0
    · have ha1 : ((nt : Int) == 0) = true := by simp [ha]
      by_cases hb : ns = 2
      · have hb1 : ((ns : Int) == 2) = true := by simp [hb]
        have hr2 : Hid (true = R) := Lib.hid (by rw [← hr.out, ha, hb]; rfl)
        clear ha hb hr
        rcases h with rfl | rfl | rfl | rfl <;>
        (go_enter Tryz.func98, Tryz.ntmps98
         go_wp2
         go_ret
         exact ⟨oneB hr2.out, rfl⟩)
      · have hb1 : ((ns : Int) == 2) = false := by simp; omega
        have hr2 : Hid (false = R) := Lib.hid (by rw [← hr.out]; simp [hb])
        clear ha hb hr
        rcases h with rfl | rfl | rfl | rfl <;>
        (go_enter Tryz.func98, Tryz.ntmps98
         go_wp2
         go_ret
         exact ⟨oneB hr2.out, rfl⟩)
    · have ha1 : ((nt : Int) == 0) = false := by simp; omega
      have hr2 : Hid (false = R) := Lib.hid (by rw [← hr.out]; simp [ha])
      clear ha hr
      rcases h with rfl | rfl | rfl | rfl <;>
      (go_enter Tryz.func98, Tryz.ntmps98
       go_wp2
       go_ret
       exact ⟨oneB hr2.out, rfl⟩)
  · have hr : Hid ((decide (nt = 0) && decide (ns = 0)) = (!arityC op nt ns)) := Lib.hid (by
      have e1 : wantT op = 0 := by unfold wantT; rw [if_neg (by omega)]
      have e2 : wantS op = 0 := by unfold wantS; rw [if_neg (by omega), if_neg (by omega)]
      unfold arityC
      rw [if_neg n3, e1, e2]
      rw [Bool.eq_iff_iff]; simp [bne])
    generalize (!arityC op nt ns) = R at *
    have q3 := beq_no' n3
    have q4 := beq_no' n4
    have q5 := beq_no' n5
    have q6 := beq_no' n6
    have q11 := beq_no' n11
    have q12 := beq_no' n12
    have q7 := beq_no' n7
    have q8 := beq_no' n8
    have q9 := beq_no' n9
    have q10 := beq_no' n10
    clear n3 n4 n5 n6 n11 n12 n7 n8 n9 n10
    by_cases ha : nt = 0
    · have ha1 : ((nt : Int) == 0) = true := by simp [ha]
      by_cases hb : ns = 0
      · have hb1 : ((ns : Int) == 0) = true := by simp [hb]
        have hr2 : Hid (true = R) := Lib.hid (by rw [← hr.out, ha, hb]; rfl)
        clear ha hb hr
        go_enter Tryz.func98, Tryz.ntmps98
        go_wp2
        go_ret
        exact ⟨oneB hr2.out, rfl⟩
      · have hb1 : ((ns : Int) == 0) = false := by simp; omega
        have hr2 : Hid (false = R) := Lib.hid (by rw [← hr.out]; simp [hb])
        clear ha hb hr
        go_enter Tryz.func98, Tryz.ntmps98
        go_wp2
        go_ret
        exact ⟨oneB hr2.out, rfl⟩
    · have ha1 : ((nt : Int) == 0) = false := by simp; omega
      have hr2 : Hid (false = R) := Lib.hid (by rw [← hr.out]; simp [ha])
      clear ha hr
      go_enter Tryz.func98, Tryz.ntmps98
      go_wp2
      go_ret
      exact ⟨oneB hr2.out, rfl⟩
theorem bindsC_any (op : Int) (s z : ByteArray) (ks : SS) (a : Option Addr) (n c : Nat) (w : World) :
    Calls Tryz.prog 97 #[.agg #[.int .i64 op, .string s, .string z, .slice ks.a ks.n ks.c, .slice a n c]] w fun e w' => e = .returned (.bool (op == 11 || op == 12)) ∧ Below w.heap.size w w' := by
  obtain ⟨W2, hW2, hB2, hs2, S2⟩ := cbox1 w op s z ks a n c
  obtain ⟨s0, s1, s2, s3, s4⟩ := S2.five
  clear S2
  cases h1 : op == 11 with
  | true =>
    go_enter Tryz.func97, Tryz.ntmps97
    go_wp2
    go_ret
    exact ⟨rfl, hB2⟩
  | false =>
    cases h2 : op == 12 with
    | true =>
      go_enter Tryz.func97, Tryz.ntmps97
      go_wp2
      go_ret
      exact ⟨rfl, hB2⟩
    | false =>
      go_enter Tryz.func97, Tryz.ntmps97
      go_wp2
      go_ret
      exact ⟨rfl, hB2⟩
end Go.Proofs.YtcigeclnbhcohaaGreatDoor.Cs
namespace Go.Proofs.YtcigeclnbhcohaaGreatDoor.Cs
open Go.RowKit Go.Shelf L T C
set_option linter.unusedVariables false
set_option linter.unusedSimpArgs false
attribute [local go_sem] Oper.semAt_some

mutual
def szC : Cl → Nat
  | .mk _ _ _ _ l => 1 + szCs l
def szCs : List Cl → Nat
  | [] => 0
  | t :: l => szC t + szCs l
end
theorem szCs_app (l m : List Cl) : szCs (l ++ m) = szCs l + szCs m := by
  induction l with
  | nil => rw [List.nil_append, szCs]; omega
  | cons t l ih => rw [List.cons_append, szCs, szCs, ih]; omega
theorem szCs_lt {t : Cl} {l : List Cl} {k : Nat} (h : l[k]? = some t) : szCs (l.take k) + szC t ≤ szCs l := by
  have e := szCs_app (l.take k) (l.drop k)
  rw [List.take_append_drop, drop_c h, szCs] at e
  omega
theorem szC_mk (t : Cl) : szC t = 1 + szCs (subC t) := by cases t; rw [szC]; rfl
theorem few1_any (g : Nat) (o : Int) (s z : ByteArray) (ks : SS) (a : Option Addr) (m c q : Nat) (W : World) (hq : q ≤ 4096) (hg : Blk W g #[.int .i64 q] 3) :
    Calls Tryz.prog 140 #[.agg #[.int .i64 o, .string s, .string z, .slice ks.a ks.n ks.c, .slice a m c], .pointer (some ⟨g, 0, none⟩)] W fun e W' => e = .returned (.bool (decide (q + 1 ≤ 4096))) ∧ Blk W' g #[.int .i64 (q + 1)] 3 ∧ W.grownBy W' (some g) := by
  have hg2 := Blk.alloc hg (.cells #[.int .i64 o, .string s, .string z, .slice ks.a ks.n ks.c, .slice a m c] 33)
  obtain ⟨W2, hW2⟩ : ∃ W2, W.alloc (.cells #[.int .i64 o, .string s, .string z, .slice ks.a ks.n ks.c, .slice a m c] 33) = W2 := ⟨_, rfl⟩
  have hgr : W.grownBy W2 (some g) := by rw [← hW2]; exact World.grownBy_alloc W _ _
  rw [hW2] at hg2
  have c0 := Blk.cell hg2 0
  have q0 := Blk.free hg2 0
  have hs := blk_cell_set hg2 (.int .i64 ((q : Int) + 1))
  have c1 := Blk.cell hs 0
  have he : decide ((q : Int) + 1 ≤ 4096) = decide (q + 1 ≤ 4096) := by rw [decide_eq_decide]; omega
  have He := Lib.hid he
  clear he
  go_enter Tryz.func140, Tryz.ntmps140
  go_wp2
  go_ret
  exact ⟨oneB He.out, hs, gr_set hgr _ _⟩

def VisitCntOk (B : Nat) (w0 : World) (g : Nat) (t : Cl) : Prop :=
  ∀ (ks : SS) (a : Option Addr) (m c q : Nat) (W : World), ArC B w0 t ks a m c → Below B w0 W → B ≤ g → q ≤ 4096 → Blk W g #[.int .i64 q] 3 →
    Calls Tryz.prog 100 #[.agg #[.int .i64 (opC t), .string (nmC t), .string (soC t), .slice ks.a ks.n ks.c, .slice a m c], .func (.func 96) #[] #[], .func (.func 140) #[] #[.pointer (some ⟨g, 0, none⟩)]] W fun e W' =>
      W.grownBy W' (some g) ∧ ((q + szC t ≤ 4096 ∧ e = .returned (.bool true) ∧ Blk W' g #[.int .i64 ((q + szC t : Nat) : Int)] 3) ∨ (4096 < q + szC t ∧ e = .returned (.bool false) ∧ Blk W' g #[.int .i64 4097] 3))

set_option maxRecDepth 100000 in
set_option maxHeartbeats 4000000 in
theorem visitCnt_step (B : Nat) (w0 : World) (g : Nat) (t : Cl) (hok : ∀ x ∈ subC t, VisitCntOk B w0 g x) : VisitCntOk B w0 g t := by
  intro ks a m c q W hA hB hBg hq hgb
  obtain ⟨W2, hW2, hB2, hs2, S2⟩ := cbox1 W (opC t) (nmC t) (soC t) ks a m c
  have hlt := Blk.lt hgb
  have hg2 := Blk.below hgb hB2
  have c1 := few1_any g (opC t) (nmC t) (soC t) ks a m c q W2 hq hg2
  have hgr2 : W.grownBy W2 (some g) := by rw [← hW2]; exact World.grownBy_alloc W _ _
  have hT := (ar_isC.1 hA).2
  have hsz : szC t = 1 + szCs (subC t) := by cases t; rw [szC]; rfl
  obtain ⟨s0, s1, s2, s3, s4⟩ := S2.five
  by_cases hq6 : q = 4096
  · subst hq6
    clear hT hA hok hg2
    generalize opC t = op at *
    generalize nmC t = nm at *
    generalize soC t = nu at *
    go_enter Tryz.func100, Tryz.ntmps100
    go_wp2_with (go_at_call 140; ((with_reducible refine c1.mono ?_); rintro e W3 ⟨rfl, hg3, hgr3⟩))
    go_ret
    exact ⟨hgr2.trans hgr3, .inr ⟨by omega, rfl, hg3⟩⟩
  · have hq7 : decide (q + 1 ≤ 4096) = true := by simp; omega
    rw [hq7] at c1
    have hn : m ≤ 9223372036854775807 := by have h1 := hT.2.1; have h2 := hT.2.2.1; unfold maxLen at h2; omega
    have HT := Lib.hid hT
    have HK := Lib.hid (show ∀ k x, (subC t)[k]? = some x → VisitCntOk B w0 g x from fun k x h => hok x (List.mem_of_getElem? h))
    have HS := Lib.hid S2
    have hne : W.heap.size ≠ g := by omega
    have HSZ := Lib.hid hsz
    clear hT hA hok hg2 hq7 hsz S2
    generalize hla : subC t = la at *
    have HLa := Lib.hid hla
    clear hla
    generalize opC t = op at *
    generalize nmC t = nm at *
    generalize soC t = nu at *
    generalize szC t = sz at *
    go_enter Tryz.func100, Tryz.ntmps100
    go_wp2_with (first
      | (go_at_call 140; ((with_reducible refine c1.mono ?_); rintro e W3 ⟨rfl, hg3, hgr3⟩; obtain ⟨u0, u1, u2, u3, u4⟩ := CBox.five (gr_blk HS.out hgr3 hne)))
      | (go_at_call 96; ((with_reducible refine (subs_any _ _ _ _ _ _ _ W3).mono ?_); rintro e W3b ⟨rfl, hW3b⟩; have HW3 := Lib.hid hW3b; clear hW3b)))
    have hgr3b : W.grownBy W3b (some g) := by rw [HW3.out]; exact gr_alloc (hgr2.trans hgr3) _
    have hg3b : Blk W3b g #[.int .i64 ((q + 1 : Nat) : Int)] 3 := by rw [HW3.out]; exact Blk.alloc (by simpa using hg3) _
    clear HW3
    go_loopw [17] (fun i wr0 => ∃ (wr : World) (k : Nat), wr = wr0 ∧ k ≤ m ∧ i = .int .i64 k ∧ W.grownBy wr (some g) ∧ q + 1 + szCs (la.take k) ≤ 4096 ∧ Blk wr g #[.int .i64 ((q + 1 + szCs (la.take k) : Nat) : Int)] 3) (fun i _ => m - (intOf i).toNat)
    case atStart => exact ⟨_, 0, rfl, by omega, rfl, hgr3b, by simp [szCs]; omega, by simpa [szCs] using hg3b⟩
    case round =>
      obtain ⟨wr, k, rfl, hk, rfl, hGr, hqk, hgk⟩ := hrel
      have hBr : Below B w0 wr := hB.trans (gr_below hGr (by omega) hBg)
      by_cases hlk : k < m
      · obtain ⟨bb, o, x, kk, A, M, Cc, rfl, hb, z0, z1, z2, z3, z4, hx, hok⟩ := HT.out.at hlk
        have y0 := (hBr.cell (p := ⟨bb, _, none⟩) hb).trans z0
        have y1 := (hBr.cell (p := ⟨bb, _, none⟩) hb).trans z1
        have y2 := (hBr.cell (p := ⟨bb, _, none⟩) hb).trans z2
        have y3 := (hBr.cell (p := ⟨bb, _, none⟩) hb).trans z3
        have y4 := (hBr.cell (p := ⟨bb, _, none⟩) hb).trans z4
        obtain ⟨W4, hW4, hB4, hs4, S4⟩ := cbox1 wr (opC x) (nmC x) (soC x) kk A M Cc
        have hgr4 : wr.grownBy W4 (some g) := by rw [← hW4]; exact World.grownBy_alloc wr _ _
        have cv := HK.out k x hx kk A M Cc (q + 1 + szCs (la.take k)) W4 hok (hBr.trans (hB4.mono (by have := hGr.size; omega))) hBg hqk (Blk.below hgk hB4)
        have hlts := szCs_lt hx
        have htk : szCs (la.take (k + 1)) = szCs (la.take k) + szC x := by rw [take_c hx, szCs_app, szCs, szCs]; omega
        obtain ⟨f0, f1, f2, f3, f4⟩ := S4.five
        have HG := Lib.hid hgk
        have HTk := Lib.hid htk
        clear z0 z1 z2 z3 z4 hok HK HT S4 hgk htk
        have Hx := Lib.hid hx
        clear hx
        generalize opC x = op' at *
        generalize nmC x = nm' at *
        generalize soC x = nu' at *
        generalize szC x = sx at *
        have hk0 : 0 ≤ (k : Int) := by omega
        have hk1 : (k : Int) < (m : Int) := by omega
        generalize hsk : szCs (la.take k) = sk at *
        go_wp2_with (go_at_call 100; ((with_reducible refine cv.mono ?_); rintro e W5 ⟨hgr5, (⟨hle, rfl, hb5⟩ | ⟨hgt, rfl, hb5⟩)⟩; all_goals (have Hb := Lib.hid hb5; clear hb5)))
        · go_roundw
          case rel => exact ⟨_, k + 1, rfl, by omega, by go_num, (hGr.trans hgr4).trans hgr5, by rw [HTk.out]; omega, by
            rw [HTk.out, show q + 1 + (sk + sx) = q + 1 + sk + sx by omega]; exact Hb.out⟩
          case measure => simp [intOf]; omega
        · go_ret
          refine ⟨(hGr.trans hgr4).trans hgr5, .inr ⟨?_, rfl, Hb.out⟩⟩
          have := HSZ.out
          omega
      · obtain rfl : k = m := by omega
        have hfin : q + sz = q + 1 + szCs (la.take k) := by
          rw [HSZ.out, List.take_of_length_le (by have := HT.out.1; omega)]; omega
        have Hf := Lib.hid hfin
        have HG := Lib.hid hgk
        clear hfin hgk
        go_wp2
        go_ret
        exact ⟨hGr, .inl ⟨by rw [Hf.out]; exact hqk, rfl, by rw [Hf.out]; exact HG.out⟩⟩
theorem visitCnt_any (B : Nat) (w0 : World) (g : Nat) (t : Cl) : VisitCntOk B w0 g t := Cl.ind (visitCnt_step B w0 g) t
set_option maxHeartbeats 4000000 in
theorem few_any (t : Cl) (ks : SS) (a : Option Addr) (m c : Nat) (w : World) (hA : ArWC w t ks a m c) :
    Calls Tryz.prog 117 #[.agg #[.int .i64 (opC t), .string (nmC t), .string (soC t), .slice ks.a ks.n ks.c, .slice a m c], .func (.func 96) #[] #[]] w fun e w' => e = .returned (.bool (decide (szC t ≤ 4096))) ∧ Below w.heap.size w w' := by
  obtain ⟨W2, hW2, hB2, hs2, S2⟩ := cbox1 w (opC t) (nmC t) (soC t) ks a m c
  obtain ⟨W1, hW1⟩ : ∃ W1, W2.alloc (.cells #[.int .i64 0] 3) = W1 := ⟨_, rfl⟩
  have hB1 : Below W2.heap.size W2 W1 := by rw [← hW1]; exact bel_alloc (Below.refl _ _) _
  have hg1 : Blk W1 (w.heap.size + 1) #[.int .i64 0] 3 := by rw [← hW1, ← hs2]; exact Blk.new W2 _ _
  have k1 := Blk.cell hg1 0
  have k2 := Blk.free hg1 0
  obtain ⟨W3, hW3⟩ : ∃ W3, W1.setCell ⟨w.heap.size + 1, 0, none⟩ (.int .i64 0) = W3 := ⟨_, rfl⟩
  have hB3 : Below W2.heap.size W2 W3 := by rw [← hW3]; exact below_set hB1 (by omega) _ _
  have hg : Blk W3 (w.heap.size + 1) #[.int .i64 ((0 : Nat) : Int)] 3 := by rw [← hW3]; exact blk_cell_set hg1 _
  have cv := visitCnt_any w.heap.size w (w.heap.size + 1) t ks a m c 0 W3 hA (hB2.trans (hB3.mono hB2.size)) (by omega) (by omega) hg
  have S3 := S2.b hB3
  obtain ⟨u0, u1, u2, u3, u4⟩ := S3.five
  have hBB := bel_trans hB2 hB3
  have hsz3 : w.heap.size ≤ W3.heap.size := hBB.size
  have h1 : ∀ n : Nat, n = 0 + szC t → n ≤ 4096 → true = decide (szC t ≤ 4096) := fun n h h2 => (decide_eq_true (by omega)).symm
  have h2 : 4096 < 0 + szC t → false = decide (szC t ≤ 4096) := fun h => (decide_eq_false (by omega)).symm
  clear S2 S3 hA
  generalize hR : decide (szC t ≤ 4096) = R at *
  clear hR
  have H1 := Lib.hid (h1 _ rfl)
  have H2 := Lib.hid h2
  clear h1 h2
  generalize 0 + szC t = sz at *
  generalize opC t = op at *
  generalize nmC t = nm at *
  generalize soC t = nu at *
  go_enter Tryz.func117, Tryz.ntmps117
  go_wp2_with (go_at_call 100; ((with_reducible refine cv.mono ?_); rintro e W5 ⟨hgr5, (⟨hle, rfl, hb5⟩ | ⟨hgt, rfl, hb5⟩)⟩; all_goals (have c5 := Blk.cell hb5 0)))
  · go_ret
    exact ⟨oneB (H1.out hle), hBB.trans (gr_below hgr5 (by omega) (by omega))⟩
  · go_ret
    exact ⟨oneB (H2.out hgt), hBB.trans (gr_below hgr5 (by omega) (by omega))⟩
end Go.Proofs.YtcigeclnbhcohaaGreatDoor.Cs
namespace Go.Proofs.YtcigeclnbhcohaaGreatDoor.Cs
open Go.RowKit Go.Shelf L T C
set_option linter.unusedVariables false
set_option linter.unusedSimpArgs false

theorem dpCs_le {l : List Cl} (k : Nat) : dpCs (l.take k) ≤ dpCs l := by
  have := dpCs_app (l.take k) (l.drop k)
  rw [List.take_append_drop] at this
  omega
mutual
theorem dpC_sz : ∀ t : Cl, dpC t ≤ szC t
  | .mk o s z ts l => by rw [dpC, szC]; have := dpCs_sz l; omega
theorem dpCs_sz : ∀ l : List Cl, dpCs l ≤ szCs l
  | [] => by rw [dpCs, szCs]; omega
  | t :: l => by rw [dpCs, szCs]; have := dpC_sz t; have := dpCs_sz l; have : 0 < szC t := by rw [szC_mk]; omega
                 omega
end
def HeightOk (t : Cl) : Prop := ∀ (ks : SS) (a : Option Addr) (m c : Nat) (w : World), dpC t ≤ 1000000 → ArWC w t ks a m c →
  Calls Tryz.prog 118 #[.agg #[.int .i64 (opC t), .string (nmC t), .string (soC t), .slice ks.a ks.n ks.c, .slice a m c], .func (.func 96) #[] #[]] w fun e w' => e = .returned (.int .i64 (dpC t : Nat)) ∧ Below w.heap.size w w'

set_option maxRecDepth 100000 in
set_option maxHeartbeats 4000000 in
theorem height_step (t : Cl) (hok : ∀ x ∈ subC t, HeightOk x) : HeightOk t := by
  intro ks a m c w hd hA
  obtain ⟨W2, hW2, hB2, hs2, S2⟩ := cbox1 w (opC t) (nmC t) (soC t) ks a m c
  have hT := CsW.b (ArWC.subs hA) hB2
  rw [dpC_mk] at hd ⊢
  have hk2 : ∀ k x, (subC t)[k]? = some x → HeightOk x := fun k x h => hok x (List.mem_of_getElem? h)
  have hn : m ≤ 9223372036854775807 := by have h1 := hT.2.1; have h2 := hT.2.2.1; unfold maxLen at h2; omega
  have hle := fun k => @dpCs_le (subC t) k
  have htk : ∀ k x, (subC t)[k]? = some x → dpCs ((subC t).take (k + 1)) = max (dpCs ((subC t).take k)) (dpC x) := fun k x h => dpCs_take h
  have hend : ∀ k, m ≤ k → dpCs ((subC t).take k) = dpCs (subC t) := fun k h => by rw [List.take_of_length_le (by rw [← hT.1]; exact h)]
  have h0 : dpCs ((subC t).take 0) = 0 := rfl
  generalize subC t = la at *
  obtain ⟨F, hF⟩ : ∃ F : Nat → Nat, ∀ k, dpCs (la.take k) = F k := ⟨_, fun _ => rfl⟩
  simp only [hF] at hle htk hend h0
  generalize dpCs la = R at *
  obtain ⟨s0, s1, s2, s3, s4⟩ := S2.five
  have H1 := Lib.hid hT
  have Htk := Lib.hid htk
  have Hend := Lib.hid hend
  have HK := Lib.hid hk2
  have Hle := Lib.hid hle
  have H0 := Lib.hid h0
  clear hA hT htk hend hk2 hok hF S2 hle h0
  generalize opC t = op at *
  generalize nmC t = nm at *
  generalize soC t = nu at *
  go_enter Tryz.func118, Tryz.ntmps118
  go_wp2_with (go_at_call 96; ((with_reducible refine (subs_any _ _ _ _ _ _ _ W2).mono ?_); rintro e W2b ⟨rfl, hW2b⟩; have HW2 := Lib.hid hW2b; clear hW2b))
  have hB2b : Below W2.heap.size W2 W2b := by rw [HW2.out]; exact bel_alloc (Below.refl _ _) _
  clear HW2
  go_loopw [5, 12] (fun q i wr0 => ∃ (wr : World) (k h : Nat), wr = wr0 ∧ k ≤ m ∧ q = .int .i64 h ∧ i = .int .i64 k ∧ Below W2.heap.size W2 wr ∧ Hid (h = F k)) (fun q i _ => m - (intOf i).toNat)
  case atStart => exact ⟨_, 0, 0, rfl, by omega, rfl, rfl, hB2b, H0.out.symm⟩
  case round =>
    obtain ⟨wr, k, h, rfl, hk, rfl, rfl, hB, hR⟩ := hrel
    by_cases hlt : k < m
    · obtain ⟨bb, o, x, kk, A, M, Cc, rfl, hb, y0, y1, y2, y3, y4, hx, hok⟩ := (CsW.b H1.out hB).at hlt
      obtain ⟨W4, hW4, hB4, hs4, S4⟩ := cbox1 wr (opC x) (nmC x) (soC x) kk A M Cc
      have hmx := Htk.out k x hx
      have hl1 := Hle.out (k + 1)
      have hl0 := Hle.out k
      have hhk := hR.out
      have cs := HK.out k x hx kk A M Cc W4 (by omega) (ArWC.b hok hB4)
      obtain ⟨f0, f1, f2, f3, f4⟩ := S4.five
      have B4 := bel_trans hB hB4
      rw [← hhk] at hmx
      have Hmx := Lib.hid hmx
      have hdx : dpC x ≤ 1000000 := by omega
      have hhb : h ≤ 1000000 := by omega
      clear hx hok H1 Htk HK S4 hmx hR hl0 hl1 hhk
      generalize dpC x = dx at *
      generalize opC x = op' at *
      generalize nmC x = nm' at *
      generalize soC x = nu' at *
      have hk0 : 0 ≤ (k : Int) := by omega
      have hk1 : (k : Int) < (m : Int) := by omega
      go_wp2_with (go_at_call 118; ((with_reducible refine cs.mono ?_); rintro e w4 ⟨rfl, hb4⟩))
      go_roundw
      case rel => exact ⟨_, k + 1, max h dx, rfl, by omega, by congr 1; split <;> omega, by go_num, bel_trans B4 hb4, Hmx.out.symm⟩
      case measure => simp [intOf]; omega
    · have hnew : Hid (h = R) := by show _ = _; rw [hR.out, Hend.out k (by omega)]
      have hhb : h ≤ 1000000 := by have := hnew.out; omega
      clear hR
      go_wp2
      go_ret
      exact ⟨one (by rw [← hnew.out]; omega), bel_trans hB2 hB⟩
theorem height_any (t : Cl) : HeightOk t := Cl.ind height_step t

set_option maxRecDepth 100000 in
set_option maxHeartbeats 4000000 in
theorem treeDepth_few (t : Cl) (ks : SS) (a : Option Addr) (m c : Nat) (w : World) (hsz : szC t ≤ 4096) (hA : ArWC w t ks a m c) :
    Calls Tryz.prog 95 #[.agg #[.int .i64 (opC t), .string (nmC t), .string (soC t), .slice ks.a ks.n ks.c, .slice a m c], .func (.func 96) #[] #[]] w fun e w' => e = .returned (.int .i64 ((min (dpC t) 65 : Nat) : Int)) ∧ Below w.heap.size w w' := by
  obtain ⟨W2, hW2, hB2, hs2, S2⟩ := cbox1 w (opC t) (nmC t) (soC t) ks a m c
  have hd := dpC_sz t
  have cS := few_any t ks a m c W2 (ArWC.b hA hB2)
  rw [show decide (szC t ≤ 4096) = true from decide_eq_true hsz] at cS
  have cH := fun (w' : World) (h : Below W2.heap.size W2 w') => height_any t ks a m c w' (by omega) (ArWC.b (ArWC.b hA hB2) h)
  obtain ⟨s0, s1, s2, s3, s4⟩ := S2.five
  have HS := Lib.hid S2
  clear S2 hA
  have Hm := Lib.hid (show ∀ R : Int, R = min (dpC t : Int) 65 → R = ((min (dpC t) 65 : Nat) : Int) from fun R h => by omega)
  generalize ((min (dpC t) 65 : Nat) : Int) = R at *
  generalize szC t = sz at *
  generalize dpC t = dp at *
  generalize opC t = op at *
  generalize nmC t = nm at *
  generalize soC t = nu at *
  go_enter Tryz.func95, Tryz.ntmps95
  go_wp2_with (first
    | (go_at_call 117; ((with_reducible refine cS.mono ?_); rintro e w3 ⟨rfl, hb3⟩; obtain ⟨u0, u1, u2, u3, u4⟩ := (CBox.b HS.out hb3).five))
    | (go_at_call 118; ((with_reducible refine (cH _ hb3).mono ?_); rintro e w4 ⟨rfl, hb4⟩)))
  all_goals go_ret
  all_goals exact ⟨one (Hm.out _ (by omega)), bel_trans hB2 (bel_trans hb3 hb4)⟩
set_option maxHeartbeats 4000000 in
theorem Depth_few (t : Cl) (ks : SS) (a : Option Addr) (m c : Nat) (w : World) (hsz : szC t ≤ 4096) (hA : ArWC w t ks a m c) :
    Calls Tryz.prog 66 #[.agg #[.int .i64 (opC t), .string (nmC t), .string (soC t), .slice ks.a ks.n ks.c, .slice a m c]] w fun e w' => e = .returned (.int .i64 ((min (dpC t) 65 : Nat) : Int)) ∧ Below w.heap.size w w' := by
  obtain ⟨W2, hW2, hB2, hs2, S2⟩ := cbox1 w (opC t) (nmC t) (soC t) ks a m c
  have cS := treeDepth_few t ks a m c W2 hsz (ArWC.b hA hB2)
  obtain ⟨s0, s1, s2, s3, s4⟩ := S2.five
  clear S2 hA hsz
  generalize ((min (dpC t) 65 : Nat) : Int) = R at *
  generalize opC t = op at *
  generalize nmC t = nm at *
  generalize soC t = nu at *
  go_enter Tryz.func66, Tryz.ntmps66
  go_wp2_with (go_at_call 95; ((with_reducible refine cS.mono ?_); rintro e w3 ⟨rfl, hb3⟩))
  go_ret
  exact ⟨rfl, bel_trans hB2 hb3⟩
end Go.Proofs.YtcigeclnbhcohaaGreatDoor.Cs
