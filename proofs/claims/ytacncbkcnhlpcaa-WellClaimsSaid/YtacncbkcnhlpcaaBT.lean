/-
  What is proved: package tree's walk over the parts of a term: each part, in preorder, is handed to the round of a loop, until a round says no more.
  What is proved: package term's iterator over the parts of a term, as a loop may range over it; whether a term is a part of another.
  What is proved: how many parts a term has, as package term and the document count them, up to one more than the greatest number.
  What is proved: how deep a term is, as package term counts it for terms of few parts, and as the document does.
-/
import Derived.RangeFuncNested
import Derived.RangeFuncBound
import Derived.RangeFuncCalls
import Derived.RangeFuncLeaves
import Derived.Shelf.Abstract
import Derived.Shelf.RegionOpen
import Derived.OwnWalkIn
import Derived.TacticsInMore
import Derived.LoopNIn
import Derived.LoopIn
import Derived.Test.YtacncbkcnhlpcaaBL
import Derived.Test.YtacncbkcnhlpcaaZLibTs
namespace Go.Proofs.Ytacncbkcnhlpcaa.T
open Go.RowKit Go.Shelf L
set_option linter.unusedVariables false
set_option linter.unusedSimpArgs false
attribute [local go_sem] Oper.semAt_some

theorem room_none {F : Fence} (hd : F.depth = none) (k : Nat) : F.room k := fun d h => by rw [hd] at h; cases h
theorem round_any {F : Fence} (hd : F.depth = none) {m m' : Nat} {P : Program} {l : Nat} {f : FuncId} {tmps : Array Value} {assign body : Code} {w : World} {R : Ending → World → Prop}
    (h : RoundIn F m P l f tmps assign body w R) : RoundIn F m' P l f tmps assign body w R := ⟨h.1, fun c cs _ => h.2 c cs (room_none hd _)⟩
theorem yield_any {F : Fence} (hd : F.depth = none) {m : Nat} (m' : Nat) {P : Program} {l : Nat} {args : Array Value} {W : World} {R : Ending → World → Prop} (h : YieldAt F m P l args W R) : YieldAt F m' P l args W R := by
  obtain ⟨fn, tmps, assign, body, hy, hR⟩ := h
  exact ⟨fn, tmps, assign, body, hy, round_any hd hR⟩

/-! what a round keeps: what lay below n0, and every block that holds one term -/
def Keep4 (W W' : World) : Prop := ∀ (k : Nat) (cs : Array Value), W.heap[k]? = some (.cells cs 33 (0, 0)) → cs.size = 4 → W'.heap[k]? = some (.cells cs 33 (0, 0))
def KpT (n0 : Nat) (W W' : World) : Prop := Below n0 W W' ∧ Keep4 W W'
theorem Keep4.refl (W : World) : Keep4 W W := fun k cs h _ => h
theorem Keep4.trans {A B C : World} (h : Keep4 A B) (k : Keep4 B C) : Keep4 A C := fun i cs h0 h1 => k i cs (h i cs h0 h1) h1
theorem Keep4.of_below {W W' : World} (h : Below W.heap.size W W') : Keep4 W W' := fun k cs h0 _ => (h.block k (Array.getElem?_eq_some_iff.1 h0).1).trans h0
theorem KpT.refl (n0 : Nat) (W : World) : KpT n0 W W := ⟨Below.refl _ _, Keep4.refl _⟩
theorem KpT.trans {n0 : Nat} {A B C : World} (h : KpT n0 A B) (k : KpT n0 B C) : KpT n0 A C := ⟨h.1.trans k.1, h.2.trans k.2⟩
theorem KpT.of_below {n0 : Nat} {W W' : World} (hn : n0 ≤ W.heap.size) (h : Below W.heap.size W W') : KpT n0 W W' := ⟨h.mono hn, Keep4.of_below h⟩
theorem KpT.obj {n0 : Nat} {w : World} (hn : n0 ≤ w.heap.size) (W : World) (l : Nat) (o o' : Obj) (hl : w.heap.size ≤ l) (h : W.heap[l]? = some o) (h1 : o.isCells = false) (h2 : o.isWalk = false) : KpT n0 W (W.putObj l o') :=
  ⟨belowK_b hn W l o o' hl h h1 h2, fun k cs h0 _ => (World.putObj_heap_other (fun e => by subst e; rw [h] at h0; cases h0; cases h1)).trans h0⟩
theorem TBox.keep {W W' : World} {n0 g : Nat} {o : Int} {s : ByteArray} {z : Int} {a : Option Addr} {n c : Nat} (h : TBox W g o s z a n c) (k : KpT n0 W W') : TBox W' g o s z a n c := k.2 g _ h rfl

/-- a part of a term, with where its Args lie -/
structure Pt (B : Nat) (w0 : World) where
  t : Tm
  a : Option Addr
  n : Nat
  c : Nat
  ok : Ar B w0 t a n c
def encP {B : Nat} {w0 : World} (x : Pt B w0) : Array Value := #[.agg #[.int .i64 (opT x.t), .string (nameT x.t), .int .i64 (numT x.t), .slice x.a x.n x.c]]
theorem all_mk (t : Tm) : all t = t :: alls (argsT t) := by cases t; rw [all]; rfl
theorem alls_app (l m : List Tm) : alls (l ++ m) = alls l ++ alls m := by
  induction l with
  | nil => rfl
  | cons t l ih => rw [List.cons_append, alls, alls, ih, List.append_assoc]
theorem take_t {t : Tm} {l : List Tm} {k : Nat} (h : l[k]? = some t) : l.take (k + 1) = l.take k ++ [t] := by
  rw [List.take_add_one, h]; rfl
theorem alls_pre {t : Tm} {l : List Tm} {k : Nat} (h : l[k]? = some t) : alls (l.take k) ++ all t <+: alls l := by
  have := alls_app (l.take (k + 1)) (l.drop (k + 1))
  rw [List.take_append_drop, take_t h, alls_app] at this
  rw [this]
  have e : alls [t] = all t := by rw [alls, alls, List.append_nil]
  rw [e]
  exact List.prefix_append _ _
theorem alls_lt {t : Tm} {l : List Tm} {k : Nat} (h : l[k]? = some t) : sizes (l.take k) + size t ≤ sizes l := by
  have := (alls_pre h).length_le
  rw [List.length_append, alls_len, alls_len, all_len] at this
  exact this

/-- what is asked of a round -/
def RoundsT (B : Nat) (w0 : World) (l N : Nat) (J Jx : List (Pt B w0) → World → Prop) : Prop :=
  ∀ m pre x W, J pre W → pre.length < N → YieldAt Fence.wide m Try.prog l (encP x) W fun e W' =>
    (e = .returned (.bool true) ∧ J (pre ++ [x]) W' ∧ KpT B W W') ∨ (e = .returned (.bool false) ∧ Jx (pre ++ [x]) W')
theorem args_any (o : Int) (s : ByteArray) (z : Int) (a : Option Addr) (n c : Nat) (w : World) :
    Calls Try.prog 78 #[.agg #[.int .i64 o, .string s, .int .i64 z, .slice a n c]] w fun e w' => e = .returned (.slice a n c) ∧ w' = w.alloc (.cells #[.int .i64 o, .string s, .int .i64 z, .slice a n c] 33) := by
  go_enter Try.func78, Try.ntmps78
  go_wp2
  go_ret
  exact ⟨rfl, rfl⟩
/-- the walk, at this term -/
def VisitOk (B : Nat) (w0 : World) (l N : Nat) (J Jx : List (Pt B w0) → World → Prop) (t : Tm) : Prop :=
  ∀ (n : Nat) (a : Option Addr) (m c : Nat) (pre : List (Pt B w0)) (W : World), Ar B w0 t a m c → Below B w0 W → B ≤ W.heap.size → J pre W → pre.length + size t ≤ N →
    CallsIn Fence.wide n Try.prog 99 #[.agg #[.int .i64 (opT t), .string (nameT t), .int .i64 (numT t), .slice a m c], .func (.func 78) #[] #[], .func (.yield l) #[] #[]] W fun e W' =>
      (e = .returned (.bool true) ∧ (∃ ys, ys.map Pt.t = all t ∧ J (pre ++ ys) W') ∧ KpT B W W') ∨ (e = .returned (.bool false) ∧ ∃ q, q.map Pt.t <+: all t ∧ Jx (pre ++ q) W')

set_option maxRecDepth 100000 in
set_option maxHeartbeats 4000000 in
theorem visit_step (B : Nat) (w0 : World) (l N : Nat) (J Jx : List (Pt B w0) → World → Prop) (b0 : Nat) (hJ : AbidesFrom b0 J) (hY : RoundsT B w0 l N J Jx) (t : Tm) (hok : ∀ x ∈ argsT t, VisitOk B w0 l N J Jx x) : VisitOk B w0 l N J Jx t := by
  intro n a m c pre W hA hB hBW hJ0 hN
  obtain ⟨W2, hW2, hB2, hs2, S2⟩ := box1 W (opT t) (nameT t) (numT t) a m c
  have hJ2 : J pre W2 := by rw [← hW2]; exact hJ pre W _ none hJ0 (World.grownBy_alloc W _ none) (fun r e => by cases e)
  have hp := size_pos t
  obtain ⟨fn, tmps, assign, body, hy, hR⟩ := hY (n - 1) pre ⟨t, a, m, c, hA⟩ W2 hJ2 (by omega)
  dsimp only [encP] at hy
  obtain ⟨s0, s1, s2, s3⟩ := S2.four
  have hKW : KpT B W W2 := KpT.of_below hBW hB2
  have hB02 : Below B w0 W2 := hB.trans hKW.1
  have hT := ar_isT.1 hA
  have hsz : size t = 1 + sizes (argsT t) := by cases t; rw [size]; rfl
  rw [all_mk]
  refine callsIn_of_wp Try.func99 rfl trivial ?_ rfl
  simp only [Try.ntmps99, List.size_toArray, List.length_cons, List.length_nil, Nat.reduceAdd, Nat.reduceSub, Array.replicate_succ, Array.replicate_zero, List.push_toArray, List.append_toArray, List.nil_append, List.cons_append]
  have hdd : ∀ k : Nat, (Fence.wide.depth.isSome = true → 1 ≤ k) := fun k h => by cases h
  gi_wp2_with (first
    | ((try refine ⟨hdd _, ?_⟩); refine hR.mono ?_; clear hR; rintro e W3 (⟨rfl, hJ3, hk3⟩ | ⟨rfl, hx3⟩); all_goals (try (have hk3' := hk3; obtain ⟨u0, u1, u2, u3⟩ := (S2.keep hk3).four)))
    | ((try refine ⟨trivial, ?_⟩); (try refine ⟨hdd _, ?_⟩); gi_at_call 78; refine (callsIn_wide.2 (args_any _ _ _ _ _ _ W3)).mono ?_; rintro e W3b ⟨rfl, hW3b⟩; have hW3c := Lib.hid hW3b; clear hW3b))
  · have hJ3b : J (pre ++ [⟨t, a, m, c, hA⟩]) W3b := by rw [hW3c.out]; exact hJ _ W3 _ none hJ3 (World.grownBy_alloc W3 _ none) (fun r e => by cases e)
    have hK3b : KpT B W3 W3b := by rw [hW3c.out]; exact KpT.of_below (Nat.le_trans hBW (hKW.trans hk3).1.size) (bel_alloc (Below.refl _ _) _)
    clear hJ3 hW3c
    have hJ3 := hJ3b
    have hK3 := (hKW.trans hk3).trans hK3b
    clear hJ3b
    have hn : m ≤ 9223372036854775807 := by have h1 := hT.2.1; have h2 := hT.2.2.1; unfold maxLen at h2; omega
    have hW3 : B ≤ W3b.heap.size := Nat.le_trans hBW hK3.1.size
    have HT := Lib.hid hT
    have HJ := Lib.hid hJ
    have HK := Lib.hid (show ∀ k x, (argsT t)[k]? = some x → VisitOk B w0 l N J Jx x from fun k x h => hok x (List.mem_of_getElem? h))
    have H0 : Hid (∃ ys : List (Pt B w0), ys.map Pt.t = t :: alls ((argsT t).take 0) ∧ J (pre ++ ys) W3b) := ⟨[⟨t, a, m, c, hA⟩], rfl, hJ3⟩
    clear hT hJ hok hJ3 hy hW2 s0 s1 s2 s3 u0 u1 u2 u3 S2 hJ2 hJ0 hY hK3b
    generalize hla : argsT t = la at *
    have HLa := Lib.hid hla
    clear hla
    generalize opT t = op at *
    generalize nameT t = nm at *
    generalize numT t = nu at *
    gi_loopw [17] (fun i wr0 => ∃ (wr : World) (k : Nat), wr = wr0 ∧ k ≤ m ∧ i = .int .i64 k ∧ KpT B W wr ∧ Hid (∃ ys : List (Pt B w0), ys.map Pt.t = t :: alls (la.take k) ∧ J (pre ++ ys) wr)) (fun i _ => m - (intOf i).toNat)
    case atStart => exact ⟨_, 0, rfl, by omega, rfl, hK3, H0⟩
    case round =>
      obtain ⟨wr, k, rfl, hk, rfl, hKr, hR⟩ := hrel
      have hBr : Below B w0 wr := hB.trans hKr.1
      have hBs : B ≤ wr.heap.size := Nat.le_trans hBW hKr.1.size
      by_cases hlt : k < m
      · obtain ⟨bb, o, x, A, M, Cc, rfl, hb, z0, z1, z2, z3, hx, hok⟩ := HT.out.at hlt
        have y0 := (hBr.cell (p := ⟨bb, _, none⟩) hb).trans z0
        have y1 := (hBr.cell (p := ⟨bb, _, none⟩) hb).trans z1
        have y2 := (hBr.cell (p := ⟨bb, _, none⟩) hb).trans z2
        have y3 := (hBr.cell (p := ⟨bb, _, none⟩) hb).trans z3
        obtain ⟨ys, hys, hJr⟩ := hR.out
        have hlen : ys.length = 1 + sizes (la.take k) := by
          have := congrArg List.length hys
          rw [List.length_map, List.length_cons, alls_len] at this
          omega
        have hlts := alls_lt hx
        obtain ⟨W4, hW4, hB4, hs4, S4⟩ := box1 wr (opT x) (nameT x) (numT x) A M Cc
        have hJ4 : J (pre ++ ys) W4 := by rw [← hW4]; exact HJ.out _ wr _ none hJr (World.grownBy_alloc wr _ none) (fun r e => by cases e)
        have hK4 : KpT B wr W4 := KpT.of_below hBs hB4
        have cv := HK.out k x hx (n - 1) A M Cc (pre ++ ys) W4 hok (hBr.trans hK4.1) (Nat.le_trans hBs hK4.1.size) hJ4 (by rw [List.length_append]; omega)
        obtain ⟨f0, f1, f2, f3⟩ := S4.four
        have hpre := alls_pre hx
        have htk := take_t hx
        clear z0 z1 z2 z3 hok hR HK HT HJ S4
        have Hx := Lib.hid hx
        have Hys := Lib.hid hys
        have Hpre := Lib.hid hpre
        have Htk := Lib.hid htk
        clear hx hys hpre htk hJr hJ4
        generalize opT x = op' at *
        generalize nameT x = nm' at *
        generalize numT x = nu' at *
        have hk0 : 0 ≤ (k : Int) := by omega
        have hk1 : (k : Int) < (m : Int) := by omega
        gi_wp2_with ((try refine ⟨trivial, ?_⟩); (try refine ⟨hdd _, ?_⟩); gi_at_call 99; refine cv.mono ?_; clear cv; rintro e W5 (⟨rfl, hz, hk5⟩ | ⟨rfl, hq⟩); all_goals (first | (have Hz := Lib.hid hz; clear hz) | (have Hq := Lib.hid hq; clear hq)))
        · go_roundw
          case rel => exact ⟨_, k + 1, rfl, by omega, by go_num, (hKr.trans hK4).trans hk5, by
            obtain ⟨zs, h1, h2⟩ := Hz.out
            refine ⟨ys ++ zs, ?_, by rw [← List.append_assoc]; exact h2⟩
            rw [List.map_append, Hys.out, h1, Htk.out, alls_app, List.cons_append]
            rw [show alls [x] = all x by rw [alls, alls, List.append_nil]]⟩
          case measure => simp [intOf]; omega
        · go_ret
          refine .inr ⟨rfl, ?_⟩
          rw [HLa.out]
          obtain ⟨q, h1, h2⟩ := Hq.out
          refine ⟨ys ++ q, ?_, by rw [← List.append_assoc]; exact h2⟩
          rw [List.map_append, Hys.out, List.cons_append]
          obtain ⟨r1, h3⟩ := h1
          obtain ⟨r2, h4⟩ := Hpre.out
          exact ⟨r1 ++ r2, by rw [← h4, ← h3]; simp⟩
      · obtain rfl : k = m := by omega
        have hR2 : Hid (∃ ys : List (Pt B w0), ys.map Pt.t = t :: alls la ∧ J (pre ++ ys) wr) := by
          obtain ⟨ys, h1, h2⟩ := hR.out
          exact ⟨ys, by rw [h1, List.take_of_length_le (by have := HT.out.1; omega)], h2⟩
        clear hR
        gi_wp2
        go_ret
        exact .inl ⟨rfl, by rw [HLa.out]; exact hR2.out, hKr⟩
  · go_ret
    exact .inr ⟨rfl, [⟨t, a, m, c, hA⟩], ⟨_, by rw [List.map_singleton, List.singleton_append]⟩, hx3⟩
theorem visit_any (B : Nat) (w0 : World) (l N : Nat) (J Jx : List (Pt B w0) → World → Prop) (b0 : Nat) (hJ : AbidesFrom b0 J) (hY : RoundsT B w0 l N J Jx) (t : Tm) : VisitOk B w0 l N J Jx t :=
  Tm.ind (visit_step B w0 l N J Jx b0 hJ hY) t
end Go.Proofs.Ytacncbkcnhlpcaa.T
namespace Go.Proofs.Ytacncbkcnhlpcaa.T
open Go.RowKit Go.Shelf L
set_option linter.unusedVariables false
set_option linter.unusedSimpArgs false
attribute [local go_sem] Oper.semAt_some

/-- the blocks that the iterator is made of: the term, the term, and what lies below one -/
theorem box_all (w : World) (o : Int) (s : ByteArray) (z : Int) (a : Option Addr) (n c : Nat) :
    ∃ W, ((w.alloc (.cells #[.int .i64 o, .string s, .int .i64 z, .slice a n c] 33)).alloc (.cells #[.int .i64 o, .string s, .int .i64 z, .slice a n c] 33)).alloc (.cells #[.func (.func 78) #[] #[]] 111) = W ∧ Below w.heap.size w W ∧ W.heap.size = w.heap.size + 3 ∧ TBox W (w.heap.size + 1) o s z a n c ∧ Blk W (w.heap.size + 2) #[.func (.func 78) #[] #[]] 111 := by
  obtain ⟨W2, h2, hb, hs, t1, t2⟩ := box2 w o s z a n c o s z a n c
  rw [h2]
  refine ⟨_, rfl, bel_alloc hb _, by simp [hs], Blk.alloc t2 _, ?_⟩
  have := Blk.new W2 #[Value.func (.func 78) #[] #[]] 111
  rwa [hs] at this
theorem tall_any (o : Int) (s : ByteArray) (z : Int) (a : Option Addr) (n c : Nat) (w : World) :
    Calls Try.prog 79 #[.agg #[.int .i64 o, .string s, .int .i64 z, .slice a n c], .func (.func 78) #[] #[]] w fun e w' => e = .returned (.func (.func 98) #[] #[.pointer (some ⟨w.heap.size, 0, none⟩), .pointer (some ⟨w.heap.size + 1, 0, none⟩)]) ∧ w' = (w.alloc (.cells #[.int .i64 o, .string s, .int .i64 z, .slice a n c] 33)).alloc (.cells #[.func (.func 78) #[] #[]] 111) := by
  go_enter Try.func79, Try.ntmps79
  go_wp2
  go_ret
  exact ⟨rfl, rfl⟩
theorem all_any (o : Int) (s : ByteArray) (z : Int) (a : Option Addr) (n c : Nat) (w : World) :
    Calls Try.prog 47 #[.agg #[.int .i64 o, .string s, .int .i64 z, .slice a n c]] w fun e w' => e = .returned (.func (.func 98) #[] #[.pointer (some ⟨w.heap.size + 1, 0, none⟩), .pointer (some ⟨w.heap.size + 2, 0, none⟩)]) ∧ w' = ((w.alloc (.cells #[.int .i64 o, .string s, .int .i64 z, .slice a n c] 33)).alloc (.cells #[.int .i64 o, .string s, .int .i64 z, .slice a n c] 33)).alloc (.cells #[.func (.func 78) #[] #[]] 111) := by
  obtain ⟨W1, h1, hb1, hs1, S1⟩ := box1 w o s z a n c
  have c1 := tall_any o s z a n c W1
  rw [hs1, Nat.add_assoc] at c1
  rw [h1]
  obtain ⟨s0, s1, s2, s3⟩ := S1.four
  clear S1
  go_enter Try.func47, Try.ntmps47
  go_wp2_with (go_at_call 79; ((with_reducible refine c1.mono ?_); rintro e w1 ⟨rfl, rfl⟩))
  go_ret
  exact ⟨rfl, rfl⟩
set_option maxHeartbeats 2000000 in
theorem all_stops (n : Nat) (B g g2 : Nat) (w0 w : World) (t : Tm) (a : Option Addr) (m c : Nat) (hA : Ar B w0 t a m c) (hB : Below B w0 w) (hBw : B ≤ w.heap.size) (hT : TBox w g (opT t) (nameT t) (numT t) a m c) (hF : Blk w g2 #[.func (.func 78) #[] #[]] 111) :
    SeqStopsK Fence.wide n Try.prog 98 #[.pointer (some ⟨g, 0, none⟩), .pointer (some ⟨g2, 0, none⟩)] (encP (B := B) (w0 := w0)) (KpT B) (fun ys => ys.map Pt.t = all t) (fun pre => pre.map Pt.t <+: all t) (size t) w := fun l J Jx W hW hJ hJx hY h0 => by
  have hY2 : RoundsT B w0 l (size t) J Jx := fun m pre x W hj hl => yield_any rfl m (hY pre x W hj hl)
  have hv := visit_any B w0 l (size t) J Jx _ hJ hY2 t (n - 1) a m c [] W hA (hB.trans (hW.mono hBw)) (Nat.le_trans hBw hW.size) h0 (by simp)
  obtain ⟨t0, t1, t2, t3⟩ := (TBox.b hT hW).four
  have f0 := Blk.cell (Blk.below hF hW) 0
  have hdd : ∀ k : Nat, (Fence.wide.depth.isSome = true → 1 ≤ k) := fun k h => by cases h
  clear hY hY2 hT hA hJ hJx h0 hF
  refine callsIn_of_wp Try.func98 rfl trivial ?_ rfl
  simp only [Try.ntmps98, List.size_toArray, List.length_cons, List.length_nil, Nat.reduceAdd, Nat.reduceSub, Array.replicate_succ, Array.replicate_zero, List.push_toArray, List.append_toArray, List.nil_append, List.cons_append]
  gi_wp2_with ((try refine ⟨trivial, ?_⟩); (try refine ⟨hdd _, ?_⟩); gi_at_call 99; refine hv.mono ?_; clear hv; rintro e W5 (⟨rfl, hz, hk5⟩ | ⟨rfl, hq⟩); all_goals (first | (have Hz := Lib.hid hz; clear hz) | (have Hq := Lib.hid hq; clear hq)))
  · go_end0
    obtain ⟨ys, h1, h2⟩ := Hz.out
    exact ⟨⟨_, rfl⟩, .inl ⟨ys, h1, by simpa using h2⟩⟩
  · go_end0
    obtain ⟨ys, h1, h2⟩ := Hq.out
    exact ⟨⟨_, rfl⟩, .inr ⟨ys, h1, by simpa using h2⟩⟩

/-! what a loop's own blocks abide -/
theorem own_blk {β : Type} (g : Nat) (cs : Array Value) (t : TypeId) : Own (fun (_ : β) W => Blk W g cs t) := fun s X Y row hs hg hr => by
  refine (hg.block g (Blk.lt hs) (fun e => ?_)).trans hs
  obtain ⟨o, ho, hc⟩ := hr g e.symm
  rw [show X.heap[g]? = _ from hs] at ho; cases ho; cases hc
theorem blk_cell_set {W : World} {g : Nat} {v : Value} {t : TypeId} (h : Blk W g #[v] t) (u : Value) : Blk (W.setCell ⟨g, 0, none⟩ u) g #[u] t := by
  have := Blk.set h 0 u
  simpa using this
theorem keepsF {B0 : Nat} {W W' : World} (h : Below W.heap.size W W') : KeepsFrom B0 W W' := ⟨h.size, fun k o _ hk _ => (h.block k (Array.getElem?_eq_some_iff.1 hk).1).trans hk⟩
/-- a store into a block that is no term's -/
theorem keep_set {W : World} {g : Nat} {cs : Array Value} {t : TypeId} (h : Blk W g cs t) (hne : cs.size ≠ 4) (k : Nat) (v : Value) : Keep4 W (W.setCell ⟨g, k, none⟩ v) := fun i cs2 h0 h1 => by
  refine (heap_setCell_other W ⟨g, k, none⟩ i v (fun e => ?_)).trans h0
  subst e
  rw [show W.heap[i]? = _ from h] at h0
  injection h0 with h0; injection h0 with h0
  exact hne (h0 ▸ h1)

theorem blk_ne {W : World} {g D : Nat} {cs : Array Value} {t : TypeId} {d : Option (List Deferred)} (h : Blk W g cs t) (hD : W.heap[D]? = some (.deferred d)) : g ≠ D := fun e => by
  subst e
  rw [show W.heap[g]? = _ from h] at hD; cases hD
theorem blk_put {W : World} {g D : Nat} {cs : Array Value} {t : TypeId} {d : Option (List Deferred)} (h : Blk W g cs t) (hD : W.heap[D]? = some (.deferred d)) (o : Obj) : Blk (W.putObj D o) g cs t :=
  (World.putObj_heap_other (fun e => blk_ne h hD e)).trans h
end Go.Proofs.Ytacncbkcnhlpcaa.T
namespace Go.Proofs.Ytacncbkcnhlpcaa.T
open Go.RowKit Go.Shelf L
set_option linter.unusedVariables false
set_option linter.unusedSimpArgs false
attribute [local go_sem] Oper.semAt_some

theorem gr_set {W0 W : World} {g : Nat} (h : W0.grownBy W (some g)) (k : Nat) (v : Value) : W0.grownBy (W.setCell ⟨g, k, none⟩ v) (some g) := h.trans (grown_setCell W g k v)
theorem gr_alloc {W0 W : World} {g : Nat} (h : W0.grownBy W (some g)) (o : Obj) : W0.grownBy (W.alloc o) (some g) := h.trans (World.grownBy_alloc W o (some g))
theorem gr_below {B g : Nat} {W W' : World} (h : W.grownBy W' (some g)) (hB : B ≤ W.heap.size) (hg : B ≤ g) : Below B W W' := (Below.refl B W).grown h hB (fun k e => by cases e; exact hg)
theorem gr_blk {W W' : World} {g x : Nat} {cs : Array Value} {t : TypeId} (h : Blk W x cs t) (hg : W.grownBy W' (some g)) (hne : x ≠ g) : Blk W' x cs t := Blk.grown h hg (fun e => hne (by cases e; rfl))

theorem own_blkF {β : Type} (g : Nat) (cs : β → Array Value) (t : TypeId) : Own (fun (s : β) W => Blk W g (cs s) t) := fun s X Y row hs hg hr => by
  refine (hg.block g (Blk.lt hs) (fun e => ?_)).trans hs
  obtain ⟨o, ho, hc⟩ := hr g e.symm
  rw [show X.heap[g]? = _ from hs] at ho; cases ho; cases hc
theorem few1_any (g : Nat) (o : Int) (s : ByteArray) (z : Int) (a : Option Addr) (m c q : Nat) (W : World) (hq : q ≤ 4096) (hg : Blk W g #[.int .i64 q] 3) :
    Calls Try.prog 107 #[.agg #[.int .i64 o, .string s, .int .i64 z, .slice a m c], .pointer (some ⟨g, 0, none⟩)] W fun e W' => e = .returned (.bool (decide (q + 1 ≤ 4096))) ∧ Blk W' g #[.int .i64 (q + 1)] 3 ∧ W.grownBy W' (some g) := by
  have hg2 := Blk.alloc hg (.cells #[.int .i64 o, .string s, .int .i64 z, .slice a m c] 33)
  obtain ⟨W2, hW2⟩ : ∃ W2, W.alloc (.cells #[.int .i64 o, .string s, .int .i64 z, .slice a m c] 33) = W2 := ⟨_, rfl⟩
  have hgr : W.grownBy W2 (some g) := by rw [← hW2]; exact World.grownBy_alloc W _ _
  rw [hW2] at hg2
  have c0 := Blk.cell hg2 0
  have q0 := Blk.free hg2 0
  have hs := blk_cell_set hg2 (.int .i64 ((q : Int) + 1))
  have c1 := Blk.cell hs 0
  have he : decide ((q : Int) + 1 ≤ 4096) = decide (q + 1 ≤ 4096) := by rw [decide_eq_decide]; omega
  have He := Lib.hid he
  clear he
  go_enter Try.func107, Try.ntmps107
  go_wp2
  go_ret
  exact ⟨oneB He.out, hs, gr_set hgr _ _⟩

def VisitCntOk (B : Nat) (w0 : World) (g : Nat) (t : Tm) : Prop :=
  ∀ (a : Option Addr) (m c q : Nat) (W : World), Ar B w0 t a m c → Below B w0 W → B ≤ g → q ≤ 4096 → Blk W g #[.int .i64 q] 3 →
    Calls Try.prog 99 #[.agg #[.int .i64 (opT t), .string (nameT t), .int .i64 (numT t), .slice a m c], .func (.func 78) #[] #[], .func (.func 107) #[] #[.pointer (some ⟨g, 0, none⟩)]] W fun e W' =>
      W.grownBy W' (some g) ∧ ((q + size t ≤ 4096 ∧ e = .returned (.bool true) ∧ Blk W' g #[.int .i64 ((q + size t : Nat) : Int)] 3) ∨ (4096 < q + size t ∧ e = .returned (.bool false) ∧ Blk W' g #[.int .i64 4097] 3))

set_option maxRecDepth 100000 in
set_option maxHeartbeats 4000000 in
theorem visitCnt_step (B : Nat) (w0 : World) (g : Nat) (t : Tm) (hok : ∀ x ∈ argsT t, VisitCntOk B w0 g x) : VisitCntOk B w0 g t := by
  intro a m c q W hA hB hBg hq hgb
  obtain ⟨W2, hW2, hB2, hs2, S2⟩ := box1 W (opT t) (nameT t) (numT t) a m c
  have hlt := Blk.lt hgb
  have hg2 := Blk.below hgb hB2
  have c1 := few1_any g (opT t) (nameT t) (numT t) a m c q W2 hq hg2
  have hgr2 : W.grownBy W2 (some g) := by rw [← hW2]; exact World.grownBy_alloc W _ _
  have hT := ar_isT.1 hA
  have hsz : size t = 1 + sizes (argsT t) := by cases t; rw [size]; rfl
  obtain ⟨s0, s1, s2, s3⟩ := S2.four
  by_cases hq6 : q = 4096
  · subst hq6
    clear hT hA hok hg2
    generalize opT t = op at *
    generalize nameT t = nm at *
    generalize numT t = nu at *
    go_enter Try.func99, Try.ntmps99
    go_wp2_with (go_at_call 107; ((with_reducible refine c1.mono ?_); rintro e W3 ⟨rfl, hg3, hgr3⟩))
    go_ret
    exact ⟨hgr2.trans hgr3, .inr ⟨by omega, rfl, hg3⟩⟩
  · have hq7 : decide (q + 1 ≤ 4096) = true := by simp; omega
    rw [hq7] at c1
    have hn : m ≤ 9223372036854775807 := by have h1 := hT.2.1; have h2 := hT.2.2.1; unfold maxLen at h2; omega
    have HT := Lib.hid hT
    have HK := Lib.hid (show ∀ k x, (argsT t)[k]? = some x → VisitCntOk B w0 g x from fun k x h => hok x (List.mem_of_getElem? h))
    have HS := Lib.hid S2
    have hne : W.heap.size ≠ g := by omega
    have HSZ := Lib.hid hsz
    clear hT hA hok hg2 hq7 hsz S2
    generalize hla : argsT t = la at *
    have HLa := Lib.hid hla
    clear hla
    generalize opT t = op at *
    generalize nameT t = nm at *
    generalize numT t = nu at *
    generalize size t = sz at *
    go_enter Try.func99, Try.ntmps99
    go_wp2_with (first
      | (go_at_call 107; ((with_reducible refine c1.mono ?_); rintro e W3 ⟨rfl, hg3, hgr3⟩; obtain ⟨u0, u1, u2, u3⟩ := TBox.four (gr_blk HS.out hgr3 hne)))
      | (go_at_call 78; ((with_reducible refine (args_any _ _ _ _ _ _ W3).mono ?_); rintro e W3b ⟨rfl, hW3b⟩; have HW3 := Lib.hid hW3b; clear hW3b)))
    have hgr3b : W.grownBy W3b (some g) := by rw [HW3.out]; exact gr_alloc (hgr2.trans hgr3) _
    have hg3b : Blk W3b g #[.int .i64 ((q + 1 : Nat) : Int)] 3 := by rw [HW3.out]; exact Blk.alloc (by simpa using hg3) _
    clear HW3
    go_loopw [17] (fun i wr0 => ∃ (wr : World) (k : Nat), wr = wr0 ∧ k ≤ m ∧ i = .int .i64 k ∧ W.grownBy wr (some g) ∧ q + 1 + sizes (la.take k) ≤ 4096 ∧ Blk wr g #[.int .i64 ((q + 1 + sizes (la.take k) : Nat) : Int)] 3) (fun i _ => m - (intOf i).toNat)
    case atStart => exact ⟨_, 0, rfl, by omega, rfl, hgr3b, by simp [sizes]; omega, by simpa [sizes] using hg3b⟩
    case round =>
      obtain ⟨wr, k, rfl, hk, rfl, hGr, hqk, hgk⟩ := hrel
      have hBr : Below B w0 wr := hB.trans (gr_below hGr (by omega) hBg)
      by_cases hlk : k < m
      · obtain ⟨bb, o, x, A, M, Cc, rfl, hb, z0, z1, z2, z3, hx, hok⟩ := HT.out.at hlk
        have y0 := (hBr.cell (p := ⟨bb, _, none⟩) hb).trans z0
        have y1 := (hBr.cell (p := ⟨bb, _, none⟩) hb).trans z1
        have y2 := (hBr.cell (p := ⟨bb, _, none⟩) hb).trans z2
        have y3 := (hBr.cell (p := ⟨bb, _, none⟩) hb).trans z3
        obtain ⟨W4, hW4, hB4, hs4, S4⟩ := box1 wr (opT x) (nameT x) (numT x) A M Cc
        have hgr4 : wr.grownBy W4 (some g) := by rw [← hW4]; exact World.grownBy_alloc wr _ _
        have cv := HK.out k x hx A M Cc (q + 1 + sizes (la.take k)) W4 hok (hBr.trans (hB4.mono (by have := hGr.size; omega))) hBg hqk (Blk.below hgk hB4)
        have hlts := alls_lt hx
        have htk : sizes (la.take (k + 1)) = sizes (la.take k) + size x := by rw [take_t hx, sizes_app, sizes, sizes]; omega
        obtain ⟨f0, f1, f2, f3⟩ := S4.four
        have HG := Lib.hid hgk
        have HTk := Lib.hid htk
        clear z0 z1 z2 z3 hok HK HT S4 hgk htk
        have Hx := Lib.hid hx
        clear hx
        generalize opT x = op' at *
        generalize nameT x = nm' at *
        generalize numT x = nu' at *
        generalize size x = sx at *
        have hk0 : 0 ≤ (k : Int) := by omega
        have hk1 : (k : Int) < (m : Int) := by omega
        generalize hsk : sizes (la.take k) = sk at *
        go_wp2_with (go_at_call 99; ((with_reducible refine cv.mono ?_); rintro e W5 ⟨hgr5, (⟨hle, rfl, hb5⟩ | ⟨hgt, rfl, hb5⟩)⟩; all_goals (have Hb := Lib.hid hb5; clear hb5)))
        · go_roundw
          case rel => exact ⟨_, k + 1, rfl, by omega, by go_num, (hGr.trans hgr4).trans hgr5, by rw [HTk.out]; omega, by
            rw [HTk.out, show q + 1 + (sk + sx) = q + 1 + sk + sx by omega]; exact Hb.out⟩
          case measure => simp [intOf]; omega
        · go_ret
          refine ⟨(hGr.trans hgr4).trans hgr5, .inr ⟨?_, rfl, Hb.out⟩⟩
          have := HSZ.out
          omega
      · obtain rfl : k = m := by omega
        have hfin : q + sz = q + 1 + sizes (la.take k) := by
          rw [HSZ.out, List.take_of_length_le (by have := HT.out.1; omega)]; omega
        have Hf := Lib.hid hfin
        have HG := Lib.hid hgk
        clear hfin hgk
        go_wp2
        go_ret
        exact ⟨hGr, .inl ⟨by rw [Hf.out]; exact hqk, rfl, by rw [Hf.out]; exact HG.out⟩⟩
theorem visitCnt_any (B : Nat) (w0 : World) (g : Nat) (t : Tm) : VisitCntOk B w0 g t := Tm.ind (visitCnt_step B w0 g) t
set_option maxHeartbeats 4000000 in
theorem few_any (t : Tm) (a : Option Addr) (m c : Nat) (w : World) (hA : ArW w t a m c) :
    Calls Try.prog 95 #[.agg #[.int .i64 (opT t), .string (nameT t), .int .i64 (numT t), .slice a m c], .func (.func 78) #[] #[]] w fun e w' => e = .returned (.bool (decide (size t ≤ 4096))) ∧ Below w.heap.size w w' := by
  obtain ⟨W2, hW2, hB2, hs2, S2⟩ := box1 w (opT t) (nameT t) (numT t) a m c
  obtain ⟨W1, hW1⟩ : ∃ W1, W2.alloc (.cells #[.int .i64 0] 3) = W1 := ⟨_, rfl⟩
  have hB1 : Below W2.heap.size W2 W1 := by rw [← hW1]; exact bel_alloc (Below.refl _ _) _
  have hg1 : Blk W1 (w.heap.size + 1) #[.int .i64 0] 3 := by rw [← hW1, ← hs2]; exact Blk.new W2 _ _
  have k1 := Blk.cell hg1 0
  have k2 := Blk.free hg1 0
  obtain ⟨W3, hW3⟩ : ∃ W3, W1.setCell ⟨w.heap.size + 1, 0, none⟩ (.int .i64 0) = W3 := ⟨_, rfl⟩
  have hB3 : Below W2.heap.size W2 W3 := by rw [← hW3]; exact below_set hB1 (by omega) _ _
  have hg : Blk W3 (w.heap.size + 1) #[.int .i64 ((0 : Nat) : Int)] 3 := by rw [← hW3]; exact blk_cell_set hg1 _
  have cv := visitCnt_any w.heap.size w (w.heap.size + 1) t a m c 0 W3 hA (hB2.trans (hB3.mono hB2.size)) (by omega) (by omega) hg
  have S3 := S2.b hB3
  obtain ⟨u0, u1, u2, u3⟩ := S3.four
  have hBB := bel_trans hB2 hB3
  have hsz3 : w.heap.size ≤ W3.heap.size := hBB.size
  have h1 : ∀ n : Nat, n = 0 + size t → n ≤ 4096 → true = decide (size t ≤ 4096) := fun n h h2 => (decide_eq_true (by omega)).symm
  have h2 : 4096 < 0 + size t → false = decide (size t ≤ 4096) := fun h => (decide_eq_false (by omega)).symm
  clear S2 S3 hA
  generalize hR : decide (size t ≤ 4096) = R at *
  clear hR
  have H1 := Lib.hid (h1 _ rfl)
  have H2 := Lib.hid h2
  clear h1 h2
  generalize 0 + size t = sz at *
  generalize opT t = op at *
  generalize nameT t = nm at *
  generalize numT t = nu at *
  go_enter Try.func95, Try.ntmps95
  go_wp2_with (go_at_call 99; ((with_reducible refine cv.mono ?_); rintro e W5 ⟨hgr5, (⟨hle, rfl, hb5⟩ | ⟨hgt, rfl, hb5⟩)⟩; all_goals (have c5 := Blk.cell hb5 0)))
  · go_ret
    exact ⟨oneB (H1.out hle), hBB.trans (gr_below hgr5 (by omega) (by omega))⟩
  · go_ret
    exact ⟨oneB (H2.out hgt), hBB.trans (gr_below hgr5 (by omega) (by omega))⟩
set_option maxRecDepth 100000 in
set_option maxHeartbeats 4000000 in
theorem tSize_in (t : Tm) (a : Option Addr) (m c : Nat) (w : World) (hA : ArW w t a m c) :
    CallsIn Fence.wide 6 Try.prog 46 #[.agg #[.int .i64 (opT t), .string (nameT t), .int .i64 (numT t), .slice a m c]] w fun e w' => e = .returned (.int .i64 ((min (size t) 4097 : Nat) : Int)) ∧ Below w.heap.size w w' := by
  obtain ⟨W2, hW2, hB2, hs2, S2⟩ := box1 w (opT t) (nameT t) (numT t) a m c
  obtain ⟨W1, hW1⟩ : ∃ W1, W2.alloc (.cells #[.int .i64 0] 3) = W1 := ⟨_, rfl⟩
  have hB1 : Below W2.heap.size W2 W1 := by rw [← hW1]; exact bel_alloc (Below.refl _ _) _
  have hs1 : W1.heap.size = w.heap.size + 2 := by rw [← hW1, World.size_alloc, hs2]
  have hg1 : Blk W1 (w.heap.size + 1) #[.int .i64 0] 3 := by rw [← hW1, ← hs2]; exact Blk.new W2 _ _
  have k1 := Blk.cell hg1 0
  have k2 := Blk.free hg1 0
  obtain ⟨W3, hW3⟩ : ∃ W3, W1.setCell ⟨w.heap.size + 1, 0, none⟩ (.int .i64 0) = W3 := ⟨_, rfl⟩
  have hB3 : Below W2.heap.size W2 W3 := by rw [← hW3]; exact below_set hB1 (by omega) _ _
  have hs3 : W3.heap.size = w.heap.size + 2 := by rw [← hW3]; simp [World.setCell, hs1]
  have hg : Blk W3 (w.heap.size + 1) #[.int .i64 ((0 : Nat) : Int)] 3 := by rw [← hW3]; exact blk_cell_set hg1 _
  obtain ⟨u0, u1, u2, u3⟩ := (S2.b hB3).four
  obtain ⟨W4, hW4, hB4, hs4, I4, F4⟩ := box_all W3 (opT t) (nameT t) (numT t) a m c
  have G4 := Blk.below hg hB4
  have B4 : Below w.heap.size w W4 := bel_trans (bel_trans hB2 hB3) hB4
  rw [hs3, Nat.add_assoc] at I4 F4
  have hst := all_stops (5 : Nat) w.heap.size (w.heap.size + 3) (w.heap.size + 4) w W4 t a m c hA B4 B4.size I4 F4
  have cAll := all_any (opT t) (nameT t) (numT t) a m c W3
  rw [hW4, hs3, Nat.add_assoc, Nat.add_assoc] at cAll
  have hz1 : size t ≤ 4096 → (size t : Int) = ((min (size t) 4097 : Nat) : Int) := fun h => by omega
  have hz2 : 4096 < size t → (4097 : Int) = ((min (size t) 4097 : Nat) : Int) := fun h => by omega
  clear hA S2 hg1 hg
  generalize hR : ((min (size t) 4097 : Nat) : Int) = R at *
  clear hR
  refine callsIn_of_wp_marks Try.func46 rfl trivial ?_ rfl
  simp only [Try.ntmps46, List.size_toArray, List.length_cons, List.length_nil, Nat.reduceAdd, Nat.reduceSub, Array.replicate_succ, Array.replicate_zero, List.push_toArray, List.append_toArray, List.nil_append, List.cons_append]
  gi_wp2_with (refine ⟨trivial, ?_⟩; gi_at_call 47; refine (callsIn_wide.2 cAll).mono ?_; rintro e w' ⟨rfl, rfl⟩)
  refine wpIn_rangeFunc_ownH rfl (by decide) (gf := 98) (lb := #[.pointer (some ⟨w.heap.size + 3, 0, none⟩), .pointer (some ⟨w.heap.size + 4, 0, none⟩)]) rfl trivial (enters_of Try.func98 (by kernel_rfl) rfl)
    hst KpT.trans (KpT.obj B4.size) (Below.refl _ _) (fun _ => rfl)
    (fun pre W => ((pre.length ≤ 4096) ∧ Blk W (w.heap.size + 1) #[.int .i64 ((pre.length : Nat) : Int)] 3) ∧ Below w.heap.size w W)
    (fun cd pre W => ((cd = .exit 0 ∧ 4096 < pre.length) ∧ Blk W (w.heap.size + 1) #[.int .i64 4097] 3) ∧ Below w.heap.size w W)
    (OwnFrom.and (OwnFrom.and (ownFrom_pure _ _) (Own.from (own_blkF (w.heap.size + 1) (fun pre : List (Pt w.heap.size w) => #[.int .i64 ((pre.length : Nat) : Int)]) 3) _)) (ownFrom_below (Nat.le_refl _) B4.size))
    (fun cd => OwnFrom.and (OwnFrom.and (ownFrom_pure _ _) (Own.from (own_blk _ _ _) _)) (ownFrom_below (Nat.le_refl _) B4.size))
    ⟨⟨by simp, by simpa using G4⟩, B4⟩
    (fun x a2 W => a2 = { tmps := #[.agg #[.int .i64 (opT t), .string (nameT t), .int .i64 (numT t), .slice a m c], .pointer (some ⟨w.heap.size, 0, none⟩), .int .i64 0, .pointer (some ⟨w.heap.size + 1, 0, none⟩), .agg #[.int .i64 (opT t), .string (nameT t), .int .i64 (numT t), .slice a m c], .func (.func 98) #[] #[.pointer (some ⟨w.heap.size + 3, 0, none⟩), .pointer (some ⟨w.heap.size + 4, 0, none⟩)], .agg #[.int .i64 (opT x.t), .string (nameT x.t), .int .i64 (numT x.t), .slice x.a x.n x.c], undef, undef, undef, undef, undef], defers := [] })
    (fun x a2 => ownFrom_pure _ _)
    ?assign ?body ?done ?stop
  case assign =>
    rintro l pre x W K hI hK
    unfold encP
    gi_wp2
    exact hK _ _ (keepsF (Below.refl _ _)) (KpT.refl _ _) hI (by first | (simp; done) | kernel_rfl)
  case body =>
    rintro l pre x a2 W hl hr ⟨⟨hq, hG⟩, hB⟩ rfl hlt
    have hlen : (pre ++ [x]).length = pre.length + 1 := by simp
    obtain ⟨q, hql⟩ : ∃ q, q = pre.length := ⟨_, rfl⟩
    rw [← hql] at hlen hq hG
    clear hql
    have c0 := Blk.cell hG 0
    have q0 := Blk.free hG 0
    have hs := blk_cell_set hG (.int .i64 ((q : Int) + 1))
    have c1 := Blk.cell hs 0
    have hkp : KpT w.heap.size W (W.setCell ⟨w.heap.size + 1, 0, none⟩ (.int .i64 ((q : Int) + 1))) := ⟨(Below.refl _ _).setCell (p := ⟨w.heap.size + 1, 0, none⟩) (by simp) _, keep_set hG (by simp) _ _⟩
    have e7 : (4096 : Nat) + 1 = 4097 := rfl
    by_cases hq6 : q = 4096
    · subst hq6
      gi_wp2
      exact ⟨(KeepsOthers.setCell _ _ _).from _, ⟨⟨rfl, by rw [hlen]; omega⟩, hs⟩, hB.trans hkp.1⟩
    · have hq7 : ¬ (q : Int) + 1 > 4096 := by omega
      gi_wp2
      exact ⟨(KeepsOthers.setCell _ _ _).from _, hkp, ⟨by rw [hlen]; omega, by rw [hlen]; simpa using hs⟩, hB.trans hkp.1⟩
  case done =>
    rintro D zs W hD hS ⟨⟨hq, hG⟩, hB⟩ hK
    have hlen : zs.length = size t := by rw [← all_len t, ← hS]; simp
    rw [hlen] at hq hG
    have h1 := hz1 hq
    rw [h1] at hG
    clear hz1 hz2
    have hR3 := blk_put hG hK (.deferred none)
    have c6 := Blk.cell hG 0
    have hB2 := hB.trans (belowK_b (w := w) (Nat.le_refl _) W D _ (.deferred none) (Nat.le_trans B4.size hD) hK rfl rfl)
    gi_wp2
    refine ⟨by simp, .inl ⟨_, _, rfl, run_takeDeferred hK, ?_⟩⟩
    exact ⟨_, by simp [results, Try.results46, go_sem], rfl, hB2⟩
  case stop =>
    rintro D cd pre W hD hS ⟨⟨⟨rfl, hN⟩, hG⟩, hB⟩ hK
    have hlen : pre.length ≤ size t := by rw [← all_len t]; simpa using hS.length_le
    have h1 := hz2 (by omega)
    rw [h1] at hG
    clear hz1 hz2
    have hR3 := blk_put hG hK (.deferred none)
    have c6 := Blk.cell hG 0
    have hB2 := hB.trans (belowK_b (w := w) (Nat.le_refl _) W D _ (.deferred none) (Nat.le_trans B4.size hD) hK rfl rfl)
    gi_wp2
    refine ⟨by simp, .inl ⟨_, _, rfl, run_takeDeferred hK, ?_⟩⟩
    exact ⟨_, by simp [results, Try.results46, go_sem], rfl, hB2⟩
theorem tSize_any (t : Tm) (a : Option Addr) (m c : Nat) (w : World) (hA : ArW w t a m c) :
    Calls Try.prog 46 #[.agg #[.int .i64 (opT t), .string (nameT t), .int .i64 (numT t), .slice a m c]] w fun e w' => e = .returned (.int .i64 ((min (size t) 4097 : Nat) : Int)) ∧ Below w.heap.size w w' :=
  callsIn_wide.1 (tSize_in t a m c w hA)
theorem szTo_min (t : Tm) (most : Nat) : min (szTo most t) (most + 1) = min (size t) (most + 1) := by
  by_cases h : size t ≤ most
  · rw [szTo_small t most h]
  · have := szTo_big t most (by omega); omega
end Go.Proofs.Ytacncbkcnhlpcaa.T
namespace Go.Proofs.Ytacncbkcnhlpcaa.T
open Go.RowKit L
set_option linter.unusedVariables false
set_option linter.unusedSimpArgs false

theorem depths_app (l m : List Tm) : depths (l ++ m) = max (depths l) (depths m) := by
  induction l with
  | nil => rw [List.nil_append, depths]; omega
  | cons t l ih => rw [List.cons_append, depths, depths, ih]; omega
theorem depth_args (t : Tm) : depth t = 1 + depths (argsT t) := by cases t; rw [depth]; rfl
theorem depths_take {x : Tm} {l : List Tm} {k : Nat} (h : l[k]? = some x) : depths (l.take (k + 1)) = max (depths (l.take k)) (depth x) := by
  rw [take_t h, depths_app, depths, depths]; omega
theorem depths_le {l : List Tm} (k : Nat) : depths (l.take k) ≤ depths l := by
  have := depths_app (l.take k) (l.drop k)
  rw [List.take_append_drop] at this
  omega
def HeightOk (t : Tm) : Prop := ∀ (a : Option Addr) (m c : Nat) (w : World), depth t ≤ 1000000 → ArW w t a m c →
  Calls Try.prog 96 #[.agg #[.int .i64 (opT t), .string (nameT t), .int .i64 (numT t), .slice a m c], .func (.func 78) #[] #[]] w fun e w' => e = .returned (.int .i64 (depth t : Nat)) ∧ Below w.heap.size w w'

set_option maxRecDepth 100000 in
set_option maxHeartbeats 4000000 in
theorem height_step (t : Tm) (hok : ∀ x ∈ argsT t, HeightOk x) : HeightOk t := by
  intro a m c w hd hA
  obtain ⟨W2, hW2, hB2, hs2, S2⟩ := box1 w (opT t) (nameT t) (numT t) a m c
  have hT := TsW.b (ArW.args hA) hB2
  rw [depth_args] at hd ⊢
  have hk2 : ∀ k x, (argsT t)[k]? = some x → HeightOk x := fun k x h => hok x (List.mem_of_getElem? h)
  have hn : m ≤ 9223372036854775807 := by have h1 := hT.2.1; have h2 := hT.2.2.1; unfold maxLen at h2; omega
  have hle := fun k => @depths_le (argsT t) k
  have htk : ∀ k x, (argsT t)[k]? = some x → depths ((argsT t).take (k + 1)) = max (depths ((argsT t).take k)) (depth x) := fun k x h => depths_take h
  have hend : ∀ k, m ≤ k → depths ((argsT t).take k) = depths (argsT t) := fun k h => by rw [List.take_of_length_le (by rw [← hT.1]; exact h)]
  have h0 : depths ((argsT t).take 0) = 0 := rfl
  generalize argsT t = la at *
  obtain ⟨F, hF⟩ : ∃ F : Nat → Nat, ∀ k, depths (la.take k) = F k := ⟨_, fun _ => rfl⟩
  simp only [hF] at hle htk hend h0
  generalize depths la = R at *
  obtain ⟨s0, s1, s2, s3⟩ := S2.four
  have H1 := Lib.hid hT
  have Htk := Lib.hid htk
  have Hend := Lib.hid hend
  have HK := Lib.hid hk2
  have Hle := Lib.hid hle
  have H0 := Lib.hid h0
  clear hA hT htk hend hk2 hok hF S2 hle h0
  generalize opT t = op at *
  generalize nameT t = nm at *
  generalize numT t = nu at *
  go_enter Try.func96, Try.ntmps96
  go_wp2_with (go_at_call 78; ((with_reducible refine (args_any _ _ _ _ _ _ W2).mono ?_); rintro e W2b ⟨rfl, hW2b⟩; have HW2 := Lib.hid hW2b; clear hW2b))
  have hB2b : Below W2.heap.size W2 W2b := by rw [HW2.out]; exact bel_alloc (Below.refl _ _) _
  clear HW2
  go_loopw [5, 12] (fun q i wr0 => ∃ (wr : World) (k h : Nat), wr = wr0 ∧ k ≤ m ∧ q = .int .i64 h ∧ i = .int .i64 k ∧ Below W2.heap.size W2 wr ∧ Hid (h = F k)) (fun q i _ => m - (intOf i).toNat)
  case atStart => exact ⟨_, 0, 0, rfl, by omega, rfl, rfl, hB2b, H0.out.symm⟩
  case round =>
    obtain ⟨wr, k, h, rfl, hk, rfl, rfl, hB, hR⟩ := hrel
    by_cases hlt : k < m
    · obtain ⟨bb, o, x, A, M, Cc, rfl, hb, y0, y1, y2, y3, hx, hok⟩ := (TsW.b H1.out hB).at hlt
      obtain ⟨W4, hW4, hB4, hs4, S4⟩ := box1 wr (opT x) (nameT x) (numT x) A M Cc
      have hmx := Htk.out k x hx
      have hl1 := Hle.out (k + 1)
      have hl0 := Hle.out k
      have hhk := hR.out
      have cs := HK.out k x hx A M Cc W4 (by omega) (ArW.b hok hB4)
      obtain ⟨f0, f1, f2, f3⟩ := S4.four
      have B4 := bel_trans hB hB4
      rw [← hhk] at hmx
      have Hmx := Lib.hid hmx
      have hdx : depth x ≤ 1000000 := by omega
      have hhb : h ≤ 1000000 := by omega
      clear hx hok H1 Htk HK S4 hmx hR hl0 hl1 hhk
      generalize depth x = dx at *
      generalize opT x = op' at *
      generalize nameT x = nm' at *
      generalize numT x = nu' at *
      have hk0 : 0 ≤ (k : Int) := by omega
      have hk1 : (k : Int) < (m : Int) := by omega
      go_wp2_with (go_at_call 96; ((with_reducible refine cs.mono ?_); rintro e w4 ⟨rfl, hb4⟩))
      go_roundw
      case rel => exact ⟨_, k + 1, max h dx, rfl, by omega, by congr 1; split <;> omega, by go_num, bel_trans B4 hb4, Hmx.out.symm⟩
      case measure => simp [intOf]; omega
    · have hnew : Hid (h = R) := by show _ = _; rw [hR.out, Hend.out k (by omega)]
      have hhb : h ≤ 1000000 := by have := hnew.out; omega
      clear hR
      go_wp2
      go_ret
      exact ⟨one (by rw [← hnew.out]; omega), bel_trans hB2 hB⟩
theorem height_any (t : Tm) : HeightOk t := Tm.ind height_step t

set_option maxRecDepth 100000 in
set_option maxHeartbeats 4000000 in
theorem treeDepth_few (t : Tm) (a : Option Addr) (m c : Nat) (w : World) (hsz : size t ≤ 4096) (hA : ArW w t a m c) :
    Calls Try.prog 77 #[.agg #[.int .i64 (opT t), .string (nameT t), .int .i64 (numT t), .slice a m c], .func (.func 78) #[] #[]] w fun e w' => e = .returned (.int .i64 ((min (depth t) 65 : Nat) : Int)) ∧ Below w.heap.size w w' := by
  obtain ⟨W2, hW2, hB2, hs2, S2⟩ := box1 w (opT t) (nameT t) (numT t) a m c
  have hd := depth_size t
  have cS := few_any t a m c W2 (ArW.b hA hB2)
  rw [show decide (size t ≤ 4096) = true from decide_eq_true hsz] at cS
  have cH := fun (w' : World) (h : Below W2.heap.size W2 w') => height_any t a m c w' (by omega) (ArW.b (ArW.b hA hB2) h)
  obtain ⟨s0, s1, s2, s3⟩ := S2.four
  have HS := Lib.hid S2
  clear S2 hA
  have Hm := Lib.hid (show ∀ R : Int, R = min (depth t : Int) 65 → R = ((min (depth t) 65 : Nat) : Int) from fun R h => by omega)
  generalize ((min (depth t) 65 : Nat) : Int) = R at *
  generalize size t = sz at *
  generalize depth t = dp at *
  generalize opT t = op at *
  generalize nameT t = nm at *
  generalize numT t = nu at *
  go_enter Try.func77, Try.ntmps77
  go_wp2_with (first
    | (go_at_call 95; ((with_reducible refine cS.mono ?_); rintro e w3 ⟨rfl, hb3⟩; obtain ⟨u0, u1, u2, u3⟩ := (TBox.b HS.out hb3).four))
    | (go_at_call 96; ((with_reducible refine (cH _ hb3).mono ?_); rintro e w4 ⟨rfl, hb4⟩)))
  all_goals go_ret
  all_goals exact ⟨one (Hm.out _ (by omega)), bel_trans hB2 (bel_trans hb3 hb4)⟩
set_option maxHeartbeats 4000000 in
theorem Depth_few (t : Tm) (a : Option Addr) (m c : Nat) (w : World) (hsz : size t ≤ 4096) (hA : ArW w t a m c) :
    Calls Try.prog 45 #[.agg #[.int .i64 (opT t), .string (nameT t), .int .i64 (numT t), .slice a m c]] w fun e w' => e = .returned (.int .i64 ((min (depth t) 65 : Nat) : Int)) ∧ Below w.heap.size w w' := by
  obtain ⟨W2, hW2, hB2, hs2, S2⟩ := box1 w (opT t) (nameT t) (numT t) a m c
  have cS := treeDepth_few t a m c W2 hsz (ArW.b hA hB2)
  obtain ⟨s0, s1, s2, s3⟩ := S2.four
  clear S2 hA hsz
  generalize ((min (depth t) 65 : Nat) : Int) = R at *
  generalize opT t = op at *
  generalize nameT t = nm at *
  generalize numT t = nu at *
  go_enter Try.func45, Try.ntmps45
  go_wp2_with (go_at_call 77; ((with_reducible refine cS.mono ?_); rintro e w3 ⟨rfl, hb3⟩))
  go_ret
  exact ⟨rfl, bel_trans hB2 hb3⟩

end Go.Proofs.Ytacncbkcnhlpcaa.T
