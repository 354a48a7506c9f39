/-
  What is proved: package tree's walk over the parts of a term: each part, in preorder, is handed to the round of a loop, until a round says no more.
  What is proved: what cmp.Compare returns at int, int64, string; what cmp.Or returns for four numbers.
  What is proved: what package term's comparison of two terms returns: the order of trees.
  What is proved: package term's iterator over the parts of a term, as a loop may range over it; whether a term is a part of another.
  What is proved: what package term's Copy returns: the same term in new memory.
  What is proved: an argument that is a term reads as a tree; a slice of terms as a list of trees.
  What is proved: whether terms have at most 60 parts each.
-/
import Derived.RangeFuncNested
import Derived.RangeFuncBound
import Derived.RangeFuncCalls
import Derived.RangeFuncLeaves
import Derived.Shelf.Abstract
import Derived.Shelf.RegionOpen
import Derived.OwnWalkIn
import Derived.TacticsInMore
import Derived.LoopNIn
import Derived.LoopIn
import Derived.Test.YteidknjhponpkaaBL
import Derived.Laws.MakeOwn
import Derived.Lib.SmallJoins
import Derived.Deep.Slices
import Derived.Deep.Fields
import Derived.ChangeArms
import Derived.OpenShut
namespace Go.Proofs.Yteidknjhponpkaa.T
open Go.RowKit Go.Shelf L
set_option linter.unusedVariables false
set_option linter.unusedSimpArgs false
attribute [local go_sem] Oper.semAt_some

theorem room_none {F : Fence} (hd : F.depth = none) (k : Nat) : F.room k := fun d h => by rw [hd] at h; cases h
theorem round_any {F : Fence} (hd : F.depth = none) {m m' : Nat} {P : Program} {l : Nat} {f : FuncId} {tmps : Array Value} {assign body : Code} {w : World} {R : Ending → World → Prop}
    (h : RoundIn F m P l f tmps assign body w R) : RoundIn F m' P l f tmps assign body w R := ⟨h.1, fun c cs _ => h.2 c cs (room_none hd _)⟩
theorem yield_any {F : Fence} (hd : F.depth = none) {m : Nat} (m' : Nat) {P : Program} {l : Nat} {args : Array Value} {W : World} {R : Ending → World → Prop} (h : YieldAt F m P l args W R) : YieldAt F m' P l args W R := by
  obtain ⟨fn, tmps, assign, body, hy, hR⟩ := h
  exact ⟨fn, tmps, assign, body, hy, round_any hd hR⟩

/-! what a round keeps: what lay below n0, and every block that holds one term -/
def Keep4 (W W' : World) : Prop := ∀ (k : Nat) (cs : Array Value), W.heap[k]? = some (.cells cs 24 (0, 0)) → cs.size = 4 → W'.heap[k]? = some (.cells cs 24 (0, 0))
def KpT (n0 : Nat) (W W' : World) : Prop := Below n0 W W' ∧ Keep4 W W'
theorem Keep4.refl (W : World) : Keep4 W W := fun k cs h _ => h
theorem Keep4.trans {A B C : World} (h : Keep4 A B) (k : Keep4 B C) : Keep4 A C := fun i cs h0 h1 => k i cs (h i cs h0 h1) h1
theorem Keep4.of_below {W W' : World} (h : Below W.heap.size W W') : Keep4 W W' := fun k cs h0 _ => (h.block k (Array.getElem?_eq_some_iff.1 h0).1).trans h0
theorem KpT.refl (n0 : Nat) (W : World) : KpT n0 W W := ⟨Below.refl _ _, Keep4.refl _⟩
theorem KpT.trans {n0 : Nat} {A B C : World} (h : KpT n0 A B) (k : KpT n0 B C) : KpT n0 A C := ⟨h.1.trans k.1, h.2.trans k.2⟩
theorem KpT.of_below {n0 : Nat} {W W' : World} (hn : n0 ≤ W.heap.size) (h : Below W.heap.size W W') : KpT n0 W W' := ⟨h.mono hn, Keep4.of_below h⟩
theorem KpT.obj {n0 : Nat} {w : World} (hn : n0 ≤ w.heap.size) (W : World) (l : Nat) (o o' : Obj) (hl : w.heap.size ≤ l) (h : W.heap[l]? = some o) (h1 : o.isCells = false) (h2 : o.isWalk = false) : KpT n0 W (W.putObj l o') :=
  ⟨belowK_b hn W l o o' hl h h1 h2, fun k cs h0 _ => (World.putObj_heap_other (fun e => by subst e; rw [h] at h0; cases h0; cases h1)).trans h0⟩
theorem TBox.keep {W W' : World} {n0 g : Nat} {o : Int} {s : ByteArray} {z : Int} {a : Option Addr} {n c : Nat} (h : TBox W g o s z a n c) (k : KpT n0 W W') : TBox W' g o s z a n c := k.2 g _ h rfl

/-- a part of a term, with where its Args lie -/
structure Pt (B : Nat) (w0 : World) where
  t : Tm
  a : Option Addr
  n : Nat
  c : Nat
  ok : Ar B w0 t a n c
def encP {B : Nat} {w0 : World} (x : Pt B w0) : Array Value := #[.agg #[.int .i64 (opT x.t), .string (nameT x.t), .int .i64 (numT x.t), .slice x.a x.n x.c]]
theorem all_mk (t : Tm) : all t = t :: alls (argsT t) := by cases t; rw [all]; rfl
theorem alls_app (l m : List Tm) : alls (l ++ m) = alls l ++ alls m := by
  induction l with
  | nil => rfl
  | cons t l ih => rw [List.cons_append, alls, alls, ih, List.append_assoc]
theorem take_t {t : Tm} {l : List Tm} {k : Nat} (h : l[k]? = some t) : l.take (k + 1) = l.take k ++ [t] := by
  rw [List.take_add_one, h]; rfl
theorem alls_pre {t : Tm} {l : List Tm} {k : Nat} (h : l[k]? = some t) : alls (l.take k) ++ all t <+: alls l := by
  have := alls_app (l.take (k + 1)) (l.drop (k + 1))
  rw [List.take_append_drop, take_t h, alls_app] at this
  rw [this]
  have e : alls [t] = all t := by rw [alls, alls, List.append_nil]
  rw [e]
  exact List.prefix_append _ _
theorem alls_lt {t : Tm} {l : List Tm} {k : Nat} (h : l[k]? = some t) : sizes (l.take k) + size t ≤ sizes l := by
  have := (alls_pre h).length_le
  rw [List.length_append, alls_len, alls_len, all_len] at this
  exact this

/-- what is asked of a round -/
def RoundsT (B : Nat) (w0 : World) (l N : Nat) (J Jx : List (Pt B w0) → World → Prop) : Prop :=
  ∀ m pre x W, J pre W → pre.length < N → YieldAt Fence.wide m Try.prog l (encP x) W fun e W' =>
    (e = .returned (.bool true) ∧ J (pre ++ [x]) W' ∧ KpT B W W') ∨ (e = .returned (.bool false) ∧ Jx (pre ++ [x]) W')
theorem args_any (o : Int) (s : ByteArray) (z : Int) (a : Option Addr) (n c : Nat) (w : World) :
    Calls Try.prog 24 #[.agg #[.int .i64 o, .string s, .int .i64 z, .slice a n c]] w fun e w' => e = .returned (.slice a n c) ∧ w' = w.alloc (.cells #[.int .i64 o, .string s, .int .i64 z, .slice a n c] 24) := by
  go_enter Try.func24, Try.ntmps24
  go_wp2
  go_ret
  exact ⟨rfl, rfl⟩
/-- the walk, at this term -/
def VisitOk (B : Nat) (w0 : World) (l N : Nat) (J Jx : List (Pt B w0) → World → Prop) (t : Tm) : Prop :=
  ∀ (n : Nat) (a : Option Addr) (m c : Nat) (pre : List (Pt B w0)) (W : World), Ar B w0 t a m c → Below B w0 W → B ≤ W.heap.size → J pre W → pre.length + size t ≤ N →
    CallsIn Fence.wide n Try.prog 76 #[.agg #[.int .i64 (opT t), .string (nameT t), .int .i64 (numT t), .slice a m c], .func (.func 24) #[] #[], .func (.yield l) #[] #[]] W fun e W' =>
      (e = .returned (.bool true) ∧ (∃ ys, ys.map Pt.t = all t ∧ J (pre ++ ys) W') ∧ KpT B W W') ∨ (e = .returned (.bool false) ∧ ∃ q, q.map Pt.t <+: all t ∧ Jx (pre ++ q) W')

set_option maxRecDepth 100000 in
set_option maxHeartbeats 4000000 in
theorem visit_step (B : Nat) (w0 : World) (l N : Nat) (J Jx : List (Pt B w0) → World → Prop) (b0 : Nat) (hJ : AbidesFrom b0 J) (hY : RoundsT B w0 l N J Jx) (t : Tm) (hok : ∀ x ∈ argsT t, VisitOk B w0 l N J Jx x) : VisitOk B w0 l N J Jx t := by
  intro n a m c pre W hA hB hBW hJ0 hN
  obtain ⟨W2, hW2, hB2, hs2, S2⟩ := box1 W (opT t) (nameT t) (numT t) a m c
  have hJ2 : J pre W2 := by rw [← hW2]; exact hJ pre W _ none hJ0 (World.grownBy_alloc W _ none) (fun r e => by cases e)
  have hp := size_pos t
  obtain ⟨fn, tmps, assign, body, hy, hR⟩ := hY (n - 1) pre ⟨t, a, m, c, hA⟩ W2 hJ2 (by omega)
  dsimp only [encP] at hy
  obtain ⟨s0, s1, s2, s3⟩ := S2.four
  have hKW : KpT B W W2 := KpT.of_below hBW hB2
  have hB02 : Below B w0 W2 := hB.trans hKW.1
  have hT := ar_isT.1 hA
  have hsz : size t = 1 + sizes (argsT t) := by cases t; rw [size]; rfl
  rw [all_mk]
  refine callsIn_of_wp Try.func76 rfl trivial ?_ rfl
  simp only [Try.ntmps76, List.size_toArray, List.length_cons, List.length_nil, Nat.reduceAdd, Nat.reduceSub, Array.replicate_succ, Array.replicate_zero, List.push_toArray, List.append_toArray, List.nil_append, List.cons_append]
  have hdd : ∀ k : Nat, (Fence.wide.depth.isSome = true → 1 ≤ k) := fun k h => by cases h
  gi_wp2_with (first
    | ((try refine ⟨hdd _, ?_⟩); refine hR.mono ?_; clear hR; rintro e W3 (⟨rfl, hJ3, hk3⟩ | ⟨rfl, hx3⟩); all_goals (try (have hk3' := hk3; obtain ⟨u0, u1, u2, u3⟩ := (S2.keep hk3).four)))
    | ((try refine ⟨trivial, ?_⟩); (try refine ⟨hdd _, ?_⟩); gi_at_call 24; refine (callsIn_wide.2 (args_any _ _ _ _ _ _ W3)).mono ?_; rintro e W3b ⟨rfl, hW3b⟩; have hW3c := Lib.hid hW3b; clear hW3b))
  · have hJ3b : J (pre ++ [⟨t, a, m, c, hA⟩]) W3b := by rw [hW3c.out]; exact hJ _ W3 _ none hJ3 (World.grownBy_alloc W3 _ none) (fun r e => by cases e)
    have hK3b : KpT B W3 W3b := by rw [hW3c.out]; exact KpT.of_below (Nat.le_trans hBW (hKW.trans hk3).1.size) (bel_alloc (Below.refl _ _) _)
    clear hJ3 hW3c
    have hJ3 := hJ3b
    have hK3 := (hKW.trans hk3).trans hK3b
    clear hJ3b
    have hn : m ≤ 9223372036854775807 := by have h1 := hT.2.1; have h2 := hT.2.2.1; unfold maxLen at h2; omega
    have hW3 : B ≤ W3b.heap.size := Nat.le_trans hBW hK3.1.size
    have HT := Lib.hid hT
    have HJ := Lib.hid hJ
    have HK := Lib.hid (show ∀ k x, (argsT t)[k]? = some x → VisitOk B w0 l N J Jx x from fun k x h => hok x (List.mem_of_getElem? h))
    have H0 : Hid (∃ ys : List (Pt B w0), ys.map Pt.t = t :: alls ((argsT t).take 0) ∧ J (pre ++ ys) W3b) := ⟨[⟨t, a, m, c, hA⟩], rfl, hJ3⟩
    clear hT hJ hok hJ3 hy hW2 s0 s1 s2 s3 u0 u1 u2 u3 S2 hJ2 hJ0 hY hK3b
    generalize hla : argsT t = la at *
    have HLa := Lib.hid hla
    clear hla
    generalize opT t = op at *
    generalize nameT t = nm at *
    generalize numT t = nu at *
    gi_loopw [17] (fun i wr0 => ∃ (wr : World) (k : Nat), wr = wr0 ∧ k ≤ m ∧ i = .int .i64 k ∧ KpT B W wr ∧ Hid (∃ ys : List (Pt B w0), ys.map Pt.t = t :: alls (la.take k) ∧ J (pre ++ ys) wr)) (fun i _ => m - (intOf i).toNat)
    case atStart => exact ⟨_, 0, rfl, by omega, rfl, hK3, H0⟩
    case round =>
      obtain ⟨wr, k, rfl, hk, rfl, hKr, hR⟩ := hrel
      have hBr : Below B w0 wr := hB.trans hKr.1
      have hBs : B ≤ wr.heap.size := Nat.le_trans hBW hKr.1.size
      by_cases hlt : k < m
      · obtain ⟨bb, o, x, A, M, Cc, rfl, hb, z0, z1, z2, z3, hx, hok⟩ := HT.out.at hlt
        have y0 := (hBr.cell (p := ⟨bb, _, none⟩) hb).trans z0
        have y1 := (hBr.cell (p := ⟨bb, _, none⟩) hb).trans z1
        have y2 := (hBr.cell (p := ⟨bb, _, none⟩) hb).trans z2
        have y3 := (hBr.cell (p := ⟨bb, _, none⟩) hb).trans z3
        obtain ⟨ys, hys, hJr⟩ := hR.out
        have hlen : ys.length = 1 + sizes (la.take k) := by
          have := congrArg List.length hys
          rw [List.length_map, List.length_cons, alls_len] at this
          omega
        have hlts := alls_lt hx
        obtain ⟨W4, hW4, hB4, hs4, S4⟩ := box1 wr (opT x) (nameT x) (numT x) A M Cc
        have hJ4 : J (pre ++ ys) W4 := by rw [← hW4]; exact HJ.out _ wr _ none hJr (World.grownBy_alloc wr _ none) (fun r e => by cases e)
        have hK4 : KpT B wr W4 := KpT.of_below hBs hB4
        have cv := HK.out k x hx (n - 1) A M Cc (pre ++ ys) W4 hok (hBr.trans hK4.1) (Nat.le_trans hBs hK4.1.size) hJ4 (by rw [List.length_append]; omega)
        obtain ⟨f0, f1, f2, f3⟩ := S4.four
        have hpre := alls_pre hx
        have htk := take_t hx
        clear z0 z1 z2 z3 hok hR HK HT HJ S4
        have Hx := Lib.hid hx
        have Hys := Lib.hid hys
        have Hpre := Lib.hid hpre
        have Htk := Lib.hid htk
        clear hx hys hpre htk hJr hJ4
        generalize opT x = op' at *
        generalize nameT x = nm' at *
        generalize numT x = nu' at *
        have hk0 : 0 ≤ (k : Int) := by omega
        have hk1 : (k : Int) < (m : Int) := by omega
        gi_wp2_with ((try refine ⟨trivial, ?_⟩); (try refine ⟨hdd _, ?_⟩); gi_at_call 76; refine cv.mono ?_; clear cv; rintro e W5 (⟨rfl, hz, hk5⟩ | ⟨rfl, hq⟩); all_goals (first | (have Hz := Lib.hid hz; clear hz) | (have Hq := Lib.hid hq; clear hq)))
        · go_roundw
          case rel => exact ⟨_, k + 1, rfl, by omega, by go_num, (hKr.trans hK4).trans hk5, by
            obtain ⟨zs, h1, h2⟩ := Hz.out
            refine ⟨ys ++ zs, ?_, by rw [← List.append_assoc]; exact h2⟩
            rw [List.map_append, Hys.out, h1, Htk.out, alls_app, List.cons_append]
            rw [show alls [x] = all x by rw [alls, alls, List.append_nil]]⟩
          case measure => simp [intOf]; omega
        · go_ret
          refine .inr ⟨rfl, ?_⟩
          rw [HLa.out]
          obtain ⟨q, h1, h2⟩ := Hq.out
          refine ⟨ys ++ q, ?_, by rw [← List.append_assoc]; exact h2⟩
          rw [List.map_append, Hys.out, List.cons_append]
          obtain ⟨r1, h3⟩ := h1
          obtain ⟨r2, h4⟩ := Hpre.out
          exact ⟨r1 ++ r2, by rw [← h4, ← h3]; simp⟩
      · obtain rfl : k = m := by omega
        have hR2 : Hid (∃ ys : List (Pt B w0), ys.map Pt.t = t :: alls la ∧ J (pre ++ ys) wr) := by
          obtain ⟨ys, h1, h2⟩ := hR.out
          exact ⟨ys, by rw [h1, List.take_of_length_le (by have := HT.out.1; omega)], h2⟩
        clear hR
        gi_wp2
        go_ret
        exact .inl ⟨rfl, by rw [HLa.out]; exact hR2.out, hKr⟩
  · go_ret
    exact .inr ⟨rfl, [⟨t, a, m, c, hA⟩], ⟨_, by rw [List.map_singleton, List.singleton_append]⟩, hx3⟩
theorem visit_any (B : Nat) (w0 : World) (l N : Nat) (J Jx : List (Pt B w0) → World → Prop) (b0 : Nat) (hJ : AbidesFrom b0 J) (hY : RoundsT B w0 l N J Jx) (t : Tm) : VisitOk B w0 l N J Jx t :=
  Tm.ind (visit_step B w0 l N J Jx b0 hJ hY) t
end Go.Proofs.Yteidknjhponpkaa.T
namespace Go.Proofs.Yteidknjhponpkaa.T
open Go.RowKit L
set_option linter.unusedVariables false
set_option linter.unusedSimpArgs false

theorem isNaN_int (x : Int) (w : World) : Calls Try.prog 72 #[.int .i64 x] w fun e w' => e = .returned (.bool false) ∧ w = w' := by
  go_enter Try.func72, Try.ntmps72
  go_wp2
  go_ret
  exact ⟨by simp, rfl⟩
theorem isNaN_i64 (x : Int) (w : World) : Calls Try.prog 73 #[.int .i64 x] w fun e w' => e = .returned (.bool false) ∧ w = w' := by
  go_enter Try.func73, Try.ntmps73
  go_wp2
  go_ret
  exact ⟨by simp, rfl⟩
theorem isNaN_str (x : ByteArray) (w : World) : Calls Try.prog 74 #[.string x] w fun e w' => e = .returned (.bool false) ∧ w = w' := by
  go_enter Try.func74, Try.ntmps74
  go_wp2
  go_ret
  exact ⟨by simp, rfl⟩
theorem cmp_int (x y : Int) (w : World) : Calls Try.prog 42 #[.int .i64 x, .int .i64 y] w fun e w' => e = .returned (.int .i64 (cmpI x y)) ∧ w = w' := by
  have c1 := isNaN_int x w
  have c2 := isNaN_int y w
  have hr : Hid (cmpI x y = if x < y then -1 else if y < x then 1 else 0) := rfl
  generalize cmpI x y = R at *
  by_cases h1 : x < y
  · have hR : Hid ((-1 : Int) = R) := by show _ = _; rw [hr.out, if_pos h1]
    clear hr
    go_enter Try.func42, Try.ntmps42
    go_wp2_with (first
      | (go_at_call 72; ((with_reducible refine c1.mono ?_); rintro e w1 ⟨rfl, rfl⟩))
      | (go_at_call 72; ((with_reducible refine c2.mono ?_); rintro e w1 ⟨rfl, rfl⟩)))
    go_ret
    exact ⟨one hR.out, rfl⟩
  · by_cases h2 : y < x
    · have hR : Hid ((1 : Int) = R) := by show _ = _; rw [hr.out, if_neg h1, if_pos h2]
      clear hr
      go_enter Try.func42, Try.ntmps42
      go_wp2_with (first
        | (go_at_call 72; ((with_reducible refine c1.mono ?_); rintro e w1 ⟨rfl, rfl⟩))
        | (go_at_call 72; ((with_reducible refine c2.mono ?_); rintro e w1 ⟨rfl, rfl⟩)))
      go_ret
      exact ⟨one hR.out, rfl⟩
    · have hR : Hid ((0 : Int) = R) := by show _ = _; rw [hr.out, if_neg h1, if_neg h2]
      clear hr
      go_enter Try.func42, Try.ntmps42
      go_wp2_with (first
        | (go_at_call 72; ((with_reducible refine c1.mono ?_); rintro e w1 ⟨rfl, rfl⟩))
        | (go_at_call 72; ((with_reducible refine c2.mono ?_); rintro e w1 ⟨rfl, rfl⟩)))
      go_ret
      exact ⟨one hR.out, rfl⟩
theorem cmp_i64 (x y : Int) (w : World) : Calls Try.prog 43 #[.int .i64 x, .int .i64 y] w fun e w' => e = .returned (.int .i64 (cmpI x y)) ∧ w = w' := by
  have c1 := isNaN_i64 x w
  have c2 := isNaN_i64 y w
  have hr : Hid (cmpI x y = if x < y then -1 else if y < x then 1 else 0) := rfl
  generalize cmpI x y = R at *
  by_cases h1 : x < y
  · have hR : Hid ((-1 : Int) = R) := by show _ = _; rw [hr.out, if_pos h1]
    clear hr
    go_enter Try.func43, Try.ntmps43
    go_wp2_with (first
      | (go_at_call 73; ((with_reducible refine c1.mono ?_); rintro e w1 ⟨rfl, rfl⟩))
      | (go_at_call 73; ((with_reducible refine c2.mono ?_); rintro e w1 ⟨rfl, rfl⟩)))
    go_ret
    exact ⟨one hR.out, rfl⟩
  · by_cases h2 : y < x
    · have hR : Hid ((1 : Int) = R) := by show _ = _; rw [hr.out, if_neg h1, if_pos h2]
      clear hr
      go_enter Try.func43, Try.ntmps43
      go_wp2_with (first
        | (go_at_call 73; ((with_reducible refine c1.mono ?_); rintro e w1 ⟨rfl, rfl⟩))
        | (go_at_call 73; ((with_reducible refine c2.mono ?_); rintro e w1 ⟨rfl, rfl⟩)))
      go_ret
      exact ⟨one hR.out, rfl⟩
    · have hR : Hid ((0 : Int) = R) := by show _ = _; rw [hr.out, if_neg h1, if_neg h2]
      clear hr
      go_enter Try.func43, Try.ntmps43
      go_wp2_with (first
        | (go_at_call 73; ((with_reducible refine c1.mono ?_); rintro e w1 ⟨rfl, rfl⟩))
        | (go_at_call 73; ((with_reducible refine c2.mono ?_); rintro e w1 ⟨rfl, rfl⟩)))
      go_ret
      exact ⟨one hR.out, rfl⟩
theorem less_yes {x y : ByteArray} : Go.Op.bytesLess x.toList y.toList = decide (cmpN x y = -1) := less_cmp _ _
theorem more_yes {x y : ByteArray} : Go.Op.bytesLess y.toList x.toList = decide (cmpN x y = 1) := by
  rw [less_cmp]
  have h := linN.anti x y
  have : cmpN y x = -1 ↔ cmpN x y = 1 := by omega
  exact decide_eq_decide.2 this
theorem same_yes {x y : ByteArray} : (x.toList == y.toList) = decide (cmpN x y = 0) := by
  rw [Bool.eq_iff_iff, eqS_iff, decide_eq_true_iff, linN.eq]
theorem cmp_str (x y : ByteArray) (w : World) : Calls Try.prog 44 #[.string x, .string y] w fun e w' => e = .returned (.int .i64 (cmpN x y)) ∧ w = w' := by
  have c1 := isNaN_str x w
  have c2 := isNaN_str y w
  have h1 := @less_yes x y
  have h2 := @more_yes x y
  have h3 := @same_yes x y
  rcases linN.rng x y with hc | hc | hc
  all_goals
    rw [hc] at h1 h2 h3 ⊢
    simp only [Int.reduceNeg, decide_true, Int.reduceEq, decide_false] at h1 h2 h3
    first | (have h4 : (x.toList = y.toList) = False := by simpa using h3) | (have h4 : (x.toList = y.toList) = True := by simpa using h3)
    clear hc
    go_enter Try.func44, Try.ntmps44
    go_wp2_with (first
      | (go_at_call 74; ((with_reducible refine c1.mono ?_); rintro e w1 ⟨rfl, rfl⟩))
      | (go_at_call 74; ((with_reducible refine c2.mono ?_); rintro e w1 ⟨rfl, rfl⟩)))
    go_ret
    exact ⟨rfl, rfl⟩
/-- four numbers in a row -/
def Four (w : World) (g : Nat) (x0 x1 x2 x3 : Int) : Prop := Blk w g #[.int .i64 x0, .int .i64 x1, .int .i64 x2, .int .i64 x3] 3
theorem Four.cells {w : World} {g : Nat} {x0 x1 x2 x3 : Int} (h : Four w g x0 x1 x2 x3) : w.cell? ⟨g, 0, none⟩ = some (.int .i64 x0) ∧ w.cell? ⟨g, 1, none⟩ = some (.int .i64 x1) ∧ w.cell? ⟨g, 2, none⟩ = some (.int .i64 x2) ∧ w.cell? ⟨g, 3, none⟩ = some (.int .i64 x3) := ⟨Blk.cell h 0, Blk.cell h 1, Blk.cell h 2, Blk.cell h 3⟩
theorem or_four (g : Nat) (x0 x1 x2 x3 : Int) (w : World) (h : Four w g x0 x1 x2 x3) :
    Calls Try.prog 41 #[.slice (some ⟨g, 0, none⟩) 4 4] w fun e w' => e = .returned (.int .i64 (lex x0 (lex x1 (lex x2 x3)))) ∧ w = w' := by
  obtain ⟨c0, c1, c2, c3⟩ := h.cells
  have hr : Hid (lex x0 (lex x1 (lex x2 x3)) = if x0 ≠ 0 then x0 else if x1 ≠ 0 then x1 else if x2 ≠ 0 then x2 else x3) := rfl
  generalize lex x0 (lex x1 (lex x2 x3)) = R at *
  clear h
  by_cases h0 : x0 = 0
  · subst h0
    by_cases h1 : x1 = 0
    · subst h1
      by_cases h2 : x2 = 0
      · subst h2
        by_cases h3 : x3 = 0
        · subst h3
          have hR : Hid ((0 : Int) = R) := by show _ = _; rw [hr.out]; simp
          clear hr
          go_enter Try.func41, Try.ntmps41
          go_wp2
          refine wp_loop_rounds 5 ?_
          rw [rounds_succ]; go_wp2
          rw [rounds_succ]; go_wp2
          rw [rounds_succ]; go_wp2
          rw [rounds_succ]; go_wp2
          rw [rounds_succ]; go_wp2
          go_ret
          exact ⟨one hR.out, rfl⟩
        · have hR : Hid (x3 = R) := by show _ = _; rw [hr.out]; simp
          have hb : (x3 != 0) = true := by simpa using h3
          clear hr
          go_enter Try.func41, Try.ntmps41
          go_wp2
          refine wp_loop_rounds 4 ?_
          rw [rounds_succ]; go_wp2
          rw [rounds_succ]; go_wp2
          rw [rounds_succ]; go_wp2
          rw [rounds_succ]; go_wp2
          go_ret
          exact ⟨one hR.out, rfl⟩
      · have hR : Hid (x2 = R) := by show _ = _; rw [hr.out]; simp [h2]
        have hb : (x2 != 0) = true := by simpa using h2
        clear hr
        go_enter Try.func41, Try.ntmps41
        go_wp2
        refine wp_loop_rounds 3 ?_
        rw [rounds_succ]; go_wp2
        rw [rounds_succ]; go_wp2
        rw [rounds_succ]; go_wp2
        go_ret
        exact ⟨one hR.out, rfl⟩
    · have hR : Hid (x1 = R) := by show _ = _; rw [hr.out]; simp [h1]
      have hb : (x1 != 0) = true := by simpa using h1
      clear hr
      go_enter Try.func41, Try.ntmps41
      go_wp2
      refine wp_loop_rounds 2 ?_
      rw [rounds_succ]; go_wp2
      rw [rounds_succ]; go_wp2
      go_ret
      exact ⟨one hR.out, rfl⟩
  · have hR : Hid (x0 = R) := by show _ = _; rw [hr.out]; simp [h0]
    have hb : (x0 != 0) = true := by simpa using h0
    clear hr
    go_enter Try.func41, Try.ntmps41
    go_wp2
    refine wp_loop_rounds 1 ?_
    rw [rounds_succ]; go_wp2
    go_ret
    exact ⟨one hR.out, rfl⟩
end Go.Proofs.Yteidknjhponpkaa.T
namespace Go.Proofs.Yteidknjhponpkaa.T
open Go.RowKit L
set_option linter.unusedVariables false
set_option linter.unusedSimpArgs false

theorem cmpT_mk (t u : Tm) : cmpT t u = lex (lex (cmpI (opT t) (opT u)) (lex (cmpI (numT t) (numT u)) (lex (cmpN (nameT t) (nameT u)) (cmpI (argsT t).length (argsT u).length)))) (cmpTs (argsT t) (argsT u)) := by
  cases t; cases u; rw [cmpT, lex_assoc, lex_assoc, lex_assoc]; rfl
/-- the comparison, at this term -/
def CmpOk (t : Tm) : Prop := ∀ (u : Tm) (a : Option Addr) (n c : Nat) (a' : Option Addr) (n' c' : Nat) (w : World), ArW w t a n c → ArW w u a' n' c' →
  Calls Try.prog 19 #[.agg #[.int .i64 (opT t), .string (nameT t), .int .i64 (numT t), .slice a n c], .agg #[.int .i64 (opT u), .string (nameT u), .int .i64 (numT u), .slice a' n' c']] w fun e w' => e = .returned (.int .i64 (cmpT t u)) ∧ Below w.heap.size w w'

set_option maxRecDepth 100000 in
set_option maxHeartbeats 4000000 in
theorem CompareFunc_of (l : List Tm) (hok : ∀ t ∈ l, CmpOk t) (b : Option Addr) (m d : Nat) (b' : Option Addr) (d' : Nat) (l' : List Tm) (w : World) (hG : TsW w b m d l) (hG' : TsW w b' m d' l') :
    Calls Try.prog 45 #[.slice b m d, .slice b' m d', .func (.func 19) #[] #[]] w fun e w' => e = .returned (.int .i64 (cmpTs l l')) ∧ Below w.heap.size w w' := by
  have hst : ∀ k (f g : Tm), l[k]? = some f → l'[k]? = some g → cmpTs (l.drop k) (l'.drop k) = lex (cmpT f g) (cmpTs (l.drop (k + 1)) (l'.drop (k + 1))) := fun k f g h h2 => by rw [drop_t h, drop_t h2, cmpTs]
  have he : ∀ k, m ≤ k → cmpTs (l.drop k) (l'.drop k) = 0 := fun k h => by
    rw [List.drop_eq_nil_of_le (by rw [← hG.1]; exact h), cmpTs]
  have h0 : cmpTs l l' = cmpTs (l.drop 0) (l'.drop 0) := rfl
  have hk2 : ∀ k f, l[k]? = some f → CmpOk f := fun k f h => hok f (List.mem_of_getElem? h)
  have hm : m ≤ 9223372036854775807 := by have h1 := hG.2.1; have h2 := hG.2.2.1; unfold maxLen at h2; omega
  rw [h0]
  obtain ⟨F, hF⟩ : ∃ F : Nat → Int, ∀ k, cmpTs (l.drop k) (l'.drop k) = F k := ⟨_, fun _ => rfl⟩
  simp only [hF] at hst he ⊢
  clear hF h0 hok
  have H1 := Lib.hid hG
  have H2 := Lib.hid hG'
  have Hst := Lib.hid hst
  have He := Lib.hid he
  have HK := Lib.hid hk2
  clear hG hG' hst he hk2
  go_enter Try.func45, Try.ntmps45
  go_wp2
  go_loopw [13] (fun i wr0 => ∃ (wr : World) (k : Nat), wr = wr0 ∧ k ≤ m ∧ i = .int .i64 k ∧ Below w.heap.size w wr ∧ Hid (F k = F 0)) (fun i _ => m - (intOf i).toNat)
  case atStart => exact ⟨_, 0, rfl, by omega, rfl, Below.refl _ _, Lib.hid rfl⟩
  case round =>
    obtain ⟨wr, k, rfl, hk, rfl, hB, hR⟩ := hrel
    by_cases hlt : k < m
    · obtain ⟨bb, o, t, A, M, Cc, rfl, hb, y0, y1, y2, y3, hx, hok⟩ := (TsW.b H1.out hB).at hlt
      obtain ⟨bb', o', u, A', M', Cc', rfl, hb', z0, z1, z2, z3, hx', hok'⟩ := (TsW.b H2.out hB).at hlt
      have hs1 := Lib.hid (Hst.out k t u hx hx')
      have hk0 : 0 ≤ (k : Int) := by omega
      have hk1 : (k : Int) < (m : Int) := by omega
      have hk2 : ¬ (m : Int) ≤ (k : Int) := by omega
      obtain ⟨W3, hW3, hB3, hs3, F3, G3⟩ := box2 wr (opT t) (nameT t) (numT t) A M Cc (opT u) (nameT u) (numT u) A' M' Cc'
      have cs := HK.out k t hx u A M Cc A' M' Cc' W3 (ArW.b hok hB3) (ArW.b hok' hB3)
      have B3 := bel_trans hB hB3
      obtain ⟨f0, f1, f2, f3⟩ := F3.four
      obtain ⟨h0, h1, h2, h3⟩ := G3.four
      have hA : Below wr.heap.size wr (wr.alloc (.cells #[.int .i64 (opT t), .string (nameT t), .int .i64 (numT t), .slice A M Cc] 24)) := bel_alloc (Below.refl _ _) _
      have v0 := (hA.cell hb').trans z0
      have v1 := (hA.cell hb').trans z1
      have v2 := (hA.cell hb').trans z2
      have v3 := (hA.cell hb').trans z3
      clear hx hx' hok hok' H1 H2 Hst HK hA
      generalize cmpT t u = Q at *
      generalize opT t = op at *
      generalize nameT t = nm at *
      generalize numT t = nu at *
      generalize opT u = op' at *
      generalize nameT u = nm' at *
      generalize numT u = nu' at *
      by_cases hQ : Q = 0
      · subst hQ
        have hnew : Hid (F (k + 1) = F 0) := by show _ = _; rw [← hR.out, hs1.out, zero_lex]
        clear hR hs1
        go_wp2_with (go_at_call 19; ((with_reducible refine cs.mono ?_); rintro e w4 ⟨rfl, hb4⟩))
        go_roundw
        case rel => exact ⟨_, k + 1, rfl, by omega, by go_num, bel_trans B3 hb4, hnew⟩
        case measure => simp [intOf]; omega
      · have hnew : Hid (Q = F 0) := by show _ = _; rw [← hR.out, hs1.out]; unfold lex; rw [if_pos hQ]
        have hq : (Q != 0) = true := by simpa using hQ
        clear hR hs1
        go_wp2_with (go_at_call 19; ((with_reducible refine cs.mono ?_); rintro e w4 ⟨rfl, hb4⟩))
        go_ret
        exact ⟨one hnew.out, bel_trans B3 hb4⟩
    · have hnew : Hid (0 = F 0) := by show _ = _; rw [← hR.out, He.out k (by omega)]
      clear hR
      go_wp2
      go_ret
      exact ⟨one hnew.out, hB⟩

set_option maxRecDepth 100000 in
set_option maxHeartbeats 4000000 in
theorem Compare_step (t : Tm) (hok : ∀ x ∈ argsT t, CmpOk x) : CmpOk t := by
  intro u a n c a' n' c' w hA hA'
  obtain ⟨W2, hW2, hB2, hs2, S2, T2⟩ := box2 w (opT t) (nameT t) (numT t) a n c (opT u) (nameT u) (numT u) a' n' c'
  have hn : (argsT t).length = n := (ArW.args hA).1.symm
  have hn' : (argsT u).length = n' := (ArW.args hA').1.symm
  have hTt := ArW.args hA
  have hTu := ArW.args hA'
  rw [cmpT_mk, hn, hn']
  have cT : n = n' → ∀ w', Below w.heap.size w w' → Calls Try.prog 45 #[.slice a n c, .slice a' n' c', .func (.func 19) #[] #[]] w' fun e w1 => e = .returned (.int .i64 (cmpTs (argsT t) (argsT u))) ∧ Below w'.heap.size w' w1 := by
    rintro rfl w' hb
    exact CompareFunc_of (argsT t) hok a n c a' c' (argsT u) w' (TsW.b hTt hb) (TsW.b hTu hb)
  have hlast : cmpI n n' = 0 → n = n' := fun h => by have := (linI.eq _ _).1 h; omega
  clear hA hA' hok hTt hTu hn hn'
  have lgS := Blk.lt S2
  have lgT := Blk.lt T2
  obtain ⟨s0, s1, s2, s3⟩ := S2.four
  obtain ⟨t0, t1, t2, t3⟩ := T2.four
  generalize cmpTs (argsT t) (argsT u) = R at *
  generalize opT t = op at *
  generalize nameT t = nm at *
  generalize numT t = nu at *
  generalize opT u = op' at *
  generalize nameT u = nm' at *
  generalize numT u = nu' at *
  have cI := fun (x y : Int) (w : World) => cmp_int x y w
  have cJ := fun (x y : Int) (w : World) => cmp_i64 x y w
  have cS := fun (x y : ByteArray) (w : World) => cmp_str x y w
  generalize hx0 : cmpI op op' = x0 at *
  generalize hx1 : cmpI nu nu' = x1 at *
  generalize hx2 : cmpN nm nm' = x2 at *
  generalize hx3 : cmpI (n : Int) (n' : Int) = x3 at *
  have hF : Four (W2.alloc (.cells #[.int .i64 x0, .int .i64 x1, .int .i64 x2, .int .i64 x3] 3)).drew (w.heap.size + 2) x0 x1 x2 x3 := by rw [← hs2]; exact Blk.below (Blk.new W2 _ _) (Below.refl _ _).drew
  have BF : Below W2.heap.size W2 (W2.alloc (.cells #[.int .i64 x0, .int .i64 x1, .int .i64 x2, .int .i64 x3] 3)).drew := (bel_alloc (Below.refl _ _) _).drew
  generalize hD : lex x0 (lex x1 (lex x2 x3)) = D at *
  have hl : D = 0 → n = n' := fun h => by
    rw [h] at hD
    exact hlast (lex_eq.1 (lex_eq.1 (lex_eq.1 hD).2).2).2
  clear hlast
  obtain ⟨W3, hW3⟩ : ∃ W3, (W2.alloc (.cells #[.int .i64 x0, .int .i64 x1, .int .i64 x2, .int .i64 x3] 3)).drew = W3 := ⟨_, rfl⟩
  rw [hW3] at hF BF
  have B3 := bel_trans hB2 BF
  obtain ⟨u0, u1, u2, u3⟩ := (S2.b BF).four
  obtain ⟨v0, v1, v2, v3⟩ := (T2.b BF).four
  by_cases h0 : D = 0
  · obtain rfl := hl h0
    have cX := cT rfl W3 B3
    have hnew : Hid (R = lex D R) := by show _ = _; rw [h0, zero_lex]
    have h0' : (D != 0) = false := by simpa using h0
    clear hl cT h0
    go_enter Try.func19, Try.ntmps19
    go_wp2_with fail
    go_region_held3 (fun w' => w'.cell? ⟨w.heap.size, 0, none⟩ = some (.int .i64 op) ∧ w'.cell? ⟨w.heap.size, 1, none⟩ = some (.string nm) ∧ w'.cell? ⟨w.heap.size, 2, none⟩ = some (.int .i64 nu) ∧ w'.cell? ⟨w.heap.size, 3, none⟩ = some (.slice a n c) ∧ w'.cell? ⟨w.heap.size + 1, 0, none⟩ = some (.int .i64 op') ∧ w'.cell? ⟨w.heap.size + 1, 1, none⟩ = some (.string nm') ∧ w'.cell? ⟨w.heap.size + 1, 2, none⟩ = some (.int .i64 nu') ∧ w'.cell? ⟨w.heap.size + 1, 3, none⟩ = some (.slice a' n c'))
      (first | (exact ⟨u0, u1, u2, u3, v0, v1, v2, v3⟩) | go_keep)
      (first
        | (go_at_call 42; ((with_reducible refine (cI _ _ _).mono ?_); rintro e w4 ⟨rfl, rfl⟩))
        | (go_at_call 43; ((with_reducible refine (cJ _ _ _).mono ?_); rintro e w4 ⟨rfl, rfl⟩))
        | (go_at_call 44; ((with_reducible refine (cS _ _ _).mono ?_); rintro e w4 ⟨rfl, rfl⟩))
        | (go_at_call 41; ((with_reducible refine (or_four _ _ _ _ _ _ hF).mono ?_); rintro e w4 ⟨rfl, rfl⟩)))
    go_wp2_with (go_at_call 45; ((with_reducible refine cX.mono ?_); rintro e w5 ⟨rfl, hb5⟩))
    go_ret
    exact ⟨one hnew.out, bel_trans B3 hb5⟩
  · have hnew : Hid (D = lex D R) := by show _ = _; unfold lex; rw [if_pos h0]
    have h0' : (D != 0) = true := by simpa using h0
    clear hl cT h0
    go_enter Try.func19, Try.ntmps19
    go_wp2_with fail
    go_region_held3 (fun w' => w'.cell? ⟨w.heap.size, 0, none⟩ = some (.int .i64 op) ∧ w'.cell? ⟨w.heap.size, 1, none⟩ = some (.string nm) ∧ w'.cell? ⟨w.heap.size, 2, none⟩ = some (.int .i64 nu) ∧ w'.cell? ⟨w.heap.size, 3, none⟩ = some (.slice a n c) ∧ w'.cell? ⟨w.heap.size + 1, 0, none⟩ = some (.int .i64 op') ∧ w'.cell? ⟨w.heap.size + 1, 1, none⟩ = some (.string nm') ∧ w'.cell? ⟨w.heap.size + 1, 2, none⟩ = some (.int .i64 nu') ∧ w'.cell? ⟨w.heap.size + 1, 3, none⟩ = some (.slice a' n' c'))
      (first | (exact ⟨u0, u1, u2, u3, v0, v1, v2, v3⟩) | go_keep)
      (first
        | (go_at_call 42; ((with_reducible refine (cI _ _ _).mono ?_); rintro e w4 ⟨rfl, rfl⟩))
        | (go_at_call 43; ((with_reducible refine (cJ _ _ _).mono ?_); rintro e w4 ⟨rfl, rfl⟩))
        | (go_at_call 44; ((with_reducible refine (cS _ _ _).mono ?_); rintro e w4 ⟨rfl, rfl⟩))
        | (go_at_call 41; ((with_reducible refine (or_four _ _ _ _ _ _ hF).mono ?_); rintro e w4 ⟨rfl, rfl⟩)))
    go_wp2
    go_ret
    exact ⟨one hnew.out, B3⟩
theorem Compare_any (t : Tm) : CmpOk t := Tm.ind Compare_step t
end Go.Proofs.Yteidknjhponpkaa.T
namespace Go.Proofs.Yteidknjhponpkaa.T
open Go.RowKit Go.Shelf L
set_option linter.unusedVariables false
set_option linter.unusedSimpArgs false
attribute [local go_sem] Oper.semAt_some

/-- the blocks that the iterator is made of: the term, the term, and what lies below one -/
theorem box_all (w : World) (o : Int) (s : ByteArray) (z : Int) (a : Option Addr) (n c : Nat) :
    ∃ W, ((w.alloc (.cells #[.int .i64 o, .string s, .int .i64 z, .slice a n c] 24)).alloc (.cells #[.int .i64 o, .string s, .int .i64 z, .slice a n c] 24)).alloc (.cells #[.func (.func 24) #[] #[]] 35) = W ∧ Below w.heap.size w W ∧ W.heap.size = w.heap.size + 3 ∧ TBox W (w.heap.size + 1) o s z a n c ∧ Blk W (w.heap.size + 2) #[.func (.func 24) #[] #[]] 35 := by
  obtain ⟨W2, h2, hb, hs, t1, t2⟩ := box2 w o s z a n c o s z a n c
  rw [h2]
  refine ⟨_, rfl, bel_alloc hb _, by simp [hs], Blk.alloc t2 _, ?_⟩
  have := Blk.new W2 #[Value.func (.func 24) #[] #[]] 35
  rwa [hs] at this
theorem tall_any (o : Int) (s : ByteArray) (z : Int) (a : Option Addr) (n c : Nat) (w : World) :
    Calls Try.prog 46 #[.agg #[.int .i64 o, .string s, .int .i64 z, .slice a n c], .func (.func 24) #[] #[]] w fun e w' => e = .returned (.func (.func 75) #[] #[.pointer (some ⟨w.heap.size, 0, none⟩), .pointer (some ⟨w.heap.size + 1, 0, none⟩)]) ∧ w' = (w.alloc (.cells #[.int .i64 o, .string s, .int .i64 z, .slice a n c] 24)).alloc (.cells #[.func (.func 24) #[] #[]] 35) := by
  go_enter Try.func46, Try.ntmps46
  go_wp2
  go_ret
  exact ⟨rfl, rfl⟩
theorem all_any (o : Int) (s : ByteArray) (z : Int) (a : Option Addr) (n c : Nat) (w : World) :
    Calls Try.prog 20 #[.agg #[.int .i64 o, .string s, .int .i64 z, .slice a n c]] w fun e w' => e = .returned (.func (.func 75) #[] #[.pointer (some ⟨w.heap.size + 1, 0, none⟩), .pointer (some ⟨w.heap.size + 2, 0, none⟩)]) ∧ w' = ((w.alloc (.cells #[.int .i64 o, .string s, .int .i64 z, .slice a n c] 24)).alloc (.cells #[.int .i64 o, .string s, .int .i64 z, .slice a n c] 24)).alloc (.cells #[.func (.func 24) #[] #[]] 35) := by
  obtain ⟨W1, h1, hb1, hs1, S1⟩ := box1 w o s z a n c
  have c1 := tall_any o s z a n c W1
  rw [hs1, Nat.add_assoc] at c1
  rw [h1]
  obtain ⟨s0, s1, s2, s3⟩ := S1.four
  clear S1
  go_enter Try.func20, Try.ntmps20
  go_wp2_with (go_at_call 46; ((with_reducible refine c1.mono ?_); rintro e w1 ⟨rfl, rfl⟩))
  go_ret
  exact ⟨rfl, rfl⟩
set_option maxHeartbeats 2000000 in
theorem all_stops (n : Nat) (B g g2 : Nat) (w0 w : World) (t : Tm) (a : Option Addr) (m c : Nat) (hA : Ar B w0 t a m c) (hB : Below B w0 w) (hBw : B ≤ w.heap.size) (hT : TBox w g (opT t) (nameT t) (numT t) a m c) (hF : Blk w g2 #[.func (.func 24) #[] #[]] 35) :
    SeqStopsK Fence.wide n Try.prog 75 #[.pointer (some ⟨g, 0, none⟩), .pointer (some ⟨g2, 0, none⟩)] (encP (B := B) (w0 := w0)) (KpT B) (fun ys => ys.map Pt.t = all t) (fun pre => pre.map Pt.t <+: all t) (size t) w := fun l J Jx W hW hJ hJx hY h0 => by
  have hY2 : RoundsT B w0 l (size t) J Jx := fun m pre x W hj hl => yield_any rfl m (hY pre x W hj hl)
  have hv := visit_any B w0 l (size t) J Jx _ hJ hY2 t (n - 1) a m c [] W hA (hB.trans (hW.mono hBw)) (Nat.le_trans hBw hW.size) h0 (by simp)
  obtain ⟨t0, t1, t2, t3⟩ := (TBox.b hT hW).four
  have f0 := Blk.cell (Blk.below hF hW) 0
  have hdd : ∀ k : Nat, (Fence.wide.depth.isSome = true → 1 ≤ k) := fun k h => by cases h
  clear hY hY2 hT hA hJ hJx h0 hF
  refine callsIn_of_wp Try.func75 rfl trivial ?_ rfl
  simp only [Try.ntmps75, List.size_toArray, List.length_cons, List.length_nil, Nat.reduceAdd, Nat.reduceSub, Array.replicate_succ, Array.replicate_zero, List.push_toArray, List.append_toArray, List.nil_append, List.cons_append]
  gi_wp2_with ((try refine ⟨trivial, ?_⟩); (try refine ⟨hdd _, ?_⟩); gi_at_call 76; refine hv.mono ?_; clear hv; rintro e W5 (⟨rfl, hz, hk5⟩ | ⟨rfl, hq⟩); all_goals (first | (have Hz := Lib.hid hz; clear hz) | (have Hq := Lib.hid hq; clear hq)))
  · go_end0
    obtain ⟨ys, h1, h2⟩ := Hz.out
    exact ⟨⟨_, rfl⟩, .inl ⟨ys, h1, by simpa using h2⟩⟩
  · go_end0
    obtain ⟨ys, h1, h2⟩ := Hq.out
    exact ⟨⟨_, rfl⟩, .inr ⟨ys, h1, by simpa using h2⟩⟩

/-! what a loop's own blocks abide -/
theorem own_blk {β : Type} (g : Nat) (cs : Array Value) (t : TypeId) : Own (fun (_ : β) W => Blk W g cs t) := fun s X Y row hs hg hr => by
  refine (hg.block g (Blk.lt hs) (fun e => ?_)).trans hs
  obtain ⟨o, ho, hc⟩ := hr g e.symm
  rw [show X.heap[g]? = _ from hs] at ho; cases ho; cases hc
theorem blk_cell_set {W : World} {g : Nat} {v : Value} {t : TypeId} (h : Blk W g #[v] t) (u : Value) : Blk (W.setCell ⟨g, 0, none⟩ u) g #[u] t := by
  have := Blk.set h 0 u
  simpa using this
theorem keepsF {B0 : Nat} {W W' : World} (h : Below W.heap.size W W') : KeepsFrom B0 W W' := ⟨h.size, fun k o _ hk _ => (h.block k (Array.getElem?_eq_some_iff.1 hk).1).trans hk⟩
/-- a store into a block that is no term's -/
theorem keep_set {W : World} {g : Nat} {cs : Array Value} {t : TypeId} (h : Blk W g cs t) (hne : cs.size ≠ 4) (k : Nat) (v : Value) : Keep4 W (W.setCell ⟨g, k, none⟩ v) := fun i cs2 h0 h1 => by
  refine (heap_setCell_other W ⟨g, k, none⟩ i v (fun e => ?_)).trans h0
  subst e
  rw [show W.heap[i]? = _ from h] at h0
  injection h0 with h0; injection h0 with h0
  exact hne (h0 ▸ h1)

theorem blk_ne {W : World} {g D : Nat} {cs : Array Value} {t : TypeId} {d : Option (List Deferred)} (h : Blk W g cs t) (hD : W.heap[D]? = some (.deferred d)) : g ≠ D := fun e => by
  subst e
  rw [show W.heap[g]? = _ from h] at hD; cases hD
theorem blk_put {W : World} {g D : Nat} {cs : Array Value} {t : TypeId} {d : Option (List Deferred)} (h : Blk W g cs t) (hD : W.heap[D]? = some (.deferred d)) (o : Obj) : Blk (W.putObj D o) g cs t :=
  (World.putObj_heap_other (fun e => blk_ne h hD e)).trans h
end Go.Proofs.Yteidknjhponpkaa.T
namespace Go.Proofs.Yteidknjhponpkaa.T
open Go.RowKit L
set_option linter.unusedVariables false
set_option linter.unusedSimpArgs false

theorem make_terms (n : Nat) (hn : n ≤ 1000000) (w : World) :
    (Instr.makeSlice 22 (.int .i64 (n : Int)) (.int .i64 (n : Int))).run Try.prog w = .ok (.slice (some ⟨w.heap.size, 0, none⟩) n n) (w.alloc (.cells (madeCells #[.int .i64 0, .string ⟨#[]⟩, .int .i64 0, .slice none 0 0] (n * 4)) 24)) := by
  obtain ⟨i0, hi, hz0, hz1, hz2⟩ := info_parts termI
  have hr := run_make (P := Try.prog) w 22 24 i0 _ Try.underlying22 hi hz0 .i64 .i64 n n (by omega) (Int.le_refl _) (by rw [hz2]; omega) (by omega)
  simp only [Int.toNat_natCast, hz1] at hr
  exact hr
theorem made_terms (n : Nat) (hn : n ≤ 1000000) (w : World) : OwnT (w.alloc (.cells (madeCells #[.int .i64 0, .string ⟨#[]⟩, .int .i64 0, .slice none 0 0] (n * 4)) 24)) w.heap.size (.slice (some ⟨w.heap.size, 0, none⟩) n n) (List.replicate n Hd.zero) := by
  refine ⟨by rw [flat_len], .inr ⟨w.heap.size, n, _, by rw [List.length_replicate], Nat.le_refl _, heap_alloc_new w _, by rw [List.length_replicate]; exact Nat.le_refl _, by unfold maxLen; omega, by rw [size_madeCells], ?_⟩⟩
  show List.take ((List.replicate n Hd.zero).length * 4) _ = _
  refine flat_ext (by simp [size_madeCells]) fun k hk j hj => ?_
  rw [List.length_replicate] at hk
  rw [List.getElem_replicate, Array.getElem?_toList]
  unfold madeCells
  rw [Array.getElem?_map, Array.getElem?_range, if_pos (by omega)]
  have hm : (k * 4 + j) % 4 = j := by omega
  have hc : j = 0 ∨ j = 1 ∨ j = 2 ∨ j = 3 := by omega
  simp only [Option.map_some]
  show some (#[Value.int IntKind.i64 0, .string ⟨#[]⟩, .int .i64 0, .slice none 0 0][(k * 4 + j) % 4]!) = _
  rw [hm]
  rcases hc with rfl | rfl | rfl | rfl <;> rfl
theorem list_step {α : Type} (hs : List α) (h z : α) (r : Nat) : (hs ++ List.replicate (r + 1) z).set hs.length h = (hs ++ [h]) ++ List.replicate r z := by
  rw [List.set_append_right _ _ (Nat.le_refl _), Nat.sub_self, List.replicate_succ, List.set_cons_zero, List.append_assoc]; rfl
/-- a term in new memory is returned -/
def NewT (t : Tm) (w : World) (e : Ending) (w' : World) : Prop := ∃ h : Hd, e = .returned (.agg #[.int .i64 h.op, .string h.nm, .int .i64 h.nu, .slice h.a h.n h.c]) ∧ Fr w' t w.heap.size w'.heap.size h ∧ Below w.heap.size w w'
/-- the copy, at this term -/
def CopyOk (t : Tm) : Prop := ∀ (a : Option Addr) (m c : Nat) (w : World), size t ≤ 1000000 → ArW w t a m c →
  Calls Try.prog 40 #[.agg #[.int .i64 (opT t), .string (nameT t), .int .i64 (numT t), .slice a m c]] w fun e w' => NewT t w e w'
/-- what has been copied so far -/
def Part (w0 : World) (g : Nat) (la : List Tm) (m k : Nat) (wr : World) : Prop :=
  ∃ hs, hs.length = k ∧ OwnT wr w0.heap.size (.slice (some ⟨g, 0, none⟩) m m) (hs ++ List.replicate (m - k) Hd.zero) ∧ FrL wr (la.take k) (g + 1) wr.heap.size hs
theorem Part.cells {w0 wr : World} {g : Nat} {la : List Tm} {m k : Nat} (h : Part w0 g la m k wr) (hk : k < m) :
    (wr.cell? ⟨g, k * 4, none⟩ = some (.int .i64 0) ∧ wr.cell? ⟨g, k * 4 + 1, none⟩ = some (.string ⟨#[]⟩) ∧ wr.cell? ⟨g, k * 4 + 2, none⟩ = some (.int .i64 0) ∧ wr.cell? ⟨g, k * 4 + 3, none⟩ = some (.slice none 0 0)) ∧ ∀ j, wr.frozen? ⟨g, j, none⟩ = false := by
  obtain ⟨hs, hl, ho, _⟩ := h
  have hlt : k < (hs ++ List.replicate (m - k) Hd.zero).length := by rw [List.length_append, List.length_replicate]; omega
  obtain ⟨c0, c1, c2, c3⟩ := ho.at hlt
  have e : (hs ++ List.replicate (m - k) Hd.zero)[k] = Hd.zero := by
    rw [List.getElem_append_right (by omega), List.getElem_replicate]
  rw [e] at c0 c1 c2 c3
  exact ⟨⟨c0, c1, c2, c3⟩, fun j => ho.row.free j⟩
/-- a copy more: made in between, then stored -/
theorem Part.step {w0 wr w4 w5 : World} {g : Nat} {la : List Tm} {x : Tm} {m k : Nat} {h : Hd} (hp : Part w0 g la m k wr) (hk : k < m) (hx : la[k]? = some x) (h4 : Below wr.heap.size wr w4) (h5 : Below w4.heap.size w4 w5) (hf : Fr w5 x w4.heap.size w5.heap.size h) : Part w0 g la m (k + 1) (set4 w5 g k h) := by
  obtain ⟨hs, hl, ho, hfr⟩ := hp
  have b5 := bel_trans h4 h5
  have ho5 := (ho.below b5).set k h (by rw [List.length_append, List.length_replicate]; omega)
  have hgl : g < wr.heap.size := ho.row.lt
  refine ⟨hs ++ [h], by simp [hl], ?_, ?_⟩
  · rw [show m - k = m - (k + 1) + 1 by omega, ← hl, list_step, hl] at ho5
    exact ho5
  · rw [take_t hx, set4_size]
    have h1 := FrL.le hfr
    have hfr5 : FrL w5 (la.take k) (g + 1) w4.heap.size hs := FrL.upL h4.size (FrL.same _ (fun b _ hu => b5.block b hu) hfr)
    have h2 := FrL.snoc hf hfr5
    exact FrL.same _ (fun b hl2 hu => set4_other w5 g k b h (by omega)) h2
/-- all that a round's store wants, and what it makes -/
theorem Part.go {w0 wr w4 w5 : World} {g : Nat} {la : List Tm} {x : Tm} {m k : Nat} {h : Hd} (hp : Part w0 g la m k wr) (hk : k < m) (hx : la[k]? = some x) (h4 : Below wr.heap.size wr w4) (h5 : Below w4.heap.size w4 w5) (hf : Fr w5 x w4.heap.size w5.heap.size h) :
    (w5.cell? ⟨g, k * 4, none⟩ = some (.int .i64 0) ∧ w5.cell? ⟨g, k * 4 + 1, none⟩ = some (.string ⟨#[]⟩) ∧ w5.cell? ⟨g, k * 4 + 2, none⟩ = some (.int .i64 0) ∧ w5.cell? ⟨g, k * 4 + 3, none⟩ = some (.slice none 0 0)) ∧ (w5.frozen? ⟨g, k * 4, none⟩ = false ∧ w5.frozen? ⟨g, k * 4 + 1, none⟩ = false ∧ w5.frozen? ⟨g, k * 4 + 2, none⟩ = false ∧ w5.frozen? ⟨g, k * 4 + 3, none⟩ = false) ∧ Hid (Part w0 g la m (k + 1) (set4 w5 g k h)) := by
  have b5 := bel_trans h4 h5
  have hn := Part.step hp hk hx h4 h5 hf
  obtain ⟨⟨z0, z1, z2, z3⟩, hz⟩ := Part.cells hp hk
  obtain ⟨hs, _, ho, _⟩ := hp
  have hg : g < wr.heap.size := ho.row.lt
  exact ⟨⟨(b5.cell (p := ⟨g, _, none⟩) hg).trans z0, (b5.cell (p := ⟨g, _, none⟩) hg).trans z1, (b5.cell (p := ⟨g, _, none⟩) hg).trans z2, (b5.cell (p := ⟨g, _, none⟩) hg).trans z3⟩, ⟨(b5.frozen (p := ⟨g, _, none⟩) hg).trans (hz _), (b5.frozen (p := ⟨g, _, none⟩) hg).trans (hz _), (b5.frozen (p := ⟨g, _, none⟩) hg).trans (hz _), (b5.frozen (p := ⟨g, _, none⟩) hg).trans (hz _)⟩, Lib.hid hn⟩
theorem Part.done {w0 wr : World} {g : Nat} {la : List Tm} {m : Nat} (hp : Part w0 g la m m wr) (hm : la.length = m) : ∃ hs, Row wr g hs ∧ FrL wr la (g + 1) wr.heap.size hs := by
  obtain ⟨hs, hl, ho, hfr⟩ := hp
  rw [Nat.sub_self, List.replicate_zero, List.append_nil] at ho
  rw [List.take_of_length_le (by omega)] at hfr
  exact ⟨hs, ho.row, hfr⟩

set_option maxRecDepth 100000 in
set_option maxHeartbeats 4000000 in
theorem mapCopy_of (l : List Tm) (hok : ∀ t ∈ l, CopyOk t) (hsz : sizes l ≤ 1000000) (b : Option Addr) (m d : Nat) (w : World) (hG : TsW w b m d l) :
    Calls Try.prog 37 #[.slice b m d, .func (.func 40) #[] #[]] w fun e w' => ∃ A C, e = .returned (.slice A m C) ∧ (m ≤ C ∧ C ≤ maxLen ∧ (A = none → C = 0)) ∧ (0 < m → ∃ g hs, A = some ⟨g, 0, none⟩ ∧ w.heap.size ≤ g ∧ Row w' g hs ∧ FrL w' l (g + 1) w'.heap.size hs) ∧ Below w.heap.size w w' := by
  have hlen : l.length ≤ sizes l := by
    have : ∀ l : List Tm, l.length ≤ sizes l := fun l => by
      induction l with
      | nil => exact Nat.le_refl _
      | cons t l ih => rw [List.length_cons, sizes]; have := size_pos t; omega
    exact this l
  have hm : m ≤ 1000000 := by have := hG.1; omega
  by_cases hm0 : m = 0
  · subst hm0
    clear hG hok hsz
    go_enter Try.func37, Try.ntmps37
    go_wp2
    go_ret
    exact ⟨_, _, rfl, ⟨Nat.zero_le _, Nat.zero_le _, fun _ => rfl⟩, fun h => absurd h (by omega), Below.refl _ _⟩
  · have hmk := make_terms m hm w
    have hmd := made_terms m hm w
    obtain ⟨W1, hW1⟩ : ∃ W1, w.alloc (.cells (madeCells #[.int .i64 0, .string ⟨#[]⟩, .int .i64 0, .slice none 0 0] (m * 4)) 24) = W1 := ⟨_, rfl⟩
    rw [hW1] at hmk hmd
    have hB1 : Below w.heap.size w W1 := by rw [← hW1]; exact bel_alloc (Below.refl _ _) _
    have hs1 : W1.heap.size = w.heap.size + 1 := by rw [← hW1]; simp
    have hm1 : ((m : Int) == 0) = false := by simp; omega
    have P0 : Part w w.heap.size l m 0 W1 := ⟨[], rfl, by simpa using hmd, by rw [List.take_zero, FrL]; exact ⟨by omega, rfl⟩⟩
    have HT := Lib.hid hG
    have HK := Lib.hid (show ∀ k x, l[k]? = some x → CopyOk x ∧ size x ≤ 1000000 from fun k x h => ⟨hok x (List.mem_of_getElem? h), by have := alls_lt h; omega⟩)
    have HP0 := Lib.hid P0
    clear hG hok hmd P0 hW1
    go_enter Try.func37, Try.ntmps37
    go_wp2
    go_loopw [16] (fun i wr0 => ∃ (wr : World) (k : Nat), wr = wr0 ∧ k ≤ m ∧ i = .int .i64 k ∧ Below w.heap.size w wr ∧ Hid (Part w w.heap.size l m k wr)) (fun i _ => m - (intOf i).toNat)
    case atStart => exact ⟨_, 0, rfl, by omega, rfl, hB1, HP0⟩
    case round =>
      obtain ⟨wr, k, rfl, hk, rfl, hB, hR⟩ := hrel
      by_cases hlt : k < m
      · obtain ⟨bb, o, x, A, M, Cc, rfl, hb, y0, y1, y2, y3, hx, hok⟩ := (TsW.b HT.out hB).at hlt
        obtain ⟨W4, hW4, hB4, hs4, S4⟩ := box1 wr (opT x) (nameT x) (numT x) A M Cc
        obtain ⟨hck, hsx⟩ := HK.out k x hx
        have cc := hck A M Cc W4 hsx (ArW.b hok hB4)
        obtain ⟨f0, f1, f2, f3⟩ := S4.four
        have B4 := bel_trans hB hB4
        have Hx := Lib.hid hx
        clear hx hok HK S4 hck
        generalize opT x = op' at *
        generalize nameT x = nm' at *
        generalize numT x = nu' at *
        have hk0 : 0 ≤ (k : Int) := by omega
        have hk1 : (k : Int) < (m : Int) := by omega
        go_wp2_with (go_at_call 40; ((with_reducible refine cc.mono ?_); rintro e w5 ⟨h, rfl, hF, hb5⟩; obtain ⟨⟨q0, q1, q2, q3⟩, ⟨g0, g1, g2, g3⟩, Hn⟩ := Part.go hR.out hlt Hx.out hB4 hb5 hF; clear hF))
        go_roundw
        case rel => exact ⟨_, k + 1, rfl, by omega, by go_num, set4_below (bel_trans B4 hb5) (Nat.le_refl _) k _, Hn⟩
        case measure => simp [intOf]; omega
      · obtain rfl : k = m := by omega
        have Hd := Lib.hid (Part.done hR.out HT.out.1.symm)
        have hcap : k ≤ maxLen := by unfold maxLen; omega
        have Hc := Lib.hid hcap
        clear hR hcap
        go_wp2
        go_ret
        refine ⟨_, _, rfl, ⟨Nat.le_refl _, Hc.out, fun h => by cases h⟩, fun _ => ?_, hB⟩
        obtain ⟨hs, h1, h2⟩ := Hd.out
        exact ⟨w.heap.size, hs, rfl, Nat.le_refl _, h1, h2⟩
/-- a term put into a block, and a cell for the result -/
theorem box_res (w : World) (o : Int) (s : ByteArray) (z : Int) (a : Option Addr) (n c : Nat) :
    ∃ W, (w.alloc (.cells #[.int .i64 o, .string s, .int .i64 z, .slice a n c] 24)).alloc (.cells #[.int .i64 0, .string ⟨#[]⟩, .int .i64 0, .slice none 0 0] 24) = W ∧ Below w.heap.size w W ∧ W.heap.size = w.heap.size + 2 ∧ TBox W w.heap.size o s z a n c ∧ TBox W (w.heap.size + 1) 0 ⟨#[]⟩ 0 none 0 0 := box2 w o s z a n c 0 ⟨#[]⟩ 0 none 0 0

set_option maxRecDepth 100000 in
set_option maxHeartbeats 4000000 in
theorem Copy_step (t : Tm) (hok : ∀ x ∈ argsT t, CopyOk x) : CopyOk t := by
  intro a m c w hsz hA
  obtain ⟨W2, hW2, hB2, hs2, S2, R2⟩ := box_res w (opT t) (nameT t) (numT t) a m c
  have hsl : sizes (argsT t) ≤ 1000000 := by
    have : size t = 1 + sizes (argsT t) := by cases t; rw [size]; rfl
    omega
  have cM := mapCopy_of (argsT t) hok hsl a m c W2 (TsW.b (ArW.args hA) hB2)
  obtain ⟨s0, s1, s2, s3⟩ := S2.four
  have hm : m = (argsT t).length := (ArW.args hA).1
  have HFin := Lib.hid (show ∀ (w3 w5 : World) (A : Option Addr) (C : Nat), (m ≤ C ∧ C ≤ maxLen ∧ (A = none → C = 0)) → (0 < m → ∃ g hs, A = some ⟨g, 0, none⟩ ∧ W2.heap.size ≤ g ∧ Row w3 g hs ∧ FrL w3 (argsT t) (g + 1) w3.heap.size hs) → w.heap.size + 2 ≤ w5.heap.size → w5.heap.size = w3.heap.size → (∀ b, w.heap.size + 2 ≤ b → w5.heap[b]? = w3.heap[b]?) → Fr w5 t w.heap.size w5.heap.size ⟨opT t, nameT t, numT t, A, m, C⟩ from fun w3 w5 A C h1 h2 h3 h4 h5 => by
    cases t with
    | mk o s z l =>
      rw [Fr]
      refine ⟨⟨rfl, rfl, rfl⟩, ⟨hm, h1⟩, by omega, fun hn => ?_⟩
      obtain ⟨g, hs, e1, e2, e3, e4⟩ := h2 hn
      exact ⟨g, hs, e1, by omega, e3.of_block (h5 g (by omega)), by rw [h4]; exact FrL.same _ (fun b hl hu => h5 b (by omega)) e4⟩)
  have HS := Lib.hid S2
  have HR := Lib.hid R2
  clear hA hok S2 R2 hm hsz hsl
  generalize argsT t = la at *
  generalize opT t = op at *
  generalize nameT t = nm at *
  generalize numT t = nu at *
  go_enter Try.func40, Try.ntmps40
  go_wp2_with (go_at_call 37; ((with_reducible refine cM.mono ?_); rintro e w3 ⟨A, C, rfl, hc, hr, hb3⟩; have Hc := Lib.hid hc; have Hr := Lib.hid hr; clear hc hr; have S3 := TBox.b HS.out hb3; have R3 := TBox.b HR.out hb3; obtain ⟨u0, u1, u2, u3⟩ := S3.four; obtain ⟨v0, v1, v2, v3⟩ := R3.four; obtain ⟨p0, p1, p2, p3⟩ := S3.free; obtain ⟨r0, r1, r2, r3⟩ := R3.free; have F3 := TBox.put (TBox.far R3 (show w.heap.size ≠ w.heap.size + 1 by omega) 3 (.slice A m C)) op nm nu A m C; obtain ⟨x0, x1, x2, x3⟩ := F3.four))
  simp [bodyPost, results, Try.results40, go_sem, x0, x1, x2, x3]
  have hs3 : w.heap.size + 2 ≤ w3.heap.size := by have := hb3.size; omega
  refine ⟨⟨op, nm, nu, A, m, C⟩, rfl, HFin.out w3 _ A C Hc.out Hr.out ?_ ?_ (fun b hb => ?_), put_below (below_set (bel_trans hB2 hb3) (Nat.le_refl _) _ _) (by omega) _ _ _ _⟩
  · rw [put_size]; simp [World.setCell]; omega
  · rw [put_size]; simp [World.setCell]
  · rw [put_other _ _ _ _ _ _ _ (by omega)]; exact heap_setCell_other w3 ⟨w.heap.size, 3, none⟩ b _ (by show b ≠ w.heap.size; omega)
theorem Copy_any (t : Tm) : CopyOk t := Tm.ind Copy_step t
end Go.Proofs.Yteidknjhponpkaa.T
namespace Go.Proofs.Yteidknjhponpkaa.T
open Go.RowKit Go.Deep Go.ChangeShapes Go.WideShapes Go.Joins L
set_option linter.unusedVariables false

section
variable {H : Type} {enc : TypeId × Value → H} {W : World} {sp : Nat → Bool}
theorem list_ofT {α : Type} {P : Nat → α → Prop} (n : Nat) (h : ∀ i, i < n → ∃ y, P i y) : ∃ Y : List α, Y.length = n ∧ ∀ i (hi : i < Y.length), P i Y[i] := by
  induction n with
  | zero => exact ⟨[], rfl, fun i hi => absurd hi (by simp)⟩
  | succ n ih =>
    obtain ⟨Y, hl, hY⟩ := ih (fun i hi => h i (by omega))
    obtain ⟨y, hy⟩ := h n (by omega)
    refine ⟨Y ++ [y], by simp [hl], fun i hi => ?_⟩
    by_cases hi2 : i < Y.length
    · rw [List.getElem_append_left hi2]; exact hY i hi2
    · have : i = Y.length := by simp at hi; omega
      subst this
      rw [List.getElem_append_right (Nat.le_refl _)]
      simp only [Nat.sub_self, List.getElem_cons_zero]
      rw [hl]; exact hy
/-- one term in four cells -/
def FourOk (W : World) (cs : List Value) (t : Tm) (a : Option Addr) (n c : Nat) : Prop := cs = [.int .i64 (opT t), .string (nameT t), .int .i64 (numT t), .slice a n c] ∧ ArW W t a n c
set_option maxRecDepth 100000 in
theorem four_of {v0 v1 v2 v3 : Value} {n0 n1 n2 n3 : Nat} {y0 y1 y2 y3 : DataW H × List MemPlace}
    (ih : ∀ m, m ≤ n3 → ∀ (cs : List Value) (x : DataW H × List MemPlace), DataW.trod enc Try.prog W 0 (fun _ => true) true m 24 cs = some x → ∃ t a n c, FourOk W cs t a n c)
    (g0 : DataW.trod enc Try.prog W 0 (fun _ => true) true n0 3 [v0] = some y0) (g1 : DataW.trod enc Try.prog W 0 (fun _ => true) true n1 9 [v1] = some y1)
    (g2 : DataW.trod enc Try.prog W 0 (fun _ => true) true n2 2 [v2] = some y2) (g3 : DataW.trod enc Try.prog W 0 (fun _ => true) true n3 22 [v3] = some y3) :
    ∃ t a n c, FourOk W [v0, v1, v2, v3] t a n c := by
  obtain ⟨o, e0, _, _⟩ := DataW.trod_int (k := .i64) Try.underlying3 g0
  obtain ⟨s, e1, _, _⟩ := DataW.trod_string Try.underlying9 g1
  obtain ⟨z, e2, _, _⟩ := DataW.trod_int (k := .i64) Try.underlying2 g2
  obtain rfl : v0 = .int .i64 o := by simpa using e0
  obtain rfl : v1 = .string s := by simpa using e1
  obtain rfl : v2 = .int .i64 z := by simpa using e2
  rcases DataW.trod_slice Try.underlying22 g3 with h0 | ⟨ad, len, cap, elems, rest, n, hn, hcs, _, _, hl, hmx, hlen, hi, _⟩
  · obtain rfl : v3 = .slice none 0 0 := by simpa using h0.1
    exact ⟨.mk o s z [], none, 0, 0, rfl, by unfold ArW; rw [Ar]; exact ⟨rfl, Nat.le_refl _, Nat.zero_le _, fun _ => rfl, fun h => absurd h (by omega)⟩⟩
  · obtain rfl : v3 = .slice (some ad) len cap := by simpa using hcs
    have hC : Try.prog.cellsOf 24 = 4 := by kernel_rfl
    obtain ⟨Y, hY, hall⟩ := list_ofT len (P := fun i (t : Tm) => ∃ a n c, W.cell? (ad.add (i * 4)) = some (.int .i64 (opT t)) ∧ W.cell? ((ad.add (i * 4)).add 1) = some (.string (nameT t)) ∧ W.cell? ((ad.add (i * 4)).add 2) = some (.int .i64 (numT t)) ∧ W.cell? ((ad.add (i * 4)).add 3) = some (.slice a n c) ∧ ArW W t a n c) (fun i hin => by
      have hq := hi i (by omega)
      rw [List.getElem?_eq_getElem (show i < elems.length by omega)] at hq
      obtain ⟨cs', h1, h2⟩ := Option.bind_eq_some_iff.1 hq
      rw [hC] at h1
      obtain ⟨_, hl2, hat⟩ := World.cells?_some h1
      obtain ⟨t, a, n', c, hf, hr⟩ := ih n (by omega) _ _ h2
      subst hf
      exact ⟨t, a, n', c, by simpa [Addr.add] using hat 0 (by simp), hat 1 (by simp), hat 2 (by simp), hat 3 (by simp), hr⟩)
    refine ⟨.mk o s z Y, some ad, len, cap, rfl, ?_⟩
    unfold ArW
    rw [Ar]
    refine ⟨hY.symm, hl, hmx, fun h => (by cases h), fun hn => ?_⟩
    obtain ⟨b, off, spot⟩ := ad
    have hspot : spot = none := by
      obtain ⟨_, _, _, h1, _⟩ := hall 0 (by omega)
      simpa [Addr.add] using World.cell?_spot h1
    subst hspot
    refine ⟨b, off, rfl, ?_, rw_at.2 fun i hi2 => ?_⟩
    · obtain ⟨_, _, _, h1, _⟩ := hall 0 (by omega)
      rw [Go.WideShapes.add_plain] at h1
      exact World.block_lt_of_cell? _ _ h1
    · obtain ⟨a, n, c, h1, h2, h3, h4, h5⟩ := hall i hi2
      rw [Go.WideShapes.add_plain] at h1 h2 h3 h4
      rw [Go.WideShapes.add_plain] at h2 h3 h4
      exact ⟨a, n, c, h1, h2, h3, h4, h5⟩
set_option maxRecDepth 100000 in
theorem term_cells : ∀ (N fuel : Nat), fuel ≤ N → ∀ (cs : List Value) (x : DataW H × List MemPlace), DataW.trod enc Try.prog W 0 (fun _ => true) true fuel 24 cs = some x → ∃ t a n c, FourOk W cs t a n c
  | 0, fuel, hf, cs, x, h => by
    obtain rfl : fuel = 0 := by omega
    simp [DataW.trod] at h
  | N + 1, fuel, hf, cs, x, h => by
    obtain ⟨xs, n, hn, _, hcl, hxl, hi⟩ := DataW.trod_struct Try.underlying24 h
    have hC : Try.prog.cellsOf 24 = 4 := by kernel_rfl
    rw [hC] at hcl
    match cs, hcl with
    | [c0, c1, c2, c3], _ =>
      match xs, hxl with
      | [x0, x1, x2, x3], _ =>
        have g0 : DataW.trod enc Try.prog W 0 (fun _ => true) true n 3 (([c0, c1, c2, c3].drop 0).take (Try.prog.cellsOf 3)) = some x0 := hi 0 _ rfl
        have g1 : DataW.trod enc Try.prog W 0 (fun _ => true) true n 9 (([c0, c1, c2, c3].drop 1).take (Try.prog.cellsOf 9)) = some x1 := hi 1 _ rfl
        have g2 : DataW.trod enc Try.prog W 0 (fun _ => true) true n 2 (([c0, c1, c2, c3].drop 2).take (Try.prog.cellsOf 2)) = some x2 := hi 2 _ rfl
        have g3 : DataW.trod enc Try.prog W 0 (fun _ => true) true n 22 (([c0, c1, c2, c3].drop 3).take (Try.prog.cellsOf 22)) = some x3 := hi 3 _ rfl
        have z1 : Try.prog.cellsOf 2 = 1 := by kernel_rfl
        have z2 : Try.prog.cellsOf 9 = 1 := by kernel_rfl
        have z3 : Try.prog.cellsOf 22 = 1 := by kernel_rfl
        have z0 : Try.prog.cellsOf 3 = 1 := by kernel_rfl
        rw [z0] at g0
        rw [z1] at g2
        rw [z2] at g1
        rw [z3] at g3
        exact four_of (fun m hm cs' x' h' => term_cells N m (by omega) cs' x' h') g0 g1 g2 g3

/-- a term's value and what it reads as -/
structure TmV where
  t : Tm
  a : Option Addr
  n : Nat
  c : Nat
def TmV.val (z : TmV) : Value := .agg #[.int .i64 (opT z.t), .string (nameT z.t), .int .i64 (numT z.t), .slice z.a z.n z.c]
set_option maxRecDepth 100000 in
theorem term_open_all {r : Reach} {b0 : Nat} {v : Value} {d : DataW H} {p : List MemPlace} (hv : Value.okWide Try.prog W r b0 24 v) (h : DataW.Trod enc Try.prog W 0 (fun _ => true) true 24 v d p) :
    ∃ z : TmV, v = z.val ∧ ArW W z.t z.a z.n z.c := by
  obtain ⟨v0, v1, v2, v3, y0, y1, y2, y3, n, rfl, _, _, g0, g1, g2, g3⟩ := open_agg4 Try.underlying24 (by kernel_rfl) (by kernel_rfl) hv h
  obtain ⟨t, a, m, c, hf, hr⟩ := four_of (fun m hm cs' x' h' => term_cells m m (Nat.le_refl _) cs' x' h') g0 g1 g2 g3
  simp only [List.cons.injEq, and_true] at hf
  obtain ⟨rfl, rfl, rfl, rfl⟩ := hf
  exact ⟨⟨t, a, m, c⟩, rfl, hr⟩
set_option maxRecDepth 100000 in
theorem terms_open_all {a : Option Addr} {n c : Nat} {d : DataW H} {p : List MemPlace} (h : DataW.Trod enc Try.prog W 0 (fun _ => true) true 22 (.slice a n c) d p) :
    ∃ X : List Tm, n ≤ 9223372036854775807 ∧ TsW W a n c X := by
  obtain ⟨fuel, hf⟩ := h
  have hf2 : DataW.trod enc Try.prog W 0 (fun _ => true) true fuel 22 [.slice a n c] = some (d, p) := by simpa [Value.cells] using hf
  have h8 : DataW.trod enc Try.prog W 0 (fun _ => true) true 1 2 [.int .i64 0] = some (.lit (.int .i64 0), []) := trod_int_mk (k := .i64) 0 Try.underlying2 (by decide)
  have h9 : DataW.trod enc Try.prog W 0 (fun _ => true) true 1 3 [.int .i64 0] = some (.lit (.int .i64 0), []) := trod_int_mk (k := .i64) 0 Try.underlying3 (by decide)
  obtain ⟨y, hy⟩ : ∃ y, DataW.trod enc Try.prog W 0 (fun _ => true) true 1 9 [.string ⟨#[]⟩] = some y := ⟨(.lit (.string []), []), by
    unfold DataW.trod
    rw [Try.underlying9]
    rfl⟩
  obtain ⟨t, a', m, c', hf3, hr⟩ := four_of (fun m hm cs' x' h' => term_cells m m (Nat.le_refl _) cs' x' h') h9 hy h8 hf2
  simp only [List.cons.injEq, and_true, Value.slice.injEq] at hf3
  obtain ⟨_, _, _, rfl, rfl, rfl⟩ := hf3
  have hq := ArW.args hr
  exact ⟨argsT t, by have := hq.2.1; have := hq.2.2.1; unfold maxLen at this; omega, hq⟩
end
end Go.Proofs.Yteidknjhponpkaa.T
namespace Go.Proofs.Yteidknjhponpkaa.T
open Go.RowKit L
set_option linter.unusedVariables false
set_option linter.unusedSimpArgs false

def small (l : List Tm) : Bool := l.all (fun t => decide (size t ≤ 60))
theorem small_step {l : List Tm} {k : Nat} {t : Tm} (h : l[k]? = some t) : small (l.drop k) = (decide (size t ≤ 60) && small (l.drop (k + 1))) := by
  rw [drop_t h]; rfl

set_option maxRecDepth 100000 in
set_option maxHeartbeats 4000000 in
theorem Small_any (l : List Tm) (a : Option Addr) (n c : Nat) (w : World) (H : TsW w a n c l) : Calls Try.prog 26 #[.slice a n c] w fun e w' => e = .returned (.bool (small l)) ∧ Below w.heap.size w w' := by
  have hn : n = l.length := H.1
  have hc : n ≤ 9223372036854775807 := by have h1 := H.2.1; have h2 := H.2.2.1; unfold maxLen at h2; omega
  have H1 := Lib.hid H
  have Hst : Hid (∀ k t, l[k]? = some t → small (l.drop k) = (decide (size t ≤ 60) && small (l.drop (k + 1)))) := fun k t h => small_step h
  have Hend : Hid (∀ k, n ≤ k → small (l.drop k) = true) := by
    intro k hk; rw [List.drop_eq_nil_of_le (by omega)]; rfl
  have HR0 : Hid (small (l.drop 0) = small l) := by show _ = _; rw [List.drop_zero]
  generalize hR : small l = R at *
  clear hR H hn
  go_enter Try.func26, Try.ntmps26
  go_wp2
  go_loopw [3] (fun i wr0 => ∃ (wr : World) (k : Nat), wr = wr0 ∧ k ≤ n ∧ i = .int .i64 k ∧ Below w.heap.size w wr ∧ Hid (small (l.drop k) = R)) (fun i _ => n - (intOf i).toNat)
  case atStart => exact ⟨_, 0, rfl, by omega, rfl, Below.refl _ _, HR0⟩
  case round =>
    obtain ⟨wr, k, rfl, hk, rfl, hB, hR⟩ := hrel
    by_cases hlt : k < n
    · obtain ⟨bb, o, x, A', M, Cc, rfl, hb, y0, y1, y2, y3, hx, hok⟩ := (TsW.b H1.out hB).at hlt
      have cs := Size_any x A' M Cc 60 wr (by omega) hok
      have hle := szTo_le x 60
      have hs1 := Hst.out k x hx
      rw [show ((60 : Nat) : Int) = 60 from rfl] at cs
      clear hx hok H1 Hst
      generalize szTo 60 x = sz at *
      generalize opT x = op' at *
      generalize nameT x = nm' at *
      generalize numT x = nu' at *
      have hk0 : 0 ≤ (k : Int) := by omega
      have hk1 : (k : Int) < (n : Int) := by omega
      by_cases hq : size x ≤ 60
      · have hnew : Hid (small (l.drop (k + 1)) = R) := by show _ = _; rw [← hR.out, hs1, decide_eq_true hq]; rfl
        have hq2 : sz ≤ 60 := hle.2 hq
        clear hR hs1 hle hq
        go_wp2_with (go_at_call 5; ((with_reducible refine cs.mono ?_); rintro e w4 ⟨rfl, hb4⟩))
        go_roundw
        case rel => exact ⟨_, k + 1, rfl, by omega, by go_num, bel_trans hB hb4, hnew⟩
        case measure => simp [intOf]; omega
      · have hnew : Hid (false = R) := by show _ = _; rw [← hR.out, hs1, decide_eq_false hq]; rfl
        have hq2 : ¬ sz ≤ 60 := fun h => hq (hle.1 h)
        clear hR hs1 hle hq
        go_wp2_with (go_at_call 5; ((with_reducible refine cs.mono ?_); rintro e w4 ⟨rfl, hb4⟩))
        go_ret
        exact ⟨oneB hnew.out, bel_trans hB hb4⟩
    · have hnew : Hid (true = R) := by show _ = _; rw [← hR.out, Hend.out k (by omega)]
      clear hR
      go_wp2
      go_ret
      exact ⟨oneB hnew.out, hB⟩
end Go.Proofs.Yteidknjhponpkaa.T
