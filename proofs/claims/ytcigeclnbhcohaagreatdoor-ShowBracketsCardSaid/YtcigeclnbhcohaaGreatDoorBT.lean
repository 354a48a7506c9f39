/-
  What is proved: an argument that is a term reads as a tree; a slice of terms as a list of trees.
  What is proved: package tree's walk over the parts of a term: each part, in preorder, is handed to the round of a loop, until a round says no more.
  What is proved: package term's iterator over the parts of a term, as a loop may range over it; whether a term is a part of another.
-/
import Derived.Test.YtcigeclnbhcohaaGreatDoorBL
import Derived.Lib.SmallJoins
import Derived.Deep.Slices
import Derived.Deep.Fields
import Derived.ChangeArms
import Derived.OpenShut
import Derived.RangeFuncNested
import Derived.RangeFuncBound
import Derived.RangeFuncCalls
import Derived.RangeFuncLeaves
import Derived.Shelf.Abstract
import Derived.Shelf.RegionOpen
import Derived.OwnWalkIn
import Derived.TacticsInMore
import Derived.LoopNIn
import Derived.LoopIn
namespace Go.Proofs.YtcigeclnbhcohaaGreatDoor.T
open Go.RowKit Go.Deep Go.ChangeShapes Go.WideShapes Go.Joins L
set_option linter.unusedVariables false

section
variable {H : Type} {enc : TypeId × Value → H} {W : World} {sp : Nat → Bool}
theorem list_ofT {α : Type} {P : Nat → α → Prop} (n : Nat) (h : ∀ i, i < n → ∃ y, P i y) : ∃ Y : List α, Y.length = n ∧ ∀ i (hi : i < Y.length), P i Y[i] := by
  induction n with
  | zero => exact ⟨[], rfl, fun i hi => absurd hi (by simp)⟩
  | succ n ih =>
    obtain ⟨Y, hl, hY⟩ := ih (fun i hi => h i (by omega))
    obtain ⟨y, hy⟩ := h n (by omega)
    refine ⟨Y ++ [y], by simp [hl], fun i hi => ?_⟩
    by_cases hi2 : i < Y.length
    · rw [List.getElem_append_left hi2]; exact hY i hi2
    · have : i = Y.length := by simp at hi; omega
      subst this
      rw [List.getElem_append_right (Nat.le_refl _)]
      simp only [Nat.sub_self, List.getElem_cons_zero]
      rw [hl]; exact hy
/-- one term in four cells -/
def FourOk (W : World) (cs : List Value) (t : Tm) (a : Option Addr) (n c : Nat) : Prop := cs = [.int .i64 (opT t), .string (nameT t), .int .i64 (numT t), .slice a n c] ∧ ArW W t a n c
set_option maxRecDepth 100000 in
theorem four_of {v0 v1 v2 v3 : Value} {n0 n1 n2 n3 : Nat} {y0 y1 y2 y3 : DataW H × List MemPlace}
    (ih : ∀ m, m ≤ n3 → ∀ (cs : List Value) (x : DataW H × List MemPlace), DataW.trod enc Tryz.prog W 0 (fun _ => true) true m 24 cs = some x → ∃ t a n c, FourOk W cs t a n c)
    (g0 : DataW.trod enc Tryz.prog W 0 (fun _ => true) true n0 3 [v0] = some y0) (g1 : DataW.trod enc Tryz.prog W 0 (fun _ => true) true n1 9 [v1] = some y1)
    (g2 : DataW.trod enc Tryz.prog W 0 (fun _ => true) true n2 2 [v2] = some y2) (g3 : DataW.trod enc Tryz.prog W 0 (fun _ => true) true n3 22 [v3] = some y3) :
    ∃ t a n c, FourOk W [v0, v1, v2, v3] t a n c := by
  obtain ⟨o, e0, _, _⟩ := DataW.trod_int (k := .i64) Tryz.underlying3 g0
  obtain ⟨s, e1, _, _⟩ := DataW.trod_string Tryz.underlying9 g1
  obtain ⟨z, e2, _, _⟩ := DataW.trod_int (k := .i64) Tryz.underlying2 g2
  obtain rfl : v0 = .int .i64 o := by simpa using e0
  obtain rfl : v1 = .string s := by simpa using e1
  obtain rfl : v2 = .int .i64 z := by simpa using e2
  rcases DataW.trod_slice Tryz.underlying22 g3 with h0 | ⟨ad, len, cap, elems, rest, n, hn, hcs, _, _, hl, hmx, hlen, hi, _⟩
  · obtain rfl : v3 = .slice none 0 0 := by simpa using h0.1
    exact ⟨.mk o s z [], none, 0, 0, rfl, by unfold ArW; rw [Ar]; exact ⟨rfl, Nat.le_refl _, Nat.zero_le _, fun _ => rfl, fun h => absurd h (by omega)⟩⟩
  · obtain rfl : v3 = .slice (some ad) len cap := by simpa using hcs
    have hC : Tryz.prog.cellsOf 24 = 4 := by kernel_rfl
    obtain ⟨Y, hY, hall⟩ := list_ofT len (P := fun i (t : Tm) => ∃ a n c, W.cell? (ad.add (i * 4)) = some (.int .i64 (opT t)) ∧ W.cell? ((ad.add (i * 4)).add 1) = some (.string (nameT t)) ∧ W.cell? ((ad.add (i * 4)).add 2) = some (.int .i64 (numT t)) ∧ W.cell? ((ad.add (i * 4)).add 3) = some (.slice a n c) ∧ ArW W t a n c) (fun i hin => by
      have hq := hi i (by omega)
      rw [List.getElem?_eq_getElem (show i < elems.length by omega)] at hq
      obtain ⟨cs', h1, h2⟩ := Option.bind_eq_some_iff.1 hq
      rw [hC] at h1
      obtain ⟨_, hl2, hat⟩ := World.cells?_some h1
      obtain ⟨t, a, n', c, hf, hr⟩ := ih n (by omega) _ _ h2
      subst hf
      exact ⟨t, a, n', c, by simpa [Addr.add] using hat 0 (by simp), hat 1 (by simp), hat 2 (by simp), hat 3 (by simp), hr⟩)
    refine ⟨.mk o s z Y, some ad, len, cap, rfl, ?_⟩
    unfold ArW
    rw [Ar]
    refine ⟨hY.symm, hl, hmx, fun h => (by cases h), fun hn => ?_⟩
    obtain ⟨b, off, spot⟩ := ad
    have hspot : spot = none := by
      obtain ⟨_, _, _, h1, _⟩ := hall 0 (by omega)
      simpa [Addr.add] using World.cell?_spot h1
    subst hspot
    refine ⟨b, off, rfl, ?_, rw_at.2 fun i hi2 => ?_⟩
    · obtain ⟨_, _, _, h1, _⟩ := hall 0 (by omega)
      rw [Go.WideShapes.add_plain] at h1
      exact World.block_lt_of_cell? _ _ h1
    · obtain ⟨a, n, c, h1, h2, h3, h4, h5⟩ := hall i hi2
      rw [Go.WideShapes.add_plain] at h1 h2 h3 h4
      rw [Go.WideShapes.add_plain] at h2 h3 h4
      exact ⟨a, n, c, h1, h2, h3, h4, h5⟩
set_option maxRecDepth 100000 in
theorem term_cells : ∀ (N fuel : Nat), fuel ≤ N → ∀ (cs : List Value) (x : DataW H × List MemPlace), DataW.trod enc Tryz.prog W 0 (fun _ => true) true fuel 24 cs = some x → ∃ t a n c, FourOk W cs t a n c
  | 0, fuel, hf, cs, x, h => by
    obtain rfl : fuel = 0 := by omega
    simp [DataW.trod] at h
  | N + 1, fuel, hf, cs, x, h => by
    obtain ⟨xs, n, hn, _, hcl, hxl, hi⟩ := DataW.trod_struct Tryz.underlying24 h
    have hC : Tryz.prog.cellsOf 24 = 4 := by kernel_rfl
    rw [hC] at hcl
    match cs, hcl with
    | [c0, c1, c2, c3], _ =>
      match xs, hxl with
      | [x0, x1, x2, x3], _ =>
        have g0 : DataW.trod enc Tryz.prog W 0 (fun _ => true) true n 3 (([c0, c1, c2, c3].drop 0).take (Tryz.prog.cellsOf 3)) = some x0 := hi 0 _ rfl
        have g1 : DataW.trod enc Tryz.prog W 0 (fun _ => true) true n 9 (([c0, c1, c2, c3].drop 1).take (Tryz.prog.cellsOf 9)) = some x1 := hi 1 _ rfl
        have g2 : DataW.trod enc Tryz.prog W 0 (fun _ => true) true n 2 (([c0, c1, c2, c3].drop 2).take (Tryz.prog.cellsOf 2)) = some x2 := hi 2 _ rfl
        have g3 : DataW.trod enc Tryz.prog W 0 (fun _ => true) true n 22 (([c0, c1, c2, c3].drop 3).take (Tryz.prog.cellsOf 22)) = some x3 := hi 3 _ rfl
        have z1 : Tryz.prog.cellsOf 2 = 1 := by kernel_rfl
        have z2 : Tryz.prog.cellsOf 9 = 1 := by kernel_rfl
        have z3 : Tryz.prog.cellsOf 22 = 1 := by kernel_rfl
        have z0 : Tryz.prog.cellsOf 3 = 1 := by kernel_rfl
        rw [z0] at g0
        rw [z1] at g2
        rw [z2] at g1
        rw [z3] at g3
        exact four_of (fun m hm cs' x' h' => term_cells N m (by omega) cs' x' h') g0 g1 g2 g3

/-- a term's value and what it reads as -/
structure TmV where
  t : Tm
  a : Option Addr
  n : Nat
  c : Nat
def TmV.val (z : TmV) : Value := .agg #[.int .i64 (opT z.t), .string (nameT z.t), .int .i64 (numT z.t), .slice z.a z.n z.c]
set_option maxRecDepth 100000 in
theorem term_open_all {r : Reach} {b0 : Nat} {v : Value} {d : DataW H} {p : List MemPlace} (hv : Value.okWide Tryz.prog W r b0 24 v) (h : DataW.Trod enc Tryz.prog W 0 (fun _ => true) true 24 v d p) :
    ∃ z : TmV, v = z.val ∧ ArW W z.t z.a z.n z.c := by
  obtain ⟨v0, v1, v2, v3, y0, y1, y2, y3, n, rfl, _, _, g0, g1, g2, g3⟩ := open_agg4 Tryz.underlying24 (by kernel_rfl) (by kernel_rfl) hv h
  obtain ⟨t, a, m, c, hf, hr⟩ := four_of (fun m hm cs' x' h' => term_cells m m (Nat.le_refl _) cs' x' h') g0 g1 g2 g3
  simp only [List.cons.injEq, and_true] at hf
  obtain ⟨rfl, rfl, rfl, rfl⟩ := hf
  exact ⟨⟨t, a, m, c⟩, rfl, hr⟩
set_option maxRecDepth 100000 in
theorem terms_open_all {a : Option Addr} {n c : Nat} {d : DataW H} {p : List MemPlace} (h : DataW.Trod enc Tryz.prog W 0 (fun _ => true) true 22 (.slice a n c) d p) :
    ∃ X : List Tm, n ≤ 9223372036854775807 ∧ TsW W a n c X := by
  obtain ⟨fuel, hf⟩ := h
  have hf2 : DataW.trod enc Tryz.prog W 0 (fun _ => true) true fuel 22 [.slice a n c] = some (d, p) := by simpa [Value.cells] using hf
  have h8 : DataW.trod enc Tryz.prog W 0 (fun _ => true) true 1 2 [.int .i64 0] = some (.lit (.int .i64 0), []) := trod_int_mk (k := .i64) 0 Tryz.underlying2 (by decide)
  have h9 : DataW.trod enc Tryz.prog W 0 (fun _ => true) true 1 3 [.int .i64 0] = some (.lit (.int .i64 0), []) := trod_int_mk (k := .i64) 0 Tryz.underlying3 (by decide)
  obtain ⟨y, hy⟩ : ∃ y, DataW.trod enc Tryz.prog W 0 (fun _ => true) true 1 9 [.string ⟨#[]⟩] = some y := ⟨(.lit (.string []), []), by
    unfold DataW.trod
    rw [Tryz.underlying9]
    rfl⟩
  obtain ⟨t, a', m, c', hf3, hr⟩ := four_of (fun m hm cs' x' h' => term_cells m m (Nat.le_refl _) cs' x' h') h9 hy h8 hf2
  simp only [List.cons.injEq, and_true, Value.slice.injEq] at hf3
  obtain ⟨_, _, _, rfl, rfl, rfl⟩ := hf3
  have hq := ArW.args hr
  exact ⟨argsT t, by have := hq.2.1; have := hq.2.2.1; unfold maxLen at this; omega, hq⟩
end
end Go.Proofs.YtcigeclnbhcohaaGreatDoor.T
namespace Go.Proofs.YtcigeclnbhcohaaGreatDoor.T
open Go.RowKit Go.Shelf L
set_option linter.unusedVariables false
set_option linter.unusedSimpArgs false
attribute [local go_sem] Oper.semAt_some

theorem room_none {F : Fence} (hd : F.depth = none) (k : Nat) : F.room k := fun d h => by rw [hd] at h; cases h
theorem round_any {F : Fence} (hd : F.depth = none) {m m' : Nat} {P : Program} {l : Nat} {f : FuncId} {tmps : Array Value} {assign body : Code} {w : World} {R : Ending → World → Prop}
    (h : RoundIn F m P l f tmps assign body w R) : RoundIn F m' P l f tmps assign body w R := ⟨h.1, fun c cs _ => h.2 c cs (room_none hd _)⟩
theorem yield_any {F : Fence} (hd : F.depth = none) {m : Nat} (m' : Nat) {P : Program} {l : Nat} {args : Array Value} {W : World} {R : Ending → World → Prop} (h : YieldAt F m P l args W R) : YieldAt F m' P l args W R := by
  obtain ⟨fn, tmps, assign, body, hy, hR⟩ := h
  exact ⟨fn, tmps, assign, body, hy, round_any hd hR⟩

/-! what a round keeps: what lay below n0, and every block that holds one term -/
def Keep4 (W W' : World) : Prop := ∀ (k : Nat) (cs : Array Value), W.heap[k]? = some (.cells cs 24 (0, 0)) → cs.size = 4 → W'.heap[k]? = some (.cells cs 24 (0, 0))
def KpT (n0 : Nat) (W W' : World) : Prop := Below n0 W W' ∧ Keep4 W W'
theorem Keep4.refl (W : World) : Keep4 W W := fun k cs h _ => h
theorem Keep4.trans {A B C : World} (h : Keep4 A B) (k : Keep4 B C) : Keep4 A C := fun i cs h0 h1 => k i cs (h i cs h0 h1) h1
theorem Keep4.of_below {W W' : World} (h : Below W.heap.size W W') : Keep4 W W' := fun k cs h0 _ => (h.block k (Array.getElem?_eq_some_iff.1 h0).1).trans h0
theorem KpT.refl (n0 : Nat) (W : World) : KpT n0 W W := ⟨Below.refl _ _, Keep4.refl _⟩
theorem KpT.trans {n0 : Nat} {A B C : World} (h : KpT n0 A B) (k : KpT n0 B C) : KpT n0 A C := ⟨h.1.trans k.1, h.2.trans k.2⟩
theorem KpT.of_below {n0 : Nat} {W W' : World} (hn : n0 ≤ W.heap.size) (h : Below W.heap.size W W') : KpT n0 W W' := ⟨h.mono hn, Keep4.of_below h⟩
theorem KpT.obj {n0 : Nat} {w : World} (hn : n0 ≤ w.heap.size) (W : World) (l : Nat) (o o' : Obj) (hl : w.heap.size ≤ l) (h : W.heap[l]? = some o) (h1 : o.isCells = false) (h2 : o.isWalk = false) : KpT n0 W (W.putObj l o') :=
  ⟨belowK_b hn W l o o' hl h h1 h2, fun k cs h0 _ => (World.putObj_heap_other (fun e => by subst e; rw [h] at h0; cases h0; cases h1)).trans h0⟩
theorem TBox.keep {W W' : World} {n0 g : Nat} {o : Int} {s : ByteArray} {z : Int} {a : Option Addr} {n c : Nat} (h : TBox W g o s z a n c) (k : KpT n0 W W') : TBox W' g o s z a n c := k.2 g _ h rfl

/-- a part of a term, with where its Args lie -/
structure Pt (B : Nat) (w0 : World) where
  t : Tm
  a : Option Addr
  n : Nat
  c : Nat
  ok : Ar B w0 t a n c
def encP {B : Nat} {w0 : World} (x : Pt B w0) : Array Value := #[.agg #[.int .i64 (opT x.t), .string (nameT x.t), .int .i64 (numT x.t), .slice x.a x.n x.c]]
theorem all_mk (t : Tm) : all t = t :: alls (argsT t) := by cases t; rw [all]; rfl
theorem alls_app (l m : List Tm) : alls (l ++ m) = alls l ++ alls m := by
  induction l with
  | nil => rfl
  | cons t l ih => rw [List.cons_append, alls, alls, ih, List.append_assoc]
theorem take_t {t : Tm} {l : List Tm} {k : Nat} (h : l[k]? = some t) : l.take (k + 1) = l.take k ++ [t] := by
  rw [List.take_add_one, h]; rfl
theorem alls_pre {t : Tm} {l : List Tm} {k : Nat} (h : l[k]? = some t) : alls (l.take k) ++ all t <+: alls l := by
  have := alls_app (l.take (k + 1)) (l.drop (k + 1))
  rw [List.take_append_drop, take_t h, alls_app] at this
  rw [this]
  have e : alls [t] = all t := by rw [alls, alls, List.append_nil]
  rw [e]
  exact List.prefix_append _ _
theorem alls_lt {t : Tm} {l : List Tm} {k : Nat} (h : l[k]? = some t) : sizes (l.take k) + size t ≤ sizes l := by
  have := (alls_pre h).length_le
  rw [List.length_append, alls_len, alls_len, all_len] at this
  exact this

/-- what is asked of a round -/
def RoundsT (B : Nat) (w0 : World) (l N : Nat) (J Jx : List (Pt B w0) → World → Prop) : Prop :=
  ∀ m pre x W, J pre W → pre.length < N → YieldAt Fence.wide m Tryz.prog l (encP x) W fun e W' =>
    (e = .returned (.bool true) ∧ J (pre ++ [x]) W' ∧ KpT B W W') ∨ (e = .returned (.bool false) ∧ Jx (pre ++ [x]) W')
theorem args_any (o : Int) (s : ByteArray) (z : Int) (a : Option Addr) (n c : Nat) (w : World) :
    Calls Tryz.prog 88 #[.agg #[.int .i64 o, .string s, .int .i64 z, .slice a n c]] w fun e w' => e = .returned (.slice a n c) ∧ w' = w.alloc (.cells #[.int .i64 o, .string s, .int .i64 z, .slice a n c] 24) := by
  go_enter Tryz.func88, Tryz.ntmps88
  go_wp2
  go_ret
  exact ⟨rfl, rfl⟩
/-- the walk, at this term -/
def VisitOk (B : Nat) (w0 : World) (l N : Nat) (J Jx : List (Pt B w0) → World → Prop) (t : Tm) : Prop :=
  ∀ (n : Nat) (a : Option Addr) (m c : Nat) (pre : List (Pt B w0)) (W : World), Ar B w0 t a m c → Below B w0 W → B ≤ W.heap.size → J pre W → pre.length + size t ≤ N →
    CallsIn Fence.wide n Tryz.prog 115 #[.agg #[.int .i64 (opT t), .string (nameT t), .int .i64 (numT t), .slice a m c], .func (.func 88) #[] #[], .func (.yield l) #[] #[]] W fun e W' =>
      (e = .returned (.bool true) ∧ (∃ ys, ys.map Pt.t = all t ∧ J (pre ++ ys) W') ∧ KpT B W W') ∨ (e = .returned (.bool false) ∧ ∃ q, q.map Pt.t <+: all t ∧ Jx (pre ++ q) W')

set_option maxRecDepth 100000 in
set_option maxHeartbeats 4000000 in
theorem visit_step (B : Nat) (w0 : World) (l N : Nat) (J Jx : List (Pt B w0) → World → Prop) (b0 : Nat) (hJ : AbidesFrom b0 J) (hY : RoundsT B w0 l N J Jx) (t : Tm) (hok : ∀ x ∈ argsT t, VisitOk B w0 l N J Jx x) : VisitOk B w0 l N J Jx t := by
  intro n a m c pre W hA hB hBW hJ0 hN
  obtain ⟨W2, hW2, hB2, hs2, S2⟩ := box1 W (opT t) (nameT t) (numT t) a m c
  have hJ2 : J pre W2 := by rw [← hW2]; exact hJ pre W _ none hJ0 (World.grownBy_alloc W _ none) (fun r e => by cases e)
  have hp := size_pos t
  obtain ⟨fn, tmps, assign, body, hy, hR⟩ := hY (n - 1) pre ⟨t, a, m, c, hA⟩ W2 hJ2 (by omega)
  dsimp only [encP] at hy
  obtain ⟨s0, s1, s2, s3⟩ := S2.four
  have hKW : KpT B W W2 := KpT.of_below hBW hB2
  have hB02 : Below B w0 W2 := hB.trans hKW.1
  have hT := ar_isT.1 hA
  have hsz : size t = 1 + sizes (argsT t) := by cases t; rw [size]; rfl
  rw [all_mk]
  refine callsIn_of_wp Tryz.func115 rfl trivial ?_ rfl
  simp only [Tryz.ntmps115, List.size_toArray, List.length_cons, List.length_nil, Nat.reduceAdd, Nat.reduceSub, Array.replicate_succ, Array.replicate_zero, List.push_toArray, List.append_toArray, List.nil_append, List.cons_append]
  have hdd : ∀ k : Nat, (Fence.wide.depth.isSome = true → 1 ≤ k) := fun k h => by cases h
  gi_wp2_with (first
    | ((try refine ⟨hdd _, ?_⟩); refine hR.mono ?_; clear hR; rintro e W3 (⟨rfl, hJ3, hk3⟩ | ⟨rfl, hx3⟩); all_goals (try (have hk3' := hk3; obtain ⟨u0, u1, u2, u3⟩ := (S2.keep hk3).four)))
    | ((try refine ⟨trivial, ?_⟩); (try refine ⟨hdd _, ?_⟩); gi_at_call 88; refine (callsIn_wide.2 (args_any _ _ _ _ _ _ W3)).mono ?_; rintro e W3b ⟨rfl, hW3b⟩; have hW3c := Lib.hid hW3b; clear hW3b))
  · have hJ3b : J (pre ++ [⟨t, a, m, c, hA⟩]) W3b := by rw [hW3c.out]; exact hJ _ W3 _ none hJ3 (World.grownBy_alloc W3 _ none) (fun r e => by cases e)
    have hK3b : KpT B W3 W3b := by rw [hW3c.out]; exact KpT.of_below (Nat.le_trans hBW (hKW.trans hk3).1.size) (bel_alloc (Below.refl _ _) _)
    clear hJ3 hW3c
    have hJ3 := hJ3b
    have hK3 := (hKW.trans hk3).trans hK3b
    clear hJ3b
    have hn : m ≤ 9223372036854775807 := by have h1 := hT.2.1; have h2 := hT.2.2.1; unfold maxLen at h2; omega
    have hW3 : B ≤ W3b.heap.size := Nat.le_trans hBW hK3.1.size
    have HT := Lib.hid hT
    have HJ := Lib.hid hJ
    have HK := Lib.hid (show ∀ k x, (argsT t)[k]? = some x → VisitOk B w0 l N J Jx x from fun k x h => hok x (List.mem_of_getElem? h))
    have H0 : Hid (∃ ys : List (Pt B w0), ys.map Pt.t = t :: alls ((argsT t).take 0) ∧ J (pre ++ ys) W3b) := ⟨[⟨t, a, m, c, hA⟩], rfl, hJ3⟩
    clear hT hJ hok hJ3 hy hW2 s0 s1 s2 s3 u0 u1 u2 u3 S2 hJ2 hJ0 hY hK3b
    generalize hla : argsT t = la at *
    have HLa := Lib.hid hla
    clear hla
    generalize opT t = op at *
    generalize nameT t = nm at *
    generalize numT t = nu at *
    gi_loopw [17] (fun i wr0 => ∃ (wr : World) (k : Nat), wr = wr0 ∧ k ≤ m ∧ i = .int .i64 k ∧ KpT B W wr ∧ Hid (∃ ys : List (Pt B w0), ys.map Pt.t = t :: alls (la.take k) ∧ J (pre ++ ys) wr)) (fun i _ => m - (intOf i).toNat)
    case atStart => exact ⟨_, 0, rfl, by omega, rfl, hK3, H0⟩
    case round =>
      obtain ⟨wr, k, rfl, hk, rfl, hKr, hR⟩ := hrel
      have hBr : Below B w0 wr := hB.trans hKr.1
      have hBs : B ≤ wr.heap.size := Nat.le_trans hBW hKr.1.size
      by_cases hlt : k < m
      · obtain ⟨bb, o, x, A, M, Cc, rfl, hb, z0, z1, z2, z3, hx, hok⟩ := HT.out.at hlt
        have y0 := (hBr.cell (p := ⟨bb, _, none⟩) hb).trans z0
        have y1 := (hBr.cell (p := ⟨bb, _, none⟩) hb).trans z1
        have y2 := (hBr.cell (p := ⟨bb, _, none⟩) hb).trans z2
        have y3 := (hBr.cell (p := ⟨bb, _, none⟩) hb).trans z3
        obtain ⟨ys, hys, hJr⟩ := hR.out
        have hlen : ys.length = 1 + sizes (la.take k) := by
          have := congrArg List.length hys
          rw [List.length_map, List.length_cons, alls_len] at this
          omega
        have hlts := alls_lt hx
        obtain ⟨W4, hW4, hB4, hs4, S4⟩ := box1 wr (opT x) (nameT x) (numT x) A M Cc
        have hJ4 : J (pre ++ ys) W4 := by rw [← hW4]; exact HJ.out _ wr _ none hJr (World.grownBy_alloc wr _ none) (fun r e => by cases e)
        have hK4 : KpT B wr W4 := KpT.of_below hBs hB4
        have cv := HK.out k x hx (n - 1) A M Cc (pre ++ ys) W4 hok (hBr.trans hK4.1) (Nat.le_trans hBs hK4.1.size) hJ4 (by rw [List.length_append]; omega)
        obtain ⟨f0, f1, f2, f3⟩ := S4.four
        have hpre := alls_pre hx
        have htk := take_t hx
        clear z0 z1 z2 z3 hok hR HK HT HJ S4
        have Hx := Lib.hid hx
        have Hys := Lib.hid hys
        have Hpre := Lib.hid hpre
        have Htk := Lib.hid htk
        clear hx hys hpre htk hJr hJ4
        generalize opT x = op' at *
        generalize nameT x = nm' at *
        generalize numT x = nu' at *
        have hk0 : 0 ≤ (k : Int) := by omega
        have hk1 : (k : Int) < (m : Int) := by omega
        gi_wp2_with ((try refine ⟨trivial, ?_⟩); (try refine ⟨hdd _, ?_⟩); gi_at_call 115; refine cv.mono ?_; clear cv; rintro e W5 (⟨rfl, hz, hk5⟩ | ⟨rfl, hq⟩); all_goals (first | (have Hz := Lib.hid hz; clear hz) | (have Hq := Lib.hid hq; clear hq)))
        · go_roundw
          case rel => exact ⟨_, k + 1, rfl, by omega, by go_num, (hKr.trans hK4).trans hk5, by
            obtain ⟨zs, h1, h2⟩ := Hz.out
            refine ⟨ys ++ zs, ?_, by rw [← List.append_assoc]; exact h2⟩
            rw [List.map_append, Hys.out, h1, Htk.out, alls_app, List.cons_append]
            rw [show alls [x] = all x by rw [alls, alls, List.append_nil]]⟩
          case measure => simp [intOf]; omega
        · go_ret
          refine .inr ⟨rfl, ?_⟩
          rw [HLa.out]
          obtain ⟨q, h1, h2⟩ := Hq.out
          refine ⟨ys ++ q, ?_, by rw [← List.append_assoc]; exact h2⟩
          rw [List.map_append, Hys.out, List.cons_append]
          obtain ⟨r1, h3⟩ := h1
          obtain ⟨r2, h4⟩ := Hpre.out
          exact ⟨r1 ++ r2, by rw [← h4, ← h3]; simp⟩
      · obtain rfl : k = m := by omega
        have hR2 : Hid (∃ ys : List (Pt B w0), ys.map Pt.t = t :: alls la ∧ J (pre ++ ys) wr) := by
          obtain ⟨ys, h1, h2⟩ := hR.out
          exact ⟨ys, by rw [h1, List.take_of_length_le (by have := HT.out.1; omega)], h2⟩
        clear hR
        gi_wp2
        go_ret
        exact .inl ⟨rfl, by rw [HLa.out]; exact hR2.out, hKr⟩
  · go_ret
    exact .inr ⟨rfl, [⟨t, a, m, c, hA⟩], ⟨_, by rw [List.map_singleton, List.singleton_append]⟩, hx3⟩
theorem visit_any (B : Nat) (w0 : World) (l N : Nat) (J Jx : List (Pt B w0) → World → Prop) (b0 : Nat) (hJ : AbidesFrom b0 J) (hY : RoundsT B w0 l N J Jx) (t : Tm) : VisitOk B w0 l N J Jx t :=
  Tm.ind (visit_step B w0 l N J Jx b0 hJ hY) t
end Go.Proofs.YtcigeclnbhcohaaGreatDoor.T
namespace Go.Proofs.YtcigeclnbhcohaaGreatDoor.T
open Go.RowKit Go.Shelf L
set_option linter.unusedVariables false
set_option linter.unusedSimpArgs false
attribute [local go_sem] Oper.semAt_some

/-- the blocks that the iterator is made of: the term, the term, and what lies below one -/
theorem box_all (w : World) (o : Int) (s : ByteArray) (z : Int) (a : Option Addr) (n c : Nat) :
    ∃ W, ((w.alloc (.cells #[.int .i64 o, .string s, .int .i64 z, .slice a n c] 24)).alloc (.cells #[.int .i64 o, .string s, .int .i64 z, .slice a n c] 24)).alloc (.cells #[.func (.func 88) #[] #[]] 111) = W ∧ Below w.heap.size w W ∧ W.heap.size = w.heap.size + 3 ∧ TBox W (w.heap.size + 1) o s z a n c ∧ Blk W (w.heap.size + 2) #[.func (.func 88) #[] #[]] 111 := by
  obtain ⟨W2, h2, hb, hs, t1, t2⟩ := box2 w o s z a n c o s z a n c
  rw [h2]
  refine ⟨_, rfl, bel_alloc hb _, by simp [hs], Blk.alloc t2 _, ?_⟩
  have := Blk.new W2 #[Value.func (.func 88) #[] #[]] 111
  rwa [hs] at this
theorem tall_any (o : Int) (s : ByteArray) (z : Int) (a : Option Addr) (n c : Nat) (w : World) :
    Calls Tryz.prog 89 #[.agg #[.int .i64 o, .string s, .int .i64 z, .slice a n c], .func (.func 88) #[] #[]] w fun e w' => e = .returned (.func (.func 114) #[] #[.pointer (some ⟨w.heap.size, 0, none⟩), .pointer (some ⟨w.heap.size + 1, 0, none⟩)]) ∧ w' = (w.alloc (.cells #[.int .i64 o, .string s, .int .i64 z, .slice a n c] 24)).alloc (.cells #[.func (.func 88) #[] #[]] 111) := by
  go_enter Tryz.func89, Tryz.ntmps89
  go_wp2
  go_ret
  exact ⟨rfl, rfl⟩
theorem all_any (o : Int) (s : ByteArray) (z : Int) (a : Option Addr) (n c : Nat) (w : World) :
    Calls Tryz.prog 54 #[.agg #[.int .i64 o, .string s, .int .i64 z, .slice a n c]] w fun e w' => e = .returned (.func (.func 114) #[] #[.pointer (some ⟨w.heap.size + 1, 0, none⟩), .pointer (some ⟨w.heap.size + 2, 0, none⟩)]) ∧ w' = ((w.alloc (.cells #[.int .i64 o, .string s, .int .i64 z, .slice a n c] 24)).alloc (.cells #[.int .i64 o, .string s, .int .i64 z, .slice a n c] 24)).alloc (.cells #[.func (.func 88) #[] #[]] 111) := by
  obtain ⟨W1, h1, hb1, hs1, S1⟩ := box1 w o s z a n c
  have c1 := tall_any o s z a n c W1
  rw [hs1, Nat.add_assoc] at c1
  rw [h1]
  obtain ⟨s0, s1, s2, s3⟩ := S1.four
  clear S1
  go_enter Tryz.func54, Tryz.ntmps54
  go_wp2_with (go_at_call 89; ((with_reducible refine c1.mono ?_); rintro e w1 ⟨rfl, rfl⟩))
  go_ret
  exact ⟨rfl, rfl⟩
set_option maxHeartbeats 2000000 in
theorem all_stops (n : Nat) (B g g2 : Nat) (w0 w : World) (t : Tm) (a : Option Addr) (m c : Nat) (hA : Ar B w0 t a m c) (hB : Below B w0 w) (hBw : B ≤ w.heap.size) (hT : TBox w g (opT t) (nameT t) (numT t) a m c) (hF : Blk w g2 #[.func (.func 88) #[] #[]] 111) :
    SeqStopsK Fence.wide n Tryz.prog 114 #[.pointer (some ⟨g, 0, none⟩), .pointer (some ⟨g2, 0, none⟩)] (encP (B := B) (w0 := w0)) (KpT B) (fun ys => ys.map Pt.t = all t) (fun pre => pre.map Pt.t <+: all t) (size t) w := fun l J Jx W hW hJ hJx hY h0 => by
  have hY2 : RoundsT B w0 l (size t) J Jx := fun m pre x W hj hl => yield_any rfl m (hY pre x W hj hl)
  have hv := visit_any B w0 l (size t) J Jx _ hJ hY2 t (n - 1) a m c [] W hA (hB.trans (hW.mono hBw)) (Nat.le_trans hBw hW.size) h0 (by simp)
  obtain ⟨t0, t1, t2, t3⟩ := (TBox.b hT hW).four
  have f0 := Blk.cell (Blk.below hF hW) 0
  have hdd : ∀ k : Nat, (Fence.wide.depth.isSome = true → 1 ≤ k) := fun k h => by cases h
  clear hY hY2 hT hA hJ hJx h0 hF
  refine callsIn_of_wp Tryz.func114 rfl trivial ?_ rfl
  simp only [Tryz.ntmps114, List.size_toArray, List.length_cons, List.length_nil, Nat.reduceAdd, Nat.reduceSub, Array.replicate_succ, Array.replicate_zero, List.push_toArray, List.append_toArray, List.nil_append, List.cons_append]
  gi_wp2_with ((try refine ⟨trivial, ?_⟩); (try refine ⟨hdd _, ?_⟩); gi_at_call 115; refine hv.mono ?_; clear hv; rintro e W5 (⟨rfl, hz, hk5⟩ | ⟨rfl, hq⟩); all_goals (first | (have Hz := Lib.hid hz; clear hz) | (have Hq := Lib.hid hq; clear hq)))
  · go_end0
    obtain ⟨ys, h1, h2⟩ := Hz.out
    exact ⟨⟨_, rfl⟩, .inl ⟨ys, h1, by simpa using h2⟩⟩
  · go_end0
    obtain ⟨ys, h1, h2⟩ := Hq.out
    exact ⟨⟨_, rfl⟩, .inr ⟨ys, h1, by simpa using h2⟩⟩

/-! what a loop's own blocks abide -/
theorem own_blk {β : Type} (g : Nat) (cs : Array Value) (t : TypeId) : Own (fun (_ : β) W => Blk W g cs t) := fun s X Y row hs hg hr => by
  refine (hg.block g (Blk.lt hs) (fun e => ?_)).trans hs
  obtain ⟨o, ho, hc⟩ := hr g e.symm
  rw [show X.heap[g]? = _ from hs] at ho; cases ho; cases hc
theorem blk_cell_set {W : World} {g : Nat} {v : Value} {t : TypeId} (h : Blk W g #[v] t) (u : Value) : Blk (W.setCell ⟨g, 0, none⟩ u) g #[u] t := by
  have := Blk.set h 0 u
  simpa using this
theorem keepsF {B0 : Nat} {W W' : World} (h : Below W.heap.size W W') : KeepsFrom B0 W W' := ⟨h.size, fun k o _ hk _ => (h.block k (Array.getElem?_eq_some_iff.1 hk).1).trans hk⟩
/-- a store into a block that is no term's -/
theorem keep_set {W : World} {g : Nat} {cs : Array Value} {t : TypeId} (h : Blk W g cs t) (hne : cs.size ≠ 4) (k : Nat) (v : Value) : Keep4 W (W.setCell ⟨g, k, none⟩ v) := fun i cs2 h0 h1 => by
  refine (heap_setCell_other W ⟨g, k, none⟩ i v (fun e => ?_)).trans h0
  subst e
  rw [show W.heap[i]? = _ from h] at h0
  injection h0 with h0; injection h0 with h0
  exact hne (h0 ▸ h1)

theorem blk_ne {W : World} {g D : Nat} {cs : Array Value} {t : TypeId} {d : Option (List Deferred)} (h : Blk W g cs t) (hD : W.heap[D]? = some (.deferred d)) : g ≠ D := fun e => by
  subst e
  rw [show W.heap[g]? = _ from h] at hD; cases hD
theorem blk_put {W : World} {g D : Nat} {cs : Array Value} {t : TypeId} {d : Option (List Deferred)} (h : Blk W g cs t) (hD : W.heap[D]? = some (.deferred d)) (o : Obj) : Blk (W.putObj D o) g cs t :=
  (World.putObj_heap_other (fun e => blk_ne h hD e)).trans h
end Go.Proofs.YtcigeclnbhcohaaGreatDoor.T
