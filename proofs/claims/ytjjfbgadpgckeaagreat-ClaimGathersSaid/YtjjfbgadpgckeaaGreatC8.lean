/-
  What is proved: the library's Backward over a list of claims: each with its place, from the last to the first, is handed to the round of a loop.
  What is proved: what package claim's joined returns: the claims of a list, joined from the right.
-/
import Derived.Test.YtjjfbgadpgckeaaGreatC5
import Derived.Test.YtjjfbgadpgckeaaGreatBC
import Derived.RegionIn
namespace Go.Proofs.YtjjfbgadpgckeaaGreat.C
open Go.RowKit Go.Shelf L T
set_option linter.unusedVariables false
set_option linter.unusedSimpArgs false
attribute [local go_sem] Oper.semAt_some

/-! what a round keeps: what lay below n0, and every block that holds a list -/
def KeepS (W W' : World) : Prop := ∀ (k : Nat) (cs : Array Value), W.heap[k]? = some (.cells cs 23 (0, 0)) → W'.heap[k]? = some (.cells cs 23 (0, 0))
def KpS (n0 : Nat) (W W' : World) : Prop := Below n0 W W' ∧ KeepS W W'
theorem KpS.refl (n0 : Nat) (W : World) : KpS n0 W W := ⟨Below.refl _ _, fun k cs h => h⟩
theorem KpS.trans {n0 : Nat} {A B C : World} (h : KpS n0 A B) (k : KpS n0 B C) : KpS n0 A C := ⟨h.1.trans k.1, fun i cs h0 => k.2 i cs (h.2 i cs h0)⟩
theorem KpS.of_below {n0 : Nat} {W W' : World} (hn : n0 ≤ W.heap.size) (h : Below W.heap.size W W') : KpS n0 W W' := ⟨h.mono hn, fun k cs h0 => (h.block k (Array.getElem?_eq_some_iff.1 h0).1).trans h0⟩
theorem KpS.obj {n0 : Nat} {w : World} (hn : n0 ≤ w.heap.size) (W : World) (l : Nat) (o o' : Obj) (hl : w.heap.size ≤ l) (h : W.heap[l]? = some o) (h1 : o.isCells = false) (h2 : o.isWalk = false) : KpS n0 W (W.putObj l o') :=
  ⟨belowK_b hn W l o o' hl h h1 h2, fun k cs h0 => (World.putObj_heap_other (fun e => by subst e; rw [h] at h0; cases h0; cases h1)).trans h0⟩
structure PtI (B : Nat) (w0 : World) where
  i : Nat
  x : PtC B w0
  sz : wt x.t ≤ 1000000
def encI {B : Nat} {w0 : World} (y : PtI B w0) : Array Value := #[.int .i64 (y.i : Int), .agg #[.int .i64 (opC y.x.t), .string (nmC y.x.t), .string (soC y.x.t), .slice y.x.k.a y.x.k.n y.x.k.c, .slice y.x.a y.x.n y.x.c]]
def tI {B : Nat} {w0 : World} (y : PtI B w0) : Cl := y.x.t
theorem drop_rev {l : List Cl} {k : Nat} {x : Cl} (h : l[k]? = some x) : (l.drop k).reverse = (l.drop (k + 1)).reverse ++ [x] := by
  rw [drop_c h, List.reverse_cons]

theorem back_any (A : Option Addr) (m c : Nat) (w : World) :
    Calls Tryz.prog 96 #[.slice A m c] w fun e w' => e = .returned (.func (.func 115) #[] #[.pointer (some ⟨w.heap.size, 0, none⟩)]) ∧ w' = w.alloc (.cells #[.slice A m c] 23) := by
  go_enter Tryz.func96, Tryz.ntmps96
  go_wp2
  go_ret
  exact ⟨rfl, rfl⟩
set_option maxRecDepth 100000 in
set_option maxHeartbeats 4000000 in
theorem back_stops (n B g : Nat) (w0 w : World) (A : Option Addr) (m c : Nat) (l : List Cl) (hT : IsC B w0 A m c l) (hsz : ∀ y ∈ l, wt y ≤ 1000000) (hB : Below B w0 w) (hBw : B ≤ w.heap.size) (hG : Blk w g #[.slice A m c] 23) :
    SeqStopsK Fence.wide n Tryz.prog 115 #[.pointer (some ⟨g, 0, none⟩)] (encI (B := B) (w0 := w0)) (KpS B) (fun ys => ys.map tI = l.reverse) (fun pre => pre.map tI <+: l.reverse) l.length w := fun lp J Jx W hW hJ hJx hY h0 => by
  have hGW : Blk W g #[.slice A m c] 23 := Blk.below hG hW
  have hn : m ≤ 9223372036854775807 := by have h1 := hT.2.1; have h2 := hT.2.2.1; unfold maxLen at h2; omega
  have hdd : ∀ k : Nat, (Fence.wide.depth.isSome = true → 1 ≤ k) := fun k h => by cases h
  have hBW : Below B w0 W := hB.trans (hW.mono hBw)
  have hBs : B ≤ W.heap.size := Nat.le_trans hBw hW.size
  have g0 := Blk.cell hGW 0
  have HT := Lib.hid hT
  have HY := Lib.hid hY
  have HG := Lib.hid hGW
  have hml : m = l.length := hT.1
  have HML := Lib.hid hml
  have H0 : Hid (∃ ys : List (PtI B w0), ys.map tI = (l.drop m).reverse ∧ J ys W) := ⟨[], by rw [List.drop_eq_nil_of_le (by omega)]; rfl, h0⟩
  have wr1 : IntKind.i64.wrap ((m : Int) - 1) = (m : Int) - 1 := by rw [IntKind.wrap_i64]; omega
  clear hT hY hG hGW h0 hml hJ hJx hW hB
  refine callsIn_of_wp Tryz.func115 rfl trivial ?_ rfl
  simp only [Tryz.ntmps115, List.size_toArray, List.length_cons, List.length_nil, Nat.reduceAdd, Nat.reduceSub, Array.replicate_succ, Array.replicate_zero, List.push_toArray, List.append_toArray, List.nil_append, List.cons_append]
  gi_wp2
  gi_loopw [3] (fun i wr0 => ∃ (wr : World) (k : Nat), wr = wr0 ∧ k ≤ m ∧ i = .int .i64 ((k : Int) - 1) ∧ KpS B W wr ∧ Hid (∃ ys : List (PtI B w0), ys.map tI = (l.drop k).reverse ∧ J ys wr)) (fun i _ => (intOf i + 1).toNat)
  case atStart => exact ⟨_, m, rfl, by omega, rfl, KpS.refl _ _, H0⟩
  case round =>
    obtain ⟨wr, k, rfl, hk, rfl, hKr, hR⟩ := hrel
    have hBr : Below B w0 wr := hBW.trans hKr.1
    have hgr : Blk wr g #[.slice A m c] 23 := hKr.2 g _ HG.out
    have gr0 := Blk.cell hgr 0
    cases k with
    | zero =>
      have hc : ¬ ((0 : Nat) : Int) - 1 ≥ 0 := by omega
      obtain ⟨ys, h1, h2⟩ := hR.out
      have HF : Hid (∃ ys : List (PtI B w0), ys.map tI = l.reverse ∧ J ys wr) := ⟨ys, by rw [h1, List.drop_zero], h2⟩
      clear hR h1 h2
      gi_wp2
      go_end0
      exact ⟨⟨_, rfl⟩, .inl HF.out⟩
    | succ k =>
      have hlt : k < m := by omega
      obtain ⟨bb, o, x, kk, M1, Mn, Mc, rfl, hb, z0, z1, z2, z3, z4, hx, hok⟩ := HT.out.at hlt
      have y0 := (hBr.cell (p := ⟨bb, _, none⟩) hb).trans z0
      have y1 := (hBr.cell (p := ⟨bb, _, none⟩) hb).trans z1
      have y2 := (hBr.cell (p := ⟨bb, _, none⟩) hb).trans z2
      have y3 := (hBr.cell (p := ⟨bb, _, none⟩) hb).trans z3
      have y4 := (hBr.cell (p := ⟨bb, _, none⟩) hb).trans z4
      have hwx := hsz x (List.mem_of_getElem? hx)
      obtain ⟨ys, hys, hJr⟩ := hR.out
      have hlen : ys.length + (k + 1) = l.length := by
        have := congrArg List.length hys
        rw [List.length_map, List.length_reverse, List.length_drop] at this
        have := HML.out
        omega
      obtain ⟨fn, tmps, assign, body, hy, hRn⟩ := yield_any rfl (n - 1) (HY.out ys ⟨k, ⟨x, kk, M1, Mn, Mc, hok⟩, hwx⟩ wr hJr (by omega))
      dsimp only [encI] at hy
      have hdr := drop_rev hx
      have hpre : ys.map tI ++ [x] <+: l.reverse := by
        rw [hys, ← hdr]
        have := List.take_append_drop k l
        conv => rhs; rw [← this, List.reverse_append]
        exact List.prefix_append _ _
      have Hys := Lib.hid hys
      have Hdr := Lib.hid hdr
      have Hpre := Lib.hid hpre
      have ek : (((k + 1 : Nat) : Int) - 1) = (k : Int) := by omega
      rw [ek]
      have wk : IntKind.i64.wrap ((k : Int) - 1) = (k : Int) - 1 := by rw [IntKind.wrap_i64]; omega
      have hc : (k : Int) ≥ 0 := by omega
      have hk0 : 0 ≤ (k : Int) := by omega
      have hk1 : (k : Int) < (m : Int) := by omega
      clear z0 z1 z2 z3 z4 hx hys hdr hpre hR HT HY ek hJr
      generalize opC x = op' at *
      generalize nmC x = nm' at *
      generalize soC x = nu' at *
      gi_wp2_with ((try refine ⟨hdd _, ?_⟩); refine hRn.mono ?_; clear hRn; rintro e W3 (⟨rfl, hJ3, hk3⟩ | ⟨rfl, hx3⟩); all_goals (first | (have HJ3 := Lib.hid hJ3; clear hJ3) | (have HX3 := Lib.hid hx3; clear hx3)))
      · go_roundw
        case rel => exact ⟨_, k, rfl, by omega, by go_num, hKr.trans hk3, ⟨ys ++ [⟨k, ⟨x, kk, M1, Mn, Mc, hok⟩, hwx⟩], by rw [List.map_append, Hys.out, Hdr.out]; rfl, by first | exact HJ3.out | (have := HJ3.out; rwa [List.append_assoc] at this)⟩⟩
        case measure => simp [intOf]
      · refine bodyPost_ret (results_none rfl _ _ _) rfl ?_
        exact ⟨⟨_, rfl⟩, .inr ⟨_, by rw [List.map_append, List.map_singleton]; exact Hpre.out, HX3.out⟩⟩
end Go.Proofs.YtjjfbgadpgckeaaGreat.C
namespace Go.Proofs.YtjjfbgadpgckeaaGreat.C
open Go.RowKit Go.Shelf L T
set_option linter.unusedVariables false
set_option linter.unusedSimpArgs false
attribute [local go_sem] Oper.semAt_some

def joinD (op : Int) (last : Cl) (pre : List Cl) : Cl := pre.foldl (fun acc c => .mk op ⟨#[]⟩ ⟨#[]⟩ [] [c, acc]) last
theorem joinD_snoc (op : Int) (last : Cl) (pre : List Cl) (c : Cl) : joinD op last (pre ++ [c]) = .mk op ⟨#[]⟩ ⟨#[]⟩ [] [c, joinD op last pre] := by
  unfold joinD; rw [List.foldl_append]; rfl
def joinL (op none : Int) : List Cl → Cl
  | [] => .mk none ⟨#[]⟩ ⟨#[]⟩ [] []
  | [c] => c
  | c :: d :: l => .mk op ⟨#[]⟩ ⟨#[]⟩ [] [c, joinL op none (d :: l)]
theorem joinL_D (op none : Int) : ∀ (l : List Cl) (last : Cl), joinL op none (l ++ [last]) = joinD op last l.reverse
  | [], last => rfl
  | c :: l, last => by
    rw [List.reverse_cons, joinD_snoc, ← joinL_D op none l last]
    cases l with
    | nil => rfl
    | cons d l => rfl
/-- a claim is returned that is read in the world -/
def RdC (t : Cl) (w : World) (e : Ending) (w' : World) : Prop := ∃ h : Hc, e = .returned (.agg #[.int .i64 h.op, .string h.nm, .string h.so, .slice h.k.a h.k.n h.k.c, .slice h.a h.n h.c]) ∧ (h.op = opC t ∧ h.nm = nmC t ∧ h.so = soC t) ∧ ArCP (fun b => w.heap.size ≤ b ∧ b < w'.heap.size) w' t h.k h.a h.n h.c ∧ Below w.heap.size w w'
theorem RdC.of_new {t : Cl} {w w' : World} {e : Ending} (h : NewC t w e w') : RdC t w e w' := by
  obtain ⟨h, e1, hF, hb⟩ := h
  exact ⟨h, e1, FrC.hd hF, FrC.arP _ (fun b x y => ⟨x, y⟩) hF, hb⟩
/-- a cell that holds a claim, which lies elsewhere -/
def JC (g r lo : Nat) (t : Cl) (W : World) : Prop := ∃ h : Hc, CBox W g h.op h.nm h.so h.k h.a h.n h.c ∧ (h.op = opC t ∧ h.nm = nmC t ∧ h.so = soC t) ∧ ArCP (fun b => (b ≠ g ∧ b ≠ r ∧ lo ≤ b) ∧ b < W.heap.size) W t h.k h.a h.n h.c
theorem jc_own {β : Type} (g r lo : Nat) (f : β → Cl) : Own (fun (s : β) W => JC g r lo (f s) W) := fun s X Y row hs hg hr => by
  obtain ⟨h, h1, h2, h3⟩ := hs
  exact ⟨h, own_blk g _ _ () X Y row h1 hg hr, h2, ArCP.toC (fun b o v _ hc => cell_kept hc hg hr) (fun b hb => ⟨hb.1, Nat.lt_of_lt_of_le hb.2 hg.size⟩) _ h3⟩
theorem JC.below {g r lo : Nat} {t : Cl} {W W' : World} (h : JC g r lo t W) (hb : Below W.heap.size W W') : JC g r lo t W' := by
  obtain ⟨h, h1, h2, h3⟩ := h
  exact ⟨h, CBox.b h1 hb, h2, ArCP.to (fun b hp => hb.block b hp.2) (fun b hp => ⟨hp.1, Nat.lt_of_lt_of_le hp.2 hb.size⟩) _ h3⟩
theorem nilTP (P : Nat → Prop) (w : World) : IsTP P w SS.nil [] := by
  unfold IsTP SS.nil; rw [ArP]; exact ⟨rfl, Nat.le_refl _, Nat.zero_le _, fun _ => rfl, fun h => absurd h (Nat.lt_irrefl 0)⟩
/-- one claim more: its copy and the cell's claim in a new row, which the cell's new claim holds -/
theorem jc_step {g r lo : Nat}  {t x : Cl} {op : Int} {w5 : World} {h hd : Hc} (hg : CBox w5 g hd.op hd.nm hd.so hd.k hd.a hd.n hd.c) (he : hd.op = opC t ∧ hd.nm = nmC t ∧ hd.so = soC t) (hr : r < w5.heap.size) (hlo : lo ≤ w5.heap.size) (hA : ArCP (fun b => (b ≠ g ∧ b ≠ r ∧ lo ≤ b) ∧ b < w5.heap.size) w5 t hd.k hd.a hd.n hd.c)
    (ex : h.op = opC x ∧ h.nm = nmC x ∧ h.so = soC x) (hx : ArCP (fun b => (b ≠ g ∧ b ≠ r ∧ lo ≤ b) ∧ b < w5.heap.size) w5 x h.k h.a h.n h.c) (X : World)
    (hX : X = put5 (w5.alloc (.cells #[.int .i64 h.op, .string h.nm, .string h.so, .slice h.k.a h.k.n h.k.c, .slice h.a h.n h.c, .int .i64 hd.op, .string hd.nm, .string hd.so, .slice hd.k.a hd.k.n hd.k.c, .slice hd.a hd.n hd.c] 25)) g (.int .i64 op) (.string ⟨#[]⟩) (.string ⟨#[]⟩) (.slice none 0 0) (.slice (some ⟨w5.heap.size, 0, none⟩) 2 2)) :
    JC g r lo (.mk op ⟨#[]⟩ ⟨#[]⟩ [] [x, t]) X := by
  have lg := Blk.lt hg
  obtain ⟨W6, hW6⟩ : ∃ W6, w5.alloc (.cells #[.int .i64 h.op, .string h.nm, .string h.so, .slice h.k.a h.k.n h.k.c, .slice h.a h.n h.c, .int .i64 hd.op, .string hd.nm, .string hd.so, .slice hd.k.a hd.k.n hd.k.c, .slice hd.a hd.n hd.c] 25) = W6 := ⟨_, rfl⟩
  have R6 := Blk.new w5 #[.int .i64 h.op, .string h.nm, .string h.so, .slice h.k.a h.k.n h.k.c, .slice h.a h.n h.c, .int .i64 hd.op, .string hd.nm, .string hd.so, .slice hd.k.a hd.k.n hd.k.c, .slice hd.a hd.n hd.c] 25
  rw [hW6] at R6 hX
  have hb6 : Below w5.heap.size w5 W6 := by rw [← hW6]; exact bel_alloc (Below.refl _ _) _
  have hs6 : W6.heap.size = w5.heap.size + 1 := by rw [← hW6]; simp
  have hs : X.heap.size = w5.heap.size + 1 := by rw [hX, put5_size, hs6]
  have hoth : ∀ b, (b ≠ g ∧ b ≠ r ∧ lo ≤ b) ∧ b < w5.heap.size → X.heap[b]? = w5.heap[b]? := fun b hb => by rw [hX, put5_other _ _ _ _ _ _ _ _ hb.1.1]; exact hb6.block b hb.2
  have hR : Blk X w5.heap.size _ _ := (by rw [hX]; exact (put5_other _ _ _ _ _ _ _ _ (by omega)) : X.heap[w5.heap.size]? = W6.heap[w5.heap.size]?).trans R6
  have hG := CBox.put (CBox.b hg hb6) op ⟨#[]⟩ ⟨#[]⟩ SS.nil (some ⟨w5.heap.size, 0, none⟩) 2 2
  refine ⟨⟨op, ⟨#[]⟩, ⟨#[]⟩, SS.nil, some ⟨w5.heap.size, 0, none⟩, 2, 2⟩, by rw [hX]; exact hG, ⟨rfl, rfl, rfl⟩, ?_⟩
  rw [ArCP]
  refine ⟨nilTP _ _, rfl, Nat.le_refl _, (by show (2 : Nat) ≤ maxLen; unfold maxLen; omega), fun h => (by cases h), fun _ => ⟨w5.heap.size, 0, rfl, ⟨⟨by omega, by omega, by omega⟩, by omega⟩, ?_⟩⟩
  rw [RwCP, RwCP, RwCP]
  have up : ∀ (y : Cl) (k : SS) (a : Option Addr) (n c : Nat), ArCP (fun b => (b ≠ g ∧ b ≠ r ∧ lo ≤ b) ∧ b < w5.heap.size) w5 y k a n c → ArCP (fun b => (b ≠ g ∧ b ≠ r ∧ lo ≤ b) ∧ b < X.heap.size) X y k a n c := fun y k a n c hy => ArCP.to hoth (fun b hb => ⟨hb.1, by omega⟩) y hy
  exact ⟨⟨h.k, h.a, h.n, h.c, by rw [← ex.1]; exact Blk.cell hR 0, by rw [← ex.2.1]; exact Blk.cell hR 1, by rw [← ex.2.2]; exact Blk.cell hR 2, Blk.cell hR 3, Blk.cell hR 4, up _ _ _ _ _ hx⟩, ⟨hd.k, hd.a, hd.n, hd.c, by rw [← he.1]; exact Blk.cell hR 5, by rw [← he.2.1]; exact Blk.cell hR 6, by rw [← he.2.2]; exact Blk.cell hR 7, Blk.cell hR 8, Blk.cell hR 9, up _ _ _ _ _ hA⟩, trivial⟩
set_option maxHeartbeats 1000000 in
theorem jb_facts {B h0 g8 : Nat} {op : Int} {t x : Cl} {w W w5 : World} {hd h5 : Hc} (hG : CBox W g8 hd.op hd.nm hd.so hd.k hd.a hd.n hd.c) (he : hd.op = opC t ∧ hd.nm = nmC t ∧ hd.so = soC t) (hA : ArCP (fun b => (b ≠ g8 ∧ b ≠ h0 + 1 ∧ B ≤ b) ∧ b < W.heap.size) W t hd.k hd.a hd.n hd.c)
    (hO : Blk W h0 #[.int .i64 op] 3) (hR : CBox W (h0 + 1) 0 ⟨#[]⟩ ⟨#[]⟩ SS.nil none 0 0) (hB : Below B w W) (hBW : B ≤ W.heap.size) (hBg : B ≤ g8) (hne : h0 + 1 < g8) (hF : FrC w5 x W.heap.size w5.heap.size h5) (hb5 : Below W.heap.size W w5) :
    ∃ W6, w5.alloc (.cells #[.int .i64 h5.op, .string h5.nm, .string h5.so, .slice h5.k.a h5.k.n h5.k.c, .slice h5.a h5.n h5.c, .int .i64 hd.op, .string hd.nm, .string hd.so, .slice hd.k.a hd.k.n hd.k.c, .slice hd.a hd.n hd.c] 25) = W6 ∧
      (w5.cell? ⟨h0, 0, none⟩ = some (.int .i64 op) ∧ w5.cell? ⟨g8, 0, none⟩ = some (.int .i64 hd.op) ∧ w5.cell? ⟨g8, 1, none⟩ = some (.string hd.nm) ∧ w5.cell? ⟨g8, 1 + 1, none⟩ = some (.string hd.so) ∧ w5.cell? ⟨g8, 1 + 1 + 1, none⟩ = some (.slice hd.k.a hd.k.n hd.k.c) ∧ w5.cell? ⟨g8, 1 + 1 + 1 + 1, none⟩ = some (.slice hd.a hd.n hd.c)) ∧
      (W6.cell? ⟨h0, 0, none⟩ = some (.int .i64 op) ∧ W6.cell? ⟨g8, 0, none⟩ = some (.int .i64 hd.op) ∧ W6.cell? ⟨g8, 1, none⟩ = some (.string hd.nm) ∧ W6.cell? ⟨g8, 1 + 1, none⟩ = some (.string hd.so) ∧ W6.cell? ⟨g8, 1 + 1 + 1, none⟩ = some (.slice hd.k.a hd.k.n hd.k.c) ∧ W6.cell? ⟨g8, 1 + 1 + 1 + 1, none⟩ = some (.slice hd.a hd.n hd.c)) ∧
      (W6.frozen? ⟨g8, 0, none⟩ = false ∧ W6.frozen? ⟨g8, 1, none⟩ = false ∧ W6.frozen? ⟨g8, 2, none⟩ = false ∧ W6.frozen? ⟨g8, 3, none⟩ = false ∧ W6.frozen? ⟨g8, 4, none⟩ = false) ∧
      Hid (∀ X, X = put5 W6 g8 (.int .i64 op) (.string ⟨#[]⟩) (.string ⟨#[]⟩) (.slice none 0 0) (.slice (some ⟨w5.heap.size, 0, none⟩) 2 2) → (∀ B0, KeepsFrom B0 W X) ∧ KpS B W X ∧ (((JC g8 (h0 + 1) B (.mk op ⟨#[]⟩ ⟨#[]⟩ [] [x, t]) X ∧ Blk X h0 #[.int .i64 op] 3) ∧ CBox X (h0 + 1) 0 ⟨#[]⟩ ⟨#[]⟩ SS.nil none 0 0) ∧ Below B w X)) := by
  obtain ⟨W6, hW6⟩ : ∃ W6, w5.alloc (.cells #[.int .i64 h5.op, .string h5.nm, .string h5.so, .slice h5.k.a h5.k.n h5.k.c, .slice h5.a h5.n h5.c, .int .i64 hd.op, .string hd.nm, .string hd.so, .slice hd.k.a hd.k.n hd.k.c, .slice hd.a hd.n hd.c] 25) = W6 := ⟨_, rfl⟩
  have hb6 : Below w5.heap.size w5 W6 := by rw [← hW6]; exact bel_alloc (Below.refl _ _) _
  have lg := Blk.lt hG
  have hG5 := CBox.b hG hb5
  have hG6 := CBox.b hG5 hb6
  have hO5 := Blk.below hO hb5
  have hO6 := Blk.below hO5 hb6
  have hR6 := CBox.b (CBox.b hR hb5) hb6
  obtain ⟨a0, a1, a2, a3, a4⟩ := hG5.five
  obtain ⟨b0, b1, b2, b3, b4⟩ := hG6.five
  have hbW6 := bel_trans hb5 hb6
  refine ⟨W6, hW6, ⟨Blk.cell hO5 0, a0, a1, a2, a3, a4⟩, ⟨Blk.cell hO6 0, b0, b1, b2, b3, b4⟩, hG6.free, fun X hX => ?_⟩
  have hoth : ∀ b, b ≠ g8 → X.heap[b]? = W6.heap[b]? := fun b hb => by rw [hX, put5_other _ _ _ _ _ _ _ _ hb]
  have hBX : Below B W6 X := by rw [hX]; exact put5_below (Below.refl _ _) hBg _ _ _ _ _
  have hBW6 : Below B W W6 := hbW6.mono hBW
  refine ⟨fun B0 => (keepsF hbW6).trans ?_, ⟨hBW6.trans hBX, fun k cs hk => ?_⟩, ⟨⟨?_, (hoth _ (by omega)).trans hO6⟩, (hoth _ (by omega)).trans hR6⟩, hB.trans (hBW6.trans hBX)⟩
  · rw [hX]; unfold put5
    exact ((((((KeepsOthers.setCell _ _ _).trans (KeepsOthers.setCell _ _ _)).trans (KeepsOthers.setCell _ _ _)).trans (KeepsOthers.setCell _ _ _)).trans (KeepsOthers.setCell _ _ _)).from _)
  · have hkl := (Array.getElem?_eq_some_iff.1 hk).1
    refine (hoth k (fun e => ?_)).trans ((hbW6.block k hkl).trans hk)
    subst e
    rw [show W.heap[k]? = _ from hG] at hk
    injection hk with hk
    injection hk with e1 e2 e3
    exact absurd e2 (by decide)
  · refine jc_step (r := h0 + 1) (lo := B) hG5 he (by have := Blk.lt hR; have := hb5.size; omega) (Nat.le_trans hBW hb5.size) (ArCP.to (fun b hb => hb5.block b hb.2) (fun b hb => ⟨hb.1, Nat.lt_of_lt_of_le hb.2 hb5.size⟩) _ hA) (FrC.hd hF) (FrC.arP _ (fun b x y => ⟨⟨by omega, by have := Blk.lt hR; omega, by omega⟩, y⟩) hF) X ?_
    rw [hW6]; exact hX
end Go.Proofs.YtjjfbgadpgckeaaGreat.C
