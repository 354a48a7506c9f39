/-
  What is proved: the names of a claim's variables, functions and predicates, as package show gathers them.
-/
import Derived.Test.YtcigeclnbhcohaaGreatDoorZShNa
import Derived.Test.YtcigeclnbhcohaaGreatDoorZShVc
import Derived.Test.YtcigeclnbhcohaaGreatDoorL3
namespace Go.Proofs.YtcigeclnbhcohaaGreatDoor.Sh
open Go.RowKit Go.Shelf L T C Cs
set_option linter.unusedVariables false
set_option linter.unusedSimpArgs false
attribute [local go_sem] Oper.semAt_some

/-- a claim's own names -/
def nmsK (c : Cl) : List ByteArray := (if opC c = 3 then [nmC c] else []) ++ nmsP (alls (tsC c))
def nmsQ : List Cl → List ByteArray
  | [] => []
  | c :: l => nmsK c ++ nmsQ l
theorem nmsQ_app : ∀ l m : List Cl, nmsQ (l ++ m) = nmsQ l ++ nmsQ m
  | [], m => rfl
  | t :: l, m => by rw [List.cons_append, nmsQ, nmsQ, nmsQ_app l m, List.append_assoc]
theorem nmsK_len (c : Cl) : (nmsK c).length ≤ wt c := by
  unfold nmsK
  rw [List.length_append]
  have h1 := nmsP_len (alls (tsC c))
  rw [alls_len] at h1
  have h2 := C.wt_mk c
  split <;> simp <;> omega
/-- what rounds keep: all blocks but those of texts, and the box of the row -/
def Kn (bx : Nat) (W W' : World) : Prop := W.heap.size ≤ W'.heap.size ∧ ∀ (k : Nat) (o : Obj), W.heap[k]? = some o → (∀ cs fr, o ≠ .cells cs 9 fr) → k ≠ bx → W'.heap[k]? = some o
theorem Kn.refl (bx : Nat) (W : World) : Kn bx W W := ⟨Nat.le_refl _, fun _ _ h _ _ => h⟩
theorem Kn.trans {bx : Nat} {A B C : World} (h : Kn bx A B) (k : Kn bx B C) : Kn bx A C := ⟨Nat.le_trans h.1 k.1, fun i o h0 h1 h2 => k.2 i o (h.2 i o h0 h1 h2) h1 h2⟩
theorem Kn.of_below {bx : Nat} {W W' : World} (h : Below W.heap.size W W') : Kn bx W W' := ⟨h.size, fun k o h0 _ _ => (h.block k (Array.getElem?_eq_some_iff.1 h0).1).trans h0⟩
theorem Kn.keeps {bx : Nat} {W W' : World} {v : Value} (h : Kn bx W W') (hb : Blk W bx #[v] 48) (B0 : Nat) : KeepsFrom B0 W W' :=
  ⟨h.1, fun i ob hi1 hi2 hi3 => h.2 i ob hi2 (fun cs fr e => by subst e; cases hi3) (fun e => by subst e; rw [show W.heap[i]? = _ from hb] at hi2; injection hi2 with hi2; subst hi2; cases hi3)⟩
theorem Kn.keepC {bx : Nat} {W W' : World} {v : Value} (h : Kn bx W W') (hb : Blk W bx #[v] 48) : KeepC W W' := fun i cs hi1 hi2 =>
  h.2 i _ hi1 (fun cs' fr e => by injection e with e1 e2; exact absurd e2 (by decide)) (fun e => by subst e; rw [show W.heap[i]? = _ from hb] at hi1; injection hi1 with hi1; injection hi1 with e1 e2; exact absurd e2 (by decide))
/-- behind an append of a list of names, and the store of the row -/
theorem grown_name {W w1 w5 : World} {bx : Nat} {a : Option Addr} {c : Nat} {X : List ByteArray} (h1 : Blk W bx #[.slice a X.length c] 48) (h2 : OwnS W (bx + 1) (.slice a X.length c) X) (hb : Below W.heap.size W w1) {v : Value} {Y : List ByteArray} (ho : OwnS w5 (bx + 1) v Y) (hg : w1.grownBy w5 (Value.slice a X.length c).ownBlock) :
    Blk w5 bx #[.slice a X.length c] 48 ∧ NmB bx (w5.setCell ⟨bx, 0, none⟩ v) Y ∧ (∀ B, B ≤ bx → Below B W (w5.setCell ⟨bx, 0, none⟩ v)) ∧ Kn bx W (w5.setCell ⟨bx, 0, none⟩ v) := by
  have hlt := Blk.lt h1
  have hlo := ownS_lo h2
  obtain ⟨a', c', hv', -⟩ := ho.slS
  subst hv'
  have hB5 : Blk w5 bx #[.slice a X.length c] 48 := Blk.grown (Blk.below h1 hb) hg (fun e => by have := hlo bx e.symm; omega)
  refine ⟨hB5, ⟨a', c', blk_cell_set hB5 _, row_far ho (by omega) _ _⟩, fun B hB => ?_, ?_, fun k o hk hno hne => ?_⟩
  · exact below_set ((hb.mono (by omega)).grown hg (by have := hb.size; omega) (fun k hk => by have := hlo k hk; omega)) hB _ _
  · have h5 := hg.size; have h6 := hb.size; simp [World.setCell]; omega
  · rw [heap_setCell_other w5 ⟨bx, 0, none⟩ k _ hne]
    refine (hg.block k (by have h6 := hb.size; have := (Array.getElem?_eq_some_iff.1 hk).1; omega) (fun e => ?_)).trans ((hb.block k (Array.getElem?_eq_some_iff.1 hk).1).trans hk)
    rcases h2.2 with ⟨hv, _⟩ | ⟨g0, cap0, cur, hv, hb0, hg0, _⟩
    · rw [hv] at e; cases e
    · rw [hv] at e
      have : g0 = k := by simpa [Value.ownBlock] using e.symm
      subst this
      rw [hg0] at hk
      injection hk with hk
      exact hno _ _ hk.symm
theorem len_sizesB : ∀ l : List Tm, l.length ≤ sizes l
  | [] => Nat.le_refl _
  | t :: l => by rw [List.length_cons, sizes]; have := size_pos t; have := len_sizesB l; omega
theorem sizes_leB {t : Tm} : ∀ {l : List Tm}, t ∈ l → size t ≤ sizes l
  | [], h => by cases h
  | x :: l, h => by
    rw [sizes]
    rcases List.mem_cons.1 h with rfl | h
    · omega
    · have := sizes_leB h; omega
theorem sizes_takeB : ∀ (l : List Tm) (k : Nat), sizes (l.take k) ≤ sizes l
  | [], k => by simp
  | t :: l, 0 => by simp [sizes]
  | t :: l, k + 1 => by rw [List.take_succ_cons, sizes, sizes]; have := sizes_takeB l k; omega
theorem step_app_strs {ops : Array Oper} {o : Oper} {a : Act} {w : World} {K : Act → World → Prop} {Q : Exit → Act → World → Prop} {Z : Prop} (hg : o.guard = none) (s x : Operand)
    (ho : o.op = Op.call { callee := Callee.builtin Builtin.append, args := #[s, x], argTypes := #[48, 48] })
    (base : Nat) (v : Value) (Y : List ByteArray) (hs : a.eval s = v) (hown : OwnS w base v Y) (A : Option Addr) (m c : Nat) (X : List ByteArray) (hx : a.eval x = .slice A m c) (hX : SlS w A m c X) (hn : Y.length + m ≤ 1000000000) (hbase : base ≤ w.heap.size)
    (hK : ∀ v' w', OwnS w' base v' (Y ++ X) → w.grownBy w' v.ownBlock → K (a.put o.dst v') w') : if Region.wanted o (yielded ops a.tmps) = true then Oper.wp Tryz.prog o a w K Q else Z := by
  have hw : Region.wanted o (yielded ops a.tmps) = true := by simp [Region.wanted, hg]
  rw [if_pos hw]
  obtain ⟨i0, hi, hz0, hz1, hz2⟩ := info_parts strI
  have hm : m = X.length := hX.1.1
  have hl : Y.length + m ≤ maxLen := by unfold maxLen; omega
  cases A with
  | none =>
    have hc : c = 0 := hX.2.2 rfl
    have hm0 : m = 0 := by have := hX.2.1; omega
    have hX0 : X = [] := List.eq_nil_of_length_eq_zero (by omega)
    subst hX0 hc hm0
    have hrun := run_append_owned_none (P := Tryz.prog) (w := w) base 48 o.type 9 i0 1 Tryz.underlying48 hi v Y.length (vsS Y) hown
    unfold Oper.wp
    simp [execOp, ho, resolve, invoke, builtin, hs, hx, hrun, Result.andThen]
    exact hK v w (by rw [List.append_nil]; exact hown) ⟨rfl, rfl, rfl, Nat.le_refl _, fun _ _ _ => rfl⟩
  | some ad =>
    obtain ⟨v', w', hrun, h1, h2, _⟩ := run_append_own (P := Tryz.prog) w base 48 o.type 9 i0 _ 1 16 Tryz.underlying48 hi hz0 hz1 hz2 rfl (by decide) v Y.length (vsS Y) hown ad m c (vsS X) (by rw [vsS_len, hm, Nat.mul_one]) (news_at hX.1) (vsS_one X) hl (by omega) hbase
    unfold Oper.wp
    simp [execOp, ho, resolve, invoke, builtin, hs, hx, hrun, Result.andThen]
    refine hK v' w' ?_ h2
    unfold OwnS
    rw [List.length_append, vsS_app, ← hm]
    exact h1

set_option maxRecDepth 100000 in
set_option maxHeartbeats 16000000 in
theorem names_in (t : Cl) (ks : SS) (a : Option Addr) (m c : Nat) (w : World) (hA : ArWC w t ks a m c) (hsz : wt t ≤ 10000) :
    CallsIn Fence.wide 6 Tryz.prog 38 #[.agg #[.int .i64 (opC t), .string (nmC t), .string (soC t), .slice ks.a ks.n ks.c, .slice a m c]] w fun e w' => ∃ v, e = .returned v ∧ OwnS w' w.heap.size v (cmpS (srtS (nmsQ (allP yes t)))) ∧ Below w.heap.size w w' := by
  obtain ⟨W2, hW2, hB2, hs2, S2⟩ := cbox1 w (opC t) (nmC t) (soC t) ks a m c
  obtain ⟨W3, hW3⟩ : ∃ W3, W2.alloc (.cells #[.slice none 0 0] 48) = W3 := ⟨_, rfl⟩
  have hB3 : Below W2.heap.size W2 W3 := by rw [← hW3]; exact bel_alloc (Below.refl _ _) _
  have hs3 : W3.heap.size = w.heap.size + 2 := by rw [← hW3, World.size_alloc, hs2]
  have R3 : Blk W3 (w.heap.size + 1) #[.slice none 0 0] 48 := by rw [← hW3, ← hs2]; exact Blk.new W2 _ _
  have S3 := CBox.b S2 hB3
  obtain ⟨u0, u1, u2, u3, u4⟩ := S3.five
  obtain ⟨W5, hW5, hB5, hs5, I5, F5⟩ : ∃ W5, (W3.alloc (.cells #[.int .i64 (opC t), .string (nmC t), .string (soC t), .slice ks.a ks.n ks.c, .slice a m c] 33)).alloc (.cells #[.func (.func 71) #[] #[]] 97) = W5 ∧ Below W3.heap.size W3 W5 ∧ W5.heap.size = W3.heap.size + 2 ∧ CBox W5 W3.heap.size (opC t) (nmC t) (soC t) ks a m c ∧ Blk W5 (W3.heap.size + 1) #[.func (.func 71) #[] #[]] 97 := by
    obtain ⟨W4, h4, hb4, hs4, t4⟩ := cbox1 W3 (opC t) (nmC t) (soC t) ks a m c
    rw [h4]
    refine ⟨_, rfl, bel_alloc hb4 _, by simp [hs4], Blk.alloc t4 _, ?_⟩
    have := Blk.new W4 #[Value.func (.func 71) #[] #[]] 97
    rwa [hs4] at this
  have cAll := tallC_any (opC t) (nmC t) (soC t) ks a m c 0 W3
  rw [hW5, hs3, Nat.add_assoc] at cAll
  rw [hs3, Nat.add_assoc] at F5
  rw [hs3] at I5
  have B3 : Below w.heap.size w W3 := bel_trans hB2 hB3
  have B5 : Below w.heap.size w W5 := bel_trans B3 hB5
  have hst := allC_stops (fun x => wt x ≤ 10000) (fun x y h hy => by have h1 := wts_mem hy; have h2 := C.wt_mk x; omega) (5 : Nat) yes 0 w.heap.size (w.heap.size + 2) (w.heap.size + 3) w W5 t hsz ks a m c (ends_subs W5) hA B5 B5.size I5 F5
  have R5 : NmB (w.heap.size + 1) W5 (nmsQ (([] : List (PtC (fun x => wt x ≤ 10000) w.heap.size w)).map PtC.t)) := ⟨none, 0, Blk.below R3 hB5, OwnS.nil _ _⟩
  have hNN : (allP yes t).length ≤ 10000 := Nat.le_trans (allP_len yes t) hsz
  have HSZ := Lib.hid hNN
  clear hA S2 R3 S3 hW5 hs5 hsz
  refine callsIn_of_wp_marks Tryz.func38 rfl trivial ?_ rfl
  simp only [Tryz.ntmps38, List.size_toArray, List.length_cons, List.length_nil, Nat.reduceAdd, Nat.reduceSub, Array.replicate_succ, Array.replicate_zero, List.push_toArray, List.append_toArray, List.nil_append, List.cons_append]
  gi_wp2_with (refine ⟨trivial, ?_⟩; gi_at_call 70; refine (callsIn_wide.2 cAll).mono ?_; rintro e w' ⟨rfl, rfl⟩)
  refine wpIn_rangeFunc_ownH rfl (by decide) (gf := 99) (lb := #[.pointer (some ⟨w.heap.size + 2, 0, none⟩), .pointer (some ⟨w.heap.size + 3, 0, none⟩)]) rfl trivial (enters_of Tryz.func99 (by kernel_rfl) rfl)
    hst KpC.trans (KpC.obj B5.size) (Below.refl _ _) (fun _ => rfl)
    (fun pre W => (NmB (w.heap.size + 1) W (nmsQ (pre.map PtC.t)) ∧ ((nmsQ (pre.map PtC.t))).length ≤ 10000 * pre.length) ∧ Below w.heap.size w W)
    (fun cd pre W => False)
    (OwnFrom.and (OwnFrom.and (Own.from (nmB_own (w.heap.size + 1) (fun pre : List (PtC (fun x => wt x ≤ 10000) w.heap.size w) => (nmsQ (pre.map PtC.t)))) _) (ownFrom_pure _ _)) (ownFrom_below (Nat.le_refl _) B5.size))
    (fun cd _ _ _ _ hs _ _ => hs)
    ⟨⟨R5, by simp [nmsQ]⟩, B5⟩
    (fun x a2 W => ∃ Bx, CBox W Bx (opC x.t) (nmC x.t) (soC x.t) x.k x.a x.n x.c ∧ a2 = { tmps := #[.agg #[.int .i64 (opC t), .string (nmC t), .string (soC t), .slice ks.a ks.n ks.c, .slice a m c], .pointer (some ⟨w.heap.size, 0, none⟩), .slice none 0 0, .pointer (some ⟨w.heap.size + 1, 0, none⟩), .pointer (some ⟨Bx, 0, none⟩), undef, undef, .agg #[.int .i64 (opC t), .string (nmC t), .string (soC t), .slice ks.a ks.n ks.c, .slice a m c], .func (.func 99) #[] #[.pointer (some ⟨w.heap.size + 2, 0, none⟩), .pointer (some ⟨w.heap.size + 3, 0, none⟩)], .agg #[.int .i64 (opC x.t), .string (nmC x.t), .string (soC x.t), .slice x.k.a x.k.n x.k.c, .slice x.a x.n x.c], undef, undef, undef, undef, undef, undef, undef, undef, undef, undef, undef, undef, undef, undef, undef, undef, undef, undef, undef, undef, undef, undef, undef, undef], defers := [] })
    (fun x a2 _ X Y row hs hg hr => by obtain ⟨Bx, h2, h3⟩ := hs; exact ⟨Bx, own_blk Bx _ _ () X Y row h2 hg (fun r e => (hr r e).2), h3⟩)
    ?assign ?body ?done ?stop
  case assign =>
    rintro l pre x W K ⟨⟨hN, hq⟩, hB⟩ hK
    have hb : Below W.heap.size W (W.alloc (.cells #[.int .i64 (opC x.t), .string (nmC x.t), .string (soC x.t), .slice x.k.a x.k.n x.k.c, .slice x.a x.n x.c] 33)) := bel_alloc (Below.refl _ _) _
    unfold encC
    gi_wp2
    exact hK _ _ (keepsF hb) (KpC.of_below hB.size hb) ⟨⟨hN.b hb, hq⟩, hB.trans (hb.mono hB.size)⟩ ⟨W.heap.size, CBox.new W _ _ _ _ _ _ _, rfl⟩
  case body =>
    rintro l pre x a2 W hl hr ⟨⟨hN, hq⟩, hB⟩ ⟨Bx, hX, rfl⟩ hlt
    have hT : IsT w.heap.size w x.k.a x.k.n x.k.c (tsC x.t) := (ar_isC.1 x.ok).1
    have hfew : wt x.t ≤ 10000 := x.few
    have hsT : sizes (tsC x.t) ≤ 10000 := by have h2 := C.wt_mk x.t; omega
    have hlenN : (nmsQ (pre.map PtC.t)).length ≤ 99990000 := by
      have h2 : pre.length ≤ 9999 := by have := HSZ.out; omega
      have h3 : 10000 * pre.length ≤ 10000 * 9999 := Nat.mul_le_mul_left _ h2
      omega
    have hnew : nmsQ ((pre ++ [x]).map PtC.t) = (nmsQ (pre.map PtC.t)) ++ nmsK x.t := by rw [List.map_append, nmsQ_app, List.map_singleton, nmsQ, nmsQ, List.append_nil]
    have hkl := nmsK_len x.t
    obtain ⟨z0, z1, z2, z3, z4⟩ := hX.five
    -- where a round's row stands, ahead of the terms' own names
    have hN0 := hN
    obtain ⟨va0, vc0, hR0, -⟩ := hN0
    have HPost := Lib.hid (show ∀ W9, Kn (w.heap.size + 1) W W9 → NmB (w.heap.size + 1) W9 (((nmsQ (pre.map PtC.t)) ++ (if opC x.t = 3 then [nmC x.t] else [])) ++ nmsP (alls (tsC x.t))) → Below w.heap.size W W9 → ((∀ B0, KeepsFrom B0 W W9) ∧ KpC w.heap.size W W9 ∧ ((NmB (w.heap.size + 1) W9 (nmsQ ((pre ++ [x]).map PtC.t)) ∧ (nmsQ ((pre ++ [x]).map PtC.t)).length ≤ 10000 * (pre ++ [x]).length) ∧ Below w.heap.size w W9)) from fun W9 h1 h2 h3 => by
      refine ⟨h1.keeps hR0, ⟨h3, h1.keepC hR0⟩, ⟨?_, ?_⟩, hB.trans h3⟩
      · rw [hnew]; unfold nmsK; rw [← List.append_assoc]; exact h2
      · rw [hnew, List.length_append, List.length_append, List.length_singleton]; omega)
    have HT := Lib.hid hT
    have hTn : x.k.n = (tsC x.t).length := hT.1
    have hTc : x.k.n ≤ 1000000 := by rw [hTn]; have := len_sizesB (tsC x.t); omega
    have HTn := Lib.hid hTn
    have hTn63 : x.k.n ≤ 9223372036854775807 := by omega
    have HSz := Lib.hid (show ∀ k u, (tsC x.t)[k]? = some u → size u ≤ 10000 from fun k u h => by have h1 := sizes_leB (List.mem_of_getElem? h); omega)
    have HTk := Lib.hid (show ∀ k u, (tsC x.t)[k]? = some u → alls ((tsC x.t).take (k + 1)) = alls ((tsC x.t).take k) ++ all u from fun k u h => by rw [take_t h, alls_app]; simp [alls])
    have HLn := Lib.hid (show ∀ k, (nmsP (alls ((tsC x.t).take k))).length ≤ 10000 from fun k => by
      have h1 := nmsP_len (alls ((tsC x.t).take k))
      rw [alls_len] at h1
      have h2 := sizes_takeB (tsC x.t) k
      omega)
    have HAll := Lib.hid (show ∀ k, x.k.n ≤ k → alls ((tsC x.t).take k) = alls (tsC x.t) from fun k h => by rw [List.take_of_length_le (by omega)])
    have hlenY : ((nmsQ (pre.map PtC.t)) ++ (if opC x.t = 3 then [nmC x.t] else [])).length ≤ 99990001 := by rw [List.length_append]; split <;> simp <;> omega
    have HlY := Lib.hid hlenY
    clear hnew hkl hT hTn hsT hfew hlenY
    generalize tsC x.t = TS at *
    obtain ⟨xt, ⟨ka, kn, kc⟩, xa, xn, xc, xok, xfew⟩ := x
    dsimp only at *

    by_cases hop : opC xt = 3
    · generalize opC xt = op at *
      subst hop
      obtain ⟨va, vc, h1, h2⟩ := hN
      obtain ⟨va', vc', W4, hrun, hB4, hN4, hbel, hkeep⟩ := app_name h1 h2 (by omega) (nmC xt)
      obtain ⟨W1, hW1⟩ : ∃ W1, (W4.setCell ⟨w.heap.size + 1, 0, none⟩ (.slice va' ((nmsQ (pre.map PtC.t)).length + 1) vc')) = W1 := ⟨_, rfl⟩
      have r0 := Blk.cell h1 0
      have r4 := Blk.cell hB4 0
      have q4 := Blk.free hB4 0
      rw [hW1] at hN4 hbel hkeep
      have hK1 : Kn (w.heap.size + 1) W W1 := ⟨(hbel w.heap.size (by omega)).size, hkeep⟩
      have hB1 : Below w.heap.size W W1 := hbel w.heap.size (by omega)
      have HX1 := Lib.hid (hK1.keepC h1 _ _ hX rfl)
      have HN1 : Hid (NmB (w.heap.size + 1) W1 (((nmsQ (pre.map PtC.t)) ++ (if (3 : Int) = 3 then [nmC xt] else [])) ++ nmsP (alls (TS.take 0)))) := Lib.hid (by rw [if_pos rfl, List.take_zero, alls, nmsP, List.append_nil]; exact hN4)
      clear hN4 hbel hkeep h1 h2 hB4 hR0 hX
      generalize HYY : ((nmsQ (pre.map PtC.t)) ++ (if (3 : Int) = 3 then [nmC xt] else [])) = Y at *
      generalize (nmsQ (pre.map PtC.t)).length = NL at *
      clear HYY
      obtain ⟨c0, c1, c2, c3, c4⟩ := (show CBox W1 Bx 3 (nmC xt) (soC xt) ⟨ka, kn, kc⟩ xa xn xc from HX1.out).five
      dsimp only at c3
      gi_wp2_with (gi_at_builtin; refine step_app rfl (.tmp 13) (.tmp 16) 48 rfl _ _ _ rfl rfl hrun ?_; clear hrun)
      gi_loopw [21] (fun i wr0 => ∃ (wr : World) (k : Nat), wr = wr0 ∧ k ≤ kn ∧ i = .int .i64 k ∧ Hid (Kn (w.heap.size + 1) W wr ∧ Below w.heap.size W wr) ∧ Hid (NmB (w.heap.size + 1) wr (Y ++ nmsP (alls (TS.take k))))) (fun i _ => kn - (intOf i).toNat)
      case atStart => exact ⟨_, 0, rfl, by omega, rfl, Lib.hid ⟨hK1, hB1⟩, HN1⟩
      case round =>
        obtain ⟨wr, k, rfl, hk, rfl, hKB, hNr⟩ := hrel
        have hBwr : Below w.heap.size w wr := hB.trans hKB.out.2
        by_cases hlt9 : k < kn
        · obtain ⟨bb, o, u, A, M, Cc, rfl, hbb, y0, y1, y2, y3, hu, hAu⟩ := (HT.out.bel hBwr).at hlt9
          obtain ⟨W5, hW5, hB5, hs5, S5⟩ := box1 wr (opT u) (nameT u) (numT u) A M Cc
          have hBd : Below wr.heap.size wr W5.drew := hB5.drew
          have cN := termNames_any u A M Cc W5.drew (ArW.b (Ar.mono hBwr.size u hAu) hBd) (by have := HSz.out k u hu; omega)
          obtain ⟨va, vc, h1, h2⟩ := hNr.out
          have Hh1 := Lib.hid h1
          have Hh2 := Lib.hid h2
          have hlX : (Y ++ nmsP (alls (TS.take k))).length ≤ 99990001 + 10000 := by rw [List.length_append]; have := HLn.out k; have := HlY.out; omega
          have hlu : (nmsP (all u)).length ≤ 10000 := by have h1 := nmsP_len (all u); rw [all_len] at h1; have := HSz.out k u hu; omega
          have Hlu := Lib.hid hlu
          have Hnew := Lib.hid (show Y ++ nmsP (alls (TS.take (k + 1))) = (Y ++ nmsP (alls (TS.take k))) ++ nmsP (all u) from by rw [HTk.out k u hu, nmsP_app, List.append_assoc])
          have HQ := Lib.hid (show ∀ w', Below wr.heap.size wr w' → Blk w' (w.heap.size + 1) #[.slice va (Y ++ nmsP (alls (TS.take k))).length vc] 48 from fun w' h => Blk.below h1 h)
          have HS5 := Lib.hid S5
          have r5 := Blk.cell (HQ.out W5 hB5) 0
          have r5d := Blk.cell (HQ.out W5.drew hBd) 0
          have hlb : w.heap.size + 1 < wr.heap.size := Blk.lt h1
          have HD := Lib.hid hBd
          obtain ⟨f0, f1, f2, f3⟩ := S5.four
          have HC := Lib.hid (show ∀ w', Blk w' wr.heap.size #[.int .i64 (opT u), .string (nameT u), .int .i64 (numT u), .slice A M Cc] 24 → (w'.cell? ⟨wr.heap.size, 0, none⟩ = some (.int .i64 (opT u)) ∧ w'.cell? ⟨wr.heap.size, 1, none⟩ = some (.string (nameT u)) ∧ w'.cell? ⟨wr.heap.size, 2, none⟩ = some (.int .i64 (numT u)) ∧ w'.cell? ⟨wr.heap.size, 3, none⟩ = some (.slice A M Cc)) from fun w' h => (TBox.four h))
          have S5d : Hid (Blk W5.drew wr.heap.size #[.int .i64 (opT u), .string (nameT u), .int .i64 (numT u), .slice A M Cc] 24) := Lib.hid (TBox.b S5 (Below.refl _ _).drew)
          have hk0 : 0 ≤ (k : Int) := by omega
          have hk1 : (k : Int) < (kn : Int) := by omega
          have HF := Lib.hid (show ∀ w6 w7 v7, Below W5.drew.heap.size W5.drew w6 → OwnS w7 (w.heap.size + 1 + 1) v7 ((Y ++ nmsP (alls (TS.take k))) ++ nmsP (all u)) → w6.grownBy w7 (Value.slice va (Y ++ nmsP (alls (TS.take k))).length vc).ownBlock → (Blk w7 wr.heap.size #[.int .i64 (opT u), .string (nameT u), .int .i64 (numT u), .slice A M Cc] 24 ∧ Blk w7 (w.heap.size + 1) #[.slice va (Y ++ nmsP (alls (TS.take k))).length vc] 48 ∧ Blk (w7.setCell ⟨w.heap.size + 1, 0, none⟩ v7) wr.heap.size #[.int .i64 (opT u), .string (nameT u), .int .i64 (numT u), .slice A M Cc] 24 ∧ NmB (w.heap.size + 1) (w7.setCell ⟨w.heap.size + 1, 0, none⟩ v7) (Y ++ nmsP (alls (TS.take (k + 1)))) ∧ Kn (w.heap.size + 1) W (w7.setCell ⟨w.heap.size + 1, 0, none⟩ v7) ∧ Below w.heap.size W (w7.setCell ⟨w.heap.size + 1, 0, none⟩ v7)) from fun w6 w7 v7 hb6 ho7 hg7 => by
            have e1 := grown_name Hh1.out Hh2.out (bel_trans hBd hb6) ho7 hg7
            have hbx : Blk w7 wr.heap.size #[.int .i64 (opT u), .string (nameT u), .int .i64 (numT u), .slice A M Cc] 24 := Blk.grown (Blk.below S5d.out hb6) hg7 (fun e => by have := (World.ownsRow.lt Hh2.out _ e.symm).2; omega)
            refine ⟨hbx, e1.1, Blk.far hbx (by omega) _ _, by rw [Hnew.out]; exact e1.2.1, hKB.out.1.trans e1.2.2.2, hKB.out.2.trans (e1.2.2.1 _ (by omega))⟩)
          clear hu hAu HT HSz HTk HLn HAll hNr h1 h2 S5 hlu hs5
          generalize Y ++ nmsP (alls (TS.take k)) = XK at *
          gi_wp2
          refine wpIn_region_held (fun w' => w'.cell? ⟨wr.heap.size, 0, none⟩ = some (.int .i64 (opT u)) ∧ w'.cell? ⟨wr.heap.size, 1, none⟩ = some (.string (nameT u)) ∧ w'.cell? ⟨wr.heap.size, 2, none⟩ = some (.int .i64 (numT u)) ∧ w'.cell? ⟨wr.heap.size, 3, none⟩ = some (.slice A M Cc)) (by kernel_rfl) (by kernel_rfl) (fun ⟨_, _, h⟩ => h) (by exact HC.out _ S5d.out) (fun hHeld => ?_)
          refine wpAnyH_take (i := 1) (v := ?_) rfl (by kernel_rfl) (by kernel_rfl) (by kernel_rfl) (fun _ _ _ h => h) (Or.inl ⟨by rfl, ?hy⟩) (by assumption) ?_
          case hy => (intro w hSw; (try dsimp only at hSw); go_simp; try (with_reducible rfl))
          (try simp only [List.getElem_toArray, List.getElem_cons_succ, List.getElem_cons_zero, Act.put, List.setIfInBounds_toArray, List.set_cons_zero, List.set_cons_succ])
          refine wpAnyH_ready (rs := [0, 2]) (by kernel_rfl) (by simp) ?_
          refine AllReadyH.cons rfl (fun KK hKK => ?_) (AllReadyH.cons rfl (fun KK hKK => ?_) AllReadyH.nil)
          · go_simp
            refine hKK.out _ _ (by exact HC.out _ S5d.out) (fun hHeld => ?_)
            clear hKK KK
            (try simp only [List.getElem_toArray, List.getElem_cons_succ, List.getElem_cons_zero, Act.put, List.setIfInBounds_toArray, List.set_cons_zero, List.set_cons_succ])
            refine wpAnyH_ready (rs := [2]) (by kernel_rfl) (by simp) ?_
            refine AllReadyH.cons rfl (fun KK hKK => ?_) AllReadyH.nil
            go_simp
            (go_at_call 72; ((with_reducible refine cN.mono ?_); rintro e w6 ⟨v6, rfl, ho6, hb6⟩; clear cN; obtain ⟨A6, c6, rfl, hS6⟩ := ho6.slS; have HO6 := Lib.hid hS6; have HB6 := Lib.hid hb6; have r6 := Blk.cell (HQ.out w6 (bel_trans HD.out hb6)) 0; clear hS6 ho6))
            refine hKK.out _ _ (by exact HC.out _ (Blk.below S5d.out HB6.out)) (fun hHeld => ?_)
            clear hKK KK
            (try simp only [List.getElem_toArray, List.getElem_cons_succ, List.getElem_cons_zero, Act.put, List.setIfInBounds_toArray, List.set_cons_zero, List.set_cons_succ])
            refine wpAnyH_ready (rs := [3]) (by kernel_rfl) (by simp) ?_
            refine AllReadyH.cons rfl (fun KK hKK => ?_) AllReadyH.nil
            (refine step_app_strs rfl (.tmp 25) (.tmp 27) rfl (w.heap.size + 1 + 1) (.slice va XK.length vc) XK rfl (OwnS.below Hh2.out (bel_trans HD.out HB6.out)) A6 _ c6 (nmsP (all u)) rfl HO6.out (by have := Hlu.out; omega) (by have h1 := HD.out.size; have h2 := HB6.out.size; omega) ?_; intro v7 w7 ho7 hg7; obtain ⟨A7, c7, hv7, -⟩ := ho7.slS; obtain ⟨L7, hL7⟩ : ∃ L, (XK ++ nmsP (all u)).length = L := ⟨_, rfl⟩; rw [hL7] at hv7; subst hv7; clear hL7; have e7 := HF.out w6 w7 _ HB6.out ho7 hg7; have r7 := Blk.cell e7.2.1 0; have q7 := Blk.free e7.2.1 0; have E7 := Lib.hid e7; clear e7)
            refine hKK.out _ _ (by exact HC.out _ E7.out.1) (fun hHeld => ?_)
            clear hKK KK
            (try simp only [List.getElem_toArray, List.getElem_cons_succ, List.getElem_cons_zero, Act.put, List.setIfInBounds_toArray, List.set_cons_zero, List.set_cons_succ])
            refine wpAnyH_ready (rs := [4]) (by kernel_rfl) (by simp) ?_
            refine AllReadyH.cons rfl (fun KK hKK => ?_) AllReadyH.nil
            go_simp
            refine hKK.out _ _ (by exact HC.out _ E7.out.2.2.1) (fun hHeld => ?_)
            clear hKK KK
            (try simp only [List.getElem_toArray, List.getElem_cons_succ, List.getElem_cons_zero, Act.put, List.setIfInBounds_toArray, List.set_cons_zero, List.set_cons_succ])
            refine wpAnyH_done (by kernel_rfl) ?_ _
            refine NoPanic.normal ?_
            all_goals gi_wp2
            go_roundw
            case rel => exact ⟨_, k + 1, rfl, by omega, by go_num, Lib.hid ⟨E7.out.2.2.2.2.1, E7.out.2.2.2.2.2⟩, Lib.hid E7.out.2.2.2.1⟩
            case measure => simp [intOf]; omega
          · go_simp
            (go_at_call 72; ((with_reducible refine cN.mono ?_); rintro e w6 ⟨v6, rfl, ho6, hb6⟩; clear cN; obtain ⟨A6, c6, rfl, hS6⟩ := ho6.slS; have HO6 := Lib.hid hS6; have HB6 := Lib.hid hb6; have r6 := Blk.cell (HQ.out w6 (bel_trans HD.out hb6)) 0; clear hS6 ho6))
            refine hKK.out _ _ (by exact HC.out _ (Blk.below S5d.out HB6.out)) (fun hHeld => ?_)
            clear hKK KK
            (try simp only [List.getElem_toArray, List.getElem_cons_succ, List.getElem_cons_zero, Act.put, List.setIfInBounds_toArray, List.set_cons_zero, List.set_cons_succ])
            refine wpAnyH_ready (rs := [0]) (by kernel_rfl) (by simp) ?_
            refine AllReadyH.cons rfl (fun KK hKK => ?_) AllReadyH.nil
            go_simp
            refine hKK.out _ _ (by exact HC.out _ (Blk.below S5d.out HB6.out)) (fun hHeld => ?_)
            clear hKK KK
            (try simp only [List.getElem_toArray, List.getElem_cons_succ, List.getElem_cons_zero, Act.put, List.setIfInBounds_toArray, List.set_cons_zero, List.set_cons_succ])
            refine wpAnyH_ready (rs := [3]) (by kernel_rfl) (by simp) ?_
            refine AllReadyH.cons rfl (fun KK hKK => ?_) AllReadyH.nil
            (refine step_app_strs rfl (.tmp 25) (.tmp 27) rfl (w.heap.size + 1 + 1) (.slice va XK.length vc) XK rfl (OwnS.below Hh2.out (bel_trans HD.out HB6.out)) A6 _ c6 (nmsP (all u)) rfl HO6.out (by have := Hlu.out; omega) (by have h1 := HD.out.size; have h2 := HB6.out.size; omega) ?_; intro v7 w7 ho7 hg7; obtain ⟨A7, c7, hv7, -⟩ := ho7.slS; obtain ⟨L7, hL7⟩ : ∃ L, (XK ++ nmsP (all u)).length = L := ⟨_, rfl⟩; rw [hL7] at hv7; subst hv7; clear hL7; have e7 := HF.out w6 w7 _ HB6.out ho7 hg7; have r7 := Blk.cell e7.2.1 0; have q7 := Blk.free e7.2.1 0; have E7 := Lib.hid e7; clear e7)
            refine hKK.out _ _ (by exact HC.out _ E7.out.1) (fun hHeld => ?_)
            clear hKK KK
            (try simp only [List.getElem_toArray, List.getElem_cons_succ, List.getElem_cons_zero, Act.put, List.setIfInBounds_toArray, List.set_cons_zero, List.set_cons_succ])
            refine wpAnyH_ready (rs := [4]) (by kernel_rfl) (by simp) ?_
            refine AllReadyH.cons rfl (fun KK hKK => ?_) AllReadyH.nil
            go_simp
            refine hKK.out _ _ (by exact HC.out _ E7.out.2.2.1) (fun hHeld => ?_)
            clear hKK KK
            (try simp only [List.getElem_toArray, List.getElem_cons_succ, List.getElem_cons_zero, Act.put, List.setIfInBounds_toArray, List.set_cons_zero, List.set_cons_succ])
            refine wpAnyH_done (by kernel_rfl) ?_ _
            refine NoPanic.normal ?_
            all_goals gi_wp2
            go_roundw
            case rel => exact ⟨_, k + 1, rfl, by omega, by go_num, Lib.hid ⟨E7.out.2.2.2.2.1, E7.out.2.2.2.2.2⟩, Lib.hid E7.out.2.2.2.1⟩
            case measure => simp [intOf]; omega
        · obtain rfl : k = kn := by omega
          gi_wp2
          have hN9 := hNr.out
          rw [HAll.out k (Nat.le_refl _)] at hN9
          have := HPost.out wr hKB.out.1 hN9 hKB.out.2
          exact ⟨this.1 _, this.2⟩
    · have hK1 : Kn (w.heap.size + 1) W W := Kn.refl _ _
      have hB1 : Below w.heap.size W W := Below.refl _ _
      have o3 : (opC xt == 3) = false := beq_no' hop
      have HN1 : Hid (NmB (w.heap.size + 1) W (((nmsQ (pre.map PtC.t)) ++ (if opC xt = 3 then [nmC xt] else [])) ++ nmsP (alls (TS.take 0)))) := Lib.hid (by rw [if_neg hop, List.append_nil, List.take_zero, alls, nmsP, List.append_nil]; exact hN)
      clear hN hX hR0
      generalize HYY : ((nmsQ (pre.map PtC.t)) ++ (if opC xt = 3 then [nmC xt] else [])) = Y at *
      clear HYY hop
      gi_wp2
      gi_loopw [21] (fun i wr0 => ∃ (wr : World) (k : Nat), wr = wr0 ∧ k ≤ kn ∧ i = .int .i64 k ∧ Hid (Kn (w.heap.size + 1) W wr ∧ Below w.heap.size W wr) ∧ Hid (NmB (w.heap.size + 1) wr (Y ++ nmsP (alls (TS.take k))))) (fun i _ => kn - (intOf i).toNat)
      case atStart => exact ⟨_, 0, rfl, by omega, rfl, Lib.hid ⟨hK1, hB1⟩, HN1⟩
      case round =>
        obtain ⟨wr, k, rfl, hk, rfl, hKB, hNr⟩ := hrel
        have hBwr : Below w.heap.size w wr := hB.trans hKB.out.2
        by_cases hlt9 : k < kn
        · obtain ⟨bb, o, u, A, M, Cc, rfl, hbb, y0, y1, y2, y3, hu, hAu⟩ := (HT.out.bel hBwr).at hlt9
          obtain ⟨W5, hW5, hB5, hs5, S5⟩ := box1 wr (opT u) (nameT u) (numT u) A M Cc
          have hBd : Below wr.heap.size wr W5.drew := hB5.drew
          have cN := termNames_any u A M Cc W5.drew (ArW.b (Ar.mono hBwr.size u hAu) hBd) (by have := HSz.out k u hu; omega)
          obtain ⟨va, vc, h1, h2⟩ := hNr.out
          have Hh1 := Lib.hid h1
          have Hh2 := Lib.hid h2
          have hlX : (Y ++ nmsP (alls (TS.take k))).length ≤ 99990001 + 10000 := by rw [List.length_append]; have := HLn.out k; have := HlY.out; omega
          have hlu : (nmsP (all u)).length ≤ 10000 := by have h1 := nmsP_len (all u); rw [all_len] at h1; have := HSz.out k u hu; omega
          have Hlu := Lib.hid hlu
          have Hnew := Lib.hid (show Y ++ nmsP (alls (TS.take (k + 1))) = (Y ++ nmsP (alls (TS.take k))) ++ nmsP (all u) from by rw [HTk.out k u hu, nmsP_app, List.append_assoc])
          have HQ := Lib.hid (show ∀ w', Below wr.heap.size wr w' → Blk w' (w.heap.size + 1) #[.slice va (Y ++ nmsP (alls (TS.take k))).length vc] 48 from fun w' h => Blk.below h1 h)
          have HS5 := Lib.hid S5
          have r5 := Blk.cell (HQ.out W5 hB5) 0
          have r5d := Blk.cell (HQ.out W5.drew hBd) 0
          have hlb : w.heap.size + 1 < wr.heap.size := Blk.lt h1
          have HD := Lib.hid hBd
          obtain ⟨f0, f1, f2, f3⟩ := S5.four
          have HC := Lib.hid (show ∀ w', Blk w' wr.heap.size #[.int .i64 (opT u), .string (nameT u), .int .i64 (numT u), .slice A M Cc] 24 → (w'.cell? ⟨wr.heap.size, 0, none⟩ = some (.int .i64 (opT u)) ∧ w'.cell? ⟨wr.heap.size, 1, none⟩ = some (.string (nameT u)) ∧ w'.cell? ⟨wr.heap.size, 2, none⟩ = some (.int .i64 (numT u)) ∧ w'.cell? ⟨wr.heap.size, 3, none⟩ = some (.slice A M Cc)) from fun w' h => (TBox.four h))
          have S5d : Hid (Blk W5.drew wr.heap.size #[.int .i64 (opT u), .string (nameT u), .int .i64 (numT u), .slice A M Cc] 24) := Lib.hid (TBox.b S5 (Below.refl _ _).drew)
          have hk0 : 0 ≤ (k : Int) := by omega
          have hk1 : (k : Int) < (kn : Int) := by omega
          have HF := Lib.hid (show ∀ w6 w7 v7, Below W5.drew.heap.size W5.drew w6 → OwnS w7 (w.heap.size + 1 + 1) v7 ((Y ++ nmsP (alls (TS.take k))) ++ nmsP (all u)) → w6.grownBy w7 (Value.slice va (Y ++ nmsP (alls (TS.take k))).length vc).ownBlock → (Blk w7 wr.heap.size #[.int .i64 (opT u), .string (nameT u), .int .i64 (numT u), .slice A M Cc] 24 ∧ Blk w7 (w.heap.size + 1) #[.slice va (Y ++ nmsP (alls (TS.take k))).length vc] 48 ∧ Blk (w7.setCell ⟨w.heap.size + 1, 0, none⟩ v7) wr.heap.size #[.int .i64 (opT u), .string (nameT u), .int .i64 (numT u), .slice A M Cc] 24 ∧ NmB (w.heap.size + 1) (w7.setCell ⟨w.heap.size + 1, 0, none⟩ v7) (Y ++ nmsP (alls (TS.take (k + 1)))) ∧ Kn (w.heap.size + 1) W (w7.setCell ⟨w.heap.size + 1, 0, none⟩ v7) ∧ Below w.heap.size W (w7.setCell ⟨w.heap.size + 1, 0, none⟩ v7)) from fun w6 w7 v7 hb6 ho7 hg7 => by
            have e1 := grown_name Hh1.out Hh2.out (bel_trans hBd hb6) ho7 hg7
            have hbx : Blk w7 wr.heap.size #[.int .i64 (opT u), .string (nameT u), .int .i64 (numT u), .slice A M Cc] 24 := Blk.grown (Blk.below S5d.out hb6) hg7 (fun e => by have := (World.ownsRow.lt Hh2.out _ e.symm).2; omega)
            refine ⟨hbx, e1.1, Blk.far hbx (by omega) _ _, by rw [Hnew.out]; exact e1.2.1, hKB.out.1.trans e1.2.2.2, hKB.out.2.trans (e1.2.2.1 _ (by omega))⟩)
          clear hu hAu HT HSz HTk HLn HAll hNr h1 h2 S5 hlu hs5
          generalize Y ++ nmsP (alls (TS.take k)) = XK at *
          gi_wp2
          refine wpIn_region_held (fun w' => w'.cell? ⟨wr.heap.size, 0, none⟩ = some (.int .i64 (opT u)) ∧ w'.cell? ⟨wr.heap.size, 1, none⟩ = some (.string (nameT u)) ∧ w'.cell? ⟨wr.heap.size, 2, none⟩ = some (.int .i64 (numT u)) ∧ w'.cell? ⟨wr.heap.size, 3, none⟩ = some (.slice A M Cc)) (by kernel_rfl) (by kernel_rfl) (fun ⟨_, _, h⟩ => h) (by exact HC.out _ S5d.out) (fun hHeld => ?_)
          refine wpAnyH_take (i := 1) (v := ?_) rfl (by kernel_rfl) (by kernel_rfl) (by kernel_rfl) (fun _ _ _ h => h) (Or.inl ⟨by rfl, ?hy⟩) (by assumption) ?_
          case hy => (intro w hSw; (try dsimp only at hSw); go_simp; try (with_reducible rfl))
          (try simp only [List.getElem_toArray, List.getElem_cons_succ, List.getElem_cons_zero, Act.put, List.setIfInBounds_toArray, List.set_cons_zero, List.set_cons_succ])
          refine wpAnyH_ready (rs := [0, 2]) (by kernel_rfl) (by simp) ?_
          refine AllReadyH.cons rfl (fun KK hKK => ?_) (AllReadyH.cons rfl (fun KK hKK => ?_) AllReadyH.nil)
          · go_simp
            refine hKK.out _ _ (by exact HC.out _ S5d.out) (fun hHeld => ?_)
            clear hKK KK
            (try simp only [List.getElem_toArray, List.getElem_cons_succ, List.getElem_cons_zero, Act.put, List.setIfInBounds_toArray, List.set_cons_zero, List.set_cons_succ])
            refine wpAnyH_ready (rs := [2]) (by kernel_rfl) (by simp) ?_
            refine AllReadyH.cons rfl (fun KK hKK => ?_) AllReadyH.nil
            go_simp
            (go_at_call 72; ((with_reducible refine cN.mono ?_); rintro e w6 ⟨v6, rfl, ho6, hb6⟩; clear cN; obtain ⟨A6, c6, rfl, hS6⟩ := ho6.slS; have HO6 := Lib.hid hS6; have HB6 := Lib.hid hb6; have r6 := Blk.cell (HQ.out w6 (bel_trans HD.out hb6)) 0; clear hS6 ho6))
            refine hKK.out _ _ (by exact HC.out _ (Blk.below S5d.out HB6.out)) (fun hHeld => ?_)
            clear hKK KK
            (try simp only [List.getElem_toArray, List.getElem_cons_succ, List.getElem_cons_zero, Act.put, List.setIfInBounds_toArray, List.set_cons_zero, List.set_cons_succ])
            refine wpAnyH_ready (rs := [3]) (by kernel_rfl) (by simp) ?_
            refine AllReadyH.cons rfl (fun KK hKK => ?_) AllReadyH.nil
            (refine step_app_strs rfl (.tmp 25) (.tmp 27) rfl (w.heap.size + 1 + 1) (.slice va XK.length vc) XK rfl (OwnS.below Hh2.out (bel_trans HD.out HB6.out)) A6 _ c6 (nmsP (all u)) rfl HO6.out (by have := Hlu.out; omega) (by have h1 := HD.out.size; have h2 := HB6.out.size; omega) ?_; intro v7 w7 ho7 hg7; obtain ⟨A7, c7, hv7, -⟩ := ho7.slS; obtain ⟨L7, hL7⟩ : ∃ L, (XK ++ nmsP (all u)).length = L := ⟨_, rfl⟩; rw [hL7] at hv7; subst hv7; clear hL7; have e7 := HF.out w6 w7 _ HB6.out ho7 hg7; have r7 := Blk.cell e7.2.1 0; have q7 := Blk.free e7.2.1 0; have E7 := Lib.hid e7; clear e7)
            refine hKK.out _ _ (by exact HC.out _ E7.out.1) (fun hHeld => ?_)
            clear hKK KK
            (try simp only [List.getElem_toArray, List.getElem_cons_succ, List.getElem_cons_zero, Act.put, List.setIfInBounds_toArray, List.set_cons_zero, List.set_cons_succ])
            refine wpAnyH_ready (rs := [4]) (by kernel_rfl) (by simp) ?_
            refine AllReadyH.cons rfl (fun KK hKK => ?_) AllReadyH.nil
            go_simp
            refine hKK.out _ _ (by exact HC.out _ E7.out.2.2.1) (fun hHeld => ?_)
            clear hKK KK
            (try simp only [List.getElem_toArray, List.getElem_cons_succ, List.getElem_cons_zero, Act.put, List.setIfInBounds_toArray, List.set_cons_zero, List.set_cons_succ])
            refine wpAnyH_done (by kernel_rfl) ?_ _
            refine NoPanic.normal ?_
            all_goals gi_wp2
            go_roundw
            case rel => exact ⟨_, k + 1, rfl, by omega, by go_num, Lib.hid ⟨E7.out.2.2.2.2.1, E7.out.2.2.2.2.2⟩, Lib.hid E7.out.2.2.2.1⟩
            case measure => simp [intOf]; omega
          · go_simp
            (go_at_call 72; ((with_reducible refine cN.mono ?_); rintro e w6 ⟨v6, rfl, ho6, hb6⟩; clear cN; obtain ⟨A6, c6, rfl, hS6⟩ := ho6.slS; have HO6 := Lib.hid hS6; have HB6 := Lib.hid hb6; have r6 := Blk.cell (HQ.out w6 (bel_trans HD.out hb6)) 0; clear hS6 ho6))
            refine hKK.out _ _ (by exact HC.out _ (Blk.below S5d.out HB6.out)) (fun hHeld => ?_)
            clear hKK KK
            (try simp only [List.getElem_toArray, List.getElem_cons_succ, List.getElem_cons_zero, Act.put, List.setIfInBounds_toArray, List.set_cons_zero, List.set_cons_succ])
            refine wpAnyH_ready (rs := [0]) (by kernel_rfl) (by simp) ?_
            refine AllReadyH.cons rfl (fun KK hKK => ?_) AllReadyH.nil
            go_simp
            refine hKK.out _ _ (by exact HC.out _ (Blk.below S5d.out HB6.out)) (fun hHeld => ?_)
            clear hKK KK
            (try simp only [List.getElem_toArray, List.getElem_cons_succ, List.getElem_cons_zero, Act.put, List.setIfInBounds_toArray, List.set_cons_zero, List.set_cons_succ])
            refine wpAnyH_ready (rs := [3]) (by kernel_rfl) (by simp) ?_
            refine AllReadyH.cons rfl (fun KK hKK => ?_) AllReadyH.nil
            (refine step_app_strs rfl (.tmp 25) (.tmp 27) rfl (w.heap.size + 1 + 1) (.slice va XK.length vc) XK rfl (OwnS.below Hh2.out (bel_trans HD.out HB6.out)) A6 _ c6 (nmsP (all u)) rfl HO6.out (by have := Hlu.out; omega) (by have h1 := HD.out.size; have h2 := HB6.out.size; omega) ?_; intro v7 w7 ho7 hg7; obtain ⟨A7, c7, hv7, -⟩ := ho7.slS; obtain ⟨L7, hL7⟩ : ∃ L, (XK ++ nmsP (all u)).length = L := ⟨_, rfl⟩; rw [hL7] at hv7; subst hv7; clear hL7; have e7 := HF.out w6 w7 _ HB6.out ho7 hg7; have r7 := Blk.cell e7.2.1 0; have q7 := Blk.free e7.2.1 0; have E7 := Lib.hid e7; clear e7)
            refine hKK.out _ _ (by exact HC.out _ E7.out.1) (fun hHeld => ?_)
            clear hKK KK
            (try simp only [List.getElem_toArray, List.getElem_cons_succ, List.getElem_cons_zero, Act.put, List.setIfInBounds_toArray, List.set_cons_zero, List.set_cons_succ])
            refine wpAnyH_ready (rs := [4]) (by kernel_rfl) (by simp) ?_
            refine AllReadyH.cons rfl (fun KK hKK => ?_) AllReadyH.nil
            go_simp
            refine hKK.out _ _ (by exact HC.out _ E7.out.2.2.1) (fun hHeld => ?_)
            clear hKK KK
            (try simp only [List.getElem_toArray, List.getElem_cons_succ, List.getElem_cons_zero, Act.put, List.setIfInBounds_toArray, List.set_cons_zero, List.set_cons_succ])
            refine wpAnyH_done (by kernel_rfl) ?_ _
            refine NoPanic.normal ?_
            all_goals gi_wp2
            go_roundw
            case rel => exact ⟨_, k + 1, rfl, by omega, by go_num, Lib.hid ⟨E7.out.2.2.2.2.1, E7.out.2.2.2.2.2⟩, Lib.hid E7.out.2.2.2.1⟩
            case measure => simp [intOf]; omega
        · obtain rfl : k = kn := by omega
          gi_wp2
          have hN9 := hNr.out
          rw [HAll.out k (Nat.le_refl _)] at hN9
          have := HPost.out wr hKB.out.1 hN9 hKB.out.2
          exact ⟨this.1 _, this.2⟩
  case done =>
    rintro D zs W hD hS ⟨⟨hN, hq⟩, hB⟩ hK
    rw [hS] at hN hq
    have hzl : zs.length ≤ 10000 := by have := congrArg List.length hS; rw [List.length_map] at this; omega
    have hlen : (nmsQ (allP yes t)).length ≤ 1000000000 := by
      have h3 : 10000 * zs.length ≤ 10000 * 10000 := Nat.mul_le_mul_left _ hzl
      omega
    obtain ⟨va, vc, h1, h2⟩ := hN
    have r0 := Blk.cell h1 0
    have hlo := ownS_lo h2
    have hne : some (w.heap.size + 1) ≠ (Value.slice va (nmsQ (allP yes t)).length vc).ownBlock := fun e => by have := hlo _ e.symm; omega
    have cS := sortS_own h2 hlen
    have HC := Lib.hid (show ∀ W', OwnS W' (w.heap.size + 1 + 1) (.slice va (nmsQ (allP yes t)).length vc) (srtS (nmsQ (allP yes t))) → _ from fun W' h => compactS_own (X := srtS (nmsQ (allP yes t))) (by rw [srtS_len]; exact h) (by rw [srtS_len]; exact hlen))
    rw [srtS_len] at HC
    have hD1 : ∀ W' W'' : World, W'.grownBy W'' (Value.slice va (nmsQ (allP yes t)).length vc).ownBlock → W'.heap[D]? = some (.deferred (some [])) → OwnS W' (w.heap.size + 1 + 1) (.slice va (nmsQ (allP yes t)).length vc) (srtS (nmsQ (allP yes t))) ∨ OwnS W' (w.heap.size + 1 + 1) (.slice va (nmsQ (allP yes t)).length vc) (nmsQ (allP yes t)) → W''.heap[D]? = some (.deferred (some [])) := fun W' W'' hg hd ho => (hg.block D (Array.getElem?_eq_some_iff.1 hd).1 (fun e => by
      obtain ⟨cs, ty, fr, hc⟩ : ∃ cs ty fr, W'.heap[D]? = some (.cells cs ty fr) := by
        rcases ho with ho | ho
        · exact ownS_cells ho D e.symm
        · exact ownS_cells ho D e.symm
      rw [hd] at hc; cases hc)).trans hd
    have HD1 := Lib.hid hD1
    have HB1 := Lib.hid h1
    have HNe := Lib.hid hne
    have HO2 := Lib.hid h2
    have HK := Lib.hid hK
    have HBw := Lib.hid hB
    have HLo := Lib.hid hlo
    have HDl := Lib.hid (Nat.le_trans B5.size hD)
    clear hst hq hzl h1 h2 hne hD1 hlo hK hB
    generalize hZ : nmsQ (allP yes t) = Z at *
    have HZ := Lib.hid hZ
    clear hZ
    gi_wp2_with (first
      | (refine ⟨trivial, ?_⟩; gi_at_call 73; refine (callsIn_wide.2 cS).mono ?_; rintro e w6 ⟨rfl, ho6, hg6⟩; have HO6 := Lib.hid ho6; have r6 := Blk.cell (Blk.grown HB1.out hg6 HNe.out) 0; have HG6 := Lib.hid hg6; have cC := HC.out w6 HO6.out; clear ho6)
      | (refine ⟨trivial, ?_⟩; gi_at_call 74; refine (callsIn_wide.2 cC).mono ?_; rintro e w7 ⟨rfl, ho7, hg7⟩; have HO7 := Lib.hid ho7; have HG7 := Lib.hid hg7; clear ho7))
    have hK6 := HD1.out W w6 HG6.out HK.out (.inr HO2.out)
    have hK7 := HD1.out w6 w7 HG7.out hK6 (.inl HO6.out)
    have h6 : Below w.heap.size w w6 := HBw.out.grown HG6.out HBw.out.size (fun q hq => by have := HLo.out q hq; omega)
    have h7 : Below w.heap.size w w7 := h6.grown HG7.out h6.size (fun q hq => by have := HLo.out q hq; omega)
    have hbl := belowK_b (w := w) (Nat.le_refl _) w7 D _ (.deferred none) HDl.out hK7 rfl rfl
    have hrow := ownS_put HO7.out hK7 (.deferred none)
    have hrow2 := OwnS.base hrow (show w.heap.size ≤ w.heap.size + 1 + 1 by omega)
    refine ⟨by simp, .inl ⟨_, _, rfl, run_takeDeferred hK7, ?_⟩⟩
    exact ⟨_, results_tmp rfl _ _ _, .slice va (cmpS (srtS Z)).length vc, rfl, by rw [HZ.out]; exact hrow2, h7.trans hbl⟩
  case stop =>
    rintro D cd pre W hD hS h hK
    exact h.elim
theorem names_any (t : Cl) (ks : SS) (a : Option Addr) (m c : Nat) (w : World) (hA : ArWC w t ks a m c) (hsz : wt t ≤ 10000) :
    Calls Tryz.prog 38 #[.agg #[.int .i64 (opC t), .string (nmC t), .string (soC t), .slice ks.a ks.n ks.c, .slice a m c]] w fun e w' => ∃ v, e = .returned v ∧ OwnS w' w.heap.size v (cmpS (srtS (nmsQ (allP yes t)))) ∧ Below w.heap.size w w' :=
  callsIn_wide.1 (names_in t ks a m c w hA hsz)
end Go.Proofs.YtcigeclnbhcohaaGreatDoor.Sh
