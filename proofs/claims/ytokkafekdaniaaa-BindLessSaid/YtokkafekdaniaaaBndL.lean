/-
  What is proved: package bind's visit with the function literal of Loose: the loose numbers of a claim, as they come, are appended to the captured list.
-/
import Derived.Test.YtokkafekdaniaaaBndK
namespace Go.Proofs.Ytokkafekdaniaaa.B
open Go.RowKit L T C
set_option linter.unusedVariables false
set_option linter.unusedSimpArgs false

/-- the captured list's cell, and what it holds -/
def JL (g base : Nat) (ns : List Int) (W : World) : Prop := ∃ A n c, Blk W g #[.slice A n c] 60 ∧ OwnI W base (.slice A n c) ns ∧ g < base ∧ base ≤ W.heap.size
theorem JL.b {g base : Nat} {ns : List Int} {W W' : World} (h : JL g base ns W) (hb : Below W.heap.size W W') : JL g base ns W' := by
  obtain ⟨A, n, c, h1, h3, h4, h5⟩ := h
  exact ⟨A, n, c, Blk.below h1 hb, h3.b hb, h4, Nat.le_trans h5 hb.size⟩
/-- what is neither a list of numbers nor a variable of that type stays -/
def KpL (W W' : World) : Prop := ∀ (k : Nat) (cs : Array Value) (t : TypeId) (fr : Nat × Nat), W.heap[k]? = some (.cells cs t fr) → t ≠ 3 → t ≠ 60 → W'.heap[k]? = some (.cells cs t fr)
theorem KpL.refl (W : World) : KpL W W := fun _ _ _ _ h _ _ => h
theorem KpL.trans {A B C : World} (h : KpL A B) (k : KpL B C) : KpL A C := fun i cs t fr h0 h1 h2 => k i cs t fr (h i cs t fr h0 h1 h2) h1 h2
theorem KpL.of_below {W W' : World} (h : Below W.heap.size W W') : KpL W W' := fun k cs t fr h0 _ _ => (h.block k (Array.getElem?_eq_some_iff.1 h0).1).trans h0
theorem KpL.grown {W W' : World} {base : Nat} {v : Value} {X : List Int} (hg : W.grownBy W' v.ownBlock) (ho : OwnI W base v X) : KpL W W' := fun k cs t fr h0 h1 h2 => by
  refine (hg.block k (Array.getElem?_eq_some_iff.1 h0).1 (fun e => ?_)).trans h0
  rcases ho.2 with ⟨rfl, _⟩ | ⟨g, cap, cur, rfl, _, hh, _⟩
  · cases e
  · injection e with e
    subst e
    rw [h0] at hh
    injection hh with hh
    injection hh with hh hh2
    exact h1 hh2
theorem KpL.set {W : World} {g : Nat} {cs : Array Value} (h : Blk W g cs 60) (j : Nat) (v : Value) : KpL W (W.setCell ⟨g, j, none⟩ v) := fun k cs' t fr h0 h1 h2 => by
  refine (heap_setCell_other W ⟨g, j, none⟩ k _ (fun e => ?_)).trans h0
  have e : k = g := e
  subst e
  unfold Blk at h
  rw [h] at h0
  injection h0 with h0
  injection h0 with h0 h02
  exact h2 h02.symm
theorem cbox_kept {W W' : World} {g : Nat} {o : Int} {s z : ByteArray} {k : SS} {a : Option Addr} {n c : Nat} (h : CBox W g o s z k a n c) (hk : KpL W W') : CBox W' g o s z k a n c := hk g _ _ _ h (by decide) (by decide)
def ownL (k : Int) (t : Tm) : List Int := if opT t = 2 ∧ k ≤ numT t then [wrap64 (numT t - k)] else []
theorem lsT_own (k : Int) (t : Tm) : lsT k t = ownL k t ++ lsTs k (argsT t) := lsT_mk k t
set_option maxRecDepth 100000 in
set_option maxHeartbeats 4000000 in
theorem looseLit_any (g base B : Nat) (w0 : World) (hg : B ≤ g) (hBw : B ≤ w0.heap.size) (ns : List Int) (hl : ns.length + 1 ≤ 1000000000) (t : Tm) (a : Option Addr) (n c b o : Nat) (k : Int) (W : World) (hJ : JL g base ns W) (hB : Below B w0 W)
    (y0 : W.cell? ⟨b, o, none⟩ = some (.int .i64 (opT t))) (y1 : W.cell? ⟨b, o + 1, none⟩ = some (.string (nameT t))) (y2 : W.cell? ⟨b, o + 1 + 1, none⟩ = some (.int .i64 (numT t))) (y3 : W.cell? ⟨b, o + 1 + 1 + 1, none⟩ = some (.slice a n c)) :
    Calls Try.prog 116 #[.pointer (some ⟨b, o, none⟩), .int .i64 k, .pointer (some ⟨g, 0, none⟩)] W fun e W' => e = .returned (.bool true) ∧ JL g base (ns ++ ownL k t) W' ∧ Below B w0 W' ∧ KpL W W' := by
  have cl := loose_any (opT t) (nameT t) (numT t) a n c k W
  have HJ := Lib.hid hJ
  have HB := Lib.hid hB
  have hgb : g < base := by obtain ⟨_, _, _, _, _, h, _⟩ := hJ; exact h
  have hbs : base ≤ W.heap.size := by obtain ⟨_, _, _, _, _, _, h⟩ := hJ; exact h
  unfold ownL
  generalize opT t = op at *
  generalize nameT t = nm at *
  generalize numT t = nu at *
  clear hJ hB
  by_cases h1 : op = 2 ∧ k ≤ nu
  · have e1 : lsV op k nu = wrap64 (nu - k) := by unfold lsV; rw [if_pos h1]
    have e2 : isLs op k nu = true := by unfold isLs; simp [h1]
    rw [e1, e2] at cl
    rw [if_pos h1]
    clear e1 e2 h1
    generalize wrap64 (nu - k) = m at *
    go_enter Try.func116, Try.ntmps116
    go_wp2_with (first
      | (go_at_call 109; ((with_reducible refine cl.mono ?_); rintro e w2 ⟨rfl, hb2⟩; have hJ2 := HJ.out.b hb2; obtain ⟨A, N, C, k2, hown, -, hs2⟩ := hJ2; have u1 := Blk.cell k2 0; have u2 := Blk.free k2 0; obtain ⟨W3, hW3⟩ : ∃ W3, w2.alloc (.cells #[.int .i64 m] 3) = W3 := ⟨_, rfl⟩; have hB3 : Below w2.heap.size w2 W3 := (by rw [← hW3]; exact bel_alloc (Below.refl _ _) _); have z3 : W3.cell? ⟨w2.heap.size, 0, none⟩ = some (.int .i64 m) := (by rw [← hW3]; exact Blk.cell (Blk.new w2 #[.int .i64 m] 3) 0); have hown3 := OwnI.b hown hB3; have k3 := Blk.below k2 hB3; have K3 := Lib.hid ((KpL.of_below hb2).trans (KpL.of_below hB3)); have hs3 : base ≤ W3.heap.size := Nat.le_trans hs2 hB3.size; have B3 := Lib.hid ((HB.out.trans (hb2.mono (by have := HB.out.size; omega))).trans (hB3.mono (by have := hb2.size; omega))); clear hown))
      | (at_builtin; ((refine app_int rfl (.tmp 17) (.tmp 19) rfl base (.slice A N C) ns rfl hown3 w2.heap.size m rfl z3 hl hs3 ?_); intro v4 w4 ho4 hg4; obtain ⟨A4, C4, rfl, -⟩ := ho4.slice; have hob : ∀ q, (Value.slice A N C).ownBlock = some q → base ≤ q := fun q hq => (hown3.lt q hq).1; have gl3 : g < W3.heap.size := (by omega); have hne4 : some g ≠ (Value.slice A N C).ownBlock := (fun hq => by have := hob g hq.symm; omega); have k4 : Blk w4 g #[.slice A N C] 60 := (hg4.block g gl3 hne4).trans k3; have u14 := Blk.cell k4 0; have u24 := Blk.free k4 0; have K4 := Lib.hid (K3.out.trans (KpL.grown hg4 hown3)))))
    go_ret
    have ho5 : OwnI w4 base (.slice A4 (ns.length + 1) C4) (ns ++ [m]) := by rw [List.length_append] at ho4; exact ho4
    have k5 : Blk (w4.setCell ⟨g, 0, none⟩ (.slice A4 (ns.length + 1) C4)) g #[.slice A4 (ns.length + 1) C4] 60 := Blk.set k4 0 _
    exact ⟨rfl, ⟨A4, _, C4, k5, ho5.keep (fun q hq _ => heap_setCell_other w4 ⟨g, 0, none⟩ q _ (by show q ≠ g; omega)), hgb, by have := hg4.size; simp [World.setCell]; omega⟩, below_set (B3.out.grown hg4 (by have := B3.out.size; have := HB.out.size; omega) (fun q hq => by have := hob q hq; omega)) hg _ _, K4.out.trans (KpL.set k4 0 _)⟩
  · have e1 : lsV op k nu = 0 := by unfold lsV; rw [if_neg h1]
    have e2 : isLs op k nu = false := by unfold isLs; simp [h1]
    rw [e1, e2] at cl
    rw [if_neg h1, List.append_nil]
    clear e1 e2 h1
    go_enter Try.func116, Try.ntmps116
    go_wp2_with (go_at_call 109; ((with_reducible refine cl.mono ?_); rintro e w2 ⟨rfl, hb2⟩))
    go_ret
    exact ⟨rfl, HJ.out.b hb2, HB.out.trans (hb2.mono (by have := HB.out.size; omega)), KpL.of_below hb2⟩
theorem lsTs_step (k : Int) {l : List Tm} {i : Nat} {x : Tm} (h : l[i]? = some x) : lsTs k (l.take (i + 1)) = lsTs k (l.take i) ++ lsT k x := by
  rw [List.take_add_one, h, lsTs_app]; simp [lsTs]
theorem lsCs_step (k : Int) {l : List Cl} {i : Nat} {x : Cl} (h : l[i]? = some x) : lsCs k (l.take (i + 1)) = lsCs k (l.take i) ++ lsC k x := by
  rw [take_c h, lsCs_app]; simp [lsCs]
theorem sizes_take_le {l : List Tm} {i : Nat} {x : Tm} (h : l[i]? = some x) : sizes (l.take i) + size x ≤ sizes l := by
  have e := List.take_append_drop i l
  obtain ⟨hi, rfl⟩ := List.getElem?_eq_some_iff.1 h
  rw [List.drop_eq_getElem_cons hi] at e
  have : ∀ a b : List Tm, sizes (a ++ b) = sizes a + sizes b := fun a b => by
    induction a with
    | nil => simp [sizes]
    | cons t l ih => rw [List.cons_append, sizes, sizes, ih]; omega
  have h2 := congrArg sizes e
  rw [this, sizes] at h2
  omega
theorem lsCs_take_le (k : Int) {l : List Cl} {i : Nat} {x : Cl} (h : l[i]? = some x) : (lsCs k (l.take i)).length + wt x ≤ wts l := by
  have e := List.take_append_drop i l
  obtain ⟨hi, rfl⟩ := List.getElem?_eq_some_iff.1 h
  rw [List.drop_eq_getElem_cons hi] at e
  have : ∀ a b : List Cl, wts (a ++ b) = wts a + wts b := fun a b => by
    induction a with
    | nil => simp [wts]
    | cons t l ih => rw [List.cons_append, wts, wts, ih]; omega
  have h2 := congrArg wts e
  rw [this, wts] at h2
  have := lsCs_len (l.take i) k
  omega
/-- the walk over a list of terms -/
def RvOk (g base B : Nat) (w0 : World) (l : List Tm) : Prop := ∀ (a : Option Addr) (n c : Nat) (k : Int) (ns : List Int) (W : World), IsT B w0 a n c l → Below B w0 W → JL g base ns W → ns.length + sizes l ≤ 1000000 →
  Calls Try.prog 174 #[.slice a n c, .int .i64 k, .func (.func 116) #[] #[.pointer (some ⟨g, 0, none⟩)]] W fun e W' => e = .returned (.tuple #[]) ∧ JL g base (ns ++ lsTs k l) W' ∧ Below B w0 W' ∧ KpL W W'
set_option maxRecDepth 100000 in
set_option maxHeartbeats 4000000 in
theorem rv_step (g base B : Nat) (w0 : World) (hg : B ≤ g) (hBw : B ≤ w0.heap.size) (l : List Tm) (hok : ∀ x ∈ l, RvOk g base B w0 (argsT x)) : RvOk g base B w0 l := by
  intro a n c k ns W hT hB hJ hl
  have hn : n ≤ 9223372036854775807 := by have h1 := hT.2.1; have h2 := hT.2.2.1; unfold maxLen at h2; omega
  have HT := Lib.hid hT
  have HB := Lib.hid hB
  have HK := Lib.hid (show ∀ i x, l[i]? = some x → RvOk g base B w0 (argsT x) from fun i x h => hok x (List.mem_of_getElem? h))
  have HJ0 := Lib.hid (show JL g base (ns ++ lsTs k (l.take 0)) W by rw [List.take_zero, lsTs, List.append_nil]; exact hJ)
  have HW := Lib.hid hl
  have HKW := Lib.hid (KpL.refl W)
  clear hT hB hJ hok hl
  go_enter Try.func174, Try.ntmps174
  go_wp2
  go_loopw [9] (fun i wr0 => ∃ (wr : World) (j : Nat), wr = wr0 ∧ j ≤ n ∧ i = .int .i64 j ∧ Hid (JL g base (ns ++ lsTs k (l.take j)) wr) ∧ Hid (Below B w0 wr) ∧ Hid (KpL W wr)) (fun i _ => n - (intOf i).toNat)
  case atStart => exact ⟨_, 0, rfl, by omega, rfl, HJ0, HB, HKW⟩
  case round =>
    obtain ⟨wr, i, rfl, hi0, rfl, hR, hBr, hKr⟩ := hrel
    by_cases hlt : i < n
    · obtain ⟨bb, o, x, A, M, Cc, rfl, hbb, z0, z1, z2, z3, hx, hax⟩ := HT.out.at hlt
      have y0 := (hBr.out.cell (p := ⟨bb, _, none⟩) hbb).trans z0
      have y1 := (hBr.out.cell (p := ⟨bb, _, none⟩) hbb).trans z1
      have y2 := (hBr.out.cell (p := ⟨bb, _, none⟩) hbb).trans z2
      have y3 := (hBr.out.cell (p := ⟨bb, _, none⟩) hbb).trans z3
      have hsz := sizes_take_le hx
      have hl1 := lsTs_len k (l.take i)
      have hsx : size x = 1 + sizes (argsT x) := by cases x; rw [size]; rfl
      have hq : (ns ++ lsTs k (l.take i)).length + 1 + sizes (argsT x) ≤ 1000000 := by rw [List.length_append]; have := HW.out; omega
      have hown1 : (ownL k x).length ≤ 1 := by unfold ownL; split <;> simp
      have cF := looseLit_any g base B w0 hg hBw (ns ++ lsTs k (l.take i)) (by omega) x A M Cc bb (o + i * 4) k wr hR.out hBr.out y0 y1 y2 y3
      have cV := fun (W3 : World) (h1 : JL g base (ns ++ lsTs k (l.take i) ++ ownL k x) W3) (h2 : Below B w0 W3) => HK.out i x hx A M Cc k (ns ++ lsTs k (l.take i) ++ ownL k x) W3 (ar_isT.1 hax) h2 h1 (by rw [List.length_append]; omega)
      have Hst := Lib.hid (show ns ++ lsTs k (l.take (i + 1)) = ns ++ lsTs k (l.take i) ++ ownL k x ++ lsTs k (argsT x) by rw [lsTs_step k hx, lsT_own]; simp only [List.append_assoc])
      have Z3 := Lib.hid z3
      clear z0 z1 z2 z3 hax hR HK hx HT hsz hl1 hsx hq hown1
      have hj0 : 0 ≤ (i : Int) := by omega
      have hj1 : (i : Int) < (n : Int) := by omega
      go_wp2_with (first
        | (go_at_call 116; ((with_reducible refine cF.mono ?_); rintro e w3 ⟨rfl, hj3, hb3, hk3⟩; have cV3 := cV w3 hj3 hb3; have u3 := (hb3.cell (p := ⟨bb, _, none⟩) hbb).trans Z3.out; clear hj3 hb3))
        | (go_at_call 174; ((with_reducible refine cV3.mono ?_); rintro e w5 ⟨rfl, hj5, hb5, hk5⟩; have HJ5 := Lib.hid hj5; have HB5 := Lib.hid hb5; have HK5 := Lib.hid (hKr.out.trans (hk3.trans hk5)); clear hj5 hb5 hk5)))
      go_roundw
      case rel => exact ⟨_, i + 1, rfl, by omega, by go_num, Lib.hid (by rw [Hst.out]; exact HJ5.out), HB5, HK5⟩
      case measure => simp [intOf]; omega
    · obtain rfl : i = n := by omega
      have Hfin : Hid (JL g base (ns ++ lsTs k l) wr ∧ Below B w0 wr ∧ KpL W wr) := Lib.hid ⟨by have := hR.out; rw [List.take_of_length_le (by have := HT.out.1; omega)] at this; exact this, hBr.out, hKr.out⟩
      clear hR hBr hKr
      go_wp2
      simp [bodyPost, results, Try.results174, go_sem]
      exact Hfin.out
theorem rv_any (g base B : Nat) (w0 : World) (hg : B ≤ g) (hBw : B ≤ w0.heap.size) (l : List Tm) : RvOk g base B w0 l :=
  rv_step g base B w0 hg hBw l fun x _ => Tm.ind (P := fun x => RvOk g base B w0 (argsT x)) (fun x h => rv_step g base B w0 hg hBw (argsT x) h) x
/-- the walk over a claim -/
def RvcOk (g base B : Nat) (w0 : World) (t : Cl) : Prop := ∀ (kk : SS) (a : Option Addr) (n c : Nat) (k : Int) (ns : List Int) (W : World), ArC B w0 t kk a n c → Below B w0 W → JL g base ns W → ns.length + wt t ≤ 1000000 → 0 ≤ k → k + wt t ≤ 1000000 →
  Calls Try.prog 115 #[.agg #[.int .i64 (opC t), .string (nmC t), .string (soC t), .slice kk.a kk.n kk.c, .slice a n c], .int .i64 k, .func (.func 116) #[] #[.pointer (some ⟨g, 0, none⟩)]] W fun e W' => e = .returned (.tuple #[]) ∧ JL g base (ns ++ lsC k t) W' ∧ Below B w0 W' ∧ KpL W W'
set_option maxRecDepth 100000 in
set_option maxHeartbeats 8000000 in
theorem rvc_step (g base B : Nat) (w0 : World) (hg : B ≤ g) (hBw : B ≤ w0.heap.size) (t : Cl) (hok : ∀ x ∈ subC t, RvcOk g base B w0 x) : RvcOk g base B w0 t := by
  intro kk a n c k ns W0 hA hB hJ hl hk0 hkK
  obtain ⟨W, hW, hB1, hs1, S⟩ := cbox1 W0 (opC t) (nmC t) (soC t) kk a n c
  have hwt := wt_mk t
  obtain ⟨hTs, hCs⟩ := ar_isC.1 hA
  have hBW : Below B w0 W := hB.trans (hB1.mono (by have := hB.size; omega))
  have hn : n ≤ 9223372036854775807 := by have h1 := hCs.2.1; have h2 := hCs.2.2.1; unfold maxLen at h2; omega
  obtain ⟨ka1, ka2⟩ := kin_le (opC t) k
  have cT := rv_any g base B w0 hg hBw (tsC t) kk.a kk.n kk.c k ns W hTs hBW (hJ.b hB1) (by omega)
  have HK := Lib.hid (show ∀ i x, (subC t)[i]? = some x → RvcOk g base B w0 x ∧ kin (opC t) k + wt x ≤ 1000000 ∧ ns.length + sizes (tsC t) + wts (subC t) ≤ 1000000 from fun i x hx => ⟨hok x (List.mem_of_getElem? hx), by have := wts_mem (List.mem_of_getElem? hx); omega, by omega⟩)
  have HS := Lib.hid S
  have HC := Lib.hid hCs
  have HW := Lib.hid (show ns.length + sizes (tsC t) + wts (subC t) ≤ 1000000 by omega)
  have HWk := Lib.hid hwt
  have Hk0 := Lib.hid (show 0 ≤ kin (opC t) k by omega)
  have HB0 := Lib.hid hBw
  have HKW := Lib.hid (KpL.of_below hB1)
  have hwrap : IntKind.i64.wrap (k + 1) = k + 1 := by rw [IntKind.wrap_i64]; omega
  obtain ⟨s0, s1, s2, s3, s4⟩ := S.five
  rw [lsC_mk]
  clear hA hok S hTs hCs hB hJ hl hwt hk0 hkK hBW ka1 ka2 hs1
  generalize hk2e : kin (opC t) k = k2 at *
  have Hk2 := Lib.hid hk2e
  clear hk2e
  generalize tsC t = lt at *
  generalize subC t = l at *
  generalize opC t = op at *
  generalize nmC t = nm at *
  generalize soC t = so at *
  obtain ⟨ka, kn, kc⟩ := kk
  dsimp only at *
  by_cases h1 : op = 11
  · subst h1
    obtain rfl : k2 = k + 1 := by have := Hk2.out; unfold kin at this; simp at this; exact this.symm
    go_enter Try.func115, Try.ntmps115
    go_wp2_with (go_at_call 174; ((with_reducible refine cT.mono ?_); rintro e w2 ⟨rfl, hj2, hb2, hk2⟩; have HJ2 := Lib.hid hj2; have HB2 := Lib.hid hb2; have HK2 := Lib.hid (HKW.out.trans hk2); have S2 : CBox w2 W0.heap.size 11 nm so ⟨ka, kn, kc⟩ a n c := cbox_kept HS.out hk2; obtain ⟨e0, e1, e2, e3, e4⟩ := S2.five; clear hj2 hb2 hk2 S2))
    have HJ0 := Lib.hid (show JL g base (ns ++ lsTs k lt ++ lsCs (k + 1) (l.take 0)) w2 by rw [List.take_zero, lsCs, List.append_nil]; exact HJ2.out)
    go_loopw [26] (fun i wr0 => ∃ (wr : World) (j : Nat), wr = wr0 ∧ j ≤ n ∧ i = .int .i64 j ∧ Hid (JL g base (ns ++ lsTs k lt ++ lsCs (k + 1) (l.take j)) wr) ∧ Hid (Below B w0 wr) ∧ Hid (KpL W0 wr)) (fun i _ => n - (intOf i).toNat)
    case atStart => exact ⟨_, 0, rfl, by omega, rfl, HJ0, HB2, HK2⟩
    case round =>
      obtain ⟨wr, i, rfl, hi0, rfl, hR, hBr, hKr⟩ := hrel
      by_cases hlt : i < n
      · obtain ⟨bb, o, x, kk, A, M, Cc, rfl, hbb, z0, z1, z2, z3, z4, hx, hax⟩ := HC.out.at hlt
        have y0 := (hBr.out.cell (p := ⟨bb, _, none⟩) hbb).trans z0
        have y1 := (hBr.out.cell (p := ⟨bb, _, none⟩) hbb).trans z1
        have y2 := (hBr.out.cell (p := ⟨bb, _, none⟩) hbb).trans z2
        have y3 := (hBr.out.cell (p := ⟨bb, _, none⟩) hbb).trans z3
        have y4 := (hBr.out.cell (p := ⟨bb, _, none⟩) hbb).trans z4
        obtain ⟨W4, hW4, hB4, hs4, S4⟩ := cbox1 wr (opC x) (nmC x) (soC x) kk A M Cc
        obtain ⟨f0, f1, f2, f3, f4⟩ := S4.five
        obtain ⟨cK, hkx, hlen⟩ := HK.out i x hx
        have hle := lsCs_take_le (k + 1) hx
        have cV := cK kk A M Cc (k + 1) (ns ++ lsTs k lt ++ lsCs (k + 1) (l.take i)) W4 hax (hBr.out.trans (hB4.mono (by have := hBr.out.size; have := HB0.out; omega))) (hR.out.b hB4) (by have h1 := lsTs_len k lt; rw [List.length_append, List.length_append]; have := HW.out; omega) Hk0.out (by have := hkx; have := HWk.out; omega)
        have Hst := Lib.hid (lsCs_step (k + 1) hx)
        clear z0 z1 z2 z3 z4 hax hR cK hkx HK hlen hle S4 hx HC
        generalize opC x = op' at *
        generalize nmC x = nm' at *
        generalize soC x = so' at *
        obtain ⟨ka', kn', kc'⟩ := kk
        dsimp only at *
        have hj0 : 0 ≤ (i : Int) := by omega
        have hj1 : (i : Int) < (n : Int) := by omega
        go_wp2_with (go_at_call 115; ((with_reducible refine cV.mono ?_); rintro e w5 ⟨rfl, hj5, hb5, hk5⟩; have HJ5 := Lib.hid hj5; have HB5 := Lib.hid hb5; have HK5 := Lib.hid (hKr.out.trans ((KpL.of_below hB4).trans hk5)); clear hj5 hb5 hk5))
        go_roundw
        case rel => exact ⟨_, i + 1, rfl, by omega, by go_num, Lib.hid (by rw [Hst.out, ← List.append_assoc]; exact HJ5.out), HB5, HK5⟩
        case measure => simp [intOf]; omega
      · obtain rfl : i = n := by omega
        have Hfin : Hid (JL g base (ns ++ (lsTs k lt ++ lsCs (k + 1) l)) wr ∧ Below B w0 wr ∧ KpL W0 wr) := Lib.hid ⟨by have := hR.out; rw [List.take_of_length_le (by have := HC.out.1; omega)] at this; rw [← List.append_assoc]; exact this, hBr.out, hKr.out⟩
        clear hR hBr hKr
        go_wp2
        simp [bodyPost, results, Try.results115, go_sem]
        exact Hfin.out
  · by_cases h2 : op = 12
    · subst h2
      obtain rfl : k2 = k + 1 := by have := Hk2.out; unfold kin at this; simp at this; exact this.symm
      go_enter Try.func115, Try.ntmps115
      go_wp2_with (go_at_call 174; ((with_reducible refine cT.mono ?_); rintro e w2 ⟨rfl, hj2, hb2, hk2⟩; have HJ2 := Lib.hid hj2; have HB2 := Lib.hid hb2; have HK2 := Lib.hid (HKW.out.trans hk2); have S2 : CBox w2 W0.heap.size 12 nm so ⟨ka, kn, kc⟩ a n c := cbox_kept HS.out hk2; obtain ⟨e0, e1, e2, e3, e4⟩ := S2.five; clear hj2 hb2 hk2 S2))
      have HJ0 := Lib.hid (show JL g base (ns ++ lsTs k lt ++ lsCs (k + 1) (l.take 0)) w2 by rw [List.take_zero, lsCs, List.append_nil]; exact HJ2.out)
      go_loopw [26] (fun i wr0 => ∃ (wr : World) (j : Nat), wr = wr0 ∧ j ≤ n ∧ i = .int .i64 j ∧ Hid (JL g base (ns ++ lsTs k lt ++ lsCs (k + 1) (l.take j)) wr) ∧ Hid (Below B w0 wr) ∧ Hid (KpL W0 wr)) (fun i _ => n - (intOf i).toNat)
      case atStart => exact ⟨_, 0, rfl, by omega, rfl, HJ0, HB2, HK2⟩
      case round =>
        obtain ⟨wr, i, rfl, hi0, rfl, hR, hBr, hKr⟩ := hrel
        by_cases hlt : i < n
        · obtain ⟨bb, o, x, kk, A, M, Cc, rfl, hbb, z0, z1, z2, z3, z4, hx, hax⟩ := HC.out.at hlt
          have y0 := (hBr.out.cell (p := ⟨bb, _, none⟩) hbb).trans z0
          have y1 := (hBr.out.cell (p := ⟨bb, _, none⟩) hbb).trans z1
          have y2 := (hBr.out.cell (p := ⟨bb, _, none⟩) hbb).trans z2
          have y3 := (hBr.out.cell (p := ⟨bb, _, none⟩) hbb).trans z3
          have y4 := (hBr.out.cell (p := ⟨bb, _, none⟩) hbb).trans z4
          obtain ⟨W4, hW4, hB4, hs4, S4⟩ := cbox1 wr (opC x) (nmC x) (soC x) kk A M Cc
          obtain ⟨f0, f1, f2, f3, f4⟩ := S4.five
          obtain ⟨cK, hkx, hlen⟩ := HK.out i x hx
          have hle := lsCs_take_le (k + 1) hx
          have cV := cK kk A M Cc (k + 1) (ns ++ lsTs k lt ++ lsCs (k + 1) (l.take i)) W4 hax (hBr.out.trans (hB4.mono (by have := hBr.out.size; have := HB0.out; omega))) (hR.out.b hB4) (by have h1 := lsTs_len k lt; rw [List.length_append, List.length_append]; have := HW.out; omega) Hk0.out (by have := hkx; have := HWk.out; omega)
          have Hst := Lib.hid (lsCs_step (k + 1) hx)
          clear z0 z1 z2 z3 z4 hax hR cK hkx HK hlen hle S4 hx HC
          generalize opC x = op' at *
          generalize nmC x = nm' at *
          generalize soC x = so' at *
          obtain ⟨ka', kn', kc'⟩ := kk
          dsimp only at *
          have hj0 : 0 ≤ (i : Int) := by omega
          have hj1 : (i : Int) < (n : Int) := by omega
          go_wp2_with (go_at_call 115; ((with_reducible refine cV.mono ?_); rintro e w5 ⟨rfl, hj5, hb5, hk5⟩; have HJ5 := Lib.hid hj5; have HB5 := Lib.hid hb5; have HK5 := Lib.hid (hKr.out.trans ((KpL.of_below hB4).trans hk5)); clear hj5 hb5 hk5))
          go_roundw
          case rel => exact ⟨_, i + 1, rfl, by omega, by go_num, Lib.hid (by rw [Hst.out, ← List.append_assoc]; exact HJ5.out), HB5, HK5⟩
          case measure => simp [intOf]; omega
        · obtain rfl : i = n := by omega
          have Hfin : Hid (JL g base (ns ++ (lsTs k lt ++ lsCs (k + 1) l)) wr ∧ Below B w0 wr ∧ KpL W0 wr) := Lib.hid ⟨by have := hR.out; rw [List.take_of_length_le (by have := HC.out.1; omega)] at this; rw [← List.append_assoc]; exact this, hBr.out, hKr.out⟩
          clear hR hBr hKr
          go_wp2
          simp [bodyPost, results, Try.results115, go_sem]
          exact Hfin.out
    · obtain rfl : k2 = k := by have := Hk2.out; unfold kin at this; rw [if_neg (by omega)] at this; exact this.symm
      have o1 : (op == 11) = false := by simp [h1]
      have o2 : (op == 12) = false := by simp [h2]
      clear h1 h2
      go_enter Try.func115, Try.ntmps115
      go_wp2_with (go_at_call 174; ((with_reducible refine cT.mono ?_); rintro e w2 ⟨rfl, hj2, hb2, hk2⟩; have HJ2 := Lib.hid hj2; have HB2 := Lib.hid hb2; have HK2 := Lib.hid (HKW.out.trans hk2); have S2 : CBox w2 W0.heap.size op nm so ⟨ka, kn, kc⟩ a n c := cbox_kept HS.out hk2; obtain ⟨e0, e1, e2, e3, e4⟩ := S2.five; clear hj2 hb2 hk2 S2))
      have HJ0 := Lib.hid (show JL g base (ns ++ lsTs k2 lt ++ lsCs k2 (l.take 0)) w2 by rw [List.take_zero, lsCs, List.append_nil]; exact HJ2.out)
      go_loopw [26] (fun i wr0 => ∃ (wr : World) (j : Nat), wr = wr0 ∧ j ≤ n ∧ i = .int .i64 j ∧ Hid (JL g base (ns ++ lsTs k2 lt ++ lsCs k2 (l.take j)) wr) ∧ Hid (Below B w0 wr) ∧ Hid (KpL W0 wr)) (fun i _ => n - (intOf i).toNat)
      case atStart => exact ⟨_, 0, rfl, by omega, rfl, HJ0, HB2, HK2⟩
      case round =>
        obtain ⟨wr, i, rfl, hi0, rfl, hR, hBr, hKr⟩ := hrel
        by_cases hlt : i < n
        · obtain ⟨bb, o, x, kk, A, M, Cc, rfl, hbb, z0, z1, z2, z3, z4, hx, hax⟩ := HC.out.at hlt
          have y0 := (hBr.out.cell (p := ⟨bb, _, none⟩) hbb).trans z0
          have y1 := (hBr.out.cell (p := ⟨bb, _, none⟩) hbb).trans z1
          have y2 := (hBr.out.cell (p := ⟨bb, _, none⟩) hbb).trans z2
          have y3 := (hBr.out.cell (p := ⟨bb, _, none⟩) hbb).trans z3
          have y4 := (hBr.out.cell (p := ⟨bb, _, none⟩) hbb).trans z4
          obtain ⟨W4, hW4, hB4, hs4, S4⟩ := cbox1 wr (opC x) (nmC x) (soC x) kk A M Cc
          obtain ⟨f0, f1, f2, f3, f4⟩ := S4.five
          obtain ⟨cK, hkx, hlen⟩ := HK.out i x hx
          have hle := lsCs_take_le k2 hx
          have cV := cK kk A M Cc k2 (ns ++ lsTs k2 lt ++ lsCs k2 (l.take i)) W4 hax (hBr.out.trans (hB4.mono (by have := hBr.out.size; have := HB0.out; omega))) (hR.out.b hB4) (by have h1 := lsTs_len k2 lt; rw [List.length_append, List.length_append]; have := HW.out; omega) Hk0.out (by have := hkx; have := HWk.out; omega)
          have Hst := Lib.hid (lsCs_step k2 hx)
          clear z0 z1 z2 z3 z4 hax hR cK hkx HK hlen hle S4 hx HC
          generalize opC x = op' at *
          generalize nmC x = nm' at *
          generalize soC x = so' at *
          obtain ⟨ka', kn', kc'⟩ := kk
          dsimp only at *
          have hj0 : 0 ≤ (i : Int) := by omega
          have hj1 : (i : Int) < (n : Int) := by omega
          go_wp2_with (go_at_call 115; ((with_reducible refine cV.mono ?_); rintro e w5 ⟨rfl, hj5, hb5, hk5⟩; have HJ5 := Lib.hid hj5; have HB5 := Lib.hid hb5; have HK5 := Lib.hid (hKr.out.trans ((KpL.of_below hB4).trans hk5)); clear hj5 hb5 hk5))
          go_roundw
          case rel => exact ⟨_, i + 1, rfl, by omega, by go_num, Lib.hid (by rw [Hst.out, ← List.append_assoc]; exact HJ5.out), HB5, HK5⟩
          case measure => simp [intOf]; omega
        · obtain rfl : i = n := by omega
          have Hfin : Hid (JL g base (ns ++ (lsTs k2 lt ++ lsCs k2 l)) wr ∧ Below B w0 wr ∧ KpL W0 wr) := Lib.hid ⟨by have := hR.out; rw [List.take_of_length_le (by have := HC.out.1; omega)] at this; rw [← List.append_assoc]; exact this, hBr.out, hKr.out⟩
          clear hR hBr hKr
          go_wp2
          simp [bodyPost, results, Try.results115, go_sem]
          exact Hfin.out
theorem rvc_any (g base B : Nat) (w0 : World) (hg : B ≤ g) (hBw : B ≤ w0.heap.size) (t : Cl) : RvcOk g base B w0 t := Cl.ind (rvc_step g base B w0 hg hBw) t
end Go.Proofs.Ytokkafekdaniaaa.B
