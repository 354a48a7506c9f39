/-
  What is proved: the document's atoms of any claims, each where it first stands.
-/
import Derived.Test.YtjjfbgadpgckeaaGreatZClmYa
import Derived.Test.YtjjfbgadpgckeaaGreatCQ
namespace Go.Proofs.YtjjfbgadpgckeaaGreat.K
open Go.RowKit L T
open C (Cl atC cmpC eqC CsW wt wt_mk wts wts_mem wts_len opC nmC soC tsC subC SS OwnC HdL endsL endsLs endsLs_cons endsL_wt endsLs_app wts_app conP Hc flatC CBox cbox1 hcOf ArC ArWC FrCL RowC take_c)
set_option linter.unusedVariables false
set_option linter.unusedSimpArgs false

/-- what a call that gets a row and hands one back leaves of the blocks that were there -/
def Kp (w w' : World) (v v' : Value) : Prop := w.heap.size ≤ w'.heap.size ∧ (∀ b, b < w.heap.size → v.ownBlock ≠ some b → w'.heap[b]? = w.heap[b]?) ∧ ∀ q, v'.ownBlock = some q → v.ownBlock = some q ∨ w.heap.size ≤ q
theorem Kp.refl (w : World) (v : Value) : Kp w w v v := ⟨Nat.le_refl _, fun _ _ _ => rfl, fun _ h => .inl h⟩
theorem Kp.trans {w w1 w2 : World} {v v1 v2 : Value} (h : Kp w w1 v v1) (h2 : Kp w1 w2 v1 v2) : Kp w w2 v v2 := by
  refine ⟨Nat.le_trans h.1 h2.1, fun b hb hne => ?_, fun q hq => ?_⟩
  · rw [h2.2.1 b (Nat.lt_of_lt_of_le hb h.1) (fun e => by rcases h.2.2 b e with e | e; exact hne e; omega), h.2.1 b hb hne]
  · rcases h2.2.2 q hq with e | e
    · exact h.2.2 q e
    · exact .inr (Nat.le_trans h.1 e)
theorem Kp.of_below {w w' : World} (v : Value) (h : Below w.heap.size w w') : Kp w w' v v := ⟨h.size, fun b hb _ => h.block b hb, fun _ e => .inl e⟩
theorem Kp.grown {w w1 w2 : World} {v : Value} {g n c : Nat} (h : Below w.heap.size w w1) (hg : w1.grownBy w2 v.ownBlock) (hl : v.ownBlock = some g ∨ g = w1.heap.size) : Kp w w2 v (.slice (some ⟨g, 0, none⟩) n c) := by
  refine ⟨Nat.le_trans h.size hg.size, fun b hb hne => ?_, fun q hq => ?_⟩
  · rw [hg.block b (Nat.lt_of_lt_of_le hb h.size) (fun e => hne e.symm), h.block b hb]
  · have hq' : q = g := by simpa [Value.ownBlock] using hq.symm
    subst hq'
    rcases hl with hl | hl
    · exact .inl hl
    · exact .inr (by rw [hl]; exact h.size)
theorem inCC_step {l : List Cl} {x y : Cl} {k : Nat} (h : l[k]? = some y) : inCC (l.take (k + 1)) x = (inCC (l.take k) x || eqC y x) := by
  rw [take_c h, inCC_app]; simp [inCC]
theorem inCC_mem {l : List Cl} {x y : Cl} {k : Nat} (h : l[k]? = some y) (he : eqC y x = true) : inCC l x = true := List.any_eq_true.2 ⟨y, List.mem_of_getElem? h, he⟩
theorem atomsL_cons (x : Cl) (l : List Cl) : atomsL (x :: l) = atomsL [x] ++ atomsL l := by
  unfold atomsL
  rw [endsLs_cons, List.filter_append, endsLs_cons]
  show _ = List.filter naC (endsL conP x ++ []) ++ _
  rw [List.append_nil]
theorem atomsL_app (l m : List Cl) : atomsL (l ++ m) = atomsL l ++ atomsL m := by unfold atomsL; rw [endsLs_app, List.filter_append]
theorem atomsL_one (x : Cl) : atomsL [x] = (endsL conP x).filter naC := by
  unfold atomsL
  rw [endsLs_cons]
  show List.filter naC (endsL conP x ++ []) = _
  rw [List.append_nil]
theorem uq_len2 (X l : List Cl) : (uqC X (atomsL l)).length ≤ X.length + wts l := by
  have h1 := uqC_len (atomsL l) X
  have h2 := wts_len (atomsL l)
  have h3 := atoms_wt l
  omega
def AtOk (w0 : World) (t : Cl) : Prop := ∀ (X : List Cl) (A : Option Addr) (n c : Nat) (k : SS) (a : Option Addr) (m d : Nat) (w : World), AtR w0 w A n c X → ArC w0.heap.size w0 t k a m d → X.length + wt t ≤ 900000 →
  Calls Tryz.prog 55 #[.slice A n c, .agg #[.int .i64 (opC t), .string (nmC t), .string (soC t), .slice k.a k.n k.c, .slice a m d]] w fun e w' => ∃ A' n' c', e = .returned (.slice A' n' c') ∧ AtR w0 w' A' n' c' (uqC X (atomsL [t])) ∧ Kp w w' (.slice A n c) (.slice A' n' c')
set_option maxRecDepth 100000 in
set_option maxHeartbeats 16000000 in
theorem atoms8_step (w0 : World) (t : Cl) (hok : ∀ x ∈ subC t, AtOk w0 x) : AtOk w0 t := by
  intro X A n c kk a m d w hX hA hl
  obtain ⟨ka, kn, kc⟩ := kk
  obtain ⟨W, hW, hB, hs, S⟩ := cbox1 w (opC t) (nmC t) (soC t) ⟨ka, kn, kc⟩ a m d
  dsimp only at hW S
  have hb0 : Below w0.heap.size w0 w := by obtain ⟨_, _, _, _, h⟩ := hX; exact h
  have hC := (C.ar_isC.1 hA).2
  have hm : m ≤ 9223372036854775807 := by have h1 := hC.2.1; have h2 := hC.2.2.1; unfold maxLen at h2; omega
  have hsz := wt_mk t
  have hXW := hX.b hB
  have hK0 : Kp w W (.slice A n c) (.slice A n c) := Kp.of_below _ hB
  by_cases hcon : conP (opC t) = true
  · have hEnd : atomsL [t] = atomsL (subC t) := by
      rw [atomsL_one, C.endsL_yes hcon]; rfl
    rw [hEnd]
    have HK := Lib.hid (show ∀ i x, (subC t)[i]? = some x → AtOk w0 x from fun i x h => hok x (List.mem_of_getElem? h))
    have HLen := Lib.hid (show ∀ i x, (subC t)[i]? = some x → (uqC X (atomsL ((subC t).take i))).length + wt x ≤ 900000 from fun i x hx => by
      have h2 := uq_len2 X ((subC t).take i)
      have h3 := wts_app ((subC t).take (i + 1)) ((subC t).drop (i + 1))
      rw [List.take_append_drop, take_c hx, wts_app] at h3
      simp only [wts] at h3
      omega)
    have hown : ∀ q, (Value.slice A n c).ownBlock = some q → q < w.heap.size := fun q hq => by obtain ⟨hs', e1, -⟩ := hX; exact (World.ownsRow.lt e1 q hq).2
    have HBx := Lib.hid (show ∀ (wr : World) (v' : Value), Kp W wr (.slice A n c) v' → CBox wr w.heap.size (opC t) (nmC t) (soC t) ⟨ka, kn, kc⟩ a m d from fun wr v' h => (h.2.1 w.heap.size (by omega) (fun e => by have := hown _ e; omega)).trans S)
    have H0 : Hid (AtR w0 W A n c (uqC X (atomsL ((subC t).take 0))) ∧ Kp W W (.slice A n c) (.slice A n c)) := Lib.hid ⟨by rw [List.take_zero]; exact hXW, Kp.refl _ _⟩
    have HC := Lib.hid hC
    have HK0 := Lib.hid hK0
    have HSt := Lib.hid (show ∀ j x, (subC t)[j]? = some x → uqC X (atomsL ((subC t).take (j + 1))) = uqC (uqC X (atomsL ((subC t).take j))) (atomsL [x]) from fun j x h => by rw [take_c h, atomsL_app, uqC_app])
    have HEnd := Lib.hid (show ∀ j, m ≤ j → (subC t).take j = subC t from fun j h => List.take_of_length_le (by have := hC.1; omega))
    obtain ⟨s0, s1, s2, s3, s4⟩ := S.five
    clear hX hA hXW hK0 hok hsz hl hEnd hown hC S hs
    generalize subC t = l at *
    unfold conP at hcon
    rw [Bool.and_eq_true, decide_eq_true_eq, decide_eq_true_eq] at hcon
    obtain ⟨op, hop⟩ : ∃ op, opC t = op := ⟨_, rfl⟩
    rw [hop] at hcon hW HBx s0 ⊢
    clear hop
    generalize nmC t = nm at *
    generalize soC t = so at *
    have hcase : op = 6 ∨ op = 7 ∨ op = 8 ∨ op = 9 ∨ op = 10 := by omega
    clear hcon
    rcases hcase with rfl | rfl | rfl | rfl | rfl
    · go_enter Tryz.func55, Tryz.ntmps55
      go_wp2
      go_loopw [0, 5] (fun v i wr0 => ∃ (wr : World) (j : Nat) (A' : Option Addr) (n' c' : Nat), wr = wr0 ∧ j ≤ m ∧ .slice A' n' c' = v ∧ i = .int .i64 j ∧ Hid (AtR w0 wr A' n' c' (uqC X (atomsL (l.take j))) ∧ Kp W wr (.slice A n c) (.slice A' n' c'))) (fun _ i _ => m - (intOf i).toNat)
      case atStart => exact ⟨_, 0, _, _, _, rfl, by omega, rfl, rfl, H0⟩
      case round =>
        clear H0 s0 s1 s2 s3 s4
        obtain ⟨wr, j, A', n', c', rfl, hj, rfl, rfl, hN⟩ := hrel
        obtain ⟨e0, e1, e2, e3, e4⟩ := (HBx.out wr _ hN.out.2).five
        have hbr : Below w0.heap.size w0 wr := by obtain ⟨⟨_, _, _, _, h⟩, _⟩ := hN.out; exact h
        by_cases hlt : j < m
        · obtain ⟨bb, o, x, xk, AA, M, Cc, rfl, hbb, z0, z1, z2, z3, z4, hx, hax⟩ := HC.out.at hlt
          have y0 := (hbr.cell (p := ⟨bb, _, none⟩) hbb).trans z0
          have y1 := (hbr.cell (p := ⟨bb, _, none⟩) hbb).trans z1
          have y2 := (hbr.cell (p := ⟨bb, _, none⟩) hbb).trans z2
          have y3 := (hbr.cell (p := ⟨bb, _, none⟩) hbb).trans z3
          have y4 := (hbr.cell (p := ⟨bb, _, none⟩) hbb).trans z4
          have cV := HK.out j x hx _ A' n' c' xk AA M Cc wr hN.out.1 hax (HLen.out j x hx)
          have Hst := Lib.hid (HSt.out j x hx)
          have HKp := Lib.hid hN.out.2
          clear z0 z1 z2 z3 z4 hax HK hx HC hN
          generalize opC x = op' at *
          generalize nmC x = nm' at *
          generalize soC x = so' at *
          have hj0 : 0 ≤ (j : Int) := by omega
          have hj1 : (j : Int) < (m : Int) := by omega
          go_wp2_with (go_at_call 55; ((with_reducible refine cV.mono ?_); rintro e w5 ⟨A5, n5, c5, rfl, hN5, hk5⟩; have HN5 := Lib.hid hN5; have HK5 := Lib.hid (HKp.out.trans hk5); clear hN5 hk5))
          go_roundw
          case rel => exact ⟨_, j + 1, _, _, _, rfl, by omega, rfl, by go_num, Lib.hid ⟨by rw [Hst.out]; exact HN5.out, HK5.out⟩⟩
          case measure => simp [intOf]; omega
        · have hjm : j = m := by omega
          have Hfin := Lib.hid (show AtR w0 wr A' n' c' (uqC X (atomsL l)) ∧ Kp w wr (.slice A n c) (.slice A' n' c') from ⟨by have h := hN.out.1; rw [HEnd.out j (by omega)] at h; exact h, HK0.out.trans hN.out.2⟩)
          clear hN HC
          go_wp2
          go_ret
          exact ⟨_, _, _, rfl, Hfin.out.1, Hfin.out.2⟩
    · go_enter Tryz.func55, Tryz.ntmps55
      go_wp2
      go_loopw [0, 5] (fun v i wr0 => ∃ (wr : World) (j : Nat) (A' : Option Addr) (n' c' : Nat), wr = wr0 ∧ j ≤ m ∧ .slice A' n' c' = v ∧ i = .int .i64 j ∧ Hid (AtR w0 wr A' n' c' (uqC X (atomsL (l.take j))) ∧ Kp W wr (.slice A n c) (.slice A' n' c'))) (fun _ i _ => m - (intOf i).toNat)
      case atStart => exact ⟨_, 0, _, _, _, rfl, by omega, rfl, rfl, H0⟩
      case round =>
        clear H0 s0 s1 s2 s3 s4
        obtain ⟨wr, j, A', n', c', rfl, hj, rfl, rfl, hN⟩ := hrel
        obtain ⟨e0, e1, e2, e3, e4⟩ := (HBx.out wr _ hN.out.2).five
        have hbr : Below w0.heap.size w0 wr := by obtain ⟨⟨_, _, _, _, h⟩, _⟩ := hN.out; exact h
        by_cases hlt : j < m
        · obtain ⟨bb, o, x, xk, AA, M, Cc, rfl, hbb, z0, z1, z2, z3, z4, hx, hax⟩ := HC.out.at hlt
          have y0 := (hbr.cell (p := ⟨bb, _, none⟩) hbb).trans z0
          have y1 := (hbr.cell (p := ⟨bb, _, none⟩) hbb).trans z1
          have y2 := (hbr.cell (p := ⟨bb, _, none⟩) hbb).trans z2
          have y3 := (hbr.cell (p := ⟨bb, _, none⟩) hbb).trans z3
          have y4 := (hbr.cell (p := ⟨bb, _, none⟩) hbb).trans z4
          have cV := HK.out j x hx _ A' n' c' xk AA M Cc wr hN.out.1 hax (HLen.out j x hx)
          have Hst := Lib.hid (HSt.out j x hx)
          have HKp := Lib.hid hN.out.2
          clear z0 z1 z2 z3 z4 hax HK hx HC hN
          generalize opC x = op' at *
          generalize nmC x = nm' at *
          generalize soC x = so' at *
          have hj0 : 0 ≤ (j : Int) := by omega
          have hj1 : (j : Int) < (m : Int) := by omega
          go_wp2_with (go_at_call 55; ((with_reducible refine cV.mono ?_); rintro e w5 ⟨A5, n5, c5, rfl, hN5, hk5⟩; have HN5 := Lib.hid hN5; have HK5 := Lib.hid (HKp.out.trans hk5); clear hN5 hk5))
          go_roundw
          case rel => exact ⟨_, j + 1, _, _, _, rfl, by omega, rfl, by go_num, Lib.hid ⟨by rw [Hst.out]; exact HN5.out, HK5.out⟩⟩
          case measure => simp [intOf]; omega
        · have hjm : j = m := by omega
          have Hfin := Lib.hid (show AtR w0 wr A' n' c' (uqC X (atomsL l)) ∧ Kp w wr (.slice A n c) (.slice A' n' c') from ⟨by have h := hN.out.1; rw [HEnd.out j (by omega)] at h; exact h, HK0.out.trans hN.out.2⟩)
          clear hN HC
          go_wp2
          go_ret
          exact ⟨_, _, _, rfl, Hfin.out.1, Hfin.out.2⟩
    · go_enter Tryz.func55, Tryz.ntmps55
      go_wp2
      go_loopw [0, 5] (fun v i wr0 => ∃ (wr : World) (j : Nat) (A' : Option Addr) (n' c' : Nat), wr = wr0 ∧ j ≤ m ∧ .slice A' n' c' = v ∧ i = .int .i64 j ∧ Hid (AtR w0 wr A' n' c' (uqC X (atomsL (l.take j))) ∧ Kp W wr (.slice A n c) (.slice A' n' c'))) (fun _ i _ => m - (intOf i).toNat)
      case atStart => exact ⟨_, 0, _, _, _, rfl, by omega, rfl, rfl, H0⟩
      case round =>
        clear H0 s0 s1 s2 s3 s4
        obtain ⟨wr, j, A', n', c', rfl, hj, rfl, rfl, hN⟩ := hrel
        obtain ⟨e0, e1, e2, e3, e4⟩ := (HBx.out wr _ hN.out.2).five
        have hbr : Below w0.heap.size w0 wr := by obtain ⟨⟨_, _, _, _, h⟩, _⟩ := hN.out; exact h
        by_cases hlt : j < m
        · obtain ⟨bb, o, x, xk, AA, M, Cc, rfl, hbb, z0, z1, z2, z3, z4, hx, hax⟩ := HC.out.at hlt
          have y0 := (hbr.cell (p := ⟨bb, _, none⟩) hbb).trans z0
          have y1 := (hbr.cell (p := ⟨bb, _, none⟩) hbb).trans z1
          have y2 := (hbr.cell (p := ⟨bb, _, none⟩) hbb).trans z2
          have y3 := (hbr.cell (p := ⟨bb, _, none⟩) hbb).trans z3
          have y4 := (hbr.cell (p := ⟨bb, _, none⟩) hbb).trans z4
          have cV := HK.out j x hx _ A' n' c' xk AA M Cc wr hN.out.1 hax (HLen.out j x hx)
          have Hst := Lib.hid (HSt.out j x hx)
          have HKp := Lib.hid hN.out.2
          clear z0 z1 z2 z3 z4 hax HK hx HC hN
          generalize opC x = op' at *
          generalize nmC x = nm' at *
          generalize soC x = so' at *
          have hj0 : 0 ≤ (j : Int) := by omega
          have hj1 : (j : Int) < (m : Int) := by omega
          go_wp2_with (go_at_call 55; ((with_reducible refine cV.mono ?_); rintro e w5 ⟨A5, n5, c5, rfl, hN5, hk5⟩; have HN5 := Lib.hid hN5; have HK5 := Lib.hid (HKp.out.trans hk5); clear hN5 hk5))
          go_roundw
          case rel => exact ⟨_, j + 1, _, _, _, rfl, by omega, rfl, by go_num, Lib.hid ⟨by rw [Hst.out]; exact HN5.out, HK5.out⟩⟩
          case measure => simp [intOf]; omega
        · have hjm : j = m := by omega
          have Hfin := Lib.hid (show AtR w0 wr A' n' c' (uqC X (atomsL l)) ∧ Kp w wr (.slice A n c) (.slice A' n' c') from ⟨by have h := hN.out.1; rw [HEnd.out j (by omega)] at h; exact h, HK0.out.trans hN.out.2⟩)
          clear hN HC
          go_wp2
          go_ret
          exact ⟨_, _, _, rfl, Hfin.out.1, Hfin.out.2⟩
    · go_enter Tryz.func55, Tryz.ntmps55
      go_wp2
      go_loopw [0, 5] (fun v i wr0 => ∃ (wr : World) (j : Nat) (A' : Option Addr) (n' c' : Nat), wr = wr0 ∧ j ≤ m ∧ .slice A' n' c' = v ∧ i = .int .i64 j ∧ Hid (AtR w0 wr A' n' c' (uqC X (atomsL (l.take j))) ∧ Kp W wr (.slice A n c) (.slice A' n' c'))) (fun _ i _ => m - (intOf i).toNat)
      case atStart => exact ⟨_, 0, _, _, _, rfl, by omega, rfl, rfl, H0⟩
      case round =>
        clear H0 s0 s1 s2 s3 s4
        obtain ⟨wr, j, A', n', c', rfl, hj, rfl, rfl, hN⟩ := hrel
        obtain ⟨e0, e1, e2, e3, e4⟩ := (HBx.out wr _ hN.out.2).five
        have hbr : Below w0.heap.size w0 wr := by obtain ⟨⟨_, _, _, _, h⟩, _⟩ := hN.out; exact h
        by_cases hlt : j < m
        · obtain ⟨bb, o, x, xk, AA, M, Cc, rfl, hbb, z0, z1, z2, z3, z4, hx, hax⟩ := HC.out.at hlt
          have y0 := (hbr.cell (p := ⟨bb, _, none⟩) hbb).trans z0
          have y1 := (hbr.cell (p := ⟨bb, _, none⟩) hbb).trans z1
          have y2 := (hbr.cell (p := ⟨bb, _, none⟩) hbb).trans z2
          have y3 := (hbr.cell (p := ⟨bb, _, none⟩) hbb).trans z3
          have y4 := (hbr.cell (p := ⟨bb, _, none⟩) hbb).trans z4
          have cV := HK.out j x hx _ A' n' c' xk AA M Cc wr hN.out.1 hax (HLen.out j x hx)
          have Hst := Lib.hid (HSt.out j x hx)
          have HKp := Lib.hid hN.out.2
          clear z0 z1 z2 z3 z4 hax HK hx HC hN
          generalize opC x = op' at *
          generalize nmC x = nm' at *
          generalize soC x = so' at *
          have hj0 : 0 ≤ (j : Int) := by omega
          have hj1 : (j : Int) < (m : Int) := by omega
          go_wp2_with (go_at_call 55; ((with_reducible refine cV.mono ?_); rintro e w5 ⟨A5, n5, c5, rfl, hN5, hk5⟩; have HN5 := Lib.hid hN5; have HK5 := Lib.hid (HKp.out.trans hk5); clear hN5 hk5))
          go_roundw
          case rel => exact ⟨_, j + 1, _, _, _, rfl, by omega, rfl, by go_num, Lib.hid ⟨by rw [Hst.out]; exact HN5.out, HK5.out⟩⟩
          case measure => simp [intOf]; omega
        · have hjm : j = m := by omega
          have Hfin := Lib.hid (show AtR w0 wr A' n' c' (uqC X (atomsL l)) ∧ Kp w wr (.slice A n c) (.slice A' n' c') from ⟨by have h := hN.out.1; rw [HEnd.out j (by omega)] at h; exact h, HK0.out.trans hN.out.2⟩)
          clear hN HC
          go_wp2
          go_ret
          exact ⟨_, _, _, rfl, Hfin.out.1, Hfin.out.2⟩
    · go_enter Tryz.func55, Tryz.ntmps55
      go_wp2
      go_loopw [0, 5] (fun v i wr0 => ∃ (wr : World) (j : Nat) (A' : Option Addr) (n' c' : Nat), wr = wr0 ∧ j ≤ m ∧ .slice A' n' c' = v ∧ i = .int .i64 j ∧ Hid (AtR w0 wr A' n' c' (uqC X (atomsL (l.take j))) ∧ Kp W wr (.slice A n c) (.slice A' n' c'))) (fun _ i _ => m - (intOf i).toNat)
      case atStart => exact ⟨_, 0, _, _, _, rfl, by omega, rfl, rfl, H0⟩
      case round =>
        clear H0 s0 s1 s2 s3 s4
        obtain ⟨wr, j, A', n', c', rfl, hj, rfl, rfl, hN⟩ := hrel
        obtain ⟨e0, e1, e2, e3, e4⟩ := (HBx.out wr _ hN.out.2).five
        have hbr : Below w0.heap.size w0 wr := by obtain ⟨⟨_, _, _, _, h⟩, _⟩ := hN.out; exact h
        by_cases hlt : j < m
        · obtain ⟨bb, o, x, xk, AA, M, Cc, rfl, hbb, z0, z1, z2, z3, z4, hx, hax⟩ := HC.out.at hlt
          have y0 := (hbr.cell (p := ⟨bb, _, none⟩) hbb).trans z0
          have y1 := (hbr.cell (p := ⟨bb, _, none⟩) hbb).trans z1
          have y2 := (hbr.cell (p := ⟨bb, _, none⟩) hbb).trans z2
          have y3 := (hbr.cell (p := ⟨bb, _, none⟩) hbb).trans z3
          have y4 := (hbr.cell (p := ⟨bb, _, none⟩) hbb).trans z4
          have cV := HK.out j x hx _ A' n' c' xk AA M Cc wr hN.out.1 hax (HLen.out j x hx)
          have Hst := Lib.hid (HSt.out j x hx)
          have HKp := Lib.hid hN.out.2
          clear z0 z1 z2 z3 z4 hax HK hx HC hN
          generalize opC x = op' at *
          generalize nmC x = nm' at *
          generalize soC x = so' at *
          have hj0 : 0 ≤ (j : Int) := by omega
          have hj1 : (j : Int) < (m : Int) := by omega
          go_wp2_with (go_at_call 55; ((with_reducible refine cV.mono ?_); rintro e w5 ⟨A5, n5, c5, rfl, hN5, hk5⟩; have HN5 := Lib.hid hN5; have HK5 := Lib.hid (HKp.out.trans hk5); clear hN5 hk5))
          go_roundw
          case rel => exact ⟨_, j + 1, _, _, _, rfl, by omega, rfl, by go_num, Lib.hid ⟨by rw [Hst.out]; exact HN5.out, HK5.out⟩⟩
          case measure => simp [intOf]; omega
        · have hjm : j = m := by omega
          have Hfin := Lib.hid (show AtR w0 wr A' n' c' (uqC X (atomsL l)) ∧ Kp w wr (.slice A n c) (.slice A' n' c') from ⟨by have h := hN.out.1; rw [HEnd.out j (by omega)] at h; exact h, HK0.out.trans hN.out.2⟩)
          clear hN HC
          go_wp2
          go_ret
          exact ⟨_, _, _, rfl, Hfin.out.1, Hfin.out.2⟩
  · by_cases h12 : opC t = 1 ∨ opC t = 2
    · have hEnd : atomsL [t] = [] := by
        rw [atomsL_one, C.endsL_no (by simpa using hcon), List.filter_cons, List.filter_nil]
        unfold naC
        rcases h12 with h | h <;> rw [h] <;> rfl
      rw [hEnd, uqC]
      have HX := Lib.hid hXW
      have HK0 := Lib.hid hK0
      obtain ⟨s0, s1, s2, s3, s4⟩ := S.five
      clear hX hA hXW hK0 hok hsz hl hEnd hC S hs
      obtain ⟨op, hop⟩ : ∃ op, opC t = op := ⟨_, rfl⟩
      rw [hop] at h12 hcon hW s0 ⊢
      clear hop
      generalize nmC t = nm at *
      generalize soC t = so at *
      rcases h12 with rfl | rfl
      · go_enter Tryz.func55, Tryz.ntmps55
        go_wp2
        go_ret
        exact ⟨_, _, _, rfl, HX.out, HK0.out⟩
      · go_enter Tryz.func55, Tryz.ntmps55
        go_wp2
        go_ret
        exact ⟨_, _, _, rfl, HX.out, HK0.out⟩
    · have h1 : opC t ≠ 1 := fun e => h12 (.inl e)
      have h2 : opC t ≠ 2 := fun e => h12 (.inr e)
      have hEnd : atomsL [t] = [t] := by
        rw [atomsL_one, C.endsL_no (by simpa using hcon), List.filter_cons, List.filter_nil]
        unfold naC
        rw [bne_iff_ne.2 h1, bne_iff_ne.2 h2]; rfl
      rw [hEnd, uqC, uqC, uqC]
      have hn : n = X.length := by obtain ⟨hs', e1, e2, e3, e4⟩ := hX; rw [e2, e3.1]
      have hop : ¬ (6 ≤ opC t ∧ opC t ≤ 10) := fun h => hcon (by unfold conP; rw [decide_eq_true h.1, decide_eq_true h.2]; rfl)
      have HX := Lib.hid hXW
      have HX0 := Lib.hid hX
      have HS := Lib.hid S
      have HB := Lib.hid hB
      have HB0 := Lib.hid hb0
      have HA := Lib.hid hA
      have HN := Lib.hid (show inCC (X.take 0) t = false from rfl)
      have HE := Lib.hid (show inCC (X.take n) t = inCC X t from by rw [hn, List.take_length])
      have HKs := Lib.hid (show ∀ k y, X[k]? = some y → inCC (X.take (k + 1)) t = (inCC (X.take k) t || eqC y t) ∧ (eqC y t = true → inCC X t = true) from fun k y h => ⟨inCC_step h, inCC_mem h⟩)
      have HnX := Lib.hid hn
      have n1 : ((opC t == 1) = false) := by simpa using h1
      have n2 : ((opC t == 2) = false) := by simpa using h2
      have n6 : ((opC t == 6) = false) := by simp; omega
      have n7 : ((opC t == 7) = false) := by simp; omega
      have n8 : ((opC t == 8) = false) := by simp; omega
      have n9 : ((opC t == 9) = false) := by simp; omega
      have n10 : ((opC t == 10) = false) := by simp; omega
      have hn63 : n ≤ 900000 := by rw [hn]; omega
      have hn62 : n ≤ 9223372036854775807 := by omega
      obtain ⟨t0, t1, t2, t3, t4⟩ := S.five
      have hcS := fun (y : Cl) (k1 : SS) (a1 : Option Addr) (n1 c1 : Nat) (w1 : World) (q1 : ArWC w1 y k1 a1 n1 c1) (q2 : ArWC w1 t ⟨ka, kn, kc⟩ a m d) => C.refSame_any y t k1 a1 n1 c1 ⟨ka, kn, kc⟩ a m d w1 q1 q2
      have HCS := Lib.hid hcS
      have HFi := Lib.hid (show ∀ (wr : World) (g cap : Nat) (u1 : World) (hs' : List Hc), Below W.heap.size W wr → OwnC wr w0.heap.size (.slice A n c) hs' → n = hs'.length → HdL w0 hs' X → OwnC u1 w0.heap.size (.slice (some ⟨g, 0, none⟩) (hs'.length + 1) cap) (hs' ++ [⟨opC t, nmC t, soC t, ⟨ka, kn, kc⟩, a, m, d⟩]) → (wr.alloc (.cells #[.int .i64 (opC t), .string (nmC t), .string (soC t), .slice ka kn kc, .slice a m d] 25)).grownBy u1 (Value.slice A n c).ownBlock → ((Value.slice A n c).ownBlock = some g ∨ g = (wr.alloc (.cells #[.int .i64 (opC t), .string (nmC t), .string (soC t), .slice ka kn kc, .slice a m d] 25)).heap.size) → AtR w0 u1 (some ⟨g, 0, none⟩) (hs'.length + 1) cap (X ++ [t]) ∧ Kp w u1 (.slice A n c) (.slice (some ⟨g, 0, none⟩) (hs'.length + 1) cap) from fun wr g cap u1 hs' q1 q2 q3 q4 q5 q6 q7 => by
        have hBw : Below w.heap.size w wr := bel_trans hB q1
        have hBw2 := bel_alloc hBw (.cells #[.int .i64 (opC t), .string (nmC t), .string (soC t), .slice ka kn kc, .slice a m d] 25)
        refine ⟨⟨_, q5, by simp, q4.app ⟨rfl, fun i h' x e1 e2 => ?_⟩, ?_⟩, Kp.grown hBw2 q6 q7⟩
        · cases i with
          | zero => injection e1 with e1; injection e2 with e2; subst e1 e2; exact ⟨⟨rfl, rfl, rfl⟩, hA⟩
          | succ i => simp at e1
        · exact (hb0.trans (hBw2.mono hb0.size)).grown q6 (Nat.le_trans hb0.size hBw2.size) (fun q hq => (World.ownsRow.lt q2 q hq).1))
      have HRet := Lib.hid (show ∀ wr, Below W.heap.size W wr → AtR w0 wr A n c X ∧ Kp w wr (.slice A n c) (.slice A n c) from fun wr h => ⟨hXW.b h, Kp.of_below _ (bel_trans hB h)⟩)
      clear hX hA hXW hK0 hok hsz hl hEnd hC S hs hn hcon h12 h1 h2 hop hcS hB hb0
      generalize hr : inCC X t = r at *
      clear hr
      obtain ⟨op, hop⟩ : ∃ op, opC t = op := ⟨_, rfl⟩
      obtain ⟨nm, hnm⟩ : ∃ nm, nmC t = nm := ⟨_, rfl⟩
      obtain ⟨so, hso⟩ : ∃ so, soC t = so := ⟨_, rfl⟩
      rw [hop, hnm, hso] at HCS HFi HS hW ⊢
      rw [hop] at n1 n2 n6 n7 n8 n9 n10 t0
      rw [hnm] at t1
      rw [hso] at t2
      clear hop hnm hso
      go_enter Tryz.func55, Tryz.ntmps55
      go_wp2
      go_loopw [6] (fun i wr0 => ∃ (wr : World) (k : Nat), wr = wr0 ∧ k ≤ n ∧ i = .int .i64 k ∧ Hid (Below W.heap.size W wr ∧ inCC (X.take k) t = false)) (fun i _ => n - (intOf i).toNat)
      case atStart => exact ⟨_, 0, rfl, by omega, rfl, Lib.hid ⟨Below.refl _ _, HN.out⟩⟩
      case round =>
        clear t0 t1 t2 t3 t4
        obtain ⟨wr, k, rfl, hk, rfl, hR⟩ := hrel
        by_cases hlt : k < n
        · obtain ⟨hs', q1, q2, q3, q4⟩ := HX.out.b hR.out.1
          obtain ⟨g, hg⟩ : ∃ g, A = some ⟨g, 0, none⟩ := by
            obtain ⟨A', C', e1, -, -, -, e2⟩ := C.OwnC.slice q1
            injection e1 with e1 e1' e1''
            obtain ⟨g, hg, -⟩ := e2 (by omega)
            exact ⟨g, by rw [e1, hg]⟩
          subst hg
          obtain ⟨y, hy⟩ : ∃ y, X[k]? = some y := ⟨_, List.getElem?_eq_getElem (by have := HnX.out; omega)⟩
          have hk5 : k < hs'.length := by omega
          obtain ⟨⟨hop, hnm, hso, ⟨hka, hkn, hkc⟩, ha, hn, hc⟩, hh⟩ : ∃ h, hs'[k] = h := ⟨_, rfl⟩
          obtain ⟨y0, y1, y2, y3, y4⟩ := C.OwnC.at q1 hk5
          rw [hh] at y0 y1 y2 y3 y4
          obtain ⟨⟨p1, p2, p3⟩, p4⟩ := q3.2 k _ y (by rw [List.getElem?_eq_getElem hk5, hh]) hy
          dsimp only at y0 y1 y2 y3 y4 p1 p2 p3 p4
          have hBd : Below wr.heap.size wr wr.drew := (Below.refl _ _).drew
          have hb0d : Below w0.heap.size w0 wr.drew := q4.drew
          have cs := HCS.out y ⟨hka, hkn, hkc⟩ ha hn hc wr.drew (C.ArC.mono hb0d.size _ (C.ArC.bel hb0d _ p4)) (C.ArC.mono hb0d.size _ (C.ArC.bel hb0d _ HA.out))
          rw [← p1, ← p2, ← p3] at cs
          dsimp only at cs
          have hgl := (World.ownsRow.lt q1 g rfl).2
          have S2 := C.CBox.b HS.out hR.out.1
          have lS := Blk.lt S2
          obtain ⟨s0, s1, s2, s3, s4⟩ := S2.five
          dsimp only at s3
          obtain ⟨hk1, hk2⟩ := HKs.out k y hy
          rw [hR.out.2] at hk1
          have HR1 := Lib.hid hR.out.1
          have i0 : 0 ≤ (k : Int) := by omega
          have i1 : (k : Int) < (n : Int) := by omega
          clear q1 q2 q3 q4 hh hk5 p1 p2 p3 p4 hR S2 hy
          cases heq : eqC y t with
          | true =>
            have hk3 := hk2 heq
            rw [heq] at cs
            clear hk1 hk2 heq
            subst hk3
            go_wp2_with fail
            go_region_held3 (fun w' => w'.cell? ⟨g, k * 5, none⟩ = some (.int .i64 hop) ∧ w'.cell? ⟨g, k * 5 + 1, none⟩ = some (.string hnm) ∧ w'.cell? ⟨g, k * 5 + 1 + 1, none⟩ = some (.string hso) ∧ w'.cell? ⟨g, k * 5 + 1 + 1 + 1, none⟩ = some (.slice hka hkn hkc) ∧ w'.cell? ⟨g, k * 5 + 1 + 1 + 1 + 1, none⟩ = some (.slice ha hn hc) ∧ w'.cell? ⟨w.heap.size, 0, none⟩ = some (.int .i64 op) ∧ w'.cell? ⟨w.heap.size, 1, none⟩ = some (.string nm) ∧ w'.cell? ⟨w.heap.size, 2, none⟩ = some (.string so) ∧ w'.cell? ⟨w.heap.size, 3, none⟩ = some (.slice ka kn kc) ∧ w'.cell? ⟨w.heap.size, 4, none⟩ = some (.slice a m d))
              (first | go_keep | (exact ⟨(B4.cell hgl).trans y0, (B4.cell hgl).trans y1, (B4.cell hgl).trans y2, (B4.cell hgl).trans y3, (B4.cell hgl).trans y4, (B4.cell lS).trans s0, (B4.cell lS).trans s1, (B4.cell lS).trans s2, (B4.cell lS).trans s3, (B4.cell lS).trans s4⟩))
              (first | (go_at_call 95; ((with_reducible refine cs.mono ?_); rintro e w4 ⟨rfl, hb4⟩; have B4 := bel_trans hBd hb4)))
            go_wp2
            go_ret
            exact ⟨_, _, _, rfl, by simpa using (HRet.out _ (bel_trans HR1.out B4)).1, (HRet.out _ (bel_trans HR1.out B4)).2⟩
          | false =>
            have Hn := Lib.hid (show inCC (X.take (k + 1)) t = false from by rw [hk1, heq]; rfl)
            rw [heq] at cs
            clear hk1 hk2 heq
            go_wp2_with fail
            go_region_held3 (fun w' => w'.cell? ⟨g, k * 5, none⟩ = some (.int .i64 hop) ∧ w'.cell? ⟨g, k * 5 + 1, none⟩ = some (.string hnm) ∧ w'.cell? ⟨g, k * 5 + 1 + 1, none⟩ = some (.string hso) ∧ w'.cell? ⟨g, k * 5 + 1 + 1 + 1, none⟩ = some (.slice hka hkn hkc) ∧ w'.cell? ⟨g, k * 5 + 1 + 1 + 1 + 1, none⟩ = some (.slice ha hn hc) ∧ w'.cell? ⟨w.heap.size, 0, none⟩ = some (.int .i64 op) ∧ w'.cell? ⟨w.heap.size, 1, none⟩ = some (.string nm) ∧ w'.cell? ⟨w.heap.size, 2, none⟩ = some (.string so) ∧ w'.cell? ⟨w.heap.size, 3, none⟩ = some (.slice ka kn kc) ∧ w'.cell? ⟨w.heap.size, 4, none⟩ = some (.slice a m d))
              (first | go_keep | (exact ⟨(B4.cell hgl).trans y0, (B4.cell hgl).trans y1, (B4.cell hgl).trans y2, (B4.cell hgl).trans y3, (B4.cell hgl).trans y4, (B4.cell lS).trans s0, (B4.cell lS).trans s1, (B4.cell lS).trans s2, (B4.cell lS).trans s3, (B4.cell lS).trans s4⟩))
              (first | (go_at_call 95; ((with_reducible refine cs.mono ?_); rintro e w4 ⟨rfl, hb4⟩; have B4 := bel_trans hBd hb4)))
            go_wp2
            go_roundw
            case rel => exact ⟨_, k + 1, rfl, by omega, by go_num, Lib.hid ⟨bel_trans HR1.out B4, Hn.out⟩⟩
            case measure => simp [intOf]; omega
        · obtain rfl : k = n := by omega
          have Hf := Lib.hid (show r = false from by rw [← HE.out]; exact hR.out.2)
          have hrf := Hf.out
          subst hrf
          obtain ⟨hs', q1, q2, q3, q4⟩ := HX.out.b hR.out.1
          have S2 := C.CBox.b HS.out hR.out.1
          obtain ⟨s0, s1, s2, s3, s4⟩ := S2.five
          dsimp only at s3
          have HR1 := Lib.hid hR.out.1
          have HQ1 := Lib.hid q1
          have HQ2 := Lib.hid q2
          have HQ3 := Lib.hid q3
          have K1 := Lib.hid (CBox.new wr op nm so ⟨ka, kn, kc⟩ a m d)
          have hl1 : hs'.length < 1000000 := by omega
          have hq0 := q4.size
          clear hR q1 q2 q3 q4 S2
          go_wp2_with (at_builtin; ((refine app_claim2 rfl (.tmp 47) (.tmp 49) rfl w0.heap.size (.slice A k c) hs' rfl (C.OwnC.below HQ1.out (bel_alloc (Below.refl _ _) _)) wr.heap.size ⟨op, nm, so, ⟨ka, kn, kc⟩, a, m, d⟩ rfl K1.out hl1 (by simp; omega) ?_); intro gg cap u1 ho1 hg1 hl1; have HFn := Lib.hid (HFi.out wr gg cap u1 hs' HR1.out HQ1.out HQ2.out HQ3.out ho1 hg1 hl1); clear ho1 hg1 hl1))
          go_ret
          exact ⟨_, _, _, rfl, by simpa using HFn.out.1, HFn.out.2⟩
theorem atoms8_any (w0 : World) (t : Cl) : AtOk w0 t := Cl.ind (atoms8_step w0) t
end Go.Proofs.YtjjfbgadpgckeaaGreat.K
