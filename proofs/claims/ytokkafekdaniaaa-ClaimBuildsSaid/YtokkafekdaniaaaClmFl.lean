/-
  What is proved: what the document takes apart: the outermost parts of a claim that an op does not join.
-/
import Derived.Test.YtokkafekdaniaaaClmJn
import Derived.Test.YtokkafekdaniaaaClmF
namespace Go.Proofs.Ytokkafekdaniaaa.C
open Go.RowKit L T
set_option linter.unusedVariables false
set_option linter.unusedSimpArgs false

theorem ownC_lt {w : World} {base : Nat} {v : Value} {hs : List Hc} (h : OwnC w base v hs) : ∀ q, v.ownBlock = some q → base ≤ q ∧ q < w.heap.size := fun q hq => World.ownsRow.lt h q hq

set_option maxRecDepth 100000 in
theorem app_claims {w : World} {ops : Array Oper} {rest : List Oper} {o : Oper} {a : Act} {Q : Exit → Act → World → Prop} (hgd : o.guard = none) (s x : Operand)
    (ho : o.op = .call { callee := .builtin .append, args := #[s, x], argTypes := #[41, 41] })
    (base : Nat) (v : Value) (Y : List Hc) (hs : a.eval s = v) (hown : OwnC w base v Y) (base2 : Nat) (v2 : Value) (X : List Hc) (hx : a.eval x = v2) (hX : OwnC w base2 v2 X)
    (hn : Y.length + X.length ≤ 1000000000) (hbase : base ≤ w.heap.size)
    (h : ∀ v' w', OwnC w' base v' (Y ++ X) → w.grownBy w' v.ownBlock → wpList Try.prog ops Q rest (a.put o.dst v') w') : wpList Try.prog ops Q (o :: rest) a w := by
  obtain ⟨i0, hi, hz0, hz1, hz2⟩ := info_parts claimI
  obtain ⟨A, c, hv2, hXc, hcm, hnil, hpos⟩ := hX.slice
  subst hv2
  cases A with
  | none =>
    have hc : c = 0 := hnil rfl
    have hX0 : X = [] := List.eq_nil_of_length_eq_zero (by omega)
    subst hX0
    subst hc
    refine wpList_append_own_none hgd s x 41 ho base 43 i0 5 Try.underlying41 hi v Y.length (flatC Y) hs hown hx (h v w ?_ ⟨rfl, rfl, rfl, Nat.le_refl _, fun _ _ _ => rfl⟩)
    rw [List.append_nil]; exact hown
  | some ad =>
    have hcells : ∀ j u, (flatC X)[j]? = some u → w.cell? (ad.add j) = some u := fun j u hj => by
      have hj2 : j < X.length * 5 := by have := (List.getElem?_eq_some_iff.1 hj).1; rwa [flatC_len] at this
      obtain ⟨g, hg, _, _⟩ := hpos (by omega)
      injection hg with hg
      subst hg
      exact World.ownsRow.cells (g := g) hX rfl j u hj
    refine wpList_append_own w hgd s x 41 ho base 43 i0 _ 5 88 Try.underlying41 hi hz0 hz1 hz2 rfl (by decide) v Y.length (flatC Y) hs hown ad X.length c (flatC X) hx (by rw [flatC_len]) hcells (hc_one _) (by unfold maxLen; omega) (by omega) hbase fun v' w' h1 h2 _ => h v' w' ?_ h2
    unfold OwnC
    rw [List.length_append, flatC_app]
    exact h1
/-- heads that read as these claims, in a world that was there -/
def HdL (w0 : World) (hs : List Hc) (l : List Cl) : Prop := hs.length = l.length ∧ ∀ (i : Nat) (h : Hc) (x : Cl), hs[i]? = some h → l[i]? = some x → (h.op = opC x ∧ h.nm = nmC x ∧ h.so = soC x) ∧ ArC w0.heap.size w0 x h.k h.a h.n h.c
theorem HdL.nil (w0 : World) : HdL w0 [] [] := ⟨rfl, fun i h x hi => by simp at hi⟩
theorem HdL.app {w0 : World} {hs hs2 : List Hc} {l l2 : List Cl} (h : HdL w0 hs l) (h2 : HdL w0 hs2 l2) : HdL w0 (hs ++ hs2) (l ++ l2) := by
  refine ⟨by rw [List.length_append, List.length_append, h.1, h2.1], fun i hh x e1 e2 => ?_⟩
  rcases Nat.lt_or_ge i hs.length with hi | hi
  · rw [List.getElem?_append_left hi] at e1
    rw [List.getElem?_append_left (by rw [← h.1]; exact hi)] at e2
    exact h.2 i hh x e1 e2
  · rw [List.getElem?_append_right hi] at e1
    rw [List.getElem?_append_right (by rw [← h.1]; exact hi), ← h.1] at e2
    exact h2.2 _ hh x e1 e2
theorem endsLs_app (p : Int → Bool) (l m : List Cl) : endsLs p (l ++ m) = endsLs p l ++ endsLs p m := by
  induction l with
  | nil => rfl
  | cons t l ih => rw [List.cons_append, endsLs_cons, endsLs_cons, ih, List.append_assoc]
theorem ends_len (p : Int → Bool) (t : Cl) : (endsL p t).length ≤ wt t := Nat.le_trans (wts_len _) (endsL_wt p t)
theorem endss_len (p : Int → Bool) (l : List Cl) : (endsLs p l).length ≤ wts l := Nat.le_trans (wts_len _) (endsLs_wt p l (fun t _ => endsL_wt p t))
theorem wts_takeF (l : List Cl) (j : Nat) : wts (l.take j) ≤ wts l := by
  have := wts_app (l.take j) (l.drop j)
  rw [List.take_append_drop] at this
  omega
def FlR (w0 W wr : World) (v : Value) (l : List Cl) : Prop := ∃ hs, OwnC wr W.heap.size v hs ∧ HdL w0 hs l ∧ Below W.heap.size W wr
def FlOk (w0 : World) (q : Int) (t : Cl) : Prop := ∀ (k : SS) (a : Option Addr) (m c : Nat) (w : World), Below w0.heap.size w0 w → ArC w0.heap.size w0 t k a m c →
  Calls Try.prog 43 #[.agg #[.int .i64 (opC t), .string (nmC t), .string (soC t), .slice k.a k.n k.c, .slice a m c], .int .i64 q] w fun e w' => ∃ v hs, e = .returned v ∧ OwnC w' w.heap.size v hs ∧ HdL w0 hs (endsL (flatP q) t) ∧ Below w.heap.size w w'
set_option maxRecDepth 100000 in
set_option maxHeartbeats 8000000 in
theorem flat_step (w0 : World) (q : Int) (t : Cl) (hwt : wt t ≤ 1000000) (hok : ∀ x ∈ subC t, FlOk w0 q x) : FlOk w0 q t := by
  intro k a m c w hb0 hA
  obtain ⟨W, hW, hB, hs1, S⟩ := cbox1 w (opC t) (nmC t) (soC t) k a m c
  have hC := (ar_isC.1 hA).2
  have hm : m ≤ 9223372036854775807 := by have h1 := hC.2.1; have h2 := hC.2.2.1; unfold maxLen at h2; omega
  have hwm := wt_mk t
  have HK := Lib.hid (show ∀ i x, (subC t)[i]? = some x → FlOk w0 q x from fun i x h => hok x (List.mem_of_getElem? h))
  have HLen := Lib.hid (show ∀ j, (endsLs (flatP q) ((subC t).take j)).length ≤ 1000000 from fun j => by have h1 := endss_len (flatP q) ((subC t).take j); have h2 := wts_takeF (subC t) j; omega)
  have HLen2 := Lib.hid (show ∀ i x, (subC t)[i]? = some x → (endsL (flatP q) x).length ≤ 1000000 from fun i x h => by have h1 := ends_len (flatP q) x; have h2 := wts_mem (List.mem_of_getElem? h); omega)
  have HB0 := Lib.hid (show Below w0.heap.size w0 W from hb0.trans (hB.mono hb0.size))
  by_cases hp : flatP q (opC t) = true
  · have hEnd : endsL (flatP q) t = endsLs (flatP q) (subC t) := endsL_yes hp
    rw [hEnd]
    have HFin := Lib.hid (show ∀ wr v hs, OwnC wr W.heap.size v hs → HdL w0 hs (endsLs (flatP q) (subC t)) → Below W.heap.size W wr → (∃ v' hs', Ending.returned v = .returned v' ∧ OwnC wr w.heap.size v' hs' ∧ HdL w0 hs' (endsLs (flatP q) (subC t)) ∧ Below w.heap.size w wr) from fun wr v hs h1 h2 h3 => ⟨v, hs, rfl, OwnC.base h1 hB.size, h2, bel_trans hB h3⟩)
    have H0 : Hid (FlR w0 W W (.slice none 0 0) (endsLs (flatP q) ((subC t).take 0))) := Lib.hid ⟨[], OwnC.nil _ _, by rw [List.take_zero]; exact HdL.nil _, Below.refl _ _⟩
    have HC := Lib.hid hC
    have HS := Lib.hid S
    obtain ⟨s0, s1, s2, s3, s4⟩ := S.five
    obtain ⟨ka, kn, kc⟩ := k
    dsimp only at *
    clear hC hA S hok hwm hwt hb0 hEnd hs1 hB
    generalize hl : subC t = l at *
    unfold flatP at hp
    rw [Bool.and_eq_true, Bool.or_eq_true, beq_iff_eq, beq_iff_eq, beq_iff_eq] at hp
    obtain ⟨hoq, h78⟩ := hp
    rw [hoq] at s0 HS hW ⊢
    clear hoq hl
    generalize nmC t = nm at *
    generalize soC t = so at *
    rcases h78 with rfl | rfl
    · go_enter Try.func43, Try.ntmps43
      go_wp2
      go_loopw [5, 6] (fun v i wr0 => ∃ (wr : World) (j : Nat) (v' : Value), v' = v ∧ wr = wr0 ∧ j ≤ m ∧ i = .int .i64 j ∧ Hid (FlR w0 W wr v' (endsLs (flatP 7) (l.take j)))) (fun v i _ => m - (intOf i).toNat)
      case atStart => exact ⟨_, 0, _, rfl, rfl, by omega, rfl, H0⟩
      case round =>
        obtain ⟨wr, j, v, rfl, rfl, hj, rfl, hR⟩ := hrel
        obtain ⟨hs, ho, hd, hbr⟩ := hR.out
        obtain ⟨e0, e1, e2, e3, e4⟩ := (CBox.b HS.out hbr).five
        by_cases hlt : j < m
        · obtain ⟨bb, o, x, ⟨xa, xn, xc⟩, AA, M, Cc, rfl, hbb, z0, z1, z2, z3, z4, hx, hax⟩ := HC.out.at hlt
          dsimp only at z3
          have hb0r := (HB0.out).trans (hbr.mono HB0.out.size)
          have y0 := (hb0r.cell (p := ⟨bb, _, none⟩) hbb).trans z0
          have y1 := (hb0r.cell (p := ⟨bb, _, none⟩) hbb).trans z1
          have y2 := (hb0r.cell (p := ⟨bb, _, none⟩) hbb).trans z2
          have y3 := (hb0r.cell (p := ⟨bb, _, none⟩) hbb).trans z3
          have y4 := (hb0r.cell (p := ⟨bb, _, none⟩) hbb).trans z4
          have cV := HK.out j x hx ⟨xa, xn, xc⟩ AA M Cc wr hb0r hax
          have Hst := Lib.hid (show endsLs (flatP 7) (l.take (j + 1)) = endsLs (flatP 7) (l.take j) ++ endsL (flatP 7) x by rw [take_c hx, endsLs_app, endsLs_cons, show endsLs (flatP 7) [] = [] from rfl, List.append_nil])
          have hlen1 : hs.length ≤ 1000000 := by rw [hd.1]; exact HLen.out j
          have hlen2 : (endsL (flatP 7) x).length ≤ 1000000 := HLen2.out j x hx
          have hsz := hbr.size
          have HD := Lib.hid hd
          clear z0 z1 z2 z3 z4 hax HK hx HC hR hd
          generalize endsL (flatP 7) x = EX at *
          generalize opC x = op' at *
          generalize nmC x = nm' at *
          generalize soC x = so' at *
          dsimp only at cV
          have hj0 : 0 ≤ (j : Int) := by omega
          have hj1 : (j : Int) < (m : Int) := by omega
          go_wp2_with (first
            | (go_at_call 43; ((with_reducible refine cV.mono ?_); rintro e w5 ⟨v5, hs5, rfl, ho5, hd5, hb5⟩; have HD5 := Lib.hid hd5; have HO5 := Lib.hid ho5; have hl5 : hs5.length ≤ 1000000 := (by rw [hd5.1]; exact hlen2); clear hd5 ho5))
            | (at_builtin; ((refine app_claims rfl (.tmp 28) (.tmp 35) rfl W.heap.size v hs rfl (OwnC.below ho hb5) wr.heap.size v5 hs5 rfl HO5.out (by omega) (by have := hb5.size; omega) ?_); intro v6 w6 ho6 hg6; have hb6 : Below W.heap.size W w6 := (bel_trans hbr hb5).grown hg6 (bel_trans hbr hb5).size (fun q hq => (ownC_lt (OwnC.below ho hb5) q hq).1))))
          go_roundw
          case rel => exact ⟨_, j + 1, v6, rfl, rfl, by omega, by go_num, Lib.hid ⟨hs ++ hs5, ho6, by rw [Hst.out]; exact HD.out.app HD5.out, hb6⟩⟩
          case measure => simp [intOf]; omega
        · have hjm : j = m := by omega
          have Hfin := Lib.hid (HFin.out wr v hs ho (by rw [List.take_of_length_le (by have := HC.out.1; omega)] at hd; exact hd) hbr)
          clear hR hd HC HK
          go_wp2
          go_ret
          obtain ⟨v', hs', e1, h2, h3, h4⟩ := Hfin.out
          exact ⟨v', e1, hs', h2, h3, h4⟩
    · go_enter Try.func43, Try.ntmps43
      go_wp2
      go_loopw [5, 6] (fun v i wr0 => ∃ (wr : World) (j : Nat) (v' : Value), v' = v ∧ wr = wr0 ∧ j ≤ m ∧ i = .int .i64 j ∧ Hid (FlR w0 W wr v' (endsLs (flatP 8) (l.take j)))) (fun v i _ => m - (intOf i).toNat)
      case atStart => exact ⟨_, 0, _, rfl, rfl, by omega, rfl, H0⟩
      case round =>
        obtain ⟨wr, j, v, rfl, rfl, hj, rfl, hR⟩ := hrel
        obtain ⟨hs, ho, hd, hbr⟩ := hR.out
        obtain ⟨e0, e1, e2, e3, e4⟩ := (CBox.b HS.out hbr).five
        by_cases hlt : j < m
        · obtain ⟨bb, o, x, ⟨xa, xn, xc⟩, AA, M, Cc, rfl, hbb, z0, z1, z2, z3, z4, hx, hax⟩ := HC.out.at hlt
          dsimp only at z3
          have hb0r := (HB0.out).trans (hbr.mono HB0.out.size)
          have y0 := (hb0r.cell (p := ⟨bb, _, none⟩) hbb).trans z0
          have y1 := (hb0r.cell (p := ⟨bb, _, none⟩) hbb).trans z1
          have y2 := (hb0r.cell (p := ⟨bb, _, none⟩) hbb).trans z2
          have y3 := (hb0r.cell (p := ⟨bb, _, none⟩) hbb).trans z3
          have y4 := (hb0r.cell (p := ⟨bb, _, none⟩) hbb).trans z4
          have cV := HK.out j x hx ⟨xa, xn, xc⟩ AA M Cc wr hb0r hax
          have Hst := Lib.hid (show endsLs (flatP 8) (l.take (j + 1)) = endsLs (flatP 8) (l.take j) ++ endsL (flatP 8) x by rw [take_c hx, endsLs_app, endsLs_cons, show endsLs (flatP 8) [] = [] from rfl, List.append_nil])
          have hlen1 : hs.length ≤ 1000000 := by rw [hd.1]; exact HLen.out j
          have hlen2 : (endsL (flatP 8) x).length ≤ 1000000 := HLen2.out j x hx
          have hsz := hbr.size
          have HD := Lib.hid hd
          clear z0 z1 z2 z3 z4 hax HK hx HC hR hd
          generalize endsL (flatP 8) x = EX at *
          generalize opC x = op' at *
          generalize nmC x = nm' at *
          generalize soC x = so' at *
          dsimp only at cV
          have hj0 : 0 ≤ (j : Int) := by omega
          have hj1 : (j : Int) < (m : Int) := by omega
          go_wp2_with (first
            | (go_at_call 43; ((with_reducible refine cV.mono ?_); rintro e w5 ⟨v5, hs5, rfl, ho5, hd5, hb5⟩; have HD5 := Lib.hid hd5; have HO5 := Lib.hid ho5; have hl5 : hs5.length ≤ 1000000 := (by rw [hd5.1]; exact hlen2); clear hd5 ho5))
            | (at_builtin; ((refine app_claims rfl (.tmp 28) (.tmp 35) rfl W.heap.size v hs rfl (OwnC.below ho hb5) wr.heap.size v5 hs5 rfl HO5.out (by omega) (by have := hb5.size; omega) ?_); intro v6 w6 ho6 hg6; have hb6 : Below W.heap.size W w6 := (bel_trans hbr hb5).grown hg6 (bel_trans hbr hb5).size (fun q hq => (ownC_lt (OwnC.below ho hb5) q hq).1))))
          go_roundw
          case rel => exact ⟨_, j + 1, v6, rfl, rfl, by omega, by go_num, Lib.hid ⟨hs ++ hs5, ho6, by rw [Hst.out]; exact HD.out.app HD5.out, hb6⟩⟩
          case measure => simp [intOf]; omega
        · have hjm : j = m := by omega
          have Hfin := Lib.hid (HFin.out wr v hs ho (by rw [List.take_of_length_le (by have := HC.out.1; omega)] at hd; exact hd) hbr)
          clear hR hd HC HK
          go_wp2
          go_ret
          obtain ⟨v', hs', e1, h2, h3, h4⟩ := Hfin.out
          exact ⟨v', e1, hs', h2, h3, h4⟩
  · have hp' : flatP q (opC t) = false := by simpa using hp
    rw [endsL_no hp']
    obtain ⟨W3, hW3, hB3, hs3, T3⟩ := cbox1 W (opC t) (nmC t) (soC t) k a m c
    have HLeaf : Hid (∃ v hs, Ending.returned (.slice (some ⟨W.heap.size, 0, none⟩) 1 1) = .returned v ∧ OwnC W3 w.heap.size v hs ∧ HdL w0 hs [t] ∧ Below w.heap.size w W3) := Lib.hid
      ⟨_, [hcOf t k a m c], rfl, ⟨rfl, .inr ⟨W.heap.size, 1, _, rfl, hB.size, T3, Nat.le_refl _, by unfold maxLen; omega, rfl, by simp [flatC, Hc.cells, hcOf]⟩⟩, ⟨rfl, fun i h x e1 e2 => by
        cases i with
        | zero =>
          have h1 : hcOf t k a m c = h := by simpa using e1
          have h2 : t = x := by simpa using e2
          subst h1 h2
          exact ⟨⟨rfl, rfl, rfl⟩, hA⟩
        | succ i => simp at e1⟩, bel_trans hB hB3⟩
    obtain ⟨s0, s1, s2, s3, s4⟩ := S.five
    obtain ⟨ka, kn, kc⟩ := k
    dsimp only at *
    clear hC hA S hok hwm hwt hb0 hs1 hs3 T3 HK HLen HLen2 hp
    generalize hoo : opC t = op at *
    generalize nmC t = nm at *
    generalize soC t = so at *
    clear hoo
    by_cases h1 : op = q
    · subst h1
      have q1 : (op != op) = false := by simp
      have h7 : op ≠ 7 := fun e => by subst e; simp [flatP] at hp'
      have h8 : op ≠ 8 := fun e => by subst e; simp [flatP] at hp'
      have q2 : (op != 7) = true := bne_iff_ne.2 h7
      have q3 : (op != 8) = true := bne_iff_ne.2 h8
      clear h7 h8 hp'
      go_enter Try.func43, Try.ntmps43
      go_wp2
      go_ret
      exact HLeaf.out
    · have q1 : (op != q) = true := bne_iff_ne.2 h1
      clear h1 hp'
      go_enter Try.func43, Try.ntmps43
      go_wp2
      go_ret
      exact HLeaf.out
theorem refFlat_any (w0 : World) (q : Int) (t : Cl) (hwt : wt t ≤ 1000000) : FlOk w0 q t := by
  have : ∀ t : Cl, wt t ≤ 1000000 → FlOk w0 q t := fun t => Cl.ind (P := fun t => wt t ≤ 1000000 → FlOk w0 q t) (fun t ih h => flat_step w0 q t h (fun x hx => ih x hx (by have h1 := wts_mem hx; have h2 := wt_mk t; omega))) t
  exact this t hwt
theorem HdL.csW {w0 w' : World} {base : Nat} {v : Value} {hs : List Hc} {l : List Cl} (h : HdL w0 hs l) (ho : OwnC w' base v hs) (hb : Below w0.heap.size w0 w') : ∃ A n C, v = .slice A n C ∧ CsW w' A n C l := by
  obtain ⟨A, C, hv, _⟩ := ho.slice
  subst hv
  refine ⟨A, _, C, rfl, ho.isC (Nat.le_refl _) h.1.symm fun i hi hi2 => ?_⟩
  have h5 := h.2 i hs[i] l[i] (List.getElem?_eq_getElem hi2) (List.getElem?_eq_getElem hi)
  exact ⟨h5.1.1, h5.1.2.1, h5.1.2.2, ArC.mono hb.size _ (ArC.bel hb _ h5.2)⟩
theorem refFlatC_any (q : Int) (t : Cl) (k : SS) (a : Option Addr) (m c : Nat) (w : World) (hwt : wt t ≤ 1000000) (hA : ArWC w t k a m c) :
    Calls Try.prog 43 #[.agg #[.int .i64 (opC t), .string (nmC t), .string (soC t), .slice k.a k.n k.c, .slice a m c], .int .i64 q] w fun e w' => ∃ A n C, e = .returned (.slice A n C) ∧ CsW w' A n C (endsL (flatP q) t) ∧ Below w.heap.size w w' :=
  (refFlat_any w q t hwt k a m c w (Below.refl _ _) hA).mono fun e w' ⟨v, hs, he, ho, hd, hb⟩ => by
    obtain ⟨A, n, C, hv, hc⟩ := hd.csW ho hb
    exact ⟨A, n, C, by rw [he, hv], hc, hb⟩
end Go.Proofs.Ytokkafekdaniaaa.C
