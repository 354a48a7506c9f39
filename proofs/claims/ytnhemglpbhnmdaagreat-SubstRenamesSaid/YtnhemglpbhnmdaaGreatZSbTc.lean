/-
  What is proved: the names of the variables in the terms of claims, as package claim tells them.
-/
import Derived.Test.YtnhemglpbhnmdaaGreatZSbTb
import Derived.Test.YtnhemglpbhnmdaaGreatBC
namespace Go.Proofs.YtnhemglpbhnmdaaGreat.U
open Go.RowKit Go.Shelf L T C B Cs
set_option linter.unusedVariables false
set_option linter.unusedSimpArgs false

theorem wts_appN (l m : List Cl) : wts (l ++ m) = wts l + wts m := by
  induction l with
  | nil => rw [List.nil_append, wts]; omega
  | cons t l ih => rw [List.cons_append, wts, wts, ih]; omega
theorem tsAlls_app (l m : List Cl) : tsAlls (l ++ m) = tsAlls l ++ tsAlls m := by
  induction l with
  | nil => rfl
  | cons t l ih => rw [List.cons_append, tsAlls, tsAlls, ih, List.append_assoc]
set_option maxRecDepth 100000 in
/-- append(l, xs...), both rows of the call's own -/
theorem app_rowsT {w : World} {ops : Array Oper} {rest : List Oper} {o : Oper} {a : Act} {Q : Exit → Act → World → Prop} (hgd : o.guard = none) (s x : Operand)
    (ho : o.op = .call { callee := .builtin .append, args := #[s, x], argTypes := #[22, 22] })
    (base : Nat) (v : Value) (Y : List Hd) (hs : a.eval s = v) (hown : OwnT w base v Y) (base2 : Nat) (v2 : Value) (X : List Hd) (hx : a.eval x = v2) (hX : OwnT w base2 v2 X)
    (hn : Y.length + X.length ≤ 1000000000) (hbase : base ≤ w.heap.size)
    (h : ∀ v' w', OwnT w' base v' (Y ++ X) → w.grownBy w' v.ownBlock → wpList Tryz.prog ops Q rest (a.put o.dst v') w') : wpList Tryz.prog ops Q (o :: rest) a w := by
  obtain ⟨i0, hi, hz0, hz1, hz2⟩ := info_parts termI
  obtain ⟨A, c, hv2, hXc, hcm, hnil, hpos⟩ := hX.slice
  subst hv2
  cases A with
  | none =>
    have hc : c = 0 := hnil rfl
    have hX0 : X = [] := List.eq_nil_of_length_eq_zero (by omega)
    subst hX0
    subst hc
    refine wpList_append_own_none hgd s x 22 ho base 31 i0 4 Tryz.underlying22 hi v Y.length (flatH Y) hs hown hx (h v w ?_ ⟨rfl, rfl, rfl, Nat.le_refl _, fun _ _ _ => rfl⟩)
    rw [List.append_nil]; exact hown
  | some ad =>
    have hcells : ∀ j u, (flatH X)[j]? = some u → w.cell? (ad.add j) = some u := fun j u hj => by
      have hj2 : j < X.length * 4 := by have := (List.getElem?_eq_some_iff.1 hj).1; rwa [flat_len] at this
      obtain ⟨g, hg, _, _⟩ := hpos (by omega)
      injection hg with hg
      subst hg
      exact World.ownsRow.cells (g := g) hX rfl j u hj
    refine wpList_append_own w hgd s x 22 ho base 31 i0 _ 4 56 Tryz.underlying22 hi hz0 hz1 hz2 rfl (by decide) v Y.length (flatH Y) hs hown ad X.length c (flatH X) hx (by rw [flat_len]) hcells (hd_one _) (by unfold maxLen; omega) (by omega) hbase fun v' w' h1 h2 _ => h v' w' ?_ h2
    unfold OwnT
    rw [List.length_append, flat_app]
    exact h1
def TlR (w wr : World) (v : Value) (X : List Tm) : Prop := ∃ hs, OwnT wr w.heap.size v hs ∧ HdsT w.heap.size w hs X ∧ Below w.heap.size w wr
set_option maxRecDepth 100000 in
set_option maxHeartbeats 8000000 in
theorem ClaimNames_any (l : List Cl) (A : Option Addr) (n c : Nat) (w : World) (hG : CsW w A n c l) (hl : wts l ≤ 10000) :
    Calls Tryz.prog 13 #[.slice A n c] w fun e w' => ∃ v, e = .returned v ∧ OwnS w' w.heap.size v (names (tsAlls l)) ∧ Below w.heap.size w w' := by
  have hn : n = l.length := hG.1
  have hn63 : n ≤ 9223372036854775807 := by have := wts_len l; omega
  have HC := Lib.hid hG
  have HL := Lib.hid (show ∀ k, (tsAlls (l.take k)).length ≤ 10000 from fun k => by
    have h1 := len_sizes (tsAlls (l.take k))
    have h2 := tsAlls_size (l.take k)
    have h3 := wts_appN (l.take k) (l.drop k)
    rw [List.take_append_drop] at h3
    omega)
  have HW := Lib.hid (show ∀ k x, l[k]? = some x → wt x ≤ 10000 ∧ (tsAll x).length ≤ 10000 from fun k x h => by
    have h1 := wts_mem (List.mem_of_getElem? h)
    have h2 := len_sizes (tsAll x)
    have h3 := tsAll_size x
    omega)
  have HE := Lib.hid (show ∀ k, n ≤ k → tsAlls (l.take k) = tsAlls l from fun k h => by rw [List.take_of_length_le (by omega)])
  have HZ := Lib.hid (show sizes (tsAlls l) ≤ 10000000 from by have := tsAlls_size l; omega)
  have H0 : Hid (TlR w w (.slice none 0 0) (tsAlls (l.take 0))) := Lib.hid ⟨[], OwnT.nil _ _, by rw [List.take_zero]; exact HdsT.nil _ _, Below.refl _ _⟩
  clear hG hn hl
  go_enter Tryz.func13, Tryz.ntmps13
  go_wp2
  go_loopw [3, 8] (fun v i wr0 => ∃ (wr : World) (k : Nat) (v' : Value), v' = v ∧ wr = wr0 ∧ k ≤ n ∧ i = .int .i64 k ∧ Hid (TlR w wr v' (tsAlls (l.take k)))) (fun v i _ => n - (intOf i).toNat)
  case atStart => exact ⟨_, 0, _, rfl, rfl, by omega, rfl, H0⟩
  case round =>
    obtain ⟨wr, k, v, rfl, rfl, hk, rfl, hR⟩ := hrel
    obtain ⟨hs, ho, hd, hbr⟩ := hR.out
    by_cases hlt : k < n
    · obtain ⟨bb, o, x, ⟨xa, xn, xc⟩, AA, M, Cc, rfl, hbb, z0, z1, z2, z3, z4, hx, hax⟩ := HC.out.at hlt
      dsimp only at z3
      have y0 := (hbr.cell (p := ⟨bb, _, none⟩) hbb).trans z0
      have y1 := (hbr.cell (p := ⟨bb, _, none⟩) hbb).trans z1
      have y2 := (hbr.cell (p := ⟨bb, _, none⟩) hbb).trans z2
      have y3 := (hbr.cell (p := ⟨bb, _, none⟩) hbb).trans z3
      have y4 := (hbr.cell (p := ⟨bb, _, none⟩) hbb).trans z4
      obtain ⟨W3, hW3, hB3, hs3, S3⟩ := cbox1 wr (opC x) (nmC x) (soC x) ⟨xa, xn, xc⟩ AA M Cc
      dsimp only at hW3 S3
      obtain ⟨f0, f1, f2, f3, f4⟩ := S3.five
      obtain ⟨hw1, hw2⟩ := HW.out k x hx
      have hbr3 := hbr.trans (hB3.mono hbr.size)
      have cV := allTerms_any x ⟨xa, xn, xc⟩ AA M Cc w W3 hbr3 hax hw1
      have Hst := Lib.hid (show tsAlls (l.take (k + 1)) = tsAlls (l.take k) ++ tsAll x by rw [take_c hx, tsAlls_app, tsAlls, tsAlls, List.append_nil])
      have hlen1 : hs.length ≤ 10000 := by rw [hd.1]; exact HL.out k
      have HD := Lib.hid hd
      have ho3 := OwnT.below ho hB3
      have hsz := hbr3.size
      clear z0 z1 z2 z3 z4 hax hx HC hR hd S3 hs3
      generalize tsAll x = EX at *
      generalize opC x = op' at *
      generalize nmC x = nm' at *
      generalize soC x = so' at *
      dsimp only at cV f3
      have hk0 : 0 ≤ (k : Int) := by omega
      have hk1 : (k : Int) < (n : Int) := by omega
      go_wp2_with (first
        | (go_at_call 38; ((with_reducible refine cV.mono ?_); rintro e w5 ⟨v5, hs5, rfl, ho5, hd5, hb5⟩; have HD5 := Lib.hid hd5; have HO5 := Lib.hid ho5; have hl5 : hs5.length ≤ 10000 := (by rw [hd5.1]; exact hw2); clear hd5 ho5))
        | (at_builtin; ((refine app_rowsT rfl (.tmp 12) (.tmp 14) rfl w.heap.size v hs rfl (OwnT.below ho3 hb5) W3.heap.size v5 hs5 rfl HO5.out (by omega) (by have := hb5.size; omega) ?_); intro v6 w6 ho6 hg6; have hb6 : Below w.heap.size w w6 := (hbr3.trans (hb5.mono hbr3.size)).grown hg6 (by have := hb5.size; omega) (fun q hq => (World.ownsRow.lt (OwnT.below ho3 hb5) q hq).1))))
      go_roundw
      case rel => exact ⟨_, k + 1, v6, rfl, rfl, by omega, by go_num, Lib.hid ⟨hs ++ hs5, ho6, by rw [Hst.out]; exact HD.out.app HD5.out, hb6⟩⟩
      case measure => simp [intOf]; omega
    · have hkn : k = n := by omega
      obtain ⟨A', c', hv, -⟩ := ho.slice
      subst hv
      have hT : TsW wr A' hs.length c' (tsAlls l) := by
        rw [HE.out k (by omega)] at hd
        refine OwnT.isT ho (Nat.le_refl _) hd.1.symm fun k hk hk2 => ?_
        obtain ⟨e1, e2, e3, e4⟩ := hd.2 k hs[k] (tsAlls l)[k] (List.getElem?_eq_getElem hk2) (List.getElem?_eq_getElem hk)
        exact ⟨e1, e2, e3, ArP.ar (P := fun b => b < w.heap.size) (fun b hb => by have := hbr.size; omega) _ (ArP.to (fun b hb => hbr.block b hb) (fun b hb => hb) _ e4)⟩
      have cN := T.Names_any (tsAlls l) A' hs.length c' wr hT HZ.out
      clear hR hd HC HE HZ HW HL ho
      go_wp2_with (go_at_call 39; ((with_reducible refine cN.mono ?_); rintro e w5 ⟨v5, rfl, ho5, hb5⟩))
      go_ret
      exact ⟨v5, rfl, OwnS.base ho5 hbr.size, hbr.trans (hb5.mono hbr.size)⟩
end Go.Proofs.YtnhemglpbhnmdaaGreat.U
