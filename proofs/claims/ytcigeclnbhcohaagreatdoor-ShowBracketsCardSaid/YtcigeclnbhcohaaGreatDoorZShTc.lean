/-
  What is proved: the text of a bound number, of a number, of a name with arguments, of a negation and of a product, by a scope.
-/
import Derived.Test.YtcigeclnbhcohaaGreatDoorZShTa
namespace Go.Proofs.YtcigeclnbhcohaaGreatDoor.Sh
open Go.RowKit L T C
set_option linter.unusedVariables false
set_option linter.unusedSimpArgs false
set_option maxRecDepth 100000

theorem setCell_same {w : World} {g k : Nat} {v : Value} {cur : Array Value} {t : TypeId} (hg : w.heap[g]? = some (.cells cur t (0, 0))) (hk : cur[k]? = some v) : w.setCell ⟨g, k, none⟩ v = w := by
  have hlt := (Array.getElem?_eq_some_iff.1 hg).1
  have hx : (w.setCell ⟨g, k, none⟩ v).heap = w.heap := by
    refine Array.ext_getElem? fun i => ?_
    by_cases e : i = g
    · subst e
      rw [heap_setCell_same w i k _ _ v hg, hg]
      congr 2
      refine Array.ext_getElem? fun j => ?_
      rw [Array.getElem?_setIfInBounds]
      by_cases e2 : k = j
      · subst e2
        have := (Array.getElem?_eq_some_iff.1 hk).1
        rw [if_pos rfl, if_pos this, hk]
      · rw [if_neg e2]
    · exact heap_setCell_other w ⟨g, k, none⟩ i v e
  unfold World.setCell at hx ⊢
  cases w
  simp only at hx ⊢
  rw [hx]
/-- the operator's block, and what a store of what it holds does to it -/
theorem obox2 (w : World) (s : ByteArray) (x : Int) : ∃ W, w.alloc (.cells #[.string s, .int .i64 x] 85) = W ∧ Below w.heap.size w W ∧ W.heap.size = w.heap.size + 1 ∧ W.cell? ⟨w.heap.size, 0, none⟩ = some (.string s) ∧ W.cell? ⟨w.heap.size, 1, none⟩ = some (.int .i64 x) ∧
    W.setCell ⟨w.heap.size, 0, none⟩ (.string s) = W ∧ W.setCell ⟨w.heap.size, 1, none⟩ (.int .i64 x) = W ∧ W.frozen? ⟨w.heap.size, 0, none⟩ = false ∧ W.frozen? ⟨w.heap.size, 1, none⟩ = false :=
  ⟨_, rfl, bel_alloc (Below.refl _ _) _, by simp, Blk.cell (Blk.new w _ _) 0, Blk.cell (Blk.new w _ _) 1, setCell_same (Blk.new w _ _) rfl, setCell_same (Blk.new w _ _) rfl, Blk.free (Blk.new w _ _) 0, Blk.free (Blk.new w _ _) 1⟩

set_option maxHeartbeats 4000000 in
theorem term_bound {W : World} (E : Env W) {bs : List ByteArray} (hbs : bs.length ≤ 1000000) (s : ByteArray) (nu : Int) (h0 : 0 ≤ nu) (h1 : nu ≤ 9223372036854775807)
    (z : Sv) (fr : List ByteArray) (m : Int) (a : Option Addr) (n c : Nat) (w : World) (hw : Below W.heap.size W w) (hz : z.ok w fr bs) :
    Calls Tryz.prog 33 #[z.val, .agg #[.int .i64 2, .string s, .int .i64 nu, .slice a n c], .int .i64 m] w fun e w' => e = .returned (.string (bnd bs nu)) ∧ Below w.heap.size w w' := by
  obtain ⟨W1, hW1, hB1, hs1, S1, T1⟩ := sbox2 w z.a z.n z.c z.b z.m z.d 2 s nu a n c
  obtain ⟨W2, hW2, hB2, hs2, p0, p1, i0, i1, f0, f1⟩ := obox2 W1 ⟨#[]⟩ 0
  have hB12 : Below w.heap.size w W2 := bel_trans hB1 hB2
  obtain ⟨g0, g1⟩ : W1.cell? ⟨0, 4, none⟩ = some (.string ⟨#[]⟩) ∧ W1.cell? ⟨0, 5, none⟩ = some (.int .i64 0) := E.top W1 (hw.trans (hB1.mono hw.size)) 2 (by decide)
  obtain ⟨s0, s1⟩ := (S1.bl hB2).two
  obtain ⟨t0, t1, t2, t3⟩ := (TBox.b T1 hB2).four
  obtain ⟨u0, u1, u2, u3⟩ := T1.four
  rw [hs1] at p0 p1 i0 i1 f0 f1
  have cb := bound_any E z fr bs nu h0 h1 W2 (hw.trans (hB12.mono hw.size)) (hz.bl hB12) hbs
  unfold Sv.val at cb ⊢
  clear hz S1 T1 E hw hB1 hB2
  generalize bnd bs nu = R at *
  obtain ⟨za, zn, zc, zb, zm, zd⟩ := z
  dsimp only at *
  go_enter Tryz.func33, Tryz.ntmps33
  go_wp2_with (go_at_call 56; ((with_reducible refine cb.mono ?_); rintro e w8 ⟨rfl, hb8⟩))
  go_ret
  exact ⟨rfl, bel_trans hB12 hb8⟩

set_option maxHeartbeats 4000000 in
theorem term_apply {W : World} (E : Env W) {bs : List ByteArray} (o : Int) (ho : o = 1 ∨ o = 3) (l : List Tm) (hok : ∀ x ∈ l, TermOk W bs x) (s : ByteArray) (nu : Int) (hs : s.size ≤ 100) (ht : tot (tXs bs l) ≤ 1000000000)
    (z : Sv) (fr : List ByteArray) (m : Int) (a : Option Addr) (n c : Nat) (w : World) (hw : Below W.heap.size W w) (hz : z.ok w fr bs) (hA : TsW w a n c l) (hn : n ≤ 1000000) :
    Calls Tryz.prog 33 #[z.val, .agg #[.int .i64 o, .string s, .int .i64 nu, .slice a n c], .int .i64 m] w fun e w' => e = .returned (.string (apX s (tXs bs l))) ∧ Below w.heap.size w w' := by
  obtain ⟨W1, hW1, hB1, hs1, S1, T1⟩ := sbox2 w z.a z.n z.c z.b z.m z.d o s nu a n c
  obtain ⟨W2, hW2, hB2, hs2, p0, p1, i0, i1, f0, f1⟩ := obox2 W1 ⟨#[]⟩ 0
  have hB12 : Below w.heap.size w W2 := bel_trans hB1 hB2
  have hgo : (o = 1 ∧ W1.cell? ⟨0, 2, none⟩ = some (.string ⟨#[]⟩) ∧ W1.cell? ⟨0, 3, none⟩ = some (.int .i64 0)) ∨ (o = 3 ∧ W1.cell? ⟨0, 6, none⟩ = some (.string ⟨#[]⟩) ∧ W1.cell? ⟨0, 7, none⟩ = some (.int .i64 0)) := by
    rcases ho with rfl | rfl
    · exact .inl ⟨rfl, E.top W1 (hw.trans (hB1.mono hw.size)) 1 (by decide)⟩
    · exact .inr ⟨rfl, E.top W1 (hw.trans (hB1.mono hw.size)) 3 (by decide)⟩
  obtain ⟨s0, s1⟩ := (S1.bl hB2).two
  obtain ⟨t0, t1, t2, t3⟩ := (TBox.b T1 hB2).four
  obtain ⟨u0, u1, u2, u3⟩ := T1.four
  rw [hs1] at p0 p1 i0 i1 f0 f1
  have cb := applied_any E l hok s hs ht z fr a n c W2 (hw.trans (hB12.mono hw.size)) (hz.bl hB12) (TsW.b hA hB12) hn
  unfold Sv.val at cb ⊢
  clear hz S1 T1 E hw hB1 hB2 hok hA ho ht
  generalize apX s (tXs bs l) = R at *
  obtain ⟨za, zn, zc, zb, zm, zd⟩ := z
  dsimp only at *
  rcases hgo with ⟨rfl, g0, g1⟩ | ⟨rfl, g0, g1⟩
  all_goals
    go_enter Tryz.func33, Tryz.ntmps33
    go_wp2_with (go_at_call 60; ((with_reducible refine cb.mono ?_); rintro e w8 ⟨rfl, hb8⟩))
    go_ret
    exact ⟨rfl, bel_trans hB12 hb8⟩

/-- an operand of a minus -/
theorem negated_any {W : World} (E : Env W) {bs : List ByteArray} (x : Tm) (hx : TermOk W bs x) (hsx : (tX bs x).size ≤ 1000000000) (hn : opT x = 4 → -9223372036854775808 ≤ numT x ∧ numT x ≤ 9223372036854775807)
    (z : Sv) (fr : List ByteArray) (a : Option Addr) (n c : Nat) (w : World) (hw : Below W.heap.size W w) (hz : z.ok w fr bs) (hA : ArW w x a n c) :
    Calls Tryz.prog 59 #[z.val, .agg #[.int .i64 (opT x), .string (nameT x), .int .i64 (numT x), .slice a n c]] w fun e w' => e = .returned (.string (par (needN x) (tX bs x))) ∧ Below w.heap.size w w' := by
  obtain ⟨W1, hW1, hB1, hs1, S1, T1⟩ := sbox2 w z.a z.n z.c z.b z.m z.d (opT x) (nameT x) (numT x) a n c
  obtain ⟨s0, s1⟩ := S1.two
  obtain ⟨t0, t1, t2, t3⟩ := T1.four
  have hw1 : Below W.heap.size W W1 := hw.trans (hB1.mono hw.size)
  by_cases h4 : opT x = 4
  · have hr : par (needN x) (tX bs x) = par true (dig (numT x)) := by
      have h1 : needN x = true := by unfold needN; rw [h4]; rfl
      rw [h1]
      cases x with
      | mk o s z l =>
        have : o = 4 := h4
        subst this
        rw [tX_num]; rfl
    have ct := E.text (numT x) (hn h4).1 (hn h4).2 W1 hw1
    have hd := dig_size (hn h4).1 (hn h4).2
    have cP := par_any (dig (numT x)) true (by omega)
    rw [hr, h4]
    rw [h4] at hW1 t0
    unfold Sv.val
    clear hx hz hA S1 T1 hr hn E hw hw1 hd h4
    generalize par true (dig (numT x)) = R at *
    generalize dig (numT x) = D at *
    generalize nameT x = nm at *
    generalize numT x = nu at *
    obtain ⟨za, zn, zc, zb, zm, zd⟩ := z
    dsimp only at *
    go_enter Tryz.func59, Tryz.ntmps59
    go_wp2_with (first
      | (go_at_call 58; ((with_reducible refine ct.mono ?_); rintro e w2 ⟨rfl, hb2⟩))
      | (go_at_call 57; ((with_reducible refine (cP _).mono ?_); rintro e w3 ⟨rfl, hb3⟩)))
    go_ret
    exact ⟨rfl, bel_trans (bel_trans hB1 hb2) hb3⟩
  · have hr : par (needN x) (tX bs x) = tP bs 0 x := by
      unfold needN tP
      rw [beq_no' h4, Bool.false_or]
    have ct := hx z fr 0 a n c W1 hw1 (hz.bl hB1) (ArW.b hA hB1) (by omega) (by omega)
    rw [hr]
    have k4 := beq_no' h4
    unfold Sv.val at ct ⊢
    clear hx hz hA S1 T1 hr hn E hw hw1
    generalize tP bs 0 x = R at *
    generalize opT x = op at *
    generalize nameT x = nm at *
    generalize numT x = nu at *
    obtain ⟨za, zn, zc, zb, zm, zd⟩ := z
    dsimp only at *
    go_enter Tryz.func59, Tryz.ntmps59
    go_wp2_with (go_at_call 33; ((with_reducible refine ct.mono ?_); rintro e w2 ⟨rfl, hb2⟩))
    go_ret
    exact ⟨rfl, bel_trans hB1 hb2⟩
end Go.Proofs.YtcigeclnbhcohaaGreatDoor.Sh
