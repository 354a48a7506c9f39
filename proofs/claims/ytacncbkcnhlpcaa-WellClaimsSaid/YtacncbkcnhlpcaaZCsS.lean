/-
  What is proved: how many parts a claim has, and how deep it is, as package tree tells for few parts.
-/
import Derived.Test.YtacncbkcnhlpcaaZCsV
import Derived.Test.YtacncbkcnhlpcaaBT
import Derived.Test.YtacncbkcnhlpcaaZRgtM
namespace Go.Proofs.Ytacncbkcnhlpcaa.Cs
open Go.RowKit Go.Shelf L T C
set_option linter.unusedVariables false
set_option linter.unusedSimpArgs false
attribute [local go_sem] Oper.semAt_some

mutual
def szC : Cl → Nat
  | .mk _ _ _ _ l => 1 + szCs l
def szCs : List Cl → Nat
  | [] => 0
  | t :: l => szC t + szCs l
end
theorem szCs_app (l m : List Cl) : szCs (l ++ m) = szCs l + szCs m := by
  induction l with
  | nil => rw [List.nil_append, szCs]; omega
  | cons t l ih => rw [List.cons_append, szCs, szCs, ih]; omega
theorem szCs_lt {t : Cl} {l : List Cl} {k : Nat} (h : l[k]? = some t) : szCs (l.take k) + szC t ≤ szCs l := by
  have e := szCs_app (l.take k) (l.drop k)
  rw [List.take_append_drop, drop_c h, szCs] at e
  omega
theorem szC_mk (t : Cl) : szC t = 1 + szCs (subC t) := by cases t; rw [szC]; rfl
theorem few1_any (g : Nat) (o : Int) (s z : ByteArray) (ks : SS) (a : Option Addr) (m c q : Nat) (W : World) (hq : q ≤ 4096) (hg : Blk W g #[.int .i64 q] 3) :
    Calls Try.prog 110 #[.agg #[.int .i64 o, .string s, .string z, .slice ks.a ks.n ks.c, .slice a m c], .pointer (some ⟨g, 0, none⟩)] W fun e W' => e = .returned (.bool (decide (q + 1 ≤ 4096))) ∧ Blk W' g #[.int .i64 (q + 1)] 3 ∧ W.grownBy W' (some g) := by
  have hg2 := Blk.alloc hg (.cells #[.int .i64 o, .string s, .string z, .slice ks.a ks.n ks.c, .slice a m c] 46)
  obtain ⟨W2, hW2⟩ : ∃ W2, W.alloc (.cells #[.int .i64 o, .string s, .string z, .slice ks.a ks.n ks.c, .slice a m c] 46) = W2 := ⟨_, rfl⟩
  have hgr : W.grownBy W2 (some g) := by rw [← hW2]; exact World.grownBy_alloc W _ _
  rw [hW2] at hg2
  have c0 := Blk.cell hg2 0
  have q0 := Blk.free hg2 0
  have hs := blk_cell_set hg2 (.int .i64 ((q : Int) + 1))
  have c1 := Blk.cell hs 0
  have he : decide ((q : Int) + 1 ≤ 4096) = decide (q + 1 ≤ 4096) := by rw [decide_eq_decide]; omega
  have He := Lib.hid he
  clear he
  go_enter Try.func110, Try.ntmps110
  go_wp2
  go_ret
  exact ⟨oneB He.out, hs, gr_set hgr _ _⟩

def VisitCntOk (B : Nat) (w0 : World) (g : Nat) (t : Cl) : Prop :=
  ∀ (ks : SS) (a : Option Addr) (m c q : Nat) (W : World), ArC B w0 t ks a m c → Below B w0 W → B ≤ g → q ≤ 4096 → Blk W g #[.int .i64 q] 3 →
    Calls Try.prog 105 #[.agg #[.int .i64 (opC t), .string (nmC t), .string (soC t), .slice ks.a ks.n ks.c, .slice a m c], .func (.func 86) #[] #[], .func (.func 110) #[] #[.pointer (some ⟨g, 0, none⟩)]] W fun e W' =>
      W.grownBy W' (some g) ∧ ((q + szC t ≤ 4096 ∧ e = .returned (.bool true) ∧ Blk W' g #[.int .i64 ((q + szC t : Nat) : Int)] 3) ∨ (4096 < q + szC t ∧ e = .returned (.bool false) ∧ Blk W' g #[.int .i64 4097] 3))

set_option maxRecDepth 100000 in
set_option maxHeartbeats 4000000 in
theorem visitCnt_step (B : Nat) (w0 : World) (g : Nat) (t : Cl) (hok : ∀ x ∈ subC t, VisitCntOk B w0 g x) : VisitCntOk B w0 g t := by
  intro ks a m c q W hA hB hBg hq hgb
  obtain ⟨W2, hW2, hB2, hs2, S2⟩ := cbox1 W (opC t) (nmC t) (soC t) ks a m c
  have hlt := Blk.lt hgb
  have hg2 := Blk.below hgb hB2
  have c1 := few1_any g (opC t) (nmC t) (soC t) ks a m c q W2 hq hg2
  have hgr2 : W.grownBy W2 (some g) := by rw [← hW2]; exact World.grownBy_alloc W _ _
  have hT := (ar_isC.1 hA).2
  have hsz : szC t = 1 + szCs (subC t) := by cases t; rw [szC]; rfl
  obtain ⟨s0, s1, s2, s3, s4⟩ := S2.five
  by_cases hq6 : q = 4096
  · subst hq6
    clear hT hA hok hg2
    generalize opC t = op at *
    generalize nmC t = nm at *
    generalize soC t = nu at *
    go_enter Try.func105, Try.ntmps105
    go_wp2_with (go_at_call 110; ((with_reducible refine c1.mono ?_); rintro e W3 ⟨rfl, hg3, hgr3⟩))
    go_ret
    exact ⟨hgr2.trans hgr3, .inr ⟨by omega, rfl, hg3⟩⟩
  · have hq7 : decide (q + 1 ≤ 4096) = true := by simp; omega
    rw [hq7] at c1
    have hn : m ≤ 9223372036854775807 := by have h1 := hT.2.1; have h2 := hT.2.2.1; unfold maxLen at h2; omega
    have HT := Lib.hid hT
    have HK := Lib.hid (show ∀ k x, (subC t)[k]? = some x → VisitCntOk B w0 g x from fun k x h => hok x (List.mem_of_getElem? h))
    have HS := Lib.hid S2
    have hne : W.heap.size ≠ g := by omega
    have HSZ := Lib.hid hsz
    clear hT hA hok hg2 hq7 hsz S2
    generalize hla : subC t = la at *
    have HLa := Lib.hid hla
    clear hla
    generalize opC t = op at *
    generalize nmC t = nm at *
    generalize soC t = nu at *
    generalize szC t = sz at *
    go_enter Try.func105, Try.ntmps105
    go_wp2_with (first
      | (go_at_call 110; ((with_reducible refine c1.mono ?_); rintro e W3 ⟨rfl, hg3, hgr3⟩; obtain ⟨u0, u1, u2, u3, u4⟩ := CBox.five (gr_blk HS.out hgr3 hne)))
      | (go_at_call 86; ((with_reducible refine (subs_any _ _ _ _ _ _ _ W3).mono ?_); rintro e W3b ⟨rfl, hW3b⟩; have HW3 := Lib.hid hW3b; clear hW3b)))
    have hgr3b : W.grownBy W3b (some g) := by rw [HW3.out]; exact gr_alloc (hgr2.trans hgr3) _
    have hg3b : Blk W3b g #[.int .i64 ((q + 1 : Nat) : Int)] 3 := by rw [HW3.out]; exact Blk.alloc (by simpa using hg3) _
    clear HW3
    go_loopw [17] (fun i wr0 => ∃ (wr : World) (k : Nat), wr = wr0 ∧ k ≤ m ∧ i = .int .i64 k ∧ W.grownBy wr (some g) ∧ q + 1 + szCs (la.take k) ≤ 4096 ∧ Blk wr g #[.int .i64 ((q + 1 + szCs (la.take k) : Nat) : Int)] 3) (fun i _ => m - (intOf i).toNat)
    case atStart => exact ⟨_, 0, rfl, by omega, rfl, hgr3b, by simp [szCs]; omega, by simpa [szCs] using hg3b⟩
    case round =>
      obtain ⟨wr, k, rfl, hk, rfl, hGr, hqk, hgk⟩ := hrel
      have hBr : Below B w0 wr := hB.trans (gr_below hGr (by omega) hBg)
      by_cases hlk : k < m
      · obtain ⟨bb, o, x, kk, A, M, Cc, rfl, hb, z0, z1, z2, z3, z4, hx, hok⟩ := HT.out.at hlk
        have y0 := (hBr.cell (p := ⟨bb, _, none⟩) hb).trans z0
        have y1 := (hBr.cell (p := ⟨bb, _, none⟩) hb).trans z1
        have y2 := (hBr.cell (p := ⟨bb, _, none⟩) hb).trans z2
        have y3 := (hBr.cell (p := ⟨bb, _, none⟩) hb).trans z3
        have y4 := (hBr.cell (p := ⟨bb, _, none⟩) hb).trans z4
        obtain ⟨W4, hW4, hB4, hs4, S4⟩ := cbox1 wr (opC x) (nmC x) (soC x) kk A M Cc
        have hgr4 : wr.grownBy W4 (some g) := by rw [← hW4]; exact World.grownBy_alloc wr _ _
        have cv := HK.out k x hx kk A M Cc (q + 1 + szCs (la.take k)) W4 hok (hBr.trans (hB4.mono (by have := hGr.size; omega))) hBg hqk (Blk.below hgk hB4)
        have hlts := szCs_lt hx
        have htk : szCs (la.take (k + 1)) = szCs (la.take k) + szC x := by rw [take_c hx, szCs_app, szCs, szCs]; omega
        obtain ⟨f0, f1, f2, f3, f4⟩ := S4.five
        have HG := Lib.hid hgk
        have HTk := Lib.hid htk
        clear z0 z1 z2 z3 z4 hok HK HT S4 hgk htk
        have Hx := Lib.hid hx
        clear hx
        generalize opC x = op' at *
        generalize nmC x = nm' at *
        generalize soC x = nu' at *
        generalize szC x = sx at *
        have hk0 : 0 ≤ (k : Int) := by omega
        have hk1 : (k : Int) < (m : Int) := by omega
        generalize hsk : szCs (la.take k) = sk at *
        go_wp2_with (go_at_call 105; ((with_reducible refine cv.mono ?_); rintro e W5 ⟨hgr5, (⟨hle, rfl, hb5⟩ | ⟨hgt, rfl, hb5⟩)⟩; all_goals (have Hb := Lib.hid hb5; clear hb5)))
        · go_roundw
          case rel => exact ⟨_, k + 1, rfl, by omega, by go_num, (hGr.trans hgr4).trans hgr5, by rw [HTk.out]; omega, by
            rw [HTk.out, show q + 1 + (sk + sx) = q + 1 + sk + sx by omega]; exact Hb.out⟩
          case measure => simp [intOf]; omega
        · go_ret
          refine ⟨(hGr.trans hgr4).trans hgr5, .inr ⟨?_, rfl, Hb.out⟩⟩
          have := HSZ.out
          omega
      · obtain rfl : k = m := by omega
        have hfin : q + sz = q + 1 + szCs (la.take k) := by
          rw [HSZ.out, List.take_of_length_le (by have := HT.out.1; omega)]; omega
        have Hf := Lib.hid hfin
        have HG := Lib.hid hgk
        clear hfin hgk
        go_wp2
        go_ret
        exact ⟨hGr, .inl ⟨by rw [Hf.out]; exact hqk, rfl, by rw [Hf.out]; exact HG.out⟩⟩
theorem visitCnt_any (B : Nat) (w0 : World) (g : Nat) (t : Cl) : VisitCntOk B w0 g t := Cl.ind (visitCnt_step B w0 g) t
set_option maxHeartbeats 4000000 in
theorem few_any (t : Cl) (ks : SS) (a : Option Addr) (m c : Nat) (w : World) (hA : ArWC w t ks a m c) :
    Calls Try.prog 101 #[.agg #[.int .i64 (opC t), .string (nmC t), .string (soC t), .slice ks.a ks.n ks.c, .slice a m c], .func (.func 86) #[] #[]] w fun e w' => e = .returned (.bool (decide (szC t ≤ 4096))) ∧ Below w.heap.size w w' := by
  obtain ⟨W2, hW2, hB2, hs2, S2⟩ := cbox1 w (opC t) (nmC t) (soC t) ks a m c
  obtain ⟨W1, hW1⟩ : ∃ W1, W2.alloc (.cells #[.int .i64 0] 3) = W1 := ⟨_, rfl⟩
  have hB1 : Below W2.heap.size W2 W1 := by rw [← hW1]; exact bel_alloc (Below.refl _ _) _
  have hg1 : Blk W1 (w.heap.size + 1) #[.int .i64 0] 3 := by rw [← hW1, ← hs2]; exact Blk.new W2 _ _
  have k1 := Blk.cell hg1 0
  have k2 := Blk.free hg1 0
  obtain ⟨W3, hW3⟩ : ∃ W3, W1.setCell ⟨w.heap.size + 1, 0, none⟩ (.int .i64 0) = W3 := ⟨_, rfl⟩
  have hB3 : Below W2.heap.size W2 W3 := by rw [← hW3]; exact below_set hB1 (by omega) _ _
  have hg : Blk W3 (w.heap.size + 1) #[.int .i64 ((0 : Nat) : Int)] 3 := by rw [← hW3]; exact blk_cell_set hg1 _
  have cv := visitCnt_any w.heap.size w (w.heap.size + 1) t ks a m c 0 W3 hA (hB2.trans (hB3.mono hB2.size)) (by omega) (by omega) hg
  have S3 := S2.b hB3
  obtain ⟨u0, u1, u2, u3, u4⟩ := S3.five
  have hBB := bel_trans hB2 hB3
  have hsz3 : w.heap.size ≤ W3.heap.size := hBB.size
  have h1 : ∀ n : Nat, n = 0 + szC t → n ≤ 4096 → true = decide (szC t ≤ 4096) := fun n h h2 => (decide_eq_true (by omega)).symm
  have h2 : 4096 < 0 + szC t → false = decide (szC t ≤ 4096) := fun h => (decide_eq_false (by omega)).symm
  clear S2 S3 hA
  generalize hR : decide (szC t ≤ 4096) = R at *
  clear hR
  have H1 := Lib.hid (h1 _ rfl)
  have H2 := Lib.hid h2
  clear h1 h2
  generalize 0 + szC t = sz at *
  generalize opC t = op at *
  generalize nmC t = nm at *
  generalize soC t = nu at *
  go_enter Try.func101, Try.ntmps101
  go_wp2_with (go_at_call 105; ((with_reducible refine cv.mono ?_); rintro e W5 ⟨hgr5, (⟨hle, rfl, hb5⟩ | ⟨hgt, rfl, hb5⟩)⟩; all_goals (have c5 := Blk.cell hb5 0)))
  · go_ret
    exact ⟨oneB (H1.out hle), hBB.trans (gr_below hgr5 (by omega) (by omega))⟩
  · go_ret
    exact ⟨oneB (H2.out hgt), hBB.trans (gr_below hgr5 (by omega) (by omega))⟩
end Go.Proofs.Ytacncbkcnhlpcaa.Cs
