/-
  What is proved: package term's two closures over a list of terms, which compare the terms at two places.
  What is proved: how many parts a term has, as package term and the document count them, up to one more than the greatest number.
  What is proved: the library's insertion sort of a row of places, by the comparison of the terms at them.
  What is proved: how deep a term is, as package term counts it for terms of few parts, and as the document does.
-/
import Derived.Test.YteidknjhponpkaaBT
import Derived.Deep.RegionHeld3
import Derived.Test.YteidknjhponpkaaBL
namespace Go.Proofs.Yteidknjhponpkaa.T
open Go.RowKit L
set_option linter.unusedVariables false
set_option linter.unusedSimpArgs false

def dft : Tm := .mk 0 ⟨#[]⟩ 0 []
def atL (l : List Tm) (i : Nat) : Tm := l.getD i dft
theorem atL_some {l : List Tm} {i : Nat} {t : Tm} (h : l[i]? = some t) : atL l i = t := by unfold atL; rw [List.getD_eq_getElem?_getD, h]; rfl

set_option maxRecDepth 100000 in
set_option maxHeartbeats 4000000 in
theorem firsts1_any (gc gl : Nat) (A : Option Addr) (n c : Nat) (l : List Tm) (i j : Nat) (w : World) (hgc : Blk w gc #[.func (.func 19) #[] #[]] 36) (hg : Blk w gl #[.slice A n c] 22) (hT : TsW w A n c l) (hi : i < n) (hj : j < n) :
    Calls Try.prog 65 #[.int .i64 i, .int .i64 j, .pointer (some ⟨gc, 0, none⟩), .pointer (some ⟨gl, 0, none⟩)] w fun e w' => e = .returned (.int .i64 (cmpT (atL l i) (atL l j))) ∧ Below w.heap.size w w' := by
  obtain ⟨bb, o, t, A1, M, Cc, rfl, hb, y0, y1, y2, y3, hx, hok⟩ := hT.at hi
  obtain ⟨bb', o', u, A', M', Cc', h2, hb', z0, z1, z2, z3, hx', hok'⟩ := hT.at hj
  injection h2 with h2
  injection h2 with h2 h3
  subst h2 h3
  rw [atL_some hx, atL_some hx']
  have hn : n ≤ 9223372036854775807 := by have h1 := hT.2.1; have h2 := hT.2.2.1; unfold maxLen at h2; omega
  have hBd : Below w.heap.size w w.drew := (Below.refl _ _).drew
  have cs := Compare_any t u A1 M Cc A' M' Cc' w.drew (ArW.b hok hBd) (ArW.b hok' hBd)
  have lg := Blk.lt hg
  have c0 := Blk.cell hg 0
  have lc := Blk.lt hgc
  have cc0 := Blk.cell hgc 0
  clear hx hx' hok hok' hT
  generalize cmpT t u = R at *
  generalize opT t = op2 at *
  generalize nameT t = nm2 at *
  generalize numT t = nu2 at *
  generalize opT u = op3 at *
  generalize nameT u = nm3 at *
  generalize numT u = nu3 at *
  have hi0 : 0 ≤ (i : Int) := by omega
  have hi1 : (i : Int) < (n : Int) := by omega
  have hj0 : 0 ≤ (j : Int) := by omega
  have hj1 : (j : Int) < (n : Int) := by omega
  go_enter Try.func65, Try.ntmps65
  go_wp2_with fail
  go_region_held3 (fun w' => w'.cell? ⟨gc, 0, none⟩ = some (.func (.func 19) #[] #[]) ∧ w'.cell? ⟨gl, 0, none⟩ = some (.slice (some ⟨bb, o, none⟩) n c) ∧ w'.cell? ⟨bb, o + i * 4, none⟩ = some (.int .i64 op2) ∧ w'.cell? ⟨bb, o + i * 4 + 1, none⟩ = some (.string nm2) ∧ w'.cell? ⟨bb, o + i * 4 + 1 + 1, none⟩ = some (.int .i64 nu2) ∧ w'.cell? ⟨bb, o + i * 4 + 1 + 1 + 1, none⟩ = some (.slice A1 M Cc) ∧ w'.cell? ⟨bb, o + j * 4, none⟩ = some (.int .i64 op3) ∧ w'.cell? ⟨bb, o + j * 4 + 1, none⟩ = some (.string nm3) ∧ w'.cell? ⟨bb, o + j * 4 + 1 + 1, none⟩ = some (.int .i64 nu3) ∧ w'.cell? ⟨bb, o + j * 4 + 1 + 1 + 1, none⟩ = some (.slice A' M' Cc'))
    (first | go_keep | (exact ⟨(B4.cell lc).trans cc0, (B4.cell lg).trans c0, (B4.cell hb).trans y0, (B4.cell hb).trans y1, (B4.cell hb).trans y2, (B4.cell hb).trans y3, (B4.cell hb).trans z0, (B4.cell hb).trans z1, (B4.cell hb).trans z2, (B4.cell hb).trans z3⟩))
    (first | (go_at_call 19; ((with_reducible refine cs.mono ?_); rintro e w4 ⟨rfl, hb4⟩; have B4 := bel_trans hBd hb4)))
  go_wp2
  go_ret
  exact ⟨rfl, B4⟩
set_option maxRecDepth 100000 in
set_option maxHeartbeats 4000000 in
theorem firsts2_any (gc gl : Nat) (A : Option Addr) (n c : Nat) (l : List Tm) (i j : Nat) (w : World) (hgc : Blk w gc #[.func (.func 19) #[] #[]] 36) (hg : Blk w gl #[.slice A n c] 22) (hT : TsW w A n c l) (hi : i < n) (hj : j < n) :
    Calls Try.prog 67 #[.int .i64 i, .int .i64 j, .pointer (some ⟨gc, 0, none⟩), .pointer (some ⟨gl, 0, none⟩)] w fun e w' => e = .returned (.bool (eqT (atL l i) (atL l j))) ∧ Below w.heap.size w w' := by
  obtain ⟨bb, o, t, A1, M, Cc, rfl, hb, y0, y1, y2, y3, hx, hok⟩ := hT.at hi
  obtain ⟨bb', o', u, A', M', Cc', h2, hb', z0, z1, z2, z3, hx', hok'⟩ := hT.at hj
  injection h2 with h2
  injection h2 with h2 h3
  subst h2 h3
  rw [atL_some hx, atL_some hx']
  have hn : n ≤ 9223372036854775807 := by have h1 := hT.2.1; have h2 := hT.2.2.1; unfold maxLen at h2; omega
  have hBd : Below w.heap.size w w.drew := (Below.refl _ _).drew
  have cs := Compare_any t u A1 M Cc A' M' Cc' w.drew (ArW.b hok hBd) (ArW.b hok' hBd)
  have lg := Blk.lt hg
  have c0 := Blk.cell hg 0
  have lc := Blk.lt hgc
  have cc0 := Blk.cell hgc 0
  clear hx hx' hok hok' hT
  have he : eqT t u = (cmpT t u == 0) := by rw [Bool.eq_iff_iff, eqT_iff, beq_iff_eq, linT.eq]
  rw [he]
  clear he
  generalize cmpT t u = R at *
  generalize opT t = op2 at *
  generalize nameT t = nm2 at *
  generalize numT t = nu2 at *
  generalize opT u = op3 at *
  generalize nameT u = nm3 at *
  generalize numT u = nu3 at *
  have hi0 : 0 ≤ (i : Int) := by omega
  have hi1 : (i : Int) < (n : Int) := by omega
  have hj0 : 0 ≤ (j : Int) := by omega
  have hj1 : (j : Int) < (n : Int) := by omega
  go_enter Try.func67, Try.ntmps67
  go_wp2_with fail
  go_region_held3 (fun w' => w'.cell? ⟨gc, 0, none⟩ = some (.func (.func 19) #[] #[]) ∧ w'.cell? ⟨gl, 0, none⟩ = some (.slice (some ⟨bb, o, none⟩) n c) ∧ w'.cell? ⟨bb, o + i * 4, none⟩ = some (.int .i64 op2) ∧ w'.cell? ⟨bb, o + i * 4 + 1, none⟩ = some (.string nm2) ∧ w'.cell? ⟨bb, o + i * 4 + 1 + 1, none⟩ = some (.int .i64 nu2) ∧ w'.cell? ⟨bb, o + i * 4 + 1 + 1 + 1, none⟩ = some (.slice A1 M Cc) ∧ w'.cell? ⟨bb, o + j * 4, none⟩ = some (.int .i64 op3) ∧ w'.cell? ⟨bb, o + j * 4 + 1, none⟩ = some (.string nm3) ∧ w'.cell? ⟨bb, o + j * 4 + 1 + 1, none⟩ = some (.int .i64 nu3) ∧ w'.cell? ⟨bb, o + j * 4 + 1 + 1 + 1, none⟩ = some (.slice A' M' Cc'))
    (first | go_keep | (exact ⟨(B4.cell lc).trans cc0, (B4.cell lg).trans c0, (B4.cell hb).trans y0, (B4.cell hb).trans y1, (B4.cell hb).trans y2, (B4.cell hb).trans y3, (B4.cell hb).trans z0, (B4.cell hb).trans z1, (B4.cell hb).trans z2, (B4.cell hb).trans z3⟩))
    (first | (go_at_call 19; ((with_reducible refine cs.mono ?_); rintro e w4 ⟨rfl, hb4⟩; have B4 := bel_trans hBd hb4)))
  go_wp2
  go_ret
  exact ⟨rfl, B4⟩
end Go.Proofs.Yteidknjhponpkaa.T
namespace Go.Proofs.Yteidknjhponpkaa.T
open Go.RowKit Go.Shelf L
set_option linter.unusedVariables false
set_option linter.unusedSimpArgs false
attribute [local go_sem] Oper.semAt_some

theorem gr_set {W0 W : World} {g : Nat} (h : W0.grownBy W (some g)) (k : Nat) (v : Value) : W0.grownBy (W.setCell ⟨g, k, none⟩ v) (some g) := h.trans (grown_setCell W g k v)
theorem gr_alloc {W0 W : World} {g : Nat} (h : W0.grownBy W (some g)) (o : Obj) : W0.grownBy (W.alloc o) (some g) := h.trans (World.grownBy_alloc W o (some g))
theorem gr_below {B g : Nat} {W W' : World} (h : W.grownBy W' (some g)) (hB : B ≤ W.heap.size) (hg : B ≤ g) : Below B W W' := (Below.refl B W).grown h hB (fun k e => by cases e; exact hg)
theorem gr_blk {W W' : World} {g x : Nat} {cs : Array Value} {t : TypeId} (h : Blk W x cs t) (hg : W.grownBy W' (some g)) (hne : x ≠ g) : Blk W' x cs t := Blk.grown h hg (fun e => hne (by cases e; rfl))

theorem own_blkF {β : Type} (g : Nat) (cs : β → Array Value) (t : TypeId) : Own (fun (s : β) W => Blk W g (cs s) t) := fun s X Y row hs hg hr => by
  refine (hg.block g (Blk.lt hs) (fun e => ?_)).trans hs
  obtain ⟨o, ho, hc⟩ := hr g e.symm
  rw [show X.heap[g]? = _ from hs] at ho; cases ho; cases hc
theorem few1_any (g : Nat) (o : Int) (s : ByteArray) (z : Int) (a : Option Addr) (m c q : Nat) (W : World) (hq : q ≤ 4096) (hg : Blk W g #[.int .i64 q] 3) :
    Calls Try.prog 77 #[.agg #[.int .i64 o, .string s, .int .i64 z, .slice a m c], .pointer (some ⟨g, 0, none⟩)] W fun e W' => e = .returned (.bool (decide (q + 1 ≤ 4096))) ∧ Blk W' g #[.int .i64 (q + 1)] 3 ∧ W.grownBy W' (some g) := by
  have hg2 := Blk.alloc hg (.cells #[.int .i64 o, .string s, .int .i64 z, .slice a m c] 24)
  obtain ⟨W2, hW2⟩ : ∃ W2, W.alloc (.cells #[.int .i64 o, .string s, .int .i64 z, .slice a m c] 24) = W2 := ⟨_, rfl⟩
  have hgr : W.grownBy W2 (some g) := by rw [← hW2]; exact World.grownBy_alloc W _ _
  rw [hW2] at hg2
  have c0 := Blk.cell hg2 0
  have q0 := Blk.free hg2 0
  have hs := blk_cell_set hg2 (.int .i64 ((q : Int) + 1))
  have c1 := Blk.cell hs 0
  have he : decide ((q : Int) + 1 ≤ 4096) = decide (q + 1 ≤ 4096) := by rw [decide_eq_decide]; omega
  have He := Lib.hid he
  clear he
  go_enter Try.func77, Try.ntmps77
  go_wp2
  go_ret
  exact ⟨oneB He.out, hs, gr_set hgr _ _⟩

def VisitCntOk (B : Nat) (w0 : World) (g : Nat) (t : Tm) : Prop :=
  ∀ (a : Option Addr) (m c q : Nat) (W : World), Ar B w0 t a m c → Below B w0 W → B ≤ g → q ≤ 4096 → Blk W g #[.int .i64 q] 3 →
    Calls Try.prog 76 #[.agg #[.int .i64 (opT t), .string (nameT t), .int .i64 (numT t), .slice a m c], .func (.func 24) #[] #[], .func (.func 77) #[] #[.pointer (some ⟨g, 0, none⟩)]] W fun e W' =>
      W.grownBy W' (some g) ∧ ((q + size t ≤ 4096 ∧ e = .returned (.bool true) ∧ Blk W' g #[.int .i64 ((q + size t : Nat) : Int)] 3) ∨ (4096 < q + size t ∧ e = .returned (.bool false) ∧ Blk W' g #[.int .i64 4097] 3))

set_option maxRecDepth 100000 in
set_option maxHeartbeats 4000000 in
theorem visitCnt_step (B : Nat) (w0 : World) (g : Nat) (t : Tm) (hok : ∀ x ∈ argsT t, VisitCntOk B w0 g x) : VisitCntOk B w0 g t := by
  intro a m c q W hA hB hBg hq hgb
  obtain ⟨W2, hW2, hB2, hs2, S2⟩ := box1 W (opT t) (nameT t) (numT t) a m c
  have hlt := Blk.lt hgb
  have hg2 := Blk.below hgb hB2
  have c1 := few1_any g (opT t) (nameT t) (numT t) a m c q W2 hq hg2
  have hgr2 : W.grownBy W2 (some g) := by rw [← hW2]; exact World.grownBy_alloc W _ _
  have hT := ar_isT.1 hA
  have hsz : size t = 1 + sizes (argsT t) := by cases t; rw [size]; rfl
  obtain ⟨s0, s1, s2, s3⟩ := S2.four
  by_cases hq6 : q = 4096
  · subst hq6
    clear hT hA hok hg2
    generalize opT t = op at *
    generalize nameT t = nm at *
    generalize numT t = nu at *
    go_enter Try.func76, Try.ntmps76
    go_wp2_with (go_at_call 77; ((with_reducible refine c1.mono ?_); rintro e W3 ⟨rfl, hg3, hgr3⟩))
    go_ret
    exact ⟨hgr2.trans hgr3, .inr ⟨by omega, rfl, hg3⟩⟩
  · have hq7 : decide (q + 1 ≤ 4096) = true := by simp; omega
    rw [hq7] at c1
    have hn : m ≤ 9223372036854775807 := by have h1 := hT.2.1; have h2 := hT.2.2.1; unfold maxLen at h2; omega
    have HT := Lib.hid hT
    have HK := Lib.hid (show ∀ k x, (argsT t)[k]? = some x → VisitCntOk B w0 g x from fun k x h => hok x (List.mem_of_getElem? h))
    have HS := Lib.hid S2
    have hne : W.heap.size ≠ g := by omega
    have HSZ := Lib.hid hsz
    clear hT hA hok hg2 hq7 hsz S2
    generalize hla : argsT t = la at *
    have HLa := Lib.hid hla
    clear hla
    generalize opT t = op at *
    generalize nameT t = nm at *
    generalize numT t = nu at *
    generalize size t = sz at *
    go_enter Try.func76, Try.ntmps76
    go_wp2_with (first
      | (go_at_call 77; ((with_reducible refine c1.mono ?_); rintro e W3 ⟨rfl, hg3, hgr3⟩; obtain ⟨u0, u1, u2, u3⟩ := TBox.four (gr_blk HS.out hgr3 hne)))
      | (go_at_call 24; ((with_reducible refine (args_any _ _ _ _ _ _ W3).mono ?_); rintro e W3b ⟨rfl, hW3b⟩; have HW3 := Lib.hid hW3b; clear hW3b)))
    have hgr3b : W.grownBy W3b (some g) := by rw [HW3.out]; exact gr_alloc (hgr2.trans hgr3) _
    have hg3b : Blk W3b g #[.int .i64 ((q + 1 : Nat) : Int)] 3 := by rw [HW3.out]; exact Blk.alloc (by simpa using hg3) _
    clear HW3
    go_loopw [17] (fun i wr0 => ∃ (wr : World) (k : Nat), wr = wr0 ∧ k ≤ m ∧ i = .int .i64 k ∧ W.grownBy wr (some g) ∧ q + 1 + sizes (la.take k) ≤ 4096 ∧ Blk wr g #[.int .i64 ((q + 1 + sizes (la.take k) : Nat) : Int)] 3) (fun i _ => m - (intOf i).toNat)
    case atStart => exact ⟨_, 0, rfl, by omega, rfl, hgr3b, by simp [sizes]; omega, by simpa [sizes] using hg3b⟩
    case round =>
      obtain ⟨wr, k, rfl, hk, rfl, hGr, hqk, hgk⟩ := hrel
      have hBr : Below B w0 wr := hB.trans (gr_below hGr (by omega) hBg)
      by_cases hlk : k < m
      · obtain ⟨bb, o, x, A, M, Cc, rfl, hb, z0, z1, z2, z3, hx, hok⟩ := HT.out.at hlk
        have y0 := (hBr.cell (p := ⟨bb, _, none⟩) hb).trans z0
        have y1 := (hBr.cell (p := ⟨bb, _, none⟩) hb).trans z1
        have y2 := (hBr.cell (p := ⟨bb, _, none⟩) hb).trans z2
        have y3 := (hBr.cell (p := ⟨bb, _, none⟩) hb).trans z3
        obtain ⟨W4, hW4, hB4, hs4, S4⟩ := box1 wr (opT x) (nameT x) (numT x) A M Cc
        have hgr4 : wr.grownBy W4 (some g) := by rw [← hW4]; exact World.grownBy_alloc wr _ _
        have cv := HK.out k x hx A M Cc (q + 1 + sizes (la.take k)) W4 hok (hBr.trans (hB4.mono (by have := hGr.size; omega))) hBg hqk (Blk.below hgk hB4)
        have hlts := alls_lt hx
        have htk : sizes (la.take (k + 1)) = sizes (la.take k) + size x := by rw [take_t hx, sizes_app, sizes, sizes]; omega
        obtain ⟨f0, f1, f2, f3⟩ := S4.four
        have HG := Lib.hid hgk
        have HTk := Lib.hid htk
        clear z0 z1 z2 z3 hok HK HT S4 hgk htk
        have Hx := Lib.hid hx
        clear hx
        generalize opT x = op' at *
        generalize nameT x = nm' at *
        generalize numT x = nu' at *
        generalize size x = sx at *
        have hk0 : 0 ≤ (k : Int) := by omega
        have hk1 : (k : Int) < (m : Int) := by omega
        generalize hsk : sizes (la.take k) = sk at *
        go_wp2_with (go_at_call 76; ((with_reducible refine cv.mono ?_); rintro e W5 ⟨hgr5, (⟨hle, rfl, hb5⟩ | ⟨hgt, rfl, hb5⟩)⟩; all_goals (have Hb := Lib.hid hb5; clear hb5)))
        · go_roundw
          case rel => exact ⟨_, k + 1, rfl, by omega, by go_num, (hGr.trans hgr4).trans hgr5, by rw [HTk.out]; omega, by
            rw [HTk.out, show q + 1 + (sk + sx) = q + 1 + sk + sx by omega]; exact Hb.out⟩
          case measure => simp [intOf]; omega
        · go_ret
          refine ⟨(hGr.trans hgr4).trans hgr5, .inr ⟨?_, rfl, Hb.out⟩⟩
          have := HSZ.out
          omega
      · obtain rfl : k = m := by omega
        have hfin : q + sz = q + 1 + sizes (la.take k) := by
          rw [HSZ.out, List.take_of_length_le (by have := HT.out.1; omega)]; omega
        have Hf := Lib.hid hfin
        have HG := Lib.hid hgk
        clear hfin hgk
        go_wp2
        go_ret
        exact ⟨hGr, .inl ⟨by rw [Hf.out]; exact hqk, rfl, by rw [Hf.out]; exact HG.out⟩⟩
theorem visitCnt_any (B : Nat) (w0 : World) (g : Nat) (t : Tm) : VisitCntOk B w0 g t := Tm.ind (visitCnt_step B w0 g) t
set_option maxHeartbeats 4000000 in
theorem few_any (t : Tm) (a : Option Addr) (m c : Nat) (w : World) (hA : ArW w t a m c) :
    Calls Try.prog 49 #[.agg #[.int .i64 (opT t), .string (nameT t), .int .i64 (numT t), .slice a m c], .func (.func 24) #[] #[]] w fun e w' => e = .returned (.bool (decide (size t ≤ 4096))) ∧ Below w.heap.size w w' := by
  obtain ⟨W2, hW2, hB2, hs2, S2⟩ := box1 w (opT t) (nameT t) (numT t) a m c
  obtain ⟨W1, hW1⟩ : ∃ W1, W2.alloc (.cells #[.int .i64 0] 3) = W1 := ⟨_, rfl⟩
  have hB1 : Below W2.heap.size W2 W1 := by rw [← hW1]; exact bel_alloc (Below.refl _ _) _
  have hg1 : Blk W1 (w.heap.size + 1) #[.int .i64 0] 3 := by rw [← hW1, ← hs2]; exact Blk.new W2 _ _
  have k1 := Blk.cell hg1 0
  have k2 := Blk.free hg1 0
  obtain ⟨W3, hW3⟩ : ∃ W3, W1.setCell ⟨w.heap.size + 1, 0, none⟩ (.int .i64 0) = W3 := ⟨_, rfl⟩
  have hB3 : Below W2.heap.size W2 W3 := by rw [← hW3]; exact below_set hB1 (by omega) _ _
  have hg : Blk W3 (w.heap.size + 1) #[.int .i64 ((0 : Nat) : Int)] 3 := by rw [← hW3]; exact blk_cell_set hg1 _
  have cv := visitCnt_any w.heap.size w (w.heap.size + 1) t a m c 0 W3 hA (hB2.trans (hB3.mono hB2.size)) (by omega) (by omega) hg
  have S3 := S2.b hB3
  obtain ⟨u0, u1, u2, u3⟩ := S3.four
  have hBB := bel_trans hB2 hB3
  have hsz3 : w.heap.size ≤ W3.heap.size := hBB.size
  have h1 : ∀ n : Nat, n = 0 + size t → n ≤ 4096 → true = decide (size t ≤ 4096) := fun n h h2 => (decide_eq_true (by omega)).symm
  have h2 : 4096 < 0 + size t → false = decide (size t ≤ 4096) := fun h => (decide_eq_false (by omega)).symm
  clear S2 S3 hA
  generalize hR : decide (size t ≤ 4096) = R at *
  clear hR
  have H1 := Lib.hid (h1 _ rfl)
  have H2 := Lib.hid h2
  clear h1 h2
  generalize 0 + size t = sz at *
  generalize opT t = op at *
  generalize nameT t = nm at *
  generalize numT t = nu at *
  go_enter Try.func49, Try.ntmps49
  go_wp2_with (go_at_call 76; ((with_reducible refine cv.mono ?_); rintro e W5 ⟨hgr5, (⟨hle, rfl, hb5⟩ | ⟨hgt, rfl, hb5⟩)⟩; all_goals (have c5 := Blk.cell hb5 0)))
  · go_ret
    exact ⟨oneB (H1.out hle), hBB.trans (gr_below hgr5 (by omega) (by omega))⟩
  · go_ret
    exact ⟨oneB (H2.out hgt), hBB.trans (gr_below hgr5 (by omega) (by omega))⟩
set_option maxRecDepth 100000 in
set_option maxHeartbeats 4000000 in
theorem tSize_in (t : Tm) (a : Option Addr) (m c : Nat) (w : World) (hA : ArW w t a m c) :
    CallsIn Fence.wide 6 Try.prog 9 #[.agg #[.int .i64 (opT t), .string (nameT t), .int .i64 (numT t), .slice a m c]] w fun e w' => e = .returned (.int .i64 ((min (size t) 4097 : Nat) : Int)) ∧ Below w.heap.size w w' := by
  obtain ⟨W2, hW2, hB2, hs2, S2⟩ := box1 w (opT t) (nameT t) (numT t) a m c
  obtain ⟨W1, hW1⟩ : ∃ W1, W2.alloc (.cells #[.int .i64 0] 3) = W1 := ⟨_, rfl⟩
  have hB1 : Below W2.heap.size W2 W1 := by rw [← hW1]; exact bel_alloc (Below.refl _ _) _
  have hs1 : W1.heap.size = w.heap.size + 2 := by rw [← hW1, World.size_alloc, hs2]
  have hg1 : Blk W1 (w.heap.size + 1) #[.int .i64 0] 3 := by rw [← hW1, ← hs2]; exact Blk.new W2 _ _
  have k1 := Blk.cell hg1 0
  have k2 := Blk.free hg1 0
  obtain ⟨W3, hW3⟩ : ∃ W3, W1.setCell ⟨w.heap.size + 1, 0, none⟩ (.int .i64 0) = W3 := ⟨_, rfl⟩
  have hB3 : Below W2.heap.size W2 W3 := by rw [← hW3]; exact below_set hB1 (by omega) _ _
  have hs3 : W3.heap.size = w.heap.size + 2 := by rw [← hW3]; simp [World.setCell, hs1]
  have hg : Blk W3 (w.heap.size + 1) #[.int .i64 ((0 : Nat) : Int)] 3 := by rw [← hW3]; exact blk_cell_set hg1 _
  obtain ⟨u0, u1, u2, u3⟩ := (S2.b hB3).four
  obtain ⟨W4, hW4, hB4, hs4, I4, F4⟩ := box_all W3 (opT t) (nameT t) (numT t) a m c
  have G4 := Blk.below hg hB4
  have B4 : Below w.heap.size w W4 := bel_trans (bel_trans hB2 hB3) hB4
  rw [hs3, Nat.add_assoc] at I4 F4
  have hst := all_stops (5 : Nat) w.heap.size (w.heap.size + 3) (w.heap.size + 4) w W4 t a m c hA B4 B4.size I4 F4
  have cAll := all_any (opT t) (nameT t) (numT t) a m c W3
  rw [hW4, hs3, Nat.add_assoc, Nat.add_assoc] at cAll
  have hz1 : size t ≤ 4096 → (size t : Int) = ((min (size t) 4097 : Nat) : Int) := fun h => by omega
  have hz2 : 4096 < size t → (4097 : Int) = ((min (size t) 4097 : Nat) : Int) := fun h => by omega
  clear hA S2 hg1 hg
  generalize hR : ((min (size t) 4097 : Nat) : Int) = R at *
  clear hR
  refine callsIn_of_wp_marks Try.func9 rfl trivial ?_ rfl
  simp only [Try.ntmps9, List.size_toArray, List.length_cons, List.length_nil, Nat.reduceAdd, Nat.reduceSub, Array.replicate_succ, Array.replicate_zero, List.push_toArray, List.append_toArray, List.nil_append, List.cons_append]
  gi_wp2_with (refine ⟨trivial, ?_⟩; gi_at_call 20; refine (callsIn_wide.2 cAll).mono ?_; rintro e w' ⟨rfl, rfl⟩)
  refine wpIn_rangeFunc_ownH rfl (by decide) (gf := 75) (lb := #[.pointer (some ⟨w.heap.size + 3, 0, none⟩), .pointer (some ⟨w.heap.size + 4, 0, none⟩)]) rfl trivial (enters_of Try.func75 (by kernel_rfl) rfl)
    hst KpT.trans (KpT.obj B4.size) (Below.refl _ _) (fun _ => rfl)
    (fun pre W => ((pre.length ≤ 4096) ∧ Blk W (w.heap.size + 1) #[.int .i64 ((pre.length : Nat) : Int)] 3) ∧ Below w.heap.size w W)
    (fun cd pre W => ((cd = .exit 0 ∧ 4096 < pre.length) ∧ Blk W (w.heap.size + 1) #[.int .i64 4097] 3) ∧ Below w.heap.size w W)
    (OwnFrom.and (OwnFrom.and (ownFrom_pure _ _) (Own.from (own_blkF (w.heap.size + 1) (fun pre : List (Pt w.heap.size w) => #[.int .i64 ((pre.length : Nat) : Int)]) 3) _)) (ownFrom_below (Nat.le_refl _) B4.size))
    (fun cd => OwnFrom.and (OwnFrom.and (ownFrom_pure _ _) (Own.from (own_blk _ _ _) _)) (ownFrom_below (Nat.le_refl _) B4.size))
    ⟨⟨by simp, by simpa using G4⟩, B4⟩
    (fun x a2 W => a2 = { tmps := #[.agg #[.int .i64 (opT t), .string (nameT t), .int .i64 (numT t), .slice a m c], .pointer (some ⟨w.heap.size, 0, none⟩), .int .i64 0, .pointer (some ⟨w.heap.size + 1, 0, none⟩), .agg #[.int .i64 (opT t), .string (nameT t), .int .i64 (numT t), .slice a m c], .func (.func 75) #[] #[.pointer (some ⟨w.heap.size + 3, 0, none⟩), .pointer (some ⟨w.heap.size + 4, 0, none⟩)], .agg #[.int .i64 (opT x.t), .string (nameT x.t), .int .i64 (numT x.t), .slice x.a x.n x.c], undef, undef, undef, undef, undef], defers := [] })
    (fun x a2 => ownFrom_pure _ _)
    ?assign ?body ?done ?stop
  case assign =>
    rintro l pre x W K hI hK
    unfold encP
    gi_wp2
    exact hK _ _ (keepsF (Below.refl _ _)) (KpT.refl _ _) hI (by first | (simp; done) | kernel_rfl)
  case body =>
    rintro l pre x a2 W hl hr ⟨⟨hq, hG⟩, hB⟩ rfl hlt
    have hlen : (pre ++ [x]).length = pre.length + 1 := by simp
    obtain ⟨q, hql⟩ : ∃ q, q = pre.length := ⟨_, rfl⟩
    rw [← hql] at hlen hq hG
    clear hql
    have c0 := Blk.cell hG 0
    have q0 := Blk.free hG 0
    have hs := blk_cell_set hG (.int .i64 ((q : Int) + 1))
    have c1 := Blk.cell hs 0
    have hkp : KpT w.heap.size W (W.setCell ⟨w.heap.size + 1, 0, none⟩ (.int .i64 ((q : Int) + 1))) := ⟨(Below.refl _ _).setCell (p := ⟨w.heap.size + 1, 0, none⟩) (by simp) _, keep_set hG (by simp) _ _⟩
    have e7 : (4096 : Nat) + 1 = 4097 := rfl
    by_cases hq6 : q = 4096
    · subst hq6
      gi_wp2
      exact ⟨(KeepsOthers.setCell _ _ _).from _, ⟨⟨rfl, by rw [hlen]; omega⟩, hs⟩, hB.trans hkp.1⟩
    · have hq7 : ¬ (q : Int) + 1 > 4096 := by omega
      gi_wp2
      exact ⟨(KeepsOthers.setCell _ _ _).from _, hkp, ⟨by rw [hlen]; omega, by rw [hlen]; simpa using hs⟩, hB.trans hkp.1⟩
  case done =>
    rintro D zs W hD hS ⟨⟨hq, hG⟩, hB⟩ hK
    have hlen : zs.length = size t := by rw [← all_len t, ← hS]; simp
    rw [hlen] at hq hG
    have h1 := hz1 hq
    rw [h1] at hG
    clear hz1 hz2
    have hR3 := blk_put hG hK (.deferred none)
    have c6 := Blk.cell hG 0
    have hB2 := hB.trans (belowK_b (w := w) (Nat.le_refl _) W D _ (.deferred none) (Nat.le_trans B4.size hD) hK rfl rfl)
    gi_wp2
    refine ⟨by simp, .inl ⟨_, _, rfl, run_takeDeferred hK, ?_⟩⟩
    exact ⟨_, by simp [results, Try.results9, go_sem], rfl, hB2⟩
  case stop =>
    rintro D cd pre W hD hS ⟨⟨⟨rfl, hN⟩, hG⟩, hB⟩ hK
    have hlen : pre.length ≤ size t := by rw [← all_len t]; simpa using hS.length_le
    have h1 := hz2 (by omega)
    rw [h1] at hG
    clear hz1 hz2
    have hR3 := blk_put hG hK (.deferred none)
    have c6 := Blk.cell hG 0
    have hB2 := hB.trans (belowK_b (w := w) (Nat.le_refl _) W D _ (.deferred none) (Nat.le_trans B4.size hD) hK rfl rfl)
    gi_wp2
    refine ⟨by simp, .inl ⟨_, _, rfl, run_takeDeferred hK, ?_⟩⟩
    exact ⟨_, by simp [results, Try.results9, go_sem], rfl, hB2⟩
theorem tSize_any (t : Tm) (a : Option Addr) (m c : Nat) (w : World) (hA : ArW w t a m c) :
    Calls Try.prog 9 #[.agg #[.int .i64 (opT t), .string (nameT t), .int .i64 (numT t), .slice a m c]] w fun e w' => e = .returned (.int .i64 ((min (size t) 4097 : Nat) : Int)) ∧ Below w.heap.size w w' :=
  callsIn_wide.1 (tSize_in t a m c w hA)
theorem szTo_min (t : Tm) (most : Nat) : min (szTo most t) (most + 1) = min (size t) (most + 1) := by
  by_cases h : size t ≤ most
  · rw [szTo_small t most h]
  · have := szTo_big t most (by omega); omega
end Go.Proofs.Yteidknjhponpkaa.T
namespace Go.Proofs.Yteidknjhponpkaa.T
open Go.RowKit L
set_option linter.unusedVariables false
set_option linter.unusedSimpArgs false

/-! insertion, from the right -/
def insRev (c : Nat → Nat → Int) (x : Nat) : List Nat → List Nat
  | [] => [x]
  | y :: l => if c x y < 0 then y :: insRev c x l else x :: y :: l
def isortR (c : Nat → Nat → Int) (acc : List Nat) (l : List Nat) : List Nat := l.foldl (fun a x => insRev c x a) acc
theorem insRev_len (c : Nat → Nat → Int) (x : Nat) : ∀ l : List Nat, (insRev c x l).length = l.length + 1
  | [] => rfl
  | y :: l => by rw [insRev]; split <;> simp [insRev_len c x l]
theorem insRev_perm (c : Nat → Nat → Int) (x : Nat) : ∀ l : List Nat, (insRev c x l).Perm (x :: l)
  | [] => List.Perm.refl _
  | y :: l => by
    rw [insRev]; split
    · exact ((insRev_perm c x l).cons y).trans (List.Perm.swap _ _ _)
    · exact List.Perm.refl _
theorem isortR_len (c : Nat → Nat → Int) : ∀ (l acc : List Nat), (isortR c acc l).length = acc.length + l.length
  | [], acc => by simp [isortR]
  | x :: l, acc => by
    have := isortR_len c l (insRev c x acc)
    rw [insRev_len] at this
    simp only [isortR, List.foldl_cons, List.length_cons] at this ⊢
    omega
theorem isortR_snoc (c : Nat → Nat → Int) (acc l : List Nat) (x : Nat) : isortR c acc (l ++ [x]) = insRev c x (isortR c acc l) := by simp [isortR]
theorem isortR_perm (c : Nat → Nat → Int) : ∀ (l acc : List Nat), (isortR c acc l).Perm (acc ++ l)
  | [], acc => by simp [isortR]
  | x :: l, acc => by
    have h := isortR_perm c l (insRev c x acc)
    refine (show (isortR c acc (x :: l)).Perm (insRev c x acc ++ l) from h).trans ?_
    refine ((insRev_perm c x acc).append_right l).trans ?_
    exact (List.perm_middle (a := x) (l₁ := acc) (l₂ := l)).symm

/-! a row of places -/
def RowN (w : World) (g : Nat) (zs : List Nat) : Prop := Blk w g (zs.map (fun z : Nat => Value.int .i64 (z : Int))).toArray 3
theorem RowN.at {w : World} {g : Nat} {zs : List Nat} (h : RowN w g zs) {k z : Nat} (hk : zs[k]? = some z) : w.cell? ⟨g, k, none⟩ = some (.int .i64 z) := by
  rw [Blk.cell h k]
  simp [hk]
theorem RowN.set {w : World} {g : Nat} {zs : List Nat} (h : RowN w g zs) (k z : Nat) : RowN (w.setCell ⟨g, k, none⟩ (.int .i64 z)) g (zs.set k z) := by
  have := Blk.set h k (.int .i64 (z : Int))
  unfold RowN
  rw [List.map_set]
  simpa using this
theorem swap_list (X T : List Nat) (x y : Nat) : ((X ++ y :: x :: T).set (X.length + 1) y).set X.length x = X ++ x :: y :: T := by
  rw [List.set_append_right _ _ (by omega), List.set_append_right _ _ (by omega)]
  simp
theorem swap_list2 (X T : List Nat) (x y : Nat) : ((X ++ y :: x :: T).set X.length x).set (X.length + 1) y = X ++ x :: y :: T := by
  rw [List.set_append_right _ _ (by omega), List.set_append_right _ _ (by omega)]
  simp

theorem gr_drewN {W0 W : World} {g : Nat} (h : W0.grownBy W (some g)) (n : Nat) : W0.grownBy (W.drewN n) (some g) := h.trans ⟨rfl, rfl, rfl, Nat.le_refl _, fun _ _ _ => rfl⟩
theorem gr_drew {W0 W : World} {g : Nat} (h : W0.grownBy W (some g)) : W0.grownBy W.drew (some g) := h.trans ⟨rfl, rfl, rfl, Nat.le_refl _, fun _ _ _ => rfl⟩
theorem gr_of_below {W W' : World} {g : Nat} (h : Below W.heap.size W W') (ht : W'.tape = W.tape) : W.grownBy W' (some g) := ⟨h.os, ht, h.output, h.size, fun k hk _ => h.block k hk⟩
/-- what a sort's comparison is: the closure, in every world that has what lies below the row -/
def CmpIn (g gc gl n : Nat) (l : List Tm) (w0 : World) : Prop := ∀ (i j : Nat) (w : World), Below g w0 w → g ≤ w.heap.size → i < n → j < n →
  Calls Try.prog 65 #[.int .i64 i, .int .i64 j, .pointer (some ⟨gc, 0, none⟩), .pointer (some ⟨gl, 0, none⟩)] w fun e w' => e = .returned (.int .i64 (cmpT (atL l i) (atL l j))) ∧ Below w.heap.size w w'

set_option maxRecDepth 100000 in
set_option maxHeartbeats 8000000 in
theorem insertion_any (g gc gl n : Nat) (l : List Tm) (w0 : World) (hc : CmpIn g gc gl n l w0) (pre seg post : List Nat) (hlt : ∀ z ∈ pre ++ seg ++ post, z < n) (N cap : Nat) (hN : N = (pre ++ seg ++ post).length) (hN2 : N ≤ 1000000) (w : World) (hb : Below g w0 w) (hr : RowN w g (pre ++ seg ++ post)) :
    Calls Try.prog 93 #[.slice (some ⟨g, 0, none⟩) N cap, .int .i64 pre.length, .int .i64 ((pre.length : Int) + (seg.length : Int)), .func (.func 65) #[] #[.pointer (some ⟨gc, 0, none⟩), .pointer (some ⟨gl, 0, none⟩)]] w fun e w' => (∃ v, e = .returned v) ∧ RowN w' g (pre ++ (isortR (fun i j => cmpT (atL l i) (atL l j)) [] seg).reverse ++ post) ∧ w.grownBy w' (some g) := by
  have hg := Blk.lt hr
  have HC := Lib.hid hc
  have Hlt := Lib.hid hlt
  generalize hcf : (fun i j => cmpT (atL l i) (atL l j)) = cf at *
  have hcf2 : ∀ i j, cmpT (atL l i) (atL l j) = cf i j := fun i j => by rw [← hcf]
  have Hcf := Lib.hid hcf2
  clear hc hlt hcf hcf2
  have H0 : Hid (RowN w g (pre ++ (isortR cf [] (seg.take 1)).reverse ++ (seg.drop 1 ++ post))) := by
    cases seg with
    | nil => show RowN w g _; simpa [isortR] using hr
    | cons x s => show RowN w g _; simpa [isortR, insRev] using hr
  have hl1 : pre.length ≤ 1000000 := by simp at hN; omega
  have hl2 : pre.length + seg.length ≤ 1000000 := by simp at hN; omega
  have HN := Lib.hid hN
  clear hr hN
  go_enter Try.func93, Try.ntmps93
  go_wp2
  go_loopw [8] (fun i wr0 => ∃ (wr : World) (m : Nat), wr = wr0 ∧ 1 ≤ m ∧ (m ≤ seg.length ∨ m = 1) ∧ i = .int .i64 ((pre.length : Int) + (m : Int)) ∧ w.grownBy wr (some g) ∧ Hid (RowN wr g (pre ++ (isortR cf [] (seg.take m)).reverse ++ (seg.drop m ++ post)))) (fun i _ => pre.length + seg.length - (intOf i).toNat)
  case atStart => exact ⟨_, 1, rfl, by omega, .inr rfl, rfl, World.grownBy.refl _ _, H0⟩
  case round =>
    obtain ⟨wr, m, rfl, hm1, hm2, rfl, hG, hR⟩ := hrel
    by_cases hlt : m < seg.length
    · have hx : seg[m]? = some seg[m] := List.getElem?_eq_getElem hlt
      obtain ⟨x, hxx⟩ : ∃ x, seg[m] = x := ⟨_, rfl⟩
      rw [hxx] at hx
      obtain ⟨P0, hP0⟩ : ∃ P0, isortR cf [] (seg.take m) = P0 := ⟨_, rfl⟩
      obtain ⟨rest, hrest⟩ : ∃ rest, seg.drop (m + 1) ++ post = rest := ⟨_, rfl⟩
      have hlen0 : P0.length = m := by rw [← hP0, isortR_len]; simp; omega
      have hd : seg.drop m ++ post = x :: rest := by rw [← hrest, ← hxx, ← List.cons_append, ← List.drop_eq_getElem_cons hlt]
      have hins : insRev cf x P0 = isortR cf [] (seg.take (m + 1)) := by
        rw [List.take_add_one, hx, ← hP0]
        exact (isortR_snoc cf [] _ x).symm
      have hR0 : Hid (RowN wr g (pre ++ P0.reverse ++ x :: ([] ++ rest))) := by
        have := hR.out
        rw [hP0, hd] at this
        exact this
      have Hfin := Lib.hid (show ∀ (P Q : List Nat) (W : World), (insRev cf x P).reverse ++ Q = (insRev cf x P0).reverse → (insRev cf x P).reverse = P.reverse ++ [x] → RowN W g (pre ++ P.reverse ++ x :: (Q ++ rest)) → RowN W g (pre ++ (isortR cf [] (seg.take (m + 1))).reverse ++ (seg.drop (m + 1) ++ post)) from fun P Q W h1 h2 h3 => by
        rw [← hins, ← h1, h2, hrest]
        simpa using h3)
      have Hall := Lib.hid (show ∀ (P Q : List Nat), (insRev cf x P).reverse ++ Q = (insRev cf x P0).reverse → ∀ y ∈ x :: P, y < n from fun P Q h1 y hy => by
        have h2 : y ∈ (insRev cf x P0).reverse := by
          rw [← h1]
          refine List.mem_append_left _ (List.mem_reverse.2 ((insRev_perm cf x P).mem_iff.2 hy))
        rw [List.mem_reverse, hins] at h2
        have h3 := (isortR_perm cf (seg.take (m + 1)) []).mem_iff.1 h2
        exact Hlt.out y (List.mem_append_left _ (List.mem_append_right _ (List.take_subset _ _ (by simpa using h3)))))
      have Hlq := Lib.hid (show ∀ (P Q : List Nat), (insRev cf x P).reverse ++ Q = (insRev cf x P0).reverse → P.length + Q.length = m from fun P Q h1 => by
        have := congrArg List.length h1
        rw [List.length_append, List.length_reverse, List.length_reverse, insRev_len, insRev_len] at this
        omega)
      have Hlen0 := Lib.hid hlen0
      clear hx hxx hP0 hrest hd hins hR hlen0
      have hpm : (pre.length : Int) + m < pre.length + seg.length := by omega
      go_wp2
      go_loopw [9] (fun i wr0 => ∃ (w2 : World) (P Q : List Nat), w2 = wr0 ∧ i = .int .i64 ((pre.length : Int) + (P.length : Int)) ∧ w.grownBy w2 (some g) ∧ Hid ((insRev cf x P).reverse ++ Q = (insRev cf x P0).reverse ∧ RowN w2 g (pre ++ P.reverse ++ x :: (Q ++ rest)))) (fun i _ => (intOf i).toNat)
      case atStart => exact ⟨_, P0, [], rfl, by rw [Hlen0.out], hG, Lib.hid ⟨by simp, hR0.out⟩⟩
      case round =>
        obtain ⟨w2, P, Q, rfl, rfl, hG2, hR2⟩ := hrel
        have hlq := Hlq.out P Q hR2.out.1
        cases P with
        | nil =>
          have Hn := Lib.hid (Hfin.out [] Q w2 hR2.out.1 rfl hR2.out.2)
          have hpl : (pre.length : Int) + (([] : List Nat).length : Int) = (pre.length : Int) := by simp
          rw [hpl]
          clear hpl hlq
          have hgd : ¬ (pre.length : Int) < (pre.length : Int) := by omega
          clear hR2
          go_wp2_with fail
          go_quiet (fail)
          go_wp2
          go_roundw
          case rel => exact ⟨_, m + 1, rfl, by omega, by omega, by go_num, gr_drewN hG2 _, Lib.hid (show RowN _ _ _ from Hn.out)⟩
          case measure => simp [intOf]; omega
        | cons y P =>
          have hxn := Hall.out (y :: P) Q hR2.out.1 x (by simp)
          have hyn := Hall.out (y :: P) Q hR2.out.1 y (by simp)
          have hrow := hR2.out.2
          have hX : (pre ++ (y :: P).reverse ++ x :: (Q ++ rest)) = (pre ++ P.reverse) ++ y :: x :: (Q ++ rest) := by simp
          rw [hX] at hrow
          have hXl : (pre ++ P.reverse).length = pre.length + P.length := by simp
          obtain ⟨k, hk⟩ : ∃ k, pre.length + P.length = k := ⟨_, rfl⟩
          have e0 : ((pre ++ P.reverse) ++ y :: x :: (Q ++ rest))[k]? = some y := by rw [List.getElem?_append_right (by omega), hXl, hk, Nat.sub_self]; rfl
          have e1 : ((pre ++ P.reverse) ++ y :: x :: (Q ++ rest))[k + 1]? = some x := by rw [List.getElem?_append_right (by omega), hXl, hk, Nat.add_sub_cancel_left]; rfl
          have c0 := hrow.at e0
          have c1 := hrow.at e1
          have q0 := Blk.free hrow k
          have q1 := Blk.free hrow (k + 1)
          have hsw1 := Lib.hid (show ∀ W, RowN W g ((pre ++ P.reverse) ++ y :: x :: (Q ++ rest)) → RowN ((W.setCell ⟨g, k + 1, none⟩ (.int .i64 y)).setCell ⟨g, k, none⟩ (.int .i64 x)) g (pre ++ P.reverse ++ x :: (y :: Q ++ rest)) from fun W h => by
            have h1 := (h.set (k + 1) y).set k x
            rw [← hk, ← hXl, swap_list] at h1
            rw [← hk, ← hXl]; exact h1)
          have hsw2 := Lib.hid (show ∀ W, RowN W g ((pre ++ P.reverse) ++ y :: x :: (Q ++ rest)) → RowN ((W.setCell ⟨g, k, none⟩ (.int .i64 x)).setCell ⟨g, k + 1, none⟩ (.int .i64 y)) g (pre ++ P.reverse ++ x :: (y :: Q ++ rest)) from fun W h => by
            have h1 := (h.set k x).set (k + 1) y
            rw [← hk, ← hXl, swap_list2] at h1
            rw [← hk, ← hXl]; exact h1)
          have hkk := Lib.hid hk
          have hpl : (pre.length : Int) + ((y :: P).length : Int) = (k : Int) + 1 := by simp; omega
          rw [hpl]
          have hg2 := Blk.lt hrow
          have hB2 : Below g w0 w2.drew := (hb.trans (gr_below hG2 (Nat.le_of_lt hg) (Nat.le_refl _))).drew
          have cC := HC.out x y w2.drew hB2 (Nat.le_of_lt hg2) hxn hyn
          rw [Hcf.out] at cC
          have hkn : (pre.length : Int) < (k : Int) + 1 := by omega
          have hkN : (k : Int) + 1 < (N : Int) := by
            have h1 := HN.out
            have h2 := congrArg List.length (show (pre ++ seg ++ post) = (pre ++ seg ++ post) from rfl)
            have h3 : P.length + 1 + Q.length = m := by simpa using hlq
            simp at h1
            omega
          have hwr : IntKind.i64.wrap ((k : Int) + 1 - 1) = (k : Int) := by rw [IntKind.wrap_i64]; omega
          have hwr2 : IntKind.i64.wrap (k : Int) = (k : Int) := by rw [IntKind.wrap_i64]; omega
          have hk0 : 0 ≤ (k : Int) := by omega
          have hk1 : 0 ≤ (k : Int) + 1 := by omega
          have hkN0 : (k : Int) < (N : Int) := by omega
          have hB2d : Below w2.heap.size w2 w2.drew := (Below.refl _ _).drew
          have HR2 := Lib.hid hR2.out.1
          have Hrow := Lib.hid hrow
          clear hR2 hrow hX e0 e1 hlq hpl hXl hk
          by_cases hneg : cf x y < 0
          · have hi2 : Hid ((insRev cf x P).reverse ++ (y :: Q) = (insRev cf x P0).reverse) := by
              have h1 := HR2.out
              rw [insRev, if_pos hneg] at h1
              show _ = _
              rw [← h1]; simp
            generalize cf x y = R at *
            go_wp2_with fail
            go_region_held3 (fun w' => w'.cell? ⟨g, k, none⟩ = some (.int .i64 y) ∧ w'.cell? ⟨g, k + 1, none⟩ = some (.int .i64 x))
              (first | go_keep | (exact ⟨(B4.cell hg2).trans c0, (B4.cell hg2).trans c1⟩))
              (first | (go_at_call 65; ((with_reducible refine cC.mono ?_); rintro e w4 ⟨rfl, hb4⟩; have B4 := bel_trans hB2d hb4; have H4 := Lib.hid (Blk.below Hrow.out B4); have z0 := (B4.cell (p := ⟨g, k, none⟩) hg2).trans c0; have z1 := (B4.cell (p := ⟨g, k + 1, none⟩) hg2).trans c1; have p0 := (B4.frozen (p := ⟨g, k, none⟩) hg2).trans q0; have p1 := (B4.frozen (p := ⟨g, k + 1, none⟩) hg2).trans q1)))
            have hg4 : w2.grownBy w4 (some g) := gr_of_below B4 B4.tape
            go_wp2
            go_region
            go_wp2
            exact ⟨⟨_, P, y :: Q, rfl, by congr 1; have := hkk.out; omega, gr_drew (gr_set (gr_set (hG2.trans hg4) _ _) _ _), Lib.hid ⟨hi2.out, hsw1.out _ H4.out⟩⟩, by simp [intOf] <;> omega⟩
          · have Hn := Lib.hid (Hfin.out (y :: P) Q · HR2.out (by rw [insRev, if_neg hneg]; simp))
            generalize cf x y = R at *
            go_wp2_with fail
            go_region_held3 (fun w' => w'.cell? ⟨g, k, none⟩ = some (.int .i64 y) ∧ w'.cell? ⟨g, k + 1, none⟩ = some (.int .i64 x))
              (first | go_keep | (exact ⟨(B4.cell hg2).trans c0, (B4.cell hg2).trans c1⟩))
              (first | (go_at_call 65; ((with_reducible refine cC.mono ?_); rintro e w4 ⟨rfl, hb4⟩; have B4 := bel_trans hB2d hb4; have H4 := Lib.hid (Blk.below Hrow.out B4); have z0 := (B4.cell (p := ⟨g, k, none⟩) hg2).trans c0; have z1 := (B4.cell (p := ⟨g, k + 1, none⟩) hg2).trans c1; have p0 := (B4.frozen (p := ⟨g, k, none⟩) hg2).trans q0; have p1 := (B4.frozen (p := ⟨g, k + 1, none⟩) hg2).trans q1)))
            have hg4 : w2.grownBy w4 (some g) := gr_of_below B4 B4.tape
            go_wp2
            go_roundw
            case rel => exact ⟨_, m + 1, rfl, by omega, by omega, by go_num, hG2.trans hg4, Lib.hid (Hn.out _ (by
              have h := H4.out
              rw [show pre ++ (y :: P).reverse ++ x :: (Q ++ rest) = (pre ++ P.reverse) ++ y :: x :: (Q ++ rest) by simp]
              exact h))⟩
            case measure => simp [intOf]; omega
    · have Hn : Hid (RowN wr g (pre ++ (isortR cf [] seg).reverse ++ post)) := by
        have h := hR.out
        rw [List.take_of_length_le (by omega), List.drop_eq_nil_of_le (by omega)] at h
        exact h
      have hpm : ¬ (pre.length : Int) + m < pre.length + seg.length := by omega
      clear hR
      go_wp2
      go_end0
      exact ⟨⟨_, rfl⟩, by (have h := Hn.out; rwa [List.append_assoc] at h), hG⟩
end Go.Proofs.Yteidknjhponpkaa.T
namespace Go.Proofs.Yteidknjhponpkaa.T
open Go.RowKit L
set_option linter.unusedVariables false
set_option linter.unusedSimpArgs false

theorem depths_app (l m : List Tm) : depths (l ++ m) = max (depths l) (depths m) := by
  induction l with
  | nil => rw [List.nil_append, depths]; omega
  | cons t l ih => rw [List.cons_append, depths, depths, ih]; omega
theorem depth_args (t : Tm) : depth t = 1 + depths (argsT t) := by cases t; rw [depth]; rfl
theorem depths_take {x : Tm} {l : List Tm} {k : Nat} (h : l[k]? = some x) : depths (l.take (k + 1)) = max (depths (l.take k)) (depth x) := by
  rw [take_t h, depths_app, depths, depths]; omega
theorem depths_le {l : List Tm} (k : Nat) : depths (l.take k) ≤ depths l := by
  have := depths_app (l.take k) (l.drop k)
  rw [List.take_append_drop] at this
  omega
def HeightOk (t : Tm) : Prop := ∀ (a : Option Addr) (m c : Nat) (w : World), depth t ≤ 1000000 → ArW w t a m c →
  Calls Try.prog 50 #[.agg #[.int .i64 (opT t), .string (nameT t), .int .i64 (numT t), .slice a m c], .func (.func 24) #[] #[]] w fun e w' => e = .returned (.int .i64 (depth t : Nat)) ∧ Below w.heap.size w w'

set_option maxRecDepth 100000 in
set_option maxHeartbeats 4000000 in
theorem height_step (t : Tm) (hok : ∀ x ∈ argsT t, HeightOk x) : HeightOk t := by
  intro a m c w hd hA
  obtain ⟨W2, hW2, hB2, hs2, S2⟩ := box1 w (opT t) (nameT t) (numT t) a m c
  have hT := TsW.b (ArW.args hA) hB2
  rw [depth_args] at hd ⊢
  have hk2 : ∀ k x, (argsT t)[k]? = some x → HeightOk x := fun k x h => hok x (List.mem_of_getElem? h)
  have hn : m ≤ 9223372036854775807 := by have h1 := hT.2.1; have h2 := hT.2.2.1; unfold maxLen at h2; omega
  have hle := fun k => @depths_le (argsT t) k
  have htk : ∀ k x, (argsT t)[k]? = some x → depths ((argsT t).take (k + 1)) = max (depths ((argsT t).take k)) (depth x) := fun k x h => depths_take h
  have hend : ∀ k, m ≤ k → depths ((argsT t).take k) = depths (argsT t) := fun k h => by rw [List.take_of_length_le (by rw [← hT.1]; exact h)]
  have h0 : depths ((argsT t).take 0) = 0 := rfl
  generalize argsT t = la at *
  obtain ⟨F, hF⟩ : ∃ F : Nat → Nat, ∀ k, depths (la.take k) = F k := ⟨_, fun _ => rfl⟩
  simp only [hF] at hle htk hend h0
  generalize depths la = R at *
  obtain ⟨s0, s1, s2, s3⟩ := S2.four
  have H1 := Lib.hid hT
  have Htk := Lib.hid htk
  have Hend := Lib.hid hend
  have HK := Lib.hid hk2
  have Hle := Lib.hid hle
  have H0 := Lib.hid h0
  clear hA hT htk hend hk2 hok hF S2 hle h0
  generalize opT t = op at *
  generalize nameT t = nm at *
  generalize numT t = nu at *
  go_enter Try.func50, Try.ntmps50
  go_wp2_with (go_at_call 24; ((with_reducible refine (args_any _ _ _ _ _ _ W2).mono ?_); rintro e W2b ⟨rfl, hW2b⟩; have HW2 := Lib.hid hW2b; clear hW2b))
  have hB2b : Below W2.heap.size W2 W2b := by rw [HW2.out]; exact bel_alloc (Below.refl _ _) _
  clear HW2
  go_loopw [5, 12] (fun q i wr0 => ∃ (wr : World) (k h : Nat), wr = wr0 ∧ k ≤ m ∧ q = .int .i64 h ∧ i = .int .i64 k ∧ Below W2.heap.size W2 wr ∧ Hid (h = F k)) (fun q i _ => m - (intOf i).toNat)
  case atStart => exact ⟨_, 0, 0, rfl, by omega, rfl, rfl, hB2b, H0.out.symm⟩
  case round =>
    obtain ⟨wr, k, h, rfl, hk, rfl, rfl, hB, hR⟩ := hrel
    by_cases hlt : k < m
    · obtain ⟨bb, o, x, A, M, Cc, rfl, hb, y0, y1, y2, y3, hx, hok⟩ := (TsW.b H1.out hB).at hlt
      obtain ⟨W4, hW4, hB4, hs4, S4⟩ := box1 wr (opT x) (nameT x) (numT x) A M Cc
      have hmx := Htk.out k x hx
      have hl1 := Hle.out (k + 1)
      have hl0 := Hle.out k
      have hhk := hR.out
      have cs := HK.out k x hx A M Cc W4 (by omega) (ArW.b hok hB4)
      obtain ⟨f0, f1, f2, f3⟩ := S4.four
      have B4 := bel_trans hB hB4
      rw [← hhk] at hmx
      have Hmx := Lib.hid hmx
      have hdx : depth x ≤ 1000000 := by omega
      have hhb : h ≤ 1000000 := by omega
      clear hx hok H1 Htk HK S4 hmx hR hl0 hl1 hhk
      generalize depth x = dx at *
      generalize opT x = op' at *
      generalize nameT x = nm' at *
      generalize numT x = nu' at *
      have hk0 : 0 ≤ (k : Int) := by omega
      have hk1 : (k : Int) < (m : Int) := by omega
      go_wp2_with (go_at_call 50; ((with_reducible refine cs.mono ?_); rintro e w4 ⟨rfl, hb4⟩))
      go_roundw
      case rel => exact ⟨_, k + 1, max h dx, rfl, by omega, by congr 1; split <;> omega, by go_num, bel_trans B4 hb4, Hmx.out.symm⟩
      case measure => simp [intOf]; omega
    · have hnew : Hid (h = R) := by show _ = _; rw [hR.out, Hend.out k (by omega)]
      have hhb : h ≤ 1000000 := by have := hnew.out; omega
      clear hR
      go_wp2
      go_ret
      exact ⟨one (by rw [← hnew.out]; omega), bel_trans hB2 hB⟩
theorem height_any (t : Tm) : HeightOk t := Tm.ind height_step t

set_option maxRecDepth 100000 in
set_option maxHeartbeats 4000000 in
theorem treeDepth_few (t : Tm) (a : Option Addr) (m c : Nat) (w : World) (hsz : size t ≤ 4096) (hA : ArW w t a m c) :
    Calls Try.prog 23 #[.agg #[.int .i64 (opT t), .string (nameT t), .int .i64 (numT t), .slice a m c], .func (.func 24) #[] #[]] w fun e w' => e = .returned (.int .i64 ((min (depth t) 65 : Nat) : Int)) ∧ Below w.heap.size w w' := by
  obtain ⟨W2, hW2, hB2, hs2, S2⟩ := box1 w (opT t) (nameT t) (numT t) a m c
  have hd := depth_size t
  have cS := few_any t a m c W2 (ArW.b hA hB2)
  rw [show decide (size t ≤ 4096) = true from decide_eq_true hsz] at cS
  have cH := fun (w' : World) (h : Below W2.heap.size W2 w') => height_any t a m c w' (by omega) (ArW.b (ArW.b hA hB2) h)
  obtain ⟨s0, s1, s2, s3⟩ := S2.four
  have HS := Lib.hid S2
  clear S2 hA
  have Hm := Lib.hid (show ∀ R : Int, R = min (depth t : Int) 65 → R = ((min (depth t) 65 : Nat) : Int) from fun R h => by omega)
  generalize ((min (depth t) 65 : Nat) : Int) = R at *
  generalize size t = sz at *
  generalize depth t = dp at *
  generalize opT t = op at *
  generalize nameT t = nm at *
  generalize numT t = nu at *
  go_enter Try.func23, Try.ntmps23
  go_wp2_with (first
    | (go_at_call 49; ((with_reducible refine cS.mono ?_); rintro e w3 ⟨rfl, hb3⟩; obtain ⟨u0, u1, u2, u3⟩ := (TBox.b HS.out hb3).four))
    | (go_at_call 50; ((with_reducible refine (cH _ hb3).mono ?_); rintro e w4 ⟨rfl, hb4⟩)))
  all_goals go_ret
  all_goals exact ⟨one (Hm.out _ (by omega)), bel_trans hB2 (bel_trans hb3 hb4)⟩
set_option maxHeartbeats 4000000 in
theorem Depth_few (t : Tm) (a : Option Addr) (m c : Nat) (w : World) (hsz : size t ≤ 4096) (hA : ArW w t a m c) :
    Calls Try.prog 11 #[.agg #[.int .i64 (opT t), .string (nameT t), .int .i64 (numT t), .slice a m c]] w fun e w' => e = .returned (.int .i64 ((min (depth t) 65 : Nat) : Int)) ∧ Below w.heap.size w w' := by
  obtain ⟨W2, hW2, hB2, hs2, S2⟩ := box1 w (opT t) (nameT t) (numT t) a m c
  have cS := treeDepth_few t a m c W2 hsz (ArW.b hA hB2)
  obtain ⟨s0, s1, s2, s3⟩ := S2.four
  clear S2 hA hsz
  generalize ((min (depth t) 65 : Nat) : Int) = R at *
  generalize opT t = op at *
  generalize nameT t = nm at *
  generalize numT t = nu at *
  go_enter Try.func11, Try.ntmps11
  go_wp2_with (go_at_call 23; ((with_reducible refine cS.mono ?_); rintro e w3 ⟨rfl, hb3⟩))
  go_ret
  exact ⟨rfl, bel_trans hB2 hb3⟩

end Go.Proofs.Yteidknjhponpkaa.T
