/-
  What is proved: how many parts a term has, as package term and the document count them, up to one more than the greatest number.
  What is proved: how deep a term is, as package term counts it for terms of few parts, and as the document does.
-/
import Derived.Test.YtcigeclnbhcohaaGreatDoorBT
import Derived.Test.YtcigeclnbhcohaaGreatDoorBL
namespace Go.Proofs.YtcigeclnbhcohaaGreatDoor.T
open Go.RowKit Go.Shelf L
set_option linter.unusedVariables false
set_option linter.unusedSimpArgs false
attribute [local go_sem] Oper.semAt_some

theorem gr_set {W0 W : World} {g : Nat} (h : W0.grownBy W (some g)) (k : Nat) (v : Value) : W0.grownBy (W.setCell ⟨g, k, none⟩ v) (some g) := h.trans (grown_setCell W g k v)
theorem gr_alloc {W0 W : World} {g : Nat} (h : W0.grownBy W (some g)) (o : Obj) : W0.grownBy (W.alloc o) (some g) := h.trans (World.grownBy_alloc W o (some g))
theorem gr_below {B g : Nat} {W W' : World} (h : W.grownBy W' (some g)) (hB : B ≤ W.heap.size) (hg : B ≤ g) : Below B W W' := (Below.refl B W).grown h hB (fun k e => by cases e; exact hg)
theorem gr_blk {W W' : World} {g x : Nat} {cs : Array Value} {t : TypeId} (h : Blk W x cs t) (hg : W.grownBy W' (some g)) (hne : x ≠ g) : Blk W' x cs t := Blk.grown h hg (fun e => hne (by cases e; rfl))

theorem own_blkF {β : Type} (g : Nat) (cs : β → Array Value) (t : TypeId) : Own (fun (s : β) W => Blk W g (cs s) t) := fun s X Y row hs hg hr => by
  refine (hg.block g (Blk.lt hs) (fun e => ?_)).trans hs
  obtain ⟨o, ho, hc⟩ := hr g e.symm
  rw [show X.heap[g]? = _ from hs] at ho; cases ho; cases hc
theorem few1_any (g : Nat) (o : Int) (s : ByteArray) (z : Int) (a : Option Addr) (m c q : Nat) (W : World) (hq : q ≤ 4096) (hg : Blk W g #[.int .i64 q] 3) :
    Calls Tryz.prog 135 #[.agg #[.int .i64 o, .string s, .int .i64 z, .slice a m c], .pointer (some ⟨g, 0, none⟩)] W fun e W' => e = .returned (.bool (decide (q + 1 ≤ 4096))) ∧ Blk W' g #[.int .i64 (q + 1)] 3 ∧ W.grownBy W' (some g) := by
  have hg2 := Blk.alloc hg (.cells #[.int .i64 o, .string s, .int .i64 z, .slice a m c] 24)
  obtain ⟨W2, hW2⟩ : ∃ W2, W.alloc (.cells #[.int .i64 o, .string s, .int .i64 z, .slice a m c] 24) = W2 := ⟨_, rfl⟩
  have hgr : W.grownBy W2 (some g) := by rw [← hW2]; exact World.grownBy_alloc W _ _
  rw [hW2] at hg2
  have c0 := Blk.cell hg2 0
  have q0 := Blk.free hg2 0
  have hs := blk_cell_set hg2 (.int .i64 ((q : Int) + 1))
  have c1 := Blk.cell hs 0
  have he : decide ((q : Int) + 1 ≤ 4096) = decide (q + 1 ≤ 4096) := by rw [decide_eq_decide]; omega
  have He := Lib.hid he
  clear he
  go_enter Tryz.func135, Tryz.ntmps135
  go_wp2
  go_ret
  exact ⟨oneB He.out, hs, gr_set hgr _ _⟩

def VisitCntOk (B : Nat) (w0 : World) (g : Nat) (t : Tm) : Prop :=
  ∀ (a : Option Addr) (m c q : Nat) (W : World), Ar B w0 t a m c → Below B w0 W → B ≤ g → q ≤ 4096 → Blk W g #[.int .i64 q] 3 →
    Calls Tryz.prog 115 #[.agg #[.int .i64 (opT t), .string (nameT t), .int .i64 (numT t), .slice a m c], .func (.func 88) #[] #[], .func (.func 135) #[] #[.pointer (some ⟨g, 0, none⟩)]] W fun e W' =>
      W.grownBy W' (some g) ∧ ((q + size t ≤ 4096 ∧ e = .returned (.bool true) ∧ Blk W' g #[.int .i64 ((q + size t : Nat) : Int)] 3) ∨ (4096 < q + size t ∧ e = .returned (.bool false) ∧ Blk W' g #[.int .i64 4097] 3))

set_option maxRecDepth 100000 in
set_option maxHeartbeats 4000000 in
theorem visitCnt_step (B : Nat) (w0 : World) (g : Nat) (t : Tm) (hok : ∀ x ∈ argsT t, VisitCntOk B w0 g x) : VisitCntOk B w0 g t := by
  intro a m c q W hA hB hBg hq hgb
  obtain ⟨W2, hW2, hB2, hs2, S2⟩ := box1 W (opT t) (nameT t) (numT t) a m c
  have hlt := Blk.lt hgb
  have hg2 := Blk.below hgb hB2
  have c1 := few1_any g (opT t) (nameT t) (numT t) a m c q W2 hq hg2
  have hgr2 : W.grownBy W2 (some g) := by rw [← hW2]; exact World.grownBy_alloc W _ _
  have hT := ar_isT.1 hA
  have hsz : size t = 1 + sizes (argsT t) := by cases t; rw [size]; rfl
  obtain ⟨s0, s1, s2, s3⟩ := S2.four
  by_cases hq6 : q = 4096
  · subst hq6
    clear hT hA hok hg2
    generalize opT t = op at *
    generalize nameT t = nm at *
    generalize numT t = nu at *
    go_enter Tryz.func115, Tryz.ntmps115
    go_wp2_with (go_at_call 135; ((with_reducible refine c1.mono ?_); rintro e W3 ⟨rfl, hg3, hgr3⟩))
    go_ret
    exact ⟨hgr2.trans hgr3, .inr ⟨by omega, rfl, hg3⟩⟩
  · have hq7 : decide (q + 1 ≤ 4096) = true := by simp; omega
    rw [hq7] at c1
    have hn : m ≤ 9223372036854775807 := by have h1 := hT.2.1; have h2 := hT.2.2.1; unfold maxLen at h2; omega
    have HT := Lib.hid hT
    have HK := Lib.hid (show ∀ k x, (argsT t)[k]? = some x → VisitCntOk B w0 g x from fun k x h => hok x (List.mem_of_getElem? h))
    have HS := Lib.hid S2
    have hne : W.heap.size ≠ g := by omega
    have HSZ := Lib.hid hsz
    clear hT hA hok hg2 hq7 hsz S2
    generalize hla : argsT t = la at *
    have HLa := Lib.hid hla
    clear hla
    generalize opT t = op at *
    generalize nameT t = nm at *
    generalize numT t = nu at *
    generalize size t = sz at *
    go_enter Tryz.func115, Tryz.ntmps115
    go_wp2_with (first
      | (go_at_call 135; ((with_reducible refine c1.mono ?_); rintro e W3 ⟨rfl, hg3, hgr3⟩; obtain ⟨u0, u1, u2, u3⟩ := TBox.four (gr_blk HS.out hgr3 hne)))
      | (go_at_call 88; ((with_reducible refine (args_any _ _ _ _ _ _ W3).mono ?_); rintro e W3b ⟨rfl, hW3b⟩; have HW3 := Lib.hid hW3b; clear hW3b)))
    have hgr3b : W.grownBy W3b (some g) := by rw [HW3.out]; exact gr_alloc (hgr2.trans hgr3) _
    have hg3b : Blk W3b g #[.int .i64 ((q + 1 : Nat) : Int)] 3 := by rw [HW3.out]; exact Blk.alloc (by simpa using hg3) _
    clear HW3
    go_loopw [17] (fun i wr0 => ∃ (wr : World) (k : Nat), wr = wr0 ∧ k ≤ m ∧ i = .int .i64 k ∧ W.grownBy wr (some g) ∧ q + 1 + sizes (la.take k) ≤ 4096 ∧ Blk wr g #[.int .i64 ((q + 1 + sizes (la.take k) : Nat) : Int)] 3) (fun i _ => m - (intOf i).toNat)
    case atStart => exact ⟨_, 0, rfl, by omega, rfl, hgr3b, by simp [sizes]; omega, by simpa [sizes] using hg3b⟩
    case round =>
      obtain ⟨wr, k, rfl, hk, rfl, hGr, hqk, hgk⟩ := hrel
      have hBr : Below B w0 wr := hB.trans (gr_below hGr (by omega) hBg)
      by_cases hlk : k < m
      · obtain ⟨bb, o, x, A, M, Cc, rfl, hb, z0, z1, z2, z3, hx, hok⟩ := HT.out.at hlk
        have y0 := (hBr.cell (p := ⟨bb, _, none⟩) hb).trans z0
        have y1 := (hBr.cell (p := ⟨bb, _, none⟩) hb).trans z1
        have y2 := (hBr.cell (p := ⟨bb, _, none⟩) hb).trans z2
        have y3 := (hBr.cell (p := ⟨bb, _, none⟩) hb).trans z3
        obtain ⟨W4, hW4, hB4, hs4, S4⟩ := box1 wr (opT x) (nameT x) (numT x) A M Cc
        have hgr4 : wr.grownBy W4 (some g) := by rw [← hW4]; exact World.grownBy_alloc wr _ _
        have cv := HK.out k x hx A M Cc (q + 1 + sizes (la.take k)) W4 hok (hBr.trans (hB4.mono (by have := hGr.size; omega))) hBg hqk (Blk.below hgk hB4)
        have hlts := alls_lt hx
        have htk : sizes (la.take (k + 1)) = sizes (la.take k) + size x := by rw [take_t hx, sizes_app, sizes, sizes]; omega
        obtain ⟨f0, f1, f2, f3⟩ := S4.four
        have HG := Lib.hid hgk
        have HTk := Lib.hid htk
        clear z0 z1 z2 z3 hok HK HT S4 hgk htk
        have Hx := Lib.hid hx
        clear hx
        generalize opT x = op' at *
        generalize nameT x = nm' at *
        generalize numT x = nu' at *
        generalize size x = sx at *
        have hk0 : 0 ≤ (k : Int) := by omega
        have hk1 : (k : Int) < (m : Int) := by omega
        generalize hsk : sizes (la.take k) = sk at *
        go_wp2_with (go_at_call 115; ((with_reducible refine cv.mono ?_); rintro e W5 ⟨hgr5, (⟨hle, rfl, hb5⟩ | ⟨hgt, rfl, hb5⟩)⟩; all_goals (have Hb := Lib.hid hb5; clear hb5)))
        · go_roundw
          case rel => exact ⟨_, k + 1, rfl, by omega, by go_num, (hGr.trans hgr4).trans hgr5, by rw [HTk.out]; omega, by
            rw [HTk.out, show q + 1 + (sk + sx) = q + 1 + sk + sx by omega]; exact Hb.out⟩
          case measure => simp [intOf]; omega
        · go_ret
          refine ⟨(hGr.trans hgr4).trans hgr5, .inr ⟨?_, rfl, Hb.out⟩⟩
          have := HSZ.out
          omega
      · obtain rfl : k = m := by omega
        have hfin : q + sz = q + 1 + sizes (la.take k) := by
          rw [HSZ.out, List.take_of_length_le (by have := HT.out.1; omega)]; omega
        have Hf := Lib.hid hfin
        have HG := Lib.hid hgk
        clear hfin hgk
        go_wp2
        go_ret
        exact ⟨hGr, .inl ⟨by rw [Hf.out]; exact hqk, rfl, by rw [Hf.out]; exact HG.out⟩⟩
theorem visitCnt_any (B : Nat) (w0 : World) (g : Nat) (t : Tm) : VisitCntOk B w0 g t := Tm.ind (visitCnt_step B w0 g) t
set_option maxHeartbeats 4000000 in
theorem few_any (t : Tm) (a : Option Addr) (m c : Nat) (w : World) (hA : ArW w t a m c) :
    Calls Tryz.prog 111 #[.agg #[.int .i64 (opT t), .string (nameT t), .int .i64 (numT t), .slice a m c], .func (.func 88) #[] #[]] w fun e w' => e = .returned (.bool (decide (size t ≤ 4096))) ∧ Below w.heap.size w w' := by
  obtain ⟨W2, hW2, hB2, hs2, S2⟩ := box1 w (opT t) (nameT t) (numT t) a m c
  obtain ⟨W1, hW1⟩ : ∃ W1, W2.alloc (.cells #[.int .i64 0] 3) = W1 := ⟨_, rfl⟩
  have hB1 : Below W2.heap.size W2 W1 := by rw [← hW1]; exact bel_alloc (Below.refl _ _) _
  have hg1 : Blk W1 (w.heap.size + 1) #[.int .i64 0] 3 := by rw [← hW1, ← hs2]; exact Blk.new W2 _ _
  have k1 := Blk.cell hg1 0
  have k2 := Blk.free hg1 0
  obtain ⟨W3, hW3⟩ : ∃ W3, W1.setCell ⟨w.heap.size + 1, 0, none⟩ (.int .i64 0) = W3 := ⟨_, rfl⟩
  have hB3 : Below W2.heap.size W2 W3 := by rw [← hW3]; exact below_set hB1 (by omega) _ _
  have hg : Blk W3 (w.heap.size + 1) #[.int .i64 ((0 : Nat) : Int)] 3 := by rw [← hW3]; exact blk_cell_set hg1 _
  have cv := visitCnt_any w.heap.size w (w.heap.size + 1) t a m c 0 W3 hA (hB2.trans (hB3.mono hB2.size)) (by omega) (by omega) hg
  have S3 := S2.b hB3
  obtain ⟨u0, u1, u2, u3⟩ := S3.four
  have hBB := bel_trans hB2 hB3
  have hsz3 : w.heap.size ≤ W3.heap.size := hBB.size
  have h1 : ∀ n : Nat, n = 0 + size t → n ≤ 4096 → true = decide (size t ≤ 4096) := fun n h h2 => (decide_eq_true (by omega)).symm
  have h2 : 4096 < 0 + size t → false = decide (size t ≤ 4096) := fun h => (decide_eq_false (by omega)).symm
  clear S2 S3 hA
  generalize hR : decide (size t ≤ 4096) = R at *
  clear hR
  have H1 := Lib.hid (h1 _ rfl)
  have H2 := Lib.hid h2
  clear h1 h2
  generalize 0 + size t = sz at *
  generalize opT t = op at *
  generalize nameT t = nm at *
  generalize numT t = nu at *
  go_enter Tryz.func111, Tryz.ntmps111
  go_wp2_with (go_at_call 115; ((with_reducible refine cv.mono ?_); rintro e W5 ⟨hgr5, (⟨hle, rfl, hb5⟩ | ⟨hgt, rfl, hb5⟩)⟩; all_goals (have c5 := Blk.cell hb5 0)))
  · go_ret
    exact ⟨oneB (H1.out hle), hBB.trans (gr_below hgr5 (by omega) (by omega))⟩
  · go_ret
    exact ⟨oneB (H2.out hgt), hBB.trans (gr_below hgr5 (by omega) (by omega))⟩
set_option maxRecDepth 100000 in
set_option maxHeartbeats 4000000 in
theorem tSize_in (t : Tm) (a : Option Addr) (m c : Nat) (w : World) (hA : ArW w t a m c) :
    CallsIn Fence.wide 6 Tryz.prog 53 #[.agg #[.int .i64 (opT t), .string (nameT t), .int .i64 (numT t), .slice a m c]] w fun e w' => e = .returned (.int .i64 ((min (size t) 4097 : Nat) : Int)) ∧ Below w.heap.size w w' := by
  obtain ⟨W2, hW2, hB2, hs2, S2⟩ := box1 w (opT t) (nameT t) (numT t) a m c
  obtain ⟨W1, hW1⟩ : ∃ W1, W2.alloc (.cells #[.int .i64 0] 3) = W1 := ⟨_, rfl⟩
  have hB1 : Below W2.heap.size W2 W1 := by rw [← hW1]; exact bel_alloc (Below.refl _ _) _
  have hs1 : W1.heap.size = w.heap.size + 2 := by rw [← hW1, World.size_alloc, hs2]
  have hg1 : Blk W1 (w.heap.size + 1) #[.int .i64 0] 3 := by rw [← hW1, ← hs2]; exact Blk.new W2 _ _
  have k1 := Blk.cell hg1 0
  have k2 := Blk.free hg1 0
  obtain ⟨W3, hW3⟩ : ∃ W3, W1.setCell ⟨w.heap.size + 1, 0, none⟩ (.int .i64 0) = W3 := ⟨_, rfl⟩
  have hB3 : Below W2.heap.size W2 W3 := by rw [← hW3]; exact below_set hB1 (by omega) _ _
  have hs3 : W3.heap.size = w.heap.size + 2 := by rw [← hW3]; simp [World.setCell, hs1]
  have hg : Blk W3 (w.heap.size + 1) #[.int .i64 ((0 : Nat) : Int)] 3 := by rw [← hW3]; exact blk_cell_set hg1 _
  obtain ⟨u0, u1, u2, u3⟩ := (S2.b hB3).four
  obtain ⟨W4, hW4, hB4, hs4, I4, F4⟩ := box_all W3 (opT t) (nameT t) (numT t) a m c
  have G4 := Blk.below hg hB4
  have B4 : Below w.heap.size w W4 := bel_trans (bel_trans hB2 hB3) hB4
  rw [hs3, Nat.add_assoc] at I4 F4
  have hst := all_stops (5 : Nat) w.heap.size (w.heap.size + 3) (w.heap.size + 4) w W4 t a m c hA B4 B4.size I4 F4
  have cAll := all_any (opT t) (nameT t) (numT t) a m c W3
  rw [hW4, hs3, Nat.add_assoc, Nat.add_assoc] at cAll
  have hz1 : size t ≤ 4096 → (size t : Int) = ((min (size t) 4097 : Nat) : Int) := fun h => by omega
  have hz2 : 4096 < size t → (4097 : Int) = ((min (size t) 4097 : Nat) : Int) := fun h => by omega
  clear hA S2 hg1 hg
  generalize hR : ((min (size t) 4097 : Nat) : Int) = R at *
  clear hR
  refine callsIn_of_wp_marks Tryz.func53 rfl trivial ?_ rfl
  simp only [Tryz.ntmps53, List.size_toArray, List.length_cons, List.length_nil, Nat.reduceAdd, Nat.reduceSub, Array.replicate_succ, Array.replicate_zero, List.push_toArray, List.append_toArray, List.nil_append, List.cons_append]
  gi_wp2_with (refine ⟨trivial, ?_⟩; gi_at_call 54; refine (callsIn_wide.2 cAll).mono ?_; rintro e w' ⟨rfl, rfl⟩)
  refine wpIn_rangeFunc_ownH rfl (by decide) (gf := 114) (lb := #[.pointer (some ⟨w.heap.size + 3, 0, none⟩), .pointer (some ⟨w.heap.size + 4, 0, none⟩)]) rfl trivial (enters_of Tryz.func114 (by kernel_rfl) rfl)
    hst KpT.trans (KpT.obj B4.size) (Below.refl _ _) (fun _ => rfl)
    (fun pre W => ((pre.length ≤ 4096) ∧ Blk W (w.heap.size + 1) #[.int .i64 ((pre.length : Nat) : Int)] 3) ∧ Below w.heap.size w W)
    (fun cd pre W => ((cd = .exit 0 ∧ 4096 < pre.length) ∧ Blk W (w.heap.size + 1) #[.int .i64 4097] 3) ∧ Below w.heap.size w W)
    (OwnFrom.and (OwnFrom.and (ownFrom_pure _ _) (Own.from (own_blkF (w.heap.size + 1) (fun pre : List (Pt w.heap.size w) => #[.int .i64 ((pre.length : Nat) : Int)]) 3) _)) (ownFrom_below (Nat.le_refl _) B4.size))
    (fun cd => OwnFrom.and (OwnFrom.and (ownFrom_pure _ _) (Own.from (own_blk _ _ _) _)) (ownFrom_below (Nat.le_refl _) B4.size))
    ⟨⟨by simp, by simpa using G4⟩, B4⟩
    (fun x a2 W => a2 = { tmps := #[.agg #[.int .i64 (opT t), .string (nameT t), .int .i64 (numT t), .slice a m c], .pointer (some ⟨w.heap.size, 0, none⟩), .int .i64 0, .pointer (some ⟨w.heap.size + 1, 0, none⟩), .agg #[.int .i64 (opT t), .string (nameT t), .int .i64 (numT t), .slice a m c], .func (.func 114) #[] #[.pointer (some ⟨w.heap.size + 3, 0, none⟩), .pointer (some ⟨w.heap.size + 4, 0, none⟩)], .agg #[.int .i64 (opT x.t), .string (nameT x.t), .int .i64 (numT x.t), .slice x.a x.n x.c], undef, undef, undef, undef, undef], defers := [] })
    (fun x a2 => ownFrom_pure _ _)
    ?assign ?body ?done ?stop
  case assign =>
    rintro l pre x W K hI hK
    unfold encP
    gi_wp2
    exact hK _ _ (keepsF (Below.refl _ _)) (KpT.refl _ _) hI (by first | (simp; done) | kernel_rfl)
  case body =>
    rintro l pre x a2 W hl hr ⟨⟨hq, hG⟩, hB⟩ rfl hlt
    have hlen : (pre ++ [x]).length = pre.length + 1 := by simp
    obtain ⟨q, hql⟩ : ∃ q, q = pre.length := ⟨_, rfl⟩
    rw [← hql] at hlen hq hG
    clear hql
    have c0 := Blk.cell hG 0
    have q0 := Blk.free hG 0
    have hs := blk_cell_set hG (.int .i64 ((q : Int) + 1))
    have c1 := Blk.cell hs 0
    have hkp : KpT w.heap.size W (W.setCell ⟨w.heap.size + 1, 0, none⟩ (.int .i64 ((q : Int) + 1))) := ⟨(Below.refl _ _).setCell (p := ⟨w.heap.size + 1, 0, none⟩) (by simp) _, keep_set hG (by simp) _ _⟩
    have e7 : (4096 : Nat) + 1 = 4097 := rfl
    by_cases hq6 : q = 4096
    · subst hq6
      gi_wp2
      exact ⟨(KeepsOthers.setCell _ _ _).from _, ⟨⟨rfl, by rw [hlen]; omega⟩, hs⟩, hB.trans hkp.1⟩
    · have hq7 : ¬ (q : Int) + 1 > 4096 := by omega
      gi_wp2
      exact ⟨(KeepsOthers.setCell _ _ _).from _, hkp, ⟨by rw [hlen]; omega, by rw [hlen]; simpa using hs⟩, hB.trans hkp.1⟩
  case done =>
    rintro D zs W hD hS ⟨⟨hq, hG⟩, hB⟩ hK
    have hlen : zs.length = size t := by rw [← all_len t, ← hS]; simp
    rw [hlen] at hq hG
    have h1 := hz1 hq
    rw [h1] at hG
    clear hz1 hz2
    have hR3 := blk_put hG hK (.deferred none)
    have c6 := Blk.cell hG 0
    have hB2 := hB.trans (belowK_b (w := w) (Nat.le_refl _) W D _ (.deferred none) (Nat.le_trans B4.size hD) hK rfl rfl)
    gi_wp2
    refine ⟨by simp, .inl ⟨_, _, rfl, run_takeDeferred hK, ?_⟩⟩
    exact ⟨_, by simp [results, Tryz.results53, go_sem], rfl, hB2⟩
  case stop =>
    rintro D cd pre W hD hS ⟨⟨⟨rfl, hN⟩, hG⟩, hB⟩ hK
    have hlen : pre.length ≤ size t := by rw [← all_len t]; simpa using hS.length_le
    have h1 := hz2 (by omega)
    rw [h1] at hG
    clear hz1 hz2
    have hR3 := blk_put hG hK (.deferred none)
    have c6 := Blk.cell hG 0
    have hB2 := hB.trans (belowK_b (w := w) (Nat.le_refl _) W D _ (.deferred none) (Nat.le_trans B4.size hD) hK rfl rfl)
    gi_wp2
    refine ⟨by simp, .inl ⟨_, _, rfl, run_takeDeferred hK, ?_⟩⟩
    exact ⟨_, by simp [results, Tryz.results53, go_sem], rfl, hB2⟩
theorem tSize_any (t : Tm) (a : Option Addr) (m c : Nat) (w : World) (hA : ArW w t a m c) :
    Calls Tryz.prog 53 #[.agg #[.int .i64 (opT t), .string (nameT t), .int .i64 (numT t), .slice a m c]] w fun e w' => e = .returned (.int .i64 ((min (size t) 4097 : Nat) : Int)) ∧ Below w.heap.size w w' :=
  callsIn_wide.1 (tSize_in t a m c w hA)
theorem szTo_min (t : Tm) (most : Nat) : min (szTo most t) (most + 1) = min (size t) (most + 1) := by
  by_cases h : size t ≤ most
  · rw [szTo_small t most h]
  · have := szTo_big t most (by omega); omega
end Go.Proofs.YtcigeclnbhcohaaGreatDoor.T
namespace Go.Proofs.YtcigeclnbhcohaaGreatDoor.T
open Go.RowKit L
set_option linter.unusedVariables false
set_option linter.unusedSimpArgs false

theorem depths_app (l m : List Tm) : depths (l ++ m) = max (depths l) (depths m) := by
  induction l with
  | nil => rw [List.nil_append, depths]; omega
  | cons t l ih => rw [List.cons_append, depths, depths, ih]; omega
theorem depth_args (t : Tm) : depth t = 1 + depths (argsT t) := by cases t; rw [depth]; rfl
theorem depths_take {x : Tm} {l : List Tm} {k : Nat} (h : l[k]? = some x) : depths (l.take (k + 1)) = max (depths (l.take k)) (depth x) := by
  rw [take_t h, depths_app, depths, depths]; omega
theorem depths_le {l : List Tm} (k : Nat) : depths (l.take k) ≤ depths l := by
  have := depths_app (l.take k) (l.drop k)
  rw [List.take_append_drop] at this
  omega
def HeightOk (t : Tm) : Prop := ∀ (a : Option Addr) (m c : Nat) (w : World), depth t ≤ 1000000 → ArW w t a m c →
  Calls Tryz.prog 112 #[.agg #[.int .i64 (opT t), .string (nameT t), .int .i64 (numT t), .slice a m c], .func (.func 88) #[] #[]] w fun e w' => e = .returned (.int .i64 (depth t : Nat)) ∧ Below w.heap.size w w'

set_option maxRecDepth 100000 in
set_option maxHeartbeats 4000000 in
theorem height_step (t : Tm) (hok : ∀ x ∈ argsT t, HeightOk x) : HeightOk t := by
  intro a m c w hd hA
  obtain ⟨W2, hW2, hB2, hs2, S2⟩ := box1 w (opT t) (nameT t) (numT t) a m c
  have hT := TsW.b (ArW.args hA) hB2
  rw [depth_args] at hd ⊢
  have hk2 : ∀ k x, (argsT t)[k]? = some x → HeightOk x := fun k x h => hok x (List.mem_of_getElem? h)
  have hn : m ≤ 9223372036854775807 := by have h1 := hT.2.1; have h2 := hT.2.2.1; unfold maxLen at h2; omega
  have hle := fun k => @depths_le (argsT t) k
  have htk : ∀ k x, (argsT t)[k]? = some x → depths ((argsT t).take (k + 1)) = max (depths ((argsT t).take k)) (depth x) := fun k x h => depths_take h
  have hend : ∀ k, m ≤ k → depths ((argsT t).take k) = depths (argsT t) := fun k h => by rw [List.take_of_length_le (by rw [← hT.1]; exact h)]
  have h0 : depths ((argsT t).take 0) = 0 := rfl
  generalize argsT t = la at *
  obtain ⟨F, hF⟩ : ∃ F : Nat → Nat, ∀ k, depths (la.take k) = F k := ⟨_, fun _ => rfl⟩
  simp only [hF] at hle htk hend h0
  generalize depths la = R at *
  obtain ⟨s0, s1, s2, s3⟩ := S2.four
  have H1 := Lib.hid hT
  have Htk := Lib.hid htk
  have Hend := Lib.hid hend
  have HK := Lib.hid hk2
  have Hle := Lib.hid hle
  have H0 := Lib.hid h0
  clear hA hT htk hend hk2 hok hF S2 hle h0
  generalize opT t = op at *
  generalize nameT t = nm at *
  generalize numT t = nu at *
  go_enter Tryz.func112, Tryz.ntmps112
  go_wp2_with (go_at_call 88; ((with_reducible refine (args_any _ _ _ _ _ _ W2).mono ?_); rintro e W2b ⟨rfl, hW2b⟩; have HW2 := Lib.hid hW2b; clear hW2b))
  have hB2b : Below W2.heap.size W2 W2b := by rw [HW2.out]; exact bel_alloc (Below.refl _ _) _
  clear HW2
  go_loopw [5, 12] (fun q i wr0 => ∃ (wr : World) (k h : Nat), wr = wr0 ∧ k ≤ m ∧ q = .int .i64 h ∧ i = .int .i64 k ∧ Below W2.heap.size W2 wr ∧ Hid (h = F k)) (fun q i _ => m - (intOf i).toNat)
  case atStart => exact ⟨_, 0, 0, rfl, by omega, rfl, rfl, hB2b, H0.out.symm⟩
  case round =>
    obtain ⟨wr, k, h, rfl, hk, rfl, rfl, hB, hR⟩ := hrel
    by_cases hlt : k < m
    · obtain ⟨bb, o, x, A, M, Cc, rfl, hb, y0, y1, y2, y3, hx, hok⟩ := (TsW.b H1.out hB).at hlt
      obtain ⟨W4, hW4, hB4, hs4, S4⟩ := box1 wr (opT x) (nameT x) (numT x) A M Cc
      have hmx := Htk.out k x hx
      have hl1 := Hle.out (k + 1)
      have hl0 := Hle.out k
      have hhk := hR.out
      have cs := HK.out k x hx A M Cc W4 (by omega) (ArW.b hok hB4)
      obtain ⟨f0, f1, f2, f3⟩ := S4.four
      have B4 := bel_trans hB hB4
      rw [← hhk] at hmx
      have Hmx := Lib.hid hmx
      have hdx : depth x ≤ 1000000 := by omega
      have hhb : h ≤ 1000000 := by omega
      clear hx hok H1 Htk HK S4 hmx hR hl0 hl1 hhk
      generalize depth x = dx at *
      generalize opT x = op' at *
      generalize nameT x = nm' at *
      generalize numT x = nu' at *
      have hk0 : 0 ≤ (k : Int) := by omega
      have hk1 : (k : Int) < (m : Int) := by omega
      go_wp2_with (go_at_call 112; ((with_reducible refine cs.mono ?_); rintro e w4 ⟨rfl, hb4⟩))
      go_roundw
      case rel => exact ⟨_, k + 1, max h dx, rfl, by omega, by congr 1; split <;> omega, by go_num, bel_trans B4 hb4, Hmx.out.symm⟩
      case measure => simp [intOf]; omega
    · have hnew : Hid (h = R) := by show _ = _; rw [hR.out, Hend.out k (by omega)]
      have hhb : h ≤ 1000000 := by have := hnew.out; omega
      clear hR
      go_wp2
      go_ret
      exact ⟨one (by rw [← hnew.out]; omega), bel_trans hB2 hB⟩
theorem height_any (t : Tm) : HeightOk t := Tm.ind height_step t

set_option maxRecDepth 100000 in
set_option maxHeartbeats 4000000 in
theorem treeDepth_few (t : Tm) (a : Option Addr) (m c : Nat) (w : World) (hsz : size t ≤ 4096) (hA : ArW w t a m c) :
    Calls Tryz.prog 87 #[.agg #[.int .i64 (opT t), .string (nameT t), .int .i64 (numT t), .slice a m c], .func (.func 88) #[] #[]] w fun e w' => e = .returned (.int .i64 ((min (depth t) 65 : Nat) : Int)) ∧ Below w.heap.size w w' := by
  obtain ⟨W2, hW2, hB2, hs2, S2⟩ := box1 w (opT t) (nameT t) (numT t) a m c
  have hd := depth_size t
  have cS := few_any t a m c W2 (ArW.b hA hB2)
  rw [show decide (size t ≤ 4096) = true from decide_eq_true hsz] at cS
  have cH := fun (w' : World) (h : Below W2.heap.size W2 w') => height_any t a m c w' (by omega) (ArW.b (ArW.b hA hB2) h)
  obtain ⟨s0, s1, s2, s3⟩ := S2.four
  have HS := Lib.hid S2
  clear S2 hA
  have Hm := Lib.hid (show ∀ R : Int, R = min (depth t : Int) 65 → R = ((min (depth t) 65 : Nat) : Int) from fun R h => by omega)
  generalize ((min (depth t) 65 : Nat) : Int) = R at *
  generalize size t = sz at *
  generalize depth t = dp at *
  generalize opT t = op at *
  generalize nameT t = nm at *
  generalize numT t = nu at *
  go_enter Tryz.func87, Tryz.ntmps87
  go_wp2_with (first
    | (go_at_call 111; ((with_reducible refine cS.mono ?_); rintro e w3 ⟨rfl, hb3⟩; obtain ⟨u0, u1, u2, u3⟩ := (TBox.b HS.out hb3).four))
    | (go_at_call 112; ((with_reducible refine (cH _ hb3).mono ?_); rintro e w4 ⟨rfl, hb4⟩)))
  all_goals go_ret
  all_goals exact ⟨one (Hm.out _ (by omega)), bel_trans hB2 (bel_trans hb3 hb4)⟩
set_option maxHeartbeats 4000000 in
theorem Depth_few (t : Tm) (a : Option Addr) (m c : Nat) (w : World) (hsz : size t ≤ 4096) (hA : ArW w t a m c) :
    Calls Tryz.prog 52 #[.agg #[.int .i64 (opT t), .string (nameT t), .int .i64 (numT t), .slice a m c]] w fun e w' => e = .returned (.int .i64 ((min (depth t) 65 : Nat) : Int)) ∧ Below w.heap.size w w' := by
  obtain ⟨W2, hW2, hB2, hs2, S2⟩ := box1 w (opT t) (nameT t) (numT t) a m c
  have cS := treeDepth_few t a m c W2 hsz (ArW.b hA hB2)
  obtain ⟨s0, s1, s2, s3⟩ := S2.four
  clear S2 hA hsz
  generalize ((min (depth t) 65 : Nat) : Int) = R at *
  generalize opT t = op at *
  generalize nameT t = nm at *
  generalize numT t = nu at *
  go_enter Tryz.func52, Tryz.ntmps52
  go_wp2_with (go_at_call 87; ((with_reducible refine cS.mono ?_); rintro e w3 ⟨rfl, hb3⟩))
  go_ret
  exact ⟨rfl, bel_trans hB2 hb3⟩

end Go.Proofs.YtcigeclnbhcohaaGreatDoor.T
