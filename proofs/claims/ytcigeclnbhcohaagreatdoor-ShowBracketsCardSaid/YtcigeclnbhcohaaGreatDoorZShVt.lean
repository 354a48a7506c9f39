/-
  What is proved: package tree's iterator over the parts of a term, with the closure of package show.
-/
import Derived.Test.YtcigeclnbhcohaaGreatDoorBT
namespace Go.Proofs.YtcigeclnbhcohaaGreatDoor.Sh
open Go.RowKit Go.Shelf L T
set_option linter.unusedVariables false
set_option linter.unusedSimpArgs false
attribute [local go_sem] Oper.semAt_some

theorem args_any (o : Int) (s : ByteArray) (z : Int) (a : Option Addr) (n c : Nat) (w : World) :
    Calls Tryz.prog 101 #[.agg #[.int .i64 o, .string s, .int .i64 z, .slice a n c]] w fun e w' => e = .returned (.slice a n c) ∧ w' = w.alloc (.cells #[.int .i64 o, .string s, .int .i64 z, .slice a n c] 24) := by
  go_enter Tryz.func101, Tryz.ntmps101
  go_wp2
  go_ret
  exact ⟨rfl, rfl⟩
/-- the walk, at this term -/
def VisitOk (B : Nat) (w0 : World) (l N : Nat) (J Jx : List (Pt B w0) → World → Prop) (t : Tm) : Prop :=
  ∀ (n : Nat) (a : Option Addr) (m c : Nat) (pre : List (Pt B w0)) (W : World), Ar B w0 t a m c → Below B w0 W → B ≤ W.heap.size → J pre W → pre.length + size t ≤ N →
    CallsIn Fence.wide n Tryz.prog 115 #[.agg #[.int .i64 (opT t), .string (nameT t), .int .i64 (numT t), .slice a m c], .func (.func 101) #[] #[], .func (.yield l) #[] #[]] W fun e W' =>
      (e = .returned (.bool true) ∧ (∃ ys, ys.map Pt.t = all t ∧ J (pre ++ ys) W') ∧ KpT B W W') ∨ (e = .returned (.bool false) ∧ ∃ q, q.map Pt.t <+: all t ∧ Jx (pre ++ q) W')

set_option maxRecDepth 100000 in
set_option maxHeartbeats 4000000 in
theorem visit_step (B : Nat) (w0 : World) (l N : Nat) (J Jx : List (Pt B w0) → World → Prop) (b0 : Nat) (hJ : AbidesFrom b0 J) (hY : RoundsT B w0 l N J Jx) (t : Tm) (hok : ∀ x ∈ argsT t, VisitOk B w0 l N J Jx x) : VisitOk B w0 l N J Jx t := by
  intro n a m c pre W hA hB hBW hJ0 hN
  obtain ⟨W2, hW2, hB2, hs2, S2⟩ := box1 W (opT t) (nameT t) (numT t) a m c
  have hJ2 : J pre W2 := by rw [← hW2]; exact hJ pre W _ none hJ0 (World.grownBy_alloc W _ none) (fun r e => by cases e)
  have hp := size_pos t
  obtain ⟨fn, tmps, assign, body, hy, hR⟩ := hY (n - 1) pre ⟨t, a, m, c, hA⟩ W2 hJ2 (by omega)
  dsimp only [encP] at hy
  obtain ⟨s0, s1, s2, s3⟩ := S2.four
  have hKW : KpT B W W2 := KpT.of_below hBW hB2
  have hB02 : Below B w0 W2 := hB.trans hKW.1
  have hT := ar_isT.1 hA
  have hsz : size t = 1 + sizes (argsT t) := by cases t; rw [size]; rfl
  rw [all_mk]
  refine callsIn_of_wp Tryz.func115 rfl trivial ?_ rfl
  simp only [Tryz.ntmps115, List.size_toArray, List.length_cons, List.length_nil, Nat.reduceAdd, Nat.reduceSub, Array.replicate_succ, Array.replicate_zero, List.push_toArray, List.append_toArray, List.nil_append, List.cons_append]
  have hdd : ∀ k : Nat, (Fence.wide.depth.isSome = true → 1 ≤ k) := fun k h => by cases h
  gi_wp2_with (first
    | ((try refine ⟨hdd _, ?_⟩); refine hR.mono ?_; clear hR; rintro e W3 (⟨rfl, hJ3, hk3⟩ | ⟨rfl, hx3⟩); all_goals (try (have hk3' := hk3; obtain ⟨u0, u1, u2, u3⟩ := (S2.keep hk3).four)))
    | ((try refine ⟨trivial, ?_⟩); (try refine ⟨hdd _, ?_⟩); gi_at_call 101; refine (callsIn_wide.2 (args_any _ _ _ _ _ _ W3)).mono ?_; rintro e W3b ⟨rfl, hW3b⟩; have hW3c := Lib.hid hW3b; clear hW3b))
  · have hJ3b : J (pre ++ [⟨t, a, m, c, hA⟩]) W3b := by rw [hW3c.out]; exact hJ _ W3 _ none hJ3 (World.grownBy_alloc W3 _ none) (fun r e => by cases e)
    have hK3b : KpT B W3 W3b := by rw [hW3c.out]; exact KpT.of_below (Nat.le_trans hBW (hKW.trans hk3).1.size) (bel_alloc (Below.refl _ _) _)
    clear hJ3 hW3c
    have hJ3 := hJ3b
    have hK3 := (hKW.trans hk3).trans hK3b
    clear hJ3b
    have hn : m ≤ 9223372036854775807 := by have h1 := hT.2.1; have h2 := hT.2.2.1; unfold maxLen at h2; omega
    have hW3 : B ≤ W3b.heap.size := Nat.le_trans hBW hK3.1.size
    have HT := Lib.hid hT
    have HJ := Lib.hid hJ
    have HK := Lib.hid (show ∀ k x, (argsT t)[k]? = some x → VisitOk B w0 l N J Jx x from fun k x h => hok x (List.mem_of_getElem? h))
    have H0 : Hid (∃ ys : List (Pt B w0), ys.map Pt.t = t :: alls ((argsT t).take 0) ∧ J (pre ++ ys) W3b) := ⟨[⟨t, a, m, c, hA⟩], rfl, hJ3⟩
    clear hT hJ hok hJ3 hy hW2 s0 s1 s2 s3 u0 u1 u2 u3 S2 hJ2 hJ0 hY hK3b
    generalize hla : argsT t = la at *
    have HLa := Lib.hid hla
    clear hla
    generalize opT t = op at *
    generalize nameT t = nm at *
    generalize numT t = nu at *
    gi_loopw [17] (fun i wr0 => ∃ (wr : World) (k : Nat), wr = wr0 ∧ k ≤ m ∧ i = .int .i64 k ∧ KpT B W wr ∧ Hid (∃ ys : List (Pt B w0), ys.map Pt.t = t :: alls (la.take k) ∧ J (pre ++ ys) wr)) (fun i _ => m - (intOf i).toNat)
    case atStart => exact ⟨_, 0, rfl, by omega, rfl, hK3, H0⟩
    case round =>
      obtain ⟨wr, k, rfl, hk, rfl, hKr, hR⟩ := hrel
      have hBr : Below B w0 wr := hB.trans hKr.1
      have hBs : B ≤ wr.heap.size := Nat.le_trans hBW hKr.1.size
      by_cases hlt : k < m
      · obtain ⟨bb, o, x, A, M, Cc, rfl, hb, z0, z1, z2, z3, hx, hok⟩ := HT.out.at hlt
        have y0 := (hBr.cell (p := ⟨bb, _, none⟩) hb).trans z0
        have y1 := (hBr.cell (p := ⟨bb, _, none⟩) hb).trans z1
        have y2 := (hBr.cell (p := ⟨bb, _, none⟩) hb).trans z2
        have y3 := (hBr.cell (p := ⟨bb, _, none⟩) hb).trans z3
        obtain ⟨ys, hys, hJr⟩ := hR.out
        have hlen : ys.length = 1 + sizes (la.take k) := by
          have := congrArg List.length hys
          rw [List.length_map, List.length_cons, alls_len] at this
          omega
        have hlts := alls_lt hx
        obtain ⟨W4, hW4, hB4, hs4, S4⟩ := box1 wr (opT x) (nameT x) (numT x) A M Cc
        have hJ4 : J (pre ++ ys) W4 := by rw [← hW4]; exact HJ.out _ wr _ none hJr (World.grownBy_alloc wr _ none) (fun r e => by cases e)
        have hK4 : KpT B wr W4 := KpT.of_below hBs hB4
        have cv := HK.out k x hx (n - 1) A M Cc (pre ++ ys) W4 hok (hBr.trans hK4.1) (Nat.le_trans hBs hK4.1.size) hJ4 (by rw [List.length_append]; omega)
        obtain ⟨f0, f1, f2, f3⟩ := S4.four
        have hpre := alls_pre hx
        have htk := take_t hx
        clear z0 z1 z2 z3 hok hR HK HT HJ S4
        have Hx := Lib.hid hx
        have Hys := Lib.hid hys
        have Hpre := Lib.hid hpre
        have Htk := Lib.hid htk
        clear hx hys hpre htk hJr hJ4
        generalize opT x = op' at *
        generalize nameT x = nm' at *
        generalize numT x = nu' at *
        have hk0 : 0 ≤ (k : Int) := by omega
        have hk1 : (k : Int) < (m : Int) := by omega
        gi_wp2_with ((try refine ⟨trivial, ?_⟩); (try refine ⟨hdd _, ?_⟩); gi_at_call 115; refine cv.mono ?_; clear cv; rintro e W5 (⟨rfl, hz, hk5⟩ | ⟨rfl, hq⟩); all_goals (first | (have Hz := Lib.hid hz; clear hz) | (have Hq := Lib.hid hq; clear hq)))
        · go_roundw
          case rel => exact ⟨_, k + 1, rfl, by omega, by go_num, (hKr.trans hK4).trans hk5, by
            obtain ⟨zs, h1, h2⟩ := Hz.out
            refine ⟨ys ++ zs, ?_, by rw [← List.append_assoc]; exact h2⟩
            rw [List.map_append, Hys.out, h1, Htk.out, alls_app, List.cons_append]
            rw [show alls [x] = all x by rw [alls, alls, List.append_nil]]⟩
          case measure => simp [intOf]; omega
        · go_ret
          refine .inr ⟨rfl, ?_⟩
          rw [HLa.out]
          obtain ⟨q, h1, h2⟩ := Hq.out
          refine ⟨ys ++ q, ?_, by rw [← List.append_assoc]; exact h2⟩
          rw [List.map_append, Hys.out, List.cons_append]
          obtain ⟨r1, h3⟩ := h1
          obtain ⟨r2, h4⟩ := Hpre.out
          exact ⟨r1 ++ r2, by rw [← h4, ← h3]; simp⟩
      · obtain rfl : k = m := by omega
        have hR2 : Hid (∃ ys : List (Pt B w0), ys.map Pt.t = t :: alls la ∧ J (pre ++ ys) wr) := by
          obtain ⟨ys, h1, h2⟩ := hR.out
          exact ⟨ys, by rw [h1, List.take_of_length_le (by have := HT.out.1; omega)], h2⟩
        clear hR
        gi_wp2
        go_ret
        exact .inl ⟨rfl, by rw [HLa.out]; exact hR2.out, hKr⟩
  · go_ret
    exact .inr ⟨rfl, [⟨t, a, m, c, hA⟩], ⟨_, by rw [List.map_singleton, List.singleton_append]⟩, hx3⟩
theorem visit_any (B : Nat) (w0 : World) (l N : Nat) (J Jx : List (Pt B w0) → World → Prop) (b0 : Nat) (hJ : AbidesFrom b0 J) (hY : RoundsT B w0 l N J Jx) (t : Tm) : VisitOk B w0 l N J Jx t :=
  Tm.ind (visit_step B w0 l N J Jx b0 hJ hY) t
theorem tall_any (o : Int) (s : ByteArray) (z : Int) (a : Option Addr) (n c : Nat) (w : World) :
    Calls Tryz.prog 89 #[.agg #[.int .i64 o, .string s, .int .i64 z, .slice a n c], .func (.func 101) #[] #[]] w fun e w' => e = .returned (.func (.func 114) #[] #[.pointer (some ⟨w.heap.size, 0, none⟩), .pointer (some ⟨w.heap.size + 1, 0, none⟩)]) ∧ w' = (w.alloc (.cells #[.int .i64 o, .string s, .int .i64 z, .slice a n c] 24)).alloc (.cells #[.func (.func 101) #[] #[]] 111) := by
  go_enter Tryz.func89, Tryz.ntmps89
  go_wp2
  go_ret
  exact ⟨rfl, rfl⟩
set_option maxHeartbeats 2000000 in
theorem all_stops (n : Nat) (B g g2 : Nat) (w0 w : World) (t : Tm) (a : Option Addr) (m c : Nat) (hA : Ar B w0 t a m c) (hB : Below B w0 w) (hBw : B ≤ w.heap.size) (hT : TBox w g (opT t) (nameT t) (numT t) a m c) (hF : Blk w g2 #[.func (.func 101) #[] #[]] 111) :
    SeqStopsK Fence.wide n Tryz.prog 114 #[.pointer (some ⟨g, 0, none⟩), .pointer (some ⟨g2, 0, none⟩)] (encP (B := B) (w0 := w0)) (KpT B) (fun ys => ys.map Pt.t = all t) (fun pre => pre.map Pt.t <+: all t) (size t) w := fun l J Jx W hW hJ hJx hY h0 => by
  have hY2 : RoundsT B w0 l (size t) J Jx := fun m pre x W hj hl => yield_any rfl m (hY pre x W hj hl)
  have hv := visit_any B w0 l (size t) J Jx _ hJ hY2 t (n - 1) a m c [] W hA (hB.trans (hW.mono hBw)) (Nat.le_trans hBw hW.size) h0 (by simp)
  obtain ⟨t0, t1, t2, t3⟩ := (TBox.b hT hW).four
  have f0 := Blk.cell (Blk.below hF hW) 0
  have hdd : ∀ k : Nat, (Fence.wide.depth.isSome = true → 1 ≤ k) := fun k h => by cases h
  clear hY hY2 hT hA hJ hJx h0 hF
  refine callsIn_of_wp Tryz.func114 rfl trivial ?_ rfl
  simp only [Tryz.ntmps114, List.size_toArray, List.length_cons, List.length_nil, Nat.reduceAdd, Nat.reduceSub, Array.replicate_succ, Array.replicate_zero, List.push_toArray, List.append_toArray, List.nil_append, List.cons_append]
  gi_wp2_with ((try refine ⟨trivial, ?_⟩); (try refine ⟨hdd _, ?_⟩); gi_at_call 115; refine hv.mono ?_; clear hv; rintro e W5 (⟨rfl, hz, hk5⟩ | ⟨rfl, hq⟩); all_goals (first | (have Hz := Lib.hid hz; clear hz) | (have Hq := Lib.hid hq; clear hq)))
  · go_end0
    obtain ⟨ys, h1, h2⟩ := Hz.out
    exact ⟨⟨_, rfl⟩, .inl ⟨ys, h1, by simpa using h2⟩⟩
  · go_end0
    obtain ⟨ys, h1, h2⟩ := Hq.out
    exact ⟨⟨_, rfl⟩, .inr ⟨ys, h1, by simpa using h2⟩⟩

end Go.Proofs.YtcigeclnbhcohaaGreatDoor.Sh
