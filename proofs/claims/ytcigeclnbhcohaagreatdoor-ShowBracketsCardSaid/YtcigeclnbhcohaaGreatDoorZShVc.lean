/-
  What is proved: package tree's iterator over the parts of a claim, with the closure of package show.
-/
import Derived.Test.YtcigeclnbhcohaaGreatDoorBX
namespace Go.Proofs.YtcigeclnbhcohaaGreatDoor.Sh
open Go.RowKit Go.Shelf L T C Cs
set_option linter.unusedVariables false
set_option linter.unusedSimpArgs false
attribute [local go_sem] Oper.semAt_some

/-- what a closure of ends returns, in worlds that keep what W1 holds -/
def EndsOk (p : Int → Bool) (g : Nat) (W1 : World) : Prop :=
  ∀ (x : Cl) (k : SS) (a : Option Addr) (n c : Nat) (W : World), KeepC W1 W →
    Calls Tryz.prog 71 #[.agg #[.int .i64 (opC x), .string (nmC x), .string (soC x), .slice k.a k.n k.c, .slice a n c]] W fun e W' => e = .returned (if p (opC x) then .slice a n c else .slice none 0 0) ∧ W.grownBy W' none
theorem EndsOk.keep {p : Int → Bool} {g : Nat} {W1 W2 : World} (h : EndsOk p g W1) (hk : KeepC W1 W2) : EndsOk p g W2 := fun x k a n c W hw => h x k a n c W (hk.trans hw)
/-- the walk, at this claim -/
def VisitOkC (F : Cl → Prop) (p : Int → Bool) (g B : Nat) (w0 : World) (l N : Nat) (J Jx : List (PtC F B w0) → World → Prop) (t : Cl) : Prop :=
  ∀ (n : Nat) (k : SS) (a : Option Addr) (m c : Nat) (pre : List (PtC F B w0)) (W : World), F t → EndsOk p g W → ArC B w0 t k a m c → Below B w0 W → B ≤ W.heap.size → J pre W → pre.length + (allP p t).length ≤ N →
    CallsIn Fence.wide n Tryz.prog 100 #[.agg #[.int .i64 (opC t), .string (nmC t), .string (soC t), .slice k.a k.n k.c, .slice a m c], .func (.func 71) #[] #[], .func (.yield l) #[] #[]] W fun e W' =>
      (e = .returned (.bool true) ∧ (∃ ys, ys.map PtC.t = allP p t ∧ J (pre ++ ys) W') ∧ KpC B W W') ∨ (e = .returned (.bool false) ∧ ∃ q, q.map PtC.t <+: allP p t ∧ Jx (pre ++ q) W')

set_option maxRecDepth 100000 in
set_option maxHeartbeats 4000000 in
theorem visitC_step (F : Cl → Prop) (hF : ∀ t x, F t → x ∈ subC t → F x) (p : Int → Bool) (g B : Nat) (w0 : World) (l N : Nat) (J Jx : List (PtC F B w0) → World → Prop) (b0 : Nat) (hJ : AbidesFrom b0 J) (hY : RoundsC F B w0 l N J Jx) (t : Cl) (hok : ∀ x ∈ subC t, VisitOkC F p g B w0 l N J Jx x) : VisitOkC F p g B w0 l N J Jx t := by
  intro n k a m c pre W hFt hE hA hB hBW hJ0 hN
  obtain ⟨W2, hW2, hB2, hs2, S2⟩ := cbox1 W (opC t) (nmC t) (soC t) k a m c
  have hJ2 : J pre W2 := by rw [← hW2]; exact hJ pre W _ none hJ0 (World.grownBy_alloc W _ none) (fun r e => by cases e)
  have hE2 := hE.keep (KeepC.of_below hB2)
  have hp : 0 < (allP p t).length := by rw [allP_mk]; simp
  obtain ⟨fn, tmps, assign, body, hy, hR⟩ := hY (n - 1) pre ⟨t, k, a, m, c, hA, hFt⟩ W2 hJ2 (by omega)
  dsimp only [encC] at hy
  obtain ⟨s0, s1, s2, s3, s4⟩ := S2.five
  have hKW : KpC B W W2 := KpC.of_below hBW hB2
  have hB02 : Below B w0 W2 := hB.trans hKW.1
  -- what lies below it, as the closure tells
  obtain ⟨a', m', c', hv, hT⟩ : ∃ a' m' c', (if p (opC t) then Value.slice a m c else .slice none 0 0) = .slice a' m' c' ∧ IsC B w0 a' m' c' (kids p t) := by
    unfold kids
    by_cases h : p (opC t) = true
    · rw [if_pos h, if_pos h]; exact ⟨a, m, c, rfl, (ar_isC.1 hA).2⟩
    · rw [if_neg h, if_neg h]; exact ⟨none, 0, 0, rfl, rfl, Nat.le_refl _, Nat.zero_le _, fun _ => rfl, fun h => absurd h (by omega)⟩
  have cE := fun (W' : World) (hk : KeepC W2 W') => hE2 t k a m c W' hk
  rw [hv] at cE
  have hok' : ∀ x ∈ kids p t, VisitOkC F p g B w0 l N J Jx x := fun x hx => hok x (kids_sub hx)
  have hsz : (allP p t).length = 1 + (allPs p (kids p t)).length := by rw [allP_mk, List.length_cons]; omega
  rw [allP_mk]
  clear hok hv
  refine callsIn_of_wp Tryz.func100 rfl trivial ?_ rfl
  simp only [Tryz.ntmps100, List.size_toArray, List.length_cons, List.length_nil, Nat.reduceAdd, Nat.reduceSub, Array.replicate_succ, Array.replicate_zero, List.push_toArray, List.append_toArray, List.nil_append, List.cons_append]
  have hdd : ∀ k : Nat, (Fence.wide.depth.isSome = true → 1 ≤ k) := fun k h => by cases h
  gi_wp2_with (first
    | ((try refine ⟨hdd _, ?_⟩); refine hR.mono ?_; clear hR; rintro e W3 (⟨rfl, hJ3, hk3⟩ | ⟨rfl, hx3⟩); all_goals (try (have hk3' := hk3; obtain ⟨u0, u1, u2, u3, u4⟩ := (CBox.keep S2 hk3).five)))
    | ((try refine ⟨trivial, ?_⟩); (try refine ⟨hdd _, ?_⟩); gi_at_call 71; refine (callsIn_wide.2 (cE W3 hk3.2)).mono ?_; rintro e W3b ⟨rfl, hW3b⟩; have hW3c := Lib.hid hW3b; clear hW3b))
  · have hJ3b : J (pre ++ [⟨t, k, a, m, c, hA, hFt⟩]) W3b := hJ _ W3 _ none hJ3 hW3c.out (fun r e => by cases e)
    have hK3b : KpC B W3 W3b := KpC.of_below (Nat.le_trans hBW (hKW.trans hk3).1.size) (below_none hW3c.out)
    have hE3 := Lib.hid (hE2.keep (hk3.2.trans hK3b.2))
    clear hJ3 hW3c
    have hJ3 := hJ3b
    have hK3 := (hKW.trans hk3).trans hK3b
    clear hJ3b
    have hn : m' ≤ 9223372036854775807 := by have h1 := hT.2.1; have h2 := hT.2.2.1; unfold maxLen at h2; omega
    have hW3 : B ≤ W3b.heap.size := Nat.le_trans hBW hK3.1.size
    have HT := Lib.hid hT
    have HJ := Lib.hid hJ
    have HK := Lib.hid (show ∀ k x, (kids p t)[k]? = some x → VisitOkC F p g B w0 l N J Jx x ∧ F x from fun k x h => ⟨hok' x (List.mem_of_getElem? h), hF t x hFt (kids_sub (List.mem_of_getElem? h))⟩)
    have H0 : Hid (∃ ys : List (PtC F B w0), ys.map PtC.t = t :: allPs p ((kids p t).take 0) ∧ J (pre ++ ys) W3b) := ⟨[⟨t, k, a, m, c, hA, hFt⟩], rfl, hJ3⟩
    clear hT hJ hok' hJ3 hy hW2 s0 s1 s2 s3 s4 u0 u1 u2 u3 u4 S2 hJ2 hJ0 hY hK3b hE hE2 cE
    generalize hla : kids p t = la at *
    have HLa := Lib.hid hla
    clear hla
    generalize opC t = op at *
    generalize nmC t = nm at *
    generalize soC t = nu at *
    gi_loopw [17] (fun i wr0 => ∃ (wr : World) (k : Nat), wr = wr0 ∧ k ≤ m' ∧ i = .int .i64 k ∧ KpC B W3b wr ∧ Hid (∃ ys : List (PtC F B w0), ys.map PtC.t = t :: allPs p (la.take k) ∧ J (pre ++ ys) wr)) (fun i _ => m' - (intOf i).toNat)
    case atStart => exact ⟨_, 0, rfl, by omega, rfl, KpC.refl _ _, H0⟩
    case round =>
      obtain ⟨wr, i, rfl, hk, rfl, hKr, hR⟩ := hrel
      have hBr : Below B w0 wr := (hB.trans hK3.1).trans hKr.1
      have hBs : B ≤ wr.heap.size := Nat.le_trans hW3 hKr.1.size
      by_cases hlt : i < m'
      · obtain ⟨bb, o, x, kk, A, M, Cc, rfl, hb, z0, z1, z2, z3, z4, hx, hok⟩ := HT.out.at hlt
        have y0 := (hBr.cell (p := ⟨bb, _, none⟩) hb).trans z0
        have y1 := (hBr.cell (p := ⟨bb, _, none⟩) hb).trans z1
        have y2 := (hBr.cell (p := ⟨bb, _, none⟩) hb).trans z2
        have y3 := (hBr.cell (p := ⟨bb, _, none⟩) hb).trans z3
        have y4 := (hBr.cell (p := ⟨bb, _, none⟩) hb).trans z4
        obtain ⟨ys, hys, hJr⟩ := hR.out
        have hlen : ys.length = 1 + (allPs p (la.take i)).length := by
          have := congrArg List.length hys
          rw [List.length_map, List.length_cons] at this
          omega
        have hpre := allPs_pre (p := p) hx
        have hlts : (allPs p (la.take i)).length + (allP p x).length ≤ (allPs p la).length := by
          have := hpre.length_le
          rwa [List.length_append] at this
        obtain ⟨W4, hW4, hB4, hs4, S4⟩ := cbox1 wr (opC x) (nmC x) (soC x) kk A M Cc
        have hJ4 : J (pre ++ ys) W4 := by rw [← hW4]; exact HJ.out _ wr _ none hJr (World.grownBy_alloc wr _ none) (fun r e => by cases e)
        have hK4 : KpC B wr W4 := KpC.of_below hBs hB4
        have cv := (HK.out i x hx).1 (n - 1) kk A M Cc (pre ++ ys) W4 (HK.out i x hx).2 (hE3.out.keep (hKr.2.trans hK4.2)) hok (hBr.trans hK4.1) (Nat.le_trans hBs hK4.1.size) hJ4 (by rw [List.length_append]; omega)
        obtain ⟨f0, f1, f2, f3, f4⟩ := S4.five
        have htk := take_c hx
        clear z0 z1 z2 z3 z4 hok hR HK HT HJ S4
        have Hx := Lib.hid hx
        have Hys := Lib.hid hys
        have Hpre := Lib.hid hpre
        have Htk := Lib.hid htk
        clear hx hys hpre htk hJr hJ4
        generalize opC x = op' at *
        generalize nmC x = nm' at *
        generalize soC x = nu' at *
        have hk0 : 0 ≤ (i : Int) := by omega
        have hk1 : (i : Int) < (m' : Int) := by omega
        gi_wp2_with ((try refine ⟨trivial, ?_⟩); (try refine ⟨hdd _, ?_⟩); gi_at_call 100; refine cv.mono ?_; clear cv; rintro e W5 (⟨rfl, hz, hk5⟩ | ⟨rfl, hq⟩); all_goals (first | (have Hz := Lib.hid hz; clear hz) | (have Hq := Lib.hid hq; clear hq)))
        · go_roundw
          case rel => exact ⟨_, i + 1, rfl, by omega, by go_num, (hKr.trans hK4).trans hk5, by
            obtain ⟨zs, h1, h2⟩ := Hz.out
            refine ⟨ys ++ zs, ?_, by rw [← List.append_assoc]; exact h2⟩
            rw [List.map_append, Hys.out, h1, Htk.out, allPs_app, List.cons_append]
            rw [show allPs p [x] = allP p x by rw [allPs, allPs, List.append_nil]]⟩
          case measure => simp [intOf]; omega
        · go_ret
          refine .inr ⟨rfl, ?_⟩
          rw [HLa.out]
          obtain ⟨q, h1, h2⟩ := Hq.out
          refine ⟨ys ++ q, ?_, by rw [← List.append_assoc]; exact h2⟩
          rw [List.map_append, Hys.out, List.cons_append]
          obtain ⟨r1, h3⟩ := h1
          obtain ⟨r2, h4⟩ := Hpre.out
          exact ⟨r1 ++ r2, by rw [← h4, ← h3]; simp⟩
      · obtain rfl : i = m' := by omega
        have hR2 : Hid (∃ ys : List (PtC F B w0), ys.map PtC.t = t :: allPs p la ∧ J (pre ++ ys) wr) := by
          obtain ⟨ys, h1, h2⟩ := hR.out
          exact ⟨ys, by rw [h1, List.take_of_length_le (by have := HT.out.1; omega)], h2⟩
        clear hR
        gi_wp2
        go_ret
        exact .inl ⟨rfl, by rw [HLa.out]; exact hR2.out, hK3.trans hKr⟩
  · go_ret
    exact .inr ⟨rfl, [⟨t, k, a, m, c, hA, hFt⟩], ⟨_, by rw [List.map_singleton, List.singleton_append]⟩, hx3⟩
theorem visitC_any (F : Cl → Prop) (hF : ∀ t x, F t → x ∈ subC t → F x) (p : Int → Bool) (g B : Nat) (w0 : World) (l N : Nat) (J Jx : List (PtC F B w0) → World → Prop) (b0 : Nat) (hJ : AbidesFrom b0 J) (hY : RoundsC F B w0 l N J Jx) (t : Cl) : VisitOkC F p g B w0 l N J Jx t :=
  Cl.ind (visitC_step F hF p g B w0 l N J Jx b0 hJ hY) t
theorem tallC_any (o : Int) (s z : ByteArray) (k : SS) (a : Option Addr) (n c g : Nat) (w : World) :
    Calls Tryz.prog 70 #[.agg #[.int .i64 o, .string s, .string z, .slice k.a k.n k.c, .slice a n c], .func (.func 71) #[] #[]] w fun e w' => e = .returned (.func (.func 99) #[] #[.pointer (some ⟨w.heap.size, 0, none⟩), .pointer (some ⟨w.heap.size + 1, 0, none⟩)]) ∧ w' = (w.alloc (.cells #[.int .i64 o, .string s, .string z, .slice k.a k.n k.c, .slice a n c] 33)).alloc (.cells #[.func (.func 71) #[] #[]] 97) := by
  go_enter Tryz.func70, Tryz.ntmps70
  go_wp2
  go_ret
  exact ⟨rfl, rfl⟩
set_option maxHeartbeats 2000000 in
theorem allC_stops (F : Cl → Prop) (hFF : ∀ t x, F t → x ∈ subC t → F x) (n : Nat) (p : Int → Bool) (gi B g g2 : Nat) (w0 w : World) (t : Cl) (hFt : F t) (k : SS) (a : Option Addr) (m c : Nat) (hE : EndsOk p gi w) (hA : ArC B w0 t k a m c) (hB : Below B w0 w) (hBw : B ≤ w.heap.size) (hT : CBox w g (opC t) (nmC t) (soC t) k a m c) (hF : Blk w g2 #[.func (.func 71) #[] #[]] 97) :
    SeqStopsK Fence.wide n Tryz.prog 99 #[.pointer (some ⟨g, 0, none⟩), .pointer (some ⟨g2, 0, none⟩)] (encC (F := F) (B := B) (w0 := w0)) (KpC B) (fun ys => ys.map PtC.t = allP p t) (fun pre => pre.map PtC.t <+: allP p t) (allP p t).length w := fun l J Jx W hW hJ hJx hY h0 => by
  have hY2 : RoundsC F B w0 l (allP p t).length J Jx := fun m pre x W hj hl => yield_any rfl m (hY pre x W hj hl)
  have hv := visitC_any F hFF p gi B w0 l (allP p t).length J Jx _ hJ hY2 t (n - 1) k a m c [] W hFt (hE.keep (KeepC.of_below hW)) hA (hB.trans (hW.mono hBw)) (Nat.le_trans hBw hW.size) h0 (by simp)
  obtain ⟨t0, t1, t2, t3, t4⟩ := (CBox.b hT hW).five
  have f0 := Blk.cell (Blk.below hF hW) 0
  have hdd : ∀ k : Nat, (Fence.wide.depth.isSome = true → 1 ≤ k) := fun k h => by cases h
  clear hY hY2 hT hA hJ hJx h0 hF hE
  refine callsIn_of_wp Tryz.func99 rfl trivial ?_ rfl
  simp only [Tryz.ntmps99, List.size_toArray, List.length_cons, List.length_nil, Nat.reduceAdd, Nat.reduceSub, Array.replicate_succ, Array.replicate_zero, List.push_toArray, List.append_toArray, List.nil_append, List.cons_append]
  gi_wp2_with ((try refine ⟨trivial, ?_⟩); (try refine ⟨hdd _, ?_⟩); gi_at_call 100; refine hv.mono ?_; clear hv; rintro e W5 (⟨rfl, hz, hk5⟩ | ⟨rfl, hq⟩); all_goals (first | (have Hz := Lib.hid hz; clear hz) | (have Hq := Lib.hid hq; clear hq)))
  · go_end0
    obtain ⟨ys, h1, h2⟩ := Hz.out
    exact ⟨⟨_, rfl⟩, .inl ⟨ys, h1, by simpa using h2⟩⟩
  · go_end0
    obtain ⟨ys, h1, h2⟩ := Hq.out
    exact ⟨⟨_, rfl⟩, .inr ⟨ys, h1, by simpa using h2⟩⟩
theorem subs_any (o : Int) (s z : ByteArray) (k : SS) (a : Option Addr) (n c : Nat) (w : World) :
    Calls Tryz.prog 71 #[.agg #[.int .i64 o, .string s, .string z, .slice k.a k.n k.c, .slice a n c]] w fun e w' => e = .returned (.slice a n c) ∧ w' = w.alloc (.cells #[.int .i64 o, .string s, .string z, .slice k.a k.n k.c, .slice a n c] 33) := by
  go_enter Tryz.func71, Tryz.ntmps71
  go_wp2
  go_ret
  exact ⟨rfl, rfl⟩
theorem ends_subs (W : World) : EndsOk yes 0 W := fun x k a n c W2 hk =>
  (subs_any _ _ _ _ _ _ _ W2).mono fun e W' ⟨h1, h2⟩ => ⟨h1, by rw [h2]; exact World.grownBy_alloc W2 _ none⟩
end Go.Proofs.YtcigeclnbhcohaaGreatDoor.Sh
