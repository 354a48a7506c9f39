/-
  What is proved: the names of the variables and functions of a term, as package show gathers them.
-/
import Derived.Test.YtcigeclnbhcohaaGreatDoorZShNb
import Derived.Test.YtcigeclnbhcohaaGreatDoorZShVt
namespace Go.Proofs.YtcigeclnbhcohaaGreatDoor.Sh
open Go.RowKit Go.Shelf L T
set_option linter.unusedVariables false
set_option linter.unusedSimpArgs false
attribute [local go_sem] Oper.semAt_some

/-- the names of the variables and functions among some parts, as they come -/
def nmsP : List Tm → List ByteArray
  | [] => []
  | t :: l => if opT t = 1 ∨ opT t = 3 then nameT t :: nmsP l else nmsP l
theorem nmsP_app : ∀ l m : List Tm, nmsP (l ++ m) = nmsP l ++ nmsP m
  | [], m => rfl
  | t :: l, m => by
    rw [List.cons_append, nmsP, nmsP, nmsP_app l m]
    split <;> rfl
theorem nmsP_len : ∀ l : List Tm, (nmsP l).length ≤ l.length
  | [] => Nat.le_refl _
  | t :: l => by rw [nmsP]; have := nmsP_len l; split <;> simp <;> omega
set_option maxRecDepth 100000 in
set_option maxHeartbeats 8000000 in
theorem termNames_in (t : Tm) (a : Option Addr) (m c : Nat) (w : World) (hA : ArW w t a m c) (hsz : size t ≤ 1000000) :
    CallsIn Fence.wide 6 Tryz.prog 72 #[.agg #[.int .i64 (opT t), .string (nameT t), .int .i64 (numT t), .slice a m c]] w fun e w' => ∃ v, e = .returned v ∧ OwnS w' w.heap.size v (nmsP (all t)) ∧ Below w.heap.size w w' := by
  obtain ⟨W2, hW2, hB2, hs2, S2⟩ := box1 w (opT t) (nameT t) (numT t) a m c
  obtain ⟨W3, hW3⟩ : ∃ W3, W2.alloc (.cells #[.slice none 0 0] 48) = W3 := ⟨_, rfl⟩
  have hB3 : Below W2.heap.size W2 W3 := by rw [← hW3]; exact bel_alloc (Below.refl _ _) _
  have hs3 : W3.heap.size = w.heap.size + 2 := by rw [← hW3, World.size_alloc, hs2]
  have R3 : Blk W3 (w.heap.size + 1) #[.slice none 0 0] 48 := by rw [← hW3, ← hs2]; exact Blk.new W2 _ _
  have S3 := TBox.b S2 hB3
  obtain ⟨u0, u1, u2, u3⟩ := S3.four
  obtain ⟨W5, hW5, hB5, hs5, I5, F5⟩ : ∃ W5, (W3.alloc (.cells #[.int .i64 (opT t), .string (nameT t), .int .i64 (numT t), .slice a m c] 24)).alloc (.cells #[.func (.func 101) #[] #[]] 111) = W5 ∧ Below W3.heap.size W3 W5 ∧ W5.heap.size = W3.heap.size + 2 ∧ TBox W5 W3.heap.size (opT t) (nameT t) (numT t) a m c ∧ Blk W5 (W3.heap.size + 1) #[.func (.func 101) #[] #[]] 111 := by
    obtain ⟨W4, h4, hb4, hs4, t4⟩ := box1 W3 (opT t) (nameT t) (numT t) a m c
    rw [h4]
    refine ⟨_, rfl, bel_alloc hb4 _, by simp [hs4], Blk.alloc t4 _, ?_⟩
    have := Blk.new W4 #[Value.func (.func 101) #[] #[]] 111
    rwa [hs4] at this
  have cAll := tall_any (opT t) (nameT t) (numT t) a m c W3
  rw [hW5, hs3, Nat.add_assoc] at cAll
  rw [hs3, Nat.add_assoc] at F5
  rw [hs3] at I5
  have B3 : Below w.heap.size w W3 := bel_trans hB2 hB3
  have B5 : Below w.heap.size w W5 := bel_trans B3 hB5
  have hst := all_stops (5 : Nat) w.heap.size (w.heap.size + 2) (w.heap.size + 3) w W5 t a m c hA B5 B5.size I5 F5
  have R5 : NmB (w.heap.size + 1) W5 (nmsP (([] : List (Pt w.heap.size w)).map Pt.t)) := ⟨none, 0, Blk.below R3 hB5, OwnS.nil _ _⟩
  have hNN : (all t).length ≤ 1000000 := by rw [all_len]; exact hsz
  have HSZ := Lib.hid hsz
  clear hA S2 R3 S3 hW5 hs5 hsz
  refine callsIn_of_wp_marks Tryz.func72 rfl trivial ?_ rfl
  simp only [Tryz.ntmps72, List.size_toArray, List.length_cons, List.length_nil, Nat.reduceAdd, Nat.reduceSub, Array.replicate_succ, Array.replicate_zero, List.push_toArray, List.append_toArray, List.nil_append, List.cons_append]
  gi_wp2_with (refine ⟨trivial, ?_⟩; gi_at_call 89; refine (callsIn_wide.2 cAll).mono ?_; rintro e w' ⟨rfl, rfl⟩)
  refine wpIn_rangeFunc_ownH rfl (by decide) (gf := 114) (lb := #[.pointer (some ⟨w.heap.size + 2, 0, none⟩), .pointer (some ⟨w.heap.size + 3, 0, none⟩)]) rfl trivial (enters_of Tryz.func114 (by kernel_rfl) rfl)
    hst KpT.trans (KpT.obj B5.size) (Below.refl _ _) (fun _ => rfl)
    (fun pre W => (NmB (w.heap.size + 1) W (nmsP (pre.map Pt.t)) ∧ (nmsP (pre.map Pt.t)).length ≤ pre.length) ∧ Below w.heap.size w W)
    (fun cd pre W => False)
    (OwnFrom.and (OwnFrom.and (Own.from (nmB_own (w.heap.size + 1) (fun pre : List (Pt w.heap.size w) => (nmsP (pre.map Pt.t)))) _) (ownFrom_pure _ _)) (ownFrom_below (Nat.le_refl _) B5.size))
    (fun cd _ _ _ _ hs _ _ => hs)
    ⟨⟨R5, by simp [nmsP]⟩, B5⟩
    (fun x a2 W => ∃ Bx, TBox W Bx (opT x.t) (nameT x.t) (numT x.t) x.a x.n x.c ∧ a2 = { tmps := #[.agg #[.int .i64 (opT t), .string (nameT t), .int .i64 (numT t), .slice a m c], .pointer (some ⟨w.heap.size, 0, none⟩), .slice none 0 0, .pointer (some ⟨w.heap.size + 1, 0, none⟩), .pointer (some ⟨Bx, 0, none⟩), .agg #[.int .i64 (opT t), .string (nameT t), .int .i64 (numT t), .slice a m c], .func (.func 114) #[] #[.pointer (some ⟨w.heap.size + 2, 0, none⟩), .pointer (some ⟨w.heap.size + 3, 0, none⟩)], .agg #[.int .i64 (opT x.t), .string (nameT x.t), .int .i64 (numT x.t), .slice x.a x.n x.c], undef, undef, undef, undef, undef, undef, undef, undef, undef, undef, undef, undef, undef, undef], defers := [] })
    (fun x a2 _ X Y row hs hg hr => by obtain ⟨Bx, h2, h3⟩ := hs; exact ⟨Bx, own_blk Bx _ _ () X Y row h2 hg (fun r e => (hr r e).2), h3⟩)
    ?assign ?body ?done ?stop
  case assign =>
    rintro l pre x W K ⟨⟨hN, hq⟩, hB⟩ hK
    have hb : Below W.heap.size W (W.alloc (.cells #[.int .i64 (opT x.t), .string (nameT x.t), .int .i64 (numT x.t), .slice x.a x.n x.c] 24)) := bel_alloc (Below.refl _ _) _
    unfold encP
    gi_wp2
    exact hK _ _ (keepsF hb) (KpT.of_below hB.size hb) ⟨⟨hN.b hb, hq⟩, hB.trans (hb.mono hB.size)⟩ ⟨W.heap.size, TBox.new W _ _ _ _ _ _, rfl⟩
  case body =>
    rintro l pre x a2 W hl hr ⟨⟨hN, hq⟩, hB⟩ ⟨Bx, hX, rfl⟩ hlt
    obtain ⟨z0, z1, z2, z3⟩ := hX.four
    have hpl : (pre ++ [x]).map Pt.t = pre.map Pt.t ++ [x.t] := by simp
    by_cases hop : opT x.t = 1 ∨ opT x.t = 3
    · have hlen : (nmsP (pre.map Pt.t)).length ≤ 100000000 := by have := HSZ.out; omega
      have hnew : nmsP ((pre ++ [x]).map Pt.t) = (nmsP (pre.map Pt.t)) ++ [nameT x.t] := by
        rw [hpl, nmsP_app]
        congr 1
        rw [nmsP, if_pos hop, nmsP]
      obtain ⟨va, vc, h1, h2⟩ := hN
      obtain ⟨va', vc', W4, hrun, hB4, hN4, hbel, hkeep⟩ := app_name h1 h2 hlen (nameT x.t)
      have r0 := Blk.cell h1 0
      have r4 := Blk.cell hB4 0
      have q4 := Blk.free hB4 0
      have HF := Lib.hid (show (∀ B0, KeepsFrom B0 W (W4.setCell ⟨w.heap.size + 1, 0, none⟩ (.slice va' ((nmsP (pre.map Pt.t)).length + 1) vc'))) ∧ KpT w.heap.size W (W4.setCell ⟨w.heap.size + 1, 0, none⟩ (.slice va' ((nmsP (pre.map Pt.t)).length + 1) vc')) ∧ ((NmB (w.heap.size + 1) (W4.setCell ⟨w.heap.size + 1, 0, none⟩ (.slice va' ((nmsP (pre.map Pt.t)).length + 1) vc')) (nmsP ((pre ++ [x]).map Pt.t)) ∧ (nmsP ((pre ++ [x]).map Pt.t)).length ≤ (pre ++ [x]).length) ∧ Below w.heap.size w (W4.setCell ⟨w.heap.size + 1, 0, none⟩ (.slice va' ((nmsP (pre.map Pt.t)).length + 1) vc'))) from by
        have hbw := hbel w.heap.size (by omega)
        refine ⟨fun B0 => ⟨hbw.size, fun i ob hi1 hi2 hi3 => hkeep i ob hi2 (fun cs fr e => by subst e; cases hi3) (fun e => by subst e; rw [show W.heap[w.heap.size + 1]? = _ from h1] at hi2; injection hi2 with hi2; subst hi2; cases hi3)⟩, ⟨hbw, fun i cs hi1 hi2 => hkeep i _ hi1 (fun cs' fr e => by injection e with e1 e2; exact absurd e2 (by decide)) (fun e => by subst e; rw [show W.heap[w.heap.size + 1]? = _ from h1] at hi1; injection hi1 with hi1; injection hi1 with e1 e2; exact absurd e2 (by decide))⟩, ⟨by rw [hnew]; exact hN4, ?_⟩, hB.trans hbw⟩
        rw [hnew, List.length_append, List.length_append, List.length_singleton, List.length_singleton]
        omega)
      clear hN4 hbel hkeep h1 h2 hB4 hX hq hnew
      generalize (nmsP (pre.map Pt.t)).length = NL at *
      rcases hop with hop | hop
      all_goals
        gi_wp2_with (gi_at_builtin; refine step_app rfl (.tmp 16) (.tmp 19) 48 rfl _ _ _ rfl rfl hrun ?_; clear hrun)
        exact ⟨HF.out.1 _, HF.out.2⟩
    · have hnew : nmsP ((pre ++ [x]).map Pt.t) = (nmsP (pre.map Pt.t)) := by
        rw [hpl, nmsP_app]
        rw [nmsP, if_neg hop, nmsP, List.append_nil]
      have o1 : (opT x.t == 1) = false := beq_no' fun h => hop (.inl h)
      have o3 : (opT x.t == 3) = false := beq_no' fun h => hop (.inr h)
      clear hop
      gi_wp2
      exact ⟨keepsF (Below.refl _ _), KpT.refl _ _, ⟨by rw [hnew]; exact hN, by rw [hnew, List.length_append]; omega⟩, hB⟩
  case done =>
    rintro D zs W hD hS ⟨⟨hN, hq⟩, hB⟩ hK
    obtain ⟨va, vc, hR, ho⟩ := hN
    have c5 := Blk.cell hR 0
    have hbl := belowK_b (w := w) (Nat.le_refl _) W D _ (.deferred none) (Nat.le_trans B5.size hD) hK rfl rfl
    have hrow := ownS_put ho hK (.deferred none)
    have hrow2 := OwnS.base hrow (show w.heap.size ≤ w.heap.size + 1 + 1 by omega)
    rw [hS] at hrow2 c5
    clear hq hst
    gi_wp2
    refine ⟨by simp, .inl ⟨_, _, rfl, run_takeDeferred hK, ?_⟩⟩
    exact ⟨_, results_tmp rfl _ _ _, .slice va (nmsP (all t)).length vc, rfl, hrow2, hB.trans hbl⟩
  case stop =>
    rintro D cd pre W hD hS h hK
    exact h.elim
theorem termNames_any (t : Tm) (a : Option Addr) (m c : Nat) (w : World) (hA : ArW w t a m c) (hsz : size t ≤ 1000000) :
    Calls Tryz.prog 72 #[.agg #[.int .i64 (opT t), .string (nameT t), .int .i64 (numT t), .slice a m c]] w fun e w' => ∃ v, e = .returned v ∧ OwnS w' w.heap.size v (nmsP (all t)) ∧ Below w.heap.size w w' :=
  callsIn_wide.1 (termNames_in t a m c w hA hsz)
end Go.Proofs.YtcigeclnbhcohaaGreatDoor.Sh
