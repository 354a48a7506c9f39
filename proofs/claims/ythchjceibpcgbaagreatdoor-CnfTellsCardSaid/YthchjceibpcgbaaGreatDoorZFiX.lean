/-
  What is proved: package tree's closures over a list of lists of integers; its Mapped over places of them.
-/
import Derived.Test.YthchjceibpcgbaaGreatDoorFA
import Derived.Laws.MakeOwn
import Derived.Deep.OwnRows
namespace Go.Proofs.YthchjceibpcgbaaGreatDoor.Fi
open Go.RowKit L Lt Cn
set_option linter.unusedVariables false
set_option linter.unusedSimpArgs false

set_option maxRecDepth 100000 in
set_option maxHeartbeats 4000000 in
theorem firsts2_any (gc gl : Nat) (A : Option Addr) (n c : Nat) (l : List (List Int)) (hs : ∀ X ∈ l, X.length ≤ 1000000) (i j : Nat) (w : World) (hgc : Blk w gc #[.func (.func 26) #[] #[]] 50) (hg : Blk w gl #[.slice A n c] 22) (hT : SlG w A n c l) (hi : i < n) (hj : j < n) :
    Calls Tryz.prog 61 #[.int .i64 i, .int .i64 j, .pointer (some ⟨gc, 0, none⟩), .pointer (some ⟨gl, 0, none⟩)] w fun e w' => e = .returned (.bool (eqR (atL l i) (atL l j))) ∧ Below w.heap.size w w' := by
  obtain ⟨bb, o, B, p, q, X, rfl, hb, y0, hx, hX⟩ := hT.at hi
  obtain ⟨bb', o', B', p', q', Y, h2, hb', z0, hx', hY⟩ := hT.at hj
  injection h2 with h2
  injection h2 with h2 h3
  subst h2 h3
  rw [atL_some hx, atL_some hx']
  have hXl := hs X (List.mem_of_getElem? hx)
  have hYl := hs Y (List.mem_of_getElem? hx')
  have cs := compare_any B p q X B' p' q' Y w hX hY (by rw [hX.1]; omega) (by rw [hY.1]; omega)
  have cq := fun (W : World) (h : Below w.heap.size w W) => compare_any B p q X B' p' q' Y W (hX.below h) (hY.below h) (by rw [hX.1]; omega) (by rw [hY.1]; omega)
  have Cq := Lib.hid cq
  have c0 := Blk.cell hg 0
  have cc0 := Blk.cell hgc 0
  clear hx hx' hX hY hT cs cq hs hXl hYl
  unfold eqR
  generalize cmR X Y = R at *
  have hi0 : 0 ≤ (i : Int) := by omega
  have hi1 : (i : Int) < (n : Int) := by omega
  have hj0 : 0 ≤ (j : Int) := by omega
  have hj1 : (j : Int) < (n : Int) := by omega
  go_enter Tryz.func61, Tryz.ntmps61
  go_wp2_with fail
  go_quiet ((go_at_call 26; exact Calls.quiet_of_same ((Cq.out _ (by first | exact Below.refl _ _ | exact below_drewN (Below.refl _ _) _)).mono fun e w' h => ⟨h.1, h.2.symm⟩)))
  go_wp2
  go_ret
  exact ⟨by simp, below_drewN (Below.refl _ _) _⟩
theorem firsts3_any (P : Nat → Prop) (gl : Nat) (A : Option Addr) (n c : Nat) (l : List (List Int)) (i : Nat) (w : World) (hg : Blk w gl #[.slice A n c] 22) (hT : SlGP P w A n c l) (hi : i < n) :
    Calls Tryz.prog 64 #[.int .i64 i, .pointer (some ⟨gl, 0, none⟩)] w fun e w' => ∃ B p q, e = .returned (.slice B p q) ∧ SlI w B p q (atL l i) ∧ (0 < p → ∀ ad, B = some ad → P ad.block) ∧ w = w' := by
  obtain ⟨bb, o, B, p, q, X, rfl, hb, y0, hx, hX, hP⟩ := hT.at hi
  rw [atL_some hx]
  have c0 := Blk.cell hg 0
  have HX := Lib.hid hX
  have HP := Lib.hid hP
  clear hP
  have hi0 : 0 ≤ (i : Int) := by omega
  have hi1 : (i : Int) < (n : Int) := by omega
  clear hx hX hT
  go_enter Tryz.func64, Tryz.ntmps64
  go_wp2
  go_ret
  exact ⟨B, p, q, rfl, HX.out, HP.out, rfl⟩
theorem rowIs : (Tryz.prog.info? 34).map (fun i => (i.zero, i.size, i.bytes)) = some (some (.slice none 0 0), 1, 24) := by kernel_rfl
set_option maxRecDepth 100000 in
set_option maxHeartbeats 4000000 in
theorem mapPart_any (P : Nat → Prop) (gl : Nat) (A : Option Addr) (n c : Nat) (l : List (List Int)) (zs Rr : List Nat) (g cap m : Nat) (w0 w : World) (hb : Below w0.heap.size w0 w) (hg : Blk w gl #[.slice A n c] 22) (hT : SlGP P w0 A n c l) (hz : ∀ z ∈ zs, z < n) (hr : RowN w g (zs ++ Rr)) (hm : m = zs.length) (hm0 : 0 < m) (hm2 : m ≤ 1000000) :
    Calls Tryz.prog 63 #[.slice (some ⟨g, 0, none⟩) m cap, .func (.func 64) #[] #[.pointer (some ⟨gl, 0, none⟩)]] w fun e w' => e = .returned (.slice (some ⟨w.heap.size, 0, none⟩) m m) ∧ SlGP P w' (some ⟨w.heap.size, 0, none⟩) m m (zs.map (atL l)) ∧ Below w.heap.size w w' := by
  have hmk := fun w => run_make_row' (P := Tryz.prog) 22 34 (.slice none 0 0) 24 Tryz.underlying22 rowIs rfl .i64 .i64 m (by omega) (by omega) w
  have hmk1 := hmk w
  obtain ⟨ls, hls⟩ : ∃ ls, zs.map (atL l) = ls := ⟨_, rfl⟩
  have P0 := PartG.start P ls m w
  obtain ⟨W1, hW1⟩ : ∃ W1, w.alloc (.cells (madeCells #[.slice none 0 0] m) 34) = W1 := ⟨_, rfl⟩
  rw [hW1] at hmk1 P0
  have hB1 : Below w.heap.size w W1 := by rw [← hW1]; exact bel_alloc (Below.refl _ _) _
  have hm1 : ((m : Int) == 0) = false := by simp; omega
  have hTw : SlGP P w A n c l := hT.below hb
  have hlm : ls.length = m := by rw [← hls, List.length_map, hm]
  have HK := Lib.hid (show ∀ k, k < m → ∃ z, (zs ++ Rr)[k]? = some z ∧ z < n ∧ ls[k]? = some (atL l z) from fun k hk => ⟨zs[k], by rw [List.getElem?_append_left (by omega)]; exact List.getElem?_eq_getElem (by omega), hz _ (List.getElem_mem (by omega)), by
    subst hls
    rw [List.getElem?_map, List.getElem?_eq_getElem (show k < zs.length by omega)]; rfl⟩)
  rw [hls]
  have HP0 := Lib.hid P0
  have HG := Lib.hid hg
  have HR := Lib.hid hr
  have HT := Lib.hid hTw
  have HL := Lib.hid hlm
  clear hg hT hTw hz hr hm P0 hW1 hls hlm hb hmk
  go_enter Tryz.func63, Tryz.ntmps63
  go_wp2
  go_loopw [16] (fun i wr0 => ∃ (wr : World) (k : Nat), wr = wr0 ∧ k ≤ m ∧ i = .int .i64 k ∧ Below w.heap.size w wr ∧ Hid (PartG P w.heap.size ls m k wr)) (fun i _ => m - (intOf i).toNat)
  case atStart => exact ⟨_, 0, rfl, by omega, rfl, hB1, HP0⟩
  case round =>
    obtain ⟨wr, k, rfl, hk, rfl, hB, hR⟩ := hrel
    by_cases hlt : k < m
    · obtain ⟨z, hzk, hzn, hlk⟩ := HK.out k hlt
      have c0 := (hB.cell (p := ⟨_, k, none⟩) (Blk.lt HR.out)).trans (RowN.at HR.out hzk)
      have cc := firsts3_any P gl A n c l z wr (Blk.below HG.out hB) (HT.out.below hB) hzn
      have Hlk := Lib.hid hlk
      clear hzk hlk HK
      generalize atL l z = x at *
      have hk0 : 0 ≤ (k : Int) := by omega
      have hk1 : (k : Int) < (m : Int) := by omega
      go_wp2_with (go_at_call 64; ((with_reducible refine cc.mono ?_); rintro e w5 ⟨B, p, q, rfl, hF, hFP, rfl⟩; obtain ⟨⟨qa, qq, qd, q0⟩, g0, Hn⟩ := PartG.go hR.out hlt Hlk.out (Below.refl _ _) hF hFP; have HN := Lib.hid Hn; clear hF hFP Hn))
      go_roundw
      case rel => exact ⟨_, k + 1, rfl, by omega, by go_num, hB.setCell (p := ⟨w.heap.size, k, none⟩) (Nat.le_refl _) _, HN⟩
      case measure => simp [intOf]; omega
    · obtain rfl : k = m := by omega
      have Hd := Lib.hid (PartG.done hR.out HL.out)
      clear hR
      go_wp2
      go_ret
      exact ⟨rfl, Hd.out, hB⟩
theorem mapped_none (A : Option Addr) (cap : Nat) (f : Value) (w : World) :
    Calls Tryz.prog 63 #[.slice A 0 cap, f] w fun e w' => e = .returned (.slice none 0 0) ∧ w' = w := by
  go_enter Tryz.func63, Tryz.ntmps63
  go_wp2
  go_ret
  exact ⟨rfl, rfl⟩
end Go.Proofs.YthchjceibpcgbaaGreatDoor.Fi
