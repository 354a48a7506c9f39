/-
  What is proved: what package cnf's reader does with the first line of a text.
-/
import Derived.Test.YthchjceibpcgbaaGreatDoorZCpR
import Derived.Deep.RegionHeld3
namespace Go.Proofs.YthchjceibpcgbaaGreatDoor.Cn
open Go.RowKit L Lt
set_option linter.unusedVariables false
set_option linter.unusedSimpArgs false

/-- what is returned of the first line, and left in the reader -/
def FsP (b : Nat) (w : World) (A : Option Addr) (r c : Nat) (G : List (List Int)) (R : Except Int (Int × Int)) (e : Ending) (w' : World) : Prop := match R with
  | .error k => e = .returned (.int .i64 k) ∧ Below w.heap.size w w'
  | .ok (p, q) => e = .returned (.int .i64 0) ∧ Below b w w' ∧ RM2 b w' p A r c G q
theorem fsR_two (p q : Int) : fsR [p, q] = if q < 0 then .error 7 else if p < 0 ∨ 1024 < p then .error 1 else if 4096 < q then .error 2 else .ok (p, q) := rfl
theorem sl_cells {w : World} {A : Option Addr} {n c : Nat} {p q : Int} (h : SlI w A n c [p, q]) : ∃ g o, A = some ⟨g, o, none⟩ ∧ g < w.heap.size ∧ w.cell? ⟨g, o, none⟩ = some (.int .i64 p) ∧ w.cell? ⟨g, o + 1, none⟩ = some (.int .i64 q) := by
  have hn : n = 2 := h.1
  obtain ⟨g, o, rfl, hg, hc⟩ := h.2.2.2 (by omega)
  exact ⟨g, o, rfl, hg, hc 0 (by simp), hc 1 (by simp)⟩
set_option maxRecDepth 100000 in
set_option maxHeartbeats 8000000 in
theorem First_any (b : Nat) (x : ByteArray) (w : World) (n : Int) (A : Option Addr) (r c : Nat) (G : List (List Int)) (cl : Int) (h : RM2 b w n A r c G cl) (hx : x.size ≤ 10000000) :
    Calls Tryz.prog 78 #[.pointer (some ⟨b, 0, none⟩), .string x] w (FsP b w A r c G (hdR x.data.toList)) := by
  have c1 := Tryz.strings_CutPrefix x ⟨#[112, 32, 99, 110, 102, 32]⟩ w
  have e6 : (⟨#[112, 32, 99, 110, 102, 32]⟩ : ByteArray).data.toList = hdP := rfl
  rw [e6] at c1
  clear e6
  have CN := Lib.hid (fun (y : ByteArray) (W : World) (hy : y.size ≤ 10000000) => Numbers_any y W hy)
  by_cases hp : hdP.isPrefixOf x.data.toList = true
  · obtain ⟨a, ha⟩ := List.isPrefixOf_iff_prefix.1 hp
    have h1 : Lib.hasPrefix x.data.toList hdP = true := hp
    have h2 : Lib.trimPrefix x.data.toList hdP = a := by
      unfold Lib.trimPrefix; rw [if_pos h1, ← ha]; simp
    obtain ⟨y, rfl⟩ := bytes_of a
    rw [h1, h2] at c1
    have hy : y.size ≤ 10000000 := by
      have := congrArg List.length ha
      rw [List.length_append, Dig.len_list, Dig.len_list] at this; omega
    have hR : hdR x.data.toList = fsR (numL y.data.toList) := by rw [← ha]; exact hdR_pre _
    rw [hR]
    have e1 : (⟨y.data.toList.toArray⟩ : ByteArray) = y := rfl
    rw [e1] at c1
    have cn := CN.out y w hy
    clear hp ha h1 h2 hR e1 CN hx
    obtain ⟨L, hL⟩ : ∃ L, numL y.data.toList = L := ⟨_, rfl⟩
    rw [hL] at cn ⊢
    clear hL
    have H := Lib.hid h
    clear h
    by_cases hl : L.length = 2
    · obtain ⟨p, q, rfl⟩ : ∃ p q, L = [p, q] := by
        match L, hl with
        | [p, q], _ => exact ⟨p, q, rfl⟩
      have g2 : (((2 : Nat) : Int) != 2) = false := rfl
      by_cases hq : q < 0
      · have q1 : decide (q < 0) = true := decide_eq_true hq
        have HF : Hid (fsR [p, q] = .error 7) := Lib.hid (by rw [fsR_two, if_pos hq])
        clear hq
        go_enter Tryz.func78, Tryz.ntmps78
        go_wp2_with (first
          | (go_at_call 96; ((with_reducible refine c1.mono ?_); rintro e w1 ⟨rfl, rfl⟩))
          | (go_at_call 97; ((with_reducible refine cn.mono ?_); rintro e w2 ⟨A2, m2, c2, rfl, hS, hN, hB⟩; have hm2 := hS.1; simp only [List.length_cons, List.length_nil] at hm2; obtain ⟨g, o, rfl, hg, y0, y1⟩ := sl_cells hS; subst hm2; clear hS)))
        go_ret
        rw [HF.out]
        exact ⟨rfl, hB⟩
      · have q1 : decide (q < 0) = false := decide_eq_false hq
        by_cases h1 : p < 0
        · have q2 : decide (p < 0) = true := decide_eq_true h1
          have HF : Hid (fsR [p, q] = .error 1) := Lib.hid (by rw [fsR_two, if_neg hq, if_pos (Or.inl h1)])
          clear hq h1
          go_enter Tryz.func78, Tryz.ntmps78
          go_wp2_with (first
            | (go_at_call 96; ((with_reducible refine c1.mono ?_); rintro e w1 ⟨rfl, rfl⟩))
            | (go_at_call 97; ((with_reducible refine cn.mono ?_); rintro e w2 ⟨A2, m2, c2, rfl, hS, hN, hB⟩; have hm2 := hS.1; simp only [List.length_cons, List.length_nil] at hm2; obtain ⟨g, o, rfl, hg, y0, y1⟩ := sl_cells hS; subst hm2; clear hS)))
          go_ret
          rw [HF.out]
          exact ⟨rfl, hB⟩
        · have q2 : decide (p < 0) = false := decide_eq_false h1
          by_cases h2 : 1024 < p
          · have q3 : decide (p > 1024) = true := decide_eq_true h2
            have HF : Hid (fsR [p, q] = .error 1) := Lib.hid (by rw [fsR_two, if_neg hq, if_pos (Or.inr h2)])
            clear hq h1 h2
            go_enter Tryz.func78, Tryz.ntmps78
            go_wp2_with (first
              | (go_at_call 96; ((with_reducible refine c1.mono ?_); rintro e w1 ⟨rfl, rfl⟩))
              | (go_at_call 97; ((with_reducible refine cn.mono ?_); rintro e w2 ⟨A2, m2, c2, rfl, hS, hN, hB⟩; have hm2 := hS.1; simp only [List.length_cons, List.length_nil] at hm2; obtain ⟨g, o, rfl, hg, y0, y1⟩ := sl_cells hS; subst hm2; clear hS)))
            go_ret
            rw [HF.out]
            exact ⟨rfl, hB⟩
          · have q3 : decide (p > 1024) = false := decide_eq_false h2
            by_cases h3 : 4096 < q
            · have q4 : decide (q > 4096) = true := decide_eq_true h3
              have HF : Hid (fsR [p, q] = .error 2) := Lib.hid (by rw [fsR_two, if_neg hq, if_neg (by omega), if_pos h3])
              clear hq h1 h2 h3
              go_enter Tryz.func78, Tryz.ntmps78
              go_wp2_with (first
                | (go_at_call 96; ((with_reducible refine c1.mono ?_); rintro e w1 ⟨rfl, rfl⟩))
                | (go_at_call 97; ((with_reducible refine cn.mono ?_); rintro e w2 ⟨A2, m2, c2, rfl, hS, hN, hB⟩; have hm2 := hS.1; simp only [List.length_cons, List.length_nil] at hm2; obtain ⟨g, o, rfl, hg, y0, y1⟩ := sl_cells hS; subst hm2; clear hS)))
              go_ret
              rw [HF.out]
              exact ⟨rfl, hB⟩
            · have q4 : decide (q > 4096) = false := decide_eq_false h3
              have HF : Hid (fsR [p, q] = .ok (p, q)) := Lib.hid (by rw [fsR_two, if_neg hq, if_neg (by omega), if_neg h3])
              clear hq h1 h2 h3
              have lb := H.out.lt
              go_enter Tryz.func78, Tryz.ntmps78
              go_wp2_with (first
                | (go_at_call 96; ((with_reducible refine c1.mono ?_); rintro e w1 ⟨rfl, rfl⟩))
                | (go_at_call 97; ((with_reducible refine cn.mono ?_); rintro e w2 ⟨A2, m2, c2, rfl, hS, hN, hB⟩; have hm2 := hS.1; simp only [List.length_cons, List.length_nil] at hm2; obtain ⟨g, o, rfl, hg, y0, y1⟩ := sl_cells hS; subst hm2; clear hS; have hgb : b ≠ g := Nat.ne_of_lt (show b < g from Nat.lt_of_lt_of_le lb (hN _ rfl)); have H2 := Lib.hid (H.out.b hB); obtain ⟨t0, t1, t2⟩ := H2.out.cells; obtain ⟨f0, f1, f2⟩ := H2.out.free; have y0' : (w2.setCell ⟨b, 2, none⟩ (.int .i64 q)).cell? ⟨g, o, none⟩ = some (.int .i64 p) := (World.cell?_setCell_far _ _ _ _ hgb).trans y0; have y1' : (w2.setCell ⟨b, 0, none⟩ (.int .i64 p)).cell? ⟨g, o + 1, none⟩ = some (.int .i64 q) := (World.cell?_setCell_far _ _ _ _ hgb).trans y1; obtain ⟨k0, k1, k2⟩ := (H2.out.put0 p).free; obtain ⟨l0, l1, l2⟩ := (H2.out.put2 q).free; have HB := Lib.hid hB; clear hN)))
              go_region
              go_wp2
              all_goals go_ret
              all_goals rw [HF.out]
              all_goals first
                | exact ⟨rfl, ((((HB.out.mono (Nat.le_of_lt lb)).setCell (p := ⟨b, 0, none⟩) (Nat.le_refl _) _).setCell (p := ⟨b, 2, none⟩) (Nat.le_refl _) _).drew), ((H2.out.put0 p).put2 q).drew⟩
                | exact ⟨rfl, ((((HB.out.mono (Nat.le_of_lt lb)).setCell (p := ⟨b, 2, none⟩) (Nat.le_refl _) _).setCell (p := ⟨b, 0, none⟩) (Nat.le_refl _) _).drew), ((H2.out.put2 q).put0 p).drew⟩
    · have HF : Hid (fsR L = .error 7) := Lib.hid (by
        match L, hl with
        | [], _ => rfl
        | [_], _ => rfl
        | _ :: _ :: _ :: _, _ => rfl)
      go_enter Tryz.func78, Tryz.ntmps78
      go_wp2_with (first
        | (go_at_call 96; ((with_reducible refine c1.mono ?_); rintro e w1 ⟨rfl, rfl⟩))
        | (go_at_call 97; ((with_reducible refine cn.mono ?_); rintro e w2 ⟨A2, m2, c2, rfl, hS, hN, hB⟩; have hm2 : (((m2 : Nat) : Int) != 2) = true := (by have := hS.1; simp; omega); clear hS)))
      go_ret
      rw [HF.out]
      exact ⟨rfl, hB⟩
  · have h1 : Lib.hasPrefix x.data.toList hdP = false := Bool.eq_false_iff.2 hp
    have h2 : Lib.trimPrefix x.data.toList hdP = x.data.toList := by
      unfold Lib.trimPrefix; rw [h1]; rfl
    rw [h1, h2] at c1
    have HF := Lib.hid (hdR_not hp)
    have e1 : (⟨x.data.toList.toArray⟩ : ByteArray) = x := rfl
    rw [e1] at c1
    have cn := CN.out x w hx
    clear hp h1 h2 e1 CN h
    generalize numL x.data.toList = L at *
    go_enter Tryz.func78, Tryz.ntmps78
    go_wp2_with (first
      | (go_at_call 96; ((with_reducible refine c1.mono ?_); rintro e w1 ⟨rfl, rfl⟩))
      | (go_at_call 97; ((with_reducible refine cn.mono ?_); rintro e w2 ⟨A2, m2, c2, rfl, hS, hN, hB⟩; clear hS hN)))
    go_ret
    rw [HF.out]
    exact ⟨rfl, hB⟩
end Go.Proofs.YthchjceibpcgbaaGreatDoor.Cn
