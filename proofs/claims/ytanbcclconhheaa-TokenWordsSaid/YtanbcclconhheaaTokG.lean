/-
  What is proved: what stands first in a text, by the document's answers: the signs; and all kinds together.
-/
import Derived.Test.YtanbcclconhheaaTokF
namespace Go.Proofs.Ytanbcclconhheaa.Tok
open Go.RowKit
set_option linter.unusedVariables false
set_option linter.unusedSimpArgs false

theorem put3 {W : World} {g : Nat} {u0 u1 u2 : Value} (h0 : W.cell? ⟨g, 0, none⟩ = some u0) (h1 : W.cell? ⟨g, 1, none⟩ = some u1) (h2 : W.cell? ⟨g, 2, none⟩ = some u2) (x y z : Value) :
    (W.setCell ⟨g, 0, none⟩ x).cell? ⟨g, 0, none⟩ = some x ∧ ((W.setCell ⟨g, 0, none⟩ x).setCell ⟨g, 1, none⟩ y).cell? ⟨g, 1, none⟩ = some y ∧
      (((W.setCell ⟨g, 0, none⟩ x).setCell ⟨g, 1, none⟩ y).setCell ⟨g, 2, none⟩ z).cell? ⟨g, 2, none⟩ = some z := by
  refine ⟨World.cell?_setCell_same _ _ _ h0, World.cell?_setCell_same _ _ _ (u := u1) ?_, World.cell?_setCell_same _ _ _ (u := u2) ?_⟩
  · rw [World.cell?_setCell_other _ _ _ _ (by simp)]; exact h1
  · rw [World.cell?_setCell_other _ _ _ _ (by simp), World.cell?_setCell_other _ _ _ _ (by simp)]; exact h2

set_option maxHeartbeats 2000000 in
theorem one_sign (s : ByteArray) (a : Nat) (w : World) (hs : s.size ≤ 9223372036854775000) (ha : a < s.size) (hL : isL s[a] = false) (hD : isD s[a] = false) :
    Calls Try.prog 25 #[.string s, .int .i64 a] w fun e w' =>
      e = .returned (.tuple #[.agg #[.int .i64 (oK (s.data.toList.drop a)), .string (oT (s.data.toList.drop a)), .int .i64 (oA (s.data.toList.drop a) a)], .int .i64 (fE (s.data.toList.drop a))]) ∧ Below w.heap.size w w' := by
  have hnm : nameN (s.data.toList.drop a) = 0 := by rw [drop_at s a ha, nameN_no hL]
  have hnu : numN (s.data.toList.drop a) = 0 := by rw [drop_at s a ha, numN_stop hD]
  have cs := fun (w : World) => refSign_any s a w hs (by omega)
  have hle := sgN_le (s.data.toList.drop a)
  rw [List.length_drop, len_list] at hle
  have hf1 : ¬ 0 < sgN (s.data.toList.drop a) → fst3 (s.data.toList.drop a) = (0, 0, 7) := fun h => by
    unfold fst3; rw [hnm, hnu, if_neg (by omega), if_neg (by omega), if_neg (by omega), if_neg h]
  have hf2 : 0 < sgN (s.data.toList.drop a) → fst3 (s.data.toList.drop a) = (3, sgN (s.data.toList.drop a), 0) := fun h => by
    unfold fst3; rw [hnm, hnu, if_neg (by omega), if_neg (by omega), if_neg (by omega), if_pos h]
  have hr1 := fun h => o_no (a := a) (hf1 h) (by decide)
  have hr2 := fun h => o_yes (a := a) (hf2 h)
  clear hf1 hf2 hnm hnu
  have ht : ∀ n, 0 < n → n ≤ s.size - a → (BA ((s.data.toList.drop a).take n)).size = n := fun n _ h => by
    rw [BA_size, List.length_take, List.length_drop, len_list]; omega
  have ht0 : BA ((s.data.toList.drop a).take 0) = ⟨#[]⟩ := rfl
  generalize oK (s.data.toList.drop a) = K at *
  generalize oT (s.data.toList.drop a) = T at *
  generalize oA (s.data.toList.drop a) a = A at *
  generalize fE (s.data.toList.drop a) = E at *
  generalize sgN (s.data.toList.drop a) = n at *
  have ca := fun (w : World) => Letter_any s[a] w
  have cd := fun (w : World) => Digit_any s[a] w
  rw [hL] at ca
  rw [hD] at cd
  clear hL hD
  by_cases hn : 0 < n
  · have hr := Lib.hid (hr2 hn)
    have hsz := ht n hn hle
    clear hr1 hr2 ht0 ht
    generalize BA ((s.data.toList.drop a).take n) = t at *
    have hne : t.toList ≠ [] := fun e => by
      rw [ByteArray.toList_eq] at e
      have := len_list t
      rw [e] at this; simp at this; omega
    have hne2 : t.toList.isEmpty = false := by simp [hne]
    have Hsz := Lib.hid hsz
    clear hsz
    go_enter Try.func25, Try.ntmps25
    go_wp2
    go_loop [6] (fun k => k = .int .i64 a) (fun k => 0)
    case atStart => rfl
    case round =>
      obtain rfl := hrel
      go_wp2_with (first | (go_at_call 34; ((with_reducible refine (cd _).mono ?_); rintro e w' ⟨rfl, rfl⟩)) | (go_at_call 35; ((with_reducible refine (ca _).mono ?_); rintro e w' ⟨rfl, rfl⟩)) | (go_at_call 36; ((with_reducible refine (cs _).mono ?_); rintro e w1 ⟨rfl, hb⟩; obtain ⟨hc, hf⟩ := bcell hb; have hz := hb.size; simp at hz)))
      have e0 : w1.cell? ⟨w.heap.size, 0, none⟩ = some (.int .i64 0) := by rw [hc _ _ (by simp; omega)]; simp
      have e1 : w1.cell? ⟨w.heap.size, 1, none⟩ = some (.string ⟨#[]⟩) := by rw [hc _ _ (by simp; omega)]; simp
      have e2 : w1.cell? ⟨w.heap.size, 2, none⟩ = some (.int .i64 0) := by rw [hc _ _ (by simp; omega)]; simp
      obtain ⟨f0, f1, f2⟩ := put3 (W := w1.setCell ⟨w.heap.size + 1, 1, none⟩ (.string t)) (g := w.heap.size) (by rw [World.cell?_setCell_other _ _ _ _ (by simp)]; exact e0) (by rw [World.cell?_setCell_other _ _ _ _ (by simp)]; exact e1) (by rw [World.cell?_setCell_other _ _ _ _ (by simp)]; exact e2) (.int .i64 3) (.string t) (.int .i64 a)
      have hB : Below w.heap.size w w1 := bel_trans (bel_alloc (bel_alloc (Below.refl _ _) _) _) hb
      exact bodyPost_ret (v := .tuple #[.agg #[.int .i64 3, .string t, .int .i64 a], .int .i64 0]) (by simp [results, Try.results25, go_sem, f0, f1, f2]) rfl ⟨tokE hr.out, (((hB.setCell (by simp) _).setCell (by simp) _).setCell (by simp) _).setCell (by simp) _⟩
  · have hr := Lib.hid (hr1 hn)
    obtain rfl : n = 0 := by omega
    rw [ht0] at cs
    clear hr1 hr2 ht0 ht
    go_enter Try.func25, Try.ntmps25
    go_wp2
    go_loop [6] (fun k => k = .int .i64 a) (fun k => 0)
    case atStart => rfl
    case round =>
      obtain rfl := hrel
      go_wp2_with (first | (go_at_call 34; ((with_reducible refine (cd _).mono ?_); rintro e w' ⟨rfl, rfl⟩)) | (go_at_call 35; ((with_reducible refine (ca _).mono ?_); rintro e w' ⟨rfl, rfl⟩)) | (go_at_call 36; ((with_reducible refine (cs _).mono ?_); rintro e w1 ⟨rfl, hb⟩; obtain ⟨hc, hf⟩ := bcell hb; have hz := hb.size; simp at hz)))
      have e0 : w1.cell? ⟨w.heap.size, 0, none⟩ = some (.int .i64 0) := by rw [hc _ _ (by simp; omega)]; simp
      have e1 : w1.cell? ⟨w.heap.size, 1, none⟩ = some (.string ⟨#[]⟩) := by rw [hc _ _ (by simp; omega)]; simp
      have e2 : w1.cell? ⟨w.heap.size, 2, none⟩ = some (.int .i64 0) := by rw [hc _ _ (by simp; omega)]; simp
      obtain ⟨f0, f1, f2⟩ := put3 (W := w1.setCell ⟨w.heap.size + 1, 1, none⟩ (.string ⟨#[]⟩)) (g := w.heap.size) (by rw [World.cell?_setCell_other _ _ _ _ (by simp)]; exact e0) (by rw [World.cell?_setCell_other _ _ _ _ (by simp)]; exact e1) (by rw [World.cell?_setCell_other _ _ _ _ (by simp)]; exact e2) (.int .i64 0) (.string ⟨#[]⟩) (.int .i64 0)
      have hB : Below w.heap.size w w1 := bel_trans (bel_alloc (bel_alloc (Below.refl _ _) _) _) hb
      exact bodyPost_ret (v := .tuple #[.agg #[.int .i64 0, .string ⟨#[]⟩, .int .i64 0], .int .i64 7]) (by simp [results, Try.results25, go_sem, f0, f1, f2]) rfl ⟨tokE hr.out, (((hB.setCell (by simp) _).setCell (by simp) _).setCell (by simp) _).setCell (by simp) _⟩

theorem one_any (s : ByteArray) (a : Nat) (w : World) (hs : s.size ≤ 9223372036854775000) (ha : a < s.size) :
    Calls Try.prog 25 #[.string s, .int .i64 a] w fun e w' =>
      e = .returned (.tuple #[.agg #[.int .i64 (oK (s.data.toList.drop a)), .string (oT (s.data.toList.drop a)), .int .i64 (oA (s.data.toList.drop a) a)], .int .i64 (fE (s.data.toList.drop a))]) ∧ Below w.heap.size w w' := by
  cases hL : isL s[a] with
  | true => exact one_name s a w hs ha hL
  | false =>
    cases hD : isD s[a] with
    | true => exact one_num s a w hs ha hL hD
    | false => exact one_sign s a w hs ha hL hD

end Go.Proofs.Ytanbcclconhheaa.Tok
