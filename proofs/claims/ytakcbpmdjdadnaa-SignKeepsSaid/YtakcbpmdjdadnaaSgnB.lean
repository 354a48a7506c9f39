/-
  What is proved: the first error of a function, by package sign (a closure over the signature, called through slices.ContainsFunc) and by the document's answers.
-/
import Derived.Test.YtakcbpmdjdadnaaSgnA
namespace Go.Proofs.Ytakcbpmdjdadnaa.Sgn
open Go.RowKit L Srt
set_option linter.unusedVariables false
set_option linter.unusedSimpArgs false

theorem unfit_any (g : Nat) (a : Option Addr) (n c : Nat) (X : List ByteArray) (s : ByteArray) (w : World) (hg : w.cell? ⟨g, 0, none⟩ = some (.slice a n c)) (hX : IsS w a n X) (hn : n ≤ 1000000000) :
    Calls Try.prog 33 #[.string s, .pointer (some ⟨g, 0, none⟩)] w fun e w' => e = .returned (.bool (unfitB X s)) ∧ Below w.heap.size w w' := by
  have c1 := Known_any a n c X s w hX hn
  rw [show decide (0 ≤ placeI X s) = knownB X s from rfl] at c1
  unfold unfitB
  generalize knownB X s = R at *
  clear hX
  cases h1 : s.toList == [66, 111, 111, 108] <;> cases R
  all_goals
    first | (have g1 : (s.toList = [66, 111, 111, 108]) = False := by simpa using h1) | (have g1 : (s.toList = [66, 111, 111, 108]) = True := by simpa using h1)
    go_enter Try.func33, Try.ntmps33
    go_wp2_with (go_at_call 34; ((with_reducible refine c1.mono ?_); rintro e w1 ⟨rfl, hb1⟩))
    go_ret
    first | exact ⟨rfl, hb1⟩ | exact ⟨rfl, Below.refl _ _⟩

set_option maxHeartbeats 2000000 in
theorem idxUnfit_any (g : Nat) (a : Option Addr) (n c : Nat) (X : List ByteArray) (a2 : Option Addr) (n2 c2 : Nat) (Y : List ByteArray) (w : World) (hlt : g < w.heap.size) (hg : w.cell? ⟨g, 0, none⟩ = some (.slice a n c)) (hX : IsS w a n X) (hn : n ≤ 1000000000) (hY : IsS w a2 n2 Y) (hn2 : n2 ≤ 1000000000) :
    Calls Try.prog 58 #[.slice a2 n2 c2, .func (.func 33) #[] #[.pointer (some ⟨g, 0, none⟩)]] w fun e w' => (∃ i : Int, e = .returned (.int .i64 i) ∧ decide (0 ≤ i) = Y.any (unfitB X)) ∧ Below w.heap.size w w' := by
  have cu : ∀ (x : ByteArray) (w' : World), Below w.heap.size w w' → Calls Try.prog 33 #[.string x, .pointer (some ⟨g, 0, none⟩)] w' fun e w1 => e = .returned (.bool (unfitB X x)) ∧ Below w'.heap.size w' w1 :=
    fun x w' h => unfit_any g a n c X x w' ((h.cell (p := ⟨g, 0, none⟩) hlt).trans hg) (hX.below h) hn
  have hst : ∀ k x, Y[k]? = some x → (Y.drop k).any (unfitB X) = (unfitB X x || (Y.drop (k + 1)).any (unfitB X)) := fun k x h => by
    obtain ⟨hk, rfl⟩ := List.getElem?_eq_some_iff.1 h
    rw [List.drop_eq_getElem_cons hk, List.any_cons]
  have he : ∀ k, n2 ≤ k → (Y.drop k).any (unfitB X) = false := fun k h => by rw [List.drop_eq_nil_of_le (by rw [← hY.1]; exact h)]; rfl
  have h0 : Y.any (unfitB X) = (Y.drop 0).any (unfitB X) := rfl
  rw [h0]
  obtain ⟨F, hF⟩ : ∃ F : Nat → Bool, ∀ k, (Y.drop k).any (unfitB X) = F k := ⟨_, fun _ => rfl⟩
  simp only [hF] at hst he ⊢
  clear hF h0 hX
  have H1 := Lib.hid hY
  have Hst := Lib.hid hst
  have He := Lib.hid he
  have Hu := Lib.hid cu
  clear hY hst he cu hg
  go_enter Try.func58, Try.ntmps58
  go_wp2
  go_loopw [8] (fun i wr0 => ∃ (wr : World) (k : Nat), wr = wr0 ∧ k ≤ n2 ∧ i = .int .i64 k ∧ Below w.heap.size w wr ∧ Hid (F k = F 0)) (fun i _ => n2 - (intOf i).toNat)
  case atStart => exact ⟨w, 0, rfl, by omega, rfl, Below.refl _ _, Lib.hid rfl⟩
  case round =>
    obtain ⟨wr, k, rfl, hk, rfl, hB, hR⟩ := hrel
    by_cases hlt2 : k < n2
    · obtain ⟨b, o, x, rfl, hb, y1, hx, _⟩ := (H1.out.below hB).at hlt2
      have hs1 := Hst.out k x hx
      have cx := Hu.out x wr hB
      clear hx H1 Hst Hu
      have hk0 : 0 ≤ (k : Int) := by omega
      have hk1 : (k : Int) < (n2 : Int) := by omega
      cases hu : unfitB X x with
      | true =>
        rw [hu] at cx
        have hnew : Hid (true = F 0) := by show _ = _; rw [← hR.out, hs1, hu]; rfl
        clear hR hs1
        go_wp2_with (go_at_call 33; ((with_reducible refine cx.mono ?_); rintro e w1 ⟨rfl, hb1⟩))
        go_ret
        exact ⟨⟨_, rfl, by rw [decide_eq_true (by omega)]; exact hnew.out⟩, bel_trans hB hb1⟩
      | false =>
        rw [hu] at cx
        have hnew : Hid (F (k + 1) = F 0) := by show _ = _; rw [← hR.out, hs1, hu]; rfl
        clear hR hs1
        go_wp2_with (go_at_call 33; ((with_reducible refine cx.mono ?_); rintro e w1 ⟨rfl, hb1⟩))
        go_roundw
        case rel => exact ⟨_, k + 1, rfl, by omega, by go_num, bel_trans hB hb1, hnew⟩
        case measure => simp [intOf]; omega
    · have hnew : Hid (false = F 0) := by show _ = _; rw [← hR.out, He.out k (by omega)]
      clear hR
      go_wp2
      go_ret
      exact ⟨⟨_, rfl, hnew.out⟩, hB⟩

theorem contains_any (g : Nat) (a : Option Addr) (n c : Nat) (X : List ByteArray) (a2 : Option Addr) (n2 c2 : Nat) (Y : List ByteArray) (w : World) (hlt : g < w.heap.size) (hg : w.cell? ⟨g, 0, none⟩ = some (.slice a n c)) (hX : IsS w a n X) (hn : n ≤ 1000000000) (hY : IsS w a2 n2 Y) (hn2 : n2 ≤ 1000000000) :
    Calls Try.prog 37 #[.slice a2 n2 c2, .func (.func 33) #[] #[.pointer (some ⟨g, 0, none⟩)]] w fun e w' => e = .returned (.bool (Y.any (unfitB X))) ∧ Below w.heap.size w w' := by
  have c1 := idxUnfit_any g a n c X a2 n2 c2 Y w hlt hg hX hn hY hn2
  clear hX hY hg
  generalize Y.any (unfitB X) = R at *
  go_enter Try.func37, Try.ntmps37
  go_wp2_with (go_at_call 58; ((with_reducible refine c1.mono ?_); rintro e w1 ⟨⟨i, rfl, hi⟩, hb1⟩; have Hi := Lib.hid hi; clear hi))
  go_ret
  exact ⟨oneB Hi.out, hb1⟩

theorem refKnown_any (a : Option Addr) (n c : Nat) (X : List ByteArray) (s : ByteArray) (w : World) (hX : IsS w a n X) (hn : n ≤ 1000000000) :
    Calls Try.prog 40 #[.slice a n c, .string s] w fun e w' => e = .returned (.bool (knownB X s)) ∧ w = w' := by
  have c1 := Has_any a n c X s w hX (by omega)
  have hk := known_or X s
  generalize hasS X s = H at *
  generalize knownB X s = R at *
  clear hX
  cases h1 : s.toList == [66, 111, 111, 108] <;> cases h2 : s.toList == [73, 110, 116]
  all_goals
    first | (have g1 : (s.toList = [66, 111, 111, 108]) = False := by simpa using h1) | (have g1 : (s.toList = [66, 111, 111, 108]) = True := by simpa using h1)
    first | (have g2 : (s.toList = [73, 110, 116]) = False := by simpa using h2) | (have g2 : (s.toList = [73, 110, 116]) = True := by simpa using h2)
    rw [h1, h2] at hk
    have hr := Lib.hid hk
    clear hk
    go_enter Try.func40, Try.ntmps40
    go_wp2_with (go_at_call 27; ((with_reducible refine c1.mono ?_); rintro e w1 ⟨rfl, rfl⟩))
    go_ret
    exact ⟨oneB (by rw [hr.out]; rfl), rfl⟩
end Go.Proofs.Ytakcbpmdjdadnaa.Sgn
