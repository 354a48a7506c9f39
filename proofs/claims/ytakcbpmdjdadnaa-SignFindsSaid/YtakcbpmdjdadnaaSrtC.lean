/-
  What is proved: the document's answers on the first error and the places of a list of sorts; all sorts of a list; a sort put into a list.
-/
import Derived.Test.YtakcbpmdjdadnaaSrtB
import Derived.Test.YtakcbpmdjdadnaaLibC
namespace Go.Proofs.Ytakcbpmdjdadnaa.Srt
open Go.RowKit L
set_option linter.unusedVariables false
set_option linter.unusedSimpArgs false

theorem IsS.take {w : World} {a : Option Addr} {n : Nat} {X : List ByteArray} (h : IsS w a n X) (k : Nat) (hk : k ≤ n) : IsS w a k (X.take k) := by
  refine ⟨by rw [List.length_take, ← h.1]; omega, fun hp => ?_⟩
  obtain ⟨b, o, ha, hlt, hr⟩ := h.2 (by omega)
  refine ⟨b, o, ha, hlt, fun j hj => ?_⟩
  rw [List.length_take] at hj
  rw [hr j (by omega), List.getElem_take]

set_option maxHeartbeats 2000000 in
theorem refRight_any (a : Option Addr) (n c : Nat) (X : List ByteArray) (w : World) (hX : SlS w a n c X) (hz : okZ X) (hn : n ≤ 1000000000) :
    Calls Try.prog 31 #[.slice a n c] w fun e w' => e = .returned (.int .i64 (rightV X)) ∧ Below w.heap.size w w' := by
  by_cases h64 : 64 < n
  · have : rightV X = 2 := by unfold rightV; rw [if_pos (by rw [← hX.1.1]; exact h64)]
    rw [this]
    have h1 : 64 < (n : Int) := by omega
    clear hX hz
    go_enter Try.func31, Try.ntmps31
    go_wp2
    go_ret
    exact ⟨rfl, Below.refl _ _⟩
  have hst : ∀ k x, X[k]? = some x → rgt (X.take k) (X.drop k) = if validS x = false then 10 else if hasS (X.take k) x = true then 4 else rgt (X.take (k + 1)) (X.drop (k + 1)) := fun k x h => rgt_at h
  have he : ∀ k, n ≤ k → rgt (X.take k) (X.drop k) = 0 := fun k h => rgt_end (by rw [← hX.1.1]; exact h)
  have h0 : rightV X = rgt (X.take 0) (X.drop 0) := by unfold rightV; rw [if_neg (by rw [← hX.1.1]; exact h64)]; rfl
  rw [h0]
  obtain ⟨F, hF⟩ : ∃ F : Nat → Int, ∀ k, rgt (X.take k) (X.drop k) = F k := ⟨_, fun _ => rfl⟩
  simp only [hF] at hst he ⊢
  clear hF h0
  have hv : ∀ x, x.size ≤ 9223372036854775000 → ∀ w : World, Calls Try.prog 54 #[.string x] w fun e w' => e = .returned (.bool (validS x)) ∧ Below w.heap.size w w' := fun x hx w => refName_any x w hx
  have hh : ∀ (k : Nat) (x : ByteArray) (w' : World), k ≤ n → IsS w' a n X → Calls Try.prog 27 #[.slice a k c, .string x] w' fun e w1 => e = .returned (.bool (hasS (X.take k) x)) ∧ w1 = w' :=
    fun k x w' h1 h2 => (Has_any a k c (X.take k) x w' (IsS.take h2 k h1) (by omega)).mono fun e w1 ⟨h, g⟩ => ⟨h, g.symm⟩
  have hc := hX.2.1
  have H1 := Lib.hid hX.1
  have Hst := Lib.hid hst
  have He := Lib.hid he
  have Hv := Lib.hid hv
  have Hh := Lib.hid hh
  have Hz := Lib.hid hz
  clear hX hst he hv hh hz
  have h65 : ¬ 64 < (n : Int) := by omega
  go_enter Try.func31, Try.ntmps31
  go_wp2
  go_loopw [3] (fun i wr0 => ∃ (wr : World) (k : Nat), wr = wr0 ∧ k ≤ n ∧ i = .int .i64 k ∧ IsS wr a n X ∧ Below w.heap.size w wr ∧ Hid (F k = F 0)) (fun i _ => n - (intOf i).toNat)
  case atStart => exact ⟨_, 0, rfl, by omega, rfl, H1.out, Below.refl _ _, Lib.hid rfl⟩
  case round =>
    obtain ⟨wr, k, rfl, hk, rfl, hI, hB, hR⟩ := hrel
    by_cases hlt : k < n
    · obtain ⟨b, o, x, rfl, hb, y1, hx, _⟩ := hI.at hlt
      have hs1 := Hst.out k x hx
      have cv := Hv.out x (Hz.out.at hx)
      have ch := fun (w' : World) h2 => Hh.out k x w' hk h2
      clear hx Hst Hv Hh Hz
      have hk0 : 0 ≤ (k : Int) := by omega
      have hk1 : (k : Int) < (n : Int) := by omega
      have hk2 : (k : Int) ≤ (c : Int) := by omega
      cases hval : validS x with
      | false =>
        rw [hval] at cv
        have hnew : Hid ((10 : Int) = F 0) := by show _ = _; rw [← hR.out, hs1, if_pos hval]
        clear hR hs1 ch
        go_wp2_with (go_at_call 54; ((with_reducible refine (cv _).mono ?_); rintro e w1 ⟨rfl, hb1⟩))
        go_ret
        exact ⟨one hnew.out, bel_trans hB hb1⟩
      | true =>
        rw [hval] at cv
        rw [if_neg (by simp [hval])] at hs1
        cases hh : hasS (X.take k) x with
        | true =>
          have hnew : Hid ((4 : Int) = F 0) := by show _ = _; rw [← hR.out, hs1, if_pos hh]
          rw [hh] at ch
          clear hR hs1 hh hval
          go_wp2_with (go_at_call 54; ((with_reducible refine (cv _).mono ?_); rintro e w1 ⟨rfl, hb1⟩; have y2 : w1.cell? ⟨b, o + k, none⟩ = some (.string x) := (hb1.cell (p := ⟨b, o + k, none⟩) hb).trans y1; have hI1 := hI.below hb1))
          go_quiet ((go_at_call 27; exact Calls.quiet_of_same (ch _ (hI1.drew _))))
          go_wp2
          go_ret
          exact ⟨one hnew.out, below_drewN (bel_trans hB hb1) _⟩
        | false =>
          have hnew : Hid (F (k + 1) = F 0) := by show _ = _; rw [← hR.out, hs1, if_neg (by simp [hh])]
          rw [hh] at ch
          clear hR hs1 hh hval
          go_wp2_with (go_at_call 54; ((with_reducible refine (cv _).mono ?_); rintro e w1 ⟨rfl, hb1⟩; have y2 : w1.cell? ⟨b, o + k, none⟩ = some (.string x) := (hb1.cell (p := ⟨b, o + k, none⟩) hb).trans y1; have hI1 := hI.below hb1))
          go_quiet ((go_at_call 27; exact Calls.quiet_of_same (ch _ (hI1.drew _))))
          go_wp2
          go_roundw
          case rel => exact ⟨_, k + 1, rfl, by omega, by go_num, hI1.drew _, below_drewN (bel_trans hB hb1) _, hnew⟩
          case measure => simp [intOf]; omega
    · have hnew : Hid ((0 : Int) = F 0) := by show _ = _; rw [← hR.out, He.out k (by omega)]
      clear hR
      go_wp2
      go_ret
      exact ⟨one hnew.out, hB⟩

end Go.Proofs.Ytakcbpmdjdadnaa.Srt
