/-
  What is proved: whether a text is in a list, as the document has it.
-/
import Derived.Test.YtnhemglpbhnmdaaGreatBL
namespace Go.Proofs.YtnhemglpbhnmdaaGreat.L
open Go.RowKit
set_option linter.unusedVariables false
set_option linter.unusedSimpArgs false

set_option maxHeartbeats 2000000 in
theorem Has_any (a : Option Addr) (n c : Nat) (X : List ByteArray) (s : ByteArray) (w : World) (hX : IsS w a n X) (hn : n ≤ 9223372036854775807) :
    Calls Tryz.prog 12 #[.slice a n c, .string s] w fun e w' => e = .returned (.bool (hasS X s)) ∧ w = w' := by
  have hst : ∀ k x, X[k]? = some x → hasS (X.drop k) s = ((x.toList == s.toList) || hasS (X.drop (k + 1)) s) := fun k x h => by
    obtain ⟨hk, rfl⟩ := List.getElem?_eq_some_iff.1 h
    unfold hasS; rw [List.drop_eq_getElem_cons hk, List.any_cons]
  have he : ∀ k, n ≤ k → hasS (X.drop k) s = false := fun k h => by rw [List.drop_eq_nil_of_le (by rw [← hX.1]; exact h)]; rfl
  have h0 : hasS X s = hasS (X.drop 0) s := rfl
  rw [h0]
  obtain ⟨F, hF⟩ : ∃ F : Nat → Bool, ∀ k, hasS (X.drop k) s = F k := ⟨_, fun _ => rfl⟩
  simp only [hF] at hst he ⊢
  clear hF h0
  have H1 := Lib.hid hX
  have Hst := Lib.hid hst
  have He := Lib.hid he
  clear hX hst he
  go_enter Tryz.func12, Tryz.ntmps12
  go_wp2
  go_loop [5] (fun i => ∃ (k : Nat), k ≤ n ∧ i = .int .i64 k ∧ Hid (F k = F 0)) (fun i => n - (intOf i).toNat)
  case atStart => exact ⟨0, by omega, rfl, Lib.hid rfl⟩
  case round =>
    obtain ⟨k, hk, rfl, hR⟩ := hrel
    by_cases hlt : k < n
    · obtain ⟨b, o, x, rfl, _, y1, hx, _⟩ := H1.out.at hlt
      have hs1 := Lib.hid (Hst.out k x hx)
      clear hx H1
      cases hb : x.toList == s.toList with
      | true =>
        have hnew : Hid (true = F 0) := by show _ = _; rw [← hR.out, hs1.out, hb]; rfl
        clear hR hs1
        go_wp2
        go_ret
        exact ⟨oneB hnew.out, rfl⟩
      | false =>
        have hnew : Hid (F (k + 1) = F 0) := by show _ = _; rw [← hR.out, hs1.out, hb]; rfl
        clear hR hs1
        have hb2 : (x.toList = s.toList) = False := by simpa using hb
        go_wp2
        go_round
        case rel => exact ⟨k + 1, by omega, by go_num, hnew⟩
        case measure => simp [intOf]; omega
    · have hnew : Hid (false = F 0) := by show _ = _; rw [← hR.out, He.out k (by omega)]
      clear hR
      go_wp2
      go_ret
      exact ⟨oneB hnew.out, rfl⟩

end Go.Proofs.YtnhemglpbhnmdaaGreat.L
