/-
  What is proved: compactS_own (taken out of LibSt, for seats without that function).
-/
import Derived.Test.YtnhemglpbhnmdaaGreatZLibSt
namespace Go.Proofs.YtnhemglpbhnmdaaGreat.T
open Go.RowKit L
set_option linter.unusedVariables false
set_option linter.unusedSimpArgs false

theorem compactS_own {w : World} {base : Nat} {A : Option Addr} {c : Nat} {X : List ByteArray} (h : OwnS w base (.slice A X.length c) X) (hl : X.length ≤ 1000000000) :
    Calls Tryz.prog 69 #[.slice A X.length c] w fun e w' => e = .returned (.slice A (cmpS X).length c) ∧ OwnS w' base (.slice A (cmpS X).length c) (cmpS X) ∧ w.grownBy w' (Value.slice A X.length c).ownBlock := by
  by_cases h0 : X = []
  · subst h0
    refine (Tryz.slices_Compact_string_empty A c w).mono fun e w' ⟨he, hw⟩ => ?_
    subst hw
    exact ⟨he, h, rfl, rfl, rfl, Nat.le_refl _, fun _ _ _ => rfl⟩
  · have hp : 0 < X.length := List.length_pos_iff.2 h0
    rcases h.2 with ⟨hv, hn⟩ | ⟨g, cap, cur, hv, hb, hg, hnc, hcm, hcs, ht⟩
    · omega
    · injection hv with e1 e2 e3
      subst e1 e3
      rw [Nat.mul_one, vs_raw, ← raw_len] at ht
      have hh : Go.Sort.Holds encStr w g 0 (rawS X).toArray := holds_of_block hg ht
      have hc := Tryz.slices_Compact_string g 0 c (rawS X) w hh (by rw [raw_len]; omega) (by rw [raw_len]; exact hnc)
      rw [raw_len] at hc
      refine hc.mono fun e w' ⟨he, q, hw⟩ => ?_
      have hle := compact_leS (rawS X)
      rw [raw_len] at hle
      have hlen : (Lib.compact (rawS X) ++ List.replicate (X.length - (Lib.compact (rawS X)).length) []).length = X.length := by simp; omega
      have hgr : w' = Go.Sort.grow w' #[] := (Go.Sort.grow_empty w').symm
      rw [hgr, hw]
      have hcl : (cmpS X).length = (Lib.compact (rawS X)).length := by unfold cmpS; rw [un_len]
      refine ⟨by rw [hcl]; exact he, ⟨by rw [vsS_len]; omega, .inr ⟨g, c, _, rfl, hb, heap_sorted _ hg, by omega, hcm, by simp [Go.Sort.putCells, hcs], ?_⟩⟩, grownBy_sorted _⟩
      have hall := take_putCells cur (Lib.compact (rawS X) ++ List.replicate (X.length - (Lib.compact (rawS X)).length) []) (by omega)
      rw [hlen] at hall
      rw [Nat.mul_one, hcl]
      have h2 := congrArg (List.take (Lib.compact (rawS X)).length) hall
      rw [List.take_take, Nat.min_eq_left hle] at h2
      rw [h2, List.map_append, List.take_append_of_le_length (by simp), List.take_of_length_le (by simp)]
      unfold cmpS
      rw [vs_un]
end Go.Proofs.YtnhemglpbhnmdaaGreat.T
