/-
  What is proved: the library's Sort and Compact of a row of texts of the call's own: the names in order, each once.
-/
import Derived.Test.YtnhemglpbhnmdaaGreatBL
import Derived.Test.YtnhemglpbhnmdaaGreatShelf
import Derived.Sort.OwnSorted
import Derived.Sort.Walk0
import Derived.Lib.SlicesCompact
namespace Go.Proofs.YtnhemglpbhnmdaaGreat.T
open Go.RowKit L
set_option linter.unusedVariables false
set_option linter.unusedSimpArgs false

theorem lt_cmp (x y : List UInt8) : x < y ↔ cmpB x y = -1 := by
  have h := bytesLess_eq x y
  rw [less_cmp] at h
  exact (decide_eq_decide.1 h).symm
theorem le_cmp (x y : List UInt8) : x ≤ y ↔ cmpB x y ≠ 1 := by
  rw [← List.not_lt, lt_cmp]
  have := linB.anti x y
  omega
theorem cmpB_le_trans {x y z : List UInt8} (h1 : cmpB x y ≠ 1) (h2 : cmpB y z ≠ 1) : cmpB x z ≠ 1 := by
  rcases linB.rng x y with e | e | e
  · rcases linB.rng y z with f | f | f
    · rw [linB.trans x y z e f]; decide
    · rw [← (linB.eq y z).1 f, e]; decide
    · exact absurd f h2
  · rw [(linB.eq x y).1 e]; exact h2
  · exact absurd e h1
theorem cmpB_lt_of {x y z : List UInt8} (h1 : cmpB x y ≠ 1) (h2 : cmpB y z ≠ 1) (h3 : y ≠ z) : cmpB x z = -1 := by
  have hyz : cmpB y z = -1 := by
    rcases linB.rng y z with f | f | f
    · exact f
    · exact absurd ((linB.eq y z).1 f) h3
    · exact absurd f h2
  rcases linB.rng x y with e | e | e
  · exact linB.trans x y z e hyz
  · rw [(linB.eq x y).1 e]; exact hyz
  · exact absurd e h1
def rawS (X : List ByteArray) : List (List UInt8) := X.map (fun s => s.data.toList)
def unS (zs : List (List UInt8)) : List ByteArray := zs.map (fun l => ⟨l.toArray⟩)
theorem raw_un (zs : List (List UInt8)) : rawS (unS zs) = zs := by unfold rawS unS; rw [List.map_map]; exact (List.map_congr_left (fun l _ => by simp)).trans (List.map_id zs)
theorem vs_un (zs : List (List UInt8)) : vsS (unS zs) = zs.map encStr := by unfold vsS unS; rw [List.map_map]; rfl
theorem un_raw (X : List ByteArray) : unS (rawS X) = X := by unfold rawS unS; rw [List.map_map]; exact (List.map_congr_left (fun s _ => by cases s; simp)).trans (List.map_id X)
theorem vs_raw (X : List ByteArray) : vsS X = (rawS X).map encStr := by rw [← vs_un, un_raw]
theorem un_len (zs : List (List UInt8)) : (unS zs).length = zs.length := by unfold unS; simp
theorem raw_len (X : List ByteArray) : (rawS X).length = X.length := by unfold rawS; simp
/-- texts in order -/
def srtS (X : List ByteArray) : List ByteArray := unS ((rawS X).mergeSort fun x y => decide (x ≤ y))
theorem srtS_len (X : List ByteArray) : (srtS X).length = X.length := by unfold srtS; rw [un_len, List.length_mergeSort, raw_len]
theorem sortS_own {w : World} {base : Nat} {A : Option Addr} {c : Nat} {X : List ByteArray} (h : OwnS w base (.slice A X.length c) X) (hl : X.length ≤ 1000000000) :
    Calls Tryz.prog 68 #[.slice A X.length c] w fun e w' => e = .returned (.tuple #[]) ∧ OwnS w' base (.slice A X.length c) (srtS X) ∧ w.grownBy w' (Value.slice A X.length c).ownBlock := by
  by_cases h0 : X = []
  · subst h0
    refine (Tryz.slices_Sort_string_none A c w).mono fun e w' ⟨he, hw⟩ => ?_
    subst hw
    have e0 : srtS [] = [] := by simp [srtS, rawS, unS]
    rw [e0]
    exact ⟨he, h, rfl, rfl, rfl, Nat.le_refl _, fun _ _ _ => rfl⟩
  · have hp : 0 < X.length := List.length_pos_iff.2 h0
    rcases h.2 with ⟨hv, hn⟩ | ⟨g, cap, cur, hv, hb, hg, hnc, hcm, hcs, ht⟩
    · omega
    · injection hv with e1 e2 e3
      subst e1 e3
      rw [Nat.mul_one, vs_raw, ← raw_len] at ht
      have hh : Go.Sort.Holds encStr w g 0 (rawS X).toArray := holds_of_block hg ht
      have hc := Tryz.slices_Sort_string g 0 c (rawS X) w hh (Array.getElem?_eq_some_iff.1 hg).1 (by rw [raw_len]; omega)
      rw [raw_len] at hc
      refine hc.mono fun e w' ⟨he, n, os, hw⟩ => ?_
      subst hw
      refine ⟨he, ?_, grownBy_sorted _⟩
      have := ownsRow_sorted (ss := rawS X) (ts := (rawS X).mergeSort fun x y => decide (x ≤ y)) (n := n) (os := os) (List.length_mergeSort _) hb hg (by rw [raw_len]; exact hnc) hcm hcs
      unfold OwnS
      rw [srtS_len]
      unfold srtS
      rw [vs_un]
      rw [raw_len] at this
      exact this
theorem compact_leS (X : List (List UInt8)) : (Lib.compact X).length ≤ X.length := by
  unfold Lib.compact Lib.compactUpTo
  rw [List.length_map]
  have := List.length_filter_le (Lib.keeps X.toArray) (List.range X.length)
  rwa [List.length_range] at this
def cmpS (X : List ByteArray) : List ByteArray := unS (Lib.compact (rawS X))
/-- what compacting a sorted list leaves -/
theorem compact_upS (X : List (List UInt8)) (hs : X.Pairwise (fun x y => cmpB x y ≠ 1)) : (Lib.compact X).Pairwise (fun x y => cmpB x y = -1) ∧ ∀ y, y ∈ Lib.compact X ↔ y ∈ X := by
  have key : ∀ m, m ≤ X.length → (Lib.compactUpTo X.toArray m).Pairwise (fun x y => cmpB x y = -1) ∧ (∀ y, y ∈ Lib.compactUpTo X.toArray m ↔ y ∈ X.take m) := by
    intro m
    induction m with
    | zero => intro _; simp [Lib.compactUpTo]
    | succ m ih =>
      intro hm
      obtain ⟨h1, h2⟩ := ih (by omega)
      rw [Lib.compactUpTo_succ]
      have hget : X.toArray[m]! = X[m]'(by omega) := by simp [show m < X.length by omega]
      have htk : X.take (m + 1) = X.take m ++ [X[m]'(by omega)] := by rw [List.take_add_one, List.getElem?_eq_getElem (by omega)]; rfl
      by_cases hk : Lib.keeps X.toArray m = true
      · rw [if_pos hk, hget, htk]
        have hlt : ∀ y ∈ X.take m, cmpB y (X[m]'(by omega)) = -1 := by
          intro y hy
          obtain ⟨i, hi, rfl⟩ := List.mem_iff_getElem.1 hy
          rw [List.length_take] at hi
          rw [List.getElem_take]
          have hm0 : 0 < m := by omega
          have hle1 : cmpB (X[i]'(by omega)) (X[m - 1]'(by omega)) ≠ 1 := by
            by_cases e : i = m - 1
            · subst e; rw [(linB.eq _ _).2 rfl]; decide
            · exact List.pairwise_iff_getElem.1 hs i (m - 1) (by omega) (by omega) (by omega)
          have hle2 := List.pairwise_iff_getElem.1 hs (m - 1) m (by omega) (by omega) (by omega)
          unfold Lib.keeps at hk
          have hk' := of_decide_eq_true hk
          rcases hk' with h0 | h0
          · omega
          · rw [hget] at h0
            have : X.toArray[m - 1]! = X[m - 1]'(by omega) := by simp [show m - 1 < X.length by omega]
            rw [this] at h0
            exact cmpB_lt_of hle1 hle2 (fun e => h0 e.symm)
        refine ⟨?_, fun y => by rw [List.mem_append, List.mem_append, h2 y]⟩
        refine List.pairwise_append.2 ⟨h1, by simp, fun a ha b hb => ?_⟩
        rw [List.mem_singleton] at hb
        subst hb
        exact hlt a ((h2 a).1 ha)
      · rw [if_neg hk, List.append_nil, htk]
        refine ⟨h1, fun y => ?_⟩
        rw [h2 y, List.mem_append, List.mem_singleton]
        refine ⟨Or.inl, fun h => ?_⟩
        rcases h with h | rfl
        · exact h
        · unfold Lib.keeps at hk
          have hk' : ¬ (m = 0 ∨ X.toArray[m]! ≠ X.toArray[m - 1]!) := fun e => hk (decide_eq_true e)
          have hm0 : m ≠ 0 := fun e => hk' (.inl e)
          have heq : X.toArray[m]! = X.toArray[m - 1]! := Decidable.byContradiction fun e => hk' (.inr e)
          rw [hget] at heq
          have : X.toArray[m - 1]! = X[m - 1]'(by omega) := by simp [show m - 1 < X.length by omega]
          rw [heq, this]
          exact List.mem_iff_getElem.2 ⟨m - 1, by rw [List.length_take]; omega, by rw [List.getElem_take]⟩
  have := key X.length (Nat.le_refl _)
  rw [List.take_length] at this
  exact this
/-- in order, each once -/
theorem names_sorted (X : List ByteArray) : Up (cmpS (srtS X)) ∧ ∀ x, x ∈ cmpS (srtS X) ↔ x ∈ X := by
  have hs : ((rawS X).mergeSort fun x y => decide (x ≤ y)).Pairwise (fun x y => cmpB x y ≠ 1) := by
    have := List.pairwise_mergeSort (le := fun x y : List UInt8 => decide (x ≤ y)) (fun a b c h1 h2 => by
      rw [decide_eq_true_eq, le_cmp] at *
      exact cmpB_le_trans h1 h2) (fun a b => by
      rw [Bool.or_eq_true, decide_eq_true_eq, decide_eq_true_eq, le_cmp, le_cmp]
      have := linB.anti a b
      have := linB.rng a b
      omega) (rawS X)
    exact this.imp (fun h => by rw [decide_eq_true_eq, le_cmp] at h; exact h)
  obtain ⟨h1, h2⟩ := compact_upS _ hs
  unfold cmpS srtS
  rw [raw_un]
  refine ⟨?_, fun x => ?_⟩
  · unfold Up unS
    rw [List.pairwise_map]
    exact h1.imp (fun {a b} h => by unfold cmpN; rw [ByteArray.toList_eq, ByteArray.toList_eq]; exact h)
  · unfold unS
    rw [List.mem_map]
    constructor
    · rintro ⟨y, hy, rfl⟩
      rw [h2, List.mem_mergeSort] at hy
      unfold rawS at hy
      obtain ⟨s, hs2, rfl⟩ := List.mem_map.1 hy
      cases s
      simpa using hs2
    · intro hx
      refine ⟨x.data.toList, ?_, by cases x; simp⟩
      rw [h2, List.mem_mergeSort]
      exact List.mem_map.2 ⟨x, hx, rfl⟩
end Go.Proofs.YtnhemglpbhnmdaaGreat.T
