/-
  What is proved: the names that are put into a list one by one.
-/
import Derived.Test.YtfamlimnanehnaaSrtP
import Derived.Test.YtfamlimnanehnaaLibD
import Derived.Test.YtfamlimnanehnaaLibZ
namespace Go.Proofs.Ytfamlimnanehnaa.Srt
open Go.RowKit L
set_option linter.unusedVariables false
set_option linter.unusedSimpArgs false

def nmC (k : Nat) : List UInt8 := 115 :: (if k < 10 then [UInt8.ofNat (48 + k)] else [UInt8.ofNat (48 + k / 10), UInt8.ofNat (48 + k % 10)])
theorem nmC_dec {k : Nat} (h : k < 100) : 115 :: Lib.decDigits k = nmC k := by
  unfold nmC
  by_cases h1 : k < 10
  · rw [if_pos h1, dec_small h1]
  · rw [if_neg h1, dec_big h1, dec_small (by omega)]; rfl
theorem nm_add {k : Nat} (h : k < 100) : (⟨#[115]⟩ : ByteArray) ++ BA (Lib.decDigits k) = BA (nmC k) := by
  rw [BA_app, ← nmC_dec h]; rfl
theorem nm_valid : ∀ k, k < 80 → validL (nmC k) = true := by decide +kernel
theorem nm_apart : ∀ k, k < 80 → ∀ j, j < k → (nmC j == nmC k) = false := by decide +kernel
def NM (m : Nat) : List ByteArray := (List.range m).map fun i => BA (nmC i)
theorem NM_len (m : Nat) : (NM m).length = m := by simp [NM]
theorem NM_succ (m : Nat) : NM (m + 1) = NM m ++ [BA (nmC m)] := by simp [NM, List.range_succ]
theorem nm_has {m k : Nat} (h : m ≤ k) (hk : k < 80) : hasS (NM m) (BA (nmC k)) = false := by
  rw [has_L, BA_list]
  cases hc : (List.map (fun x => x.data.toList) (NM m)).any fun y => y == nmC k with
  | false => rfl
  | true =>
    obtain ⟨y, hy, he⟩ := List.any_eq_true.1 hc
    obtain ⟨x, hx, rfl⟩ := List.mem_map.1 hy
    obtain ⟨i, hi, rfl⟩ := List.mem_map.1 hx
    rw [List.mem_range] at hi
    have := nm_apart k hk i (by omega)
    rw [BA_list] at he
    rw [this] at he; cases he
theorem nm_put {m k : Nat} (h : m ≤ k) (hk : k < 80) : putE (NM m) (BA (nmC k)) = if 64 ≤ m then 2 else 0 := by
  unfold putE
  rw [valid_L, BA_list, nm_valid k hk, if_neg (by simp), nm_has h hk, if_neg (by simp), NM_len]
theorem nm_right : ∀ m, m ≤ 64 → rightV (NM m) = 0
  | 0, _ => rfl
  | m + 1, h => by
    rw [NM_succ]
    exact right_put (nm_right m (by omega)) (by rw [nm_put (Nat.le_refl _) (by omega), if_neg (by omega)])
theorem nm_size : ∀ k, k < 80 → (nmC k).length ≤ 3 := by decide +kernel
theorem nm_okZ (m : Nat) (h : m ≤ 64) : okZ (NM m) := fun x hx => by
  obtain ⟨i, hi, rfl⟩ := List.mem_map.1 hx
  rw [List.mem_range] at hi
  have := nm_size i (by omega)
  rw [BA_size]; omega
end Go.Proofs.Ytfamlimnanehnaa.Srt
