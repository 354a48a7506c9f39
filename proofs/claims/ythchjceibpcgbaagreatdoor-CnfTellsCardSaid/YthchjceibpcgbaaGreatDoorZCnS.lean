/-
  What is proved: what the document's own Read returns.
-/
import Derived.Test.YthchjceibpcgbaaGreatDoorZCnR
namespace Go.Proofs.YthchjceibpcgbaaGreatDoor.Cn
open Go.RowKit L Lt
set_option linter.unusedVariables false
set_option linter.unusedSimpArgs false

/-- what Read returns -/
def RP (R : Rd) (w : World) (e : Ending) (w' : World) : Prop := ∃ A m k, e = .returned (.tuple #[.agg #[.int .i64 R.n, .slice A m k], .int .i64 R.line, .int .i64 R.e]) ∧ SlG w' A m k R.L ∧ Below w.heap.size w w'
theorem hdV_ne {t : List UInt8} {e : Int} (h : hdR t = .error e) : e ≠ 0 := by
  unfold hdR at h
  simp only at h
  intro he
  subst he
  repeat' split at h
  all_goals first | (cases h; done) | (injection h with h; omega)
theorem clR_ne {t : List UInt8} {n e : Int} (h : clR' t n = .error e) : e ≠ 0 := by
  unfold clR' at h
  intro he
  subst he
  split at h
  · injection h with h; omega
  · split at h
    · split at h
      · injection h with h; omega
      · split at h
        · cases h
        · next h0 => injection h with h; exact h0 h
    · injection h with h; omega
theorem u8no {b c : UInt8} (h : b ≠ c) : ((b.toNat : Int) == (c.toNat : Int)) = false := L.beq_no' (fun e => h (UInt8.toNat_inj.1 (by omega)))
end Go.Proofs.YthchjceibpcgbaaGreatDoor.Cn
