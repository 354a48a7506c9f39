/-
  What is proved: slices.Clone of texts; copy of a list of functions into a row of the call's own.
-/
import Derived.Test.YtakcbpmdjdadnaaSgnA
import Derived.Laws.CopyOwn
import Derived.Laws.OwnMore
namespace Go.Proofs.Ytakcbpmdjdadnaa.Sgn
open Go.RowKit L Srt
set_option linter.unusedVariables false
set_option linter.unusedSimpArgs false

theorem empty_own (w : World) : OwnS (w.alloc (.cells #[] 9)) w.heap.size (.slice (some ⟨w.heap.size, 0, none⟩) 0 0) [] := OwnS.made w [] w.heap.size (Nat.le_refl _) (by unfold maxLen; simp)
set_option maxHeartbeats 1000000 in
theorem Clone_any (a : Option Addr) (n c : Nat) (X : List ByteArray) (w : World) (hX : SlS w a n c X) (hn : n ≤ 100000000) :
    Calls Try.prog 44 #[.slice a n c] w fun e w' => ∃ v, e = .returned v ∧ OwnS w' w.heap.size v X ∧ Below w.heap.size w w' := by
  have qT : ∀ (w : World) (a : Option Addr) (n c : Nat), (binOp .eql 22 (.slice a n c) (.slice none 0 0)).run Try.prog w = .ok (.bool a.isNone) w := fun w a n c => Lib.run_eql_slice_nil w _ _ _ _ _ _ _ Try.underlying22
  cases a with
  | none =>
    have hc : c = 0 := hX.2.2 rfl
    have hn0 : n = 0 := by have := hX.2.1; omega
    have hX0 : X = [] := List.eq_nil_of_length_eq_zero (by have := hX.1.1; omega)
    subst hX0 hc hn0
    clear hX
    go_enter Try.func44, Try.ntmps44
    go_wp2
    go_ret
    exact ⟨_, rfl, OwnS.nil _ _, Below.refl _ _⟩
  | some ad =>
    have hB : Below w.heap.size w (w.alloc (.cells #[] 9)) := bel_alloc (Below.refl _ _) _
    have ho := empty_own w
    have hX1 := hX.below hB
    have hs := hB.size
    have hl : ([] : List ByteArray).length + n ≤ 1000000000 := by simp; omega
    have HB := Lib.hid hB
    clear hX hB
    go_enter Try.func44, Try.ntmps44
    go_wp2_with (at_builtin; ((refine app_strs rfl (.tmp 5) (.tmp 6) rfl w.heap.size _ [] rfl ho _ _ _ X rfl hX1 hl hs ?_); intro v1 w1 ho1 hg1))
    go_ret
    exact ⟨_, rfl, ho1, HB.out.grown hg1 hs (fun k hk => (ho.lt k hk).1)⟩

theorem funI : (Try.prog.info? 27).map (fun i => (i.zero, i.size, i.bytes)) = some (some (.agg #[.string ⟨#[]⟩, .slice none 0 0, .string ⟨#[]⟩]), 3, 56) := by kernel_rfl
theorem min_self (n : Nat) : Nat.min n n = n := Nat.min_eq_left (Nat.le_refl _)
/-- copy of m functions over a row, from a place on -/
theorem run_copy3 (w : World) (dT sT ty elem : TypeId) (g o dLen dCap : Nat) (a : Addr) (sLen sCap : Nat) (cur : Array Value) (t : TypeId) (cs : List Value)
    (hu : Try.prog.underlying dT = some (.slice elem)) (hs : (Try.prog.info? elem).map (·.size) = some 3)
    (hg : w.heap[g]? = some (.cells cur t (0, 0))) (hle : sLen ≤ dLen) (hn : cs.length = sLen * 3)
    (hsrc : ∀ j v, cs[j]? = some v → w.cell? (a.add j) = some v) (hfit : o + cs.length ≤ cur.size) (h1 : ∀ v ∈ cs, v.oneCell' = true) :
    (Builtin.copy_ #[dT, sT] ty #[.slice (some ⟨g, o, none⟩) dLen dCap, .slice (some a) sLen sCap]).run Try.prog w =
      .ok (.int .i64 (sLen : Int)) (w.setRow g (splice cur.toList o cs).toArray) := by
  have hl := run_loadCells_list (P := Try.prog) w a cs hsrc
  have hst := run_storeCells_at Try.prog g o t cs 0 cur w hg (by simpa using hfit) h1
  have hmin : Nat.min sLen dLen = sLen := Nat.min_eq_left hle
  cases hq : Try.prog.info? elem with
  | none => simp [hq] at hs
  | some i =>
    have hi : i.size = 3 := by simpa [hq] using hs
    unfold splice
    simp [Builtin.copy_, run_underlying hu, Builtin.lenOf, Builtin.firstCells, sizeOf, typeInfo, hq, hi, hmin, ← hn, hl, hst]
    rfl
theorem run_copy3_none (w : World) (dT sT ty elem : TypeId) (dp sp : Option Addr) (dLen dCap sCap : Nat)
    (hu : Try.prog.underlying dT = some (.slice elem)) (hs : (Try.prog.info? elem).map (·.size) = some 3) :
    (Builtin.copy_ #[dT, sT] ty #[.slice dp dLen dCap, .slice sp 0 sCap]).run Try.prog w = .ok (.int .i64 0) w := by
  have hmin : Nat.min 0 dLen = 0 := Nat.min_eq_left (Nat.zero_le _)
  cases hq : Try.prog.info? elem with
  | none => simp [hq] at hs
  | some i =>
    have hi : i.size = 3 := by simpa [hq] using hs
    cases dp <;> cases sp <;> simp [Builtin.copy_, run_underlying hu, Builtin.lenOf, Builtin.firstCells, sizeOf, typeInfo, hq, hi, hmin, loadCells, loadCellsFrom, storeCells] <;> rfl
end Go.Proofs.Ytakcbpmdjdadnaa.Sgn
