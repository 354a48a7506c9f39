/-
  What is proved: the text of the example's error.
-/
import Derived.Test.YthhdhhebelmimaaDoorFltD
import Derived.Shelf.Strings.Builder1
import Derived.Stop.Asserts
namespace Go.Proofs.YthhdhhebelmimaaDoor.Flt
open Go.RowKit
set_option linter.unusedVariables false
set_option linter.unusedSimpArgs false

def lineB0 : ByteArray := ⟨#[108, 105, 110, 101]⟩
def exText : ByteArray := ⟨#[108, 105, 110, 101, 58, 32, 101, 114, 114, 111, 114, 32, 55, 32, 97, 116, 32, 49, 50]⟩
theorem bWrite (B b : Nat) (bs : List Value) (s : ByteArray) (w : World) (h : Lib.IsBuilder 88 5 B b bs w) (hlen : bs.length + s.size ≤ 140737488355328) (hBw : B ≤ w.heap.size) :
    Calls Tryd.prog 39 #[.pointer (some ⟨b, 0, none⟩), .string s] w fun e w' => e = .returned (.tuple #[.int .i64 s.size, .nilIface]) ∧ (Lib.IsBuilder 88 5 B b (bs ++ Lib.strCells s) w' ∧ Below B w w') :=
  (Any.Builder_WriteString { Tryd.lays105 with } Tryd.Builder_Extra_105 B b bs s w h hlen hBw).mono fun e w' ⟨he, h1, h2⟩ => ⟨he, Or.inr h1, h2⟩

theorem noWithinF (v : Value) (xT : TypeId) (w : World) : (Instr.typeAssert (.iface 22 v) xT 56 true).run Tryd.prog w = .ok (.tuple #[.pointer none, .bool false]) w := by kernel_rfl
theorem isB_drewN {T e : TypeId} {B b : Nat} {bs : List Value} {w : World} (h : Lib.IsBuilder T e B b bs w) (n : Nat) : Lib.IsBuilder T e B b bs (w.drewN n) := h
theorem bs_eq : ([] ++ Lib.strCells lineB0 ++ Lib.strCells (⟨#[58, 32]⟩ : ByteArray) ++ Lib.strCells e712) = Lib.byteCells exText.data.toList := rfl
set_option maxHeartbeats 2000000 in
theorem within_error (b f : Nat) (w : World) (hp : w.cell? ⟨b, 0, none⟩ = some (.string lineB0)) (he : w.cell? ⟨b, 1, none⟩ = some (.iface 22 (.pointer (some ⟨f, 0, none⟩))))
    (hb : b < w.heap.size) (hf : f < w.heap.size) (h0 : w.cell? ⟨f, 0, none⟩ = some (.int .i64 7)) (h1 : w.cell? ⟨f, 1, none⟩ = some (.int .i64 12)) :
    Calls Tryd.prog 99 #[.pointer (some ⟨b, 0, none⟩)] w fun e w' => e = .returned (.string exText) ∧ Below w.heap.size w w' := by
  have cw := bWrite w.heap.size w.heap.size
  have cs := Tryd.Builder_String_any w.heap.size w.heap.size exText.data.toList
  have ct := text_712 f
  have nW := noWithinF
  have hI0 := Lib.fresh_isBuilder 88 5 w
  have hl0 : ([] : List Value).length + lineB0.size ≤ 140737488355328 := by decide
  have hl1 : ([] ++ Lib.strCells lineB0).length + (⟨#[58, 32]⟩ : ByteArray).size ≤ 140737488355328 := by decide
  have hl2 : ([] ++ Lib.strCells lineB0 ++ Lib.strCells (⟨#[58, 32]⟩ : ByteArray)).length + e712.size ≤ 140737488355328 := by decide
  have hs0 : w.heap.size ≤ (w.alloc (.cells #[.pointer none, .slice none 0 0] 88)).heap.size := by simp
  have hB0 : Below w.heap.size w (w.alloc (.cells #[.pointer none, .slice none 0 0] 88)) := (Below.refl _ _).alloc (Nat.le_refl _) _
  have hkeep : ∀ W, Below w.heap.size w W → W.cell? ⟨b, 0, none⟩ = some (.string lineB0) ∧ W.cell? ⟨b, 1, none⟩ = some (.iface 22 (.pointer (some ⟨f, 0, none⟩))) ∧ W.cell? ⟨f, 0, none⟩ = some (.int .i64 7) ∧ W.cell? ⟨f, 1, none⟩ = some (.int .i64 12) :=
    fun W h => ⟨(h.cell hb).trans hp, (h.cell hb).trans he, (h.cell hf).trans h0, (h.cell hf).trans h1⟩
  obtain ⟨k0, k1, k2, k3⟩ := hkeep _ hB0
  have hK := Lib.hid hkeep
  clear hkeep hp he h0 h1
  go_enter Tryd.func99, Tryd.ntmps99
  go_wp2
  refine wp_loop_rounds 1 ?_
  rw [rounds_succ]
  go_wp2_with (first
    | (go_at_call 39; ((with_reducible refine (cw _ _ _ hI0 hl0 hs0).mono ?_); rintro e w1 ⟨rfl, hI1, hB1⟩; replace hB1 := hB0.trans hB1; obtain ⟨k4, k5, k6, k7⟩ := hK.out _ hB1; clear hI0))
    | (go_at_call 39; ((with_reducible refine (cw _ _ _ hI1 hl1 hB1.size).mono ?_); rintro e w2 ⟨rfl, hI2, hB2⟩; replace hB2 := hB1.trans hB2; obtain ⟨k8, k9, k10, k11⟩ := hK.out _ hB2; clear hI1))
    | (go_at_call 101; ((with_reducible refine (ct _ k10 k11).mono ?_); rintro e w3 ⟨rfl, n, rfl⟩; have hI3 := isB_drewN hI2 n; have hB3 := below_drewN hB2 n; clear hI2))
    | (go_at_call 39; ((with_reducible refine (cw _ _ _ hI3 hl2 hB3.size).mono ?_); rintro e w4 ⟨rfl, hI4, hB4⟩; replace hB4 := hB3.trans hB4; rw [bs_eq] at hI4))
    | (go_at_call 41; ((with_reducible refine (cs _ hI4 hB4.size).mono ?_); rintro e w5 ⟨rfl, hB5⟩)))
  go_ret
  exact ⟨rfl, hB4.trans hB5⟩
end Go.Proofs.YthhdhhebelmimaaDoor.Flt
