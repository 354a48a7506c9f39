/-
  What is proved: package match's bare: a claim without its Terms and Subs.
-/
import Derived.Test.YtghpoeckhfeicaaGreatBC
import Derived.Test.YtghpoeckhfeicaaGreatBL
namespace Go.Proofs.YtghpoeckhfeicaaGreat.Mt
open Go.RowKit L T C
set_option linter.unusedVariables false
set_option linter.unusedSimpArgs false

set_option maxHeartbeats 4000000 in
theorem bare_any (o : Int) (s z : ByteArray) (k : SS) (a : Option Addr) (n c : Nat) (w : World) :
    Calls Tryz.prog 75 #[.agg #[.int .i64 o, .string s, .string z, .slice k.a k.n k.c, .slice a n c]] w fun e w' => e = .returned (.agg #[.int .i64 o, .string s, .string z, .slice none 0 0, .slice none 0 0]) ∧ Below w.heap.size w w' := by
  obtain ⟨ka, kn, kc⟩ := k
  dsimp only
  go_enter Tryz.func75, Tryz.ntmps75
  go_wp2
  have h := CBox.new (w.alloc (.cells #[.int .i64 o, .string s, .string z, .slice none 0 0, .slice none 0 0] 25)) o s z SS.nil none 0 0
  rw [World.size_alloc] at h
  obtain ⟨x0, x1, x2, x3, x4⟩ := h.five
  dsimp only [SS.nil] at x0 x1 x2 x3 x4
  simp [bodyPost, results, Tryz.results75, go_sem, x0, x1, x2, x3, x4]
  exact bel_alloc (bel_alloc (Below.refl _ _) _) _
end Go.Proofs.YtghpoeckhfeicaaGreat.Mt
