/-
  What is proved: what the closures of package claim tell of a claim by its Op, and what lies below it for them.
-/
import Derived.Test.YtjjoebijkcmgiaaGreatZClmV
namespace Go.Proofs.YtjjoebijkcmgiaaGreat.C
open Go.RowKit Go.Shelf L T
set_option linter.unusedVariables false
set_option linter.unusedSimpArgs false

/-- what a closure that tells by the Op returns, in worlds that keep what W1 holds -/
def InnOk (p : Int → Bool) (F : Nat) (caps : Array Value) (W1 : World) : Prop :=
  ∀ (x : Cl) (k : SS) (a : Option Addr) (n c : Nat) (W : World), KeepC W1 W →
    Calls Tryz.prog F (#[.agg #[.int .i64 (opC x), .string (nmC x), .string (soC x), .slice k.a k.n k.c, .slice a n c]] ++ caps) W fun e W' => e = .returned (.bool (p (opC x))) ∧ W.grownBy W' none
theorem InnOk.keep {p : Int → Bool} {F : Nat} {caps : Array Value} {W1 W2 : World} (h : InnOk p F caps W1) (hk : KeepC W1 W2) : InnOk p F caps W2 := fun x k a n c W hw => h x k a n c W (hk.trans hw)
def conP (o : Int) : Bool := decide (6 ≤ o) && decide (o ≤ 10)
def flatP (q o : Int) : Bool := (o == q) && ((q == 7) || (q == 8))
theorem gr_none_alloc (W : World) (o : Obj) : W.grownBy (W.alloc o) none := World.grownBy_alloc W o none
set_option maxRecDepth 100000 in
set_option maxHeartbeats 4000000 in
theorem con_ok (W1 : World) : InnOk conP 36 #[] W1 := fun x k a n c W hk => by
  obtain ⟨W2, hW2, hB2, hs2, S2⟩ := cbox1 W (opC x) (nmC x) (soC x) k a n c
  have hg : W.grownBy W2 none := by rw [← hW2]; exact gr_none_alloc _ _
  obtain ⟨s0, s1, s2, s3, s4⟩ := S2.five
  clear S2
  generalize opC x = op at *
  generalize nmC x = nm at *
  generalize soC x = so at *
  unfold conP
  show Calls _ _ #[_] _ _
  rw [show decide (6 ≤ op) = decide (op ≥ 6) from rfl]
  cases h1 : decide (op ≥ 6) <;> cases h2 : decide (op ≤ 10)
  all_goals
    go_enter Tryz.func36, Tryz.ntmps36
    go_wp2
    go_ret
    exact ⟨rfl, hg⟩
set_option maxRecDepth 100000 in
set_option maxHeartbeats 4000000 in
theorem flat_ok (q : Int) (g : Nat) (W1 : World) (hg1 : Blk W1 g #[.int .i64 q] 3) : InnOk (flatP q) 33 #[.pointer (some ⟨g, 0, none⟩)] W1 := fun x k a n c W hk => by
  obtain ⟨W2, hW2, hB2, hs2, S2⟩ := cbox1 W (opC x) (nmC x) (soC x) k a n c
  have hg : W.grownBy W2 none := by rw [← hW2]; exact gr_none_alloc _ _
  have hb : Blk W g #[.int .i64 q] 3 := hk g _ _ hg1 (by decide) (fun h => absurd h (by decide))
  have g0 := Blk.cell (Blk.below hb hB2) 0
  obtain ⟨s0, s1, s2, s3, s4⟩ := S2.five
  clear S2 hg1 hb
  generalize opC x = op at *
  generalize nmC x = nm at *
  generalize soC x = so at *
  unfold flatP
  show Calls _ _ #[_, _] _ _
  by_cases h1 : op = q
  · subst h1
    by_cases h7 : op = 7
    · subst h7
      go_enter Tryz.func33, Tryz.ntmps33
      go_wp2
      go_ret
      exact ⟨oneB (by decide), hg⟩
    · by_cases h8 : op = 8
      · subst h8
        go_enter Tryz.func33, Tryz.ntmps33
        go_wp2
        go_ret
        exact ⟨oneB (by decide), hg⟩
      · have e7 : (op == 7) = false := by simpa using h7
        have e8 : (op == 8) = false := by simpa using h8
        go_enter Tryz.func33, Tryz.ntmps33
        go_wp2
        go_ret
        exact ⟨oneB (by simp [h7, h8]), hg⟩
  · have e1 : (op == q) = false := by simpa using h1
    go_enter Tryz.func33, Tryz.ntmps33
    go_wp2
    go_ret
    exact ⟨oneB (by simp [h1]), hg⟩
set_option maxRecDepth 100000 in
set_option maxHeartbeats 4000000 in
theorem ends1_con (p : Int → Bool) (g : Nat) (W1 : World) (hg1 : Blk W1 g #[.func (.func 36) #[] #[]] 31) (hI : InnOk p 36 #[] W1) : EndsOk p g W1 := fun x k a n c W hk => by
  obtain ⟨W2, hW2, hB2, hs2, S2⟩ := cbox1 W (opC x) (nmC x) (soC x) k a n c
  have hg : W.grownBy W2 none := by rw [← hW2]; exact gr_none_alloc _ _
  have hb : Blk W g #[.func (.func 36) #[] #[]] 31 := hk g _ _ hg1 (by decide) (fun h => absurd h (by decide))
  have g0 := Blk.cell (Blk.below hb hB2) 0
  have cI := hI x k a n c W2 (hk.trans (KeepC.of_below hB2))
  change Calls _ _ #[_] _ _ at cI
  obtain ⟨s0, s1, s2, s3, s4⟩ := S2.five
  have HS := Lib.hid S2
  clear S2 hg1 hb hI
  generalize p (opC x) = b at *
  generalize opC x = op at *
  generalize nmC x = nm at *
  generalize soC x = so at *
  cases b
  all_goals
    go_enter Tryz.func54, Tryz.ntmps54
    go_wp2_with (first | (go_at_call 36; ((with_reducible refine cI.mono ?_); rintro e w3 ⟨rfl, hg3⟩; obtain ⟨u0, u1, u2, u3, u4⟩ := (CBox.b HS.out (below_none hg3)).five)))
    go_ret
    exact ⟨rfl, hg.trans hg3⟩
set_option maxRecDepth 100000 in
set_option maxHeartbeats 4000000 in
theorem ends1_flat (p : Int → Bool) (g0' : Nat) (g : Nat) (W1 : World) (hg1 : Blk W1 g #[.func (.func 33) #[] #[.pointer (some ⟨g0', 0, none⟩)]] 31) (hI : InnOk p 33 #[.pointer (some ⟨g0', 0, none⟩)] W1) : EndsOk p g W1 := fun x k a n c W hk => by
  obtain ⟨W2, hW2, hB2, hs2, S2⟩ := cbox1 W (opC x) (nmC x) (soC x) k a n c
  have hg : W.grownBy W2 none := by rw [← hW2]; exact gr_none_alloc _ _
  have hb : Blk W g #[.func (.func 33) #[] #[.pointer (some ⟨g0', 0, none⟩)]] 31 := hk g _ _ hg1 (by decide) (fun h => absurd h (by decide))
  have g0 := Blk.cell (Blk.below hb hB2) 0
  have cI := hI x k a n c W2 (hk.trans (KeepC.of_below hB2))
  change Calls _ _ #[_, .pointer (some ⟨g0', 0, none⟩)] _ _ at cI
  obtain ⟨s0, s1, s2, s3, s4⟩ := S2.five
  have HS := Lib.hid S2
  clear S2 hg1 hb hI
  generalize p (opC x) = b at *
  generalize opC x = op at *
  generalize nmC x = nm at *
  generalize soC x = so at *
  cases b
  all_goals
    go_enter Tryz.func54, Tryz.ntmps54
    go_wp2_with (first | (go_at_call 33; ((with_reducible refine cI.mono ?_); rintro e w3 ⟨rfl, hg3⟩; obtain ⟨u0, u1, u2, u3, u4⟩ := (CBox.b HS.out (below_none hg3)).five)))
    go_ret
    exact ⟨rfl, hg.trans hg3⟩
end Go.Proofs.YtjjoebijkcmgiaaGreat.C
