/-
  What is proved: what package bind's function literals do to one part: those of LiftClaim and of Close.
-/
import Derived.Test.YtokkafekdaniaaaBndD
namespace Go.Proofs.Ytokkafekdaniaaa.B
open Go.RowKit L T C
set_option linter.unusedVariables false
set_option linter.unusedSimpArgs false

/-- the part stays as it is -/
theorem node_same {f : Fn} {k : Int} {w w' : World} {g : Nat} {hs : List Hd} {i : Nat} {h : Hd} (hr : Row w g hs) (hi : hs[i]? = some h) (hb : Below w.heap.size w w') (hf : f k h.op h.nm h.nu = .go h.nu) : NodeOk f k w g hs i h (.returned (.bool true)) w' := by
  have := hr.lt
  refine ⟨Ch.of_below hb (by omega), Or.inl ⟨h.nu, hf, rfl, ?_⟩⟩
  rw [set_same hi]
  exact hr.of_block (hb.block g this)
/-- its number is stored -/
theorem node_nu {f : Fn} {k : Int} {w w' : World} {g : Nat} {hs : List Hd} {i : Nat} {h : Hd} (hr : Row w g hs) (hi : hs[i]? = some h) (hb : Below w.heap.size w w') (z : Int) (hf : f k h.op h.nm h.nu = .go z) : NodeOk f k w g hs i h (.returned (.bool true)) (w'.setCell ⟨g, i * 4 + 2, none⟩ (.int .i64 z)) := by
  have hg := hr.lt
  have c := Ch.of_below (lo := g) (hi := g + 1) hb (by omega)
  have hr' := hr.of_block (hb.block g hg)
  refine ⟨⟨below_set c.1 (Nat.le_refl _) _ _, fun b h1 h2 => (heap_setCell_other w' ⟨g, i * 4 + 2, none⟩ b _ (by show b ≠ g; omega)).trans (c.2 b h1 h2)⟩, Or.inl ⟨z, hf, rfl, row_nu hr' i z h hi⟩⟩
/-- the cells of a part -/
theorem row_four {w : World} {g : Nat} {hs : List Hd} {i : Nat} {h : Hd} (hr : Row w g hs) (hi : hs[i]? = some h) :
    (w.cell? ⟨g, i * 4, none⟩ = some (.int .i64 h.op) ∧ w.cell? ⟨g, i * 4 + 1, none⟩ = some (.string h.nm) ∧ w.cell? ⟨g, i * 4 + 2, none⟩ = some (.int .i64 h.nu) ∧ w.cell? ⟨g, i * 4 + 3, none⟩ = some (.slice h.a h.n h.c)) ∧ (w.frozen? ⟨g, i * 4, none⟩ = false ∧ w.frozen? ⟨g, i * 4 + 1, none⟩ = false ∧ w.frozen? ⟨g, i * 4 + 2, none⟩ = false ∧ w.frozen? ⟨g, i * 4 + 3, none⟩ = false) := by
  obtain ⟨hk, rfl⟩ := List.getElem?_eq_some_iff.1 hi
  exact ⟨hr.at hk, hr.free _, hr.free _, hr.free _, hr.free _⟩
set_option maxHeartbeats 1000000 in
theorem lift_clos (by_ fr : Int) (gf gb K : Nat) (B0 : Nat) (w0 : World) (hf : gf < B0) (hb : gb < B0) (cf : w0.cell? ⟨gf, 0, none⟩ = some (.int .i64 fr)) (cb : w0.cell? ⟨gb, 0, none⟩ = some (.int .i64 by_)) (hK : K ≤ 1000000000) :
    ClosOk 226 #[.pointer (some ⟨gf, 0, none⟩), .pointer (some ⟨gb, 0, none⟩)] (fLift by_ fr) K B0 w0 := by
  intro w g hs i h k hB hg hr hi hk0 hk1
  show Calls _ _ #[.pointer (some ⟨g, i * 4, none⟩), .int .i64 k, .pointer (some ⟨gf, 0, none⟩), .pointer (some ⟨gb, 0, none⟩)] _ _
  obtain ⟨⟨c0, c1, c2, c3⟩, f0, f1, f2, f3⟩ := row_four hr hi
  have d1 := (hB.cell (p := ⟨gf, 0, none⟩) hf).trans cf
  have d2 := (hB.cell (p := ⟨gb, 0, none⟩) hb).trans cb
  have hgl := hr.lt
  have hfl : gf < w.heap.size := World.block_lt_of_cell? _ _ d1
  have hbl : gb < w.heap.size := World.block_lt_of_cell? _ _ d2
  have cl := loose_any h.op h.nm h.nu h.a h.n h.c k w
  have HS := Lib.hid (show ∀ w', Below w.heap.size w w' → fLift by_ fr k h.op h.nm h.nu = .go h.nu → NodeOk (fLift by_ fr) k w g hs i h (.returned (.bool true)) w' from fun w' b e => node_same hr hi b e)
  have HN := Lib.hid (show ∀ w' z, Below w.heap.size w w' → fLift by_ fr k h.op h.nm h.nu = .go z → NodeOk (fLift by_ fr) k w g hs i h (.returned (.bool true)) (w'.setCell ⟨g, i * 4 + 2, none⟩ (.int .i64 z)) from fun w' z b e => node_nu hr hi b z e)
  clear hr hi
  generalize h.op = op at *
  generalize h.nm = nm at *
  generalize h.nu = nu at *
  generalize h.a = a at *
  generalize h.n = n at *
  generalize h.c = c at *
  by_cases h1 : op = 2 ∧ k ≤ nu
  · have e1 : lsV op k nu = wrap64 (nu - k) := by unfold lsV; rw [if_pos h1]
    have e2 : isLs op k nu = true := by unfold isLs; simp [h1]
    rw [e1, e2] at cl
    by_cases h2 : fr ≤ wrap64 (nu - k)
    · have e3 := Lib.hid (show fLift by_ fr k op nm nu = .go (wrap64 (max (wrap64 (wrap64 (nu - k) + by_)) 0 + k)) by unfold fLift; rw [if_pos h1, if_pos h2])
      clear e1 e2 h1
      generalize wrap64 (nu - k) = m at *
      have q1 : fr ≤ m := h2
      go_enter Try.func226, Try.ntmps226
      go_wp2_with (go_at_call 109; ((with_reducible refine cl.mono ?_); rintro e w2 ⟨rfl, hb2⟩; have v1 := (hb2.cell (p := ⟨gf, 0, none⟩) hfl).trans d1; have v2 := (hb2.cell (p := ⟨gb, 0, none⟩) hbl).trans d2; have v3 := (hb2.cell (p := ⟨g, i * 4 + 2, none⟩) hgl).trans c2; have v4 := (hb2.frozen (p := ⟨g, i * 4 + 2, none⟩) hgl).trans f2))
      · rename_i hneg
        go_ret
        exact HN.out _ _ hb2 (by have e := e3.out; rw [Int.max_eq_right (by omega), Int.zero_add] at e; exact e)
      · rename_i hneg
        go_ret
        exact HN.out _ _ hb2 (by have e := e3.out; rw [Int.max_eq_left (by omega)] at e; exact e)
    · have e3 := Lib.hid (show fLift by_ fr k op nm nu = .go nu by unfold fLift; rw [if_pos h1, if_neg h2])
      clear e1 e2 h1
      generalize wrap64 (nu - k) = m at *
      have q1 : ¬ fr ≤ m := h2
      go_enter Try.func226, Try.ntmps226
      go_wp2_with (go_at_call 109; ((with_reducible refine cl.mono ?_); rintro e w2 ⟨rfl, hb2⟩; have v1 := (hb2.cell (p := ⟨gf, 0, none⟩) hfl).trans d1))
      go_ret
      exact HS.out _ hb2 e3.out
  · have e1 : lsV op k nu = 0 := by unfold lsV; rw [if_neg h1]
    have e2 : isLs op k nu = false := by unfold isLs; simp [h1]
    rw [e1, e2] at cl
    have e3 := Lib.hid (show fLift by_ fr k op nm nu = .go nu by unfold fLift; rw [if_neg h1])
    clear e1 e2 h1
    go_enter Try.func226, Try.ntmps226
    go_wp2_with (go_at_call 109; ((with_reducible refine cl.mono ?_); rintro e w2 ⟨rfl, hb2⟩))
    go_ret
    exact HS.out _ hb2 e3.out
/-- a term without Args is put in its place -/
theorem node_leaf {f : Fn} {k : Int} {w w' : World} {g : Nat} {hs : List Hd} {i : Nat} {h : Hd} (hr : Row w g hs) (hi : hs[i]? = some h) (hb : Below w.heap.size w w') (o : Int) (s : ByteArray) (z : Int) (hf : f k h.op h.nm h.nu = .leaf o s z) : NodeOk f k w g hs i h (.returned (.bool true)) (set4 w' g i ⟨o, s, z, none, 0, 0⟩) := by
  have hg := hr.lt
  obtain ⟨hk, rfl⟩ := List.getElem?_eq_some_iff.1 hi
  have c := Ch.of_below (lo := g) (hi := g + 1) hb (by omega)
  have hr' := hr.of_block (hb.block g hg)
  exact ⟨⟨set4_below c.1 (Nat.le_refl _) _ _, fun b h1 h2 => (set4_other w' g i b _ (by omega)).trans (c.2 b h1 h2)⟩, Or.inr (Or.inl ⟨o, s, z, hf, rfl, hr'.set i _ hk⟩)⟩
/-- a term in new memory is put in its place -/
theorem node_put {f : Fn} {k : Int} {w w' : World} {g : Nat} {hs : List Hd} {i : Nat} {h : Hd} (hr : Row w g hs) (hi : hs[i]? = some h) (hb : Below w.heap.size w w') (t : Tm) (h' : Hd) (hf : f k h.op h.nm h.nu = .put t) (hh : HdP (Nw 0 0 w.heap.size w'.heap.size) w' h' t) : NodeOk f k w g hs i h (.returned (.bool false)) (set4 w' g i h') := by
  have hg := hr.lt
  obtain ⟨hk, rfl⟩ := List.getElem?_eq_some_iff.1 hi
  have c := Ch.of_below (lo := g) (hi := g + 1) hb (by omega)
  have hr' := hr.of_block (hb.block g hg)
  exact ⟨⟨set4_below c.1 (Nat.le_refl _) _ _, fun b h1 h2 => (set4_other w' g i b _ (by omega)).trans (c.2 b h1 h2)⟩, Or.inr (Or.inr ⟨t, h', hf, rfl, hr'.set i _ hk, hdP_to hh (fun b hb => set4_other w' g i b _ (by unfold Nw at hb; omega)) (fun b hb => by rw [set4_size]; exact hb)⟩)⟩
set_option maxHeartbeats 1000000 in
theorem close_clos (name : ByteArray) (gn K : Nat) (B0 : Nat) (w0 : World) (hn : gn < B0) (cn : w0.cell? ⟨gn, 0, none⟩ = some (.string name)) (hK : K ≤ 1000000000) :
    ClosOk 111 #[.pointer (some ⟨gn, 0, none⟩)] (fClose name) K B0 w0 := by
  intro w g hs i h k hB hg hr hi hk0 hk1
  show Calls _ _ #[.pointer (some ⟨g, i * 4, none⟩), .int .i64 k, .pointer (some ⟨gn, 0, none⟩)] _ _
  obtain ⟨⟨c0, c1, c2, c3⟩, f0, f1, f2, f3⟩ := row_four hr hi
  have d1 := (hB.cell (p := ⟨gn, 0, none⟩) hn).trans cn
  have hgl := hr.lt
  have hnl : gn < w.heap.size := World.block_lt_of_cell? _ _ d1
  have cl := fun (w' : World) => loose_any h.op h.nm h.nu h.a h.n h.c k w'
  have HS := Lib.hid (show ∀ w', Below w.heap.size w w' → fClose name k h.op h.nm h.nu = .go h.nu → NodeOk (fClose name) k w g hs i h (.returned (.bool true)) w' from fun w' b e => node_same hr hi b e)
  have HN := Lib.hid (show ∀ w' z, Below w.heap.size w w' → fClose name k h.op h.nm h.nu = .go z → NodeOk (fClose name) k w g hs i h (.returned (.bool true)) (w'.setCell ⟨g, i * 4 + 2, none⟩ (.int .i64 z)) from fun w' z b e => node_nu hr hi b z e)
  have HL := Lib.hid (show ∀ w', Below w.heap.size w w' → fClose name k h.op h.nm h.nu = .leaf 2 ⟨#[]⟩ k → NodeOk (fClose name) k w g hs i h (.returned (.bool true)) (set4 w' g i ⟨2, ⟨#[]⟩, k, none, 0, 0⟩) from fun w' b e => node_leaf hr hi b 2 ⟨#[]⟩ k e)
  have hB0 : Below w.heap.size w w := Below.refl _ _
  clear hr hi
  generalize h.op = op at *
  generalize h.nm = nm at *
  generalize h.nu = nu at *
  generalize h.a = a at *
  generalize h.n = n at *
  generalize h.c = c at *
  unfold set4 at HL
  dsimp only at HL
  by_cases h1 : op = 1 ∧ nm.toList = name.toList
  · have e3 := Lib.hid (show fClose name k op nm nu = .leaf 2 ⟨#[]⟩ k by unfold fClose; rw [if_pos h1])
    obtain ⟨rfl, h1⟩ := h1
    have q1 : (nm.toList == name.toList) = true := by simp [h1]
    clear h1
    go_enter Try.func111, Try.ntmps111
    go_wp2
    go_quiet (fail)
    go_wp2
    go_ret
    exact HL.out _ (below_drewN hB0 _) e3.out
  · have e0 : fClose name k op nm nu = if op = 2 ∧ k ≤ nu then .go (wrap64 (nu + 1)) else .go nu := by unfold fClose; rw [if_neg h1]
    by_cases ho : op = 1
    · have h3 : ¬ (op = 2 ∧ k ≤ nu) := by omega
      have e1 : lsV op k nu = 0 := by unfold lsV; rw [if_neg h3]
      have e2 : isLs op k nu = false := by unfold isLs; simp [h3]
      rw [e1, e2] at cl
      have e3 := Lib.hid (e0.trans (if_neg h3))
      have q1 : (nm.toList == name.toList) = false := by
        have : ¬ nm.toList = name.toList := fun e => h1 ⟨ho, e⟩
        simp [this]
      subst ho
      clear h1 e0 e1 e2 h3
      go_enter Try.func111, Try.ntmps111
      go_wp2
      go_quiet (fail)
      go_wp2_with (go_at_call 109; ((with_reducible refine (cl _).mono ?_); rintro e w2 ⟨rfl, hb2⟩; have B2 := bel_trans (below_drewN hB0 _) hb2; have v3 := (B2.cell (p := ⟨g, i * 4 + 2, none⟩) hgl).trans c2; have v4 := (B2.frozen (p := ⟨g, i * 4 + 2, none⟩) hgl).trans f2))
      go_ret
      exact HS.out _ B2 e3.out
    · have q0 : (op == 1) = false := by simp [ho]
      by_cases h3 : op = 2 ∧ k ≤ nu
      · have e1 : lsV op k nu = wrap64 (nu - k) := by unfold lsV; rw [if_pos h3]
        have e2 : isLs op k nu = true := by unfold isLs; simp [h3]
        rw [e1, e2] at cl
        have e3 := Lib.hid (e0.trans (if_pos h3))
        clear h1 e0 e1 e2 h3 ho
        go_enter Try.func111, Try.ntmps111
        go_wp2
        go_quiet (fail)
        go_wp2_with (go_at_call 109; ((with_reducible refine (cl _).mono ?_); rintro e w2 ⟨rfl, hb2⟩; have B2 := bel_trans (below_drewN hB0 _) hb2; have v3 := (B2.cell (p := ⟨g, i * 4 + 2, none⟩) hgl).trans c2; have v4 := (B2.frozen (p := ⟨g, i * 4 + 2, none⟩) hgl).trans f2))
        go_ret
        exact HN.out _ _ B2 e3.out
      · have e1 : lsV op k nu = 0 := by unfold lsV; rw [if_neg h3]
        have e2 : isLs op k nu = false := by unfold isLs; simp [h3]
        rw [e1, e2] at cl
        have e3 := Lib.hid (e0.trans (if_neg h3))
        clear h1 e0 e1 e2 h3 ho
        go_enter Try.func111, Try.ntmps111
        go_wp2
        go_quiet (fail)
        go_wp2_with (go_at_call 109; ((with_reducible refine (cl _).mono ?_); rintro e w2 ⟨rfl, hb2⟩; have B2 := bel_trans (below_drewN hB0 _) hb2; have v3 := (B2.cell (p := ⟨g, i * 4 + 2, none⟩) hgl).trans c2; have v4 := (B2.frozen (p := ⟨g, i * 4 + 2, none⟩) hgl).trans f2))
        go_ret
        exact HS.out _ B2 e3.out
end Go.Proofs.Ytokkafekdaniaaa.B
