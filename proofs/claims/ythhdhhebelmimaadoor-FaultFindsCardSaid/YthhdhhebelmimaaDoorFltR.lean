/-
  What is proved: the law on errors without a fault, walked.
-/
import Derived.Test.YthhdhhebelmimaaDoorFltQ
namespace Go.Proofs.YthhdhhebelmimaaDoor.Flt
open Go.RowKit Go.Extern.Stop Go.Stop Go.Extern
set_option linter.unusedVariables false
set_option linter.unusedSimpArgs false

abbrev FNo : Ending := .returned (.tuple #[.int .i64 0, .int .i64 0, .bool false])
theorem bw (w : World) (o : Obj) : Below w.heap.size w (w.alloc o) := (Below.refl _ _).alloc (Nat.le_refl _) _
theorem asW_bel (w : World) (tb : Nat) : Below w.heap.size w (asW w tb) := (bw w _).trans ((bw _ _).mono (by simp))
theorem etab_f {w : World} (h : ETab w) : ETab (fW w) := h.below (bw w _)
/-- an error of which errors.as finds nothing -/
theorem find_miss (T : TypeId) (v : Value) (w : World) (hE : ETab w)
    (h : ∀ tgt a W, Below w.heap.size w W → Calls Tryd.prog 45 #[.iface T v, tgt, valP a, tyF] W fun e w' => e = .returned (.bool false) ∧ Below W.heap.size W w') :
    Calls Tryd.prog 14 #[.iface T v] w fun e w' => e = FNo ∧ Below w.heap.size w w' :=
  find_no _ _ (faultIn_no _ _ ((as_top T v w.heap.size false _ (fW w) (etab_f hE) (h _ _ _ ((bw w _).trans ((asW_bel _ _).mono (by simp))))).mono fun e w' ⟨he, hb⟩ => ⟨he, (asW_bel _ _).trans (hb.mono (asW_bel _ _).size)⟩))
/-- one of which it finds a nil fault -/
theorem find_hit (T : TypeId) (v : Value) (w : World) (hE : ETab w)
    (h : ∀ tgt ab tb old W, Below w.heap.size w W → W.cell? ⟨ab, 0, none⟩ = some (.pointer (some ⟨tb, 0, none⟩)) → ab < W.heap.size → W.cell? ⟨tb, 0, none⟩ = some old → tb < W.heap.size → W.frozen? ⟨tb, 0, none⟩ = false →
      Calls Tryd.prog 45 #[.iface T v, tgt, valP ⟨ab, 0, none⟩, tyF] W fun e w' => e = .returned (.bool true) ∧ w'.cell? ⟨tb, 0, none⟩ = some (.pointer none) ∧ Below tb W w') :
    Calls Tryd.prog 14 #[.iface T v] w fun e w' => e = FNo ∧ Below w.heap.size w w' := by
  have hB := (bw w (.cells #[.pointer none] 22)).trans ((asW_bel (fW w) w.heap.size).mono (by simp))
  have h2 := h (.iface 79 (.pointer (some ⟨w.heap.size, 0, none⟩))) (fW w).heap.size w.heap.size (.pointer none) (asW (fW w) w.heap.size) hB
    (by rw [World.cell?_alloc_lt _ _ _ (by simp), World.cell?_alloc_at _ _ _ _ (by simp)]; rfl) (by simp)
    (by rw [World.cell?_alloc_lt _ _ _ (by simp; omega), World.cell?_alloc_lt _ _ _ (by simp), World.cell?_alloc_at _ _ _ _ (by simp)]; rfl) (by simp; omega)
    (by rw [World.frozen?_alloc_old _ _ _ (by simp; omega), World.frozen?_alloc_old _ _ _ (by simp)]; simp)
  exact find_no _ _ (faultIn_yes _ none _ ((as_top T v w.heap.size true _ (fW w) (etab_f hE) h2).mono fun e w' ⟨he, hc, hb⟩ => ⟨he, hc, ((asW_bel (fW w) w.heap.size).mono (by simp)).trans hb⟩))
theorem find_nil (w : World) : Calls Tryd.prog 14 #[.nilIface] w fun e w' => e = FNo ∧ Below w.heap.size w w' :=
  find_no _ _ (faultIn_no _ _ ((as_nil _ _).mono fun e w' ⟨he, hw⟩ => ⟨he, hw ▸ Below.refl _ _⟩))
theorem within_nil (s : ByteArray) (w : World) : Calls Tryd.prog 12 #[.nilIface, .string s] w fun e w' => e = .returned .nilIface ∧ w' = w := by
  go_enter Tryd.func12, Tryd.ntmps12
  go_wp2
  go_ret
  exact ⟨rfl, rfl⟩
abbrev wrapV (b : Nat) : Value := .agg #[.iface 56 (.pointer (some ⟨b, 0, none⟩))]
/-- what the law asks of an error that wraps nothing -/
structure Kind (T : TypeId) (v : Value) : Prop where
  no : ∀ xT w, (Instr.typeAssert (.iface T v) xT 56 true).run Tryd.prog w = .ok (.tuple #[.pointer none, .bool false]) w
  un : ∀ w, Calls Tryd.prog 13 #[.iface T v] w fun e w' => e = .returned .nilIface ∧ w' = w
  find : ∀ w, ETab w → Calls Tryd.prog 14 #[.iface T v] w fun e w' => e = FNo ∧ Below w.heap.size w w'
  findR : ∀ b w, ETab w → b < w.heap.size → w.cell? ⟨b, 1, none⟩ = some (.iface T v) → Calls Tryd.prog 14 #[.iface 40 (wrapV b)] w fun e w' => e = FNo ∧ Below w.heap.size w w'
theorem kindE (v : Value) : Kind 26 v where
  no := fun xT w => noWithinE v xT w
  un := un_E v
  find := fun w h => find_miss _ _ w h fun tgt a W _ => as_E v tgt a W
  findR := fun b w h hb hc => find_miss _ _ w h fun tgt a W hB => as_RE v b tgt a W (Nat.lt_of_lt_of_le hb hB.size) ((hB.cell (p := ⟨b, 1, none⟩) hb).trans hc)
theorem kindL (v : Value) : Kind 48 v where
  no := fun xT w => noWithinL v xT w
  un := un_L v
  find := fun w h => find_miss _ _ w h fun tgt a W _ => as_L v tgt a W
  findR := fun b w h hb hc => find_miss _ _ w h fun tgt a W hB => as_RL v b tgt a W (Nat.lt_of_lt_of_le hb hB.size) ((hB.cell (p := ⟨b, 1, none⟩) hb).trans hc)
theorem kindF0 : Kind 22 (.pointer none) where
  no := fun xT w => noWithinF _ xT w
  un := un_F0
  find := fun w h => find_hit _ _ w h fun tgt ab tb old W _ h1 h2 h3 h4 h5 => as_F none tgt ab tb old W h1 h2 h3 h4 h5
  findR := fun b w h hb hc => find_hit _ _ w h fun tgt ab tb old W hB h1 h2 h3 h4 h5 => as_RF none b tgt ab tb old W (Nat.lt_of_lt_of_le hb hB.size) ((hB.cell (p := ⟨b, 1, none⟩) hb).trans hc) h1 h2 h3 h4 h5
set_option maxRecDepth 100000 in
set_option maxHeartbeats 4000000 in
theorem finds_F (e : Int) (s : ByteArray) (w : World) (hs : s.size ≤ 200) (hE : ETab w) :
    Calls Tryd.prog 5 #[.int .i64 e, .string s, .bool true, .bool false] w fun e w' => e = .returned (.bool true) ∧ Below w.heap.size w w' := by
  have K : Kind 22 (.pointer none) := kindF0
  have cg := goes_any
  have cN := find_nil
  have pN := parts_nil
  have wN := fun w => within_nil s w
  have cF := K.find w hE
  have cP : ∀ W, Below w.heap.size w W → Calls Tryd.prog 16 #[.iface 22 (.pointer none)] W fun e w' => (∃ a c, e = .returned (.slice a 0 c)) ∧ Below W.heap.size W w' := fun W hB =>
    parts_one 22 (.pointer none) W K.no K.un
  clear K hE
  go_enter Tryd.func5, Tryd.ntmps5
  go_wp2_with (first
    | (go_at_call 12; ((with_reducible refine (wN _).mono ?_); rintro e w1 ⟨rfl, rfl⟩))
    | (go_at_call 14; ((with_reducible refine cF.mono ?_); rintro e w2 ⟨rfl, b2⟩))
    | (go_at_call 14; ((with_reducible refine (cN _).mono ?_); rintro e w3 ⟨rfl, b3⟩; replace b3 := bel_trans b2 b3; have cP3 := cP _ b3))
    | (go_at_call 16; ((with_reducible refine cP3.mono ?_); rintro e w4 ⟨⟨pa, pc, rfl⟩, b4⟩; replace b4 := bel_trans b3 b4))
    | (go_at_call 16; ((with_reducible refine (pN _).mono ?_); rintro e w5 ⟨⟨qa, qc, rfl⟩, b5⟩; replace b5 := bel_trans b4 b5))
    | (go_at_call 9; ((with_reducible refine (cg _).mono ?_); rintro e w6 ⟨rfl, b6⟩; replace b6 := bel_trans b5 b6)))
  go_ret
  exact ⟨rfl, b6⟩
set_option maxRecDepth 100000 in
set_option maxHeartbeats 4000000 in
theorem finds_L (e : Int) (s : ByteArray) (w : World) (hs : s.size ≤ 200) (hE : ETab w) :
    Calls Tryd.prog 5 #[.int .i64 0, .string s, .bool false, .bool false] w fun e w' => e = .returned (.bool true) ∧ Below w.heap.size w w' := by
  have K : Kind 48 (.agg #[]) := kindL _
  have cg := goes_any
  have cN := find_nil
  have pN := parts_nil
  have wN := fun w => within_nil s w
  have cF := K.find w hE
  have cP : ∀ W, Below w.heap.size w W → Calls Tryd.prog 16 #[.iface 48 (.agg #[])] W fun e w' => (∃ a c, e = .returned (.slice a 0 c)) ∧ Below W.heap.size W w' := fun W hB =>
    parts_one 48 (.agg #[]) W K.no K.un
  clear K hE
  go_enter Tryd.func5, Tryd.ntmps5
  go_wp2_with (first
    | (go_at_call 12; ((with_reducible refine (wN _).mono ?_); rintro e w1 ⟨rfl, rfl⟩))
    | (go_at_call 14; ((with_reducible refine cF.mono ?_); rintro e w2 ⟨rfl, b2⟩))
    | (go_at_call 14; ((with_reducible refine (cN _).mono ?_); rintro e w3 ⟨rfl, b3⟩; replace b3 := bel_trans b2 b3; have cP3 := cP _ b3))
    | (go_at_call 16; ((with_reducible refine cP3.mono ?_); rintro e w4 ⟨⟨pa, pc, rfl⟩, b4⟩; replace b4 := bel_trans b3 b4))
    | (go_at_call 16; ((with_reducible refine (pN _).mono ?_); rintro e w5 ⟨⟨qa, qc, rfl⟩, b5⟩; replace b5 := bel_trans b4 b5))
    | (go_at_call 9; ((with_reducible refine (cg _).mono ?_); rintro e w6 ⟨rfl, b6⟩; replace b6 := bel_trans b5 b6)))
  go_ret
  exact ⟨rfl, b6⟩
set_option maxRecDepth 100000 in
set_option maxHeartbeats 4000000 in
theorem finds_E (e : Int) (s : ByteArray) (w : World) (hs : s.size ≤ 200) (hE : ETab w) (he : e ≠ 0) :
    Calls Tryd.prog 5 #[.int .i64 e, .string s, .bool false, .bool false] w fun e w' => e = .returned (.bool true) ∧ Below w.heap.size w w' := by
  have K : Kind 26 (.int .i64 e) := kindE _
  have cg := goes_any
  have cN := find_nil
  have pN := parts_nil
  have wN := fun w => within_nil s w
  have hb0 : (e == 0) = false := by simp; omega
  have cF := K.find w hE
  have cP : ∀ W, Below w.heap.size w W → Calls Tryd.prog 16 #[.iface 26 (.int .i64 e)] W fun e w' => (∃ a c, e = .returned (.slice a 0 c)) ∧ Below W.heap.size W w' := fun W hB =>
    parts_one 26 (.int .i64 e) W K.no K.un
  clear K hE
  go_enter Tryd.func5, Tryd.ntmps5
  go_wp2_with (first
    | (go_at_call 12; ((with_reducible refine (wN _).mono ?_); rintro e w1 ⟨rfl, rfl⟩))
    | (go_at_call 14; ((with_reducible refine cF.mono ?_); rintro e w2 ⟨rfl, b2⟩))
    | (go_at_call 14; ((with_reducible refine (cN _).mono ?_); rintro e w3 ⟨rfl, b3⟩; replace b3 := bel_trans b2 b3; have cP3 := cP _ b3))
    | (go_at_call 16; ((with_reducible refine cP3.mono ?_); rintro e w4 ⟨⟨pa, pc, rfl⟩, b4⟩; replace b4 := bel_trans b3 b4))
    | (go_at_call 16; ((with_reducible refine (pN _).mono ?_); rintro e w5 ⟨⟨qa, qc, rfl⟩, b5⟩; replace b5 := bel_trans b4 b5))
    | (go_at_call 9; ((with_reducible refine (cg _).mono ?_); rintro e w6 ⟨rfl, b6⟩; replace b6 := bel_trans b5 b6)))
  go_ret
  exact ⟨rfl, b6⟩
set_option maxRecDepth 100000 in
set_option maxHeartbeats 4000000 in
theorem finds_FR (e : Int) (s : ByteArray) (w : World) (hs : s.size ≤ 200) (hE : ETab w) :
    Calls Tryd.prog 5 #[.int .i64 e, .string s, .bool true, .bool true] w fun e w' => e = .returned (.bool true) ∧ Below w.heap.size w w' := by
  have K : Kind 22 (.pointer none) := kindF0
  have cg := goes_any
  have cN := find_nil
  have pN := parts_nil
  have wN := fun w => within_nil s w
  obtain ⟨W1, hW1⟩ : ∃ W1, w.alloc (.cells #[.string s, .iface 22 (.pointer none)] 58) = W1 := ⟨_, rfl⟩
  have cI := within_any 22 (.pointer none) s w
  rw [hW1] at cI
  have B1 : Below w.heap.size w W1 := by rw [← hW1]; exact bw w _
  have hsz : w.heap.size < W1.heap.size := by rw [← hW1]; simp
  have k0 : W1.cell? ⟨w.heap.size, 0, none⟩ = some (.string s) := by rw [← hW1, World.cell?_alloc_at _ _ _ _ (by simp)]; rfl
  have k1 : W1.cell? ⟨w.heap.size, 1, none⟩ = some (.iface 22 (.pointer none)) := by rw [← hW1, World.cell?_alloc_at _ _ _ _ (by simp)]; rfl
  have cF := K.findR w.heap.size W1 (hE.below B1) hsz k1
  have cP : ∀ W, Below W1.heap.size W1 W → Calls Tryd.prog 16 #[.iface 40 (wrapV w.heap.size)] W fun e w' => (∃ a c, e = .returned (.slice a 1 c)) ∧ Below W.heap.size W w' := fun W hB =>
    parts_R 22 (.pointer none) w.heap.size s W (Nat.lt_of_lt_of_le hsz hB.size) ((hB.cell (p := ⟨_, 0, none⟩) hsz).trans k0) ((hB.cell (p := ⟨_, 1, none⟩) hsz).trans k1) K.no K.un
  clear K hE k0 k1 hW1
  go_enter Tryd.func5, Tryd.ntmps5
  go_wp2_with (first
    | (go_at_call 12; ((with_reducible refine cI.mono ?_); rintro e w1 ⟨rfl, rfl⟩))
    | (go_at_call 12; ((with_reducible refine (wN _).mono ?_); rintro e w1 ⟨rfl, rfl⟩))
    | (go_at_call 14; ((with_reducible refine cF.mono ?_); rintro e w2 ⟨rfl, b2⟩))
    | (go_at_call 14; ((with_reducible refine (cN _).mono ?_); rintro e w3 ⟨rfl, b3⟩; replace b3 := bel_trans b2 b3; have cP3 := cP _ b3))
    | (go_at_call 16; ((with_reducible refine cP3.mono ?_); rintro e w4 ⟨⟨pa, pc, rfl⟩, b4⟩; replace b4 := bel_trans b3 b4))
    | (go_at_call 16; ((with_reducible refine (pN _).mono ?_); rintro e w5 ⟨⟨qa, qc, rfl⟩, b5⟩; replace b5 := bel_trans b4 b5))
    | (go_at_call 9; ((with_reducible refine (cg _).mono ?_); rintro e w6 ⟨rfl, b6⟩; replace b6 := bel_trans b5 b6)))
  go_ret
  exact ⟨rfl, B1.trans (b6.mono B1.size)⟩
set_option maxRecDepth 100000 in
set_option maxHeartbeats 4000000 in
theorem finds_LR (e : Int) (s : ByteArray) (w : World) (hs : s.size ≤ 200) (hE : ETab w) :
    Calls Tryd.prog 5 #[.int .i64 0, .string s, .bool false, .bool true] w fun e w' => e = .returned (.bool true) ∧ Below w.heap.size w w' := by
  have K : Kind 48 (.agg #[]) := kindL _
  have cg := goes_any
  have cN := find_nil
  have pN := parts_nil
  have wN := fun w => within_nil s w
  obtain ⟨W1, hW1⟩ : ∃ W1, w.alloc (.cells #[.string s, .iface 48 (.agg #[])] 58) = W1 := ⟨_, rfl⟩
  have cI := within_any 48 (.agg #[]) s w
  rw [hW1] at cI
  have B1 : Below w.heap.size w W1 := by rw [← hW1]; exact bw w _
  have hsz : w.heap.size < W1.heap.size := by rw [← hW1]; simp
  have k0 : W1.cell? ⟨w.heap.size, 0, none⟩ = some (.string s) := by rw [← hW1, World.cell?_alloc_at _ _ _ _ (by simp)]; rfl
  have k1 : W1.cell? ⟨w.heap.size, 1, none⟩ = some (.iface 48 (.agg #[])) := by rw [← hW1, World.cell?_alloc_at _ _ _ _ (by simp)]; rfl
  have cF := K.findR w.heap.size W1 (hE.below B1) hsz k1
  have cP : ∀ W, Below W1.heap.size W1 W → Calls Tryd.prog 16 #[.iface 40 (wrapV w.heap.size)] W fun e w' => (∃ a c, e = .returned (.slice a 1 c)) ∧ Below W.heap.size W w' := fun W hB =>
    parts_R 48 (.agg #[]) w.heap.size s W (Nat.lt_of_lt_of_le hsz hB.size) ((hB.cell (p := ⟨_, 0, none⟩) hsz).trans k0) ((hB.cell (p := ⟨_, 1, none⟩) hsz).trans k1) K.no K.un
  clear K hE k0 k1 hW1
  go_enter Tryd.func5, Tryd.ntmps5
  go_wp2_with (first
    | (go_at_call 12; ((with_reducible refine cI.mono ?_); rintro e w1 ⟨rfl, rfl⟩))
    | (go_at_call 12; ((with_reducible refine (wN _).mono ?_); rintro e w1 ⟨rfl, rfl⟩))
    | (go_at_call 14; ((with_reducible refine cF.mono ?_); rintro e w2 ⟨rfl, b2⟩))
    | (go_at_call 14; ((with_reducible refine (cN _).mono ?_); rintro e w3 ⟨rfl, b3⟩; replace b3 := bel_trans b2 b3; have cP3 := cP _ b3))
    | (go_at_call 16; ((with_reducible refine cP3.mono ?_); rintro e w4 ⟨⟨pa, pc, rfl⟩, b4⟩; replace b4 := bel_trans b3 b4))
    | (go_at_call 16; ((with_reducible refine (pN _).mono ?_); rintro e w5 ⟨⟨qa, qc, rfl⟩, b5⟩; replace b5 := bel_trans b4 b5))
    | (go_at_call 9; ((with_reducible refine (cg _).mono ?_); rintro e w6 ⟨rfl, b6⟩; replace b6 := bel_trans b5 b6)))
  go_ret
  exact ⟨rfl, B1.trans (b6.mono B1.size)⟩
set_option maxRecDepth 100000 in
set_option maxHeartbeats 4000000 in
theorem finds_ER (e : Int) (s : ByteArray) (w : World) (hs : s.size ≤ 200) (hE : ETab w) (he : e ≠ 0) :
    Calls Tryd.prog 5 #[.int .i64 e, .string s, .bool false, .bool true] w fun e w' => e = .returned (.bool true) ∧ Below w.heap.size w w' := by
  have K : Kind 26 (.int .i64 e) := kindE _
  have cg := goes_any
  have cN := find_nil
  have pN := parts_nil
  have wN := fun w => within_nil s w
  have hb0 : (e == 0) = false := by simp; omega
  obtain ⟨W1, hW1⟩ : ∃ W1, w.alloc (.cells #[.string s, .iface 26 (.int .i64 e)] 58) = W1 := ⟨_, rfl⟩
  have cI := within_any 26 (.int .i64 e) s w
  rw [hW1] at cI
  have B1 : Below w.heap.size w W1 := by rw [← hW1]; exact bw w _
  have hsz : w.heap.size < W1.heap.size := by rw [← hW1]; simp
  have k0 : W1.cell? ⟨w.heap.size, 0, none⟩ = some (.string s) := by rw [← hW1, World.cell?_alloc_at _ _ _ _ (by simp)]; rfl
  have k1 : W1.cell? ⟨w.heap.size, 1, none⟩ = some (.iface 26 (.int .i64 e)) := by rw [← hW1, World.cell?_alloc_at _ _ _ _ (by simp)]; rfl
  have cF := K.findR w.heap.size W1 (hE.below B1) hsz k1
  have cP : ∀ W, Below W1.heap.size W1 W → Calls Tryd.prog 16 #[.iface 40 (wrapV w.heap.size)] W fun e w' => (∃ a c, e = .returned (.slice a 1 c)) ∧ Below W.heap.size W w' := fun W hB =>
    parts_R 26 (.int .i64 e) w.heap.size s W (Nat.lt_of_lt_of_le hsz hB.size) ((hB.cell (p := ⟨_, 0, none⟩) hsz).trans k0) ((hB.cell (p := ⟨_, 1, none⟩) hsz).trans k1) K.no K.un
  clear K hE k0 k1 hW1
  go_enter Tryd.func5, Tryd.ntmps5
  go_wp2_with (first
    | (go_at_call 12; ((with_reducible refine cI.mono ?_); rintro e w1 ⟨rfl, rfl⟩))
    | (go_at_call 12; ((with_reducible refine (wN _).mono ?_); rintro e w1 ⟨rfl, rfl⟩))
    | (go_at_call 14; ((with_reducible refine cF.mono ?_); rintro e w2 ⟨rfl, b2⟩))
    | (go_at_call 14; ((with_reducible refine (cN _).mono ?_); rintro e w3 ⟨rfl, b3⟩; replace b3 := bel_trans b2 b3; have cP3 := cP _ b3))
    | (go_at_call 16; ((with_reducible refine cP3.mono ?_); rintro e w4 ⟨⟨pa, pc, rfl⟩, b4⟩; replace b4 := bel_trans b3 b4))
    | (go_at_call 16; ((with_reducible refine (pN _).mono ?_); rintro e w5 ⟨⟨qa, qc, rfl⟩, b5⟩; replace b5 := bel_trans b4 b5))
    | (go_at_call 9; ((with_reducible refine (cg _).mono ?_); rintro e w6 ⟨rfl, b6⟩; replace b6 := bel_trans b5 b6)))
  go_ret
  exact ⟨rfl, B1.trans (b6.mono B1.size)⟩
theorem finds_walk (e : Int) (s : ByteArray) (nils wr : Bool) (w : World) (_h0 : -9223372036854775808 ≤ e) (_h1 : e ≤ 9223372036854775807) (hs : s.size ≤ 9223372036854775807) (hE : ETab w) :
    Calls Tryd.prog 5 #[.int .i64 e, .string s, .bool nils, .bool wr] w fun e w' => e = .returned (.bool true) ∧ Below w.heap.size w w' := by
  by_cases hbig : 200 < (s.size : Int)
  · have cg := goes_any
    clear hE
    go_enter Tryd.func5, Tryd.ntmps5
    go_wp2_with (go_at_call 9; ((with_reducible refine (cg _).mono ?_); rintro e w1 ⟨rfl, hb1⟩))
    go_ret
    exact ⟨rfl, hb1⟩
  · have h2 : s.size ≤ 200 := by omega
    by_cases he : e = 0
    · subst he
      cases nils <;> cases wr
      · exact finds_L 0 s w h2 hE
      · exact finds_LR 0 s w h2 hE
      · exact finds_F 0 s w h2 hE
      · exact finds_FR 0 s w h2 hE
    · cases nils <;> cases wr
      · exact finds_E e s w h2 hE he
      · exact finds_ER e s w h2 hE he
      · exact finds_F e s w h2 hE
      · exact finds_FR e s w h2 hE
end Go.Proofs.YthhdhhebelmimaaDoor.Flt
