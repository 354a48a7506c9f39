/-
  What is proved: the chapter's example of layer 13.
-/
import Derived.Test.YtacncbkcnhlpcaaZWlJ
import Derived.Test.YtacncbkcnhlpcaaWP
namespace Go.Proofs.Ytacncbkcnhlpcaa.Wl
open Go.RowKit L T C
open Sgn (SlG Fm Core cores)
set_option linter.unusedVariables false
set_option linter.unusedSimpArgs false
set_option maxRecDepth 100000

def gx : Tm := .mk 1 ⟨#[120]⟩ 0 []
def gt : Tm := .mk 3 ⟨#[102]⟩ 0 [gx]
def gK : List Core := [(⟨#[102]⟩, [⟨#[65]⟩], ⟨#[65]⟩)]
theorem g_one : tinW gK [(⟨#[120]⟩, ⟨#[66]⟩)] [] gt = .bad 11 [0] := by
  have h : rightE gt = 0 := by decide
  unfold tinW
  rw [if_neg (by rw [h]; simp)]
  simp [gt, gx, gK, wlT, wlTs, opW, sortV, askW, diff, Wr.ok, Wr.bad, Sgn.hasN, Sgn.findC, Sgn.idxK, List.findIdx_cons, sBool, ByteArray.toList_eq]
theorem g_two : tinW gK [(⟨#[120]⟩, ⟨#[65]⟩)] [] gt = .ok ⟨#[65]⟩ := by
  have h : rightE gt = 0 := by decide
  unfold tinW
  rw [if_neg (by rw [h]; simp)]
  simp [gt, gx, gK, wlT, wlTs, opW, sortV, askW, diff, Wr.ok, Wr.bad, Sgn.hasN, Sgn.findC, Sgn.idxK, List.findIdx_cons, sBool, ByteArray.toList_eq]
theorem setCell_same {w : World} {g i : Nat} {cs : Array Value} {t : TypeId} {v : Value} (h : w.heap[g]? = some (.cells cs t (0, 0))) (hv : cs.setIfInBounds i v = cs) : w.setCell ⟨g, i, none⟩ v = w := by
  have e : (w.setCell ⟨g, i, none⟩ v).heap = w.heap := by
    apply Array.ext_getElem?
    intro k
    by_cases hk : k = g
    · subst hk
      rw [heap_setCell_same w k i cs t v h, hv, h]
    · exact heap_setCell_other w ⟨g, i, none⟩ k v hk
  have : w.setCell ⟨g, i, none⟩ v = { w with heap := (w.setCell ⟨g, i, none⟩ v).heap } := rfl
  rw [this, e]
theorem blk_at {w : World} {g : Nat} (h : w.heap.size = g) (cs : Array Value) (t : TypeId) : Sgn.Blk (w.alloc (.cells cs t)) g cs t := h ▸ Sgn.Blk.new w cs t
/-- the example's signature and variable in memory -/
theorem g_mem (w : World) : ∃ W, ((((w.alloc (.cells #[.string ⟨#[65]⟩, .string ⟨#[66]⟩] 9)).alloc (.cells #[.string ⟨#[65]⟩] 9)).alloc (.cells #[.string ⟨#[102]⟩, .slice (some ⟨w.heap.size + 1, 0, none⟩) 1 1, .string ⟨#[65]⟩] 62)).alloc (.cells #[.slice (some ⟨w.heap.size, 0, none⟩) 2 2, .slice (some ⟨w.heap.size + 1 + 1, 0, none⟩) 1 1] 25)).alloc (.cells #[.int .i64 1, .string ⟨#[120]⟩, .int .i64 0, .slice none 0 0] 33) = W ∧ Below w.heap.size w W ∧ W.heap.size = w.heap.size + 5 ∧
    Sgn.Blk W (w.heap.size + 1) #[.string ⟨#[65]⟩] 9 ∧ Sgn.Blk W (w.heap.size + 1 + 1) #[.string ⟨#[102]⟩, .slice (some ⟨w.heap.size + 1, 0, none⟩) 1 1, .string ⟨#[65]⟩] 62 ∧ Sgn.Blk W (w.heap.size + 1 + 1 + 1) #[.slice (some ⟨w.heap.size, 0, none⟩) 2 2, .slice (some ⟨w.heap.size + 1 + 1, 0, none⟩) 1 1] 25 ∧ Sgn.Blk W (w.heap.size + 1 + 1 + 1 + 1) #[.int .i64 1, .string ⟨#[120]⟩, .int .i64 0, .slice none 0 0] 33 :=
  ⟨_, rfl, bel_alloc (bel_alloc (bel_alloc (bel_alloc (bel_alloc (Below.refl _ _) _) _) _) _) _, by simp, Sgn.Blk.alloc (Sgn.Blk.alloc (Sgn.Blk.alloc (blk_at (by simp) _ _) _) _) _, Sgn.Blk.alloc (Sgn.Blk.alloc (blk_at (by simp) _ _) _) _, Sgn.Blk.alloc (blk_at (by simp) _ _) _, blk_at (by simp) _ _⟩
def gF (g : Nat) : Fm := ⟨⟨#[102]⟩, some ⟨g + 1, 0, none⟩, 1, 1, [⟨#[65]⟩], ⟨#[65]⟩⟩
theorem g_sl {W : World} {g : Nat} (h1 : Sgn.Blk W (g + 1) #[.string ⟨#[65]⟩] 9) (h2 : Sgn.Blk W (g + 1 + 1) #[.string ⟨#[102]⟩, .slice (some ⟨g + 1, 0, none⟩) 1 1, .string ⟨#[65]⟩] 62) : SlG W (some ⟨g + 1 + 1, 0, none⟩) 1 1 [gF g] := by
  refine ⟨⟨rfl, fun _ => ⟨g + 1 + 1, 0, rfl, Sgn.Blk.lt h2, fun i hi => ?_⟩, fun f hf => ?_⟩, Nat.le_refl _, fun h => by cases h⟩
  · match i, hi with
    | 0, _ => exact ⟨Sgn.Blk.cell h2 0, Sgn.Blk.cell h2 1, Sgn.Blk.cell h2 2⟩
  · simp only [List.mem_singleton] at hf
    subst hf
    refine ⟨⟨rfl, fun _ => ⟨g + 1, 0, rfl, Sgn.Blk.lt h1, fun i hi => ?_⟩⟩, Nat.le_refl _, fun h => by cases h⟩
    match i, hi with
    | 0, _ => exact Sgn.Blk.cell h1 0
theorem g_var {W : World} {g : Nat} {x y : ByteArray} (h : Sgn.Blk W g #[.string x, .string y] 64) : IsV W (some ⟨g, 0, none⟩) 1 [(x, y)] := by
  refine ⟨rfl, fun _ => ⟨g, 0, rfl, Sgn.Blk.lt h, fun i hi => ?_⟩⟩
  match i, hi with
  | 0, _ => exact ⟨Sgn.Blk.cell h 0, Sgn.Blk.cell h 1⟩
theorem g_ts {W : World} {g : Nat} (h : Sgn.Blk W g #[.int .i64 1, .string ⟨#[120]⟩, .int .i64 0, .slice none 0 0] 33) : ArW W gt (some ⟨g, 0, none⟩) 1 1 := by
  unfold ArW gt
  rw [Ar]
  refine ⟨rfl, Nat.le_refl _, by unfold maxLen; omega, (fun h => by cases h), fun _ => ⟨g, 0, rfl, Sgn.Blk.lt h, ?_⟩⟩
  rw [Rw]
  refine ⟨⟨none, 0, 0, Sgn.Blk.cell h 0, Sgn.Blk.cell h 1, Sgn.Blk.cell h 2, Sgn.Blk.cell h 3, ?_⟩, by rw [Rw]; trivial⟩
  unfold gx
  rw [Ar]
  exact ⟨rfl, Nat.le_refl _, Nat.zero_le _, fun _ => rfl, fun h => absurd h (by omega)⟩
/-- the example's call in memory that has what g_mem has -/
theorem g_call (w W : World) (B1 : Sgn.Blk W (w.heap.size + 1) #[.string ⟨#[65]⟩] 9) (B2 : Sgn.Blk W (w.heap.size + 1 + 1) #[.string ⟨#[102]⟩, .slice (some ⟨w.heap.size + 1, 0, none⟩) 1 1, .string ⟨#[65]⟩] 62) (so : ByteArray) (w' : World) (h : Below W.heap.size W w') :
    Calls Try.prog 14 #[.agg #[.slice (some ⟨w.heap.size, 0, none⟩) 2 2, .slice (some ⟨w.heap.size + 1 + 1, 0, none⟩) 1 1], .slice (some ⟨w'.heap.size, 0, none⟩) 1 1, .agg #[.int .i64 3, .string ⟨#[102]⟩, .int .i64 0, .slice (some ⟨w'.heap.size + 1, 0, none⟩) 1 1]] ((w'.alloc (.cells #[.string ⟨#[120]⟩, .string so] 64)).alloc (.cells #[.int .i64 1, .string ⟨#[120]⟩, .int .i64 0, .slice none 0 0] 33))
      (TmP (tinW gK [(⟨#[120]⟩, so)] [] gt) [] ((w'.alloc (.cells #[.string ⟨#[120]⟩, .string so] 64)).alloc (.cells #[.int .i64 1, .string ⟨#[120]⟩, .int .i64 0, .slice none 0 0] 33))) := by
  have hb : Below W.heap.size W ((w'.alloc (.cells #[.string ⟨#[120]⟩, .string so] 64)).alloc (.cells #[.int .i64 1, .string ⟨#[120]⟩, .int .i64 0, .slice none 0 0] 33)) := bel_alloc (bel_alloc h _) _
  have hV : Sgn.Blk ((w'.alloc (.cells #[.string ⟨#[120]⟩, .string so] 64)).alloc (.cells #[.int .i64 1, .string ⟨#[120]⟩, .int .i64 0, .slice none 0 0] 33)) w'.heap.size #[.string ⟨#[120]⟩, .string so] 64 := Sgn.Blk.alloc (Sgn.Blk.new _ _ _) _
  have hT : Sgn.Blk ((w'.alloc (.cells #[.string ⟨#[120]⟩, .string so] 64)).alloc (.cells #[.int .i64 1, .string ⟨#[120]⟩, .int .i64 0, .slice none 0 0] 33)) (w'.heap.size + 1) #[.int .i64 1, .string ⟨#[120]⟩, .int .i64 0, .slice none 0 0] 33 := blk_at (by simp) _ _
  exact Term13_any (some ⟨w.heap.size, 0, none⟩) 2 2 (some ⟨w.heap.size + 1 + 1, 0, none⟩) 1 1 [gF w.heap.size] _ 1 1 [(⟨#[120]⟩, so)] gt _ 1 1 _ (g_sl (B1.belowAll hb) (B2.belowAll hb)) (by omega) (fun C hC => by simp [cores, gF, Fm.core] at hC; subst hC; simp) (g_var hV) (by omega) (by decide) (g_ts hT)
set_option maxHeartbeats 8000000 in
theorem goes_any (w : World) : Calls Try.prog 11 #[] w fun e w' => e = .returned (.bool true) ∧ Below w.heap.size w w' := by
  obtain ⟨W, hW, hB, hs, B1, B2, B3, B4⟩ := g_mem w
  have c1 := g_call w W B1 B2 ⟨#[66]⟩
  have c2 := g_call w W B1 B2 ⟨#[65]⟩
  rw [g_one] at c1
  rw [g_two] at c2
  have c1 : ∀ w', Below W.heap.size W w' → Calls Try.prog 14 #[.agg #[.slice (some ⟨w.heap.size, 0, none⟩) 2 2, .slice (some ⟨w.heap.size + 1 + 1, 0, none⟩) 1 1], .slice (some ⟨w'.heap.size, 0, none⟩) 1 1, .agg #[.int .i64 3, .string ⟨#[102]⟩, .int .i64 0, .slice (some ⟨w'.heap.size + 1, 0, none⟩) 1 1]] ((w'.alloc (.cells #[.string ⟨#[120]⟩, .string ⟨#[66]⟩] 64)).alloc (.cells #[.int .i64 1, .string ⟨#[120]⟩, .int .i64 0, .slice none 0 0] 33)) fun e w1 => ∃ A C, e = .returned (.tuple #[.string ⟨#[]⟩, .slice A 1 C, .int .i64 11]) ∧ SlI w1 A 1 C [0] ∧ Below w'.heap.size w' w1 := fun w' h => (c1 w' h).mono fun e w1 ⟨A, N, C, h1, h2, h3⟩ => by
    have h2 : SlI w1 A N C [0] := h2
    obtain rfl : N = 1 := h2.1
    exact ⟨A, C, h1, h2, bel_trans (bel_alloc (bel_alloc (Below.refl _ _) _) _) h3⟩
  have c2 : ∀ w', Below W.heap.size W w' → Calls Try.prog 14 #[.agg #[.slice (some ⟨w.heap.size, 0, none⟩) 2 2, .slice (some ⟨w.heap.size + 1 + 1, 0, none⟩) 1 1], .slice (some ⟨w'.heap.size, 0, none⟩) 1 1, .agg #[.int .i64 3, .string ⟨#[102]⟩, .int .i64 0, .slice (some ⟨w'.heap.size + 1, 0, none⟩) 1 1]] ((w'.alloc (.cells #[.string ⟨#[120]⟩, .string ⟨#[65]⟩] 64)).alloc (.cells #[.int .i64 1, .string ⟨#[120]⟩, .int .i64 0, .slice none 0 0] 33)) fun e w1 => ∃ A C, e = .returned (.tuple #[.string ⟨#[65]⟩, .slice A 0 C, .int .i64 0]) ∧ Below w'.heap.size w' w1 := fun w' h => (c2 w' h).mono fun e w1 ⟨A, N, C, h1, h2, h3⟩ => by
    have h2 : SlI w1 A N C [] := h2
    obtain rfl : N = 0 := h2.1
    exact ⟨A, C, h1, bel_trans (bel_alloc (bel_alloc (Below.refl _ _) _) _) h3⟩
  have cI : ∀ A C w', SlI w' A 1 C [0] → Calls Try.prog 16 #[.slice A 1 C, .slice (some ⟨w'.heap.size, 0, none⟩) 1 1] (w'.alloc (.cells #[.int .i64 0] 3)) fun e w1 => e = .returned (.bool true) ∧ Below w'.heap.size w' w1 := fun A C w' h =>
    (Ints_any A 1 C [0] (some ⟨w'.heap.size, 0, none⟩) 1 1 [0] (w'.alloc (.cells #[.int .i64 0] 3)) (h.below (bel_alloc (Below.refl _ _) _))
      ⟨rfl, Nat.le_refl _, (fun h => by cases h), fun _ => ⟨w'.heap.size, 0, rfl, Sgn.Blk.lt (Sgn.Blk.new w' #[.int .i64 0] 3), fun i hi => by
        match i, hi with
        | 0, _ => exact Sgn.Blk.cell (Sgn.Blk.new w' #[.int .i64 0] 3) 0⟩⟩ (by omega)).mono fun e w1 ⟨h1, h2⟩ => ⟨by rw [h1]; rfl, bel_trans (bel_alloc (Below.refl _ _) _) h2⟩
  have HK : ∀ w', Below W.heap.size W w' → (w'.cell? ⟨w.heap.size + 1 + 1 + 1, 0, none⟩ = some (.slice (some ⟨w.heap.size, 0, none⟩) 2 2) ∧ w'.cell? ⟨w.heap.size + 1 + 1 + 1, 1, none⟩ = some (.slice (some ⟨w.heap.size + 1 + 1, 0, none⟩) 1 1) ∧ w'.cell? ⟨w.heap.size + 1 + 1 + 1 + 1, 0, none⟩ = some (.int .i64 1) ∧ w'.cell? ⟨w.heap.size + 1 + 1 + 1 + 1, 1, none⟩ = some (.string ⟨#[120]⟩) ∧ w'.cell? ⟨w.heap.size + 1 + 1 + 1 + 1, 2, none⟩ = some (.int .i64 0) ∧ w'.cell? ⟨w.heap.size + 1 + 1 + 1 + 1, 3, none⟩ = some (.slice none 0 0)) := fun w' h =>
    ⟨Sgn.Blk.cell (B3.belowAll h) 0, Sgn.Blk.cell (B3.belowAll h) 1, Sgn.Blk.cell (B4.belowAll h) 0, Sgn.Blk.cell (B4.belowAll h) 1, Sgn.Blk.cell (B4.belowAll h) 2, Sgn.Blk.cell (B4.belowAll h) 3⟩
  obtain ⟨x0, x1, x2, x3, x4, x5⟩ := HK _ (Below.refl _ _)
  obtain ⟨y0, y1, y2, y3, y4, y5⟩ := HK (W.alloc (.cells #[.string ⟨#[120]⟩, .string ⟨#[66]⟩] 64)) (bel_alloc (Below.refl _ _) _)
  have Hs := Lib.hid hs
  have Hb := Lib.hid hB
  have q1 : ((⟨#[65]⟩ : ByteArray).toList == [65]) = true := by rw [ByteArray.toList_eq]; rfl
  have q2 : ((⟨#[65]⟩ : ByteArray).toList = [65]) = True := by rw [ByteArray.toList_eq]; simp
  have z2 : W.setCell ⟨w.heap.size + 1 + 1 + 1 + 1, 2, none⟩ (.int .i64 0) = W := setCell_same B4 rfl
  have z3 : W.setCell ⟨w.heap.size + 1 + 1 + 1 + 1, 3, none⟩ (.slice none 0 0) = W := setCell_same B4 rfl
  have z4 := Sgn.Blk.free B4 2
  have z5 := Sgn.Blk.free B4 3
  clear hs hB B1 B2 B3 B4
  go_enter Try.func11, Try.ntmps11
  go_wp2_with (first
    | (go_at_call 14; ((with_reducible refine (c1 _ (Below.refl _ _)).mono ?_); rintro e w3 ⟨A3, C3, rfl, hI3, hb3⟩; have z := HK _ hb3; obtain ⟨x0, x1, x2, x3, x4, x5⟩ := z; have z := HK (w3.alloc (.cells #[.string ⟨#[120]⟩, .string ⟨#[65]⟩] 64)) (bel_alloc hb3 _); obtain ⟨y0, y1, y2, y3, y4, y5⟩ := z))
    | (go_at_call 14; ((with_reducible refine (c2 _ hb3).mono ?_); rintro e w4 ⟨A4, C4, rfl, hb4⟩; have hI4 := hI3.below hb4))
    | (go_at_call 16; ((with_reducible refine (cI _ _ _ hI4).mono ?_); rintro e w5 ⟨rfl, hb5⟩)))
  go_ret
  exact ⟨rfl, bel_trans Hb.out (bel_trans hb3 (bel_trans hb4 hb5))⟩
end Go.Proofs.Ytacncbkcnhlpcaa.Wl
