/-
  What is proved: the first of a list of faults.
-/
import Derived.Test.YthhdhhebelmimaaFltC
import Derived.Laws.StructEq
namespace Go.Proofs.Ythhdhhebelmimaa.Flt
open Go.RowKit
set_option linter.unusedVariables false
set_option linter.unusedSimpArgs false

abbrev St := Int × Int × Bool
def stepF (st : St) (y : Int × Int) : St := if y.1 ≠ 0 ∧ (st.2.2 = false ∨ y.2 < st.2.1) then (y.1, y.2, true) else st
def foldF (Y : List (Int × Int)) : St := Y.foldl stepF (0, 0, false)
theorem foldF_nil : foldF [] = (0, 0, false) := rfl
theorem foldF_snoc (Y : List (Int × Int)) (k : Nat) (h : k < Y.length) : foldF (Y.take (k + 1)) = stepF (foldF (Y.take k)) Y[k] := by
  unfold foldF; rw [List.take_succ_eq_append_getElem h, List.foldl_append]; rfl

def RowF (w : World) (b o : Nat) (Y : List (Int × Int)) : Prop := ∀ i (h : i < Y.length), w.cell? ⟨b, o + i * 2, none⟩ = some (.int .i64 Y[i].1) ∧ w.cell? ⟨b, o + i * 2 + 1, none⟩ = some (.int .i64 Y[i].2)
def IsF (w : World) (a : Option Addr) (n : Nat) (Y : List (Int × Int)) : Prop := n = Y.length ∧ (0 < Y.length → ∃ b o, a = some ⟨b, o, none⟩ ∧ b < w.heap.size ∧ RowF w b o Y)
theorem RowF.below {w w' : World} {b o : Nat} {Y : List (Int × Int)} (h : RowF w b o Y) (hB : Below w.heap.size w w') (hb : b < w.heap.size) : RowF w' b o Y := fun i hi => by
  obtain ⟨h1, h2⟩ := h i hi
  exact ⟨(hB.cell hb).trans h1, (hB.cell hb).trans h2⟩

/-- a block that holds one fault -/
def FBlk (w : World) (g : Nat) (A B : Int) : Prop := w.heap[g]? = some (.cells #[.int .i64 A, .int .i64 B] 30 (0, 0))
theorem FBlk.lt {w : World} {g : Nat} {A B : Int} (h : FBlk w g A B) : g < w.heap.size := (Array.getElem?_eq_some_iff.1 h).1
theorem FBlk.c0 {w : World} {g : Nat} {A B : Int} (h : FBlk w g A B) : w.cell? ⟨g, 0, none⟩ = some (.int .i64 A) := by
  unfold FBlk at h; simp [World.cell?, h]
theorem FBlk.c1 {w : World} {g : Nat} {A B : Int} (h : FBlk w g A B) : w.cell? ⟨g, 1, none⟩ = some (.int .i64 B) := by
  unfold FBlk at h; simp [World.cell?, h]
theorem FBlk.free {w : World} {g : Nat} {A B : Int} (h : FBlk w g A B) (i : Nat) : w.frozen? ⟨g, i, none⟩ = false := by
  unfold FBlk at h; simp [World.frozen?, h]
theorem FBlk.alloc {w : World} {g : Nat} {A B : Int} (h : FBlk w g A B) (o : Obj) : FBlk (w.alloc o) g A B := (heap_alloc_old w o h.lt).trans h
theorem FBlk.put {w : World} {g : Nat} {A B : Int} (h : FBlk w g A B) (A' B' : Int) : FBlk ((w.setCell ⟨g, 0, none⟩ (.int .i64 A')).setCell ⟨g, 1, none⟩ (.int .i64 B')) g A' B' := by
  unfold FBlk at h ⊢
  simp [World.setCell, Array.getElem?_modify, h]

set_option maxHeartbeats 4000000 in
theorem first_some (b o c : Nat) (Y : List (Int × Int)) (w : World) (hn : Y.length ≤ 1000000) (hb : b < w.heap.size) (h : RowF w b o Y) :
    Calls Try.prog 10 #[.slice (some ⟨b, o, none⟩) Y.length c] w fun e w' => e = .returned (.tuple #[.agg #[.int .i64 (foldF Y).1, .int .i64 (foldF Y).2.1], .bool (foldF Y).2.2]) ∧ Below w.heap.size w w' := by
  have H := Lib.hid h
  clear h
  have F0 := Lib.hid foldF_nil
  have FS := Lib.hid (foldF_snoc Y)
  obtain ⟨R, hR⟩ : ∃ R, Hid (foldF Y = R) := ⟨_, rfl⟩
  have FE : Hid (foldF (Y.take Y.length) = R) := by rw [List.take_length]; exact hR
  rw [hR.out]
  clear hR
  go_enter Try.func10, Try.ntmps10
  go_wp2
  go_loopw [5, 10] (fun f i wr0 => ∃ (wr : World) (k : Nat) (A B : Int) (F : Bool), wr = wr0 ∧ k ≤ Y.length ∧ f = .bool F ∧ i = .int .i64 k ∧ Below w.heap.size w wr ∧ FBlk wr w.heap.size 0 0 ∧ FBlk wr (w.heap.size + 1) A B ∧ Hid (foldF (Y.take k) = (A, B, F))) (fun _ i _ => Y.length - (intOf i).toNat)
  case atStart =>
    refine ⟨_, 0, 0, 0, false, rfl, by omega, rfl, rfl, ((Below.refl _ _).alloc (Nat.le_refl _) _).alloc (by simp) _, ?_, ?_, by rw [List.take_zero]; exact F0.out⟩
    · exact (heap_alloc_old _ _ (by simp)).trans (heap_alloc_new _ _)
    · have := heap_alloc_new (w.alloc (.cells #[.int .i64 0, .int .i64 0] 30)) (.cells #[.int .i64 0, .int .i64 0] 30)
      simpa [FBlk] using this
  case round =>
    obtain ⟨wr, k, A, B, F, rfl, hk, rfl, rfl, hB, hG, hL, hF⟩ := hrel
    by_cases hlt : k < Y.length
    · have hrow := H.out k hlt
      have hst := FS.out k hlt
      rw [hF.out] at hst
      obtain ⟨p, q, hpq⟩ : ∃ p q, Y[k] = (p, q) := ⟨_, _, rfl⟩
      rw [hpq] at hrow hst
      have y0 : wr.cell? ⟨b, o + k * 2, none⟩ = some (.int .i64 p) := (hB.cell hb).trans hrow.1
      have y1 : wr.cell? ⟨b, o + k * 2 + 1, none⟩ = some (.int .i64 q) := (hB.cell hb).trans hrow.2
      have hk0 : 0 ≤ (k : Int) := by omega
      have hk1 : (k : Int) < (Y.length : Int) := by omega
      have HL := hL.alloc (.cells #[.int .i64 p, .int .i64 q] 30)
      have HG := hG.alloc (.cells #[.int .i64 p, .int .i64 q] 30)
      have hB2 := hB.alloc hB.size (.cells #[.int .i64 p, .int .i64 q] 30)
      have l0 := HL.c0
      have l1 := HL.c1
      have z0 := HL.free 0
      have z1 := HL.free 1
      have f0 : (wr.alloc (.cells #[.int .i64 p, .int .i64 q] 30)).cell? ⟨wr.heap.size, 0, none⟩ = some (.int .i64 p) := by simp
      have f1 : (wr.alloc (.cells #[.int .i64 p, .int .i64 q] 30)).cell? ⟨wr.heap.size, 1, none⟩ = some (.int .i64 q) := by simp
      clear hrow hpq H F0 FS FE hL hG
      have HF := Lib.hid hst
      clear hst hF
      obtain ⟨W1, hW1⟩ : ∃ W1, wr.alloc (.cells #[.int .i64 p, .int .i64 q] 30) = W1 := ⟨_, rfl⟩
      rw [hW1] at HL HG hB2 l0 l1 z0 z1 f0 f1
      by_cases hp : p = 0
      · subst hp
        have HF2 : Hid (foldF (Y.take (k + 1)) = (A, B, F)) := HF.out.trans (by simp [stepF])
        clear HF
        go_wp2
        go_roundw
        case rel => exact ⟨_, k + 1, A, B, F, rfl, by omega, rfl, by go_num, hB2, HG, HL, HF2⟩
        case measure => simp [intOf]; omega
      · have hpb : (p != 0) = true := by simpa using hp
        by_cases hf : F = false ∨ q < B
        · have HF2 : Hid (foldF (Y.take (k + 1)) = (p, q, true)) := HF.out.trans (by simp only [stepF]; rw [if_pos ⟨hp, hf⟩])
          have e1 := HL.put p q
          have e2 : FBlk ((W1.setCell ⟨w.heap.size + 1, 0, none⟩ (.int .i64 p)).setCell ⟨w.heap.size + 1, 1, none⟩ (.int .i64 q)) w.heap.size 0 0 := by
            unfold FBlk at HG ⊢
            rw [Below.heap_setCell _ _ _ _ (by simp), Below.heap_setCell _ _ _ _ (by simp)]; exact HG
          have e3 := (hB2.setCell (p := ⟨w.heap.size + 1, 0, none⟩) (by simp) (.int .i64 p)).setCell (p := ⟨w.heap.size + 1, 1, none⟩) (by simp) (.int .i64 q)
          clear HF HG HL
          cases F with
          | false =>
            clear hf
            go_wp2
            go_roundw
            case rel => exact ⟨_, k + 1, p, q, true, rfl, by omega, rfl, by go_num, e3, e2, e1, HF2⟩
            case measure => simp [intOf]; omega
          | true =>
            have hf2 : q < B := by simpa using hf
            clear hf
            go_wp2
            go_roundw
            case rel => exact ⟨_, k + 1, p, q, true, rfl, by omega, rfl, by go_num, e3, e2, e1, HF2⟩
            case measure => simp [intOf]; omega
        · have HF2 : Hid (foldF (Y.take (k + 1)) = (A, B, F)) := HF.out.trans (by simp only [stepF]; rw [if_neg (fun h => hf h.2)])
          clear HF
          have hFt : F = true := by cases F <;> simp_all
          subst hFt
          have hf2 : ¬ q < B := by simpa using hf
          clear hf
          go_wp2
          go_roundw
          case rel => exact ⟨_, k + 1, A, B, true, rfl, by omega, rfl, by go_num, hB2, HG, HL, HF2⟩
          case measure => simp [intOf]; omega
    · obtain rfl : k = Y.length := by omega
      have hres := hF.out.symm.trans FE.out
      have l0 := hL.c0
      have l1 := hL.c1
      have r0 := hG.c0
      have r1 := hG.c1
      have z0 := hG.free 0
      have z1 := hG.free 1
      have hres2 := Lib.hid hres
      have e1 := hG.put A B
      have x0 := e1.c0
      have x1 := e1.c1
      have e3 := (hB.setCell (p := ⟨w.heap.size, 0, none⟩) (by simp) (.int .i64 A)).setCell (p := ⟨w.heap.size, 1, none⟩) (by simp) (.int .i64 B)
      clear FE FS F0 H hF hres hG hL e1
      go_wp2
      obtain rfl := hres2.out
      simp [bodyPost, results, Try.results10, go_sem, x0, x1]
      exact e3
theorem first_none (a : Option Addr) (c : Nat) (w : World) :
    Calls Try.prog 10 #[.slice a 0 c] w fun e w' => e = .returned (.tuple #[.agg #[.int .i64 0, .int .i64 0], .bool false]) ∧ Below w.heap.size w w' := by
  go_enter Try.func10, Try.ntmps10
  go_wp2
  go_loopw [5, 10] (fun f i wr0 => ∃ (wr : World), wr = wr0 ∧ f = .bool false ∧ i = .int .i64 0 ∧ Below w.heap.size w wr ∧ FBlk wr w.heap.size 0 0 ∧ FBlk wr (w.heap.size + 1) 0 0) (fun _ i _ => 0)
  case atStart =>
    refine ⟨_, rfl, rfl, rfl, ((Below.refl _ _).alloc (Nat.le_refl _) _).alloc (by simp) _, ?_, ?_⟩
    · exact (heap_alloc_old _ _ (by simp)).trans (heap_alloc_new _ _)
    · have := heap_alloc_new (w.alloc (.cells #[.int .i64 0, .int .i64 0] 30)) (.cells #[.int .i64 0, .int .i64 0] 30)
      simpa [FBlk] using this
  case round =>
    obtain ⟨wr, rfl, rfl, rfl, hB, hG, hL⟩ := hrel
    have l0 := hL.c0
    have l1 := hL.c1
    have r0 := hG.c0
    have r1 := hG.c1
    have z0 := hG.free 0
    have z1 := hG.free 1
    have e1 := hG.put 0 0
    have x0 := e1.c0
    have x1 := e1.c1
    have e3 := (hB.setCell (p := ⟨w.heap.size, 0, none⟩) (by simp) (.int .i64 0)).setCell (p := ⟨w.heap.size, 1, none⟩) (by simp) (.int .i64 0)
    clear hG hL e1
    go_wp2
    simp [bodyPost, results, Try.results10, go_sem, x0, x1]
    exact e3
theorem first_any (a : Option Addr) (n c : Nat) (Y : List (Int × Int)) (w : World) (hn : n ≤ 1000000) (h : IsF w a n Y) :
    Calls Try.prog 10 #[.slice a n c] w fun e w' => e = .returned (.tuple #[.agg #[.int .i64 (foldF Y).1, .int .i64 (foldF Y).2.1], .bool (foldF Y).2.2]) ∧ Below w.heap.size w w' := by
  obtain ⟨rfl, h⟩ := h
  by_cases h0 : Y = []
  · subst h0
    exact first_none a c w
  · obtain ⟨b, o, rfl, hb, hr⟩ := h (List.length_pos_iff.2 h0)
    exact first_some b o c Y w hn hb hr
end Go.Proofs.Ythhdhhebelmimaa.Flt
