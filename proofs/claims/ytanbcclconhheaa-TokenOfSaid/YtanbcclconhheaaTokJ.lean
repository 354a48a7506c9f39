/-
  What is proved: what the two functions that put the texts of tokens together return.
-/
import Derived.Test.YtanbcclconhheaaTokH
import Derived.Laws.MakeOwn
namespace Go.Proofs.Ytanbcclconhheaa.Tok
open Go.RowKit
set_option linter.unusedVariables false
set_option linter.unusedSimpArgs false

/-- from an offset on, a block holds these tokens: kind, text, place -/
def RowY (w : World) (b o : Nat) (Y : List (Int × ByteArray × Int)) : Prop := ∀ i (h : i < Y.length),
  w.cell? ⟨b, o + i * 3, none⟩ = some (.int .i64 Y[i].1) ∧ w.cell? ⟨b, o + i * 3 + 1, none⟩ = some (.string Y[i].2.1) ∧ w.cell? ⟨b, o + i * 3 + 1 + 1, none⟩ = some (.int .i64 Y[i].2.2)
theorem RowY.below {w w' : World} {b o B : Nat} {Y : List (Int × ByteArray × Int)} (h : RowY w b o Y) (hb : Below B w w') (hlt : b < B) : RowY w' b o Y := fun i hi => by
  obtain ⟨h1, h2, h3⟩ := h i hi
  rw [hb.cell (p := ⟨b, _, none⟩) hlt, hb.cell (p := ⟨b, _, none⟩) hlt, hb.cell (p := ⟨b, _, none⟩) hlt]
  exact ⟨h1, h2, h3⟩
def txs (Y : List (Int × ByteArray × Int)) : List ByteArray := Y.map (·.2.1)
def tls (Y : List (Int × ByteArray × Int)) : List (List UInt8) := Y.map (·.2.1.data.toList)
theorem tls_txs (Y : List (Int × ByteArray × Int)) : (txs Y).map (·.data.toList) = tls Y := by simp [txs, tls]
def jn (Y : List (Int × ByteArray × Int)) : List UInt8 := Lib.join (tls Y) [32]

/-- a whole block of texts -/
def SBlk (w : World) (g : Nat) (C : Array Value) : Prop := w.heap[g]? = some (.cells C 9 (0, 0))
theorem SBlk.lt {w : World} {g : Nat} {C : Array Value} (h : SBlk w g C) : g < w.heap.size := (Array.getElem?_eq_some_iff.1 h).1
theorem SBlk.cell {w : World} {g : Nat} {C : Array Value} (h : SBlk w g C) (i : Nat) : w.cell? ⟨g, i, none⟩ = C[i]? := cell_of_row w g i C _ _ h
theorem SBlk.free {w : World} {g : Nat} {C : Array Value} (h : SBlk w g C) (i : Nat) : w.frozen? ⟨g, i, none⟩ = false := by
  unfold SBlk at h; simp [World.frozen?, h]
theorem SBlk.alloc {w : World} {g : Nat} {C : Array Value} (h : SBlk w g C) (o : Obj) : SBlk (w.alloc o) g C := (heap_alloc_old w o h.lt).trans h
theorem SBlk.put {w : World} {g : Nat} {C : Array Value} (h : SBlk w g C) (i : Nat) (u : Value) : SBlk (w.setCell ⟨g, i, none⟩ u) g (C.setIfInBounds i u) := by
  unfold SBlk at h ⊢
  simp [World.setCell, Array.getElem?_modify, h]

theorem str_info : (Try.prog.info? 9).map (fun i => (i.zero, i.size, i.bytes)) = some (some (.string ⟨#[]⟩), 1, 16) := by kernel_rfl
theorem make_strs (n : Nat) (hn : n ≤ 100000000) :
    ∃ C : Array Value, C.size = n ∧ ∀ w : World, (Instr.makeSlice 30 (.int .i64 (n : Int)) (.int .i64 (n : Int))).run Try.prog w = .ok (.slice (some ⟨w.heap.size, 0, none⟩) n n) (w.alloc (.cells C 9)) := by
  obtain ⟨i0, hi, hz0, hz1, hz2⟩ := info_parts str_info
  refine ⟨madeCells (Value.string ⟨#[]⟩).cells (n * 1), by simp [madeCells], fun w => ?_⟩
  · have hr := run_make (P := Try.prog) w 30 9 i0 (.string ⟨#[]⟩) Try.underlying30 hi hz0 .i64 .i64 n n (by omega) (by omega) (by rw [hz2]; omega) (by omega)
    simp only [Int.toNat_natCast, hz1] at hr
    exact hr

set_option maxHeartbeats 2000000 in
theorem Text_some (b o c : Nat) (Y : List (Int × ByteArray × Int)) (w : World) (hn : Y.length ≤ 100000000) (hr : RowY w b o Y) (hb : b < w.heap.size) (hj : (jn Y).length ≤ 140737488355328) :
    Calls Try.prog 20 #[.slice (some ⟨b, o, none⟩) Y.length c] w fun e w' => e = .returned (.string (BA (jn Y))) ∧ Below w.heap.size w w' := by
  obtain ⟨C0, hC0, hmk⟩ := make_strs Y.length hn
  have Hr := Lib.hid hr
  have HC0 := Lib.hid hC0
  clear hr hC0
  go_enter Try.func20, Try.ntmps20
  go_wp2
  go_loopw [11] (fun i wr0 => ∃ (wr : World) (k : Nat) (C : Array Value), wr = wr0 ∧ k ≤ Y.length ∧ i = .int .i64 k ∧ Below w.heap.size w wr ∧ SBlk wr w.heap.size C ∧ Hid (C.size = Y.length) ∧ Hid (∀ j (h : j < Y.length), j < k → C[j]? = some (.string Y[j].2.1))) (fun i _ => Y.length - (intOf i).toNat)
  case atStart => exact ⟨_, 0, C0, rfl, by omega, rfl, bel_alloc (Below.refl _ _) _, heap_alloc_new w _, HC0, Lib.hid (fun j _ h => absurd h (by omega))⟩
  case round =>
    obtain ⟨wr, k, C, rfl, hk, rfl, hB, hS, hCs, hCk⟩ := hrel
    by_cases hlt : k < Y.length
    · obtain ⟨y1, y2, y3⟩ := Hr.out.below hB hb k hlt
      have hu : C[k]? = some (C[k]'(by rw [hCs.out]; exact hlt)) := Array.getElem?_eq_getElem _
      generalize C[k]'(by rw [hCs.out]; exact hlt) = u at *
      have hlt2 := hS.lt
      have s1 : wr.cell? ⟨w.heap.size, k, none⟩ = some u := (hS.cell k).trans hu
      have s2 : wr.frozen? ⟨w.heap.size, k, none⟩ = false := hS.free k
      have hnew : Hid (∀ j (h : j < Y.length), j < k + 1 → (C.setIfInBounds k (.string Y[k].2.1))[j]? = some (.string Y[j].2.1)) := by
        intro j h hj
        rw [Array.getElem?_setIfInBounds]
        by_cases e : k = j
        · subst e; rw [if_pos rfl, if_pos (by rw [hCs.out]; exact hlt)]
        · rw [if_neg e]; exact hCk.out j h (by omega)
      have hCs2 : Hid ((C.setIfInBounds k (.string Y[k].2.1)).size = Y.length) := by show _ = _; rw [Array.size_setIfInBounds]; exact hCs.out
      have HS := Lib.hid hS
      clear hu hS hCk hCs
      go_wp2
      go_roundw
      case rel => exact ⟨_, k + 1, _, rfl, by omega, by go_num, bel_alloc (hB.setCell (by simp) _) _, (HS.out.put k _).alloc _, hCs2, hnew⟩
      case measure => simp [intOf]; omega
    · have hkk : k = Y.length := by omega
      subst hkk
      have hcells : ∀ (j : Nat) x, (txs Y)[j]? = some x → wr.cell? ⟨w.heap.size, 0 + j, none⟩ = some (.string x) := by
        intro j x hx
        obtain ⟨hj, rfl⟩ := List.getElem?_eq_some_iff.1 hx
        have hj2 : j < Y.length := by simpa [txs] using hj
        rw [Nat.zero_add, hS.cell j, hCk.out j hj2 hj2]
        simp [txs]
      have hlen : (txs Y).length = Y.length := by simp [txs]
      have cj := Try.strings_Join w.heap.size 0 Y.length (txs Y) ⟨#[32]⟩ wr hcells hS.lt (by rw [hlen]; omega) (by rw [hlen]; omega) (by rw [tls_txs]; exact hj)
      rw [hlen, tls_txs] at cj
      have cj : Calls Try.prog 30 #[.slice (some ⟨w.heap.size, 0, none⟩) Y.length Y.length, .string ⟨#[32]⟩] wr fun e w' => e = .returned (.string (BA (jn Y))) ∧ Below wr.heap.size wr w' := cj
      clear hcells hlen hCk hCs
      go_wp2_with (go_at_call 30; ((with_reducible refine cj.mono ?_); rintro e w1 ⟨rfl, hb1⟩))
      go_ret
      exact ⟨rfl, bel_trans hB hb1⟩

/-- no token: the empty text, wherever the slice lies -/
theorem Text_none (a : Option Addr) (c : Nat) (w : World) :
    Calls Try.prog 20 #[.slice a 0 c, ] w fun e w' => e = .returned (.string ⟨#[]⟩) ∧ Below w.heap.size w w' := by
  obtain ⟨C0, hC0, hmk⟩ := make_strs 0 (by omega)
  have hmk : ∀ w : World, (Instr.makeSlice 30 (.int .i64 0) (.int .i64 0)).run Try.prog w = .ok (.slice (some ⟨w.heap.size, 0, none⟩) 0 0) (w.alloc (.cells C0 9)) := hmk
  have cj : ∀ (g : Nat) (w : World), Calls Try.prog 30 #[.slice (some ⟨g, 0, none⟩) 0 0, .string ⟨#[32]⟩] w fun e w' => e = .returned (.string ⟨#[]⟩) ∧ w = w' := fun g w =>
    (Try.strings_Join_none (some ⟨g, 0, none⟩) 0 ⟨#[32]⟩ w).mono fun e w' ⟨h, hw⟩ => ⟨h, hw.symm⟩
  clear hC0
  go_enter Try.func20, Try.ntmps20
  go_wp2
  go_loop [11] (fun i => i = .int .i64 0) (fun i => 0)
  case atStart => rfl
  case round =>
    obtain rfl := hrel
    go_wp2_with (go_at_call 30; ((with_reducible refine (cj _ _).mono ?_); rintro e w1 ⟨rfl, rfl⟩))
    go_ret
    exact ⟨rfl, bel_alloc (Below.refl _ _) _⟩

theorem join_snoc (X : List (List UInt8)) (x : List UInt8) : Lib.join (X ++ [x]) [32] = if X = [] then x else Lib.join X [32] ++ [32] ++ x := by
  cases X with
  | nil => simp [Lib.join_one]
  | cons a X => simp [Lib.join_cons, Lib.joinTail]

theorem join_take (X : List (List UInt8)) (k : Nat) : (Lib.join (X.take k) [32]).length ≤ (Lib.join X [32]).length := by
  cases X with
  | nil => simp
  | cons a X =>
    cases k with
    | zero => simp [Lib.join]
    | succ k =>
      rw [List.take_succ_cons, Lib.join_cons, Lib.join_cons]
      have e : Lib.joinTail [32] X = Lib.joinTail [32] (X.take k) ++ Lib.joinTail [32] (X.drop k) := by
        simp only [Lib.joinTail]; rw [← List.flatten_append, ← List.map_append, List.take_append_drop]
      rw [e]
      simp
theorem BA_eq {x : ByteArray} {l : List UInt8} (h : x.data.toList = l) : x = BA l := by rw [← h]; rfl
theorem app_list (x y : ByteArray) : (x ++ y).data.toList = x.data.toList ++ y.data.toList := by simp [ByteArray.data_append]

set_option maxHeartbeats 2000000 in
theorem refText_some (b o c : Nat) (Y : List (Int × ByteArray × Int)) (w : World) (hn : Y.length ≤ 100000000) (hr : RowY w b o Y) (hb : b < w.heap.size) (hj : (jn Y).length ≤ 140737488355328) :
    Calls Try.prog 21 #[.slice (some ⟨b, o, none⟩) Y.length c] w fun e w' => e = .returned (.string (BA (jn Y))) ∧ Below w.heap.size w w' := by
  have Hr := Lib.hid hr
  clear hr
  go_enter Try.func21, Try.ntmps21
  go_wp2
  go_loop [3, 4] (fun v i => ∃ (k : Nat) (x : ByteArray), k ≤ Y.length ∧ i = .int .i64 k ∧ v = .string x ∧ Hid (x.data.toList = Lib.join ((tls Y).take k) [32])) (fun _ i => Y.length - (intOf i).toNat)
  case atStart => exact ⟨0, _, by omega, rfl, rfl, Lib.hid rfl⟩
  case round =>
    obtain ⟨k, x, hk, rfl, rfl, hx⟩ := hrel
    by_cases hlt : k < Y.length
    · obtain ⟨y1, y2, y3⟩ := Hr.out k hlt
      have hlt2 : k < (tls Y).length := by simpa [tls] using hlt
      have htk : (tls Y).take (k + 1) = (tls Y).take k ++ [Y[k].2.1.data.toList] := by
        rw [List.take_succ_eq_append_getElem hlt2]; simp [tls]
      by_cases hk0 : k = 0
      · have hnew : Hid ((x ++ Y[k].2.1).data.toList = Lib.join ((tls Y).take (k + 1)) [32]) := by
          show _ = _
          rw [htk, join_snoc, if_pos (by rw [hk0]; rfl)]
          have := hx.out
          rw [hk0] at this
          simp [ByteArray.data_append, this, Lib.join]
        have hk1 : ¬ 0 < (k : Int) := by omega
        have hk2 : ¬ 0 < k := by omega
        have hsz : (x ++ Y[k].2.1).size ≤ 140737488355328 := by
          rw [← len_list, hnew.out]; exact Nat.le_trans (join_take _ _) hj
        rw [ByteArray.size_append] at hsz
        clear htk hx hk0
        go_wp2
        go_round
        case rel => exact ⟨k + 1, _, by omega, by go_num, rfl, hnew⟩
        case measure => simp [intOf]; omega
      · have hnew : Hid ((x ++ ⟨#[32]⟩ ++ Y[k].2.1).data.toList = Lib.join ((tls Y).take (k + 1)) [32]) := by
          show _ = _
          rw [htk, join_snoc, if_neg (fun e => by have := congrArg List.length e; rw [List.length_take, List.length_nil] at this; omega), app_list, app_list, hx.out]
        have hsz : (x ++ ⟨#[32]⟩ ++ Y[k].2.1).size ≤ 140737488355328 := by
          rw [← len_list, hnew.out]; exact Nat.le_trans (join_take _ _) hj
        rw [ByteArray.size_append, ByteArray.size_append] at hsz
        have hsz : x.size + 1 + Y[k].2.1.size ≤ 140737488355328 := hsz
        have hk1 : 0 < (k : Int) := by omega
        have hk2 : 0 < k := by omega
        clear htk hx hk0
        go_wp2
        go_round
        case rel => exact ⟨k + 1, _, by omega, by go_num, rfl, hnew⟩
        case measure => simp [intOf]; omega
    · have hfin : Hid (x = BA (jn Y)) := by
        apply BA_eq
        rw [hx.out, jn, List.take_of_length_le (by simp [tls]; omega)]
      clear hx
      go_wp2
      go_ret
      exact ⟨by rw [← hfin.out]; rfl, Below.refl _ _⟩
theorem refText_none (a : Option Addr) (c : Nat) (w : World) :
    Calls Try.prog 21 #[.slice a 0 c] w fun e w' => e = .returned (.string ⟨#[]⟩) ∧ Below w.heap.size w w' := by
  go_enter Try.func21, Try.ntmps21
  go_wp2
  go_loop [3, 4] (fun v i => i = .int .i64 0 ∧ v = .string ⟨#[]⟩) (fun _ i => 0)
  case atStart => exact ⟨rfl, rfl⟩
  case round =>
    obtain ⟨rfl, rfl⟩ := hrel
    go_wp2
    go_ret
    exact ⟨rfl, Below.refl _ _⟩

/-- a slice that reads as a list of tokens -/
def IsY (w : World) (a : Option Addr) (n : Nat) (Y : List (Int × ByteArray × Int)) : Prop := n = Y.length ∧ (0 < n → ∃ b o, a = some ⟨b, o, none⟩ ∧ b < w.heap.size ∧ RowY w b o Y)
theorem IsY.below {w w' : World} {a : Option Addr} {n : Nat} {Y : List (Int × ByteArray × Int)} (h : IsY w a n Y) (hb : Below w.heap.size w w') : IsY w' a n Y :=
  ⟨h.1, fun hn => by
    obtain ⟨b, o, e, hl, hr⟩ := h.2 hn
    exact ⟨b, o, e, Nat.lt_of_lt_of_le hl hb.size, hr.below hb hl⟩⟩
theorem Text_any (a : Option Addr) (n c : Nat) (Y : List (Int × ByteArray × Int)) (w : World) (hY : IsY w a n Y) (hn : n ≤ 100000000) (hj : (jn Y).length ≤ 140737488355328) :
    Calls Try.prog 20 #[.slice a n c] w fun e w' => e = .returned (.string (BA (jn Y))) ∧ Below w.heap.size w w' := by
  obtain ⟨rfl, h⟩ := hY
  by_cases h0 : Y = []
  · subst h0
    exact Text_none a c w
  · obtain ⟨b, o, rfl, hb, hr⟩ := h (List.length_pos_iff.2 h0)
    exact Text_some b o c Y w hn hr hb hj
theorem refText_any (a : Option Addr) (n c : Nat) (Y : List (Int × ByteArray × Int)) (w : World) (hY : IsY w a n Y) (hn : n ≤ 100000000) (hj : (jn Y).length ≤ 140737488355328) :
    Calls Try.prog 21 #[.slice a n c] w fun e w' => e = .returned (.string (BA (jn Y))) ∧ Below w.heap.size w w' := by
  obtain ⟨rfl, h⟩ := hY
  by_cases h0 : Y = []
  · subst h0
    exact refText_none a c w
  · obtain ⟨b, o, rfl, hb, hr⟩ := h (List.length_pos_iff.2 h0)
    exact refText_some b o c Y w hn hr hb hj
end Go.Proofs.Ytanbcclconhheaa.Tok
