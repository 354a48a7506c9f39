/-
  What is proved: the law on the limits, walked.
-/
import Derived.Test.YtanbcclconhheaaTokR
import Derived.Laws.BytesArg
namespace Go.Proofs.Ytanbcclconhheaa.Tok
open Go.RowKit
set_option linter.unusedVariables false
set_option linter.unusedSimpArgs false

/-- a whole block of bytes -/
def UBlk (w : World) (g : Nat) (C : Array Value) : Prop := w.heap[g]? = some (.cells C 5 (0, 0))
theorem UBlk.lt {w : World} {g : Nat} {C : Array Value} (h : UBlk w g C) : g < w.heap.size := (Array.getElem?_eq_some_iff.1 h).1
theorem UBlk.cell {w : World} {g : Nat} {C : Array Value} (h : UBlk w g C) (i : Nat) : w.cell? ⟨g, i, none⟩ = C[i]? := cell_of_row w g i C _ _ h
theorem UBlk.free {w : World} {g : Nat} {C : Array Value} (h : UBlk w g C) (i : Nat) : w.frozen? ⟨g, i, none⟩ = false := by
  unfold UBlk at h; simp [World.frozen?, h]
theorem UBlk.put {w : World} {g : Nat} {C : Array Value} (h : UBlk w g C) (i : Nat) (u : Value) : UBlk (w.setCell ⟨g, i, none⟩ u) g (C.setIfInBounds i u) := by
  unfold UBlk at h ⊢
  simp [World.setCell, Array.getElem?_modify, h]
theorem byte_info : (Try.prog.info? 5).map (fun i => (i.zero, i.size, i.bytes)) = some (some (.int .u8 0), 1, 1) := by kernel_rfl
theorem make_bytes (n : Nat) (hn : n ≤ 100000000) :
    ∃ C : Array Value, C.size = n ∧ ∀ w : World, (Instr.makeSlice 38 (.int .u32 (n : Int)) (.int .u32 (n : Int))).run Try.prog w = .ok (.slice (some ⟨w.heap.size, 0, none⟩) n n) (w.alloc (.cells C 5)) := by
  obtain ⟨i0, hi, hz0, hz1, hz2⟩ := info_parts byte_info
  refine ⟨madeCells (Value.int .u8 0).cells (n * 1), by simp [madeCells], fun w => ?_⟩
  have hr := run_make (P := Try.prog) w 38 5 i0 (.int .u8 0) Try.underlying38 hi hz0 .u32 .u32 n n (by omega) (by omega) (by rw [hz2]; omega) (by omega)
  simp only [Int.toNat_natCast, hz1] at hr
  exact hr
theorem conv_blanks (w : World) (g n : Nat) (C : Array Value) (h : UBlk w g C) (hc : ∀ j, j < n → C[j]? = some (.int .u8 32)) :
    (convert 38 9 (.slice (some ⟨g, 0, none⟩) n n)).run Try.prog w = .ok (.string (BA (List.replicate n 32))) w := by
  rw [run_convert_bytes_arg w 38 5 Try.underlying38 Try.underlying5 g 0 n n (List.replicate n 32) (by simp) (fun i hi => by
    have hi : i < n := by simpa using hi
    rw [Nat.zero_add, h.cell i, hc i hi]
    simp [hi]) 9 Try.underlying9]
  simp [BA, strOfNums]
theorem ofx_no (n : Nat) (hn : n < 1000) (h : 32 < n + 1) (w : World) :
    Calls Try.prog 10 #[.string (⟨#[40, 32]⟩ ++ BA (List.replicate (n + 1) 120))] w fun e w' => ∃ A c, e = .returned (.tuple #[.slice A 0 c, .int .i64 2, .int .i64 2]) ∧ Below w.heap.size w w' :=
  of_err (a := 2) (x := 2) (by rw [ByteArray.size_append, BA_size, List.length_replicate]; show 2 + (n + 1) ≤ _; omega) (by
    rw [app_list, BA_list]
    have := limits1 n hn
    rw [if_pos h] at this; exact this) w
theorem ofx_yes (n : Nat) (hn : n < 1000) (h : ¬ 32 < n + 1) (w : World) :
    Calls Try.prog 10 #[.string (⟨#[40, 32]⟩ ++ BA (List.replicate (n + 1) 120))] w fun e w' => ∃ g c, e = .returned (.tuple #[.slice (some ⟨g, 0, none⟩) 2 c, .int .i64 0, .int .i64 0]) ∧ Below w.heap.size w w' :=
  (of_some (T := [⟨3, [40], 0⟩, ⟨1, List.replicate (n + 1) 120, 2⟩]) (by rw [ByteArray.size_append, BA_size, List.length_replicate]; show 2 + (n + 1) ≤ _; omega) (by
    rw [app_list, BA_list]
    have := limits1 n hn
    rw [if_neg h] at this; exact this) (by simp) w).mono fun e w' ⟨g, c, he, _, _, hb⟩ => ⟨g, c, he, hb⟩
theorem ofy_no (n : Nat) (hn : n ≤ 1000000) (h : 65536 ≤ n) (w : World) :
    Calls Try.prog 10 #[.string (BA (List.replicate n 32) ++ ⟨#[121]⟩)] w fun e w' => ∃ A c, e = .returned (.tuple #[.slice A 0 c, .int .i64 0, .int .i64 2]) ∧ Below w.heap.size w w' :=
  of_err (a := 0) (x := 2) (by rw [ByteArray.size_append, BA_size, List.length_replicate]; show n + 1 ≤ _; omega) (by
    rw [app_list, BA_list]
    have := limits2 n
    rw [if_pos h] at this; exact this) w
theorem ofy_yes (n : Nat) (hn : n ≤ 1000000) (h : ¬ 65536 ≤ n) (w : World) :
    Calls Try.prog 10 #[.string (BA (List.replicate n 32) ++ ⟨#[121]⟩)] w fun e w' => ∃ g c, e = .returned (.tuple #[.slice (some ⟨g, 0, none⟩) 1 c, .int .i64 0, .int .i64 0]) ∧ w'.cell? ⟨g, 2, none⟩ = some (.int .i64 n) ∧ Below w.heap.size w w' :=
  (of_some (T := [⟨1, [121], n⟩]) (by rw [ByteArray.size_append, BA_size, List.length_replicate]; show n + 1 ≤ _; omega) (by
    rw [app_list, BA_list]
    have := limits2 n
    rw [if_neg h] at this; exact this) (by simp) w).mono fun e w' ⟨g, c, he, _, hr, hb⟩ => ⟨g, c, he, (hr 0 (by simp [tokY])).2.2, hb⟩
theorem rep_app (n : Nat) : BA (List.replicate n 120) ++ ⟨#[120]⟩ = BA (List.replicate (n + 1) 120) := by
  apply BA_eq
  rw [app_list, BA_list, List.replicate_succ']

def szV : Value → Nat
  | .string x => x.size
  | _ => 0

set_option maxRecDepth 100000 in
set_option maxHeartbeats 4000000 in
theorem limits_walk (p q : Int) (w : World) (p0 : 0 ≤ p) (p1 : p ≤ 255) (q0 : 0 ≤ q) (q1 : q ≤ 4294967295) :
    Calls Try.prog 8 #[.int .u8 p, .int .u32 q] w fun e w' => e = .returned (.bool true) ∧ Below w.heap.size w w' := by
  have ca := alive_any
  obtain ⟨n, hn⟩ : ∃ n : Nat, p % 99 = (n : Int) := ⟨(p % 99).toNat, by omega⟩
  obtain ⟨m, hm⟩ : ∃ m : Nat, q % 131072 = (m : Int) := ⟨(q % 131072).toNat, by omega⟩
  have hn1 : n < 99 := by omega
  have hm1 : m < 131072 := by omega
  obtain ⟨C0, hC0, hmk⟩ := make_bytes m (by omega)
  have HC0 := Lib.hid hC0
  have hrep := rep_app
  have Hrep := Lib.hid hrep
  have hx1 := fun h => ofx_no n (by omega) h
  have hx2 := fun h => ofx_yes n (by omega) h
  have hy1 := fun h => ofy_no m (by omega) h
  have hy2 := fun h => ofy_yes m (by omega) h
  clear hC0 hrep
  go_enter Try.func8, Try.ntmps8
  go_wp2_with (go_at_call 9; ((with_reducible refine (ca _).mono ?_); rintro e w1 ⟨rfl, hb1⟩))
  go_loop [6] (fun v => ∃ x : ByteArray, v = .string x ∧ x.size ≤ n + 1 ∧ Hid (x = BA (List.replicate x.size 120))) (fun v => n + 1 - szV v)
  case atStart => exact ⟨_, rfl, Nat.zero_le _, Lib.hid rfl⟩
  case round =>
    obtain ⟨x, rfl, hxn, hx⟩ := hrel
    by_cases hlt : x.size < n + 1
    · have hsz : (x ++ ⟨#[120]⟩).size = x.size + 1 := by rw [ByteArray.size_append]; rfl
      have hnew : Hid (x ++ ⟨#[120]⟩ = BA (List.replicate (x ++ ⟨#[120]⟩).size 120)) := by
        show _ = _
        rw [hsz, ← Hrep.out, ← hx.out]
      have hle2 : (x ++ ⟨#[120]⟩).size ≤ n + 1 := by omega
      have hms : n + 1 - (x ++ ⟨#[120]⟩).size < n + 1 - x.size := by omega
      have hl2 : (x.size : Int) < 1 + (n : Int) := by omega
      clear hx hsz
      go_wp2
      go_round
      case rel => exact ⟨_, rfl, hle2, hnew⟩
      case measure => exact hms
    · have hfin : x = BA (List.replicate (n + 1) 120) := by
        have := hx.out
        rw [show x.size = n + 1 by omega] at this
        exact this
      rw [← hfin] at hx1 hx2
      have hl2 : ¬ (x.size : Int) < 1 + (n : Int) := by omega
      clear hfin hx Hrep
      by_cases h32 : 32 < n + 1
      · have hx1 := hx1 h32
        have h32i : 32 < 1 + (n : Int) := by omega
        clear hx2 h32
        go_wp2_with (go_at_call 10; ((with_reducible refine (hx1 _).mono ?_); rintro e w2 ⟨A, c, rfl, hb2⟩; replace hb1 := bel_trans hb1 hb2))
        go_loopw [71] (fun i wr0 => ∃ (wr : World) (k : Nat) (C : Array Value), wr = wr0 ∧ k ≤ m ∧ i = .int .i64 k ∧ Below w2.heap.size w2 wr ∧ UBlk wr w2.heap.size C ∧ Hid (C.size = m) ∧ Hid (∀ j, j < k → C[j]? = some (.int .u8 32))) (fun i _ => m - (intOf i).toNat)
        case atStart => exact ⟨_, 0, C0, rfl, by omega, rfl, bel_alloc (Below.refl _ _) _, heap_alloc_new _ _, HC0, Lib.hid (fun j h => absurd h (by omega))⟩
        case round =>
          obtain ⟨wr, k, C, rfl, hk, rfl, hB, hS, hCs, hCk⟩ := hrel
          by_cases hlt : k < m
          · have hu : C[k]? = some (C[k]'(by rw [hCs.out]; exact hlt)) := Array.getElem?_eq_getElem _
            generalize C[k]'(by rw [hCs.out]; exact hlt) = u at *
            have s1 : wr.cell? ⟨w2.heap.size, k, none⟩ = some u := (hS.cell k).trans hu
            have s2 : wr.frozen? ⟨w2.heap.size, k, none⟩ = false := hS.free k
            have hnew : Hid (∀ j, j < k + 1 → (C.setIfInBounds k (.int .u8 32))[j]? = some (.int .u8 32)) := by
              intro j hj
              rw [Array.getElem?_setIfInBounds]
              by_cases e : k = j
              · subst e; rw [if_pos rfl, if_pos (by rw [hCs.out]; exact hlt)]
              · rw [if_neg e]; exact hCk.out j (by omega)
            have hCs2 : Hid ((C.setIfInBounds k (.int .u8 32)).size = m) := by show _ = _; rw [Array.size_setIfInBounds]; exact hCs.out
            have HS := Lib.hid hS
            clear hu hS hCk hCs
            go_wp2
            go_roundw
            case rel => exact ⟨_, k + 1, _, rfl, by omega, by go_num, hB.setCell (by simp) _, HS.out.put k _, hCs2, hnew⟩
            case measure => simp [intOf]; omega
          · have hkm : k = m := by omega
            have hcv := conv_blanks wr w2.heap.size m C hS (fun j hj => hCk.out j (by omega))
            have hxm : (BA (List.replicate m 32)).size ≤ 131072 := by rw [BA_size, List.length_replicate]; omega
            clear hCk hCs
            generalize BA (List.replicate m 32) = z at *
            by_cases h65 : 65536 ≤ m
            · have hy1 := hy1 h65
              have h65i : (65536 : Int) ≤ m := by omega
              clear hy2 h65
              go_wp2_with (go_at_call 10; ((with_reducible refine (hy1 _).mono ?_); rintro e w4 ⟨A', c', rfl, hb4⟩))
              go_ret
              exact ⟨rfl, bel_trans (bel_trans hb1 hB) hb4⟩
            · have hy2 := hy2 h65
              have h65i : decide ((65536 : Int) ≤ (m : Int)) = false := decide_eq_false (by omega)
              clear hy1 h65
              go_wp2_with (go_at_call 10; ((with_reducible refine (hy2 _).mono ?_); rintro e w4 ⟨g', c', rfl, hz4, hb4⟩))
              go_ret
              exact ⟨rfl, bel_trans (bel_trans hb1 hB) hb4⟩
      · have hx2 := hx2 h32
        have h32i : ¬ 32 < 1 + (n : Int) := by omega
        clear hx1 h32
        go_wp2_with (go_at_call 10; ((with_reducible refine (hx2 _).mono ?_); rintro e w2 ⟨g, c, rfl, hb2⟩; replace hb1 := bel_trans hb1 hb2))
        go_loopw [71] (fun i wr0 => ∃ (wr : World) (k : Nat) (C : Array Value), wr = wr0 ∧ k ≤ m ∧ i = .int .i64 k ∧ Below w2.heap.size w2 wr ∧ UBlk wr w2.heap.size C ∧ Hid (C.size = m) ∧ Hid (∀ j, j < k → C[j]? = some (.int .u8 32))) (fun i _ => m - (intOf i).toNat)
        case atStart => exact ⟨_, 0, C0, rfl, by omega, rfl, bel_alloc (Below.refl _ _) _, heap_alloc_new _ _, HC0, Lib.hid (fun j h => absurd h (by omega))⟩
        case round =>
          obtain ⟨wr, k, C, rfl, hk, rfl, hB, hS, hCs, hCk⟩ := hrel
          by_cases hlt : k < m
          · have hu : C[k]? = some (C[k]'(by rw [hCs.out]; exact hlt)) := Array.getElem?_eq_getElem _
            generalize C[k]'(by rw [hCs.out]; exact hlt) = u at *
            have s1 : wr.cell? ⟨w2.heap.size, k, none⟩ = some u := (hS.cell k).trans hu
            have s2 : wr.frozen? ⟨w2.heap.size, k, none⟩ = false := hS.free k
            have hnew : Hid (∀ j, j < k + 1 → (C.setIfInBounds k (.int .u8 32))[j]? = some (.int .u8 32)) := by
              intro j hj
              rw [Array.getElem?_setIfInBounds]
              by_cases e : k = j
              · subst e; rw [if_pos rfl, if_pos (by rw [hCs.out]; exact hlt)]
              · rw [if_neg e]; exact hCk.out j (by omega)
            have hCs2 : Hid ((C.setIfInBounds k (.int .u8 32)).size = m) := by show _ = _; rw [Array.size_setIfInBounds]; exact hCs.out
            have HS := Lib.hid hS
            clear hu hS hCk hCs
            go_wp2
            go_roundw
            case rel => exact ⟨_, k + 1, _, rfl, by omega, by go_num, hB.setCell (by simp) _, HS.out.put k _, hCs2, hnew⟩
            case measure => simp [intOf]; omega
          · have hkm : k = m := by omega
            have hcv := conv_blanks wr w2.heap.size m C hS (fun j hj => hCk.out j (by omega))
            have hxm : (BA (List.replicate m 32)).size ≤ 131072 := by rw [BA_size, List.length_replicate]; omega
            clear hCk hCs
            generalize BA (List.replicate m 32) = z at *
            by_cases h65 : 65536 ≤ m
            · have hy1 := hy1 h65
              have h65i : (65536 : Int) ≤ m := by omega
              clear hy2 h65
              go_wp2_with (go_at_call 10; ((with_reducible refine (hy1 _).mono ?_); rintro e w4 ⟨A', c', rfl, hb4⟩))
              go_ret
              exact ⟨rfl, bel_trans (bel_trans hb1 hB) hb4⟩
            · have hy2 := hy2 h65
              have h65i : decide ((65536 : Int) ≤ (m : Int)) = false := decide_eq_false (by omega)
              clear hy1 h65
              go_wp2_with (go_at_call 10; ((with_reducible refine (hy2 _).mono ?_); rintro e w4 ⟨g', c', rfl, hz4, hb4⟩))
              go_ret
              exact ⟨rfl, bel_trans (bel_trans hb1 hB) hb4⟩
end Go.Proofs.Ytanbcclconhheaa.Tok
