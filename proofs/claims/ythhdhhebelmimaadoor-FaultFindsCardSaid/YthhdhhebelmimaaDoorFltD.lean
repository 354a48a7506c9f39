/-
  What is proved: where a line starts, and how a place is marked, in the program.
-/
import Derived.Test.YthhdhhebelmimaaDoorFltC
import Derived.Test.YthhdhhebelmimaaDoorShelf
import Derived.Lib.Strings
namespace Go.Proofs.YthhdhhebelmimaaDoor.Flt
open Go.RowKit
set_option linter.unusedVariables false
set_option linter.unusedSimpArgs false

def BA (l : List UInt8) : ByteArray := ⟨l.toArray⟩
theorem BA_list (l : List UInt8) : (BA l).data.toList = l := rfl
theorem BA_of (s : ByteArray) : BA s.data.toList = s := by unfold BA; cases s; rfl
theorem BA_eq {s : ByteArray} {l : List UInt8} (h : s.data.toList = l) : s = BA l := by rw [← h, BA_of]
theorem BA_size (l : List UInt8) : (BA l).size = l.length := by simp [BA, ByteArray.size]
theorem len_list (s : ByteArray) : s.data.toList.length = s.size := Array.length_toList
theorem ext_size (s : ByteArray) (k : Nat) (hk : k ≤ s.size) : (s.extract 0 k).size = k := by rw [ByteArray.size_extract]; omega
theorem ext_list (s : ByteArray) (k : Nat) : (s.extract 0 k).data.toList = s.data.toList.take k := by
  rw [Lib.extract_data]; simp
theorem last_tl (s : ByteArray) (k : Nat) (hk : k ≤ s.size) : Lib.lastIndexByte (s.extract 0 k) 10 = (k : Int) - (tl (s.data.toList.take k) : Int) - 1 := by
  have h := lastIdx_tl (s.extract 0 k) k (by rw [ext_size s k hk]; omega)
  rw [ext_list, List.take_take, Nat.min_self] at h
  unfold Lib.lastIndexByte
  rw [ext_size s k hk]
  omega

theorem lineStart_any (s : ByteArray) (k : Nat) (w : World) (hs : s.size ≤ 1000000) (hk : k ≤ s.size) :
    Calls Tryd.prog 26 #[.string s, .int .i64 k] w fun e w' => e = .returned (.int .i64 ((k : Int) - (tl (s.data.toList.take k) : Int))) ∧ w' = w := by
  have c1 := fun (w : World) => Tryd.strings_LastIndex_one (s.extract 0 k) ⟨#[10]⟩ rfl (by rw [ext_size s k hk]; omega) w
  have e10 : ((((⟨#[10]⟩ : ByteArray)[0]'(by decide)).toNat : Int)) = 10 := rfl
  have hl := last_tl s k hk
  have ht := tl_le (s.data.toList.take k)
  have htk : (s.data.toList.take k).length = k := by rw [List.length_take, len_list]; omega
  rw [htk] at ht
  simp only [e10, hl] at c1
  generalize tl (s.data.toList.take k) = t at *
  clear hl htk e10
  go_enter Tryd.func26, Tryd.ntmps26
  go_wp2_with (go_at_call 34; ((with_reducible refine (c1 _).mono ?_); rintro e w' ⟨rfl, rfl⟩))
  go_ret
  exact ⟨one (by omega), rfl⟩

def upTo (l : List UInt8) : List UInt8 := l.takeWhile (· ≠ 10)
theorem scut_any (s : ByteArray) (w : World) (hs : s.size ≤ 1000000) :
    Calls Tryd.prog 35 #[.string s, .string ⟨#[10]⟩] w fun e w' => ∃ (y : ByteArray) (z : Bool), e = .returned (.tuple #[.string (BA (upTo s.data.toList)), .string y, .bool z]) ∧ Below w.heap.size w w' := by
  have c1 := fun (w : World) => Tryd.stringslite_Index_one s 10 w
  rcases takeWhile_index s.data.toList with ⟨h1, h2⟩ | ⟨i, h1, h2, h3⟩
  · have hg := Lib.indexByte_ge s.data.toList 10
    obtain hm : Lib.indexByte s.data.toList 10 = -1 := by omega
    rw [hm] at c1
    rw [upTo, h2, BA_of]
    clear h1 h2 hg hm
    go_enter Tryd.func35, Tryd.ntmps35
    go_wp2_with (go_at_call 52; ((with_reducible refine (c1 _).mono ?_); rintro e w' ⟨rfl, rfl⟩))
    go_ret3
    exact ⟨_, _, rfl, Below.refl _ _⟩
  · rw [h1] at c1
    have hx : s.extract 0 i = BA (upTo s.data.toList) := BA_eq (by rw [ext_list, upTo, h3])
    rw [len_list] at h2
    rw [← hx]
    clear h1 h3 hx
    have hi : i ≤ s.size := by omega
    have hi1 : i + 1 ≤ s.size := by omega
    have hj0 : (0 : Int) ≤ (i : Int) := by omega
    have hj1 : (i : Int) + 1 ≤ (s.size : Int) := by omega
    have hj2 : (0 : Int) ≤ (i : Int) + 1 := by omega
    go_enter Tryd.func35, Tryd.ntmps35
    go_wp2_with (go_at_call 52; ((with_reducible refine (c1 _).mono ?_); rintro e w' ⟨rfl, rfl⟩))
    go_quiet (fail)
    go_wp2
    go_ret3
    exact ⟨_, _, rfl, below_drewN (Below.refl _ _) _⟩
theorem cut_any (s : ByteArray) (w : World) (hs : s.size ≤ 1000000) :
    Calls Tryd.prog 27 #[.string s, .string ⟨#[10]⟩] w fun e w' => ∃ (y : ByteArray) (z : Bool), e = .returned (.tuple #[.string (BA (upTo s.data.toList)), .string y, .bool z]) ∧ Below w.heap.size w w' := by
  have c1 := fun (w : World) => scut_any s w hs
  go_enter Tryd.func27, Tryd.ntmps27
  go_wp2_with (go_at_call 35; ((with_reducible refine (c1 _).mono ?_); rintro e w' ⟨y, z, rfl, hb⟩))
  go_ret3
  exact ⟨y, z, rfl, hb⟩

theorem drop_list (s : ByteArray) (k : Nat) : (s.extract k s.size).data.toList = s.data.toList.drop k := by
  rw [Lib.extract_data]
  rw [show s.size - k = (s.data.toList.drop k).length by rw [List.length_drop, len_list], List.take_length]
theorem rep_one (n : Nat) : (⟨(Lib.repeatL (⟨#[32]⟩ : ByteArray).data.toList n).toArray⟩ : ByteArray) = BA (List.replicate n 32) := by
  unfold BA
  congr 2
  show Lib.repeatL [32] n = _
  induction n with
  | zero => rfl
  | succ n ih => rw [List.replicate_succ]; simp [Lib.repeatL] at ih ⊢; try exact ih
theorem mark_val (s : ByteArray) (k : Nat) (hk : k ≤ s.size) :
    BA (upTo (s.extract (k - tl (s.data.toList.take k)) s.size).data.toList) ++ ⟨#[10]⟩ ++ BA (List.replicate (tl (s.data.toList.take k)) 32) ++ ⟨#[94]⟩ = BA (markL s.data.toList k) := by
  apply BA_eq
  rw [drop_list]
  simp [markL, upTo, BA]

set_option maxHeartbeats 1000000 in
theorem mark_any (s : ByteArray) (a : Int) (w : World) (hs : s.size ≤ 100000) :
    Calls Tryd.prog 18 #[.string s, .int .i64 a] w fun e w' => e = .returned (.string (BA (markL s.data.toList (clampN s.size a)))) ∧ Below w.heap.size w w' := by
  have c1 := fun (w : World) => clamp_any s a w (by omega)
  have hk := clampN_le s.size a
  generalize clampN s.size a = k at *
  have c2 := fun (w : World) => lineStart_any s k w (by omega) hk
  have hv := mark_val s k hk
  have ht := tl_le (s.data.toList.take k)
  have htk : (s.data.toList.take k).length = k := by rw [List.length_take, len_list]; omega
  rw [htk] at ht
  rw [← hv]
  generalize tl (s.data.toList.take k) = t at *
  have e1 : (k : Int) - (t : Int) = ((k - t : Nat) : Int) := by omega
  simp only [e1] at c2
  have c3 := fun (w : World) => cut_any (s.extract (k - t) s.size) w (by rw [ByteArray.size_extract]; omega)
  have c4 : ∀ w, Calls Tryd.prog 28 #[.string ⟨#[32]⟩, .int .i64 t] w fun e w' => e = .returned (.string (BA (List.replicate t 32))) ∧ Below w.heap.size w w' := fun w => by
    rw [← rep_one]; exact Tryd.strings_Repeat ⟨#[32]⟩ t w (by omega) (by show 1 * t ≤ _; omega)
  have sL : (BA (upTo (s.extract (k - t) s.size).data.toList)).size ≤ 100000 := by
    rw [BA_size]
    have := (List.takeWhile_prefix (l := (s.extract (k - t) s.size).data.toList) (· ≠ 10)).length_le
    rw [len_list, ByteArray.size_extract] at this
    unfold upTo; omega
  have sM : (BA (List.replicate t 32)).size ≤ 100000 := by rw [BA_size, List.length_replicate]; omega
  obtain ⟨L, hL⟩ : ∃ L, BA (upTo (s.extract (k - t) s.size).data.toList) = L := ⟨_, rfl⟩
  obtain ⟨M, hM⟩ : ∃ M, BA (List.replicate t 32) = M := ⟨_, rfl⟩
  simp only [hL] at c3 sL ⊢
  simp only [hM] at c4 sM ⊢
  have q1 : (L ++ (⟨#[10]⟩ : ByteArray)).size = L.size + 1 := by rw [ByteArray.size_append]; rfl
  have q2 : (L ++ (⟨#[10]⟩ : ByteArray) ++ M).size = L.size + 1 + M.size := by rw [ByteArray.size_append, q1]
  obtain ⟨m, hm⟩ : ∃ m, k - t = m := ⟨_, rfl⟩
  rw [hm] at c2 c3
  have e2 : (k : Int) - (m : Int) = (t : Int) := by omega
  have hm1 : m ≤ s.size := by omega
  have e3 := Lib.hid e2
  clear hv htk e1 hL hM ht hm e2
  have c4' : ∀ w, Calls Tryd.prog 28 #[.string ⟨#[32]⟩, .int .i64 ((k : Int) - (m : Int))] w fun e w' => e = .returned (.string M) ∧ Below w.heap.size w w' := fun w => by rw [e3.out]; exact c4 w
  clear c4 e3
  go_enter Tryd.func18, Tryd.ntmps18
  go_wp2_with (first
    | (go_at_call 25; ((with_reducible refine (c1 _).mono ?_); rintro e w1 ⟨rfl, rfl⟩))
    | (go_at_call 26; ((with_reducible refine (c2 _).mono ?_); rintro e w1 ⟨rfl, rfl⟩))
    | (go_at_call 27; ((with_reducible refine (c3 _).mono ?_); rintro e w2 ⟨y, z, rfl, hb2⟩))
    | (go_at_call 28; ((with_reducible refine (c4' _).mono ?_); rintro e w3 ⟨rfl, hb3⟩)))
  go_ret
  exact ⟨rfl, bel_trans hb2 hb3⟩
end Go.Proofs.YthhdhhebelmimaaDoor.Flt
