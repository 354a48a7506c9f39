/-
  What is proved: what the calls that write a number's digits, among the document's own answers, return.
-/
import Derived.Test.YtakcbpmdjdadnaaLibA
import Derived.Lib.ItoaNum
import Derived.Deep.RegionWith
import Derived.Laws.BytesArg
import Derived.Laws.IdiomStrings
namespace Go.Proofs.Ytakcbpmdjdadnaa.L
open Go.RowKit
set_option linter.unusedVariables false
set_option linter.unusedSimpArgs false

theorem dec_small {u : Nat} (h : u < 10) : Lib.decDigits u = [UInt8.ofNat (48 + u)] := by rw [Lib.decDigits, dif_pos h]
theorem dec_big {u : Nat} (h : ¬ u < 10) : Lib.decDigits u = Lib.decDigits (u / 10) ++ [UInt8.ofNat (48 + u % 10)] := by conv => lhs; rw [Lib.decDigits, dif_neg h]
theorem dec_len : ∀ (k u : Nat), u < 10 ^ (k + 1) → (Lib.decDigits u).length ≤ k + 1
  | 0, u, h => by rw [dec_small (by simpa using h)]; simp
  | k + 1, u, h => by
    by_cases hu : u < 10
    · rw [dec_small hu]; simp
    · have := dec_len k (u / 10) (by rw [Nat.pow_succ] at h; omega)
      rw [dec_big hu, List.length_append]; simp; omega
theorem nDig_le (u : Nat) (h : u < 10 ^ 19) : (Lib.decDigits u).length ≤ 19 := dec_len 18 u h
theorem BA_app (s : ByteArray) (b : List UInt8) : s ++ BA b = BA (s.data.toList ++ b) := by
  apply ByteArray.ext; simp [BA]

theorem conv_at (w : World) (n : Nat) (v : Int) (h : w.cell? ⟨n, 0, none⟩ = some (.int .u8 v)) :
    (convert 70 9 (.slice (some ⟨n, 0, none⟩) 1 1)).run Try.prog w = .ok (.string ⟨#[UInt8.ofNat v.toNat]⟩) w := by
  rw [run_convert_bytes_arg w 70 5 Try.underlying70 Try.underlying5 n 0 1 1 [v] rfl (fun i hi => by
    have : i = 0 := by omega
    subst this
    exact h) 9 Try.underlying9]
  rfl
theorem conv_new (w : World) (v : Int) :
    (convert 70 9 (.slice (some ⟨w.heap.size, 0, none⟩) 1 1)).run Try.prog (w.alloc (.cells #[.int .u8 v] 5)) = .ok (.string ⟨#[UInt8.ofNat v.toNat]⟩) (w.alloc (.cells #[.int .u8 v] 5)) :=
  conv_at _ _ _ (by rw [World.cell?_alloc_mark]; rfl)
theorem retS {a b : ByteArray} (h : a = b) : Ending.returned (.string a) = .returned (.string b) := by rw [h]

theorem digits_small (u : Nat) (hu : u < 10) (w : World) :
    Calls Try.prog 49 #[.int .u64 u] w fun e w' => e = .returned (.string (BA (Lib.decDigits u))) ∧ Below w.heap.size w w' := by
  have h1 : (u : Int) < 10 := by omega
  have hcv := conv_new
  have hr : Hid ((⟨#[UInt8.ofNat (48 + (u : Int)).toNat]⟩ : ByteArray) = BA (Lib.decDigits u)) := by
    show _ = _
    rw [Lib.decDigits, dif_pos hu, show (48 + (u : Int)).toNat = 48 + u by omega]; rfl
  clear hu
  go_enter Try.func49, Try.ntmps49
  go_wp2
  go_ret
  exact ⟨retS hr.out, bel_alloc (Below.refl _ _) _⟩

set_option maxHeartbeats 1000000 in
theorem digits_big (u : Nat) (hu : ¬ u < 10) (h2 : u < 18446744073709551616) (w : World) (ih : ∀ w, Calls Try.prog 49 #[.int .u64 ((u / 10 : Nat) : Int)] w fun e w' => e = .returned (.string (BA (Lib.decDigits (u / 10)))) ∧ Below w.heap.size w w') :
    Calls Try.prog 49 #[.int .u64 u] w fun e w' => e = .returned (.string (BA (Lib.decDigits u))) ∧ Below w.heap.size w w' := by
  have h1 : 10 ≤ (u : Int) := by omega
  have hl : (BA (Lib.decDigits (u / 10))).size ≤ 19 := by rw [BA_size]; exact nDig_le _ (by omega)
  have hr : Hid (BA (Lib.decDigits (u / 10)) ++ (⟨#[UInt8.ofNat (48 + (u : Int) % 10).toNat]⟩ : ByteArray) = BA (Lib.decDigits u)) := by
    show _ = _
    have e : (⟨#[UInt8.ofNat (48 + (u : Int) % 10).toNat]⟩ : ByteArray) = BA [UInt8.ofNat (48 + u % 10)] := by
      rw [show (48 + (u : Int) % 10).toNat = 48 + u % 10 by omega]; rfl
    rw [e, BA_app, BA_list]
    conv => rhs; rw [Lib.decDigits, dif_neg hu]
  obtain ⟨q, hq⟩ : ∃ q : Int, ((u / 10 : Nat) : Int) = q := ⟨_, rfl⟩
  have hq2 : (u : Int) / 10 = q := by omega
  rw [hq] at ih
  obtain ⟨r, hR⟩ : ∃ r : Int, (u : Int) % 10 = r := ⟨_, rfl⟩
  have r0 : 0 ≤ r := by omega
  have r1 : r ≤ 9 := by omega
  rw [hR] at hr
  have hw : IntKind.u64.wrap (48 + r) = 48 + r := by rw [IntKind.wrap_u64]; omega
  have hw8 : IntKind.u8.wrap (48 + r) = 48 + r := by rw [IntKind.wrap_u8]; omega
  have hcv := fun w n => conv_at w n (48 + r)
  generalize BA (Lib.decDigits (u / 10)) = t at *
  generalize BA (Lib.decDigits u) = x at *
  obtain ⟨U, hU⟩ : ∃ U : Int, (u : Int) = U := ⟨_, rfl⟩
  have hU2 : U ≤ 18446744073709551615 := by omega
  have hU0 : 0 ≤ U := by omega
  rw [hU] at h1 hq2 hR ⊢
  clear hq hu h2 hU
  have HH := Lib.hid hq2
  have hq3 : U.tdiv 10 = q := by rw [Int.tdiv_eq_ediv_of_nonneg (by omega)]; exact hq2
  have hR3 : U.tmod 10 = r := by rw [Int.tmod_eq_emod_of_nonneg (by omega)]; exact hR
  have hwq : IntKind.u64.wrap q = q := by rw [IntKind.wrap_u64]; omega
  go_enter Try.func49, Try.ntmps49
  go_wp2_with fail
  go_region_with (go_at_call 49; ((with_reducible refine (ih _).mono ?_); rintro e w2 ⟨rfl, hb⟩; obtain ⟨hc, hf⟩ := bcell hb))
  all_goals go_wp2
  all_goals go_simp
  all_goals go_ret
  all_goals
    refine ⟨retS hr.out, ?_⟩
    first
      | exact bel_alloc (bel_trans (Below.refl _ _).drew hb) _
      | exact (bel_alloc (bel_trans (Below.refl _ _).drew hb) _).drew
      | exact bel_trans (bel_alloc (Below.refl _ _) _).drew hb
      | exact bel_trans (bel_alloc (Below.refl _ _).drew _) hb
      | skip
theorem digits_any (u : Nat) (hu : u < 18446744073709551616) : ∀ (w : World),
    Calls Try.prog 49 #[.int .u64 u] w fun e w' => e = .returned (.string (BA (Lib.decDigits u))) ∧ Below w.heap.size w w' := by
  induction u using Nat.strongRecOn with
  | _ u ih =>
    intro w
    by_cases h : u < 10
    · exact digits_small u h w
    · exact digits_big u h hu w (ih (u / 10) (by omega) (by omega))
theorem digits_at (m : Int) (u : Nat) (h : m = (u : Int)) (hu : u < 18446744073709551616) (w : World) :
    Calls Try.prog 49 #[.int .u64 m] w fun e w' => e = .returned (.string (BA (Lib.decDigits u))) ∧ Below w.heap.size w w' := by
  subst h; exact digits_any u hu w

theorem bdigits_nat (u : Nat) (hu : u ≤ 9223372036854775807) (w : World) :
    Calls Try.prog 28 #[.int .i64 u] w fun e w' => e = .returned (.string (BA (Lib.decDigits u))) ∧ Below w.heap.size w w' := by
  have c1 := digits_at (u : Int) u rfl (by omega)
  have h0 : 0 ≤ (u : Int) := by omega
  generalize BA (Lib.decDigits u) = t at *
  go_enter Try.func28, Try.ntmps28
  go_wp2_with (go_at_call 49; ((with_reducible refine (c1 _).mono ?_); rintro e w2 ⟨rfl, hb⟩))
  go_ret
  exact ⟨rfl, hb⟩
end Go.Proofs.Ytakcbpmdjdadnaa.L
