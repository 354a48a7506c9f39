/-
  What is proved: the digits of any number, in the program and in the document's answer, and the text of any fault, where the library's table reads as it was laid.
-/
import Derived.Test.YthhdhhebelmimaaDoorFltG
import Derived.Test.YthhdhhebelmimaaDoorDigM
import Derived.Laws.BytesArg
import Derived.Laws.IdiomStrings
import Derived.Lib.AppendIntMem
namespace Go.Proofs.YthhdhhebelmimaaDoor.Flt
open Go.RowKit
open Dig (itoa_neg itoa_pos dec_plain val_ge plain_head dec_val)
set_option linter.unusedVariables false
set_option linter.unusedSimpArgs false

/-- the library's table reads as it was laid, in every world that has grown since W -/
def Tab (W : World) : Prop := Lib.TabBelow Tryd.prog W.heap.size W "internal/strconv.uint64pow10" .u64 Lib.pow10Tab
theorem text_any {W : World} (HT : Tab W) (n : Int) (n0 : -9223372036854775808 ≤ n) (n1 : n ≤ 9223372036854775807) (w : World) (hw : Below W.heap.size W w) :
    Calls Tryd.prog 17 #[.int .i64 n] w fun e w' => e = .returned (.string (BA (Lib.itoa n))) ∧ Below w.heap.size w w' := by
  have c1 : Calls Tryd.prog 24 #[.int .i64 n, .int .i64 10] w fun e w' => e = .returned (.string (BA (Lib.itoa n))) ∧ Below w.heap.size w w' := by
    refine (Tryd.strconv_FormatInt_10 n n0 n1 w (HT w hw)).mono fun e w' ⟨h, k, os, hk⟩ => ⟨h, ?_⟩
    rw [hk]
    exact Lib.below_grow _ w (Nat.le_refl _) k os
  clear HT
  go_enter Tryd.func17, Tryd.ntmps17
  go_wp2_with (go_at_call 24; ((with_reducible refine c1.mono ?_); rintro e w' ⟨rfl, hw'⟩))
  go_ret
  exact ⟨rfl, hw'⟩

theorem nDig_le (u : Nat) (h : u < 10 ^ 19) : (Lib.decDigits u).length ≤ 19 := by
  apply Classical.byContradiction
  intro hgt
  have hp := dec_plain u
  have := val_ge hp (plain_head hp (by omega))
  rw [dec_val] at this
  have h2 : 10 ^ 19 ≤ 10 ^ ((Lib.decDigits u).length - 1) := Nat.pow_le_pow_right (by decide) (by omega)
  omega
theorem itoa_len {n : Int} (n0 : -9223372036854775808 ≤ n) (n1 : n ≤ 9223372036854775807) : (Lib.itoa n).length ≤ 20 := by
  by_cases h : n < 0
  · rw [itoa_neg h]
    have := nDig_le n.natAbs (by omega)
    simp; omega
  · rw [itoa_pos (by omega)]
    have := nDig_le n.toNat (by omega)
    omega
theorem BA_app2 (s : ByteArray) (b : List UInt8) : s ++ BA b = BA (s.data.toList ++ b) := by
  apply ByteArray.ext; simp [BA]
theorem conv_at (w : World) (n : Nat) (v : Int) (h : w.cell? ⟨n, 0, none⟩ = some (.int .u8 v)) :
    (convert 86 9 (.slice (some ⟨n, 0, none⟩) 1 1)).run Tryd.prog w = .ok (.string ⟨#[UInt8.ofNat v.toNat]⟩) w := by
  rw [run_convert_bytes_arg w 86 5 Tryd.underlying86 Tryd.underlying5 n 0 1 1 [v] rfl (fun i hi => by
    have : i = 0 := by omega
    subst this
    exact h) 9 Tryd.underlying9]
  rfl
theorem conv_new (w : World) (v : Int) :
    (convert 86 9 (.slice (some ⟨w.heap.size, 0, none⟩) 1 1)).run Tryd.prog (w.alloc (.cells #[.int .u8 v] 5)) = .ok (.string ⟨#[UInt8.ofNat v.toNat]⟩) (w.alloc (.cells #[.int .u8 v] 5)) :=
  conv_at _ _ _ (by rw [World.cell?_alloc_mark]; rfl)
theorem retS {a b : ByteArray} (h : a = b) : Ending.returned (.string a) = .returned (.string b) := by rw [h]
theorem bel_al {a b : World} (h : Below a.heap.size a b) (o : Obj) : Below a.heap.size a (b.alloc o) := h.alloc h.size o
theorem bcell {W w1 : World} (hb : Below W.heap.size W w1) : (∀ b o, b < W.heap.size → w1.cell? ⟨b, o, none⟩ = W.cell? ⟨b, o, none⟩) ∧ (∀ b o, b < W.heap.size → w1.frozen? ⟨b, o, none⟩ = W.frozen? ⟨b, o, none⟩) :=
  ⟨fun b o h => hb.cell (p := ⟨b, o, none⟩) h, fun b o h => hb.frozen (p := ⟨b, o, none⟩) h⟩

theorem digits_small (u : Nat) (hu : u < 10) (w : World) :
    Calls Tryd.prog 29 #[.int .u64 u] w fun e w' => e = .returned (.string (BA (Lib.decDigits u))) ∧ Below w.heap.size w w' := by
  have h1 : (u : Int) < 10 := by omega
  have hcv := conv_new
  have hr : Hid ((⟨#[UInt8.ofNat (48 + (u : Int)).toNat]⟩ : ByteArray) = BA (Lib.decDigits u)) := by
    show _ = _
    rw [Lib.decDigits, dif_pos hu, show (48 + (u : Int)).toNat = 48 + u by omega]; rfl
  clear hu
  go_enter Tryd.func29, Tryd.ntmps29
  go_wp2
  go_ret
  exact ⟨retS hr.out, bel_al (Below.refl _ _) _⟩

set_option maxHeartbeats 1000000 in
theorem digits_big (u : Nat) (hu : ¬ u < 10) (h2 : u < 18446744073709551616) (w : World) (ih : ∀ w, Calls Tryd.prog 29 #[.int .u64 ((u / 10 : Nat) : Int)] w fun e w' => e = .returned (.string (BA (Lib.decDigits (u / 10)))) ∧ Below w.heap.size w w') :
    Calls Tryd.prog 29 #[.int .u64 u] w fun e w' => e = .returned (.string (BA (Lib.decDigits u))) ∧ Below w.heap.size w w' := by
  have h1 : 10 ≤ (u : Int) := by omega
  have hl : (BA (Lib.decDigits (u / 10))).size ≤ 19 := by rw [BA_size]; exact nDig_le _ (by omega)
  have hr : Hid (BA (Lib.decDigits (u / 10)) ++ (⟨#[UInt8.ofNat (48 + (u : Int) % 10).toNat]⟩ : ByteArray) = BA (Lib.decDigits u)) := by
    show _ = _
    have e : (⟨#[UInt8.ofNat (48 + (u : Int) % 10).toNat]⟩ : ByteArray) = BA [UInt8.ofNat (48 + u % 10)] := by
      rw [show (48 + (u : Int) % 10).toNat = 48 + u % 10 by omega]; rfl
    rw [e, BA_app2, BA_list]
    conv => rhs; rw [Lib.decDigits, dif_neg hu]
  obtain ⟨q, hq⟩ : ∃ q : Int, ((u / 10 : Nat) : Int) = q := ⟨_, rfl⟩
  have hq2 : (u : Int) / 10 = q := by omega
  rw [hq] at ih
  obtain ⟨r, hR⟩ : ∃ r : Int, (u : Int) % 10 = r := ⟨_, rfl⟩
  have r0 : 0 ≤ r := by omega
  have r1 : r ≤ 9 := by omega
  rw [hR] at hr
  have hw : IntKind.u64.wrap (48 + r) = 48 + r := by rw [IntKind.wrap_u64]; omega
  have hw8 : IntKind.u8.wrap (48 + r) = 48 + r := by rw [IntKind.wrap_u8]; omega
  have hcv := fun w n => conv_at w n (48 + r)
  generalize BA (Lib.decDigits (u / 10)) = t at *
  generalize BA (Lib.decDigits u) = x at *
  obtain ⟨U, hU⟩ : ∃ U : Int, (u : Int) = U := ⟨_, rfl⟩
  have hU2 : U ≤ 18446744073709551615 := by omega
  have hU0 : 0 ≤ U := by omega
  rw [hU] at h1 hq2 hR ⊢
  clear hq hu h2 hU
  have HH := Lib.hid hq2
  have hq3 : U.tdiv 10 = q := by rw [Int.tdiv_eq_ediv_of_nonneg (by omega)]; exact hq2
  have hR3 : U.tmod 10 = r := by rw [Int.tmod_eq_emod_of_nonneg (by omega)]; exact hR
  have hwq : IntKind.u64.wrap q = q := by rw [IntKind.wrap_u64]; omega
  go_enter Tryd.func29, Tryd.ntmps29
  go_wp2_with fail
  go_region_with (go_at_call 29; ((with_reducible refine (ih _).mono ?_); rintro e w2 ⟨rfl, hb⟩; obtain ⟨hc, hf⟩ := bcell hb))
  all_goals go_wp2
  all_goals go_simp
  all_goals go_ret
  all_goals
    refine ⟨retS hr.out, ?_⟩
    first
      | exact bel_al (bel_trans (Below.refl _ _).drew hb) _
      | exact (bel_al (bel_trans (Below.refl _ _).drew hb) _).drew
      | exact bel_trans (bel_al (Below.refl _ _) _).drew hb
      | exact bel_trans (bel_al (Below.refl _ _).drew _) hb
      | skip
theorem digits_any (u : Nat) (hu : u < 18446744073709551616) : ∀ (w : World),
    Calls Tryd.prog 29 #[.int .u64 u] w fun e w' => e = .returned (.string (BA (Lib.decDigits u))) ∧ Below w.heap.size w w' := by
  induction u using Nat.strongRecOn with
  | _ u ih =>
    intro w
    by_cases h : u < 10
    · exact digits_small u h w
    · exact digits_big u h hu w (ih (u / 10) (by omega) (by omega))
theorem digits_at (m : Int) (u : Nat) (h : m = (u : Int)) (hu : u < 18446744073709551616) (w : World) :
    Calls Tryd.prog 29 #[.int .u64 m] w fun e w' => e = .returned (.string (BA (Lib.decDigits u))) ∧ Below w.heap.size w w' := by
  subst h; exact digits_any u hu w
theorem bdigits_any (n : Int) (n0 : -9223372036854775808 ≤ n) (n1 : n ≤ 9223372036854775807) (w : World) :
    Calls Tryd.prog 19 #[.int .i64 n] w fun e w' => e = .returned (.string (BA (Lib.itoa n))) ∧ Below w.heap.size w w' := by
  by_cases h : n < 0
  · have c1 := digits_at (-(n + 1) + 1) n.natAbs (by omega) (by omega)
    have hl : (BA (Lib.decDigits n.natAbs)).size ≤ 19 := by rw [BA_size]; exact nDig_le _ (by omega)
    have hr : Hid ((⟨#[45]⟩ : ByteArray) ++ BA (Lib.decDigits n.natAbs) = BA (Lib.itoa n)) := by
      show _ = _
      rw [BA_app2, itoa_neg h]; rfl
    generalize BA (Lib.decDigits n.natAbs) = t at *
    generalize BA (Lib.itoa n) = x at *
    go_enter Tryd.func19, Tryd.ntmps19
    go_wp2_with (go_at_call 29; ((with_reducible refine (c1 _).mono ?_); rintro e w2 ⟨rfl, hb⟩))
    go_ret
    exact ⟨retS hr.out, hb⟩
  · have c1 := digits_at n n.toNat (by omega) (by omega)
    rw [itoa_pos (by omega)]
    have h0 : 0 ≤ n := by omega
    clear h
    generalize BA (Lib.decDigits n.toNat) = t at *
    go_enter Tryd.func19, Tryd.ntmps19
    go_wp2_with (go_at_call 29; ((with_reducible refine (c1 _).mono ?_); rintro e w2 ⟨rfl, hb⟩))
    go_ret
    exact ⟨rfl, hb⟩

def errT (x y : Int) : ByteArray := (⟨#[101, 114, 114, 111, 114, 32]⟩ : ByteArray) ++ BA (Lib.itoa x) ++ ⟨#[32, 97, 116, 32]⟩ ++ BA (Lib.itoa y)
theorem refText_any (x y : Int) (x0 : -9223372036854775808 ≤ x) (x1 : x ≤ 9223372036854775807) (y0 : -9223372036854775808 ≤ y) (y1 : y ≤ 9223372036854775807) (w : World) :
    Calls Tryd.prog 10 #[.int .i64 x, .int .i64 y] w fun e w' => e = .returned (.string (errT x y)) ∧ Below w.heap.size w w' := by
  have c1 := bdigits_any x x0 x1
  have c2 := bdigits_any y y0 y1
  have s1 : (BA (Lib.itoa x)).size ≤ 20 := by rw [BA_size]; exact itoa_len x0 x1
  have s2 : (BA (Lib.itoa y)).size ≤ 20 := by rw [BA_size]; exact itoa_len y0 y1
  have hr : Hid ((⟨#[101, 114, 114, 111, 114, 32]⟩ : ByteArray) ++ BA (Lib.itoa x) ++ ⟨#[32, 97, 116, 32]⟩ ++ BA (Lib.itoa y) = errT x y) := rfl
  generalize BA (Lib.itoa x) = X at *
  generalize BA (Lib.itoa y) = Y at *
  have q1 : ((⟨#[101, 114, 114, 111, 114, 32]⟩ : ByteArray) ++ X).size = 6 + X.size := by rw [ByteArray.size_append]; rfl
  have q2 : ((⟨#[101, 114, 114, 111, 114, 32]⟩ : ByteArray) ++ X ++ (⟨#[32, 97, 116, 32]⟩ : ByteArray)).size = 6 + X.size + 4 := by rw [ByteArray.size_append, q1]; rfl
  generalize errT x y = Z at *
  go_enter Tryd.func10, Tryd.ntmps10
  go_wp2_with (first
    | (go_at_call 19; ((with_reducible refine (c1 _).mono ?_); rintro e w2 ⟨rfl, hb1⟩))
    | (go_at_call 19; ((with_reducible refine (c2 _).mono ?_); rintro e w3 ⟨rfl, hb2⟩)))
  go_ret
  exact ⟨retS hr.out, bel_trans hb1 hb2⟩
end Go.Proofs.YthhdhhebelmimaaDoor.Flt
