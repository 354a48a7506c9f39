/-
  What is proved: what the document's own answers for package digit return.
-/
import Derived.Test.YthchjceibpcgbaaDoorDgO
import Derived.Deep.RegionWith
import Derived.Laws.BytesArg
import Derived.Laws.IdiomStrings
namespace Go.Proofs.YthchjceibpcgbaaDoor.Dig
open Go.RowKit
set_option linter.unusedVariables false
set_option linter.unusedSimpArgs false

theorem conv_at (w : World) (n : Nat) (v : Int) (h : w.cell? ⟨n, 0, none⟩ = some (.int .u8 v)) :
    (convert 41 9 (.slice (some ⟨n, 0, none⟩) 1 1)).run Tryd.prog w = .ok (.string ⟨#[UInt8.ofNat v.toNat]⟩) w := by
  rw [run_convert_bytes_arg w 41 5 Tryd.underlying41 Tryd.underlying5 n 0 1 1 [v] rfl (fun i hi => by
    have : i = 0 := by omega
    subst this
    exact h) 9 Tryd.underlying9]
  rfl
theorem conv_new (w : World) (v : Int) :
    (convert 41 9 (.slice (some ⟨w.heap.size, 0, none⟩) 1 1)).run Tryd.prog (w.alloc (.cells #[.int .u8 v] 5)) = .ok (.string ⟨#[UInt8.ofNat v.toNat]⟩) (w.alloc (.cells #[.int .u8 v] 5)) :=
  conv_at _ _ _ (by rw [World.cell?_alloc_mark]; rfl)
theorem retS {a b : ByteArray} (h : a = b) : Ending.returned (.string a) = .returned (.string b) := by rw [h]

theorem digits_small (u : Nat) (hu : u < 10) (w : World) :
    Calls Tryd.prog 45 #[.int .u64 u] w fun e w' => e = .returned (.string (BA (Lib.decDigits u))) ∧ Below w.heap.size w w' := by
  have h1 : (u : Int) < 10 := by omega
  have hcv := conv_new
  have hr : Hid ((⟨#[UInt8.ofNat (48 + (u : Int)).toNat]⟩ : ByteArray) = BA (Lib.decDigits u)) := by
    show _ = _
    rw [Lib.decDigits, dif_pos hu, show (48 + (u : Int)).toNat = 48 + u by omega]; rfl
  clear hu
  go_enter Tryd.func45, Tryd.ntmps45
  go_wp2
  go_ret
  exact ⟨retS hr.out, bel_alloc (Below.refl _ _) _⟩

set_option maxHeartbeats 1000000 in
theorem digits_big (u : Nat) (hu : ¬ u < 10) (h2 : u < 18446744073709551616) (w : World) (ih : ∀ w, Calls Tryd.prog 45 #[.int .u64 ((u / 10 : Nat) : Int)] w fun e w' => e = .returned (.string (BA (Lib.decDigits (u / 10)))) ∧ Below w.heap.size w w') :
    Calls Tryd.prog 45 #[.int .u64 u] w fun e w' => e = .returned (.string (BA (Lib.decDigits u))) ∧ Below w.heap.size w w' := by
  have h1 : 10 ≤ (u : Int) := by omega
  have hl : (BA (Lib.decDigits (u / 10))).size ≤ 19 := by rw [BA_size]; exact nDig_le _ (by omega)
  have hr : Hid (BA (Lib.decDigits (u / 10)) ++ (⟨#[UInt8.ofNat (48 + (u : Int) % 10).toNat]⟩ : ByteArray) = BA (Lib.decDigits u)) := by
    show _ = _
    have e : (⟨#[UInt8.ofNat (48 + (u : Int) % 10).toNat]⟩ : ByteArray) = BA [UInt8.ofNat (48 + u % 10)] := by
      rw [show (48 + (u : Int) % 10).toNat = 48 + u % 10 by omega]; rfl
    rw [e, BA_app, BA_list]
    conv => rhs; rw [Lib.decDigits, dif_neg hu]
  obtain ⟨q, hq⟩ : ∃ q : Int, ((u / 10 : Nat) : Int) = q := ⟨_, rfl⟩
  have hq2 : (u : Int) / 10 = q := by omega
  rw [hq] at ih
  obtain ⟨r, hR⟩ : ∃ r : Int, (u : Int) % 10 = r := ⟨_, rfl⟩
  have r0 : 0 ≤ r := by omega
  have r1 : r ≤ 9 := by omega
  rw [hR] at hr
  have hw : IntKind.u64.wrap (48 + r) = 48 + r := by rw [IntKind.wrap_u64]; omega
  have hw8 : IntKind.u8.wrap (48 + r) = 48 + r := by rw [IntKind.wrap_u8]; omega
  have hcv := fun w n => conv_at w n (48 + r)
  generalize BA (Lib.decDigits (u / 10)) = t at *
  generalize BA (Lib.decDigits u) = x at *
  obtain ⟨U, hU⟩ : ∃ U : Int, (u : Int) = U := ⟨_, rfl⟩
  have hU2 : U ≤ 18446744073709551615 := by omega
  have hU0 : 0 ≤ U := by omega
  rw [hU] at h1 hq2 hR ⊢
  clear hq hu h2 hU
  have HH := Lib.hid hq2
  have hq3 : U.tdiv 10 = q := by rw [Int.tdiv_eq_ediv_of_nonneg (by omega)]; exact hq2
  have hR3 : U.tmod 10 = r := by rw [Int.tmod_eq_emod_of_nonneg (by omega)]; exact hR
  have hwq : IntKind.u64.wrap q = q := by rw [IntKind.wrap_u64]; omega
  go_enter Tryd.func45, Tryd.ntmps45
  go_wp2_with fail
  go_region_with (go_at_call 45; ((with_reducible refine (ih _).mono ?_); rintro e w2 ⟨rfl, hb⟩; obtain ⟨hc, hf⟩ := bcell hb))
  all_goals go_wp2
  all_goals go_simp
  all_goals go_ret
  all_goals
    refine ⟨retS hr.out, ?_⟩
    first
      | exact bel_alloc (bel_trans (Below.refl _ _).drew hb) _
      | exact (bel_alloc (bel_trans (Below.refl _ _).drew hb) _).drew
      | exact bel_trans (bel_alloc (Below.refl _ _) _).drew hb
      | exact bel_trans (bel_alloc (Below.refl _ _).drew _) hb
      | skip
end Go.Proofs.YthchjceibpcgbaaDoor.Dig
