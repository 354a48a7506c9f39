/-
  What is proved: package subst's Rename: another name for a variable of a claim.
-/
import Derived.Test.YtnhemglpbhnmdaaGreatZSbAc
import Derived.Test.YtnhemglpbhnmdaaGreatZSbRm
import Derived.Test.YtnhemglpbhnmdaaGreatZSbV
namespace Go.Proofs.YtnhemglpbhnmdaaGreat.U
open Go.RowKit L T C B
set_option linter.unusedVariables false
set_option linter.unusedSimpArgs false

theorem ren_us {w : World} {g : Nat} {a b : ByteArray} (h : UBox w g a 1 b 0 none 0 0) : UsW w (some ⟨g, 0, none⟩) 1 1 (ren1 a b) :=
  one_us (p := ⟨a, varT b⟩) h (g_ar 1 b 0 _ _)
set_option maxRecDepth 100000 in
set_option maxHeartbeats 4000000 in
theorem Rename_any (from_ to_ : ByteArray) (hf : from_.size ≤ maxLen) (t : Cl) (hst : smC t) (hsz : wt t ≤ 1000000) (ks : SS) (a : Option Addr) (n c : Nat) (w : World) (hA : ArWC w t ks a n c) :
    Calls Tryz.prog 9 #[.agg #[.int .i64 (opC t), .string (nmC t), .string (soC t), .slice ks.a ks.n ks.c, .slice a n c], .string from_, .string to_] w fun e w' => RtC (sbCl (ren1 from_ to_) 0 t) w e w' := by
  obtain ⟨W2, hW2, hB2, hs2, S2, R2⟩ := cbox_res w (opC t) (nmC t) (soC t) ks a n c
  obtain ⟨W3, hW3, hB3, hs3, U3⟩ := ubox1 W2 from_ 1 to_ 0 none 0 0
  have cc := ApplyClaim_any (ren1 from_ to_) (fun p hp => by rw [List.mem_singleton.1 hp]; show 1 + size (varT to_) ≤ 1000000; unfold varT; rw [size, sizes]; omega) (fun p hp => by rw [List.mem_singleton.1 hp]; exact hf) (by show 1 < maxLen; unfold maxLen; omega) t hst hsz (some ⟨W2.heap.size, 0, none⟩) 1 1 ks a n c W3 (ren_us U3) (ArWC.b (ArWC.b hA hB2) hB3)
  have hB23 := bel_trans hB2 hB3
  have S3 := CBox.b S2 hB3
  obtain ⟨s0, s1, s2, s3, s4⟩ := S3.five
  have HR := Lib.hid (CBox.b R2 hB3)
  have HFin := Lib.hid (show ∀ (e : Ending) (w3 : World), RtC (sbCl (ren1 from_ to_) 0 t) W3 e w3 → ∀ v0 v1 v2 v3 v4, RtC (sbCl (ren1 from_ to_) 0 t) w e (put5 w3 (w.heap.size + 1) v0 v1 v2 v3 v4) from fun e w3 h v0 v1 v2 v3 v4 => rtC_put h hB23 (by omega) (by omega) v0 v1 v2 v3 v4)
  obtain ⟨KA, KN, KC⟩ := ks
  dsimp only at *
  clear hA S2 R2 S3 hst hsz U3 hs2 hs3 hf
  unfold put5 at HFin
  generalize hr : sbCl (ren1 from_ to_) 0 t = r at *
  clear hr
  generalize opC t = op at *
  generalize nmC t = nm at *
  generalize soC t = nu at *
  go_enter Tryz.func9, Tryz.ntmps9
  go_wp2_with (go_at_call 23; ((with_reducible refine cc.mono ?_); rintro e w3 hF; have hfin := HFin.out e w3 hF; obtain ⟨K0, K1, K2, a3, n3, c3, rfl, hA3, hb3⟩ := hF; have Hn := Lib.hid hfin; clear hfin hA3; have R3 := CBox.b HR.out hb3; obtain ⟨r0, r1, r2, r3, r4⟩ := R3.free; obtain ⟨v0, v1, v2, v3, v4⟩ := R3.five; have F3 := CBox.put R3 (opC r) (nmC r) (soC r) ⟨K0, K1, K2⟩ a3 n3 c3; unfold put5 at F3; obtain ⟨x0, x1, x2, x3, x4⟩ := F3.five))
  simp [bodyPost, results, Tryz.results9, go_sem, x0, x1, x2, x3, x4]
  exact Hn.out _ _ _ _ _
end Go.Proofs.YtnhemglpbhnmdaaGreat.U
