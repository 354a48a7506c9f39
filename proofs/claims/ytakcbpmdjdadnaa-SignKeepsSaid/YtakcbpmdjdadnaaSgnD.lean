/-
  What is proved: the first error of a function, by the document's answers.
-/
import Derived.Test.YtakcbpmdjdadnaaSgnC
namespace Go.Proofs.Ytakcbpmdjdadnaa.Sgn
open Go.RowKit L Srt
set_option linter.unusedVariables false
set_option linter.unusedSimpArgs false

set_option maxHeartbeats 4000000 in
theorem refCheck_any (a : Option Addr) (n c : Nat) (S : List ByteArray) (b : Option Addr) (m d : Nat) (f : Fm) (w : World) (hS : SlS w a n c S) (hn : n ≤ 1000000) (hf : f.ok w) (hC : okC f.core) :
    Calls Try.prog 14 #[.agg #[.slice a n c, .slice b m d], .agg #[.string f.name, .slice f.a f.m f.c, .string f.res]] w fun e w' => e = .returned (.int .i64 (checkE S f.core)) ∧ Below w.heap.size w w' := by
  obtain ⟨W2, hW2, hB2, S2, F2⟩ := boxes w a n c b m d f.name f.a f.m f.c f.res
  have hz := hC.1
  have hm8 : f.m ≤ 1000000 := by rw [hf.1.1]; exact hC.2.2.1
  have cN := fun (w : World) => baseName_any f.name w (by have : f.name.size ≤ 9223372036854775000 := hz; omega)
  have cW := fun (w : World) => refWord_any f.name w
  have cK : ∀ (x : ByteArray) w', Below w.heap.size w w' → Calls Try.prog 40 #[.slice a n c, .string x] w' fun e w1 => e = .returned (.bool (knownB S x)) ∧ w1 = w' := fun x w' h => (refKnown_any a n c S x w' (hS.below h).1 (by omega)).mono fun e w1 ⟨h, g⟩ => ⟨h, g.symm⟩
  have cI : ∀ w', Below w.heap.size w w' → IsS w' f.a f.m f.X := fun w' h => (hf.below h).1
  have hE : checkE S f.core = if nmB f.name = false then 10 else if 8 < f.m then 12 else if f.X.any (unfitB S) = true then 11 else if knownB S f.res = false then 11 else 0 := by
    unfold checkE Fm.core; rw [hf.1.1]
  unfold nmB at hE
  have hst : ∀ k x, f.X[k]? = some x → (f.X.drop k).any (unfitB S) = (unfitB S x || (f.X.drop (k + 1)).any (unfitB S)) := fun k x h => by
    obtain ⟨hk, rfl⟩ := List.getElem?_eq_some_iff.1 h
    rw [List.drop_eq_getElem_cons hk, List.any_cons]
  have he : ∀ k, f.m ≤ k → (f.X.drop k).any (unfitB S) = false := fun k h => by rw [List.drop_eq_nil_of_le (by rw [← hf.1.1]; exact h)]; rfl
  have h0 : f.X.any (unfitB S) = (f.X.drop 0).any (unfitB S) := rfl
  rw [h0] at hE
  obtain ⟨F, hF⟩ : ∃ F : Nat → Bool, ∀ k, (f.X.drop k).any (unfitB S) = F k := ⟨_, fun _ => rfl⟩
  simp only [hF] at hst he hE
  clear hF h0
  generalize checkE S f.core = E at *
  generalize nameB f.name.data.toList = N at *
  generalize wordB f.name.data.toList = Wd at *
  obtain ⟨s0, s1⟩ := S2.two
  obtain ⟨f0, f1, f2⟩ := F2.three
  clear hS hf hC hz
  have leaf : (E = 10 ∧ N = false) ∨ (E = 10 ∧ N = true ∧ Wd = true) ∨ (N = true ∧ Wd = false ∧ E = 12 ∧ 8 < f.m) ∨ (N = true ∧ Wd = false ∧ ¬ 8 < f.m ∧ E = if F 0 = true then 11 else if knownB S f.res = false then 11 else 0) := by
    by_cases h8 : 8 < f.m
    · cases N <;> cases Wd <;> simp [h8] at hE ⊢ <;> exact hE
    · cases N <;> cases Wd <;> simp [h8] at hE ⊢ <;> exact hE
  clear hE
  generalize f.a = A at *
  generalize f.m = M at *
  generalize f.c = Cc at *
  generalize f.name = nm at *
  generalize f.res = rs at *
  generalize f.X = X at *
  rcases leaf with ⟨rfl, rfl⟩ | ⟨rfl, rfl, rfl⟩ | ⟨rfl, rfl, rfl, h8⟩ | ⟨rfl, rfl, h8, hE⟩
  any_goals
    try (have h9 : 8 < (M : Int) := by omega)
    clear hst he cI cK
    go_enter Try.func14, Try.ntmps14
    go_wp2_with (first
      | (go_at_call 38; ((with_reducible refine (cN _).mono ?_); rintro e w' ⟨rfl, rfl⟩))
      | (go_at_call 39; ((with_reducible refine (cW _).mono ?_); rintro e w1 ⟨rfl, hb1⟩; have S1 := S2.b hb1; have F1 := F2.b hb1; have B1 := bel_trans hB2 hb1; obtain ⟨s10, s11⟩ := S1.two; obtain ⟨f10, f11, f12⟩ := F1.three)))
    go_ret
    first | exact ⟨rfl, B1⟩ | exact ⟨rfl, hB2⟩
  have h9 : ¬ 8 < (M : Int) := by omega
  have Hst := Lib.hid hst
  have He := Lib.hid he
  have HK := Lib.hid cK
  have HI := Lib.hid cI
  have HE := Lib.hid hE
  clear hst he cK cI hE
  go_enter Try.func14, Try.ntmps14
  go_wp2_with (first
    | (go_at_call 38; ((with_reducible refine (cN _).mono ?_); rintro e w' ⟨rfl, rfl⟩))
    | (go_at_call 39; ((with_reducible refine (cW _).mono ?_); rintro e w1 ⟨rfl, hb1⟩; have S1 := S2.b hb1; have F1 := F2.b hb1; have B1 := bel_trans hB2 hb1; obtain ⟨s10, s11⟩ := S1.two; obtain ⟨f10, f11, f12⟩ := F1.three)))
  clear cN cW
  go_loopw [5] (fun i wr0 => ∃ (wr : World) (k : Nat), wr = wr0 ∧ k ≤ M ∧ i = .int .i64 k ∧ Below w.heap.size w wr ∧ SBox wr w.heap.size a n c b m d ∧ FBox wr (w.heap.size + 1) nm A M Cc rs ∧ Hid (F k = F 0)) (fun i _ => M - (intOf i).toNat)
  case atStart => exact ⟨_, 0, rfl, by omega, rfl, B1, S1, F1, Lib.hid rfl⟩
  case round =>
    obtain ⟨wr, k, rfl, hk, rfl, hB, Sk, Fk, hR⟩ := hrel
    obtain ⟨t0, t1⟩ := Sk.two
    obtain ⟨g0, g1, g2⟩ := Fk.three
    by_cases hlt : k < M
    · obtain ⟨bb, o, x, rfl, hb, y1, hx, _⟩ := (HI.out wr hB).at hlt
      have hs1 := Hst.out k x hx
      have ck := fun w' h => HK.out x w' (bel_trans hB h)
      have HE0 : Hid (F 0 = true → E = 11) := fun h => by have := HE.out; rw [if_pos h] at this; exact this
      clear hx Hst HI HK He HE
      have hk0 : 0 ≤ (k : Int) := by omega
      have hk1 : (k : Int) < (M : Int) := by omega
      unfold unfitB at hs1
      generalize knownB S x = R at *
      cases R with
      | false =>
        have hnew : Hid (true = F 0) := by show _ = _; rw [← hR.out, hs1]; simp
        clear hR hs1
        go_wp2
        go_quiet ((go_at_call 40; exact Calls.quiet_of_same (ck _ (below_drewN (Below.refl _ _) _))))
        go_wp2
        go_ret
        exact ⟨ret (HE0.out hnew.out.symm), below_drewN hB _⟩
      | true =>
        cases hbo : x.toList == [66, 111, 111, 108] with
        | true =>
          have hbo2 : (x.toList = [66, 111, 111, 108]) = True := by simpa using hbo
          have hnew : Hid (true = F 0) := by show _ = _; rw [← hR.out, hs1, hbo]; simp
          clear hR hs1
          go_wp2
          go_quiet ((go_at_call 40; exact Calls.quiet_of_same (ck _ (below_drewN (Below.refl _ _) _))))
          go_wp2
          go_ret
          exact ⟨ret (HE0.out hnew.out.symm), below_drewN hB _⟩
        | false =>
          have hbo2 : (x.toList = [66, 111, 111, 108]) = False := by simpa using hbo
          have hnew : Hid (F (k + 1) = F 0) := by show _ = _; rw [← hR.out, hs1, hbo]; simp
          clear hR hs1
          go_wp2
          go_quiet ((go_at_call 40; exact Calls.quiet_of_same (ck _ (below_drewN (Below.refl _ _) _))))
          go_wp2
          go_roundw
          case rel => exact ⟨_, k + 1, rfl, by omega, by go_num, below_drewN hB _, Sk.b (below_drewN (Below.refl _ _) _), Fk.b (below_drewN (Below.refl _ _) _), hnew⟩
          case measure => simp [intOf]; omega
    · have hnew : F 0 = false := by rw [← hR.out, He.out k (by omega)]
      have ck := HK.out rs wr hB
      have hE := HE.out
      rw [hnew] at hE
      clear hR He HK HE HI Hst hnew
      generalize knownB S rs = R at *
      cases R with
      | false =>
        have hr : Hid (E = 11) := by show _ = _; simpa using hE
        clear hE
        go_wp2_with (go_at_call 40; ((with_reducible refine ck.mono ?_); rintro e w' ⟨rfl, rfl⟩))
        go_ret
        exact ⟨ret hr.out, hB⟩
      | true =>
        have hr : Hid (E = 0) := by show _ = _; simpa using hE
        clear hE
        go_wp2_with (go_at_call 40; ((with_reducible refine ck.mono ?_); rintro e w' ⟨rfl, rfl⟩))
        go_ret
        exact ⟨ret hr.out, hB⟩
end Go.Proofs.Ytakcbpmdjdadnaa.Sgn
