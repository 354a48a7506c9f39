/-
  What is proved: the document's more of layer 11 at a pattern that is one of the variables.
-/
import Derived.Test.YtghpoeckhfeicaaGreatMI
import Derived.Test.YtghpoeckhfeicaaGreatZLibHs
import Derived.Test.YtghpoeckhfeicaaGreatBL
import Derived.Deep.RegionHeld3
namespace Go.Proofs.YtghpoeckhfeicaaGreat.Mt
open Go.RowKit L T C B U
set_option linter.unusedVariables false
set_option linter.unusedSimpArgs false

theorem mat_rw (X : List ByteArray) (p : Tm) (l : List Pr) (t : Tm) : mat X p l t = if opT p = 1 ∧ hasS X (nameT p) = true then (match getU l (nameT p) with | some u => if eqT u t then some l else none | none => if mayT t then some (putL l ⟨nameT p, t⟩) else none) else if opT p = opT t ∧ nameT p = nameT t ∧ numT p = numT t ∧ (argsT p).length = (argsT t).length then mats X (argsT p) l (argsT t) else none := by
  cases p; rw [mat]; rfl
/-- what there is now, or that there is none -/
def RtK (r : Option (List Pr)) (w : World) (e : Ending) (w' : World) : Prop := ∃ A N C, e = .returned (.tuple #[.slice A N C, .bool r.isSome]) ∧ (∀ l', r = some l' → UsW w' A N C l') ∧ Below w.heap.size w w'
def MoreOk (X : List ByteArray) (p : Tm) : Prop := ∀ (l : List Pr) (t : Tm) (b : Option Addr) (m d : Nat) (a : Option Addr) (n c : Nat) (a' : Option Addr) (n' c' : Nat) (aX : Option Addr) (nX cX : Nat) (w : World),
  l.length + size p ≤ 1000000 → UsW w b m d l → ArW w p a n c → ArW w t a' n' c' → IsS w aX nX X → nX ≤ 9223372036854775807 →
  Calls Tryz.prog 86 #[.slice b m d, .agg #[.int .i64 (opT p), .string (nameT p), .int .i64 (numT p), .slice a n c], .agg #[.int .i64 (opT t), .string (nameT t), .int .i64 (numT t), .slice a' n' c'], .slice aX nX cX] w fun e w' => RtK (mat X p l t) w e w'
set_option maxRecDepth 100000 in
set_option maxHeartbeats 8000000 in
theorem more_var (X : List ByteArray) (p : Tm) (hv : opT p = 1 ∧ hasS X (nameT p) = true) : MoreOk X p := by
  intro l t b m d a n c a' n' c' aX nX cX w hsz hG hP hT hX hnX
  obtain ⟨W2, hW2, hB2, hs2, S2, T2⟩ := box2 w (opT p) (nameT p) (numT p) a n c (opT t) (nameT t) (numT t) a' n' c'
  have hG2 := UsW.b hG hB2
  have hT2 := ArW.b hT hB2
  have c1 := Has_any aX nX cX X (nameT p) W2 (hX.below hB2) hnX
  have c2 := Get11_any l (nameT p) b m d W2 hG2
  have hR := mat_rw X p l t
  rw [if_pos hv] at hR
  obtain ⟨hv1, hv2⟩ := hv
  rw [hv2] at c1
  have hll : l.length ≤ 1000000 := by omega
  rw [hv1] at S2 hW2 ⊢
  obtain ⟨s0, s1, s2, s3⟩ := S2.four
  obtain ⟨t0, t1, t2, t3⟩ := T2.four
  have HS := Lib.hid S2
  have HT := Lib.hid T2
  cases hg : getU l (nameT p) with
  | some u =>
    rw [hg] at hR
    have c2' : Calls Tryz.prog 131 #[.slice b m d, .string (nameT p)] W2 fun e w' => ∃ (A : Option Addr) (N C : Nat), e = .returned (.tuple #[.agg #[.int .i64 (opT u), .string (nameT u), .int .i64 (numT u), .slice A N C], .bool true]) ∧ ArW w' u A N C ∧ Below W2.heap.size W2 w' := c2.mono fun e w' h => by
      rcases h with ⟨u', A, N, C, h1, h2, h3, h4⟩ | ⟨h1, _⟩
      · rw [hg] at h1; injection h1 with h1; subst h1; exact ⟨A, N, C, h2, h3, h4⟩
      · rw [hg] at h1; cases h1
    have cT := fun (A : Option Addr) (N C : Nat) (w' : World) (hb : Below W2.heap.size W2 w') (hA : ArW w' u A N C) => Term_any u t A N C a' n' c' w' hA (ArW.b hT2 hb)
    have HFin := Lib.hid (show ∀ (w' : World), Below W2.heap.size W2 w' → RtK (mat X p l t) w (.returned (.tuple #[.slice b m d, .bool (eqT u t)])) w' from fun w' hb => by
      refine ⟨b, m, d, ?_, fun l' h => ?_, bel_trans hB2 hb⟩
      · rw [hR]; cases hE : eqT u t <;> simp [hE]
      · rw [hR] at h
        simp only at h
        split at h
        · injection h with h; subst h; exact UsW.b hG2 hb
        · cases h)
    clear c2 hR hG hP hT hX hG2 hT2 hg hsz hll S2 T2
    generalize mat X p l t = R at *
    generalize eqT u t = E at *
    generalize opT u = ou at *
    generalize nameT u = nu at *
    generalize numT u = zu at *
    generalize nameT p = nm at *
    generalize numT p = nz at *
    generalize opT t = ot at *
    generalize nameT t = nt at *
    generalize numT t = zt at *
    go_enter Tryz.func86, Tryz.ntmps86
    go_wp2_with (first
      | (go_at_call 13; ((with_reducible refine c1.mono ?_); rintro e w1 ⟨rfl, rfl⟩))
      | (go_at_call 131; ((with_reducible refine c2'.mono ?_); rintro e w3 ⟨A, N, C, rfl, hA, hb3⟩; have HA := Lib.hid hA; clear hA; obtain ⟨k0, k1, k2, k3⟩ := (TBox.b HT.out (bel_alloc hb3 (.cells #[.int .i64 ou, .string nu, .int .i64 zu, .slice A N C] 31))).four))
      | (go_at_call 21; ((with_reducible refine (cT A N C _ (bel_alloc hb3 _) (ArW.b HA.out (bel_alloc (Below.refl _ _) _))).mono ?_); rintro e w4 ⟨rfl, hb4⟩; have B4 := bel_trans (bel_alloc hb3 _) hb4)))
    go_ret2
    exact HFin.out _ B4
  | none =>
    rw [hg] at hR
    have c2' : Calls Tryz.prog 131 #[.slice b m d, .string (nameT p)] W2 fun e w' => e = .returned (.tuple #[.agg #[.int .i64 0, .string ⟨#[]⟩, .int .i64 0, .slice none 0 0], .bool false]) ∧ Below W2.heap.size W2 w' := c2.mono fun e w' h => by
      rcases h with ⟨u', A, N, C, h1, h2, h3, h4⟩ | ⟨_, h2, h3⟩
      · rw [hg] at h1; cases h1
      · exact ⟨h2, h3⟩
    have cM := fun (w' : World) (hb : Below W2.heap.size W2 w') => May11_any t a' n' c' w' (ArW.b hT2 hb)
    have cP := fun (w' : World) (hb : Below W2.heap.size W2 w') => Put11_any l ⟨nameT p, t⟩ b m d a' n' c' w' hll (UsW.b hG2 hb) (ArW.b hT2 hb)
    cases hM : mayT t with
    | true =>
      have HFin := Lib.hid (show ∀ (w4 w' : World) (e : Ending), Below W2.heap.size W2 w4 → PutP l ⟨nameT p, t⟩ w4 e w' → ∃ (A : Option Addr) (C : Nat), e = .returned (.slice A (l.length + 1) C) ∧ Hid (RtK (mat X p l t) w (.returned (.tuple #[.slice A (l.length + 1) C, .bool true])) w') from fun w4 w' e h4 hp => by
        obtain ⟨A, C, h1, h2, h3⟩ := hp
        refine ⟨A, C, h1, Lib.hid ⟨A, l.length + 1, C, ?_, fun l' h => ?_, bel_trans hB2 (bel_trans h4 h3)⟩⟩
        · rw [hR]; simp [hM]
        · rw [hR] at h
          simp only [hM, if_true] at h
          injection h with h; subst h; exact h2)
      rw [hM] at cM
      clear c2 hR hG hP hT hX hG2 hT2 hg hsz hll S2 T2 hM
      generalize mat X p l t = R at *
      generalize nameT p = nm at *
      generalize numT p = nz at *
      generalize hot : opT t = ot at *
      generalize hnt : nameT t = nt at *
      generalize hzt : numT t = zt at *
      have cP' : ∀ w', Below W2.heap.size W2 w' → Calls Tryz.prog 132 #[.slice b m d, .agg #[.string nm, .int .i64 ot, .string nt, .int .i64 zt, .slice a' n' c']] w' fun e w2 => PutP l ⟨nm, t⟩ w' e w2 := fun w' h => by
        have := cP w' h
        simp only [hot, hnt, hzt] at this
        exact this
      clear cP hot hnt hzt
      go_enter Tryz.func86, Tryz.ntmps86
      go_wp2_with (first
        | (go_at_call 13; ((with_reducible refine c1.mono ?_); rintro e w1 ⟨rfl, rfl⟩))
        | (go_at_call 131; ((with_reducible refine c2'.mono ?_); rintro e w3 ⟨rfl, hb3⟩; obtain ⟨k0, k1, k2, k3⟩ := (TBox.b HT.out (bel_alloc hb3 (.cells #[.int .i64 0, .string ⟨#[]⟩, .int .i64 0, .slice none 0 0] 31))).four))
        | (go_at_call 28; ((with_reducible refine (cM _ (bel_alloc hb3 _)).mono ?_); rintro e w4 ⟨rfl, hb4⟩; have B4 := bel_trans (bel_alloc hb3 _) hb4; obtain ⟨r0, r1, r2, r3⟩ := (TBox.b HT.out B4).four; obtain ⟨f0, f1, f2, f3⟩ := (TBox.b HS.out B4).four))
        | (go_at_call 132; ((with_reducible refine (cP' _ B4).mono ?_); rintro e w5 h5; obtain ⟨A5, C5, rfl, hfin⟩ := HFin.out _ _ _ B4 h5; clear h5)))
      go_ret2
      exact hfin.out
    | false =>
      have HFin := Lib.hid (show ∀ (w' : World), Below W2.heap.size W2 w' → RtK (mat X p l t) w (.returned (.tuple #[.slice none 0 0, .bool false])) w' from fun w' hb => by
        refine ⟨none, 0, 0, ?_, fun l' h => ?_, bel_trans hB2 hb⟩
        · rw [hR]; simp [hM]
        · rw [hR] at h
          simp [hM] at h)
      rw [hM] at cM
      clear c2 hR hG hP hT hX hG2 hT2 hg hsz hll S2 T2 hM cP
      generalize mat X p l t = R at *
      generalize nameT p = nm at *
      generalize numT p = nz at *
      generalize opT t = ot at *
      generalize nameT t = nt at *
      generalize numT t = zt at *
      go_enter Tryz.func86, Tryz.ntmps86
      go_wp2_with (first
        | (go_at_call 13; ((with_reducible refine c1.mono ?_); rintro e w1 ⟨rfl, rfl⟩))
        | (go_at_call 131; ((with_reducible refine c2'.mono ?_); rintro e w3 ⟨rfl, hb3⟩; obtain ⟨k0, k1, k2, k3⟩ := (TBox.b HT.out (bel_alloc hb3 (.cells #[.int .i64 0, .string ⟨#[]⟩, .int .i64 0, .slice none 0 0] 31))).four))
        | (go_at_call 28; ((with_reducible refine (cM _ (bel_alloc hb3 _)).mono ?_); rintro e w4 ⟨rfl, hb4⟩; have B4 := bel_trans (bel_alloc hb3 _) hb4)))
      go_ret2
      exact HFin.out _ B4
end Go.Proofs.YtghpoeckhfeicaaGreat.Mt
