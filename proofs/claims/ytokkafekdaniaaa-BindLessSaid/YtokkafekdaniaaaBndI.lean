/-
  What is proved: what package bind's Open, All and Ex return.
-/
import Derived.Test.YtokkafekdaniaaaBndH
namespace Go.Proofs.Ytokkafekdaniaaa.B
open Go.RowKit L T C
set_option linter.unusedVariables false
set_option linter.unusedSimpArgs false

set_option maxHeartbeats 1000000 in
theorem open_clos (t : Tm) (a0 : Option Addr) (n0 c0' : Nat) (gt K : Nat) (B0 : Nat) (w0 : World) (hn : gt < B0) (hBw : B0 ≤ w0.heap.size) (ct : TBox w0 gt (opT t) (nameT t) (numT t) a0 n0 c0') (hA : Ar B0 w0 t a0 n0 c0') (hsz : 1 + size t ≤ 1000000) :
    ClosOk 108 #[.pointer (some ⟨gt, 0, none⟩)] (fOpen t) K B0 w0 := by
  intro w g hs i h k hB hg hr hi hk0 hk1
  show Calls _ _ #[.pointer (some ⟨g, i * 4, none⟩), .int .i64 k, .pointer (some ⟨gt, 0, none⟩)] _ _
  obtain ⟨⟨c0, c1, c2, c3⟩, f0, f1, f2, f3⟩ := row_four hr hi
  have hgl := hr.lt
  have T0 : TBox w gt (opT t) (nameT t) (numT t) a0 n0 c0' := (hB.block gt hn).trans ct
  have hA0 : ArW w t a0 n0 c0' := Ar.mono (by have := hB.size; omega) t (Ar.bel hB t hA)
  have cl := loose_any h.op h.nm h.nu h.a h.n h.c k w
  have cL := fun (w' : World) (hb : Below w.heap.size w w') => Lift_any k t a0 n0 c0' w' hsz (ArW.b hA0 hb)
  have HT := Lib.hid T0
  have HS := Lib.hid (show ∀ w', Below w.heap.size w w' → fOpen t k h.op h.nm h.nu = .go h.nu → NodeOk (fOpen t) k w g hs i h (.returned (.bool true)) w' from fun w' b e => node_same hr hi b e)
  have HN := Lib.hid (show ∀ w' z, Below w.heap.size w w' → fOpen t k h.op h.nm h.nu = .go z → NodeOk (fOpen t) k w g hs i h (.returned (.bool true)) (w'.setCell ⟨g, i * 4 + 2, none⟩ (.int .i64 z)) from fun w' z b e => node_nu hr hi b z e)
  have HP := Lib.hid (show ∀ w2 w3 r a n c, Below w.heap.size w w2 → Below w2.heap.size w2 w3 → fOpen t k h.op h.nm h.nu = .put r → ArP (Nw 0 0 w2.heap.size w3.heap.size) w3 r a n c → NodeOk (fOpen t) k w g hs i h (.returned (.bool false)) (set4 w3 g i ⟨opT r, nameT r, numT r, a, n, c⟩) from fun w2 w3 r a n c b2 b3 e hA => node_put hr hi (bel_trans b2 b3) r _ e ⟨rfl, rfl, rfl, ArP.to (fun _ _ => rfl) (fun x hx => by have := b2.size; unfold Nw at hx ⊢; omega) r hA⟩)
  have hwk : fOpen t k h.op h.nm h.nu = if h.op = 2 ∧ k ≤ h.nu then (if wrap64 (h.nu - k) = 0 then .put (wk (fLift k 0) 0 t) else .go (wrap64 (h.nu - 1))) else .go h.nu := rfl
  unfold RtT at cL
  clear hr hi T0 hA0 ct hA
  generalize wk (fLift k 0) 0 t = r at *
  generalize h.op = op at *
  generalize h.nm = nm at *
  generalize h.nu = nu at *
  generalize h.a = a at *
  generalize h.n = n at *
  generalize h.c = c at *
  unfold set4 at HP
  dsimp only at HP
  by_cases h1 : op = 2 ∧ k ≤ nu
  · have e1 : lsV op k nu = wrap64 (nu - k) := by unfold lsV; rw [if_pos h1]
    have e2 : isLs op k nu = true := by unfold isLs; simp [h1]
    rw [e1, e2] at cl
    rw [if_pos h1] at hwk
    by_cases h2 : wrap64 (nu - k) = 0
    · rw [if_pos h2] at hwk
      have e3 := Lib.hid hwk
      rw [h2] at cl
      clear e1 e2 h1 h2 hwk
      generalize opT t = op' at *
      generalize nameT t = nm' at *
      generalize numT t = nu' at *
      go_enter Try.func108, Try.ntmps108
      go_wp2_with (first
        | (go_at_call 109; ((with_reducible refine cl.mono ?_); rintro e w2 ⟨rfl, hb2⟩; have T2 : TBox w2 gt op' nm' nu' a0 n0 c0' := TBox.b HT.out hb2; obtain ⟨v0, v1, v2, v3⟩ := T2.four; clear T2))
        | (go_at_call 110; ((with_reducible refine (cL w2 hb2).mono ?_); rintro e w3 ⟨a5, n5, c5, rfl, hA5, hb3⟩; have HA5 := Lib.hid hA5; clear hA5; have B3 := bel_trans hb2 hb3; have u0 := (B3.cell (p := ⟨g, i * 4, none⟩) hgl).trans c0; have u1 := (B3.cell (p := ⟨g, i * 4 + 1, none⟩) hgl).trans c1; have u2 := (B3.cell (p := ⟨g, i * 4 + 2, none⟩) hgl).trans c2; have u3 := (B3.cell (p := ⟨g, i * 4 + 3, none⟩) hgl).trans c3; have z0 := (B3.frozen (p := ⟨g, i * 4, none⟩) hgl).trans f0; have z1 := (B3.frozen (p := ⟨g, i * 4 + 1, none⟩) hgl).trans f1; have z2 := (B3.frozen (p := ⟨g, i * 4 + 2, none⟩) hgl).trans f2; have z3 := (B3.frozen (p := ⟨g, i * 4 + 3, none⟩) hgl).trans f3)))
      go_ret
      exact HP.out w2 w3 r a5 n5 c5 hb2 hb3 e3.out HA5.out
    · rw [if_neg h2] at hwk
      have e3 := Lib.hid hwk
      have q1 : (wrap64 (nu - k) == 0) = false := by simp [h2]
      clear e1 e2 h1 h2 hwk
      generalize wrap64 (nu - k) = m at *
      go_enter Try.func108, Try.ntmps108
      go_wp2_with (go_at_call 109; ((with_reducible refine cl.mono ?_); rintro e w2 ⟨rfl, hb2⟩; have v3 := (hb2.cell (p := ⟨g, i * 4 + 2, none⟩) hgl).trans c2; have v4 := (hb2.frozen (p := ⟨g, i * 4 + 2, none⟩) hgl).trans f2))
      go_ret
      exact HN.out _ _ hb2 e3.out
  · have e1 : lsV op k nu = 0 := by unfold lsV; rw [if_neg h1]
    have e2 : isLs op k nu = false := by unfold isLs; simp [h1]
    rw [e1, e2] at cl
    rw [if_neg h1] at hwk
    have e3 := Lib.hid hwk
    clear e1 e2 h1 hwk
    go_enter Try.func108, Try.ntmps108
    go_wp2_with (go_at_call 109; ((with_reducible refine cl.mono ?_); rintro e w2 ⟨rfl, hb2⟩))
    go_ret
    exact HS.out _ hb2 e3.out
theorem openBoxes (w : World) (o : Int) (s z : ByteArray) (k : SS) (a : Option Addr) (n c : Nat) (o' : Int) (s' : ByteArray) (z' : Int) (a' : Option Addr) (n' c' : Nat) :
    ∃ W, ((w.alloc (.cells #[.int .i64 o, .string s, .string z, .slice k.a k.n k.c, .slice a n c] 43)).alloc (.cells #[.int .i64 o', .string s', .int .i64 z', .slice a' n' c'] 24)).alloc (.cells #[.int .i64 0, .string ⟨#[]⟩, .string ⟨#[]⟩, .slice none 0 0, .slice none 0 0] 43) = W ∧ Below w.heap.size w W ∧ W.heap.size = w.heap.size + 3 ∧ CBox W w.heap.size o s z k a n c ∧ TBox W (w.heap.size + 1) o' s' z' a' n' c' ∧ CBox W (w.heap.size + 1 + 1) 0 ⟨#[]⟩ ⟨#[]⟩ SS.nil none 0 0 := by
  have b1 : CBox _ _ o s z k a n c := CBox.new w o s z k a n c
  have b2 := TBox.new (w.alloc (.cells #[.int .i64 o, .string s, .string z, .slice k.a k.n k.c, .slice a n c] 43)) o' s' z' a' n' c'
  have b3 := CBox.new ((w.alloc (.cells #[.int .i64 o, .string s, .string z, .slice k.a k.n k.c, .slice a n c] 43)).alloc (.cells #[.int .i64 o', .string s', .int .i64 z', .slice a' n' c'] 24)) 0 ⟨#[]⟩ ⟨#[]⟩ SS.nil none 0 0
  simp only [World.size_alloc] at b2 b3
  exact ⟨_, rfl, bel_alloc (bel_alloc (bel_alloc (Below.refl _ _) _) _) _, by simp, Blk.alloc (Blk.alloc b1 _) _, Blk.alloc b2 _, b3⟩
set_option maxRecDepth 100000 in
set_option maxHeartbeats 4000000 in
theorem Open_any (t : Cl) (k : SS) (a : Option Addr) (n c : Nat) (u : Tm) (a' : Option Addr) (n' c' : Nat) (w : World) (hsz : wt t ≤ 1000000) (hszu : 1 + size u ≤ 1000000) (hA : ArWC w t k a n c) (hAu : ArW w u a' n' c') :
    Calls Try.prog 47 #[.agg #[.int .i64 (opC t), .string (nmC t), .string (soC t), .slice k.a k.n k.c, .slice a n c], .agg #[.int .i64 (opT u), .string (nameT u), .int .i64 (numT u), .slice a' n' c']] w fun e w' => RtC (wkC (fOpen u) 0 t) w e w' := by
  obtain ⟨W, hW, hB, hs, S, U, R⟩ := openBoxes w (opC t) (nmC t) (soC t) k a n c (opT u) (nameT u) (numT u) a' n' c'
  have cC := changed_any 108 #[.pointer (some ⟨w.heap.size + 1, 0, none⟩)] (fun _ _ => rfl) (fOpen u) t k a n c W (open_clos u a' n' c' _ 1000000 W.heap.size W (by omega) (Nat.le_refl _) U (ArW.b hAu hB) hszu) hsz (ArWC.b hA hB)
  have HFin := Lib.hid (show ∀ e w', RtC (wkC (fOpen u) 0 t) W e w' → ∀ v0 v1 v2 v3 v4, RtC (wkC (fOpen u) 0 t) w e (put5 w' (w.heap.size + 1 + 1) v0 v1 v2 v3 v4) from fun e w' h v0 v1 v2 v3 v4 => rtC_put h hB (by omega) (by omega) v0 v1 v2 v3 v4)
  have HR := Lib.hid R
  obtain ⟨s0, s1, s2, s3, s4⟩ := S.five
  obtain ⟨ka, kn, kc⟩ := k
  dsimp only at *
  clear hA hAu S U R
  generalize hr : wkC (fOpen u) 0 t = r at *
  clear hr
  unfold put5 at HFin
  generalize opC t = op at *
  generalize nmC t = nm at *
  generalize soC t = so at *
  generalize opT u = op' at *
  generalize nameT u = nm' at *
  generalize numT u = nu' at *
  go_enter Try.func47, Try.ntmps47
  go_wp2_with (go_at_call 107; ((with_reducible refine cC.mono ?_); rintro e w3 h3; have HF := Lib.hid (HFin.out e w3 h3); obtain ⟨K0, K1, K2, A, N, C, rfl, hA3, hb3⟩ := h3; have R3 := CBox.b HR.out hb3; obtain ⟨r0, r1, r2, r3, r4⟩ := R3.free; obtain ⟨t0, t1, t2, t3, t4⟩ := R3.five; have F5 := CBox.put R3 (opC r) (nmC r) (soC r) ⟨K0, K1, K2⟩ A N C; unfold put5 at F5; obtain ⟨x0, x1, x2, x3, x4⟩ := F5.five; clear hA3 R3 F5))
  simp [bodyPost, results, Try.results47, go_sem, x0, x1, x2, x3, x4]
  exact HF.out _ _ _ _ _
end Go.Proofs.Ytokkafekdaniaaa.B
