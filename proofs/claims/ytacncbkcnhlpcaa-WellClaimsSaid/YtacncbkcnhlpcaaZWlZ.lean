/-
  What is proved: the sort of any right term, by package well's checker.
-/
import Derived.Test.YtacncbkcnhlpcaaZWlW
namespace Go.Proofs.Ytacncbkcnhlpcaa.Wl
open Go.RowKit L T C
open Sgn (SlG Fm Core cores hasN findC SlS.nul FBox FBox.new)
set_option linter.unusedVariables false
set_option linter.unusedSimpArgs false
set_option maxRecDepth 100000

theorem wlTs_len {K : List Core} {V : List Vr} {B : List ByteArray} : ∀ {l : List Tm} (k : Nat), (wlTs K V B k l).1 = 0 → (wlTs K V B k l).2.2.length = l.length
  | [], k, _ => by rw [wlTs]; rfl
  | t :: l, k, h => by
    rw [wlTs] at h ⊢
    by_cases h1 : (wlT K V B t).e ≠ 0
    · rw [if_pos h1] at h; exact absurd h h1
    · rw [if_neg h1] at h ⊢
      by_cases h2 : (wlTs K V B (k + 1) l).1 ≠ 0
      · rw [if_pos h2] at h; exact absurd h h2
      · rw [if_neg h2]
        have := wlTs_len (l := l) (k + 1) (Classical.not_not.1 h2)
        simp [this]
theorem CK.b {w w' : World} {g : Nat} {a : Option Addr} {n c : Nat} {b : Option Addr} {m d : Nat} {fn : Value} {p : Option Addr} {q e : Nat} (h : CK w g a n c b m d fn p q e) (hb : Below w.heap.size w w') : CK w' g a n c b m d fn p q e := Sgn.Blk.belowAll h hb
/-- a checker and a term put into blocks -/
theorem boxesZ (w : World) (E : Ev) (o : Int) (s : ByteArray) (z : Int) (ta : Option Addr) (tn tc : Nat) :
    ∃ W, (w.alloc (.cells #[.slice E.a E.n E.c, .slice E.b E.m E.d, fnV E.g, .slice E.p E.q E.e] 74)).alloc (.cells #[.int .i64 o, .string s, .int .i64 z, .slice ta tn tc] 33) = W ∧ Below w.heap.size w W ∧ CK W w.heap.size E.a E.n E.c E.b E.m E.d (fnV E.g) E.p E.q E.e ∧ TBox W (w.heap.size + 1) o s z ta tn tc := by
  refine ⟨_, rfl, bel_alloc (bel_alloc (Below.refl _ _) _) _, Sgn.Blk.alloc (Sgn.Blk.new w _ _) _, ?_⟩
  have := TBox.new (w.alloc (.cells #[.slice E.a E.n E.c, .slice E.b E.m E.d, fnV E.g, .slice E.p E.q E.e] 74)) o s z ta tn tc
  rwa [show (w.alloc (.cells #[.slice E.a E.n E.c, .slice E.b E.m E.d, fnV E.g, .slice E.p E.q E.e] 74)).heap.size = w.heap.size + 1 by simp] at this
theorem unlike_two (g : Option Addr) (n c : Nat) (G : List ByteArray) (d : Option Addr) (m c' : Nat) (D : List ByteArray) (a : Option Addr) (N C : Nat) (X : List Int) (w : World) (hG : IsS w g n G) (hD : IsS w d m D) (hm : m = n) (hn : n ≤ 1000000) (hX : SlI w a N C X) (hN : N ≤ 1000000) :
    Calls Try.prog 54 #[.slice g n c, .slice d m c', .slice a N C] w (UnP X (diff G D) w) := by
  subst hm
  exact unlike_any g m c G d c' D a N C X w hG hD hn hX hN

set_option maxHeartbeats 16000000 in
theorem term_step (t : Tm) (hok : ∀ x ∈ argsT t, TermOk x) : TermOk t := by
  intro E pa pn pc X ta tn tc w hE hp hs hX hA
  obtain ⟨hz, h12, hle, hpp, h8⟩ := part_parts hp
  have hT := ArW.args hA
  have htn : tn = (argsT t).length := hT.1
  obtain ⟨W2, hW2, hB2, C2, T2⟩ := boxesZ w E (opT t) (nameT t) (numT t) ta tn tc
  have hsz : size t = 1 + sizes (argsT t) := by cases t; rw [size]; rfl
  have cTs := terms_any (argsT t) hok E pa pn pc X ta tn tc W2 (hE.b hB2) hpp (by omega) (hX.below hB2) (TsW.b hT hB2) (by omega)
  have hOl := fun h => opA_len (K := E.K) (V := E.V) (B := E.B) hp h
  have hW := wlT_mk E.K E.V E.B t
  have hlen := wlTs_len (K := E.K) (V := E.V) (B := E.B) (l := argsT t) 0
  have cO : ∀ w', E.ok w' → Calls Try.prog 53 #[.agg #[.slice E.a E.n E.c, .slice E.b E.m E.d, fnV E.g, .slice E.p E.q E.e], .agg #[.int .i64 (opT t), .string (nameT t), .int .i64 (numT t), .slice ta tn tc]] w' (OpP (opA E.K E.V E.B (opT t) (nameT t) (numT t) tn) w') := fun w' ⟨h1, h2, h3, h4, h5, h6, h7, h8, h9⟩ =>
    operator_any E.a E.n E.c E.b E.m E.d E.G E.g E.vp E.vn E.vc E.V E.p E.q E.e E.B (opT t) (nameT t) (numT t) ta tn tc w' h1 h2 h3 h4 h5 h6 h7 h8 h9 (by omega) hz (by rw [htn]; exact hle)
  rw [← htn] at hOl hlen
  rw [opW_eq] at hW
  have hXb : ∀ w', Below W2.heap.size W2 w' → SlI w' pa pn pc X := fun w' h => (hX.below hB2).below h
  have hEb : ∀ w', Below W2.heap.size W2 w' → E.ok w' := fun w' h => (hE.b hB2).b h
  generalize wlTs E.K E.V E.B 0 (argsT t) = R1 at *
  obtain ⟨r1, rw1, D⟩ := R1
  simp only at hlen hW
  have hpn : pn ≤ 1000000 := by omega
  have hlD : r1 = 0 → D.length = tn := hlen
  unfold TsP at cTs
  simp only at cTs
  obtain ⟨t0, t1, t2, t3⟩ := T2.four
  obtain ⟨k0, k1, k2, k3⟩ := C2.four
  have HB2 := Lib.hid hB2
  have HXb := Lib.hid hXb
  have HEb := Lib.hid hEb
  have HC2 := Lib.hid C2
  have HT2 := Lib.hid T2
  have HO := Lib.hid cO
  have HOl := Lib.hid hOl
  have HlD := Lib.hid hlD
  have htn8 : tn ≤ 8 := by omega
  clear hok hE hp hs hX hA hz h12 hle hpp hT hB2 C2 T2 cO hOl hlen hXb hEb hlD hsz h8 htn
  unfold Ev.val
  by_cases hr : r1 = 0
  · subst hr
    rw [if_neg (by simp)] at hW
    have hlD := HlD.out rfl
    rw [hlD] at hW
    have hO0 := HOl.out
    by_cases ho : (opA E.K E.V E.B (opT t) (nameT t) (numT t) tn).2.2 = 0
    · rw [if_neg (by rw [ho]; simp)] at hW
      have hOl := hO0 ho
      rw [hW]
      generalize opA E.K E.V E.B (opT t) (nameT t) (numT t) tn = OA at *
      obtain ⟨O1, O2, O3⟩ := OA
      simp only at ho hOl
      subst ho
      cases hq : diff D O1 with
      | none =>
        have hP : ∀ w', Below w.heap.size w w' → TmP (askW D O1 O2) X w (.returned (.tuple #[.string O2, .slice none 0 0, .int .i64 0])) w' := fun w' h => by
          unfold askW; rw [hq]
          exact ⟨none, 0, 0, rfl, SlI.nil w', h⟩
        generalize TmP (askW D O1 O2) X w = PP at *
        have HP := Lib.hid hP
        have cU : ∀ A3 n3 c3 (f : Fm) w', SlS w' A3 n3 c3 D → f.ok w' → f.X = O1 → SlI w' pa pn pc X → Calls Try.prog 54 #[.slice A3 n3 c3, .slice f.a f.m f.c, .slice pa pn pc] w' fun e w'' => Below w'.heap.size w' w'' ∧ e = .returned (.tuple #[.slice none 0 0, .int .i64 0]) := fun A3 n3 c3 f w' h1 h2 h3 h4 => by
          have h5 := unlike_two A3 n3 c3 D f.a f.m f.c f.X pa pn pc X w' h1.1 h2.1 (by rw [h2.1.1, h1.1.1, h3]; omega) (by rw [h1.1.1]; omega) h4 hpn
          rw [h3, hq] at h5
          exact h5
        clear hW hP hq
        go_enter Try.func29, Try.ntmps29
        go_wp2_with (first | (go_at_call 52; ((with_reducible refine cTs.mono ?_); rintro e w3 ⟨A3, n3, c3, A4, N4, C4, rfl, hI3, hS3, hb3⟩; obtain ⟨u0, u1, u2, u3⟩ := (TBox.b HT2.out hb3).four; obtain ⟨v0, v1, v2, v3⟩ := (CK.b HC2.out hb3).four; have hO3 := HO.out w3 (HEb.out w3 hb3); have hS4 : SlS w3 A3 n3 c3 D := (by first | exact hS3 rfl | exact hS3 True.intro))) | (go_at_call 53; ((with_reducible refine hO3.mono ?_); rintro e w4 ⟨f, rfl, hfok, hfx, hb4⟩; have F5 := FBox.new w4 f.name f.a f.m f.c f.res; obtain ⟨f0, f1, f2⟩ := F5.three; have B5 : Below W2.heap.size W2 (w4.alloc (.cells #[.string f.name, .slice f.a f.m f.c, .string f.res] 62)) := bel_alloc (bel_trans hb3 hb4) _; have b45 : Below w4.heap.size w4 (w4.alloc (.cells #[.string f.name, .slice f.a f.m f.c, .string f.res] 62)) := bel_alloc (Below.refl _ _) _; have hfx2 : Hid (f.X = O1 ∧ f.res = O2) := (by first | exact hfx rfl | exact hfx True.intro); clear hfx)) | (go_at_call 54; ((with_reducible refine (cU A3 n3 c3 f _ ((hS4.below hb4).below b45) (hfok.below b45) hfx2.out.1 (HXb.out _ B5)).mono ?_); rintro e w6 ⟨hb6, rfl⟩; have f26 := (F5.b hb6).three.2.2)))
        have hf2 : f.res = O2 := hfx2.out.2
        have HZ := Lib.hid (HP.out _ (bel_trans HB2.out (bel_trans B5 hb6)))
        rw [← hf2] at HZ
        simp [bodyPost, results, Try.results29, go_sem]
        exact HZ.out
      | some i =>
        have hP : ∀ A C w', SlI w' A (X.length + 1) C (X ++ [(i : Int)]) → Below w.heap.size w w' → TmP (askW D O1 O2) X w (.returned (.tuple #[.string ⟨#[]⟩, .slice A (X.length + 1) C, .int .i64 11])) w' := fun A C w' h1 h => by
          unfold askW; rw [hq]
          exact ⟨A, _, C, rfl, by rw [if_neg (by show ¬ (11 : Int) = 0; decide)]; exact h1, h⟩
        generalize TmP (askW D O1 O2) X w = PP at *
        have HP := Lib.hid hP
        have cU : ∀ A3 n3 c3 (f : Fm) w', SlS w' A3 n3 c3 D → f.ok w' → f.X = O1 → SlI w' pa pn pc X → Calls Try.prog 54 #[.slice A3 n3 c3, .slice f.a f.m f.c, .slice pa pn pc] w' fun e w'' => Below w'.heap.size w' w'' ∧ ∃ A C, e = .returned (.tuple #[.slice A (X.length + 1) C, .int .i64 11]) ∧ SlI w'' A (X.length + 1) C (X ++ [(i : Int)]) := fun A3 n3 c3 f w' h1 h2 h3 h4 => by
          have h5 := unlike_two A3 n3 c3 D f.a f.m f.c f.X pa pn pc X w' h1.1 h2.1 (by rw [h2.1.1, h1.1.1, h3]; omega) (by rw [h1.1.1]; omega) h4 hpn
          rw [h3, hq] at h5
          exact h5
        clear hW hP hq
        go_enter Try.func29, Try.ntmps29
        go_wp2_with (first | (go_at_call 52; ((with_reducible refine cTs.mono ?_); rintro e w3 ⟨A3, n3, c3, A4, N4, C4, rfl, hI3, hS3, hb3⟩; obtain ⟨u0, u1, u2, u3⟩ := (TBox.b HT2.out hb3).four; obtain ⟨v0, v1, v2, v3⟩ := (CK.b HC2.out hb3).four; have hO3 := HO.out w3 (HEb.out w3 hb3); have hS4 : SlS w3 A3 n3 c3 D := (by first | exact hS3 rfl | exact hS3 True.intro))) | (go_at_call 53; ((with_reducible refine hO3.mono ?_); rintro e w4 ⟨f, rfl, hfok, hfx, hb4⟩; have F5 := FBox.new w4 f.name f.a f.m f.c f.res; obtain ⟨f0, f1, f2⟩ := F5.three; have B5 : Below W2.heap.size W2 (w4.alloc (.cells #[.string f.name, .slice f.a f.m f.c, .string f.res] 62)) := bel_alloc (bel_trans hb3 hb4) _; have b45 : Below w4.heap.size w4 (w4.alloc (.cells #[.string f.name, .slice f.a f.m f.c, .string f.res] 62)) := bel_alloc (Below.refl _ _) _; have hfx2 : Hid (f.X = O1 ∧ f.res = O2) := (by first | exact hfx rfl | exact hfx True.intro); clear hfx)) | (go_at_call 54; ((with_reducible refine (cU A3 n3 c3 f _ ((hS4.below hb4).below b45) (hfok.below b45) hfx2.out.1 (HXb.out _ B5)).mono ?_); rintro e w6 ⟨hb6, A6, C6, rfl, hI6⟩)))
        have HZ := Lib.hid (HP.out _ _ _ hI6 (bel_trans HB2.out (bel_trans B5 hb6)))
        simp [bodyPost, results, Try.results29, go_sem]
        exact HZ.out
    · rw [if_pos ho] at hW
      have h1 : ((opA E.K E.V E.B (opT t) (nameT t) (numT t) tn).2.2 != 0) = true := by simp [ho]
      rw [hW]
      generalize opA E.K E.V E.B (opT t) (nameT t) (numT t) tn = OA at *
      have hP : ∀ w', SlI w' pa pn pc X → Below w.heap.size w w' → TmP (Wr.bad OA.2.2 []) X w (.returned (.tuple #[.string ⟨#[]⟩, .slice pa pn pc, .int .i64 OA.2.2])) w' := fun w' h1 h => by
        refine ⟨pa, pn, pc, rfl, ?_, h⟩
        show SlI w' pa pn pc (if OA.2.2 = 0 then [] else X ++ [])
        rw [if_neg ho, List.append_nil]
        exact h1
      generalize TmP (Wr.bad OA.2.2 []) X w = PP at *
      have HP := Lib.hid hP
      obtain ⟨O1, O2, O3⟩ := OA
      simp only at h1 HP
      clear hW hP ho
      go_enter Try.func29, Try.ntmps29
      go_wp2_with (first | (go_at_call 52; ((with_reducible refine cTs.mono ?_); rintro e w3 ⟨A3, n3, c3, A4, N4, C4, rfl, hI3, hS3, hb3⟩; obtain ⟨u0, u1, u2, u3⟩ := (TBox.b HT2.out hb3).four; obtain ⟨v0, v1, v2, v3⟩ := (CK.b HC2.out hb3).four; have hO3 := HO.out w3 (HEb.out w3 hb3))) | (go_at_call 53; ((with_reducible refine hO3.mono ?_); rintro e w4 ⟨f, rfl, hfok, hfx, hb4⟩; have F5 := FBox.new w4 f.name f.a f.m f.c f.res; obtain ⟨f0, f1, f2⟩ := F5.three; have B5 : Below W2.heap.size W2 (w4.alloc (.cells #[.string f.name, .slice f.a f.m f.c, .string f.res] 62)) := bel_alloc (bel_trans hb3 hb4) _; have b45 : Below w4.heap.size w4 (w4.alloc (.cells #[.string f.name, .slice f.a f.m f.c, .string f.res] 62)) := bel_alloc (Below.refl _ _) _)))
      have HZ := Lib.hid (HP.out _ (HXb.out _ B5) (bel_trans HB2.out B5))
      simp [bodyPost, results, Try.results29, go_sem]
      exact HZ.out
  · rw [if_pos hr] at hW
    rw [hW]
    have h1 : (r1 != 0) = true := by simp [hr]
    have hP : ∀ A N C w', SlI w' A N C (X ++ rw1) → Below w.heap.size w w' → TmP (Wr.bad r1 rw1) X w (.returned (.tuple #[.string ⟨#[]⟩, .slice A N C, .int .i64 r1])) w' := fun A N C w' h1 h => by
      refine ⟨A, N, C, rfl, ?_, h⟩
      show SlI w' A N C (if r1 = 0 then [] else X ++ rw1)
      rw [if_neg hr]
      exact h1
    generalize TmP (Wr.bad r1 rw1) X w = PP at *
    have HP := Lib.hid hP
    clear hW hP
    simp only [if_neg hr] at cTs
    go_enter Try.func29, Try.ntmps29
    go_wp2_with (go_at_call 52; ((with_reducible refine cTs.mono ?_); rintro e w3 ⟨A3, n3, c3, A4, N4, C4, rfl, hI3, hS3, hb3⟩; obtain ⟨u0, u1, u2, u3⟩ := (TBox.b HT2.out hb3).four; obtain ⟨v0, v1, v2, v3⟩ := (CK.b HC2.out hb3).four; have hO3 := HO.out w3 (HEb.out w3 hb3)))
    have HZ := Lib.hid (HP.out _ _ _ _ hI3 (bel_trans HB2.out hb3))
    simp [bodyPost, results, Try.results29, go_sem]
    exact HZ.out
theorem term_any (t : Tm) : TermOk t := Tm.ind term_step t
end Go.Proofs.Ytacncbkcnhlpcaa.Wl
