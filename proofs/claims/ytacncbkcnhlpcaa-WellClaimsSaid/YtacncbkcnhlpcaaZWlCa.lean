/-
  What is proved: the sorts that a claim's terms have to have, by package well's checker; the library's Clip of texts.
-/
import Derived.Test.YtacncbkcnhlpcaaZWlD
import Derived.Test.YtacncbkcnhlpcaaZWlZ
import Derived.Test.YtacncbkcnhlpcaaZClmB
import Derived.RegionTactic
namespace Go.Proofs.Ytacncbkcnhlpcaa.Wl
open Go.RowKit L T C
open Sgn (SlG Fm Core cores hasN findC SlS.nul FBox FBox.new)
set_option linter.unusedVariables false
set_option linter.unusedSimpArgs false
set_option maxRecDepth 100000

theorem Clip_any (a : Option Addr) (n c : Nat) (w : World) (hc : n ≤ c) (ha : a = none → c = 0) :
    Calls Try.prog 64 #[.slice a n c] w fun e w' => e = .returned (.slice a n n) ∧ w = w' := by
  have h1 : (0 : Int) ≤ (n : Int) := by omega
  have h2 : (n : Int) ≤ (c : Int) := by omega
  have h3 : (n : Int) ≤ (n : Int) := by omega
  cases a with
  | none =>
    obtain rfl : c = 0 := ha rfl
    obtain rfl : n = 0 := by omega
    go_enter Try.func64, Try.ntmps64
    go_wp2
    go_ret
    exact ⟨rfl, rfl⟩
  | some ad =>
    clear ha
    go_enter Try.func64, Try.ntmps64
    go_wp2
    go_ret
    exact ⟨by first | rfl | simp, rfl⟩
/-- a checker and a claim put into blocks -/
theorem boxesCC (w : World) (E : Ev) (o : Int) (s z : ByteArray) (k : SS) (a : Option Addr) (n c : Nat) :
    ∃ W, (w.alloc (.cells #[.slice E.a E.n E.c, .slice E.b E.m E.d, fnV E.g, .slice E.p E.q E.e] 74)).alloc (.cells #[.int .i64 o, .string s, .string z, .slice k.a k.n k.c, .slice a n c] 46) = W ∧ Below w.heap.size w W ∧ CK W w.heap.size E.a E.n E.c E.b E.m E.d (fnV E.g) E.p E.q E.e ∧ CBox W (w.heap.size + 1) o s z k a n c ∧ W.heap.size = w.heap.size + 2 := by
  refine ⟨_, rfl, bel_alloc (bel_alloc (Below.refl _ _) _) _, Sgn.Blk.alloc (Sgn.Blk.new w _ _) _, ?_, by simp⟩
  have := CBox.new (w.alloc (.cells #[.slice E.a E.n E.c, .slice E.b E.m E.d, fnV E.g, .slice E.p E.q E.e] 74)) o s z k a n c
  rwa [show (w.alloc (.cells #[.slice E.a E.n E.c, .slice E.b E.m E.d, fnV E.g, .slice E.p E.q E.e] 74)).heap.size = w.heap.size + 1 by simp] at this
def WtP (R : List ByteArray × Int) (w : World) (e : Ending) (w' : World) : Prop :=
  ∃ A N C, e = .returned (.tuple #[.slice A N C, .int .i64 R.2]) ∧ (R.2 = 0 → SlS w' A N C R.1) ∧ Below w.heap.size w w'
theorem two_row {w : World} {g : Nat} {x y : ByteArray} (h : Sgn.Blk w g #[.string x, .string y] 9) : SlS w (some ⟨g, 0, none⟩) 2 2 [x, y] := by
  refine ⟨⟨rfl, fun _ => ⟨g, 0, rfl, Sgn.Blk.lt h, fun i hi => ?_⟩⟩, Nat.le_refl _, fun h => by cases h⟩
  match i, hi with
  | 0, _ => exact Sgn.Blk.cell h 0
  | 1, _ => exact Sgn.Blk.cell h 1
set_option maxHeartbeats 8000000 in
theorem wanted_any (E : Ev) (o : Int) (s z : ByteArray) (k : SS) (a : Option Addr) (n c : Nat) (g : Option Addr) (gn gc : Nat) (G : List ByteArray) (w : World) (hE : E.ok w) (hG : SlS w g gn gc G) (hgn : gn ≤ 1000000) (h4 : o = 4 → 0 < gn) :
    Calls Try.prog 66 #[E.val, .agg #[.int .i64 o, .string s, .string z, .slice k.a k.n k.c, .slice a n c], .slice g gn gc] w (WtP (wantA E.K o s G) w) := by
  obtain ⟨W2, hW2, hB2, C2, T2, hs2⟩ := boxesCC w E o s z k a n c
  obtain ⟨e1, e2, e3, e4, e5, e6, e7, e8, e9⟩ := hE.b hB2
  have cF := function_any E.a E.n E.c E.b E.m E.d E.G (fnV E.g) E.p E.q E.e s gn true W2 e1 e2 e3 hgn
  obtain ⟨k0, k1, k2, k3⟩ := C2.four
  obtain ⟨t0, t1, t2, t3, t4⟩ := T2.five
  have hgl : gn = G.length := hG.1.1
  have hG2 := hG.below hB2
  unfold wantA Ev.K
  rw [← hgl]
  have HB2 := Lib.hid hB2
  clear hE e1 e2 e3 e4 e5 e6 e7 e8 e9 C2 T2 hs2 hB2 hG
  unfold Ev.val
  by_cases h3 : o = 3
  · rw [if_pos h3]
    subst h3
    have HP : Hid (∀ (f : Fm) w', f.ok w' → (fnE (cores E.G) s gn true = 0 → f.core = findC (cores E.G) s) → Below w.heap.size w w' → WtP ((findC (cores E.G) s).2.1, fnE (cores E.G) s gn true) w (.returned (.tuple #[.slice f.a f.m f.c, .int .i64 (fnE (cores E.G) s gn true)])) w') := Lib.hid fun f w' h1 h2 h3 => ⟨f.a, f.m, f.c, rfl, fun h => by rw [← h2 h]; exact h1, h3⟩
    unfold FnP ckV at cF
    generalize WtP ((findC (cores E.G) s).2.1, fnE (cores E.G) s gn true) w = PP at *
    generalize fnE (cores E.G) s gn true = EE at *
    clear h4 hgl hG2
    go_enter Try.func66, Try.ntmps66
    go_wp2_with (go_at_call 81; ((with_reducible refine cF.mono ?_); rintro e w3 ⟨f, rfl, hok, hcore, hb3, hoff⟩; have F5 := FBox.new w3 f.name f.a f.m f.c f.res; obtain ⟨y0, y1, y2⟩ := F5.three; have B5 : Below w.heap.size w (w3.alloc (.cells #[.string f.name, .slice f.a f.m f.c, .string f.res] 62)) := bel_alloc (bel_trans HB2.out hb3) _; have b45 : Below w3.heap.size w3 (w3.alloc (.cells #[.string f.name, .slice f.a f.m f.c, .string f.res] 62)) := bel_alloc (Below.refl _ _) _))
    have HZ := Lib.hid (HP.out f _ (Sgn.Fm.ok.below hok b45) hcore B5)
    first | exact HZ.out | (simp [bodyPost, results, Try.results66, go_sem]; exact HZ.out)
  · rw [if_neg h3]
    have e3 : (o == 3) = false := by simp [h3]
    have g3 : (o = 3) = False := by simp [h3]
    by_cases ho4 : o = 4
    · rw [if_pos ho4]
      have hpos := h4 ho4
      subst ho4
      obtain ⟨b, ob, x, rfl, hb, y0, hx, _⟩ := hG2.1.at hpos
      have hhd : G.headD ⟨#[]⟩ = x := by
        cases G with
        | nil => simp at hx
        | cons u l => simpa using hx
      rw [hhd]
      have X3 := Sgn.Blk.new W2.drew #[.string x, .string x] 9
      have HP : Hid (∀ w' g, Sgn.Blk w' g #[.string x, .string x] 9 → Below w.heap.size w w' → WtP ([x, x], 0) w (.returned (.tuple #[.slice (some ⟨g, 0, none⟩) 2 2, .int .i64 0])) w') := Lib.hid fun w' g h1 h2 => ⟨_, 2, 2, rfl, fun _ => two_row h1, h2⟩
      generalize WtP ([x, x], 0) w = PP at *
      have y0' : W2.cell? ⟨b, ob, none⟩ = some (.string x) := y0
      have hk0 : (0 : Int) ≤ 0 := by omega
      have hk1 : (0 : Int) < (gn : Int) := by omega
      clear h4 hgl hG2 hx hhd cF y0 X3
      go_enter Try.func66, Try.ntmps66
      go_wp2
      go_region
      all_goals
        go_wp2
        simp [bodyPost, results, Try.results66, go_sem]
        refine HP.out _ _ ?_ ?_
        · exact Sgn.Blk.new _ _ _
        · first | exact (bel_alloc HB2.out _).drew | exact bel_alloc HB2.out _
    · rw [if_neg ho4]
      have e4 : (o == 4) = false := by simp [ho4]
      have g4 : (o = 4) = False := by simp [ho4]
      by_cases ho5 : o = 5
      · rw [if_pos ho5]
        subst ho5
        have HP : Hid (∀ w' g, Sgn.Blk w' g #[.string ⟨#[73, 110, 116]⟩, .string ⟨#[73, 110, 116]⟩] 9 → Below w.heap.size w w' → WtP ([sInt, sInt], 0) w (.returned (.tuple #[.slice (some ⟨g, 0, none⟩) 2 2, .int .i64 0])) w') := Lib.hid fun w' g h1 h2 => ⟨_, 2, 2, rfl, fun _ => two_row h1, h2⟩
        generalize WtP ([sInt, sInt], 0) w = PP at *
        clear h4 hgl hG2 cF
        go_enter Try.func66, Try.ntmps66
        go_wp2
        have HZ := Lib.hid (HP.out _ _ (Sgn.Blk.new W2 _ _) (bel_alloc HB2.out _))
        first | exact HZ.out | (simp [bodyPost, results, Try.results66, go_sem]; exact HZ.out)
      · rw [if_neg ho5]
        have e5 : (o == 5) = false := by simp [ho5]
        have g5 : (o = 5) = False := by simp [ho5]
        have HP : Hid (WtP ([], 0) w (.returned (.tuple #[.slice none 0 0, .int .i64 0])) W2) := Lib.hid ⟨none, 0, 0, rfl, fun _ => SlS.nul _, HB2.out⟩
        generalize WtP ([], 0) w = PP at *
        clear h4 hgl hG2 cF
        go_enter Try.func66, Try.ntmps66
        go_wp2
        first | exact HP.out | (simp [bodyPost, results, Try.results66, go_sem]; exact HP.out)
end Go.Proofs.Ytacncbkcnhlpcaa.Wl
