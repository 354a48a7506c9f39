/-
  What is proved: what makes a term of its arguments, as package well's checker sees it.
-/
import Derived.Test.YtacncbkcnhlpcaaZWlC
import Derived.Test.YtacncbkcnhlpcaaWN
namespace Go.Proofs.Ytacncbkcnhlpcaa.Wl
open Go.RowKit L T C
open Sgn (SlG Fm Core cores hasN findC FBox FBox.new SlS.nul)
set_option linter.unusedVariables false
set_option linter.unusedSimpArgs false
set_option maxRecDepth 100000

def opA (K : List Core) (V : List Vr) (B : List ByteArray) (o : Int) (s : ByteArray) (z : Int) (n : Nat) : List ByteArray × ByteArray × Int :=
  if o = 1 then (match sortV V s with | some x => ([], x, 0) | none => ([], ⟨#[]⟩, 10))
  else if o = 2 then (if (B.length : Int) ≤ z then ([], ⟨#[]⟩, 13) else ([], bindB B z, 0))
  else if o = 3 then ((findC K s).2.1, (findC K s).2.2, fnE K s n false)
  else (List.replicate n sInt, sInt, 0)
def OpP (R : List ByteArray × ByteArray × Int) (w : World) (e : Ending) (w' : World) : Prop :=
  ∃ f : Fm, e = .returned (.tuple #[.agg #[.string f.name, .slice f.a f.m f.c, .string f.res], .int .i64 R.2.2]) ∧ f.ok w' ∧ (R.2.2 = 0 → f.X = R.1 ∧ f.res = R.2.1) ∧ Below w.heap.size w w'
/-- a checker, a term and an empty function put into blocks -/
theorem boxesO (w : World) (a : Option Addr) (n c : Nat) (b : Option Addr) (m d : Nat) (fn : Value) (p : Option Addr) (q e : Nat) (o : Int) (s : ByteArray) (z : Int) (ta : Option Addr) (tn tc : Nat) :
    ∃ W, ((w.alloc (.cells #[.slice a n c, .slice b m d, fn, .slice p q e] 74)).alloc (.cells #[.int .i64 o, .string s, .int .i64 z, .slice ta tn tc] 33)).alloc (.cells #[.string ⟨#[]⟩, .slice none 0 0, .string ⟨#[]⟩] 62) = W ∧ Below w.heap.size w W ∧ CK W w.heap.size a n c b m d fn p q e ∧ TBox W (w.heap.size + 1) o s z ta tn tc ∧ FBox W (w.heap.size + 2) ⟨#[]⟩ none 0 0 ⟨#[]⟩ := by
  refine ⟨_, rfl, bel_alloc (bel_alloc (bel_alloc (Below.refl _ _) _) _) _, Sgn.Blk.alloc (Sgn.Blk.alloc (Sgn.Blk.new w _ _) _) _, ?_, ?_⟩
  · have := L.Blk.alloc (TBox.new (w.alloc (.cells #[.slice a n c, .slice b m d, fn, .slice p q e] 74)) o s z ta tn tc) (.cells #[.string ⟨#[]⟩, .slice none 0 0, .string ⟨#[]⟩] 62)
    rwa [show (w.alloc (.cells #[.slice a n c, .slice b m d, fn, .slice p q e] 74)).heap.size = w.heap.size + 1 by simp] at this
  · have := FBox.new ((w.alloc (.cells #[.slice a n c, .slice b m d, fn, .slice p q e] 74)).alloc (.cells #[.int .i64 o, .string s, .int .i64 z, .slice ta tn tc] 33)) ⟨#[]⟩ none 0 0 ⟨#[]⟩
    rwa [show ((w.alloc (.cells #[.slice a n c, .slice b m d, fn, .slice p q e] 74)).alloc (.cells #[.int .i64 o, .string s, .int .i64 z, .slice ta tn tc] 33)).heap.size = w.heap.size + 2 by simp] at this

abbrev fnV (g : Nat) : Value := .func (.func 49) #[] #[.pointer (some ⟨g, 0, none⟩)]
set_option maxHeartbeats 8000000 in
theorem operator_any (a : Option Addr) (n c : Nat) (b : Option Addr) (m d : Nat) (G : List Fm) (g : Nat) (vp : Option Addr) (vn vc : Nat) (V : List Vr) (p : Option Addr) (q e : Nat) (B : List ByteArray) (o : Int) (s : ByteArray) (z : Int) (ta : Option Addr) (tn tc : Nat) (w : World)
    (hG : SlG w b m d G) (hm : m ≤ 1000000) (hK : ∀ C ∈ cores G, C.2.1.length ≤ 1000000) (hg : g < w.heap.size) (hgc : w.cell? ⟨g, 0, none⟩ = some (.slice vp vn vc)) (hV : IsV w vp vn V) (hvn : vn ≤ 1000000) (hB : IsS w p q B) (hq : q ≤ 1000000) (htn : tn ≤ 1000000) (hz : o = 2 → 0 ≤ z) (ho : ¬ o = 1 → ¬ o = 2 → ¬ o = 3 → tn ≤ 2) :
    Calls Try.prog 53 #[ckV a n c b m d (fnV g) p q e, .agg #[.int .i64 o, .string s, .int .i64 z, .slice ta tn tc]] w (OpP (opA (cores G) V B o s z tn) w) := by
  obtain ⟨W2, hW2, hB2, C2, T2, R2⟩ := boxesO w a n c b m d (fnV g) p q e o s z ta tn tc
  obtain ⟨k0, k1, k2, k3⟩ := C2.four
  obtain ⟨t0, t1, t2, t3⟩ := T2.four
  obtain ⟨r0, r1, r2⟩ := R2.three
  obtain ⟨f0, f1, f2⟩ := R2.free
  have lR := Sgn.Blk.lt R2
  have lC := Sgn.Blk.lt C2
  unfold ckV
  have hP0 : ∀ (E : Int) w', E ≠ 0 → Below w.heap.size w w' → OpP ([], ⟨#[]⟩, E) w (.returned (.tuple #[.agg #[.string ⟨#[]⟩, .slice none 0 0, .string ⟨#[]⟩], .int .i64 E])) w' := fun E w' h1 h => ⟨⟨_, none, 0, 0, [], _⟩, rfl, SlS.nul _, fun h => absurd h h1, h⟩
  have hP1 : ∀ (x : ByteArray) w', Below w.heap.size w w' → OpP ([], x, 0) w (.returned (.tuple #[.agg #[.string ⟨#[]⟩, .slice none 0 0, .string x], .int .i64 0])) w' := fun x w' h => ⟨⟨_, none, 0, 0, [], _⟩, rfl, SlS.nul _, fun _ => ⟨rfl, rfl⟩, h⟩
  by_cases h1 : o = 1
  · have cS := sortsOf1_any g s vp vn vc V W2 (Nat.lt_of_lt_of_le hg hB2.size) ((hB2.cell (p := ⟨g, 0, none⟩) hg).trans hgc) (hV.below hB2) (by omega)
    unfold sortA at cS
    subst h1
    cases hs : sortV V s with
    | none =>
      have hA : opA (cores G) V B 1 s z tn = ([], ⟨#[]⟩, 10) := by unfold opA; rw [if_pos rfl, hs]
      rw [hA]
      simp only [hs] at cS
      have HP := hP0 10
      generalize OpP ([], ⟨#[]⟩, 10) w = PP at *
      have HB2 := Lib.hid hB2
      have HPP := Lib.hid HP
      clear hA hs hP0 hP1 HP hG hK hV hB hz ho C2 T2 hB2 hgc
      go_enter Try.func53, Try.ntmps53
      go_wp2_with (go_at_call 49; ((with_reducible refine cS.mono ?_); rintro e w3 ⟨rfl, hb3⟩; have R3 := R2.b hb3; obtain ⟨y0, y1, y2⟩ := R3.three; obtain ⟨z0, z1, z2⟩ := R3.free))
      have R6 := R3.put ⟨#[]⟩ none 0 0 ⟨#[]⟩
      obtain ⟨x0, x1, x2⟩ := R6.three
      have HZ := Lib.hid (HPP.out _ (by decide) (Sgn.below_set3 (bel_trans HB2.out hb3) (show w.heap.size ≤ w.heap.size + 2 by omega) (.string ⟨#[]⟩) (.slice none 0 0) (.string ⟨#[]⟩)))
      simp [bodyPost, results, Try.results53, go_sem, x0, x1, x2]
      exact HZ.out
    | some x =>
      have hA : opA (cores G) V B 1 s z tn = ([], x, 0) := by unfold opA; rw [if_pos rfl, hs]
      rw [hA]
      simp only [hs] at cS
      have HP := hP1 x
      generalize OpP ([], x, 0) w = PP at *
      have HB2 := Lib.hid hB2
      have HPP := Lib.hid HP
      clear hA hs hP0 hP1 HP hG hK hV hB hz ho C2 T2 hB2 hgc
      go_enter Try.func53, Try.ntmps53
      go_wp2_with (go_at_call 49; ((with_reducible refine cS.mono ?_); rintro e w3 ⟨rfl, hb3⟩; have R3 := R2.b hb3; obtain ⟨y0, y1, y2⟩ := R3.three; obtain ⟨z0, z1, z2⟩ := R3.free))
      have R6 := R3.put ⟨#[]⟩ none 0 0 x
      obtain ⟨x0, x1, x2⟩ := R6.three
      have HZ := Lib.hid (HPP.out _ (Sgn.below_set3 (bel_trans HB2.out hb3) (show w.heap.size ≤ w.heap.size + 2 by omega) (.string ⟨#[]⟩) (.slice none 0 0) (.string x)))
      simp [bodyPost, results, Try.results53, go_sem, x0, x1, x2]
      exact HZ.out
  · have e1 : (o == 1) = false := by simp [h1]
    have g1 : (o = 1) = False := by simp [h1]
    by_cases h2 : o = 2
    · subst h2
      obtain ⟨zn, rfl⟩ : ∃ zn : Nat, z = (zn : Int) := ⟨z.toNat, by have := hz rfl; omega⟩
      by_cases hzq : (q : Int) ≤ (zn : Int)
      · have hA : opA (cores G) V B 2 s zn tn = ([], ⟨#[]⟩, 13) := by unfold opA; rw [if_neg h1, if_pos rfl, if_pos (by rw [← hB.1]; exact hzq)]
        rw [hA]
        have HP := hP0 13
        generalize OpP ([], ⟨#[]⟩, 13) w = PP at *
        have R3 := R2
        have HB2 := Lib.hid hB2
        have HPP := Lib.hid HP
        clear hA hP0 hP1 HP hG hK hV hB hz ho C2 T2 hB2 hgc
        go_enter Try.func53, Try.ntmps53
        go_wp2
        have R6 := R3.put ⟨#[]⟩ none 0 0 ⟨#[]⟩
        obtain ⟨x0, x1, x2⟩ := R6.three
        have HZ := Lib.hid (HPP.out _ (by decide) (Sgn.below_set3 HB2.out (show w.heap.size ≤ w.heap.size + 2 by omega) (.string ⟨#[]⟩) (.slice none 0 0) (.string ⟨#[]⟩)))
        simp [bodyPost, results, Try.results53, go_sem, x0, x1, x2]
        exact HZ.out
      · obtain ⟨k, hk⟩ : ∃ k, k = q - 1 - zn := ⟨_, rfl⟩
        obtain ⟨b', o', x, rfl, hb', c0, hx, _⟩ := (hB.below hB2).at (k := k) (by omega)
        have hA : opA (cores G) V B 2 s zn tn = ([], x, 0) := by
          have : bindB B zn = x := by unfold bindB; rw [show B.length - 1 - (zn : Int).toNat = k by rw [← hB.1]; omega, hx]; rfl
          unfold opA; rw [if_neg h1, if_pos rfl, if_neg (by rw [← hB.1]; exact hzq), this]
        rw [hA]
        have HP := hP1 x
        generalize OpP ([], x, 0) w = PP at *
        have R3 := R2
        have i0 : ((q : Int) - 1 - (zn : Int)).toNat = k := by omega
        have i1 : 0 ≤ (q : Int) - 1 - (zn : Int) := by omega
        have i2 : (q : Int) - 1 - (zn : Int) < (q : Int) := by omega
        have HB2 := Lib.hid hB2
        have HPP := Lib.hid HP
        clear hA hP0 hP1 HP hG hK hV hB hz ho C2 T2 hB2 hgc hk hx
        go_enter Try.func53, Try.ntmps53
        go_wp2
        have R6 := R3.put ⟨#[]⟩ none 0 0 x
        obtain ⟨x0, x1, x2⟩ := R6.three
        have HZ := Lib.hid (HPP.out _ (Sgn.below_set3 HB2.out (show w.heap.size ≤ w.heap.size + 2 by omega) (.string ⟨#[]⟩) (.slice none 0 0) (.string x)))
        simp [bodyPost, results, Try.results53, go_sem, x0, x1, x2]
        exact HZ.out
    · have e2 : (o == 2) = false := by simp [h2]
      have g2 : (o = 2) = False := by simp [h2]
      by_cases h3 : o = 3
      · subst h3
        have cF := function_any a n c b m d G (fnV g) p q e s tn false W2 (hG.below hB2) hm hK htn
        have hA : opA (cores G) V B 3 s z tn = ((findC (cores G) s).2.1, (findC (cores G) s).2.2, fnE (cores G) s tn false) := by unfold opA; rw [if_neg h1, if_neg h2, if_pos rfl]
        rw [hA]
        have HP : ∀ (f : Fm) w', f.ok w' → (fnE (cores G) s tn false = 0 → f.core = findC (cores G) s) → Below w.heap.size w w' → OpP ((findC (cores G) s).2.1, (findC (cores G) s).2.2, fnE (cores G) s tn false) w (.returned (.tuple #[.agg #[.string f.name, .slice f.a f.m f.c, .string f.res], .int .i64 (fnE (cores G) s tn false)])) w' := fun f w' h1 h2 h3 => ⟨f, rfl, h1, fun h => by rw [← h2 h]; exact ⟨rfl, rfl⟩, h3⟩
        unfold FnP ckV at cF
        generalize OpP ((findC (cores G) s).2.1, (findC (cores G) s).2.2, fnE (cores G) s tn false) w = PP at *
        generalize fnE (cores G) s tn false = EE at *
        have HB2 := Lib.hid hB2
        have HPP := Lib.hid HP
        clear hA hP0 hP1 HP hG hK hV hB hz ho C2 T2 hB2 hgc
        go_enter Try.func53, Try.ntmps53
        go_wp2_with (go_at_call 81; ((with_reducible refine cF.mono ?_); rintro e w3 ⟨f, rfl, hok, hcore, hb3, hoff⟩; have R3 := R2.b hb3; obtain ⟨y0, y1, y2⟩ := R3.three; obtain ⟨z0, z1, z2⟩ := R3.free))
        have R6 := R3.put f.name f.a f.m f.c f.res
        obtain ⟨x0, x1, x2⟩ := R6.three
        have HZ := Lib.hid (HPP.out f _ (Sgn.SlS.far3 hok (hoff _ lR) (.string f.name) (.slice f.a f.m f.c) (.string f.res)) hcore (Sgn.below_set3 (bel_trans HB2.out hb3) (show w.heap.size ≤ w.heap.size + 2 by omega) (.string f.name) (.slice f.a f.m f.c) (.string f.res)))
        simp [bodyPost, results, Try.results53, go_sem, x0, x1, x2]
        exact HZ.out
      · have e3 : (o == 3) = false := by simp [h3]
        have g3 : (o = 3) = False := by simp [h3]
        obtain ⟨W3, hW3⟩ : ∃ W3, W2.alloc (.cells #[.string ⟨#[73, 110, 116]⟩] 9) = W3 := ⟨_, rfl⟩
        have X3 := Sgn.Blk.new W2 #[.string ⟨#[73, 110, 116]⟩] 9
        rw [hW3] at X3
        have hB3 : Below W2.heap.size W2 W3 := by rw [← hW3]; exact bel_alloc (Below.refl _ _) _
        have cR := repeat_few W2.heap.size 0 1 tn ⟨#[73, 110, 116]⟩ (ho h1 h2 h3) W3 (Sgn.Blk.lt X3) (Sgn.Blk.cell X3 0)
        have t30 : W3.cell? ⟨w.heap.size + 1, 3, none⟩ = some (.slice ta tn tc) := (hB3.cell (p := ⟨w.heap.size + 1, 3, none⟩) (by show w.heap.size + 1 < W2.heap.size; omega)).trans t3
        have hA : opA (cores G) V B o s z tn = (List.replicate tn sInt, sInt, 0) := by unfold opA; rw [if_neg h1, if_neg h2, if_neg h3]
        rw [hA]
        have HP : ∀ A C w', SlS w' A tn C (List.replicate tn sInt) → Below w.heap.size w w' → OpP (List.replicate tn sInt, sInt, 0) w (.returned (.tuple #[.agg #[.string ⟨#[]⟩, .slice A tn C, .string sInt], .int .i64 0])) w' := fun A C w' h1 h2 => ⟨⟨⟨#[]⟩, A, tn, C, _, sInt⟩, rfl, h1, fun _ => ⟨rfl, rfl⟩, h2⟩
        generalize OpP (List.replicate tn sInt, sInt, 0) w = PP at *
        unfold sInt at HP
        have HB2 := Lib.hid hB2
        have HPP := Lib.hid HP
        have HB3 := Lib.hid (bel_trans hB2 hB3)
        have lR3 : w.heap.size + 2 < W3.heap.size := Nat.lt_of_lt_of_le lR hB3.size
        have R4 := R2.b hB3
        clear hA hP0 hP1 HP hG hK hV hB hz ho C2 T2 hB2 hgc X3 hB3
        go_enter Try.func53, Try.ntmps53
        go_wp2_with (go_at_call 82; ((with_reducible refine cR.mono ?_); rintro e w3 ⟨A3, C3, rfl, hok, hb3, hoff⟩; have R3 := R4.b hb3; obtain ⟨y0, y1, y2⟩ := R3.three; obtain ⟨z0, z1, z2⟩ := R3.free))
        have R6 := R3.put ⟨#[]⟩ A3 tn C3 ⟨#[73, 110, 116]⟩
        obtain ⟨x0, x1, x2⟩ := R6.three
        have HZ := Lib.hid (HPP.out A3 C3 _ (Sgn.SlS.far3 hok (hoff _ lR3) (.string ⟨#[]⟩) (.slice A3 tn C3) (.string ⟨#[73, 110, 116]⟩)) (Sgn.below_set3 (bel_trans HB3.out hb3) (show w.heap.size ≤ w.heap.size + 2 by omega) (.string ⟨#[]⟩) (.slice A3 tn C3) (.string ⟨#[73, 110, 116]⟩)))
        simp [bodyPost, results, Try.results53, go_sem, x0, x1, x2]
        exact HZ.out
end Go.Proofs.Ytacncbkcnhlpcaa.Wl
