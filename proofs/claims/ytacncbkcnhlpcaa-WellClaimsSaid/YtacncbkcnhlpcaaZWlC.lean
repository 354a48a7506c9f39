/-
  What is proved: the function of a name, as package well's checker asks for it.
-/
import Derived.Test.YtacncbkcnhlpcaaZWlR
import Derived.Test.YtacncbkcnhlpcaaWP
namespace Go.Proofs.Ytacncbkcnhlpcaa.Wl
open Go.RowKit L T C
open Sgn (SlG Fm Core cores hasN findC FindOff Find_off FBox FBox.new SlS.nul)
set_option linter.unusedVariables false
set_option linter.unusedSimpArgs false
set_option maxRecDepth 100000

/-- a checker's value; a block that holds one -/
abbrev ckV (a : Option Addr) (n c : Nat) (b : Option Addr) (m d : Nat) (fn : Value) (p : Option Addr) (q e : Nat) : Value := .agg #[.slice a n c, .slice b m d, fn, .slice p q e]
def CK (w : World) (g : Nat) (a : Option Addr) (n c : Nat) (b : Option Addr) (m d : Nat) (fn : Value) (p : Option Addr) (q e : Nat) : Prop := Sgn.Blk w g #[.slice a n c, .slice b m d, fn, .slice p q e] 74
theorem CK.four {w : World} {g : Nat} {a : Option Addr} {n c : Nat} {b : Option Addr} {m d : Nat} {fn : Value} {p : Option Addr} {q e : Nat} (h : CK w g a n c b m d fn p q e) :
    w.cell? ⟨g, 0, none⟩ = some (.slice a n c) ∧ w.cell? ⟨g, 1, none⟩ = some (.slice b m d) ∧ w.cell? ⟨g, 2, none⟩ = some fn ∧ w.cell? ⟨g, 3, none⟩ = some (.slice p q e) := ⟨Sgn.Blk.cell h 0, Sgn.Blk.cell h 1, Sgn.Blk.cell h 2, Sgn.Blk.cell h 3⟩
def fnE (K : List Core) (s : ByteArray) (n : Nat) (p : Bool) : Int :=
  if (!hasN K s || ((findC K s).2.2.toList == sBool.toList) != p) = true then 10 else if (findC K s).2.1.length ≠ n then 12 else 0
def FnP (K : List Core) (s : ByteArray) (n : Nat) (p : Bool) (w : World) (e : Ending) (w' : World) : Prop :=
  ∃ f : Fm, e = .returned (.tuple #[.agg #[.string f.name, .slice f.a f.m f.c, .string f.res], .int .i64 (fnE K s n p)]) ∧ f.ok w' ∧ (fnE K s n p = 0 → f.core = findC K s) ∧ Below w.heap.size w w' ∧ ∀ g, g < w.heap.size → Sgn.Off g f.a f.m
/-- a checker and an empty function put into blocks -/
theorem boxesC (w : World) (a : Option Addr) (n c : Nat) (b : Option Addr) (m d : Nat) (fn : Value) (p : Option Addr) (q e : Nat) :
    ∃ W, (w.alloc (.cells #[.slice a n c, .slice b m d, fn, .slice p q e] 74)).alloc (.cells #[.string ⟨#[]⟩, .slice none 0 0, .string ⟨#[]⟩] 62) = W ∧ Below w.heap.size w W ∧ CK W w.heap.size a n c b m d fn p q e ∧ FBox W (w.heap.size + 1) ⟨#[]⟩ none 0 0 ⟨#[]⟩ := by
  refine ⟨_, rfl, bel_alloc (bel_alloc (Below.refl _ _) _) _, Sgn.Blk.alloc (Sgn.Blk.new w _ _) _, ?_⟩
  have := FBox.new (w.alloc (.cells #[.slice a n c, .slice b m d, fn, .slice p q e] 74)) ⟨#[]⟩ none 0 0 ⟨#[]⟩
  rwa [show (w.alloc (.cells #[.slice a n c, .slice b m d, fn, .slice p q e] 74)).heap.size = w.heap.size + 1 by simp] at this

set_option maxHeartbeats 8000000 in
theorem function_any (a : Option Addr) (n c : Nat) (b : Option Addr) (m d : Nat) (G : List Fm) (fn : Value) (p : Option Addr) (q e : Nat) (s : ByteArray) (N : Nat) (P : Bool) (w : World) (hG : SlG w b m d G) (hm : m ≤ 1000000) (hK : ∀ C ∈ cores G, C.2.1.length ≤ 1000000) (hN : N ≤ 1000000) :
    Calls Try.prog 81 #[ckV a n c b m d fn p q e, .string s, .int .i64 N, .bool P] w (FnP (cores G) s N P w) := by
  obtain ⟨W2, hW2, hB2, C2, R2⟩ := boxesC w a n c b m d fn p q e
  obtain ⟨k0, k1, k2, k3⟩ := C2.four
  have cF := Find_off a n c b m d G s W2 (hG.below hB2) hm hK
  have lR := Sgn.Blk.lt R2
  have cF2 : Calls Try.prog 38 #[.agg #[.slice a n c, .slice b m d], .string s] W2 fun e w' => ∃ A C, e = .returned (.tuple #[.agg #[.string (findC (cores G) s).1, .slice A (findC (cores G) s).2.1.length C, .string (findC (cores G) s).2.2], .bool (hasN (cores G) s)]) ∧ SlS w' A (findC (cores G) s).2.1.length C (findC (cores G) s).2.1 ∧ Below W2.heap.size W2 w' ∧ ∀ g, g < W2.heap.size → Sgn.Off g A (findC (cores G) s).2.1.length :=
    cF.mono fun e w' ⟨f, h1, h2, h3, h4, h5⟩ => by
      rw [← h3]
      have hm : f.m = f.X.length := h2.1.1
      refine ⟨f.a, f.c, by rw [h1, hm]; rfl, ?_, h4, ?_⟩
      · show SlS w' f.a f.X.length f.c f.X
        rw [← hm]; exact h2
      · show ∀ g, g < W2.heap.size → Sgn.Off g f.a f.X.length
        rw [← hm]; exact h5
  unfold ckV
  have hE : fnE (cores G) s N P = if (!hasN (cores G) s || ((findC (cores G) s).2.2.toList == [66, 111, 111, 108]) != P) = true then 10 else if (findC (cores G) s).2.1.length ≠ N then 12 else 0 := by unfold fnE; rw [sBool_l]
  have hP : ∀ A C E w', fnE (cores G) s N P = E → SlS w' A (findC (cores G) s).2.1.length C (findC (cores G) s).2.1 → Below w.heap.size w w' → (∀ g, g < W2.heap.size → Sgn.Off g A (findC (cores G) s).2.1.length) → FnP (cores G) s N P w (.returned (.tuple #[.agg #[.string (findC (cores G) s).1, .slice A (findC (cores G) s).2.1.length C, .string (findC (cores G) s).2.2], .int .i64 E])) w' := fun A C E w' h1 h2 h4 h5 => by
    unfold FnP; rw [h1]; exact ⟨⟨_, A, _, C, _, _⟩, rfl, h2, fun _ => rfl, h4, fun g hg => h5 g (by omega)⟩
  have hP0 : ∀ E w', fnE (cores G) s N P = E → E ≠ 0 → Below w.heap.size w w' → FnP (cores G) s N P w (.returned (.tuple #[.agg #[.string ⟨#[]⟩, .slice none 0 0, .string ⟨#[]⟩], .int .i64 E])) w' := fun E w' h1 h2 h4 => by
    unfold FnP; rw [h1]; exact ⟨⟨_, none, 0, 0, [], _⟩, rfl, SlS.nul _, fun h => absurd h h2, h4, fun g _ hm => absurd hm (by simp)⟩
  generalize FnP (cores G) s N P w = PP at *
  generalize fnE (cores G) s N P = EE at *
  generalize hasN (cores G) s = H at *
  generalize findC (cores G) s = FC at *
  obtain ⟨nm, X, rs⟩ := FC
  simp only at cF2 hE hP
  generalize hM : X.length = M at *
  have hfr : ∀ (A : Option Addr) (C : Nat) w5 (v0 v1 v2 : Value), SlS w5 A M C X → (∀ g, g < W2.heap.size → Sgn.Off g A M) → SlS (((w5.setCell ⟨w.heap.size + 1, 0, none⟩ v0).setCell ⟨w.heap.size + 1, 1, none⟩ v1).setCell ⟨w.heap.size + 1, 2, none⟩ v2) A M C X := fun A C w5 v0 v1 v2 h1 h2 => Sgn.SlS.far3 h1 (h2 _ lR) v0 v1 v2
  have hbs : ∀ w5 (v0 v1 v2 : Value), Below W2.heap.size W2 w5 → Below w.heap.size w (((w5.setCell ⟨w.heap.size + 1, 0, none⟩ v0).setCell ⟨w.heap.size + 1, 1, none⟩ v1).setCell ⟨w.heap.size + 1, 2, none⟩ v2) := fun w5 v0 v1 v2 h => Sgn.below_set3 (bel_trans hB2 h) (Nat.le_succ _) v0 v1 v2
  have HP := Lib.hid hP
  have HP0 := Lib.hid hP0
  have HE := Lib.hid hE
  have Hfr := Lib.hid hfr
  have Hbs := Lib.hid hbs
  clear hG hK hP hP0 hE C2 cF hfr hbs hM
  have lp : w.heap.size + 1 < W2.heap.size := lR
  cases H <;> cases h1 : rs.toList == [66, 111, 111, 108] <;> cases P
  all_goals
    first | (have g1 : (rs.toList = [66, 111, 111, 108]) = False := by simpa using h1) | (have g1 : (rs.toList = [66, 111, 111, 108]) = True := by simpa using h1)
    by_cases hMN : M = N
    · have hE2 := HE.out
      simp [h1, hMN] at hE2
      have HE2 := Lib.hid hE2
      subst hMN
      clear hE2 HE
      go_enter Try.func81, Try.ntmps81
      go_wp2_with (go_at_call 38; ((with_reducible refine cF2.mono ?_); rintro e w3 ⟨A3, C3, rfl, hok, hb3, hoff⟩; have F5 := FBox.new w3 nm A3 M C3 rs; have B5 : Below W2.heap.size W2 (w3.alloc (.cells #[.string nm, .slice A3 M C3, .string rs] 62)) := bel_alloc hb3 _; have ok5 := SlS.below hok (show Below w3.heap.size w3 (w3.alloc (.cells #[.string nm, .slice A3 M C3, .string rs] 62)) from bel_alloc (Below.refl _ _) _); obtain ⟨t0, t1, t2⟩ := F5.three; have R5 := R2.b B5; obtain ⟨r0, r1, r2⟩ := R5.three; obtain ⟨q0, q1, q2⟩ := R5.free))
      first
        | (have R6 := R5.put ⟨#[]⟩ none 0 0 ⟨#[]⟩
           obtain ⟨x0, x1, x2⟩ := R6.three
           have HZ := Lib.hid (HP0.out _ _ HE2.out (by decide) (Hbs.out _ (.string ⟨#[]⟩) (.slice none 0 0) (.string ⟨#[]⟩) B5))
           simp [bodyPost, results, Try.results81, go_sem, x0, x1, x2]
           exact HZ.out)
        | (have R6 := R5.put nm A3 M C3 rs
           obtain ⟨x0, x1, x2⟩ := R6.three
           have HZ := Lib.hid (HP.out A3 C3 _ _ HE2.out (Hfr.out _ _ _ (.string nm) (.slice A3 M C3) (.string rs) ok5 hoff) (Hbs.out _ (.string nm) (.slice A3 M C3) (.string rs) B5) hoff)
           simp [bodyPost, results, Try.results81, go_sem, x0, x1, x2]
           exact HZ.out)
    · have hE2 := HE.out
      simp [h1, hMN] at hE2
      have HE2 := Lib.hid hE2
      have hMN2 : ((M : Int) != (N : Int)) = true := by simp; omega
      have hMN3 : ((M : Int) = (N : Int)) = False := by simp; omega
      clear hE2 HE
      go_enter Try.func81, Try.ntmps81
      go_wp2_with (go_at_call 38; ((with_reducible refine cF2.mono ?_); rintro e w3 ⟨A3, C3, rfl, hok, hb3, hoff⟩; have F5 := FBox.new w3 nm A3 M C3 rs; have B5 : Below W2.heap.size W2 (w3.alloc (.cells #[.string nm, .slice A3 M C3, .string rs] 62)) := bel_alloc hb3 _; obtain ⟨t0, t1, t2⟩ := F5.three; have R5 := R2.b B5; obtain ⟨r0, r1, r2⟩ := R5.three; obtain ⟨q0, q1, q2⟩ := R5.free))
      have R6 := R5.put ⟨#[]⟩ none 0 0 ⟨#[]⟩
      obtain ⟨x0, x1, x2⟩ := R6.three
      have HZ := Lib.hid (HP0.out _ _ HE2.out (by decide) (Hbs.out _ (.string ⟨#[]⟩) (.slice none 0 0) (.string ⟨#[]⟩) B5))
      simp [bodyPost, results, Try.results81, go_sem, x0, x1, x2]
      exact HZ.out
end Go.Proofs.Ytacncbkcnhlpcaa.Wl
