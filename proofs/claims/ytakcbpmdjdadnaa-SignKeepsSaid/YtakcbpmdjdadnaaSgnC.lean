/-
  What is proved: the first error of a function, by Check of package sign.
-/
import Derived.Test.YtakcbpmdjdadnaaSgnB
namespace Go.Proofs.Ytakcbpmdjdadnaa.Sgn
open Go.RowKit L Srt
set_option linter.unusedVariables false
set_option linter.unusedSimpArgs false

theorem ret {k : IntKind} {a b : Int} (h : b = a) : Ending.returned (.int k a) = .returned (.int k b) := by rw [h]
set_option maxHeartbeats 4000000 in
theorem Check_any (a : Option Addr) (n c : Nat) (S : List ByteArray) (b : Option Addr) (m d : Nat) (f : Fm) (w : World) (hS : SlS w a n c S) (hn : n ≤ 1000000) (hf : f.ok w) (hC : okC f.core) :
    Calls Try.prog 13 #[.agg #[.slice a n c, .slice b m d], .agg #[.string f.name, .slice f.a f.m f.c, .string f.res]] w fun e w' => e = .returned (.int .i64 (checkE S f.core)) ∧ Below w.heap.size w w' := by
  obtain ⟨W2, hW2, hB2, S2, F2⟩ := boxes w a n c b m d f.name f.a f.m f.c f.res
  have hz := hC.1
  have hm8 : f.m ≤ 1000000 := by rw [hf.1.1]; exact hC.2.2.1
  have cN := fun (w : World) => Name_any f.name w (by have : f.name.size ≤ 9223372036854775000 := hz; omega)
  have cW := fun (w : World) => Word_any f.name w hz
  have cK : ∀ w', Below w.heap.size w w' → Calls Try.prog 34 #[.slice a n c, .string f.res] w' fun e w1 => e = .returned (.bool (knownB S f.res)) ∧ Below w'.heap.size w' w1 := fun w' h => Known_any a n c S f.res w' (hS.below h).1 (by omega)
  have cA : ∀ w', SBox w' w.heap.size a n c b m d → Below w.heap.size w w' → Calls Try.prog 37 #[.slice f.a f.m f.c, .func (.func 33) #[] #[.pointer (some ⟨w.heap.size, 0, none⟩)]] w' fun e w1 => e = .returned (.bool (f.X.any (unfitB S))) ∧ Below w'.heap.size w' w1 := fun w' h1 h2 =>
    contains_any w.heap.size a n c S f.a f.m f.c f.X w' (Blk.lt h1) h1.two.1 (hS.below h2).1 (by omega) (hf.below h2).1 (by omega)
  have hE : checkE S f.core = if nmB f.name = false then 10 else if 8 < f.m then 12 else if f.X.any (unfitB S) = true then 11 else if knownB S f.res = false then 11 else 0 := by
    unfold checkE Fm.core; rw [hf.1.1]
  have hmf : ∀ (fn : Fn) (first cap : Array Value) (w : World), (Instr.makeFunc fn first cap).run Try.prog w = .ok (.func fn first cap) w := fun _ _ _ _ => rfl
  unfold nmB at hE
  generalize checkE S f.core = E at *
  generalize nameB f.name.data.toList = N at *
  generalize wordB f.name.data.toList = Wd at *
  generalize f.X.any (unfitB S) = Q at *
  generalize knownB S f.res = R at *
  obtain ⟨s0, s1⟩ := S2.two
  obtain ⟨f0, f1, f2⟩ := F2.three
  clear hS hf hC hz
  have leaf : (E = 10 ∧ N = false) ∨ (E = 10 ∧ N = true ∧ Wd = true) ∨ (N = true ∧ Wd = false ∧ E = 12 ∧ 8 < f.m) ∨ (N = true ∧ Wd = false ∧ ¬ 8 < f.m ∧ Q = true ∧ E = 11) ∨ (N = true ∧ Wd = false ∧ ¬ 8 < f.m ∧ Q = false ∧ R = false ∧ E = 11) ∨ (N = true ∧ Wd = false ∧ ¬ 8 < f.m ∧ Q = false ∧ R = true ∧ E = 0) := by
    by_cases h8 : 8 < f.m
    · cases N <;> cases Wd <;> simp [h8] at hE ⊢ <;> exact hE
    · cases N <;> cases Wd <;> cases Q <;> cases R <;> simp [h8] at hE ⊢ <;> exact hE
  clear hE
  generalize f.a = A at *
  generalize f.m = M at *
  generalize f.c = Cc at *
  generalize f.name = nm at *
  generalize f.res = rs at *
  rcases leaf with ⟨rfl, rfl⟩ | ⟨rfl, rfl, rfl⟩ | ⟨rfl, rfl, rfl, h8⟩ | ⟨rfl, rfl, h8, rfl, rfl⟩ | ⟨rfl, rfl, h8, rfl, rfl, rfl⟩ | ⟨rfl, rfl, h8, rfl, rfl, rfl⟩
  all_goals
    try (have h9 : 8 < (M : Int) := by omega)
    try (have h9 : ¬ 8 < (M : Int) := by omega)
    go_enter Try.func13, Try.ntmps13
    go_wp2_with (first
      | (go_at_call 35; ((with_reducible refine (cN _).mono ?_); rintro e w' ⟨rfl, rfl⟩))
      | (go_at_call 36; ((with_reducible refine (cW _).mono ?_); rintro e w1 ⟨rfl, hb1⟩; have S1 := S2.b hb1; have F1 := F2.b hb1; have B1 := bel_trans hB2 hb1; obtain ⟨s10, s11⟩ := S1.two; obtain ⟨f10, f11, f12⟩ := F1.three))
      | (go_at_call 37; ((with_reducible refine (cA _ S1 B1).mono ?_); rintro e w3 ⟨rfl, hb3⟩; have S3 := S1.b hb3; have F3 := F1.b hb3; have B3 := bel_trans B1 hb3; obtain ⟨s30, s31⟩ := S3.two; obtain ⟨f30, f31, f32⟩ := F3.three))
      | (go_at_call 34; ((with_reducible refine (cK _ B3).mono ?_); rintro e w4 ⟨rfl, hb4⟩; have B4 := bel_trans B3 hb4)))
    go_ret
    first | exact ⟨rfl, B4⟩ | exact ⟨rfl, B3⟩ | exact ⟨rfl, B1⟩ | exact ⟨rfl, hB2⟩
end Go.Proofs.Ytakcbpmdjdadnaa.Sgn
