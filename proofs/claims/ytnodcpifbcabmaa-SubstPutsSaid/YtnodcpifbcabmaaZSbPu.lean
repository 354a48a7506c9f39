/-
  What is proved: what package subst's Put returns: the pairs of other names, the new pair ahead of the first greater name.
-/
import Derived.Test.YtnodcpifbcabmaaBP
import Derived.Deep.RegionHeld3
namespace Go.Proofs.Ytnodcpifbcabmaa.U
open Go.RowKit L T C B Mt
set_option linter.unusedVariables false
set_option linter.unusedSimpArgs false

/-- l with x put, as package subst does it -/
def putU (l : List Pr) (x : Pr) : List Pr := insP (keepP (eqF x.nm) l) (fiP (gtF x.nm) (keepP (eqF x.nm) l)) x
set_option maxRecDepth 100000 in
set_option maxHeartbeats 16000000 in
theorem Put_any (l : List Pr) (hsz : ∀ p ∈ l, size p.t ≤ 1000000) (x : Pr) (hsx : size x.t ≤ 1000000) (b : Option Addr) (m d : Nat) (a : Option Addr) (n c : Nat) (w : World) (hm : m ≤ 1000000) (hG : UsW w b m d l) (hA : ArW w x.t a n c) :
    Calls Try.prog 27 #[.slice b m d, .string x.nm, .agg #[.int .i64 (opT x.t), .string (nameT x.t), .int .i64 (numT x.t), .slice a n c]] w fun e w' => ∃ A N C, e = .returned (.slice A N C) ∧ UsW w' A N C (putU l x) ∧ Below w.heap.size w w' := by
  obtain ⟨W1, hW1⟩ : ∃ W1, w.alloc (.cells #[.string x.nm] 9) = W1 := ⟨_, rfl⟩
  have hB1 : Below w.heap.size w W1 := by rw [← hW1]; exact bel_alloc (Below.refl _ _) _
  have c1 : W1.cell? ⟨w.heap.size, 0, none⟩ = some (.string x.nm) := by rw [← hW1]; exact Blk.cell (Blk.new w #[.string x.nm] 9) 0
  have hl1 : W1.heap.size = w.heap.size + 1 := by rw [← hW1]; simp
  obtain ⟨W2, hW2, hB2, hs2, R2⟩ := box1 W1 (opT x.t) (nameT x.t) (numT x.t) a n c
  have hBB := bel_trans hB1 hB2
  have c2 : W2.cell? ⟨w.heap.size, 0, none⟩ = some (.string x.nm) := (hB2.cell (p := ⟨w.heap.size, 0, none⟩) (by show w.heap.size < _; omega)).trans c1
  have cC := copied_any l hsz b m d W2 hm (UsW.b hG hBB)
  have hml : m = l.length := hG.1
  have hx2 : ArW W2 x.t a n c := ArW.b hA hBB
  have HA2 := Lib.hid hx2
  have hlt2 : w.heap.size < W2.heap.size := by omega
  have HQ := Lib.hid (show ∀ (w' : World), Below W2.heap.size W2 w' → (w'.cell? ⟨w.heap.size, 0, none⟩ = some (.string x.nm) ∧ w'.cell? ⟨W1.heap.size, 0, none⟩ = some (.int .i64 (opT x.t)) ∧ w'.cell? ⟨W1.heap.size, 1, none⟩ = some (.string (nameT x.t)) ∧ w'.cell? ⟨W1.heap.size, 2, none⟩ = some (.int .i64 (numT x.t)) ∧ w'.cell? ⟨W1.heap.size, 3, none⟩ = some (.slice a n c)) from fun w' h => by
    obtain ⟨q0, q1, q2, q3⟩ := (TBox.b R2 h).four
    exact ⟨(h.cell (p := ⟨w.heap.size, 0, none⟩) hlt2).trans c2, q0, q1, q2, q3⟩)
  have HD := Lib.hid (show ∀ (A : Option Addr) (C : Nat) (w3 : World), OwnP w3 W2.heap.size (.slice A m C) l → Below W2.heap.size W2 w3 → _ from fun A C w3 h1 h2 => delU_any l x.nm w.heap.size W2.heap.size m C A w3 h1 h2.size hm hlt2 ((h2.cell (p := ⟨w.heap.size, 0, none⟩) hlt2).trans c2))
  have HP : Hid (putU l x = insP (keepP (eqF x.nm) l) (fiP (gtF x.nm) (keepP (eqF x.nm) l)) x) := Lib.hid rfl
  have hle := fiP_le (gtF x.nm) (keepP (eqF x.nm) l)
  have HI := Lib.hid (show ∀ (A : Option Addr) (C : Nat) (w4 : World), Below W2.heap.size W2 w4 → UsW w4 A (keepP (eqF x.nm) l).length C (keepP (eqF x.nm) l) → _ from fun A C w4 h1 h2 => idx_put2 w.heap.size x.nm A (keepP (eqF x.nm) l).length C (keepP (eqF x.nm) l) w4 (Nat.lt_of_lt_of_le hlt2 h1.size) ((h1.cell (p := ⟨w.heap.size, 0, none⟩) hlt2).trans c2) h2)
  have hps : (∃ k : Nat, fiP (gtF x.nm) (keepP (eqF x.nm) l) = k ∧ posP (gtF x.nm) (keepP (eqF x.nm) l) = (k : Int) ∧ k < (keepP (eqF x.nm) l).length) ∨ (posP (gtF x.nm) (keepP (eqF x.nm) l) = -1 ∧ fiP (gtF x.nm) (keepP (eqF x.nm) l) = (keepP (eqF x.nm) l).length) := by
    rcases Nat.lt_or_eq_of_le hle with h | h
    · exact .inl ⟨_, rfl, by unfold posP; rw [if_pos h], h⟩
    · exact .inr ⟨by unfold posP; rw [if_neg (by omega)], h⟩
  generalize keepP (eqF x.nm) l = K at *
  generalize putU l x = R at *
  have HIn := Lib.hid (show ∀ (A : Option Addr) (C k : Nat) (w5 w6 : World) (a3 : Option Addr) (n3 c3 : Nat), K.length ≤ 1000000 → k ≤ K.length → Below W2.heap.size W2 w5 → OwnP w5 W2.heap.size (.slice A K.length C) K → ArP (Nw 0 0 w5.heap.size w6.heap.size) w6 x.t a3 n3 c3 → Below w5.heap.size w5 w6 → _ from fun A C k w5 w6 a3 n3 c3 hkm hk h1 ho h3 h4 =>
    insU_any K x W2.heap.size w6.heap.size K.length C k A a3 n3 c3 (w6.alloc (.cells #[.string x.nm, .int .i64 (opT x.t), .string (nameT x.t), .int .i64 (numT x.t), .slice a3 n3 c3] 43)) (ho.below (bel_alloc h4 _)) hkm hk (by have := h1.size; have := h4.size; simp; omega) (fun e => by have := (ho.lt _ e).2; have := h4.size; omega) (Blk.new w6 _ _) (ArP.to (fun q hq => (bel_alloc (Below.refl w6.heap.size w6) _).block q (by unfold Nw at hq; omega)) (fun q hq => ⟨by unfold Nw at hq; simp; omega, fun e => by have := (ho.lt _ e).2; unfold Nw at hq; omega⟩) _ h3))
  have HCp := Lib.hid (show ∀ (w5 : World), Below W2.heap.size W2 w5 → _ from fun w5 h => copy_rt x.t a n c w5 hsx (ArW.b HA2.out h))
  have Hm := Lib.hid hm
  have HBB := Lib.hid hBB
  have hmf : ∀ (fn : Fn) (first cap : Array Value) (w : World), (Instr.makeFunc fn first cap).run Try.prog w = .ok (.func fn first cap) w := fun _ _ _ _ => rfl
  unfold RtT at HCp
  unfold InsR at HIn
  clear hG hA hsz hsx hm hml hx2 R2 c1 c2 hs2 hl1 hB1 hB2 hBB hle HA2
  generalize opT x.t = op at *
  generalize nameT x.t = nm at *
  generalize numT x.t = nu at *
  generalize x.nm = xn at *
  obtain ⟨k0, k1, k2, k3, k4⟩ := HQ.out W2 (Below.refl _ _)
  rcases hps with ⟨k, hk, hp, hkl⟩ | ⟨hp, hk⟩
  · rw [hp] at HI
    rw [hk] at HP
    clear hp hk
    have g1 : decide ((k : Int) < 0) = false := decide_eq_false (by omega)
    go_enter Try.func27, Try.ntmps27
    go_wp2_with (first
      | (go_at_call 59; ((with_reducible refine cC.mono ?_); rintro e w3 ⟨A, C, rfl, ho, -, hb3⟩; have cD := HD.out A C w3 ho hb3; clear ho))
      | (go_at_call 58; ((with_reducible refine cD.mono ?_); rintro e w4 ⟨m4, rfl, hm4, ho4, hb4⟩; have hB4 : Below W2.heap.size W2 w4 := hb3.trans hb4; obtain ⟨hmK, -, -⟩ := ho4.addr; subst hmK; have HO4 := Lib.hid ho4; have HmK := Lib.hid (Nat.le_trans hm4 Hm.out); have cI := HI.out A C w4 hB4 ho4.us; clear ho4 hm4))
      | (go_at_call 56; ((with_reducible refine cI.mono ?_); rintro e w5 ⟨rfl, hb5⟩; have hB5 : Below W2.heap.size W2 w5 := hB4.trans (hb5.mono hB4.size); have HO5 := Lib.hid (HO4.out.below hb5); obtain ⟨j0, j1, j2, j3, j4⟩ := HQ.out w5 hB5)))
    go_region_held3 (fun w' => w'.cell? ⟨w.heap.size, 0, none⟩ = some (.string xn) ∧ w'.cell? ⟨W1.heap.size, 0, none⟩ = some (.int .i64 op) ∧ w'.cell? ⟨W1.heap.size, 1, none⟩ = some (.string nm) ∧ w'.cell? ⟨W1.heap.size, 2, none⟩ = some (.int .i64 nu) ∧ w'.cell? ⟨W1.heap.size, 3, none⟩ = some (.slice a n c))
      (first | (exact HQ.out _ (by first | assumption | exact Below.drew (by assumption))) | go_keep)
      (first
        | (go_at_call 53; ((with_reducible refine (HCp.out _ hB5.drew).mono ?_); rintro e w6 ⟨a3, n3, c3, rfl, hA3, hb6⟩; have hB6 : Below W2.heap.size W2 w6 := bel_trans hB5.drew hb6; have cN := HIn.out A C k _ w6 a3 n3 c3 HmK.out (Nat.le_of_lt hkl) hB5.drew (HO5.out.below (Below.refl _ _).drew) hA3 hb6; clear hA3))
        | (go_at_call 62; ((with_reducible refine cN.mono ?_); rintro e w7 ⟨A7, C7, rfl, hO7, hb7⟩; have hB7 : Below W2.heap.size W2 w7 := (bel_alloc hB6 _).trans hb7; have HO7 := Lib.hid hO7; clear hO7)))
    all_goals go_wp2
    all_goals go_ret
    all_goals exact ⟨_, _, _, rfl, by rw [HP.out]; exact HO7.out.us, bel_trans HBB.out hB7⟩
  · rw [hp] at HI
    rw [hk] at HP
    clear hp hk
    go_enter Try.func27, Try.ntmps27
    go_wp2_with (first
      | (go_at_call 59; ((with_reducible refine cC.mono ?_); rintro e w3 ⟨A, C, rfl, ho, -, hb3⟩; have cD := HD.out A C w3 ho hb3; clear ho))
      | (go_at_call 58; ((with_reducible refine cD.mono ?_); rintro e w4 ⟨m4, rfl, hm4, ho4, hb4⟩; have hB4 : Below W2.heap.size W2 w4 := hb3.trans hb4; obtain ⟨hmK, -, -⟩ := ho4.addr; subst hmK; have HO4 := Lib.hid ho4; have HmK := Lib.hid (Nat.le_trans hm4 Hm.out); have cI := HI.out A C w4 hB4 ho4.us; clear ho4 hm4))
      | (go_at_call 56; ((with_reducible refine cI.mono ?_); rintro e w5 ⟨rfl, hb5⟩; have hB5 : Below W2.heap.size W2 w5 := hB4.trans (hb5.mono hB4.size); have HO5 := Lib.hid (HO4.out.below hb5); obtain ⟨j0, j1, j2, j3, j4⟩ := HQ.out w5 hB5)))
    go_region_held3 (fun w' => w'.cell? ⟨w.heap.size, 0, none⟩ = some (.string xn) ∧ w'.cell? ⟨W1.heap.size, 0, none⟩ = some (.int .i64 op) ∧ w'.cell? ⟨W1.heap.size, 1, none⟩ = some (.string nm) ∧ w'.cell? ⟨W1.heap.size, 2, none⟩ = some (.int .i64 nu) ∧ w'.cell? ⟨W1.heap.size, 3, none⟩ = some (.slice a n c))
      (first | (exact HQ.out _ (by first | assumption | exact Below.drew (by assumption))) | go_keep)
      (first
        | (go_at_call 53; ((with_reducible refine (HCp.out _ hB5.drew).mono ?_); rintro e w6 ⟨a3, n3, c3, rfl, hA3, hb6⟩; have hB6 : Below W2.heap.size W2 w6 := bel_trans hB5.drew hb6; have cN := HIn.out A C K.length _ w6 a3 n3 c3 HmK.out (Nat.le_refl _) hB5.drew (HO5.out.below (Below.refl _ _).drew) hA3 hb6; clear hA3))
        | (go_at_call 62; ((with_reducible refine cN.mono ?_); rintro e w7 ⟨A7, C7, rfl, hO7, hb7⟩; have hB7 : Below W2.heap.size W2 w7 := (bel_alloc hB6 _).trans hb7; have HO7 := Lib.hid hO7; clear hO7)))
    all_goals go_wp2
    all_goals go_ret
    all_goals exact ⟨_, _, _, rfl, by rw [HP.out]; exact HO7.out.us, bel_trans HBB.out hB7⟩
end Go.Proofs.Ytnodcpifbcabmaa.U
