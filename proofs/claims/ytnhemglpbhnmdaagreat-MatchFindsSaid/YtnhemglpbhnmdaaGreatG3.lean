/-
  What is proved: the library's IndexFunc over a list of pairs, with the closures of package subst; package subst's Get.
  What is proved: what package subst's Get answers: the term of the first pair of that name, in new memory.
-/
import Derived.Test.YtnhemglpbhnmdaaGreatG5
import Derived.Test.YtnhemglpbhnmdaaGreatBM
namespace Go.Proofs.YtnhemglpbhnmdaaGreat.U
open Go.RowKit L T C
set_option linter.unusedVariables false
set_option linter.unusedSimpArgs false

/-- the first place where f holds; the length, where it holds nowhere -/
def fiP (f : Pr → Bool) : List Pr → Nat
  | [] => 0
  | p :: l => if f p = true then 0 else fiP f l + 1
def posP (f : Pr → Bool) (l : List Pr) : Int := if fiP f l < l.length then (fiP f l : Int) else -1
theorem fiP_le (f : Pr → Bool) : ∀ l : List Pr, fiP f l ≤ l.length
  | [] => Nat.le_refl _
  | p :: l => by rw [fiP]; have := fiP_le f l; split <;> simp <;> omega
theorem fiP_step {f : Pr → Bool} {l : List Pr} {k : Nat} {p : Pr} (h : l[k]? = some p) : fiP f (l.drop k) = if f p = true then 0 else fiP f (l.drop (k + 1)) + 1 := by rw [drop_u h, fiP]
def eqF (s : ByteArray) (p : Pr) : Bool := p.nm.toList == s.toList
def gtF (s : ByteArray) (p : Pr) : Bool := !Go.Op.bytesLess p.nm.toList s.toList && !p.nm.toList == s.toList
theorem gtF_eq (s : ByteArray) (p : Pr) : gtF s p = decide (cmpN p.nm s = 1) := by
  unfold gtF
  rw [less_yes, same_yes]
  rcases linN.rng p.nm s with h | h | h <;> rw [h] <;> rfl

set_option maxRecDepth 100000 in
set_option maxHeartbeats 2000000 in
theorem clo_get (g : Nat) (s : ByteArray) (p : Pr) (a : Option Addr) (n c : Nat) (w : World) (hlt : g < w.heap.size) (hg : w.cell? ⟨g, 0, none⟩ = some (.string s)) :
    Calls Tryz.prog 56 #[.agg #[.string p.nm, .int .i64 (opT p.t), .string (nameT p.t), .int .i64 (numT p.t), .slice a n c], .pointer (some ⟨g, 0, none⟩)] w fun e w' => e = .returned (.bool (eqF s p)) ∧ Below w.heap.size w w' := by
  obtain ⟨W2, hW2, hB2, hs2, S2⟩ := ubox1 w p.nm (opT p.t) (nameT p.t) (numT p.t) a n c
  have g0 := (hB2.cell (p := ⟨g, 0, none⟩) hlt).trans hg
  obtain ⟨s0, s1, s2, s3, s4⟩ := S2.five
  unfold eqF
  clear hg S2
  generalize opT p.t = op at *
  generalize nameT p.t = nm at *
  generalize numT p.t = nu at *
  generalize p.nm = x at *
  go_enter Tryz.func56, Tryz.ntmps56
  go_wp2
  go_ret
  exact ⟨rfl, hB2⟩
set_option maxRecDepth 100000 in
set_option maxHeartbeats 4000000 in
theorem idx_get (g : Nat) (s : ByteArray) (b : Option Addr) (m d : Nat) (l : List Pr) (w : World) (hlt : g < w.heap.size) (hg : w.cell? ⟨g, 0, none⟩ = some (.string s)) (hG : UsW w b m d l) :
    Calls Tryz.prog 55 #[.slice b m d, .func (.func 56) #[] #[.pointer (some ⟨g, 0, none⟩)]] w fun e w' => e = .returned (.int .i64 (posP (eqF s) l)) ∧ Below w.heap.size w w' := by
  have hm : m ≤ 9223372036854775807 := hG.lt63
  have cu : ∀ (p : Pr) (a : Option Addr) (n c : Nat) (w' : World), Below w.heap.size w w' → Calls Tryz.prog 56 #[.agg #[.string p.nm, .int .i64 (opT p.t), .string (nameT p.t), .int .i64 (numT p.t), .slice a n c], .pointer (some ⟨g, 0, none⟩)] w' fun e w1 => e = .returned (.bool (eqF s p)) ∧ Below w'.heap.size w' w1 :=
    fun p a n c w' h => clo_get g s p a n c w' (Nat.lt_of_lt_of_le hlt h.size) ((h.cell (p := ⟨g, 0, none⟩) hlt).trans hg)
  generalize eqF s = f at *
  have hlen : l.length = m := hG.1.symm
  have hst : ∀ k (p : Pr), l[k]? = some p → fiP f (l.drop k) = if f p = true then 0 else fiP f (l.drop (k + 1)) + 1 := fun k p h => fiP_step h
  have he : ∀ k, m ≤ k → fiP f (l.drop k) = 0 := fun k h => by rw [List.drop_eq_nil_of_le (by rw [hlen]; exact h)]; rfl
  have h0 : fiP f l = fiP f (l.drop 0) := rfl
  have hR1 : ∀ k, k < m → fiP f (l.drop 0) = k → posP f l = (k : Int) := fun k h g => by unfold posP; rw [h0, g, if_pos (by rw [hlen]; exact h)]
  have hR2 : fiP f (l.drop 0) = m → posP f l = -1 := fun g => by unfold posP; rw [h0, g, if_neg (by rw [hlen]; omega)]
  generalize posP f l = R at *
  obtain ⟨F, hF⟩ : ∃ F : Nat → Nat, ∀ k, fiP f (l.drop k) = F k := ⟨_, fun _ => rfl⟩
  simp only [hF] at hst he hR1 hR2
  clear hF h0 hlen hg
  have H1 := Lib.hid hG
  have Hst := Lib.hid hst
  have He := Lib.hid he
  have HR1 := Lib.hid hR1
  have HR2 := Lib.hid hR2
  have Hu := Lib.hid cu
  clear hG hst he hR1 hR2 cu
  go_enter Tryz.func55, Tryz.ntmps55
  go_wp2
  go_loopw [8] (fun i wr0 => ∃ (wr : World) (k : Nat), wr = wr0 ∧ k ≤ m ∧ i = .int .i64 k ∧ Below w.heap.size w wr ∧ Hid (F 0 = k + F k)) (fun i _ => m - (intOf i).toNat)
  case atStart => exact ⟨w, 0, rfl, by omega, rfl, Below.refl _ _, Lib.hid (by omega)⟩
  case round =>
    obtain ⟨wr, k, rfl, hk, rfl, hB, hR⟩ := hrel
    by_cases hlt2 : k < m
    · obtain ⟨bb, o, p, A, M, Cc, rfl, hb, y0, y1, y2, y3, y4, hx, _⟩ := (UsW.b H1.out hB).at hlt2
      have hs1 := Hst.out k p hx
      have cx := Hu.out p A M Cc wr hB
      clear hx H1 Hst Hu
      have hk0 : 0 ≤ (k : Int) := by omega
      have hk1 : (k : Int) < (m : Int) := by omega
      cases hu : f p with
      | true =>
        rw [hu] at cx
        have hnew : Hid (R = (k : Int)) := HR1.out k hlt2 (by rw [hR.out, hs1, if_pos hu]; rfl)
        clear hR hs1 hu
        generalize opT p.t = op at *
        generalize nameT p.t = nm at *
        generalize numT p.t = nu at *
        generalize p.nm = x at *
        go_wp2_with (go_at_call 56; ((with_reducible refine cx.mono ?_); rintro e w1 ⟨rfl, hb1⟩))
        go_ret
        exact ⟨one hnew.out.symm, bel_trans hB hb1⟩
      | false =>
        rw [hu] at cx
        have hnew : Hid (F 0 = k + 1 + F (k + 1)) := by
          show _ = _
          rw [hR.out, hs1, if_neg (by simp [hu])]; omega
        clear hR hs1 hu
        generalize opT p.t = op at *
        generalize nameT p.t = nm at *
        generalize numT p.t = nu at *
        generalize p.nm = x at *
        go_wp2_with (go_at_call 56; ((with_reducible refine cx.mono ?_); rintro e w1 ⟨rfl, hb1⟩))
        go_roundw
        case rel => exact ⟨_, k + 1, rfl, by omega, by go_num, bel_trans hB hb1, hnew⟩
        case measure => simp [intOf]; omega
    · have hnew : Hid (R = -1) := HR2.out (by rw [hR.out, He.out k (by omega)]; omega)
      clear hR
      go_wp2
      go_ret
      exact ⟨one hnew.out.symm, hB⟩

end Go.Proofs.YtnhemglpbhnmdaaGreat.U
namespace Go.Proofs.YtnhemglpbhnmdaaGreat.U
open Go.RowKit L T C B
set_option linter.unusedVariables false
set_option linter.unusedSimpArgs false

theorem fi_get (s : ByteArray) : ∀ l : List Pr, (∃ p, fiP (eqF s) l < l.length ∧ l[fiP (eqF s) l]? = some p ∧ getU l s = some p.t) ∨ (fiP (eqF s) l = l.length ∧ getU l s = none)
  | [] => .inr ⟨rfl, by rw [getU]⟩
  | p :: l => by
    rw [fiP, getU]
    by_cases h : (p.nm.toList == s.toList) = true
    · have h2 : eqF s p = true := h
      rw [if_pos h2, if_pos h]; exact .inl ⟨p, by simp, rfl, rfl⟩
    · have h2 : ¬ eqF s p = true := h
      rw [if_neg h2, if_neg h]
      rcases fi_get s l with ⟨q, h3, h4, h5⟩ | ⟨h3, h4⟩
      · exact .inl ⟨q, by simp; omega, by simpa using h4, h5⟩
      · exact .inr ⟨by simp [h3], h4⟩
theorem posP_get (s : ByteArray) (l : List Pr) : (∃ k p, k < l.length ∧ posP (eqF s) l = (k : Int) ∧ l[k]? = some p ∧ getU l s = some p.t) ∨ (posP (eqF s) l = -1 ∧ getU l s = none) := by
  rcases fi_get s l with ⟨p, h1, h2, h3⟩ | ⟨h1, h2⟩
  · exact .inl ⟨_, p, h1, by unfold posP; rw [if_pos h1], h2, h3⟩
  · exact .inr ⟨by unfold posP; rw [if_neg (by omega)], h2⟩
set_option maxRecDepth 100000 in
set_option maxHeartbeats 8000000 in
theorem Get_any (l : List Pr) (hsz : ∀ p ∈ l, size p.t ≤ 1000000) (s : ByteArray) (b : Option Addr) (m d : Nat) (w : World) (hG : UsW w b m d l) :
    Calls Tryz.prog 26 #[.slice b m d, .string s] w fun e w' => GetP l s w e w' := by
  obtain ⟨W1, hW1⟩ : ∃ W1, w.alloc (.cells #[.string s] 9) = W1 := ⟨_, rfl⟩
  have hB1 : Below w.heap.size w W1 := by rw [← hW1]; exact bel_alloc (Below.refl _ _) _
  have c1 : W1.cell? ⟨w.heap.size, 0, none⟩ = some (.string s) := by rw [← hW1]; exact Blk.cell (Blk.new w #[.string s] 9) 0
  have hl1 : W1.heap.size = w.heap.size + 1 := by rw [← hW1]; simp
  obtain ⟨W2, hW2, hB2, hs2, R2⟩ := box1 W1 0 ⟨#[]⟩ 0 none 0 0
  have hBB := bel_trans hB1 hB2
  have cI := idx_get w.heap.size s b m d l W2 (by omega) ((hB2.cell (p := ⟨w.heap.size, 0, none⟩) (by show w.heap.size < _; omega)).trans c1) (UsW.b hG hBB)
  rw [hl1] at R2
  have HR := Lib.hid R2
  have hm : m = l.length := hG.1
  have hmf : ∀ (fn : Fn) (first cap : Array Value) (w : World), (Instr.makeFunc fn first cap).run Tryz.prog w = .ok (.func fn first cap) w := fun _ _ _ _ => rfl
  rcases posP_get s l with ⟨k, p, hk, hp, hx, hg⟩ | ⟨hp, hg⟩
  · rw [hp] at cI
    obtain ⟨bb, o, p', A, M, Cc, rfl, hb, y0, y1, y2, y3, y4, hx', hok⟩ := (UsW.b hG hBB).at (show k < m by omega)
    obtain rfl : p = p' := by rw [hx] at hx'; injection hx'
    have CC := Lib.hid (show ∀ (w3 : World), Below W2.heap.size W2 w3 → _ from fun w3 h => copy_rt p.t A M Cc w3 (hsz p (List.mem_of_getElem? hx)) (ArW.b hok h))
    have HFin := Lib.hid (show ∀ (w3 w4 : World) (a3 : Option Addr) (n3 c3 : Nat), Below W2.heap.size W2 w3 → ArP (Nw 0 0 w3.heap.size w4.heap.size) w4 p.t a3 n3 c3 → Below w3.heap.size w3 w4 → ∀ v0 v1 v2 v3, GetP l s w (.returned (.tuple #[.agg #[.int .i64 (opT p.t), .string (nameT p.t), .int .i64 (numT p.t), .slice a3 n3 c3], .bool true])) ((((w4.setCell ⟨w.heap.size + 1, 0, none⟩ v0).setCell ⟨w.heap.size + 1, 1, none⟩ v1).setCell ⟨w.heap.size + 1, 2, none⟩ v2).setCell ⟨w.heap.size + 1, 3, none⟩ v3) from fun w3 w4 a3 n3 c3 h1 hA hb v0 v1 v2 v3 => by
      have q1 := h1.size
      refine .inl ⟨p.t, a3, n3, c3, hg, rfl, ?_, put_below (bel_trans (bel_trans hBB h1) hb) (by omega) v0 v1 v2 v3⟩
      exact ArP.ar (P := Nw 0 0 w3.heap.size w4.heap.size) (fun b hb2 => by rw [put_size]; unfold Nw at hb2; omega) _ (ArP.to (fun b hb2 => put_other w4 _ b v0 v1 v2 v3 (by unfold Nw at hb2; omega)) (fun b h => h) _ hA))
    have hk0 : 0 ≤ (k : Int) := by omega
    have hk1 : (k : Int) < (m : Int) := by omega
    have g1 : decide ((k : Int) < 0) = false := decide_eq_false (by omega)
    unfold RtT at CC
    clear hG R2 hs2 hm hx hx' hok hg hp hsz c1 hB1
    generalize opT p.t = op at *
    generalize nameT p.t = nm at *
    generalize numT p.t = nu at *
    go_enter Tryz.func26, Tryz.ntmps26
    go_wp2_with (first
      | (go_at_call 55; ((with_reducible refine cI.mono ?_); rintro e w3 ⟨rfl, hb3⟩; have z1 := (hb3.cell (p := ⟨bb, _, none⟩) hb).trans y1; have z2 := (hb3.cell (p := ⟨bb, _, none⟩) hb).trans y2; have z3 := (hb3.cell (p := ⟨bb, _, none⟩) hb).trans y3; have z4 := (hb3.cell (p := ⟨bb, _, none⟩) hb).trans y4; have cc3 := CC.out w3 hb3))
      | (go_at_call 57; ((with_reducible refine cc3.mono ?_); rintro e w4 ⟨a3, n3, c3, rfl, hA, hb4⟩; have Hn := Lib.hid (HFin.out w3 w4 a3 n3 c3 hb3 hA hb4); clear hA; have R4 := TBox.b HR.out (bel_trans hb3 hb4); obtain ⟨r0, r1, r2, r3⟩ := R4.free; obtain ⟨v0, v1, v2, v3⟩ := R4.four; have F4 := TBox.put R4 op nm nu a3 n3 c3; obtain ⟨x0, x1, x2, x3⟩ := F4.four)))
    simp [bodyPost, results, Tryz.results26, go_sem, x0, x1, x2, x3]
    exact Hn.out _ _ _ _
  · rw [hp] at cI
    have HFin := Lib.hid (show ∀ (w3 : World), Below W2.heap.size W2 w3 → ∀ v0 v1 v2 v3, GetP l s w (.returned (.tuple #[.agg #[.int .i64 0, .string ⟨#[]⟩, .int .i64 0, .slice none 0 0], .bool false])) ((((w3.setCell ⟨w.heap.size + 1, 0, none⟩ v0).setCell ⟨w.heap.size + 1, 1, none⟩ v1).setCell ⟨w.heap.size + 1, 2, none⟩ v2).setCell ⟨w.heap.size + 1, 3, none⟩ v3) from fun w3 h1 v0 v1 v2 v3 => .inr ⟨hg, rfl, put_below (bel_trans hBB h1) (by omega) v0 v1 v2 v3⟩)
    clear hG R2 hs2 hm hg hp hsz c1 hB1
    go_enter Tryz.func26, Tryz.ntmps26
    go_wp2_with (go_at_call 55; ((with_reducible refine cI.mono ?_); rintro e w3 ⟨rfl, hb3⟩; have Hn := Lib.hid (HFin.out w3 hb3); have R4 := TBox.b HR.out hb3; obtain ⟨r0, r1, r2, r3⟩ := R4.free; obtain ⟨v0, v1, v2, v3⟩ := R4.four; have F4 := TBox.put R4 0 ⟨#[]⟩ 0 none 0 0; obtain ⟨x0, x1, x2, x3⟩ := F4.four))
    simp [bodyPost, results, Tryz.results26, go_sem, x0, x1, x2, x3]
    exact Hn.out _ _ _ _
end Go.Proofs.YtnhemglpbhnmdaaGreat.U
