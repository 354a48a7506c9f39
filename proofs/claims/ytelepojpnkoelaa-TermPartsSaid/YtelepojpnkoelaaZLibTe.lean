/-
  What is proved: what the document's comparisons of two terms, and of two lists of terms, return.
-/
import Derived.Test.YtelepojpnkoelaaZLibT
import Derived.Deep.RegionHeld3
namespace Go.Proofs.Ytelepojpnkoelaa.T
open Go.RowKit L
set_option linter.unusedVariables false
set_option linter.unusedSimpArgs false

theorem eqTs_len : ∀ {l m : List Tm}, l.length ≠ m.length → eqTs l m = false := fun {l m} h => by
  cases hc : eqTs l m with
  | false => rfl
  | true => exact absurd (congrArg List.length (eqTs_iff.1 hc)) h
theorem eqT_mk (t u : Tm) : eqT t u = ((opT t == opT u) && (((nameT t).toList == (nameT u).toList) && ((numT t == numT u) && eqTs (argsT t) (argsT u)))) := by
  cases t; cases u; rw [eqT]; rfl
/-- the comparison of terms, at this term -/
def TermOk (t : Tm) : Prop := ∀ (u : Tm) (a : Option Addr) (n c : Nat) (a' : Option Addr) (n' c' : Nat) (w : World), ArW w t a n c → ArW w u a' n' c' →
  Calls Try.prog 22 #[.agg #[.int .i64 (opT t), .string (nameT t), .int .i64 (numT t), .slice a n c], .agg #[.int .i64 (opT u), .string (nameT u), .int .i64 (numT u), .slice a' n' c']] w fun e w' => e = .returned (.bool (eqT t u)) ∧ Below w.heap.size w w'

set_option maxRecDepth 100000 in
set_option maxHeartbeats 4000000 in
theorem Terms_of (l : List Tm) (hok : ∀ t ∈ l, TermOk t) (b : Option Addr) (m d : Nat) (b' : Option Addr) (m' d' : Nat) (l' : List Tm) (w : World) (hG : TsW w b m d l) (hG' : TsW w b' m' d' l') :
    Calls Try.prog 8 #[.slice b m d, .slice b' m' d'] w fun e w' => e = .returned (.bool (eqTs l l')) ∧ Below w.heap.size w w' := by
  by_cases hmm : m = m'
  · subst hmm
    have hst : ∀ k (f g : Tm), l[k]? = some f → l'[k]? = some g → eqTs (l.drop k) (l'.drop k) = (eqT f g && eqTs (l.drop (k + 1)) (l'.drop (k + 1))) := fun k f g h h2 => by rw [drop_t h, drop_t h2, eqTs]
    have he : ∀ k, m ≤ k → eqTs (l.drop k) (l'.drop k) = true := fun k h => by
      rw [List.drop_eq_nil_of_le (by rw [← hG.1]; exact h), List.drop_eq_nil_of_le (by rw [← hG'.1]; exact h)]; rfl
    have h0 : eqTs l l' = eqTs (l.drop 0) (l'.drop 0) := rfl
    have hk2 : ∀ k f, l[k]? = some f → TermOk f := fun k f h => hok f (List.mem_of_getElem? h)
    have hm : m ≤ 9223372036854775807 := by have h1 := hG.2.1; have h2 := hG.2.2.1; unfold maxLen at h2; omega
    rw [h0]
    obtain ⟨F, hF⟩ : ∃ F : Nat → Bool, ∀ k, eqTs (l.drop k) (l'.drop k) = F k := ⟨_, fun _ => rfl⟩
    simp only [hF] at hst he ⊢
    clear hF h0 hok
    have H1 := Lib.hid hG
    have H2 := Lib.hid hG'
    have Hst := Lib.hid hst
    have He := Lib.hid he
    have HK := Lib.hid hk2
    clear hG hG' hst he hk2
    go_enter Try.func8, Try.ntmps8
    go_wp2
    go_loopw [5] (fun i wr0 => ∃ (wr : World) (k : Nat), wr = wr0 ∧ k ≤ m ∧ i = .int .i64 k ∧ Below w.heap.size w wr ∧ Hid (F k = F 0)) (fun i _ => m - (intOf i).toNat)
    case atStart => exact ⟨_, 0, rfl, by omega, rfl, Below.refl _ _, Lib.hid rfl⟩
    case round =>
      obtain ⟨wr, k, rfl, hk, rfl, hB, hR⟩ := hrel
      by_cases hlt : k < m
      · obtain ⟨bb, o, t, A, M, Cc, rfl, hb, y0, y1, y2, y3, hx, hok⟩ := (TsW.b H1.out hB).at hlt
        obtain ⟨bb', o', u, A', M', Cc', rfl, hb', z0, z1, z2, z3, hx', hok'⟩ := (TsW.b H2.out hB).at hlt
        have hs1 := Hst.out k t u hx hx'
        have hk0 : 0 ≤ (k : Int) := by omega
        have hk1 : (k : Int) < (m : Int) := by omega
        have hBd : Below wr.heap.size wr wr.drew := (Below.refl _ _).drew
        have cs := HK.out k t hx u A M Cc A' M' Cc' wr.drew (ArW.b hok hBd) (ArW.b hok' hBd)
        clear hx hx' hok hok' H1 H2 Hst HK
        generalize eqT t u = Q at *
        generalize opT t = op at *
        generalize nameT t = nm at *
        generalize numT t = nu at *
        generalize opT u = op' at *
        generalize nameT u = nm' at *
        generalize numT u = nu' at *
        cases Q with
        | true =>
          have hnew : Hid (F (k + 1) = F 0) := by show _ = _; rw [← hR.out, hs1]; rfl
          clear hR hs1
          go_wp2_with fail
          go_region_held3 (fun w' => w'.cell? ⟨bb, o + k * 4, none⟩ = some (.int .i64 op) ∧ w'.cell? ⟨bb, o + k * 4 + 1, none⟩ = some (.string nm) ∧ w'.cell? ⟨bb, o + k * 4 + 1 + 1, none⟩ = some (.int .i64 nu) ∧ w'.cell? ⟨bb, o + k * 4 + 1 + 1 + 1, none⟩ = some (.slice A M Cc) ∧ w'.cell? ⟨bb', o' + k * 4, none⟩ = some (.int .i64 op') ∧ w'.cell? ⟨bb', o' + k * 4 + 1, none⟩ = some (.string nm') ∧ w'.cell? ⟨bb', o' + k * 4 + 1 + 1, none⟩ = some (.int .i64 nu') ∧ w'.cell? ⟨bb', o' + k * 4 + 1 + 1 + 1, none⟩ = some (.slice A' M' Cc'))
            (first | go_keep | (exact ⟨(B4.cell hb).trans y0, (B4.cell hb).trans y1, (B4.cell hb).trans y2, (B4.cell hb).trans y3, (B4.cell hb').trans z0, (B4.cell hb').trans z1, (B4.cell hb').trans z2, (B4.cell hb').trans z3⟩))
            (first | (go_at_call 22; ((with_reducible refine cs.mono ?_); rintro e w4 ⟨rfl, hb4⟩; have B4 := bel_trans hBd hb4)))
          go_wp2
          go_roundw
          case rel => exact ⟨_, k + 1, rfl, by omega, by go_num, bel_trans hB B4, hnew⟩
          case measure => simp [intOf]; omega
        | false =>
          have hnew : Hid (false = F 0) := by show _ = _; rw [← hR.out, hs1]; rfl
          clear hR hs1
          go_wp2_with fail
          go_region_held3 (fun w' => w'.cell? ⟨bb, o + k * 4, none⟩ = some (.int .i64 op) ∧ w'.cell? ⟨bb, o + k * 4 + 1, none⟩ = some (.string nm) ∧ w'.cell? ⟨bb, o + k * 4 + 1 + 1, none⟩ = some (.int .i64 nu) ∧ w'.cell? ⟨bb, o + k * 4 + 1 + 1 + 1, none⟩ = some (.slice A M Cc) ∧ w'.cell? ⟨bb', o' + k * 4, none⟩ = some (.int .i64 op') ∧ w'.cell? ⟨bb', o' + k * 4 + 1, none⟩ = some (.string nm') ∧ w'.cell? ⟨bb', o' + k * 4 + 1 + 1, none⟩ = some (.int .i64 nu') ∧ w'.cell? ⟨bb', o' + k * 4 + 1 + 1 + 1, none⟩ = some (.slice A' M' Cc'))
            (first | go_keep | (exact ⟨(B4.cell hb).trans y0, (B4.cell hb).trans y1, (B4.cell hb).trans y2, (B4.cell hb).trans y3, (B4.cell hb').trans z0, (B4.cell hb').trans z1, (B4.cell hb').trans z2, (B4.cell hb').trans z3⟩))
            (first | (go_at_call 22; ((with_reducible refine cs.mono ?_); rintro e w4 ⟨rfl, hb4⟩; have B4 := bel_trans hBd hb4)))
          go_wp2
          go_ret
          exact ⟨oneB hnew.out, bel_trans hB B4⟩
      · have hnew : Hid (true = F 0) := by show _ = _; rw [← hR.out, He.out k (by omega)]
        clear hR
        go_wp2
        go_ret
        exact ⟨oneB hnew.out, hB⟩
  · have hf : Hid (false = eqTs l l') := (eqTs_len (by rw [← hG.1, ← hG'.1]; exact hmm)).symm
    have n1 : ((m : Int) != (m' : Int)) = true := by simp; omega
    clear hG hG' hmm hok
    go_enter Try.func8, Try.ntmps8
    go_wp2
    go_ret
    exact ⟨oneB hf.out, Below.refl _ _⟩

set_option maxHeartbeats 4000000 in
theorem Term_step (t : Tm) (hok : ∀ x ∈ argsT t, TermOk x) : TermOk t := by
  intro u a n c a' n' c' w hA hA'
  obtain ⟨W2, hW2, hB2, hs2, S2, T2⟩ := box2 w (opT t) (nameT t) (numT t) a n c (opT u) (nameT u) (numT u) a' n' c'
  have cT := Terms_of (argsT t) hok a n c a' n' c' (argsT u) W2 (TsW.b (ArW.args hA) hB2) (TsW.b (ArW.args hA') hB2)
  obtain ⟨s0, s1, s2, s3⟩ := S2.four
  obtain ⟨t0, t1, t2, t3⟩ := T2.four
  rw [eqT_mk]
  clear hA hA' hok
  generalize eqTs (argsT t) (argsT u) = R at *
  generalize opT t = op at *
  generalize nameT t = nm at *
  generalize numT t = nu at *
  generalize opT u = op' at *
  generalize nameT u = nm' at *
  generalize numT u = nu' at *
  cases h1 : op == op' <;> cases h2 : nm.toList == nm'.toList <;> cases h3 : nu == nu' <;> cases R
  all_goals
    first | (have g1 : (op = op') = False := by simpa using h1) | (have g1 : (op = op') = True := by simpa using h1)
    first | (have g2 : (nm.toList = nm'.toList) = False := by simpa using h2) | (have g2 : (nm.toList = nm'.toList) = True := by simpa using h2)
    first | (have g3 : (nu = nu') = False := by simpa using h3) | (have g3 : (nu = nu') = True := by simpa using h3)
    go_enter Try.func22, Try.ntmps22
    go_wp2_with (go_at_call 8; ((with_reducible refine cT.mono ?_); rintro e w3 ⟨rfl, hb3⟩; have B3 := bel_trans hB2 hb3))
    go_ret
    first | exact ⟨rfl, B3⟩ | exact ⟨rfl, hB2⟩
theorem size_arg {t x : Tm} (h : x ∈ argsT t) : size x < size t := by
  cases t with
  | mk o s z l =>
    rw [size]
    have : ∀ l : List Tm, x ∈ l → size x ≤ sizes l := fun l => by
      induction l with
      | nil => intro h; cases h
      | cons y l ih =>
        intro h
        rw [sizes]
        rcases List.mem_cons.1 h with rfl | h
        · omega
        · have := ih h; omega
    have := this l h
    omega
theorem Tm.ind {P : Tm → Prop} (h : ∀ t, (∀ x ∈ argsT t, P x) → P t) : ∀ t, P t := by
  have : ∀ k t, size t ≤ k → P t := by
    intro k
    induction k with
    | zero => intro t ht; have := size_pos t; omega
    | succ k ih => intro t ht; exact h t (fun x hx => ih x (by have := size_arg hx; omega))
  exact fun t => this _ t (Nat.le_refl _)
theorem Term_any (t : Tm) : TermOk t := Tm.ind Term_step t
theorem Terms_any (l : List Tm) (b : Option Addr) (m d : Nat) (b' : Option Addr) (m' d' : Nat) (l' : List Tm) (w : World) (hG : TsW w b m d l) (hG' : TsW w b' m' d' l') :
    Calls Try.prog 8 #[.slice b m d, .slice b' m' d'] w fun e w' => e = .returned (.bool (eqTs l l')) ∧ Below w.heap.size w w' :=
  Terms_of l (fun t _ => Term_any t) b m d b' m' d' l' w hG hG'
end Go.Proofs.Ytelepojpnkoelaa.T
