/-
  What is proved: what the statements of layer 11 call: whether names and terms are few and short; a function of some terms.
-/
import Derived.Test.YtghpoeckhfeicaaGreatZMtM
import Derived.Test.YtghpoeckhfeicaaGreatBL
namespace Go.Proofs.YtghpoeckhfeicaaGreat.Mt
open Go.RowKit L T C B U
set_option linter.unusedVariables false
set_option linter.unusedSimpArgs false

def shortS (X : List ByteArray) : Bool := X.all (fun x => decide (x.size ≤ 100))
def sizedT (l : List Tm) : Bool := l.all (fun t => decide (size t ≤ 300))
/-- few names, short ones, and terms of few parts -/
def few11 (X : List ByteArray) (l : List Tm) : Bool := decide (X.length ≤ 20) && (shortS X && sizedT l)
theorem short_step {X : List ByteArray} {k : Nat} {x : ByteArray} (h : X[k]? = some x) : shortS (X.drop k) = (decide (x.size ≤ 100) && shortS (X.drop (k + 1))) := by
  obtain ⟨hk, rfl⟩ := List.getElem?_eq_some_iff.1 h
  rw [List.drop_eq_getElem_cons hk]; rfl
theorem sized_step {l : List Tm} {k : Nat} {t : Tm} (h : l[k]? = some t) : sizedT (l.drop k) = (decide (size t ≤ 300) && sizedT (l.drop (k + 1))) := by
  rw [drop_t h]; rfl
theorem few11_of {X : List ByteArray} {l : List Tm} (h : few11 X l = true) : X.length ≤ 20 ∧ (∀ x ∈ X, x.size ≤ 100) ∧ ∀ t ∈ l, size t ≤ 300 := by
  unfold few11 shortS sizedT at h
  rw [Bool.and_eq_true, Bool.and_eq_true, List.all_eq_true, List.all_eq_true, decide_eq_true_eq] at h
  exact ⟨h.1, fun x hx => by simpa using h.2.1 x hx, fun x hx => by simpa using h.2.2 x hx⟩
set_option maxRecDepth 100000 in
set_option maxHeartbeats 8000000 in
theorem few11_any (X : List ByteArray) (l : List Tm) (aX : Option Addr) (nX cX : Nat) (a : Option Addr) (n c : Nat) (w : World) (hX : IsS w aX nX X) (hnX : nX ≤ 9223372036854775807) (H : TsW w a n c l) :
    Calls Tryz.prog 15 #[.slice aX nX cX, .slice a n c] w fun e w' => e = .returned (.bool (few11 X l)) ∧ Below w.heap.size w w' := by
  have hn : n = l.length := H.1
  have hc : n ≤ 9223372036854775807 := by have h1 := H.2.1; have h2 := H.2.2.1; unfold maxLen at h2; omega
  have hNX : nX = X.length := hX.1
  have H1 := Lib.hid H
  have HX := Lib.hid hX
  by_cases h20 : nX ≤ 20
  · have hu : few11 X l = (shortS X && sizedT l) := by unfold few11; rw [decide_eq_true (by omega)]; rfl
    rw [hu]
    have SX : Hid (∀ k x, X[k]? = some x → (shortS (X.drop k) && sizedT l) = (decide (x.size ≤ 100) && (shortS (X.drop (k + 1)) && sizedT l))) := fun k x h => by rw [short_step h, Bool.and_assoc]
    have EX : Hid (∀ k, nX ≤ k → (shortS (X.drop k) && sizedT l) = sizedT l) := by
      intro k hk; rw [List.drop_eq_nil_of_le (by omega)]; rfl
    have RX : Hid ((shortS (X.drop 0) && sizedT l) = (shortS X && sizedT l)) := by show _ = _; rw [List.drop_zero]
    have ST : Hid (∀ k t, l[k]? = some t → sizedT (l.drop k) = (decide (size t ≤ 300) && sizedT (l.drop (k + 1)))) := fun k t h => sized_step h
    have ET : Hid (∀ k, n ≤ k → sizedT (l.drop k) = true) := by
      intro k hk; rw [List.drop_eq_nil_of_le (by omega)]; rfl
    have RT : Hid (sizedT (l.drop 0) = sizedT l) := by show _ = _; rw [List.drop_zero]
    generalize hR : (shortS X && sizedT l) = R at *
    obtain ⟨F, hF⟩ : ∃ F : Nat → Bool, ∀ k, (shortS (X.drop k) && sizedT l) = F k := ⟨_, fun _ => rfl⟩
    obtain ⟨G, hG⟩ : ∃ G : Nat → Bool, ∀ k, sizedT (l.drop k) = G k := ⟨_, fun _ => rfl⟩
    generalize hZ : sizedT l = Z at *
    simp only [hF] at SX EX RX
    simp only [hG] at ST ET RT
    clear hR hF hG hZ hu hX H hn hNX
    go_enter Tryz.func15, Tryz.ntmps15
    go_wp2
    go_loopw [14] (fun i wr0 => ∃ (wr : World) (k : Nat), wr = wr0 ∧ k ≤ nX ∧ i = .int .i64 k ∧ Below w.heap.size w wr ∧ Hid (F k = R)) (fun i _ => nX - (intOf i).toNat)
    case atStart => exact ⟨_, 0, rfl, by omega, rfl, Below.refl _ _, RX⟩
    case round =>
      obtain ⟨wr, k, rfl, hk, rfl, hB, hR⟩ := hrel
      by_cases hlt : k < nX
      · obtain ⟨bb, o, x, rfl, hb, yw, hx, _⟩ := (HX.out.below hB).at hlt
        have hs1 := SX.out k x hx
        have hk0 : 0 ≤ (k : Int) := by omega
        have hk1 : (k : Int) < (nX : Int) := by omega
        by_cases hq : x.size ≤ 100
        · have hnew : Hid (F (k + 1) = R) := by show _ = _; rw [← hR.out, hs1, decide_eq_true hq]; rfl
          have g1 : decide ((x.size : Int) > 100) = false := decide_eq_false (by omega)
          clear hR hs1 hx hq
          go_wp2
          go_roundw
          case rel => exact ⟨_, k + 1, rfl, by omega, by go_num, hB, hnew⟩
          case measure => simp [intOf]; omega
        · have hnew : Hid (false = R) := by show _ = _; rw [← hR.out, hs1, decide_eq_false hq]; rfl
          have g1 : decide ((x.size : Int) > 100) = true := decide_eq_true (by omega)
          clear hR hs1 hx hq
          go_wp2
          go_ret
          exact ⟨oneB hnew.out, hB⟩
      · have hRZ : Hid (Z = R) := by show _ = _; rw [← hR.out, EX.out k (by omega)]
        have RT2 : Hid (G 0 = R) := by show _ = _; rw [RT.out, hRZ.out]
        clear hR hRZ RT SX EX RX HX
        go_wp2
        go_loopw [24] (fun i wr0 => ∃ (wr2 : World) (k : Nat), wr2 = wr0 ∧ k ≤ n ∧ i = .int .i64 k ∧ Below w.heap.size w wr2 ∧ Hid (G k = R)) (fun i _ => n - (intOf i).toNat)
        case atStart => exact ⟨_, 0, rfl, by omega, rfl, hB, RT2⟩
        case round =>
          obtain ⟨wr2, k, rfl, hk, rfl, hB, hR⟩ := hrel
          by_cases hlt : k < n
          · obtain ⟨bb, o, x, A', M, Cc, rfl, hb, y0, y1, y2, y3, hx, hok⟩ := (TsW.b H1.out hB).at hlt
            obtain ⟨W4, hW4, hB4, hs4, S4⟩ := box1 wr2 (opT x) (nameT x) (numT x) A' M Cc
            have cs := Size_any x A' M Cc 300 W4 (by omega) (ArW.b hok hB4)
            have hle := szTo_le x 300
            have hs1 := ST.out k x hx
            rw [show ((300 : Nat) : Int) = 300 from rfl] at cs
            obtain ⟨t0, t1, t2, t3⟩ := S4.four
            clear hx hok H1 ST S4 hs4
            generalize szTo 300 x = sz at *
            generalize opT x = op' at *
            generalize nameT x = nm' at *
            generalize numT x = nu' at *
            have hk0 : 0 ≤ (k : Int) := by omega
            have hk1 : (k : Int) < (n : Int) := by omega
            by_cases hq : size x ≤ 300
            · have hnew : Hid (G (k + 1) = R) := by show _ = _; rw [← hR.out, hs1, decide_eq_true hq]; rfl
              have hq2 : sz ≤ 300 := hle.2 hq
              have g1 : decide ((sz : Int) > 300) = false := decide_eq_false (by omega)
              clear hR hs1 hle hq
              go_wp2_with (go_at_call 27; ((with_reducible refine cs.mono ?_); rintro e w4 ⟨rfl, hb4⟩))
              go_roundw
              case rel => exact ⟨_, k + 1, rfl, by omega, by go_num, bel_trans (bel_trans hB hB4) hb4, hnew⟩
              case measure => simp [intOf]; omega
            · have hnew : Hid (false = R) := by show _ = _; rw [← hR.out, hs1, decide_eq_false hq]; rfl
              have hq2 : ¬ sz ≤ 300 := fun h => hq (hle.1 h)
              have g1 : decide ((sz : Int) > 300) = true := decide_eq_true (by omega)
              clear hR hs1 hle hq
              go_wp2_with (go_at_call 27; ((with_reducible refine cs.mono ?_); rintro e w4 ⟨rfl, hb4⟩))
              go_ret
              exact ⟨oneB hnew.out, bel_trans (bel_trans hB hB4) hb4⟩
          · have hnew : Hid (true = R) := by show _ = _; rw [← hR.out, ET.out k (by omega)]
            clear hR
            go_wp2
            go_ret
            exact ⟨oneB hnew.out, hB⟩
  · have hu : few11 X l = false := by unfold few11; rw [decide_eq_false (by omega)]; rfl
    rw [hu]
    have g1 : decide ((nX : Int) > 20) = true := decide_eq_true (by omega)
    clear hu hX H hn hNX
    go_enter Tryz.func15, Tryz.ntmps15
    go_wp2
    go_ret
    exact ⟨rfl, Below.refl _ _⟩
set_option maxHeartbeats 4000000 in
theorem app_any (s : ByteArray) (a : Option Addr) (n c : Nat) (w : World) :
    Calls Tryz.prog 42 #[.string s, .slice a n c] w fun e w' => e = .returned (.agg #[.int .i64 3, .string s, .int .i64 0, .slice a n c]) ∧ w.alloc (.cells #[.int .i64 3, .string s, .int .i64 0, .slice a n c] 31) = w' := by
  go_enter Tryz.func42, Tryz.ntmps42
  go_wp2
  obtain ⟨x0, x1, x2, x3⟩ := (TBox.new w 3 s 0 a n c).four
  simp [bodyPost, results, Tryz.results42, go_sem, x0, x1, x2, x3]
end Go.Proofs.YtghpoeckhfeicaaGreat.Mt
