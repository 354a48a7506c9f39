/-
  What is proved: what the statements of layer 11 call: whether names and terms are few and short; a function of some terms.
  What is proved: the chapter's example of layer 11.
-/
import Derived.Test.YtnhemglpbhnmdaaGreatMC
import Derived.Test.YtnhemglpbhnmdaaGreatBL
import Derived.Test.YtnhemglpbhnmdaaGreatMG
import Derived.Test.YtnhemglpbhnmdaaGreatZSbCp
namespace Go.Proofs.YtnhemglpbhnmdaaGreat.Mt
open Go.RowKit L T C B U
set_option linter.unusedVariables false
set_option linter.unusedSimpArgs false

def shortS (X : List ByteArray) : Bool := X.all (fun x => decide (x.size ≤ 100))
def sizedT (l : List Tm) : Bool := l.all (fun t => decide (size t ≤ 300))
/-- few names, short ones, and terms of few parts -/
def few11 (X : List ByteArray) (l : List Tm) : Bool := decide (X.length ≤ 20) && (shortS X && sizedT l)
theorem short_step {X : List ByteArray} {k : Nat} {x : ByteArray} (h : X[k]? = some x) : shortS (X.drop k) = (decide (x.size ≤ 100) && shortS (X.drop (k + 1))) := by
  obtain ⟨hk, rfl⟩ := List.getElem?_eq_some_iff.1 h
  rw [List.drop_eq_getElem_cons hk]; rfl
theorem sized_step {l : List Tm} {k : Nat} {t : Tm} (h : l[k]? = some t) : sizedT (l.drop k) = (decide (size t ≤ 300) && sizedT (l.drop (k + 1))) := by
  rw [drop_t h]; rfl
theorem few11_of {X : List ByteArray} {l : List Tm} (h : few11 X l = true) : X.length ≤ 20 ∧ (∀ x ∈ X, x.size ≤ 100) ∧ ∀ t ∈ l, size t ≤ 300 := by
  unfold few11 shortS sizedT at h
  rw [Bool.and_eq_true, Bool.and_eq_true, List.all_eq_true, List.all_eq_true, decide_eq_true_eq] at h
  exact ⟨h.1, fun x hx => by simpa using h.2.1 x hx, fun x hx => by simpa using h.2.2 x hx⟩
set_option maxRecDepth 100000 in
set_option maxHeartbeats 8000000 in
theorem few11_any (X : List ByteArray) (l : List Tm) (aX : Option Addr) (nX cX : Nat) (a : Option Addr) (n c : Nat) (w : World) (hX : IsS w aX nX X) (hnX : nX ≤ 9223372036854775807) (H : TsW w a n c l) :
    Calls Tryz.prog 14 #[.slice aX nX cX, .slice a n c] w fun e w' => e = .returned (.bool (few11 X l)) ∧ Below w.heap.size w w' := by
  have hn : n = l.length := H.1
  have hc : n ≤ 9223372036854775807 := by have h1 := H.2.1; have h2 := H.2.2.1; unfold maxLen at h2; omega
  have hNX : nX = X.length := hX.1
  have H1 := Lib.hid H
  have HX := Lib.hid hX
  by_cases h20 : nX ≤ 20
  · have hu : few11 X l = (shortS X && sizedT l) := by unfold few11; rw [decide_eq_true (by omega)]; rfl
    rw [hu]
    have SX : Hid (∀ k x, X[k]? = some x → (shortS (X.drop k) && sizedT l) = (decide (x.size ≤ 100) && (shortS (X.drop (k + 1)) && sizedT l))) := fun k x h => by rw [short_step h, Bool.and_assoc]
    have EX : Hid (∀ k, nX ≤ k → (shortS (X.drop k) && sizedT l) = sizedT l) := by
      intro k hk; rw [List.drop_eq_nil_of_le (by omega)]; rfl
    have RX : Hid ((shortS (X.drop 0) && sizedT l) = (shortS X && sizedT l)) := by show _ = _; rw [List.drop_zero]
    have ST : Hid (∀ k t, l[k]? = some t → sizedT (l.drop k) = (decide (size t ≤ 300) && sizedT (l.drop (k + 1)))) := fun k t h => sized_step h
    have ET : Hid (∀ k, n ≤ k → sizedT (l.drop k) = true) := by
      intro k hk; rw [List.drop_eq_nil_of_le (by omega)]; rfl
    have RT : Hid (sizedT (l.drop 0) = sizedT l) := by show _ = _; rw [List.drop_zero]
    generalize hR : (shortS X && sizedT l) = R at *
    obtain ⟨F, hF⟩ : ∃ F : Nat → Bool, ∀ k, (shortS (X.drop k) && sizedT l) = F k := ⟨_, fun _ => rfl⟩
    obtain ⟨G, hG⟩ : ∃ G : Nat → Bool, ∀ k, sizedT (l.drop k) = G k := ⟨_, fun _ => rfl⟩
    generalize hZ : sizedT l = Z at *
    simp only [hF] at SX EX RX
    simp only [hG] at ST ET RT
    clear hR hF hG hZ hu hX H hn hNX
    go_enter Tryz.func14, Tryz.ntmps14
    go_wp2
    go_loopw [14] (fun i wr0 => ∃ (wr : World) (k : Nat), wr = wr0 ∧ k ≤ nX ∧ i = .int .i64 k ∧ Below w.heap.size w wr ∧ Hid (F k = R)) (fun i _ => nX - (intOf i).toNat)
    case atStart => exact ⟨_, 0, rfl, by omega, rfl, Below.refl _ _, RX⟩
    case round =>
      obtain ⟨wr, k, rfl, hk, rfl, hB, hR⟩ := hrel
      by_cases hlt : k < nX
      · obtain ⟨bb, o, x, rfl, hb, yw, hx, _⟩ := (HX.out.below hB).at hlt
        have hs1 := SX.out k x hx
        have hk0 : 0 ≤ (k : Int) := by omega
        have hk1 : (k : Int) < (nX : Int) := by omega
        by_cases hq : x.size ≤ 100
        · have hnew : Hid (F (k + 1) = R) := by show _ = _; rw [← hR.out, hs1, decide_eq_true hq]; rfl
          have g1 : decide ((x.size : Int) > 100) = false := decide_eq_false (by omega)
          clear hR hs1 hx hq
          go_wp2
          go_roundw
          case rel => exact ⟨_, k + 1, rfl, by omega, by go_num, hB, hnew⟩
          case measure => simp [intOf]; omega
        · have hnew : Hid (false = R) := by show _ = _; rw [← hR.out, hs1, decide_eq_false hq]; rfl
          have g1 : decide ((x.size : Int) > 100) = true := decide_eq_true (by omega)
          clear hR hs1 hx hq
          go_wp2
          go_ret
          exact ⟨oneB hnew.out, hB⟩
      · have hRZ : Hid (Z = R) := by show _ = _; rw [← hR.out, EX.out k (by omega)]
        have RT2 : Hid (G 0 = R) := by show _ = _; rw [RT.out, hRZ.out]
        clear hR hRZ RT SX EX RX HX
        go_wp2
        go_loopw [24] (fun i wr0 => ∃ (wr2 : World) (k : Nat), wr2 = wr0 ∧ k ≤ n ∧ i = .int .i64 k ∧ Below w.heap.size w wr2 ∧ Hid (G k = R)) (fun i _ => n - (intOf i).toNat)
        case atStart => exact ⟨_, 0, rfl, by omega, rfl, hB, RT2⟩
        case round =>
          obtain ⟨wr2, k, rfl, hk, rfl, hB, hR⟩ := hrel
          by_cases hlt : k < n
          · obtain ⟨bb, o, x, A', M, Cc, rfl, hb, y0, y1, y2, y3, hx, hok⟩ := (TsW.b H1.out hB).at hlt
            obtain ⟨W4, hW4, hB4, hs4, S4⟩ := box1 wr2 (opT x) (nameT x) (numT x) A' M Cc
            have cs := Size_any x A' M Cc 300 W4 (by omega) (ArW.b hok hB4)
            have hle := szTo_le x 300
            have hs1 := ST.out k x hx
            rw [show ((300 : Nat) : Int) = 300 from rfl] at cs
            obtain ⟨t0, t1, t2, t3⟩ := S4.four
            clear hx hok H1 ST S4 hs4
            generalize szTo 300 x = sz at *
            generalize opT x = op' at *
            generalize nameT x = nm' at *
            generalize numT x = nu' at *
            have hk0 : 0 ≤ (k : Int) := by omega
            have hk1 : (k : Int) < (n : Int) := by omega
            by_cases hq : size x ≤ 300
            · have hnew : Hid (G (k + 1) = R) := by show _ = _; rw [← hR.out, hs1, decide_eq_true hq]; rfl
              have hq2 : sz ≤ 300 := hle.2 hq
              have g1 : decide ((sz : Int) > 300) = false := decide_eq_false (by omega)
              clear hR hs1 hle hq
              go_wp2_with (go_at_call 24; ((with_reducible refine cs.mono ?_); rintro e w4 ⟨rfl, hb4⟩))
              go_roundw
              case rel => exact ⟨_, k + 1, rfl, by omega, by go_num, bel_trans (bel_trans hB hB4) hb4, hnew⟩
              case measure => simp [intOf]; omega
            · have hnew : Hid (false = R) := by show _ = _; rw [← hR.out, hs1, decide_eq_false hq]; rfl
              have hq2 : ¬ sz ≤ 300 := fun h => hq (hle.1 h)
              have g1 : decide ((sz : Int) > 300) = true := decide_eq_true (by omega)
              clear hR hs1 hle hq
              go_wp2_with (go_at_call 24; ((with_reducible refine cs.mono ?_); rintro e w4 ⟨rfl, hb4⟩))
              go_ret
              exact ⟨oneB hnew.out, bel_trans (bel_trans hB hB4) hb4⟩
          · have hnew : Hid (true = R) := by show _ = _; rw [← hR.out, ET.out k (by omega)]
            clear hR
            go_wp2
            go_ret
            exact ⟨oneB hnew.out, hB⟩
  · have hu : few11 X l = false := by unfold few11; rw [decide_eq_false (by omega)]; rfl
    rw [hu]
    have g1 : decide ((nX : Int) > 20) = true := decide_eq_true (by omega)
    clear hu hX H hn hNX
    go_enter Tryz.func14, Tryz.ntmps14
    go_wp2
    go_ret
    exact ⟨rfl, Below.refl _ _⟩
set_option maxHeartbeats 4000000 in
theorem app_any (s : ByteArray) (a : Option Addr) (n c : Nat) (w : World) :
    Calls Tryz.prog 40 #[.string s, .slice a n c] w fun e w' => e = .returned (.agg #[.int .i64 3, .string s, .int .i64 0, .slice a n c]) ∧ w.alloc (.cells #[.int .i64 3, .string s, .int .i64 0, .slice a n c] 31) = w' := by
  go_enter Tryz.func40, Tryz.ntmps40
  go_wp2
  obtain ⟨x0, x1, x2, x3⟩ := (TBox.new w 3 s 0 a n c).four
  simp [bodyPost, results, Tryz.results40, go_sem, x0, x1, x2, x3]
end Go.Proofs.YtnhemglpbhnmdaaGreat.Mt
namespace Go.Proofs.YtnhemglpbhnmdaaGreat.Mt
open Go.RowKit L T C B U
set_option linter.unusedVariables false
set_option linter.unusedSimpArgs false

def yX : Tm := .mk 1 ⟨#[120]⟩ 0 []
def yC : Tm := .mk 3 ⟨#[99]⟩ 0 []
def yD : Tm := .mk 3 ⟨#[100]⟩ 0 []
def yP : Tm := .mk 3 ⟨#[102]⟩ 0 [yX, yX]
def yT (u : Tm) : Tm := .mk 3 ⟨#[102]⟩ 0 [yC, u]
def yL : List Pr := [⟨⟨#[120]⟩, yC⟩]
theorem y_get : getU yL ⟨#[120]⟩ = some yC := by unfold yL; rw [getU, if_pos (eqS_iff.2 rfl)]
theorem y_has : hasS [⟨#[120]⟩] ⟨#[120]⟩ = true := hasS_iff.2 (by simp)
theorem y_mat1 : mat [⟨#[120]⟩] yX [] yC = some yL := by
  unfold yX
  rw [mat, if_pos ⟨rfl, y_has⟩, getU]
  show (if mayT yC then some (putL [] ⟨⟨#[120]⟩, yC⟩) else none) = _
  rw [if_pos (by rfl)]; rfl
theorem y_mat2 (u : Tm) : mat [⟨#[120]⟩] yX yL u = if eqT yC u then some yL else none := by
  unfold yX
  rw [mat, if_pos ⟨rfl, y_has⟩, y_get]
theorem y_mat (u : Tm) : mat [⟨#[120]⟩] yP [] (yT u) = if eqT yC u then some yL else none := by
  unfold yP yT
  rw [mat, if_neg (by simp), if_pos ⟨rfl, rfl, rfl, rfl⟩]
  show mats [⟨#[120]⟩] [yX, yX] [] [yC, u] = _
  rw [mats, y_mat1]
  show mats [⟨#[120]⟩] [yX] yL [u] = _
  rw [mats, y_mat2]
  by_cases h : eqT yC u = true
  · rw [if_pos h]
    show mats [⟨#[120]⟩] [] yL [] = some yL
    rw [mats]
  · rw [if_neg h]
theorem y_cd : eqT yC yD = false := by
  cases h : eqT yC yD with
  | false => rfl
  | true => have := eqT_iff.1 h; unfold yC yD at this; injection this with h1 h2 h3 h4; injection h2 with h2; exact absurd h2 (by decide)
theorem y_leaf (B : Nat) (o : Int) (s : ByteArray) (z : Int) (w : World) : Ar B w (.mk o s z []) none 0 0 := by
  rw [Ar]; exact ⟨rfl, Nat.le_refl _, Nat.zero_le _, fun _ => rfl, fun h => absurd h (by omega)⟩
theorem two_ts {w : World} {g : Nat} {p t : Tm} {a : Option Addr} {n c : Nat} {a' : Option Addr} {n' c' : Nat} (h : Blk w g #[.int .i64 (opT p), .string (nameT p), .int .i64 (numT p), .slice a n c, .int .i64 (opT t), .string (nameT t), .int .i64 (numT t), .slice a' n' c'] 31) (hA : ArW w p a n c) (hA' : ArW w t a' n' c') : TsW w (some ⟨g, 0, none⟩) 2 2 [p, t] := by
  refine ⟨rfl, Nat.le_refl _, by unfold maxLen; omega, (fun h => by cases h), fun _ => ⟨g, 0, rfl, Blk.lt h, ?_⟩⟩
  rw [Rw, Rw, Rw]
  exact ⟨⟨a, n, c, Blk.cell h 0, Blk.cell h 1, Blk.cell h 2, Blk.cell h 3, hA⟩, ⟨a', n', c', Blk.cell h 4, Blk.cell h 5, Blk.cell h 6, Blk.cell h 7, hA'⟩, trivial⟩
/-- the example's arguments in memory -/
theorem y_mem (V : World) (s : ByteArray) : ∃ W, ((((((V.alloc (.cells #[.int .i64 1, .string ⟨#[120]⟩, .int .i64 0, .slice none 0 0, .int .i64 1, .string ⟨#[120]⟩, .int .i64 0, .slice none 0 0] 31)).alloc
    (.cells #[.int .i64 3, .string ⟨#[102]⟩, .int .i64 0, .slice (some ⟨V.heap.size, 0, none⟩) 2 2] 31)).alloc
    (.cells #[.int .i64 3, .string ⟨#[99]⟩, .int .i64 0, .slice none 0 0] 31)).alloc
    (.cells #[.int .i64 3, .string s, .int .i64 0, .slice none 0 0] 31)).alloc
    (.cells #[.int .i64 3, .string ⟨#[99]⟩, .int .i64 0, .slice none 0 0, .int .i64 3, .string s, .int .i64 0, .slice none 0 0] 31)).alloc
    (.cells #[.int .i64 3, .string ⟨#[102]⟩, .int .i64 0, .slice (some ⟨V.heap.size + 4, 0, none⟩) 2 2] 31)).alloc
    (.cells #[.string ⟨#[120]⟩] 9) = W ∧ Below V.heap.size V W ∧ ArW W yP (some ⟨V.heap.size, 0, none⟩) 2 2 ∧ ArW W (yT (.mk 3 s 0 [])) (some ⟨V.heap.size + 4, 0, none⟩) 2 2 ∧ IsS W (some ⟨V.heap.size + 6, 0, none⟩) 1 [⟨#[120]⟩] := by
  refine ⟨_, rfl, bel_alloc (bel_alloc (bel_alloc (bel_alloc (bel_alloc (bel_alloc (bel_alloc (Below.refl _ _) _) _) _) _) _) _) _, ?_, ?_, ?_⟩
  · exact ar_isT.2 (two_ts (p := yX) (t := yX) (Blk.alloc (Blk.alloc (Blk.alloc (Blk.alloc (Blk.alloc (Blk.alloc (Blk.new V _ _) _) _) _) _) _) _) (y_leaf _ _ _ _ _) (y_leaf _ _ _ _ _))
  · have h := Blk.new ((((V.alloc (.cells #[.int .i64 1, .string ⟨#[120]⟩, .int .i64 0, .slice none 0 0, .int .i64 1, .string ⟨#[120]⟩, .int .i64 0, .slice none 0 0] 31)).alloc
      (.cells #[.int .i64 3, .string ⟨#[102]⟩, .int .i64 0, .slice (some ⟨V.heap.size, 0, none⟩) 2 2] 31)).alloc
      (.cells #[.int .i64 3, .string ⟨#[99]⟩, .int .i64 0, .slice none 0 0] 31)).alloc
      (.cells #[.int .i64 3, .string s, .int .i64 0, .slice none 0 0] 31)) #[.int .i64 3, .string ⟨#[99]⟩, .int .i64 0, .slice none 0 0, .int .i64 3, .string s, .int .i64 0, .slice none 0 0] 31
    simp only [World.size_alloc] at h
    exact ar_isT.2 (two_ts (p := yC) (t := .mk 3 s 0 []) (Blk.alloc (Blk.alloc h _) _) (y_leaf _ _ _ _ _) (y_leaf _ _ _ _ _))
  · refine ⟨rfl, fun _ => ⟨V.heap.size + 6, 0, rfl, by simp, fun k hk => ?_⟩⟩
    have hk0 : k = 0 := by simp at hk; omega
    subst hk0
    have h := Blk.new (((((((V.alloc (.cells #[.int .i64 1, .string ⟨#[120]⟩, .int .i64 0, .slice none 0 0, .int .i64 1, .string ⟨#[120]⟩, .int .i64 0, .slice none 0 0] 31)).alloc
      (.cells #[.int .i64 3, .string ⟨#[102]⟩, .int .i64 0, .slice (some ⟨V.heap.size, 0, none⟩) 2 2] 31)).alloc
      (.cells #[.int .i64 3, .string ⟨#[99]⟩, .int .i64 0, .slice none 0 0] 31)).alloc
      (.cells #[.int .i64 3, .string s, .int .i64 0, .slice none 0 0] 31)).alloc
      (.cells #[.int .i64 3, .string ⟨#[99]⟩, .int .i64 0, .slice none 0 0, .int .i64 3, .string s, .int .i64 0, .slice none 0 0] 31)).alloc
      (.cells #[.int .i64 3, .string ⟨#[102]⟩, .int .i64 0, .slice (some ⟨V.heap.size + 4, 0, none⟩) 2 2] 31))) #[.string ⟨#[120]⟩] 9
    simp only [World.size_alloc] at h
    exact Blk.cell h 0
theorem y_one {w : World} {g : Nat} (h : Blk w g #[.string ⟨#[120]⟩, .int .i64 3, .string ⟨#[99]⟩, .int .i64 0, .slice none 0 0] 33) : UsW w (some ⟨g, 0, none⟩) 1 1 yL := by
  refine ⟨rfl, Nat.le_refl _, by unfold maxLen; omega, (fun h => by cases h), fun _ => ⟨g, 0, rfl, Blk.lt h, fun i q hi => ?_⟩⟩
  cases i with
  | zero =>
    simp only [yL, List.getElem?_cons_zero, Option.some.injEq] at hi
    subst hi
    exact ⟨none, 0, 0, Blk.cell h 0, Blk.cell h 1, Blk.cell h 2, Blk.cell h 3, Blk.cell h 4, y_leaf _ _ _ _ _⟩
  | succ i => simp [yL] at hi
theorem eqPs_refl : ∀ l : List Pr, eqPs l l = true
  | [] => rfl
  | p :: l => by rw [eqPs, eqPs_refl l, Bool.and_true]; unfold eqP; rw [eqS_refl, eqT_iff.2 rfl]; rfl
theorem y_pairs (w : World) (A : Option Addr) (N C : Nat) (h : UsW w A N C yL) :
    Calls Tryz.prog 28 #[.slice A N C, .slice (some ⟨w.heap.size + 1, 0, none⟩) 1 1] ((w.alloc (.cells #[.int .i64 3, .string ⟨#[99]⟩, .int .i64 0, .slice none 0 0] 31)).alloc (.cells #[.string ⟨#[120]⟩, .int .i64 3, .string ⟨#[99]⟩, .int .i64 0, .slice none 0 0] 33)) fun e w' => e = .returned (.bool true) ∧ Below w.heap.size w w' := by
  have hb : Below w.heap.size w ((w.alloc (.cells #[.int .i64 3, .string ⟨#[99]⟩, .int .i64 0, .slice none 0 0] 31)).alloc (.cells #[.string ⟨#[120]⟩, .int .i64 3, .string ⟨#[99]⟩, .int .i64 0, .slice none 0 0] 33)) := bel_alloc (bel_alloc (Below.refl _ _) _) _
  have k := Blk.new (w.alloc (.cells #[.int .i64 3, .string ⟨#[99]⟩, .int .i64 0, .slice none 0 0] 31)) #[.string ⟨#[120]⟩, .int .i64 3, .string ⟨#[99]⟩, .int .i64 0, .slice none 0 0] 33
  simp only [World.size_alloc] at k
  refine (Pairs_any yL yL A N C (some ⟨w.heap.size + 1, 0, none⟩) 1 1 _ (UsW.b h hb) (y_one k)).mono fun e w1 hh => ?_
  rw [eqPs_refl] at hh
  exact ⟨hh.1, bel_trans hb hh.2⟩
set_option maxRecDepth 100000 in
set_option maxHeartbeats 8000000 in
theorem alive11_any (w : World) : Calls Tryz.prog 15 #[] w fun e w' => e = .returned (.bool true) ∧ Below w.heap.size w w' := by
  have hm : ∀ b : UInt8, (⟨#[b]⟩ : ByteArray).size ≤ maxLen := fun b => by unfold maxLen; show 1 ≤ _; omega
  have sm0 : ∀ (o : Int) (b : UInt8) (z : Int), smT (.mk o ⟨#[b]⟩ z []) := fun o b z => by rw [smT]; exact ⟨hm b, trivial⟩
  have smP : smT yP := by unfold yP; rw [smT, smTs, smTs, smTs]; exact ⟨hm _, sm0 _ _ _, sm0 _ _ _, trivial⟩
  have cT := fun (u : Tm) (hu : size u ≤ 10) (a : Option Addr) (n c : Nat) (a' : Option Addr) (n' c' : Nat) (aX : Option Addr) (nX cX : Nat) (w' : World) (h1 : ArW w' yP a n c) (h2 : ArW w' (yT u) a' n' c') (h3 : IsS w' aX nX [⟨#[120]⟩]) => TermM_any [⟨#[120]⟩] yP (yT u) a n c a' n' c' aX nX cX w' h1 smP (by decide) h2 (by have h1 : size (yT u) = 1 + (size yC + (size u + 0)) := by { unfold yT; simp only [size, sizes] }; have h2 : size yC = 1 := by { decide }; omega) h3 (by have := h3.1; simp at this; omega) (fun x hx => by simp at hx; subst hx; exact hm _)
  simp only [y_mat, show opT yP = 3 from rfl, show nameT yP = ⟨#[102]⟩ from rfl, show numT yP = 0 from rfl, show ∀ u, opT (yT u) = 3 from fun _ => rfl, show ∀ u, nameT (yT u) = ⟨#[102]⟩ from fun _ => rfl, show ∀ u, numT (yT u) = 0 from fun _ => rfl] at cT
  have cT1 := cT yC (by decide)
  have cT2 := cT yD (by decide)
  rw [if_pos (eqT_iff.2 rfl)] at cT1
  rw [if_neg (by rw [y_cd]; simp)] at cT2
  clear cT smP sm0 hm
  have hB1 : Below w.heap.size w (w.alloc (.cells #[.int .i64 1, .string ⟨#[120]⟩, .int .i64 0, .slice none 0 0] 31)) := bel_alloc (Below.refl _ _) _
  have S1 := TBox.new w 1 ⟨#[120]⟩ 0 none 0 0
  obtain ⟨W2, hW2, hB2, hP2, hT2, hX2⟩ := y_mem (w.alloc (.cells #[.int .i64 1, .string ⟨#[120]⟩, .int .i64 0, .slice none 0 0] 31)) ⟨#[99]⟩
  simp only [World.size_alloc, Nat.add_assoc, Nat.reduceAdd] at hW2 hP2 hT2 hX2
  have c1 := cT1 _ 2 2 _ 2 2 _ 1 1 W2 hP2 hT2 hX2
  have HS2 := Lib.hid (TBox.b S1 hB2)
  clear hP2 hT2 hX2 cT1
  obtain ⟨s0, s1, s2, s3⟩ := S1.four
  clear S1
  unfold RtPs at c1 cT2
  go_enter Tryz.func15, Tryz.ntmps15
  go_wp2_with (first
    | (go_at_call 40; ((with_reducible refine (app_any _ _ _ _ _).mono ?_); rintro e wA ⟨rfl, rfl⟩))
    | (go_at_call 16; ((with_reducible refine c1.mono ?_); rintro e w3 ⟨A3, N3, C3, rfl, hU3, hb3⟩; obtain ⟨s0, s1, s2, s3⟩ := (TBox.b HS2.out hb3).four; obtain ⟨W4, hW4, hB4, hP4, hT4, hX4⟩ := y_mem w3 ⟨#[100]⟩; (try simp only [Nat.add_assoc, Nat.reduceAdd] at hW4); have c2 := cT2 _ 2 2 _ 2 2 _ 1 1 W4 hP4 hT4 hX4; have HU4 := Lib.hid (UsW.b (show UsW w3 A3 N3 C3 yL from hU3) hB4); have B4 := bel_trans hB1 (bel_trans hB2 (bel_trans hb3 hB4)); clear hP4 hT4 hX4 hU3))
    | (go_at_call 16; ((with_reducible refine c2.mono ?_); rintro e w5 ⟨A5, N5, C5, rfl, hU5, hb5⟩; have cP := y_pairs w5 A3 N3 C3 (UsW.b HU4.out hb5); have B5 := bel_trans B4 hb5; clear hU5))
    | (go_at_call 28; ((with_reducible refine cP.mono ?_); rintro e w6 ⟨rfl, hb6⟩)))
  go_ret
  exact ⟨rfl, bel_trans B5 hb6⟩
end Go.Proofs.YtnhemglpbhnmdaaGreat.Mt
