/-
  What is proved: what the document's Clean returns.
-/
import Derived.Test.YthchjceibpcgbaaGreatDoorLB
namespace Go.Proofs.YthchjceibpcgbaaGreatDoor.Lt
open Go.RowKit Go.Shelf Go.Maps Go.WideMaps L
set_option linter.unusedVariables false
set_option linter.unusedSimpArgs false

/-- where a literal is put in -/
def tw (x : Int) (O : List Int) : Nat := (O.takeWhile (fun y => ahd y x)).length
theorem tw_le (x : Int) (O : List Int) : tw x O ≤ O.length := (List.takeWhile_prefix _).length_le
theorem tw_lt {x y : Int} : ∀ {O : List Int} {j : Nat}, j < tw x O → O[j]? = some y → ahd y x = true
  | [], j, h, _ => by simp [tw] at h
  | z :: O, j, h, hy => by
    unfold tw at h
    rw [List.takeWhile_cons] at h
    cases hz : ahd z x
    · rw [hz] at h; simp at h
    · rw [hz] at h
      cases j with
      | zero => simp at hy; rw [← hy]; exact hz
      | succ j => exact tw_lt (O := O) (by unfold tw; simp at h; omega) (by simpa using hy)
theorem tw_at {x y : Int} : ∀ {O : List Int}, O[tw x O]? = some y → ahd y x = false
  | [], hy => by simp at hy
  | z :: O, hy => by
    unfold tw at hy
    rw [List.takeWhile_cons] at hy
    cases hz : ahd z x
    · rw [hz] at hy; simp at hy; rw [← hy]; exact hz
    · rw [hz] at hy
      exact tw_at (O := O) (by unfold tw; simpa using hy)
theorem ins_tw (x : Int) (O : List Int) : ins x O = O.take (tw x O) ++ [x] ++ O.drop (tw x O) := by
  unfold ins tw
  have h1 : O.takeWhile (fun y => ahd y x) = O.take (O.takeWhile (fun y => ahd y x)).length := (List.prefix_iff_eq_take.1 (List.takeWhile_prefix _))
  have h2 : O.takeWhile (fun y => ahd y x) ++ O.dropWhile (fun y => ahd y x) = O := List.takeWhile_append_dropWhile
  have h3 := congrArg (List.drop (O.takeWhile (fun y => ahd y x)).length) h2
  rw [List.drop_left] at h3
  rw [← h1, ← h3]; simp
theorem clF_take (X : List Int) (k : Nat) (x : Int) (hx : X[k]? = some x) : clF [] (X.take (k + 1)) = step (clF [] (X.take k)) x := by
  rw [List.take_add_one, hx]
  unfold clF
  rw [List.foldl_append]; rfl
theorem sub1 {w : World} {b o q c : Nat} {O : List Int} (h : SlI w (some ⟨b, o, none⟩) q c O) (P : Nat) (hP : P ≤ q) : SlI w (some ⟨b, o, none⟩) P c (O.take P) := by
  have h1 := h.1
  refine ⟨by rw [List.length_take]; omega, by have := h.2.1; omega, (fun e => by cases e), fun hp => ?_⟩
  obtain ⟨b', o', e, hb, hc⟩ := h.2.2.2 (by omega)
  injection e with e
  injection e with e1 e2
  subst e1 e2
  refine ⟨b, o, rfl, hb, fun i hi => ?_⟩
  rw [List.length_take] at hi
  rw [hc i (by omega), List.getElem_take]
theorem sub2 {w : World} {b o q c : Nat} {O : List Int} (h : SlI w (some ⟨b, o, none⟩) q c O) (P : Nat) (hP : P < q) : SlI w (some ⟨b, o + P, none⟩) (q - P) (c - P) (O.drop P) := by
  have h1 := h.1
  refine ⟨by rw [List.length_drop]; omega, by have := h.2.1; omega, (fun e => by cases e), fun hp => ?_⟩
  obtain ⟨b', o', e, hb, hc⟩ := h.2.2.2 (by omega)
  injection e with e
  injection e with e1 e2
  subst e1 e2
  refine ⟨b, o + P, rfl, hb, fun i hi => ?_⟩
  rw [List.length_drop] at hi
  rw [Nat.add_assoc, hc (P + i) (by omega), List.getElem_drop]
theorem empty_sl (w : World) (ad : Addr) (c : Nat) : SlI w (some ad) 0 c [] := ⟨rfl, Nat.zero_le _, (fun e => by cases e), fun h => absurd h (by omega)⟩
theorem one_sl {w : World} {x : Int} : SlI (w.alloc (.cells #[.int .i64 x] 3)) (some ⟨w.heap.size, 0, none⟩) 1 1 [x] :=
  ⟨rfl, Nat.le_refl _, (fun e => by cases e), fun _ => ⟨_, _, rfl, by simp, fun i hi => by
    obtain rfl : i = 0 := by simp at hi; omega
    rw [World.cell?_alloc_at _ _ _ _ rfl]; rfl⟩⟩
/-- where out stands behind k numbers -/
def OutW (w wr : World) (A : Option Addr) (q c : Nat) (O : List Int) : Prop := Below w.heap.size w wr ∧ SlI wr A q c O ∧ (q = 0 → A = none ∧ c = 0) ∧ ∀ ad, A = some ad → w.heap.size ≤ ad.block
theorem out_of {w w3 : World} {base : Nat} {v : Value} {O : List Int} (ho : OwnI w3 base v O) (hb : Below w.heap.size w w3) (h0 : 0 < O.length) (hbs : w.heap.size ≤ base) : ∃ A c, Value.slice A O.length c = v ∧ OutW w w3 A O.length c O := by
  obtain ⟨A, c, rfl, _⟩ := ho.slice
  exact ⟨A, c, rfl, hb, ho.sl.2.2, fun h => absurd h (by omega), fun ad h => Nat.le_trans hbs (ho.lt ad.block (by rw [h]; rfl)).1⟩
set_option maxRecDepth 100000 in
set_option maxHeartbeats 4000000 in
theorem RCleanN_any (A : Option Addr) (n c : Nat) (X : List Int) (w : World) (h : SlI w A n c X) (hr : R64s X) (hn : n ≤ 1000000) :
    Calls Tryz.prog 27 #[.slice A n c] w fun e w' => ∃ A' q' c', e = .returned (.tuple #[.slice A' q' c', .bool (!opp (cl X))]) ∧ SlI w' A' q' c' (cl X) ∧ q' ≤ n ∧ Below w.heap.size w w' ∧ ∀ ad, A' = some ad → w.heap.size ≤ ad.block := by
  have H := Lib.hid h
  have HX := Lib.hid h.1
  have HR := Lib.hid hr
  have CI := Lib.hid (fun x W => is_any x W)
  have CH := Lib.hid (fun (W : World) A' q' c' (O : List Int) l (h : SlI W A' q' c' O) (hq : q' ≤ 1000000) => RHas_any A' q' c' O l W h (by omega))
  have CA := Lib.hid (fun (W : World) a b ha hb => ahead_any a b W ha hb)
  have H0 : Hid (OutW w w none 0 0 (clF [] (X.take 0))) := Lib.hid ⟨Below.refl _ _, SlI.nil w, fun _ => ⟨rfl, rfl⟩, fun ad h => by cases h⟩
  clear h hr
  go_enter Tryz.func27, Tryz.ntmps27
  go_wp2
  go_loopw [4, 5] (fun v i wr0 => ∃ (wr : World) (k q : Nat) (A' : Option Addr) (c' : Nat), wr = wr0 ∧ k ≤ n ∧ q ≤ k ∧ Value.slice A' q c' = v ∧ i = .int .i64 k ∧ Hid (OutW w wr A' q c' (clF [] (X.take k)))) (fun _ i _ => n - (intOf i).toNat)
  case atStart => exact ⟨_, 0, 0, none, 0, rfl, by omega, by omega, rfl, rfl, H0⟩
  case round =>
    obtain ⟨wr, k, q, A', c', rfl, hk, hqk, rfl, rfl, hO⟩ := hrel
    by_cases hlt : k < n
    · obtain ⟨g, o, x, rfl, hg, z0, hx⟩ := SlI.at H.out hlt
      have y0 := (hO.out.1.cell (p := ⟨g, _, none⟩) hg).trans z0
      have hxR := HR.out x (List.mem_of_getElem? hx)
      have HE := Lib.hid (clF_take X k x hx)
      have hk0 : 0 ≤ (k : Int) := by omega
      have hk1 : (k : Int) < (n : Int) := by omega
      obtain ⟨O, HOe⟩ : ∃ O, Hid (clF [] (X.take k) = O) := ⟨_, rfl⟩
      rw [HOe.out] at HE hO
      have hOr : R64s O := by
        rw [← HOe.out]
        intro y hy
        rcases (mem_clF _ _ y).1 hy with h | h
        · simp at h
        · exact HR.out y (List.take_subset _ _ h.1)
      have HOr := Lib.hid hOr
      clear hOr
      have ci := CI.out x wr
      have ch := CH.out wr A' q c' O x hO.out.2.1 (by omega)
      have Hst := Lib.hid (show step O x = if !isL x || O.contains x then O else ins x O from rfl)
      have hhas : hasL O x = (isL x && O.contains x) := rfl
      have Hx := Lib.hid hxR
      clear z0 hx hxR
      cases hi : isL x
      · rw [hi] at ci
        have HN : Hid (OutW w wr A' q c' (clF [] (X.take (k + 1)))) := Lib.hid (by rw [HE.out, Hst.out, hi]; exact hO.out)
        clear hO HE Hst hi hhas ch
        go_wp2_with (go_at_call 65; ((with_reducible refine ci.mono ?_); rintro e w1 ⟨rfl, rfl⟩))
        go_roundw
        case rel => exact ⟨_, k + 1, q, A', c', rfl, by omega, by omega, rfl, by go_num, HN⟩
        case measure => simp [intOf]; omega
      · rw [hi] at ci
        cases hh : hasL O x
        · rw [hh] at ch
          have HI : Hid (clF [] (X.take (k + 1)) = ins x O) := Lib.hid (by
            rw [HE.out, Hst.out]
            rw [hhas, hi] at hh
            simp at hh
            simp [hi, hh])
          clear HE Hst hi hh hhas
          have hgr : g < wr.heap.size := by have := hO.out.1.size; omega
          have Y0 := Lib.hid y0
          have HB := Lib.hid hO.out.1
          have hOl := hO.out.2.1.1
          have htw := tw_le x O
          have HOl := Lib.hid hOl
          have HJ : Hid ([] ++ O.take (tw x O) ++ [x] ++ O.drop (tw x O) = ins x O) := by show _ = _; rw [ins_tw]; simp
          by_cases hq0 : q = 0
          · subst hq0
            obtain ⟨rfl, rfl⟩ := hO.out.2.2.1 rfl
            have hOn : O = [] := List.eq_nil_of_length_eq_zero hOl.symm
            subst hOn
            have h0 : tw x [] = 0 := by simp [tw]
            have HJ : Hid ([] ++ [x] ++ [] = ins x []) := by show _ = _; rw [ins_tw]; simp
            clear hO hOl htw
            go_wp2_with (first | (go_at_call 65; ((with_reducible refine ci.mono ?_); rintro e w1 ⟨rfl, rfl⟩; clear ci)) | (go_at_call 66; ((with_reducible refine ch.mono ?_); rintro e w1 ⟨rfl, rfl⟩; clear ch)))
            go_loopw [6] (fun i wr0 => ∃ (w2 : World), w2 = wr0 ∧ i = .int .i64 0 ∧ Hid (Below wr.heap.size wr w2)) (fun i _ => 0 - (intOf i).toNat)
            case atStart => exact ⟨_, rfl, rfl, Lib.hid (Below.refl _ _)⟩
            case round =>
              obtain ⟨w2, rfl, rfl, HB2⟩ := hrel
              have hgd : decide ((0 : Int) < (0 : Int)) = false := rfl
              have y2 := (HB2.out.cell (p := ⟨g, _, none⟩) hgr).trans Y0.out
              go_wp2
              go_quiet (fail)
              go_wp2_with (first
                | (at_builtin; ((refine app_ints rfl (.tmp 51) (.tmp 56) rfl wr.heap.size (.slice none 0 0) [] rfl (OwnI.nil _ _) _ 1 1 [x] rfl one_sl (by simp) (bel_alloc (below_drewN HB2.out _) _).size ?_); intro v2 w3 ho3 hg3; have B3 : Below wr.heap.size wr w3 := (bel_alloc (below_drewN HB2.out _) _).grown hg3 (bel_alloc (below_drewN HB2.out _) _).size (fun q hq => by cases hq)))
                | (at_builtin; ((refine app_ints rfl (.tmp 58) (.tmp 61) rfl wr.heap.size v2 _ rfl ho3 _ _ _ [] rfl (SlI.nil _) (by simp) B3.size ?_); intro v4 w4 ho4 hg4; have B4 : Below wr.heap.size wr w4 := B3.grown hg4 B3.size (fun q hq => (ho3.lt q hq).1))))
              go_roundw
              case rel =>
                rw [HJ.out] at ho4
                obtain ⟨A4, c4, hv4, hO4⟩ := out_of (w := w) ho4 (bel_trans HB.out B4) (by rw [ins_len]; omega) HB.out.size
                exact ⟨_, k + 1, _, A4, c4, rfl, by omega, by rw [ins_len]; have := HOl.out; simp at this ⊢, hv4, by go_num, Lib.hid (by rw [HI.out]; exact hO4)⟩
              case measure => simp [intOf]; omega
          · obtain ⟨b, o2, -, rfl, hb2, -, -⟩ := SlI.at hO.out.2.1 (k := 0) (by omega)
            generalize hP : tw x O = P at *
            have HPd := Lib.hid hP
            have hPq : P ≤ q := by omega
            have HS1 := Lib.hid (sub1 hO.out.2.1 P hPq)
            have HSO := Lib.hid hO.out.2.1
            clear hO hOl htw hP
            go_wp2_with (first | (go_at_call 65; ((with_reducible refine ci.mono ?_); rintro e w1 ⟨rfl, rfl⟩; clear ci)) | (go_at_call 66; ((with_reducible refine ch.mono ?_); rintro e w1 ⟨rfl, rfl⟩; clear ch)))
            go_loopw [6] (fun i wr0 => ∃ (w2 : World) (j : Nat), w2 = wr0 ∧ j ≤ P ∧ i = .int .i64 j ∧ Hid (Below wr.heap.size wr w2)) (fun i _ => q - (intOf i).toNat)
            case atStart => exact ⟨_, 0, rfl, by omega, rfl, Lib.hid (Below.refl _ _)⟩
            case round =>
              obtain ⟨w2, j, rfl, hj, rfl, HB2⟩ := hrel
              have y2 := (HB2.out.cell (p := ⟨g, _, none⟩) hgr).trans Y0.out
              have hj0 : 0 ≤ (j : Int) := by omega
              by_cases hjq : j < q
              · obtain ⟨b', o', y, e, -, zy, hy⟩ := SlI.at HSO.out hjq
                injection e with e
                injection e with e1 e2
                subst e1 e2
                have yj := (HB2.out.cell (p := ⟨b, _, none⟩) hb2).trans zy
                have hgd : decide ((j : Int) < (q : Int)) = true := decide_eq_true (by omega)
                have hj1 : (j : Int) < (q : Int) := by omega
                have cA := fun W => (CA.out W y x (HOr.out y (List.mem_of_getElem? hy)) Hx.out).mono fun e w' (h : _ ∧ W = w') => (show e = .returned (.bool (ahd y x)) ∧ w' = W from ⟨h.1, h.2.symm⟩)
                by_cases hjP : j < P
                · have ha : ahd y x = true := tw_lt (by rw [HPd.out]; exact hjP) hy
                  rw [ha] at cA
                  clear zy hy ha
                  go_wp2
                  go_quiet ((go_at_call 67; exact Calls.quiet_of_same (cA _)))
                  go_wp2
                  exact ⟨⟨_, j + 1, rfl, by omega, by go_num, Lib.hid (below_drewN HB2.out _)⟩, by simp [intOf] <;> omega⟩
                · obtain rfl : j = P := by omega
                  have ha : ahd y x = false := tw_at (O := O) (by rw [HPd.out]; exact hy)
                  rw [ha] at cA
                  have HS2 := Lib.hid (sub2 HSO.out j hjq)
                  have hcj : ¬ c' = j := by have := HSO.out.2.1; omega
                  have hcle : j ≤ c' := by have := HSO.out.2.1; omega
                  have hqle : j ≤ q := by omega
                  clear zy hy ha
                  go_wp2
                  go_quiet ((go_at_call 67; exact Calls.quiet_of_same (cA _)))
                  go_wp2_with (first
                    | (at_builtin; ((refine app_ints rfl (.tmp 46) (.tmp 49) rfl wr.heap.size (.slice none 0 0) [] rfl (OwnI.nil _ _) _ _ _ _ rfl (SlI.below HS1.out (below_drewN HB2.out _)) (by simp; omega) (below_drewN HB2.out _).size ?_); intro v1 w1 ho1 hg1; have B1 : Below wr.heap.size wr w1 := (below_drewN HB2.out _).grown hg1 (below_drewN HB2.out _).size (fun q hq => by cases hq); have y1 := (B1.cell (p := ⟨g, _, none⟩) hgr).trans Y0.out; have hB1' : Below w1.heap.size w1 (w1.alloc (.cells #[.int .i64 x] 3)) := bel_alloc (Below.refl _ _) _; have ho2 := OwnI.b ho1 hB1'; have s2 : SlI (w1.alloc (.cells #[.int .i64 x] 3)) (some ⟨w1.heap.size, 0, none⟩) 1 1 [x] := one_sl; have B2 := bel_trans B1 hB1'; clear ho1))
                    | (at_builtin; ((refine app_ints rfl (.tmp 51) (.tmp 56) rfl wr.heap.size v1 _ rfl ho2 _ 1 1 [x] rfl s2 (by have := HOl.out; simp; omega) B2.size ?_); intro v2 w3 ho3 hg3; have B3 : Below wr.heap.size wr w3 := B2.grown hg3 B2.size (fun q hq => (ho2.lt q hq).1); clear ho2 s2))
                    | (at_builtin; ((refine app_ints rfl (.tmp 58) (.tmp 61) rfl wr.heap.size v2 _ rfl ho3 _ _ _ _ rfl (SlI.below HS2.out B3) (by have := HOl.out; simp; omega) B3.size ?_); intro v4 w4 ho4 hg4; have B4 : Below wr.heap.size wr w4 := B3.grown hg4 B3.size (fun q hq => (ho3.lt q hq).1))))
                  go_roundw
                  case rel =>
                    rw [HJ.out] at ho4
                    obtain ⟨A4, c4, hv4, hO4⟩ := out_of (w := w) ho4 (bel_trans HB.out B4) (by rw [ins_len]; omega) HB.out.size
                    exact ⟨_, k + 1, _, A4, c4, rfl, by omega, by rw [ins_len]; have := HOl.out; omega, hv4, by go_num, Lib.hid (by rw [HI.out]; exact hO4)⟩
                  case measure => simp [intOf]; omega
              · obtain rfl : j = P := by omega
                obtain rfl : j = q := by omega
                have hgd : decide ((j : Int) < (j : Int)) = false := decide_eq_false (by omega)
                have hdn : O.drop j = [] := List.drop_eq_nil_of_le (by have := HOl.out; omega)
                rw [hdn] at HJ
                have hjc := HSO.out.2.1
                by_cases hcj : c' = j
                · subst hcj
                  have HS2 := Lib.hid (empty_sl wr ⟨b, o2, none⟩ 0)
                  clear hdn y2
                  go_wp2
                  go_quiet (fail)
                  go_wp2_with (first
                    | (at_builtin; ((refine app_ints rfl (.tmp 46) (.tmp 49) rfl wr.heap.size (.slice none 0 0) [] rfl (OwnI.nil _ _) _ _ _ _ rfl (SlI.below HS1.out (below_drewN HB2.out _)) (by simp; omega) (below_drewN HB2.out _).size ?_); intro v1 w1 ho1 hg1; have B1 : Below wr.heap.size wr w1 := (below_drewN HB2.out _).grown hg1 (below_drewN HB2.out _).size (fun q hq => by cases hq); have y1 := (B1.cell (p := ⟨g, _, none⟩) hgr).trans Y0.out; have hB1' : Below w1.heap.size w1 (w1.alloc (.cells #[.int .i64 x] 3)) := bel_alloc (Below.refl _ _) _; have ho2 := OwnI.b ho1 hB1'; have s2 : SlI (w1.alloc (.cells #[.int .i64 x] 3)) (some ⟨w1.heap.size, 0, none⟩) 1 1 [x] := one_sl; have B2 := bel_trans B1 hB1'; clear ho1))
                    | (at_builtin; ((refine app_ints rfl (.tmp 51) (.tmp 56) rfl wr.heap.size v1 _ rfl ho2 _ 1 1 [x] rfl s2 (by have := HOl.out; simp; omega) B2.size ?_); intro v2 w3 ho3 hg3; have B3 : Below wr.heap.size wr w3 := B2.grown hg3 B2.size (fun q hq => (ho2.lt q hq).1); clear ho2 s2))
                    | (at_builtin; ((refine app_ints rfl (.tmp 58) (.tmp 61) rfl wr.heap.size v2 _ rfl ho3 _ _ _ _ rfl (SlI.below HS2.out B3) (by have := HOl.out; simp; omega) B3.size ?_); intro v4 w4 ho4 hg4; have B4 : Below wr.heap.size wr w4 := B3.grown hg4 B3.size (fun q hq => (ho3.lt q hq).1))))
                  go_roundw
                  case rel =>
                    rw [HJ.out] at ho4
                    obtain ⟨A4, c4, hv4, hO4⟩ := out_of (w := w) ho4 (bel_trans HB.out B4) (by rw [ins_len]; omega) HB.out.size
                    exact ⟨_, k + 1, _, A4, c4, rfl, by omega, by rw [ins_len]; have := HOl.out; omega, hv4, by go_num, Lib.hid (by rw [HI.out]; exact hO4)⟩
                  case measure => simp [intOf]; omega
                · have HS2 := Lib.hid (empty_sl wr ⟨b, o2 + j, none⟩ (c' - j))
                  clear hdn y2
                  go_wp2
                  go_quiet (fail)
                  go_wp2_with (first
                    | (at_builtin; ((refine app_ints rfl (.tmp 46) (.tmp 49) rfl wr.heap.size (.slice none 0 0) [] rfl (OwnI.nil _ _) _ _ _ _ rfl (SlI.below HS1.out (below_drewN HB2.out _)) (by simp; omega) (below_drewN HB2.out _).size ?_); intro v1 w1 ho1 hg1; have B1 : Below wr.heap.size wr w1 := (below_drewN HB2.out _).grown hg1 (below_drewN HB2.out _).size (fun q hq => by cases hq); have y1 := (B1.cell (p := ⟨g, _, none⟩) hgr).trans Y0.out; have hB1' : Below w1.heap.size w1 (w1.alloc (.cells #[.int .i64 x] 3)) := bel_alloc (Below.refl _ _) _; have ho2 := OwnI.b ho1 hB1'; have s2 : SlI (w1.alloc (.cells #[.int .i64 x] 3)) (some ⟨w1.heap.size, 0, none⟩) 1 1 [x] := one_sl; have B2 := bel_trans B1 hB1'; clear ho1))
                    | (at_builtin; ((refine app_ints rfl (.tmp 51) (.tmp 56) rfl wr.heap.size v1 _ rfl ho2 _ 1 1 [x] rfl s2 (by have := HOl.out; simp; omega) B2.size ?_); intro v2 w3 ho3 hg3; have B3 : Below wr.heap.size wr w3 := B2.grown hg3 B2.size (fun q hq => (ho2.lt q hq).1); clear ho2 s2))
                    | (at_builtin; ((refine app_ints rfl (.tmp 58) (.tmp 61) rfl wr.heap.size v2 _ rfl ho3 _ _ _ _ rfl (SlI.below HS2.out B3) (by have := HOl.out; simp; omega) B3.size ?_); intro v4 w4 ho4 hg4; have B4 : Below wr.heap.size wr w4 := B3.grown hg4 B3.size (fun q hq => (ho3.lt q hq).1))))
                  go_roundw
                  case rel =>
                    rw [HJ.out] at ho4
                    obtain ⟨A4, c4, hv4, hO4⟩ := out_of (w := w) ho4 (bel_trans HB.out B4) (by rw [ins_len]; omega) HB.out.size
                    exact ⟨_, k + 1, _, A4, c4, rfl, by omega, by rw [ins_len]; have := HOl.out; omega, hv4, by go_num, Lib.hid (by rw [HI.out]; exact hO4)⟩
                  case measure => simp [intOf]; omega
        · rw [hh] at ch
          have HN : Hid (OutW w wr A' q c' (clF [] (X.take (k + 1)))) := Lib.hid (by
            rw [HE.out, Hst.out]
            rw [hhas, hi] at hh
            have : O.contains x = true := by simpa using hh
            rw [hi, this]
            exact hO.out)
          clear hO HE Hst hi hhas hh
          go_wp2_with (first | (go_at_call 65; ((with_reducible refine ci.mono ?_); rintro e w1 ⟨rfl, rfl⟩; clear ci)) | (go_at_call 66; ((with_reducible refine ch.mono ?_); rintro e w1 ⟨rfl, rfl⟩; clear ch)))
          go_roundw
          case rel => exact ⟨_, k + 1, q, A', c', rfl, by omega, by omega, rfl, by go_num, HN⟩
          case measure => simp [intOf]; omega
    · obtain rfl : k = n := by omega
      have hO2 : OutW w wr A' q c' (cl X) := by have := hO.out; rwa [List.take_of_length_le (by have := HX.out; omega)] at this
      have hOr : R64s (cl X) := cl_r HR.out
      have hL : ∀ y ∈ cl X, isL y = true := fun y hy => ((mem_cl X y).1 hy).2
      generalize hcl : cl X = O at *
      have HL := Lib.hid hL
      have Hcl := Lib.hid hcl
      clear hL
      have HO2 := Lib.hid hO2
      have Hq := Lib.hid hO2.2.1.1
      have HOr := Lib.hid hOr
      have H3 : Hid (∀ y ∈ O.take 0, O.contains (ng y) = false) := by show ∀ y ∈ _, _; simp
      clear hO hO2 hcl hOr H0 H
      go_wp2
      go_loopw [8] (fun i wr0 => ∃ (w2 : World) (j : Nat), w2 = wr0 ∧ j ≤ q ∧ i = .int .i64 j ∧ Hid (wr = w2) ∧ Hid (∀ y ∈ O.take j, O.contains (ng y) = false)) (fun i _ => q - (intOf i).toNat)
      case atStart => exact ⟨_, 0, rfl, by omega, rfl, Lib.hid rfl, H3⟩
      case round =>
        obtain ⟨w2, j, rfl, hj, rfl, HW, HQ⟩ := hrel
        by_cases hjq : j < q
        · obtain ⟨b, o2, y, rfl, hb, zy, hy⟩ := SlI.at HO2.out.2.1 hjq
          have yy : w2.cell? ⟨b, o2 + j, none⟩ = some (.int .i64 y) := by rw [← HW.out]; exact zy
          have hyR := HOr.out y (List.mem_of_getElem? hy)
          have ch := CH.out wr (some ⟨b, o2, none⟩) q c' O (ng y) HO2.out.2.1 (by omega)
          rw [HW.out] at ch
          have hj0 : 0 ≤ (j : Int) := by omega
          have hj1 : (j : Int) < (q : Int) := by omega
          have hiy : Hid (O.contains (ng y) = true → opp O = true) := Lib.hid fun h => List.any_eq_true.2 ⟨y, List.mem_of_getElem? hy, h⟩
          have hil : Hid (hasL O (ng y) = O.contains (ng y)) := Lib.hid (by
            unfold hasL
            cases hc : O.contains (ng y)
            · simp
            · have : isL (ng y) = true := HL.out _ (by simpa using hc)
              rw [this]; rfl)
          have htk : Hid (O.take (j + 1) = O.take j ++ [y]) := Lib.hid (by rw [List.take_add_one, hy]; rfl)
          have hng : ng y = wrap64 (-y) := by rw [w64]; rfl
          rw [hil.out] at ch
          generalize hcn : O.contains (ng y) = r at *
          rw [hng] at ch hcn
          have Hcn := Lib.hid hcn
          clear zy hy hil hng hcn
          cases r
          · have HQ1 : Hid (∀ z ∈ O.take (j + 1), O.contains (ng z) = false) := Lib.hid (by
              rw [htk.out]
              intro z hz
              rcases List.mem_append.1 hz with h | h
              · exact HQ.out z h
              · rw [List.mem_singleton.1 h]; unfold ng; rw [← w64]; exact Hcn.out)
            clear htk hiy
            go_wp2_with (go_at_call 66; ((with_reducible refine ch.mono ?_); rintro e w3 ⟨rfl, rfl⟩))
            go_roundw
            case rel => exact ⟨_, j + 1, rfl, by omega, by go_num, HW, HQ1⟩
            case measure => simp [intOf]; omega
          · have hop : Hid ((!opp O) = false) := Lib.hid (by rw [hiy.out rfl]; rfl)
            clear htk hiy
            go_wp2_with (go_at_call 66; ((with_reducible refine ch.mono ?_); rintro e w3 ⟨rfl, rfl⟩))
            go_ret2
            exact ⟨_, q, c', by rw [Hcl.out, hop.out]; rfl, by rw [Hcl.out, ← HW.out]; exact HO2.out.2.1, by omega, by rw [← HW.out]; exact HO2.out.1, HO2.out.2.2.2⟩
        · obtain rfl : j = q := by omega
          have hop : Hid ((!opp O) = true) := Lib.hid (by
            have h := HQ.out
            rw [List.take_of_length_le (by have := Hq.out; omega)] at h
            have : opp O = false := by
              rw [Bool.eq_false_iff]
              intro h2
              obtain ⟨y, hy, hc⟩ := List.any_eq_true.1 h2
              rw [h y hy] at hc; cases hc
            rw [this]; rfl)
          go_wp2
          go_ret2
          exact ⟨_, j, c', by rw [Hcl.out, hop.out]; rfl, by rw [Hcl.out, ← HW.out]; exact HO2.out.2.1, by omega, by rw [← HW.out]; exact HO2.out.1, HO2.out.2.2.2⟩
theorem RClean_any (A : Option Addr) (n c : Nat) (X : List Int) (w : World) (h : SlI w A n c X) (hr : R64s X) (hn : n ≤ 1000000) :
    Calls Tryz.prog 27 #[.slice A n c] w fun e w' => ∃ A' q' c', e = .returned (.tuple #[.slice A' q' c', .bool (!opp (cl X))]) ∧ SlI w' A' q' c' (cl X) ∧ q' ≤ n ∧ Below w.heap.size w w' :=
  (RCleanN_any A n c X w h hr hn).mono fun e w' ⟨A', q', c', h1, h2, h3, h4, _⟩ => ⟨A', q', c', h1, h2, h3, h4⟩
end Go.Proofs.YthchjceibpcgbaaGreatDoor.Lt
