/-
  What is proved: the law LitSound.
-/
import Derived.Test.YtmamecchphockaaLtL
namespace Go.Proofs.Ytmamecchphockaa.Lt
open Go.RowKit L
set_option linter.unusedVariables false
set_option linter.unusedSimpArgs false

theorem sound1 {X Y : List Int} {v : Int} (hv : R64 v) (h : hasL (cl (res X Y v)) v = true) : hasL Y v = true := by
  rw [hasL_iff] at *
  rcases (mem_res.1 h.2).1 with h1 | h1
  · exact absurd rfl h1.2
  · exact ⟨h.1, h1.1⟩
theorem sound2 {X Y : List Int} {v : Int} (h : hasL (cl (res X Y v)) (ng v) = true) : hasL X (ng v) = true := by
  rw [hasL_iff] at *
  rcases (mem_res.1 h.2).1 with h1 | h1
  · exact ⟨h.1, h1.1⟩
  · exact absurd rfl h1.2
theorem sound3 {X Y : List Int} {v x : Int} (h : x ∈ cl (res X Y v)) : hasL X x = false → hasL Y x = true := by
  intro h0
  have h2 := mem_res.1 h
  rcases h2.1 with h1 | h1
  · rw [(hasL_iff X x).2 ⟨h2.2, h1.1⟩] at h0; cases h0
  · exact (hasL_iff Y x).2 ⟨h2.2, h1.1⟩
set_option maxRecDepth 100000 in
set_option maxHeartbeats 16000000 in
theorem litSound (A : Option Addr) (n c : Nat) (X : List Int) (A' : Option Addr) (n' c' : Nat) (Y : List Int) (v : Int) (a : Option Addr) (m d : Nat) (V : List Bool) (w : World) (hn : n ≤ 9223372036854775807) (h : SlI w A n c X ∧ R64s X) (hn' : n' ≤ 9223372036854775807) (h' : SlI w A' n' c' Y ∧ R64s Y) (hv0 : -9223372036854775808 ≤ v) (hv1 : v ≤ 9223372036854775807) (hm : m ≤ 9223372036854775807) (hV : SlB w a m d V) :
    Calls Try.prog 6 #[.slice A n c, .slice A' n' c', .int .i64 v, .slice a m d] w fun e w' => e = .returned (.bool true) ∧ Below w.heap.size w w' := by
  have B0 : Below w.heap.size w w := Below.refl _ _
  by_cases g0 : n > 100
  · have q0 : decide ((n : Int) > 100) = true := decide_eq_true (by omega)
    clear h h' hV
    go_enter Try.func6, Try.ntmps6
    go_wp2_with (go_at_call 9; ((with_reducible refine (alive_any _).mono ?_); rintro e wz ⟨rfl, hbz⟩; have BZ := bel_trans (a := w) (by assumption) hbz))
    go_ret
    exact ⟨rfl, BZ⟩
  have q0 : decide ((n : Int) > 100) = false := decide_eq_false (by omega)
  by_cases g1 : n' > 100
  · have q1 : decide ((n' : Int) > 100) = true := decide_eq_true (by omega)
    clear h h' hV
    go_enter Try.func6, Try.ntmps6
    go_wp2_with (go_at_call 9; ((with_reducible refine (alive_any _).mono ?_); rintro e wz ⟨rfl, hbz⟩; have BZ := bel_trans (a := w) (by assumption) hbz))
    go_ret
    exact ⟨rfl, BZ⟩
  have q1 : decide ((n' : Int) > 100) = false := decide_eq_false (by omega)
  by_cases g2 : m > 300
  · have q2 : decide ((m : Int) > 300) = true := decide_eq_true (by omega)
    clear h h' hV
    go_enter Try.func6, Try.ntmps6
    go_wp2_with (go_at_call 9; ((with_reducible refine (alive_any _).mono ?_); rintro e wz ⟨rfl, hbz⟩; have BZ := bel_trans (a := w) (by assumption) hbz))
    go_ret
    exact ⟨rfl, BZ⟩
  have q2 : decide ((m : Int) > 300) = false := decide_eq_false (by omega)
  have c1 := Resolve_any A n c X A' n' c' Y v w h.1 h.2 (by omega) h'.1 h'.2 (by omega)
  cases hcan : can X Y v
  · obtain ⟨x1, x2⟩ := rs_no hcan
    rw [x1, x2] at c1
    clear h h' hV hcan x1 x2
    go_enter Try.func6, Try.ntmps6
    go_wp2_with (first
      | (go_at_call 27; ((with_reducible refine c1.mono ?_); rintro e w1 ⟨A1, q1, k1, rfl, hS1, hq1, hb1⟩; have B1 := hb1; obtain rfl : q1 = 0 := hS1.1; clear hS1))
      | (go_at_call 9; ((with_reducible refine (alive_any _).mono ?_); rintro e wz ⟨rfl, hbz⟩; have BZ := bel_trans (a := w) (by assumption) hbz)))
    go_ret
    exact ⟨rfl, BZ⟩
  cases hopp : opp (cl (res X Y v))
  rotate_left
  · obtain ⟨x1, x2⟩ := rs_same hcan hopp
    rw [x1, x2] at c1
    clear h h' hV hcan hopp x1 x2
    go_enter Try.func6, Try.ntmps6
    go_wp2_with (first
      | (go_at_call 27; ((with_reducible refine c1.mono ?_); rintro e w1 ⟨A1, q1, k1, rfl, hS1, hq1, hb1⟩; have B1 := hb1; obtain rfl : q1 = 0 := hS1.1; clear hS1))
      | (go_at_call 9; ((with_reducible refine (alive_any _).mono ?_); rintro e wz ⟨rfl, hbz⟩; have BZ := bel_trans (a := w) (by assumption) hbz)))
    go_ret
    exact ⟨rfl, BZ⟩
  obtain ⟨x1, x2⟩ := rs_yes hcan hopp
  rw [x1, x2] at c1
  have hv : R64 v := ⟨hv0, by omega⟩
  have hcx : hasL X v = true := (Bool.and_eq_true_iff.1 hcan).1
  have E1 := Lib.hid (fun W A1 q1 k1 (s : SlI W A1 q1 k1 (cl (res X Y v))) (hq : q1 ≤ 1000000) (hb : Below w.heap.size w W) => Has_any A1 q1 k1 (cl (res X Y v)) v W s (by omega))
  have E3 := Lib.hid (fun W A1 q1 k1 (s : SlI W A1 q1 k1 (cl (res X Y v))) (hq : q1 ≤ 1000000) (hb : Below w.heap.size w W) => by
    have := Has_any A1 q1 k1 (cl (res X Y v)) (ng v) W s (by omega)
    rwa [show (Value.int IntKind.i64 (ng v)) = .int .i64 (wrap64 (-v)) by rw [ng64]] at this)
  have E2 := Lib.hid (fun W (hb : Below w.heap.size w W) => Has_any A' n' c' Y v W (h'.1.below hb) hn')
  have E4 := Lib.hid (fun W (hb : Below w.heap.size w W) => by
    have := Has_any A n c X (ng v) W (h.1.below hb) hn
    rwa [show (Value.int IntKind.i64 (ng v)) = .int .i64 (wrap64 (-v)) by rw [ng64]] at this)
  have CA := Lib.hid (fun x W (hb : Below w.heap.size w W) => Has_any A n c X x W (h.1.below hb) hn)
  have CB := Lib.hid (fun x W (hb : Below w.heap.size w W) => Has_any A' n' c' Y x W (h'.1.below hb) hn')
  have HX := Lib.hid (fun x (hx : x ∈ cl (res X Y v)) => sound3 hx)
  have P1 := Lib.hid (fun W (hb : Below w.heap.size w W) => Holds_any A n c X a m d V W (h.1.below hb) h.2 (hV.below hb) hn hm)
  have P2 := Lib.hid (fun W (hb : Below w.heap.size w W) => Holds_any A' n' c' Y a m d V W (h'.1.below hb) h'.2 (hV.below hb) hn' hm)
  have P3 := Lib.hid (fun W A1 q1 k1 (s : SlI W A1 q1 k1 (cl (res X Y v))) (hq : q1 ≤ 1000000) (hb : Below w.heap.size w W) => Holds_any A1 q1 k1 (cl (res X Y v)) a m d V W s (cl_r (res_r h.2 h'.2)) (hV.below hb) (by omega) hm)
  have HP := Lib.hid (res_sound X Y v V hv hcx)
  have H12 := Lib.hid (sound1 (X := X) (Y := Y) hv)
  have H34 := Lib.hid (sound2 (X := X) (Y := Y) (v := v))
  clear h h' hV hcan hopp x1 x2 hcx hv
  generalize hasL (cl (res X Y v)) v = h1 at *
  generalize hasL (cl (res X Y v)) (ng v) = h3 at *
  generalize hg2 : hasL Y v = h2 at E2 H12
  generalize hg4 : hasL X (ng v) = h4 at E4 H34
  clear hg2 hg4
  cases h1
  · cases h3
    · clear H12 H34
      go_enter Try.func6, Try.ntmps6
      go_wp2_with (first
        | (go_at_call 27; ((with_reducible refine c1.mono ?_); rintro e w1 ⟨A1, q1, k1, rfl, hS1, hq1, hb1⟩; have B1 := hb1; have e1 := E1.out w1 A1 q1 k1 hS1 (by omega) B1; have e3 := E3.out w1 A1 q1 k1 hS1 (by omega) B1; have S1 := Lib.hid hS1; have Hq1 := Lib.hid hq1; clear hS1))
        | (go_at_call 19; ((with_reducible refine e1.mono ?_); rintro e w2 ⟨rfl, rfl⟩; clear e1))
        | (go_at_call 19; ((with_reducible refine (E2.out _ B1).mono ?_); rintro e w3 ⟨rfl, rfl⟩; clear E2))
        | (go_at_call 19; ((with_reducible refine e3.mono ?_); rintro e w4 ⟨rfl, rfl⟩; clear e3))
        | (go_at_call 19; ((with_reducible refine (E4.out _ B1).mono ?_); rintro e w5 ⟨rfl, rfl⟩; clear E4)))
      generalize hws : w1 = wS at *
      go_loopw [66] (fun i wr0 => ∃ (wr : World) (k : Nat), wr = wr0 ∧ k ≤ q1 ∧ i = .int .i64 k ∧ Hid (wS = wr)) (fun i _ => q1 - (intOf i).toNat)
      case atStart => exact ⟨_, 0, rfl, by omega, rfl, Lib.hid rfl⟩
      case round =>
        obtain ⟨wr, k, rfl, hk, rfl, HW⟩ := hrel
        have Bq : Below w.heap.size w wr := by rw [← HW.out]; exact B1
        by_cases hlt : k < q1
        · obtain ⟨g, o, x, rfl, hg, z0, hx⟩ := SlI.at S1.out hlt
          have y0 : wr.cell? ⟨g, o + k, none⟩ = some (.int .i64 x) := by rw [← HW.out]; exact z0
          have ca := CA.out x wr Bq
          have cb := CB.out x wr Bq
          have hab := Lib.hid (HX.out x (List.mem_of_getElem? hx))
          have hk0 : 0 ≤ (k : Int) := by omega
          have hk1 : (k : Int) < (q1 : Int) := by omega
          clear z0 hx
          cases hxa : hasL X x
          · rw [hxa] at ca
            rw [hab.out hxa] at cb
            clear hab hxa
            go_wp2_with (first | (go_at_call 19; ((with_reducible refine ca.mono ?_); rintro e w6 ⟨rfl, rfl⟩; skip)) | (go_at_call 19; ((with_reducible refine cb.mono ?_); rintro e w7 ⟨rfl, rfl⟩; skip)))
            go_roundw
            case rel => exact ⟨_, k + 1, rfl, by omega, by go_num, HW⟩
            case measure => simp [intOf]; omega
          · rw [hxa] at ca
            clear hab hxa
            go_wp2_with (first | (go_at_call 19; ((with_reducible refine ca.mono ?_); rintro e w6 ⟨rfl, rfl⟩; skip)) | (go_at_call 19; ((with_reducible refine cb.mono ?_); rintro e w7 ⟨rfl, rfl⟩; skip)))
            go_roundw
            case rel => exact ⟨_, k + 1, rfl, by omega, by go_num, HW⟩
            case measure => simp [intOf]; omega
        · obtain rfl : k = q1 := by omega
          obtain ⟨S1⟩ : ∃ _ : Hid (SlI wr A1 k k1 (cl (res X Y v))), True := ⟨Lib.hid (by rw [← HW.out]; exact S1.out), trivial⟩
          generalize hld X V = p1 at *
          generalize hld Y V = p2 at *
          generalize hld (cl (res X Y v)) V = p3 at *
          cases p1
          · go_wp2_with (first | (go_at_call 21; ((with_reducible refine (P1.out _ Bq).mono ?_); rintro e w8 ⟨rfl, hb8⟩; have B8 := bel_trans Bq hb8; clear P1)) | (go_at_call 9; ((with_reducible refine (alive_any _).mono ?_); rintro e wz ⟨rfl, hbz⟩; have BZ := bel_trans (a := w) (by assumption) hbz)))
            go_ret
            exact ⟨by simp, BZ⟩
          · cases p2
            · go_wp2_with (first | (go_at_call 21; ((with_reducible refine (P1.out _ Bq).mono ?_); rintro e w8 ⟨rfl, hb8⟩; have B8 := bel_trans Bq hb8; clear P1)) | (go_at_call 21; ((with_reducible refine (P2.out _ B8).mono ?_); rintro e w9 ⟨rfl, hb9⟩; have B9 := bel_trans B8 hb9; have S9 := (S1.out.below hb8).below hb9; clear P2)) | (go_at_call 9; ((with_reducible refine (alive_any _).mono ?_); rintro e wz ⟨rfl, hbz⟩; have BZ := bel_trans (a := w) (by assumption) hbz)))
              go_ret
              exact ⟨by simp, BZ⟩
            · obtain rfl := HP.out rfl rfl
              go_wp2_with (first | (go_at_call 21; ((with_reducible refine (P1.out _ Bq).mono ?_); rintro e w8 ⟨rfl, hb8⟩; have B8 := bel_trans Bq hb8; clear P1)) | (go_at_call 21; ((with_reducible refine (P2.out _ B8).mono ?_); rintro e w9 ⟨rfl, hb9⟩; have B9 := bel_trans B8 hb9; have S9 := (S1.out.below hb8).below hb9; clear P2)) | (go_at_call 21; ((with_reducible refine (P3.out _ A1 k k1 S9 (by have := Hq1.out; omega) B9).mono ?_); rintro e w10 ⟨rfl, hb10⟩; have B10 := bel_trans B9 hb10; clear P3)) | (go_at_call 9; ((with_reducible refine (alive_any _).mono ?_); rintro e wz ⟨rfl, hbz⟩; have BZ := bel_trans (a := w) (by assumption) hbz)))
              go_ret
              exact ⟨by simp, BZ⟩
    · obtain rfl := H34.out rfl
      clear H12 H34
      go_enter Try.func6, Try.ntmps6
      go_wp2_with (first
        | (go_at_call 27; ((with_reducible refine c1.mono ?_); rintro e w1 ⟨A1, q1, k1, rfl, hS1, hq1, hb1⟩; have B1 := hb1; have e1 := E1.out w1 A1 q1 k1 hS1 (by omega) B1; have e3 := E3.out w1 A1 q1 k1 hS1 (by omega) B1; have S1 := Lib.hid hS1; have Hq1 := Lib.hid hq1; clear hS1))
        | (go_at_call 19; ((with_reducible refine e1.mono ?_); rintro e w2 ⟨rfl, rfl⟩; clear e1))
        | (go_at_call 19; ((with_reducible refine (E2.out _ B1).mono ?_); rintro e w3 ⟨rfl, rfl⟩; clear E2))
        | (go_at_call 19; ((with_reducible refine e3.mono ?_); rintro e w4 ⟨rfl, rfl⟩; clear e3))
        | (go_at_call 19; ((with_reducible refine (E4.out _ B1).mono ?_); rintro e w5 ⟨rfl, rfl⟩; clear E4)))
      generalize hws : w1 = wS at *
      go_loopw [66] (fun i wr0 => ∃ (wr : World) (k : Nat), wr = wr0 ∧ k ≤ q1 ∧ i = .int .i64 k ∧ Hid (wS = wr)) (fun i _ => q1 - (intOf i).toNat)
      case atStart => exact ⟨_, 0, rfl, by omega, rfl, Lib.hid rfl⟩
      case round =>
        obtain ⟨wr, k, rfl, hk, rfl, HW⟩ := hrel
        have Bq : Below w.heap.size w wr := by rw [← HW.out]; exact B1
        by_cases hlt : k < q1
        · obtain ⟨g, o, x, rfl, hg, z0, hx⟩ := SlI.at S1.out hlt
          have y0 : wr.cell? ⟨g, o + k, none⟩ = some (.int .i64 x) := by rw [← HW.out]; exact z0
          have ca := CA.out x wr Bq
          have cb := CB.out x wr Bq
          have hab := Lib.hid (HX.out x (List.mem_of_getElem? hx))
          have hk0 : 0 ≤ (k : Int) := by omega
          have hk1 : (k : Int) < (q1 : Int) := by omega
          clear z0 hx
          cases hxa : hasL X x
          · rw [hxa] at ca
            rw [hab.out hxa] at cb
            clear hab hxa
            go_wp2_with (first | (go_at_call 19; ((with_reducible refine ca.mono ?_); rintro e w6 ⟨rfl, rfl⟩; skip)) | (go_at_call 19; ((with_reducible refine cb.mono ?_); rintro e w7 ⟨rfl, rfl⟩; skip)))
            go_roundw
            case rel => exact ⟨_, k + 1, rfl, by omega, by go_num, HW⟩
            case measure => simp [intOf]; omega
          · rw [hxa] at ca
            clear hab hxa
            go_wp2_with (first | (go_at_call 19; ((with_reducible refine ca.mono ?_); rintro e w6 ⟨rfl, rfl⟩; skip)) | (go_at_call 19; ((with_reducible refine cb.mono ?_); rintro e w7 ⟨rfl, rfl⟩; skip)))
            go_roundw
            case rel => exact ⟨_, k + 1, rfl, by omega, by go_num, HW⟩
            case measure => simp [intOf]; omega
        · obtain rfl : k = q1 := by omega
          obtain ⟨S1⟩ : ∃ _ : Hid (SlI wr A1 k k1 (cl (res X Y v))), True := ⟨Lib.hid (by rw [← HW.out]; exact S1.out), trivial⟩
          generalize hld X V = p1 at *
          generalize hld Y V = p2 at *
          generalize hld (cl (res X Y v)) V = p3 at *
          cases p1
          · go_wp2_with (first | (go_at_call 21; ((with_reducible refine (P1.out _ Bq).mono ?_); rintro e w8 ⟨rfl, hb8⟩; have B8 := bel_trans Bq hb8; clear P1)) | (go_at_call 9; ((with_reducible refine (alive_any _).mono ?_); rintro e wz ⟨rfl, hbz⟩; have BZ := bel_trans (a := w) (by assumption) hbz)))
            go_ret
            exact ⟨by simp, BZ⟩
          · cases p2
            · go_wp2_with (first | (go_at_call 21; ((with_reducible refine (P1.out _ Bq).mono ?_); rintro e w8 ⟨rfl, hb8⟩; have B8 := bel_trans Bq hb8; clear P1)) | (go_at_call 21; ((with_reducible refine (P2.out _ B8).mono ?_); rintro e w9 ⟨rfl, hb9⟩; have B9 := bel_trans B8 hb9; have S9 := (S1.out.below hb8).below hb9; clear P2)) | (go_at_call 9; ((with_reducible refine (alive_any _).mono ?_); rintro e wz ⟨rfl, hbz⟩; have BZ := bel_trans (a := w) (by assumption) hbz)))
              go_ret
              exact ⟨by simp, BZ⟩
            · obtain rfl := HP.out rfl rfl
              go_wp2_with (first | (go_at_call 21; ((with_reducible refine (P1.out _ Bq).mono ?_); rintro e w8 ⟨rfl, hb8⟩; have B8 := bel_trans Bq hb8; clear P1)) | (go_at_call 21; ((with_reducible refine (P2.out _ B8).mono ?_); rintro e w9 ⟨rfl, hb9⟩; have B9 := bel_trans B8 hb9; have S9 := (S1.out.below hb8).below hb9; clear P2)) | (go_at_call 21; ((with_reducible refine (P3.out _ A1 k k1 S9 (by have := Hq1.out; omega) B9).mono ?_); rintro e w10 ⟨rfl, hb10⟩; have B10 := bel_trans B9 hb10; clear P3)) | (go_at_call 9; ((with_reducible refine (alive_any _).mono ?_); rintro e wz ⟨rfl, hbz⟩; have BZ := bel_trans (a := w) (by assumption) hbz)))
              go_ret
              exact ⟨by simp, BZ⟩
  · obtain rfl := H12.out rfl
    cases h3
    · clear H12 H34
      go_enter Try.func6, Try.ntmps6
      go_wp2_with (first
        | (go_at_call 27; ((with_reducible refine c1.mono ?_); rintro e w1 ⟨A1, q1, k1, rfl, hS1, hq1, hb1⟩; have B1 := hb1; have e1 := E1.out w1 A1 q1 k1 hS1 (by omega) B1; have e3 := E3.out w1 A1 q1 k1 hS1 (by omega) B1; have S1 := Lib.hid hS1; have Hq1 := Lib.hid hq1; clear hS1))
        | (go_at_call 19; ((with_reducible refine e1.mono ?_); rintro e w2 ⟨rfl, rfl⟩; clear e1))
        | (go_at_call 19; ((with_reducible refine (E2.out _ B1).mono ?_); rintro e w3 ⟨rfl, rfl⟩; clear E2))
        | (go_at_call 19; ((with_reducible refine e3.mono ?_); rintro e w4 ⟨rfl, rfl⟩; clear e3))
        | (go_at_call 19; ((with_reducible refine (E4.out _ B1).mono ?_); rintro e w5 ⟨rfl, rfl⟩; clear E4)))
      generalize hws : w1 = wS at *
      go_loopw [66] (fun i wr0 => ∃ (wr : World) (k : Nat), wr = wr0 ∧ k ≤ q1 ∧ i = .int .i64 k ∧ Hid (wS = wr)) (fun i _ => q1 - (intOf i).toNat)
      case atStart => exact ⟨_, 0, rfl, by omega, rfl, Lib.hid rfl⟩
      case round =>
        obtain ⟨wr, k, rfl, hk, rfl, HW⟩ := hrel
        have Bq : Below w.heap.size w wr := by rw [← HW.out]; exact B1
        by_cases hlt : k < q1
        · obtain ⟨g, o, x, rfl, hg, z0, hx⟩ := SlI.at S1.out hlt
          have y0 : wr.cell? ⟨g, o + k, none⟩ = some (.int .i64 x) := by rw [← HW.out]; exact z0
          have ca := CA.out x wr Bq
          have cb := CB.out x wr Bq
          have hab := Lib.hid (HX.out x (List.mem_of_getElem? hx))
          have hk0 : 0 ≤ (k : Int) := by omega
          have hk1 : (k : Int) < (q1 : Int) := by omega
          clear z0 hx
          cases hxa : hasL X x
          · rw [hxa] at ca
            rw [hab.out hxa] at cb
            clear hab hxa
            go_wp2_with (first | (go_at_call 19; ((with_reducible refine ca.mono ?_); rintro e w6 ⟨rfl, rfl⟩; skip)) | (go_at_call 19; ((with_reducible refine cb.mono ?_); rintro e w7 ⟨rfl, rfl⟩; skip)))
            go_roundw
            case rel => exact ⟨_, k + 1, rfl, by omega, by go_num, HW⟩
            case measure => simp [intOf]; omega
          · rw [hxa] at ca
            clear hab hxa
            go_wp2_with (first | (go_at_call 19; ((with_reducible refine ca.mono ?_); rintro e w6 ⟨rfl, rfl⟩; skip)) | (go_at_call 19; ((with_reducible refine cb.mono ?_); rintro e w7 ⟨rfl, rfl⟩; skip)))
            go_roundw
            case rel => exact ⟨_, k + 1, rfl, by omega, by go_num, HW⟩
            case measure => simp [intOf]; omega
        · obtain rfl : k = q1 := by omega
          obtain ⟨S1⟩ : ∃ _ : Hid (SlI wr A1 k k1 (cl (res X Y v))), True := ⟨Lib.hid (by rw [← HW.out]; exact S1.out), trivial⟩
          generalize hld X V = p1 at *
          generalize hld Y V = p2 at *
          generalize hld (cl (res X Y v)) V = p3 at *
          cases p1
          · go_wp2_with (first | (go_at_call 21; ((with_reducible refine (P1.out _ Bq).mono ?_); rintro e w8 ⟨rfl, hb8⟩; have B8 := bel_trans Bq hb8; clear P1)) | (go_at_call 9; ((with_reducible refine (alive_any _).mono ?_); rintro e wz ⟨rfl, hbz⟩; have BZ := bel_trans (a := w) (by assumption) hbz)))
            go_ret
            exact ⟨by simp, BZ⟩
          · cases p2
            · go_wp2_with (first | (go_at_call 21; ((with_reducible refine (P1.out _ Bq).mono ?_); rintro e w8 ⟨rfl, hb8⟩; have B8 := bel_trans Bq hb8; clear P1)) | (go_at_call 21; ((with_reducible refine (P2.out _ B8).mono ?_); rintro e w9 ⟨rfl, hb9⟩; have B9 := bel_trans B8 hb9; have S9 := (S1.out.below hb8).below hb9; clear P2)) | (go_at_call 9; ((with_reducible refine (alive_any _).mono ?_); rintro e wz ⟨rfl, hbz⟩; have BZ := bel_trans (a := w) (by assumption) hbz)))
              go_ret
              exact ⟨by simp, BZ⟩
            · obtain rfl := HP.out rfl rfl
              go_wp2_with (first | (go_at_call 21; ((with_reducible refine (P1.out _ Bq).mono ?_); rintro e w8 ⟨rfl, hb8⟩; have B8 := bel_trans Bq hb8; clear P1)) | (go_at_call 21; ((with_reducible refine (P2.out _ B8).mono ?_); rintro e w9 ⟨rfl, hb9⟩; have B9 := bel_trans B8 hb9; have S9 := (S1.out.below hb8).below hb9; clear P2)) | (go_at_call 21; ((with_reducible refine (P3.out _ A1 k k1 S9 (by have := Hq1.out; omega) B9).mono ?_); rintro e w10 ⟨rfl, hb10⟩; have B10 := bel_trans B9 hb10; clear P3)) | (go_at_call 9; ((with_reducible refine (alive_any _).mono ?_); rintro e wz ⟨rfl, hbz⟩; have BZ := bel_trans (a := w) (by assumption) hbz)))
              go_ret
              exact ⟨by simp, BZ⟩
    · obtain rfl := H34.out rfl
      clear H12 H34
      go_enter Try.func6, Try.ntmps6
      go_wp2_with (first
        | (go_at_call 27; ((with_reducible refine c1.mono ?_); rintro e w1 ⟨A1, q1, k1, rfl, hS1, hq1, hb1⟩; have B1 := hb1; have e1 := E1.out w1 A1 q1 k1 hS1 (by omega) B1; have e3 := E3.out w1 A1 q1 k1 hS1 (by omega) B1; have S1 := Lib.hid hS1; have Hq1 := Lib.hid hq1; clear hS1))
        | (go_at_call 19; ((with_reducible refine e1.mono ?_); rintro e w2 ⟨rfl, rfl⟩; clear e1))
        | (go_at_call 19; ((with_reducible refine (E2.out _ B1).mono ?_); rintro e w3 ⟨rfl, rfl⟩; clear E2))
        | (go_at_call 19; ((with_reducible refine e3.mono ?_); rintro e w4 ⟨rfl, rfl⟩; clear e3))
        | (go_at_call 19; ((with_reducible refine (E4.out _ B1).mono ?_); rintro e w5 ⟨rfl, rfl⟩; clear E4)))
      generalize hws : w1 = wS at *
      go_loopw [66] (fun i wr0 => ∃ (wr : World) (k : Nat), wr = wr0 ∧ k ≤ q1 ∧ i = .int .i64 k ∧ Hid (wS = wr)) (fun i _ => q1 - (intOf i).toNat)
      case atStart => exact ⟨_, 0, rfl, by omega, rfl, Lib.hid rfl⟩
      case round =>
        obtain ⟨wr, k, rfl, hk, rfl, HW⟩ := hrel
        have Bq : Below w.heap.size w wr := by rw [← HW.out]; exact B1
        by_cases hlt : k < q1
        · obtain ⟨g, o, x, rfl, hg, z0, hx⟩ := SlI.at S1.out hlt
          have y0 : wr.cell? ⟨g, o + k, none⟩ = some (.int .i64 x) := by rw [← HW.out]; exact z0
          have ca := CA.out x wr Bq
          have cb := CB.out x wr Bq
          have hab := Lib.hid (HX.out x (List.mem_of_getElem? hx))
          have hk0 : 0 ≤ (k : Int) := by omega
          have hk1 : (k : Int) < (q1 : Int) := by omega
          clear z0 hx
          cases hxa : hasL X x
          · rw [hxa] at ca
            rw [hab.out hxa] at cb
            clear hab hxa
            go_wp2_with (first | (go_at_call 19; ((with_reducible refine ca.mono ?_); rintro e w6 ⟨rfl, rfl⟩; skip)) | (go_at_call 19; ((with_reducible refine cb.mono ?_); rintro e w7 ⟨rfl, rfl⟩; skip)))
            go_roundw
            case rel => exact ⟨_, k + 1, rfl, by omega, by go_num, HW⟩
            case measure => simp [intOf]; omega
          · rw [hxa] at ca
            clear hab hxa
            go_wp2_with (first | (go_at_call 19; ((with_reducible refine ca.mono ?_); rintro e w6 ⟨rfl, rfl⟩; skip)) | (go_at_call 19; ((with_reducible refine cb.mono ?_); rintro e w7 ⟨rfl, rfl⟩; skip)))
            go_roundw
            case rel => exact ⟨_, k + 1, rfl, by omega, by go_num, HW⟩
            case measure => simp [intOf]; omega
        · obtain rfl : k = q1 := by omega
          obtain ⟨S1⟩ : ∃ _ : Hid (SlI wr A1 k k1 (cl (res X Y v))), True := ⟨Lib.hid (by rw [← HW.out]; exact S1.out), trivial⟩
          generalize hld X V = p1 at *
          generalize hld Y V = p2 at *
          generalize hld (cl (res X Y v)) V = p3 at *
          cases p1
          · go_wp2_with (first | (go_at_call 21; ((with_reducible refine (P1.out _ Bq).mono ?_); rintro e w8 ⟨rfl, hb8⟩; have B8 := bel_trans Bq hb8; clear P1)) | (go_at_call 9; ((with_reducible refine (alive_any _).mono ?_); rintro e wz ⟨rfl, hbz⟩; have BZ := bel_trans (a := w) (by assumption) hbz)))
            go_ret
            exact ⟨by simp, BZ⟩
          · cases p2
            · go_wp2_with (first | (go_at_call 21; ((with_reducible refine (P1.out _ Bq).mono ?_); rintro e w8 ⟨rfl, hb8⟩; have B8 := bel_trans Bq hb8; clear P1)) | (go_at_call 21; ((with_reducible refine (P2.out _ B8).mono ?_); rintro e w9 ⟨rfl, hb9⟩; have B9 := bel_trans B8 hb9; have S9 := (S1.out.below hb8).below hb9; clear P2)) | (go_at_call 9; ((with_reducible refine (alive_any _).mono ?_); rintro e wz ⟨rfl, hbz⟩; have BZ := bel_trans (a := w) (by assumption) hbz)))
              go_ret
              exact ⟨by simp, BZ⟩
            · obtain rfl := HP.out rfl rfl
              go_wp2_with (first | (go_at_call 21; ((with_reducible refine (P1.out _ Bq).mono ?_); rintro e w8 ⟨rfl, hb8⟩; have B8 := bel_trans Bq hb8; clear P1)) | (go_at_call 21; ((with_reducible refine (P2.out _ B8).mono ?_); rintro e w9 ⟨rfl, hb9⟩; have B9 := bel_trans B8 hb9; have S9 := (S1.out.below hb8).below hb9; clear P2)) | (go_at_call 21; ((with_reducible refine (P3.out _ A1 k k1 S9 (by have := Hq1.out; omega) B9).mono ?_); rintro e w10 ⟨rfl, hb10⟩; have B10 := bel_trans B9 hb10; clear P3)) | (go_at_call 9; ((with_reducible refine (alive_any _).mono ?_); rintro e wz ⟨rfl, hbz⟩; have BZ := bel_trans (a := w) (by assumption) hbz)))
              go_ret
              exact ⟨by simp, BZ⟩
end Go.Proofs.Ytmamecchphockaa.Lt
