/-
  What is proved: the first error of one part of a claim, as package claim tells it.
-/
import Derived.Test.YtcigeclnbhcohaaGreatDoorBX
import Derived.Test.YtcigeclnbhcohaaGreatDoorZRgtQ
namespace Go.Proofs.YtcigeclnbhcohaaGreatDoor.Cs
open Go.RowKit L T C
set_option linter.unusedVariables false
set_option linter.unusedSimpArgs false

def peC (o : Int) (s z : ByteArray) (ts : List Tm) (ns : Nat) : Int := if formC o s z = true then 7 else if arityC o ts.length ns = true then 12 else rightsE ts
theorem rightsE_step {x : Tm} {l : List Tm} {k : Nat} (h : l[k]? = some x) : rightsE (l.drop k) = if rightE x ≠ 0 then rightE x else rightsE (l.drop (k + 1)) := by rw [drop_t h, rightsE]
theorem formC_eq (o : Int) (s z : ByteArray) : formC o s z = ((decide (o < 1) || decide (12 < o)) || (((!(o == 11 || o == 12) && o != 3) && !s.toList.isEmpty) || (!(o == 11 || o == 12) && !z.toList.isEmpty))) := by
  unfold formC
  cases h1 : o == 11 <;> cases h2 : o == 12 <;> simp [bne, h1, h2]
set_option maxRecDepth 100000 in
set_option maxHeartbeats 16000000 in
theorem partErrorC_any (op : Int) (nm so : ByteArray) (ks : SS) (a : Option Addr) (n c : Nat) (ts : List Tm) (w : World) (hsz : ∀ x ∈ ts, size x ≤ 4096) (hT : TsW w ks.a ks.n ks.c ts) (hn : n ≤ 9223372036854775807) :
    Calls Tryz.prog 69 #[.agg #[.int .i64 op, .string nm, .string so, .slice ks.a ks.n ks.c, .slice a n c]] w fun e w' => e = .returned (.int .i64 (peC op nm so ts n)) ∧ Below w.heap.size w w' := by
  obtain ⟨W2, hW2, hB2, hs2, S2⟩ := cbox1 w op nm so ks a n c
  obtain ⟨s0, s1, s2, s3, s4⟩ := S2.five
  have HS := Lib.hid S2
  have hT2 := TsW.b hT hB2
  have hkn : ks.n ≤ 9223372036854775807 := by have h1 := hT.2.1; have h2 := hT.2.2.1; unfold maxLen at h2; omega
  have hR : peC op nm so ts n = if formC op nm so = true then 7 else if arityC op ks.n n = true then 12 else rightsE (ts.drop 0) := by unfold peC; rw [← hT.1]; rfl
  rw [formC_eq] at hR
  have hst : ∀ k x, ts[k]? = some x → rightsE (ts.drop k) = if rightE x ≠ 0 then rightE x else rightsE (ts.drop (k + 1)) := fun k x h => rightsE_step h
  have he : ∀ k, ks.n ≤ k → rightsE (ts.drop k) = 0 := fun k h => by rw [List.drop_eq_nil_of_le (by rw [← hT.1]; exact h), rightsE]
  obtain ⟨F, hF⟩ : ∃ F : Nat → Int, ∀ k, rightsE (ts.drop k) = F k := ⟨_, fun _ => rfl⟩
  simp only [hF] at hst he hR
  have cB := fun (w' : World) => bindsC_any op nm so ks a n c w'
  have cK := fun (w' : World) => takesC_any op ks.n n w'
  have HT := Lib.hid hT2
  have Hst := Lib.hid hst
  have He := Lib.hid he
  have HZ := Lib.hid (show ∀ k x, ts[k]? = some x → size x ≤ 4096 from fun k x h => hsz x (List.mem_of_getElem? h))
  clear S2 hs2 hT hT2 hst he hF hsz
  generalize peC op nm so ts n = R at *
  generalize arityC op ks.n n = ar at *
  generalize hbi : (op == 11 || op == 12) = bi at *
  obtain ⟨KA, kn, kc⟩ := ks
  dsimp only at *
  clear hbi
  by_cases hlt : op < 1
  · have q0 : decide (op < 1) = true := decide_eq_true hlt
    rw [q0] at hR
    have h7 : Hid ((7 : Int) = R) := Lib.hid (by rw [hR]; rfl)
    clear hR cB cK hlt
    go_enter Tryz.func69, Tryz.ntmps69
    go_wp2
    go_ret
    exact ⟨one h7.out, hB2⟩
  · by_cases hgt : 12 < op
    · have q0 : decide (op < 1) = false := decide_eq_false hlt
      have q1 : decide (12 < op) = true := decide_eq_true hgt
      have q1' : decide (op > 12) = true := q1
      rw [q0, q1] at hR
      have h7 : Hid ((7 : Int) = R) := Lib.hid (by rw [hR]; rfl)
      clear hR cB cK hlt q1
      go_enter Tryz.func69, Tryz.ntmps69
      go_wp2
      go_ret
      exact ⟨one h7.out, hB2⟩
    · have q0 : decide (op < 1) = false := decide_eq_false hlt
      have q1 : decide (12 < op) = false := decide_eq_false hgt
      have q1' : decide (op > 12) = false := q1
      rw [q0, q1] at hR
      clear hlt hgt q1
      have hne : (nm.toList.isEmpty = true ∨ nm.toList.isEmpty = false) := by cases nm.toList.isEmpty <;> simp
      cases hq3 : op != 3 <;> cases bi <;> cases hen : nm.toList.isEmpty <;> cases hes : so.toList.isEmpty
      · rw [hq3, hen, hes] at hR
        have h7 : Hid ((7 : Int) = R) := Lib.hid (by rw [hR]; rfl)
        clear hR cK hne
        go_enter Tryz.func69, Tryz.ntmps69
        go_wp2_with (go_at_call 97; ((with_reducible refine (cB _).mono ?_); rintro e w3 ⟨rfl, hb3⟩))
        go_ret
        exact ⟨one h7.out, (by first | exact bel_trans hB2 Bz | exact bel_trans hB2 hb3 | exact hB2)⟩
      · rw [hq3, hen, hes] at hR
        cases ar with
        | true =>
          have h12 : Hid ((12 : Int) = R) := Lib.hid (by rw [hR]; rfl)
          clear hR hne
          go_enter Tryz.func69, Tryz.ntmps69
          go_wp2_with (first
            | (go_at_call 97; ((with_reducible refine (cB _).mono ?_); rintro e w3 ⟨rfl, hb3⟩; have Bz := bel_trans (a := W2) (by first | assumption | exact Below.refl _ _) hb3; obtain ⟨s0, s1, s2, s3, s4⟩ := (CBox.b HS.out Bz).five))
            | (go_at_call 98; ((with_reducible refine (cK _).mono ?_); rintro e w4 ⟨rfl, rfl⟩)))
          go_ret
          exact ⟨one h12.out, (by first | exact bel_trans hB2 Bz | exact bel_trans hB2 hb3 | exact hB2)⟩
        | false =>
          have hF0 : Hid (F 0 = R) := Lib.hid (by rw [hR]; rfl)
          clear hR hne
          go_enter Tryz.func69, Tryz.ntmps69
          go_wp2_with (first
            | (go_at_call 97; ((with_reducible refine (cB _).mono ?_); rintro e w3 ⟨rfl, hb3⟩; have Bz := bel_trans (a := W2) (by first | assumption | exact Below.refl _ _) hb3; obtain ⟨s0, s1, s2, s3, s4⟩ := (CBox.b HS.out Bz).five))
            | (go_at_call 98; ((with_reducible refine (cK _).mono ?_); rintro e w4 ⟨rfl, rfl⟩)))
          go_loopw [50] (fun i wr0 => ∃ (wr : World) (k : Nat), wr = wr0 ∧ k ≤ kn ∧ i = .int .i64 k ∧ Below W2.heap.size W2 wr ∧ Hid (F k = R)) (fun i _ => kn - (intOf i).toNat)
          case atStart => exact ⟨_, 0, rfl, by omega, rfl, (by first | exact Bz | exact Below.refl _ _), hF0⟩
          case round =>
            obtain ⟨wr, k, rfl, hk, rfl, hB, hH⟩ := hrel
            by_cases hlt : k < kn
            · obtain ⟨bb, o, x, A, M, Cc, rfl, hb, y0, y1, y2, y3, hx, hok⟩ := HT.out.at hlt
              have t0 := (hB.cell (p := ⟨bb, _, none⟩) hb).trans y0
              have t1 := (hB.cell (p := ⟨bb, _, none⟩) hb).trans y1
              have t2 := (hB.cell (p := ⟨bb, _, none⟩) hb).trans y2
              have t3 := (hB.cell (p := ⟨bb, _, none⟩) hb).trans y3
              obtain ⟨W4, hW4, hB4, hs4, S4⟩ := box1 wr (opT x) (nameT x) (numT x) A M Cc
              have cR := tRight_few x A M Cc W4 (HZ.out k x hx) (ArW.b (ArW.b hok hB) hB4)
              obtain ⟨f0, f1, f2, f3⟩ := S4.four
              have hs1 := Hst.out k x hx
              clear y0 y1 y2 y3 hx hok S4 hs4
              generalize rightE x = r at *
              generalize opT x = op' at *
              generalize nameT x = nm' at *
              generalize numT x = nu' at *
              have hk0 : 0 ≤ (k : Int) := by omega
              have hk1 : (k : Int) < (kn : Int) := by omega
              by_cases hr : r = 0
              · have p1 : (r != 0) = false := by rw [hr]; rfl
                have hnew : Hid (F (k + 1) = R) := Lib.hid (by rw [← hH.out, hs1, if_neg (by simp [hr])])
                clear hr hs1 hH
                go_wp2_with (go_at_call 32; ((with_reducible refine cR.mono ?_); rintro e w8 ⟨rfl, hb8⟩))
                go_roundw
                case rel => exact ⟨_, k + 1, rfl, by omega, by go_num, bel_trans (bel_trans hB hB4) hb8, hnew⟩
                case measure => simp [intOf]; omega
              · have p1 : (r != 0) = true := bne_iff_ne.2 hr
                have hnew : Hid (r = R) := Lib.hid (by rw [← hH.out, hs1, if_pos hr])
                clear hr hs1 hH
                go_wp2_with (go_at_call 32; ((with_reducible refine cR.mono ?_); rintro e w8 ⟨rfl, hb8⟩))
                go_ret
                exact ⟨one hnew.out, bel_trans hB2 (bel_trans (bel_trans hB hB4) hb8)⟩
            · have hnew : Hid ((0 : Int) = R) := Lib.hid (by rw [← hH.out, He.out k (by omega)])
              clear hH
              go_wp2
              go_ret
              exact ⟨one hnew.out, bel_trans hB2 hB⟩
      · rw [hq3, hen, hes] at hR
        have h7 : Hid ((7 : Int) = R) := Lib.hid (by rw [hR]; rfl)
        clear hR cK hne
        go_enter Tryz.func69, Tryz.ntmps69
        go_wp2_with (go_at_call 97; ((with_reducible refine (cB _).mono ?_); rintro e w3 ⟨rfl, hb3⟩))
        go_ret
        exact ⟨one h7.out, (by first | exact bel_trans hB2 Bz | exact bel_trans hB2 hb3 | exact hB2)⟩
      · rw [hq3, hen, hes] at hR
        cases ar with
        | true =>
          have h12 : Hid ((12 : Int) = R) := Lib.hid (by rw [hR]; rfl)
          clear hR hne
          go_enter Tryz.func69, Tryz.ntmps69
          go_wp2_with (first
            | (go_at_call 97; ((with_reducible refine (cB _).mono ?_); rintro e w3 ⟨rfl, hb3⟩; have Bz := bel_trans (a := W2) (by first | assumption | exact Below.refl _ _) hb3; obtain ⟨s0, s1, s2, s3, s4⟩ := (CBox.b HS.out Bz).five))
            | (go_at_call 98; ((with_reducible refine (cK _).mono ?_); rintro e w4 ⟨rfl, rfl⟩)))
          go_ret
          exact ⟨one h12.out, (by first | exact bel_trans hB2 Bz | exact bel_trans hB2 hb3 | exact hB2)⟩
        | false =>
          have hF0 : Hid (F 0 = R) := Lib.hid (by rw [hR]; rfl)
          clear hR hne
          go_enter Tryz.func69, Tryz.ntmps69
          go_wp2_with (first
            | (go_at_call 97; ((with_reducible refine (cB _).mono ?_); rintro e w3 ⟨rfl, hb3⟩; have Bz := bel_trans (a := W2) (by first | assumption | exact Below.refl _ _) hb3; obtain ⟨s0, s1, s2, s3, s4⟩ := (CBox.b HS.out Bz).five))
            | (go_at_call 98; ((with_reducible refine (cK _).mono ?_); rintro e w4 ⟨rfl, rfl⟩)))
          go_loopw [50] (fun i wr0 => ∃ (wr : World) (k : Nat), wr = wr0 ∧ k ≤ kn ∧ i = .int .i64 k ∧ Below W2.heap.size W2 wr ∧ Hid (F k = R)) (fun i _ => kn - (intOf i).toNat)
          case atStart => exact ⟨_, 0, rfl, by omega, rfl, (by first | exact Bz | exact Below.refl _ _), hF0⟩
          case round =>
            obtain ⟨wr, k, rfl, hk, rfl, hB, hH⟩ := hrel
            by_cases hlt : k < kn
            · obtain ⟨bb, o, x, A, M, Cc, rfl, hb, y0, y1, y2, y3, hx, hok⟩ := HT.out.at hlt
              have t0 := (hB.cell (p := ⟨bb, _, none⟩) hb).trans y0
              have t1 := (hB.cell (p := ⟨bb, _, none⟩) hb).trans y1
              have t2 := (hB.cell (p := ⟨bb, _, none⟩) hb).trans y2
              have t3 := (hB.cell (p := ⟨bb, _, none⟩) hb).trans y3
              obtain ⟨W4, hW4, hB4, hs4, S4⟩ := box1 wr (opT x) (nameT x) (numT x) A M Cc
              have cR := tRight_few x A M Cc W4 (HZ.out k x hx) (ArW.b (ArW.b hok hB) hB4)
              obtain ⟨f0, f1, f2, f3⟩ := S4.four
              have hs1 := Hst.out k x hx
              clear y0 y1 y2 y3 hx hok S4 hs4
              generalize rightE x = r at *
              generalize opT x = op' at *
              generalize nameT x = nm' at *
              generalize numT x = nu' at *
              have hk0 : 0 ≤ (k : Int) := by omega
              have hk1 : (k : Int) < (kn : Int) := by omega
              by_cases hr : r = 0
              · have p1 : (r != 0) = false := by rw [hr]; rfl
                have hnew : Hid (F (k + 1) = R) := Lib.hid (by rw [← hH.out, hs1, if_neg (by simp [hr])])
                clear hr hs1 hH
                go_wp2_with (go_at_call 32; ((with_reducible refine cR.mono ?_); rintro e w8 ⟨rfl, hb8⟩))
                go_roundw
                case rel => exact ⟨_, k + 1, rfl, by omega, by go_num, bel_trans (bel_trans hB hB4) hb8, hnew⟩
                case measure => simp [intOf]; omega
              · have p1 : (r != 0) = true := bne_iff_ne.2 hr
                have hnew : Hid (r = R) := Lib.hid (by rw [← hH.out, hs1, if_pos hr])
                clear hr hs1 hH
                go_wp2_with (go_at_call 32; ((with_reducible refine cR.mono ?_); rintro e w8 ⟨rfl, hb8⟩))
                go_ret
                exact ⟨one hnew.out, bel_trans hB2 (bel_trans (bel_trans hB hB4) hb8)⟩
            · have hnew : Hid ((0 : Int) = R) := Lib.hid (by rw [← hH.out, He.out k (by omega)])
              clear hH
              go_wp2
              go_ret
              exact ⟨one hnew.out, bel_trans hB2 hB⟩
      · rw [hq3, hen, hes] at hR
        cases ar with
        | true =>
          have h12 : Hid ((12 : Int) = R) := Lib.hid (by rw [hR]; rfl)
          clear hR hne
          go_enter Tryz.func69, Tryz.ntmps69
          go_wp2_with (first
            | (go_at_call 97; ((with_reducible refine (cB _).mono ?_); rintro e w3 ⟨rfl, hb3⟩; have Bz := bel_trans (a := W2) (by first | assumption | exact Below.refl _ _) hb3; obtain ⟨s0, s1, s2, s3, s4⟩ := (CBox.b HS.out Bz).five))
            | (go_at_call 98; ((with_reducible refine (cK _).mono ?_); rintro e w4 ⟨rfl, rfl⟩)))
          go_ret
          exact ⟨one h12.out, (by first | exact bel_trans hB2 Bz | exact bel_trans hB2 hb3 | exact hB2)⟩
        | false =>
          have hF0 : Hid (F 0 = R) := Lib.hid (by rw [hR]; rfl)
          clear hR hne
          go_enter Tryz.func69, Tryz.ntmps69
          go_wp2_with (first
            | (go_at_call 97; ((with_reducible refine (cB _).mono ?_); rintro e w3 ⟨rfl, hb3⟩; have Bz := bel_trans (a := W2) (by first | assumption | exact Below.refl _ _) hb3; obtain ⟨s0, s1, s2, s3, s4⟩ := (CBox.b HS.out Bz).five))
            | (go_at_call 98; ((with_reducible refine (cK _).mono ?_); rintro e w4 ⟨rfl, rfl⟩)))
          go_loopw [50] (fun i wr0 => ∃ (wr : World) (k : Nat), wr = wr0 ∧ k ≤ kn ∧ i = .int .i64 k ∧ Below W2.heap.size W2 wr ∧ Hid (F k = R)) (fun i _ => kn - (intOf i).toNat)
          case atStart => exact ⟨_, 0, rfl, by omega, rfl, (by first | exact Bz | exact Below.refl _ _), hF0⟩
          case round =>
            obtain ⟨wr, k, rfl, hk, rfl, hB, hH⟩ := hrel
            by_cases hlt : k < kn
            · obtain ⟨bb, o, x, A, M, Cc, rfl, hb, y0, y1, y2, y3, hx, hok⟩ := HT.out.at hlt
              have t0 := (hB.cell (p := ⟨bb, _, none⟩) hb).trans y0
              have t1 := (hB.cell (p := ⟨bb, _, none⟩) hb).trans y1
              have t2 := (hB.cell (p := ⟨bb, _, none⟩) hb).trans y2
              have t3 := (hB.cell (p := ⟨bb, _, none⟩) hb).trans y3
              obtain ⟨W4, hW4, hB4, hs4, S4⟩ := box1 wr (opT x) (nameT x) (numT x) A M Cc
              have cR := tRight_few x A M Cc W4 (HZ.out k x hx) (ArW.b (ArW.b hok hB) hB4)
              obtain ⟨f0, f1, f2, f3⟩ := S4.four
              have hs1 := Hst.out k x hx
              clear y0 y1 y2 y3 hx hok S4 hs4
              generalize rightE x = r at *
              generalize opT x = op' at *
              generalize nameT x = nm' at *
              generalize numT x = nu' at *
              have hk0 : 0 ≤ (k : Int) := by omega
              have hk1 : (k : Int) < (kn : Int) := by omega
              by_cases hr : r = 0
              · have p1 : (r != 0) = false := by rw [hr]; rfl
                have hnew : Hid (F (k + 1) = R) := Lib.hid (by rw [← hH.out, hs1, if_neg (by simp [hr])])
                clear hr hs1 hH
                go_wp2_with (go_at_call 32; ((with_reducible refine cR.mono ?_); rintro e w8 ⟨rfl, hb8⟩))
                go_roundw
                case rel => exact ⟨_, k + 1, rfl, by omega, by go_num, bel_trans (bel_trans hB hB4) hb8, hnew⟩
                case measure => simp [intOf]; omega
              · have p1 : (r != 0) = true := bne_iff_ne.2 hr
                have hnew : Hid (r = R) := Lib.hid (by rw [← hH.out, hs1, if_pos hr])
                clear hr hs1 hH
                go_wp2_with (go_at_call 32; ((with_reducible refine cR.mono ?_); rintro e w8 ⟨rfl, hb8⟩))
                go_ret
                exact ⟨one hnew.out, bel_trans hB2 (bel_trans (bel_trans hB hB4) hb8)⟩
            · have hnew : Hid ((0 : Int) = R) := Lib.hid (by rw [← hH.out, He.out k (by omega)])
              clear hH
              go_wp2
              go_ret
              exact ⟨one hnew.out, bel_trans hB2 hB⟩
      · rw [hq3, hen, hes] at hR
        cases ar with
        | true =>
          have h12 : Hid ((12 : Int) = R) := Lib.hid (by rw [hR]; rfl)
          clear hR hne
          go_enter Tryz.func69, Tryz.ntmps69
          go_wp2_with (first
            | (go_at_call 97; ((with_reducible refine (cB _).mono ?_); rintro e w3 ⟨rfl, hb3⟩; have Bz := bel_trans (a := W2) (by first | assumption | exact Below.refl _ _) hb3; obtain ⟨s0, s1, s2, s3, s4⟩ := (CBox.b HS.out Bz).five))
            | (go_at_call 98; ((with_reducible refine (cK _).mono ?_); rintro e w4 ⟨rfl, rfl⟩)))
          go_ret
          exact ⟨one h12.out, (by first | exact bel_trans hB2 Bz | exact bel_trans hB2 hb3 | exact hB2)⟩
        | false =>
          have hF0 : Hid (F 0 = R) := Lib.hid (by rw [hR]; rfl)
          clear hR hne
          go_enter Tryz.func69, Tryz.ntmps69
          go_wp2_with (first
            | (go_at_call 97; ((with_reducible refine (cB _).mono ?_); rintro e w3 ⟨rfl, hb3⟩; have Bz := bel_trans (a := W2) (by first | assumption | exact Below.refl _ _) hb3; obtain ⟨s0, s1, s2, s3, s4⟩ := (CBox.b HS.out Bz).five))
            | (go_at_call 98; ((with_reducible refine (cK _).mono ?_); rintro e w4 ⟨rfl, rfl⟩)))
          go_loopw [50] (fun i wr0 => ∃ (wr : World) (k : Nat), wr = wr0 ∧ k ≤ kn ∧ i = .int .i64 k ∧ Below W2.heap.size W2 wr ∧ Hid (F k = R)) (fun i _ => kn - (intOf i).toNat)
          case atStart => exact ⟨_, 0, rfl, by omega, rfl, (by first | exact Bz | exact Below.refl _ _), hF0⟩
          case round =>
            obtain ⟨wr, k, rfl, hk, rfl, hB, hH⟩ := hrel
            by_cases hlt : k < kn
            · obtain ⟨bb, o, x, A, M, Cc, rfl, hb, y0, y1, y2, y3, hx, hok⟩ := HT.out.at hlt
              have t0 := (hB.cell (p := ⟨bb, _, none⟩) hb).trans y0
              have t1 := (hB.cell (p := ⟨bb, _, none⟩) hb).trans y1
              have t2 := (hB.cell (p := ⟨bb, _, none⟩) hb).trans y2
              have t3 := (hB.cell (p := ⟨bb, _, none⟩) hb).trans y3
              obtain ⟨W4, hW4, hB4, hs4, S4⟩ := box1 wr (opT x) (nameT x) (numT x) A M Cc
              have cR := tRight_few x A M Cc W4 (HZ.out k x hx) (ArW.b (ArW.b hok hB) hB4)
              obtain ⟨f0, f1, f2, f3⟩ := S4.four
              have hs1 := Hst.out k x hx
              clear y0 y1 y2 y3 hx hok S4 hs4
              generalize rightE x = r at *
              generalize opT x = op' at *
              generalize nameT x = nm' at *
              generalize numT x = nu' at *
              have hk0 : 0 ≤ (k : Int) := by omega
              have hk1 : (k : Int) < (kn : Int) := by omega
              by_cases hr : r = 0
              · have p1 : (r != 0) = false := by rw [hr]; rfl
                have hnew : Hid (F (k + 1) = R) := Lib.hid (by rw [← hH.out, hs1, if_neg (by simp [hr])])
                clear hr hs1 hH
                go_wp2_with (go_at_call 32; ((with_reducible refine cR.mono ?_); rintro e w8 ⟨rfl, hb8⟩))
                go_roundw
                case rel => exact ⟨_, k + 1, rfl, by omega, by go_num, bel_trans (bel_trans hB hB4) hb8, hnew⟩
                case measure => simp [intOf]; omega
              · have p1 : (r != 0) = true := bne_iff_ne.2 hr
                have hnew : Hid (r = R) := Lib.hid (by rw [← hH.out, hs1, if_pos hr])
                clear hr hs1 hH
                go_wp2_with (go_at_call 32; ((with_reducible refine cR.mono ?_); rintro e w8 ⟨rfl, hb8⟩))
                go_ret
                exact ⟨one hnew.out, bel_trans hB2 (bel_trans (bel_trans hB hB4) hb8)⟩
            · have hnew : Hid ((0 : Int) = R) := Lib.hid (by rw [← hH.out, He.out k (by omega)])
              clear hH
              go_wp2
              go_ret
              exact ⟨one hnew.out, bel_trans hB2 hB⟩
      · rw [hq3, hen, hes] at hR
        cases ar with
        | true =>
          have h12 : Hid ((12 : Int) = R) := Lib.hid (by rw [hR]; rfl)
          clear hR hne
          go_enter Tryz.func69, Tryz.ntmps69
          go_wp2_with (first
            | (go_at_call 97; ((with_reducible refine (cB _).mono ?_); rintro e w3 ⟨rfl, hb3⟩; have Bz := bel_trans (a := W2) (by first | assumption | exact Below.refl _ _) hb3; obtain ⟨s0, s1, s2, s3, s4⟩ := (CBox.b HS.out Bz).five))
            | (go_at_call 98; ((with_reducible refine (cK _).mono ?_); rintro e w4 ⟨rfl, rfl⟩)))
          go_ret
          exact ⟨one h12.out, (by first | exact bel_trans hB2 Bz | exact bel_trans hB2 hb3 | exact hB2)⟩
        | false =>
          have hF0 : Hid (F 0 = R) := Lib.hid (by rw [hR]; rfl)
          clear hR hne
          go_enter Tryz.func69, Tryz.ntmps69
          go_wp2_with (first
            | (go_at_call 97; ((with_reducible refine (cB _).mono ?_); rintro e w3 ⟨rfl, hb3⟩; have Bz := bel_trans (a := W2) (by first | assumption | exact Below.refl _ _) hb3; obtain ⟨s0, s1, s2, s3, s4⟩ := (CBox.b HS.out Bz).five))
            | (go_at_call 98; ((with_reducible refine (cK _).mono ?_); rintro e w4 ⟨rfl, rfl⟩)))
          go_loopw [50] (fun i wr0 => ∃ (wr : World) (k : Nat), wr = wr0 ∧ k ≤ kn ∧ i = .int .i64 k ∧ Below W2.heap.size W2 wr ∧ Hid (F k = R)) (fun i _ => kn - (intOf i).toNat)
          case atStart => exact ⟨_, 0, rfl, by omega, rfl, (by first | exact Bz | exact Below.refl _ _), hF0⟩
          case round =>
            obtain ⟨wr, k, rfl, hk, rfl, hB, hH⟩ := hrel
            by_cases hlt : k < kn
            · obtain ⟨bb, o, x, A, M, Cc, rfl, hb, y0, y1, y2, y3, hx, hok⟩ := HT.out.at hlt
              have t0 := (hB.cell (p := ⟨bb, _, none⟩) hb).trans y0
              have t1 := (hB.cell (p := ⟨bb, _, none⟩) hb).trans y1
              have t2 := (hB.cell (p := ⟨bb, _, none⟩) hb).trans y2
              have t3 := (hB.cell (p := ⟨bb, _, none⟩) hb).trans y3
              obtain ⟨W4, hW4, hB4, hs4, S4⟩ := box1 wr (opT x) (nameT x) (numT x) A M Cc
              have cR := tRight_few x A M Cc W4 (HZ.out k x hx) (ArW.b (ArW.b hok hB) hB4)
              obtain ⟨f0, f1, f2, f3⟩ := S4.four
              have hs1 := Hst.out k x hx
              clear y0 y1 y2 y3 hx hok S4 hs4
              generalize rightE x = r at *
              generalize opT x = op' at *
              generalize nameT x = nm' at *
              generalize numT x = nu' at *
              have hk0 : 0 ≤ (k : Int) := by omega
              have hk1 : (k : Int) < (kn : Int) := by omega
              by_cases hr : r = 0
              · have p1 : (r != 0) = false := by rw [hr]; rfl
                have hnew : Hid (F (k + 1) = R) := Lib.hid (by rw [← hH.out, hs1, if_neg (by simp [hr])])
                clear hr hs1 hH
                go_wp2_with (go_at_call 32; ((with_reducible refine cR.mono ?_); rintro e w8 ⟨rfl, hb8⟩))
                go_roundw
                case rel => exact ⟨_, k + 1, rfl, by omega, by go_num, bel_trans (bel_trans hB hB4) hb8, hnew⟩
                case measure => simp [intOf]; omega
              · have p1 : (r != 0) = true := bne_iff_ne.2 hr
                have hnew : Hid (r = R) := Lib.hid (by rw [← hH.out, hs1, if_pos hr])
                clear hr hs1 hH
                go_wp2_with (go_at_call 32; ((with_reducible refine cR.mono ?_); rintro e w8 ⟨rfl, hb8⟩))
                go_ret
                exact ⟨one hnew.out, bel_trans hB2 (bel_trans (bel_trans hB hB4) hb8)⟩
            · have hnew : Hid ((0 : Int) = R) := Lib.hid (by rw [← hH.out, He.out k (by omega)])
              clear hH
              go_wp2
              go_ret
              exact ⟨one hnew.out, bel_trans hB2 hB⟩
      · rw [hq3, hen, hes] at hR
        cases ar with
        | true =>
          have h12 : Hid ((12 : Int) = R) := Lib.hid (by rw [hR]; rfl)
          clear hR hne
          go_enter Tryz.func69, Tryz.ntmps69
          go_wp2_with (first
            | (go_at_call 97; ((with_reducible refine (cB _).mono ?_); rintro e w3 ⟨rfl, hb3⟩; have Bz := bel_trans (a := W2) (by first | assumption | exact Below.refl _ _) hb3; obtain ⟨s0, s1, s2, s3, s4⟩ := (CBox.b HS.out Bz).five))
            | (go_at_call 98; ((with_reducible refine (cK _).mono ?_); rintro e w4 ⟨rfl, rfl⟩)))
          go_ret
          exact ⟨one h12.out, (by first | exact bel_trans hB2 Bz | exact bel_trans hB2 hb3 | exact hB2)⟩
        | false =>
          have hF0 : Hid (F 0 = R) := Lib.hid (by rw [hR]; rfl)
          clear hR hne
          go_enter Tryz.func69, Tryz.ntmps69
          go_wp2_with (first
            | (go_at_call 97; ((with_reducible refine (cB _).mono ?_); rintro e w3 ⟨rfl, hb3⟩; have Bz := bel_trans (a := W2) (by first | assumption | exact Below.refl _ _) hb3; obtain ⟨s0, s1, s2, s3, s4⟩ := (CBox.b HS.out Bz).five))
            | (go_at_call 98; ((with_reducible refine (cK _).mono ?_); rintro e w4 ⟨rfl, rfl⟩)))
          go_loopw [50] (fun i wr0 => ∃ (wr : World) (k : Nat), wr = wr0 ∧ k ≤ kn ∧ i = .int .i64 k ∧ Below W2.heap.size W2 wr ∧ Hid (F k = R)) (fun i _ => kn - (intOf i).toNat)
          case atStart => exact ⟨_, 0, rfl, by omega, rfl, (by first | exact Bz | exact Below.refl _ _), hF0⟩
          case round =>
            obtain ⟨wr, k, rfl, hk, rfl, hB, hH⟩ := hrel
            by_cases hlt : k < kn
            · obtain ⟨bb, o, x, A, M, Cc, rfl, hb, y0, y1, y2, y3, hx, hok⟩ := HT.out.at hlt
              have t0 := (hB.cell (p := ⟨bb, _, none⟩) hb).trans y0
              have t1 := (hB.cell (p := ⟨bb, _, none⟩) hb).trans y1
              have t2 := (hB.cell (p := ⟨bb, _, none⟩) hb).trans y2
              have t3 := (hB.cell (p := ⟨bb, _, none⟩) hb).trans y3
              obtain ⟨W4, hW4, hB4, hs4, S4⟩ := box1 wr (opT x) (nameT x) (numT x) A M Cc
              have cR := tRight_few x A M Cc W4 (HZ.out k x hx) (ArW.b (ArW.b hok hB) hB4)
              obtain ⟨f0, f1, f2, f3⟩ := S4.four
              have hs1 := Hst.out k x hx
              clear y0 y1 y2 y3 hx hok S4 hs4
              generalize rightE x = r at *
              generalize opT x = op' at *
              generalize nameT x = nm' at *
              generalize numT x = nu' at *
              have hk0 : 0 ≤ (k : Int) := by omega
              have hk1 : (k : Int) < (kn : Int) := by omega
              by_cases hr : r = 0
              · have p1 : (r != 0) = false := by rw [hr]; rfl
                have hnew : Hid (F (k + 1) = R) := Lib.hid (by rw [← hH.out, hs1, if_neg (by simp [hr])])
                clear hr hs1 hH
                go_wp2_with (go_at_call 32; ((with_reducible refine cR.mono ?_); rintro e w8 ⟨rfl, hb8⟩))
                go_roundw
                case rel => exact ⟨_, k + 1, rfl, by omega, by go_num, bel_trans (bel_trans hB hB4) hb8, hnew⟩
                case measure => simp [intOf]; omega
              · have p1 : (r != 0) = true := bne_iff_ne.2 hr
                have hnew : Hid (r = R) := Lib.hid (by rw [← hH.out, hs1, if_pos hr])
                clear hr hs1 hH
                go_wp2_with (go_at_call 32; ((with_reducible refine cR.mono ?_); rintro e w8 ⟨rfl, hb8⟩))
                go_ret
                exact ⟨one hnew.out, bel_trans hB2 (bel_trans (bel_trans hB hB4) hb8)⟩
            · have hnew : Hid ((0 : Int) = R) := Lib.hid (by rw [← hH.out, He.out k (by omega)])
              clear hH
              go_wp2
              go_ret
              exact ⟨one hnew.out, bel_trans hB2 hB⟩
      · rw [hq3, hen, hes] at hR
        have h7 : Hid ((7 : Int) = R) := Lib.hid (by rw [hR]; rfl)
        clear hR cK hne
        go_enter Tryz.func69, Tryz.ntmps69
        go_wp2_with (go_at_call 97; ((with_reducible refine (cB _).mono ?_); rintro e w3 ⟨rfl, hb3⟩))
        go_ret
        exact ⟨one h7.out, (by first | exact bel_trans hB2 Bz | exact bel_trans hB2 hb3 | exact hB2)⟩
      · rw [hq3, hen, hes] at hR
        have h7 : Hid ((7 : Int) = R) := Lib.hid (by rw [hR]; rfl)
        clear hR cK hne
        go_enter Tryz.func69, Tryz.ntmps69
        go_wp2_with (go_at_call 97; ((with_reducible refine (cB _).mono ?_); rintro e w3 ⟨rfl, hb3⟩))
        go_ret
        exact ⟨one h7.out, (by first | exact bel_trans hB2 Bz | exact bel_trans hB2 hb3 | exact hB2)⟩
      · rw [hq3, hen, hes] at hR
        have h7 : Hid ((7 : Int) = R) := Lib.hid (by rw [hR]; rfl)
        clear hR cK hne
        go_enter Tryz.func69, Tryz.ntmps69
        go_wp2_with (go_at_call 97; ((with_reducible refine (cB _).mono ?_); rintro e w3 ⟨rfl, hb3⟩))
        go_ret
        exact ⟨one h7.out, (by first | exact bel_trans hB2 Bz | exact bel_trans hB2 hb3 | exact hB2)⟩
      · rw [hq3, hen, hes] at hR
        cases ar with
        | true =>
          have h12 : Hid ((12 : Int) = R) := Lib.hid (by rw [hR]; rfl)
          clear hR hne
          go_enter Tryz.func69, Tryz.ntmps69
          go_wp2_with (first
            | (go_at_call 97; ((with_reducible refine (cB _).mono ?_); rintro e w3 ⟨rfl, hb3⟩; have Bz := bel_trans (a := W2) (by first | assumption | exact Below.refl _ _) hb3; obtain ⟨s0, s1, s2, s3, s4⟩ := (CBox.b HS.out Bz).five))
            | (go_at_call 98; ((with_reducible refine (cK _).mono ?_); rintro e w4 ⟨rfl, rfl⟩)))
          go_ret
          exact ⟨one h12.out, (by first | exact bel_trans hB2 Bz | exact bel_trans hB2 hb3 | exact hB2)⟩
        | false =>
          have hF0 : Hid (F 0 = R) := Lib.hid (by rw [hR]; rfl)
          clear hR hne
          go_enter Tryz.func69, Tryz.ntmps69
          go_wp2_with (first
            | (go_at_call 97; ((with_reducible refine (cB _).mono ?_); rintro e w3 ⟨rfl, hb3⟩; have Bz := bel_trans (a := W2) (by first | assumption | exact Below.refl _ _) hb3; obtain ⟨s0, s1, s2, s3, s4⟩ := (CBox.b HS.out Bz).five))
            | (go_at_call 98; ((with_reducible refine (cK _).mono ?_); rintro e w4 ⟨rfl, rfl⟩)))
          go_loopw [50] (fun i wr0 => ∃ (wr : World) (k : Nat), wr = wr0 ∧ k ≤ kn ∧ i = .int .i64 k ∧ Below W2.heap.size W2 wr ∧ Hid (F k = R)) (fun i _ => kn - (intOf i).toNat)
          case atStart => exact ⟨_, 0, rfl, by omega, rfl, (by first | exact Bz | exact Below.refl _ _), hF0⟩
          case round =>
            obtain ⟨wr, k, rfl, hk, rfl, hB, hH⟩ := hrel
            by_cases hlt : k < kn
            · obtain ⟨bb, o, x, A, M, Cc, rfl, hb, y0, y1, y2, y3, hx, hok⟩ := HT.out.at hlt
              have t0 := (hB.cell (p := ⟨bb, _, none⟩) hb).trans y0
              have t1 := (hB.cell (p := ⟨bb, _, none⟩) hb).trans y1
              have t2 := (hB.cell (p := ⟨bb, _, none⟩) hb).trans y2
              have t3 := (hB.cell (p := ⟨bb, _, none⟩) hb).trans y3
              obtain ⟨W4, hW4, hB4, hs4, S4⟩ := box1 wr (opT x) (nameT x) (numT x) A M Cc
              have cR := tRight_few x A M Cc W4 (HZ.out k x hx) (ArW.b (ArW.b hok hB) hB4)
              obtain ⟨f0, f1, f2, f3⟩ := S4.four
              have hs1 := Hst.out k x hx
              clear y0 y1 y2 y3 hx hok S4 hs4
              generalize rightE x = r at *
              generalize opT x = op' at *
              generalize nameT x = nm' at *
              generalize numT x = nu' at *
              have hk0 : 0 ≤ (k : Int) := by omega
              have hk1 : (k : Int) < (kn : Int) := by omega
              by_cases hr : r = 0
              · have p1 : (r != 0) = false := by rw [hr]; rfl
                have hnew : Hid (F (k + 1) = R) := Lib.hid (by rw [← hH.out, hs1, if_neg (by simp [hr])])
                clear hr hs1 hH
                go_wp2_with (go_at_call 32; ((with_reducible refine cR.mono ?_); rintro e w8 ⟨rfl, hb8⟩))
                go_roundw
                case rel => exact ⟨_, k + 1, rfl, by omega, by go_num, bel_trans (bel_trans hB hB4) hb8, hnew⟩
                case measure => simp [intOf]; omega
              · have p1 : (r != 0) = true := bne_iff_ne.2 hr
                have hnew : Hid (r = R) := Lib.hid (by rw [← hH.out, hs1, if_pos hr])
                clear hr hs1 hH
                go_wp2_with (go_at_call 32; ((with_reducible refine cR.mono ?_); rintro e w8 ⟨rfl, hb8⟩))
                go_ret
                exact ⟨one hnew.out, bel_trans hB2 (bel_trans (bel_trans hB hB4) hb8)⟩
            · have hnew : Hid ((0 : Int) = R) := Lib.hid (by rw [← hH.out, He.out k (by omega)])
              clear hH
              go_wp2
              go_ret
              exact ⟨one hnew.out, bel_trans hB2 hB⟩
      · rw [hq3, hen, hes] at hR
        cases ar with
        | true =>
          have h12 : Hid ((12 : Int) = R) := Lib.hid (by rw [hR]; rfl)
          clear hR hne
          go_enter Tryz.func69, Tryz.ntmps69
          go_wp2_with (first
            | (go_at_call 97; ((with_reducible refine (cB _).mono ?_); rintro e w3 ⟨rfl, hb3⟩; have Bz := bel_trans (a := W2) (by first | assumption | exact Below.refl _ _) hb3; obtain ⟨s0, s1, s2, s3, s4⟩ := (CBox.b HS.out Bz).five))
            | (go_at_call 98; ((with_reducible refine (cK _).mono ?_); rintro e w4 ⟨rfl, rfl⟩)))
          go_ret
          exact ⟨one h12.out, (by first | exact bel_trans hB2 Bz | exact bel_trans hB2 hb3 | exact hB2)⟩
        | false =>
          have hF0 : Hid (F 0 = R) := Lib.hid (by rw [hR]; rfl)
          clear hR hne
          go_enter Tryz.func69, Tryz.ntmps69
          go_wp2_with (first
            | (go_at_call 97; ((with_reducible refine (cB _).mono ?_); rintro e w3 ⟨rfl, hb3⟩; have Bz := bel_trans (a := W2) (by first | assumption | exact Below.refl _ _) hb3; obtain ⟨s0, s1, s2, s3, s4⟩ := (CBox.b HS.out Bz).five))
            | (go_at_call 98; ((with_reducible refine (cK _).mono ?_); rintro e w4 ⟨rfl, rfl⟩)))
          go_loopw [50] (fun i wr0 => ∃ (wr : World) (k : Nat), wr = wr0 ∧ k ≤ kn ∧ i = .int .i64 k ∧ Below W2.heap.size W2 wr ∧ Hid (F k = R)) (fun i _ => kn - (intOf i).toNat)
          case atStart => exact ⟨_, 0, rfl, by omega, rfl, (by first | exact Bz | exact Below.refl _ _), hF0⟩
          case round =>
            obtain ⟨wr, k, rfl, hk, rfl, hB, hH⟩ := hrel
            by_cases hlt : k < kn
            · obtain ⟨bb, o, x, A, M, Cc, rfl, hb, y0, y1, y2, y3, hx, hok⟩ := HT.out.at hlt
              have t0 := (hB.cell (p := ⟨bb, _, none⟩) hb).trans y0
              have t1 := (hB.cell (p := ⟨bb, _, none⟩) hb).trans y1
              have t2 := (hB.cell (p := ⟨bb, _, none⟩) hb).trans y2
              have t3 := (hB.cell (p := ⟨bb, _, none⟩) hb).trans y3
              obtain ⟨W4, hW4, hB4, hs4, S4⟩ := box1 wr (opT x) (nameT x) (numT x) A M Cc
              have cR := tRight_few x A M Cc W4 (HZ.out k x hx) (ArW.b (ArW.b hok hB) hB4)
              obtain ⟨f0, f1, f2, f3⟩ := S4.four
              have hs1 := Hst.out k x hx
              clear y0 y1 y2 y3 hx hok S4 hs4
              generalize rightE x = r at *
              generalize opT x = op' at *
              generalize nameT x = nm' at *
              generalize numT x = nu' at *
              have hk0 : 0 ≤ (k : Int) := by omega
              have hk1 : (k : Int) < (kn : Int) := by omega
              by_cases hr : r = 0
              · have p1 : (r != 0) = false := by rw [hr]; rfl
                have hnew : Hid (F (k + 1) = R) := Lib.hid (by rw [← hH.out, hs1, if_neg (by simp [hr])])
                clear hr hs1 hH
                go_wp2_with (go_at_call 32; ((with_reducible refine cR.mono ?_); rintro e w8 ⟨rfl, hb8⟩))
                go_roundw
                case rel => exact ⟨_, k + 1, rfl, by omega, by go_num, bel_trans (bel_trans hB hB4) hb8, hnew⟩
                case measure => simp [intOf]; omega
              · have p1 : (r != 0) = true := bne_iff_ne.2 hr
                have hnew : Hid (r = R) := Lib.hid (by rw [← hH.out, hs1, if_pos hr])
                clear hr hs1 hH
                go_wp2_with (go_at_call 32; ((with_reducible refine cR.mono ?_); rintro e w8 ⟨rfl, hb8⟩))
                go_ret
                exact ⟨one hnew.out, bel_trans hB2 (bel_trans (bel_trans hB hB4) hb8)⟩
            · have hnew : Hid ((0 : Int) = R) := Lib.hid (by rw [← hH.out, He.out k (by omega)])
              clear hH
              go_wp2
              go_ret
              exact ⟨one hnew.out, bel_trans hB2 hB⟩
      · rw [hq3, hen, hes] at hR
        cases ar with
        | true =>
          have h12 : Hid ((12 : Int) = R) := Lib.hid (by rw [hR]; rfl)
          clear hR hne
          go_enter Tryz.func69, Tryz.ntmps69
          go_wp2_with (first
            | (go_at_call 97; ((with_reducible refine (cB _).mono ?_); rintro e w3 ⟨rfl, hb3⟩; have Bz := bel_trans (a := W2) (by first | assumption | exact Below.refl _ _) hb3; obtain ⟨s0, s1, s2, s3, s4⟩ := (CBox.b HS.out Bz).five))
            | (go_at_call 98; ((with_reducible refine (cK _).mono ?_); rintro e w4 ⟨rfl, rfl⟩)))
          go_ret
          exact ⟨one h12.out, (by first | exact bel_trans hB2 Bz | exact bel_trans hB2 hb3 | exact hB2)⟩
        | false =>
          have hF0 : Hid (F 0 = R) := Lib.hid (by rw [hR]; rfl)
          clear hR hne
          go_enter Tryz.func69, Tryz.ntmps69
          go_wp2_with (first
            | (go_at_call 97; ((with_reducible refine (cB _).mono ?_); rintro e w3 ⟨rfl, hb3⟩; have Bz := bel_trans (a := W2) (by first | assumption | exact Below.refl _ _) hb3; obtain ⟨s0, s1, s2, s3, s4⟩ := (CBox.b HS.out Bz).five))
            | (go_at_call 98; ((with_reducible refine (cK _).mono ?_); rintro e w4 ⟨rfl, rfl⟩)))
          go_loopw [50] (fun i wr0 => ∃ (wr : World) (k : Nat), wr = wr0 ∧ k ≤ kn ∧ i = .int .i64 k ∧ Below W2.heap.size W2 wr ∧ Hid (F k = R)) (fun i _ => kn - (intOf i).toNat)
          case atStart => exact ⟨_, 0, rfl, by omega, rfl, (by first | exact Bz | exact Below.refl _ _), hF0⟩
          case round =>
            obtain ⟨wr, k, rfl, hk, rfl, hB, hH⟩ := hrel
            by_cases hlt : k < kn
            · obtain ⟨bb, o, x, A, M, Cc, rfl, hb, y0, y1, y2, y3, hx, hok⟩ := HT.out.at hlt
              have t0 := (hB.cell (p := ⟨bb, _, none⟩) hb).trans y0
              have t1 := (hB.cell (p := ⟨bb, _, none⟩) hb).trans y1
              have t2 := (hB.cell (p := ⟨bb, _, none⟩) hb).trans y2
              have t3 := (hB.cell (p := ⟨bb, _, none⟩) hb).trans y3
              obtain ⟨W4, hW4, hB4, hs4, S4⟩ := box1 wr (opT x) (nameT x) (numT x) A M Cc
              have cR := tRight_few x A M Cc W4 (HZ.out k x hx) (ArW.b (ArW.b hok hB) hB4)
              obtain ⟨f0, f1, f2, f3⟩ := S4.four
              have hs1 := Hst.out k x hx
              clear y0 y1 y2 y3 hx hok S4 hs4
              generalize rightE x = r at *
              generalize opT x = op' at *
              generalize nameT x = nm' at *
              generalize numT x = nu' at *
              have hk0 : 0 ≤ (k : Int) := by omega
              have hk1 : (k : Int) < (kn : Int) := by omega
              by_cases hr : r = 0
              · have p1 : (r != 0) = false := by rw [hr]; rfl
                have hnew : Hid (F (k + 1) = R) := Lib.hid (by rw [← hH.out, hs1, if_neg (by simp [hr])])
                clear hr hs1 hH
                go_wp2_with (go_at_call 32; ((with_reducible refine cR.mono ?_); rintro e w8 ⟨rfl, hb8⟩))
                go_roundw
                case rel => exact ⟨_, k + 1, rfl, by omega, by go_num, bel_trans (bel_trans hB hB4) hb8, hnew⟩
                case measure => simp [intOf]; omega
              · have p1 : (r != 0) = true := bne_iff_ne.2 hr
                have hnew : Hid (r = R) := Lib.hid (by rw [← hH.out, hs1, if_pos hr])
                clear hr hs1 hH
                go_wp2_with (go_at_call 32; ((with_reducible refine cR.mono ?_); rintro e w8 ⟨rfl, hb8⟩))
                go_ret
                exact ⟨one hnew.out, bel_trans hB2 (bel_trans (bel_trans hB hB4) hb8)⟩
            · have hnew : Hid ((0 : Int) = R) := Lib.hid (by rw [← hH.out, He.out k (by omega)])
              clear hH
              go_wp2
              go_ret
              exact ⟨one hnew.out, bel_trans hB2 hB⟩
      · rw [hq3, hen, hes] at hR
        cases ar with
        | true =>
          have h12 : Hid ((12 : Int) = R) := Lib.hid (by rw [hR]; rfl)
          clear hR hne
          go_enter Tryz.func69, Tryz.ntmps69
          go_wp2_with (first
            | (go_at_call 97; ((with_reducible refine (cB _).mono ?_); rintro e w3 ⟨rfl, hb3⟩; have Bz := bel_trans (a := W2) (by first | assumption | exact Below.refl _ _) hb3; obtain ⟨s0, s1, s2, s3, s4⟩ := (CBox.b HS.out Bz).five))
            | (go_at_call 98; ((with_reducible refine (cK _).mono ?_); rintro e w4 ⟨rfl, rfl⟩)))
          go_ret
          exact ⟨one h12.out, (by first | exact bel_trans hB2 Bz | exact bel_trans hB2 hb3 | exact hB2)⟩
        | false =>
          have hF0 : Hid (F 0 = R) := Lib.hid (by rw [hR]; rfl)
          clear hR hne
          go_enter Tryz.func69, Tryz.ntmps69
          go_wp2_with (first
            | (go_at_call 97; ((with_reducible refine (cB _).mono ?_); rintro e w3 ⟨rfl, hb3⟩; have Bz := bel_trans (a := W2) (by first | assumption | exact Below.refl _ _) hb3; obtain ⟨s0, s1, s2, s3, s4⟩ := (CBox.b HS.out Bz).five))
            | (go_at_call 98; ((with_reducible refine (cK _).mono ?_); rintro e w4 ⟨rfl, rfl⟩)))
          go_loopw [50] (fun i wr0 => ∃ (wr : World) (k : Nat), wr = wr0 ∧ k ≤ kn ∧ i = .int .i64 k ∧ Below W2.heap.size W2 wr ∧ Hid (F k = R)) (fun i _ => kn - (intOf i).toNat)
          case atStart => exact ⟨_, 0, rfl, by omega, rfl, (by first | exact Bz | exact Below.refl _ _), hF0⟩
          case round =>
            obtain ⟨wr, k, rfl, hk, rfl, hB, hH⟩ := hrel
            by_cases hlt : k < kn
            · obtain ⟨bb, o, x, A, M, Cc, rfl, hb, y0, y1, y2, y3, hx, hok⟩ := HT.out.at hlt
              have t0 := (hB.cell (p := ⟨bb, _, none⟩) hb).trans y0
              have t1 := (hB.cell (p := ⟨bb, _, none⟩) hb).trans y1
              have t2 := (hB.cell (p := ⟨bb, _, none⟩) hb).trans y2
              have t3 := (hB.cell (p := ⟨bb, _, none⟩) hb).trans y3
              obtain ⟨W4, hW4, hB4, hs4, S4⟩ := box1 wr (opT x) (nameT x) (numT x) A M Cc
              have cR := tRight_few x A M Cc W4 (HZ.out k x hx) (ArW.b (ArW.b hok hB) hB4)
              obtain ⟨f0, f1, f2, f3⟩ := S4.four
              have hs1 := Hst.out k x hx
              clear y0 y1 y2 y3 hx hok S4 hs4
              generalize rightE x = r at *
              generalize opT x = op' at *
              generalize nameT x = nm' at *
              generalize numT x = nu' at *
              have hk0 : 0 ≤ (k : Int) := by omega
              have hk1 : (k : Int) < (kn : Int) := by omega
              by_cases hr : r = 0
              · have p1 : (r != 0) = false := by rw [hr]; rfl
                have hnew : Hid (F (k + 1) = R) := Lib.hid (by rw [← hH.out, hs1, if_neg (by simp [hr])])
                clear hr hs1 hH
                go_wp2_with (go_at_call 32; ((with_reducible refine cR.mono ?_); rintro e w8 ⟨rfl, hb8⟩))
                go_roundw
                case rel => exact ⟨_, k + 1, rfl, by omega, by go_num, bel_trans (bel_trans hB hB4) hb8, hnew⟩
                case measure => simp [intOf]; omega
              · have p1 : (r != 0) = true := bne_iff_ne.2 hr
                have hnew : Hid (r = R) := Lib.hid (by rw [← hH.out, hs1, if_pos hr])
                clear hr hs1 hH
                go_wp2_with (go_at_call 32; ((with_reducible refine cR.mono ?_); rintro e w8 ⟨rfl, hb8⟩))
                go_ret
                exact ⟨one hnew.out, bel_trans hB2 (bel_trans (bel_trans hB hB4) hb8)⟩
            · have hnew : Hid ((0 : Int) = R) := Lib.hid (by rw [← hH.out, He.out k (by omega)])
              clear hH
              go_wp2
              go_ret
              exact ⟨one hnew.out, bel_trans hB2 hB⟩
      · rw [hq3, hen, hes] at hR
        cases ar with
        | true =>
          have h12 : Hid ((12 : Int) = R) := Lib.hid (by rw [hR]; rfl)
          clear hR hne
          go_enter Tryz.func69, Tryz.ntmps69
          go_wp2_with (first
            | (go_at_call 97; ((with_reducible refine (cB _).mono ?_); rintro e w3 ⟨rfl, hb3⟩; have Bz := bel_trans (a := W2) (by first | assumption | exact Below.refl _ _) hb3; obtain ⟨s0, s1, s2, s3, s4⟩ := (CBox.b HS.out Bz).five))
            | (go_at_call 98; ((with_reducible refine (cK _).mono ?_); rintro e w4 ⟨rfl, rfl⟩)))
          go_ret
          exact ⟨one h12.out, (by first | exact bel_trans hB2 Bz | exact bel_trans hB2 hb3 | exact hB2)⟩
        | false =>
          have hF0 : Hid (F 0 = R) := Lib.hid (by rw [hR]; rfl)
          clear hR hne
          go_enter Tryz.func69, Tryz.ntmps69
          go_wp2_with (first
            | (go_at_call 97; ((with_reducible refine (cB _).mono ?_); rintro e w3 ⟨rfl, hb3⟩; have Bz := bel_trans (a := W2) (by first | assumption | exact Below.refl _ _) hb3; obtain ⟨s0, s1, s2, s3, s4⟩ := (CBox.b HS.out Bz).five))
            | (go_at_call 98; ((with_reducible refine (cK _).mono ?_); rintro e w4 ⟨rfl, rfl⟩)))
          go_loopw [50] (fun i wr0 => ∃ (wr : World) (k : Nat), wr = wr0 ∧ k ≤ kn ∧ i = .int .i64 k ∧ Below W2.heap.size W2 wr ∧ Hid (F k = R)) (fun i _ => kn - (intOf i).toNat)
          case atStart => exact ⟨_, 0, rfl, by omega, rfl, (by first | exact Bz | exact Below.refl _ _), hF0⟩
          case round =>
            obtain ⟨wr, k, rfl, hk, rfl, hB, hH⟩ := hrel
            by_cases hlt : k < kn
            · obtain ⟨bb, o, x, A, M, Cc, rfl, hb, y0, y1, y2, y3, hx, hok⟩ := HT.out.at hlt
              have t0 := (hB.cell (p := ⟨bb, _, none⟩) hb).trans y0
              have t1 := (hB.cell (p := ⟨bb, _, none⟩) hb).trans y1
              have t2 := (hB.cell (p := ⟨bb, _, none⟩) hb).trans y2
              have t3 := (hB.cell (p := ⟨bb, _, none⟩) hb).trans y3
              obtain ⟨W4, hW4, hB4, hs4, S4⟩ := box1 wr (opT x) (nameT x) (numT x) A M Cc
              have cR := tRight_few x A M Cc W4 (HZ.out k x hx) (ArW.b (ArW.b hok hB) hB4)
              obtain ⟨f0, f1, f2, f3⟩ := S4.four
              have hs1 := Hst.out k x hx
              clear y0 y1 y2 y3 hx hok S4 hs4
              generalize rightE x = r at *
              generalize opT x = op' at *
              generalize nameT x = nm' at *
              generalize numT x = nu' at *
              have hk0 : 0 ≤ (k : Int) := by omega
              have hk1 : (k : Int) < (kn : Int) := by omega
              by_cases hr : r = 0
              · have p1 : (r != 0) = false := by rw [hr]; rfl
                have hnew : Hid (F (k + 1) = R) := Lib.hid (by rw [← hH.out, hs1, if_neg (by simp [hr])])
                clear hr hs1 hH
                go_wp2_with (go_at_call 32; ((with_reducible refine cR.mono ?_); rintro e w8 ⟨rfl, hb8⟩))
                go_roundw
                case rel => exact ⟨_, k + 1, rfl, by omega, by go_num, bel_trans (bel_trans hB hB4) hb8, hnew⟩
                case measure => simp [intOf]; omega
              · have p1 : (r != 0) = true := bne_iff_ne.2 hr
                have hnew : Hid (r = R) := Lib.hid (by rw [← hH.out, hs1, if_pos hr])
                clear hr hs1 hH
                go_wp2_with (go_at_call 32; ((with_reducible refine cR.mono ?_); rintro e w8 ⟨rfl, hb8⟩))
                go_ret
                exact ⟨one hnew.out, bel_trans hB2 (bel_trans (bel_trans hB hB4) hb8)⟩
            · have hnew : Hid ((0 : Int) = R) := Lib.hid (by rw [← hH.out, He.out k (by omega)])
              clear hH
              go_wp2
              go_ret
              exact ⟨one hnew.out, bel_trans hB2 hB⟩
end Go.Proofs.YtcigeclnbhcohaaGreatDoor.Cs
