/-
  What is proved: the library's CompactFunc of a row of pairs of the call's own, put in order: of each name the first term stays; package subst's ordered of any pairs, fewer than twenty.
-/
import Derived.Test.YteidknjhponpkaaVC
namespace Go.Proofs.Yteidknjhponpkaa.U
open Go.RowKit L T C B
set_option linter.unusedVariables false
set_option linter.unusedSimpArgs false

set_option maxRecDepth 100000 in
set_option maxHeartbeats 16000000 in
theorem compactU_any (l : List Pr) (lo g n c : Nat) (w : World) (hG : OwnP w lo (.slice (some ⟨g, 0, none⟩) n c) l) (hlen : n = l.length) (hlg : lo ≤ g) (hlw : lo ≤ w.heap.size) (hn : n ≤ 1000000) :
    Calls Try.prog 56 #[.slice (some ⟨g, 0, none⟩) n c, .func (.func 57) #[] #[]] w fun e w' => ∃ m, e = .returned (.slice (some ⟨g, 0, none⟩) m c) ∧ (∃ Y, OwnP w' lo (.slice (some ⟨g, 0, none⟩) m c) Y ∧ LessF Y l) ∧ Below lo w w' := by
  by_cases h2 : n < 2
  · have h2' : (n : Int) < 2 := by omega
    have HG := Lib.hid hG
    clear hG
    go_enter Try.func56, Try.ntmps56
    go_wp2
    go_ret
    exact ⟨_, rfl, ⟨l, HG.out, LessF.refl l⟩, Below.refl _ _⟩
  · have h2' : ¬ (n : Int) < 2 := by omega
    have hnc : n ≤ c := by
      obtain ⟨A0, c0, hv, q1, -⟩ := hG.slice
      injection hv with v1 v2 v3
      omega
    have HG := Lib.hid hG
    have HL := Lib.hid hlen
    clear hG hlen
    go_enter Try.func56, Try.ntmps56
    go_wp2
    go_loopw [5] (fun i wr0 => ∃ (wr : World) (k : Nat), wr = wr0 ∧ k < n ∧ i = .int .i64 ((k : Int) + 1) ∧ Below lo w wr ∧ Hid (OwnP wr lo (.slice (some ⟨g, 0, none⟩) n c) l)) (fun i _ => n - (intOf i).toNat)
    case atStart => exact ⟨_, 0, rfl, by omega, rfl, Below.refl _ _, HG⟩
    case round =>
      obtain ⟨wr, m, rfl, hk, rfl, hB, hH⟩ := hrel
      by_cases hlt : m + 1 < n
      · obtain ⟨p, hp⟩ : ∃ p, l[m]? = some p := ⟨_, List.getElem?_eq_getElem (by have := HL.out; omega)⟩
        obtain ⟨q, hq⟩ : ∃ q, l[m + 1]? = some q := ⟨_, List.getElem?_eq_getElem (by have := HL.out; omega)⟩
        obtain ⟨⟨xp, op, sp, zp, ap, np, cp⟩, ⟨xq, oq, sq, zq, aq, nq, cq⟩, hA, hBq, ⟨c0, c1, c2, c3, c4⟩, ⟨d0, d1, d2, d3, d4⟩, -⟩ := hH.out.swap hp hq
        obtain ⟨⟨r1, r2, r3, r4⟩, -⟩ := hA
        obtain ⟨⟨t1, t2, t3, t4⟩, -⟩ := hBq
        dsimp only at c0 c1 c2 c3 c4 d0 d1 d2 d3 d4 r1 r2 r3 r4 t1 t2 t3 t4
        have cC := fun (w' : World) => ordered2_any q p aq nq cq ap np cp w'
        have hSt := fun (h : (q.nm.toList == p.nm.toList) = true) => Cmp.start hp hq h
        rw [← r1, ← t1] at hSt
        rw [← r1, ← r2, ← r3, ← r4, ← t1, ← t2, ← t3, ← t4] at cC
        have hgl := (hH.out.lt g rfl).2
        have hBd : Below wr.heap.size wr wr.drew := (Below.refl _ _).drew
        have hwr : IntKind.i64.wrap ((m : Int) + 1 - 1) = (m : Int) := by rw [IntKind.wrap_i64]; omega
        have hwr2 : IntKind.i64.wrap (m : Int) = (m : Int) := by rw [IntKind.wrap_i64]; omega
        have hk0 : 0 ≤ (m : Int) := by omega
        have hk1 : 0 ≤ (m : Int) + 1 := by omega
        have hkN : (m : Int) + 1 < (n : Int) := by omega
        have hkN0 : (m : Int) < (n : Int) := by omega
        clear r1 r2 r3 r4 t1 t2 t3 t4
        cases hcmp : (xq.toList == xp.toList) with
        | false =>
          rw [hcmp] at cC
          clear hSt hp hq hcmp
          go_wp2_with fail
          go_region_held3 (fun w' => w'.cell? ⟨g, m * 5, none⟩ = some (.string xp) ∧ w'.cell? ⟨g, m * 5 + 1, none⟩ = some (.int .i64 op) ∧ w'.cell? ⟨g, m * 5 + 1 + 1, none⟩ = some (.string sp) ∧ w'.cell? ⟨g, m * 5 + 1 + 1 + 1, none⟩ = some (.int .i64 zp) ∧ w'.cell? ⟨g, m * 5 + 1 + 1 + 1 + 1, none⟩ = some (.slice ap np cp) ∧ w'.cell? ⟨g, (m + 1) * 5, none⟩ = some (.string xq) ∧ w'.cell? ⟨g, (m + 1) * 5 + 1, none⟩ = some (.int .i64 oq) ∧ w'.cell? ⟨g, (m + 1) * 5 + 1 + 1, none⟩ = some (.string sq) ∧ w'.cell? ⟨g, (m + 1) * 5 + 1 + 1 + 1, none⟩ = some (.int .i64 zq) ∧ w'.cell? ⟨g, (m + 1) * 5 + 1 + 1 + 1 + 1, none⟩ = some (.slice aq nq cq))
            (first | go_keep | (exact ⟨(B4.cell hgl).trans c0, (B4.cell hgl).trans c1, (B4.cell hgl).trans c2, (B4.cell hgl).trans c3, (B4.cell hgl).trans c4, (B4.cell hgl).trans d0, (B4.cell hgl).trans d1, (B4.cell hgl).trans d2, (B4.cell hgl).trans d3, (B4.cell hgl).trans d4⟩))
            (first | (go_at_call 57; ((with_reducible refine (cC _).mono ?_); rintro e w4 ⟨rfl, hb4⟩; have B4 := bel_trans hBd hb4)))
          all_goals go_wp2
          all_goals go_roundw
          case rel => exact ⟨_, m + 1, rfl, by omega, by go_num, hB.trans (B4.mono (by have := hB.size; omega)), Lib.hid (hH.out.below B4)⟩
          case measure => simp [intOf]; omega
        | true =>
          rw [hcmp] at cC
          have hSt2 := Lib.hid (hSt (by rw [hcmp]))
          clear hSt hp hq hcmp
          have hne : ¬ n = m + 1 := by omega
          have hneC : ¬ c = m + 1 := by omega
          have hle : (m : Int) + 1 ≤ (n : Int) := by omega
          go_wp2_with fail
          go_region_held3 (fun w' => w'.cell? ⟨g, m * 5, none⟩ = some (.string xp) ∧ w'.cell? ⟨g, m * 5 + 1, none⟩ = some (.int .i64 op) ∧ w'.cell? ⟨g, m * 5 + 1 + 1, none⟩ = some (.string sp) ∧ w'.cell? ⟨g, m * 5 + 1 + 1 + 1, none⟩ = some (.int .i64 zp) ∧ w'.cell? ⟨g, m * 5 + 1 + 1 + 1 + 1, none⟩ = some (.slice ap np cp) ∧ w'.cell? ⟨g, (m + 1) * 5, none⟩ = some (.string xq) ∧ w'.cell? ⟨g, (m + 1) * 5 + 1, none⟩ = some (.int .i64 oq) ∧ w'.cell? ⟨g, (m + 1) * 5 + 1 + 1, none⟩ = some (.string sq) ∧ w'.cell? ⟨g, (m + 1) * 5 + 1 + 1 + 1, none⟩ = some (.int .i64 zq) ∧ w'.cell? ⟨g, (m + 1) * 5 + 1 + 1 + 1 + 1, none⟩ = some (.slice aq nq cq))
            (first | go_keep | (exact ⟨(B4.cell hgl).trans c0, (B4.cell hgl).trans c1, (B4.cell hgl).trans c2, (B4.cell hgl).trans c3, (B4.cell hgl).trans c4, (B4.cell hgl).trans d0, (B4.cell hgl).trans d1, (B4.cell hgl).trans d2, (B4.cell hgl).trans d3, (B4.cell hgl).trans d4⟩))
            (first | (go_at_call 57; ((with_reducible refine (cC _).mono ?_); rintro e w4 ⟨rfl, hb4⟩; have B4 := bel_trans hBd hb4)))
          have HH := Lib.hid (hH.out.below B4)
          have hB4 : Below lo w w4 := hB.trans (B4.mono (by have := hB.size; omega))
          clear hH c0 c1 c2 c3 c4 d0 d1 d2 d3 d4 hgl
          go_wp2
          go_loopw [5, 7] (fun kk jj wr0 => ∃ (w2 : World) (k i : Nat) (Z : List Pr), w2 = wr0 ∧ kk = .int .i64 (k : Int) ∧ jj = .int .i64 ((i : Int) + 1) ∧ m + 2 + i ≤ n ∧ Below lo w w2 ∧ Hid (OwnP w2 lo (.slice (some ⟨g, 0, none⟩) n c) Z ∧ Cmp l Z k (m + 2 + i))) (fun kk jj _ => n - (intOf jj).toNat)
          case atStart => exact ⟨_, m + 1, 0, l, rfl, by go_num, rfl, by omega, hB4, Lib.hid ⟨HH.out, hSt2.out⟩⟩
          case round =>
            clear HH hSt2 HG cC hBd
            obtain ⟨w2, k, i, Z, rfl, rfl, rfl, hjn, hB2, hI⟩ := hrel
            have hkj := hI.out.2.kj
            by_cases hlt2 : m + 2 + i < n
            · have hZl : Z.length = n := hI.out.2.len.trans HL.out.symm
              obtain ⟨p, hp⟩ : ∃ p, Z[m + 1 + i]? = some p := ⟨_, List.getElem?_eq_getElem (by omega)⟩
              obtain ⟨q, hq⟩ : ∃ q, Z[m + 1 + i + 1]? = some q := ⟨_, List.getElem?_eq_getElem (by omega)⟩
              obtain ⟨⟨xp, op, sp, zp, ap, np, cp⟩, ⟨xq, oq, sq, zq, aq, nq, cq⟩, hA, hBq, ⟨c0, c1, c2, c3, c4⟩, ⟨d0, d1, d2, d3, d4⟩, -⟩ := hI.out.1.swap hp hq
              have HBq := Lib.hid hBq
              obtain ⟨⟨r1, r2, r3, r4⟩, -⟩ := hA
              obtain ⟨⟨t1, t2, t3, t4⟩, -⟩ := hBq
              dsimp only at c0 c1 c2 c3 c4 d0 d1 d2 d3 d4 r1 r2 r3 r4 t1 t2 t3 t4
              have cC := fun (w' : World) => ordered2_any q p aq nq cq ap np cp w'
              have hlp : l[m + 2 + i - 1]? = some p := by rw [← hI.out.2.rest (m + 2 + i - 1) (by omega), ← hp]; congr 1; omega
              have hlq : l[m + 2 + i]? = some q := by rw [← hI.out.2.rest (m + 2 + i) (by omega), ← hq]; congr 1; omega
              have hSa := fun (h : (q.nm.toList == p.nm.toList) = true) => hI.out.2.same hlp hlq h
              have hOt := Lib.hid (hI.out.2.other hlq)
              rw [← r1, ← t1] at hSa
              rw [← r1, ← r2, ← r3, ← r4, ← t1, ← t2, ← t3, ← t4] at cC
              rw [show (m + 1 + i) * 5 = (m + 1) * 5 + i * 5 by omega] at c0 c1 c2 c3 c4
              rw [show (m + 1 + i + 1) * 5 = (m + 1) * 5 + (i + 1) * 5 by omega] at d0 d1 d2 d3 d4
              have hgl := (hI.out.1.lt g rfl).2
              have HO := Lib.hid hI.out.1
              have hBd : Below w2.heap.size w2 w2.drew := (Below.refl _ _).drew
              have hwr3 : IntKind.i64.wrap ((i : Int) + 1 - 1) = (i : Int) := by rw [IntKind.wrap_i64]; omega
              have hwr4 : IntKind.i64.wrap (i : Int) = (i : Int) := by rw [IntKind.wrap_i64]; omega
              have hi0 : 0 ≤ (i : Int) := by omega
              have hi1 : 0 ≤ (i : Int) + 1 := by omega
              have hiN : (i : Int) + 1 < ((n - (m + 1) : Nat) : Int) := by omega
              have hiN0 : (i : Int) < ((n - (m + 1) : Nat) : Int) := by omega
              have hkn0 : 0 ≤ (k : Int) := by omega
              have hknN : (k : Int) < (n : Int) := by omega
              clear r1 r2 r3 r4 t1 t2 t3 t4 hwr hwr2
              cases hcmp : (xq.toList == xp.toList) with
              | true =>
                rw [hcmp] at cC
                have hS := Lib.hid (hSa (by rw [hcmp]))
                clear hSa hOt hI hp hq hlp hlq hcmp
                go_wp2_with fail
                go_region_held3 (fun w' => w'.cell? ⟨g, (m + 1) * 5 + i * 5, none⟩ = some (.string xp) ∧ w'.cell? ⟨g, (m + 1) * 5 + i * 5 + 1, none⟩ = some (.int .i64 op) ∧ w'.cell? ⟨g, (m + 1) * 5 + i * 5 + 1 + 1, none⟩ = some (.string sp) ∧ w'.cell? ⟨g, (m + 1) * 5 + i * 5 + 1 + 1 + 1, none⟩ = some (.int .i64 zp) ∧ w'.cell? ⟨g, (m + 1) * 5 + i * 5 + 1 + 1 + 1 + 1, none⟩ = some (.slice ap np cp) ∧ w'.cell? ⟨g, (m + 1) * 5 + (i + 1) * 5, none⟩ = some (.string xq) ∧ w'.cell? ⟨g, (m + 1) * 5 + (i + 1) * 5 + 1, none⟩ = some (.int .i64 oq) ∧ w'.cell? ⟨g, (m + 1) * 5 + (i + 1) * 5 + 1 + 1, none⟩ = some (.string sq) ∧ w'.cell? ⟨g, (m + 1) * 5 + (i + 1) * 5 + 1 + 1 + 1, none⟩ = some (.int .i64 zq) ∧ w'.cell? ⟨g, (m + 1) * 5 + (i + 1) * 5 + 1 + 1 + 1 + 1, none⟩ = some (.slice aq nq cq))
                  (first | go_keep | (exact ⟨(B5.cell hgl).trans c0, (B5.cell hgl).trans c1, (B5.cell hgl).trans c2, (B5.cell hgl).trans c3, (B5.cell hgl).trans c4, (B5.cell hgl).trans d0, (B5.cell hgl).trans d1, (B5.cell hgl).trans d2, (B5.cell hgl).trans d3, (B5.cell hgl).trans d4⟩))
                  (first | (go_at_call 57; ((with_reducible refine (cC _).mono ?_); rintro e w5 ⟨rfl, hb5⟩; have B5 := bel_trans hBd hb5)))
                go_wp2
                go_roundw
                case rel => exact ⟨_, k, i + 1, Z, rfl, rfl, by go_num, by omega, hB2.trans (B5.mono (by have := hB2.size; omega)), Lib.hid ⟨HO.out.below B5, hS.out⟩⟩
                case measure => simp [intOf]; omega
              | false =>
                rw [hcmp] at cC
                clear hSa hI hp hq hlp hlq hcmp
                go_wp2_with fail
                go_region_held3 (fun w' => w'.cell? ⟨g, (m + 1) * 5 + i * 5, none⟩ = some (.string xp) ∧ w'.cell? ⟨g, (m + 1) * 5 + i * 5 + 1, none⟩ = some (.int .i64 op) ∧ w'.cell? ⟨g, (m + 1) * 5 + i * 5 + 1 + 1, none⟩ = some (.string sp) ∧ w'.cell? ⟨g, (m + 1) * 5 + i * 5 + 1 + 1 + 1, none⟩ = some (.int .i64 zp) ∧ w'.cell? ⟨g, (m + 1) * 5 + i * 5 + 1 + 1 + 1 + 1, none⟩ = some (.slice ap np cp) ∧ w'.cell? ⟨g, (m + 1) * 5 + (i + 1) * 5, none⟩ = some (.string xq) ∧ w'.cell? ⟨g, (m + 1) * 5 + (i + 1) * 5 + 1, none⟩ = some (.int .i64 oq) ∧ w'.cell? ⟨g, (m + 1) * 5 + (i + 1) * 5 + 1 + 1, none⟩ = some (.string sq) ∧ w'.cell? ⟨g, (m + 1) * 5 + (i + 1) * 5 + 1 + 1 + 1, none⟩ = some (.int .i64 zq) ∧ w'.cell? ⟨g, (m + 1) * 5 + (i + 1) * 5 + 1 + 1 + 1 + 1, none⟩ = some (.slice aq nq cq))
                  (first | go_keep | (exact ⟨(B5.cell hgl).trans c0, (B5.cell hgl).trans c1, (B5.cell hgl).trans c2, (B5.cell hgl).trans c3, (B5.cell hgl).trans c4, (B5.cell hgl).trans d0, (B5.cell hgl).trans d1, (B5.cell hgl).trans d2, (B5.cell hgl).trans d3, (B5.cell hgl).trans d4⟩))
                  (first | (go_at_call 57; ((with_reducible refine (cC _).mono ?_); rintro e w5 ⟨rfl, hb5⟩; have B5 := bel_trans hBd hb5)))
                have HO2 := Lib.hid (show OwnP (setU w5 g k ⟨xq, oq, sq, zq, aq, nq, cq⟩) lo (.slice (some ⟨g, 0, none⟩) n c) (Z.set k q) from by
                  have h5 := HO.out.below B5
                  exact h5.setH (k := k) (by rw [hZl]; omega) ⟨xq, oq, sq, zq, aq, nq, cq⟩ q (HBq.out.to (fun b hb => B5.block b hb.1) (fun b hb => ⟨Nat.lt_of_lt_of_le hb.1 B5.size, hb.2⟩)))
                have hX : Below lo w w5 := hB2.trans (B5.mono (by have := hB2.size; omega))
                have hX2 := Lib.hid (setU_below hX hlg k ⟨xq, oq, sq, zq, aq, nq, cq⟩)
                have e0 := (B5.cell (p := ⟨g, _, none⟩) hgl).trans d0
                have e1 := (B5.cell (p := ⟨g, _, none⟩) hgl).trans d1
                have e2 := (B5.cell (p := ⟨g, _, none⟩) hgl).trans d2
                have e3 := (B5.cell (p := ⟨g, _, none⟩) hgl).trans d3
                have e4 := (B5.cell (p := ⟨g, _, none⟩) hgl).trans d4
                have hsm := isSome_row (HO.out.below B5)
                obtain ⟨u0, k0⟩ := Option.isSome_iff_exists.1 (hsm (k * 5) (by omega))
                obtain ⟨u1, k1⟩ := Option.isSome_iff_exists.1 (hsm (k * 5 + 1) (by omega))
                obtain ⟨u2, k2⟩ := Option.isSome_iff_exists.1 (hsm (k * 5 + 2) (by omega))
                obtain ⟨u3, k3⟩ := Option.isSome_iff_exists.1 (hsm (k * 5 + 3) (by omega))
                obtain ⟨u4, k4⟩ := Option.isSome_iff_exists.1 (hsm (k * 5 + 4) (by omega))
                obtain ⟨hs9, ho9, -, -⟩ := HO.out.below B5
                have hfr := fun (i : Nat) => RowU.free (OwnU.row ho9) i
                have f0 := hfr (k * 5)
                have f1 := hfr (k * 5 + 1)
                have f2 := hfr (k * 5 + 2)
                have f3 := hfr (k * 5 + 3)
                have f4 := hfr (k * 5 + 4)
                clear c0 c1 c2 c3 c4 d0 d1 d2 d3 d4 hfr ho9 hsm
                unfold setU at HO2 hX2
                go_wp2
                go_roundw
                case rel => exact ⟨_, k + 1, i + 1, _, rfl, by go_num, by go_num, by omega, hX2.out, Lib.hid ⟨HO2.out, hOt.out⟩⟩
                case measure => simp [intOf]; omega
            · obtain rfl : n = m + 2 + i := by omega
              have hfr : ∀ j : Nat, w2.frozen? ⟨g, j, none⟩ = false := fun j => by
                obtain ⟨hs9, ho9, -, -⟩ := hI.out.1
                exact RowU.free (OwnU.row ho9) j
              have hsm := isSome_row hI.out.1
              obtain ⟨vs, hcl⟩ := clear_pairs w2 g (k * 5) (m + 2 + i - k) (c - k) (by omega) (fun j hj => hsm _ (by omega)) hfr
              have HK := Lib.hid (hI.out.1.keep k (by rw [hI.out.2.len, ← HL.out]; omega) vs)
              have HD := Lib.hid (hI.out.2.done HL.out)
              have hge2 : ¬ (i : Int) + 1 < ((m + 2 + i - (m + 1) : Nat) : Int) := by omega
              have hBc := setCells_below hlg vs (k * 5) w2 hB2
              have hkle : (k : Int) ≤ ((m + 2 + i : Nat) : Int) := by omega
              have hkn0 : 0 ≤ (k : Int) := by omega
              have hne2 : ¬ m + 2 + i = k := by omega
              have hne3 : ¬ c = k := by omega
              clear hI hfr hsm
              go_wp2
              go_ret
              exact ⟨_, rfl, ⟨_, HK.out, HD.out⟩, hBc⟩
      · have hge : ¬ (m : Int) + 1 < (n : Int) := by omega
        clear HG
        go_wp2
        go_ret
        exact ⟨_, rfl, ⟨l, hH.out, LessF.refl l⟩, hB⟩
set_option maxRecDepth 100000 in
set_option maxHeartbeats 4000000 in
/-- any pairs, put in order -/
theorem orderedU_any (l : List Pr) (A : Option Addr) (n c : Nat) (w : World) (hG : UsW w A n c l) (hn : n < 20) :
    Calls Try.prog 31 #[.slice A n c] w fun e w' => ∃ A' m C' Y, e = .returned (.slice A' m C') ∧ OwnP w' w.heap.size (.slice A' m C') Y ∧ LessF Y l ∧ Below w.heap.size w w' := by
  by_cases h1 : n < 2
  · refine (orderedU_inc l (fun k p q h1 h2 => ?_) A n c w hG hn).mono ?_
    · have := (List.getElem?_eq_some_iff.1 h2).1
      have := hG.1
      omega
    · rintro e w' ⟨A', C', rfl, ho, hb⟩
      exact ⟨A', n, C', l, rfl, ho, LessF.refl l, hb⟩
  · have cC := cloneU_any A n c l w hG (by omega)
    have hl : n = l.length := hG.1
    have HL := Lib.hid hl
    have HS := Lib.hid (show ∀ (g C' : Nat) (W : World), OwnP W w.heap.size (.slice (some ⟨g, 0, none⟩) n C') l → w.heap.size ≤ g → w.heap.size ≤ W.heap.size → _ from fun g C' W h h1 h2 => sortU_any l w.heap.size g n C' W h hl h1 h2 hn)
    have HK := Lib.hid (show ∀ (X : List Pr) (g C' : Nat) (W : World), OwnP W w.heap.size (.slice (some ⟨g, 0, none⟩) n C') X → n = X.length → w.heap.size ≤ g → w.heap.size ≤ W.heap.size → _ from fun X g C' W h hl h1 h2 => compactU_any X w.heap.size g n C' W h hl h1 h2 (by omega))
    clear hG hl
    go_enter Try.func31, Try.ntmps31
    go_wp2_with (first
      | (go_at_call 53; ((with_reducible refine cC.mono ?_); rintro e w1 ⟨v, rfl, ho, hb1⟩; obtain ⟨A', C', hv, -, -, -, hpos⟩ := ho.slice; rw [← HL.out] at hv hpos; obtain ⟨g, hA', hg1, hg2⟩ := hpos (by omega); subst hA'; subst hv; have HO := Lib.hid ho; clear ho hpos; have hsO := HS.out g C' w1 HO.out hg1 hb1.size))
      | (go_at_call 54; ((with_reducible refine hsO.mono ?_); rintro e w2 ⟨⟨v2, rfl⟩, ⟨X, hX, hSX⟩, hb2⟩; have HX := Lib.hid hX; have HSX := Lib.hid hSX; clear hX hSX; have hb12 : Below w.heap.size w w2 := hb1.trans hb2; have hkO := HK.out X g C' w2 HX.out (HL.out.trans HSX.out.1.symm) hg1 hb12.size))
      | (go_at_call 56; ((with_reducible refine hkO.mono ?_); rintro e w3 ⟨m, rfl, ⟨Y, hY, hLY⟩, hb3⟩; have HY := Lib.hid hY; have HLY := Lib.hid hLY; clear hY hLY)))
    go_ret
    exact ⟨_, _, _, _, rfl, HY.out, HLY.out.same HSX.out, hb12.trans hb3⟩
end Go.Proofs.Yteidknjhponpkaa.U
