/-
  What is proved: what package lit's Clean returns.
-/
import Derived.Test.YthchjceibpcgbaaGreatDoorZLtH
namespace Go.Proofs.YthchjceibpcgbaaGreatDoor.Lt
open Go.RowKit Go.Shelf Go.Maps Go.WideMaps L
set_option linter.unusedVariables false
set_option linter.unusedSimpArgs false

theorem Or2_any (x y : Int) (b : Nat) (W : World) (h0 : W.cell? ⟨b, 0, none⟩ = some (.int .i64 x)) (h1 : W.cell? ⟨b, 1, none⟩ = some (.int .i64 y)) :
    Calls Tryz.prog 54 #[.slice (some ⟨b, 0, none⟩) 2 2] W fun e w' => e = .returned (.int .i64 (if x ≠ 0 then x else y)) ∧ W = w' := by
  generalize hz : (if x ≠ 0 then x else y) = z
  by_cases hx : x = 0
  · subst hx
    have e : Hid (y = z) := by show _ = _; simpa using hz
    clear hz
    by_cases hy : y = 0
    · subst hy
      have q1 : ((0 : Int) != 0) = false := rfl
      go_enter Tryz.func54, Tryz.ntmps54
      go_wp2
      refine wp_loop_rounds 3 ?_
      rw [rounds_succ]
      go_wp2
      rw [rounds_succ]
      go_wp2
      rw [rounds_succ]
      go_wp2
      go_ret
      exact ⟨L.one e.out, rfl⟩
    · have q1 : ((0 : Int) != 0) = false := rfl
      have q2 : (y != 0) = true := by simp [hy]
      go_enter Tryz.func54, Tryz.ntmps54
      go_wp2
      refine wp_loop_rounds 2 ?_
      rw [rounds_succ]
      go_wp2
      rw [rounds_succ]
      go_wp2
      go_ret
      exact ⟨L.one e.out, rfl⟩
  · have e : Hid (x = z) := by show _ = _; simpa [hx] using hz
    clear hz
    have q2 : (x != 0) = true := by simp [hx]
    go_enter Tryz.func54, Tryz.ntmps54
    go_wp2
    refine wp_loop_rounds 1 ?_
    rw [rounds_succ]
    go_wp2
    go_ret
    exact ⟨L.one e.out, rfl⟩
theorem order_any (a b : Int) (W : World) : Calls Tryz.prog 53 #[.int .i64 a, .int .i64 b] W fun e w' => e = .returned (.int .i64 (cf a b)) ∧ ∃ q os', w' = Go.Sort.grow (W.drewN q) os' := by
  have ca := fun W => variable_any a W
  have cb := fun W => variable_any b W
  have c1 := fun W => cmp_int (vr a) (vr b) W
  have c2 := fun W => cmp_int a b W
  have e : Hid ((if cmpI (vr a) (vr b) ≠ 0 then cmpI (vr a) (vr b) else cmpI a b) = cf a b) := rfl
  generalize cf a b = r at *
  generalize cmpI (vr a) (vr b) = u at *
  generalize cmpI a b = v at *
  generalize vr a = x at *
  generalize vr b = y at *
  have c3 := Or2_any u v W.heap.size (W.alloc (.cells #[.int .i64 u, .int .i64 v] 3)) (by rw [World.cell?_alloc_at _ _ _ _ rfl]; rfl) (by rw [World.cell?_alloc_at _ _ _ _ rfl]; rfl)
  generalize (if u ≠ 0 then u else v) = z at *
  go_enter Tryz.func53, Tryz.ntmps53
  go_wp2_with (first
    | (go_at_call 56; ((with_reducible refine (ca _).mono ?_); rintro e1 w1 ⟨rfl, rfl⟩))
    | (go_at_call 56; ((with_reducible refine (cb _).mono ?_); rintro e1 w1 ⟨rfl, rfl⟩))
    | (go_at_call 55; ((with_reducible refine (c1 _).mono ?_); rintro e1 w1 ⟨rfl, rfl⟩))
    | (go_at_call 55; ((with_reducible refine (c2 _).mono ?_); rintro e1 w1 ⟨rfl, rfl⟩))
    | (go_at_call 54; ((with_reducible refine c3.mono ?_); rintro e1 w1 ⟨rfl, rfl⟩)))
  go_ret
  exact ⟨L.one e.out, 0, _, Go.Sort.alloc_eq_grow _ _⟩
theorem notlit_any (x : Int) (W : World) : FnGives Tryz.prog 50 #[] #[.int .i64 x] (.bool (!isL x)) W := by
  show Calls Tryz.prog 50 #[.int .i64 x] W _
  have c1 := literal_any x W
  generalize isL x = i at *
  go_enter Tryz.func50, Tryz.ntmps50
  go_wp2_with (go_at_call 51; ((with_reducible refine c1.mono ?_); rintro e1 w1 ⟨rfl, rfl⟩))
  go_ret
  exact ⟨by simp, 0, rfl⟩
theorem swo_cf : Go.Sort.SWO (ltOf cf) where
  irrefl x := by show decide (cf x x < 0) = false; rw [cf_ahd]; exact ahd_irr x
  trans x y z h1 h2 := by
    show decide (cf x z < 0) = true; rw [cf_ahd]
    exact ahd_trans (by rw [← cf_ahd]; exact h1) (by rw [← cf_ahd]; exact h2)
  ntrans x y z h1 h2 := by
    show decide (cf x z < 0) = false; rw [cf_ahd]
    exact ahd_nt (by rw [← cf_ahd]; exact h1) (by rw [← cf_ahd]; exact h2)
theorem lt_cf : ltOf cf = ahd := by funext x y; exact cf_ahd x y
theorem sort_own {w : World} {base : Nat} {A : Option Addr} {c : Nat} {X : List Int} (h : OwnI w base (.slice A X.length c) X) (hl : X.length ≤ 1000000000) :
    Calls Tryz.prog 52 #[.slice A X.length c, .func (.func 53) #[] #[]] w fun e w' => e = .returned (.tuple #[]) ∧ OwnI w' base (.slice A X.length c) (srtL X) ∧ w.grownBy w' (Value.slice A X.length c).ownBlock := by
  by_cases h0 : X = []
  · subst h0
    refine (Tryz.slices_SortFunc_none (α := Int) A c _ w).mono fun e w' ⟨he, hw⟩ => ?_
    subst hw
    have e0 : srtL [] = [] := by simp [srtL]
    rw [e0]
    exact ⟨he, h, rfl, rfl, rfl, Nat.le_refl _, fun _ _ _ => rfl⟩
  · have hp : 0 < X.length := List.length_pos_iff.2 h0
    rcases h.2 with ⟨hv, hn⟩ | ⟨g, cap, cur, hv, hb, hg, hnc, hcm, hcs, ht⟩
    · omega
    · injection hv with e1 e2 e3
      subst e1 e3
      rw [Nat.mul_one] at ht
      have hh : Go.Sort.Holds (Value.int .i64) w g 0 X.toArray := holds_of_blockI hg ht
      have eg : ∀ args w, (callFunc 53 args).run Tryz.prog w = .ok (.enter 53 args) w := enters_of Tryz.func53 (by kernel_rfl) rfl
      have hcon := Tryz.slices_SortFunc_total (α := Int) (Value.int .i64) (fun _ => rfl) cf swo_cf 53 #[] g 0 c X.toArray w eg (fun m os dk _ x y => order_any x y _) hh (Array.getElem?_eq_some_iff.1 hg).1 (by simp; omega)
        (fun x y h1 h2 => by rw [lt_cf] at h1 h2; exact ahd_tot h1 h2)
      have e0 : X.toArray.size = X.length := by simp
      rw [e0] at hcon
      refine hcon.mono fun e w' ⟨he, n, os, hw⟩ => ?_
      rw [lt_cf] at hw
      have hw2 : w' = Go.Sort.grow (Go.Sort.putRow (Value.int .i64) (Go.Sort.ahead w n) g 0 (srtL X).toArray) os := hw
      subst hw2
      refine ⟨he, ?_, grownBy_sortedI _⟩
      have := ownsRow_sortedI (ts := srtL X) (n := n) (os := os) (srtL_len X) hb hg hnc hcm hcs
      unfold OwnI
      rw [srtL_len]
      exact this
set_option maxRecDepth 100000 in
set_option maxHeartbeats 4000000 in
theorem CleanN_any (A : Option Addr) (n c : Nat) (X : List Int) (w : World) (h : SlI w A n c X) (hr : R64s X) (hn : n ≤ 1000000) :
    Calls Tryz.prog 24 #[.slice A n c] w fun e w' => ∃ A' q' c', e = .returned (.tuple #[.slice A' q' c', .bool (!opp (cl X))]) ∧ SlI w' A' q' c' (cl X) ∧ q' ≤ n ∧ Below w.heap.size w w' ∧ ∀ ad, A' = some ad → w.heap.size ≤ ad.block := by
  have eg : ∀ args w, (callFunc 50 args).run Tryz.prog w = .ok (.enter 50 args) w := enters_of Tryz.func50 (by kernel_rfl) rfl
  have c1 := without_any A n c X w h (by omega) (fun x => !isL x) 50 #[] eg (fun W x _ => notlit_any x W)
  have ef : (X.filter fun x => !(!isL x)) = X.filter isL := by simp
  rw [ef] at c1
  have hfl : (X.filter isL).length ≤ n := by rw [h.1]; exact List.length_filter_le _ _
  have hce := clean_eq X
  generalize hF : X.filter isL = F at *
  have CS := Lib.hid (fun w1 A1 c1 (ho : OwnI w1 w.heap.size (.slice A1 F.length c1) F) => sort_own ho (by omega))
  have CC := Lib.hid (fun w1 A1 c1 (ho : OwnI w1 w.heap.size (.slice A1 F.length c1) (srtL F)) => by
    have ho' : OwnI w1 w.heap.size (.slice A1 (srtL F).length c1) (srtL F) := by rw [srtL_len]; exact ho
    have := compact_own ho' (by rw [srtL_len]; omega)
    rw [srtL_len, hce] at this
    exact this)
  have hu := up_cl X
  have hcr := cl_r hr
  have hlit : ∀ y ∈ cl X, isL y = true := fun y hy => ((mem_cl X y).1 hy).2
  have hle := cl_len X
  rw [← h.1] at hle
  have hao := adj_opp hu hcr hlit
  generalize hcl : cl X = O at *
  have Hcl := Lib.hid hcl
  have Hao := Lib.hid hao
  have HF := Lib.hid hfl
  have HOr := Lib.hid hcr
  have HL := Lib.hid hle
  clear h hr eg ef hF hfl hce hu hcr hlit hle hao hcl
  go_enter Tryz.func24, Tryz.ntmps24
  go_wp2_with (first
    | (go_at_call 49; ((with_reducible refine c1.mono ?_); rintro e w1 ⟨A1, n1, k1, rfl, hn1, ho1, hb1⟩; subst hn1; have cS := CS.out w1 A1 k1 ho1; have hob1 := Lib.hid (fun q hq => (ho1.lt q hq).1); clear ho1))
    | (go_at_call 52; ((with_reducible refine cS.mono ?_); rintro e w2 ⟨rfl, ho2, hg2⟩; have B2 := hb1.grown hg2 hb1.size (fun q hq => hob1.out q hq); have cC := CC.out w2 A1 k1 ho2; have hob2 := Lib.hid (fun q hq => (ho2.lt q hq).1); clear ho2))
    | (go_at_call 57; ((with_reducible refine cC.mono ?_); rintro e w3 ⟨rfl, ho3, hg3⟩; have B3 := Lib.hid (B2.grown hg3 B2.size (fun q hq => hob2.out q hq)); have HS3 := Lib.hid ho3.sl.2.2; have HN3 := Lib.hid (fun (ad : Addr) (h : A1 = some ad) => (ho3.lt ad.block (by rw [h]; rfl)).1); clear ho3)))
  have H3 : Hid (adj O = adj (O.drop 0)) := rfl
  have HB3 := Lib.hid B3.out
  generalize hm : w3 = wS at *
  go_loopw [5] (fun i wr0 => ∃ (wr : World) (k : Nat), wr = wr0 ∧ (k + 1 ≤ O.length ∨ k = 0) ∧ i = .int .i64 ((k : Int) + 1) ∧ Hid (Below wS.heap.size wS wr) ∧ Hid (adj O = adj (O.drop k))) (fun i _ => O.length - (intOf i).toNat)
  case atStart => exact ⟨_, 0, rfl, .inr rfl, rfl, Lib.hid (Below.refl _ _), H3⟩
  case round =>
    obtain ⟨wr, k, rfl, hk, rfl, HBr, HA⟩ := hrel
    by_cases hlt : k + 1 < O.length
    · obtain ⟨b, o, x, rfl, hb, zx, hx⟩ := SlI.at HS3.out (k := k) (by omega)
      obtain ⟨b', o', y, e, -, zy, hy⟩ := SlI.at HS3.out (k := k + 1) hlt
      injection e with e
      injection e with e1 e2
      subst e1 e2
      have yx := (HBr.out.cell (p := ⟨b, _, none⟩) hb).trans zx
      have yy := (HBr.out.cell (p := ⟨b, _, none⟩) hb).trans zy
      have hdr : O.drop k = x :: y :: O.drop (k + 2) := by
        obtain ⟨h1, rfl⟩ := List.getElem?_eq_some_iff.1 hx
        obtain ⟨h2, rfl⟩ := List.getElem?_eq_some_iff.1 hy
        rw [List.drop_eq_getElem_cons h1, List.drop_eq_getElem_cons h2]
      have hdr1 : O.drop (k + 1) = y :: O.drop (k + 2) := by
        obtain ⟨h2, rfl⟩ := List.getElem?_eq_some_iff.1 hy
        rw [List.drop_eq_getElem_cons h2]
      have HA1 : Hid (adj O = ((x == wrap64 (-y)) || adj (O.drop (k + 1)))) := Lib.hid (by rw [HA.out, hdr, hdr1, w64]; rfl)
      have hOn := HL.out
      have q3 : IntKind.i64.wrap ((k : Int) + 1 - 1) = k := (wrap_id (z := (k : Int) + 1 - 1) ⟨by omega, by omega⟩).trans (by omega)
      have q4 : wrap64 ((k : Int) + 1 - 1) = k := by rw [w64]; exact q3
      have q6 : IntKind.i64.wrap (k : Int) = k := wrap_id ⟨by omega, by omega⟩
      have q7 : wrap64 (k : Int) = k := by rw [w64]; exact q6
      have hk0 : 0 ≤ (k : Int) := by omega
      have hk1 : (k : Int) < (O.length : Int) := by omega
      have hk2 : 0 ≤ (k : Int) + 1 := by omega
      have hk3 : (k : Int) + 1 < (O.length : Int) := by omega
      have q5 : ((k : Int) + 1).toNat = k + 1 := by omega
      clear zx zy hx hy hdr hdr1 HA
      cases hc : (x == wrap64 (-y))
      · rw [hc] at HA1
        go_wp2
        go_quiet (fail)
        go_wp2
        go_roundw
        case rel => exact ⟨_, k + 1, rfl, by omega, by go_num, Lib.hid (below_drewN HBr.out _), Lib.hid (by rw [HA1.out]; rfl)⟩
        case measure => simp [intOf]; omega
      · have hop : Hid ((!opp O) = false) := Lib.hid (by rw [← Hao.out, HA1.out, hc]; rfl)
        go_wp2
        go_quiet (fail)
        go_wp2
        go_ret2
        have hBf := below_drewN HBr.out
        exact ⟨_, O.length, k1, by rw [hop.out]; rfl, HS3.out.below (hBf _), HL.out, HB3.out.trans ((hBf _).mono HB3.out.size), HN3.out⟩
    · have hop : Hid ((!opp O) = true) := Lib.hid (by
        rw [← Hao.out, HA.out]
        have : (O.drop k).length ≤ 1 := by rw [List.length_drop]; omega
        match hd : O.drop k, this with
        | [], _ => rfl
        | [x], _ => rfl)
      have hgd : decide ((k : Int) + 1 < (O.length : Int)) = false := decide_eq_false (by omega)
      clear HA
      go_wp2
      go_ret2
      exact ⟨_, O.length, k1, by rw [hop.out]; rfl, HS3.out.below HBr.out, HL.out, HB3.out.trans (HBr.out.mono HB3.out.size), HN3.out⟩
theorem Clean_any (A : Option Addr) (n c : Nat) (X : List Int) (w : World) (h : SlI w A n c X) (hr : R64s X) (hn : n ≤ 1000000) :
    Calls Tryz.prog 24 #[.slice A n c] w fun e w' => ∃ A' q' c', e = .returned (.tuple #[.slice A' q' c', .bool (!opp (cl X))]) ∧ SlI w' A' q' c' (cl X) ∧ q' ≤ n ∧ Below w.heap.size w w' :=
  (CleanN_any A n c X w h hr hn).mono fun e w' ⟨A', q', c', h1, h2, h3, h4, _⟩ => ⟨A', q', c', h1, h2, h3, h4⟩
end Go.Proofs.YthchjceibpcgbaaGreatDoor.Lt
