/-
  What is proved: the document's Any of layer 11.
-/
import Derived.Test.YtnodcpifbcabmaaZMtPa
import Derived.Test.YtnodcpifbcabmaaZMtZb
import Derived.Test.YtnodcpifbcabmaaZMtP
import Derived.Test.YtnodcpifbcabmaaZMtH
import Derived.Deep.RegionHeld3
namespace Go.Proofs.Ytnodcpifbcabmaa.Mt
open Go.RowKit L T C B U
set_option linter.unusedVariables false
set_option linter.unusedSimpArgs false

/-- what a part gives, or the rest -/
theorem pick_no {X : List ByteArray} {p u : Tm} {l : List Tm} {k : Nat} (h : l[k]? = some u) (hn : pickF X p u = none) : pick X p (l.drop k) = pick X p (l.drop (k + 1)) := by
  rw [pick_step h, hn]; rfl
theorem pick_yes {X : List ByteArray} {p u : Tm} {l : List Tm} {k : Nat} {r : Tm × List Pr} (h : l[k]? = some u) (hn : pickF X p u = some r) : pick X p (l.drop k) = some r := by
  rw [pick_step h, hn]; rfl
theorem pickF_bd {X : List ByteArray} {p u : Tm} (h : bdT u = true) : pickF X p u = none := by unfold pickF; rw [if_pos h]
theorem pickF_mat {X : List ByteArray} {p u : Tm} (h : bdT u = false) : pickF X p u = (mat X p [] u).map (fun l => (u, l)) := by unfold pickF; rw [if_neg (by rw [h]; simp)]
/-- a row of parts at a place -/
theorem row_at {B : Nat} {w0 w : World} {lo n c k : Nat} {A : Option Addr} {pts : List (Pt B w0)} (h : OwnT w lo (.slice A n c) (pts.map hdM)) (hk : k < n) :
    ∃ g, ∃ x : Pt B w0, A = some ⟨g, 0, none⟩ ∧ g < w.heap.size ∧ w.cell? ⟨g, k * 4, none⟩ = some (.int .i64 (opT x.t)) ∧ w.cell? ⟨g, k * 4 + 1, none⟩ = some (.string (nameT x.t)) ∧ w.cell? ⟨g, k * 4 + 1 + 1, none⟩ = some (.int .i64 (numT x.t)) ∧ w.cell? ⟨g, k * 4 + 1 + 1 + 1, none⟩ = some (.slice x.a x.n x.c) ∧ (pts.map Pt.t)[k]? = some x.t := by
  obtain ⟨A', c', hv, h1, h2, h3, h4⟩ := h.slice
  injection hv with e1 e2 e3
  subst e1 e2 e3
  obtain ⟨g, rfl, hb, hlt⟩ := h4 (by omega)
  obtain ⟨c0, c1, c2, c3⟩ := h.at hk
  have hk2 : k < pts.length := by simpa using hk
  simp only [List.getElem_map] at c0 c1 c2 c3
  exact ⟨g, pts[k], rfl, hlt, c0, c1, c2, c3, by rw [List.getElem?_map, List.getElem?_eq_getElem hk2]; rfl⟩
set_option maxRecDepth 100000 in
set_option maxHeartbeats 16000000 in
theorem RefAny_any (X : List ByteArray) (p t : Tm) (a : Option Addr) (n c : Nat) (a' : Option Addr) (n' c' : Nat) (aX : Option Addr) (nX cX : Nat) (w : World) (hsp : size p ≤ 1000000) (hst : size t ≤ 1000000) (hP : ArW w p a n c) (hT : ArW w t a' n' c') (hX : IsS w aX nX X) (hnX : nX ≤ 9223372036854775807) :
    Calls Try.prog 39 #[.agg #[.int .i64 (opT p), .string (nameT p), .int .i64 (numT p), .slice a n c], .agg #[.int .i64 (opT t), .string (nameT t), .int .i64 (numT t), .slice a' n' c'], .slice aX nX cX] w fun e w' => RtAny (pick X p (all t)) w e w' := by
  obtain ⟨W3, hW3, hB3, hs3, SP, ST, SR⟩ := box3 w (opT p) (nameT p) (numT p) a n c (opT t) (nameT t) (numT t) a' n' c' 0 ⟨#[]⟩ 0 none 0 0
  have gP := ArW.b hP hB3
  have gX := hX.below hB3
  have hlo := hB3.size
  have cPa := Parts_any t w.heap.size w W3.heap.size [] (.slice none 0 0) a' n' c' W3 (by simpa using hst) hlo (Nat.le_refl _) hB3 hT (OwnT.nil _ _)
  have HRow := Lib.hid (show ∀ (w1 : World) (v' : Value) (pts' : List (Pt w.heap.size w)), pts'.map Pt.t = putsT ([] : List Tm) (all t) → OwnT w1 W3.heap.size v' (pts'.map hdM) → Gq W3 w1 (.slice none 0 0) v' → ∃ A N C, v' = .slice A N C ∧ N ≤ 9223372036854775807 ∧ N = (putsT [] (all t)).length ∧ OwnT w1 W3.heap.size (.slice A N C) (pts'.map hdM) ∧ Below W3.heap.size W3 w1 from fun w1 v' pts' h1 h2 h3 => by
    obtain ⟨A, C, hv⟩ := own_val h2
    have hb : Below W3.heap.size W3 w1 := (Below.refl _ _).grown h3.1 (Nat.le_refl _) (fun q hq => by cases hq)
    subst hv
    have hn := h2.slice
    obtain ⟨A', C', hv, hc1, hc2, _⟩ := hn
    refine ⟨A, _, C, rfl, by unfold maxLen at hc2; omega, by rw [len_pts, ← h1, List.length_map], h2, hb⟩)
  obtain ⟨LL, hLL⟩ : ∃ LL, putsT [] (all t) = LL := ⟨_, rfl⟩
  have hst0 : ∀ k u, LL[k]? = some u → pickF X p u = none → pick X p (LL.drop k) = pick X p (LL.drop (k + 1)) := fun k u h hn => pick_no h hn
  have hys0 : ∀ k u r, LL[k]? = some u → pickF X p u = some r → pick X p (LL.drop k) = some r := fun k u r h hn => pick_yes h hn
  have he0 : ∀ k, LL.length ≤ k → pick X p (LL.drop k) = none := fun k h => by rw [List.drop_eq_nil_of_le h]; rfl
  have h00 : pick X p (LL.drop 0) = pick X p (all t) := by rw [List.drop_zero, ← hLL, pick_parts]
  rw [List.map_nil] at cPa
  rw [hLL] at cPa HRow
  have cTm := fun (u : Tm) (A : Option Addr) (N C : Nat) (w' : World) (h : ArW w' u A N C) (hb : Below W3.heap.size W3 w') => Term11_any X p u a n c A N C aX nX cX w' hsp (ArW.b gP hb) h (gX.below hb) hnX
  have HP := Lib.hid SP
  have HR := Lib.hid SR
  have HFin := Lib.hid (show ∀ (w5 : World) (x : Pt w.heap.size w) (l' : List Pr) (A : Option Addr) (N C : Nat), pick X p (all t) = some (x.t, l') → mat X p [] x.t = some l' → UsW w5 A N C l' → Below W3.heap.size W3 w5 → ∀ v0 v1 v2 v3, RtAny (pick X p (all t)) w (.returned (.tuple #[.agg #[.int .i64 (opT x.t), .string (nameT x.t), .int .i64 (numT x.t), .slice x.a x.n x.c], .slice A N C, .bool true])) ((((w5.setCell ⟨w.heap.size + 2, 0, none⟩ v0).setCell ⟨w.heap.size + 2, 1, none⟩ v1).setCell ⟨w.heap.size + 2, 2, none⟩ v2).setCell ⟨w.heap.size + 2, 3, none⟩ v3) from fun w5 x l' A N C h1 h2 h3 hb v0 v1 v2 v3 => by
    have hbb := put_below (g := w.heap.size + 2) (bel_trans hB3 hb) (by omega) v0 v1 v2 v3
    rw [h1]
    exact ⟨x.a, x.n, x.c, A, N, C, rfl, ArW.b (show ArW w x.t x.a x.n x.c from x.ok) hbb, us_put (away_term (TBox.b HR.out hb)) (mat_nz X p [] x.t l' h2 (fun q hq => by cases hq)) h3 v0 v1 v2 v3, hbb⟩)
  have HNo := Lib.hid (show ∀ (w5 : World), pick X p (all t) = none → Below W3.heap.size W3 w5 → ∀ v0 v1 v2 v3, RtAny (pick X p (all t)) w (.returned (.tuple #[.agg #[.int .i64 0, .string ⟨#[]⟩, .int .i64 0, .slice none 0 0], .slice none 0 0, .bool false])) ((((w5.setCell ⟨w.heap.size + 2, 0, none⟩ v0).setCell ⟨w.heap.size + 2, 1, none⟩ v1).setCell ⟨w.heap.size + 2, 2, none⟩ v2).setCell ⟨w.heap.size + 2, 3, none⟩ v3) from fun w5 h1 hb v0 v1 v2 v3 => by
    have hbb := put_below (g := w.heap.size + 2) (bel_trans hB3 hb) (by omega) v0 v1 v2 v3
    rw [h1]
    exact ⟨none, 0, 0, none, 0, 0, rfl, by show Ar _ _ (.mk 0 ⟨#[]⟩ 0 []) _ _ _; rw [Ar]; exact ⟨rfl, Nat.le_refl _, Nat.zero_le _, fun _ => rfl, fun h => absurd h (by omega)⟩, UsW.nil _, hbb⟩)
  have HLo := Lib.hid hlo
  have HB3 := Lib.hid hB3
  have Hst := Lib.hid hst0
  have Hys := Lib.hid hys0
  have He := Lib.hid he0
  have H00 := Lib.hid h00
  have HcT := Lib.hid cTm
  obtain ⟨t0, t1, t2, t3⟩ := ST.four
  clear gP gX hP hT hX hLL hst0 hys0 he0 h00 cTm SP ST SR hs3 hlo
  obtain ⟨G, hG⟩ : ∃ G : Nat → Option (Tm × List Pr), ∀ k, pick X p (LL.drop k) = G k := ⟨_, fun _ => rfl⟩
  simp only [hG] at Hst Hys He H00
  generalize hPK : pick X p (all t) = PK at *
  clear hG
  generalize opT t = ot at *
  generalize nameT t = mt at *
  generalize numT t = zt at *
  go_enter Try.func39, Try.ntmps39
  go_wp2_with (go_at_call 76; ((with_reducible refine cPa.mono ?_); rintro e w1 ⟨v1, pts, rfl, hp1, ho1, hg1⟩; obtain ⟨A1, N1, C1, rfl, hN1, hNl, ho1, hB1⟩ := HRow.out w1 v1 pts hp1 ho1 hg1; have HO1 := Lib.hid ho1; have HNl := Lib.hid hNl; have Hp1 := Lib.hid hp1; clear ho1 hg1 hNl hp1))
  go_loopw [10] (fun i wr0 => ∃ (wr : World) (k : Nat), wr = wr0 ∧ k ≤ N1 ∧ i = .int .i64 k ∧ Below w1.heap.size w1 wr ∧ Hid (G k = PK)) (fun i _ => N1 - (intOf i).toNat)
  case atStart => exact ⟨_, 0, rfl, by omega, rfl, Below.refl _ _, H00⟩
  case round =>
    obtain ⟨wr, k, rfl, hk, rfl, hB, hR⟩ := hrel
    have hB31 := bel_trans hB1 hB
    have R3 := TBox.b HR.out hB31
    obtain ⟨r0, r1, r2, r3⟩ := R3.free
    obtain ⟨v0, v1, v2, v3⟩ := R3.four
    by_cases hlt : k < N1
    · obtain ⟨g, x, rfl, hb, y0', y1', y2', y3', hx⟩ := row_at HO1.out hlt
      rw [Hp1.out] at hx
      have y0 := (hB.cell (p := ⟨g, _, none⟩) hb).trans y0'
      have y1 := (hB.cell (p := ⟨g, _, none⟩) hb).trans y1'
      have y2 := (hB.cell (p := ⟨g, _, none⟩) hb).trans y2'
      have y3 := (hB.cell (p := ⟨g, _, none⟩) hb).trans y3'
      have hbr : g < wr.heap.size := Nat.lt_of_lt_of_le hb hB.size
      have hAx : ∀ w', Below wr.heap.size wr w' → ArW w' x.t x.a x.n x.c := fun w' h => ArW.b (show ArW w x.t x.a x.n x.c from x.ok) (bel_trans HB3.out (bel_trans hB31 h))
      have cb := Bound_any x.t x.a x.n x.c wr (hAx wr (Below.refl _ _))
      have ct := fun (w' : World) (h : Below wr.heap.size wr w') => HcT.out x.t x.a x.n x.c w' (hAx w' h) (bel_trans hB31 h)
      have hk0 : 0 ≤ (k : Int) := by omega
      have hk1 : (k : Int) < (N1 : Int) := by omega
      unfold RtPs at ct
      clear y0' y1' y2' y3' cPa
      cases hbd : bdT x.t with
      | true =>
        have hnew : Hid (G (k + 1) = PK) := Lib.hid (by rw [← hR.out]; exact (Hst.out k x.t hx (pickF_bd hbd)).symm)
        rw [hbd] at cb
        clear ct hAx hR hx Hst Hys HFin HNo HcT hbd R3
        generalize opT x.t = op' at *
        generalize nameT x.t = nm' at *
        generalize numT x.t = nu' at *
        go_wp2_with (go_at_call 77; ((with_reducible refine cb.mono ?_); rintro e w4 ⟨rfl, hb4⟩))
        go_roundw
        case rel => exact ⟨_, k + 1, rfl, by omega, by go_num, bel_trans hB hb4, hnew⟩
        case measure => simp [intOf]; omega
      | false =>
        have hpf := pickF_mat (X := X) (p := p) hbd
        rw [hbd] at cb
        obtain ⟨p0, p1, p2, p3⟩ := (TBox.b HP.out hB31).four
        have lP := Blk.lt (TBox.b HP.out hB31)
        cases hmm : mat X p [] x.t with
        | none =>
          rw [hmm] at ct hpf
          have hnew : Hid (G (k + 1) = PK) := Lib.hid (by rw [← hR.out]; exact (Hst.out k x.t hx hpf).symm)
          clear hAx hR hx Hst Hys HFin HNo HcT hbd R3 hpf hmm
          generalize opT x.t = op' at *
          generalize nameT x.t = nm' at *
          generalize numT x.t = nu' at *
          generalize opT p = op at *
          generalize nameT p = nm at *
          generalize numT p = nz at *
          go_wp2_with (go_at_call 77; ((with_reducible refine cb.mono ?_); rintro e w4 ⟨rfl, hb4⟩))
          have hbd4 : Below wr.heap.size wr w4.drew := hb4.drew
          have HbD := Lib.hid (show ∀ w', Below w4.heap.size w4 w' → w'.cell? ⟨w.heap.size, 0, none⟩ = some (.int .i64 op) ∧ w'.cell? ⟨w.heap.size, 1, none⟩ = some (.string nm) ∧ w'.cell? ⟨w.heap.size, 2, none⟩ = some (.int .i64 nz) ∧ w'.cell? ⟨w.heap.size, 3, none⟩ = some (.slice a n c) ∧ w'.cell? ⟨g, k * 4, none⟩ = some (.int .i64 op') ∧ w'.cell? ⟨g, k * 4 + 1, none⟩ = some (.string nm') ∧ w'.cell? ⟨g, k * 4 + 1 + 1, none⟩ = some (.int .i64 nu') ∧ w'.cell? ⟨g, k * 4 + 1 + 1 + 1, none⟩ = some (.slice x.a x.n x.c) from fun w' h => by
            have hz := bel_trans hb4 h
            exact ⟨(hz.cell lP).trans p0, (hz.cell lP).trans p1, (hz.cell lP).trans p2, (hz.cell lP).trans p3, (hz.cell hbr).trans y0, (hz.cell hbr).trans y1, (hz.cell hbr).trans y2, (hz.cell hbr).trans y3⟩)
          obtain ⟨k0', k1', k2', k3', k4', k5', k6', k7'⟩ := HbD.out w4 (Below.refl _ _)
          go_region_held3 (fun w' => w'.cell? ⟨w.heap.size, 0, none⟩ = some (.int .i64 op) ∧ w'.cell? ⟨w.heap.size, 1, none⟩ = some (.string nm) ∧ w'.cell? ⟨w.heap.size, 2, none⟩ = some (.int .i64 nz) ∧ w'.cell? ⟨w.heap.size, 3, none⟩ = some (.slice a n c) ∧ w'.cell? ⟨g, k * 4, none⟩ = some (.int .i64 op') ∧ w'.cell? ⟨g, k * 4 + 1, none⟩ = some (.string nm') ∧ w'.cell? ⟨g, k * 4 + 1 + 1, none⟩ = some (.int .i64 nu') ∧ w'.cell? ⟨g, k * 4 + 1 + 1 + 1, none⟩ = some (.slice x.a x.n x.c))
            (first | (exact HbD.out _ (by first | assumption | exact Below.drew (by assumption) | exact Below.refl _ _ | exact (Below.refl _ _).drew)) | go_keep)
            (first | (go_at_call 37; ((with_reducible refine (ct _ hbd4).mono ?_); rintro e w5 ⟨A5, N5, C5, rfl, hU5, hb5⟩; have Bn : Below wr.heap.size wr w5 := bel_trans hbd4 hb5; have Bq : Below w4.heap.size w4 w5 := bel_trans ((Below.refl _ _).drew) hb5)))
          all_goals go_wp2
          all_goals go_roundw
          case rel => exact ⟨_, k + 1, rfl, by omega, by go_num, bel_trans hB Bn, hnew⟩
          case measure => simp [intOf]; omega
        | some l' =>
          rw [hmm] at ct hpf
          have hpk : PK = some (x.t, l') := by rw [← hR.out]; exact Hys.out k x.t _ hx hpf
          have hF := Lib.hid (fun w5 A N C h3 hb v0 v1 v2 v3 => HFin.out w5 x l' A N C hpk hmm h3 hb v0 v1 v2 v3)
          have F3 := Lib.hid (show ∀ w5, Below wr.heap.size wr w5 → ((w5.cell? ⟨w.heap.size + 2, 0, none⟩ = some (.int .i64 0) ∧ w5.cell? ⟨w.heap.size + 2, 1, none⟩ = some (.string ⟨#[]⟩) ∧ w5.cell? ⟨w.heap.size + 2, 2, none⟩ = some (.int .i64 0) ∧ w5.cell? ⟨w.heap.size + 2, 3, none⟩ = some (.slice none 0 0)) ∧ (w5.frozen? ⟨w.heap.size + 2, 0, none⟩ = false ∧ w5.frozen? ⟨w.heap.size + 2, 1, none⟩ = false ∧ w5.frozen? ⟨w.heap.size + 2, 2, none⟩ = false ∧ w5.frozen? ⟨w.heap.size + 2, 3, none⟩ = false)) ∧ TBox ((((w5.setCell ⟨w.heap.size + 2, 0, none⟩ (.int .i64 (opT x.t))).setCell ⟨w.heap.size + 2, 1, none⟩ (.string (nameT x.t))).setCell ⟨w.heap.size + 2, 2, none⟩ (.int .i64 (numT x.t))).setCell ⟨w.heap.size + 2, 3, none⟩ (.slice x.a x.n x.c)) (w.heap.size + 2) (opT x.t) (nameT x.t) (numT x.t) x.a x.n x.c from fun w5 h => ⟨⟨(TBox.b HR.out (bel_trans hB31 h)).four, (TBox.b HR.out (bel_trans hB31 h)).free⟩, TBox.put (TBox.b HR.out (bel_trans hB31 h)) _ _ _ _ _ _⟩)
          clear hAx hR hx Hst Hys HFin HNo HcT hbd R3 hpf hmm hpk
          generalize opT x.t = op' at *
          generalize nameT x.t = nm' at *
          generalize numT x.t = nu' at *
          generalize opT p = op at *
          generalize nameT p = nm at *
          generalize numT p = nz at *
          go_wp2_with (go_at_call 77; ((with_reducible refine cb.mono ?_); rintro e w4 ⟨rfl, hb4⟩))
          have hbd4 : Below wr.heap.size wr w4.drew := hb4.drew
          have HbD := Lib.hid (show ∀ w', Below w4.heap.size w4 w' → w'.cell? ⟨w.heap.size, 0, none⟩ = some (.int .i64 op) ∧ w'.cell? ⟨w.heap.size, 1, none⟩ = some (.string nm) ∧ w'.cell? ⟨w.heap.size, 2, none⟩ = some (.int .i64 nz) ∧ w'.cell? ⟨w.heap.size, 3, none⟩ = some (.slice a n c) ∧ w'.cell? ⟨g, k * 4, none⟩ = some (.int .i64 op') ∧ w'.cell? ⟨g, k * 4 + 1, none⟩ = some (.string nm') ∧ w'.cell? ⟨g, k * 4 + 1 + 1, none⟩ = some (.int .i64 nu') ∧ w'.cell? ⟨g, k * 4 + 1 + 1 + 1, none⟩ = some (.slice x.a x.n x.c) from fun w' h => by
            have hz := bel_trans hb4 h
            exact ⟨(hz.cell lP).trans p0, (hz.cell lP).trans p1, (hz.cell lP).trans p2, (hz.cell lP).trans p3, (hz.cell hbr).trans y0, (hz.cell hbr).trans y1, (hz.cell hbr).trans y2, (hz.cell hbr).trans y3⟩)
          obtain ⟨k0', k1', k2', k3', k4', k5', k6', k7'⟩ := HbD.out w4 (Below.refl _ _)
          go_region_held3 (fun w' => w'.cell? ⟨w.heap.size, 0, none⟩ = some (.int .i64 op) ∧ w'.cell? ⟨w.heap.size, 1, none⟩ = some (.string nm) ∧ w'.cell? ⟨w.heap.size, 2, none⟩ = some (.int .i64 nz) ∧ w'.cell? ⟨w.heap.size, 3, none⟩ = some (.slice a n c) ∧ w'.cell? ⟨g, k * 4, none⟩ = some (.int .i64 op') ∧ w'.cell? ⟨g, k * 4 + 1, none⟩ = some (.string nm') ∧ w'.cell? ⟨g, k * 4 + 1 + 1, none⟩ = some (.int .i64 nu') ∧ w'.cell? ⟨g, k * 4 + 1 + 1 + 1, none⟩ = some (.slice x.a x.n x.c))
            (first | (exact HbD.out _ (by first | assumption | exact Below.drew (by assumption) | exact Below.refl _ _ | exact (Below.refl _ _).drew)) | go_keep)
            (first | (go_at_call 37; ((with_reducible refine (ct _ hbd4).mono ?_); rintro e w5 ⟨A5, N5, C5, rfl, hU5, hb5⟩; have Bn : Below wr.heap.size wr w5 := bel_trans hbd4 hb5; have Bq : Below w4.heap.size w4 w5 := bel_trans ((Below.refl _ _).drew) hb5)))
          all_goals (
            have HU5 := Lib.hid hU5
            clear hU5
            obtain ⟨⟨⟨z0, z1, z2, z3⟩, q0, q1, q2, q3⟩, F4⟩ := F3.out _ Bn
            obtain ⟨f0, f1, f2, f3⟩ := F4.four
            have u0 := (Bn.cell hbr).trans y0
            have u1 := (Bn.cell hbr).trans y1
            have u2 := (Bn.cell hbr).trans y2
            have u3 := (Bn.cell hbr).trans y3
            clear r0 r1 r2 r3 v0 v1 v2 v3 p0 p1 p2 p3 F4
            go_wp2
            simp [bodyPost, results, Try.results39, go_sem, f0, f1, f2, f3]
            exact hF.out _ _ _ _ HU5.out (bel_trans hB31 Bn) _ _ _ _)
    · have hn := Lib.hid (fun v0 v1 v2 v3 => HNo.out wr (by rw [← hR.out]; exact He.out k (by rw [← HNl.out]; omega)) hB31 v0 v1 v2 v3)
      have F3 := TBox.put R3 0 ⟨#[]⟩ 0 none 0 0
      obtain ⟨x0, x1, x2, x3⟩ := F3.four
      clear HFin HNo hR R3 F3 HcT cPa
      go_wp2
      simp [bodyPost, results, Try.results39, go_sem, x0, x1, x2, x3]
      exact hn.out _ _ _ _
end Go.Proofs.Ytnodcpifbcabmaa.Mt
