/-
  What is proved: the sorts of some terms, by package well's checker, where each term's is known.
-/
import Derived.Test.YtacncbkcnhlpcaaZWlS
namespace Go.Proofs.Ytacncbkcnhlpcaa.Wl
open Go.RowKit L T C
open Sgn (SlG Fm Core cores SlS.nul)
set_option linter.unusedVariables false
set_option linter.unusedSimpArgs false
set_option maxRecDepth 100000

theorem RowK.b {w w' : World} {g : Nat} {D : List ByteArray} {K : List Value} (h : RowK w g D K) (hb : Below w.heap.size w w') : RowK w' g D K := L.Blk.below h hb
theorem sizes_mem {t : Tm} : ∀ {l : List Tm}, t ∈ l → size t ≤ sizes l
  | [], h => by cases h
  | x :: l, h => by
    rw [sizes]
    rcases List.mem_cons.1 h with rfl | h
    · omega
    · have := sizes_mem h; omega
theorem sosT_take {K : List Core} {V : List Vr} {B : List ByteArray} {l : List Tm} {k : Nat} {t : Tm} (h : l[k]? = some t) : sosT K V B (l.take (k + 1)) = sosT K V B (l.take k) ++ [(wlT K V B t).so] := by
  obtain ⟨hk, rfl⟩ := List.getElem?_eq_some_iff.1 h
  unfold sosT
  rw [List.take_succ_eq_append_getElem hk, List.map_append]; rfl
/-- a checker and a row put into blocks -/
theorem boxesT (w : World) (E : Ev) (K : List Value) :
    ∃ W, (w.alloc (.cells #[.slice E.a E.n E.c, .slice E.b E.m E.d, fnV E.g, .slice E.p E.q E.e] 74)).alloc (.cells K.toArray 9) = W ∧ Below w.heap.size w W ∧ CK W w.heap.size E.a E.n E.c E.b E.m E.d (fnV E.g) E.p E.q E.e ∧ L.Blk W (w.heap.size + 1) K.toArray 9 ∧ W.heap.size = w.heap.size + 2 := by
  refine ⟨_, rfl, bel_alloc (bel_alloc (Below.refl _ _) _) _, Sgn.Blk.alloc (Sgn.Blk.new w _ _) _, ?_, by simp⟩
  have := L.Blk.new (w.alloc (.cells #[.slice E.a E.n E.c, .slice E.b E.m E.d, fnV E.g, .slice E.p E.q E.e] 74)) K.toArray 9
  rwa [show (w.alloc (.cells #[.slice E.a E.n E.c, .slice E.b E.m E.d, fnV E.g, .slice E.p E.q E.e] 74)).heap.size = w.heap.size + 1 by simp] at this

set_option maxHeartbeats 8000000 in
theorem terms_any (l : List Tm) (hok : ∀ x ∈ l, TermOk x) (E : Ev) (pa : Option Addr) (pn pc : Nat) (X : List Int) (ta : Option Addr) (tn tc : Nat) (w : World) (hE : E.ok w) (hp : ∀ t ∈ l, partE t = 0) (hs : pn + 1 + sizes l ≤ 1000000) (hX : SlI w pa pn pc X) (hT : TsW w ta tn tc l) (htn : tn ≤ 1000000) :
    Calls Try.prog 52 #[E.val, .slice ta tn tc, .slice pa pn pc] w (TsP (wlTs E.K E.V E.B 0 l) X w) := by
  obtain ⟨K, hK, hmk⟩ := mk_row tn htn
  obtain ⟨W2, hW2, hB2, C2, R2, hs2⟩ := boxesT w E K
  have hlen : l.length = tn := hT.1.symm
  have hP1 : ∀ (k : Nat) (t : Tm) A N C w', l[k]? = some t → (wlT E.K E.V E.B t).e ≠ 0 → (∀ j x, j < k → l[j]? = some x → (wlT E.K E.V E.B x).e = 0) → SlI w' A N C ((X ++ [(k : Int)]) ++ (wlT E.K E.V E.B t).way) → Below w.heap.size w w' → TsP (wlTs E.K E.V E.B 0 l) X w (.returned (.tuple #[.slice none 0 0, .slice A N C, .int .i64 (wlT E.K E.V E.B t).e])) w' := fun k t A N C w' h1 h2 h3 h4 h5 => by
    rw [wlTs_bad 0 k h1 h2 h3]
    refine ⟨none, 0, 0, A, N, C, rfl, ?_, fun h => absurd h h2, h5⟩
    rw [if_neg h2, Nat.zero_add]
    simpa using h4
  have hP2 : ∀ w', (∀ t ∈ l, (wlT E.K E.V E.B t).e = 0) → RowK w' (w.heap.size + 1) (sosT E.K E.V E.B (l.take tn)) K → Below w.heap.size w w' → TsP (wlTs E.K E.V E.B 0 l) X w (.returned (.tuple #[.slice (some ⟨w.heap.size + 1, 0, none⟩) tn tn, .slice none 0 0, .int .i64 0])) w' := fun w' h1 h2 h3 => by
    rw [wlTs_all 0 h1]
    rw [List.take_of_length_le (by omega)] at h2
    have hl2 : (sosT E.K E.V E.B l).length = tn := by simp [sosT, hlen]
    have h4 := h2.slS (by rw [hK, hl2])
    rw [hl2] at h4
    exact ⟨_, tn, tn, none, 0, 0, rfl, SlI.nil w', fun _ => h4, h3⟩
  generalize TsP (wlTs E.K E.V E.B 0 l) X w = PP at *
  have hsos : ∀ (k : Nat) (t : Tm), l[k]? = some t → sosT E.K E.V E.B (l.take (k + 1)) = sosT E.K E.V E.B (l.take k) ++ [(wlT E.K E.V E.B t).so] := fun k t h => sosT_take h
  have hsl : ∀ k, k ≤ tn → (sosT E.K E.V E.B (l.take k)).length = k := fun k h => by simp [sosT]; omega
  have cB : ∀ (k : Nat) w', Below w.heap.size w w' → _ := fun k w' h => below_any pa pn pc X (k : Int) w' (hX.below h) (by omega)
  have cT : ∀ (k : Nat) (t : Tm), l[k]? = some t → ∀ A C ta' tn' tc' w', Below w.heap.size w w' → SlI w' A (pn + 1) C (X ++ [(k : Int)]) → ArW w' t ta' tn' tc' → _ := fun k t hk A C ta' tn' tc' w' h1 h2 h3 =>
    hok t (List.mem_of_getElem? hk) E A (pn + 1) C (X ++ [(k : Int)]) ta' tn' tc' w' (hE.b h1) (hp t (List.mem_of_getElem? hk)) (by have := sizes_mem (List.mem_of_getElem? hk); omega) h2 h3
  have hall : ∀ k, k = tn → (∀ j x, j < k → l[j]? = some x → (wlT E.K E.V E.B x).e = 0) → ∀ t ∈ l, (wlT E.K E.V E.B t).e = 0 := fun k h1 h2 t ht => by
    obtain ⟨j, hj, rfl⟩ := List.mem_iff_getElem.1 ht
    exact h2 j _ (by omega) (List.getElem?_eq_getElem hj)
  generalize hD : sosT E.K E.V E.B = SOS at *
  generalize hW : wlT E.K E.V E.B = WL at *
  have HP1 := Lib.hid hP1
  have HP2 := Lib.hid hP2
  have Hsos := Lib.hid hsos
  have Hsl := Lib.hid hsl
  have HB := Lib.hid cB
  have HT := Lib.hid cT
  have Hall := Lib.hid hall
  have HTs := Lib.hid hT
  have HB2 := Lib.hid hB2
  have HR0 : Hid (RowK W2 (w.heap.size + 1) (SOS (l.take 0)) K) := by
    show RowK _ _ _ _
    have : SOS (l.take 0) = [] := by rw [← hD]; rfl
    unfold RowK
    rw [this]; exact R2
  obtain ⟨k0, k1, k2, k3⟩ := C2.four
  clear hok hE hp hX hT hP1 hP2 hsos hsl cB cT hall hD hW hlen hB2 R2
  unfold Ev.val
  go_enter Try.func52, Try.ntmps52
  go_wp2
  go_loopw [20] (fun i wr0 => ∃ (wr : World) (k : Nat), wr = wr0 ∧ k ≤ tn ∧ i = .int .i64 k ∧ Below (w.heap.size + 1) W2 wr ∧ Hid (RowK wr (w.heap.size + 1) (SOS (l.take k)) K) ∧ Hid (∀ j x, j < k → l[j]? = some x → (WL x).e = 0)) (fun i _ => tn - (intOf i).toNat)
  case atStart => exact ⟨_, 0, rfl, by omega, rfl, Below.refl _ _, HR0, Lib.hid (fun j x h => absurd h (by omega))⟩
  case round =>
    obtain ⟨wr, k, rfl, hk, rfl, hB, hRow, hprev⟩ := hrel
    have hBw : Below w.heap.size w wr := HB2.out.trans (hB.mono (Nat.le_succ _))
    by_cases hlt : k < tn
    · obtain ⟨bb, o, x, ta', tn', tc', rfl, hb, y0, y1, y2, y3, hx, hA⟩ := (TsW.b HTs.out hBw).at hlt
      obtain ⟨W5, hW5, hB5, hs5, T5⟩ := box1 wr (opT x) (nameT x) (numT x) ta' tn' tc'
      obtain ⟨t0, t1, t2, t3⟩ := T5.four
      have CK0 : ∀ w', Below W5.heap.size W5 w' → w'.cell? ⟨w.heap.size, 0, none⟩ = some (.slice E.a E.n E.c) := fun w' h => (h.cell (p := ⟨w.heap.size, 0, none⟩) (by show w.heap.size < W5.heap.size; have := hB5.size; have := hB.size; omega)).trans ((hB5.cell (p := ⟨w.heap.size, 0, none⟩) (by show w.heap.size < wr.heap.size; have := hB.size; omega)).trans ((hB.cell (p := ⟨w.heap.size, 0, none⟩) (Nat.lt_succ_self _)).trans k0))
      have CK1 : ∀ w', Below W5.heap.size W5 w' → w'.cell? ⟨w.heap.size, 1, none⟩ = some (.slice E.b E.m E.d) := fun w' h => (h.cell (p := ⟨w.heap.size, 1, none⟩) (by show w.heap.size < W5.heap.size; have := hB5.size; have := hB.size; omega)).trans ((hB5.cell (p := ⟨w.heap.size, 1, none⟩) (by show w.heap.size < wr.heap.size; have := hB.size; omega)).trans ((hB.cell (p := ⟨w.heap.size, 1, none⟩) (Nat.lt_succ_self _)).trans k1))
      have CK2 : ∀ w', Below W5.heap.size W5 w' → w'.cell? ⟨w.heap.size, 2, none⟩ = some (fnV E.g) := fun w' h => (h.cell (p := ⟨w.heap.size, 2, none⟩) (by show w.heap.size < W5.heap.size; have := hB5.size; have := hB.size; omega)).trans ((hB5.cell (p := ⟨w.heap.size, 2, none⟩) (by show w.heap.size < wr.heap.size; have := hB.size; omega)).trans ((hB.cell (p := ⟨w.heap.size, 2, none⟩) (Nat.lt_succ_self _)).trans k2))
      have CK3 : ∀ w', Below W5.heap.size W5 w' → w'.cell? ⟨w.heap.size, 3, none⟩ = some (.slice E.p E.q E.e) := fun w' h => (h.cell (p := ⟨w.heap.size, 3, none⟩) (by show w.heap.size < W5.heap.size; have := hB5.size; have := hB.size; omega)).trans ((hB5.cell (p := ⟨w.heap.size, 3, none⟩) (by show w.heap.size < wr.heap.size; have := hB.size; omega)).trans ((hB.cell (p := ⟨w.heap.size, 3, none⟩) (Nat.lt_succ_self _)).trans k3))
      have CT0 : ∀ w', Below W5.heap.size W5 w' → w'.cell? ⟨wr.heap.size, 0, none⟩ = some (.int .i64 (opT x)) := fun w' h => (h.cell (p := ⟨wr.heap.size, 0, none⟩) (by show wr.heap.size < W5.heap.size; omega)).trans t0
      have CT1 : ∀ w', Below W5.heap.size W5 w' → w'.cell? ⟨wr.heap.size, 1, none⟩ = some (.string (nameT x)) := fun w' h => (h.cell (p := ⟨wr.heap.size, 1, none⟩) (by show wr.heap.size < W5.heap.size; omega)).trans t1
      have CT2 : ∀ w', Below W5.heap.size W5 w' → w'.cell? ⟨wr.heap.size, 2, none⟩ = some (.int .i64 (numT x)) := fun w' h => (h.cell (p := ⟨wr.heap.size, 2, none⟩) (by show wr.heap.size < W5.heap.size; omega)).trans t2
      have CT3 : ∀ w', Below W5.heap.size W5 w' → w'.cell? ⟨wr.heap.size, 3, none⟩ = some (.slice ta' tn' tc') := fun w' h => (h.cell (p := ⟨wr.heap.size, 3, none⟩) (by show wr.heap.size < W5.heap.size; omega)).trans t3
      have hAr : ∀ w', Below W5.heap.size W5 w' → ArW w' x ta' tn' tc' := fun w' h => ArW.b hA (bel_trans hB5 h)
      have B5d : Below W5.heap.size W5 W5.drew := (Below.refl _ _).drew
      have hBw5 : Below w.heap.size w W5 := bel_trans hBw hB5
      have cb := HB.out k W5.drew hBw5.drew
      have ct := HT.out k x hx
      have hk0 : 0 ≤ (k : Int) := by omega
      have hk1 : (k : Int) < (tn : Int) := by omega
      have a0 := CK0 _ (Below.refl _ _)
      have a1 := CK1 _ (Below.refl _ _)
      have a2 := CK2 _ (Below.refl _ _)
      have a3 := CK3 _ (Below.refl _ _)
      have Hhx := Lib.hid hx
      have hsz : w.heap.size + 1 < wr.heap.size := by have := hB.size; omega
      clear hx hA T5 HB HT HTs
      by_cases he : (WL x).e = 0
      · have h1 : ((WL x).e != 0) = false := by simp [he]
        go_wp2
        go_region_held3 (fun w' => w'.cell? ⟨w.heap.size, 0, none⟩ = some (.slice E.a E.n E.c) ∧ w'.cell? ⟨w.heap.size, 1, none⟩ = some (.slice E.b E.m E.d) ∧ w'.cell? ⟨w.heap.size, 2, none⟩ = some (fnV E.g) ∧ w'.cell? ⟨w.heap.size, 3, none⟩ = some (.slice E.p E.q E.e) ∧ w'.cell? ⟨wr.heap.size, 0, none⟩ = some (.int .i64 (opT x)) ∧ w'.cell? ⟨wr.heap.size, 1, none⟩ = some (.string (nameT x)) ∧ w'.cell? ⟨wr.heap.size, 2, none⟩ = some (.int .i64 (numT x)) ∧ w'.cell? ⟨wr.heap.size, 3, none⟩ = some (.slice ta' tn' tc'))
          (first | (exact ⟨CK0 _ B6, CK1 _ B6, CK2 _ B6, CK3 _ B6, CT0 _ B6, CT1 _ B6, CT2 _ B6, CT3 _ B6⟩) | (exact ⟨CK0 _ B7, CK1 _ B7, CK2 _ B7, CK3 _ B7, CT0 _ B7, CT1 _ B7, CT2 _ B7, CT3 _ B7⟩) | (exact ⟨CK0 _ B5d, CK1 _ B5d, CK2 _ B5d, CK3 _ B5d, CT0 _ B5d, CT1 _ B5d, CT2 _ B5d, CT3 _ B5d⟩) | go_keep)
          (first
            | (go_at_call 65; ((with_reducible refine cb.mono ?_); rintro e w6 ⟨A6, C6, rfl, hI6, hb6⟩; have B6 := bel_trans B5d hb6))
            | (go_at_call 29; ((with_reducible refine (ct A6 C6 ta' tn' tc' w6 (bel_trans hBw5 B6) hI6 (hAr _ B6)).mono ?_); rintro e w7 ⟨A7, N7, C7, rfl, hI7, hb7⟩; have B7 := bel_trans B6 hb7)))
        have hbw7 : Below wr.heap.size wr w7 := bel_trans hB5 B7
        have R7 : RowK w7 (w.heap.size + 1) (SOS (l.take k)) K := RowK.b hRow.out hbw7
        have hD := Hsl.out k hk
        have R8 := R7.set (by rw [hD, hK]; exact hlt) (WL x).so
        have q0 := L.Blk.free R7 k
        obtain ⟨v0, v0e⟩ : ∃ v, w7.cell? ⟨w.heap.size + 1, k, none⟩ = some v := by
          refine ⟨(vsS (SOS (l.take k)) ++ K.drop (SOS (l.take k)).length)[k]'(by simp [vsS_len]; omega), (L.Blk.cell R7 k).trans ?_⟩
          rw [List.getElem?_toArray]
          exact List.getElem?_eq_getElem _
        rw [hD, ← Hsos.out k x Hhx.out] at R8
        have hB8 : Below (w.heap.size + 1) W2 (w7.setCell ⟨w.heap.size + 1, k, none⟩ (.string (WL x).so)) := (hB.trans (hbw7.mono (by omega))).setCell (p := ⟨w.heap.size + 1, k, none⟩) (Nat.le_refl _) _
        have hpr2 : Hid (∀ j y, j < k + 1 → l[j]? = some y → (WL y).e = 0) := by
          intro j y hj hy
          by_cases hjk : j < k
          · exact hprev.out j y hjk hy
          · obtain rfl : j = k := by omega
            rw [Hhx.out] at hy
            rw [← Option.some.inj hy]; exact he
        have HR8 := Lib.hid R8
        have HB8 := Lib.hid hB8
        clear R7 R8 hB8 hD hRow hprev hI7 hI6 hb6 hb7
        go_wp2
        go_roundw
        case rel => exact ⟨_, k + 1, rfl, by omega, by go_num, HB8.out, HR8, hpr2⟩
        case measure => simp [intOf]; omega
      · have h1 : ((WL x).e != 0) = true := by simp [he]
        go_wp2
        go_region_held3 (fun w' => w'.cell? ⟨w.heap.size, 0, none⟩ = some (.slice E.a E.n E.c) ∧ w'.cell? ⟨w.heap.size, 1, none⟩ = some (.slice E.b E.m E.d) ∧ w'.cell? ⟨w.heap.size, 2, none⟩ = some (fnV E.g) ∧ w'.cell? ⟨w.heap.size, 3, none⟩ = some (.slice E.p E.q E.e) ∧ w'.cell? ⟨wr.heap.size, 0, none⟩ = some (.int .i64 (opT x)) ∧ w'.cell? ⟨wr.heap.size, 1, none⟩ = some (.string (nameT x)) ∧ w'.cell? ⟨wr.heap.size, 2, none⟩ = some (.int .i64 (numT x)) ∧ w'.cell? ⟨wr.heap.size, 3, none⟩ = some (.slice ta' tn' tc'))
          (first | (exact ⟨CK0 _ B6, CK1 _ B6, CK2 _ B6, CK3 _ B6, CT0 _ B6, CT1 _ B6, CT2 _ B6, CT3 _ B6⟩) | (exact ⟨CK0 _ B7, CK1 _ B7, CK2 _ B7, CK3 _ B7, CT0 _ B7, CT1 _ B7, CT2 _ B7, CT3 _ B7⟩) | (exact ⟨CK0 _ B5d, CK1 _ B5d, CK2 _ B5d, CK3 _ B5d, CT0 _ B5d, CT1 _ B5d, CT2 _ B5d, CT3 _ B5d⟩) | go_keep)
          (first
            | (go_at_call 65; ((with_reducible refine cb.mono ?_); rintro e w6 ⟨A6, C6, rfl, hI6, hb6⟩; have B6 := bel_trans B5d hb6))
            | (go_at_call 29; ((with_reducible refine (ct A6 C6 ta' tn' tc' w6 (bel_trans hBw5 B6) hI6 (hAr _ B6)).mono ?_); rintro e w7 ⟨A7, N7, C7, rfl, hI7, hb7⟩; have B7 := bel_trans B6 hb7)))
        rw [if_neg he] at hI7
        have HZ := Lib.hid (HP1.out k x A7 N7 C7 w7 Hhx.out he hprev.out hI7 (bel_trans hBw5 B7))
        clear hI7 hI6 hb6 hb7
        go_wp2
        simp [bodyPost, results, Try.results52, go_sem]
        exact HZ.out
    · obtain rfl : k = tn := by omega
      have HZ := Lib.hid (HP2.out wr (Hall.out k rfl hprev.out) hRow.out hBw)
      have hk0 : ¬ (k : Int) < (k : Int) := by omega
      go_wp2
      first | exact HZ.out | (simp [bodyPost, results, Try.results52, go_sem]; exact HZ.out)
end Go.Proofs.Ytacncbkcnhlpcaa.Wl
