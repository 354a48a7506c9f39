/-
  What is proved: a pair of a row of the call's own written over; two neighbours swapped (for the stable sort of any pairs).
  What is proved: insertion sort of any pairs leaves the first term of each name, and no other pairs.
-/
import Derived.Test.YteidknjhponpkaaBM
import Derived.Test.YteidknjhponpkaaM1
import Derived.Test.YteidknjhponpkaaZSbOw
namespace Go.Proofs.Yteidknjhponpkaa.U
open Go.RowKit L T C B
set_option linter.unusedVariables false
set_option linter.unusedSimpArgs false

/-- a list with two neighbours swapped -/
def swapP (l : List Pr) (k : Nat) (p q : Pr) : List Pr := (l.set (k + 1) p).set k q
theorem swapP_eq {l : List Pr} {k : Nat} {p q : Pr} (h1 : l[k]? = some p) (h2 : l[k + 1]? = some q) : l = l.take k ++ p :: q :: l.drop (k + 2) ∧ swapP l k p q = l.take k ++ q :: p :: l.drop (k + 2) := by
  obtain ⟨k1, e1⟩ := List.getElem?_eq_some_iff.1 h1
  obtain ⟨k2, e2⟩ := List.getElem?_eq_some_iff.1 h2
  have e : l = l.take k ++ p :: q :: l.drop (k + 2) := by
    have a1 := List.drop_eq_getElem_cons k1
    have a2 := List.drop_eq_getElem_cons k2
    rw [e1] at a1
    rw [e2] at a2
    conv => lhs; rw [← List.take_append_drop k l, a1, a2]
  refine ⟨e, ?_⟩
  unfold swapP
  have hl : (l.take k).length = k := by rw [List.length_take]; omega
  conv => lhs; rw [e]
  rw [List.set_append_right _ _ (by omega), List.set_append_right _ _ (by omega), hl, show k + 1 - k = 1 by omega, show k - k = 0 by omega]
  rfl
/-- swapped, where names differ: the same first terms, the same pairs -/
theorem swapP_get {l : List Pr} {k : Nat} {p q : Pr} (h1 : l[k]? = some p) (h2 : l[k + 1]? = some q) (hne : (p.nm.toList == q.nm.toList) = false) (s : ByteArray) : getU (swapP l k p q) s = getU l s := by
  obtain ⟨a, b⟩ := swapP_eq h1 h2
  rw [b]
  conv => rhs; rw [a]
  exact getU_swap _ _ p q hne s
theorem swapP_mem {l : List Pr} {k : Nat} {p q : Pr} (h1 : l[k]? = some p) (h2 : l[k + 1]? = some q) : ∀ x ∈ swapP l k p q, x ∈ l := fun x hx => by
  obtain ⟨a, b⟩ := swapP_eq h1 h2
  rw [b] at hx
  rw [a]
  simp at hx ⊢
  rcases hx with h | h | h | h
  · exact .inl h
  · exact .inr (.inr (.inl h))
  · exact .inr (.inl h)
  · exact .inr (.inr (.inr h))
theorem swapP_len (l : List Pr) (k : Nat) (p q : Pr) : (swapP l k p q).length = l.length := by unfold swapP; rw [List.length_set, List.length_set]
theorem OwnP.swap {w : World} {lo g n c : Nat} {l : List Pr} (h : OwnP w lo (.slice (some ⟨g, 0, none⟩) n c) l) {k : Nat} {p q : Pr} (h1 : l[k]? = some p) (h2 : l[k + 1]? = some q) :
    ∃ hp hq : Hu, HuP (fun b => b < w.heap.size ∧ g ≠ b) w hp p ∧ HuP (fun b => b < w.heap.size ∧ g ≠ b) w hq q ∧ (w.cell? ⟨g, k * 5, none⟩ = some (.string hp.nm) ∧ w.cell? ⟨g, k * 5 + 1, none⟩ = some (.int .i64 hp.op) ∧ w.cell? ⟨g, k * 5 + 1 + 1, none⟩ = some (.string hp.s) ∧ w.cell? ⟨g, k * 5 + 1 + 1 + 1, none⟩ = some (.int .i64 hp.z) ∧ w.cell? ⟨g, k * 5 + 1 + 1 + 1 + 1, none⟩ = some (.slice hp.a hp.n hp.c)) ∧ (w.cell? ⟨g, (k + 1) * 5, none⟩ = some (.string hq.nm) ∧ w.cell? ⟨g, (k + 1) * 5 + 1, none⟩ = some (.int .i64 hq.op) ∧ w.cell? ⟨g, (k + 1) * 5 + 1 + 1, none⟩ = some (.string hq.s) ∧ w.cell? ⟨g, (k + 1) * 5 + 1 + 1 + 1, none⟩ = some (.int .i64 hq.z) ∧ w.cell? ⟨g, (k + 1) * 5 + 1 + 1 + 1 + 1, none⟩ = some (.slice hq.a hq.n hq.c)) ∧
      OwnP (setU (setU w g (k + 1) hp) g k hq) lo (.slice (some ⟨g, 0, none⟩) n c) (swapP l k p q) := by
  have h0 := h
  obtain ⟨hs, ho, hl, h3⟩ := h
  obtain ⟨k1, e1⟩ := List.getElem?_eq_some_iff.1 h1
  obtain ⟨k2, e2⟩ := List.getElem?_eq_some_iff.1 h2
  have c1 : k < hs.length := by omega
  have c2 : k + 1 < hs.length := by omega
  have hA := h3 k _ p (List.getElem?_eq_getElem c1) h1
  have hB := h3 (k + 1) _ q (List.getElem?_eq_getElem c2) h2
  have hA' : HuP (fun b => b < w.heap.size ∧ g ≠ b) w hs[k] p := hA.to (fun _ _ => rfl) (fun b hb => ⟨hb.1, fun e => hb.2 (by rw [e]; rfl)⟩)
  have hB' : HuP (fun b => b < w.heap.size ∧ g ≠ b) w hs[k + 1] q := hB.to (fun _ _ => rfl) (fun b hb => ⟨hb.1, fun e => hb.2 (by rw [e]; rfl)⟩)
  refine ⟨hs[k], hs[k + 1], hA', hB', ho.at c1, ho.at c2, ?_⟩
  · have s1 := h0.setH (k := k + 1) k2 hs[k] p hA'
    have s2 := s1.setH (k := k) (by rw [List.length_set]; exact k1) hs[k + 1] q (hB'.to (fun b hb => setU_other w g (k + 1) b _ (fun e => hb.2 e.symm)) (fun b hb => ⟨by rw [setU_size]; exact hb.1, hb.2⟩))
    exact s2
end Go.Proofs.Yteidknjhponpkaa.U
namespace Go.Proofs.Yteidknjhponpkaa.U
open Go.RowKit L T C B
set_option linter.unusedVariables false
set_option linter.unusedSimpArgs false

/-- the same first terms, no other pairs, as many -/
def SameF (Y l : List Pr) : Prop := Y.length = l.length ∧ (∀ s, getU Y s = getU l s) ∧ ∀ x ∈ Y, x ∈ l
theorem SameF.refl (l : List Pr) : SameF l l := ⟨rfl, fun _ => rfl, fun _ h => h⟩
theorem SameF.swap {Y l : List Pr} (h : SameF Y l) {k : Nat} {p q : Pr} (h1 : Y[k]? = some p) (h2 : Y[k + 1]? = some q) (hne : (p.nm.toList == q.nm.toList) = false) : SameF (swapP Y k p q) l :=
  ⟨by rw [swapP_len]; exact h.1, fun s => (swapP_get h1 h2 hne s).trans (h.2.1 s), fun x hx => h.2.2 x (swapP_mem h1 h2 x hx)⟩
theorem bel_drewN {B : Nat} {a w : World} (h : Below B a w) (n : Nat) : Below B a (w.drewN n) := ⟨h.os, h.tape, h.output, h.size, h.block⟩
theorem cmp_ne {x y : ByteArray} (h : cmpN x y < 0) : (y.toList == x.toList) = false := by
  cases e : y.toList == x.toList with
  | false => rfl
  | true =>
    rw [beq_iff_eq] at e
    have e2 : y = x := by
      cases x; cases y
      exact eqS_iff.1 (by rw [e]; exact beq_self_eq_true _)
    have := (linN.eq x y).2 e2.symm
    omega
set_option maxRecDepth 100000 in
set_option maxHeartbeats 16000000 in
theorem insertionU_any (l : List Pr) (lo g n c : Nat) (w : World) (hG : OwnP w lo (.slice (some ⟨g, 0, none⟩) n c) l) (hlen : n = l.length) (hlg : lo ≤ g) (hlw : lo ≤ w.heap.size) (hn : n ≤ 1000000) :
    Calls Try.prog 88 #[.slice (some ⟨g, 0, none⟩) n c, .int .i64 0, .int .i64 n, .func (.func 55) #[] #[]] w fun e w' => (∃ v, e = .returned v) ∧ (∃ Y, OwnP w' lo (.slice (some ⟨g, 0, none⟩) n c) Y ∧ SameF Y l) ∧ Below lo w w' := by
  have H0 := Lib.hid (show ∃ Y, OwnP w lo (.slice (some ⟨g, 0, none⟩) n c) Y ∧ SameF Y l from ⟨l, hG, SameF.refl l⟩)
  have HL := Lib.hid hlen
  clear hG hlen
  go_enter Try.func88, Try.ntmps88
  go_wp2
  go_loopw [8] (fun i wr0 => ∃ (wr : World) (m : Nat), wr = wr0 ∧ (m < n ∨ m = 0) ∧ i = .int .i64 ((m : Int) + 1) ∧ Below lo w wr ∧ Hid (∃ Y, OwnP wr lo (.slice (some ⟨g, 0, none⟩) n c) Y ∧ SameF Y l)) (fun i _ => n - (intOf i).toNat)
  case atStart => exact ⟨_, 0, rfl, .inr rfl, rfl, Below.refl _ _, H0⟩
  case round =>
    obtain ⟨wr, m, rfl, hm, rfl, hB, hH⟩ := hrel
    by_cases hlt : m + 1 < n
    · have hpm : (m : Int) + 1 < (n : Int) := by omega
      go_wp2
      go_loopw [9] (fun i wr0 => ∃ (w2 : World) (j : Nat), w2 = wr0 ∧ j ≤ m + 1 ∧ i = .int .i64 (j : Int) ∧ Below lo w w2 ∧ Hid (∃ Y, OwnP w2 lo (.slice (some ⟨g, 0, none⟩) n c) Y ∧ SameF Y l)) (fun i _ => (intOf i).toNat)
      case atStart => exact ⟨_, m + 1, rfl, by omega, by go_num, hB, hH⟩
      case round =>
        clear hH
        obtain ⟨w2, j, rfl, hj, rfl, hB2, hH⟩ := hrel
        cases j with
        | zero =>
          have hgd : ¬ (0 : Int) < (0 : Int) := by omega
          rw [show ((0 : Nat) : Int) = 0 from rfl]
          go_wp2_with fail
          go_quiet (fail)
          go_wp2
          go_roundw
          case rel => exact ⟨_, m + 1, rfl, by omega, by go_num, bel_drewN hB2 _, Lib.hid (by obtain ⟨Y, h1, h2⟩ := hH.out; exact ⟨Y, h1.below (bel_drewN (Below.refl _ _) _), h2⟩)⟩
          case measure => simp [intOf]; omega
        | succ k =>
          obtain ⟨Y, hY, hS⟩ := hH.out
          have hYl : Y.length = n := hS.1.trans HL.out.symm
          obtain ⟨p, hp⟩ : ∃ p, Y[k]? = some p := ⟨_, List.getElem?_eq_getElem (by omega)⟩
          obtain ⟨q, hq⟩ : ∃ q, Y[k + 1]? = some q := ⟨_, List.getElem?_eq_getElem (by omega)⟩
          obtain ⟨⟨xp, op, sp, zp, ap, np, cp⟩, ⟨xq, oq, sq, zq, aq, nq, cq⟩, hA, hBq, ⟨c0, c1, c2, c3, c4⟩, ⟨d0, d1, d2, d3, d4⟩, -⟩ := hY.swap hp hq
          have HA := Lib.hid hA
          have HBq := Lib.hid hBq
          obtain ⟨⟨r1, r2, r3, r4⟩, -⟩ := hA
          obtain ⟨⟨t1, t2, t3, t4⟩, -⟩ := hBq
          dsimp only at c0 c1 c2 c3 c4 d0 d1 d2 d3 d4 r1 r2 r3 r4 t1 t2 t3 t4
          have cC := fun (w' : World) => ordered1_any q p aq nq cq ap np cp w'
          rw [← r1, ← r2, ← r3, ← r4, ← t1, ← t2, ← t3, ← t4] at cC
          have hgl := (hY.lt g rfl).2
          have HY := Lib.hid hY
          have Hp := Lib.hid hp
          have Hq := Lib.hid hq
          have HSF := Lib.hid hS
          have Hne := Lib.hid (show cmpN xq xp < 0 → (p.nm.toList == q.nm.toList) = false from fun h => by rw [r1, t1] at h; exact cmp_ne h)
          have hpl : ((k + 1 : Nat) : Int) = (k : Int) + 1 := by omega
          rw [hpl]
          have hgt : (0 : Int) < (k : Int) + 1 := by omega
          have hk0 : 0 ≤ (k : Int) := by omega
          have hk1 : 0 ≤ (k : Int) + 1 := by omega
          have hkN : (k : Int) + 1 < (n : Int) := by omega
          have hkN0 : (k : Int) < (n : Int) := by omega
          have hwr : IntKind.i64.wrap ((k : Int) + 1 - 1) = (k : Int) := by rw [IntKind.wrap_i64]; omega
          have hwr2 : IntKind.i64.wrap (k : Int) = (k : Int) := by rw [IntKind.wrap_i64]; omega
          have hBd : Below w2.heap.size w2 w2.drew := (Below.refl _ _).drew
          clear hH hS hY hp hq hYl r1 r2 r3 r4 t1 t2 t3 t4 hpl
          generalize cmpN xq xp = R at *
          by_cases hneg : R < 0
          · have hne := Hne.out hneg
            have Hne2 := Lib.hid hne
            clear Hne hne
            go_wp2_with fail
            go_region_held3 (fun w' => w'.cell? ⟨g, k * 5, none⟩ = some (.string xp) ∧ w'.cell? ⟨g, k * 5 + 1, none⟩ = some (.int .i64 op) ∧ w'.cell? ⟨g, k * 5 + 1 + 1, none⟩ = some (.string sp) ∧ w'.cell? ⟨g, k * 5 + 1 + 1 + 1, none⟩ = some (.int .i64 zp) ∧ w'.cell? ⟨g, k * 5 + 1 + 1 + 1 + 1, none⟩ = some (.slice ap np cp) ∧ w'.cell? ⟨g, (k + 1) * 5, none⟩ = some (.string xq) ∧ w'.cell? ⟨g, (k + 1) * 5 + 1, none⟩ = some (.int .i64 oq) ∧ w'.cell? ⟨g, (k + 1) * 5 + 1 + 1, none⟩ = some (.string sq) ∧ w'.cell? ⟨g, (k + 1) * 5 + 1 + 1 + 1, none⟩ = some (.int .i64 zq) ∧ w'.cell? ⟨g, (k + 1) * 5 + 1 + 1 + 1 + 1, none⟩ = some (.slice aq nq cq))
              (first | go_keep | (exact ⟨(B4.cell hgl).trans c0, (B4.cell hgl).trans c1, (B4.cell hgl).trans c2, (B4.cell hgl).trans c3, (B4.cell hgl).trans c4, (B4.cell hgl).trans d0, (B4.cell hgl).trans d1, (B4.cell hgl).trans d2, (B4.cell hgl).trans d3, (B4.cell hgl).trans d4⟩))
              (first | (go_at_call 55; ((with_reducible refine (cC _).mono ?_); rintro e w4 ⟨rfl, hb4⟩; have B4 := bel_trans hBd hb4)))
            have HO := Lib.hid (show OwnP (setU (setU w4 g (k + 1) ⟨xp, op, sp, zp, ap, np, cp⟩) g k ⟨xq, oq, sq, zq, aq, nq, cq⟩) lo (.slice (some ⟨g, 0, none⟩) n c) (swapP Y k p q) from by
              have h4 := HY.out.below B4
              have hkl1 := (List.getElem?_eq_some_iff.1 Hq.out).1
              have t1 := h4.setH (k := k + 1) hkl1 ⟨xp, op, sp, zp, ap, np, cp⟩ p (HA.out.to (fun b hb => B4.block b hb.1) (fun b hb => ⟨Nat.lt_of_lt_of_le hb.1 B4.size, hb.2⟩))
              exact t1.setH (k := k) (by rw [List.length_set]; omega) ⟨xq, oq, sq, zq, aq, nq, cq⟩ q (HBq.out.to (fun b hb => (setU_other w4 g (k + 1) b _ (fun e => hb.2 e.symm)).trans (B4.block b hb.1)) (fun b hb => ⟨by rw [setU_size]; exact Nat.lt_of_lt_of_le hb.1 B4.size, hb.2⟩)))
            have z0 := (B4.cell (p := ⟨g, _, none⟩) hgl).trans c0
            have hrow := (HY.out.below B4)
            obtain ⟨hs9, ho9, -, -⟩ := hrow
            have hfr := fun (i : Nat) => RowU.free (OwnU.row ho9) i
            have f0 := hfr (k * 5)
            have f1 := hfr (k * 5 + 1)
            have f2 := hfr (k * 5 + 2)
            have f3 := hfr (k * 5 + 3)
            have f4 := hfr (k * 5 + 4)
            have g0 := hfr ((k + 1) * 5)
            have g1 := hfr ((k + 1) * 5 + 1)
            have g2 := hfr ((k + 1) * 5 + 2)
            have g3 := hfr ((k + 1) * 5 + 3)
            have g4 := hfr ((k + 1) * 5 + 4)
            clear z0 c0 c1 c2 c3 c4 d0 d1 d2 d3 d4 hfr ho9
            go_wp2
            go_region
            go_wp2
            have hX : Below lo w w4 := hB2.trans (B4.mono (by have := hB2.size; omega))
            have hX2 := setU_below (setU_below hX hlg (k + 1) ⟨xp, op, sp, zp, ap, np, cp⟩) hlg k ⟨xq, oq, sq, zq, aq, nq, cq⟩
            have hO2 := Lib.hid (HO.out.below (w' := (setU (setU w4 g (k + 1) ⟨xp, op, sp, zp, ap, np, cp⟩) g k ⟨xq, oq, sq, zq, aq, nq, cq⟩).drew) ((Below.refl _ _).drew))
            have hX3 := hX2.drew
            unfold setU at hX3 hO2
            refine ⟨⟨_, k, rfl, by omega, by go_num, ?hbb, ?hoo⟩, ?hmm⟩
            case hmm => simp [intOf]
            case hbb => exact hX3
            case hoo => exact Lib.hid ⟨_, hO2.out, HSF.out.swap Hp.out Hq.out Hne2.out⟩
          · clear Hne
            go_wp2_with fail
            go_region_held3 (fun w' => w'.cell? ⟨g, k * 5, none⟩ = some (.string xp) ∧ w'.cell? ⟨g, k * 5 + 1, none⟩ = some (.int .i64 op) ∧ w'.cell? ⟨g, k * 5 + 1 + 1, none⟩ = some (.string sp) ∧ w'.cell? ⟨g, k * 5 + 1 + 1 + 1, none⟩ = some (.int .i64 zp) ∧ w'.cell? ⟨g, k * 5 + 1 + 1 + 1 + 1, none⟩ = some (.slice ap np cp) ∧ w'.cell? ⟨g, (k + 1) * 5, none⟩ = some (.string xq) ∧ w'.cell? ⟨g, (k + 1) * 5 + 1, none⟩ = some (.int .i64 oq) ∧ w'.cell? ⟨g, (k + 1) * 5 + 1 + 1, none⟩ = some (.string sq) ∧ w'.cell? ⟨g, (k + 1) * 5 + 1 + 1 + 1, none⟩ = some (.int .i64 zq) ∧ w'.cell? ⟨g, (k + 1) * 5 + 1 + 1 + 1 + 1, none⟩ = some (.slice aq nq cq))
              (first | go_keep | (exact ⟨(B4.cell hgl).trans c0, (B4.cell hgl).trans c1, (B4.cell hgl).trans c2, (B4.cell hgl).trans c3, (B4.cell hgl).trans c4, (B4.cell hgl).trans d0, (B4.cell hgl).trans d1, (B4.cell hgl).trans d2, (B4.cell hgl).trans d3, (B4.cell hgl).trans d4⟩))
              (first | (go_at_call 55; ((with_reducible refine (cC _).mono ?_); rintro e w4 ⟨rfl, hb4⟩; have B4 := bel_trans hBd hb4)))
            go_wp2
            go_roundw
            case rel => exact ⟨_, m + 1, rfl, .inl (by omega), by go_num, hB2.trans (B4.mono (by have := hB2.size; omega)), Lib.hid ⟨_, HY.out.below B4, HSF.out⟩⟩
            case measure => simp [intOf]; omega
    · have hge : ¬ (m : Int) + 1 < (n : Int) := by omega
      go_wp2
      go_end0
      exact ⟨⟨_, rfl⟩, hH.out, hB⟩
set_option maxRecDepth 100000 in
set_option maxHeartbeats 8000000 in
theorem stableU_any (l : List Pr) (lo g n c : Nat) (w : World) (hG : OwnP w lo (.slice (some ⟨g, 0, none⟩) n c) l) (hlen : n = l.length) (hlg : lo ≤ g) (hlw : lo ≤ w.heap.size) (hn : n < 20) :
    Calls Try.prog 78 #[.slice (some ⟨g, 0, none⟩) n c, .int .i64 n, .func (.func 55) #[] #[]] w fun e w' => (∃ v, e = .returned v) ∧ (∃ Y, OwnP w' lo (.slice (some ⟨g, 0, none⟩) n c) Y ∧ SameF Y l) ∧ Below lo w w' := by
  have cI := insertionU_any l lo g n c w hG hlen hlg hlw (by omega)
  have h1 : ¬ (20 : Int) ≤ (n : Int) := by omega
  have h2 : ¬ (20 : Int) < (n : Int) := by omega
  clear hG hlen
  go_enter Try.func78, Try.ntmps78
  go_wp2
  refine wp_loop_rounds 1 ?_
  rw [rounds_succ]
  go_wp2_with (go_at_call 88; ((with_reducible refine cI.mono ?_); rintro e w1 ⟨⟨v, rfl⟩, hY, hG⟩; have HY := Lib.hid hY; clear hY))
  refine wp_loop_rounds 1 ?_
  rw [rounds_succ]
  go_wp2
  go_end0
  exact ⟨⟨_, rfl⟩, HY.out, hG⟩
set_option maxRecDepth 100000 in
theorem sortU_any (l : List Pr) (lo g n c : Nat) (w : World) (hG : OwnP w lo (.slice (some ⟨g, 0, none⟩) n c) l) (hlen : n = l.length) (hlg : lo ≤ g) (hlw : lo ≤ w.heap.size) (hn : n < 20) :
    Calls Try.prog 54 #[.slice (some ⟨g, 0, none⟩) n c, .func (.func 55) #[] #[]] w fun e w' => (∃ v, e = .returned v) ∧ (∃ Y, OwnP w' lo (.slice (some ⟨g, 0, none⟩) n c) Y ∧ SameF Y l) ∧ Below lo w w' := by
  have cI := stableU_any l lo g n c w hG hlen hlg hlw hn
  clear hG hlen
  go_enter Try.func54, Try.ntmps54
  go_wp2_with (go_at_call 78; ((with_reducible refine cI.mono ?_); rintro e w1 ⟨⟨v, rfl⟩, hY, hG⟩; have HY := Lib.hid hY; clear hY))
  go_end0
  exact ⟨⟨_, rfl⟩, HY.out, hG⟩
end Go.Proofs.Yteidknjhponpkaa.U
