/-
  What is proved: a pair of a row of the call's own written over; two neighbours swapped (for the stable sort of any pairs).
  What is proved: insertion sort of any pairs leaves the first term of each name, and no other pairs.
  What is proved: what clear leaves of a row of pairs of the call's own; which pairs CompactFunc keeps (plain mathematics).
  What is proved: the library's CompactFunc of a row of pairs of the call's own, put in order: of each name the first term stays; package subst's ordered of any pairs, fewer than twenty.
-/
import Derived.Test.YtbmniajimkondaaBM
import Derived.Test.YtbmniajimkondaaZSbMa
import Derived.Lib.SliceRun
namespace Go.Proofs.Ytbmniajimkondaa.U
open Go.RowKit L T C B
set_option linter.unusedVariables false
set_option linter.unusedSimpArgs false

set_option maxHeartbeats 2000000 in
theorem OwnP.setH {w : World} {lo g n c : Nat} {l : List Pr} (h : OwnP w lo (.slice (some ⟨g, 0, none⟩) n c) l) {k : Nat} (hk : k < l.length) (hd : Hu) (p : Pr) (hA : HuP (fun b => b < w.heap.size ∧ g ≠ b) w hd p) :
    OwnP (setU w g k hd) lo (.slice (some ⟨g, 0, none⟩) n c) (l.set k p) := by
  obtain ⟨hs, h1, h2, h3⟩ := h
  have hks : k < hs.length := by omega
  refine ⟨_, h1.set k hd hks, by rw [List.length_set, List.length_set, h2], fun i hd' q e1 e2 => ?_⟩
  have hto : ∀ b, b < w.heap.size ∧ (Value.slice (some ⟨g, 0, none⟩) n c).ownBlock ≠ some b → (setU w g k hd).heap[b]? = w.heap[b]? := fun b hb => setU_other w g k b _ (fun e => hb.2 (by rw [e]; rfl))
  by_cases e : i = k
  · subst e
    rw [List.getElem?_set_self hks] at e1
    rw [List.getElem?_set_self hk] at e2
    injection e1 with e1
    injection e2 with e2
    rw [← e1, ← e2]
    exact hA.to (fun b hb => setU_other w g i b _ (fun e => hb.2 e.symm)) (fun b hb => ⟨by rw [setU_size]; exact hb.1, fun e => hb.2 (by simpa [Value.ownBlock] using e)⟩)
  · rw [List.getElem?_set_ne (fun x => e x.symm)] at e1 e2
    exact (h3 i hd' q e1 e2).to hto (fun b hb => ⟨by rw [setU_size]; exact hb.1, hb.2⟩)
/-- a list with two neighbours swapped -/
def swapP (l : List Pr) (k : Nat) (p q : Pr) : List Pr := (l.set (k + 1) p).set k q
theorem swapP_eq {l : List Pr} {k : Nat} {p q : Pr} (h1 : l[k]? = some p) (h2 : l[k + 1]? = some q) : l = l.take k ++ p :: q :: l.drop (k + 2) ∧ swapP l k p q = l.take k ++ q :: p :: l.drop (k + 2) := by
  obtain ⟨k1, e1⟩ := List.getElem?_eq_some_iff.1 h1
  obtain ⟨k2, e2⟩ := List.getElem?_eq_some_iff.1 h2
  have e : l = l.take k ++ p :: q :: l.drop (k + 2) := by
    have a1 := List.drop_eq_getElem_cons k1
    have a2 := List.drop_eq_getElem_cons k2
    rw [e1] at a1
    rw [e2] at a2
    conv => lhs; rw [← List.take_append_drop k l, a1, a2]
  refine ⟨e, ?_⟩
  unfold swapP
  have hl : (l.take k).length = k := by rw [List.length_take]; omega
  conv => lhs; rw [e]
  rw [List.set_append_right _ _ (by omega), List.set_append_right _ _ (by omega), hl, show k + 1 - k = 1 by omega, show k - k = 0 by omega]
  rfl
/-- swapped, where names differ: the same first terms, the same pairs -/
theorem swapP_get {l : List Pr} {k : Nat} {p q : Pr} (h1 : l[k]? = some p) (h2 : l[k + 1]? = some q) (hne : (p.nm.toList == q.nm.toList) = false) (s : ByteArray) : getU (swapP l k p q) s = getU l s := by
  obtain ⟨a, b⟩ := swapP_eq h1 h2
  rw [b]
  conv => rhs; rw [a]
  exact getU_swap _ _ p q hne s
theorem swapP_mem {l : List Pr} {k : Nat} {p q : Pr} (h1 : l[k]? = some p) (h2 : l[k + 1]? = some q) : ∀ x ∈ swapP l k p q, x ∈ l := fun x hx => by
  obtain ⟨a, b⟩ := swapP_eq h1 h2
  rw [b] at hx
  rw [a]
  simp at hx ⊢
  rcases hx with h | h | h | h
  · exact .inl h
  · exact .inr (.inr (.inl h))
  · exact .inr (.inl h)
  · exact .inr (.inr (.inr h))
theorem swapP_len (l : List Pr) (k : Nat) (p q : Pr) : (swapP l k p q).length = l.length := by unfold swapP; rw [List.length_set, List.length_set]
theorem OwnP.swap {w : World} {lo g n c : Nat} {l : List Pr} (h : OwnP w lo (.slice (some ⟨g, 0, none⟩) n c) l) {k : Nat} {p q : Pr} (h1 : l[k]? = some p) (h2 : l[k + 1]? = some q) :
    ∃ hp hq : Hu, HuP (fun b => b < w.heap.size ∧ g ≠ b) w hp p ∧ HuP (fun b => b < w.heap.size ∧ g ≠ b) w hq q ∧ (w.cell? ⟨g, k * 5, none⟩ = some (.string hp.nm) ∧ w.cell? ⟨g, k * 5 + 1, none⟩ = some (.int .i64 hp.op) ∧ w.cell? ⟨g, k * 5 + 1 + 1, none⟩ = some (.string hp.s) ∧ w.cell? ⟨g, k * 5 + 1 + 1 + 1, none⟩ = some (.int .i64 hp.z) ∧ w.cell? ⟨g, k * 5 + 1 + 1 + 1 + 1, none⟩ = some (.slice hp.a hp.n hp.c)) ∧ (w.cell? ⟨g, (k + 1) * 5, none⟩ = some (.string hq.nm) ∧ w.cell? ⟨g, (k + 1) * 5 + 1, none⟩ = some (.int .i64 hq.op) ∧ w.cell? ⟨g, (k + 1) * 5 + 1 + 1, none⟩ = some (.string hq.s) ∧ w.cell? ⟨g, (k + 1) * 5 + 1 + 1 + 1, none⟩ = some (.int .i64 hq.z) ∧ w.cell? ⟨g, (k + 1) * 5 + 1 + 1 + 1 + 1, none⟩ = some (.slice hq.a hq.n hq.c)) ∧
      OwnP (setU (setU w g (k + 1) hp) g k hq) lo (.slice (some ⟨g, 0, none⟩) n c) (swapP l k p q) := by
  have h0 := h
  obtain ⟨hs, ho, hl, h3⟩ := h
  obtain ⟨k1, e1⟩ := List.getElem?_eq_some_iff.1 h1
  obtain ⟨k2, e2⟩ := List.getElem?_eq_some_iff.1 h2
  have c1 : k < hs.length := by omega
  have c2 : k + 1 < hs.length := by omega
  have hA := h3 k _ p (List.getElem?_eq_getElem c1) h1
  have hB := h3 (k + 1) _ q (List.getElem?_eq_getElem c2) h2
  have hA' : HuP (fun b => b < w.heap.size ∧ g ≠ b) w hs[k] p := hA.to (fun _ _ => rfl) (fun b hb => ⟨hb.1, fun e => hb.2 (by rw [e]; rfl)⟩)
  have hB' : HuP (fun b => b < w.heap.size ∧ g ≠ b) w hs[k + 1] q := hB.to (fun _ _ => rfl) (fun b hb => ⟨hb.1, fun e => hb.2 (by rw [e]; rfl)⟩)
  refine ⟨hs[k], hs[k + 1], hA', hB', ho.at c1, ho.at c2, ?_⟩
  · have s1 := h0.setH (k := k + 1) k2 hs[k] p hA'
    have s2 := s1.setH (k := k) (by rw [List.length_set]; exact k1) hs[k + 1] q (hB'.to (fun b hb => setU_other w g (k + 1) b _ (fun e => hb.2 e.symm)) (fun b hb => ⟨by rw [setU_size]; exact hb.1, hb.2⟩))
    exact s2
end Go.Proofs.Ytbmniajimkondaa.U
namespace Go.Proofs.Ytbmniajimkondaa.U
open Go.RowKit L T C B
set_option linter.unusedVariables false
set_option linter.unusedSimpArgs false

/-- the same first terms, no other pairs, as many -/
def SameF (Y l : List Pr) : Prop := Y.length = l.length ∧ (∀ s, getU Y s = getU l s) ∧ ∀ x ∈ Y, x ∈ l
theorem SameF.refl (l : List Pr) : SameF l l := ⟨rfl, fun _ => rfl, fun _ h => h⟩
theorem SameF.swap {Y l : List Pr} (h : SameF Y l) {k : Nat} {p q : Pr} (h1 : Y[k]? = some p) (h2 : Y[k + 1]? = some q) (hne : (p.nm.toList == q.nm.toList) = false) : SameF (swapP Y k p q) l :=
  ⟨by rw [swapP_len]; exact h.1, fun s => (swapP_get h1 h2 hne s).trans (h.2.1 s), fun x hx => h.2.2 x (swapP_mem h1 h2 x hx)⟩
theorem bel_drewN {B : Nat} {a w : World} (h : Below B a w) (n : Nat) : Below B a (w.drewN n) := ⟨h.os, h.tape, h.output, h.size, h.block⟩
theorem cmp_ne {x y : ByteArray} (h : cmpN x y < 0) : (y.toList == x.toList) = false := by
  cases e : y.toList == x.toList with
  | false => rfl
  | true =>
    rw [beq_iff_eq] at e
    have e2 : y = x := by
      cases x; cases y
      exact eqS_iff.1 (by rw [e]; exact beq_self_eq_true _)
    have := (linN.eq x y).2 e2.symm
    omega
set_option maxRecDepth 100000 in
set_option maxHeartbeats 16000000 in
theorem insertionU_any (l : List Pr) (lo g n c : Nat) (w : World) (hG : OwnP w lo (.slice (some ⟨g, 0, none⟩) n c) l) (hlen : n = l.length) (hlg : lo ≤ g) (hlw : lo ≤ w.heap.size) (hn : n ≤ 1000000) :
    Calls Try.prog 227 #[.slice (some ⟨g, 0, none⟩) n c, .int .i64 0, .int .i64 n, .func (.func 139) #[] #[]] w fun e w' => (∃ v, e = .returned v) ∧ (∃ Y, OwnP w' lo (.slice (some ⟨g, 0, none⟩) n c) Y ∧ SameF Y l) ∧ Below lo w w' := by
  have H0 := Lib.hid (show ∃ Y, OwnP w lo (.slice (some ⟨g, 0, none⟩) n c) Y ∧ SameF Y l from ⟨l, hG, SameF.refl l⟩)
  have HL := Lib.hid hlen
  clear hG hlen
  go_enter Try.func227, Try.ntmps227
  go_wp2
  go_loopw [8] (fun i wr0 => ∃ (wr : World) (m : Nat), wr = wr0 ∧ (m < n ∨ m = 0) ∧ i = .int .i64 ((m : Int) + 1) ∧ Below lo w wr ∧ Hid (∃ Y, OwnP wr lo (.slice (some ⟨g, 0, none⟩) n c) Y ∧ SameF Y l)) (fun i _ => n - (intOf i).toNat)
  case atStart => exact ⟨_, 0, rfl, .inr rfl, rfl, Below.refl _ _, H0⟩
  case round =>
    obtain ⟨wr, m, rfl, hm, rfl, hB, hH⟩ := hrel
    by_cases hlt : m + 1 < n
    · have hpm : (m : Int) + 1 < (n : Int) := by omega
      go_wp2
      go_loopw [9] (fun i wr0 => ∃ (w2 : World) (j : Nat), w2 = wr0 ∧ j ≤ m + 1 ∧ i = .int .i64 (j : Int) ∧ Below lo w w2 ∧ Hid (∃ Y, OwnP w2 lo (.slice (some ⟨g, 0, none⟩) n c) Y ∧ SameF Y l)) (fun i _ => (intOf i).toNat)
      case atStart => exact ⟨_, m + 1, rfl, by omega, by go_num, hB, hH⟩
      case round =>
        clear hH
        obtain ⟨w2, j, rfl, hj, rfl, hB2, hH⟩ := hrel
        cases j with
        | zero =>
          have hgd : ¬ (0 : Int) < (0 : Int) := by omega
          rw [show ((0 : Nat) : Int) = 0 from rfl]
          go_wp2_with fail
          go_quiet (fail)
          go_wp2
          go_roundw
          case rel => exact ⟨_, m + 1, rfl, by omega, by go_num, bel_drewN hB2 _, Lib.hid (by obtain ⟨Y, h1, h2⟩ := hH.out; exact ⟨Y, h1.below (bel_drewN (Below.refl _ _) _), h2⟩)⟩
          case measure => simp [intOf]; omega
        | succ k =>
          obtain ⟨Y, hY, hS⟩ := hH.out
          have hYl : Y.length = n := hS.1.trans HL.out.symm
          obtain ⟨p, hp⟩ : ∃ p, Y[k]? = some p := ⟨_, List.getElem?_eq_getElem (by omega)⟩
          obtain ⟨q, hq⟩ : ∃ q, Y[k + 1]? = some q := ⟨_, List.getElem?_eq_getElem (by omega)⟩
          obtain ⟨⟨xp, op, sp, zp, ap, np, cp⟩, ⟨xq, oq, sq, zq, aq, nq, cq⟩, hA, hBq, ⟨c0, c1, c2, c3, c4⟩, ⟨d0, d1, d2, d3, d4⟩, -⟩ := hY.swap hp hq
          have HA := Lib.hid hA
          have HBq := Lib.hid hBq
          obtain ⟨⟨r1, r2, r3, r4⟩, -⟩ := hA
          obtain ⟨⟨t1, t2, t3, t4⟩, -⟩ := hBq
          dsimp only at c0 c1 c2 c3 c4 d0 d1 d2 d3 d4 r1 r2 r3 r4 t1 t2 t3 t4
          have cC := fun (w' : World) => ordered1_any q p aq nq cq ap np cp w'
          rw [← r1, ← r2, ← r3, ← r4, ← t1, ← t2, ← t3, ← t4] at cC
          have hgl := (hY.lt g rfl).2
          have HY := Lib.hid hY
          have Hp := Lib.hid hp
          have Hq := Lib.hid hq
          have HSF := Lib.hid hS
          have Hne := Lib.hid (show cmpN xq xp < 0 → (p.nm.toList == q.nm.toList) = false from fun h => by rw [r1, t1] at h; exact cmp_ne h)
          have hpl : ((k + 1 : Nat) : Int) = (k : Int) + 1 := by omega
          rw [hpl]
          have hgt : (0 : Int) < (k : Int) + 1 := by omega
          have hk0 : 0 ≤ (k : Int) := by omega
          have hk1 : 0 ≤ (k : Int) + 1 := by omega
          have hkN : (k : Int) + 1 < (n : Int) := by omega
          have hkN0 : (k : Int) < (n : Int) := by omega
          have hwr : IntKind.i64.wrap ((k : Int) + 1 - 1) = (k : Int) := by rw [IntKind.wrap_i64]; omega
          have hwr2 : IntKind.i64.wrap (k : Int) = (k : Int) := by rw [IntKind.wrap_i64]; omega
          have hBd : Below w2.heap.size w2 w2.drew := (Below.refl _ _).drew
          clear hH hS hY hp hq hYl r1 r2 r3 r4 t1 t2 t3 t4 hpl
          generalize cmpN xq xp = R at *
          by_cases hneg : R < 0
          · have hne := Hne.out hneg
            have Hne2 := Lib.hid hne
            clear Hne hne
            go_wp2_with fail
            go_region_held3 (fun w' => w'.cell? ⟨g, k * 5, none⟩ = some (.string xp) ∧ w'.cell? ⟨g, k * 5 + 1, none⟩ = some (.int .i64 op) ∧ w'.cell? ⟨g, k * 5 + 1 + 1, none⟩ = some (.string sp) ∧ w'.cell? ⟨g, k * 5 + 1 + 1 + 1, none⟩ = some (.int .i64 zp) ∧ w'.cell? ⟨g, k * 5 + 1 + 1 + 1 + 1, none⟩ = some (.slice ap np cp) ∧ w'.cell? ⟨g, (k + 1) * 5, none⟩ = some (.string xq) ∧ w'.cell? ⟨g, (k + 1) * 5 + 1, none⟩ = some (.int .i64 oq) ∧ w'.cell? ⟨g, (k + 1) * 5 + 1 + 1, none⟩ = some (.string sq) ∧ w'.cell? ⟨g, (k + 1) * 5 + 1 + 1 + 1, none⟩ = some (.int .i64 zq) ∧ w'.cell? ⟨g, (k + 1) * 5 + 1 + 1 + 1 + 1, none⟩ = some (.slice aq nq cq))
              (first | go_keep | (exact ⟨(B4.cell hgl).trans c0, (B4.cell hgl).trans c1, (B4.cell hgl).trans c2, (B4.cell hgl).trans c3, (B4.cell hgl).trans c4, (B4.cell hgl).trans d0, (B4.cell hgl).trans d1, (B4.cell hgl).trans d2, (B4.cell hgl).trans d3, (B4.cell hgl).trans d4⟩))
              (first | (go_at_call 139; ((with_reducible refine (cC _).mono ?_); rintro e w4 ⟨rfl, hb4⟩; have B4 := bel_trans hBd hb4)))
            have HO := Lib.hid (show OwnP (setU (setU w4 g (k + 1) ⟨xp, op, sp, zp, ap, np, cp⟩) g k ⟨xq, oq, sq, zq, aq, nq, cq⟩) lo (.slice (some ⟨g, 0, none⟩) n c) (swapP Y k p q) from by
              have h4 := HY.out.below B4
              have hkl1 := (List.getElem?_eq_some_iff.1 Hq.out).1
              have t1 := h4.setH (k := k + 1) hkl1 ⟨xp, op, sp, zp, ap, np, cp⟩ p (HA.out.to (fun b hb => B4.block b hb.1) (fun b hb => ⟨Nat.lt_of_lt_of_le hb.1 B4.size, hb.2⟩))
              exact t1.setH (k := k) (by rw [List.length_set]; omega) ⟨xq, oq, sq, zq, aq, nq, cq⟩ q (HBq.out.to (fun b hb => (setU_other w4 g (k + 1) b _ (fun e => hb.2 e.symm)).trans (B4.block b hb.1)) (fun b hb => ⟨by rw [setU_size]; exact Nat.lt_of_lt_of_le hb.1 B4.size, hb.2⟩)))
            have z0 := (B4.cell (p := ⟨g, _, none⟩) hgl).trans c0
            have hrow := (HY.out.below B4)
            obtain ⟨hs9, ho9, -, -⟩ := hrow
            have hfr := fun (i : Nat) => RowU.free (OwnU.row ho9) i
            have f0 := hfr (k * 5)
            have f1 := hfr (k * 5 + 1)
            have f2 := hfr (k * 5 + 2)
            have f3 := hfr (k * 5 + 3)
            have f4 := hfr (k * 5 + 4)
            have g0 := hfr ((k + 1) * 5)
            have g1 := hfr ((k + 1) * 5 + 1)
            have g2 := hfr ((k + 1) * 5 + 2)
            have g3 := hfr ((k + 1) * 5 + 3)
            have g4 := hfr ((k + 1) * 5 + 4)
            clear z0 c0 c1 c2 c3 c4 d0 d1 d2 d3 d4 hfr ho9
            go_wp2
            go_region
            go_wp2
            have hX : Below lo w w4 := hB2.trans (B4.mono (by have := hB2.size; omega))
            have hX2 := setU_below (setU_below hX hlg (k + 1) ⟨xp, op, sp, zp, ap, np, cp⟩) hlg k ⟨xq, oq, sq, zq, aq, nq, cq⟩
            have hO2 := Lib.hid (HO.out.below (w' := (setU (setU w4 g (k + 1) ⟨xp, op, sp, zp, ap, np, cp⟩) g k ⟨xq, oq, sq, zq, aq, nq, cq⟩).drew) ((Below.refl _ _).drew))
            have hX3 := hX2.drew
            unfold setU at hX3 hO2
            refine ⟨⟨_, k, rfl, by omega, by go_num, ?hbb, ?hoo⟩, ?hmm⟩
            case hmm => simp [intOf]
            case hbb => exact hX3
            case hoo => exact Lib.hid ⟨_, hO2.out, HSF.out.swap Hp.out Hq.out Hne2.out⟩
          · clear Hne
            go_wp2_with fail
            go_region_held3 (fun w' => w'.cell? ⟨g, k * 5, none⟩ = some (.string xp) ∧ w'.cell? ⟨g, k * 5 + 1, none⟩ = some (.int .i64 op) ∧ w'.cell? ⟨g, k * 5 + 1 + 1, none⟩ = some (.string sp) ∧ w'.cell? ⟨g, k * 5 + 1 + 1 + 1, none⟩ = some (.int .i64 zp) ∧ w'.cell? ⟨g, k * 5 + 1 + 1 + 1 + 1, none⟩ = some (.slice ap np cp) ∧ w'.cell? ⟨g, (k + 1) * 5, none⟩ = some (.string xq) ∧ w'.cell? ⟨g, (k + 1) * 5 + 1, none⟩ = some (.int .i64 oq) ∧ w'.cell? ⟨g, (k + 1) * 5 + 1 + 1, none⟩ = some (.string sq) ∧ w'.cell? ⟨g, (k + 1) * 5 + 1 + 1 + 1, none⟩ = some (.int .i64 zq) ∧ w'.cell? ⟨g, (k + 1) * 5 + 1 + 1 + 1 + 1, none⟩ = some (.slice aq nq cq))
              (first | go_keep | (exact ⟨(B4.cell hgl).trans c0, (B4.cell hgl).trans c1, (B4.cell hgl).trans c2, (B4.cell hgl).trans c3, (B4.cell hgl).trans c4, (B4.cell hgl).trans d0, (B4.cell hgl).trans d1, (B4.cell hgl).trans d2, (B4.cell hgl).trans d3, (B4.cell hgl).trans d4⟩))
              (first | (go_at_call 139; ((with_reducible refine (cC _).mono ?_); rintro e w4 ⟨rfl, hb4⟩; have B4 := bel_trans hBd hb4)))
            go_wp2
            go_roundw
            case rel => exact ⟨_, m + 1, rfl, .inl (by omega), by go_num, hB2.trans (B4.mono (by have := hB2.size; omega)), Lib.hid ⟨_, HY.out.below B4, HSF.out⟩⟩
            case measure => simp [intOf]; omega
    · have hge : ¬ (m : Int) + 1 < (n : Int) := by omega
      go_wp2
      go_end0
      exact ⟨⟨_, rfl⟩, hH.out, hB⟩
set_option maxRecDepth 100000 in
set_option maxHeartbeats 8000000 in
theorem stableU_any (l : List Pr) (lo g n c : Nat) (w : World) (hG : OwnP w lo (.slice (some ⟨g, 0, none⟩) n c) l) (hlen : n = l.length) (hlg : lo ≤ g) (hlw : lo ≤ w.heap.size) (hn : n < 20) :
    Calls Try.prog 195 #[.slice (some ⟨g, 0, none⟩) n c, .int .i64 n, .func (.func 139) #[] #[]] w fun e w' => (∃ v, e = .returned v) ∧ (∃ Y, OwnP w' lo (.slice (some ⟨g, 0, none⟩) n c) Y ∧ SameF Y l) ∧ Below lo w w' := by
  have cI := insertionU_any l lo g n c w hG hlen hlg hlw (by omega)
  have h1 : ¬ (20 : Int) ≤ (n : Int) := by omega
  have h2 : ¬ (20 : Int) < (n : Int) := by omega
  clear hG hlen
  go_enter Try.func195, Try.ntmps195
  go_wp2
  refine wp_loop_rounds 1 ?_
  rw [rounds_succ]
  go_wp2_with (go_at_call 227; ((with_reducible refine cI.mono ?_); rintro e w1 ⟨⟨v, rfl⟩, hY, hG⟩; have HY := Lib.hid hY; clear hY))
  refine wp_loop_rounds 1 ?_
  rw [rounds_succ]
  go_wp2
  go_end0
  exact ⟨⟨_, rfl⟩, HY.out, hG⟩
set_option maxRecDepth 100000 in
theorem sortU_any (l : List Pr) (lo g n c : Nat) (w : World) (hG : OwnP w lo (.slice (some ⟨g, 0, none⟩) n c) l) (hlen : n = l.length) (hlg : lo ≤ g) (hlw : lo ≤ w.heap.size) (hn : n < 20) :
    Calls Try.prog 138 #[.slice (some ⟨g, 0, none⟩) n c, .func (.func 139) #[] #[]] w fun e w' => (∃ v, e = .returned v) ∧ (∃ Y, OwnP w' lo (.slice (some ⟨g, 0, none⟩) n c) Y ∧ SameF Y l) ∧ Below lo w w' := by
  have cI := stableU_any l lo g n c w hG hlen hlg hlw hn
  clear hG hlen
  go_enter Try.func138, Try.ntmps138
  go_wp2_with (go_at_call 195; ((with_reducible refine cI.mono ?_); rintro e w1 ⟨⟨v, rfl⟩, hY, hG⟩; have HY := Lib.hid hY; clear hY))
  go_end0
  exact ⟨⟨_, rfl⟩, HY.out, hG⟩
end Go.Proofs.Ytbmniajimkondaa.U
namespace Go.Proofs.Ytbmniajimkondaa.U
open Go.RowKit L T C B
set_option linter.unusedVariables false
set_option linter.unusedSimpArgs false

theorem setCells_row {g : Nat} {t : TypeId} : ∀ (vs : List Value) (o : Nat) (w : World) (cur : Array Value), w.heap[g]? = some (.cells cur t (0, 0)) →
    ∃ cur' : Array Value, (w.setCells g o vs).heap[g]? = some (.cells cur' t (0, 0)) ∧ cur'.size = cur.size ∧ ∀ i, i < o → cur'[i]? = cur[i]?
  | [], o, w, cur, h => ⟨cur, h, rfl, fun _ _ => rfl⟩
  | v :: vs, o, w, cur, h => by
    obtain ⟨c', h1, h2, h3⟩ := setCells_row vs (o + 1) (w.setCell ⟨g, o, none⟩ v) _ (heap_setCell_same w g o _ _ v h)
    refine ⟨c', h1, by rw [h2, Array.size_setIfInBounds], fun i hi => ?_⟩
    rw [h3 i (by omega), Array.getElem?_setIfInBounds_ne (by omega)]
theorem setCells_other {g : Nat} : ∀ (vs : List Value) (o : Nat) (w : World) (i : Nat), i ≠ g → (w.setCells g o vs).heap[i]? = w.heap[i]?
  | [], o, w, i, h => rfl
  | v :: vs, o, w, i, h => by
    rw [World.setCells, setCells_other vs (o + 1) _ i h, heap_setCell_other _ ⟨g, o, none⟩ i v h]
theorem setCells_below {B g : Nat} {w0 : World} (hg : B ≤ g) : ∀ (vs : List Value) (o : Nat) (w : World), Below B w0 w → Below B w0 (w.setCells g o vs)
  | [], o, w, h => h
  | v :: vs, o, w, h => setCells_below hg vs (o + 1) _ (below_set h hg _ _)
theorem setCells_size {g : Nat} : ∀ (vs : List Value) (o : Nat) (w : World), (w.setCells g o vs).heap.size = w.heap.size
  | [], o, w => rfl
  | v :: vs, o, w => by rw [World.setCells, setCells_size vs (o + 1)]; simp [World.setCell]
theorem flatU_take (hs : List Hu) (k : Nat) (hk : k ≤ hs.length) : (flatU hs).take (k * 5) = flatU (hs.take k) := by
  have hl : (hs.take k).length = k := by rw [List.length_take]; omega
  have := flatU_ext (hs := hs.take k) (cs := flatU hs) (by rw [hl, flatU_len]; omega) (fun i hi j hj => by
    rw [hl] at hi
    rw [flatU_get hs i j (by omega) hj, List.getElem_take])
  rw [hl] at this
  exact this
/-- a row of the call's own, its first pairs kept, the cells behind them written over -/
theorem OwnP.keep {w : World} {lo g n c : Nat} {l : List Pr} (h : OwnP w lo (.slice (some ⟨g, 0, none⟩) n c) l) (k : Nat) (hk : k ≤ l.length) (vs : List Value) :
    OwnP (w.setCells g (k * 5) vs) lo (.slice (some ⟨g, 0, none⟩) k c) (l.take k) := by
  obtain ⟨hs, h1, h2, h3⟩ := h
  have hkl : (hs.take k).length = k := by rw [List.length_take]; omega
  refine ⟨hs.take k, ?_, by rw [List.length_take, List.length_take, h2], fun i hd p e1 e2 => ?_⟩
  · rcases h1.2 with ⟨hv, _⟩ | ⟨g', cap, cur, hv, hb, hg, hnc, hcm, hcs, ht⟩
    · cases hv
    · injection hv with q1 q2 q3
      injection q1 with q1
      injection q1 with q1
      subst q1 q3
      obtain ⟨cur', hg', hsz, hlo⟩ := setCells_row vs (k * 5) w cur hg
      refine ⟨by rw [flatU_len], .inr ⟨g, c, cur', by rw [hkl], hb, hg', by rw [hkl]; omega, hcm, hsz.trans hcs, ?_⟩⟩
      rw [hkl, ← flatU_take hs k (by omega), ← ht, List.take_take, Nat.min_eq_left (by omega)]
      refine List.ext_getElem? fun i => ?_
      by_cases hi : i < k * 5
      · rw [List.getElem?_take_of_lt hi, List.getElem?_take_of_lt hi, Array.getElem?_toList, Array.getElem?_toList, hlo i hi]
      · rw [List.getElem?_eq_none (by rw [List.length_take]; omega), List.getElem?_eq_none (by rw [List.length_take]; omega)]
  · have hi : i < k := by
      have := (List.getElem?_eq_some_iff.1 e1).1
      omega
    rw [List.getElem?_take_of_lt hi] at e1 e2
    exact (h3 i hd p e1 e2).to (fun b hb => setCells_other vs (k * 5) w b (fun e => hb.2 (by rw [e]; rfl))) (fun b hb => ⟨by rw [setCells_size]; exact hb.1, hb.2⟩)
/-- clear of a slice of pairs -/
theorem clear_pairs (w : World) (b o n c : Nat) (hn : 0 < n)
    (hc : ∀ j, j < n * 5 → (w.cell? ⟨b, o + j, none⟩).isSome = true) (hf : ∀ j, w.frozen? ⟨b, j, none⟩ = false) :
    ∃ vs : List Value, ∀ ty, (Builtin.clear_ #[37] ty #[.slice (some ⟨b, o, none⟩) n c]).run Try.prog w = .ok (.tuple #[]) (w.setCells b o vs) := by
  have hv : ∀ w : World, (zeroValue 45).run Try.prog w = .ok (.agg #[.string ⟨#[]⟩, .int .i64 0, .string ⟨#[]⟩, .int .i64 0, .slice none 0 0]) w := fun w => by kernel_rfl
  have hl : (Builtin.zeroCells (Value.cells (.agg #[.string ⟨#[]⟩, .int .i64 0, .string ⟨#[]⟩, .int .i64 0, .slice none 0 0])) n).toList.length = n * 5 := by
    simp [Builtin.zeroCells, Value.cells]
  have h1 : ∀ v ∈ (Builtin.zeroCells (Value.cells (.agg #[.string ⟨#[]⟩, .int .i64 0, .string ⟨#[]⟩, .int .i64 0, .slice none 0 0])) n).toList, v.oneCell' = true := fun v hv => by
    simp only [Builtin.zeroCells, Value.cells, Array.toList_map, List.mem_map] at hv
    obtain ⟨i, _, rfl⟩ := hv
    have hm : i % 5 = 0 ∨ i % 5 = 1 ∨ i % 5 = 2 ∨ i % 5 = 3 ∨ i % 5 = 4 := by omega
    show (#[Value.string ⟨#[]⟩, .int .i64 0, .string ⟨#[]⟩, .int .i64 0, .slice none 0 0][i % 5]!).oneCell' = true
    rcases hm with e | e | e | e | e <;> rw [e] <;> rfl
  have hst := run_storeCells_cells (P := Try.prog) b o _ 0 w (by rw [hl]; simpa using hc) (fun j _ => by simpa using hf (o + 0 + j)) h1
  simp only [Nat.add_zero] at hst
  obtain ⟨m, rfl⟩ : ∃ m, n = m + 1 := ⟨n - 1, by omega⟩
  exact ⟨(Builtin.zeroCells (Value.cells (.agg #[.string ⟨#[]⟩, .int .i64 0, .string ⟨#[]⟩, .int .i64 0, .slice none 0 0])) (m + 1)).toList, fun ty => by simp [Builtin.clear_, run_underlying Try.underlying37, hv, hst]⟩

/-! which pairs are kept -/
theorem getU_has {X : List Pr} {s : ByteArray} : (∃ x ∈ X, (x.nm.toList == s.toList) = true) → getU X s ≠ none := by
  induction X with
  | nil => rintro ⟨x, hx, _⟩; simp at hx
  | cons p X ih =>
    rintro ⟨x, hx, he⟩
    rw [getU]
    by_cases h : (p.nm.toList == s.toList) = true
    · rw [if_pos h]; simp
    · rw [if_neg h]
      refine ih ⟨x, ?_, he⟩
      rcases List.mem_cons.1 hx with rfl | hx
      · exact absurd he h
      · exact hx
/-- row Z, its first k kept, the pairs of l ahead of j looked at -/
structure Cmp (l Z : List Pr) (k j : Nat) : Prop where
  len : Z.length = l.length
  kj : k < j
  jl : j ≤ l.length
  rest : ∀ i, j ≤ i + 1 → Z[i]? = l[i]?
  get : ∀ s, getU (Z.take k ++ l.drop j) s = getU l s
  last : ∀ p, l[j - 1]? = some p → ∃ x ∈ Z.take k, (x.nm.toList == p.nm.toList) = true
  mem : ∀ x ∈ Z.take k, x ∈ l
theorem Cmp.start {l : List Pr} {k : Nat} {p q : Pr} (h1 : l[k]? = some p) (h2 : l[k + 1]? = some q) (he : (q.nm.toList == p.nm.toList) = true) : Cmp l l (k + 1) (k + 2) := by
  obtain ⟨k1, e1⟩ := List.getElem?_eq_some_iff.1 h1
  obtain ⟨k2, e2⟩ := List.getElem?_eq_some_iff.1 h2
  have a1 := List.drop_eq_getElem_cons k1
  have a2 := List.drop_eq_getElem_cons k2
  rw [e1] at a1
  rw [e2] at a2
  have ht : l.take (k + 1) = l.take k ++ [p] := by rw [List.take_add_one, h1]; rfl
  have e : l = l.take k ++ p :: q :: l.drop (k + 2) := by
    conv => lhs; rw [← List.take_append_drop k l, a1, a2]
  have hpq : (p.nm.toList == q.nm.toList) = true := by rw [beq_iff_eq] at he ⊢; exact he.symm
  refine ⟨rfl, by omega, by omega, fun _ _ => rfl, fun s => ?_, fun x hx => ?_, fun x hx => List.mem_of_mem_take hx⟩
  · have := getU_drop (l.take k) (l.drop (k + 2)) p q hpq s
    rw [ht, List.append_assoc]
    conv => rhs; rw [e]
    exact this
  · rw [show k + 2 - 1 = k + 1 by omega, h2] at hx
    injection hx with hx
    subst hx
    exact ⟨p, by rw [ht]; simp, hpq⟩
theorem Cmp.same {l Z : List Pr} {k j : Nat} (h : Cmp l Z k j) {p q : Pr} (h1 : l[j - 1]? = some p) (h2 : l[j]? = some q) (he : (q.nm.toList == p.nm.toList) = true) : Cmp l Z k (j + 1) := by
  obtain ⟨k2, e2⟩ := List.getElem?_eq_some_iff.1 h2
  have a2 := List.drop_eq_getElem_cons k2
  rw [e2] at a2
  obtain ⟨x, hx, hxe⟩ := h.last p h1
  have hxq : (x.nm.toList == q.nm.toList) = true := by rw [beq_iff_eq] at he hxe ⊢; rw [hxe, he]
  refine ⟨h.len, by have := h.kj; omega, by omega, fun i hi => h.rest i (by omega), fun s => ?_, fun y hy => ?_, h.mem⟩
  · rw [← h.get s, a2, getU_app, getU_app]
    cases hg : getU (Z.take k) s with
    | some u => rfl
    | none =>
      have hne : ¬ (q.nm.toList == s.toList) = true := fun hq => getU_has ⟨x, hx, by rw [beq_iff_eq] at hq hxq ⊢; rw [hxq, hq]⟩ hg
      show getU (l.drop (j + 1)) s = getU (q :: l.drop (j + 1)) s
      rw [getU, if_neg hne]
  · rw [Nat.add_sub_cancel, h2] at hy
    injection hy with hy
    subst hy
    exact ⟨x, hx, hxq⟩
theorem Cmp.other {l Z : List Pr} {k j : Nat} (h : Cmp l Z k j) {q : Pr} (h2 : l[j]? = some q) : Cmp l (Z.set k q) (k + 1) (j + 1) := by
  obtain ⟨k2, e2⟩ := List.getElem?_eq_some_iff.1 h2
  have a2 := List.drop_eq_getElem_cons k2
  rw [e2] at a2
  have hkj := h.kj
  have hkl : k < Z.length := by rw [h.len]; omega
  have ht : (Z.set k q).take (k + 1) = Z.take k ++ [q] := by
    rw [List.take_add_one, List.getElem?_set_self hkl, List.take_set_of_le (Nat.le_refl _)]; rfl
  refine ⟨by rw [List.length_set, h.len], by omega, by omega, fun i hi => ?_, fun s => ?_, fun y hy => ?_, fun x hx => ?_⟩
  · rw [List.getElem?_set_ne (by omega)]; exact h.rest i (by omega)
  · rw [ht, List.append_assoc, ← h.get s, a2]; rfl
  · rw [Nat.add_sub_cancel, h2] at hy
    injection hy with hy
    subst hy
    exact ⟨q, by rw [ht]; simp, by simp⟩
  · rw [ht] at hx
    rcases List.mem_append.1 hx with hx | hx
    · exact h.mem x hx
    · rw [List.mem_singleton] at hx; subst hx; exact List.mem_of_getElem? h2
/-- the same first terms, no other pairs, not more -/
def LessF (Y l : List Pr) : Prop := Y.length ≤ l.length ∧ (∀ s, getU Y s = getU l s) ∧ ∀ x ∈ Y, x ∈ l
theorem LessF.refl (l : List Pr) : LessF l l := ⟨Nat.le_refl _, fun _ => rfl, fun _ h => h⟩
theorem LessF.same {X Y l : List Pr} (h : LessF Y X) (hs : SameF X l) : LessF Y l := ⟨by rw [← hs.1]; exact h.1, fun s => (h.2.1 s).trans (hs.2.1 s), fun x hx => hs.2.2 x (h.2.2 x hx)⟩
theorem Cmp.done {l Z : List Pr} {k j : Nat} (h : Cmp l Z k j) (hj : j = l.length) : LessF (Z.take k) l := by
  refine ⟨by rw [List.length_take, h.len]; omega, fun s => ?_, h.mem⟩
  have := h.get s
  rw [hj, List.drop_length, List.append_nil] at this
  exact this
end Go.Proofs.Ytbmniajimkondaa.U
namespace Go.Proofs.Ytbmniajimkondaa.U
open Go.RowKit L T C B
set_option linter.unusedVariables false
set_option linter.unusedSimpArgs false

theorem isSome_row {w : World} {lo g n c : Nat} {l : List Pr} (h : OwnP w lo (.slice (some ⟨g, 0, none⟩) n c) l) : ∀ j, j < n * 5 → (w.cell? ⟨g, j, none⟩).isSome = true := fun j hj => by
  obtain ⟨hs, h1, h2, h3⟩ := h
  rcases h1.2 with ⟨hv, _⟩ | ⟨g', cap, cur, hv, hb, hg, hnc, hcm, hcs, ht⟩
  · cases hv
  · injection hv with q1 q2 q3
    injection q1 with q1
    injection q1 with q1
    subst q1 q2 q3
    rw [cell_of_row w g _ _ _ _ hg, Array.getElem?_eq_getElem (by omega)]; rfl
set_option maxRecDepth 100000 in
set_option maxHeartbeats 16000000 in
theorem compactU_any (l : List Pr) (lo g n c : Nat) (w : World) (hG : OwnP w lo (.slice (some ⟨g, 0, none⟩) n c) l) (hlen : n = l.length) (hlg : lo ≤ g) (hlw : lo ≤ w.heap.size) (hn : n ≤ 1000000) :
    Calls Try.prog 140 #[.slice (some ⟨g, 0, none⟩) n c, .func (.func 141) #[] #[]] w fun e w' => ∃ m, e = .returned (.slice (some ⟨g, 0, none⟩) m c) ∧ (∃ Y, OwnP w' lo (.slice (some ⟨g, 0, none⟩) m c) Y ∧ LessF Y l) ∧ Below lo w w' := by
  by_cases h2 : n < 2
  · have h2' : (n : Int) < 2 := by omega
    have HG := Lib.hid hG
    clear hG
    go_enter Try.func140, Try.ntmps140
    go_wp2
    go_ret
    exact ⟨_, rfl, ⟨l, HG.out, LessF.refl l⟩, Below.refl _ _⟩
  · have h2' : ¬ (n : Int) < 2 := by omega
    have hnc : n ≤ c := by
      obtain ⟨A0, c0, hv, q1, -⟩ := hG.slice
      injection hv with v1 v2 v3
      omega
    have HG := Lib.hid hG
    have HL := Lib.hid hlen
    clear hG hlen
    go_enter Try.func140, Try.ntmps140
    go_wp2
    go_loopw [5] (fun i wr0 => ∃ (wr : World) (k : Nat), wr = wr0 ∧ k < n ∧ i = .int .i64 ((k : Int) + 1) ∧ Below lo w wr ∧ Hid (OwnP wr lo (.slice (some ⟨g, 0, none⟩) n c) l)) (fun i _ => n - (intOf i).toNat)
    case atStart => exact ⟨_, 0, rfl, by omega, rfl, Below.refl _ _, HG⟩
    case round =>
      obtain ⟨wr, m, rfl, hk, rfl, hB, hH⟩ := hrel
      by_cases hlt : m + 1 < n
      · obtain ⟨p, hp⟩ : ∃ p, l[m]? = some p := ⟨_, List.getElem?_eq_getElem (by have := HL.out; omega)⟩
        obtain ⟨q, hq⟩ : ∃ q, l[m + 1]? = some q := ⟨_, List.getElem?_eq_getElem (by have := HL.out; omega)⟩
        obtain ⟨⟨xp, op, sp, zp, ap, np, cp⟩, ⟨xq, oq, sq, zq, aq, nq, cq⟩, hA, hBq, ⟨c0, c1, c2, c3, c4⟩, ⟨d0, d1, d2, d3, d4⟩, -⟩ := hH.out.swap hp hq
        obtain ⟨⟨r1, r2, r3, r4⟩, -⟩ := hA
        obtain ⟨⟨t1, t2, t3, t4⟩, -⟩ := hBq
        dsimp only at c0 c1 c2 c3 c4 d0 d1 d2 d3 d4 r1 r2 r3 r4 t1 t2 t3 t4
        have cC := fun (w' : World) => ordered2_any q p aq nq cq ap np cp w'
        have hSt := fun (h : (q.nm.toList == p.nm.toList) = true) => Cmp.start hp hq h
        rw [← r1, ← t1] at hSt
        rw [← r1, ← r2, ← r3, ← r4, ← t1, ← t2, ← t3, ← t4] at cC
        have hgl := (hH.out.lt g rfl).2
        have hBd : Below wr.heap.size wr wr.drew := (Below.refl _ _).drew
        have hwr : IntKind.i64.wrap ((m : Int) + 1 - 1) = (m : Int) := by rw [IntKind.wrap_i64]; omega
        have hwr2 : IntKind.i64.wrap (m : Int) = (m : Int) := by rw [IntKind.wrap_i64]; omega
        have hk0 : 0 ≤ (m : Int) := by omega
        have hk1 : 0 ≤ (m : Int) + 1 := by omega
        have hkN : (m : Int) + 1 < (n : Int) := by omega
        have hkN0 : (m : Int) < (n : Int) := by omega
        clear r1 r2 r3 r4 t1 t2 t3 t4
        cases hcmp : (xq.toList == xp.toList) with
        | false =>
          rw [hcmp] at cC
          clear hSt hp hq hcmp
          go_wp2_with fail
          go_region_held3 (fun w' => w'.cell? ⟨g, m * 5, none⟩ = some (.string xp) ∧ w'.cell? ⟨g, m * 5 + 1, none⟩ = some (.int .i64 op) ∧ w'.cell? ⟨g, m * 5 + 1 + 1, none⟩ = some (.string sp) ∧ w'.cell? ⟨g, m * 5 + 1 + 1 + 1, none⟩ = some (.int .i64 zp) ∧ w'.cell? ⟨g, m * 5 + 1 + 1 + 1 + 1, none⟩ = some (.slice ap np cp) ∧ w'.cell? ⟨g, (m + 1) * 5, none⟩ = some (.string xq) ∧ w'.cell? ⟨g, (m + 1) * 5 + 1, none⟩ = some (.int .i64 oq) ∧ w'.cell? ⟨g, (m + 1) * 5 + 1 + 1, none⟩ = some (.string sq) ∧ w'.cell? ⟨g, (m + 1) * 5 + 1 + 1 + 1, none⟩ = some (.int .i64 zq) ∧ w'.cell? ⟨g, (m + 1) * 5 + 1 + 1 + 1 + 1, none⟩ = some (.slice aq nq cq))
            (first | go_keep | (exact ⟨(B4.cell hgl).trans c0, (B4.cell hgl).trans c1, (B4.cell hgl).trans c2, (B4.cell hgl).trans c3, (B4.cell hgl).trans c4, (B4.cell hgl).trans d0, (B4.cell hgl).trans d1, (B4.cell hgl).trans d2, (B4.cell hgl).trans d3, (B4.cell hgl).trans d4⟩))
            (first | (go_at_call 141; ((with_reducible refine (cC _).mono ?_); rintro e w4 ⟨rfl, hb4⟩; have B4 := bel_trans hBd hb4)))
          all_goals go_wp2
          all_goals go_roundw
          case rel => exact ⟨_, m + 1, rfl, by omega, by go_num, hB.trans (B4.mono (by have := hB.size; omega)), Lib.hid (hH.out.below B4)⟩
          case measure => simp [intOf]; omega
        | true =>
          rw [hcmp] at cC
          have hSt2 := Lib.hid (hSt (by rw [hcmp]))
          clear hSt hp hq hcmp
          have hne : ¬ n = m + 1 := by omega
          have hneC : ¬ c = m + 1 := by omega
          have hle : (m : Int) + 1 ≤ (n : Int) := by omega
          go_wp2_with fail
          go_region_held3 (fun w' => w'.cell? ⟨g, m * 5, none⟩ = some (.string xp) ∧ w'.cell? ⟨g, m * 5 + 1, none⟩ = some (.int .i64 op) ∧ w'.cell? ⟨g, m * 5 + 1 + 1, none⟩ = some (.string sp) ∧ w'.cell? ⟨g, m * 5 + 1 + 1 + 1, none⟩ = some (.int .i64 zp) ∧ w'.cell? ⟨g, m * 5 + 1 + 1 + 1 + 1, none⟩ = some (.slice ap np cp) ∧ w'.cell? ⟨g, (m + 1) * 5, none⟩ = some (.string xq) ∧ w'.cell? ⟨g, (m + 1) * 5 + 1, none⟩ = some (.int .i64 oq) ∧ w'.cell? ⟨g, (m + 1) * 5 + 1 + 1, none⟩ = some (.string sq) ∧ w'.cell? ⟨g, (m + 1) * 5 + 1 + 1 + 1, none⟩ = some (.int .i64 zq) ∧ w'.cell? ⟨g, (m + 1) * 5 + 1 + 1 + 1 + 1, none⟩ = some (.slice aq nq cq))
            (first | go_keep | (exact ⟨(B4.cell hgl).trans c0, (B4.cell hgl).trans c1, (B4.cell hgl).trans c2, (B4.cell hgl).trans c3, (B4.cell hgl).trans c4, (B4.cell hgl).trans d0, (B4.cell hgl).trans d1, (B4.cell hgl).trans d2, (B4.cell hgl).trans d3, (B4.cell hgl).trans d4⟩))
            (first | (go_at_call 141; ((with_reducible refine (cC _).mono ?_); rintro e w4 ⟨rfl, hb4⟩; have B4 := bel_trans hBd hb4)))
          have HH := Lib.hid (hH.out.below B4)
          have hB4 : Below lo w w4 := hB.trans (B4.mono (by have := hB.size; omega))
          clear hH c0 c1 c2 c3 c4 d0 d1 d2 d3 d4 hgl
          go_wp2
          go_loopw [5, 7] (fun kk jj wr0 => ∃ (w2 : World) (k i : Nat) (Z : List Pr), w2 = wr0 ∧ kk = .int .i64 (k : Int) ∧ jj = .int .i64 ((i : Int) + 1) ∧ m + 2 + i ≤ n ∧ Below lo w w2 ∧ Hid (OwnP w2 lo (.slice (some ⟨g, 0, none⟩) n c) Z ∧ Cmp l Z k (m + 2 + i))) (fun kk jj _ => n - (intOf jj).toNat)
          case atStart => exact ⟨_, m + 1, 0, l, rfl, by go_num, rfl, by omega, hB4, Lib.hid ⟨HH.out, hSt2.out⟩⟩
          case round =>
            clear HH hSt2 HG cC hBd
            obtain ⟨w2, k, i, Z, rfl, rfl, rfl, hjn, hB2, hI⟩ := hrel
            have hkj := hI.out.2.kj
            by_cases hlt2 : m + 2 + i < n
            · have hZl : Z.length = n := hI.out.2.len.trans HL.out.symm
              obtain ⟨p, hp⟩ : ∃ p, Z[m + 1 + i]? = some p := ⟨_, List.getElem?_eq_getElem (by omega)⟩
              obtain ⟨q, hq⟩ : ∃ q, Z[m + 1 + i + 1]? = some q := ⟨_, List.getElem?_eq_getElem (by omega)⟩
              obtain ⟨⟨xp, op, sp, zp, ap, np, cp⟩, ⟨xq, oq, sq, zq, aq, nq, cq⟩, hA, hBq, ⟨c0, c1, c2, c3, c4⟩, ⟨d0, d1, d2, d3, d4⟩, -⟩ := hI.out.1.swap hp hq
              have HBq := Lib.hid hBq
              obtain ⟨⟨r1, r2, r3, r4⟩, -⟩ := hA
              obtain ⟨⟨t1, t2, t3, t4⟩, -⟩ := hBq
              dsimp only at c0 c1 c2 c3 c4 d0 d1 d2 d3 d4 r1 r2 r3 r4 t1 t2 t3 t4
              have cC := fun (w' : World) => ordered2_any q p aq nq cq ap np cp w'
              have hlp : l[m + 2 + i - 1]? = some p := by rw [← hI.out.2.rest (m + 2 + i - 1) (by omega), ← hp]; congr 1; omega
              have hlq : l[m + 2 + i]? = some q := by rw [← hI.out.2.rest (m + 2 + i) (by omega), ← hq]; congr 1; omega
              have hSa := fun (h : (q.nm.toList == p.nm.toList) = true) => hI.out.2.same hlp hlq h
              have hOt := Lib.hid (hI.out.2.other hlq)
              rw [← r1, ← t1] at hSa
              rw [← r1, ← r2, ← r3, ← r4, ← t1, ← t2, ← t3, ← t4] at cC
              rw [show (m + 1 + i) * 5 = (m + 1) * 5 + i * 5 by omega] at c0 c1 c2 c3 c4
              rw [show (m + 1 + i + 1) * 5 = (m + 1) * 5 + (i + 1) * 5 by omega] at d0 d1 d2 d3 d4
              have hgl := (hI.out.1.lt g rfl).2
              have HO := Lib.hid hI.out.1
              have hBd : Below w2.heap.size w2 w2.drew := (Below.refl _ _).drew
              have hwr3 : IntKind.i64.wrap ((i : Int) + 1 - 1) = (i : Int) := by rw [IntKind.wrap_i64]; omega
              have hwr4 : IntKind.i64.wrap (i : Int) = (i : Int) := by rw [IntKind.wrap_i64]; omega
              have hi0 : 0 ≤ (i : Int) := by omega
              have hi1 : 0 ≤ (i : Int) + 1 := by omega
              have hiN : (i : Int) + 1 < ((n - (m + 1) : Nat) : Int) := by omega
              have hiN0 : (i : Int) < ((n - (m + 1) : Nat) : Int) := by omega
              have hkn0 : 0 ≤ (k : Int) := by omega
              have hknN : (k : Int) < (n : Int) := by omega
              clear r1 r2 r3 r4 t1 t2 t3 t4 hwr hwr2
              cases hcmp : (xq.toList == xp.toList) with
              | true =>
                rw [hcmp] at cC
                have hS := Lib.hid (hSa (by rw [hcmp]))
                clear hSa hOt hI hp hq hlp hlq hcmp
                go_wp2_with fail
                go_region_held3 (fun w' => w'.cell? ⟨g, (m + 1) * 5 + i * 5, none⟩ = some (.string xp) ∧ w'.cell? ⟨g, (m + 1) * 5 + i * 5 + 1, none⟩ = some (.int .i64 op) ∧ w'.cell? ⟨g, (m + 1) * 5 + i * 5 + 1 + 1, none⟩ = some (.string sp) ∧ w'.cell? ⟨g, (m + 1) * 5 + i * 5 + 1 + 1 + 1, none⟩ = some (.int .i64 zp) ∧ w'.cell? ⟨g, (m + 1) * 5 + i * 5 + 1 + 1 + 1 + 1, none⟩ = some (.slice ap np cp) ∧ w'.cell? ⟨g, (m + 1) * 5 + (i + 1) * 5, none⟩ = some (.string xq) ∧ w'.cell? ⟨g, (m + 1) * 5 + (i + 1) * 5 + 1, none⟩ = some (.int .i64 oq) ∧ w'.cell? ⟨g, (m + 1) * 5 + (i + 1) * 5 + 1 + 1, none⟩ = some (.string sq) ∧ w'.cell? ⟨g, (m + 1) * 5 + (i + 1) * 5 + 1 + 1 + 1, none⟩ = some (.int .i64 zq) ∧ w'.cell? ⟨g, (m + 1) * 5 + (i + 1) * 5 + 1 + 1 + 1 + 1, none⟩ = some (.slice aq nq cq))
                  (first | go_keep | (exact ⟨(B5.cell hgl).trans c0, (B5.cell hgl).trans c1, (B5.cell hgl).trans c2, (B5.cell hgl).trans c3, (B5.cell hgl).trans c4, (B5.cell hgl).trans d0, (B5.cell hgl).trans d1, (B5.cell hgl).trans d2, (B5.cell hgl).trans d3, (B5.cell hgl).trans d4⟩))
                  (first | (go_at_call 141; ((with_reducible refine (cC _).mono ?_); rintro e w5 ⟨rfl, hb5⟩; have B5 := bel_trans hBd hb5)))
                go_wp2
                go_roundw
                case rel => exact ⟨_, k, i + 1, Z, rfl, rfl, by go_num, by omega, hB2.trans (B5.mono (by have := hB2.size; omega)), Lib.hid ⟨HO.out.below B5, hS.out⟩⟩
                case measure => simp [intOf]; omega
              | false =>
                rw [hcmp] at cC
                clear hSa hI hp hq hlp hlq hcmp
                go_wp2_with fail
                go_region_held3 (fun w' => w'.cell? ⟨g, (m + 1) * 5 + i * 5, none⟩ = some (.string xp) ∧ w'.cell? ⟨g, (m + 1) * 5 + i * 5 + 1, none⟩ = some (.int .i64 op) ∧ w'.cell? ⟨g, (m + 1) * 5 + i * 5 + 1 + 1, none⟩ = some (.string sp) ∧ w'.cell? ⟨g, (m + 1) * 5 + i * 5 + 1 + 1 + 1, none⟩ = some (.int .i64 zp) ∧ w'.cell? ⟨g, (m + 1) * 5 + i * 5 + 1 + 1 + 1 + 1, none⟩ = some (.slice ap np cp) ∧ w'.cell? ⟨g, (m + 1) * 5 + (i + 1) * 5, none⟩ = some (.string xq) ∧ w'.cell? ⟨g, (m + 1) * 5 + (i + 1) * 5 + 1, none⟩ = some (.int .i64 oq) ∧ w'.cell? ⟨g, (m + 1) * 5 + (i + 1) * 5 + 1 + 1, none⟩ = some (.string sq) ∧ w'.cell? ⟨g, (m + 1) * 5 + (i + 1) * 5 + 1 + 1 + 1, none⟩ = some (.int .i64 zq) ∧ w'.cell? ⟨g, (m + 1) * 5 + (i + 1) * 5 + 1 + 1 + 1 + 1, none⟩ = some (.slice aq nq cq))
                  (first | go_keep | (exact ⟨(B5.cell hgl).trans c0, (B5.cell hgl).trans c1, (B5.cell hgl).trans c2, (B5.cell hgl).trans c3, (B5.cell hgl).trans c4, (B5.cell hgl).trans d0, (B5.cell hgl).trans d1, (B5.cell hgl).trans d2, (B5.cell hgl).trans d3, (B5.cell hgl).trans d4⟩))
                  (first | (go_at_call 141; ((with_reducible refine (cC _).mono ?_); rintro e w5 ⟨rfl, hb5⟩; have B5 := bel_trans hBd hb5)))
                have HO2 := Lib.hid (show OwnP (setU w5 g k ⟨xq, oq, sq, zq, aq, nq, cq⟩) lo (.slice (some ⟨g, 0, none⟩) n c) (Z.set k q) from by
                  have h5 := HO.out.below B5
                  exact h5.setH (k := k) (by rw [hZl]; omega) ⟨xq, oq, sq, zq, aq, nq, cq⟩ q (HBq.out.to (fun b hb => B5.block b hb.1) (fun b hb => ⟨Nat.lt_of_lt_of_le hb.1 B5.size, hb.2⟩)))
                have hX : Below lo w w5 := hB2.trans (B5.mono (by have := hB2.size; omega))
                have hX2 := Lib.hid (setU_below hX hlg k ⟨xq, oq, sq, zq, aq, nq, cq⟩)
                have e0 := (B5.cell (p := ⟨g, _, none⟩) hgl).trans d0
                have e1 := (B5.cell (p := ⟨g, _, none⟩) hgl).trans d1
                have e2 := (B5.cell (p := ⟨g, _, none⟩) hgl).trans d2
                have e3 := (B5.cell (p := ⟨g, _, none⟩) hgl).trans d3
                have e4 := (B5.cell (p := ⟨g, _, none⟩) hgl).trans d4
                have hsm := isSome_row (HO.out.below B5)
                obtain ⟨u0, k0⟩ := Option.isSome_iff_exists.1 (hsm (k * 5) (by omega))
                obtain ⟨u1, k1⟩ := Option.isSome_iff_exists.1 (hsm (k * 5 + 1) (by omega))
                obtain ⟨u2, k2⟩ := Option.isSome_iff_exists.1 (hsm (k * 5 + 2) (by omega))
                obtain ⟨u3, k3⟩ := Option.isSome_iff_exists.1 (hsm (k * 5 + 3) (by omega))
                obtain ⟨u4, k4⟩ := Option.isSome_iff_exists.1 (hsm (k * 5 + 4) (by omega))
                obtain ⟨hs9, ho9, -, -⟩ := HO.out.below B5
                have hfr := fun (i : Nat) => RowU.free (OwnU.row ho9) i
                have f0 := hfr (k * 5)
                have f1 := hfr (k * 5 + 1)
                have f2 := hfr (k * 5 + 2)
                have f3 := hfr (k * 5 + 3)
                have f4 := hfr (k * 5 + 4)
                clear c0 c1 c2 c3 c4 d0 d1 d2 d3 d4 hfr ho9 hsm
                unfold setU at HO2 hX2
                go_wp2
                go_roundw
                case rel => exact ⟨_, k + 1, i + 1, _, rfl, by go_num, by go_num, by omega, hX2.out, Lib.hid ⟨HO2.out, hOt.out⟩⟩
                case measure => simp [intOf]; omega
            · obtain rfl : n = m + 2 + i := by omega
              have hfr : ∀ j : Nat, w2.frozen? ⟨g, j, none⟩ = false := fun j => by
                obtain ⟨hs9, ho9, -, -⟩ := hI.out.1
                exact RowU.free (OwnU.row ho9) j
              have hsm := isSome_row hI.out.1
              obtain ⟨vs, hcl⟩ := clear_pairs w2 g (k * 5) (m + 2 + i - k) (c - k) (by omega) (fun j hj => hsm _ (by omega)) hfr
              have HK := Lib.hid (hI.out.1.keep k (by rw [hI.out.2.len, ← HL.out]; omega) vs)
              have HD := Lib.hid (hI.out.2.done HL.out)
              have hge2 : ¬ (i : Int) + 1 < ((m + 2 + i - (m + 1) : Nat) : Int) := by omega
              have hBc := setCells_below hlg vs (k * 5) w2 hB2
              have hkle : (k : Int) ≤ ((m + 2 + i : Nat) : Int) := by omega
              have hkn0 : 0 ≤ (k : Int) := by omega
              have hne2 : ¬ m + 2 + i = k := by omega
              have hne3 : ¬ c = k := by omega
              clear hI hfr hsm
              go_wp2
              go_ret
              exact ⟨_, rfl, ⟨_, HK.out, HD.out⟩, hBc⟩
      · have hge : ¬ (m : Int) + 1 < (n : Int) := by omega
        clear HG
        go_wp2
        go_ret
        exact ⟨_, rfl, ⟨l, hH.out, LessF.refl l⟩, hB⟩
set_option maxRecDepth 100000 in
set_option maxHeartbeats 4000000 in
/-- any pairs, put in order -/
theorem orderedU_any (l : List Pr) (A : Option Addr) (n c : Nat) (w : World) (hG : UsW w A n c l) (hn : n < 20) :
    Calls Try.prog 86 #[.slice A n c] w fun e w' => ∃ A' m C' Y, e = .returned (.slice A' m C') ∧ OwnP w' w.heap.size (.slice A' m C') Y ∧ LessF Y l ∧ Below w.heap.size w w' := by
  by_cases h1 : n < 2
  · refine (orderedU_inc l (fun k p q h1 h2 => ?_) A n c w hG hn).mono ?_
    · have := (List.getElem?_eq_some_iff.1 h2).1
      have := hG.1
      omega
    · rintro e w' ⟨A', C', rfl, ho, hb⟩
      exact ⟨A', n, C', l, rfl, ho, LessF.refl l, hb⟩
  · have cC := cloneU_any A n c l w hG (by omega)
    have hl : n = l.length := hG.1
    have HL := Lib.hid hl
    have HS := Lib.hid (show ∀ (g C' : Nat) (W : World), OwnP W w.heap.size (.slice (some ⟨g, 0, none⟩) n C') l → w.heap.size ≤ g → w.heap.size ≤ W.heap.size → _ from fun g C' W h h1 h2 => sortU_any l w.heap.size g n C' W h hl h1 h2 hn)
    have HK := Lib.hid (show ∀ (X : List Pr) (g C' : Nat) (W : World), OwnP W w.heap.size (.slice (some ⟨g, 0, none⟩) n C') X → n = X.length → w.heap.size ≤ g → w.heap.size ≤ W.heap.size → _ from fun X g C' W h hl h1 h2 => compactU_any X w.heap.size g n C' W h hl h1 h2 (by omega))
    clear hG hl
    go_enter Try.func86, Try.ntmps86
    go_wp2_with (first
      | (go_at_call 137; ((with_reducible refine cC.mono ?_); rintro e w1 ⟨v, rfl, ho, hb1⟩; obtain ⟨A', C', hv, -, -, -, hpos⟩ := ho.slice; rw [← HL.out] at hv hpos; obtain ⟨g, hA', hg1, hg2⟩ := hpos (by omega); subst hA'; subst hv; have HO := Lib.hid ho; clear ho hpos; have hsO := HS.out g C' w1 HO.out hg1 hb1.size))
      | (go_at_call 138; ((with_reducible refine hsO.mono ?_); rintro e w2 ⟨⟨v2, rfl⟩, ⟨X, hX, hSX⟩, hb2⟩; have HX := Lib.hid hX; have HSX := Lib.hid hSX; clear hX hSX; have hb12 : Below w.heap.size w w2 := hb1.trans hb2; have hkO := HK.out X g C' w2 HX.out (HL.out.trans HSX.out.1.symm) hg1 hb12.size))
      | (go_at_call 140; ((with_reducible refine hkO.mono ?_); rintro e w3 ⟨m, rfl, ⟨Y, hY, hLY⟩, hb3⟩; have HY := Lib.hid hY; have HLY := Lib.hid hLY; clear hY hLY)))
    go_ret
    exact ⟨_, _, _, _, rfl, HY.out, HLY.out.same HSX.out, hb12.trans hb3⟩
end Go.Proofs.Ytbmniajimkondaa.U
