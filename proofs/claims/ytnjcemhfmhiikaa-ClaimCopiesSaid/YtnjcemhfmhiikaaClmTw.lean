/-
  What is proved: the document's TermTwin: the same term in new memory.
-/
import Derived.Test.YtnjcemhfmhiikaaLibP
import Derived.Test.YtnjcemhfmhiikaaLibTe
import Derived.Test.YtnjcemhfmhiikaaTrmW
import Derived.Deep.AppendLies
import Derived.Deep.RegionLaw
namespace Go.Proofs.Ytnjcemhfmhiikaa.T
open Go.RowKit L Go.Deep
set_option linter.unusedVariables false
set_option linter.unusedSimpArgs false

def MixT (B : Nat) (r : Tm) (w : World) (e : Ending) (w' : World) : Prop := ∃ A N C, e = .returned (.agg #[.int .i64 (opT r), .string (nameT r), .int .i64 (numT r), .slice A N C]) ∧ ArP (NewB B w.heap.size w'.heap.size) w' r A N C ∧ Below w.heap.size w w'
def TwinOk (t : Tm) : Prop := ∀ (a : Option Addr) (m c : Nat) (w : World), size t ≤ 1000000 → ArW w t a m c →
  Calls Try.prog 47 #[.agg #[.int .i64 (opT t), .string (nameT t), .int .i64 (numT t), .slice a m c]] w fun e w' => MixT 0 t w e w'
theorem RowP.far {B lo : Nat} {w w' : World} {v : Value} {lr : List Tm} {k : Nat} (h : RowP B lo w v lr k) (hs' : w'.heap.size = w.heap.size) (hb : ∀ b, b < B ∨ lo ≤ b → w'.heap[b]? = w.heap[b]?) : RowP B lo w' v lr k := by
  obtain ⟨hs, h1, h2, h3⟩ := h
  refine ⟨hs, h1, ?_, fun j h t e1 e2 => ?_⟩
  · refine ⟨h2.1, ?_⟩
    rcases h2.2 with hn | ⟨g, cap, cur, rfl, g1, hg, rest⟩
    · exact .inl hn
    · exact .inr ⟨g, cap, cur, rfl, g1, by rw [hb g (.inr g1)]; exact hg, rest⟩
  · obtain ⟨q1, q2, q3, q4⟩ := h3 j h t e1 e2
    exact ⟨q1, q2, q3, ArP.to (fun b hq => hb b hq.1.2) (fun b hq => ⟨⟨by rw [hs']; exact hq.1.1, hq.1.2⟩, hq.2⟩) t q4⟩

set_option maxRecDepth 100000 in
set_option maxHeartbeats 16000000 in
theorem Twin_step (t : Tm) (hok : ∀ x ∈ argsT t, TwinOk x) : TwinOk t := by
  intro a m c w hsz hA
  obtain ⟨W2, hW2, hB2, hs2, S2, R2, O2⟩ := box3 w (opT t) (nameT t) (numT t) a m c 0 ⟨#[]⟩ 0 none 0 0 (opT t) (nameT t) (numT t) none 0 0
  have hBs : Below w.heap.size w (W2.setCell ⟨w.heap.size + 1 + 1, 3, none⟩ (.slice none 0 0)) := below_set hB2 (by omega) _ _
  have hIs : TsW (W2.setCell ⟨w.heap.size + 1 + 1, 3, none⟩ (.slice none 0 0)) a m c (argsT t) := TsW.b (ArW.args hA) hBs
  have hWs : W2.heap.size ≤ (W2.setCell ⟨w.heap.size + 1 + 1, 3, none⟩ (.slice none 0 0)).heap.size := by simp [World.setCell]
  have hm : m = (argsT t).length := hIs.1
  have e1 : size t = 1 + sizes (argsT t) := by cases t; rw [size]; rfl
  have hml : m ≤ 1000000 := by
    have e2 : ∀ l : List Tm, l.length ≤ sizes l := fun l => by
      induction l with
      | nil => exact Nat.le_refl _
      | cons t l ih => rw [List.length_cons, sizes]; have := size_pos t; omega
    have := e2 (argsT t)
    omega
  have hrep : t = .mk (opT t) (nameT t) (numT t) (argsT t) := by cases t; rfl
  have HFin := Lib.hid (show ∀ (w3 w5 : World) (A : Option Addr) (C : Nat), RowP 0 W2.heap.size w3 (.slice A m C) (argsT t) m → w5.heap.size = w3.heap.size → (∀ b, b < 0 ∨ W2.heap.size ≤ b → w5.heap[b]? = w3.heap[b]?) → Below w.heap.size w w5 → MixT 0 t w (.returned (.agg #[.int .i64 (opT t), .string (nameT t), .int .i64 (numT t), .slice A m C])) w5 from fun w3 w5 A C g1 g2 g3 g4 => by
    refine ⟨A, m, C, rfl, ?_, g4⟩
    have := RowP.arP (o := opT t) (s := nameT t) (z := numT t) (lo' := w.heap.size) g1 hm.symm (by omega) g2 g3
    rw [← hrep] at this
    exact this)
  have HK := Lib.hid (show ∀ k x, (argsT t)[k]? = some x → (∀ (a : Option Addr) (m c : Nat) (w : World), size x ≤ 1000000 → ArW w x a m c → Calls Try.prog 47 #[.agg #[.int .i64 (opT x), .string (nameT x), .int .i64 (numT x), .slice a m c]] w fun e w' => MixT 0 x w e w') ∧ size x ≤ 1000000 from fun k x h => ⟨hok x (List.mem_of_getElem? h), by have := alls_lt h; omega⟩)
  have HT := Lib.hid hIs
  have lS := Blk.lt S2
  have lR := Blk.lt R2
  have lO := Blk.lt O2
  obtain ⟨s0, s1, s2, s3⟩ := S2.four
  obtain ⟨fo0, fo1, fo2, fo3⟩ := O2.free
  obtain ⟨co0, co1, co2, co3⟩ := O2.four
  have HS := Lib.hid (TBox.far S2 (show w.heap.size + 1 + 1 ≠ w.heap.size by omega) 3 (.slice none 0 0))
  have HR := Lib.hid (TBox.far R2 (show w.heap.size + 1 + 1 ≠ w.heap.size + 1 by omega) 3 (.slice none 0 0))
  have HO := Lib.hid (TBox.args O2 none 0 0)
  have HBs := Lib.hid hBs
  have HA0 := Lib.hid (ArW.args hA)
  have HWs := Lib.hid hWs
  have HW := Lib.hid hs2
  obtain ⟨i0, hi0, hz0, hz1, hz2⟩ := info_parts termI
  clear hA hok S2 R2 O2 hm hsz hrep hIs hs2 e1 hBs hWs
  generalize argsT t = la at *
  generalize opT t = op at *
  generalize nameT t = nm at *
  generalize numT t = nu at *
  generalize MixT 0 t w = Post at *
  go_enter Try.func47, Try.ntmps47
  go_wp2_with fail
  go_loopw [4] (fun i wr0 => ∃ (wr : World) (k : Nat) (Av : Option Addr) (cv : Nat), wr = wr0 ∧ k ≤ m ∧ i = .int .i64 k ∧ Below w.heap.size w wr ∧ W2.heap.size ≤ wr.heap.size ∧ Hid (TBox wr w.heap.size op nm nu a m c) ∧ Hid (TBox wr (w.heap.size + 1) 0 ⟨#[]⟩ 0 none 0 0) ∧ Hid (TBox wr (w.heap.size + 1 + 1) op nm nu Av k cv) ∧ Hid (TsW wr a m c la) ∧ Hid (RowP 0 W2.heap.size wr (.slice Av k cv) la k)) (fun i _ => m - (intOf i).toNat)
  case atStart => exact ⟨_, 0, none, 0, rfl, by omega, rfl, HBs.out, HWs.out, HS, HR, HO, HT, Lib.hid (RowP.nil _ _ _ _)⟩
  case round =>
    obtain ⟨wr, k, Av, cv, rfl, hk, rfl, hB, hWr, hS, hRr, hO, hTs, hR⟩ := hrel
    obtain ⟨e0, e1, e2, e3⟩ := hS.out.four
    obtain ⟨o0, o1, o2, o3⟩ := hO.out.four
    by_cases hlt : k < m
    · obtain ⟨bb, o, x, A, M, Cc, rfl, hb, y0, y1, y2, y3, hx, hxA⟩ := IsT.at hTs.out hlt
      obtain ⟨hck, hsx⟩ := HK.out k x hx
      have cc := fun (w' : World) (h : Below wr.heap.size wr w') => hck A M Cc w' hsx (ArW.b hxA h)
      obtain ⟨hs, hH⟩ := hR.out
      have HH := Lib.hid hH
      obtain ⟨Av', cv', hv, hown⟩ := hH.slice
      have Hmore := Lib.hid (fun (w6 : World) (g cap : Nat) (A : Option Addr) (N C : Nat) => RowH.more (w := w6) (lo := W2.heap.size) (g := g) (cap := cap) hH.1 x A N C)
      have Hx := Lib.hid hx
      have hBd : Below wr.heap.size wr wr.drew := (Below.refl _ _).drew
      clear hx hxA HK hck hH hR HS HR HO HT hv
      generalize flatH hs = XS at *
      unfold MixT at cc
      generalize opT x = op' at *
      generalize nameT x = nm' at *
      generalize numT x = nu' at *
      have hk0 : 0 ≤ (k : Int) := by omega
      have hk1 : (k : Int) < (m : Int) := by omega
      have hone : ∀ (A : Option Addr) (N C : Nat), ∀ u ∈ [Value.int .i64 op', .string nm', .int .i64 nu', .slice A N C], u.oneCell' = true := fun A N C u hu => by simp at hu; rcases hu with rfl | rfl | rfl | rfl <;> rfl
      have lOr : w.heap.size + 1 + 1 < W2.heap.size := lO
      have hW := HW.out
      have hlo2 : W2.heap.size = w.heap.size + 3 := hW
      have HW3 := Lib.hid hlo2
      clear hW hlo2
      go_wp2_with fail
      go_region_law (first | ((refine step_append_lies _ (by rfl) _ _ _ (by rfl) W2.heap.size 48 i0 _ 4 56 Try.underlying22 hi0 hz0 hz1 hz2 rfl (by omega) (.slice Av k cv) k XS (by rfl) hown5 ⟨w4.heap.size, 0, none⟩ 1 1 [.int .i64 op', .string nm', .int .i64 nu', .slice A4 N4 C4] (by rfl) (by rfl) (World.news_of_block (cs := #[.int .i64 op', .string nm', .int .i64 nu', .slice A4 N4 C4]) (t := 48) (fr := (0, 0)) X5) (hone A4 N4 C4) (by omega) (by unfold maxLen; omega) (by omega) (by omega) W5.heap.size rfl ?_); intro gn cn w6 hown6 hgrow hat hlt6; have Hown6 := Lib.hid hown6; clear hown6; have S6 : TBox w6 (w.heap.size + 1 + 1) op nm nu Av k cv := Blk.grown O5 hgrow (fun e => by have := (World.ownsRow.lt hown5 _ e.symm).1; omega); obtain ⟨p0, p1, p2, p3⟩ := S6.four; obtain ⟨f0, f1, f2, f3⟩ := S6.free; have HS6 := Lib.hid S6; clear S6) | (go_simp; go_at_call 47; ((with_reducible refine (cc _ (by assumption)).mono ?_); rintro e w4 ⟨A4, N4, C4, rfl, hA4', hb4'⟩; have hb4 : Below wr.heap.size wr w4 := bel_trans hBd hb4'; have hA4 := Lib.hid hA4'; clear hA4'; have hq4 := hb4.size; obtain ⟨W5, hW5, hb5, hs5, X5⟩ := box1 w4 op' nm' nu' A4 N4 C4; have hq5 := hb5.size; clear hs5; have b45 := bel_trans hb4 hb5; have O4 := TBox.b hO.out hb4; have O5 := TBox.b O4 hb5; obtain ⟨z0, z1, z2, z3⟩ := O4.four; obtain ⟨t0, t1, t2, t3⟩ := O5.four; have hown5 := ownsRow_below hown b45)))
      all_goals
        have Hn := Lib.hid (HH.out.step (by omega) (by omega) hb4 hA4.out hb5 Hx.out (Hmore.out w6 gn cn A4 N4 C4 Hown6.out) hgrow rfl hat)
        have hB5 : Below w.heap.size w W5 := bel_trans hB b45
        have hBw6 : Below wr.heap.size wr W5 := b45
        have B6 : Below w.heap.size w w6 := hB5.grown hgrow hB5.size (fun q hq => by have := (World.ownsRow.lt hown5 q hq).1; omega)
        have hw6 : W2.heap.size ≤ w6.heap.size := by have := hgrow.size; omega
        have hz := HW3.out
        have nbw : ∀ q, q < W2.heap.size → some q ≠ (Value.slice Av k cv).ownBlock := fun q hq e => by have := (World.ownsRow.lt hown5 q e.symm).1; omega
        have HS7 := Lib.hid (TBox.far (Blk.grown (TBox.b hS.out b45) hgrow (nbw _ (by omega)) : TBox w6 w.heap.size op nm nu (some ⟨bb, o, none⟩) m c) (show w.heap.size + 1 + 1 ≠ w.heap.size by omega) 3 (.slice (some ⟨gn, 0, none⟩) (k + 1) cn))
        have HR7 := Lib.hid (TBox.far (Blk.grown (TBox.b hRr.out b45) hgrow (nbw _ (by omega)) : TBox w6 (w.heap.size + 1) 0 ⟨#[]⟩ 0 none 0 0) (show w.heap.size + 1 + 1 ≠ w.heap.size + 1 by omega) 3 (.slice (some ⟨gn, 0, none⟩) (k + 1) cn))
        have HO7 := Lib.hid (TBox.args HS6.out (some ⟨gn, 0, none⟩) (k + 1) cn)
        have B7 : Below w.heap.size w (w6.setCell ⟨w.heap.size + 1 + 1, 3, none⟩ (.slice (some ⟨gn, 0, none⟩) (k + 1) cn)) := below_set B6 (by omega) _ _
        have HT7 := Lib.hid (TsW.b HA0.out B7)
        have HN7 := Lib.hid (RowP.far Hn.out (w' := w6.setCell ⟨w.heap.size + 1 + 1, 3, none⟩ (.slice (some ⟨gn, 0, none⟩) (k + 1) cn)) (by simp [World.setCell]) (fun b hb => heap_setCell_other w6 ⟨w.heap.size + 1 + 1, 3, none⟩ b _ (by show b ≠ w.heap.size + 1 + 1; omega)))
        have hw7 : W2.heap.size ≤ (w6.setCell ⟨w.heap.size + 1 + 1, 3, none⟩ (.slice (some ⟨gn, 0, none⟩) (k + 1) cn)).heap.size := by simp [World.setCell]; exact hw6
        clear hz nbw hat hgrow hlt6 Hn
        go_wp2
        go_roundw
        case rel => exact ⟨_, k + 1, some ⟨gn, 0, none⟩, cn, rfl, by omega, by go_num, B7, hw7, HS7, HR7, HO7, HT7, HN7⟩
        case measure => simp [intOf]; omega
    · obtain rfl : k = m := by omega
      have hz := Lib.hid HW.out
      obtain ⟨v0, v1, v2, v3⟩ := hRr.out.four
      obtain ⟨r0, r1, r2, r3⟩ := hRr.out.free
      have F3 := TBox.put hRr.out op nm nu Av k cv
      obtain ⟨x0, x1, x2, x3⟩ := F3.four
      clear F3 HK HS HR HO HT HBs HWs HA0
      go_wp2
      simp [bodyPost, results, Try.results47, go_sem, x0, x1, x2, x3]
      have hz2 := hz.out
      exact HFin.out wr _ Av cv hR.out (by rw [put_size]) (fun b hb => by rw [put_other _ _ _ _ _ _ _ (by omega)]) (put_below hB (by omega) _ _ _ _)
theorem Twin_any (t : Tm) : TwinOk t := Tm.ind Twin_step t
end Go.Proofs.Ytnjcemhfmhiikaa.T
