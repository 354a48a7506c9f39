/-
  What is proved: what the document's Term does to a term: lifted.
-/
import Derived.Test.YtceijoggoniaoaaBndS
import Derived.Test.YtceijoggoniaoaaLibP
import Derived.Deep.AppendLies
import Derived.Deep.RegionLaw
namespace Go.Proofs.Ytceijoggoniaoaa.B
open Go.RowKit L T C Go.Deep
set_option linter.unusedVariables false
set_option linter.unusedSimpArgs false

def MixW (r : Tm) (w : World) (e : Ending) (w' : World) : Prop := ∃ A N C, e = .returned (.agg #[.int .i64 (opT r), .string (nameT r), .int .i64 (numT r), .slice A N C]) ∧ ArP (NewB 0 w.heap.size w'.heap.size) w' r A N C ∧ Below w.heap.size w w'
theorem rowP_far {B lo : Nat} {w w' : World} {v : Value} {lr : List Tm} {k : Nat} (h : RowP B lo w v lr k) (hs' : w'.heap.size = w.heap.size) (hb : ∀ b, b < B ∨ lo ≤ b → w'.heap[b]? = w.heap[b]?) : RowP B lo w' v lr k := by
  obtain ⟨hs, h1, h2, h3⟩ := h
  refine ⟨hs, h1, ?_, fun j h t e1 e2 => ?_⟩
  · refine ⟨h2.1, ?_⟩
    rcases h2.2 with hn | ⟨g, cap, cur, rfl, g1, hg, rest⟩
    · exact .inl hn
    · exact .inr ⟨g, cap, cur, rfl, g1, by rw [hb g (.inr g1)]; exact hg, rest⟩
  · obtain ⟨q1, q2, q3, q4⟩ := h3 j h t e1 e2
    exact ⟨q1, q2, q3, ArP.to (fun b hq => hb b hq.1.2) (fun b hq => ⟨⟨by rw [hs']; exact hq.1.1, hq.1.2⟩, hq.2⟩) t q4⟩
theorem blk8 {w : World} {g : Nat} {v0 v1 v2 v3 v4 v5 v6 v7 : Value} {t : TypeId} (h : Blk w g #[v0, v1, v2, v3, v4, v5, v6, v7] t) : w.cell? ⟨g, 0, none⟩ = some v0 ∧ w.cell? ⟨g, 1, none⟩ = some v1 ∧ w.cell? ⟨g, 1 + 1, none⟩ = some v2 ∧ w.cell? ⟨g, 1 + 1 + 1, none⟩ = some v3 ∧ w.cell? ⟨g, 1 + 1 + 1 + 1, none⟩ = some v4 ∧ w.cell? ⟨g, 1 + 1 + 1 + 1 + 1, none⟩ = some v5 ∧ w.cell? ⟨g, 1 + 1 + 1 + 1 + 1 + 1, none⟩ = some v6 ∧ w.cell? ⟨g, 1 + 1 + 1 + 1 + 1 + 1 + 1, none⟩ = some v7 :=
  ⟨Blk.cell h 0, Blk.cell h 1, Blk.cell h 2, Blk.cell h 3, Blk.cell h 4, Blk.cell h 5, Blk.cell h 6, Blk.cell h 7⟩
theorem termBoxes (w : World) (cs : Array Value) (o : Int) (s : ByteArray) (z : Int) (a : Option Addr) (n c : Nat) (o' : Int) (s' : ByteArray) (z' : Int) :
    ∃ W, (((w.alloc (.cells cs 69)).alloc (.cells #[.int .i64 o, .string s, .int .i64 z, .slice a n c] 27)).alloc (.cells #[.int .i64 0, .string ⟨#[]⟩, .int .i64 0, .slice none 0 0] 27)).alloc (.cells #[.int .i64 o', .string s', .int .i64 z', .slice none 0 0] 27) = W ∧ Below w.heap.size w W ∧ W.heap.size = w.heap.size + 4 ∧ Blk W w.heap.size cs 69 ∧ TBox W (w.heap.size + 1) o s z a n c ∧ TBox W (w.heap.size + 1 + 1) 0 ⟨#[]⟩ 0 none 0 0 ∧ TBox W (w.heap.size + 1 + 1 + 1) o' s' z' none 0 0 := by
  have b1 := Blk.new w cs 69
  have b2 := TBox.new (w.alloc (.cells cs 69)) o s z a n c
  have b3 := TBox.new ((w.alloc (.cells cs 69)).alloc (.cells #[.int .i64 o, .string s, .int .i64 z, .slice a n c] 27)) 0 ⟨#[]⟩ 0 none 0 0
  have b4 := TBox.new (((w.alloc (.cells cs 69)).alloc (.cells #[.int .i64 o, .string s, .int .i64 z, .slice a n c] 27)).alloc (.cells #[.int .i64 0, .string ⟨#[]⟩, .int .i64 0, .slice none 0 0] 27)) o' s' z' none 0 0
  simp only [World.size_alloc] at b2 b3 b4
  exact ⟨_, rfl, bel_alloc (bel_alloc (bel_alloc (bel_alloc (Below.refl _ _) _) _) _) _, by simp, Blk.alloc (Blk.alloc (Blk.alloc b1 _) _) _, Blk.alloc (Blk.alloc b2 _) _, Blk.alloc b3 _, b4⟩
def liftV (n by_ : Int) : Int := if wrap64 (n + by_) < 0 then 0 else wrap64 (n + by_)
set_option maxHeartbeats 1000000 in
theorem lift_any (n by_ : Int) (w : World) : Calls Try.prog 65 #[.int .i64 n, .int .i64 by_] w fun e w' => e = .returned (.int .i64 (liftV n by_)) ∧ w' = w := by
  unfold liftV
  by_cases h : wrap64 (n + by_) < 0
  · rw [if_pos h]
    go_enter Try.func65, Try.ntmps65
    go_wp2
    go_ret
    exact ⟨rfl, rfl⟩
  · rw [if_neg h]
    go_enter Try.func65, Try.ntmps65
    go_wp2
    go_ret
    exact ⟨rfl, rfl⟩
theorem liftV_eq (n by_ k : Int) : wrap64 (k + liftV n by_) = wrap64 (max (wrap64 (n + by_)) 0 + k) := by
  unfold liftV
  split
  · rw [Int.max_eq_right (by omega), Int.add_comm]
  · rw [Int.max_eq_left (by omega), Int.add_comm]
def Tm1Ok (by_ fr : Int) (t : Tm) : Prop := ∀ (a : Option Addr) (m c : Nat) (k : Int) (w : World), size t ≤ 1000000 → ArW w t a m c →
  Calls Try.prog 49 #[.agg #[.int .i64 1, .int .i64 by_, .int .i64 fr, .int .i64 0, .string ⟨#[]⟩, .int .i64 0, .slice none 0 0, .string ⟨#[]⟩], .agg #[.int .i64 (opT t), .string (nameT t), .int .i64 (numT t), .slice a m c], .int .i64 k] w fun e w' => MixW (wk (fLift by_ fr) k t) w e w'
set_option maxRecDepth 100000 in
set_option maxHeartbeats 16000000 in
theorem term1_step (by_ fr : Int) (t : Tm) (hok : ∀ x ∈ argsT t, Tm1Ok by_ fr x) : Tm1Ok by_ fr t := by
  intro a m c k w hsz hA
  have hm : m = (argsT t).length := (ArW.args hA).1
  have hmc : m ≤ c := (ArW.args hA).2.1
  have hml : m ≤ 1000000 := by
    have e2 : ∀ l : List Tm, l.length ≤ sizes l := fun l => by
      induction l with
      | nil => exact Nat.le_refl _
      | cons t l ih => rw [List.length_cons, sizes]; have := size_pos t; omega
    have := e2 (argsT t)
    have e1 : size t = 1 + sizes (argsT t) := by cases t; rw [size]; rfl
    omega
  have HFin := Lib.hid (show ∀ z', (fLift by_ fr) k (opT t) (nameT t) (numT t) = .go z' → ∀ (w3 w5 : World) (A : Option Addr) (C : Nat), RowP 0 (w.heap.size + 4) w3 (.slice A m C) ((argsT t).map (wk (fLift by_ fr) k)) m → w5.heap.size = w3.heap.size → (∀ b, b < 0 ∨ w.heap.size + 4 ≤ b → w5.heap[b]? = w3.heap[b]?) → Below w.heap.size w w5 → MixW (wk (fLift by_ fr) k t) w (.returned (.agg #[.int .i64 (opT t), .string (nameT t), .int .i64 z', .slice A m C])) w5 from fun z' hz w3 w5 A C g1 g2 g3 g4 => by
    rw [wk_mk, hz]
    refine ⟨A, m, C, rfl, ?_, g4⟩
    have := RowP.arP (o := opT t) (s := nameT t) (z := z') (lo' := w.heap.size) g1 (by rw [List.length_map]; exact hm.symm) (by omega) g2 g3
    dsimp only
    rw [wks_map]
    exact this)
  have HK := Lib.hid (show ∀ i x, (argsT t)[i]? = some x → Tm1Ok by_ fr x ∧ size x ≤ 1000000 from fun i x h => ⟨hok x (List.mem_of_getElem? h), by have := size_arg (List.mem_of_getElem? h); omega⟩)
  unfold Tm1Ok at HK
  have HA0 := Lib.hid (ArW.args hA)
  obtain ⟨i0, hi0, hz0, hz1, hz2⟩ := info_parts termI
  clear hA hok hm hsz
  generalize hWK : wk (fLift by_ fr) k t = r at *
  have HWK := Lib.hid hWK
  clear hWK
  generalize argsT t = la at *
  generalize opT t = op at *
  generalize nameT t = nm at *
  generalize numT t = nu at *
  have cl := fun (n : Int) (w' : World) => lift_any n by_ w'
  by_cases h1 : op = 2
  · subst h1
    by_cases h2 : k ≤ nu
    · by_cases h3 : fr ≤ wrap64 (nu - k)
      · have HZ := Lib.hid (show (fLift by_ fr) k 2 nm nu = .go (wrap64 (k + liftV (wrap64 (nu - k)) by_)) by unfold fLift; rw [if_pos ⟨rfl, h2⟩, if_pos h3, liftV_eq])
        go_enter Try.func49, Try.ntmps49
        go_wp2_with (go_at_call 65; ((with_reducible refine (cl _ _).mono ?_); rintro e w' ⟨rfl, rfl⟩))
        go_loopw [9] (fun i wr0 => ∃ (wr : World) (j : Nat) (Av : Option Addr) (cv : Nat), wr = wr0 ∧ j ≤ m ∧ i = .int .i64 j ∧ Below w.heap.size w wr ∧ w.heap.size + 4 ≤ wr.heap.size ∧ Hid (Blk wr w.heap.size #[.int .i64 1, .int .i64 by_, .int .i64 fr, .int .i64 0, .string ⟨#[]⟩, .int .i64 0, .slice none 0 0, .string ⟨#[]⟩] 69) ∧ Hid (TBox wr (w.heap.size + 1) 2 nm nu a m c) ∧ Hid (TBox wr (w.heap.size + 1 + 1) 0 ⟨#[]⟩ 0 none 0 0) ∧ Hid (TBox wr (w.heap.size + 1 + 1 + 1) 2 nm (wrap64 (k + liftV (wrap64 (nu - k)) by_)) Av j cv) ∧ Hid (TsW wr a m c la) ∧ Hid (RowP 0 (w.heap.size + 4) wr (.slice Av j cv) (la.map (wk (fLift by_ fr) k)) j)) (fun i _ => m - (intOf i).toNat)
        case atStart =>
          obtain ⟨W2, hW2, hB2, hs2, K2, S2, R2, O2⟩ := termBoxes w #[.int .i64 1, .int .i64 by_, .int .i64 fr, .int .i64 0, .string ⟨#[]⟩, .int .i64 0, .slice none 0 0, .string ⟨#[]⟩] 2 nm nu a m c 2 nm (wrap64 (k + liftV (wrap64 (nu - k)) by_))
          rw [hW2]
          exact ⟨_, 0, none, 0, rfl, by omega, rfl, hB2, by omega, Lib.hid K2, Lib.hid S2, Lib.hid R2, Lib.hid O2, Lib.hid (TsW.b HA0.out hB2), Lib.hid (RowP.nil _ _ _ _)⟩
        case round =>
          obtain ⟨wr, j, Av, cv, rfl, hj, rfl, hB, hWr, hK, hS, hRr, hO, hTs, hR⟩ := hrel
          obtain ⟨e0, e1, e2, e3⟩ := hS.out.four
          obtain ⟨o0, o1, o2, o3⟩ := hO.out.four
          obtain ⟨w0, w1, w2, w3, w4, w5, w6, w7⟩ := blk8 hK.out
          by_cases hlt : j < m
          · obtain ⟨bb, o, x, A, M, Cc, rfl, hb, y0, y1, y2, y3, hx, hxA⟩ := IsT.at hTs.out hlt
            obtain ⟨hck, hsx⟩ := HK.out j x hx
            have cc := fun (w' : World) (h : Below wr.heap.size wr w') => hck A M Cc k w' hsx (ArW.b hxA h)
            obtain ⟨hs, hH⟩ := hR.out
            have HH := Lib.hid hH
            obtain ⟨Av', cv', hv, hown⟩ := hH.slice
            have Hmore := Lib.hid (fun (w6 : World) (g cap : Nat) (A : Option Addr) (N C : Nat) => RowH.more (w := w6) (lo := w.heap.size + 4) (g := g) (cap := cap) hH.1 (wk (fLift by_ fr) k x) A N C)
            have Hx := Lib.hid (show (la.map (wk (fLift by_ fr) k))[j]? = some (wk (fLift by_ fr) k x) by rw [List.getElem?_map, hx]; rfl)
            have hBd : Below wr.heap.size wr wr.drew := (Below.refl _ _).drew
            clear hx hxA HK hck hH hR hv
            generalize flatH hs = XS at *
            unfold MixW at cc
            generalize wk (fLift by_ fr) k x = x' at *
            generalize opT x = op' at *
            generalize nameT x = nm' at *
            generalize numT x = nu' at *
            have hj0 : 0 ≤ (j : Int) := by omega
            have hj1 : (j : Int) < (m : Int) := by omega
            have hone : ∀ (A : Option Addr) (N C : Nat), ∀ u ∈ [Value.int .i64 (opT x'), .string (nameT x'), .int .i64 (numT x'), .slice A N C], u.oneCell' = true := fun A N C u hu => by simp at hu; rcases hu with rfl | rfl | rfl | rfl <;> rfl
            go_wp2_with fail
            go_region_law (first | ((refine step_append_lies _ (by rfl) _ _ _ (by rfl) (w.heap.size + 4) 27 i0 _ 4 56 Try.underlying22 hi0 hz0 hz1 hz2 rfl (by omega) (.slice Av j cv) j XS (by rfl) hown5 ⟨w4.heap.size, 0, none⟩ 1 1 [.int .i64 (opT x'), .string (nameT x'), .int .i64 (numT x'), .slice A4 N4 C4] (by rfl) (by rfl) (World.news_of_block (cs := #[.int .i64 (opT x'), .string (nameT x'), .int .i64 (numT x'), .slice A4 N4 C4]) (t := 27) (fr := (0, 0)) X5) (hone A4 N4 C4) (by omega) (by unfold maxLen; omega) (by omega) (by omega) W5.heap.size rfl ?_); intro gn cn w6 hown6 hgrow hat hlt6; have Hown6 := Lib.hid hown6; clear hown6; have S6 : TBox w6 (w.heap.size + 1 + 1 + 1) 2 nm (wrap64 (k + liftV (wrap64 (nu - k)) by_)) Av j cv := Blk.grown O5 hgrow (fun e => by have := (World.ownsRow.lt hown5 _ e.symm).1; omega); obtain ⟨p0, p1, p2, p3⟩ := S6.four; obtain ⟨f0, f1, f2, f3⟩ := S6.free; have HS6 := Lib.hid S6; clear S6) | (go_simp; go_at_call 49; ((with_reducible refine (cc _ (by assumption)).mono ?_); rintro e w4 ⟨A4, N4, C4, rfl, hA4', hb4'⟩; have hb4 : Below wr.heap.size wr w4 := bel_trans hBd hb4'; have hA4 := Lib.hid hA4'; clear hA4'; have hq4 := hb4.size; obtain ⟨W5, hW5, hb5, hs5, X5⟩ := box1 w4 (opT x') (nameT x') (numT x') A4 N4 C4; have hq5 := hb5.size; clear hs5; have b45 := bel_trans hb4 hb5; have O4 := TBox.b hO.out hb4; have O5 := TBox.b O4 hb5; obtain ⟨z0, z1, z2, z3⟩ := O4.four; obtain ⟨t0, t1, t2, t3⟩ := O5.four; have hown5 := ownsRow_below hown b45)))
            all_goals
              have Hn := Lib.hid (HH.out.step (by omega) (by omega) hb4 hA4.out hb5 Hx.out (Hmore.out w6 gn cn A4 N4 C4 Hown6.out) hgrow rfl hat)
              have hB5 : Below w.heap.size w W5 := bel_trans hB b45
              have B6 : Below w.heap.size w w6 := hB5.grown hgrow hB5.size (fun q hq => by have := (World.ownsRow.lt hown5 q hq).1; omega)
              have hw6 : w.heap.size + 4 ≤ w6.heap.size := by have := hgrow.size; omega
              have nbw : ∀ q, q < w.heap.size + 4 → some q ≠ (Value.slice Av j cv).ownBlock := fun q hq e => by have := (World.ownsRow.lt hown5 q e.symm).1; omega
              have HK7 := Lib.hid (Blk.far (Blk.grown (Blk.below hK.out b45) hgrow (nbw _ (by omega)) : Blk w6 w.heap.size #[.int .i64 1, .int .i64 by_, .int .i64 fr, .int .i64 0, .string ⟨#[]⟩, .int .i64 0, .slice none 0 0, .string ⟨#[]⟩] 69) (show w.heap.size + 1 + 1 + 1 ≠ w.heap.size by omega) 3 (.slice (some ⟨gn, 0, none⟩) (j + 1) cn))
              have HS7 := Lib.hid (TBox.far (Blk.grown (TBox.b hS.out b45) hgrow (nbw _ (by omega)) : TBox w6 (w.heap.size + 1) 2 nm nu (some ⟨bb, o, none⟩) m c) (show w.heap.size + 1 + 1 + 1 ≠ w.heap.size + 1 by omega) 3 (.slice (some ⟨gn, 0, none⟩) (j + 1) cn))
              have HR7 := Lib.hid (TBox.far (Blk.grown (TBox.b hRr.out b45) hgrow (nbw _ (by omega)) : TBox w6 (w.heap.size + 1 + 1) 0 ⟨#[]⟩ 0 none 0 0) (show w.heap.size + 1 + 1 + 1 ≠ w.heap.size + 1 + 1 by omega) 3 (.slice (some ⟨gn, 0, none⟩) (j + 1) cn))
              have HO7 := Lib.hid (TBox.args HS6.out (some ⟨gn, 0, none⟩) (j + 1) cn)
              have B7 : Below w.heap.size w (w6.setCell ⟨w.heap.size + 1 + 1 + 1, 3, none⟩ (.slice (some ⟨gn, 0, none⟩) (j + 1) cn)) := below_set B6 (by omega) _ _
              have HT7 := Lib.hid (TsW.b HA0.out B7)
              have HN7 := Lib.hid (rowP_far Hn.out (w' := w6.setCell ⟨w.heap.size + 1 + 1 + 1, 3, none⟩ (.slice (some ⟨gn, 0, none⟩) (j + 1) cn)) (by simp [World.setCell]) (fun b hb => heap_setCell_other w6 ⟨w.heap.size + 1 + 1 + 1, 3, none⟩ b _ (by show b ≠ w.heap.size + 1 + 1 + 1; omega)))
              have hw7 : w.heap.size + 4 ≤ (w6.setCell ⟨w.heap.size + 1 + 1 + 1, 3, none⟩ (.slice (some ⟨gn, 0, none⟩) (j + 1) cn)).heap.size := by simp [World.setCell]; exact hw6
              clear nbw hat hgrow hlt6 Hn
              go_wp2
              go_roundw
              case rel => exact ⟨_, j + 1, some ⟨gn, 0, none⟩, cn, rfl, by omega, by go_num, B7, hw7, HK7, HS7, HR7, HO7, HT7, HN7⟩
              case measure => simp [intOf]; omega
          · obtain rfl : j = m := by omega
            obtain ⟨v0, v1, v2, v3⟩ := hRr.out.four
            obtain ⟨r0, r1, r2, r3⟩ := hRr.out.free
            have F3 := TBox.put hRr.out 2 nm (wrap64 (k + liftV (wrap64 (nu - k)) by_)) Av j cv
            obtain ⟨x0, x1, x2, x3⟩ := F3.four
            clear F3 HK
            go_wp2
            simp [bodyPost, results, Try.results49, go_sem, x0, x1, x2, x3]
            exact HFin.out (wrap64 (k + liftV (wrap64 (nu - k)) by_)) HZ.out wr _ Av cv hR.out (by rw [put_size]) (fun b hb => by rw [put_other _ _ _ _ _ _ _ (by omega)]) (put_below hB (by omega) _ _ _ _)
      · have HZ := Lib.hid (show (fLift by_ fr) k 2 nm nu = .go (nu) by unfold fLift; rw [if_pos ⟨rfl, h2⟩, if_neg h3])
        go_enter Try.func49, Try.ntmps49
        go_wp2_with fail
        go_loopw [9] (fun i wr0 => ∃ (wr : World) (j : Nat) (Av : Option Addr) (cv : Nat), wr = wr0 ∧ j ≤ m ∧ i = .int .i64 j ∧ Below w.heap.size w wr ∧ w.heap.size + 4 ≤ wr.heap.size ∧ Hid (Blk wr w.heap.size #[.int .i64 1, .int .i64 by_, .int .i64 fr, .int .i64 0, .string ⟨#[]⟩, .int .i64 0, .slice none 0 0, .string ⟨#[]⟩] 69) ∧ Hid (TBox wr (w.heap.size + 1) 2 nm nu a m c) ∧ Hid (TBox wr (w.heap.size + 1 + 1) 0 ⟨#[]⟩ 0 none 0 0) ∧ Hid (TBox wr (w.heap.size + 1 + 1 + 1) 2 nm (nu) Av j cv) ∧ Hid (TsW wr a m c la) ∧ Hid (RowP 0 (w.heap.size + 4) wr (.slice Av j cv) (la.map (wk (fLift by_ fr) k)) j)) (fun i _ => m - (intOf i).toNat)
        case atStart =>
          obtain ⟨W2, hW2, hB2, hs2, K2, S2, R2, O2⟩ := termBoxes w #[.int .i64 1, .int .i64 by_, .int .i64 fr, .int .i64 0, .string ⟨#[]⟩, .int .i64 0, .slice none 0 0, .string ⟨#[]⟩] 2 nm nu a m c 2 nm (nu)
          rw [hW2]
          exact ⟨_, 0, none, 0, rfl, by omega, rfl, hB2, by omega, Lib.hid K2, Lib.hid S2, Lib.hid R2, Lib.hid O2, Lib.hid (TsW.b HA0.out hB2), Lib.hid (RowP.nil _ _ _ _)⟩
        case round =>
          obtain ⟨wr, j, Av, cv, rfl, hj, rfl, hB, hWr, hK, hS, hRr, hO, hTs, hR⟩ := hrel
          obtain ⟨e0, e1, e2, e3⟩ := hS.out.four
          obtain ⟨o0, o1, o2, o3⟩ := hO.out.four
          obtain ⟨w0, w1, w2, w3, w4, w5, w6, w7⟩ := blk8 hK.out
          by_cases hlt : j < m
          · obtain ⟨bb, o, x, A, M, Cc, rfl, hb, y0, y1, y2, y3, hx, hxA⟩ := IsT.at hTs.out hlt
            obtain ⟨hck, hsx⟩ := HK.out j x hx
            have cc := fun (w' : World) (h : Below wr.heap.size wr w') => hck A M Cc k w' hsx (ArW.b hxA h)
            obtain ⟨hs, hH⟩ := hR.out
            have HH := Lib.hid hH
            obtain ⟨Av', cv', hv, hown⟩ := hH.slice
            have Hmore := Lib.hid (fun (w6 : World) (g cap : Nat) (A : Option Addr) (N C : Nat) => RowH.more (w := w6) (lo := w.heap.size + 4) (g := g) (cap := cap) hH.1 (wk (fLift by_ fr) k x) A N C)
            have Hx := Lib.hid (show (la.map (wk (fLift by_ fr) k))[j]? = some (wk (fLift by_ fr) k x) by rw [List.getElem?_map, hx]; rfl)
            have hBd : Below wr.heap.size wr wr.drew := (Below.refl _ _).drew
            clear hx hxA HK hck hH hR hv
            generalize flatH hs = XS at *
            unfold MixW at cc
            generalize wk (fLift by_ fr) k x = x' at *
            generalize opT x = op' at *
            generalize nameT x = nm' at *
            generalize numT x = nu' at *
            have hj0 : 0 ≤ (j : Int) := by omega
            have hj1 : (j : Int) < (m : Int) := by omega
            have hone : ∀ (A : Option Addr) (N C : Nat), ∀ u ∈ [Value.int .i64 (opT x'), .string (nameT x'), .int .i64 (numT x'), .slice A N C], u.oneCell' = true := fun A N C u hu => by simp at hu; rcases hu with rfl | rfl | rfl | rfl <;> rfl
            go_wp2_with fail
            go_region_law (first | ((refine step_append_lies _ (by rfl) _ _ _ (by rfl) (w.heap.size + 4) 27 i0 _ 4 56 Try.underlying22 hi0 hz0 hz1 hz2 rfl (by omega) (.slice Av j cv) j XS (by rfl) hown5 ⟨w4.heap.size, 0, none⟩ 1 1 [.int .i64 (opT x'), .string (nameT x'), .int .i64 (numT x'), .slice A4 N4 C4] (by rfl) (by rfl) (World.news_of_block (cs := #[.int .i64 (opT x'), .string (nameT x'), .int .i64 (numT x'), .slice A4 N4 C4]) (t := 27) (fr := (0, 0)) X5) (hone A4 N4 C4) (by omega) (by unfold maxLen; omega) (by omega) (by omega) W5.heap.size rfl ?_); intro gn cn w6 hown6 hgrow hat hlt6; have Hown6 := Lib.hid hown6; clear hown6; have S6 : TBox w6 (w.heap.size + 1 + 1 + 1) 2 nm (nu) Av j cv := Blk.grown O5 hgrow (fun e => by have := (World.ownsRow.lt hown5 _ e.symm).1; omega); obtain ⟨p0, p1, p2, p3⟩ := S6.four; obtain ⟨f0, f1, f2, f3⟩ := S6.free; have HS6 := Lib.hid S6; clear S6) | (go_simp; go_at_call 49; ((with_reducible refine (cc _ (by assumption)).mono ?_); rintro e w4 ⟨A4, N4, C4, rfl, hA4', hb4'⟩; have hb4 : Below wr.heap.size wr w4 := bel_trans hBd hb4'; have hA4 := Lib.hid hA4'; clear hA4'; have hq4 := hb4.size; obtain ⟨W5, hW5, hb5, hs5, X5⟩ := box1 w4 (opT x') (nameT x') (numT x') A4 N4 C4; have hq5 := hb5.size; clear hs5; have b45 := bel_trans hb4 hb5; have O4 := TBox.b hO.out hb4; have O5 := TBox.b O4 hb5; obtain ⟨z0, z1, z2, z3⟩ := O4.four; obtain ⟨t0, t1, t2, t3⟩ := O5.four; have hown5 := ownsRow_below hown b45)))
            all_goals
              have Hn := Lib.hid (HH.out.step (by omega) (by omega) hb4 hA4.out hb5 Hx.out (Hmore.out w6 gn cn A4 N4 C4 Hown6.out) hgrow rfl hat)
              have hB5 : Below w.heap.size w W5 := bel_trans hB b45
              have B6 : Below w.heap.size w w6 := hB5.grown hgrow hB5.size (fun q hq => by have := (World.ownsRow.lt hown5 q hq).1; omega)
              have hw6 : w.heap.size + 4 ≤ w6.heap.size := by have := hgrow.size; omega
              have nbw : ∀ q, q < w.heap.size + 4 → some q ≠ (Value.slice Av j cv).ownBlock := fun q hq e => by have := (World.ownsRow.lt hown5 q e.symm).1; omega
              have HK7 := Lib.hid (Blk.far (Blk.grown (Blk.below hK.out b45) hgrow (nbw _ (by omega)) : Blk w6 w.heap.size #[.int .i64 1, .int .i64 by_, .int .i64 fr, .int .i64 0, .string ⟨#[]⟩, .int .i64 0, .slice none 0 0, .string ⟨#[]⟩] 69) (show w.heap.size + 1 + 1 + 1 ≠ w.heap.size by omega) 3 (.slice (some ⟨gn, 0, none⟩) (j + 1) cn))
              have HS7 := Lib.hid (TBox.far (Blk.grown (TBox.b hS.out b45) hgrow (nbw _ (by omega)) : TBox w6 (w.heap.size + 1) 2 nm nu (some ⟨bb, o, none⟩) m c) (show w.heap.size + 1 + 1 + 1 ≠ w.heap.size + 1 by omega) 3 (.slice (some ⟨gn, 0, none⟩) (j + 1) cn))
              have HR7 := Lib.hid (TBox.far (Blk.grown (TBox.b hRr.out b45) hgrow (nbw _ (by omega)) : TBox w6 (w.heap.size + 1 + 1) 0 ⟨#[]⟩ 0 none 0 0) (show w.heap.size + 1 + 1 + 1 ≠ w.heap.size + 1 + 1 by omega) 3 (.slice (some ⟨gn, 0, none⟩) (j + 1) cn))
              have HO7 := Lib.hid (TBox.args HS6.out (some ⟨gn, 0, none⟩) (j + 1) cn)
              have B7 : Below w.heap.size w (w6.setCell ⟨w.heap.size + 1 + 1 + 1, 3, none⟩ (.slice (some ⟨gn, 0, none⟩) (j + 1) cn)) := below_set B6 (by omega) _ _
              have HT7 := Lib.hid (TsW.b HA0.out B7)
              have HN7 := Lib.hid (rowP_far Hn.out (w' := w6.setCell ⟨w.heap.size + 1 + 1 + 1, 3, none⟩ (.slice (some ⟨gn, 0, none⟩) (j + 1) cn)) (by simp [World.setCell]) (fun b hb => heap_setCell_other w6 ⟨w.heap.size + 1 + 1 + 1, 3, none⟩ b _ (by show b ≠ w.heap.size + 1 + 1 + 1; omega)))
              have hw7 : w.heap.size + 4 ≤ (w6.setCell ⟨w.heap.size + 1 + 1 + 1, 3, none⟩ (.slice (some ⟨gn, 0, none⟩) (j + 1) cn)).heap.size := by simp [World.setCell]; exact hw6
              clear nbw hat hgrow hlt6 Hn
              go_wp2
              go_roundw
              case rel => exact ⟨_, j + 1, some ⟨gn, 0, none⟩, cn, rfl, by omega, by go_num, B7, hw7, HK7, HS7, HR7, HO7, HT7, HN7⟩
              case measure => simp [intOf]; omega
          · obtain rfl : j = m := by omega
            obtain ⟨v0, v1, v2, v3⟩ := hRr.out.four
            obtain ⟨r0, r1, r2, r3⟩ := hRr.out.free
            have F3 := TBox.put hRr.out 2 nm (nu) Av j cv
            obtain ⟨x0, x1, x2, x3⟩ := F3.four
            clear F3 HK
            go_wp2
            simp [bodyPost, results, Try.results49, go_sem, x0, x1, x2, x3]
            exact HFin.out (nu) HZ.out wr _ Av cv hR.out (by rw [put_size]) (fun b hb => by rw [put_other _ _ _ _ _ _ _ (by omega)]) (put_below hB (by omega) _ _ _ _)
    · have HZ := Lib.hid (show (fLift by_ fr) k 2 nm nu = .go (nu) by unfold fLift; rw [if_neg (fun h => h2 h.2)])
      go_enter Try.func49, Try.ntmps49
      go_wp2_with fail
      go_loopw [9] (fun i wr0 => ∃ (wr : World) (j : Nat) (Av : Option Addr) (cv : Nat), wr = wr0 ∧ j ≤ m ∧ i = .int .i64 j ∧ Below w.heap.size w wr ∧ w.heap.size + 4 ≤ wr.heap.size ∧ Hid (Blk wr w.heap.size #[.int .i64 1, .int .i64 by_, .int .i64 fr, .int .i64 0, .string ⟨#[]⟩, .int .i64 0, .slice none 0 0, .string ⟨#[]⟩] 69) ∧ Hid (TBox wr (w.heap.size + 1) 2 nm nu a m c) ∧ Hid (TBox wr (w.heap.size + 1 + 1) 0 ⟨#[]⟩ 0 none 0 0) ∧ Hid (TBox wr (w.heap.size + 1 + 1 + 1) 2 nm (nu) Av j cv) ∧ Hid (TsW wr a m c la) ∧ Hid (RowP 0 (w.heap.size + 4) wr (.slice Av j cv) (la.map (wk (fLift by_ fr) k)) j)) (fun i _ => m - (intOf i).toNat)
      case atStart =>
        obtain ⟨W2, hW2, hB2, hs2, K2, S2, R2, O2⟩ := termBoxes w #[.int .i64 1, .int .i64 by_, .int .i64 fr, .int .i64 0, .string ⟨#[]⟩, .int .i64 0, .slice none 0 0, .string ⟨#[]⟩] 2 nm nu a m c 2 nm (nu)
        rw [hW2]
        exact ⟨_, 0, none, 0, rfl, by omega, rfl, hB2, by omega, Lib.hid K2, Lib.hid S2, Lib.hid R2, Lib.hid O2, Lib.hid (TsW.b HA0.out hB2), Lib.hid (RowP.nil _ _ _ _)⟩
      case round =>
        obtain ⟨wr, j, Av, cv, rfl, hj, rfl, hB, hWr, hK, hS, hRr, hO, hTs, hR⟩ := hrel
        obtain ⟨e0, e1, e2, e3⟩ := hS.out.four
        obtain ⟨o0, o1, o2, o3⟩ := hO.out.four
        obtain ⟨w0, w1, w2, w3, w4, w5, w6, w7⟩ := blk8 hK.out
        by_cases hlt : j < m
        · obtain ⟨bb, o, x, A, M, Cc, rfl, hb, y0, y1, y2, y3, hx, hxA⟩ := IsT.at hTs.out hlt
          obtain ⟨hck, hsx⟩ := HK.out j x hx
          have cc := fun (w' : World) (h : Below wr.heap.size wr w') => hck A M Cc k w' hsx (ArW.b hxA h)
          obtain ⟨hs, hH⟩ := hR.out
          have HH := Lib.hid hH
          obtain ⟨Av', cv', hv, hown⟩ := hH.slice
          have Hmore := Lib.hid (fun (w6 : World) (g cap : Nat) (A : Option Addr) (N C : Nat) => RowH.more (w := w6) (lo := w.heap.size + 4) (g := g) (cap := cap) hH.1 (wk (fLift by_ fr) k x) A N C)
          have Hx := Lib.hid (show (la.map (wk (fLift by_ fr) k))[j]? = some (wk (fLift by_ fr) k x) by rw [List.getElem?_map, hx]; rfl)
          have hBd : Below wr.heap.size wr wr.drew := (Below.refl _ _).drew
          clear hx hxA HK hck hH hR hv
          generalize flatH hs = XS at *
          unfold MixW at cc
          generalize wk (fLift by_ fr) k x = x' at *
          generalize opT x = op' at *
          generalize nameT x = nm' at *
          generalize numT x = nu' at *
          have hj0 : 0 ≤ (j : Int) := by omega
          have hj1 : (j : Int) < (m : Int) := by omega
          have hone : ∀ (A : Option Addr) (N C : Nat), ∀ u ∈ [Value.int .i64 (opT x'), .string (nameT x'), .int .i64 (numT x'), .slice A N C], u.oneCell' = true := fun A N C u hu => by simp at hu; rcases hu with rfl | rfl | rfl | rfl <;> rfl
          go_wp2_with fail
          go_region_law (first | ((refine step_append_lies _ (by rfl) _ _ _ (by rfl) (w.heap.size + 4) 27 i0 _ 4 56 Try.underlying22 hi0 hz0 hz1 hz2 rfl (by omega) (.slice Av j cv) j XS (by rfl) hown5 ⟨w4.heap.size, 0, none⟩ 1 1 [.int .i64 (opT x'), .string (nameT x'), .int .i64 (numT x'), .slice A4 N4 C4] (by rfl) (by rfl) (World.news_of_block (cs := #[.int .i64 (opT x'), .string (nameT x'), .int .i64 (numT x'), .slice A4 N4 C4]) (t := 27) (fr := (0, 0)) X5) (hone A4 N4 C4) (by omega) (by unfold maxLen; omega) (by omega) (by omega) W5.heap.size rfl ?_); intro gn cn w6 hown6 hgrow hat hlt6; have Hown6 := Lib.hid hown6; clear hown6; have S6 : TBox w6 (w.heap.size + 1 + 1 + 1) 2 nm (nu) Av j cv := Blk.grown O5 hgrow (fun e => by have := (World.ownsRow.lt hown5 _ e.symm).1; omega); obtain ⟨p0, p1, p2, p3⟩ := S6.four; obtain ⟨f0, f1, f2, f3⟩ := S6.free; have HS6 := Lib.hid S6; clear S6) | (go_simp; go_at_call 49; ((with_reducible refine (cc _ (by assumption)).mono ?_); rintro e w4 ⟨A4, N4, C4, rfl, hA4', hb4'⟩; have hb4 : Below wr.heap.size wr w4 := bel_trans hBd hb4'; have hA4 := Lib.hid hA4'; clear hA4'; have hq4 := hb4.size; obtain ⟨W5, hW5, hb5, hs5, X5⟩ := box1 w4 (opT x') (nameT x') (numT x') A4 N4 C4; have hq5 := hb5.size; clear hs5; have b45 := bel_trans hb4 hb5; have O4 := TBox.b hO.out hb4; have O5 := TBox.b O4 hb5; obtain ⟨z0, z1, z2, z3⟩ := O4.four; obtain ⟨t0, t1, t2, t3⟩ := O5.four; have hown5 := ownsRow_below hown b45)))
          all_goals
            have Hn := Lib.hid (HH.out.step (by omega) (by omega) hb4 hA4.out hb5 Hx.out (Hmore.out w6 gn cn A4 N4 C4 Hown6.out) hgrow rfl hat)
            have hB5 : Below w.heap.size w W5 := bel_trans hB b45
            have B6 : Below w.heap.size w w6 := hB5.grown hgrow hB5.size (fun q hq => by have := (World.ownsRow.lt hown5 q hq).1; omega)
            have hw6 : w.heap.size + 4 ≤ w6.heap.size := by have := hgrow.size; omega
            have nbw : ∀ q, q < w.heap.size + 4 → some q ≠ (Value.slice Av j cv).ownBlock := fun q hq e => by have := (World.ownsRow.lt hown5 q e.symm).1; omega
            have HK7 := Lib.hid (Blk.far (Blk.grown (Blk.below hK.out b45) hgrow (nbw _ (by omega)) : Blk w6 w.heap.size #[.int .i64 1, .int .i64 by_, .int .i64 fr, .int .i64 0, .string ⟨#[]⟩, .int .i64 0, .slice none 0 0, .string ⟨#[]⟩] 69) (show w.heap.size + 1 + 1 + 1 ≠ w.heap.size by omega) 3 (.slice (some ⟨gn, 0, none⟩) (j + 1) cn))
            have HS7 := Lib.hid (TBox.far (Blk.grown (TBox.b hS.out b45) hgrow (nbw _ (by omega)) : TBox w6 (w.heap.size + 1) 2 nm nu (some ⟨bb, o, none⟩) m c) (show w.heap.size + 1 + 1 + 1 ≠ w.heap.size + 1 by omega) 3 (.slice (some ⟨gn, 0, none⟩) (j + 1) cn))
            have HR7 := Lib.hid (TBox.far (Blk.grown (TBox.b hRr.out b45) hgrow (nbw _ (by omega)) : TBox w6 (w.heap.size + 1 + 1) 0 ⟨#[]⟩ 0 none 0 0) (show w.heap.size + 1 + 1 + 1 ≠ w.heap.size + 1 + 1 by omega) 3 (.slice (some ⟨gn, 0, none⟩) (j + 1) cn))
            have HO7 := Lib.hid (TBox.args HS6.out (some ⟨gn, 0, none⟩) (j + 1) cn)
            have B7 : Below w.heap.size w (w6.setCell ⟨w.heap.size + 1 + 1 + 1, 3, none⟩ (.slice (some ⟨gn, 0, none⟩) (j + 1) cn)) := below_set B6 (by omega) _ _
            have HT7 := Lib.hid (TsW.b HA0.out B7)
            have HN7 := Lib.hid (rowP_far Hn.out (w' := w6.setCell ⟨w.heap.size + 1 + 1 + 1, 3, none⟩ (.slice (some ⟨gn, 0, none⟩) (j + 1) cn)) (by simp [World.setCell]) (fun b hb => heap_setCell_other w6 ⟨w.heap.size + 1 + 1 + 1, 3, none⟩ b _ (by show b ≠ w.heap.size + 1 + 1 + 1; omega)))
            have hw7 : w.heap.size + 4 ≤ (w6.setCell ⟨w.heap.size + 1 + 1 + 1, 3, none⟩ (.slice (some ⟨gn, 0, none⟩) (j + 1) cn)).heap.size := by simp [World.setCell]; exact hw6
            clear nbw hat hgrow hlt6 Hn
            go_wp2
            go_roundw
            case rel => exact ⟨_, j + 1, some ⟨gn, 0, none⟩, cn, rfl, by omega, by go_num, B7, hw7, HK7, HS7, HR7, HO7, HT7, HN7⟩
            case measure => simp [intOf]; omega
        · obtain rfl : j = m := by omega
          obtain ⟨v0, v1, v2, v3⟩ := hRr.out.four
          obtain ⟨r0, r1, r2, r3⟩ := hRr.out.free
          have F3 := TBox.put hRr.out 2 nm (nu) Av j cv
          obtain ⟨x0, x1, x2, x3⟩ := F3.four
          clear F3 HK
          go_wp2
          simp [bodyPost, results, Try.results49, go_sem, x0, x1, x2, x3]
          exact HFin.out (nu) HZ.out wr _ Av cv hR.out (by rw [put_size]) (fun b hb => by rw [put_other _ _ _ _ _ _ _ (by omega)]) (put_below hB (by omega) _ _ _ _)
  · have q1 : (op == 2) = false := by simp [h1]
    have HZ := Lib.hid (show (fLift by_ fr) k op nm nu = .go (nu) by unfold fLift; rw [if_neg (fun h => h1 h.1)])
    go_enter Try.func49, Try.ntmps49
    clear h1
    go_wp2_with fail
    go_loopw [9] (fun i wr0 => ∃ (wr : World) (j : Nat) (Av : Option Addr) (cv : Nat), wr = wr0 ∧ j ≤ m ∧ i = .int .i64 j ∧ Below w.heap.size w wr ∧ w.heap.size + 4 ≤ wr.heap.size ∧ Hid (Blk wr w.heap.size #[.int .i64 1, .int .i64 by_, .int .i64 fr, .int .i64 0, .string ⟨#[]⟩, .int .i64 0, .slice none 0 0, .string ⟨#[]⟩] 69) ∧ Hid (TBox wr (w.heap.size + 1) op nm nu a m c) ∧ Hid (TBox wr (w.heap.size + 1 + 1) 0 ⟨#[]⟩ 0 none 0 0) ∧ Hid (TBox wr (w.heap.size + 1 + 1 + 1) op nm (nu) Av j cv) ∧ Hid (TsW wr a m c la) ∧ Hid (RowP 0 (w.heap.size + 4) wr (.slice Av j cv) (la.map (wk (fLift by_ fr) k)) j)) (fun i _ => m - (intOf i).toNat)
    case atStart =>
      obtain ⟨W2, hW2, hB2, hs2, K2, S2, R2, O2⟩ := termBoxes w #[.int .i64 1, .int .i64 by_, .int .i64 fr, .int .i64 0, .string ⟨#[]⟩, .int .i64 0, .slice none 0 0, .string ⟨#[]⟩] op nm nu a m c op nm (nu)
      rw [hW2]
      exact ⟨_, 0, none, 0, rfl, by omega, rfl, hB2, by omega, Lib.hid K2, Lib.hid S2, Lib.hid R2, Lib.hid O2, Lib.hid (TsW.b HA0.out hB2), Lib.hid (RowP.nil _ _ _ _)⟩
    case round =>
      obtain ⟨wr, j, Av, cv, rfl, hj, rfl, hB, hWr, hK, hS, hRr, hO, hTs, hR⟩ := hrel
      obtain ⟨e0, e1, e2, e3⟩ := hS.out.four
      obtain ⟨o0, o1, o2, o3⟩ := hO.out.four
      obtain ⟨w0, w1, w2, w3, w4, w5, w6, w7⟩ := blk8 hK.out
      by_cases hlt : j < m
      · obtain ⟨bb, o, x, A, M, Cc, rfl, hb, y0, y1, y2, y3, hx, hxA⟩ := IsT.at hTs.out hlt
        obtain ⟨hck, hsx⟩ := HK.out j x hx
        have cc := fun (w' : World) (h : Below wr.heap.size wr w') => hck A M Cc k w' hsx (ArW.b hxA h)
        obtain ⟨hs, hH⟩ := hR.out
        have HH := Lib.hid hH
        obtain ⟨Av', cv', hv, hown⟩ := hH.slice
        have Hmore := Lib.hid (fun (w6 : World) (g cap : Nat) (A : Option Addr) (N C : Nat) => RowH.more (w := w6) (lo := w.heap.size + 4) (g := g) (cap := cap) hH.1 (wk (fLift by_ fr) k x) A N C)
        have Hx := Lib.hid (show (la.map (wk (fLift by_ fr) k))[j]? = some (wk (fLift by_ fr) k x) by rw [List.getElem?_map, hx]; rfl)
        have hBd : Below wr.heap.size wr wr.drew := (Below.refl _ _).drew
        clear hx hxA HK hck hH hR hv
        generalize flatH hs = XS at *
        unfold MixW at cc
        generalize wk (fLift by_ fr) k x = x' at *
        generalize opT x = op' at *
        generalize nameT x = nm' at *
        generalize numT x = nu' at *
        have hj0 : 0 ≤ (j : Int) := by omega
        have hj1 : (j : Int) < (m : Int) := by omega
        have hone : ∀ (A : Option Addr) (N C : Nat), ∀ u ∈ [Value.int .i64 (opT x'), .string (nameT x'), .int .i64 (numT x'), .slice A N C], u.oneCell' = true := fun A N C u hu => by simp at hu; rcases hu with rfl | rfl | rfl | rfl <;> rfl
        go_wp2_with fail
        go_region_law (first | ((refine step_append_lies _ (by rfl) _ _ _ (by rfl) (w.heap.size + 4) 27 i0 _ 4 56 Try.underlying22 hi0 hz0 hz1 hz2 rfl (by omega) (.slice Av j cv) j XS (by rfl) hown5 ⟨w4.heap.size, 0, none⟩ 1 1 [.int .i64 (opT x'), .string (nameT x'), .int .i64 (numT x'), .slice A4 N4 C4] (by rfl) (by rfl) (World.news_of_block (cs := #[.int .i64 (opT x'), .string (nameT x'), .int .i64 (numT x'), .slice A4 N4 C4]) (t := 27) (fr := (0, 0)) X5) (hone A4 N4 C4) (by omega) (by unfold maxLen; omega) (by omega) (by omega) W5.heap.size rfl ?_); intro gn cn w6 hown6 hgrow hat hlt6; have Hown6 := Lib.hid hown6; clear hown6; have S6 : TBox w6 (w.heap.size + 1 + 1 + 1) op nm (nu) Av j cv := Blk.grown O5 hgrow (fun e => by have := (World.ownsRow.lt hown5 _ e.symm).1; omega); obtain ⟨p0, p1, p2, p3⟩ := S6.four; obtain ⟨f0, f1, f2, f3⟩ := S6.free; have HS6 := Lib.hid S6; clear S6) | (go_simp; go_at_call 49; ((with_reducible refine (cc _ (by assumption)).mono ?_); rintro e w4 ⟨A4, N4, C4, rfl, hA4', hb4'⟩; have hb4 : Below wr.heap.size wr w4 := bel_trans hBd hb4'; have hA4 := Lib.hid hA4'; clear hA4'; have hq4 := hb4.size; obtain ⟨W5, hW5, hb5, hs5, X5⟩ := box1 w4 (opT x') (nameT x') (numT x') A4 N4 C4; have hq5 := hb5.size; clear hs5; have b45 := bel_trans hb4 hb5; have O4 := TBox.b hO.out hb4; have O5 := TBox.b O4 hb5; obtain ⟨z0, z1, z2, z3⟩ := O4.four; obtain ⟨t0, t1, t2, t3⟩ := O5.four; have hown5 := ownsRow_below hown b45)))
        all_goals
          have Hn := Lib.hid (HH.out.step (by omega) (by omega) hb4 hA4.out hb5 Hx.out (Hmore.out w6 gn cn A4 N4 C4 Hown6.out) hgrow rfl hat)
          have hB5 : Below w.heap.size w W5 := bel_trans hB b45
          have B6 : Below w.heap.size w w6 := hB5.grown hgrow hB5.size (fun q hq => by have := (World.ownsRow.lt hown5 q hq).1; omega)
          have hw6 : w.heap.size + 4 ≤ w6.heap.size := by have := hgrow.size; omega
          have nbw : ∀ q, q < w.heap.size + 4 → some q ≠ (Value.slice Av j cv).ownBlock := fun q hq e => by have := (World.ownsRow.lt hown5 q e.symm).1; omega
          have HK7 := Lib.hid (Blk.far (Blk.grown (Blk.below hK.out b45) hgrow (nbw _ (by omega)) : Blk w6 w.heap.size #[.int .i64 1, .int .i64 by_, .int .i64 fr, .int .i64 0, .string ⟨#[]⟩, .int .i64 0, .slice none 0 0, .string ⟨#[]⟩] 69) (show w.heap.size + 1 + 1 + 1 ≠ w.heap.size by omega) 3 (.slice (some ⟨gn, 0, none⟩) (j + 1) cn))
          have HS7 := Lib.hid (TBox.far (Blk.grown (TBox.b hS.out b45) hgrow (nbw _ (by omega)) : TBox w6 (w.heap.size + 1) op nm nu (some ⟨bb, o, none⟩) m c) (show w.heap.size + 1 + 1 + 1 ≠ w.heap.size + 1 by omega) 3 (.slice (some ⟨gn, 0, none⟩) (j + 1) cn))
          have HR7 := Lib.hid (TBox.far (Blk.grown (TBox.b hRr.out b45) hgrow (nbw _ (by omega)) : TBox w6 (w.heap.size + 1 + 1) 0 ⟨#[]⟩ 0 none 0 0) (show w.heap.size + 1 + 1 + 1 ≠ w.heap.size + 1 + 1 by omega) 3 (.slice (some ⟨gn, 0, none⟩) (j + 1) cn))
          have HO7 := Lib.hid (TBox.args HS6.out (some ⟨gn, 0, none⟩) (j + 1) cn)
          have B7 : Below w.heap.size w (w6.setCell ⟨w.heap.size + 1 + 1 + 1, 3, none⟩ (.slice (some ⟨gn, 0, none⟩) (j + 1) cn)) := below_set B6 (by omega) _ _
          have HT7 := Lib.hid (TsW.b HA0.out B7)
          have HN7 := Lib.hid (rowP_far Hn.out (w' := w6.setCell ⟨w.heap.size + 1 + 1 + 1, 3, none⟩ (.slice (some ⟨gn, 0, none⟩) (j + 1) cn)) (by simp [World.setCell]) (fun b hb => heap_setCell_other w6 ⟨w.heap.size + 1 + 1 + 1, 3, none⟩ b _ (by show b ≠ w.heap.size + 1 + 1 + 1; omega)))
          have hw7 : w.heap.size + 4 ≤ (w6.setCell ⟨w.heap.size + 1 + 1 + 1, 3, none⟩ (.slice (some ⟨gn, 0, none⟩) (j + 1) cn)).heap.size := by simp [World.setCell]; exact hw6
          clear nbw hat hgrow hlt6 Hn
          go_wp2
          go_roundw
          case rel => exact ⟨_, j + 1, some ⟨gn, 0, none⟩, cn, rfl, by omega, by go_num, B7, hw7, HK7, HS7, HR7, HO7, HT7, HN7⟩
          case measure => simp [intOf]; omega
      · obtain rfl : j = m := by omega
        obtain ⟨v0, v1, v2, v3⟩ := hRr.out.four
        obtain ⟨r0, r1, r2, r3⟩ := hRr.out.free
        have F3 := TBox.put hRr.out op nm (nu) Av j cv
        obtain ⟨x0, x1, x2, x3⟩ := F3.four
        clear F3 HK
        go_wp2
        simp [bodyPost, results, Try.results49, go_sem, x0, x1, x2, x3]
        exact HFin.out (nu) HZ.out wr _ Av cv hR.out (by rw [put_size]) (fun b hb => by rw [put_other _ _ _ _ _ _ _ (by omega)]) (put_below hB (by omega) _ _ _ _)
theorem term1_any (by_ fr : Int) (t : Tm) : Tm1Ok by_ fr t := Tm.ind (term1_step by_ fr) t
end Go.Proofs.Ytceijoggoniaoaa.B
