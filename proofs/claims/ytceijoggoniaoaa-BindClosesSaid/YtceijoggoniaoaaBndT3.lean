/-
  What is proved: what the document's Term does to a term: closed.
-/
import Derived.Test.YtceijoggoniaoaaBndT1
namespace Go.Proofs.Ytceijoggoniaoaa.B
open Go.RowKit L T C Go.Deep
set_option linter.unusedVariables false
set_option linter.unusedSimpArgs false

theorem term3_leaf (name nm : ByteArray) (h : nm.toList = name.toList) (nu : Int) (a : Option Addr) (m c : Nat) (k : Int) (w : World) :
    Calls Try.prog 49 #[.agg #[.int .i64 3, .int .i64 0, .int .i64 0, .int .i64 0, .string ⟨#[]⟩, .int .i64 0, .slice none 0 0, .string name], .agg #[.int .i64 1, .string nm, .int .i64 nu, .slice a m c], .int .i64 k] w fun e w' => MixW (.mk 2 ⟨#[]⟩ k []) w e w' := by
  have q1 : (nm.toList == name.toList) = true := by simp [h]
  have HFin := Lib.hid (show ∀ w5 : World, Below w.heap.size w w5 → MixW (.mk 2 ⟨#[]⟩ k []) w (.returned (.agg #[.int .i64 2, .string ⟨#[]⟩, .int .i64 k, .slice none 0 0])) w5 from fun w5 b5 => by
    refine ⟨none, 0, 0, rfl, ?_, b5⟩
    rw [ArP]
    exact ⟨rfl, Nat.le_refl _, Nat.zero_le _, fun _ => rfl, fun h => absurd h (by omega)⟩)
  clear h
  go_enter Try.func49, Try.ntmps49
  go_wp2_with fail
  simp [bodyPost, results, Try.results49, go_sem]
  exact HFin.out _ (bel_alloc (bel_alloc (bel_alloc (Below.refl _ _) _) _) _)
def Tm3Ok (name : ByteArray) (t : Tm) : Prop := ∀ (a : Option Addr) (m c : Nat) (k : Int) (w : World), size t ≤ 1000000 → ArW w t a m c →
  Calls Try.prog 49 #[.agg #[.int .i64 3, .int .i64 0, .int .i64 0, .int .i64 0, .string ⟨#[]⟩, .int .i64 0, .slice none 0 0, .string name], .agg #[.int .i64 (opT t), .string (nameT t), .int .i64 (numT t), .slice a m c], .int .i64 k] w fun e w' => MixW (wk (fClose name) k t) w e w'
set_option maxRecDepth 100000 in
set_option maxHeartbeats 16000000 in
theorem term3_step (name : ByteArray) (t : Tm) (hok : ∀ x ∈ argsT t, Tm3Ok name x) : Tm3Ok name t := by
  intro a m c k w hsz hA
  have hm : m = (argsT t).length := (ArW.args hA).1
  have hmc : m ≤ c := (ArW.args hA).2.1
  have hml : m ≤ 1000000 := by
    have e2 : ∀ l : List Tm, l.length ≤ sizes l := fun l => by
      induction l with
      | nil => exact Nat.le_refl _
      | cons t l ih => rw [List.length_cons, sizes]; have := size_pos t; omega
    have := e2 (argsT t)
    have e1 : size t = 1 + sizes (argsT t) := by cases t; rw [size]; rfl
    omega
  have HFin := Lib.hid (show ∀ z', (fClose name) k (opT t) (nameT t) (numT t) = .go z' → ∀ (w3 w5 : World) (A : Option Addr) (C : Nat), RowP 0 (w.heap.size + 4) w3 (.slice A m C) ((argsT t).map (wk (fClose name) k)) m → w5.heap.size = w3.heap.size → (∀ b, b < 0 ∨ w.heap.size + 4 ≤ b → w5.heap[b]? = w3.heap[b]?) → Below w.heap.size w w5 → MixW (wk (fClose name) k t) w (.returned (.agg #[.int .i64 (opT t), .string (nameT t), .int .i64 z', .slice A m C])) w5 from fun z' hz w3 w5 A C g1 g2 g3 g4 => by
    rw [wk_mk, hz]
    refine ⟨A, m, C, rfl, ?_, g4⟩
    have := RowP.arP (o := opT t) (s := nameT t) (z := z') (lo' := w.heap.size) g1 (by rw [List.length_map]; exact hm.symm) (by omega) g2 g3
    dsimp only
    rw [wks_map]
    exact this)
  have HK := Lib.hid (show ∀ i x, (argsT t)[i]? = some x → Tm3Ok name x ∧ size x ≤ 1000000 from fun i x h => ⟨hok x (List.mem_of_getElem? h), by have := size_arg (List.mem_of_getElem? h); omega⟩)
  unfold Tm3Ok at HK
  have HA0 := Lib.hid (ArW.args hA)
  obtain ⟨i0, hi0, hz0, hz1, hz2⟩ := info_parts termI
  have HLeaf := Lib.hid (show (opT t = 1 ∧ (nameT t).toList = name.toList) → Calls Try.prog 49 #[.agg #[.int .i64 3, .int .i64 0, .int .i64 0, .int .i64 0, .string ⟨#[]⟩, .int .i64 0, .slice none 0 0, .string name], .agg #[.int .i64 (opT t), .string (nameT t), .int .i64 (numT t), .slice a m c], .int .i64 k] w fun e w' => MixW (wk (fClose name) k t) w e w' from fun h => by
    have e : wk (fClose name) k t = .mk 2 ⟨#[]⟩ k [] := by rw [wk_mk]; unfold fClose; rw [if_pos h]
    rw [e, h.1]
    exact term3_leaf name (nameT t) h.2 (numT t) a m c k w)
  clear hA hok hm hsz
  generalize hWK : wk (fClose name) k t = r at *
  have HWK := Lib.hid hWK
  clear hWK
  generalize argsT t = la at *
  generalize opT t = op at *
  generalize nameT t = nm at *
  generalize numT t = nu at *
  by_cases h0 : op = 1
  · subst h0
    have e2 : ¬ ((1 : Int) = 2 ∧ k ≤ nu) := by omega
    by_cases h1 : nm.toList = name.toList
    · exact HLeaf.out ⟨rfl, h1⟩
    · have HZ := Lib.hid (show (fClose name) k 1 nm nu = .go (nu) by unfold fClose; rw [if_neg (fun h => h1 h.2), if_neg e2])
      go_enter Try.func49, Try.ntmps49
      have q1 : (nm.toList == name.toList) = false := by simp [h1]
      clear h1 e2
      go_wp2_with fail
      go_loopw [9] (fun i wr0 => ∃ (wr : World) (j : Nat) (Av : Option Addr) (cv : Nat), wr = wr0 ∧ j ≤ m ∧ i = .int .i64 j ∧ Below w.heap.size w wr ∧ w.heap.size + 4 ≤ wr.heap.size ∧ Hid (Blk wr w.heap.size #[.int .i64 3, .int .i64 0, .int .i64 0, .int .i64 0, .string ⟨#[]⟩, .int .i64 0, .slice none 0 0, .string name] 69) ∧ Hid (TBox wr (w.heap.size + 1) 1 nm nu a m c) ∧ Hid (TBox wr (w.heap.size + 1 + 1) 0 ⟨#[]⟩ 0 none 0 0) ∧ Hid (TBox wr (w.heap.size + 1 + 1 + 1) 1 nm (nu) Av j cv) ∧ Hid (TsW wr a m c la) ∧ Hid (RowP 0 (w.heap.size + 4) wr (.slice Av j cv) (la.map (wk (fClose name) k)) j)) (fun i _ => m - (intOf i).toNat)
      case atStart =>
        obtain ⟨W2, hW2, hB2, hs2, K2, S2, R2, O2⟩ := termBoxes w #[.int .i64 3, .int .i64 0, .int .i64 0, .int .i64 0, .string ⟨#[]⟩, .int .i64 0, .slice none 0 0, .string name] 1 nm nu a m c 1 nm (nu)
        rw [hW2]
        exact ⟨_, 0, none, 0, rfl, by omega, rfl, hB2, by omega, Lib.hid K2, Lib.hid S2, Lib.hid R2, Lib.hid O2, Lib.hid (TsW.b HA0.out hB2), Lib.hid (RowP.nil _ _ _ _)⟩
      case round =>
        obtain ⟨wr, j, Av, cv, rfl, hj, rfl, hB, hWr, hK, hS, hRr, hO, hTs, hR⟩ := hrel
        obtain ⟨e0, e1, e2, e3⟩ := hS.out.four
        obtain ⟨o0, o1, o2, o3⟩ := hO.out.four
        obtain ⟨w0, w1, w2, w3, w4, w5, w6, w7⟩ := blk8 hK.out
        by_cases hlt : j < m
        · obtain ⟨bb, o, x, A, M, Cc, rfl, hb, y0, y1, y2, y3, hx, hxA⟩ := IsT.at hTs.out hlt
          obtain ⟨hck, hsx⟩ := HK.out j x hx
          have cc := fun (w' : World) (h : Below wr.heap.size wr w') => hck A M Cc k w' hsx (ArW.b hxA h)
          obtain ⟨hs, hH⟩ := hR.out
          have HH := Lib.hid hH
          obtain ⟨Av', cv', hv, hown⟩ := hH.slice
          have Hmore := Lib.hid (fun (w6 : World) (g cap : Nat) (A : Option Addr) (N C : Nat) => RowH.more (w := w6) (lo := w.heap.size + 4) (g := g) (cap := cap) hH.1 (wk (fClose name) k x) A N C)
          have Hx := Lib.hid (show (la.map (wk (fClose name) k))[j]? = some (wk (fClose name) k x) by rw [List.getElem?_map, hx]; rfl)
          have hBd : Below wr.heap.size wr wr.drew := (Below.refl _ _).drew
          clear hx hxA HK hck hH hR hv
          generalize flatH hs = XS at *
          unfold MixW at cc
          generalize wk (fClose name) k x = x' at *
          generalize opT x = op' at *
          generalize nameT x = nm' at *
          generalize numT x = nu' at *
          have hj0 : 0 ≤ (j : Int) := by omega
          have hj1 : (j : Int) < (m : Int) := by omega
          have hone : ∀ (A : Option Addr) (N C : Nat), ∀ u ∈ [Value.int .i64 (opT x'), .string (nameT x'), .int .i64 (numT x'), .slice A N C], u.oneCell' = true := fun A N C u hu => by simp at hu; rcases hu with rfl | rfl | rfl | rfl <;> rfl
          go_wp2_with fail
          go_region_law (first | ((refine step_append_lies _ (by rfl) _ _ _ (by rfl) (w.heap.size + 4) 27 i0 _ 4 56 Try.underlying22 hi0 hz0 hz1 hz2 rfl (by omega) (.slice Av j cv) j XS (by rfl) hown5 ⟨w4.heap.size, 0, none⟩ 1 1 [.int .i64 (opT x'), .string (nameT x'), .int .i64 (numT x'), .slice A4 N4 C4] (by rfl) (by rfl) (World.news_of_block (cs := #[.int .i64 (opT x'), .string (nameT x'), .int .i64 (numT x'), .slice A4 N4 C4]) (t := 27) (fr := (0, 0)) X5) (hone A4 N4 C4) (by omega) (by unfold maxLen; omega) (by omega) (by omega) W5.heap.size rfl ?_); intro gn cn w6 hown6 hgrow hat hlt6; have Hown6 := Lib.hid hown6; clear hown6; have S6 : TBox w6 (w.heap.size + 1 + 1 + 1) 1 nm (nu) Av j cv := Blk.grown O5 hgrow (fun e => by have := (World.ownsRow.lt hown5 _ e.symm).1; omega); obtain ⟨p0, p1, p2, p3⟩ := S6.four; obtain ⟨f0, f1, f2, f3⟩ := S6.free; have HS6 := Lib.hid S6; clear S6) | (go_simp; go_at_call 49; ((with_reducible refine (cc _ (by assumption)).mono ?_); rintro e w4 ⟨A4, N4, C4, rfl, hA4', hb4'⟩; have hb4 : Below wr.heap.size wr w4 := bel_trans hBd hb4'; have hA4 := Lib.hid hA4'; clear hA4'; have hq4 := hb4.size; obtain ⟨W5, hW5, hb5, hs5, X5⟩ := box1 w4 (opT x') (nameT x') (numT x') A4 N4 C4; have hq5 := hb5.size; clear hs5; have b45 := bel_trans hb4 hb5; have O4 := TBox.b hO.out hb4; have O5 := TBox.b O4 hb5; obtain ⟨z0, z1, z2, z3⟩ := O4.four; obtain ⟨t0, t1, t2, t3⟩ := O5.four; have hown5 := ownsRow_below hown b45)))
          all_goals
            have Hn := Lib.hid (HH.out.step (by omega) (by omega) hb4 hA4.out hb5 Hx.out (Hmore.out w6 gn cn A4 N4 C4 Hown6.out) hgrow rfl hat)
            have hB5 : Below w.heap.size w W5 := bel_trans hB b45
            have B6 : Below w.heap.size w w6 := hB5.grown hgrow hB5.size (fun q hq => by have := (World.ownsRow.lt hown5 q hq).1; omega)
            have hw6 : w.heap.size + 4 ≤ w6.heap.size := by have := hgrow.size; omega
            have nbw : ∀ q, q < w.heap.size + 4 → some q ≠ (Value.slice Av j cv).ownBlock := fun q hq e => by have := (World.ownsRow.lt hown5 q e.symm).1; omega
            have HK7 := Lib.hid (Blk.far (Blk.grown (Blk.below hK.out b45) hgrow (nbw _ (by omega)) : Blk w6 w.heap.size #[.int .i64 3, .int .i64 0, .int .i64 0, .int .i64 0, .string ⟨#[]⟩, .int .i64 0, .slice none 0 0, .string name] 69) (show w.heap.size + 1 + 1 + 1 ≠ w.heap.size by omega) 3 (.slice (some ⟨gn, 0, none⟩) (j + 1) cn))
            have HS7 := Lib.hid (TBox.far (Blk.grown (TBox.b hS.out b45) hgrow (nbw _ (by omega)) : TBox w6 (w.heap.size + 1) 1 nm nu (some ⟨bb, o, none⟩) m c) (show w.heap.size + 1 + 1 + 1 ≠ w.heap.size + 1 by omega) 3 (.slice (some ⟨gn, 0, none⟩) (j + 1) cn))
            have HR7 := Lib.hid (TBox.far (Blk.grown (TBox.b hRr.out b45) hgrow (nbw _ (by omega)) : TBox w6 (w.heap.size + 1 + 1) 0 ⟨#[]⟩ 0 none 0 0) (show w.heap.size + 1 + 1 + 1 ≠ w.heap.size + 1 + 1 by omega) 3 (.slice (some ⟨gn, 0, none⟩) (j + 1) cn))
            have HO7 := Lib.hid (TBox.args HS6.out (some ⟨gn, 0, none⟩) (j + 1) cn)
            have B7 : Below w.heap.size w (w6.setCell ⟨w.heap.size + 1 + 1 + 1, 3, none⟩ (.slice (some ⟨gn, 0, none⟩) (j + 1) cn)) := below_set B6 (by omega) _ _
            have HT7 := Lib.hid (TsW.b HA0.out B7)
            have HN7 := Lib.hid (rowP_far Hn.out (w' := w6.setCell ⟨w.heap.size + 1 + 1 + 1, 3, none⟩ (.slice (some ⟨gn, 0, none⟩) (j + 1) cn)) (by simp [World.setCell]) (fun b hb => heap_setCell_other w6 ⟨w.heap.size + 1 + 1 + 1, 3, none⟩ b _ (by show b ≠ w.heap.size + 1 + 1 + 1; omega)))
            have hw7 : w.heap.size + 4 ≤ (w6.setCell ⟨w.heap.size + 1 + 1 + 1, 3, none⟩ (.slice (some ⟨gn, 0, none⟩) (j + 1) cn)).heap.size := by simp [World.setCell]; exact hw6
            clear nbw hat hgrow hlt6 Hn
            go_wp2
            go_roundw
            case rel => exact ⟨_, j + 1, some ⟨gn, 0, none⟩, cn, rfl, by omega, by go_num, B7, hw7, HK7, HS7, HR7, HO7, HT7, HN7⟩
            case measure => simp [intOf]; omega
        · obtain rfl : j = m := by omega
          obtain ⟨v0, v1, v2, v3⟩ := hRr.out.four
          obtain ⟨r0, r1, r2, r3⟩ := hRr.out.free
          have F3 := TBox.put hRr.out 1 nm (nu) Av j cv
          obtain ⟨x0, x1, x2, x3⟩ := F3.four
          clear F3 HK
          go_wp2
          simp [bodyPost, results, Try.results49, go_sem, x0, x1, x2, x3]
          exact HFin.out (nu) HZ.out wr _ Av cv hR.out (by rw [put_size]) (fun b hb => by rw [put_other _ _ _ _ _ _ _ (by omega)]) (put_below hB (by omega) _ _ _ _)
  · have q0 : (op == 1) = false := by simp [h0]
    by_cases h1 : op = 2
    · subst h1
      by_cases h2 : k ≤ nu
      · have HZ := Lib.hid (show (fClose name) k 2 nm nu = .go (wrap64 (nu + 1)) by unfold fClose; rw [if_neg (fun h => h0 h.1), if_pos ⟨rfl, h2⟩])
        go_enter Try.func49, Try.ntmps49
        go_wp2_with fail
        go_loopw [9] (fun i wr0 => ∃ (wr : World) (j : Nat) (Av : Option Addr) (cv : Nat), wr = wr0 ∧ j ≤ m ∧ i = .int .i64 j ∧ Below w.heap.size w wr ∧ w.heap.size + 4 ≤ wr.heap.size ∧ Hid (Blk wr w.heap.size #[.int .i64 3, .int .i64 0, .int .i64 0, .int .i64 0, .string ⟨#[]⟩, .int .i64 0, .slice none 0 0, .string name] 69) ∧ Hid (TBox wr (w.heap.size + 1) 2 nm nu a m c) ∧ Hid (TBox wr (w.heap.size + 1 + 1) 0 ⟨#[]⟩ 0 none 0 0) ∧ Hid (TBox wr (w.heap.size + 1 + 1 + 1) 2 nm (wrap64 (nu + 1)) Av j cv) ∧ Hid (TsW wr a m c la) ∧ Hid (RowP 0 (w.heap.size + 4) wr (.slice Av j cv) (la.map (wk (fClose name) k)) j)) (fun i _ => m - (intOf i).toNat)
        case atStart =>
          obtain ⟨W2, hW2, hB2, hs2, K2, S2, R2, O2⟩ := termBoxes w #[.int .i64 3, .int .i64 0, .int .i64 0, .int .i64 0, .string ⟨#[]⟩, .int .i64 0, .slice none 0 0, .string name] 2 nm nu a m c 2 nm (wrap64 (nu + 1))
          rw [hW2]
          exact ⟨_, 0, none, 0, rfl, by omega, rfl, hB2, by omega, Lib.hid K2, Lib.hid S2, Lib.hid R2, Lib.hid O2, Lib.hid (TsW.b HA0.out hB2), Lib.hid (RowP.nil _ _ _ _)⟩
        case round =>
          obtain ⟨wr, j, Av, cv, rfl, hj, rfl, hB, hWr, hK, hS, hRr, hO, hTs, hR⟩ := hrel
          obtain ⟨e0, e1, e2, e3⟩ := hS.out.four
          obtain ⟨o0, o1, o2, o3⟩ := hO.out.four
          obtain ⟨w0, w1, w2, w3, w4, w5, w6, w7⟩ := blk8 hK.out
          by_cases hlt : j < m
          · obtain ⟨bb, o, x, A, M, Cc, rfl, hb, y0, y1, y2, y3, hx, hxA⟩ := IsT.at hTs.out hlt
            obtain ⟨hck, hsx⟩ := HK.out j x hx
            have cc := fun (w' : World) (h : Below wr.heap.size wr w') => hck A M Cc k w' hsx (ArW.b hxA h)
            obtain ⟨hs, hH⟩ := hR.out
            have HH := Lib.hid hH
            obtain ⟨Av', cv', hv, hown⟩ := hH.slice
            have Hmore := Lib.hid (fun (w6 : World) (g cap : Nat) (A : Option Addr) (N C : Nat) => RowH.more (w := w6) (lo := w.heap.size + 4) (g := g) (cap := cap) hH.1 (wk (fClose name) k x) A N C)
            have Hx := Lib.hid (show (la.map (wk (fClose name) k))[j]? = some (wk (fClose name) k x) by rw [List.getElem?_map, hx]; rfl)
            have hBd : Below wr.heap.size wr wr.drew := (Below.refl _ _).drew
            clear hx hxA HK hck hH hR hv
            generalize flatH hs = XS at *
            unfold MixW at cc
            generalize wk (fClose name) k x = x' at *
            generalize opT x = op' at *
            generalize nameT x = nm' at *
            generalize numT x = nu' at *
            have hj0 : 0 ≤ (j : Int) := by omega
            have hj1 : (j : Int) < (m : Int) := by omega
            have hone : ∀ (A : Option Addr) (N C : Nat), ∀ u ∈ [Value.int .i64 (opT x'), .string (nameT x'), .int .i64 (numT x'), .slice A N C], u.oneCell' = true := fun A N C u hu => by simp at hu; rcases hu with rfl | rfl | rfl | rfl <;> rfl
            go_wp2_with fail
            go_region_law (first | ((refine step_append_lies _ (by rfl) _ _ _ (by rfl) (w.heap.size + 4) 27 i0 _ 4 56 Try.underlying22 hi0 hz0 hz1 hz2 rfl (by omega) (.slice Av j cv) j XS (by rfl) hown5 ⟨w4.heap.size, 0, none⟩ 1 1 [.int .i64 (opT x'), .string (nameT x'), .int .i64 (numT x'), .slice A4 N4 C4] (by rfl) (by rfl) (World.news_of_block (cs := #[.int .i64 (opT x'), .string (nameT x'), .int .i64 (numT x'), .slice A4 N4 C4]) (t := 27) (fr := (0, 0)) X5) (hone A4 N4 C4) (by omega) (by unfold maxLen; omega) (by omega) (by omega) W5.heap.size rfl ?_); intro gn cn w6 hown6 hgrow hat hlt6; have Hown6 := Lib.hid hown6; clear hown6; have S6 : TBox w6 (w.heap.size + 1 + 1 + 1) 2 nm (wrap64 (nu + 1)) Av j cv := Blk.grown O5 hgrow (fun e => by have := (World.ownsRow.lt hown5 _ e.symm).1; omega); obtain ⟨p0, p1, p2, p3⟩ := S6.four; obtain ⟨f0, f1, f2, f3⟩ := S6.free; have HS6 := Lib.hid S6; clear S6) | (go_simp; go_at_call 49; ((with_reducible refine (cc _ (by assumption)).mono ?_); rintro e w4 ⟨A4, N4, C4, rfl, hA4', hb4'⟩; have hb4 : Below wr.heap.size wr w4 := bel_trans hBd hb4'; have hA4 := Lib.hid hA4'; clear hA4'; have hq4 := hb4.size; obtain ⟨W5, hW5, hb5, hs5, X5⟩ := box1 w4 (opT x') (nameT x') (numT x') A4 N4 C4; have hq5 := hb5.size; clear hs5; have b45 := bel_trans hb4 hb5; have O4 := TBox.b hO.out hb4; have O5 := TBox.b O4 hb5; obtain ⟨z0, z1, z2, z3⟩ := O4.four; obtain ⟨t0, t1, t2, t3⟩ := O5.four; have hown5 := ownsRow_below hown b45)))
            all_goals
              have Hn := Lib.hid (HH.out.step (by omega) (by omega) hb4 hA4.out hb5 Hx.out (Hmore.out w6 gn cn A4 N4 C4 Hown6.out) hgrow rfl hat)
              have hB5 : Below w.heap.size w W5 := bel_trans hB b45
              have B6 : Below w.heap.size w w6 := hB5.grown hgrow hB5.size (fun q hq => by have := (World.ownsRow.lt hown5 q hq).1; omega)
              have hw6 : w.heap.size + 4 ≤ w6.heap.size := by have := hgrow.size; omega
              have nbw : ∀ q, q < w.heap.size + 4 → some q ≠ (Value.slice Av j cv).ownBlock := fun q hq e => by have := (World.ownsRow.lt hown5 q e.symm).1; omega
              have HK7 := Lib.hid (Blk.far (Blk.grown (Blk.below hK.out b45) hgrow (nbw _ (by omega)) : Blk w6 w.heap.size #[.int .i64 3, .int .i64 0, .int .i64 0, .int .i64 0, .string ⟨#[]⟩, .int .i64 0, .slice none 0 0, .string name] 69) (show w.heap.size + 1 + 1 + 1 ≠ w.heap.size by omega) 3 (.slice (some ⟨gn, 0, none⟩) (j + 1) cn))
              have HS7 := Lib.hid (TBox.far (Blk.grown (TBox.b hS.out b45) hgrow (nbw _ (by omega)) : TBox w6 (w.heap.size + 1) 2 nm nu (some ⟨bb, o, none⟩) m c) (show w.heap.size + 1 + 1 + 1 ≠ w.heap.size + 1 by omega) 3 (.slice (some ⟨gn, 0, none⟩) (j + 1) cn))
              have HR7 := Lib.hid (TBox.far (Blk.grown (TBox.b hRr.out b45) hgrow (nbw _ (by omega)) : TBox w6 (w.heap.size + 1 + 1) 0 ⟨#[]⟩ 0 none 0 0) (show w.heap.size + 1 + 1 + 1 ≠ w.heap.size + 1 + 1 by omega) 3 (.slice (some ⟨gn, 0, none⟩) (j + 1) cn))
              have HO7 := Lib.hid (TBox.args HS6.out (some ⟨gn, 0, none⟩) (j + 1) cn)
              have B7 : Below w.heap.size w (w6.setCell ⟨w.heap.size + 1 + 1 + 1, 3, none⟩ (.slice (some ⟨gn, 0, none⟩) (j + 1) cn)) := below_set B6 (by omega) _ _
              have HT7 := Lib.hid (TsW.b HA0.out B7)
              have HN7 := Lib.hid (rowP_far Hn.out (w' := w6.setCell ⟨w.heap.size + 1 + 1 + 1, 3, none⟩ (.slice (some ⟨gn, 0, none⟩) (j + 1) cn)) (by simp [World.setCell]) (fun b hb => heap_setCell_other w6 ⟨w.heap.size + 1 + 1 + 1, 3, none⟩ b _ (by show b ≠ w.heap.size + 1 + 1 + 1; omega)))
              have hw7 : w.heap.size + 4 ≤ (w6.setCell ⟨w.heap.size + 1 + 1 + 1, 3, none⟩ (.slice (some ⟨gn, 0, none⟩) (j + 1) cn)).heap.size := by simp [World.setCell]; exact hw6
              clear nbw hat hgrow hlt6 Hn
              go_wp2
              go_roundw
              case rel => exact ⟨_, j + 1, some ⟨gn, 0, none⟩, cn, rfl, by omega, by go_num, B7, hw7, HK7, HS7, HR7, HO7, HT7, HN7⟩
              case measure => simp [intOf]; omega
          · obtain rfl : j = m := by omega
            obtain ⟨v0, v1, v2, v3⟩ := hRr.out.four
            obtain ⟨r0, r1, r2, r3⟩ := hRr.out.free
            have F3 := TBox.put hRr.out 2 nm (wrap64 (nu + 1)) Av j cv
            obtain ⟨x0, x1, x2, x3⟩ := F3.four
            clear F3 HK
            go_wp2
            simp [bodyPost, results, Try.results49, go_sem, x0, x1, x2, x3]
            exact HFin.out (wrap64 (nu + 1)) HZ.out wr _ Av cv hR.out (by rw [put_size]) (fun b hb => by rw [put_other _ _ _ _ _ _ _ (by omega)]) (put_below hB (by omega) _ _ _ _)
      · have HZ := Lib.hid (show (fClose name) k 2 nm nu = .go (nu) by unfold fClose; rw [if_neg (fun h => h0 h.1), if_neg (fun h => h2 h.2)])
        go_enter Try.func49, Try.ntmps49
        go_wp2_with fail
        go_loopw [9] (fun i wr0 => ∃ (wr : World) (j : Nat) (Av : Option Addr) (cv : Nat), wr = wr0 ∧ j ≤ m ∧ i = .int .i64 j ∧ Below w.heap.size w wr ∧ w.heap.size + 4 ≤ wr.heap.size ∧ Hid (Blk wr w.heap.size #[.int .i64 3, .int .i64 0, .int .i64 0, .int .i64 0, .string ⟨#[]⟩, .int .i64 0, .slice none 0 0, .string name] 69) ∧ Hid (TBox wr (w.heap.size + 1) 2 nm nu a m c) ∧ Hid (TBox wr (w.heap.size + 1 + 1) 0 ⟨#[]⟩ 0 none 0 0) ∧ Hid (TBox wr (w.heap.size + 1 + 1 + 1) 2 nm (nu) Av j cv) ∧ Hid (TsW wr a m c la) ∧ Hid (RowP 0 (w.heap.size + 4) wr (.slice Av j cv) (la.map (wk (fClose name) k)) j)) (fun i _ => m - (intOf i).toNat)
        case atStart =>
          obtain ⟨W2, hW2, hB2, hs2, K2, S2, R2, O2⟩ := termBoxes w #[.int .i64 3, .int .i64 0, .int .i64 0, .int .i64 0, .string ⟨#[]⟩, .int .i64 0, .slice none 0 0, .string name] 2 nm nu a m c 2 nm (nu)
          rw [hW2]
          exact ⟨_, 0, none, 0, rfl, by omega, rfl, hB2, by omega, Lib.hid K2, Lib.hid S2, Lib.hid R2, Lib.hid O2, Lib.hid (TsW.b HA0.out hB2), Lib.hid (RowP.nil _ _ _ _)⟩
        case round =>
          obtain ⟨wr, j, Av, cv, rfl, hj, rfl, hB, hWr, hK, hS, hRr, hO, hTs, hR⟩ := hrel
          obtain ⟨e0, e1, e2, e3⟩ := hS.out.four
          obtain ⟨o0, o1, o2, o3⟩ := hO.out.four
          obtain ⟨w0, w1, w2, w3, w4, w5, w6, w7⟩ := blk8 hK.out
          by_cases hlt : j < m
          · obtain ⟨bb, o, x, A, M, Cc, rfl, hb, y0, y1, y2, y3, hx, hxA⟩ := IsT.at hTs.out hlt
            obtain ⟨hck, hsx⟩ := HK.out j x hx
            have cc := fun (w' : World) (h : Below wr.heap.size wr w') => hck A M Cc k w' hsx (ArW.b hxA h)
            obtain ⟨hs, hH⟩ := hR.out
            have HH := Lib.hid hH
            obtain ⟨Av', cv', hv, hown⟩ := hH.slice
            have Hmore := Lib.hid (fun (w6 : World) (g cap : Nat) (A : Option Addr) (N C : Nat) => RowH.more (w := w6) (lo := w.heap.size + 4) (g := g) (cap := cap) hH.1 (wk (fClose name) k x) A N C)
            have Hx := Lib.hid (show (la.map (wk (fClose name) k))[j]? = some (wk (fClose name) k x) by rw [List.getElem?_map, hx]; rfl)
            have hBd : Below wr.heap.size wr wr.drew := (Below.refl _ _).drew
            clear hx hxA HK hck hH hR hv
            generalize flatH hs = XS at *
            unfold MixW at cc
            generalize wk (fClose name) k x = x' at *
            generalize opT x = op' at *
            generalize nameT x = nm' at *
            generalize numT x = nu' at *
            have hj0 : 0 ≤ (j : Int) := by omega
            have hj1 : (j : Int) < (m : Int) := by omega
            have hone : ∀ (A : Option Addr) (N C : Nat), ∀ u ∈ [Value.int .i64 (opT x'), .string (nameT x'), .int .i64 (numT x'), .slice A N C], u.oneCell' = true := fun A N C u hu => by simp at hu; rcases hu with rfl | rfl | rfl | rfl <;> rfl
            go_wp2_with fail
            go_region_law (first | ((refine step_append_lies _ (by rfl) _ _ _ (by rfl) (w.heap.size + 4) 27 i0 _ 4 56 Try.underlying22 hi0 hz0 hz1 hz2 rfl (by omega) (.slice Av j cv) j XS (by rfl) hown5 ⟨w4.heap.size, 0, none⟩ 1 1 [.int .i64 (opT x'), .string (nameT x'), .int .i64 (numT x'), .slice A4 N4 C4] (by rfl) (by rfl) (World.news_of_block (cs := #[.int .i64 (opT x'), .string (nameT x'), .int .i64 (numT x'), .slice A4 N4 C4]) (t := 27) (fr := (0, 0)) X5) (hone A4 N4 C4) (by omega) (by unfold maxLen; omega) (by omega) (by omega) W5.heap.size rfl ?_); intro gn cn w6 hown6 hgrow hat hlt6; have Hown6 := Lib.hid hown6; clear hown6; have S6 : TBox w6 (w.heap.size + 1 + 1 + 1) 2 nm (nu) Av j cv := Blk.grown O5 hgrow (fun e => by have := (World.ownsRow.lt hown5 _ e.symm).1; omega); obtain ⟨p0, p1, p2, p3⟩ := S6.four; obtain ⟨f0, f1, f2, f3⟩ := S6.free; have HS6 := Lib.hid S6; clear S6) | (go_simp; go_at_call 49; ((with_reducible refine (cc _ (by assumption)).mono ?_); rintro e w4 ⟨A4, N4, C4, rfl, hA4', hb4'⟩; have hb4 : Below wr.heap.size wr w4 := bel_trans hBd hb4'; have hA4 := Lib.hid hA4'; clear hA4'; have hq4 := hb4.size; obtain ⟨W5, hW5, hb5, hs5, X5⟩ := box1 w4 (opT x') (nameT x') (numT x') A4 N4 C4; have hq5 := hb5.size; clear hs5; have b45 := bel_trans hb4 hb5; have O4 := TBox.b hO.out hb4; have O5 := TBox.b O4 hb5; obtain ⟨z0, z1, z2, z3⟩ := O4.four; obtain ⟨t0, t1, t2, t3⟩ := O5.four; have hown5 := ownsRow_below hown b45)))
            all_goals
              have Hn := Lib.hid (HH.out.step (by omega) (by omega) hb4 hA4.out hb5 Hx.out (Hmore.out w6 gn cn A4 N4 C4 Hown6.out) hgrow rfl hat)
              have hB5 : Below w.heap.size w W5 := bel_trans hB b45
              have B6 : Below w.heap.size w w6 := hB5.grown hgrow hB5.size (fun q hq => by have := (World.ownsRow.lt hown5 q hq).1; omega)
              have hw6 : w.heap.size + 4 ≤ w6.heap.size := by have := hgrow.size; omega
              have nbw : ∀ q, q < w.heap.size + 4 → some q ≠ (Value.slice Av j cv).ownBlock := fun q hq e => by have := (World.ownsRow.lt hown5 q e.symm).1; omega
              have HK7 := Lib.hid (Blk.far (Blk.grown (Blk.below hK.out b45) hgrow (nbw _ (by omega)) : Blk w6 w.heap.size #[.int .i64 3, .int .i64 0, .int .i64 0, .int .i64 0, .string ⟨#[]⟩, .int .i64 0, .slice none 0 0, .string name] 69) (show w.heap.size + 1 + 1 + 1 ≠ w.heap.size by omega) 3 (.slice (some ⟨gn, 0, none⟩) (j + 1) cn))
              have HS7 := Lib.hid (TBox.far (Blk.grown (TBox.b hS.out b45) hgrow (nbw _ (by omega)) : TBox w6 (w.heap.size + 1) 2 nm nu (some ⟨bb, o, none⟩) m c) (show w.heap.size + 1 + 1 + 1 ≠ w.heap.size + 1 by omega) 3 (.slice (some ⟨gn, 0, none⟩) (j + 1) cn))
              have HR7 := Lib.hid (TBox.far (Blk.grown (TBox.b hRr.out b45) hgrow (nbw _ (by omega)) : TBox w6 (w.heap.size + 1 + 1) 0 ⟨#[]⟩ 0 none 0 0) (show w.heap.size + 1 + 1 + 1 ≠ w.heap.size + 1 + 1 by omega) 3 (.slice (some ⟨gn, 0, none⟩) (j + 1) cn))
              have HO7 := Lib.hid (TBox.args HS6.out (some ⟨gn, 0, none⟩) (j + 1) cn)
              have B7 : Below w.heap.size w (w6.setCell ⟨w.heap.size + 1 + 1 + 1, 3, none⟩ (.slice (some ⟨gn, 0, none⟩) (j + 1) cn)) := below_set B6 (by omega) _ _
              have HT7 := Lib.hid (TsW.b HA0.out B7)
              have HN7 := Lib.hid (rowP_far Hn.out (w' := w6.setCell ⟨w.heap.size + 1 + 1 + 1, 3, none⟩ (.slice (some ⟨gn, 0, none⟩) (j + 1) cn)) (by simp [World.setCell]) (fun b hb => heap_setCell_other w6 ⟨w.heap.size + 1 + 1 + 1, 3, none⟩ b _ (by show b ≠ w.heap.size + 1 + 1 + 1; omega)))
              have hw7 : w.heap.size + 4 ≤ (w6.setCell ⟨w.heap.size + 1 + 1 + 1, 3, none⟩ (.slice (some ⟨gn, 0, none⟩) (j + 1) cn)).heap.size := by simp [World.setCell]; exact hw6
              clear nbw hat hgrow hlt6 Hn
              go_wp2
              go_roundw
              case rel => exact ⟨_, j + 1, some ⟨gn, 0, none⟩, cn, rfl, by omega, by go_num, B7, hw7, HK7, HS7, HR7, HO7, HT7, HN7⟩
              case measure => simp [intOf]; omega
          · obtain rfl : j = m := by omega
            obtain ⟨v0, v1, v2, v3⟩ := hRr.out.four
            obtain ⟨r0, r1, r2, r3⟩ := hRr.out.free
            have F3 := TBox.put hRr.out 2 nm (nu) Av j cv
            obtain ⟨x0, x1, x2, x3⟩ := F3.four
            clear F3 HK
            go_wp2
            simp [bodyPost, results, Try.results49, go_sem, x0, x1, x2, x3]
            exact HFin.out (nu) HZ.out wr _ Av cv hR.out (by rw [put_size]) (fun b hb => by rw [put_other _ _ _ _ _ _ _ (by omega)]) (put_below hB (by omega) _ _ _ _)
    · have q1 : (op == 2) = false := by simp [h1]
      have HZ := Lib.hid (show (fClose name) k op nm nu = .go (nu) by unfold fClose; rw [if_neg (fun h => h0 h.1), if_neg (fun h => h1 h.1)])
      go_enter Try.func49, Try.ntmps49
      clear h0 h1
      go_wp2_with fail
      go_loopw [9] (fun i wr0 => ∃ (wr : World) (j : Nat) (Av : Option Addr) (cv : Nat), wr = wr0 ∧ j ≤ m ∧ i = .int .i64 j ∧ Below w.heap.size w wr ∧ w.heap.size + 4 ≤ wr.heap.size ∧ Hid (Blk wr w.heap.size #[.int .i64 3, .int .i64 0, .int .i64 0, .int .i64 0, .string ⟨#[]⟩, .int .i64 0, .slice none 0 0, .string name] 69) ∧ Hid (TBox wr (w.heap.size + 1) op nm nu a m c) ∧ Hid (TBox wr (w.heap.size + 1 + 1) 0 ⟨#[]⟩ 0 none 0 0) ∧ Hid (TBox wr (w.heap.size + 1 + 1 + 1) op nm (nu) Av j cv) ∧ Hid (TsW wr a m c la) ∧ Hid (RowP 0 (w.heap.size + 4) wr (.slice Av j cv) (la.map (wk (fClose name) k)) j)) (fun i _ => m - (intOf i).toNat)
      case atStart =>
        obtain ⟨W2, hW2, hB2, hs2, K2, S2, R2, O2⟩ := termBoxes w #[.int .i64 3, .int .i64 0, .int .i64 0, .int .i64 0, .string ⟨#[]⟩, .int .i64 0, .slice none 0 0, .string name] op nm nu a m c op nm (nu)
        rw [hW2]
        exact ⟨_, 0, none, 0, rfl, by omega, rfl, hB2, by omega, Lib.hid K2, Lib.hid S2, Lib.hid R2, Lib.hid O2, Lib.hid (TsW.b HA0.out hB2), Lib.hid (RowP.nil _ _ _ _)⟩
      case round =>
        obtain ⟨wr, j, Av, cv, rfl, hj, rfl, hB, hWr, hK, hS, hRr, hO, hTs, hR⟩ := hrel
        obtain ⟨e0, e1, e2, e3⟩ := hS.out.four
        obtain ⟨o0, o1, o2, o3⟩ := hO.out.four
        obtain ⟨w0, w1, w2, w3, w4, w5, w6, w7⟩ := blk8 hK.out
        by_cases hlt : j < m
        · obtain ⟨bb, o, x, A, M, Cc, rfl, hb, y0, y1, y2, y3, hx, hxA⟩ := IsT.at hTs.out hlt
          obtain ⟨hck, hsx⟩ := HK.out j x hx
          have cc := fun (w' : World) (h : Below wr.heap.size wr w') => hck A M Cc k w' hsx (ArW.b hxA h)
          obtain ⟨hs, hH⟩ := hR.out
          have HH := Lib.hid hH
          obtain ⟨Av', cv', hv, hown⟩ := hH.slice
          have Hmore := Lib.hid (fun (w6 : World) (g cap : Nat) (A : Option Addr) (N C : Nat) => RowH.more (w := w6) (lo := w.heap.size + 4) (g := g) (cap := cap) hH.1 (wk (fClose name) k x) A N C)
          have Hx := Lib.hid (show (la.map (wk (fClose name) k))[j]? = some (wk (fClose name) k x) by rw [List.getElem?_map, hx]; rfl)
          have hBd : Below wr.heap.size wr wr.drew := (Below.refl _ _).drew
          clear hx hxA HK hck hH hR hv
          generalize flatH hs = XS at *
          unfold MixW at cc
          generalize wk (fClose name) k x = x' at *
          generalize opT x = op' at *
          generalize nameT x = nm' at *
          generalize numT x = nu' at *
          have hj0 : 0 ≤ (j : Int) := by omega
          have hj1 : (j : Int) < (m : Int) := by omega
          have hone : ∀ (A : Option Addr) (N C : Nat), ∀ u ∈ [Value.int .i64 (opT x'), .string (nameT x'), .int .i64 (numT x'), .slice A N C], u.oneCell' = true := fun A N C u hu => by simp at hu; rcases hu with rfl | rfl | rfl | rfl <;> rfl
          go_wp2_with fail
          go_region_law (first | ((refine step_append_lies _ (by rfl) _ _ _ (by rfl) (w.heap.size + 4) 27 i0 _ 4 56 Try.underlying22 hi0 hz0 hz1 hz2 rfl (by omega) (.slice Av j cv) j XS (by rfl) hown5 ⟨w4.heap.size, 0, none⟩ 1 1 [.int .i64 (opT x'), .string (nameT x'), .int .i64 (numT x'), .slice A4 N4 C4] (by rfl) (by rfl) (World.news_of_block (cs := #[.int .i64 (opT x'), .string (nameT x'), .int .i64 (numT x'), .slice A4 N4 C4]) (t := 27) (fr := (0, 0)) X5) (hone A4 N4 C4) (by omega) (by unfold maxLen; omega) (by omega) (by omega) W5.heap.size rfl ?_); intro gn cn w6 hown6 hgrow hat hlt6; have Hown6 := Lib.hid hown6; clear hown6; have S6 : TBox w6 (w.heap.size + 1 + 1 + 1) op nm (nu) Av j cv := Blk.grown O5 hgrow (fun e => by have := (World.ownsRow.lt hown5 _ e.symm).1; omega); obtain ⟨p0, p1, p2, p3⟩ := S6.four; obtain ⟨f0, f1, f2, f3⟩ := S6.free; have HS6 := Lib.hid S6; clear S6) | (go_simp; go_at_call 49; ((with_reducible refine (cc _ (by assumption)).mono ?_); rintro e w4 ⟨A4, N4, C4, rfl, hA4', hb4'⟩; have hb4 : Below wr.heap.size wr w4 := bel_trans hBd hb4'; have hA4 := Lib.hid hA4'; clear hA4'; have hq4 := hb4.size; obtain ⟨W5, hW5, hb5, hs5, X5⟩ := box1 w4 (opT x') (nameT x') (numT x') A4 N4 C4; have hq5 := hb5.size; clear hs5; have b45 := bel_trans hb4 hb5; have O4 := TBox.b hO.out hb4; have O5 := TBox.b O4 hb5; obtain ⟨z0, z1, z2, z3⟩ := O4.four; obtain ⟨t0, t1, t2, t3⟩ := O5.four; have hown5 := ownsRow_below hown b45)))
          all_goals
            have Hn := Lib.hid (HH.out.step (by omega) (by omega) hb4 hA4.out hb5 Hx.out (Hmore.out w6 gn cn A4 N4 C4 Hown6.out) hgrow rfl hat)
            have hB5 : Below w.heap.size w W5 := bel_trans hB b45
            have B6 : Below w.heap.size w w6 := hB5.grown hgrow hB5.size (fun q hq => by have := (World.ownsRow.lt hown5 q hq).1; omega)
            have hw6 : w.heap.size + 4 ≤ w6.heap.size := by have := hgrow.size; omega
            have nbw : ∀ q, q < w.heap.size + 4 → some q ≠ (Value.slice Av j cv).ownBlock := fun q hq e => by have := (World.ownsRow.lt hown5 q e.symm).1; omega
            have HK7 := Lib.hid (Blk.far (Blk.grown (Blk.below hK.out b45) hgrow (nbw _ (by omega)) : Blk w6 w.heap.size #[.int .i64 3, .int .i64 0, .int .i64 0, .int .i64 0, .string ⟨#[]⟩, .int .i64 0, .slice none 0 0, .string name] 69) (show w.heap.size + 1 + 1 + 1 ≠ w.heap.size by omega) 3 (.slice (some ⟨gn, 0, none⟩) (j + 1) cn))
            have HS7 := Lib.hid (TBox.far (Blk.grown (TBox.b hS.out b45) hgrow (nbw _ (by omega)) : TBox w6 (w.heap.size + 1) op nm nu (some ⟨bb, o, none⟩) m c) (show w.heap.size + 1 + 1 + 1 ≠ w.heap.size + 1 by omega) 3 (.slice (some ⟨gn, 0, none⟩) (j + 1) cn))
            have HR7 := Lib.hid (TBox.far (Blk.grown (TBox.b hRr.out b45) hgrow (nbw _ (by omega)) : TBox w6 (w.heap.size + 1 + 1) 0 ⟨#[]⟩ 0 none 0 0) (show w.heap.size + 1 + 1 + 1 ≠ w.heap.size + 1 + 1 by omega) 3 (.slice (some ⟨gn, 0, none⟩) (j + 1) cn))
            have HO7 := Lib.hid (TBox.args HS6.out (some ⟨gn, 0, none⟩) (j + 1) cn)
            have B7 : Below w.heap.size w (w6.setCell ⟨w.heap.size + 1 + 1 + 1, 3, none⟩ (.slice (some ⟨gn, 0, none⟩) (j + 1) cn)) := below_set B6 (by omega) _ _
            have HT7 := Lib.hid (TsW.b HA0.out B7)
            have HN7 := Lib.hid (rowP_far Hn.out (w' := w6.setCell ⟨w.heap.size + 1 + 1 + 1, 3, none⟩ (.slice (some ⟨gn, 0, none⟩) (j + 1) cn)) (by simp [World.setCell]) (fun b hb => heap_setCell_other w6 ⟨w.heap.size + 1 + 1 + 1, 3, none⟩ b _ (by show b ≠ w.heap.size + 1 + 1 + 1; omega)))
            have hw7 : w.heap.size + 4 ≤ (w6.setCell ⟨w.heap.size + 1 + 1 + 1, 3, none⟩ (.slice (some ⟨gn, 0, none⟩) (j + 1) cn)).heap.size := by simp [World.setCell]; exact hw6
            clear nbw hat hgrow hlt6 Hn
            go_wp2
            go_roundw
            case rel => exact ⟨_, j + 1, some ⟨gn, 0, none⟩, cn, rfl, by omega, by go_num, B7, hw7, HK7, HS7, HR7, HO7, HT7, HN7⟩
            case measure => simp [intOf]; omega
        · obtain rfl : j = m := by omega
          obtain ⟨v0, v1, v2, v3⟩ := hRr.out.four
          obtain ⟨r0, r1, r2, r3⟩ := hRr.out.free
          have F3 := TBox.put hRr.out op nm (nu) Av j cv
          obtain ⟨x0, x1, x2, x3⟩ := F3.four
          clear F3 HK
          go_wp2
          simp [bodyPost, results, Try.results49, go_sem, x0, x1, x2, x3]
          exact HFin.out (nu) HZ.out wr _ Av cv hR.out (by rw [put_size]) (fun b hb => by rw [put_other _ _ _ _ _ _ _ (by omega)]) (put_below hB (by omega) _ _ _ _)
theorem term3_any (name : ByteArray) (t : Tm) : Tm3Ok name t := Tm.ind (term3_step name) t
end Go.Proofs.Ytceijoggoniaoaa.B
