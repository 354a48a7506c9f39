/-
  What is proved: the document's Lift of a term: every bound number increased.
-/
import Derived.Test.YtnhemglpbhnmdaaGreatZTrmWt
import Derived.Test.YtnhemglpbhnmdaaGreatBL
import Derived.Deep.AppendLies
import Derived.Deep.RegionLaw
namespace Go.Proofs.YtnhemglpbhnmdaaGreat.U
open Go.RowKit L T Go.Deep
set_option linter.unusedVariables false
set_option linter.unusedSimpArgs false

mutual
def lfT (k : Int) : Tm → Tm
  | .mk o s z l => .mk o s (if o = 2 then IntKind.i64.wrap (z + k) else z) (lfTs k l)
def lfTs (k : Int) : List Tm → List Tm
  | [] => []
  | t :: l => lfT k t :: lfTs k l
end
theorem lfTs_map (k : Int) : ∀ l : List Tm, lfTs k l = l.map (lfT k)
  | [] => by rw [lfTs]; rfl
  | t :: l => by rw [lfTs, lfTs_map k l]; rfl
theorem lfT_mk (k : Int) (t : Tm) : lfT k t = .mk (opT t) (nameT t) (if opT t = 2 then IntKind.i64.wrap (numT t + k) else numT t) (lfTs k (argsT t)) := by cases t; rw [lfT]; rfl
theorem TBox.num {w : World} {g : Nat} {o : Int} {s : ByteArray} {z : Int} {a : Option Addr} {n c : Nat} (h : TBox w g o s z a n c) (z' : Int) : TBox (w.setCell ⟨g, 2, none⟩ (.int .i64 z')) g o s z' a n c := by
  have := Blk.set h 2 (.int .i64 z')
  unfold TBox
  simpa using this
theorem app_oneT {w : World} {ops : Array Oper} {rest : List Oper} {o : Oper} {a : Act} {Q : Exit → Act → World → Prop} (hgd : o.guard = none) (s x : Operand)
    (ho : o.op = .call { callee := .builtin .append, args := #[s, x], argTypes := #[22, 22] })
    (base : Nat) (v : Value) (Y : List Hd) (hs : a.eval s = v) (hown : OwnT w base v Y) (z : Nat) (h : Hd) (hx : a.eval x = .slice (some ⟨z, 0, none⟩) 1 1) (hz : Blk w z #[.int .i64 h.op, .string h.nm, .int .i64 h.nu, .slice h.a h.n h.c] 31)
    (hn : Y.length + 1 ≤ 1000000000) (hbase : base ≤ w.heap.size)
    (hK : ∀ g cap w', OwnT w' base (.slice (some ⟨g, 0, none⟩) (Y.length + 1) cap) (Y ++ [h]) → w.grownBy w' v.ownBlock → (v.ownBlock = some g ∨ g = w.heap.size) → wpList Tryz.prog ops Q rest (a.put o.dst (.slice (some ⟨g, 0, none⟩) (Y.length + 1) cap)) w') : wpList Tryz.prog ops Q (o :: rest) a w := by
  obtain ⟨i0, hi, hz0, hz1, hz2⟩ := info_parts termI
  refine wpList_append_lies w hgd s x 22 ho base 31 i0 _ 4 56 Tryz.underlying22 hi hz0 hz1 hz2 rfl (by decide) v Y.length (flatH Y) hs hown ⟨z, 0, none⟩ 1 1 (flatH [h]) hx (by rw [flat_len]; rfl) (fun j u hj => by rw [show flatH [h] = h.cells ++ [] from rfl] at hj; exact World.news_of_block hz j u (by simpa [Hd.cells] using hj)) (hd_one _) (by omega) (by unfold maxLen; omega) (by omega) hbase _ rfl fun g cap w' h1 h2 h3 _ => hK g cap w' ?_ h2 h3
  unfold OwnT
  rw [List.length_append, flat_app]
  exact h1
/-- a term made of what was there and of what is new is returned -/
def MixU (B : Nat) (r : Tm) (w : World) (e : Ending) (w' : World) : Prop := ∃ A N C, e = .returned (.agg #[.int .i64 (opT r), .string (nameT r), .int .i64 (numT r), .slice A N C]) ∧ ArP (NewB B w.heap.size w'.heap.size) w' r A N C ∧ Below w.heap.size w w'
def RefLfOk (by_ : Int) (t : Tm) : Prop := ∀ (B : Nat) (a : Option Addr) (m c : Nat) (w : World), B ≤ w.heap.size → size t ≤ 1000000 → Ar B w t a m c →
  Calls Tryz.prog 115 #[.agg #[.int .i64 (opT t), .string (nameT t), .int .i64 (numT t), .slice a m c], .int .i64 by_] w fun e w' => MixU B (lfT by_ t) w e w'

set_option maxRecDepth 100000 in
set_option maxHeartbeats 16000000 in
theorem RefLf_step (by_ : Int) (t : Tm) (hok : ∀ x ∈ argsT t, RefLfOk by_ x) : RefLfOk by_ t := by
  intro B a m c w hBw hsz hA
  obtain ⟨W2, hW2, hB2, hs2, S2, R2⟩ := box_res w (opT t) (nameT t) (numT t) a m c
  have hBb := hB2.mono hBw
  have hA2 := Ar.bel hBb t hA
  have hB2s : B ≤ W2.heap.size := by omega
  have hIs : IsT B W2 a m c (argsT t) := ar_isT.1 hA2
  have hm : m = (argsT t).length := hIs.1
  have hml : m ≤ 1000000 := by
    have e1 : size t = 1 + sizes (argsT t) := by cases t; rw [size]; rfl
    have e2 : ∀ l : List Tm, l.length ≤ sizes l := fun l => by
      induction l with
      | nil => exact Nat.le_refl _
      | cons t l ih => rw [List.length_cons, sizes]; have := size_pos t; omega
    have := e2 (argsT t)
    omega
  have hll : (lfTs by_ (argsT t)).length = m := by rw [lfTs_map, List.length_map]; exact hm.symm
  have HFin := Lib.hid (show ∀ (nz : Int), (if opT t = 2 then IntKind.i64.wrap (numT t + by_) else numT t) = nz → ∀ (w3 w5 : World) (A : Option Addr) (C : Nat), RowP B W2.heap.size w3 (.slice A m C) (lfTs by_ (argsT t)) m → w5.heap.size = w3.heap.size → (∀ b, b < B ∨ W2.heap.size ≤ b → w5.heap[b]? = w3.heap[b]?) → Below w.heap.size w w5 → MixU B (lfT by_ t) w (.returned (.agg #[.int .i64 (opT t), .string (nameT t), .int .i64 nz, .slice A m C])) w5 from fun nz hn w3 w5 A C g1 g2 g3 g4 => by
    rw [lfT_mk, hn]
    exact ⟨A, m, C, rfl, RowP.arP g1 hll (by omega) g2 g3, g4⟩)
  have HK := Lib.hid (show ∀ k x, (argsT t)[k]? = some x → (∀ (B : Nat) (a : Option Addr) (m c : Nat) (w : World), B ≤ w.heap.size → size x ≤ 1000000 → Ar B w x a m c → Calls Tryz.prog 115 #[.agg #[.int .i64 (opT x), .string (nameT x), .int .i64 (numT x), .slice a m c], .int .i64 by_] w fun e w' => MixU B (lfT by_ x) w e w') ∧ size x ≤ 1000000 ∧ (lfTs by_ (argsT t))[k]? = some (lfT by_ x) from fun k x h => ⟨hok x (List.mem_of_getElem? h), by
    have e1 : size t = 1 + sizes (argsT t) := by cases t; rw [size]; rfl
    have := alls_lt h; omega, by rw [lfTs_map, List.getElem?_map, h]; rfl⟩)
  have HT := Lib.hid hIs
  have lS := Blk.lt S2
  have lR := Blk.lt R2
  have HW := Lib.hid hs2
  obtain ⟨i0, hi0, hz0, hz1, hz2⟩ := info_parts termI
  clear hA hok hm hsz hA2 hIs hBb hll
  generalize argsT t = la at *
  generalize lfTs by_ la = lr at *
  generalize opT t = op at *
  generalize nameT t = nm at *
  generalize numT t = nu at *
  generalize MixU B (lfT by_ t) w = Post at *
  by_cases hq : op = 2
  · subst hq
    have HF1 := Lib.hid (HFin.out (IntKind.i64.wrap (nu + by_)) (if_pos rfl))
    obtain ⟨V, hV⟩ : ∃ V, W2.setCell ⟨w.heap.size, 2, none⟩ (.int .i64 (IntKind.i64.wrap (nu + by_))) = V := ⟨_, rfl⟩
    have hVs : V.heap.size = W2.heap.size := by rw [← hV]; simp [World.setCell]
    have hBV : Below w.heap.size w V := by rw [← hV]; exact below_set hB2 (Nat.le_refl _) _ _
    have hBB : Below B W2 V := by rw [← hV]; exact below_set (Below.refl _ _) hBw _ _
    obtain ⟨s0, s1, s2, s3⟩ := S2.four
    obtain ⟨f0, f1, f2, f3⟩ := S2.free
    have SV := TBox.num S2 (IntKind.i64.wrap (nu + by_))
    have RV := TBox.far R2 (show w.heap.size ≠ w.heap.size + 1 by omega) 2 (.int .i64 (IntKind.i64.wrap (nu + by_)))
    rw [hV] at SV RV
    have HTV := Lib.hid (HT.out.bel hBB)
    clear S2 R2 HFin HT
    generalize hz : IntKind.i64.wrap (nu + by_) = nz at *
    have HS := Lib.hid SV
    have HR := Lib.hid RV
    clear SV RV
    go_enter Tryz.func115, Tryz.ntmps115
    go_wp2_with fail
    go_loopw [5, 6] (fun v i wr0 => ∃ (wr : World) (k : Nat), wr = wr0 ∧ k ≤ m ∧ i = .int .i64 k ∧ Below V.heap.size V wr ∧ Hid (RowP B V.heap.size wr v lr k)) (fun v i _ => m - (intOf i).toNat)
    case atStart => exact ⟨_, 0, rfl, by omega, rfl, Below.refl _ _, Lib.hid (RowP.nil _ _ _ _)⟩
    case round =>
      obtain ⟨wr, k, rfl, hk, rfl, hB, hR⟩ := hrel
      have Sk := TBox.b HS.out hB
      have Rk := TBox.b HR.out hB
      obtain ⟨e0, e1, e2, e3⟩ := Sk.four
      by_cases hlt : k < m
      · obtain ⟨bb, o, x, A, M, Cc, rfl, hb, y0, y1, y2, y3, hx, hxA⟩ := IsT.at (HTV.out.bel (hB.mono (by omega))) hlt
        obtain ⟨hck, hsx, hxr⟩ := HK.out k x hx
        have hsr := hB.size
        have cc := fun (w' : World) (h : Below wr.heap.size wr w') => hck B A M Cc w' (by have := h.size; omega) hsx (Ar.bel (h.mono (by omega)) x hxA)
        obtain ⟨hs, hH⟩ := hR.out
        have HH := Lib.hid hH
        obtain ⟨Av, cv, rfl, hown⟩ := hH.slice
        have hhl := hH.1
        have hho : OwnT wr V.heap.size (.slice Av k cv) hs := hH.2.1
        have Hx := Lib.hid hxr
        clear hx hxr hxA HK hck hH hR HS HR
        unfold MixU at cc
        generalize lfT by_ x = xr at *
        generalize opT x = op' at *
        generalize nameT x = nm' at *
        generalize numT x = nu' at *
        have hk0 : 0 ≤ (k : Int) := by omega
        have hk1 : (k : Int) < (m : Int) := by omega
        have HOwn := Lib.hid (show hs.length = k ∧ OwnT wr V.heap.size (.slice Av k cv) hs from ⟨hhl, hho⟩)
        go_wp2_with (first
          | (go_at_call 115; ((with_reducible refine (cc _ (Below.refl _ _)).mono ?_); rintro e w4 ⟨A4, N4, C4, rfl, hA4', hb4⟩; have hA4 := Lib.hid hA4'; clear hA4'; obtain ⟨W7, hW7⟩ : ∃ W7, w4.alloc (.cells #[.int .i64 (opT xr), .string (nameT xr), .int .i64 (numT xr), .slice A4 N4 C4] 31) = W7 := ⟨_, rfl⟩; have hB7 : Below w4.heap.size w4 W7 := (by rw [← hW7]; exact bel_alloc (Below.refl _ _) _); have HZ7 := Lib.hid (show Blk W7 w4.heap.size #[.int .i64 (opT xr), .string (nameT xr), .int .i64 (numT xr), .slice A4 N4 C4] 31 from (by rw [← hW7]; exact Blk.new w4 _ _)); have hbR7 := bel_trans hb4 hB7; obtain ⟨hl9, ho9⟩ := HOwn.out; have HO9 := Lib.hid (ho9.below hbR7); have hl9' : hs.length + 1 ≤ 1000000000 := (by omega); have hsz7 : V.heap.size ≤ W7.heap.size := Nat.le_trans hsr hbR7.size; clear ho9))
          | (at_builtin; ((refine app_oneT rfl (.tmp 22) (.tmp 30) rfl V.heap.size (.slice Av k cv) hs rfl HO9.out w4.heap.size (hdOf xr A4 N4 C4) rfl HZ7.out hl9' hsz7 ?_); intro gn cn w6 hown6 hgrow hat; have Hown6 := Lib.hid hown6; clear hown6)))
        have Hn := Lib.hid (HH.out.step (by omega) (by omega) hb4 hA4.out hB7 Hx.out Hown6.out hgrow rfl hat)
        have hl0 := HOwn.out.1
        rw [hl0] at Hn
        have B6 : Below V.heap.size V w6 := (bel_trans hB hbR7).grown hgrow hsz7 (fun q hq => (World.ownsRow.lt hown q hq).1)
        clear hat hgrow hW7
        go_roundw
        case rel => exact ⟨_, k + 1, rfl, by omega, by go_num, B6, Hn⟩
        case measure => simp [intOf]; omega
      · obtain rfl : k = m := by omega
        obtain ⟨hs, hH⟩ := hR.out
        obtain ⟨Av, cv, rfl, _⟩ := hH.slice
        have HH := Lib.hid hH
        have cW := With_any 2 nm nz a k c Av k cv wr
        have hs4 := Lib.hid HW.out
        clear hH hR HK HS HR
        go_wp2_with (go_at_call 116; ((with_reducible refine cW.mono ?_); rintro e w4 ⟨rfl, hb4⟩; have R4 := TBox.b Rk hb4; obtain ⟨v0, v1, v2, v3⟩ := R4.four; obtain ⟨r0, r1, r2, r3⟩ := R4.free; have F3 := TBox.put R4 2 nm nz Av k cv; obtain ⟨x0, x1, x2, x3⟩ := F3.four))
        simp [bodyPost, results, Tryz.results115, go_sem, x0, x1, x2, x3]
        have hz := hs4.out
        have hrow : RowP B W2.heap.size w4 (.slice Av k cv) lr k := by rw [← hVs]; exact ⟨hs, HH.out.below hb4⟩
        refine HF1.out w4 _ Av cv hrow (by rw [put_size]) (fun b hb => by rw [put_other _ _ _ _ _ _ _ (by omega)]) (put_below (bel_trans hBV (bel_trans hB hb4)) (by omega) _ _ _ _)
  · have HF1 := Lib.hid (HFin.out nu (if_neg hq))
    have hqb : (op == 2) = false := beq_no' hq
    obtain ⟨s0, s1, s2, s3⟩ := S2.four
    have hBV := hB2
    have HTV := HT
    have SV := S2
    have RV := R2
    clear S2 R2 HFin HT
    have HS := Lib.hid SV
    have HR := Lib.hid RV
    clear SV RV
    go_enter Tryz.func115, Tryz.ntmps115
    go_wp2_with fail
    go_loopw [5, 6] (fun v i wr0 => ∃ (wr : World) (k : Nat), wr = wr0 ∧ k ≤ m ∧ i = .int .i64 k ∧ Below W2.heap.size W2 wr ∧ Hid (RowP B W2.heap.size wr v lr k)) (fun v i _ => m - (intOf i).toNat)
    case atStart => exact ⟨_, 0, rfl, by omega, rfl, Below.refl _ _, Lib.hid (RowP.nil _ _ _ _)⟩
    case round =>
      obtain ⟨wr, k, rfl, hk, rfl, hB, hR⟩ := hrel
      have Sk := TBox.b HS.out hB
      have Rk := TBox.b HR.out hB
      obtain ⟨e0, e1, e2, e3⟩ := Sk.four
      by_cases hlt : k < m
      · obtain ⟨bb, o, x, A, M, Cc, rfl, hb, y0, y1, y2, y3, hx, hxA⟩ := IsT.at (HTV.out.bel (hB.mono (by omega))) hlt
        obtain ⟨hck, hsx, hxr⟩ := HK.out k x hx
        have hsr := hB.size
        have cc := fun (w' : World) (h : Below wr.heap.size wr w') => hck B A M Cc w' (by have := h.size; omega) hsx (Ar.bel (h.mono (by omega)) x hxA)
        obtain ⟨hs, hH⟩ := hR.out
        have HH := Lib.hid hH
        obtain ⟨Av, cv, rfl, hown⟩ := hH.slice
        have hhl := hH.1
        have hho : OwnT wr W2.heap.size (.slice Av k cv) hs := hH.2.1
        have Hx := Lib.hid hxr
        clear hx hxr hxA HK hck hH hR HS HR
        unfold MixU at cc
        generalize lfT by_ x = xr at *
        generalize opT x = op' at *
        generalize nameT x = nm' at *
        generalize numT x = nu' at *
        have hk0 : 0 ≤ (k : Int) := by omega
        have hk1 : (k : Int) < (m : Int) := by omega
        have HOwn := Lib.hid (show hs.length = k ∧ OwnT wr W2.heap.size (.slice Av k cv) hs from ⟨hhl, hho⟩)
        go_wp2_with (first
          | (go_at_call 115; ((with_reducible refine (cc _ (Below.refl _ _)).mono ?_); rintro e w4 ⟨A4, N4, C4, rfl, hA4', hb4⟩; have hA4 := Lib.hid hA4'; clear hA4'; obtain ⟨W7, hW7⟩ : ∃ W7, w4.alloc (.cells #[.int .i64 (opT xr), .string (nameT xr), .int .i64 (numT xr), .slice A4 N4 C4] 31) = W7 := ⟨_, rfl⟩; have hB7 : Below w4.heap.size w4 W7 := (by rw [← hW7]; exact bel_alloc (Below.refl _ _) _); have HZ7 := Lib.hid (show Blk W7 w4.heap.size #[.int .i64 (opT xr), .string (nameT xr), .int .i64 (numT xr), .slice A4 N4 C4] 31 from (by rw [← hW7]; exact Blk.new w4 _ _)); have hbR7 := bel_trans hb4 hB7; obtain ⟨hl9, ho9⟩ := HOwn.out; have HO9 := Lib.hid (ho9.below hbR7); have hl9' : hs.length + 1 ≤ 1000000000 := (by omega); have hsz7 : W2.heap.size ≤ W7.heap.size := Nat.le_trans hsr hbR7.size; clear ho9))
          | (at_builtin; ((refine app_oneT rfl (.tmp 22) (.tmp 30) rfl W2.heap.size (.slice Av k cv) hs rfl HO9.out w4.heap.size (hdOf xr A4 N4 C4) rfl HZ7.out hl9' hsz7 ?_); intro gn cn w6 hown6 hgrow hat; have Hown6 := Lib.hid hown6; clear hown6)))
        have Hn := Lib.hid (HH.out.step (by omega) (by omega) hb4 hA4.out hB7 Hx.out Hown6.out hgrow rfl hat)
        have hl0 := HOwn.out.1
        rw [hl0] at Hn
        have B6 : Below W2.heap.size W2 w6 := (bel_trans hB hbR7).grown hgrow hsz7 (fun q hq => (World.ownsRow.lt hown q hq).1)
        clear hat hgrow hW7
        go_roundw
        case rel => exact ⟨_, k + 1, rfl, by omega, by go_num, B6, Hn⟩
        case measure => simp [intOf]; omega
      · obtain rfl : k = m := by omega
        obtain ⟨hs, hH⟩ := hR.out
        obtain ⟨Av, cv, rfl, _⟩ := hH.slice
        have HH := Lib.hid hH
        have cW := With_any op nm nu a k c Av k cv wr
        have hs4 := Lib.hid HW.out
        clear hH hR HK HS HR
        go_wp2_with (go_at_call 116; ((with_reducible refine cW.mono ?_); rintro e w4 ⟨rfl, hb4⟩; have R4 := TBox.b Rk hb4; obtain ⟨v0, v1, v2, v3⟩ := R4.four; obtain ⟨r0, r1, r2, r3⟩ := R4.free; have F3 := TBox.put R4 op nm nu Av k cv; obtain ⟨x0, x1, x2, x3⟩ := F3.four))
        simp [bodyPost, results, Tryz.results115, go_sem, x0, x1, x2, x3]
        have hz := hs4.out
        have hrow : RowP B W2.heap.size w4 (.slice Av k cv) lr k := ⟨hs, HH.out.below hb4⟩
        refine HF1.out w4 _ Av cv hrow (by rw [put_size]) (fun b hb => by rw [put_other _ _ _ _ _ _ _ (by omega)]) (put_below (bel_trans hBV (bel_trans hB hb4)) (by omega) _ _ _ _)
theorem RefLf_any (by_ : Int) (t : Tm) : RefLfOk by_ t := Tm.ind (RefLf_step by_) t
end Go.Proofs.YtnhemglpbhnmdaaGreat.U
