/-
  What is proved: a term and a result of a term put into blocks (taken out of TrmK, for seats without Copy).
  What is proved: what the reference's With returns: the term with other Args.
  What is proved: the document's Lift of a term: every bound number increased.
  What is proved: what the document's apply makes of a term.
  What is proved: what the document's Apply returns.
-/
import Derived.Test.YtacncbkcnhlpcaaBT
import Derived.Test.YtacncbkcnhlpcaaZLibF
import Derived.Laws.MakeOwn
import Derived.Test.YtacncbkcnhlpcaaZLibP
import Derived.Test.YtacncbkcnhlpcaaBL
import Derived.Deep.AppendLies
import Derived.Deep.RegionLaw
import Derived.Test.YtacncbkcnhlpcaaBU
namespace Go.Proofs.Ytacncbkcnhlpcaa.T
open Go.RowKit L
set_option linter.unusedVariables false
set_option linter.unusedSimpArgs false

theorem box_res (w : World) (o : Int) (s : ByteArray) (z : Int) (a : Option Addr) (n c : Nat) :
    ∃ W, (w.alloc (.cells #[.int .i64 o, .string s, .int .i64 z, .slice a n c] 33)).alloc (.cells #[.int .i64 0, .string ⟨#[]⟩, .int .i64 0, .slice none 0 0] 33) = W ∧ Below w.heap.size w W ∧ W.heap.size = w.heap.size + 2 ∧ TBox W w.heap.size o s z a n c ∧ TBox W (w.heap.size + 1) 0 ⟨#[]⟩ 0 none 0 0 := box2 w o s z a n c 0 ⟨#[]⟩ 0 none 0 0

end Go.Proofs.Ytacncbkcnhlpcaa.T
namespace Go.Proofs.Ytacncbkcnhlpcaa.T
open Go.RowKit L Go.Deep
set_option linter.unusedVariables false
set_option linter.unusedSimpArgs false

set_option maxRecDepth 100000 in
set_option maxHeartbeats 4000000 in
theorem With_any (o : Int) (s : ByteArray) (z : Int) (a : Option Addr) (n c : Nat) (A : Option Addr) (N C : Nat) (w : World) :
    Calls Try.prog 71 #[.agg #[.int .i64 o, .string s, .int .i64 z, .slice a n c], .slice A N C] w fun e w' => e = .returned (.agg #[.int .i64 o, .string s, .int .i64 z, .slice A N C]) ∧ Below w.heap.size w w' := by
  obtain ⟨W2, hW2, hB2, hs2, S2, R2⟩ := box_res w o s z a n c
  obtain ⟨u0, u1, u2, u3⟩ := S2.four
  obtain ⟨v0, v1, v2, v3⟩ := R2.four
  obtain ⟨p0, p1, p2, p3⟩ := S2.free
  obtain ⟨r0, r1, r2, r3⟩ := R2.free
  have F3 := TBox.put (TBox.far R2 (show w.heap.size ≠ w.heap.size + 1 by omega) 3 (.slice A N C)) o s z A N C
  obtain ⟨x0, x1, x2, x3⟩ := F3.four
  have hs := Lib.hid hs2
  clear hs2 F3 S2 R2
  go_enter Try.func71, Try.ntmps71
  go_wp2
  simp [bodyPost, results, Try.results71, go_sem, x0, x1, x2, x3]
  exact put_below (below_set hB2 (Nat.le_refl _) _ _) (by omega) _ _ _ _

end Go.Proofs.Ytacncbkcnhlpcaa.T
namespace Go.Proofs.Ytacncbkcnhlpcaa.U
open Go.RowKit L T Go.Deep
set_option linter.unusedVariables false
set_option linter.unusedSimpArgs false

mutual
def lfT (k : Int) : Tm → Tm
  | .mk o s z l => .mk o s (if o = 2 then IntKind.i64.wrap (z + k) else z) (lfTs k l)
def lfTs (k : Int) : List Tm → List Tm
  | [] => []
  | t :: l => lfT k t :: lfTs k l
end
theorem lfTs_map (k : Int) : ∀ l : List Tm, lfTs k l = l.map (lfT k)
  | [] => by rw [lfTs]; rfl
  | t :: l => by rw [lfTs, lfTs_map k l]; rfl
theorem lfT_mk (k : Int) (t : Tm) : lfT k t = .mk (opT t) (nameT t) (if opT t = 2 then IntKind.i64.wrap (numT t + k) else numT t) (lfTs k (argsT t)) := by cases t; rw [lfT]; rfl
theorem TBox.num {w : World} {g : Nat} {o : Int} {s : ByteArray} {z : Int} {a : Option Addr} {n c : Nat} (h : TBox w g o s z a n c) (z' : Int) : TBox (w.setCell ⟨g, 2, none⟩ (.int .i64 z')) g o s z' a n c := by
  have := Blk.set h 2 (.int .i64 z')
  unfold TBox
  simpa using this
theorem app_oneT {w : World} {ops : Array Oper} {rest : List Oper} {o : Oper} {a : Act} {Q : Exit → Act → World → Prop} (hgd : o.guard = none) (s x : Operand)
    (ho : o.op = .call { callee := .builtin .append, args := #[s, x], argTypes := #[31, 31] })
    (base : Nat) (v : Value) (Y : List Hd) (hs : a.eval s = v) (hown : OwnT w base v Y) (z : Nat) (h : Hd) (hx : a.eval x = .slice (some ⟨z, 0, none⟩) 1 1) (hz : Blk w z #[.int .i64 h.op, .string h.nm, .int .i64 h.nu, .slice h.a h.n h.c] 33)
    (hn : Y.length + 1 ≤ 1000000000) (hbase : base ≤ w.heap.size)
    (hK : ∀ g cap w', OwnT w' base (.slice (some ⟨g, 0, none⟩) (Y.length + 1) cap) (Y ++ [h]) → w.grownBy w' v.ownBlock → (v.ownBlock = some g ∨ g = w.heap.size) → wpList Try.prog ops Q rest (a.put o.dst (.slice (some ⟨g, 0, none⟩) (Y.length + 1) cap)) w') : wpList Try.prog ops Q (o :: rest) a w := by
  obtain ⟨i0, hi, hz0, hz1, hz2⟩ := info_parts termI
  refine wpList_append_lies w hgd s x 31 ho base 33 i0 _ 4 56 Try.underlying31 hi hz0 hz1 hz2 rfl (by decide) v Y.length (flatH Y) hs hown ⟨z, 0, none⟩ 1 1 (flatH [h]) hx (by rw [flat_len]; rfl) (fun j u hj => by rw [show flatH [h] = h.cells ++ [] from rfl] at hj; exact World.news_of_block hz j u (by simpa [Hd.cells] using hj)) (hd_one _) (by omega) (by unfold maxLen; omega) (by omega) hbase _ rfl fun g cap w' h1 h2 h3 _ => hK g cap w' ?_ h2 h3
  unfold OwnT
  rw [List.length_append, flat_app]
  exact h1
/-- a term made of what was there and of what is new is returned -/
def MixU (B : Nat) (r : Tm) (w : World) (e : Ending) (w' : World) : Prop := ∃ A N C, e = .returned (.agg #[.int .i64 (opT r), .string (nameT r), .int .i64 (numT r), .slice A N C]) ∧ ArP (NewB B w.heap.size w'.heap.size) w' r A N C ∧ Below w.heap.size w w'
def RefLfOk (by_ : Int) (t : Tm) : Prop := ∀ (B : Nat) (a : Option Addr) (m c : Nat) (w : World), B ≤ w.heap.size → size t ≤ 1000000 → Ar B w t a m c →
  Calls Try.prog 70 #[.agg #[.int .i64 (opT t), .string (nameT t), .int .i64 (numT t), .slice a m c], .int .i64 by_] w fun e w' => MixU B (lfT by_ t) w e w'

set_option maxRecDepth 100000 in
set_option maxHeartbeats 16000000 in
theorem RefLf_step (by_ : Int) (t : Tm) (hok : ∀ x ∈ argsT t, RefLfOk by_ x) : RefLfOk by_ t := by
  intro B a m c w hBw hsz hA
  obtain ⟨W2, hW2, hB2, hs2, S2, R2⟩ := box_res w (opT t) (nameT t) (numT t) a m c
  have hBb := hB2.mono hBw
  have hA2 := Ar.bel hBb t hA
  have hB2s : B ≤ W2.heap.size := by omega
  have hIs : IsT B W2 a m c (argsT t) := ar_isT.1 hA2
  have hm : m = (argsT t).length := hIs.1
  have hml : m ≤ 1000000 := by
    have e1 : size t = 1 + sizes (argsT t) := by cases t; rw [size]; rfl
    have e2 : ∀ l : List Tm, l.length ≤ sizes l := fun l => by
      induction l with
      | nil => exact Nat.le_refl _
      | cons t l ih => rw [List.length_cons, sizes]; have := size_pos t; omega
    have := e2 (argsT t)
    omega
  have hll : (lfTs by_ (argsT t)).length = m := by rw [lfTs_map, List.length_map]; exact hm.symm
  have HFin := Lib.hid (show ∀ (nz : Int), (if opT t = 2 then IntKind.i64.wrap (numT t + by_) else numT t) = nz → ∀ (w3 w5 : World) (A : Option Addr) (C : Nat), RowP B W2.heap.size w3 (.slice A m C) (lfTs by_ (argsT t)) m → w5.heap.size = w3.heap.size → (∀ b, b < B ∨ W2.heap.size ≤ b → w5.heap[b]? = w3.heap[b]?) → Below w.heap.size w w5 → MixU B (lfT by_ t) w (.returned (.agg #[.int .i64 (opT t), .string (nameT t), .int .i64 nz, .slice A m C])) w5 from fun nz hn w3 w5 A C g1 g2 g3 g4 => by
    rw [lfT_mk, hn]
    exact ⟨A, m, C, rfl, RowP.arP g1 hll (by omega) g2 g3, g4⟩)
  have HK := Lib.hid (show ∀ k x, (argsT t)[k]? = some x → (∀ (B : Nat) (a : Option Addr) (m c : Nat) (w : World), B ≤ w.heap.size → size x ≤ 1000000 → Ar B w x a m c → Calls Try.prog 70 #[.agg #[.int .i64 (opT x), .string (nameT x), .int .i64 (numT x), .slice a m c], .int .i64 by_] w fun e w' => MixU B (lfT by_ x) w e w') ∧ size x ≤ 1000000 ∧ (lfTs by_ (argsT t))[k]? = some (lfT by_ x) from fun k x h => ⟨hok x (List.mem_of_getElem? h), by
    have e1 : size t = 1 + sizes (argsT t) := by cases t; rw [size]; rfl
    have := alls_lt h; omega, by rw [lfTs_map, List.getElem?_map, h]; rfl⟩)
  have HT := Lib.hid hIs
  have lS := Blk.lt S2
  have lR := Blk.lt R2
  have HW := Lib.hid hs2
  obtain ⟨i0, hi0, hz0, hz1, hz2⟩ := info_parts termI
  clear hA hok hm hsz hA2 hIs hBb hll
  generalize argsT t = la at *
  generalize lfTs by_ la = lr at *
  generalize opT t = op at *
  generalize nameT t = nm at *
  generalize numT t = nu at *
  generalize MixU B (lfT by_ t) w = Post at *
  by_cases hq : op = 2
  · subst hq
    have HF1 := Lib.hid (HFin.out (IntKind.i64.wrap (nu + by_)) (if_pos rfl))
    obtain ⟨V, hV⟩ : ∃ V, W2.setCell ⟨w.heap.size, 2, none⟩ (.int .i64 (IntKind.i64.wrap (nu + by_))) = V := ⟨_, rfl⟩
    have hVs : V.heap.size = W2.heap.size := by rw [← hV]; simp [World.setCell]
    have hBV : Below w.heap.size w V := by rw [← hV]; exact below_set hB2 (Nat.le_refl _) _ _
    have hBB : Below B W2 V := by rw [← hV]; exact below_set (Below.refl _ _) hBw _ _
    obtain ⟨s0, s1, s2, s3⟩ := S2.four
    obtain ⟨f0, f1, f2, f3⟩ := S2.free
    have SV := TBox.num S2 (IntKind.i64.wrap (nu + by_))
    have RV := TBox.far R2 (show w.heap.size ≠ w.heap.size + 1 by omega) 2 (.int .i64 (IntKind.i64.wrap (nu + by_)))
    rw [hV] at SV RV
    have HTV := Lib.hid (HT.out.bel hBB)
    clear S2 R2 HFin HT
    generalize hz : IntKind.i64.wrap (nu + by_) = nz at *
    have HS := Lib.hid SV
    have HR := Lib.hid RV
    clear SV RV
    go_enter Try.func70, Try.ntmps70
    go_wp2_with fail
    go_loopw [5, 6] (fun v i wr0 => ∃ (wr : World) (k : Nat), wr = wr0 ∧ k ≤ m ∧ i = .int .i64 k ∧ Below V.heap.size V wr ∧ Hid (RowP B V.heap.size wr v lr k)) (fun v i _ => m - (intOf i).toNat)
    case atStart => exact ⟨_, 0, rfl, by omega, rfl, Below.refl _ _, Lib.hid (RowP.nil _ _ _ _)⟩
    case round =>
      obtain ⟨wr, k, rfl, hk, rfl, hB, hR⟩ := hrel
      have Sk := TBox.b HS.out hB
      have Rk := TBox.b HR.out hB
      obtain ⟨e0, e1, e2, e3⟩ := Sk.four
      by_cases hlt : k < m
      · obtain ⟨bb, o, x, A, M, Cc, rfl, hb, y0, y1, y2, y3, hx, hxA⟩ := IsT.at (HTV.out.bel (hB.mono (by omega))) hlt
        obtain ⟨hck, hsx, hxr⟩ := HK.out k x hx
        have hsr := hB.size
        have cc := fun (w' : World) (h : Below wr.heap.size wr w') => hck B A M Cc w' (by have := h.size; omega) hsx (Ar.bel (h.mono (by omega)) x hxA)
        obtain ⟨hs, hH⟩ := hR.out
        have HH := Lib.hid hH
        obtain ⟨Av, cv, rfl, hown⟩ := hH.slice
        have hhl := hH.1
        have hho : OwnT wr V.heap.size (.slice Av k cv) hs := hH.2.1
        have Hx := Lib.hid hxr
        clear hx hxr hxA HK hck hH hR HS HR
        unfold MixU at cc
        generalize lfT by_ x = xr at *
        generalize opT x = op' at *
        generalize nameT x = nm' at *
        generalize numT x = nu' at *
        have hk0 : 0 ≤ (k : Int) := by omega
        have hk1 : (k : Int) < (m : Int) := by omega
        have HOwn := Lib.hid (show hs.length = k ∧ OwnT wr V.heap.size (.slice Av k cv) hs from ⟨hhl, hho⟩)
        go_wp2_with (first
          | (go_at_call 70; ((with_reducible refine (cc _ (Below.refl _ _)).mono ?_); rintro e w4 ⟨A4, N4, C4, rfl, hA4', hb4⟩; have hA4 := Lib.hid hA4'; clear hA4'; obtain ⟨W7, hW7⟩ : ∃ W7, w4.alloc (.cells #[.int .i64 (opT xr), .string (nameT xr), .int .i64 (numT xr), .slice A4 N4 C4] 33) = W7 := ⟨_, rfl⟩; have hB7 : Below w4.heap.size w4 W7 := (by rw [← hW7]; exact bel_alloc (Below.refl _ _) _); have HZ7 := Lib.hid (show Blk W7 w4.heap.size #[.int .i64 (opT xr), .string (nameT xr), .int .i64 (numT xr), .slice A4 N4 C4] 33 from (by rw [← hW7]; exact Blk.new w4 _ _)); have hbR7 := bel_trans hb4 hB7; obtain ⟨hl9, ho9⟩ := HOwn.out; have HO9 := Lib.hid (ho9.below hbR7); have hl9' : hs.length + 1 ≤ 1000000000 := (by omega); have hsz7 : V.heap.size ≤ W7.heap.size := Nat.le_trans hsr hbR7.size; clear ho9))
          | (at_builtin; ((refine app_oneT rfl (.tmp 22) (.tmp 30) rfl V.heap.size (.slice Av k cv) hs rfl HO9.out w4.heap.size (hdOf xr A4 N4 C4) rfl HZ7.out hl9' hsz7 ?_); intro gn cn w6 hown6 hgrow hat; have Hown6 := Lib.hid hown6; clear hown6)))
        have Hn := Lib.hid (HH.out.step (by omega) (by omega) hb4 hA4.out hB7 Hx.out Hown6.out hgrow rfl hat)
        have hl0 := HOwn.out.1
        rw [hl0] at Hn
        have B6 : Below V.heap.size V w6 := (bel_trans hB hbR7).grown hgrow hsz7 (fun q hq => (World.ownsRow.lt hown q hq).1)
        clear hat hgrow hW7
        go_roundw
        case rel => exact ⟨_, k + 1, rfl, by omega, by go_num, B6, Hn⟩
        case measure => simp [intOf]; omega
      · obtain rfl : k = m := by omega
        obtain ⟨hs, hH⟩ := hR.out
        obtain ⟨Av, cv, rfl, _⟩ := hH.slice
        have HH := Lib.hid hH
        have cW := With_any 2 nm nz a k c Av k cv wr
        have hs4 := Lib.hid HW.out
        clear hH hR HK HS HR
        go_wp2_with (go_at_call 71; ((with_reducible refine cW.mono ?_); rintro e w4 ⟨rfl, hb4⟩; have R4 := TBox.b Rk hb4; obtain ⟨v0, v1, v2, v3⟩ := R4.four; obtain ⟨r0, r1, r2, r3⟩ := R4.free; have F3 := TBox.put R4 2 nm nz Av k cv; obtain ⟨x0, x1, x2, x3⟩ := F3.four))
        simp [bodyPost, results, Try.results70, go_sem, x0, x1, x2, x3]
        have hz := hs4.out
        have hrow : RowP B W2.heap.size w4 (.slice Av k cv) lr k := by rw [← hVs]; exact ⟨hs, HH.out.below hb4⟩
        refine HF1.out w4 _ Av cv hrow (by rw [put_size]) (fun b hb => by rw [put_other _ _ _ _ _ _ _ (by omega)]) (put_below (bel_trans hBV (bel_trans hB hb4)) (by omega) _ _ _ _)
  · have HF1 := Lib.hid (HFin.out nu (if_neg hq))
    have hqb : (op == 2) = false := beq_no' hq
    obtain ⟨s0, s1, s2, s3⟩ := S2.four
    have hBV := hB2
    have HTV := HT
    have SV := S2
    have RV := R2
    clear S2 R2 HFin HT
    have HS := Lib.hid SV
    have HR := Lib.hid RV
    clear SV RV
    go_enter Try.func70, Try.ntmps70
    go_wp2_with fail
    go_loopw [5, 6] (fun v i wr0 => ∃ (wr : World) (k : Nat), wr = wr0 ∧ k ≤ m ∧ i = .int .i64 k ∧ Below W2.heap.size W2 wr ∧ Hid (RowP B W2.heap.size wr v lr k)) (fun v i _ => m - (intOf i).toNat)
    case atStart => exact ⟨_, 0, rfl, by omega, rfl, Below.refl _ _, Lib.hid (RowP.nil _ _ _ _)⟩
    case round =>
      obtain ⟨wr, k, rfl, hk, rfl, hB, hR⟩ := hrel
      have Sk := TBox.b HS.out hB
      have Rk := TBox.b HR.out hB
      obtain ⟨e0, e1, e2, e3⟩ := Sk.four
      by_cases hlt : k < m
      · obtain ⟨bb, o, x, A, M, Cc, rfl, hb, y0, y1, y2, y3, hx, hxA⟩ := IsT.at (HTV.out.bel (hB.mono (by omega))) hlt
        obtain ⟨hck, hsx, hxr⟩ := HK.out k x hx
        have hsr := hB.size
        have cc := fun (w' : World) (h : Below wr.heap.size wr w') => hck B A M Cc w' (by have := h.size; omega) hsx (Ar.bel (h.mono (by omega)) x hxA)
        obtain ⟨hs, hH⟩ := hR.out
        have HH := Lib.hid hH
        obtain ⟨Av, cv, rfl, hown⟩ := hH.slice
        have hhl := hH.1
        have hho : OwnT wr W2.heap.size (.slice Av k cv) hs := hH.2.1
        have Hx := Lib.hid hxr
        clear hx hxr hxA HK hck hH hR HS HR
        unfold MixU at cc
        generalize lfT by_ x = xr at *
        generalize opT x = op' at *
        generalize nameT x = nm' at *
        generalize numT x = nu' at *
        have hk0 : 0 ≤ (k : Int) := by omega
        have hk1 : (k : Int) < (m : Int) := by omega
        have HOwn := Lib.hid (show hs.length = k ∧ OwnT wr W2.heap.size (.slice Av k cv) hs from ⟨hhl, hho⟩)
        go_wp2_with (first
          | (go_at_call 70; ((with_reducible refine (cc _ (Below.refl _ _)).mono ?_); rintro e w4 ⟨A4, N4, C4, rfl, hA4', hb4⟩; have hA4 := Lib.hid hA4'; clear hA4'; obtain ⟨W7, hW7⟩ : ∃ W7, w4.alloc (.cells #[.int .i64 (opT xr), .string (nameT xr), .int .i64 (numT xr), .slice A4 N4 C4] 33) = W7 := ⟨_, rfl⟩; have hB7 : Below w4.heap.size w4 W7 := (by rw [← hW7]; exact bel_alloc (Below.refl _ _) _); have HZ7 := Lib.hid (show Blk W7 w4.heap.size #[.int .i64 (opT xr), .string (nameT xr), .int .i64 (numT xr), .slice A4 N4 C4] 33 from (by rw [← hW7]; exact Blk.new w4 _ _)); have hbR7 := bel_trans hb4 hB7; obtain ⟨hl9, ho9⟩ := HOwn.out; have HO9 := Lib.hid (ho9.below hbR7); have hl9' : hs.length + 1 ≤ 1000000000 := (by omega); have hsz7 : W2.heap.size ≤ W7.heap.size := Nat.le_trans hsr hbR7.size; clear ho9))
          | (at_builtin; ((refine app_oneT rfl (.tmp 22) (.tmp 30) rfl W2.heap.size (.slice Av k cv) hs rfl HO9.out w4.heap.size (hdOf xr A4 N4 C4) rfl HZ7.out hl9' hsz7 ?_); intro gn cn w6 hown6 hgrow hat; have Hown6 := Lib.hid hown6; clear hown6)))
        have Hn := Lib.hid (HH.out.step (by omega) (by omega) hb4 hA4.out hB7 Hx.out Hown6.out hgrow rfl hat)
        have hl0 := HOwn.out.1
        rw [hl0] at Hn
        have B6 : Below W2.heap.size W2 w6 := (bel_trans hB hbR7).grown hgrow hsz7 (fun q hq => (World.ownsRow.lt hown q hq).1)
        clear hat hgrow hW7
        go_roundw
        case rel => exact ⟨_, k + 1, rfl, by omega, by go_num, B6, Hn⟩
        case measure => simp [intOf]; omega
      · obtain rfl : k = m := by omega
        obtain ⟨hs, hH⟩ := hR.out
        obtain ⟨Av, cv, rfl, _⟩ := hH.slice
        have HH := Lib.hid hH
        have cW := With_any op nm nu a k c Av k cv wr
        have hs4 := Lib.hid HW.out
        clear hH hR HK HS HR
        go_wp2_with (go_at_call 71; ((with_reducible refine cW.mono ?_); rintro e w4 ⟨rfl, hb4⟩; have R4 := TBox.b Rk hb4; obtain ⟨v0, v1, v2, v3⟩ := R4.four; obtain ⟨r0, r1, r2, r3⟩ := R4.free; have F3 := TBox.put R4 op nm nu Av k cv; obtain ⟨x0, x1, x2, x3⟩ := F3.four))
        simp [bodyPost, results, Try.results70, go_sem, x0, x1, x2, x3]
        have hz := hs4.out
        have hrow : RowP B W2.heap.size w4 (.slice Av k cv) lr k := ⟨hs, HH.out.below hb4⟩
        refine HF1.out w4 _ Av cv hrow (by rw [put_size]) (fun b hb => by rw [put_other _ _ _ _ _ _ _ (by omega)]) (put_below (bel_trans hBV (bel_trans hB hb4)) (by omega) _ _ _ _)
theorem RefLf_any (by_ : Int) (t : Tm) : RefLfOk by_ t := Tm.ind (RefLf_step by_) t
end Go.Proofs.Ytacncbkcnhlpcaa.U
namespace Go.Proofs.Ytacncbkcnhlpcaa.U
open Go.RowKit L T C B Go.Deep
set_option linter.unusedVariables false
set_option linter.unusedSimpArgs false

/-- what is put in place, lifted by the document -/
def getL (l : List Pr) (K : Int) (s : ByteArray) : Option Tm := (getU l s).map (lfT K)
theorem sbL_mk (f : ByteArray → Option Tm) (t : Tm) (h : opT t ≠ 1 ∨ f (nameT t) = none) : sbT f t = .mk (opT t) (nameT t) (numT t) (sbTs f (argsT t)) := by
  cases t with
  | mk o s z l =>
    rw [sbT]
    rcases h with h | h
    · rw [if_neg (show ¬ o = 1 from h)]; rfl
    · by_cases ho : o = 1
      · rw [if_pos ho, show f s = none from h]; rfl
      · rw [if_neg ho]; rfl
def RefApOk (l : List Pr) (K : Int) (t : Tm) : Prop := ∀ (B : Nat) (A : Option Addr) (m0 d : Nat) (a : Option Addr) (m c : Nat) (w : World), B ≤ w.heap.size → size t ≤ 1000000 → IsU B w A m0 d l → Ar B w t a m c →
  Calls Try.prog 37 #[.slice A m0 d, .agg #[.int .i64 (opT t), .string (nameT t), .int .i64 (numT t), .slice a m c], .int .i64 K] w fun e w' => MixU B (sbT (getL l K) t) w e w'

set_option maxRecDepth 100000 in
set_option maxHeartbeats 16000000 in
theorem RefAp_step (l : List Pr) (K : Int) (hls : ∀ p ∈ l, size p.t ≤ 1000000) (t : Tm) (hok : ∀ x ∈ argsT t, RefApOk l K x) : RefApOk l K t := by
  intro B A0 m0 d0 a m c w hBw hsz hU hA
  obtain ⟨W2, hW2, hB2, hs2, S2, R2⟩ := box_res w (opT t) (nameT t) (numT t) a m c
  have hBb := hB2.mono hBw
  have hA2 := Ar.bel hBb t hA
  have hU2 := hU.bel hBb
  have hB2s : B ≤ W2.heap.size := by omega
  have hIs : IsT B W2 a m c (argsT t) := ar_isT.1 hA2
  have hm : m = (argsT t).length := hIs.1
  have hml : m ≤ 1000000 := by
    have e1 : size t = 1 + sizes (argsT t) := by cases t; rw [size]; rfl
    have e2 : ∀ l : List Tm, l.length ≤ sizes l := fun l => by
      induction l with
      | nil => exact Nat.le_refl _
      | cons t l ih => rw [List.length_cons, sizes]; have := size_pos t; omega
    have := e2 (argsT t)
    omega
  have hll : (sbTs (getL l K) (argsT t)).length = m := by rw [sbTs_map, List.length_map]; exact hm.symm
  have HFin := Lib.hid (show (opT t ≠ 1 ∨ getL l K (nameT t) = none) → ∀ (V : World), w.heap.size ≤ V.heap.size → ∀ (w3 w5 : World) (A : Option Addr) (C : Nat), RowP B V.heap.size w3 (.slice A m C) (sbTs (getL l K) (argsT t)) m → w5.heap.size = w3.heap.size → (∀ b, b < B ∨ V.heap.size ≤ b → w5.heap[b]? = w3.heap[b]?) → Below w.heap.size w w5 → MixU B (sbT (getL l K) t) w (.returned (.agg #[.int .i64 (opT t), .string (nameT t), .int .i64 (numT t), .slice A m C])) w5 from fun hn V hV w3 w5 A C g1 g2 g3 g4 => by
    rw [sbL_mk _ t hn]
    exact ⟨A, m, C, rfl, RowP.arP g1 hll hV g2 g3, g4⟩)
  have HPut := Lib.hid (show ∀ x, opT t = 1 → getU l (nameT t) = some x → ∀ (V : World) (e : Ending) (w3 w5 : World), Below w.heap.size w V → MixU B (lfT K x) V e w3 → w5.heap.size = w3.heap.size → (∀ b, b < B ∨ V.heap.size ≤ b → w5.heap[b]? = w3.heap[b]?) → Below w.heap.size w w5 → MixU B (sbT (getL l K) t) w e w5 from fun x ho hx V e w3 w5 hV h g2 g3 g4 => by
    rw [sbT_put ho (show getL l K (nameT t) = some (lfT K x) by unfold getL; rw [hx]; rfl)]
    obtain ⟨A, N, C, e1, h1, h2⟩ := h
    have := hV.size
    exact ⟨A, N, C, e1, ArP.to (fun b hb => g3 b hb.2) (fun b hb => ⟨by rw [g2]; exact hb.1, hb.2.imp id (fun h => by omega)⟩) _ h1, g4⟩)
  have HK := Lib.hid (show ∀ k x, (argsT t)[k]? = some x → (∀ (B : Nat) (A : Option Addr) (m0 d : Nat) (a : Option Addr) (m c : Nat) (w : World), B ≤ w.heap.size → size x ≤ 1000000 → IsU B w A m0 d l → Ar B w x a m c → Calls Try.prog 37 #[.slice A m0 d, .agg #[.int .i64 (opT x), .string (nameT x), .int .i64 (numT x), .slice a m c], .int .i64 K] w fun e w' => MixU B (sbT (getL l K) x) w e w') ∧ size x ≤ 1000000 ∧ (sbTs (getL l K) (argsT t))[k]? = some (sbT (getL l K) x) from fun k x h => ⟨hok x (List.mem_of_getElem? h), by
    have e1 : size t = 1 + sizes (argsT t) := by cases t; rw [size]; rfl
    have := alls_lt h; omega, by rw [sbTs_map, List.getElem?_map, h]; rfl⟩)
  have HGet := Lib.hid (Get10_in B l (nameT t) A0 m0 d0 W2 hB2s hU2)
  have HU := Lib.hid hU2
  have HT := Lib.hid hIs
  have lS := Blk.lt S2
  have lR := Blk.lt R2
  have hmem := fun x (h : getU l (nameT t) = some x) => Nat.le_trans (Nat.le_of_eq rfl) (show size x ≤ 1000000 from by obtain ⟨p, hp, rfl⟩ := getU_mem h; exact hls p hp)
  have HLf := Lib.hid (show ∀ x, getU l (nameT t) = some x → ∀ (a : Option Addr) (m c : Nat) (w : World), B ≤ w.heap.size → Ar B w x a m c → _ from fun x h a m c w h1 h2 => RefLf_any K x B a m c w h1 (hmem x h) h2)
  have HS := Lib.hid S2
  have HR := Lib.hid R2
  obtain ⟨s0, s1, s2, s3⟩ := S2.four
  clear hA hok hm hsz hA2 hIs hBb hll S2 R2 hU hU2 hls hmem
  generalize argsT t = la at *
  generalize sbTs (getL l K) la = lr at *
  generalize opT t = op at *
  generalize nameT t = nm at *
  generalize numT t = nu at *
  generalize MixU B (sbT (getL l K) t) w = Post at *
  cases hg : getU l nm with
  | none =>
    have HF1 := Lib.hid (HFin.out (.inr (by unfold getL; rw [hg]; rfl)))
    have cG := HGet.out.mono (R' := fun e w' => e = .returned (.tuple #[.agg #[.int .i64 0, .string ⟨#[]⟩, .int .i64 0, .slice none 0 0], .bool false]) ∧ Below W2.heap.size W2 w') fun e w' h => by
      rcases h with ⟨x, a, n, c, h1, _⟩ | ⟨_, h2, h3⟩
      · rw [hg] at h1; cases h1
      · exact ⟨h2, h3⟩
    clear HGet HFin HPut HLf
    go_enter Try.func37, Try.ntmps37
    go_wp2_with (go_at_call 69; ((with_reducible refine cG.mono ?_); rintro e w3 ⟨rfl, hb3⟩; obtain ⟨W4, hW4, hB4, hs4, S4⟩ := box1 w3 0 ⟨#[]⟩ 0 none 0 0; obtain ⟨f0, f1, f2, f3⟩ := S4.free; obtain ⟨u0, u1, u2, u3⟩ := S4.four; have S5 := TBox.put S4 0 ⟨#[]⟩ 0 none 0 0; have B35 : Below w3.heap.size w3 ((((W4.setCell ⟨w3.heap.size, 0, none⟩ (.int .i64 0)).setCell ⟨w3.heap.size, 1, none⟩ (.string ⟨#[]⟩)).setCell ⟨w3.heap.size, 2, none⟩ (.int .i64 0)).setCell ⟨w3.heap.size, 3, none⟩ (.slice none 0 0)) := put_below hB4 (Nat.le_refl _) _ _ _ _; obtain ⟨V, hV⟩ : ∃ V, ((((W4.setCell ⟨w3.heap.size, 0, none⟩ (.int .i64 0)).setCell ⟨w3.heap.size, 1, none⟩ (.string ⟨#[]⟩)).setCell ⟨w3.heap.size, 2, none⟩ (.int .i64 0)).setCell ⟨w3.heap.size, 3, none⟩ (.slice none 0 0)) = V := ⟨_, rfl⟩; rw [hV] at S5 B35; have hBV2 : Below W2.heap.size W2 V := bel_trans hb3 B35; have hBV := bel_trans hB2 hBV2; have hlV := hBV2.size; have SV := TBox.b HS.out hBV2; have RV := TBox.b HR.out hBV2; obtain ⟨s0, s1, s2, s3⟩ := SV.four; skip))
    try simp only [hV]
    have HTV := Lib.hid (HT.out.bel (hBV2.mono hB2s))
    have HUV := Lib.hid (HU.out.bel (hBV2.mono hB2s))
    have HS := Lib.hid SV
    have HR := Lib.hid RV
    clear SV RV HT HU cG hV hW4 f0 f1 f2 f3 u0 u1 u2 u3 S5 S4
    go_loopw [9, 10] (fun v i wr0 => ∃ (wr : World) (k : Nat), wr = wr0 ∧ k ≤ m ∧ i = .int .i64 k ∧ Below V.heap.size V wr ∧ Hid (RowP B V.heap.size wr v lr k)) (fun v i _ => m - (intOf i).toNat)
    case atStart => exact ⟨_, 0, rfl, by omega, rfl, Below.refl _ _, Lib.hid (RowP.nil _ _ _ _)⟩
    case round =>
      obtain ⟨wr, k, rfl, hk, rfl, hB, hR⟩ := hrel
      have Sk := TBox.b HS.out hB
      have Rk := TBox.b HR.out hB
      obtain ⟨e0, e1, e2, e3⟩ := Sk.four
      by_cases hlt : k < m
      · obtain ⟨bb, o, x, A, M, Cc, rfl, hb, y0, y1, y2, y3, hx, hxA⟩ := IsT.at (HTV.out.bel (hB.mono (by omega))) hlt
        obtain ⟨hck, hsx, hxr⟩ := HK.out k x hx
        have hsr := hB.size
        have hUr := HUV.out.bel (hB.mono (by omega))
        have cc := fun (w' : World) (h : Below wr.heap.size wr w') => hck B A0 m0 d0 A M Cc w' (by have := h.size; omega) hsx (hUr.bel (h.mono (by omega))) (Ar.bel (h.mono (by omega)) x hxA)
        obtain ⟨hs, hH⟩ := hR.out
        have HH := Lib.hid hH
        obtain ⟨Av, cv, rfl, hown⟩ := hH.slice
        have hhl := hH.1
        have hho : OwnT wr V.heap.size (.slice Av k cv) hs := hH.2.1
        have Hx := Lib.hid hxr
        clear hx hxr hxA HK hck hH hR HS HR hUr
        unfold MixU at cc
        generalize sbT (getL l K) x = xr at *
        generalize opT x = op' at *
        generalize nameT x = nm' at *
        generalize numT x = nu' at *
        have hk0 : 0 ≤ (k : Int) := by omega
        have hk1 : (k : Int) < (m : Int) := by omega
        have HOwn := Lib.hid (show hs.length = k ∧ OwnT wr V.heap.size (.slice Av k cv) hs from ⟨hhl, hho⟩)
        go_wp2_with (first
          | (go_at_call 37; ((with_reducible refine (cc _ (Below.refl _ _)).mono ?_); rintro e w4 ⟨A4, N4, C4, rfl, hA4', hb4⟩; have hA4 := Lib.hid hA4'; clear hA4'; obtain ⟨W7, hW7⟩ : ∃ W7, w4.alloc (.cells #[.int .i64 (opT xr), .string (nameT xr), .int .i64 (numT xr), .slice A4 N4 C4] 33) = W7 := ⟨_, rfl⟩; have hB7 : Below w4.heap.size w4 W7 := (by rw [← hW7]; exact bel_alloc (Below.refl _ _) _); have HZ7 := Lib.hid (show Blk W7 w4.heap.size #[.int .i64 (opT xr), .string (nameT xr), .int .i64 (numT xr), .slice A4 N4 C4] 33 from (by rw [← hW7]; exact Blk.new w4 _ _)); have hbR7 := bel_trans hb4 hB7; obtain ⟨hl9, ho9⟩ := HOwn.out; have HO9 := Lib.hid (ho9.below hbR7); have hl9' : hs.length + 1 ≤ 1000000000 := (by omega); have hsz7 : V.heap.size ≤ W7.heap.size := Nat.le_trans hsr hbR7.size; clear ho9))
          | (at_builtin; ((refine app_oneT rfl (.tmp 34) (.tmp 43) rfl V.heap.size (.slice Av k cv) hs rfl HO9.out w4.heap.size (hdOf xr A4 N4 C4) rfl HZ7.out hl9' hsz7 ?_); intro gn cn w6 hown6 hgrow hat; have Hown6 := Lib.hid hown6; clear hown6)))
        have Hn := Lib.hid (HH.out.step (by omega) (by omega) hb4 hA4.out hB7 Hx.out Hown6.out hgrow rfl hat)
        have hl0 := HOwn.out.1
        rw [hl0] at Hn
        have B6 : Below V.heap.size V w6 := (bel_trans hB hbR7).grown hgrow hsz7 (fun q hq => (World.ownsRow.lt hown q hq).1)
        clear hat hgrow hW7
        go_roundw
        case rel => exact ⟨_, k + 1, rfl, by omega, by go_num, B6, Hn⟩
        case measure => simp [intOf]; omega
      · obtain rfl : k = m := by omega
        obtain ⟨hs, hH⟩ := hR.out
        obtain ⟨Av, cv, rfl, _⟩ := hH.slice
        have HH := Lib.hid hH
        have cW := With_any op nm nu a k c Av k cv wr
        clear hH hR HK HS HR
        go_wp2_with (go_at_call 71; ((with_reducible refine cW.mono ?_); rintro e w4 ⟨rfl, hb4⟩; have R4 := TBox.b Rk hb4; obtain ⟨v0, v1, v2, v3⟩ := R4.four; obtain ⟨r0, r1, r2, r3⟩ := R4.free; have F3 := TBox.put R4 op nm nu Av k cv; obtain ⟨x0, x1, x2, x3⟩ := F3.four))
        simp [bodyPost, results, Try.results37, go_sem, x0, x1, x2, x3]
        have hwV := hBV.size
        refine HF1.out V hwV w4 _ Av cv ⟨hs, HH.out.below hb4⟩ (by rw [put_size]) (fun b hb => by rw [put_other _ _ _ _ _ _ _ (by omega)]) (put_below (bel_trans hBV (bel_trans hB hb4)) (by omega) _ _ _ _)
  | some x0 =>
    have cG := HGet.out.mono (R' := fun e w' => ∃ a n c, e = .returned (.tuple #[.agg #[.int .i64 (opT x0), .string (nameT x0), .int .i64 (numT x0), .slice a n c], .bool true]) ∧ Ar B w' x0 a n c ∧ Below W2.heap.size W2 w') fun e w' h => by
      rcases h with ⟨x, a, n, c, h1, h2, h3, h4⟩ | ⟨h1, _⟩
      · rw [hg] at h1; injection h1 with h1; subst h1; exact ⟨a, n, c, h2, h3, h4⟩
      · rw [hg] at h1; cases h1
    by_cases hq : op = 1
    · have HP1 := Lib.hid (HPut.out x0 hq hg)
      have cL := HLf.out x0 hg
      subst hq
      clear HGet HFin HPut HLf HK HT
      generalize opT x0 = opx at *
      generalize nameT x0 = nmx at *
      generalize numT x0 = nux at *
      generalize hlf : lfT K x0 = xr at *
      clear hlf
      go_enter Try.func37, Try.ntmps37
      go_wp2_with (first
        | (go_at_call 69; ((with_reducible refine cG.mono ?_); rintro e w3 ⟨A3, n3, c3, rfl, hA3, hb3⟩; obtain ⟨W4, hW4, hB4, hs4, S4⟩ := box1 w3 0 ⟨#[]⟩ 0 none 0 0; obtain ⟨f0, f1, f2, f3⟩ := S4.free; obtain ⟨u0, u1, u2, u3⟩ := S4.four; have S5 := TBox.put S4 opx nmx nux A3 n3 c3; have B35 : Below w3.heap.size w3 ((((W4.setCell ⟨w3.heap.size, 0, none⟩ (.int .i64 opx)).setCell ⟨w3.heap.size, 1, none⟩ (.string nmx)).setCell ⟨w3.heap.size, 2, none⟩ (.int .i64 nux)).setCell ⟨w3.heap.size, 3, none⟩ (.slice A3 n3 c3)) := put_below hB4 (Nat.le_refl _) _ _ _ _; obtain ⟨V, hV⟩ : ∃ V, ((((W4.setCell ⟨w3.heap.size, 0, none⟩ (.int .i64 opx)).setCell ⟨w3.heap.size, 1, none⟩ (.string nmx)).setCell ⟨w3.heap.size, 2, none⟩ (.int .i64 nux)).setCell ⟨w3.heap.size, 3, none⟩ (.slice A3 n3 c3)) = V := ⟨_, rfl⟩; rw [hV] at S5 B35; have hBV2 : Below W2.heap.size W2 V := bel_trans hb3 B35; have hBV := bel_trans hB2 hBV2; have hlV := hBV2.size; have SV := TBox.b HS.out hBV2; have RV := TBox.b HR.out hBV2; obtain ⟨s0, s1, s2, s3⟩ := SV.four; obtain ⟨q0, q1, q2, q3⟩ := S5.four))
        | (go_at_call 70; ((with_reducible refine (cL A3 n3 c3 V (by omega) (Ar.bel (B35.mono (by have := hb3.size; omega)) x0 hA3)).mono ?_); rintro e w8 h8; have HM := Lib.hid h8; obtain ⟨A8, N8, C8, rfl, -, hb8⟩ := h8; have R8 := TBox.b RV hb8; obtain ⟨v0, v1, v2, v3⟩ := R8.four; obtain ⟨r0, r1, r2, r3⟩ := R8.free; have F3 := TBox.put R8 (opT xr) (nameT xr) (numT xr) A8 N8 C8; obtain ⟨x0', x1, x2, x3⟩ := F3.four)))
      simp [bodyPost, results, Try.results37, go_sem, x0', x1, x2, x3]
      refine HP1.out V _ w8 _ hBV HM.out (by rw [put_size]) (fun b hb => by rw [put_other _ _ _ _ _ _ _ (by omega)]) (put_below (bel_trans hBV hb8) (by omega) _ _ _ _)
    · have HF1 := Lib.hid (HFin.out (.inl hq))
      have hqb : (op == 1) = false := beq_no' hq
      clear HGet HFin HPut HLf
      generalize opT x0 = opx at *
      generalize nameT x0 = nmx at *
      generalize numT x0 = nux at *
      go_enter Try.func37, Try.ntmps37
      go_wp2_with (go_at_call 69; ((with_reducible refine cG.mono ?_); rintro e w3 ⟨A3, n3, c3, rfl, hA3, hb3⟩; obtain ⟨W4, hW4, hB4, hs4, S4⟩ := box1 w3 0 ⟨#[]⟩ 0 none 0 0; obtain ⟨f0, f1, f2, f3⟩ := S4.free; obtain ⟨u0, u1, u2, u3⟩ := S4.four; have S5 := TBox.put S4 opx nmx nux A3 n3 c3; have B35 : Below w3.heap.size w3 ((((W4.setCell ⟨w3.heap.size, 0, none⟩ (.int .i64 opx)).setCell ⟨w3.heap.size, 1, none⟩ (.string nmx)).setCell ⟨w3.heap.size, 2, none⟩ (.int .i64 nux)).setCell ⟨w3.heap.size, 3, none⟩ (.slice A3 n3 c3)) := put_below hB4 (Nat.le_refl _) _ _ _ _; obtain ⟨V, hV⟩ : ∃ V, ((((W4.setCell ⟨w3.heap.size, 0, none⟩ (.int .i64 opx)).setCell ⟨w3.heap.size, 1, none⟩ (.string nmx)).setCell ⟨w3.heap.size, 2, none⟩ (.int .i64 nux)).setCell ⟨w3.heap.size, 3, none⟩ (.slice A3 n3 c3)) = V := ⟨_, rfl⟩; rw [hV] at S5 B35; have hBV2 : Below W2.heap.size W2 V := bel_trans hb3 B35; have hBV := bel_trans hB2 hBV2; have hlV := hBV2.size; have SV := TBox.b HS.out hBV2; have RV := TBox.b HR.out hBV2; obtain ⟨s0, s1, s2, s3⟩ := SV.four; obtain ⟨q0, q1, q2, q3⟩ := S5.four))
      try simp only [hV]
      have HTV := Lib.hid (HT.out.bel (hBV2.mono hB2s))
      have HUV := Lib.hid (HU.out.bel (hBV2.mono hB2s))
      have HS := Lib.hid SV
      have HR := Lib.hid RV
      clear SV RV q0 q1 q2 q3 hA3 HT HU cG hV hW4 f0 f1 f2 f3 u0 u1 u2 u3 S5 S4
      go_loopw [9, 10] (fun v i wr0 => ∃ (wr : World) (k : Nat), wr = wr0 ∧ k ≤ m ∧ i = .int .i64 k ∧ Below V.heap.size V wr ∧ Hid (RowP B V.heap.size wr v lr k)) (fun v i _ => m - (intOf i).toNat)
      case atStart => exact ⟨_, 0, rfl, by omega, rfl, Below.refl _ _, Lib.hid (RowP.nil _ _ _ _)⟩
      case round =>
        obtain ⟨wr, k, rfl, hk, rfl, hB, hR⟩ := hrel
        have Sk := TBox.b HS.out hB
        have Rk := TBox.b HR.out hB
        obtain ⟨e0, e1, e2, e3⟩ := Sk.four
        by_cases hlt : k < m
        · obtain ⟨bb, o, x, A, M, Cc, rfl, hb, y0, y1, y2, y3, hx, hxA⟩ := IsT.at (HTV.out.bel (hB.mono (by omega))) hlt
          obtain ⟨hck, hsx, hxr⟩ := HK.out k x hx
          have hsr := hB.size
          have hUr := HUV.out.bel (hB.mono (by omega))
          have cc := fun (w' : World) (h : Below wr.heap.size wr w') => hck B A0 m0 d0 A M Cc w' (by have := h.size; omega) hsx (hUr.bel (h.mono (by omega))) (Ar.bel (h.mono (by omega)) x hxA)
          obtain ⟨hs, hH⟩ := hR.out
          have HH := Lib.hid hH
          obtain ⟨Av, cv, rfl, hown⟩ := hH.slice
          have hhl := hH.1
          have hho : OwnT wr V.heap.size (.slice Av k cv) hs := hH.2.1
          have Hx := Lib.hid hxr
          clear hx hxr hxA HK hck hH hR HS HR hUr
          unfold MixU at cc
          generalize sbT (getL l K) x = xr at *
          generalize opT x = op' at *
          generalize nameT x = nm' at *
          generalize numT x = nu' at *
          have hk0 : 0 ≤ (k : Int) := by omega
          have hk1 : (k : Int) < (m : Int) := by omega
          have HOwn := Lib.hid (show hs.length = k ∧ OwnT wr V.heap.size (.slice Av k cv) hs from ⟨hhl, hho⟩)
          go_wp2_with (first
            | (go_at_call 37; ((with_reducible refine (cc _ (Below.refl _ _)).mono ?_); rintro e w4 ⟨A4, N4, C4, rfl, hA4', hb4⟩; have hA4 := Lib.hid hA4'; clear hA4'; obtain ⟨W7, hW7⟩ : ∃ W7, w4.alloc (.cells #[.int .i64 (opT xr), .string (nameT xr), .int .i64 (numT xr), .slice A4 N4 C4] 33) = W7 := ⟨_, rfl⟩; have hB7 : Below w4.heap.size w4 W7 := (by rw [← hW7]; exact bel_alloc (Below.refl _ _) _); have HZ7 := Lib.hid (show Blk W7 w4.heap.size #[.int .i64 (opT xr), .string (nameT xr), .int .i64 (numT xr), .slice A4 N4 C4] 33 from (by rw [← hW7]; exact Blk.new w4 _ _)); have hbR7 := bel_trans hb4 hB7; obtain ⟨hl9, ho9⟩ := HOwn.out; have HO9 := Lib.hid (ho9.below hbR7); have hl9' : hs.length + 1 ≤ 1000000000 := (by omega); have hsz7 : V.heap.size ≤ W7.heap.size := Nat.le_trans hsr hbR7.size; clear ho9))
            | (at_builtin; ((refine app_oneT rfl (.tmp 34) (.tmp 43) rfl V.heap.size (.slice Av k cv) hs rfl HO9.out w4.heap.size (hdOf xr A4 N4 C4) rfl HZ7.out hl9' hsz7 ?_); intro gn cn w6 hown6 hgrow hat; have Hown6 := Lib.hid hown6; clear hown6)))
          have Hn := Lib.hid (HH.out.step (by omega) (by omega) hb4 hA4.out hB7 Hx.out Hown6.out hgrow rfl hat)
          have hl0 := HOwn.out.1
          rw [hl0] at Hn
          have B6 : Below V.heap.size V w6 := (bel_trans hB hbR7).grown hgrow hsz7 (fun q hq => (World.ownsRow.lt hown q hq).1)
          clear hat hgrow hW7
          go_roundw
          case rel => exact ⟨_, k + 1, rfl, by omega, by go_num, B6, Hn⟩
          case measure => simp [intOf]; omega
        · obtain rfl : k = m := by omega
          obtain ⟨hs, hH⟩ := hR.out
          obtain ⟨Av, cv, rfl, _⟩ := hH.slice
          have HH := Lib.hid hH
          have cW := With_any op nm nu a k c Av k cv wr
          clear hH hR HK HS HR
          go_wp2_with (go_at_call 71; ((with_reducible refine cW.mono ?_); rintro e w4 ⟨rfl, hb4⟩; have R4 := TBox.b Rk hb4; obtain ⟨v0, v1, v2, v3⟩ := R4.four; obtain ⟨r0, r1, r2, r3⟩ := R4.free; have F3 := TBox.put R4 op nm nu Av k cv; obtain ⟨x0, x1, x2, x3⟩ := F3.four))
          simp [bodyPost, results, Try.results37, go_sem, x0, x1, x2, x3]
          have hwV := hBV.size
          refine HF1.out V hwV w4 _ Av cv ⟨hs, HH.out.below hb4⟩ (by rw [put_size]) (fun b hb => by rw [put_other _ _ _ _ _ _ _ (by omega)]) (put_below (bel_trans hBV (bel_trans hB hb4)) (by omega) _ _ _ _)
theorem RefAp_any (l : List Pr) (K : Int) (hls : ∀ p ∈ l, size p.t ≤ 1000000) (t : Tm) : RefApOk l K t := Tm.ind (RefAp_step l K hls) t
end Go.Proofs.Ytacncbkcnhlpcaa.U
namespace Go.Proofs.Ytacncbkcnhlpcaa.U
open Go.RowKit L T C B Go.Deep
set_option linter.unusedVariables false
set_option linter.unusedSimpArgs false

/-- a term is returned, wherever it lies -/
def AnyT (r : Tm) (w : World) (e : Ending) (w' : World) : Prop := ∃ A5 N5 C5, e = .returned (.agg #[.int .i64 (opT r), .string (nameT r), .int .i64 (numT r), .slice A5 N5 C5]) ∧ ArW w' r A5 N5 C5 ∧ Below w.heap.size w w'
set_option maxRecDepth 100000 in
set_option maxHeartbeats 8000000 in
theorem Apply10_any (l : List Pr) (hls : ∀ p ∈ l, size p.t ≤ 1000000) (t : Tm) (hsz : size t ≤ 1000000) (A0 : Option Addr) (m0 d0 : Nat) (a : Option Addr) (n c : Nat) (w : World) (hU : UsW w A0 m0 d0 l) (hA : ArW w t a n c) :
    Calls Try.prog 21 #[.slice A0 m0 d0, .agg #[.int .i64 (opT t), .string (nameT t), .int .i64 (numT t), .slice a n c]] w fun e w' => AnyT (sbT (getL l 0) t) w e w' := by
  obtain ⟨W2, hW2, hB2, hs2, S2, R2⟩ := box_res w (opT t) (nameT t) (numT t) a n c
  have cA := RefAp_any l 0 hls t w.heap.size A0 m0 d0 a n c W2 (by omega) hsz (IsU.bel hU hB2) (Ar.bel hB2 t hA)
  have HR := Lib.hid R2
  have HFin := Lib.hid (show ∀ (r : Tm) (e : Ending) (w3 : World), MixU w.heap.size r W2 e w3 → ∀ v0 v1 v2 v3, AnyT r w e ((((w3.setCell ⟨w.heap.size + 1, 0, none⟩ v0).setCell ⟨w.heap.size + 1, 1, none⟩ v1).setCell ⟨w.heap.size + 1, 2, none⟩ v2).setCell ⟨w.heap.size + 1, 3, none⟩ v3) from fun r e w3 h v0 v1 v2 v3 => by
    obtain ⟨A, N, C, e1, h1, h2⟩ := h
    exact ⟨A, N, C, e1, ArP.ar (fun b hb => by rw [put_size]; exact hb.1) r (ArP.to (Q := NewB w.heap.size W2.heap.size w3.heap.size) (fun b hb => put_other w3 _ b _ _ _ _ (by rcases hb.2 with h | h <;> omega)) (fun b hb => hb) r h1), put_below (bel_trans hB2 h2) (by omega) _ _ _ _⟩)
  obtain ⟨s0, s1, s2, s3⟩ := S2.four
  clear hA S2 R2 hU hls
  generalize sbT (getL l 0) t = r at *
  generalize opT t = op at *
  generalize nameT t = nm at *
  generalize numT t = nu at *
  go_enter Try.func21, Try.ntmps21
  go_wp2_with (go_at_call 37; ((with_reducible refine cA.mono ?_); rintro e w3 h3; have HF := Lib.hid (HFin.out r e w3 h3); obtain ⟨A, N, C, rfl, hA3, hb3⟩ := h3; have R3 := TBox.b HR.out hb3; obtain ⟨r0, r1, r2, r3⟩ := R3.free; obtain ⟨t0, t1, t2, t3⟩ := R3.four; have F5 := TBox.put R3 (opT r) (nameT r) (numT r) A N C; obtain ⟨x0, x1, x2, x3⟩ := F5.four; clear hA3 R3 F5))
  simp [bodyPost, results, Try.results21, go_sem, x0, x1, x2, x3]
  exact HF.out _ _ _ _
end Go.Proofs.Ytacncbkcnhlpcaa.U
