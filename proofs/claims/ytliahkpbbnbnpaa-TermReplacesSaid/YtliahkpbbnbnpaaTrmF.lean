/-
  What is proved: the reference's With and Replace.
-/
import Derived.Test.YtliahkpbbnbnpaaTrmU
import Derived.Test.YtliahkpbbnbnpaaLibP
import Derived.Test.YtliahkpbbnbnpaaLibTe
import Derived.Deep.AppendLies
import Derived.Deep.RegionLaw
namespace Go.Proofs.Ytliahkpbbnbnpaa.T
open Go.RowKit L Go.Deep
set_option linter.unusedVariables false
set_option linter.unusedSimpArgs false

set_option maxRecDepth 100000 in
set_option maxHeartbeats 4000000 in
theorem With_any (o : Int) (s : ByteArray) (z : Int) (a : Option Addr) (n c : Nat) (A : Option Addr) (N C : Nat) (w : World) :
    Calls Try.prog 57 #[.agg #[.int .i64 o, .string s, .int .i64 z, .slice a n c], .slice A N C] w fun e w' => e = .returned (.agg #[.int .i64 o, .string s, .int .i64 z, .slice A N C]) ∧ Below w.heap.size w w' := by
  obtain ⟨W2, hW2, hB2, hs2, S2, R2⟩ := box_res w o s z a n c
  obtain ⟨u0, u1, u2, u3⟩ := S2.four
  obtain ⟨v0, v1, v2, v3⟩ := R2.four
  obtain ⟨p0, p1, p2, p3⟩ := S2.free
  obtain ⟨r0, r1, r2, r3⟩ := R2.free
  have F3 := TBox.put (TBox.far R2 (show w.heap.size ≠ w.heap.size + 1 by omega) 3 (.slice A N C)) o s z A N C
  obtain ⟨x0, x1, x2, x3⟩ := F3.four
  have hs := Lib.hid hs2
  clear hs2 F3 S2 R2
  go_enter Try.func57, Try.ntmps57
  go_wp2
  simp [bodyPost, results, Try.results57, go_sem, x0, x1, x2, x3]
  exact put_below (below_set hB2 (Nat.le_refl _) _ _) (by omega) _ _ _ _

/-- a term made of what was there and of what is new is returned -/
def MixT (B : Nat) (r : Tm) (w : World) (e : Ending) (w' : World) : Prop := ∃ A N C, e = .returned (.agg #[.int .i64 (opT r), .string (nameT r), .int .i64 (numT r), .slice A N C]) ∧ ArP (NewB B w.heap.size w'.heap.size) w' r A N C ∧ Below w.heap.size w w'
def RefRepOk (f u t : Tm) : Prop := ∀ (B : Nat) (a : Option Addr) (m c : Nat) (a1 : Option Addr) (n1 c1 : Nat) (a2 : Option Addr) (n2 c2 : Nat) (w : World), B ≤ w.heap.size → size t ≤ 1000000 → Ar B w t a m c → Ar B w f a1 n1 c1 → Ar B w u a2 n2 c2 →
  Calls Try.prog 33 #[.agg #[.int .i64 (opT t), .string (nameT t), .int .i64 (numT t), .slice a m c], .agg #[.int .i64 (opT f), .string (nameT f), .int .i64 (numT f), .slice a1 n1 c1], .agg #[.int .i64 (opT u), .string (nameT u), .int .i64 (numT u), .slice a2 n2 c2]] w fun e w' => MixT B (rep f u t) w e w'

set_option maxRecDepth 100000 in
set_option maxHeartbeats 16000000 in
theorem RefRep_step (f u t : Tm) (hok : ∀ x ∈ argsT t, RefRepOk f u x) : RefRepOk f u t := by
  intro B a m c a1 n1 c1 a2 n2 c2 w hBw hsz hA h1 h2
  obtain ⟨W2, hW2, hB2, hs2, S2, P2, Q2, R2⟩ := box4 w (opT t) (nameT t) (numT t) a m c (opT f) (nameT f) (numT f) a1 n1 c1 (opT u) (nameT u) (numT u) a2 n2 c2
  have hBb := hB2.mono hBw
  have hA2 := Ar.bel hBb t hA
  have hf2 := Ar.bel hBb f h1
  have hu2 := Ar.bel hBb u h2
  have hB2s : B ≤ W2.heap.size := by omega
  have cT := Term_any t f a m c a1 n1 c1 W2 (Ar.mono hB2s t hA2) (Ar.mono hB2s f hf2)
  have hrep : (eqT t f = true → rep f u t = u) ∧ (eqT t f = false → rep f u t = .mk (opT t) (nameT t) (numT t) (reps f u (argsT t))) := by
    cases t with
    | mk o s z l => rw [rep]; constructor <;> intro h <;> rw [h] <;> rfl
  have hIs : IsT B W2 a m c (argsT t) := ar_isT.1 hA2
  have hm : m = (argsT t).length := hIs.1
  have hml : m ≤ 1000000 := by
    have e1 : size t = 1 + sizes (argsT t) := by cases t; rw [size]; rfl
    have e2 : ∀ l : List Tm, l.length ≤ sizes l := fun l => by
      induction l with
      | nil => exact Nat.le_refl _
      | cons t l ih => rw [List.length_cons, sizes]; have := size_pos t; omega
    have := e2 (argsT t)
    omega
  have hll : (reps f u (argsT t)).length = m := by rw [reps_map, List.length_map]; exact hm.symm
  have HFin := Lib.hid (show eqT t f = false → ∀ (w3 w5 : World) (A : Option Addr) (C : Nat), RowP B W2.heap.size w3 (.slice A m C) (reps f u (argsT t)) m → w5.heap.size = w3.heap.size → (∀ b, b < B ∨ W2.heap.size ≤ b → w5.heap[b]? = w3.heap[b]?) → Below w.heap.size w w5 → MixT B (rep f u t) w (.returned (.agg #[.int .i64 (opT t), .string (nameT t), .int .i64 (numT t), .slice A m C])) w5 from fun he w3 w5 A C g1 g2 g3 g4 => by
    rw [hrep.2 he]
    exact ⟨A, m, C, rfl, RowP.arP g1 hll (by omega) g2 g3, g4⟩)
  have HFin2 := Lib.hid (show eqT t f = true → ∀ (w3 w5 : World), Below W2.heap.size W2 w3 → w5.heap.size = w3.heap.size → (∀ b, b < B → w5.heap[b]? = w3.heap[b]?) → Below w.heap.size w w5 → MixT B (rep f u t) w (.returned (.agg #[.int .i64 (opT u), .string (nameT u), .int .i64 (numT u), .slice a2 n2 c2])) w5 from fun he w3 w5 g1 g2 g3 g4 => by
    rw [hrep.1 he]
    have hs1 := g1.size
    refine ⟨a2, n2, c2, rfl, ArP.to (P := fun b => b < B) (fun b hb => ?_) (fun b hb => ⟨by omega, .inl hb⟩) u (Ar.p u hu2), g4⟩
    exact (g3 b hb).trans (g1.block b (by omega)))
  have HK := Lib.hid (show ∀ k x, (argsT t)[k]? = some x → (∀ (B : Nat) (a : Option Addr) (m c : Nat) (a1 : Option Addr) (n1 c1 : Nat) (a2 : Option Addr) (n2 c2 : Nat) (w : World), B ≤ w.heap.size → size x ≤ 1000000 → Ar B w x a m c → Ar B w f a1 n1 c1 → Ar B w u a2 n2 c2 →   Calls Try.prog 33 #[.agg #[.int .i64 (opT x), .string (nameT x), .int .i64 (numT x), .slice a m c], .agg #[.int .i64 (opT f), .string (nameT f), .int .i64 (numT f), .slice a1 n1 c1], .agg #[.int .i64 (opT u), .string (nameT u), .int .i64 (numT u), .slice a2 n2 c2]] w fun e w' => MixT B (rep f u x) w e w') ∧ size x ≤ 1000000 ∧ (reps f u (argsT t))[k]? = some (rep f u x) from fun k x h => ⟨hok x (List.mem_of_getElem? h), by
    have e1 : size t = 1 + sizes (argsT t) := by cases t; rw [size]; rfl
    have := alls_lt h; omega, by rw [reps_map, List.getElem?_map, h]; rfl⟩)
  have HT := Lib.hid hIs
  have lS := Blk.lt S2
  have lR := Blk.lt R2
  obtain ⟨s0, s1, s2, s3⟩ := S2.four
  obtain ⟨p0, p1, p2, p3⟩ := P2.four
  have HS := Lib.hid S2
  have HR := Lib.hid R2
  have HQ := Lib.hid Q2
  have HP := Lib.hid P2
  have Hf := Lib.hid hf2
  have Hu := Lib.hid hu2
  have HW := Lib.hid hs2
  obtain ⟨i0, hi0, hz0, hz1, hz2⟩ := info_parts termI
  clear hA hok S2 R2 hm hsz P2 Q2 h1 h2 hrep hA2 hf2 hu2 hIs hBb hll hs2
  generalize argsT t = la at *
  generalize reps f u la = lr at *
  generalize opT t = op at *
  generalize nameT t = nm at *
  generalize numT t = nu at *
  generalize opT f = op1 at *
  generalize nameT f = nm1 at *
  generalize numT f = nu1 at *
  generalize opT u = op2 at *
  generalize nameT u = nm2 at *
  generalize numT u = nu2 at *
  generalize MixT B (rep f u t) w = Post at *
  cases hq : eqT t f with
  | true =>
    have HF1 := Lib.hid (HFin2.out hq)
    rw [hq] at cT
    clear HFin HFin2 hq HK
    go_enter Try.func33, Try.ntmps33
    go_wp2_with (go_at_call 22; ((with_reducible refine cT.mono ?_); rintro e w3 ⟨rfl, hb3⟩; have R3 := TBox.b HR.out hb3; obtain ⟨u0, u1, u2, u3⟩ := (TBox.b HQ.out hb3).four; obtain ⟨v0, v1, v2, v3⟩ := R3.four; obtain ⟨r0, r1, r2, r3⟩ := R3.free; have F3 := TBox.put R3 op2 nm2 nu2 a2 n2 c2; obtain ⟨x0, x1, x2, x3⟩ := F3.four))
    simp [bodyPost, results, Try.results33, go_sem, x0, x1, x2, x3]
    refine HF1.out w3 _ hb3 (by rw [put_size]) (fun b hb => by rw [put_other _ _ _ _ _ _ _ (by omega)]) (put_below (bel_trans hB2 hb3) (by omega) _ _ _ _)
  | false =>
    have HF1 := Lib.hid (HFin.out hq)
    rw [hq] at cT
    clear HFin HFin2 hq
    go_enter Try.func33, Try.ntmps33
    go_wp2_with (go_at_call 22; ((with_reducible refine cT.mono ?_); rintro e w3 ⟨rfl, hb3⟩))
    go_loopw [7, 8] (fun v i wr0 => ∃ (wr : World) (k : Nat), wr = wr0 ∧ k ≤ m ∧ i = .int .i64 k ∧ Below W2.heap.size W2 wr ∧ Hid (RowP B W2.heap.size wr v lr k)) (fun v i _ => m - (intOf i).toNat)
    case atStart => exact ⟨_, 0, rfl, by omega, rfl, hb3, Lib.hid (RowP.nil _ _ _ _)⟩
    case round =>
      obtain ⟨wr, k, rfl, hk, rfl, hB, hR⟩ := hrel
      have Sk := TBox.b HS.out hB
      have Rk := TBox.b HR.out hB
      obtain ⟨e0, e1, e2, e3⟩ := Sk.four
      by_cases hlt : k < m
      · obtain ⟨bb, o, x, A, M, Cc, rfl, hb, y0, y1, y2, y3, hx, hxA⟩ := IsT.at (HT.out.bel (hB.mono hB2s)) hlt
        obtain ⟨hck, hsx, hxr⟩ := HK.out k x hx
        have hBr := hB.mono hB2s
        have hsr := hB.size
        have cc := fun (w' : World) (h : Below wr.heap.size wr w') => hck B A M Cc a1 n1 c1 a2 n2 c2 w' (by have := h.size; omega) hsx (Ar.bel (h.mono (by omega)) x hxA) (Ar.bel (h.mono (by omega)) f (Ar.bel hBr f Hf.out)) (Ar.bel (h.mono (by omega)) u (Ar.bel hBr u Hu.out))
        obtain ⟨hs, hH⟩ := hR.out
        have HH := Lib.hid hH
        obtain ⟨Av, cv, rfl, hown⟩ := hH.slice
        have Hmore := Lib.hid (fun (w6 : World) (g cap : Nat) (A : Option Addr) (N C : Nat) => RowH.more (w := w6) (lo := W2.heap.size) (g := g) (cap := cap) hH.1 (rep f u x) A N C)
        obtain ⟨pf0, pf1, pf2, pf3⟩ := (TBox.b HP.out hB).four
        obtain ⟨qf0, qf1, qf2, qf3⟩ := (TBox.b HQ.out hB).four
        have Hx := Lib.hid hxr
        have hBd : Below wr.heap.size wr wr.drew := (Below.refl _ _).drew
        clear hx hxr hxA HK hck hH hR HS HR HQ HP
        generalize flatH hs = XS at *
        unfold MixT at cc
        generalize rep f u x = xr at *
        generalize opT xr = opx at *
        generalize nameT xr = nmx at *
        generalize numT xr = nux at *
        generalize opT x = op' at *
        generalize nameT x = nm' at *
        generalize numT x = nu' at *
        have hk0 : 0 ≤ (k : Int) := by omega
        have hk1 : (k : Int) < (m : Int) := by omega
        have hone : ∀ (A : Option Addr) (N C : Nat), ∀ u ∈ [Value.int .i64 opx, .string nmx, .int .i64 nux, .slice A N C], u.oneCell' = true := fun A N C u hu => by simp at hu; rcases hu with rfl | rfl | rfl | rfl <;> rfl
        go_wp2_with fail
        go_region_law (first | ((refine step_append_lies _ (by rfl) _ _ _ (by rfl) W2.heap.size 24 i0 _ 4 56 Try.underlying22 hi0 hz0 hz1 hz2 rfl (by omega) (.slice Av k cv) k XS (by rfl) (ownsRow_below hown (bel_trans hb4 (bel_alloc (Below.refl _ _) _))) ⟨w4.heap.size, 0, none⟩ 1 1 [.int .i64 opx, .string nmx, .int .i64 nux, .slice A4 N4 C4] (by rfl) (by rfl) (World.news_of_block (cs := #[.int .i64 opx, .string nmx, .int .i64 nux, .slice A4 N4 C4]) (t := 24) (fr := (0, 0)) (heap_alloc_new w4 _)) (hone A4 N4 C4) (by omega) (by unfold maxLen; omega) (by omega) (by simp; omega) (w4.heap.size + 1) (by simp) ?_); intro gn cn w6 hown6 hgrow hat hlt6; have Hown6 := Lib.hid hown6; clear hown6) | (go_simp; go_at_call 33; ((with_reducible refine (cc _ (by assumption)).mono ?_); rintro e w4 ⟨A4, N4, C4, rfl, hA4', hb4'⟩; have hb4 : Below wr.heap.size wr w4 := bel_trans hBd hb4'; have hA4 := Lib.hid hA4'; clear hA4'; have hq4 := hb4.size)))
        all_goals
          have Hn := Lib.hid (HH.out.step (by omega) (by omega) hb4 hA4.out (bel_alloc (Below.refl _ _) _) Hx.out (Hmore.out w6 gn cn A4 N4 C4 Hown6.out) hgrow rfl (hat.imp id (fun e => by rw [World.size_alloc]; exact e)))
          have hB5 : Below W2.heap.size W2 (w4.alloc (.cells #[.int .i64 opx, .string nmx, .int .i64 nux, .slice A4 N4 C4] 24)) := bel_alloc (bel_trans hB hb4) _
          have B6 : Below W2.heap.size W2 w6 := hB5.grown hgrow hB5.size (fun q hq => (World.ownsRow.lt hown q hq).1)
          clear hat hgrow hlt6
          go_wp2
          go_roundw
          case rel => exact ⟨_, k + 1, rfl, by omega, by go_num, B6, Hn⟩
          case measure => simp [intOf]; omega
      · obtain rfl : k = m := by omega
        obtain ⟨hs, hH⟩ := hR.out
        obtain ⟨Av, cv, rfl, _⟩ := hH.slice
        have HH := Lib.hid hH
        have cW := With_any op nm nu a k c Av k cv wr
        have hs4 := Lib.hid HW.out
        clear hH hR HK HS HR HQ HP
        go_wp2_with (go_at_call 57; ((with_reducible refine cW.mono ?_); rintro e w4 ⟨rfl, hb4⟩; have R4 := TBox.b Rk hb4; obtain ⟨v0, v1, v2, v3⟩ := R4.four; obtain ⟨r0, r1, r2, r3⟩ := R4.free; have F3 := TBox.put R4 op nm nu Av k cv; obtain ⟨x0, x1, x2, x3⟩ := F3.four))
        simp [bodyPost, results, Try.results33, go_sem, x0, x1, x2, x3]
        have hz := hs4.out
        refine HF1.out w4 _ Av cv ⟨hs, (HH.out.below hb4)⟩ (by rw [put_size]) (fun b hb => by rw [put_other _ _ _ _ _ _ _ (by omega)]) (put_below (bel_trans hB2 (bel_trans hB hb4)) (by omega) _ _ _ _)
theorem RefRep_any (f u t : Tm) : RefRepOk f u t := Tm.ind (RefRep_step f u) t
end Go.Proofs.Ytliahkpbbnbnpaa.T
