/-
  What is proved: the reference's All: the parts of a term in preorder, in a row of the call's own.
-/
import Derived.Test.YtelepojpnkoelaaZTrmWt
import Derived.Test.YtelepojpnkoelaaZTrmK
import Derived.Test.YtelepojpnkoelaaZLibP
import Derived.Test.YtelepojpnkoelaaZLibTe
import Derived.Deep.AppendLies
import Derived.Deep.RegionLaw
import Derived.Test.YtelepojpnkoelaaZTrmL
namespace Go.Proofs.Ytelepojpnkoelaa.T
open Go.RowKit L Go.Deep
set_option linter.unusedVariables false
set_option linter.unusedSimpArgs false

def RefAllOk (t : Tm) : Prop := ∀ (B : Nat) (w0 : World) (a : Option Addr) (m c : Nat) (w : World), size t ≤ 1000000 → B ≤ w.heap.size → Below B w0 w → Ar B w0 t a m c →
  Calls Try.prog 21 #[.agg #[.int .i64 (opT t), .string (nameT t), .int .i64 (numT t), .slice a m c]] w fun e w' => ∃ g cap, e = .returned (.slice (some ⟨g, 0, none⟩) (size t) cap) ∧ (∃ pts : List (Pt B w0), pts.map Pt.t = all t ∧ OwnT w' w.heap.size (.slice (some ⟨g, 0, none⟩) (size t) cap) (pts.map hdP)) ∧ Below w.heap.size w w'
/-- the row so far -/
def AllP {B : Nat} {w0 : World} (lo : Nat) (wr : World) (v : Value) (n : Nat) (ts : List Tm) : Prop := ∃ pts : List (Pt B w0), pts.map Pt.t = ts ∧ n = ts.length ∧ OwnT wr lo v (pts.map hdP)
theorem pts_len {B : Nat} {w0 : World} {pts : List (Pt B w0)} {ts : List Tm} (h : pts.map Pt.t = ts) : (pts.map hdP).length = ts.length := by rw [← h]; simp
theorem ownT_one (w : World) (h : Hd) : OwnT (w.alloc (.cells #[.int .i64 h.op, .string h.nm, .int .i64 h.nu, .slice h.a h.n h.c] 24)) w.heap.size (.slice (some ⟨w.heap.size, 0, none⟩) 1 1) [h] :=
  ⟨by rw [flat_len], .inr ⟨w.heap.size, 1, _, rfl, Nat.le_refl _, heap_alloc_new w _, Nat.le_refl _, by unfold maxLen; omega, by simp, by simp [flatH, Hd.cells]⟩⟩
theorem sizes_take {l : List Tm} {k : Nat} {x : Tm} (h : l[k]? = some x) : sizes (l.take k) + size x ≤ sizes l := by
  have h1 : sizes (l.take (k + 1)) = sizes (l.take k) + size x := by
    rw [← alls_len, take_t h, alls_app, List.length_append, alls_len]
    simp [alls, all_len]
  have h2 : sizes l = sizes (l.take (k + 1)) + sizes (l.drop (k + 1)) := by
    rw [← alls_len, ← alls_len, ← alls_len, ← List.length_append, ← alls_app, List.take_append_drop]
  omega

set_option maxRecDepth 100000 in
set_option maxHeartbeats 16000000 in
theorem RefAll_step (t : Tm) (hok : ∀ x ∈ argsT t, RefAllOk x) : RefAllOk t := by
  intro B w0 a m c w hsz hBw hB0 hA
  obtain ⟨W2, hW2, hB2, hs2, S2⟩ := box1 w (opT t) (nameT t) (numT t) a m c
  obtain ⟨W3, hW3, hB3, hs3, X3⟩ := box1 W2 (opT t) (nameT t) (numT t) a m c
  have O3 : OwnT W3 W2.heap.size (.slice (some ⟨W2.heap.size, 0, none⟩) 1 1) [hdOf t a m c] := by rw [← hW3]; exact ownT_one W2 (hdOf t a m c)
  have hB23 := bel_trans hB2 hB3
  have hIs : IsT B w a m c (argsT t) := (ar_isT.1 hA).bel hB0
  have hm : m = (argsT t).length := hIs.1
  have e1 : size t = 1 + sizes (argsT t) := by cases t; rw [size]; rfl
  have hml : m ≤ 1000000 := by
    have e2 : ∀ l : List Tm, l.length ≤ sizes l := fun l => by
      induction l with
      | nil => exact Nat.le_refl _
      | cons t l ih => rw [List.length_cons, sizes]; have := size_pos t; omega
    have := e2 (argsT t)
    omega
  have P0 : AllP (B := B) (w0 := w0) W2.heap.size W3 (.slice (some ⟨W2.heap.size, 0, none⟩) 1 1) 1 (t :: alls ((argsT t).take 0)) := ⟨[⟨t, a, m, c, hA⟩], rfl, rfl, O3⟩
  have HFin := Lib.hid (show ∀ (wr : World) (g : Nat) (k cap : Nat), AllP (B := B) (w0 := w0) W2.heap.size wr (.slice (some ⟨g, 0, none⟩) k cap) k (t :: alls ((argsT t).take m)) → k = size t ∧ (∃ pts : List (Pt B w0), pts.map Pt.t = all t ∧ OwnT wr w.heap.size (.slice (some ⟨g, 0, none⟩) (size t) cap) (pts.map hdP)) from fun wr g k cap ⟨pts, h1, h2, h3⟩ => by
    rw [List.take_of_length_le (by omega), ← all_mk] at h1 h2
    rw [all_len] at h2
    subst h2
    exact ⟨rfl, pts, h1, h3.base (by omega)⟩)
  have HK := Lib.hid (show ∀ k x, (argsT t)[k]? = some x → (∀ (B : Nat) (w0 : World) (a : Option Addr) (m c : Nat) (w : World), size x ≤ 1000000 → B ≤ w.heap.size → Below B w0 w → Ar B w0 x a m c →
    Calls Try.prog 21 #[.agg #[.int .i64 (opT x), .string (nameT x), .int .i64 (numT x), .slice a m c]] w fun e w' => ∃ g cap, e = .returned (.slice (some ⟨g, 0, none⟩) (size x) cap) ∧ (∃ pts : List (Pt B w0), pts.map Pt.t = all x ∧ OwnT w' w.heap.size (.slice (some ⟨g, 0, none⟩) (size x) cap) (pts.map hdP)) ∧ Below w.heap.size w w') ∧ sizes ((argsT t).take k) + size x ≤ 999999 ∧ 0 < size x ∧ alls ((argsT t).take (k + 1)) = alls ((argsT t).take k) ++ all x from fun k x h => ⟨hok x (List.mem_of_getElem? h), by have := sizes_take h; omega, size_pos x, by rw [take_t h, alls_app]; simp [alls]⟩)
  have hTl : ∀ k, (t :: alls ((argsT t).take k)).length = 1 + sizes ((argsT t).take k) := fun k => by rw [List.length_cons, alls_len]; omega
  have HTl := Lib.hid hTl
  have HT := Lib.hid (ar_isT.1 hA)
  have HB0 := Lib.hid hB0
  have lS := Blk.lt S2
  obtain ⟨s0, s1, s2, s3⟩ := S2.four
  obtain ⟨u0, u1, u2, u3⟩ := (TBox.b S2 hB3).four
  have HS := Lib.hid S2
  have HP0 := Lib.hid P0
  have Hs2 := Lib.hid hs2
  have h23 := hB3.size
  obtain ⟨i0, hi0, hz0, hz1, hz2⟩ := info_parts termI
  clear hA hok S2 hm hIs hs2 hs3 e1 hTl P0 O3 X3 hB0
  generalize argsT t = la at *
  generalize opT t = op at *
  generalize nameT t = nm at *
  generalize numT t = nu at *
  generalize size t = st at *
  go_enter Try.func21, Try.ntmps21
  go_wp2_with fail
  go_loopw [3, 4] (fun v i wr0 => ∃ (wr : World) (k g n cap : Nat), wr = wr0 ∧ k ≤ m ∧ v = .slice (some ⟨g, 0, none⟩) n cap ∧ i = .int .i64 k ∧ Below W2.heap.size W2 wr ∧ Hid (AllP (B := B) (w0 := w0) W2.heap.size wr (.slice (some ⟨g, 0, none⟩) n cap) n (t :: alls (la.take k)))) (fun v i _ => m - (intOf i).toNat)
  case atStart => exact ⟨_, 0, _, _, _, rfl, by omega, rfl, rfl, hB3, HP0⟩
  case round =>
    obtain ⟨wr, k, g, n, cap, rfl, hk, rfl, rfl, hB, hR⟩ := hrel
    have hBw3 : Below w.heap.size w wr := bel_trans hB2 hB
    have hBr0 : Below B w0 wr := HB0.out.trans (hBw3.mono hBw)
    obtain ⟨u0, u1, u2, u3⟩ := (TBox.b HS.out hB).four
    have hsr := hB.size
    by_cases hlt : k < m
    · obtain ⟨bb, o, x, A, M, Cc, rfl, hb, y0', y1', y2', y3', hx, hxA⟩ := IsT.at HT.out hlt
      have y0 := (hBr0.cell (p := ⟨bb, _, none⟩) hb).trans y0'
      have y1 := (hBr0.cell (p := ⟨bb, _, none⟩) hb).trans y1'
      have y2 := (hBr0.cell (p := ⟨bb, _, none⟩) hb).trans y2'
      have y3 := (hBr0.cell (p := ⟨bb, _, none⟩) hb).trans y3'
      obtain ⟨hck, hsx, hpx, hal⟩ := HK.out k x hx
      have cc := fun (w' : World) (h : Below wr.heap.size wr w') => hck B w0 A M Cc w' (by omega) (by have := h.size; omega) (hBr0.trans (h.mono (by omega))) hxA
      obtain ⟨pts, hp1, hp2, hp3⟩ := hR.out
      have hn : n ≤ 1 + sizes (la.take k) := by rw [hp2, HTl.out k]; exact Nat.le_refl _
      have hown : wr.ownsRow W2.heap.size 24 4 (.slice (some ⟨g, 0, none⟩) n cap) n (flatH (pts.map hdP)) := by
        have h := hp3
        unfold OwnT at h
        rw [pts_len hp1, ← hp2] at h
        exact h
      have hBd : Below wr.heap.size wr wr.drew := (Below.refl _ _).drew
      have Hstep := Lib.hid (fun (w6 : World) (gn cn : Nat) (pts4 : List (Pt B w0)) (h4 : pts4.map Pt.t = all x) (h : w6.ownsRow W2.heap.size 24 4 (.slice (some ⟨gn, 0, none⟩) (n + size x) cn) (n + size x) (flatH (pts.map hdP) ++ flatH (pts4.map hdP))) => (show AllP (B := B) (w0 := w0) W2.heap.size w6 (.slice (some ⟨gn, 0, none⟩) (n + size x) cn) (n + size x) (t :: alls (la.take (k + 1))) from ⟨pts ++ pts4, by rw [List.map_append, hp1, h4, hal]; rfl, by rw [hal, ← List.cons_append, List.length_append, all_len, ← hp2], by
        have e : ((pts ++ pts4).map hdP).length = n + size x := by rw [pts_len (ts := (t :: alls (la.take k)) ++ all x) (by rw [List.map_append, hp1, h4]), List.length_append, all_len, ← hp2]
        unfold OwnT
        rw [e, List.map_append, flat_app]
        exact h⟩))
      have Hlen := Lib.hid (fun (pts4 : List (Pt B w0)) (h4 : pts4.map Pt.t = all x) => (show (flatH (pts4.map hdP)).length = size x * 4 by rw [flat_len, pts_len h4, all_len]))
      clear hx hxA HK hck hR HS hp1 hp2 hp3 hal y0' y1' y2' y3'
      generalize flatH (pts.map hdP) = XS at *
      generalize size x = sx at *
      generalize opT x = op' at *
      generalize nameT x = nm' at *
      generalize numT x = nu' at *
      have hk0 : 0 ≤ (k : Int) := by omega
      have hk1 : (k : Int) < (m : Int) := by omega
      go_wp2_with (first
        | (go_at_call 21; ((with_reducible refine (cc _ (Below.refl _ _)).mono ?_); rintro e w4 ⟨g4, cap4, rfl, ⟨pts4, hp4, ho4⟩, hb4'⟩; have hb4 : Below wr.heap.size wr w4 := hb4'; have HP4 := Lib.hid hp4; have hq4 := hb4.size; have hl4 := Hlen.out pts4 hp4; have hnews4 : ∀ j u, (flatH (pts4.map hdP))[j]? = some u → w4.cell? ((⟨g4, 0, none⟩ : Addr).add j) = some u := World.ownsRow.cells (g := g4) ho4 rfl; have hone4 := hd_one (pts4.map hdP); have Hst4 := Lib.hid (fun (w6 : World) (gn cn : Nat) => Hstep.out w6 gn cn pts4 hp4); clear hp4 ho4; generalize flatH (pts4.map hdP) = NW at *; have hown4 := ownsRow_below hown hb4))
        | (at_builtin; ((refine wpList_append_lies _ rfl (.tmp 14) (.tmp 20) _ rfl W2.heap.size 24 i0 _ 4 56 Try.underlying22 hi0 hz0 hz1 hz2 rfl (by omega) (.slice (some ⟨g, 0, none⟩) n cap) n XS rfl hown4 ⟨g4, 0, none⟩ sx cap4 NW rfl hl4 hnews4 hone4 (by omega) (by unfold maxLen; omega) (by omega) (by omega) w4.heap.size rfl ?_); intro gn cn w6 hown6 hgrow hat hlt6; have Hn := Lib.hid (Hst4.out w6 gn cn hown6); have hB4 : Below W2.heap.size W2 w4 := bel_trans hB hb4; have B6 : Below W2.heap.size W2 w6 := hB4.grown hgrow hB4.size (fun q hq => (World.ownsRow.lt hown4 q hq).1); clear hown6 hat hgrow hlt6)))
      go_roundw
      case rel => exact ⟨_, k + 1, gn, n + sx, cn, rfl, by omega, by go_num, by go_num, B6, Hn⟩
      case measure => simp [intOf]; omega
    · obtain rfl : k = m := by omega
      have Hf := Lib.hid (HFin.out wr g n cap hR.out)
      clear hR HK
      go_wp2
      go_ret
      obtain ⟨rfl, h2⟩ := Hf.out
      exact ⟨g, cap, rfl, h2, bel_trans hB2 hB⟩
theorem RefAll_any (t : Tm) : RefAllOk t := Tm.ind RefAll_step t
end Go.Proofs.Ytelepojpnkoelaa.T
