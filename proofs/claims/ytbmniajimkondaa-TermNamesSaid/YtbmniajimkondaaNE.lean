/-
  What is proved: the reference's All: the parts of a term in preorder, in a row of the call's own.
  What is proved: the reference's Put: a name more among rising ones.
  What is proved: the reference's Names: the names of the variables of any terms, put in one by one.
-/
import Derived.Test.YtbmniajimkondaaNB
import Derived.Test.YtbmniajimkondaaNA
import Derived.Deep.AppendLies
import Derived.Deep.RegionLaw
import Derived.Test.YtbmniajimkondaaNC
namespace Go.Proofs.Ytbmniajimkondaa.T
open Go.RowKit L Go.Deep
set_option linter.unusedVariables false
set_option linter.unusedSimpArgs false

def RefAllOk (t : Tm) : Prop := ∀ (B : Nat) (w0 : World) (a : Option Addr) (m c : Nat) (w : World), size t ≤ 1000000 → B ≤ w.heap.size → Below B w0 w → Ar B w0 t a m c →
  Calls Try.prog 63 #[.agg #[.int .i64 (opT t), .string (nameT t), .int .i64 (numT t), .slice a m c]] w fun e w' => ∃ g cap, e = .returned (.slice (some ⟨g, 0, none⟩) (size t) cap) ∧ (∃ pts : List (Pt B w0), pts.map Pt.t = all t ∧ OwnT w' w.heap.size (.slice (some ⟨g, 0, none⟩) (size t) cap) (pts.map hdP)) ∧ Below w.heap.size w w'
/-- the row so far -/
def AllP {B : Nat} {w0 : World} (lo : Nat) (wr : World) (v : Value) (n : Nat) (ts : List Tm) : Prop := ∃ pts : List (Pt B w0), pts.map Pt.t = ts ∧ n = ts.length ∧ OwnT wr lo v (pts.map hdP)
theorem pts_len {B : Nat} {w0 : World} {pts : List (Pt B w0)} {ts : List Tm} (h : pts.map Pt.t = ts) : (pts.map hdP).length = ts.length := by rw [← h]; simp
theorem ownT_one (w : World) (h : Hd) : OwnT (w.alloc (.cells #[.int .i64 h.op, .string h.nm, .int .i64 h.nu, .slice h.a h.n h.c] 24)) w.heap.size (.slice (some ⟨w.heap.size, 0, none⟩) 1 1) [h] :=
  ⟨by rw [flat_len], .inr ⟨w.heap.size, 1, _, rfl, Nat.le_refl _, heap_alloc_new w _, Nat.le_refl _, by unfold maxLen; omega, by simp, by simp [flatH, Hd.cells]⟩⟩
theorem sizes_take {l : List Tm} {k : Nat} {x : Tm} (h : l[k]? = some x) : sizes (l.take k) + size x ≤ sizes l := by
  have h1 : sizes (l.take (k + 1)) = sizes (l.take k) + size x := by
    rw [← alls_len, take_t h, alls_app, List.length_append, alls_len]
    simp [alls, all_len]
  have h2 : sizes l = sizes (l.take (k + 1)) + sizes (l.drop (k + 1)) := by
    rw [← alls_len, ← alls_len, ← alls_len, ← List.length_append, ← alls_app, List.take_append_drop]
  omega

set_option maxRecDepth 100000 in
set_option maxHeartbeats 16000000 in
theorem RefAll_step (t : Tm) (hok : ∀ x ∈ argsT t, RefAllOk x) : RefAllOk t := by
  intro B w0 a m c w hsz hBw hB0 hA
  obtain ⟨W2, hW2, hB2, hs2, S2⟩ := box1 w (opT t) (nameT t) (numT t) a m c
  obtain ⟨W3, hW3, hB3, hs3, X3⟩ := box1 W2 (opT t) (nameT t) (numT t) a m c
  have O3 : OwnT W3 W2.heap.size (.slice (some ⟨W2.heap.size, 0, none⟩) 1 1) [hdOf t a m c] := by rw [← hW3]; exact ownT_one W2 (hdOf t a m c)
  have hB23 := bel_trans hB2 hB3
  have hIs : IsT B w a m c (argsT t) := (ar_isT.1 hA).bel hB0
  have hm : m = (argsT t).length := hIs.1
  have e1 : size t = 1 + sizes (argsT t) := by cases t; rw [size]; rfl
  have hml : m ≤ 1000000 := by
    have e2 : ∀ l : List Tm, l.length ≤ sizes l := fun l => by
      induction l with
      | nil => exact Nat.le_refl _
      | cons t l ih => rw [List.length_cons, sizes]; have := size_pos t; omega
    have := e2 (argsT t)
    omega
  have P0 : AllP (B := B) (w0 := w0) W2.heap.size W3 (.slice (some ⟨W2.heap.size, 0, none⟩) 1 1) 1 (t :: alls ((argsT t).take 0)) := ⟨[⟨t, a, m, c, hA⟩], rfl, rfl, O3⟩
  have HFin := Lib.hid (show ∀ (wr : World) (g : Nat) (k cap : Nat), AllP (B := B) (w0 := w0) W2.heap.size wr (.slice (some ⟨g, 0, none⟩) k cap) k (t :: alls ((argsT t).take m)) → k = size t ∧ (∃ pts : List (Pt B w0), pts.map Pt.t = all t ∧ OwnT wr w.heap.size (.slice (some ⟨g, 0, none⟩) (size t) cap) (pts.map hdP)) from fun wr g k cap ⟨pts, h1, h2, h3⟩ => by
    rw [List.take_of_length_le (by omega), ← all_mk] at h1 h2
    rw [all_len] at h2
    subst h2
    exact ⟨rfl, pts, h1, h3.base (by omega)⟩)
  have HK := Lib.hid (show ∀ k x, (argsT t)[k]? = some x → (∀ (B : Nat) (w0 : World) (a : Option Addr) (m c : Nat) (w : World), size x ≤ 1000000 → B ≤ w.heap.size → Below B w0 w → Ar B w0 x a m c →
    Calls Try.prog 63 #[.agg #[.int .i64 (opT x), .string (nameT x), .int .i64 (numT x), .slice a m c]] w fun e w' => ∃ g cap, e = .returned (.slice (some ⟨g, 0, none⟩) (size x) cap) ∧ (∃ pts : List (Pt B w0), pts.map Pt.t = all x ∧ OwnT w' w.heap.size (.slice (some ⟨g, 0, none⟩) (size x) cap) (pts.map hdP)) ∧ Below w.heap.size w w') ∧ sizes ((argsT t).take k) + size x ≤ 999999 ∧ 0 < size x ∧ alls ((argsT t).take (k + 1)) = alls ((argsT t).take k) ++ all x from fun k x h => ⟨hok x (List.mem_of_getElem? h), by have := sizes_take h; omega, size_pos x, by rw [take_t h, alls_app]; simp [alls]⟩)
  have hTl : ∀ k, (t :: alls ((argsT t).take k)).length = 1 + sizes ((argsT t).take k) := fun k => by rw [List.length_cons, alls_len]; omega
  have HTl := Lib.hid hTl
  have HT := Lib.hid (ar_isT.1 hA)
  have HB0 := Lib.hid hB0
  have lS := Blk.lt S2
  obtain ⟨s0, s1, s2, s3⟩ := S2.four
  obtain ⟨u0, u1, u2, u3⟩ := (TBox.b S2 hB3).four
  have HS := Lib.hid S2
  have HP0 := Lib.hid P0
  have Hs2 := Lib.hid hs2
  have h23 := hB3.size
  obtain ⟨i0, hi0, hz0, hz1, hz2⟩ := info_parts termI
  clear hA hok S2 hm hIs hs2 hs3 e1 hTl P0 O3 X3 hB0
  generalize argsT t = la at *
  generalize opT t = op at *
  generalize nameT t = nm at *
  generalize numT t = nu at *
  generalize size t = st at *
  go_enter Try.func63, Try.ntmps63
  go_wp2_with fail
  go_loopw [3, 4] (fun v i wr0 => ∃ (wr : World) (k g n cap : Nat), wr = wr0 ∧ k ≤ m ∧ v = .slice (some ⟨g, 0, none⟩) n cap ∧ i = .int .i64 k ∧ Below W2.heap.size W2 wr ∧ Hid (AllP (B := B) (w0 := w0) W2.heap.size wr (.slice (some ⟨g, 0, none⟩) n cap) n (t :: alls (la.take k)))) (fun v i _ => m - (intOf i).toNat)
  case atStart => exact ⟨_, 0, _, _, _, rfl, by omega, rfl, rfl, hB3, HP0⟩
  case round =>
    obtain ⟨wr, k, g, n, cap, rfl, hk, rfl, rfl, hB, hR⟩ := hrel
    have hBw3 : Below w.heap.size w wr := bel_trans hB2 hB
    have hBr0 : Below B w0 wr := HB0.out.trans (hBw3.mono hBw)
    obtain ⟨u0, u1, u2, u3⟩ := (TBox.b HS.out hB).four
    have hsr := hB.size
    by_cases hlt : k < m
    · obtain ⟨bb, o, x, A, M, Cc, rfl, hb, y0', y1', y2', y3', hx, hxA⟩ := IsT.at HT.out hlt
      have y0 := (hBr0.cell (p := ⟨bb, _, none⟩) hb).trans y0'
      have y1 := (hBr0.cell (p := ⟨bb, _, none⟩) hb).trans y1'
      have y2 := (hBr0.cell (p := ⟨bb, _, none⟩) hb).trans y2'
      have y3 := (hBr0.cell (p := ⟨bb, _, none⟩) hb).trans y3'
      obtain ⟨hck, hsx, hpx, hal⟩ := HK.out k x hx
      have cc := fun (w' : World) (h : Below wr.heap.size wr w') => hck B w0 A M Cc w' (by omega) (by have := h.size; omega) (hBr0.trans (h.mono (by omega))) hxA
      obtain ⟨pts, hp1, hp2, hp3⟩ := hR.out
      have hn : n ≤ 1 + sizes (la.take k) := by rw [hp2, HTl.out k]; exact Nat.le_refl _
      have hown : wr.ownsRow W2.heap.size 24 4 (.slice (some ⟨g, 0, none⟩) n cap) n (flatH (pts.map hdP)) := by
        have h := hp3
        unfold OwnT at h
        rw [pts_len hp1, ← hp2] at h
        exact h
      have hBd : Below wr.heap.size wr wr.drew := (Below.refl _ _).drew
      have Hstep := Lib.hid (fun (w6 : World) (gn cn : Nat) (pts4 : List (Pt B w0)) (h4 : pts4.map Pt.t = all x) (h : w6.ownsRow W2.heap.size 24 4 (.slice (some ⟨gn, 0, none⟩) (n + size x) cn) (n + size x) (flatH (pts.map hdP) ++ flatH (pts4.map hdP))) => (show AllP (B := B) (w0 := w0) W2.heap.size w6 (.slice (some ⟨gn, 0, none⟩) (n + size x) cn) (n + size x) (t :: alls (la.take (k + 1))) from ⟨pts ++ pts4, by rw [List.map_append, hp1, h4, hal]; rfl, by rw [hal, ← List.cons_append, List.length_append, all_len, ← hp2], by
        have e : ((pts ++ pts4).map hdP).length = n + size x := by rw [pts_len (ts := (t :: alls (la.take k)) ++ all x) (by rw [List.map_append, hp1, h4]), List.length_append, all_len, ← hp2]
        unfold OwnT
        rw [e, List.map_append, flat_app]
        exact h⟩))
      have Hlen := Lib.hid (fun (pts4 : List (Pt B w0)) (h4 : pts4.map Pt.t = all x) => (show (flatH (pts4.map hdP)).length = size x * 4 by rw [flat_len, pts_len h4, all_len]))
      clear hx hxA HK hck hR HS hp1 hp2 hp3 hal y0' y1' y2' y3'
      generalize flatH (pts.map hdP) = XS at *
      generalize size x = sx at *
      generalize opT x = op' at *
      generalize nameT x = nm' at *
      generalize numT x = nu' at *
      have hk0 : 0 ≤ (k : Int) := by omega
      have hk1 : (k : Int) < (m : Int) := by omega
      go_wp2_with (first
        | (go_at_call 63; ((with_reducible refine (cc _ (Below.refl _ _)).mono ?_); rintro e w4 ⟨g4, cap4, rfl, ⟨pts4, hp4, ho4⟩, hb4'⟩; have hb4 : Below wr.heap.size wr w4 := hb4'; have HP4 := Lib.hid hp4; have hq4 := hb4.size; have hl4 := Hlen.out pts4 hp4; have hnews4 : ∀ j u, (flatH (pts4.map hdP))[j]? = some u → w4.cell? ((⟨g4, 0, none⟩ : Addr).add j) = some u := World.ownsRow.cells (g := g4) ho4 rfl; have hone4 := hd_one (pts4.map hdP); have Hst4 := Lib.hid (fun (w6 : World) (gn cn : Nat) => Hstep.out w6 gn cn pts4 hp4); clear hp4 ho4; generalize flatH (pts4.map hdP) = NW at *; have hown4 := ownsRow_below hown hb4))
        | (at_builtin; ((refine wpList_append_lies _ rfl (.tmp 14) (.tmp 20) _ rfl W2.heap.size 24 i0 _ 4 56 Try.underlying22 hi0 hz0 hz1 hz2 rfl (by omega) (.slice (some ⟨g, 0, none⟩) n cap) n XS rfl hown4 ⟨g4, 0, none⟩ sx cap4 NW rfl hl4 hnews4 hone4 (by omega) (by unfold maxLen; omega) (by omega) (by omega) w4.heap.size rfl ?_); intro gn cn w6 hown6 hgrow hat hlt6; have Hn := Lib.hid (Hst4.out w6 gn cn hown6); have hB4 : Below W2.heap.size W2 w4 := bel_trans hB hb4; have B6 : Below W2.heap.size W2 w6 := hB4.grown hgrow hB4.size (fun q hq => (World.ownsRow.lt hown4 q hq).1); clear hown6 hat hgrow hlt6)))
      go_roundw
      case rel => exact ⟨_, k + 1, gn, n + sx, cn, rfl, by omega, by go_num, by go_num, B6, Hn⟩
      case measure => simp [intOf]; omega
    · obtain rfl : k = m := by omega
      have Hf := Lib.hid (HFin.out wr g n cap hR.out)
      clear hR HK
      go_wp2
      go_ret
      obtain ⟨rfl, h2⟩ := Hf.out
      exact ⟨g, cap, rfl, h2, bel_trans hB2 hB⟩
theorem RefAll_any (t : Tm) : RefAllOk t := Tm.ind RefAll_step t
end Go.Proofs.Ytbmniajimkondaa.T
namespace Go.Proofs.Ytbmniajimkondaa.T
open Go.RowKit L
set_option linter.unusedVariables false
set_option linter.unusedSimpArgs false

def putF (s : ByteArray) : Bool → List ByteArray → List ByteArray
  | d, [] => if d then [] else [s]
  | d, x :: l => (if cmpN x s ≠ -1 ∧ d = false then [s] else []) ++ ((if cmpN x s = 0 then [] else [x]) ++ putF s (d || decide (cmpN x s ≠ -1)) l)
theorem putF_true (s : ByteArray) : ∀ l : List ByteArray, (∀ x ∈ l, cmpN x s ≠ 0) → putF s true l = l
  | [], _ => by rw [putF]; rfl
  | x :: l, h => by
    rw [putF, if_neg (by simp), if_neg (h x (by simp)), Bool.true_or, putF_true s l (fun y hy => h y (by simp [hy]))]; rfl
theorem putF_put (s : ByteArray) : ∀ l : List ByteArray, Up l → putF s false l = putN s l
  | [], _ => by rw [putF, putN]; rfl
  | x :: l, h => by
    have h2 := List.pairwise_cons.1 h
    have ha := linN.anti x s
    rw [putF, putN, Bool.false_or]
    rcases linN.rng x s with hc | hc | hc
    · rw [hc] at ha ⊢
      rw [if_neg (by simp), if_neg (by simp), if_neg (by omega), if_neg (fun e => by rw [e, (linN.eq x x).2 rfl] at hc; omega)]
      rw [show decide ((-1 : Int) ≠ -1) = false from rfl, putF_put s l h2.2]; rfl
    · have e : x = s := (linN.eq x s).1 hc
      subst e
      rw [hc] at ha ⊢
      rw [if_pos ⟨by omega, rfl⟩, if_pos rfl, if_neg (by omega), if_pos rfl, show decide ((0 : Int) ≠ -1) = true from rfl, putF_true x l (fun y hy e => by
        have := h2.1 y hy
        have := linN.anti x y
        omega)]; rfl
    · rw [hc] at ha ⊢
      rw [if_pos ⟨by omega, rfl⟩, if_neg (by omega), if_pos (by omega), show decide ((1 : Int) ≠ -1) = true from rfl, putF_true s l (fun y hy e => by
        have e2 : y = s := (linN.eq y s).1 e
        have := h2.1 y hy
        rw [e2] at this
        omega)]; rfl
theorem slS_one (w : World) (s : ByteArray) : SlS (w.alloc (.cells #[.string s] 9)) (some ⟨w.heap.size, 0, none⟩) 1 1 [s] := by
  obtain ⟨A, c, hv, h⟩ := (OwnS.made w [s] w.heap.size (Nat.le_refl _) (by unfold maxLen; simp)).slS
  injection hv with h1 h2 h3
  subst h1 h3
  exact h
theorem drop_cons {α : Type} {l : List α} {k : Nat} {x : α} (h : l[k]? = some x) : l.drop k = x :: l.drop (k + 1) := by
  obtain ⟨hk, rfl⟩ := List.getElem?_eq_some_iff.1 h
  exact List.drop_eq_getElem_cons hk
/-- what has been put out so far, and what is left -/
def PutR (s : ByteArray) (X R : List ByteArray) (lo : Nat) (w : World) (v : Value) (k : Nat) (d : Bool) : Prop := ∃ Y, OwnS w lo v Y ∧ Y.length ≤ k + d.toNat ∧ Y ++ putF s d (X.drop k) = R

set_option maxRecDepth 100000 in
set_option maxHeartbeats 16000000 in
theorem refPut_any (X : List ByteArray) (s : ByteArray) (hX : Up X) (a : Option Addr) (n c : Nat) (hl : X.length ≤ 1000000) (w : World) (H : IsS w a n X) :
    Calls Try.prog 64 #[.slice a n c, .string s] w fun e w' => ∃ v, e = .returned v ∧ OwnS w' w.heap.size v (putN s X) ∧ Below w.heap.size w w' := by
  have hn : n = X.length := H.1
  have hn2 : n ≤ 1000000 := by omega
  rw [← putF_put s X hX]
  have P0 : PutR s X (putF s false X) w.heap.size w (.slice none 0 0) 0 false := ⟨[], OwnS.nil _ _, by simp, by rw [List.drop_zero]; rfl⟩
  have HEnd := Lib.hid (show X.drop n = [] from List.drop_eq_nil_of_le (by omega))
  have HP0 := Lib.hid P0
  have HH := Lib.hid H
  generalize putF s false X = R at *
  clear H hn hl hX P0
  go_enter Try.func64, Try.ntmps64
  go_wp2_with fail
  go_loopw [5, 6, 7] (fun v d i wr0 => ∃ (v' : Value) (wr : World) (k : Nat) (db : Bool), v' = v ∧ wr = wr0 ∧ k ≤ n ∧ d = .bool db ∧ i = .int .i64 k ∧ Below w.heap.size w wr ∧ Hid (PutR s X R w.heap.size wr v' k db)) (fun v d i _ => n - (intOf i).toNat)
  case atStart => exact ⟨_, _, 0, false, rfl, rfl, by omega, rfl, rfl, Below.refl _ _, HP0⟩
  case round =>
    obtain ⟨v, wr, k, db, rfl, rfl, hk, rfl, rfl, hB, hR⟩ := hrel
    by_cases hlt : k < n
    · obtain ⟨bb, o, x, rfl, hb, yw, hx, _⟩ := HH.out.at hlt
      have y0 := (hB.cell (p := ⟨bb, _, none⟩) hb).trans yw
      obtain ⟨Y, ho, hYl, hY⟩ := hR.out
      rw [drop_cons hx, putF] at hY
      have h1 := @less_yes x s
      have h2 := @more_yes x s
      have h3 := @same_yes x s
      have hk0 : 0 ≤ (k : Int) := by omega
      have hk1 : (k : Int) < (n : Int) := by omega
      have hsz := hB.size
      have hYl2 := hYl
      have hbt := Bool.toNat_le db
      have hYl3 : Y.length + 2 ≤ 1000000000 := by omega
      clear hYl2 hbt
      have HYl := Lib.hid hYl
      clear hR hx hYl
      have B0 := hB
      rcases linN.rng x s with hc | hc | hc
      · rw [hc] at h1 h2 h3 hY
        simp only [Int.reduceNeg, decide_true, Int.reduceEq, decide_false] at h1 h2 h3
        have h4 : (x.toList = s.toList) = False := by simpa using h3
        clear hc
        cases db with
        | false =>
          have HY := Lib.hid hY
          clear hY
          go_wp2_with (at_builtin; ((refine app_strs2 rfl (.tmp 34) (.tmp 39) rfl w.heap.size v Y rfl (World.ownsRow.alloc ho (.cells #[.string x] 9)) _ _ _ [x] rfl (slS_one wr x) (by first | omega | (simp; omega)) (by first | omega | (simp; omega)) ?_); intro v1 w1 ho1 hg1; have B1 : Below w.heap.size w w1 := (bel_alloc B0 _).grown hg1 (bel_alloc B0 _).size (fun q hq => (World.ownsRow.lt ho q hq).1); have hs1 := B1.size))
          go_roundw
          case rel => exact ⟨_, _, k + 1, false, rfl, rfl, by omega, rfl, by go_num, B1, Lib.hid ⟨Y ++ [x], ho1, by have := HYl.out; simp at this ⊢; omega, by have h := HY.out; simpa using h⟩⟩
          case measure => simp [intOf]; omega
        | true =>
          have HY := Lib.hid hY
          clear hY
          go_wp2_with (at_builtin; ((refine app_strs2 rfl (.tmp 34) (.tmp 39) rfl w.heap.size v Y rfl (World.ownsRow.alloc ho (.cells #[.string x] 9)) _ _ _ [x] rfl (slS_one wr x) (by first | omega | (simp; omega)) (by first | omega | (simp; omega)) ?_); intro v1 w1 ho1 hg1; have B1 : Below w.heap.size w w1 := (bel_alloc B0 _).grown hg1 (bel_alloc B0 _).size (fun q hq => (World.ownsRow.lt ho q hq).1); have hs1 := B1.size))
          go_roundw
          case rel => exact ⟨_, _, k + 1, true, rfl, rfl, by omega, rfl, by go_num, B1, Lib.hid ⟨Y ++ [x], ho1, by have := HYl.out; simp at this ⊢; omega, by have h := HY.out; simpa using h⟩⟩
          case measure => simp [intOf]; omega
      · have e : s = x := ((linN.eq x s).1 hc).symm
        subst e
        rw [hc] at h1 h2 h3 hY
        simp only [Int.reduceNeg, decide_true, Int.reduceEq, decide_false] at h1 h2
        clear hc h3
        cases db with
        | false =>
          have HY := Lib.hid hY
          clear hY
          go_wp2_with (at_builtin; ((refine app_strs2 rfl (.tmp 24) (.tmp 26) rfl w.heap.size v Y rfl (World.ownsRow.alloc ho (.cells #[.string s] 9)) _ _ _ [s] rfl (slS_one wr s) (by first | omega | (simp; omega)) (by first | omega | (simp; omega)) ?_); intro v1 w1 ho1 hg1; have B1 : Below w.heap.size w w1 := (bel_alloc B0 _).grown hg1 (bel_alloc B0 _).size (fun q hq => (World.ownsRow.lt ho q hq).1); have hs1 := B1.size; have yy := (B1.cell (p := ⟨bb, o + k, none⟩) hb).trans yw))
          go_roundw
          case rel => exact ⟨_, _, k + 1, true, rfl, rfl, by omega, rfl, by go_num, B1, Lib.hid ⟨Y ++ [s], ho1, by have := HYl.out; simp at this ⊢; omega, by have h := HY.out; simpa using h⟩⟩
          case measure => simp [intOf]; omega
        | true =>
          have HY := Lib.hid hY
          clear hY
          go_wp2
          go_roundw
          case rel => exact ⟨_, _, k + 1, true, rfl, rfl, by omega, rfl, by go_num, hB, Lib.hid ⟨Y, ho, by have := HYl.out; simp at this ⊢; omega, by have h := HY.out; simpa using h⟩⟩
          case measure => simp [intOf]; omega
      · rw [hc] at h1 h2 h3 hY
        simp only [Int.reduceNeg, decide_true, Int.reduceEq, decide_false] at h1 h2 h3
        have h4 : (x.toList = s.toList) = False := by simpa using h3
        clear hc
        cases db with
        | false =>
          have HY := Lib.hid hY
          clear hY
          go_wp2_with (first | (at_builtin; ((refine app_strs2 rfl (.tmp 24) (.tmp 26) rfl w.heap.size v Y rfl (World.ownsRow.alloc ho (.cells #[.string s] 9)) _ _ _ [s] rfl (slS_one wr s) (by first | omega | (simp; omega)) (by first | omega | (simp; omega)) ?_); intro v1 w1 ho1 hg1; have B1 : Below w.heap.size w w1 := (bel_alloc B0 _).grown hg1 (bel_alloc B0 _).size (fun q hq => (World.ownsRow.lt ho q hq).1); have hs1 := B1.size; have yy := (B1.cell (p := ⟨bb, o + k, none⟩) hb).trans yw)) | (at_builtin; ((refine app_strs2 rfl (.tmp 34) (.tmp 39) rfl w.heap.size v1 (Y ++ [s]) rfl (World.ownsRow.alloc ho1 (.cells #[.string x] 9)) _ _ _ [x] rfl (slS_one w1 x) (by first | omega | (simp; omega)) (by first | omega | (simp; omega)) ?_); intro v2 w2 ho2 hg2; have B2 : Below w.heap.size w w2 := (bel_alloc B1 _).grown hg2 (bel_alloc B1 _).size (fun q hq => (World.ownsRow.lt ho1 q hq).1); have hs2 := B2.size)))
          go_roundw
          case rel => exact ⟨_, _, k + 1, true, rfl, rfl, by omega, rfl, by go_num, B2, Lib.hid ⟨Y ++ [s] ++ [x], ho2, by have := HYl.out; simp at this ⊢; omega, by have h := HY.out; simpa using h⟩⟩
          case measure => simp [intOf]; omega
        | true =>
          have HY := Lib.hid hY
          clear hY
          go_wp2_with (at_builtin; ((refine app_strs2 rfl (.tmp 34) (.tmp 39) rfl w.heap.size v Y rfl (World.ownsRow.alloc ho (.cells #[.string x] 9)) _ _ _ [x] rfl (slS_one wr x) (by first | omega | (simp; omega)) (by first | omega | (simp; omega)) ?_); intro v1 w1 ho1 hg1; have B1 : Below w.heap.size w w1 := (bel_alloc B0 _).grown hg1 (bel_alloc B0 _).size (fun q hq => (World.ownsRow.lt ho q hq).1); have hs1 := B1.size))
          go_roundw
          case rel => exact ⟨_, _, k + 1, true, rfl, rfl, by omega, rfl, by go_num, B1, Lib.hid ⟨Y ++ [x], ho1, by have := HYl.out; simp at this ⊢; omega, by have h := HY.out; simpa using h⟩⟩
          case measure => simp [intOf]; omega
    · obtain rfl : k = n := by omega
      obtain ⟨Y, ho, hYl, hY⟩ := hR.out
      rw [HEnd.out, putF] at hY
      have hsz := hB.size
      have hbt := Bool.toNat_le db
      have hYl3 : Y.length + 2 ≤ 1000000000 := by omega
      have B0 := hB
      clear hR hYl hbt
      cases db with
      | true =>
        have HY := Lib.hid hY
        clear hY
        go_wp2
        go_ret
        exact ⟨_, rfl, by have h := HY.out; simp at h; rw [← h]; exact ho, hB⟩
      | false =>
        have HY := Lib.hid hY
        clear hY
        go_wp2_with (at_builtin; ((refine app_strs2 rfl (.tmp 43) (.tmp 45) rfl w.heap.size v Y rfl (World.ownsRow.alloc ho (.cells #[.string s] 9)) _ _ _ [s] rfl (slS_one wr s) (by first | omega | (simp; omega)) (by first | omega | (simp; omega)) ?_); intro v1 w1 ho1 hg1; have B1 : Below w.heap.size w w1 := (bel_alloc B0 _).grown hg1 (bel_alloc B0 _).size (fun q hq => (World.ownsRow.lt ho q hq).1); have hs1 := B1.size))
        go_ret
        exact ⟨_, rfl, by have h := HY.out; simp at h; rw [← h]; exact ho1, B1⟩
end Go.Proofs.Ytbmniajimkondaa.T
namespace Go.Proofs.Ytbmniajimkondaa.T
open Go.RowKit L
set_option linter.unusedVariables false
set_option linter.unusedSimpArgs false

theorem putN_len (s : ByteArray) : ∀ X : List ByteArray, (putN s X).length ≤ X.length + 1
  | [] => by rw [putN]; simp
  | x :: l => by
    have := putN_len s l
    rw [putN]
    split
    · simp
    · split
      · simp
      · simp; omega
theorem namesF_len : ∀ (l : List Tm) (X : List ByteArray), (namesF X l).length ≤ X.length + l.length
  | [], X => by rw [namesF]; simp
  | t :: l, X => by
    rw [namesF, List.length_cons]
    have h := putN_len (nameT t) X
    by_cases ho : opT t = 1
    · rw [if_pos ho]
      have := namesF_len l (putN (nameT t) X)
      omega
    · rw [if_neg ho]
      have := namesF_len l X
      omega
theorem namesF_step {X : List ByteArray} {l : List Tm} {j : Nat} {t : Tm} (h : l[j]? = some t) : namesF X (l.take (j + 1)) = if opT t = 1 then putN (nameT t) (namesF X (l.take j)) else namesF X (l.take j) := by
  rw [take_t h, namesF_app, namesF, namesF]
set_option maxRecDepth 100000 in
set_option maxHeartbeats 16000000 in
theorem refNames_any (l : List Tm) (A : Option Addr) (n c : Nat) (w : World) (hG : TsW w A n c l) (hs : sizes l ≤ 1000000) :
    Calls Try.prog 23 #[.slice A n c] w fun e w' => ∃ v, e = .returned v ∧ OwnS w' w.heap.size v (names l) ∧ Below w.heap.size w w' := by
  have hn : n = l.length := hG.1
  have hlen : ∀ l : List Tm, l.length ≤ sizes l := fun l => by
    induction l with
    | nil => exact Nat.le_refl _
    | cons t l ih => rw [List.length_cons, sizes]; have := size_pos t; omega
  have hn63 : n ≤ 9223372036854775807 := by have := hlen l; omega
  have HG := Lib.hid hG
  have HEnd := Lib.hid (show alls (l.take n) = alls l from by rw [List.take_of_length_le (by omega)])
  have HSz := Lib.hid (show ∀ k t, l[k]? = some t → size t ≤ 1000000 ∧ (alls (l.take k)).length + size t ≤ 1000000 from fun k t h => by
    have := sizes_take h
    rw [alls_len]
    omega)
  clear hG hn hlen
  go_enter Try.func23, Try.ntmps23
  go_wp2
  go_loopw [3, 4] (fun v i wr0 => ∃ (a : Option Addr) (m d : Nat) (wr : World) (k : Nat), .slice a m d = v ∧ wr = wr0 ∧ k ≤ n ∧ i = .int .i64 k ∧ Below w.heap.size w wr ∧ Hid (m = (namesF [] (alls (l.take k))).length ∧ OwnS wr w.heap.size (.slice a m d) (namesF [] (alls (l.take k))))) (fun v i _ => n - (intOf i).toNat)
  case atStart => exact ⟨none, 0, 0, _, 0, rfl, rfl, by omega, rfl, Below.refl _ _, Lib.hid ⟨rfl, OwnS.nil _ _⟩⟩
  case round =>
    obtain ⟨a, m, d, wr, k, rfl, rfl, hk, rfl, hB, hR⟩ := hrel
    by_cases hlt : k < n
    · obtain ⟨bb, o, t, a', n', c', hA1, hbb, y0, y1, y2, y3, ht, hok⟩ := (HG.out).at hlt
      subst hA1
      have x0 := (hB.cell (p := ⟨bb, _, none⟩) hbb).trans y0
      have x1 := (hB.cell (p := ⟨bb, _, none⟩) hbb).trans y1
      have x2 := (hB.cell (p := ⟨bb, _, none⟩) hbb).trans y2
      have x3 := (hB.cell (p := ⟨bb, _, none⟩) hbb).trans y3
      obtain ⟨hz1, hz2⟩ := HSz.out k t ht
      have cA := RefAll_any t w.heap.size w a' n' c' wr hz1 hB.size hB hok
      have HTk := Lib.hid (show alls (l.take (k + 1)) = alls (l.take k) ++ all t from by rw [take_t ht, alls_app]; simp [alls])
      have HSzt := Lib.hid (show size t = (all t).length from (all_len t).symm)
      have HZ := Lib.hid hz2
      have hk0 : 0 ≤ (k : Int) := by omega
      have hk1 : (k : Int) < (n : Int) := by omega
      have hs63 : size t ≤ 9223372036854775807 := by omega
      clear y0 y1 y2 y3 hok hz1 hz2 ht
      generalize opT t = op' at *
      generalize nameT t = nm' at *
      generalize numT t = nu' at *
      generalize size t = S at *
      go_wp2_with (go_at_call 63; ((with_reducible refine cA.mono ?_); rintro e w1 ⟨g, cap, rfl, hP, hb1⟩; have HP := Lib.hid hP; clear hP))
      have hB1 : Below w.heap.size w w1 := hB.trans (hb1.mono hB.size)
      have HR1 := Lib.hid (show m = (namesF [] (alls (l.take k))).length ∧ OwnS w1 w.heap.size (.slice a m d) (namesF (namesF [] (alls (l.take k))) ((all t).take 0)) from ⟨hR.out.1, by rw [List.take_zero, namesF]; exact hR.out.2.below hb1⟩)
      go_loopw [3, 6] (fun v i wr0 => ∃ (a : Option Addr) (m d : Nat) (w2 : World) (j : Nat), .slice a m d = v ∧ w2 = wr0 ∧ j ≤ S ∧ i = .int .i64 j ∧ Below w1.heap.size w1 w2 ∧ Hid (m = (namesF (namesF [] (alls (l.take k))) ((all t).take j)).length ∧ OwnS w2 w.heap.size (.slice a m d) (namesF (namesF [] (alls (l.take k))) ((all t).take j)))) (fun v i _ => S - (intOf i).toNat)
      case atStart => exact ⟨a, m, d, _, 0, rfl, rfl, by omega, rfl, Below.refl _ _, Lib.hid ⟨by rw [List.take_zero, namesF]; exact HR1.out.1, HR1.out.2⟩⟩
      case round =>
        clear hR HR1 x0 x1 x2 x3 cA
        obtain ⟨a2, m2, d2, w2, j, rfl, rfl, hj, rfl, hB2, hR2⟩ := hrel
        by_cases hlt2 : j < S
        · obtain ⟨pts, hpt, hO⟩ := HP.out
          have hpl : pts.length = S := by rw [HSzt.out, ← hpt, List.length_map]
          have hjp : j < (pts.map hdP).length := by rw [List.length_map]; omega
          have hat : (all t)[j]? = some (pts[j]'(by omega)).t := by rw [← hpt, List.getElem?_map, List.getElem?_eq_getElem (by omega)]; rfl
          have hg1 : g < w1.heap.size := (OwnT.row hO).lt
          obtain ⟨y0, y1, y2, y3⟩ := hO.at hjp
          have x0 := (hB2.cell (p := ⟨g, _, none⟩) hg1).trans y0
          have x1 := (hB2.cell (p := ⟨g, _, none⟩) hg1).trans y1
          rw [List.getElem_map] at x0 x1
          have e0 : (hdP (pts[j]'(by omega))).op = opT (pts[j]'(by omega)).t := rfl
          have e1 : (hdP (pts[j]'(by omega))).nm = nameT (pts[j]'(by omega)).t := rfl
          rw [e0] at x0
          rw [e1] at x1
          have hstep := namesF_step (X := namesF [] (alls (l.take k))) hat
          have hlenX : (namesF (namesF [] (alls (l.take k))) ((all t).take j)).length ≤ 1000000 := by
            have h1 := namesF_len ((all t).take j) (namesF [] (alls (l.take k)))
            have h2 := namesF_len (alls (l.take k)) []
            have h3 := HZ.out
            rw [List.length_take] at h1
            rw [List.length_nil] at h2
            omega
          have hUp : Up (namesF (namesF [] (alls (l.take k))) ((all t).take j)) := up_namesF _ _ (up_namesF _ _ (List.Pairwise.nil))
          obtain ⟨A3, C3, hv3, hS3⟩ := hR2.out.2.slS
          injection hv3 with q1 q2 q3
          have cP := refPut_any _ (nameT (pts[j]'(by omega)).t) hUp A3 _ C3 hlenX w2 hS3.1
          rw [← q1, ← q2, ← q3] at cP
          have HR2 := Lib.hid hR2.out.2
          have HM2 := Lib.hid hR2.out.1
          clear hR2 hS3 hpt hO hat y0 y1 y2 y3 e0 e1 q1 q2 q3 hlenX hUp hjp
          generalize opT (pts[j]'(by omega)).t = ox at *
          generalize nameT (pts[j]'(by omega)).t = nx at *
          have hj0 : 0 ≤ (j : Int) := by omega
          have hj1 : (j : Int) < (S : Int) := by omega
          by_cases hox : ox = 1
          · rw [if_pos hox] at hstep
            have HS := Lib.hid hstep
            clear hstep
            subst hox
            go_wp2_with (go_at_call 64; ((with_reducible refine cP.mono ?_); rintro e w3 ⟨v3, rfl, ho3, hb3⟩; obtain ⟨A4, C4, hv4, -⟩ := ho3.slS; subst hv4; have HO3 := Lib.hid (OwnS.base ho3 (Nat.le_trans hB1.size hB2.size)); clear ho3))
            go_roundw
            case rel => exact ⟨A4, _, C4, _, j + 1, rfl, rfl, by omega, by go_num, bel_trans hB2 hb3, Lib.hid ⟨by rw [HS.out], by rw [HS.out]; exact HO3.out⟩⟩
            case measure => simp [intOf]; omega
          · rw [if_neg hox] at hstep
            have HS := Lib.hid hstep
            clear hstep cP
            go_wp2
            go_roundw
            case rel => exact ⟨a2, m2, d2, _, j + 1, rfl, rfl, by omega, by go_num, hB2, Lib.hid ⟨by rw [HS.out]; exact HM2.out, by rw [HS.out]; exact HR2.out⟩⟩
            case measure => simp [intOf]; omega
        · obtain rfl : j = S := by omega
          have hX : namesF (namesF [] (alls (l.take k))) ((all t).take j) = namesF [] (alls (l.take (k + 1))) := by
            rw [HTk.out, namesF_app, List.take_of_length_le (l := all t) (by rw [← HSzt.out]; exact Nat.le_refl _)]
          rw [hX] at hR2
          clear hX
          go_wp2
          go_roundw
          case rel => exact ⟨a2, m2, d2, _, k + 1, rfl, rfl, by omega, by go_num, hB1.trans (hB2.mono hB1.size), hR2⟩
          case measure => simp [intOf]; omega
    · obtain rfl : k = n := by omega
      have HN := Lib.hid (show OwnS wr w.heap.size (.slice a m d) (names l) from by
        have := hR.out.2
        rw [HEnd.out] at this
        exact this)
      clear hR
      go_wp2
      go_ret
      exact ⟨_, rfl, HN.out, hB⟩
end Go.Proofs.Ytbmniajimkondaa.T
