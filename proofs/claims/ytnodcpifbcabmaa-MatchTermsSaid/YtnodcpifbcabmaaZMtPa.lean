/-
  What is proved: the document's parts of layer 11: a term's parts, each once, behind others.
-/
import Derived.Test.YtnodcpifbcabmaaZMtZ
import Derived.Test.YtnodcpifbcabmaaBL
import Derived.Deep.AppendLies
import Derived.Deep.RegionHeld3
namespace Go.Proofs.Ytnodcpifbcabmaa.Mt
open Go.RowKit L T C B U
set_option linter.unusedVariables false
set_option linter.unusedSimpArgs false

def hdM {B : Nat} {w0 : World} (x : Pt B w0) : Hd := hdOf x.t x.a x.n x.c
theorem len_pts {B : Nat} {w0 : World} (pts : List (Pt B w0)) : (pts.map hdM).length = pts.length := by simp
theorem row_ts {B : Nat} {w0 w : World} {lo n c : Nat} {A : Option Addr} {pts : List (Pt B w0)} (h : OwnT w lo (.slice A n c) (pts.map hdM)) (hB : Below B w0 w) (hBw : B ≤ w.heap.size) : TsW w A n c (pts.map Pt.t) := by
  refine h.isT (Nat.le_refl _) (by simp) fun k hk hk2 => ?_
  simp only [List.getElem_map]
  exact ⟨rfl, rfl, rfl, Ar.mono hBw _ (Ar.bel hB _ (pts[k]'(by simpa using hk)).ok)⟩
theorem own_val {w : World} {lo : Nat} {v : Value} {hs : List Hd} (h : OwnT w lo v hs) : ∃ A c, v = .slice A hs.length c := by obtain ⟨A, c, h1, _⟩ := h.slice; exact ⟨A, c, h1⟩
/-- what may have changed: the row's block, or a new one is the row's -/
def Gq (w w' : World) (v v' : Value) : Prop := w.grownBy w' v.ownBlock ∧ (v'.ownBlock = v.ownBlock ∨ ∃ g, v'.ownBlock = some g ∧ w.heap.size ≤ g)
theorem Gq.trans {a b c : World} {u v x : Value} (h : Gq a b u v) (k : Gq b c v x) : Gq a c u x := by
  have hs := h.1.size
  refine ⟨h.1.andThen k.1 fun j hj => ?_, ?_⟩
  · rcases h.2 with e | ⟨g, e, hg⟩
    · exact .inr (by rw [← e]; exact hj)
    · rw [e] at hj; injection hj with hj; exact .inl (by omega)
  · rcases k.2 with e | ⟨g, e, hg⟩
    · rcases h.2 with e2 | ⟨g, e2, hg⟩
      · exact .inl (e.trans e2)
      · exact .inr ⟨g, e.trans e2, hg⟩
    · exact .inr ⟨g, e, by omega⟩
def PartsOk (t : Tm) : Prop := ∀ (B : Nat) (w0 : World) (lo : Nat) (pts : List (Pt B w0)) (v : Value) (a : Option Addr) (m c : Nat) (w : World), pts.length + size t ≤ 1000000 → B ≤ lo → lo ≤ w.heap.size → Below B w0 w → Ar B w0 t a m c → OwnT w lo v (pts.map hdM) →
  Calls Try.prog 76 #[v, .agg #[.int .i64 (opT t), .string (nameT t), .int .i64 (numT t), .slice a m c]] w fun e w' => ∃ v' pts', e = .returned v' ∧ (pts' : List (Pt B w0)).map Pt.t = putsT (pts.map Pt.t) (all t) ∧ OwnT w' lo v' (pts'.map hdM) ∧ Gq w w' v v'
/-- the row so far: after these parts -/
def PartsR {B : Nat} {w0 : World} (W2 : World) (lo : Nat) (v0 : Value) (l0 : List Tm) (wr : World) (v : Value) (ts : List Tm) : Prop := ∃ pts : List (Pt B w0), pts.map Pt.t = putsT l0 ts ∧ OwnT wr lo v (pts.map hdM) ∧ Gq W2 wr v0 v
theorem sizes_take11 {l : List Tm} {k : Nat} {x : Tm} (h : l[k]? = some x) : sizes (l.take k) + size x ≤ sizes l := by
  have h1 : sizes (l.take (k + 1)) = sizes (l.take k) + size x := by
    rw [← alls_len, take_t h, alls_app, List.length_append, alls_len]
    simp [alls, all_len]
  have h2 : sizes l = sizes (l.take (k + 1)) + sizes (l.drop (k + 1)) := by
    rw [← alls_len, ← alls_len, ← alls_len, ← List.length_append, ← alls_app, List.take_append_drop]
  omega
set_option maxRecDepth 100000 in
set_option maxHeartbeats 16000000 in
theorem Parts_step (t : Tm) (hok : ∀ x ∈ argsT t, PartsOk x) : PartsOk t := by
  intro B w0 lo pts v a m c w hsz hBl hlo hB0 hA hOwn
  obtain ⟨A0, c0, hv⟩ := own_val hOwn
  rw [len_pts] at hv
  subst hv
  obtain ⟨W2, hW2, hB2, hs2, S2⟩ := box1 w (opT t) (nameT t) (numT t) a m c
  have hO2 := hOwn.below hB2
  have hB02 : Below B w0 W2 := hB0.trans (hB2.mono (by omega))
  have hBW : B ≤ W2.heap.size := by have := hB2.size; omega
  have hT2 := row_ts hO2 hB02 hBW
  have hA2 : ArW W2 t a m c := Ar.mono hBW _ (Ar.bel hB02 _ hA)
  have hIs : IsT B w0 a m c (argsT t) := ar_isT.1 hA
  have hm : m = (argsT t).length := hIs.1
  have e1 : size t = 1 + sizes (argsT t) := by cases t; rw [size]; rfl
  have hml : m ≤ 1000000 := by
    have e2 : ∀ l : List Tm, l.length ≤ sizes l := fun l => by
      induction l with
      | nil => exact Nat.le_refl _
      | cons t l ih => rw [List.length_cons, sizes]; have := size_pos t; omega
    have := e2 (argsT t)
    omega
  have hown0 : ∀ q, (Value.slice A0 pts.length c0).ownBlock = some q → lo ≤ q ∧ q < w.heap.size := fun q hq => World.ownsRow.lt hOwn q hq
  have HBox := Lib.hid (show ∀ (wr : World) (u : Value), Gq W2 wr (.slice A0 pts.length c0) u → TBox wr w.heap.size (opT t) (nameT t) (numT t) a m c ∧ Below B w0 wr ∧ lo ≤ wr.heap.size from fun wr u h => ⟨Blk.grown S2 h.1 (fun e => by have := hown0 _ e.symm; omega), Below.grown hB02 h.1 hBW (fun q hq => by have := hown0 q hq; omega), by have := h.1.size; omega⟩)
  have HStep := Lib.hid (show ∀ k x, (argsT t)[k]? = some x → PartsOk x ∧ alls ((argsT t).take (k + 1)) = alls ((argsT t).take k) ++ all x ∧ (1 + sizes ((argsT t).take k)) + size x ≤ size t from fun k x h => ⟨hok x (List.mem_of_getElem? h), by rw [take_t h, alls_app]; simp [alls], by have := sizes_take11 h; omega⟩)
  have HTl := Lib.hid (show ∀ k, (t :: alls ((argsT t).take k)).length = 1 + sizes ((argsT t).take k) from fun k => by rw [List.length_cons, alls_len]; omega)
  have HEnd := Lib.hid (show t :: alls ((argsT t).take m) = all t from by rw [List.take_of_length_le (by omega), all_mk])
  have HIn := fun k x (h : (pts.map Pt.t)[k]? = some x) => inT_step t h
  have HInE : inT ((pts.map Pt.t).take pts.length) t = inT (pts.map Pt.t) t := by rw [List.take_of_length_le (by simp)]
  have cTm := fun (x : Tm) (A : Option Addr) (N C : Nat) (w' : World) (h : ArW w' x A N C) (hb : Below W2.heap.size W2 w') => Term_any x t A N C a m c w' h (ArW.b hA2 hb)
  obtain ⟨s0, s1, s2, s3⟩ := S2.four
  have HS := Lib.hid S2
  have HT := Lib.hid hT2
  have HO := Lib.hid hO2
  have HI := Lib.hid hIs
  have HInc := Lib.hid HIn
  have HInE2 := Lib.hid HInE
  have Hsz := Lib.hid hsz
  have Hs2 := Lib.hid hs2
  have HB02 := Lib.hid hB02
  have HBl := Lib.hid hBl
  have HHA := Lib.hid hA
  have hR0 : Hid (inT ((pts.map Pt.t).take 0) t = false) := by show _ = _; rw [List.take_zero]; rfl
  have hn0 : pts.length ≤ 1000000 := by omega
  obtain ⟨i0, hi0, hz0, hz1, hz2⟩ := info_parts termI
  have hPt := Lib.hid (show ∃ pt : Pt B w0, pt.t = t ∧ hdM pt = hdOf t a m c from ⟨⟨t, a, m, c, hA⟩, rfl, rfl⟩)
  have h23 := hB2.size
  have Hown0 := Lib.hid hown0
  have HGrow := Lib.hid (show ∀ (w1 : World) (h1 : Below W2.heap.size W2 w1), OwnT w1 lo (.slice A0 pts.length c0) (pts.map hdM) ∧ Gq W2 w1 (.slice A0 pts.length c0) (.slice A0 pts.length c0) from fun w1 h1 => ⟨hO2.below h1, ⟨h1.os, h1.tape, h1.output, h1.size, fun k hk _ => h1.block k hk⟩, .inl rfl⟩)
  clear hA hOwn hok S2 hm hIs hs2 e1 hO2 hB02 hT2 hA2 HIn HInE hown0 hsz hB0 hBl
  generalize hnP : pts.length = nP at *
  have HnP := Lib.hid hnP
  clear hnP
  generalize hLP : pts.map Pt.t = LP at *
  have HLP := Lib.hid hLP
  clear hLP
  obtain ⟨IN, hIN⟩ : ∃ IN : Nat → Bool, ∀ k, inT (LP.take k) t = IN k := ⟨_, fun _ => rfl⟩
  simp only [hIN] at HInc
  simp only [hIN] at hR0
  simp only [hIN] at HInE2
  have HINt := Lib.hid (show IN nP = inT LP t from HInE2.out)
  clear hIN HInE2
  have HHd := Lib.hid (show ([hdOf t a m c]).flatMap Hd.cells = [Value.int .i64 (opT t), .string (nameT t), .int .i64 (numT t), .slice a m c] from rfl)
  have HQ := Lib.hid (show ∀ (w' : World) (v' : Value), Gq W2 w' (.slice A0 nP c0) v' → Gq w w' (.slice A0 nP c0) v' from fun w' v' h => Gq.trans (b := W2) (v := .slice A0 nP c0) ⟨⟨hB2.os, hB2.tape, hB2.output, hB2.size, fun k hk _ => hB2.block k hk⟩, .inl rfl⟩ h)
  generalize opT t = op at *
  generalize nameT t = nm at *
  generalize numT t = nu at *
  go_enter Try.func76, Try.ntmps76
  go_wp2
  go_loopw [5, 6] (fun q i wr0 => ∃ (wr : World) (k : Nat) (db : Bool), wr = wr0 ∧ k ≤ nP ∧ q = .bool db ∧ i = .int .i64 k ∧ Below W2.heap.size W2 wr ∧ Hid (IN k = db)) (fun q i _ => nP - (intOf i).toNat)
  case atStart => exact ⟨_, 0, false, rfl, by omega, rfl, rfl, Below.refl _ _, hR0⟩
  case round =>
    obtain ⟨wr, k, db, rfl, hk, rfl, rfl, hB, hR⟩ := hrel
    by_cases hlt : k < nP
    · obtain ⟨bb, o, x, A, M, Cc, rfl, hb, y0, y1, y2, y3, hx, hxA⟩ := (TsW.b HT.out hB).at hlt
      obtain ⟨s0, s1, s2, s3⟩ := (TBox.b HS.out hB).four
      have lS := Blk.lt (TBox.b HS.out hB)
      have hst := Lib.hid (HInc.out k x hx)
      have hBd : Below wr.heap.size wr wr.drew := (Below.refl _ _).drew
      have cs := cTm x A M Cc wr.drew (ArW.b hxA hBd) (bel_trans hB hBd)
      have hk0 : 0 ≤ (k : Int) := by omega
      have hk1 : (k : Int) < (nP : Int) := by omega
      clear hx hxA cTm
      generalize eqT x t = E at *
      generalize opT x = op' at *
      generalize nameT x = nm' at *
      generalize numT x = nu' at *
      cases db with
      | true =>
        have hnew : Hid (IN (k + 1) = true) := by show _ = _; rw [hst.out, hR.out]; rfl
        clear hst hR cs
        go_wp2_with fail
        refine wp_region_noPanic ?_
        refine wp_region_held_drew (S := fun w' => True) (by kernel_rfl) trivial (fun hHeld => ?_)
        refine wpAnyH_take (i := 0) (v := ?_) rfl (by kernel_rfl) (by kernel_rfl) (by kernel_rfl) (fun _ _ _ h => h) (Or.inl ⟨by rfl, ?hy⟩) (by assumption) ?_
        case hy => (intro w hSw; (try dsimp only at hSw); go_simp; try (with_reducible rfl))
        (try simp only [List.getElem_toArray, List.getElem_cons_succ, List.getElem_cons_zero, Act.put, List.setIfInBounds_toArray, List.set_cons_zero, List.set_cons_succ])
        refine wpAnyH_take (i := 1) (v := ?_) rfl (by kernel_rfl) (by kernel_rfl) (by kernel_rfl) (fun _ _ _ h => h) (Or.inl ⟨by rfl, ?hy⟩) (by assumption) ?_
        case hy => (intro w hSw; (try dsimp only at hSw); go_simp; try (with_reducible rfl))
        (try simp only [List.getElem_toArray, List.getElem_cons_succ, List.getElem_cons_zero, Act.put, List.setIfInBounds_toArray, List.set_cons_zero, List.set_cons_succ])
        refine wpAnyH_take (i := 2) (v := undef) rfl (by kernel_rfl) (by kernel_rfl) (by kernel_rfl) (fun _ _ _ h => h) (Or.inr ⟨by rfl, rfl⟩) (by assumption) ?_
        (try simp only [List.getElem_toArray, List.getElem_cons_succ, List.getElem_cons_zero, Act.put, List.setIfInBounds_toArray, List.set_cons_zero, List.set_cons_succ])
        refine wpAnyH_take (i := 3) (v := undef) rfl (by kernel_rfl) (by kernel_rfl) (by kernel_rfl) (fun _ _ _ h => h) (Or.inr ⟨by rfl, rfl⟩) (by assumption) ?_
        (try simp only [List.getElem_toArray, List.getElem_cons_succ, List.getElem_cons_zero, Act.put, List.setIfInBounds_toArray, List.set_cons_zero, List.set_cons_succ])
        refine wpAnyH_take (i := 4) (v := undef) rfl (by kernel_rfl) (by kernel_rfl) (by kernel_rfl) (fun _ _ _ h => h) (Or.inr ⟨by rfl, rfl⟩) (by assumption) ?_
        (try simp only [List.getElem_toArray, List.getElem_cons_succ, List.getElem_cons_zero, Act.put, List.setIfInBounds_toArray, List.set_cons_zero, List.set_cons_succ])
        refine wpAnyH_take (i := 5) (v := undef) rfl (by kernel_rfl) (by kernel_rfl) (by kernel_rfl) (fun _ _ _ h => h) (Or.inr ⟨by rfl, rfl⟩) (by assumption) ?_
        (try simp only [List.getElem_toArray, List.getElem_cons_succ, List.getElem_cons_zero, Act.put, List.setIfInBounds_toArray, List.set_cons_zero, List.set_cons_succ])
        refine wpAnyH_take (i := 6) (v := undef) rfl (by kernel_rfl) (by kernel_rfl) (by kernel_rfl) (fun _ _ _ h => h) (Or.inr ⟨by rfl, rfl⟩) (by assumption) ?_
        (try simp only [List.getElem_toArray, List.getElem_cons_succ, List.getElem_cons_zero, Act.put, List.setIfInBounds_toArray, List.set_cons_zero, List.set_cons_succ])
        refine wpAnyH_take (i := 7) (v := undef) rfl (by kernel_rfl) (by kernel_rfl) (by kernel_rfl) (fun _ _ _ h => h) (Or.inr ⟨by rfl, rfl⟩) (by assumption) ?_
        (try simp only [List.getElem_toArray, List.getElem_cons_succ, List.getElem_cons_zero, Act.put, List.setIfInBounds_toArray, List.set_cons_zero, List.set_cons_succ])
        refine wpAnyH_take (i := 8) (v := ?_) rfl (by kernel_rfl) (by kernel_rfl) (by kernel_rfl) (fun _ _ _ h => h) (Or.inl ⟨by rfl, ?hy⟩) (by assumption) ?_
        case hy => (intro w hSw; (try dsimp only at hSw); go_simp; try (with_reducible rfl))
        (try simp only [List.getElem_toArray, List.getElem_cons_succ, List.getElem_cons_zero, Act.put, List.setIfInBounds_toArray, List.set_cons_zero, List.set_cons_succ])
        refine wpAnyH_take (i := 9) (v := ?_) rfl (by kernel_rfl) (by kernel_rfl) (by kernel_rfl) (fun _ _ _ h => h) (Or.inl ⟨by rfl, ?hy⟩) (by assumption) ?_
        case hy => (intro w hSw; (try dsimp only at hSw); go_simp; try (with_reducible rfl))
        (try simp only [List.getElem_toArray, List.getElem_cons_succ, List.getElem_cons_zero, Act.put, List.setIfInBounds_toArray, List.set_cons_zero, List.set_cons_succ])
        (try simp only [List.getElem_toArray, List.getElem_cons_succ, List.getElem_cons_zero, Act.put, List.setIfInBounds_toArray, List.set_cons_zero, List.set_cons_succ])
        refine wpAnyH_done (by kernel_rfl) ?_ _
        refine NoPanic.normal ?_
        all_goals go_wp2
        go_roundw
        case rel => exact ⟨_, k + 1, true, rfl, by omega, rfl, by go_num, bel_trans hB hBd, hnew⟩
        case measure => simp [intOf]; omega
      | false =>
        have hnew : Hid (IN (k + 1) = E) := by show _ = _; rw [hst.out, hR.out]; rfl
        clear hst hR
        go_wp2_with fail
        go_region_held3 (fun w' => w'.cell? ⟨bb, o + k * 4, none⟩ = some (.int .i64 op') ∧ w'.cell? ⟨bb, o + k * 4 + 1, none⟩ = some (.string nm') ∧ w'.cell? ⟨bb, o + k * 4 + 1 + 1, none⟩ = some (.int .i64 nu') ∧ w'.cell? ⟨bb, o + k * 4 + 1 + 1 + 1, none⟩ = some (.slice A M Cc) ∧ w'.cell? ⟨w.heap.size, 0, none⟩ = some (.int .i64 op) ∧ w'.cell? ⟨w.heap.size, 1, none⟩ = some (.string nm) ∧ w'.cell? ⟨w.heap.size, 2, none⟩ = some (.int .i64 nu) ∧ w'.cell? ⟨w.heap.size, 3, none⟩ = some (.slice a m c))
          (first | go_keep | (exact ⟨(B4.cell hb).trans y0, (B4.cell hb).trans y1, (B4.cell hb).trans y2, (B4.cell hb).trans y3, (B4.cell lS).trans s0, (B4.cell lS).trans s1, (B4.cell lS).trans s2, (B4.cell lS).trans s3⟩))
          (first | (go_at_call 28; ((with_reducible refine cs.mono ?_); rintro e w4 ⟨rfl, hb4⟩; have B4 := bel_trans hBd hb4)))
        all_goals go_wp2
        all_goals go_roundw
        case rel => exact ⟨_, k + 1, E, rfl, by omega, rfl, by go_num, bel_trans hB B4, hnew⟩
        case measure => simp [intOf]; omega
    · obtain rfl : k = nP := by omega
      have hIn : Hid (inT LP t = db) := by show _ = _; rw [← HINt.out]; exact hR.out
      obtain ⟨hO3, hG3⟩ := HGrow.out wr hB
      have HO3 := Lib.hid hO3
      have HG3 := Lib.hid hG3
      obtain ⟨s0, s1, s2, s3⟩ := (TBox.b HS.out hB).four
      clear hR cTm HGrow hO3 hG3 HInc HINt
      cases db with
      | true =>
        have HP : Hid (PartsR (B := B) (w0 := w0) W2 lo (.slice A0 k c0) LP wr (.slice A0 k c0) (t :: alls ((argsT t).take 0))) := ⟨pts, by rw [HLP.out]; show LP = putT LP t; unfold putT; rw [if_pos hIn.out], HO3.out, HG3.out⟩
        have hlenP : k ≤ 1000000 := hn0
        clear hIn HO3 HG3 HO hPt
        go_wp2_with fail
        go_loopw [0, 7] (fun v i wr0 => ∃ (v' : Value) (wr2 : World) (j : Nat), v' = v ∧ wr2 = wr0 ∧ j ≤ m ∧ i = .int .i64 j ∧ Hid (PartsR (B := B) (w0 := w0) W2 lo (.slice A0 k c0) LP wr2 v' (t :: alls ((argsT t).take j)))) (fun v i _ => m - (intOf i).toNat)
        case atStart => exact ⟨_, _, 0, rfl, rfl, by omega, rfl, HP⟩
        case round =>
          obtain ⟨v', wr2, j, rfl, rfl, hj, rfl, hP⟩ := hrel
          obtain ⟨pts2, hp1, hp2, hp3⟩ := hP.out
          obtain ⟨hX, hBr, hlo2⟩ := HBox.out wr2 v' hp3
          obtain ⟨q0, q1, q2, q3⟩ := hX.four
          by_cases hlt2 : j < m
          · obtain ⟨bb, o, x, A, M, Cc, rfl, hb, y0', y1', y2', y3', hx, hxA⟩ := IsT.at HI.out hlt2
            have y0 := (hBr.cell (p := ⟨bb, _, none⟩) hb).trans y0'
            have y1 := (hBr.cell (p := ⟨bb, _, none⟩) hb).trans y1'
            have y2 := (hBr.cell (p := ⟨bb, _, none⟩) hb).trans y2'
            have y3 := (hBr.cell (p := ⟨bb, _, none⟩) hb).trans y3'
            obtain ⟨hk2, hal, hsl⟩ := HStep.out j x hx
            have hln : pts2.length + size x ≤ 1000000 := by
              have h1 := congrArg List.length hp1
              rw [List.length_map] at h1
              have h2 := putsT_len (t :: alls ((argsT t).take j)) LP
              rw [HTl.out] at h2
              have h3 : LP.length = k := by rw [← HLP.out, List.length_map, HnP.out]
              have h4 := Hsz.out
              omega
            have cc := hk2 B w0 lo pts2 v' A M Cc wr2 hln HBl.out hlo2 hBr hxA hp2
            have HN := Lib.hid (show ∀ (w5 : World) (v5 : Value) (pts5 : List (Pt B w0)), pts5.map Pt.t = putsT (pts2.map Pt.t) (all x) → OwnT w5 lo v5 (pts5.map hdM) → Gq wr2 w5 v' v5 → PartsR (B := B) (w0 := w0) W2 lo (.slice A0 k c0) LP w5 v5 (t :: alls ((argsT t).take (j + 1))) from fun w5 v5 pts5 h1 h2 h3 => ⟨pts5, by rw [h1, hp1, hal, ← List.cons_append, putsT_app], h2, hp3.trans h3⟩)
            have hj0 : 0 ≤ (j : Int) := by omega
            have hj1 : (j : Int) < (m : Int) := by omega
            clear hx hxA hk2 hal hsl hP hp1 hp2 hp3 hX HStep y0' y1' y2' y3' hln
            generalize opT x = op' at *
            generalize nameT x = nm' at *
            generalize numT x = nu' at *
            go_wp2_with (go_at_call 76; ((with_reducible refine cc.mono ?_); rintro e w5 ⟨v5, pts5, rfl, hp5, ho5, hg5⟩; have HN5 := Lib.hid (HN.out w5 v5 pts5 hp5 ho5 hg5); clear hp5 ho5 hg5))
            go_roundw
            case rel => exact ⟨_, _, j + 1, rfl, rfl, by omega, by go_num, HN5⟩
            case measure => simp [intOf]; omega
          · obtain rfl : j = m := by omega
            clear hP HStep
            go_wp2
            go_ret
            exact ⟨_, pts2, rfl, by rw [hp1, HEnd.out], hp2, HQ.out _ _ hp3⟩
      | false =>
        obtain ⟨pt, hpt1, hpt2⟩ := hPt.out
        obtain ⟨W4, hW4, hB4, hs4, S4⟩ := box1 wr op nm nu a m c
        obtain ⟨s0', s1', s2', s3'⟩ := S4.four
        have hown4 : W4.ownsRow lo 24 4 (.slice A0 k c0) k (flatH (pts.map hdM)) := by
          have h := HO3.out.below hB4
          unfold OwnT at h
          rw [len_pts, HnP.out] at h
          exact h
        have hnews4 : ∀ j u, ([Value.int .i64 op, .string nm, .int .i64 nu, .slice a m c])[j]? = some u → W4.cell? ((⟨wr.heap.size, 0, none⟩ : Addr).add j) = some u := fun j u hj => by
          rw [Go.WideShapes.add_plain, Nat.zero_add]
          rcases j with _ | _ | _ | _ | j
          · simp at hj; subst hj; exact s0'
          · simp at hj; subst hj; exact s1'
          · simp at hj; subst hj; exact s2'
          · simp at hj; subst hj; exact s3'
          · simp at hj
        have HFin := Lib.hid (show ∀ (w6 : World) (gn cn : Nat), w6.ownsRow lo 24 4 (.slice (some ⟨gn, 0, none⟩) (k + 1) cn) (k + 1) (flatH (pts.map hdM) ++ [Value.int .i64 op, .string nm, .int .i64 nu, .slice a m c]) → W4.grownBy w6 (Value.slice A0 k c0).ownBlock → ((Value.slice A0 k c0).ownBlock = some gn ∨ gn = W4.heap.size) → PartsR (B := B) (w0 := w0) W2 lo (.slice A0 k c0) LP w6 (.slice (some ⟨gn, 0, none⟩) (k + 1) cn) (t :: alls ((argsT t).take 0)) from fun w6 gn cn h1 h2 h3 => by
          refine ⟨pts ++ [pt], ?_, ?_, HG3.out.trans (Gq.trans (b := W4) (v := .slice A0 k c0) ⟨⟨hB4.os, hB4.tape, hB4.output, hB4.size, fun k hk _ => hB4.block k hk⟩, .inl rfl⟩ ⟨h2, ?_⟩)⟩
          · rw [List.map_append, HLP.out]
            show LP ++ [pt.t] = putT LP t
            unfold putT
            rw [hpt1, if_neg (by rw [hIn.out]; simp)]
          · unfold OwnT
            rw [List.map_append, flat_app, List.length_append, len_pts, HnP.out]
            show w6.ownsRow lo _ 4 _ (k + 1) (flatH (pts.map hdM) ++ flatH [hdM pt])
            rw [hpt2]
            unfold flatH hdOf at *
            rw [HHd.out]
            exact h1
          · rcases h3 with h3 | h3
            · exact .inl h3.symm
            · exact .inr ⟨gn, rfl, by rw [h3]; exact Nat.le_refl _⟩)
        have hone4 : ∀ u ∈ [Value.int .i64 op, .string nm, .int .i64 nu, .slice a m c], u.oneCell' = true := fun u hu => by
          simp at hu
          rcases hu with rfl | rfl | rfl | rfl <;> rfl
        have hlenP : k + 1 ≤ 1000001 := by omega
        have hzz1 := hB.size
        have hzz4 := hB4.size
        have hz5 : wr.heap.size < W4.heap.size := by omega
        have hz6 : lo ≤ W4.heap.size := by omega
        clear hIn HO3 HG3 HO hPt S4 hs4
        generalize flatH (pts.map hdM) = XS at *
        go_wp2_with (at_builtin; ((refine wpList_append_lies _ rfl (.tmp 25) (.tmp 27) _ rfl lo 24 i0 _ 4 56 Try.underlying22 hi0 hz0 hz1 hz2 rfl (by omega) (.slice A0 k c0) k XS rfl hown4 ⟨wr.heap.size, 0, none⟩ 1 1 _ rfl rfl hnews4 hone4 (by omega) (by unfold maxLen; omega) (by omega) (by omega) W4.heap.size rfl ?_); intro gn cn w6 hown6 hgrow hat hlt6; have HP := Lib.hid (HFin.out w6 gn cn hown6 hgrow hat)))
        go_loopw [0, 7] (fun v i wr0 => ∃ (v' : Value) (wr2 : World) (j : Nat), v' = v ∧ wr2 = wr0 ∧ j ≤ m ∧ i = .int .i64 j ∧ Hid (PartsR (B := B) (w0 := w0) W2 lo (.slice A0 k c0) LP wr2 v' (t :: alls ((argsT t).take j)))) (fun v i _ => m - (intOf i).toNat)
        case atStart => exact ⟨_, _, 0, rfl, rfl, by omega, rfl, HP⟩
        case round =>
          obtain ⟨v', wr2, j, rfl, rfl, hj, rfl, hP⟩ := hrel
          obtain ⟨pts2, hp1, hp2, hp3⟩ := hP.out
          obtain ⟨hX, hBr, hlo2⟩ := HBox.out wr2 v' hp3
          obtain ⟨q0, q1, q2, q3⟩ := hX.four
          by_cases hlt2 : j < m
          · obtain ⟨bb, o, x, A, M, Cc, rfl, hb, y0', y1', y2', y3', hx, hxA⟩ := IsT.at HI.out hlt2
            have y0 := (hBr.cell (p := ⟨bb, _, none⟩) hb).trans y0'
            have y1 := (hBr.cell (p := ⟨bb, _, none⟩) hb).trans y1'
            have y2 := (hBr.cell (p := ⟨bb, _, none⟩) hb).trans y2'
            have y3 := (hBr.cell (p := ⟨bb, _, none⟩) hb).trans y3'
            obtain ⟨hk2, hal, hsl⟩ := HStep.out j x hx
            have hln : pts2.length + size x ≤ 1000000 := by
              have h1 := congrArg List.length hp1
              rw [List.length_map] at h1
              have h2 := putsT_len (t :: alls ((argsT t).take j)) LP
              rw [HTl.out] at h2
              have h3 : LP.length = k := by rw [← HLP.out, List.length_map, HnP.out]
              have h4 := Hsz.out
              omega
            have cc := hk2 B w0 lo pts2 v' A M Cc wr2 hln HBl.out hlo2 hBr hxA hp2
            have HN := Lib.hid (show ∀ (w5 : World) (v5 : Value) (pts5 : List (Pt B w0)), pts5.map Pt.t = putsT (pts2.map Pt.t) (all x) → OwnT w5 lo v5 (pts5.map hdM) → Gq wr2 w5 v' v5 → PartsR (B := B) (w0 := w0) W2 lo (.slice A0 k c0) LP w5 v5 (t :: alls ((argsT t).take (j + 1))) from fun w5 v5 pts5 h1 h2 h3 => ⟨pts5, by rw [h1, hp1, hal, ← List.cons_append, putsT_app], h2, hp3.trans h3⟩)
            have hj0 : 0 ≤ (j : Int) := by omega
            have hj1 : (j : Int) < (m : Int) := by omega
            clear hx hxA hk2 hal hsl hP hp1 hp2 hp3 hX HStep y0' y1' y2' y3' hln
            generalize opT x = op' at *
            generalize nameT x = nm' at *
            generalize numT x = nu' at *
            go_wp2_with (go_at_call 76; ((with_reducible refine cc.mono ?_); rintro e w5 ⟨v5, pts5, rfl, hp5, ho5, hg5⟩; have HN5 := Lib.hid (HN.out w5 v5 pts5 hp5 ho5 hg5); clear hp5 ho5 hg5))
            go_roundw
            case rel => exact ⟨_, _, j + 1, rfl, rfl, by omega, by go_num, HN5⟩
            case measure => simp [intOf]; omega
          · obtain rfl : j = m := by omega
            clear hP HStep
            go_wp2
            go_ret
            exact ⟨_, pts2, rfl, by rw [hp1, HEnd.out], hp2, HQ.out _ _ hp3⟩
theorem Parts_any (t : Tm) : PartsOk t := Tm.ind Parts_step t
end Go.Proofs.Ytnodcpifbcabmaa.Mt
