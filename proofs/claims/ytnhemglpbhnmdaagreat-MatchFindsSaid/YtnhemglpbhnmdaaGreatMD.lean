/-
  What is proved: package match's set of names; the function that it matches by.
  What is proved: package match's pairs of a map, in the order of given names, in new memory.
-/
import Derived.Test.YtnhemglpbhnmdaaGreatZMtC
import Derived.Test.YtnhemglpbhnmdaaGreatBM
namespace Go.Proofs.YtnhemglpbhnmdaaGreat.Mt
open Go.RowKit L T C U
set_option linter.unusedVariables false
set_option linter.unusedSimpArgs false

set_option maxRecDepth 100000 in
set_option maxHeartbeats 4000000 in
theorem setOf_any (X : List ByteArray) (a : Option Addr) (n c : Nat) (w : World) (hX : IsS w a n X) (hn : n ≤ 1000000) (hs : ∀ x ∈ X, x.size ≤ maxLen) :
    Calls Tryz.prog 43 #[.slice a n c] w fun e w' => e = .returned (.map (some w.heap.size)) ∧ SetM w' w.heap.size X ∧ Below w.heap.size w w' := by
  have hl : n = X.length := hX.1
  have hmm := @run_makeMap Tryz.prog
  have hB1 : Below w.heap.size w (w.alloc (.map #[] 0)) := bel_alloc (Below.refl _ _) _
  have HM := Lib.hid (show SetM (w.alloc (.map #[] 0)) w.heap.size (X.take 0) from by rw [List.take_zero]; exact SetM.made w)
  have HX := Lib.hid hX
  have HS := Lib.hid hs
  have HE := Lib.hid (show X.take n = X from List.take_of_length_le (by omega))
  have HL := Lib.hid hl
  clear hX hs hl
  go_enter Tryz.func43, Tryz.ntmps43
  go_wp2
  go_loopw [9] (fun i wr0 => ∃ (wr : World) (k : Nat), wr = wr0 ∧ k ≤ n ∧ i = .int .i64 k ∧ Below w.heap.size w wr ∧ Hid (SetM wr w.heap.size (X.take k))) (fun i _ => n - (intOf i).toNat)
  case atStart => exact ⟨_, 0, rfl, by omega, rfl, hB1, HM⟩
  case round =>
    obtain ⟨wr, k, rfl, hk, rfl, hB, hM⟩ := hrel
    clear HM hB1 hmm
    by_cases hlt : k < n
    · obtain ⟨bb, o, x, rfl, hb, yw, hx, _⟩ := HX.out.at hlt
      have y0 := (hB.cell (p := ⟨bb, _, none⟩) hb).trans yw
      obtain ⟨w4, hrun, hM4, hg4⟩ := hM.out.put (by rw [List.length_take]; unfold maxLen; omega) x (HS.out x (List.mem_of_getElem? hx))
      have HM4 := Lib.hid (show SetM w4 w.heap.size (X.take (k + 1)) from by rw [List.take_add_one, hx]; exact hM4)
      have hB4 : Below w.heap.size w w4 := hB.grown hg4 hB.size (fun q hq => by injection hq with hq; omega)
      have hk0 : 0 ≤ (k : Int) := by omega
      have hk1 : (k : Int) < (n : Int) := by omega
      clear hM hM4 hg4 hx yw
      go_wp2
      go_roundw
      case rel => exact ⟨_, k + 1, rfl, by omega, by go_num, hB4, HM4⟩
      case measure => simp [intOf]; omega
    · obtain rfl : k = n := by omega
      have HM2 := Lib.hid (show SetM wr w.heap.size X from by rw [← HE.out]; exact hM.out)
      clear hM
      go_wp2
      go_ret
      exact ⟨rfl, HM2.out, hB⟩
set_option maxRecDepth 100000 in
/-- a matcher made: its two boxes and the one that holds it -/
theorem matcher_any (B : Nat) (X : List ByteArray) (g gs : Nat) (w : World) (hS : SetM w gs X) (hne : gs ≠ g) (hg : g < w.heap.size) (hB : B ≤ g) :
    Calls Tryz.prog 42 #[.map (some g), .map (some gs)] w fun e w' => e = .returned (clo (w.heap.size + 1) (w.heap.size + 2) w.heap.size) ∧ Ctx B X (w.heap.size + 1) (w.heap.size + 2) w.heap.size gs g w' ∧ Below w.heap.size w w' := by
  obtain ⟨W1, hW1⟩ : ∃ W1, (w.alloc (.cells #[.map (some g)] 68)).alloc (.cells #[.map (some gs)] 71) = W1 := ⟨_, rfl⟩
  have hb1 : Below w.heap.size w W1 := by rw [← hW1]; exact bel_alloc (bel_alloc (Below.refl _ _) _) _
  have hs1 : W1.heap.size = w.heap.size + 2 := by rw [← hW1]; simp
  have O1 : Blk W1 w.heap.size #[.map (some g)] 68 := by rw [← hW1]; exact Blk.below (Blk.new w _ _) (bel_alloc (Below.refl _ _) _)
  have V1 : Blk W1 (w.heap.size + 1) #[.map (some gs)] 71 := by
    rw [← hW1]
    have := Blk.new (w.alloc (.cells #[.map (some g)] 68)) #[.map (some gs)] 71
    rwa [World.size_alloc] at this
  obtain ⟨W3, hW3⟩ : ∃ W3, W1.alloc (.cells #[.nilFunc] 45) = W3 := ⟨_, rfl⟩
  have hb3 : Below W1.heap.size W1 W3 := by rw [← hW3]; exact bel_alloc (Below.refl _ _) _
  have M3 : Blk W3 (w.heap.size + 2) #[.nilFunc] 45 := by rw [← hW3, ← hs1]; exact Blk.new W1 _ _
  have k0 := Blk.cell M3 0
  have k1 := Blk.free M3 0
  obtain ⟨W2, hW2⟩ : ∃ W2, W3.setCell ⟨w.heap.size + 2, 0, none⟩ (clo (w.heap.size + 1) (w.heap.size + 2) w.heap.size) = W2 := ⟨_, rfl⟩
  have hb2 : Below W1.heap.size W1 W2 := by rw [← hW2]; exact below_set hb3 (by omega) _ _
  have M2 : Blk W2 (w.heap.size + 2) #[clo (w.heap.size + 1) (w.heap.size + 2) w.heap.size] 45 := by rw [← hW2]; exact blk_cell_set M3 _
  have hst : (store ⟨w.heap.size + 2, 0, none⟩ (clo (w.heap.size + 1) (w.heap.size + 2) w.heap.size)).run Tryz.prog W3 = .ok () W2 := by
    have k0' : W3.cell? ⟨w.heap.size + 2, 0, none⟩ = some .nilFunc := k0
    rw [run_store Tryz.prog W3 _ _ _ rfl, ← hW2]
    simp [k0', k1]
  have hBb := bel_trans hb1 hb2
  have HC := Lib.hid (show Ctx B X (w.heap.size + 1) (w.heap.size + 2) w.heap.size gs g W2 from ⟨Blk.below V1 hb2, M2, Blk.below O1 hb2, hS.b hBb, hne, by omega, by omega, by omega, hB, Nat.lt_of_lt_of_le hg hBb.size, by have := hBb.size; omega⟩)
  have m0 := Blk.cell M2 0
  clear O1 V1 M2 M3 hb1 hb2 hb3 hS
  unfold clo at hW2 m0 hst ⊢
  go_enter Tryz.func42, Tryz.ntmps42
  go_wp2
  go_ret
  exact ⟨rfl, HC.out, hBb⟩
end Go.Proofs.YtnhemglpbhnmdaaGreat.Mt
namespace Go.Proofs.YtnhemglpbhnmdaaGreat.Mt
open Go.RowKit L T C B U
set_option linter.unusedVariables false
set_option linter.unusedSimpArgs false

/-! rising names -/
theorem cmpN_trans {x y z : ByteArray} (h1 : cmpN x y < 0) (h2 : cmpN y z < 0) : cmpN x z < 0 := by
  have a := linN.rng x y
  have b := linN.rng y z
  have := linN.trans x y z (by omega) (by omega)
  omega
theorem rises_pair : ∀ {l : List Pr}, rises l → l.Pairwise (fun p q => cmpN p.nm q.nm < 0)
  | [], _ => List.Pairwise.nil
  | [p], _ => by simp
  | p :: q :: l, h => by
    have ih := rises_pair (l := q :: l) h.2
    refine List.pairwise_cons.2 ⟨fun x hx => ?_, ih⟩
    rcases List.mem_cons.1 hx with rfl | hx
    · exact h.1
    · exact cmpN_trans h.1 ((List.pairwise_cons.1 ih).1 x hx)
theorem cmpN_self (x : ByteArray) : ¬ cmpN x x < 0 := by have := (linN.eq x x).2 rfl; omega
theorem get_pair : ∀ {l : List Pr} {p : Pr}, l.Pairwise (fun p q => cmpN p.nm q.nm < 0) → p ∈ l → getU l p.nm = some p.t
  | [], p, _, h => by cases h
  | q :: l, p, hp, h => by
    have hp2 := List.pairwise_cons.1 hp
    rw [getU]
    by_cases e : (q.nm.toList == p.nm.toList) = true
    · rw [if_pos e]
      rcases List.mem_cons.1 h with rfl | h
      · rfl
      · have := hp2.1 p h
        rw [nm_eq.1 e] at this
        exact absurd this (cmpN_self _)
    · rw [if_neg e]
      rcases List.mem_cons.1 h with rfl | h
      · exact absurd (nm_eq.2 rfl) e
      · exact get_pair hp2.2 h
set_option maxRecDepth 100000 in
set_option maxHeartbeats 4000000 in
theorem pairs1_any (p : Pr) (B g b0 : Nat) (l : List Pr) (w : World) (hM : MapM B w g l) (hget : getU l p.nm = some p.t) (hb : Blk w b0 #[.map (some g)] 68) (hnm : p.nm.size ≤ maxLen) (hsz : size p.t ≤ 1000000) (hBw : B ≤ w.heap.size) :
    Calls Tryz.prog 81 #[.string p.nm, .pointer (some ⟨b0, 0, none⟩)] w fun e w' => RtP p w e w' := by
  obtain ⟨W2, hW2, hB2, hs2, R2⟩ := ubox1 w ⟨#[]⟩ 0 ⟨#[]⟩ 0 none 0 0
  obtain ⟨a, n, c, hrun, hA⟩ := (hM.b hBw hB2).find1 p.nm hnm p.t hget
  have cc := copy_rt p.t a n c W2 hsz (Ar.mono (Nat.le_trans hBw hB2.size) _ hA)
  have c0 := Blk.cell (Blk.below hb hB2) 0
  have HR := Lib.hid R2
  have HFin := Lib.hid (show ∀ (w3 : World) (a3 : Option Addr) (n3 c3 : Nat), ArP (Nw 0 0 W2.heap.size w3.heap.size) w3 p.t a3 n3 c3 → Below W2.heap.size W2 w3 → ∀ v0 v1 v2 v3 v4, RtP p w (.returned (.agg #[.string p.nm, .int .i64 (opT p.t), .string (nameT p.t), .int .i64 (numT p.t), .slice a3 n3 c3])) (put5 w3 w.heap.size v0 v1 v2 v3 v4) from fun w3 a3 n3 c3 h1 h2 v0 v1 v2 v3 v4 => by
    have q2 := h2.size
    exact ⟨a3, n3, c3, rfl, ArP.to (fun b hb => put5_other w3 _ b v0 v1 v2 v3 v4 (by unfold Nw at hb; omega)) (fun b hb => by rw [put5_size]; unfold Nw at hb ⊢; omega) _ h1, put5_below (bel_trans hB2 h2) (by omega) v0 v1 v2 v3 v4⟩)
  unfold put5 at HFin
  unfold RtT at cc
  have l0 := Blk.lt R2
  clear hA R2 hsz hM hget hb hnm hs2
  generalize opT p.t = op at *
  generalize nameT p.t = nm at *
  generalize numT p.t = nu at *
  generalize p.nm = x at *
  go_enter Tryz.func81, Tryz.ntmps81
  go_wp2_with (go_at_call 57; ((with_reducible refine cc.mono ?_); rintro e w4 ⟨a3, n3, c3, rfl, hF, hb4⟩; have Hn := Lib.hid (HFin.out w4 a3 n3 c3 hF hb4); clear hF; have R3 := UBox.b HR.out hb4; obtain ⟨r0, r1, r2, r3, r4⟩ := R3.free; obtain ⟨v0, v1, v2, v3, v4⟩ := R3.five; have F3 := UBox.put R3 x op nm nu a3 n3 c3; unfold put5 at F3; obtain ⟨y0, y1, y2, y3, y4⟩ := F3.five; clear R3 F3))
  simp [bodyPost, results, Tryz.results81, go_sem, y0, y1, y2, y3, y4]
  exact Hn.out _ _ _ _ _
set_option maxRecDepth 100000 in
set_option maxHeartbeats 8000000 in
theorem mappedM_any (l : List Pr) (hsz : ∀ p ∈ l, size p.t ≤ 1000000 ∧ p.nm.size ≤ maxLen) (hp : l.Pairwise (fun p q => cmpN p.nm q.nm < 0)) (b : Option Addr) (m d : Nat) (B g b0 : Nat) (w : World) (hm : m ≤ 1000000) (hG : IsS w b m (l.map Pr.nm)) (hM : MapM B w g l) (hb : Blk w b0 #[.map (some g)] 68) (hBw : B ≤ w.heap.size) :
    Calls Tryz.prog 78 #[.slice b m d, .func (.func 81) #[] #[.pointer (some ⟨b0, 0, none⟩)]] w fun e w' => ∃ A C, e = .returned (.slice A m C) ∧ OwnP w' w.heap.size (.slice A m C) l ∧ UP (fun b => w.heap.size ≤ b ∧ b < w'.heap.size) w' A m C l ∧ Below w.heap.size w w' := by
  by_cases hm0 : m = 0
  · subst hm0
    have hl : l = [] := List.length_eq_zero_iff.1 (by have := hG.1; rw [List.length_map] at this; exact this.symm)
    subst hl
    clear hG hsz hM hb hp
    go_enter Tryz.func78, Tryz.ntmps78
    go_wp2
    go_ret
    exact ⟨_, _, rfl, OwnP.nil _ _, ⟨rfl, Nat.le_refl _, Nat.zero_le _, fun _ => rfl, fun h => absurd h (by omega)⟩, Below.refl _ _⟩
  · have hmk := make_pairs m hm w
    have hmd := made_pairs m hm w
    obtain ⟨W1, hW1⟩ : ∃ W1, w.alloc (.cells (madeCells #[.string ⟨#[]⟩, .int .i64 0, .string ⟨#[]⟩, .int .i64 0, .slice none 0 0] (m * 5)) 33) = W1 := ⟨_, rfl⟩
    rw [hW1] at hmk hmd
    have hB1 : Below w.heap.size w W1 := by rw [← hW1]; exact bel_alloc (Below.refl _ _) _
    have hm1 : ((m : Int) == 0) = false := by simp; omega
    have P0 : PartU w w.heap.size l m 0 W1 := ⟨[], rfl, by simpa using hmd, fun j h t e => by simp at e⟩
    have HT := Lib.hid hG
    have HK := Lib.hid (show ∀ k x, l[k]? = some x → (size x.t ≤ 1000000 ∧ x.nm.size ≤ maxLen) ∧ getU l x.nm = some x.t from fun k x h => ⟨hsz x (List.mem_of_getElem? h), get_pair hp (List.mem_of_getElem? h)⟩)
    have HMM := Lib.hid hM
    have HBB := Lib.hid hb
    have HP0 := Lib.hid P0
    have HL := Lib.hid (show l.length = m from by have := hG.1; rw [List.length_map] at this; exact this.symm)
    clear hG hsz hmd P0 hW1 hM hb hp
    go_enter Tryz.func78, Tryz.ntmps78
    go_wp2
    go_loopw [16] (fun i wr0 => ∃ (wr : World) (k : Nat), wr = wr0 ∧ k ≤ m ∧ i = .int .i64 k ∧ Below w.heap.size w wr ∧ Hid (PartU w w.heap.size l m k wr)) (fun i _ => m - (intOf i).toNat)
    case atStart => exact ⟨_, 0, rfl, by omega, rfl, hB1, HP0⟩
    case round =>
      obtain ⟨wr, k, rfl, hk, rfl, hB, hR⟩ := hrel
      by_cases hlt : k < m
      · obtain ⟨x, hx⟩ : ∃ x, l[k]? = some x := ⟨_, List.getElem?_eq_getElem (by have := HL.out; omega)⟩
        obtain ⟨bb, o, xs, rfl, hb, yw, hxs, _⟩ := HT.out.at hlt
        rw [List.getElem?_map, hx] at hxs
        injection hxs with hxs
        subst hxs
        have y0 := (hB.cell (p := ⟨bb, _, none⟩) hb).trans yw
        obtain ⟨⟨hz1, hz2⟩, hz3⟩ := HK.out k x hx
        have cc := pairs1_any x B g b0 l wr (HMM.out.b hBw hB) hz3 (Blk.below HBB.out hB) hz2 hz1 (Nat.le_trans hBw hB.size)
        unfold RtP at cc
        have hB4 : Below wr.heap.size wr wr := Below.refl _ _
        have B4 := bel_trans hB hB4
        have Hx := Lib.hid hx
        have HGo := Lib.hid (show ∀ (w5 : World) (a : Option Addr) (n c : Nat), Below wr.heap.size wr w5 → ArP (Nw 0 0 wr.heap.size w5.heap.size) w5 x.t a n c → _ from fun w5 a n c h5 hA => PartU.go hR.out hlt hx hB4 h5 hA)
        unfold huOf at HGo
        clear hx HK yw hz1 hz2 hz3
        generalize opT x.t = op' at *
        generalize nameT x.t = nm' at *
        generalize numT x.t = nu' at *
        generalize x.nm = xn at *
        have hk0 : 0 ≤ (k : Int) := by omega
        have hk1 : (k : Int) < (m : Int) := by omega
        go_wp2_with (go_at_call 81; ((with_reducible refine cc.mono ?_); rintro e w5 ⟨a5, n5, c5, rfl, hF, hb5⟩; obtain ⟨⟨q0, q1, q2, q3, q4⟩, ⟨g0, g1, g2, g3, g4⟩, Hn⟩ := HGo.out w5 a5 n5 c5 hb5 hF; clear hF))
        go_roundw
        case rel => exact ⟨_, k + 1, rfl, by omega, by go_num, setU_below (bel_trans B4 hb5) (Nat.le_refl _) k ⟨xn, op', nm', nu', a5, n5, c5⟩, Hn⟩
        case measure => simp [intOf]; omega
      · obtain rfl : k = m := by omega
        have Hd := Lib.hid (PartU.done hR.out HL.out (Nat.le_refl _))
        clear hR
        go_wp2
        go_ret
        exact ⟨_, _, rfl, Hd.out.1, Hd.out.2, hB⟩
end Go.Proofs.YtnhemglpbhnmdaaGreat.Mt
