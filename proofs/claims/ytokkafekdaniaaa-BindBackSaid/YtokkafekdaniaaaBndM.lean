/-
  What is proved: what package bind's Loose, LooseTerm and Closed return: the loose numbers, sorted, each once.
-/
import Derived.Test.YtokkafekdaniaaaBndL
import Derived.Test.YtokkafekdaniaaaBndH
import Derived.Test.YtokkafekdaniaaaShelf
import Derived.Sort.OwnSortedInts
namespace Go.Proofs.Ytokkafekdaniaaa.B
open Go.RowKit L T C
set_option linter.unusedVariables false
set_option linter.unusedSimpArgs false

def srt (X : List Int) : List Int := X.mergeSort fun x y => decide (x ≤ y)
theorem srt_len (X : List Int) : (srt X).length = X.length := by unfold srt; exact List.length_mergeSort X
theorem sort_own {w : World} {base : Nat} {A : Option Addr} {c : Nat} {X : List Int} (h : OwnI w base (.slice A X.length c) X) (hl : X.length ≤ 1000000) :
    Calls Try.prog 117 #[.slice A X.length c] w fun e w' => e = .returned (.tuple #[]) ∧ OwnI w' base (.slice A X.length c) (srt X) ∧ w.grownBy w' (Value.slice A X.length c).ownBlock := by
  by_cases h0 : X = []
  · subst h0
    refine (Try.slices_Sort_int_none A c w).mono fun e w' ⟨he, hw⟩ => ?_
    subst hw
    have e0 : srt [] = [] := by simp [srt]
    rw [e0]
    exact ⟨he, h, rfl, rfl, rfl, Nat.le_refl _, fun _ _ _ => rfl⟩
  · have hp : 0 < X.length := List.length_pos_iff.2 h0
    rcases h.2 with ⟨hv, hn⟩ | ⟨g, cap, cur, hv, hb, hg, hnc, hcm, hcs, ht⟩
    · omega
    · injection hv with e1 e2 e3
      subst e1 e3
      rw [Nat.mul_one] at ht
      have hh : Go.Sort.Holds (Value.int .i64) w g 0 X.toArray := holds_of_blockI hg ht
      refine (Try.slices_Sort_int g 0 c X w hh (Array.getElem?_eq_some_iff.1 hg).1 (by omega)).mono fun e w' ⟨he, n, os, hw⟩ => ?_
      subst hw
      refine ⟨he, ?_, grownBy_sortedI _⟩
      have := ownsRow_sortedI (ts := srt X) (n := n) (os := os) (srt_len X) hb hg hnc hcm hcs
      unfold OwnI
      rw [srt_len]
      exact this
theorem compact_le (X : List Int) : (Lib.compact X).length ≤ X.length := by
  unfold Lib.compact Lib.compactUpTo
  rw [List.length_map]
  have := List.length_filter_le (Lib.keeps X.toArray) (List.range X.length)
  rwa [List.length_range] at this
theorem compact_own {w : World} {base : Nat} {A : Option Addr} {c : Nat} {X : List Int} (h : OwnI w base (.slice A X.length c) X) (hl : X.length ≤ 1000000) :
    Calls Try.prog 118 #[.slice A X.length c] w fun e w' => e = .returned (.slice A (Lib.compact X).length c) ∧ OwnI w' base (.slice A (Lib.compact X).length c) (Lib.compact X) ∧ w.grownBy w' (Value.slice A X.length c).ownBlock := by
  by_cases h0 : X = []
  · subst h0
    refine (Try.slices_Compact_int_empty A c w).mono fun e w' ⟨he, hw⟩ => ?_
    subst hw
    exact ⟨he, h, rfl, rfl, rfl, Nat.le_refl _, fun _ _ _ => rfl⟩
  · have hp : 0 < X.length := List.length_pos_iff.2 h0
    rcases h.2 with ⟨hv, hn⟩ | ⟨g, cap, cur, hv, hb, hg, hnc, hcm, hcs, ht⟩
    · omega
    · injection hv with e1 e2 e3
      subst e1 e3
      rw [Nat.mul_one] at ht
      have hh : Go.Sort.Holds (Value.int .i64) w g 0 X.toArray := holds_of_blockI hg ht
      refine (Try.slices_Compact_int g 0 c X w hh (by omega) hnc).mono fun e w' ⟨he, q, hw⟩ => ?_
      have hle := compact_le X
      have hlen : (Lib.compact X ++ List.replicate (X.length - (Lib.compact X).length) 0).length = X.length := by simp; omega
      have hgr : w' = Go.Sort.grow w' #[] := (Go.Sort.grow_empty w').symm
      rw [hgr, hw]
      refine ⟨he, ⟨by rw [vsI_len]; omega, .inr ⟨g, c, _, rfl, hb, heap_sortedI _ hg, by omega, hcm, by simp [Go.Sort.putCells, hcs], ?_⟩⟩, grownBy_sortedI _⟩
      have hall := take_putCellsI cur (Lib.compact X ++ List.replicate (X.length - (Lib.compact X).length) 0) (by omega)
      rw [hlen] at hall
      rw [Nat.mul_one]
      have h2 := congrArg (List.take (Lib.compact X).length) hall
      rw [List.take_take, Nat.min_eq_left hle] at h2
      rw [h2, List.map_append, List.take_append_of_le_length (by simp), List.take_of_length_le (by simp)]
      rfl
/-- a list of numbers is returned that reads so -/
def NsW (w : World) (A : Option Addr) (n c : Nat) (X : List Int) : Prop := n = X.length ∧ n ≤ c ∧ c ≤ maxLen ∧ (A = none → c = 0) ∧ (0 < n → ∃ g, A = some ⟨g, 0, none⟩ ∧ g < w.heap.size ∧ ∀ k (h : k < X.length), w.cell? ⟨g, k, none⟩ = some (.int .i64 X[k]))
theorem NsW.b {w w' : World} {A : Option Addr} {n c : Nat} {X : List Int} (h : NsW w A n c X) (hb : Below w.heap.size w w') : NsW w' A n c X :=
  ⟨h.1, h.2.1, h.2.2.1, h.2.2.2.1, fun hn => by
    obtain ⟨g, e, hg, hc⟩ := h.2.2.2.2 hn
    exact ⟨g, e, Nat.lt_of_lt_of_le hg hb.size, fun k hk => (hb.cell (p := ⟨g, k, none⟩) hg).trans (hc k hk)⟩⟩
theorem OwnI.ns {w : World} {base : Nat} {A : Option Addr} {n c : Nat} {X : List Int} (h : OwnI w base (.slice A n c) X) : NsW w A n c X := by
  obtain ⟨A', c', hv, h1, h2, h3, h4⟩ := h.slice
  injection hv with e1 e2 e3
  subst e1 e2 e3
  refine ⟨rfl, h1, h2, h3, fun hn => ?_⟩
  obtain ⟨g, rfl, _, hg⟩ := h4 hn
  exact ⟨g, rfl, hg, fun k hk => h.at hk⟩
def RtI (X : List Int) (w : World) (e : Ending) (w' : World) : Prop := ∃ A c, e = .returned (.slice A X.length c) ∧ NsW w' A X.length c X ∧ Below w.heap.size w w'
def looseL (t : Cl) : List Int := Lib.compact (srt (lsC 0 t))
theorem looseBoxes (w : World) (o : Int) (s z : ByteArray) (k : SS) (a : Option Addr) (n c : Nat) :
    ∃ W, (w.alloc (.cells #[.int .i64 o, .string s, .string z, .slice k.a k.n k.c, .slice a n c] 43)).alloc (.cells #[.slice none 0 0] 60) = W ∧ Below w.heap.size w W ∧ W.heap.size = w.heap.size + 2 ∧ CBox W w.heap.size o s z k a n c ∧ Blk W (w.heap.size + 1) #[.slice none 0 0] 60 := by
  have b1 : CBox _ _ o s z k a n c := CBox.new w o s z k a n c
  have b2 := Blk.new (w.alloc (.cells #[.int .i64 o, .string s, .string z, .slice k.a k.n k.c, .slice a n c] 43)) #[.slice none 0 0] 60
  simp only [World.size_alloc] at b2
  exact ⟨_, rfl, bel_alloc (bel_alloc (Below.refl _ _) _) _, by simp, Blk.alloc b1 _, b2⟩
set_option maxRecDepth 100000 in
set_option maxHeartbeats 4000000 in
theorem Loose_any (t : Cl) (k : SS) (a : Option Addr) (n c : Nat) (w : World) (hsz : wt t ≤ 1000000) (hA : ArWC w t k a n c) :
    Calls Try.prog 54 #[.agg #[.int .i64 (opC t), .string (nmC t), .string (soC t), .slice k.a k.n k.c, .slice a n c]] w fun e w' => RtI (looseL t) w e w' := by
  obtain ⟨W, hW, hB, hs, S, N⟩ := looseBoxes w (opC t) (nmC t) (soC t) k a n c
  have hJ : JL (w.heap.size + 1) (w.heap.size + 2) [] W := ⟨none, 0, 0, N, OwnI.nil _ _, by omega, by omega⟩
  have cV := rvc_any (w.heap.size + 1) (w.heap.size + 2) w.heap.size w (by omega) (Nat.le_refl _) t k a n c 0 [] W hA hB hJ (by simpa using hsz) (Int.le_refl _) (by omega)
  rw [List.nil_append] at cV
  have hlen : (lsC 0 t).length ≤ 1000000 := by have := lsC_len t 0; omega
  have Hlen := Lib.hid hlen
  unfold RtI looseL
  obtain ⟨s0, s1, s2, s3, s4⟩ := S.five
  obtain ⟨ka, kn, kc⟩ := k
  dsimp only at *
  clear hA S hJ N
  generalize hX : lsC 0 t = X at *
  clear hX
  generalize opC t = op at *
  generalize nmC t = nm at *
  generalize soC t = so at *
  go_enter Try.func54, Try.ntmps54
  go_wp2_with (first
    | (go_at_call 115; ((with_reducible refine cV.mono ?_); rintro e w3 ⟨rfl, ⟨A, n3, C, hN3, ho3, -, hs3⟩, hb3, -⟩; obtain rfl : n3 = X.length := ho3.ns.1; have k0 := Blk.cell hN3 0; have cS := sort_own ho3 Hlen.out; have Ho3 := Lib.hid ho3; have HN3 := Lib.hid hN3; clear ho3 hN3))
    | (go_at_call 117; ((with_reducible refine cS.mono ?_); rintro e w4 ⟨rfl, ho4, hg4⟩; have hob : ∀ q, (Value.slice A X.length C).ownBlock = some q → w.heap.size + 2 ≤ q := (fun q hq => (Ho3.out.lt q hq).1); have gl3 := Blk.lt HN3.out; have k4 := (hg4.block (w.heap.size + 1) gl3 (fun e => by have := hob _ e.symm; omega)).trans HN3.out; have k40 := Blk.cell k4 0; have B4 := hb3.grown hg4 (by omega) (fun q hq => by have := hob q hq; omega); have ho4' : OwnI w4 (w.heap.size + 2) (.slice A (srt X).length C) (srt X) := (by rw [srt_len]; exact ho4); have cC := compact_own ho4' (by rw [srt_len]; exact Hlen.out); rw [srt_len] at cC; have hs4 := hg4.size; clear ho4 ho4'))
    | (go_at_call 118; ((with_reducible refine cC.mono ?_); rintro e w5 ⟨rfl, ho5, hg5⟩; have Ho5 := Lib.hid ho5; have B5 := B4.grown hg5 (by omega) (fun q hq => by have := hob q hq; omega); clear ho5)))
  go_ret
  exact ⟨A, C, rfl, Ho5.out.ns, B5⟩
set_option maxRecDepth 100000 in
set_option maxHeartbeats 4000000 in
theorem Closed_any (t : Cl) (k : SS) (a : Option Addr) (n c : Nat) (w : World) (hsz : wt t ≤ 1000000) (hA : ArWC w t k a n c) :
    Calls Try.prog 101 #[.agg #[.int .i64 (opC t), .string (nmC t), .string (soC t), .slice k.a k.n k.c, .slice a n c]] w fun e w' => e = .returned (.bool (decide ((looseL t).length = 0))) ∧ Below w.heap.size w w' := by
  obtain ⟨W, hW, hB, hs, S⟩ := cbox1 w (opC t) (nmC t) (soC t) k a n c
  have cL := Loose_any t k a n c W hsz (ArWC.b hA hB)
  obtain ⟨s0, s1, s2, s3, s4⟩ := S.five
  obtain ⟨ka, kn, kc⟩ := k
  dsimp only at *
  clear hA S
  generalize looseL t = X at *
  generalize opC t = op at *
  generalize nmC t = nm at *
  generalize soC t = so at *
  by_cases hX : X.length = 0
  · have e1 : decide (X.length = 0) = true := decide_eq_true hX
    rw [e1]
    have q1 : ((X.length : Int) == 0) = true := by simp [hX]
    go_enter Try.func101, Try.ntmps101
    go_wp2_with (go_at_call 54; ((with_reducible refine cL.mono ?_); rintro e w4 ⟨A, C, rfl, hN4, hb4⟩; have hc1 := hN4.2.1; have hc2 := hN4.2.2.1; clear hN4))
    go_ret
    exact ⟨rfl, bel_trans hB hb4⟩
  · have e1 : decide (X.length = 0) = false := decide_eq_false hX
    rw [e1]
    have q1 : ((X.length : Int) == 0) = false := beq_eq_false_iff_ne.2 (by omega)
    go_enter Try.func101, Try.ntmps101
    go_wp2_with (go_at_call 54; ((with_reducible refine cL.mono ?_); rintro e w4 ⟨A, C, rfl, hN4, hb4⟩; have hc1 := hN4.2.1; have hc2 := hN4.2.2.1; clear hN4))
    go_ret
    exact ⟨rfl, bel_trans hB hb4⟩
end Go.Proofs.Ytokkafekdaniaaa.B
