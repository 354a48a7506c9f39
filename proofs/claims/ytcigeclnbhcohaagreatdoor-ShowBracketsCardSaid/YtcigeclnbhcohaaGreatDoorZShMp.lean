/-
  What is proved: the texts of some terms, each by a closure over a scope; a name with its arguments in brackets.
-/
import Derived.Test.YtcigeclnbhcohaaGreatDoorZShE
namespace Go.Proofs.YtcigeclnbhcohaaGreatDoor.Sh
open Go.RowKit L T C
set_option linter.unusedVariables false
set_option linter.unusedSimpArgs false
set_option maxRecDepth 100000

/-! a row of texts that is filled from the front -/
def RowK (w : World) (g : Nat) (D : List ByteArray) (K : List Value) : Prop := Blk w g (vsS D ++ K.drop D.length).toArray 9
theorem RowK.set {w : World} {g : Nat} {D : List ByteArray} {K : List Value} (h : RowK w g D K) (hl : D.length < K.length) (s : ByteArray) : RowK (w.setCell ⟨g, D.length, none⟩ (.string s)) g (D ++ [s]) K := by
  have h2 := Blk.set h D.length (.string s)
  have e : ((vsS D ++ K.drop D.length).toArray).setIfInBounds D.length (.string s) = (vsS (D ++ [s]) ++ K.drop (D ++ [s]).length).toArray := by
    apply Array.ext'
    rw [Array.toList_setIfInBounds]
    show (vsS D ++ K.drop D.length).set _ _ = _
    rw [List.set_append_right _ _ (by rw [vsS_len]; exact Nat.le_refl _), vsS_len, Nat.sub_self, List.drop_eq_getElem_cons hl, List.set_cons_zero]
    simp [vsS]
  rw [e] at h2
  exact h2
theorem RowK.rowS {w : World} {g : Nat} {D : List ByteArray} {K : List Value} (h : RowK w g D K) : RowS w g 0 D := fun k hk => by
  rw [Nat.zero_add]
  refine (Blk.cell h k).trans ?_
  have hk2 : k < (vsS D).length := by rw [vsS_len]; exact hk
  rw [List.getElem?_toArray, List.getElem?_append_left hk2]
  simp [vsS, hk]
theorem RowK.b {w w' : World} {g : Nat} {D : List ByteArray} {K : List Value} (h : RowK w g D K) (hb : Below w.heap.size w w') : RowK w' g D K := Blk.below h hb
theorem mk_row (n : Nat) (hn : n ≤ 1000000) : ∃ K : List Value, K.length = n ∧ ∀ w : World, (Instr.makeSlice 48 (.int .i64 (n : Int)) (.int .i64 (n : Int))).run Tryz.prog w = .ok (.slice (some ⟨w.heap.size, 0, none⟩) n n) (w.alloc (.cells K.toArray 9)) := by
  obtain ⟨i0, hi, hz0, hz1, hz2⟩ := info_parts strI
  refine ⟨(madeCells (Value.string ⟨#[]⟩).cells (n * 1)).toList, by simp [madeCells], fun w => ?_⟩
  have hr := run_make (P := Tryz.prog) w 48 9 i0 _ Tryz.underlying48 hi hz0 .i64 .i64 n n (by omega) (by omega) (by rw [hz2]; omega) (by omega)
  simp only [Int.toNat_natCast, hz1] at hr
  exact hr

/-- the text of this term, by a scope, in every world that has grown since W -/
def TermOk (W : World) (bs : List ByteArray) (t : Tm) : Prop :=
  ∀ (z : Sv) (fr : List ByteArray) (m : Int) (a : Option Addr) (n c : Nat) (w : World), Below W.heap.size W w → z.ok w fr bs → ArW w t a n c → 0 ≤ m → m ≤ 5 →
    Calls Tryz.prog 33 #[z.val, .agg #[.int .i64 (opT t), .string (nameT t), .int .i64 (numT t), .slice a n c], .int .i64 m] w fun e w' => e = .returned (.string (tP bs m t)) ∧ Below w.heap.size w w'

theorem clo_any {W : World} {bs : List ByteArray} {t : Tm} (hok : TermOk W bs t) (z : Sv) (fr : List ByteArray) (g : Nat) (a : Option Addr) (n c : Nat) (w : World) (hw : Below W.heap.size W w) (hz : z.ok w fr bs) (hg : ScB w g z.a z.n z.c z.b z.m z.d) (hA : ArW w t a n c) :
    Calls Tryz.prog 93 #[.agg #[.int .i64 (opT t), .string (nameT t), .int .i64 (numT t), .slice a n c], .pointer (some ⟨g, 0, none⟩)] w fun e w' => e = .returned (.string (tX bs t)) ∧ Below w.heap.size w w' := by
  obtain ⟨W1, hW1, hB1, hs1, S1⟩ := box1 w (opT t) (nameT t) (numT t) a n c
  have ct := hok z fr 5 a n c W1 (hw.trans (hB1.mono hw.size)) (hz.bl hB1) (ArW.b hA hB1) (by omega) (by omega)
  rw [tP5] at ct
  obtain ⟨s0, s1, s2, s3⟩ := S1.four
  obtain ⟨g0, g1⟩ := (hg.bl hB1).two
  unfold Sv.val at ct
  clear hok hz hg hA S1 hw
  generalize tX bs t = R at *
  generalize opT t = op at *
  generalize nameT t = nm at *
  generalize numT t = nu at *
  obtain ⟨za, zn, zc, zb, zm, zd⟩ := z
  dsimp only at *
  go_enter Tryz.func93, Tryz.ntmps93
  go_wp2_with (go_at_call 33; ((with_reducible refine ct.mono ?_); rintro e w2 ⟨rfl, hb2⟩))
  go_ret
  exact ⟨rfl, bel_trans hB1 hb2⟩

set_option maxHeartbeats 8000000 in
theorem mapped_any {W : World} {bs : List ByteArray} (l : List Tm) (hok : ∀ x ∈ l, TermOk W bs x) (z : Sv) (fr : List ByteArray) (g : Nat) (a : Option Addr) (n c : Nat) (w : World) (hw : Below W.heap.size W w) (hz : z.ok w fr bs) (hg : ScB w g z.a z.n z.c z.b z.m z.d) (hT : TsW w a n c l) (hn : n ≤ 1000000) (h0 : 0 < n) :
    Calls Tryz.prog 92 #[.slice a n c, .func (.func 93) #[] #[.pointer (some ⟨g, 0, none⟩)]] w fun e w' => ∃ h, e = .returned (.slice (some ⟨h, 0, none⟩) n n) ∧ RowS w' h 0 (tXs bs l) ∧ h < w'.heap.size ∧ Below w.heap.size w w' := by
  obtain ⟨K, hK, hmk⟩ := mk_row n hn
  obtain ⟨W2, hW2, hB2, hs2, R2⟩ : ∃ W2, w.alloc (.cells K.toArray 9) = W2 ∧ Below w.heap.size w W2 ∧ W2.heap.size = w.heap.size + 1 ∧ Blk W2 w.heap.size K.toArray 9 := ⟨_, rfl, bel_alloc (Below.refl _ _) _, by simp, Blk.new w _ _⟩
  have hlen : l.length = n := hT.1.symm
  have hgw : g < w.heap.size := Blk.lt hg
  have cT : ∀ (k : Nat) (t : Tm), l[k]? = some t → ∀ a' n' c' w', Below w.heap.size w w' → ArW w' t a' n' c' → _ := fun k t hk a' n' c' w' h1 h2 =>
    clo_any (hok t (List.mem_of_getElem? hk)) z fr g a' n' c' w' (hw.trans (h1.mono hw.size)) (hz.bl h1) (hg.bl h1) h2
  have hfin : ∀ w' : World, RowK w' w.heap.size (tXs bs (l.take n)) K → Below w.heap.size w w' → w.heap.size < w'.heap.size → (∃ h, Ending.returned (.slice (some ⟨w.heap.size, 0, none⟩) n n) = .returned (.slice (some ⟨h, 0, none⟩) n n) ∧ RowS w' h 0 (tXs bs l) ∧ h < w'.heap.size ∧ Below w.heap.size w w') := fun w' h1 h2 h3 => by
    rw [List.take_of_length_le (by omega)] at h1
    exact ⟨_, rfl, h1.rowS, h3, h2⟩
  have hsx : ∀ (k : Nat) (t : Tm), l[k]? = some t → tXs bs (l.take (k + 1)) = tXs bs (l.take k) ++ [tX bs t] := fun k t h => by
    obtain ⟨hk, rfl⟩ := List.getElem?_eq_some_iff.1 h
    rw [tXs_map, tXs_map, List.take_succ_eq_append_getElem hk, List.map_append]; rfl
  have hsl : ∀ k, k ≤ n → (tXs bs (l.take k)).length = k := fun k h => by rw [tXs_map]; simp; omega
  have Hfin := Lib.hid hfin
  have Hsx := Lib.hid hsx
  have Hsl := Lib.hid hsl
  have HT := Lib.hid cT
  have HTs := Lib.hid hT
  have HB2 := Lib.hid hB2
  have HR0 : Hid (RowK W2 w.heap.size (tXs bs (l.take 0)) K) := R2
  have hlt2 : w.heap.size < W2.heap.size := by omega
  clear hok hz hg hT cT hfin hsx hsl hlen hB2 R2 hs2
  generalize htX : tX bs = TX at *
  generalize htXs : tXs bs = TXS at *
  clear htX htXs
  have k1 : ((n : Int) == 0) = false := beq_no' (by omega)
  have k2 : ¬ n = 0 := by omega
  go_enter Tryz.func92, Tryz.ntmps92
  go_wp2
  go_loopw [16] (fun i wr0 => ∃ (wr : World) (k : Nat), wr = wr0 ∧ k ≤ n ∧ i = .int .i64 k ∧ w.heap.size < wr.heap.size ∧ Hid (RowK wr w.heap.size (TXS (l.take k)) K) ∧ Hid (Below w.heap.size w wr)) (fun i _ => n - (intOf i).toNat)
  case atStart => exact ⟨_, 0, rfl, by omega, rfl, hlt2, HR0, HB2⟩
  case round =>
    obtain ⟨wr, k, rfl, hk, rfl, hlt3, hRow, hBw⟩ := hrel
    by_cases hlt : k < n
    · obtain ⟨bb, o, x, a', n', c', rfl, hb, y0, y1, y2, y3, hx, hA⟩ := (TsW.b HTs.out hBw.out).at hlt
      obtain ⟨W5, hW5, hB5, hs5, T5⟩ := box1 wr (opT x) (nameT x) (numT x) a' n' c'
      obtain ⟨t0, t1, t2, t3⟩ := T5.four
      have ct := HT.out k x hx a' n' c' W5 (bel_trans hBw.out hB5) (ArW.b hA hB5)
      have hk0 : 0 ≤ (k : Int) := by omega
      have hk1 : (k : Int) < (n : Int) := by omega
      have Hhx := Lib.hid hx
      clear hx hA T5 HT HTs
      have hfr : ∀ w', Below W5.heap.size W5 w' → RowK w' w.heap.size (TXS (l.take k)) K := fun w' h => RowK.b hRow.out (bel_trans hB5 h)
      have hD := Hsl.out k hk
      have hq : ∀ w', Below W5.heap.size W5 w' → w'.frozen? ⟨w.heap.size, k, none⟩ = false ∧ ∃ v, w'.cell? ⟨w.heap.size, k, none⟩ = some v := fun w' h => by
        have R7 := hfr w' h
        refine ⟨Blk.free R7 k, (vsS (TXS (l.take k)) ++ K.drop (TXS (l.take k)).length)[k]'(by simp [vsS_len]; omega), (Blk.cell R7 k).trans ?_⟩
        rw [List.getElem?_toArray]
        exact List.getElem?_eq_getElem _
      have HF := Lib.hid hfr
      have HDD := Lib.hid hD
      have HQ := Lib.hid hq
      clear hfr hD hq hRow
      generalize opT x = op at *
      generalize nameT x = nm at *
      generalize numT x = nu at *
      go_wp2_with (go_at_call 93; ((with_reducible refine ct.mono ?_); rintro e w7 ⟨rfl, hb7⟩; (have q7 := HQ.out w7 hb7); obtain ⟨q0, v0, v0e⟩ := q7))
      have R7 := HF.out w7 hb7
      have R8 := R7.set (by rw [HDD.out, hK]; exact hlt) (TX x)
      rw [HDD.out, ← Hsx.out k x Hhx.out] at R8
      have hbw7 : Below wr.heap.size wr w7 := bel_trans hB5 hb7
      have HR8 := Lib.hid R8
      go_roundw
      case rel => exact ⟨_, k + 1, rfl, by omega, by go_num, by have := hbw7.size; simp [World.setCell]; omega, HR8, Lib.hid ((bel_trans hBw.out hbw7).setCell (p := ⟨w.heap.size, k, none⟩) (Nat.le_refl _) _)⟩
      case measure => simp [intOf]; omega
    · obtain rfl : k = n := by omega
      go_wp2
      go_ret
      exact Hfin.out _ hRow.out hBw.out hlt3

set_option maxHeartbeats 4000000 in
theorem applied_any {W : World} (E : Env W) {bs : List ByteArray} (l : List Tm) (hok : ∀ x ∈ l, TermOk W bs x) (s : ByteArray) (hs : s.size ≤ 100) (ht : tot (tXs bs l) ≤ 1000000000) (z : Sv) (fr : List ByteArray) (a : Option Addr) (n c : Nat) (w : World) (hw : Below W.heap.size W w) (hz : z.ok w fr bs) (hT : TsW w a n c l) (hn : n ≤ 1000000) :
    Calls Tryz.prog 60 #[z.val, .string s, .slice a n c] w fun e w' => e = .returned (.string (apX s (tXs bs l))) ∧ Below w.heap.size w w' := by
  obtain ⟨W1, hW1, hB1, hs1, S1⟩ := sbox1 w z.a z.n z.c z.b z.m z.d
  have hlen : l.length = n := hT.1.symm
  have hXl : (tXs bs l).length = n := by rw [tXs_map, List.length_map, hlen]
  by_cases h0 : n = 0
  · have hr : apX s (tXs bs l) = s := by unfold apX; rw [if_pos (by omega)]
    rw [hr]
    clear hr hz hT S1 E ht hok hXl hlen
    subst h0
    unfold Sv.val
    obtain ⟨za, zn, zc, zb, zm, zd⟩ := z
    dsimp only at *
    go_enter Tryz.func60, Tryz.ntmps60
    go_wp2
    go_ret
    exact ⟨rfl, hB1⟩
  · have hr : apX s (tXs bs l) = s ++ par true (joinC (tXs bs l)) := by unfold apX; rw [if_neg (by omega)]
    have hw1 : Below W.heap.size W W1 := hw.trans (hB1.mono hw.size)
    have cM := mapped_any l hok z fr w.heap.size a n c W1 hw1 (hz.bl hB1) S1 (TsW.b hT hB1) hn (by omega)
    have hjs := joinC_size (tXs bs l)
    have hjs2 : (joinC (tXs bs l)).size ≤ 2000000000 := by omega
    have cP := fun w => par_any (joinC (tXs bs l)) true (by omega) w
    have cJ := fun (h : Nat) (w' : World) (h1 : RowS w' h 0 (tXs bs l)) (h2 : h < w'.heap.size) => E.join h n (tXs bs l) w' h1 h2 hXl.symm (by omega) (by omega) (by omega)
    have hps := par_size true (joinC (tXs bs l))
    have hps2 : (par true (joinC (tXs bs l))).size ≤ 2000000002 := by omega
    rw [hr]
    have k1 : ((n : Int) == 0) = false := beq_no' (by omega)
    clear hr hz hT S1 E ht hok hXl hlen hjs hps
    unfold Sv.val
    obtain ⟨za, zn, zc, zb, zm, zd⟩ := z
    dsimp only at *
    generalize par true (joinC (tXs bs l)) = P at *
    generalize joinC (tXs bs l) = J at *
    generalize tXs bs l = X at *
    go_enter Tryz.func60, Tryz.ntmps60
    go_wp2_with (first
      | (go_at_call 92; ((with_reducible refine cM.mono ?_); rintro e w2 ⟨h2, rfl, hR2, hl2, hb2⟩; have cj := cJ h2 w2 hR2 hl2))
      | (go_at_call 44; ((with_reducible refine cj.mono ?_); rintro e w3 ⟨rfl, hb3⟩))
      | (go_at_call 57; ((with_reducible refine (cP _).mono ?_); rintro e w4 ⟨rfl, hb4⟩)))
    go_ret
    exact ⟨rfl, bel_trans (bel_trans (bel_trans hB1 hb2) hb3) hb4⟩
end Go.Proofs.YtcigeclnbhcohaaGreatDoor.Sh
