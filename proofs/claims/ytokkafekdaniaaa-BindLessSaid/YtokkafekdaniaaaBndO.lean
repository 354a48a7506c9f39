/-
  What is proved: the document's put, and base.Ints.
-/
import Derived.Test.YtokkafekdaniaaaBndM
import Derived.Test.YtokkafekdaniaaaBndN
namespace Go.Proofs.Ytokkafekdaniaaa.B
open Go.RowKit L T C
set_option linter.unusedVariables false
set_option linter.unusedSimpArgs false

theorem looseL_puts (t : Cl) : looseL t = puts [] (lsC 0 t) := compact_puts _
theorem NsW.at {w : World} {A : Option Addr} {n c : Nat} {X : List Int} (h : NsW w A n c X) {k : Nat} (hk : k < n) : ∃ g x, A = some ⟨g, 0, none⟩ ∧ g < w.heap.size ∧ w.cell? ⟨g, k, none⟩ = some (.int .i64 x) ∧ X[k]? = some x := by
  obtain ⟨g, e, hg, hc⟩ := h.2.2.2.2 (by omega)
  have hk2 : k < X.length := by rw [← h.1]; exact hk
  exact ⟨g, X[k], e, hg, hc k hk2, List.getElem?_eq_getElem hk2⟩
set_option maxRecDepth 100000 in
set_option maxHeartbeats 4000000 in
theorem Ints_any (A : Option Addr) (n c : Nat) (X : List Int) (A' : Option Addr) (n' c' : Nat) (Y : List Int) (w : World) (h1 : NsW w A n c X) (h2 : NsW w A' n' c' Y) :
    Calls Try.prog 53 #[.slice A n c, .slice A' n' c'] w fun e w' => e = .returned (.bool (decide (X = Y))) ∧ Below w.heap.size w w' := by
  have hn1 := h1.1
  have hn2 := h2.1
  have hc1 := h1.2.1
  have hc2 := h1.2.2.1
  have hd1 := h2.2.1
  have hd2 := h2.2.2.1
  obtain ⟨r, hr⟩ : ∃ r, decide (X = Y) = r := ⟨_, rfl⟩
  rw [hr]
  have Hr := Lib.hid hr
  clear hr
  by_cases hl : n = n'
  · subst hl
    have H1 := Lib.hid h1
    have H2 := Lib.hid h2
    have Hn1 := Lib.hid hn1
    have Hn2 := Lib.hid hn2
    have q0 : ((n : Int) != (n : Int)) = false := by simp
    have hnm : n ≤ 9223372036854775807 := by unfold maxLen at hc2; omega
    have HE : Hid (X.take 0 = Y.take 0) := Lib.hid rfl
    have HB0 : Hid (Below w.heap.size w w) := Lib.hid (Below.refl _ _)
    clear h1 h2 hn1 hn2 hc2 hd2
    go_enter Try.func53, Try.ntmps53
    go_wp2
    go_loopw [5] (fun i wr0 => ∃ (wr : World) (k : Nat), wr = wr0 ∧ k ≤ n ∧ i = .int .i64 k ∧ Hid (X.take k = Y.take k) ∧ Hid (Below w.heap.size w wr)) (fun i _ => n - (intOf i).toNat)
    case atStart => exact ⟨_, 0, rfl, by omega, rfl, HE, HB0⟩
    case round =>
      obtain ⟨wr, k, rfl, hk, rfl, hE, hBr⟩ := hrel
      by_cases hlt : k < n
      · obtain ⟨g, x, rfl, hg, z0, hx⟩ := NsW.at H1.out hlt
        obtain ⟨g', y, rfl, hg', z0', hy⟩ := NsW.at H2.out hlt
        have y0 := (hBr.out.cell (p := ⟨g, _, none⟩) hg).trans z0
        have y0' := (hBr.out.cell (p := ⟨g', _, none⟩) hg').trans z0'
        have Hx := Lib.hid hx
        have Hy := Lib.hid hy
        clear z0 z0' hx hy
        have hk0 : 0 ≤ (k : Int) := by omega
        have hk1 : (k : Int) < (n : Int) := by omega
        by_cases hxy : x = y
        · subst hxy
          have q1 : (x != x) = false := by simp
          have HE1 : Hid (X.take (k + 1) = Y.take (k + 1)) := Lib.hid (by rw [List.take_add_one, List.take_add_one, hE.out, Hx.out, Hy.out])
          clear hE Hx Hy H1 H2
          go_wp2
          go_quiet (fail)
          go_wp2
          go_roundw
          case rel => exact ⟨_, k + 1, rfl, by omega, by go_num, HE1, Lib.hid (below_drewN hBr.out _)⟩
          case measure => simp [intOf]; omega
        · have q1 : (x != y) = true := by simp [hxy]
          have q2 := Lib.hid (Hr.out.symm.trans (decide_eq_false (p := X = Y) (fun e => by
            have h1 := Hx.out
            have h2 := Hy.out
            rw [e, h2] at h1
            injection h1 with h1
            exact hxy h1.symm)))
          clear hE Hx Hy H1 H2 hxy
          go_wp2
          go_quiet (fail)
          go_wp2
          go_ret
          exact ⟨by rw [q2.out] <;> rfl, below_drewN hBr.out _⟩
      · obtain rfl : k = n := by omega
        have q2 := Lib.hid (Hr.out.symm.trans (decide_eq_true (p := X = Y) (by have := hE.out; rwa [List.take_of_length_le (by have := Hn1.out; omega), List.take_of_length_le (by have := Hn2.out; omega)] at this)))
        clear hE
        go_wp2
        go_ret
        exact ⟨by rw [q2.out] <;> rfl, hBr.out⟩
  · have q0 : ((n : Int) != (n' : Int)) = true := by simp; omega
    have q2 := Lib.hid (Hr.out.symm.trans (decide_eq_false (p := X = Y) (fun e => hl (by rw [hn1, hn2, e]))))
    clear h1 h2 hn1 hn2 hl
    go_enter Try.func53, Try.ntmps53
    go_wp2
    go_ret
    exact ⟨by rw [q2.out] <;> rfl, Below.refl _ _⟩
/-- what put has written so far -/
def PutI (w wr : World) (v : Value) (inn : Bool) (u : Int) (X : List Int) (i : Nat) : Prop :=
  Below w.heap.size w wr ∧ ∃ Y, OwnI wr w.heap.size v Y ∧ u ∉ X.take i ∧ Y.length ≤ 2 * i + 1 ∧ Y ++ (if inn then X.drop i else insI u (X.drop i)) = insI u X
set_option maxRecDepth 100000 in
set_option maxHeartbeats 4000000 in
theorem put_any (X : List Int) (A : Option Addr) (n c : Nat) (u : Int) (w : World) (hX : NsW w A n c X) (hl : X.length ≤ 1000000) :
    Calls Try.prog 172 #[.slice A n c, .int .i64 u] w fun e w' => RtI (putL X u) w e w' := by
  have hn := hX.1
  have hnm : n ≤ 1000000 := by omega
  have hc1 := hX.2.1
  have H1 := Lib.hid hX
  have Hn := Lib.hid hn
  have P0 : Hid (PutI w w (.slice none 0 0) false u X 0) := Lib.hid ⟨Below.refl _ _, [], OwnI.nil _ _, by simp, by simp, by simp⟩
  have HRet := Lib.hid (show ∀ wr, Below w.heap.size w wr → u ∈ X → RtI (putL X u) w (.returned (.slice A n c)) wr from fun wr hb hu => by
    have e : putL X u = X := by unfold putL; rw [if_pos hu]
    rw [e]
    exact ⟨A, c, by rw [← hn], by rw [← hn]; exact NsW.b hX hb, hb⟩)
  have HFin := Lib.hid (show ∀ wr v Y, Below w.heap.size w wr → OwnI wr w.heap.size v Y → u ∉ X → Y = insI u X → RtI (putL X u) w (.returned v) wr from fun wr v Y hb ho hu hY => by
    have e : putL X u = insI u X := by unfold putL; rw [if_neg hu]
    rw [e, ← hY]
    obtain ⟨A', c', rfl, _⟩ := ho.slice
    exact ⟨A', c', rfl, ho.ns, hb⟩)
  clear hX hn hl
  go_enter Try.func172, Try.ntmps172
  go_wp2
  go_loopw [5, 6, 7] (fun v b i wr0 => ∃ (wr : World) (k : Nat) (v' : Value) (inn : Bool), wr = wr0 ∧ k ≤ n ∧ v' = v ∧ b = .bool inn ∧ i = .int .i64 k ∧ Hid (PutI w wr v' inn u X k)) (fun _ _ i _ => n - (intOf i).toNat)
  case atStart => exact ⟨_, 0, _, false, rfl, by omega, rfl, rfl, rfl, P0⟩
  case round =>
    obtain ⟨wr, k, v, inn, rfl, hk, rfl, rfl, rfl, hR⟩ := hrel
    obtain ⟨hB, Y, hY, hu, hYl, hEq⟩ := hR.out
    have HB := Lib.hid hB
    have Hu := Lib.hid hu
    have HEq := Lib.hid hEq
    have hYm : Y.length + 1 + 1 ≤ 1000000000 := by omega
    have hsz0 : w.heap.size ≤ wr.heap.size := hB.size
    clear hR hB hu hEq
    by_cases hlt : k < n
    · obtain ⟨g, x, rfl, hg, z0, hx⟩ := NsW.at H1.out hlt
      have y0 := (HB.out.cell (p := ⟨g, _, none⟩) hg).trans z0
      have hdr : X.drop k = x :: X.drop (k + 1) := by
        obtain ⟨h1, rfl⟩ := List.getElem?_eq_some_iff.1 hx
        exact List.drop_eq_getElem_cons h1
      have htk : X.take (k + 1) = X.take k ++ [x] := by rw [List.take_add_one, hx]; rfl
      have Hx := Lib.hid hx
      clear z0 hx
      have hk0 : 0 ≤ (k : Int) := by omega
      have hk1 : (k : Int) < (n : Int) := by omega
      by_cases hxu : x = u
      · subst hxu
        have q1 : (x == x) = true := by simp
        have HF := Lib.hid (HRet.out wr HB.out (List.mem_of_getElem? Hx.out))
        clear hdr htk HEq
        go_wp2
        go_ret
        exact HF.out
      · have q1 : (x == u) = false := by simp [hxu]
        have hu2 : u ∉ X.take (k + 1) := by rw [htk, List.mem_append, List.mem_singleton]; exact fun h => h.elim Hu.out (fun e => hxu e.symm)
        have Hu2 := Lib.hid hu2
        clear hu2 htk
        have hnw : ∀ (W : World), w.heap.size ≤ W.heap.size → w.heap.size ≤ (W.alloc (.cells #[.int .i64 x] 3)).heap.size := fun W h => by simp; omega
        cases inn with
        | true =>
          have HN := Lib.hid (show Y ++ [x] ++ (if (true : Bool) then X.drop (k + 1) else insI u (X.drop (k + 1))) = insI u X by have := HEq.out; rw [if_pos rfl, hdr] at this; rw [if_pos rfl, ← this]; simp)
          clear hdr HEq
          obtain ⟨W3, hW3⟩ : ∃ W3, wr.alloc (.cells #[.int .i64 x] 3) = W3 := ⟨_, rfl⟩
          have hB3 : Below wr.heap.size wr W3 := by rw [← hW3]; exact bel_alloc (Below.refl _ _) _
          have z3 : W3.cell? ⟨wr.heap.size, 0, none⟩ = some (.int .i64 x) := by rw [← hW3]; exact Blk.cell (Blk.new wr #[.int .i64 x] 3) 0
          have hown3 := OwnI.b hY hB3
          have hs3 : w.heap.size ≤ W3.heap.size := Nat.le_trans hsz0 hB3.size
          have B3 := Lib.hid (bel_trans HB.out hB3)
          have hl3 : Y.length + 1 ≤ 1000000000 := by omega
          go_wp2_with (at_builtin; ((refine app_int rfl (.tmp 35) (.tmp 40) rfl w.heap.size v Y rfl hown3 wr.heap.size x rfl z3 hl3 hs3 ?_); intro v4 w4 ho4 hg4))
          go_roundw
          case rel => exact ⟨_, k + 1, v4, true, rfl, by omega, rfl, rfl, by go_num, Lib.hid ⟨B3.out.grown hg4 hs3 (fun q hq => (hown3.lt q hq).1), Y ++ [x], ho4, Hu2.out, by simp; omega, HN.out⟩⟩
          case measure => simp [intOf]; omega
        | false =>
          by_cases hlx : u < x
          · have HN := Lib.hid (show Y ++ [u] ++ [x] ++ (if (true : Bool) then X.drop (k + 1) else insI u (X.drop (k + 1))) = insI u X by have := HEq.out; rw [if_neg (by simp), hdr, insI, if_pos hlx] at this; rw [if_pos rfl, ← this]; simp)
            clear hdr HEq
            obtain ⟨W3, hW3⟩ : ∃ W3, wr.alloc (.cells #[.int .i64 u] 3) = W3 := ⟨_, rfl⟩
            have hB3 : Below wr.heap.size wr W3 := by rw [← hW3]; exact bel_alloc (Below.refl _ _) _
            have z3 : W3.cell? ⟨wr.heap.size, 0, none⟩ = some (.int .i64 u) := by rw [← hW3]; exact Blk.cell (Blk.new wr #[.int .i64 u] 3) 0
            have hown3 := OwnI.b hY hB3
            have hs3 : w.heap.size ≤ W3.heap.size := Nat.le_trans hsz0 hB3.size
            have B3 := Lib.hid (bel_trans HB.out hB3)
            have hl3 : Y.length + 1 ≤ 1000000000 := by omega
            have hl5 : (Y ++ [u]).length + 1 ≤ 1000000000 := by simp; omega
            go_wp2_with (first
              | (at_builtin; ((refine app_int rfl (.tmp 31) (.tmp 33) rfl w.heap.size v Y rfl hown3 wr.heap.size u rfl z3 hl3 hs3 ?_); intro v4 w4 ho4 hg4; have B4 := B3.out.grown hg4 hs3 (fun q hq => (hown3.lt q hq).1); have y04 := (B4.cell (p := ⟨g, _, none⟩) hg).trans ((HB.out.cell (p := ⟨g, _, none⟩) hg).symm.trans y0); obtain ⟨W5, hW5⟩ : ∃ W5, w4.alloc (.cells #[.int .i64 x] 3) = W5 := ⟨_, rfl⟩; have hB5 : Below w4.heap.size w4 W5 := (by rw [← hW5]; exact bel_alloc (Below.refl _ _) _); have z5 : W5.cell? ⟨w4.heap.size, 0, none⟩ = some (.int .i64 x) := (by rw [← hW5]; exact Blk.cell (Blk.new w4 #[.int .i64 x] 3) 0); have hown5 := OwnI.b ho4 hB5; have hs5 : w.heap.size ≤ W5.heap.size := Nat.le_trans B4.size hB5.size; have B5 := Lib.hid (bel_trans B4 hB5); clear ho4))
              | (at_builtin; ((refine app_int rfl (.tmp 35) (.tmp 40) rfl w.heap.size v4 (Y ++ [u]) rfl hown5 w4.heap.size x rfl z5 hl5 hs5 ?_); intro v6 w6 ho6 hg6)))
            go_roundw
            case rel => exact ⟨_, k + 1, v6, true, rfl, by omega, rfl, rfl, by go_num, Lib.hid ⟨B5.out.grown hg6 hs5 (fun q hq => (hown5.lt q hq).1), Y ++ [u] ++ [x], ho6, Hu2.out, by simp; omega, HN.out⟩⟩
            case measure => simp [intOf]; omega
          · have HN := Lib.hid (show Y ++ [x] ++ (if (false : Bool) then X.drop (k + 1) else insI u (X.drop (k + 1))) = insI u X by have := HEq.out; rw [if_neg (by simp), hdr, insI, if_neg hlx] at this; rw [if_neg (by simp), ← this]; simp)
            clear hdr HEq
            obtain ⟨W3, hW3⟩ : ∃ W3, wr.alloc (.cells #[.int .i64 x] 3) = W3 := ⟨_, rfl⟩
            have hB3 : Below wr.heap.size wr W3 := by rw [← hW3]; exact bel_alloc (Below.refl _ _) _
            have z3 : W3.cell? ⟨wr.heap.size, 0, none⟩ = some (.int .i64 x) := by rw [← hW3]; exact Blk.cell (Blk.new wr #[.int .i64 x] 3) 0
            have hown3 := OwnI.b hY hB3
            have hs3 : w.heap.size ≤ W3.heap.size := Nat.le_trans hsz0 hB3.size
            have B3 := Lib.hid (bel_trans HB.out hB3)
            have hl3 : Y.length + 1 ≤ 1000000000 := by omega
            go_wp2_with (at_builtin; ((refine app_int rfl (.tmp 35) (.tmp 40) rfl w.heap.size v Y rfl hown3 wr.heap.size x rfl z3 hl3 hs3 ?_); intro v4 w4 ho4 hg4))
            go_roundw
            case rel => exact ⟨_, k + 1, v4, false, rfl, by omega, rfl, rfl, by go_num, Lib.hid ⟨B3.out.grown hg4 hs3 (fun q hq => (hown3.lt q hq).1), Y ++ [x], ho4, Hu2.out, by simp; omega, HN.out⟩⟩
            case measure => simp [intOf]; omega
    · obtain rfl : k = n := by omega
      have hlen := Hn.out
      have huX : u ∉ X := by have := Hu.out; rwa [List.take_of_length_le (by omega)] at this
      have hd0 : X.drop k = [] := List.drop_eq_nil_of_le (by omega)
      cases inn with
      | true =>
        have HF := Lib.hid (HFin.out wr v Y HB.out hY huX (by have := HEq.out; rw [if_pos rfl, hd0, List.append_nil] at this; exact this))
        clear hlen hd0 HEq huX
        go_wp2
        go_ret
        exact HF.out
      | false =>
        have HN := Lib.hid (show Y ++ [u] = insI u X by have := HEq.out; rw [if_neg (by simp), hd0, insI] at this; exact this)
        have HuX := Lib.hid huX
        clear hlen hd0 HEq huX
        obtain ⟨W3, hW3⟩ : ∃ W3, wr.alloc (.cells #[.int .i64 u] 3) = W3 := ⟨_, rfl⟩
        have hB3 : Below wr.heap.size wr W3 := by rw [← hW3]; exact bel_alloc (Below.refl _ _) _
        have z3 : W3.cell? ⟨wr.heap.size, 0, none⟩ = some (.int .i64 u) := by rw [← hW3]; exact Blk.cell (Blk.new wr #[.int .i64 u] 3) 0
        have hown3 := OwnI.b hY hB3
        have hs3 : w.heap.size ≤ W3.heap.size := Nat.le_trans hsz0 hB3.size
        have B3 := Lib.hid (bel_trans HB.out hB3)
        have hl3 : Y.length + 1 ≤ 1000000000 := by omega
        go_wp2_with (at_builtin; ((refine app_int rfl (.tmp 44) (.tmp 46) rfl w.heap.size v Y rfl hown3 wr.heap.size u rfl z3 hl3 hs3 ?_); intro v4 w4 ho4 hg4))
        go_ret
        exact HFin.out w4 v4 (Y ++ [u]) (B3.out.grown hg4 hs3 (fun q hq => (hown3.lt q hq).1)) ho4 HuX.out HN.out
end Go.Proofs.Ytokkafekdaniaaa.B
