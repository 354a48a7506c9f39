/-
  What is proved: the document's loose numbers of terms and claims.
-/
import Derived.Test.YtokkafekdaniaaaBndO
namespace Go.Proofs.Ytokkafekdaniaaa.B
open Go.RowKit L T C
set_option linter.unusedVariables false
set_option linter.unusedSimpArgs false

set_option maxHeartbeats 1000000 in
theorem Binds_any (o : Int) (s z : ByteArray) (k : SS) (a : Option Addr) (n c : Nat) (w : World) :
    Calls Try.prog 228 #[.agg #[.int .i64 o, .string s, .string z, .slice k.a k.n k.c, .slice a n c]] w fun e w' => e = .returned (.bool (decide (o = 11 ∨ o = 12))) ∧ Below w.heap.size w w' := by
  obtain ⟨W, hW, hB, hs, S⟩ := cbox1 w o s z k a n c
  obtain ⟨s0, s1, s2, s3, s4⟩ := S.five
  obtain ⟨ka, kn, kc⟩ := k
  dsimp only at *
  clear S hs
  by_cases h1 : o = 11
  · subst h1
    have e : decide ((11 : Int) = 11 ∨ (11 : Int) = 12) = true := by decide
    rw [e]
    go_enter Try.func228, Try.ntmps228
    go_wp2
    go_ret
    exact ⟨rfl, hB⟩
  · by_cases h2 : o = 12
    · subst h2
      have e : decide ((12 : Int) = 11 ∨ (12 : Int) = 12) = true := by decide
      rw [e]
      go_enter Try.func228, Try.ntmps228
      go_wp2
      go_ret
      exact ⟨rfl, hB⟩
    · have e : decide (o = 11 ∨ o = 12) = false := decide_eq_false (by omega)
      rw [e]
      have q1 : (o == 11) = false := by simp [h1]
      have q2 : (o == 12) = false := by simp [h2]
      clear h1 h2 e
      go_enter Try.func228, Try.ntmps228
      go_wp2
      go_ret
      exact ⟨rfl, hB⟩
set_option maxHeartbeats 1000000 in
theorem within_any (o : Int) (s z : ByteArray) (k : SS) (a : Option Addr) (n c : Nat) (m : Int) (hm0 : 0 ≤ m) (hm : m ≤ 1000000000) (w : World) :
    Calls Try.prog 173 #[.agg #[.int .i64 o, .string s, .string z, .slice k.a k.n k.c, .slice a n c], .int .i64 m] w fun e w' => e = .returned (.int .i64 (kin o m)) ∧ Below w.heap.size w w' := by
  obtain ⟨W, hW, hB, hs, S⟩ := cbox1 w o s z k a n c
  have cB := Binds_any o s z k a n c W
  obtain ⟨s0, s1, s2, s3, s4⟩ := S.five
  obtain ⟨ka, kn, kc⟩ := k
  dsimp only at *
  clear S hs
  unfold kin
  have hwrap : IntKind.i64.wrap (m + 1) = m + 1 := by rw [IntKind.wrap_i64]; omega
  by_cases h1 : o = 11 ∨ o = 12
  · rw [if_pos h1]
    rw [decide_eq_true h1] at cB
    clear h1
    go_enter Try.func173, Try.ntmps173
    go_wp2_with (go_at_call 228; ((with_reducible refine cB.mono ?_); rintro e w3 ⟨rfl, hb3⟩))
    go_ret
    exact ⟨rfl, bel_trans hB hb3⟩
  · rw [if_neg h1]
    rw [decide_eq_false h1] at cB
    clear h1
    go_enter Try.func173, Try.ntmps173
    go_wp2_with (go_at_call 228; ((with_reducible refine cB.mono ?_); rintro e w3 ⟨rfl, hb3⟩))
    go_ret
    exact ⟨rfl, bel_trans hB hb3⟩
def LiOk (t : Tm) : Prop := ∀ (X : List Int) (A : Option Addr) (n c : Nat) (a : Option Addr) (m d : Nat) (k : Int) (w : World), NsW w A n c X → ArW w t a m d → X.length + size t ≤ 1000000 →
  Calls Try.prog 113 #[.slice A n c, .agg #[.int .i64 (opT t), .string (nameT t), .int .i64 (numT t), .slice a m d], .int .i64 k] w fun e w' => RtI (puts X (lsT k t)) w e w'
theorem RtI.open {X : List Int} {w : World} {e : Ending} {w' : World} (h : RtI X w e w') : ∃ A n c, e = .returned (.slice A n c) ∧ NsW w' A n c X ∧ Below w.heap.size w w' := by
  obtain ⟨A, c, h1, h2, h3⟩ := h
  exact ⟨A, _, c, h1, h2, h3⟩
theorem NsW.ret {X : List Int} {w w' : World} {A : Option Addr} {n c : Nat} (h : NsW w' A n c X) (hb : Below w.heap.size w w') : RtI X w (.returned (.slice A n c)) w' := by
  obtain rfl := h.1
  exact ⟨A, c, rfl, h, hb⟩
set_option maxRecDepth 100000 in
set_option maxHeartbeats 4000000 in
theorem looseIn_step (t : Tm) (hok : ∀ x ∈ argsT t, LiOk x) : LiOk t := by
  intro X A n c a m d k w hX hA hl
  obtain ⟨W, hW, hB, hs, S⟩ := box1 w (opT t) (nameT t) (numT t) a m d
  have hsz : size t = 1 + sizes (argsT t) := by cases t; rw [size]; rfl
  have hT := ArW.args (ArW.b hA hB)
  have hm : m ≤ 9223372036854775807 := by have h1 := hT.2.1; have h2 := hT.2.2.1; unfold maxLen at h2; omega
  have hdc : m ≤ d := hT.2.1
  have HT := Lib.hid hT
  have HS := Lib.hid S
  have HB := Lib.hid hB
  have HK := Lib.hid (show ∀ i x, (argsT t)[i]? = some x → LiOk x from fun i x h => hok x (List.mem_of_getElem? h))
  have HX := Lib.hid (NsW.b hX hB)
  have hXl : X.length ≤ 1000000 := by omega
  have cP := put_any X A n c (wrap64 (numT t - k)) W (NsW.b hX hB) hXl
  have hown1 : (ownL k t).length ≤ 1 := by unfold ownL; split <;> simp
  have hlen : ∀ i x, (argsT t)[i]? = some x → (puts X (ownL k t ++ lsTs k ((argsT t).take i))).length + size x ≤ 1000000 := fun i x hx => by
    have h1 := puts_len (ownL k t ++ lsTs k ((argsT t).take i)) X
    have h2 := sizes_take_le hx
    have h3 := lsTs_len k ((argsT t).take i)
    rw [List.length_append] at h1
    omega
  have HLen := Lib.hid hlen
  have HFin := Lib.hid (show lsT k t = ownL k t ++ lsTs k (argsT t) from lsT_own k t)
  unfold ownL at HLen HFin
  obtain ⟨s0, s1, s2, s3⟩ := S.four
  clear hX hA hT hok S hsz hown1 hlen hl
  generalize argsT t = l at *
  rw [HFin.out]
  clear HFin
  generalize opT t = op at *
  generalize nameT t = nm at *
  generalize numT t = nu at *
  by_cases h1 : op = 2 ∧ k ≤ nu
  · rw [if_pos h1] at HLen ⊢
    have HLen' := HLen.out
    clear HLen
    have q1 : op = 2 := h1.1
    have q2 : k ≤ nu := h1.2
    subst q1
    clear h1

    go_enter Try.func113, Try.ntmps113
    go_wp2_with (go_at_call 172; ((with_reducible refine cP.mono ?_); rintro e w3 h3; obtain ⟨A3, n3, c3, rfl, hN3, hb3⟩ := h3.open; have HN0 : Hid (NsW w3 A3 n3 c3 (puts X ([wrap64 (nu - k)] ++ lsTs k (l.take 0)))) := Lib.hid (by rw [List.take_zero, lsTs]; exact hN3); have HB0 := Lib.hid hb3; have Sr := TBox.b HS.out hb3; obtain ⟨e0, e1, e2, e3⟩ := Sr.four; clear h3 hN3 hb3 Sr))
    go_loopw [0, 7] (fun v i wr0 => ∃ (wr : World) (j : Nat) (A' : Option Addr) (n' c' : Nat), wr = wr0 ∧ j ≤ m ∧ .slice A' n' c' = v ∧ i = .int .i64 j ∧ Hid (NsW wr A' n' c' (puts X ([wrap64 (nu - k)] ++ lsTs k (l.take j)))) ∧ Hid (Below W.heap.size W wr)) (fun _ i _ => m - (intOf i).toNat)
    case atStart => exact ⟨_, 0, _, _, _, rfl, by omega, rfl, rfl, HN0, HB0⟩
    case round =>
      obtain ⟨wr, j, A', n', c', rfl, hj, rfl, rfl, hN, hBr⟩ := hrel
      have Sr := TBox.b HS.out hBr.out
      obtain ⟨e0, e1, e2, e3⟩ := Sr.four
      clear Sr
      by_cases hlt : j < m
      · obtain ⟨bb, o, x, AA, M, Cc, rfl, hbb, z0, z1, z2, z3, hx, hax⟩ := HT.out.at hlt
        have y0 := (hBr.out.cell (p := ⟨bb, _, none⟩) hbb).trans z0
        have y1 := (hBr.out.cell (p := ⟨bb, _, none⟩) hbb).trans z1
        have y2 := (hBr.out.cell (p := ⟨bb, _, none⟩) hbb).trans z2
        have y3 := (hBr.out.cell (p := ⟨bb, _, none⟩) hbb).trans z3
        have cV := HK.out j x hx _ A' n' c' AA M Cc k wr hN.out (ArW.b hax hBr.out) (HLen' j x hx)
        have Hst := Lib.hid (show puts X ([wrap64 (nu - k)] ++ lsTs k (l.take (j + 1))) = puts (puts X ([wrap64 (nu - k)] ++ lsTs k (l.take j))) (lsT k x) by rw [lsTs_step k hx, ← puts_app, List.append_assoc])
        clear z0 z1 z2 z3 hax HK hx HT hN
        generalize opT x = op' at *
        generalize nameT x = nm' at *
        generalize numT x = nu' at *
        have hj0 : 0 ≤ (j : Int) := by omega
        have hj1 : (j : Int) < (m : Int) := by omega
        go_wp2_with (go_at_call 113; ((with_reducible refine cV.mono ?_); rintro e w5 h5; obtain ⟨A5, n5, c5, rfl, hN5, hb5⟩ := h5.open; have HN5 := Lib.hid hN5; have HB5 := Lib.hid (bel_trans hBr.out hb5); clear h5 hN5 hb5))
        go_roundw
        case rel => exact ⟨_, j + 1, _, _, _, rfl, by omega, rfl, by go_num, Lib.hid (by rw [Hst.out]; exact HN5.out), HB5⟩
        case measure => simp [intOf]; omega
      · obtain rfl : j = m := by omega
        have Hfin := Lib.hid (show RtI (puts X ([wrap64 (nu - k)] ++ lsTs k l)) w (.returned (.slice A' n' c')) wr from by have := hN.out; rw [List.take_of_length_le (by have := HT.out.1; omega)] at this; exact NsW.ret this (bel_trans HB.out hBr.out))
        clear hN HT
        go_wp2
        go_ret
        exact Hfin.out
  · rw [if_neg h1] at HLen ⊢
    have HLen' := HLen.out
    clear HLen cP
    by_cases h2 : op = 2
    · subst h2
      have q2 : ¬ nu ≥ k := by omega
      clear h1
      have HN0 : Hid (NsW W A n c (puts X ([] ++ lsTs k (l.take 0)))) := Lib.hid (by rw [List.take_zero, lsTs]; exact HX.out)
      have HB0 : Hid (Below W.heap.size W W) := Lib.hid (Below.refl _ _)
      go_enter Try.func113, Try.ntmps113
      go_wp2
      go_loopw [0, 7] (fun v i wr0 => ∃ (wr : World) (j : Nat) (A' : Option Addr) (n' c' : Nat), wr = wr0 ∧ j ≤ m ∧ .slice A' n' c' = v ∧ i = .int .i64 j ∧ Hid (NsW wr A' n' c' (puts X ([] ++ lsTs k (l.take j)))) ∧ Hid (Below W.heap.size W wr)) (fun _ i _ => m - (intOf i).toNat)
      case atStart => exact ⟨_, 0, _, _, _, rfl, by omega, rfl, rfl, HN0, HB0⟩
      case round =>
        obtain ⟨wr, j, A', n', c', rfl, hj, rfl, rfl, hN, hBr⟩ := hrel
        have Sr := TBox.b HS.out hBr.out
        obtain ⟨e0, e1, e2, e3⟩ := Sr.four
        clear Sr
        by_cases hlt : j < m
        · obtain ⟨bb, o, x, AA, M, Cc, rfl, hbb, z0, z1, z2, z3, hx, hax⟩ := HT.out.at hlt
          have y0 := (hBr.out.cell (p := ⟨bb, _, none⟩) hbb).trans z0
          have y1 := (hBr.out.cell (p := ⟨bb, _, none⟩) hbb).trans z1
          have y2 := (hBr.out.cell (p := ⟨bb, _, none⟩) hbb).trans z2
          have y3 := (hBr.out.cell (p := ⟨bb, _, none⟩) hbb).trans z3
          have cV := HK.out j x hx _ A' n' c' AA M Cc k wr hN.out (ArW.b hax hBr.out) (HLen' j x hx)
          have Hst := Lib.hid (show puts X ([] ++ lsTs k (l.take (j + 1))) = puts (puts X ([] ++ lsTs k (l.take j))) (lsT k x) by rw [lsTs_step k hx, ← puts_app, List.append_assoc])
          clear z0 z1 z2 z3 hax HK hx HT hN
          generalize opT x = op' at *
          generalize nameT x = nm' at *
          generalize numT x = nu' at *
          have hj0 : 0 ≤ (j : Int) := by omega
          have hj1 : (j : Int) < (m : Int) := by omega
          go_wp2_with (go_at_call 113; ((with_reducible refine cV.mono ?_); rintro e w5 h5; obtain ⟨A5, n5, c5, rfl, hN5, hb5⟩ := h5.open; have HN5 := Lib.hid hN5; have HB5 := Lib.hid (bel_trans hBr.out hb5); clear h5 hN5 hb5))
          go_roundw
          case rel => exact ⟨_, j + 1, _, _, _, rfl, by omega, rfl, by go_num, Lib.hid (by rw [Hst.out]; exact HN5.out), HB5⟩
          case measure => simp [intOf]; omega
        · obtain rfl : j = m := by omega
          have Hfin := Lib.hid (show RtI (puts X ([] ++ lsTs k l)) w (.returned (.slice A' n' c')) wr from by have := hN.out; rw [List.take_of_length_le (by have := HT.out.1; omega)] at this; exact NsW.ret this (bel_trans HB.out hBr.out))
          clear hN HT
          go_wp2
          go_ret
          exact Hfin.out
    · have q1 : (op == 2) = false := by simp [h2]
      clear h1 h2
      have HN0 : Hid (NsW W A n c (puts X ([] ++ lsTs k (l.take 0)))) := Lib.hid (by rw [List.take_zero, lsTs]; exact HX.out)
      have HB0 : Hid (Below W.heap.size W W) := Lib.hid (Below.refl _ _)
      go_enter Try.func113, Try.ntmps113
      go_wp2
      go_loopw [0, 7] (fun v i wr0 => ∃ (wr : World) (j : Nat) (A' : Option Addr) (n' c' : Nat), wr = wr0 ∧ j ≤ m ∧ .slice A' n' c' = v ∧ i = .int .i64 j ∧ Hid (NsW wr A' n' c' (puts X ([] ++ lsTs k (l.take j)))) ∧ Hid (Below W.heap.size W wr)) (fun _ i _ => m - (intOf i).toNat)
      case atStart => exact ⟨_, 0, _, _, _, rfl, by omega, rfl, rfl, HN0, HB0⟩
      case round =>
        obtain ⟨wr, j, A', n', c', rfl, hj, rfl, rfl, hN, hBr⟩ := hrel
        have Sr := TBox.b HS.out hBr.out
        obtain ⟨e0, e1, e2, e3⟩ := Sr.four
        clear Sr
        by_cases hlt : j < m
        · obtain ⟨bb, o, x, AA, M, Cc, rfl, hbb, z0, z1, z2, z3, hx, hax⟩ := HT.out.at hlt
          have y0 := (hBr.out.cell (p := ⟨bb, _, none⟩) hbb).trans z0
          have y1 := (hBr.out.cell (p := ⟨bb, _, none⟩) hbb).trans z1
          have y2 := (hBr.out.cell (p := ⟨bb, _, none⟩) hbb).trans z2
          have y3 := (hBr.out.cell (p := ⟨bb, _, none⟩) hbb).trans z3
          have cV := HK.out j x hx _ A' n' c' AA M Cc k wr hN.out (ArW.b hax hBr.out) (HLen' j x hx)
          have Hst := Lib.hid (show puts X ([] ++ lsTs k (l.take (j + 1))) = puts (puts X ([] ++ lsTs k (l.take j))) (lsT k x) by rw [lsTs_step k hx, ← puts_app, List.append_assoc])
          clear z0 z1 z2 z3 hax HK hx HT hN
          generalize opT x = op' at *
          generalize nameT x = nm' at *
          generalize numT x = nu' at *
          have hj0 : 0 ≤ (j : Int) := by omega
          have hj1 : (j : Int) < (m : Int) := by omega
          go_wp2_with (go_at_call 113; ((with_reducible refine cV.mono ?_); rintro e w5 h5; obtain ⟨A5, n5, c5, rfl, hN5, hb5⟩ := h5.open; have HN5 := Lib.hid hN5; have HB5 := Lib.hid (bel_trans hBr.out hb5); clear h5 hN5 hb5))
          go_roundw
          case rel => exact ⟨_, j + 1, _, _, _, rfl, by omega, rfl, by go_num, Lib.hid (by rw [Hst.out]; exact HN5.out), HB5⟩
          case measure => simp [intOf]; omega
        · obtain rfl : j = m := by omega
          have Hfin := Lib.hid (show RtI (puts X ([] ++ lsTs k l)) w (.returned (.slice A' n' c')) wr from by have := hN.out; rw [List.take_of_length_le (by have := HT.out.1; omega)] at this; exact NsW.ret this (bel_trans HB.out hBr.out))
          clear hN HT
          go_wp2
          go_ret
          exact Hfin.out
theorem looseIn_any (t : Tm) : LiOk t := Tm.ind looseIn_step t
end Go.Proofs.Ytokkafekdaniaaa.B
