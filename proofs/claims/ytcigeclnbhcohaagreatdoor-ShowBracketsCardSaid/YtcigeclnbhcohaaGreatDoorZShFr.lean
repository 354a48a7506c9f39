/-
  What is proved: package show's Fresh: the first name that is not taken.
-/
import Derived.Test.YtcigeclnbhcohaaGreatDoorZShE
import Derived.Maps.Own
import Derived.Maps.Views
import Derived.Carry
namespace Go.Proofs.YtcigeclnbhcohaaGreatDoor.Sh
open Go.RowKit Go.Maps Go.WideMaps L T C
set_option linter.unusedVariables false
set_option linter.unusedSimpArgs false

theorem index_any {W : World} (E : Env W) (b : ByteArray) (hb : b.size ≤ 300) (n : Nat) (hn : n ≤ 1000000000) (w : World) (hw : Below W.heap.size W w) :
    Calls Tryz.prog 45 #[.string b, .int .i64 (n : Int)] w fun e w' => e = .returned (.string (ixN b n)) ∧ Below w.heap.size w w' := by
  by_cases h : n = 0
  · subst h
    rw [ixN_zero]
    go_enter Tryz.func45, Tryz.ntmps45
    go_wp2
    go_ret
    exact ⟨rfl, Below.refl _ _⟩
  · rw [ixN_pos b h]
    have ct := E.text (n : Int) (by omega) (by omega) w hw
    have hd := dig_size (z := (n : Int)) (by omega) (by omega)
    have h3 : (0 : Int) < (n : Int) := by omega
    have h4 : 0 < n := by omega
    clear E
    generalize dig (n : Int) = D at *
    go_enter Tryz.func45, Tryz.ntmps45
    go_wp2_with (go_at_call 58; ((with_reducible refine ct.mono ?_); rintro e w' ⟨rfl, hw'⟩))
    go_ret
    exact ⟨rfl, hw'⟩

/-! a set of names: a map of the call's own -/
def RV (v : Value) : Option (DataW Value × List MemPlace) := some (.held v, [])
theorem lawS : Keyed Tryz.prog 9 := string_keyed Tryz.underlying9
theorem zeroBl (w : World) : (zeroValue 4).run Tryz.prog w = .ok (.bool false) w := by kernel_rfl
def MpS (w : World) (g : Nat) (X : List ByteArray) : Prop :=
  ∃ n D, w.ownsMap Tryz.prog 9 RV g n D ∧ IsMap D ∧ n ≤ X.length ∧ ∀ s : ByteArray, (hasS X s = false → ∀ z, D.atKey (.string s.data.toList) z = z) ∧ (hasS X s = true → ∀ z, D.atKey (.string s.data.toList) z = .held (.bool true))
theorem MpS.made (w : World) : MpS (w.alloc (.map #[] 0)) w.heap.size [] :=
  ⟨0, _, World.ownsMap_made _ _ _ _, ⟨[], rfl⟩, Nat.le_refl _, fun s => ⟨fun _ z => rfl, fun h => by simp [hasS] at h⟩⟩
theorem MpS.lt {w : World} {g : Nat} {X : List ByteArray} (h : MpS w g X) : g < w.heap.size := by
  obtain ⟨n, D, ho, _⟩ := h; exact ho.lt
theorem MpS.b {w w' : World} {g : Nat} {X : List ByteArray} (h : MpS w g X) (hb : Below w.heap.size w w') : MpS w' g X := by
  have hlt := h.lt
  obtain ⟨n, D, ⟨es, ck, h1, h2, h3, h4⟩, hD, hn, hs⟩ := h
  exact ⟨n, D, ⟨es, ck, (hb.block g hlt).trans h1, h2, h3, h4⟩, hD, hn, hs⟩
theorem hasS_snoc (X : List ByteArray) (x s : ByteArray) : hasS (X ++ [x]) s = (hasS X s || (x.toList == s.toList)) := by
  unfold hasS; rw [List.any_append]; simp
set_option maxRecDepth 100000 in
theorem MpS.put {w : World} {g : Nat} {X : List ByteArray} (h : MpS w g X) (hl : X.length < maxLen) (x : ByteArray) (hx : x.size ≤ maxLen) :
    ∃ w', (Instr.mapUpdate 75 (.map (some g)) (.string x) (.bool true)).run Tryz.prog w = .ok () w' ∧ MpS w' g (X ++ [x]) ∧ w.grownBy w' (some g) := by
  obtain ⟨k, D, ho, hD, hk, hs⟩ := h
  obtain ⟨w', h1, h2, h3⟩ := ho.update lawS Tryz.underlying75 (by omega) (key := .string x) (val := .bool true) (keyOf_string_mk Tryz.underlying9 hx) (d := .held (.bool true)) (ps := []) rfl
  refine ⟨w', h1, ⟨k + 1, _, h2, hD.put _ _, by simp; omega, fun s => ?_⟩, h3⟩
  rw [hasS_snoc]
  by_cases e : x.toList == s.toList
  · have es : x = s := eqS_iff.1 e
    subst es
    rw [eqS_refl, Bool.or_true]
    exact ⟨fun hn => (by cases hn), fun _ z => atKey_put_same hD (by trivial) _ _⟩
  · have hne : (Lit.string s.data.toList) ≠ (Lit.string x.data.toList) := fun h => e (by
      injection h with h
      exact eqS_iff.2 (ByteArray.ext (Array.toList_inj.1 h)).symm)
    have e2 : (x.toList == s.toList) = false := by simpa using e
    rw [e2, Bool.or_false]
    exact ⟨fun hn z => by rw [atKey_put_other hne]; exact (hs s).1 hn z, fun hn z => by rw [atKey_put_other hne]; exact (hs s).2 hn z⟩
set_option maxRecDepth 100000 in
theorem MpS.look {w : World} {g : Nat} {X : List ByteArray} (h : MpS w g X) (s : ByteArray) (hs : s.size ≤ maxLen) :
    (Instr.lookup 75 (.map (some g)) (.string s) false).run Tryz.prog w = .ok (.bool (hasS X s)) w := by
  obtain ⟨n, D, ⟨es, ck, h1, h2, h3, h4⟩, hD, hn, hss⟩ := h
  subst h4
  rcases Maps.fit_look (t := 75) false lawS Tryz.underlying75 (zeroBl w) h1 h2 (keyOf_string_mk Tryz.underlying9 hs) with ⟨hrun, _, hz⟩ | ⟨e0, y, _, _, hrun, hR, hat, _⟩
  · cases hc : hasS X s with
    | true =>
      have := ((hss s).2 hc .nil).symm.trans (hz .nil)
      cases this
    | false => exact hrun
  · cases hc : hasS X s with
    | true =>
      have h5 := ((hss s).2 hc .nil).symm.trans (hat .nil)
      unfold RV at hR
      injection hR with hR
      rw [← hR] at h5
      injection h5 with h5
      rw [← h5] at hrun
      exact hrun
    | false =>
      have h5 := ((hss s).1 hc .nil).symm.trans (hat .nil)
      unfold RV at hR
      injection hR with hR
      rw [← hR] at h5
      cases h5

set_option maxRecDepth 100000 in
set_option maxHeartbeats 8000000 in
theorem Fresh_any {W : World} (E : Env W) (b : ByteArray) (hb : b.size ≤ 300) (X : List ByteArray) (hX : ∀ x ∈ X, x.size ≤ maxLen) (a : Option Addr) (n c : Nat) (w : World) (hw : Below W.heap.size W w) (hS : IsS w a n X) (hn : n ≤ 1000000) :
    Calls Tryz.prog 24 #[.string b, .slice a n c] w fun e w' => e = .returned (.string (frB X b)) ∧ Below w.heap.size w w' := by
  have hmm : ∀ (k : Int) (w : World), (Instr.makeMap 75 (some (.int .i64 k))).run Tryz.prog w = .ok (.map (some w.heap.size)) (w.alloc (.map #[] 0)) := fun k w => by kernel_rfl
  have hlen : X.length = n := hS.1.symm
  have hNle := frN_le X b
  obtain ⟨N, hN⟩ : ∃ N, frN X b = N := ⟨_, rfl⟩
  have hfirst := frN_first X b
  have hfB : frB X b = ixN b N := by unfold frB; rw [hN]
  rw [hN] at hNle hfirst
  rw [hfB]
  have ci := fun (k : Nat) (hk : k ≤ 1000000000) => index_any E b hb k hk
  have hix := fun (k : Nat) (hk : k ≤ 1000000000) => ixN_size b k hk
  have Hi := Lib.hid ci
  have Hix := Lib.hid hix
  have Hf := Lib.hid hfirst
  have HX := Lib.hid hX
  have HS := Lib.hid hS
  have HW := Lib.hid hw
  have HM := Lib.hid (show ∀ w' : World, MpS (w'.alloc (.map #[] 0)) w'.heap.size (X.take 0) from fun w' => MpS.made w')
  have hl0 : (⟨a, n, c⟩ : Option Addr × Nat × Nat) = ⟨a, n, c⟩ := rfl
  have hn63 : n ≤ 9223372036854775807 := by omega
  clear ci hix hfirst hX hS hfB hN E hw hl0
  go_enter Tryz.func24, Tryz.ntmps24
  go_wp2
  go_loopw [14] (fun i wr0 => ∃ (wr : World) (k : Nat), wr = wr0 ∧ k ≤ n ∧ i = .int .i64 k ∧ Hid (MpS wr w.heap.size (X.take k)) ∧ Hid (Below w.heap.size w wr)) (fun i _ => n - (intOf i).toNat)
  case atStart => exact ⟨_, 0, rfl, by omega, rfl, HM.out w, Lib.hid (bel_alloc (Below.refl _ _) _)⟩
  case round =>
    obtain ⟨wr, k, rfl, hk, rfl, hM, hB⟩ := hrel
    by_cases hlt : k < n
    · obtain ⟨bb, o, x, rfl, hbb, y0, hx, -⟩ := (HS.out.below hB.out).at hlt
      have hxm := HX.out x (List.mem_of_getElem? hx)
      obtain ⟨w', hrun, hM2, hg2⟩ := hM.out.put (by rw [List.length_take]; unfold maxLen; omega) x hxm
      have hk0 : 0 ≤ (k : Int) := by omega
      have hk1 : (k : Int) < (n : Int) := by omega
      have HM2 := Lib.hid (show MpS w' w.heap.size (X.take (k + 1)) from by
        obtain ⟨hkk, rfl⟩ := List.getElem?_eq_some_iff.1 hx
        rw [List.take_succ_eq_append_getElem hkk]; exact hM2)
      have HB2 := Lib.hid (show Below w.heap.size w w' from hB.out.grown hg2 hB.out.size (fun q hq => by injection hq with hq; omega))
      clear hM2 hg2 hx hxm HS HX hM hB
      go_wp2
      go_roundw
      case rel => exact ⟨_, k + 1, rfl, by omega, by go_num, HM2, HB2⟩
      case measure => simp [intOf]; omega
    · obtain rfl : k = n := by omega
      have HM3 := Lib.hid (show MpS wr w.heap.size X from by
        have := hM.out
        rw [List.take_of_length_le (by omega)] at this; exact this)
      clear hM HS HX HM
      go_wp2
      go_loopw [8] (fun i wr0 => ∃ (w2 : World) (j : Nat), w2 = wr0 ∧ j ≤ N ∧ i = .int .i64 j ∧ Hid (MpS w2 w.heap.size X) ∧ Hid (Below w.heap.size w w2)) (fun i _ => N - (intOf i).toNat)
      case atStart => exact ⟨_, 0, rfl, by omega, rfl, HM3, hB⟩
      case round =>
        obtain ⟨w2, j, rfl, hj, rfl, hM, hB2⟩ := hrel
        have cj := Hi.out j (by omega) w2 (HW.out.trans (hB2.out.mono HW.out.size))
        have hsz := Hix.out j (by omega)
        have hlk := fun (w3 : World) (h3 : Below w2.heap.size w2 w3) => (hM.out.b h3).look (ixN b j) (by unfold maxLen; omega)
        by_cases hlt2 : j < N
        · have ht := Hf.out.2 j hlt2
          rw [ht] at hlk
          have HLk := Lib.hid hlk
          clear hlk ht hsz
          generalize ixN b j = S at *
          go_wp2_with (go_at_call 45; ((with_reducible refine cj.mono ?_); rintro e w3 ⟨rfl, hb3⟩; have hl3 := HLk.out w3 hb3))
          go_roundw
          case rel => exact ⟨_, j + 1, rfl, by omega, by go_num, Lib.hid (hM.out.b hb3), Lib.hid (bel_trans hB2.out hb3)⟩
          case measure => simp [intOf]; omega
        · obtain rfl : j = N := by omega
          have ht := Hf.out.1
          rw [ht] at hlk
          have HLk := Lib.hid hlk
          have cj2 := fun (w3 : World) (h3 : Below w2.heap.size w2 w3) => Hi.out j (by omega) w3 (HW.out.trans ((bel_trans hB2.out h3).mono HW.out.size))
          clear hlk ht hsz
          generalize hSe : ixN b j = S at *
          have HSe := Lib.hid hSe
          clear hSe
          go_wp2_with (first
            | (go_at_call 45; ((with_reducible refine cj.mono ?_); rintro e w3 ⟨rfl, hb3⟩; clear cj; have hl3 := HLk.out w3 hb3; have c3 := cj2 w3 hb3))
            | (go_at_call 45; ((with_reducible refine c3.mono ?_); rintro e w4 ⟨rfl, hb4⟩)))
          go_ret
          exact ⟨retS HSe.out.symm, bel_trans (bel_trans hB2.out hb3) hb4⟩
end Go.Proofs.YtcigeclnbhcohaaGreatDoor.Sh
