/-
  What is proved: the document's answers on the first error and the places of a list of sorts; all sorts of a list; a sort put into a list.
-/
import Derived.Test.YtfamlimnanehnaaSrtB
import Derived.Test.YtfamlimnanehnaaLibC
namespace Go.Proofs.Ytfamlimnanehnaa.Srt
open Go.RowKit L
set_option linter.unusedVariables false
set_option linter.unusedSimpArgs false

theorem IsS.take {w : World} {a : Option Addr} {n : Nat} {X : List ByteArray} (h : IsS w a n X) (k : Nat) (hk : k ≤ n) : IsS w a k (X.take k) := by
  refine ⟨by rw [List.length_take, ← h.1]; omega, fun hp => ?_⟩
  obtain ⟨b, o, ha, hlt, hr⟩ := h.2 (by omega)
  refine ⟨b, o, ha, hlt, fun j hj => ?_⟩
  rw [List.length_take] at hj
  rw [hr j (by omega), List.getElem_take]

set_option maxHeartbeats 2000000 in
theorem refRight_any (a : Option Addr) (n c : Nat) (X : List ByteArray) (w : World) (hX : SlS w a n c X) (hz : okZ X) (hn : n ≤ 1000000000) :
    Calls Try.prog 11 #[.slice a n c] w fun e w' => e = .returned (.int .i64 (rightV X)) ∧ Below w.heap.size w w' := by
  by_cases h64 : 64 < n
  · have : rightV X = 2 := by unfold rightV; rw [if_pos (by rw [← hX.1.1]; exact h64)]
    rw [this]
    have h1 : 64 < (n : Int) := by omega
    clear hX hz
    go_enter Try.func11, Try.ntmps11
    go_wp2
    go_ret
    exact ⟨rfl, Below.refl _ _⟩
  have hst : ∀ k x, X[k]? = some x → rgt (X.take k) (X.drop k) = if validS x = false then 10 else if hasS (X.take k) x = true then 4 else rgt (X.take (k + 1)) (X.drop (k + 1)) := fun k x h => rgt_at h
  have he : ∀ k, n ≤ k → rgt (X.take k) (X.drop k) = 0 := fun k h => rgt_end (by rw [← hX.1.1]; exact h)
  have h0 : rightV X = rgt (X.take 0) (X.drop 0) := by unfold rightV; rw [if_neg (by rw [← hX.1.1]; exact h64)]; rfl
  rw [h0]
  obtain ⟨F, hF⟩ : ∃ F : Nat → Int, ∀ k, rgt (X.take k) (X.drop k) = F k := ⟨_, fun _ => rfl⟩
  simp only [hF] at hst he ⊢
  clear hF h0
  have hv : ∀ x, x.size ≤ 9223372036854775000 → ∀ w : World, Calls Try.prog 23 #[.string x] w fun e w' => e = .returned (.bool (validS x)) ∧ Below w.heap.size w w' := fun x hx w => refName_any x w hx
  have hh : ∀ (k : Nat) (x : ByteArray) (w' : World), k ≤ n → IsS w' a n X → Calls Try.prog 24 #[.slice a k c, .string x] w' fun e w1 => e = .returned (.bool (hasS (X.take k) x)) ∧ w1 = w' :=
    fun k x w' h1 h2 => (Has_any a k c (X.take k) x w' (IsS.take h2 k h1) (by omega)).mono fun e w1 ⟨h, g⟩ => ⟨h, g.symm⟩
  have hc := hX.2.1
  have H1 := Lib.hid hX.1
  have Hst := Lib.hid hst
  have He := Lib.hid he
  have Hv := Lib.hid hv
  have Hh := Lib.hid hh
  have Hz := Lib.hid hz
  clear hX hst he hv hh hz
  have h65 : ¬ 64 < (n : Int) := by omega
  go_enter Try.func11, Try.ntmps11
  go_wp2
  go_loopw [3] (fun i wr0 => ∃ (wr : World) (k : Nat), wr = wr0 ∧ k ≤ n ∧ i = .int .i64 k ∧ IsS wr a n X ∧ Below w.heap.size w wr ∧ Hid (F k = F 0)) (fun i _ => n - (intOf i).toNat)
  case atStart => exact ⟨_, 0, rfl, by omega, rfl, H1.out, Below.refl _ _, Lib.hid rfl⟩
  case round =>
    obtain ⟨wr, k, rfl, hk, rfl, hI, hB, hR⟩ := hrel
    by_cases hlt : k < n
    · obtain ⟨b, o, x, rfl, hb, y1, hx, _⟩ := hI.at hlt
      have hs1 := Hst.out k x hx
      have cv := Hv.out x (Hz.out.at hx)
      have ch := fun (w' : World) h2 => Hh.out k x w' hk h2
      clear hx Hst Hv Hh Hz
      have hk0 : 0 ≤ (k : Int) := by omega
      have hk1 : (k : Int) < (n : Int) := by omega
      have hk2 : (k : Int) ≤ (c : Int) := by omega
      cases hval : validS x with
      | false =>
        rw [hval] at cv
        have hnew : Hid ((10 : Int) = F 0) := by show _ = _; rw [← hR.out, hs1, if_pos hval]
        clear hR hs1 ch
        go_wp2_with (go_at_call 23; ((with_reducible refine (cv _).mono ?_); rintro e w1 ⟨rfl, hb1⟩))
        go_ret
        exact ⟨one hnew.out, bel_trans hB hb1⟩
      | true =>
        rw [hval] at cv
        rw [if_neg (by simp [hval])] at hs1
        cases hh : hasS (X.take k) x with
        | true =>
          have hnew : Hid ((4 : Int) = F 0) := by show _ = _; rw [← hR.out, hs1, if_pos hh]
          rw [hh] at ch
          clear hR hs1 hh hval
          go_wp2_with (go_at_call 23; ((with_reducible refine (cv _).mono ?_); rintro e w1 ⟨rfl, hb1⟩; have y2 : w1.cell? ⟨b, o + k, none⟩ = some (.string x) := (hb1.cell (p := ⟨b, o + k, none⟩) hb).trans y1; have hI1 := hI.below hb1))
          go_quiet ((go_at_call 24; exact Calls.quiet_of_same (ch _ (hI1.drew _))))
          go_wp2
          go_ret
          exact ⟨one hnew.out, below_drewN (bel_trans hB hb1) _⟩
        | false =>
          have hnew : Hid (F (k + 1) = F 0) := by show _ = _; rw [← hR.out, hs1, if_neg (by simp [hh])]
          rw [hh] at ch
          clear hR hs1 hh hval
          go_wp2_with (go_at_call 23; ((with_reducible refine (cv _).mono ?_); rintro e w1 ⟨rfl, hb1⟩; have y2 : w1.cell? ⟨b, o + k, none⟩ = some (.string x) := (hb1.cell (p := ⟨b, o + k, none⟩) hb).trans y1; have hI1 := hI.below hb1))
          go_quiet ((go_at_call 24; exact Calls.quiet_of_same (ch _ (hI1.drew _))))
          go_wp2
          go_roundw
          case rel => exact ⟨_, k + 1, rfl, by omega, by go_num, hI1.drew _, below_drewN (bel_trans hB hb1) _, hnew⟩
          case measure => simp [intOf]; omega
    · have hnew : Hid ((0 : Int) = F 0) := by show _ = _; rw [← hR.out, He.out k (by omega)]
      clear hR
      go_wp2
      go_ret
      exact ⟨one hnew.out, hB⟩

def BI : List ByteArray := [⟨#[66, 111, 111, 108]⟩, ⟨#[73, 110, 116]⟩]
theorem BI_0 (s : ByteArray) : ((⟨#[66, 111, 111, 108]⟩ : ByteArray).toList == s.toList) = true ↔ s.toList = [66, 111, 111, 108] := by
  rw [beq_iff_eq, ByteArray.toList_eq (bs := ⟨#[66, 111, 111, 108]⟩)]
  exact eq_comm
theorem BI_1 (s : ByteArray) : ((⟨#[73, 110, 116]⟩ : ByteArray).toList == s.toList) = true ↔ s.toList = [73, 110, 116] := by
  rw [beq_iff_eq, ByteArray.toList_eq (bs := ⟨#[73, 110, 116]⟩)]
  exact eq_comm
theorem place_idx (X : List ByteArray) (s : ByteArray) : placeI X s = idxI (BI ++ X) s := by
  have e : idxN (BI ++ X) s = if s.toList = [66, 111, 111, 108] then 0 else if s.toList = [73, 110, 116] then 1 else idxN X s + 2 := by
    unfold idxN BI
    rw [List.cons_append, List.cons_append, List.nil_append, List.findIdx_cons, List.findIdx_cons]
    by_cases h1 : s.toList = [66, 111, 111, 108]
    · rw [if_pos h1, (BI_0 s).2 h1]; rfl
    · rw [if_neg h1]
      have g1 : ((⟨#[66, 111, 111, 108]⟩ : ByteArray).toList == s.toList) = false := by
        cases hc : (⟨#[66, 111, 111, 108]⟩ : ByteArray).toList == s.toList with
        | false => rfl
        | true => exact absurd ((BI_0 s).1 hc) h1
      rw [g1]
      by_cases h2 : s.toList = [73, 110, 116]
      · rw [if_pos h2, (BI_1 s).2 h2]; rfl
      · rw [if_neg h2]
        have g2 : ((⟨#[73, 110, 116]⟩ : ByteArray).toList == s.toList) = false := by
          cases hc : (⟨#[73, 110, 116]⟩ : ByteArray).toList == s.toList with
          | false => rfl
          | true => exact absurd ((BI_1 s).1 hc) h2
        rw [g2]; rfl
  have hle := idxN_le X s
  have hlen : (BI ++ X).length = X.length + 2 := by simp [BI]
  unfold placeI
  conv => rhs; unfold idxI
  rw [e, hlen]
  unfold idxI
  repeat' split
  all_goals omega

theorem own_BI (w : World) : OwnS (w.alloc (.cells #[.string ⟨#[66, 111, 111, 108]⟩, .string ⟨#[73, 110, 116]⟩] 9)) w.heap.size (.slice (some ⟨w.heap.size, 0, none⟩) 2 2) BI :=
  OwnS.made w BI w.heap.size (Nat.le_refl _) (by decide)
theorem All_any (a : Option Addr) (n c : Nat) (X : List ByteArray) (w : World) (hX : SlS w a n c X) (hn : n ≤ 100000000) :
    Calls Try.prog 15 #[.slice a n c] w fun e w' => ∃ v, e = .returned v ∧ OwnS w' w.heap.size v (BI ++ X) ∧ Below w.heap.size w w' := by
  have ho := own_BI w
  have hb : Below w.heap.size w (w.alloc (.cells #[.string ⟨#[66, 111, 111, 108]⟩, .string ⟨#[73, 110, 116]⟩] 9)) := bel_alloc (Below.refl _ _) _
  have hX1 := hX.below hb
  have hs := hb.size
  have hl : BI.length + n ≤ 1000000000 := by show 2 + n ≤ _; omega
  go_enter Try.func15, Try.ntmps15
  go_wp2_with (at_builtin; ((refine app_strs rfl (.tmp 3) (.tmp 4) rfl w.heap.size _ BI rfl ho _ _ _ X rfl hX1 hl hs ?_); intro v1 w1 ho1 hg1))
  go_ret
  exact ⟨_, rfl, ho1, hb.grown hg1 hs (fun k hk => (ho.lt k hk).1)⟩
theorem refAll_any (a : Option Addr) (n c : Nat) (X : List ByteArray) (w : World) (hX : SlS w a n c X) (hn : n ≤ 100000000) :
    Calls Try.prog 16 #[.slice a n c] w fun e w' => ∃ v, e = .returned v ∧ OwnS w' w.heap.size v (BI ++ X) ∧ Below w.heap.size w w' := by
  have ho := own_BI w
  have hb : Below w.heap.size w (w.alloc (.cells #[.string ⟨#[66, 111, 111, 108]⟩, .string ⟨#[73, 110, 116]⟩] 9)) := bel_alloc (Below.refl _ _) _
  have hX1 := hX.below hb
  have hs := hb.size
  have hl : BI.length + n ≤ 1000000000 := by show 2 + n ≤ _; omega
  go_enter Try.func16, Try.ntmps16
  go_wp2_with (at_builtin; ((refine app_strs rfl (.tmp 5) (.tmp 6) rfl w.heap.size _ BI rfl ho _ _ _ X rfl hX1 hl hs ?_); intro v1 w1 ho1 hg1))
  go_ret
  exact ⟨_, rfl, ho1, hb.grown hg1 hs (fun k hk => (ho.lt k hk).1)⟩

set_option maxHeartbeats 2000000 in
theorem refPlace_any (a : Option Addr) (n c : Nat) (X : List ByteArray) (s : ByteArray) (w : World) (hX : SlS w a n c X) (hn : n ≤ 100000000) :
    Calls Try.prog 18 #[.slice a n c, .string s] w fun e w' => e = .returned (.int .i64 (placeI X s)) ∧ Below w.heap.size w w' := by
  have ca : Calls Try.prog 16 #[.slice a n c] w fun e w' => ∃ A d, e = .returned (.slice A (BI ++ X).length d) ∧ IsS w' A (BI ++ X).length (BI ++ X) ∧ Below w.heap.size w w' :=
    (refAll_any a n c X w hX hn).mono fun e w' ⟨v, he, ho, hb⟩ => by
      obtain ⟨A, d, rfl, h⟩ := ho.slS
      exact ⟨A, d, he, h.1, hb⟩
  have hlen : (BI ++ X).length ≤ 1000000000 := by have := hX.1.1; simp [BI]; omega
  rw [place_idx]
  generalize BI ++ X = Z at *
  clear hX hn
  generalize hL : Z.length = N at *
  have hst : ∀ k x, Z[k]? = some x → idxN (Z.drop k) s = if (x.toList == s.toList) = true then 0 else idxN (Z.drop (k + 1)) s + 1 := fun k x h => by
    obtain ⟨hk, rfl⟩ := List.getElem?_eq_some_iff.1 h
    unfold idxN; rw [List.drop_eq_getElem_cons hk, List.findIdx_cons]
    cases Z[k].toList == s.toList <;> rfl
  have he : ∀ k, N ≤ k → idxN (Z.drop k) s = 0 := fun k h => by rw [List.drop_eq_nil_of_le (by rw [hL]; exact h)]; rfl
  have h0 : idxN Z s = idxN (Z.drop 0) s := rfl
  have hR1 : ∀ k, k < N → idxN (Z.drop 0) s = k → (k : Int) = idxI Z s := fun k h g => by unfold idxI; rw [h0, g, if_pos (by rw [hL]; exact h)]
  have hR2 : idxN (Z.drop 0) s = N → (-1 : Int) = idxI Z s := fun g => by unfold idxI; rw [h0, g, if_neg (by rw [hL]; omega)]
  generalize idxI Z s = R at *
  obtain ⟨F, hF⟩ : ∃ F : Nat → Nat, ∀ k, idxN (Z.drop k) s = F k := ⟨_, fun _ => rfl⟩
  simp only [hF] at hst he hR1 hR2
  clear hF h0 hL
  have Hst := Lib.hid hst
  have He := Lib.hid he
  have HR1 := Lib.hid hR1
  have HR2 := Lib.hid hR2
  clear hst he hR1 hR2
  go_enter Try.func18, Try.ntmps18
  go_wp2_with (go_at_call 16; ((with_reducible refine ca.mono ?_); rintro e w1 ⟨A, d, rfl, hX, hb1⟩))
  clear ca
  go_loop [6] (fun i => ∃ (k : Nat), k ≤ N ∧ i = .int .i64 k ∧ Hid (F 0 = k + F k)) (fun i => N - (intOf i).toNat)
  case atStart => exact ⟨0, by omega, rfl, Lib.hid (by omega)⟩
  case round =>
    obtain ⟨k, hk, rfl, hR⟩ := hrel
    by_cases hlt : k < N
    · obtain ⟨b, o, x, rfl, _, y1, hx, _⟩ := hX.at hlt
      have hs1 := Hst.out k x hx
      clear hx hX
      cases hb : x.toList == s.toList with
      | true =>
        have hnew : Hid ((k : Int) = R) := HR1.out k hlt (by rw [hR.out, hs1, if_pos hb]; rfl)
        clear hR hs1
        go_wp2
        go_ret
        exact ⟨one hnew.out, hb1⟩
      | false =>
        have hnew : Hid (F 0 = k + 1 + F (k + 1)) := by
          show _ = _
          rw [hR.out, hs1, if_neg (by simp [hb])]; omega
        clear hR hs1
        have hb2 : (x.toList = s.toList) = False := by simpa using hb
        go_wp2
        go_round
        case rel => exact ⟨k + 1, by omega, by go_num, hnew⟩
        case measure => simp [intOf]; omega
    · have hnew : Hid ((-1 : Int) = R) := HR2.out (by rw [hR.out, He.out k (by omega)]; omega)
      clear hR
      go_wp2
      go_ret
      exact ⟨one hnew.out, hb1⟩
end Go.Proofs.Ytfamlimnanehnaa.Srt
