/-
  What is proved: the sizes that the laws on signatures speak of.
-/
import Derived.Test.YtakcbpmdjdadnaaSgnL
import Derived.Test.YtakcbpmdjdadnaaLibV
namespace Go.Proofs.Ytakcbpmdjdadnaa.Sgn
open Go.RowKit L Srt
set_option linter.unusedVariables false
set_option linter.unusedSimpArgs false

/-- the sizes that Go's len can tell -/
def szC (C : Core) : Prop := C.1.size ≤ 9223372036854775807 ∧ C.2.2.size ≤ 9223372036854775807 ∧ C.2.1.length ≤ 9223372036854775807 ∧ sizedS C.2.1

set_option maxHeartbeats 4000000 in
theorem LongFun_any (f : Fm) (w : World) (hf : f.ok w) (hz : szC f.core) :
    Calls Try.prog 10 #[.agg #[.string f.name, .slice f.a f.m f.c, .string f.res]] w fun e w' => e = .returned (.bool (longC f.core)) ∧ Below w.heap.size w w' := by
  obtain ⟨hz1, hz2, hz3, hz4⟩ := hz
  have hz1 : f.name.size ≤ 9223372036854775807 := hz1
  have hz2 : f.res.size ≤ 9223372036854775807 := hz2
  have hz3 : f.m ≤ 9223372036854775807 := by rw [hf.1.1]; exact hz3
  have hz4 : sizedS f.X := hz4
  have hB : Below w.heap.size w (w.alloc (.cells #[.string f.name, .slice f.a f.m f.c, .string f.res] 27)) := bel_alloc (Below.refl _ _) _
  have F1 := FBox.new w f.name f.a f.m f.c f.res
  obtain ⟨W1, hW1⟩ : ∃ W1, w.alloc (.cells #[.string f.name, .slice f.a f.m f.c, .string f.res] 27) = W1 := ⟨_, rfl⟩
  rw [hW1] at hB F1
  have hX := (hf.below hB).1
  have hE : longC f.core = ((decide (100 < f.name.size) || (decide (100 < f.res.size) || decide (20 < f.m))) || (f.X.drop 0).any (fun x : ByteArray => decide (100 < x.size))) := by unfold longC Fm.core; rw [hf.1.1]; rfl
  have hst : ∀ k (x : ByteArray), f.X[k]? = some x → (f.X.drop k).any (fun x : ByteArray => decide (100 < x.size)) = (decide (100 < x.size) || (f.X.drop (k + 1)).any (fun x : ByteArray => decide (100 < x.size))) := fun k x h => by
    obtain ⟨hk, rfl⟩ := List.getElem?_eq_some_iff.1 h
    rw [List.drop_eq_getElem_cons hk, List.any_cons]
  have he : ∀ k, f.m ≤ k → (f.X.drop k).any (fun x : ByteArray => decide (100 < x.size)) = false := fun k h => by rw [List.drop_eq_nil_of_le (by rw [← hf.1.1]; exact h)]; rfl
  have hzz : ∀ k (x : ByteArray), f.X[k]? = some x → x.size ≤ 9223372036854775807 := fun k x h => hz4 x (List.mem_of_getElem? h)
  obtain ⟨F, hF⟩ : ∃ F : Nat → Bool, ∀ k, (f.X.drop k).any (fun x : ByteArray => decide (100 < x.size)) = F k := ⟨_, fun _ => rfl⟩
  simp only [hF] at hst he hE
  obtain ⟨f0, f1, f2⟩ := F1.three
  clear hF hf hz4
  generalize longC f.core = E at *
  generalize f.name = nm at *
  generalize f.a = A at *
  generalize f.m = M at *
  generalize f.c = Cc at *
  generalize f.X = X at *
  generalize f.res = rs at *
  by_cases h1 : 100 < nm.size
  · have g1 : 100 < (nm.size : Int) := by omega
    have hr : Hid (true = E) := by show _ = _; rw [hE, decide_eq_true h1]; rfl
    clear hE hst he hzz hX h1
    go_enter Try.func10, Try.ntmps10
    go_wp2
    go_ret
    exact ⟨oneB hr.out, hB⟩
  have g1 : ¬ 100 < (nm.size : Int) := by omega
  by_cases h2 : 100 < rs.size
  · have g2 : 100 < (rs.size : Int) := by omega
    have hr : Hid (true = E) := by show _ = _; rw [hE, decide_eq_true h2]; simp
    clear hE hst he hzz hX h1 h2
    go_enter Try.func10, Try.ntmps10
    go_wp2
    go_ret
    exact ⟨oneB hr.out, hB⟩
  have g2 : ¬ 100 < (rs.size : Int) := by omega
  by_cases h3 : 20 < M
  · have g3 : 20 < (M : Int) := by omega
    have hr : Hid (true = E) := by show _ = _; rw [hE, decide_eq_true h3]; simp
    clear hE hst he hzz hX h1 h2 h3
    go_enter Try.func10, Try.ntmps10
    go_wp2
    go_ret
    exact ⟨oneB hr.out, hB⟩
  have g3 : ¬ 20 < (M : Int) := by omega
  have hr : Hid (E = F 0) := by show _ = _; rw [hE, decide_eq_false h1, decide_eq_false h2, decide_eq_false h3]; rfl
  have H1 := Lib.hid hX
  have Hst := Lib.hid hst
  have He := Lib.hid he
  have Hz := Lib.hid hzz
  clear hE hst he hzz hX h1 h2
  go_enter Try.func10, Try.ntmps10
  go_wp2
  go_loop [3] (fun i => ∃ (k : Nat), k ≤ M ∧ i = .int .i64 k ∧ Hid (F k = F 0)) (fun i => M - (intOf i).toNat)
  case atStart => exact ⟨0, by omega, rfl, Lib.hid rfl⟩
  case round =>
    obtain ⟨k, hk, rfl, hR⟩ := hrel
    by_cases hlt : k < M
    · obtain ⟨b, o, x, rfl, _, y1, hx, _⟩ := H1.out.at hlt
      have hs1 := Hst.out k x hx
      have hxz := Hz.out k x hx
      clear hx H1 Hst Hz
      by_cases hb : 100 < x.size
      · have hnew : Hid (true = E) := by show _ = _; rw [hr.out, ← hR.out, hs1, decide_eq_true hb]; rfl
        have hb2 : 100 < (x.size : Int) := by omega
        clear hR hs1 hb
        go_wp2
        go_ret
        exact ⟨oneB hnew.out, hB⟩
      · have hnew : Hid (F (k + 1) = F 0) := by show _ = _; rw [← hR.out, hs1, decide_eq_false hb]; rfl
        have hb2 : ¬ 100 < (x.size : Int) := by omega
        clear hR hs1 hb
        go_wp2
        go_round
        case rel => exact ⟨k + 1, by omega, by go_num, hnew⟩
        case measure => simp [intOf]; omega
    · have hnew : Hid (false = E) := by show _ = _; rw [hr.out, ← hR.out, He.out k (by omega)]
      clear hR
      go_wp2
      go_ret
      exact ⟨oneB hnew.out, hB⟩

set_option maxHeartbeats 4000000 in
theorem Long_any (a : Option Addr) (n c : Nat) (S : List ByteArray) (b : Option Addr) (m d : Nat) (G : List Fm) (w : World) (hS : IsS w a n S) (hn : n ≤ 9223372036854775807) (hz : sizedS S) (hG : IsG w b m G) (hm : m ≤ 9223372036854775807) (hzG : ∀ C ∈ cores G, szC C) :
    Calls Try.prog 9 #[.agg #[.slice a n c, .slice b m d]] w fun e w' => e = .returned (.bool (longS S (cores G))) ∧ Below w.heap.size w w' := by
  have hB : Below w.heap.size w (w.alloc (.cells #[.slice a n c, .slice b m d] 25)) := bel_alloc (Below.refl _ _) _
  have S1 := SBox.new w a n c b m d
  obtain ⟨W1, hW1⟩ : ∃ W1, w.alloc (.cells #[.slice a n c, .slice b m d] 25) = W1 := ⟨_, rfl⟩
  rw [hW1] at hB S1
  have hlen : (cores G).length = m := by rw [cores_len]; exact hG.1.symm
  have hE : longS S (cores G) = ((decide (70 < n) || decide (20 < m)) || ((S.drop 0).any (fun x : ByteArray => decide (100 < x.size)) || ((cores G).drop 0).any longC)) := by unfold longS; rw [hlen, hS.1]; rfl
  have hst : ∀ k (x : ByteArray), S[k]? = some x → (S.drop k).any (fun x : ByteArray => decide (100 < x.size)) = (decide (100 < x.size) || (S.drop (k + 1)).any (fun x : ByteArray => decide (100 < x.size))) := fun k x h => by
    obtain ⟨hk, rfl⟩ := List.getElem?_eq_some_iff.1 h
    rw [List.drop_eq_getElem_cons hk, List.any_cons]
  have he : ∀ k, n ≤ k → (S.drop k).any (fun x : ByteArray => decide (100 < x.size)) = false := fun k h => by rw [List.drop_eq_nil_of_le (by rw [← hS.1]; exact h)]; rfl
  have hstG : ∀ k (f : Fm), G[k]? = some f → ((cores G).drop k).any longC = (longC f.core || ((cores G).drop (k + 1)).any longC) := fun k f h => by
    obtain ⟨hk, he⟩ := List.getElem?_eq_some_iff.1 (cores_at h)
    rw [List.drop_eq_getElem_cons hk, List.any_cons, he]
  have heG : ∀ k, m ≤ k → ((cores G).drop k).any longC = false := fun k h => by rw [List.drop_eq_nil_of_le (by rw [hlen]; exact h)]; rfl
  have hzz : ∀ k (x : ByteArray), S[k]? = some x → x.size ≤ 9223372036854775807 := fun k x h => hz x (List.mem_of_getElem? h)
  have hzF : ∀ k (f : Fm), G[k]? = some f → szC f.core := fun k f h => hzG _ (List.mem_of_getElem? (cores_at h))
  obtain ⟨F, hF⟩ : ∃ F : Nat → Bool, ∀ k, (S.drop k).any (fun x : ByteArray => decide (100 < x.size)) = F k := ⟨_, fun _ => rfl⟩
  obtain ⟨J, hJ⟩ : ∃ J : Nat → Bool, ∀ k, ((cores G).drop k).any longC = J k := ⟨_, fun _ => rfl⟩
  simp only [hF, hJ] at hst he hstG heG hE
  have hX := hS.below hB
  have hI : ∀ w', Below W1.heap.size W1 w' → IsG w' b m G := fun w' h => (hG.below hB).below h
  obtain ⟨s0, s1⟩ := S1.two
  clear hF hJ hS hG hlen hzG hz
  generalize longS S (cores G) = E at *
  by_cases h1 : 70 < n
  · have g1 : 70 < (n : Int) := by omega
    have hr : Hid (true = E) := by show _ = _; rw [hE, decide_eq_true h1]; rfl
    clear hE hst he hstG heG hzz hzF hX hI h1
    go_enter Try.func9, Try.ntmps9
    go_wp2
    go_ret
    exact ⟨oneB hr.out, hB⟩
  have g1 : ¬ 70 < (n : Int) := by omega
  by_cases h2 : 20 < m
  · have g2 : 20 < (m : Int) := by omega
    have hr : Hid (true = E) := by show _ = _; rw [hE, decide_eq_true h2]; simp
    clear hE hst he hstG heG hzz hzF hX hI h1 h2
    go_enter Try.func9, Try.ntmps9
    go_wp2
    go_ret
    exact ⟨oneB hr.out, hB⟩
  have g2 : ¬ 20 < (m : Int) := by omega
  have hr : Hid (E = (F 0 || J 0)) := by show _ = _; rw [hE, decide_eq_false h1, decide_eq_false h2]; rfl
  have H1 := Lib.hid hX
  have Hst := Lib.hid hst
  have He := Lib.hid he
  have HstG := Lib.hid hstG
  have HeG := Lib.hid heG
  have Hz := Lib.hid hzz
  have HzF := Lib.hid hzF
  have HI := Lib.hid hI
  have lt1 := Blk.lt S1
  clear hE hst he hstG heG hzz hzF hX hI
  go_enter Try.func9, Try.ntmps9
  go_wp2
  go_loop [3] (fun i => ∃ (k : Nat), k ≤ n ∧ i = .int .i64 k ∧ Hid (F k = F 0)) (fun i => n - (intOf i).toNat)
  case atStart => exact ⟨0, by omega, rfl, Lib.hid rfl⟩
  case round =>
    obtain ⟨k, hk, rfl, hR⟩ := hrel
    by_cases hlt : k < n
    · obtain ⟨bb, o, x, rfl, _, y1, hx, _⟩ := H1.out.at hlt
      have hs1 := Hst.out k x hx
      have hxz := Hz.out k x hx
      clear hx H1 Hst Hz
      by_cases hb : 100 < x.size
      · have hnew : Hid (true = E) := by show _ = _; rw [hr.out, ← hR.out, hs1, decide_eq_true hb]; rfl
        have hb2 : 100 < (x.size : Int) := by omega
        clear hR hs1 hb
        go_wp2
        go_ret
        exact ⟨oneB hnew.out, hB⟩
      · have hnew : Hid (F (k + 1) = F 0) := by show _ = _; rw [← hR.out, hs1, decide_eq_false hb]; rfl
        have hb2 : ¬ 100 < (x.size : Int) := by omega
        clear hR hs1 hb
        go_wp2
        go_round
        case rel => exact ⟨k + 1, by omega, by go_num, hnew⟩
        case measure => simp [intOf]; omega
    · have hF0 : F 0 = false := by rw [← hR.out, He.out k (by omega)]
      have hr2 : Hid (E = J 0) := by show _ = _; rw [hr.out, hF0]; rfl
      clear hR hr hF0 Hst He Hz H1
      go_wp2
      go_loopw [4] (fun i wr0 => ∃ (wr : World) (j : Nat), wr = wr0 ∧ j ≤ m ∧ i = .int .i64 j ∧ Below W1.heap.size W1 wr ∧ Hid (J j = J 0)) (fun i _ => m - (intOf i).toNat)
      case atStart => exact ⟨_, 0, rfl, by omega, rfl, Below.refl _ _, Lib.hid rfl⟩
      case round =>
        obtain ⟨wr, j, rfl, hj, rfl, hBr, hR⟩ := hrel
        obtain ⟨t0, t1⟩ := (S1.b hBr).two
        by_cases hltj : j < m
        · obtain ⟨bb, o, f, rfl, hb, y1, y2, y3, hx, hok⟩ := (HI.out wr hBr).at hltj
          have hs1 := HstG.out j f hx
          have cf := LongFun_any f wr hok (HzF.out j f hx)
          have hj0 : 0 ≤ (j : Int) := by omega
          have hj1 : (j : Int) < (m : Int) := by omega
          clear hx hok HI HstG HzF
          generalize longC f.core = Q at *
          generalize f.name = nm at *
          generalize f.a = A at *
          generalize f.m = M at *
          generalize f.c = Cc at *
          generalize f.res = rs at *
          cases Q with
          | true =>
            have hnew : Hid (true = E) := by show _ = _; rw [hr2.out, ← hR.out, hs1]; rfl
            clear hR hs1
            go_wp2_with (go_at_call 10; ((with_reducible refine cf.mono ?_); rintro e w4 ⟨rfl, hb4⟩))
            go_ret
            exact ⟨oneB hnew.out, bel_trans hB (bel_trans hBr hb4)⟩
          | false =>
            have hnew : Hid (J (j + 1) = J 0) := by show _ = _; rw [← hR.out, hs1]; rfl
            clear hR hs1
            go_wp2_with (go_at_call 10; ((with_reducible refine cf.mono ?_); rintro e w4 ⟨rfl, hb4⟩))
            go_roundw
            case rel => exact ⟨_, j + 1, rfl, by omega, by go_num, bel_trans hBr hb4, hnew⟩
            case measure => simp [intOf]; omega
        · have hnew : Hid (false = E) := by show _ = _; rw [hr2.out, ← hR.out, HeG.out j (by omega)]
          clear hR
          go_wp2
          go_ret
          exact ⟨oneB hnew.out, bel_trans hB hBr⟩

/-- what is not too long is of a size that all calls can take -/
theorem long_no {C : Core} (h : longC C = false) : okC C ∧ C.2.1.length ≤ 20 := by
  unfold longC at h
  simp only [Bool.or_eq_false_iff, decide_eq_false_iff_not, List.any_eq_false] at h
  obtain ⟨⟨h1, h2, h3⟩, h4⟩ := h
  refine ⟨⟨by omega, by omega, by omega, fun x hx => ?_⟩, by omega⟩
  have := h4 x hx
  simp at this
  omega
theorem longS_no {S : List ByteArray} {K : List Core} (h : longS S K = false) : S.length ≤ 70 ∧ okZ S ∧ K.length ≤ 20 ∧ okK K := by
  unfold longS at h
  simp only [Bool.or_eq_false_iff, decide_eq_false_iff_not, List.any_eq_false] at h
  obtain ⟨⟨h1, h2⟩, h3, h4⟩ := h
  refine ⟨by omega, fun x hx => ?_, by omega, by omega, fun C hC => (long_no (by have := h4 C hC; simpa using this)).1⟩
  have := h3 x hx
  simp at this
  omega
end Go.Proofs.Ytakcbpmdjdadnaa.Sgn
