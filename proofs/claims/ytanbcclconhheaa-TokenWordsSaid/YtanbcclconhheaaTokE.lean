/-
  What is proved: what stands first in a text, by package token; the longest sign by the document's answers.
-/
import Derived.Test.YtanbcclconhheaaTokD
import Derived.IntWalk
import Derived.Deep.Draws
namespace Go.Proofs.Ytanbcclconhheaa.Tok
open Go.RowKit
set_option linter.unusedVariables false
set_option linter.unusedSimpArgs false

theorem retS {a b : ByteArray} (h : a = b) : Ending.returned (.string a) = .returned (.string b) := by rw [h]
theorem three {a b c x y z : Int} (h : x = a ∧ y = b ∧ z = c) : Ending.returned (.tuple #[.int .i64 a, .int .i64 b, .int .i64 c]) = .returned (.tuple #[.int .i64 x, .int .i64 y, .int .i64 z]) := by
  obtain ⟨rfl, rfl, rfl⟩ := h; rfl

set_option maxHeartbeats 1000000 in
theorem first_any (s : ByteArray) (g : Nat) (w : World) (hs : s.size ≤ 9223372036854775807) (hc : SAt w g SGb) :
    Calls Try.prog 24 #[.string s, .slice (some ⟨g, 0, none⟩) 27 27] w fun e w' =>
      e = .returned (.tuple #[.int .i64 (fK s.data.toList), .int .i64 (fN s.data.toList), .int .i64 (fE s.data.toList)]) ∧ w = w' := by
  have c1 := fun (w : World) => name_any s w hs
  have c2 := fun (w : World) => number_any s w hs
  have c3 := sign_any s g w hs hc
  clear hc
  have l1 := nameN_le s.data.toList
  have l2 := numN_le s.data.toList
  have l3 := sgN_le s.data.toList
  rw [len_list] at l1 l2 l3
  have hr : (fK s.data.toList, fN s.data.toList, fE s.data.toList) = fst3 s.data.toList := rfl
  unfold fst3 at hr
  generalize fK s.data.toList = K at *
  generalize fN s.data.toList = M at *
  generalize fE s.data.toList = E at *
  generalize nameN s.data.toList = n1 at *
  generalize numN s.data.toList = n2 at *
  generalize sgN s.data.toList = n3 at *
  by_cases h1 : 32 < n1
  · rw [if_pos h1] at hr
    simp only [Prod.mk.injEq] at hr
    obtain ⟨rfl, rfl, rfl⟩ := hr
    go_enter Try.func24, Try.ntmps24
    go_wp2_with (go_at_call 26; ((with_reducible refine (c1 _).mono ?_); rintro e w' ⟨rfl, rfl⟩))
    go_ret3
    exact ⟨rfl, rfl⟩
  · rw [if_neg h1] at hr
    by_cases h2 : 0 < n1
    · rw [if_pos h2] at hr
      simp only [Prod.mk.injEq] at hr
      obtain ⟨rfl, rfl, rfl⟩ := hr
      go_enter Try.func24, Try.ntmps24
      go_wp2_with (go_at_call 26; ((with_reducible refine (c1 _).mono ?_); rintro e w' ⟨rfl, rfl⟩))
      go_ret3
      exact ⟨rfl, rfl⟩
    · rw [if_neg h2] at hr
      by_cases h3 : 0 < n2
      · rw [if_pos h3] at hr
        simp only [Prod.mk.injEq] at hr
        obtain ⟨rfl, rfl, rfl⟩ := hr
        go_enter Try.func24, Try.ntmps24
        go_wp2_with (first | (go_at_call 26; ((with_reducible refine (c1 _).mono ?_); rintro e w' ⟨rfl, rfl⟩)) | (go_at_call 32; ((with_reducible refine (c2 _).mono ?_); rintro e w' ⟨rfl, rfl⟩)))
        go_ret3
        exact ⟨rfl, rfl⟩
      · rw [if_neg h3] at hr
        by_cases h4 : 0 < n3
        · rw [if_pos h4] at hr
          simp only [Prod.mk.injEq] at hr
          obtain ⟨rfl, rfl, rfl⟩ := hr
          go_enter Try.func24, Try.ntmps24
          go_wp2_with (first | (go_at_call 26; ((with_reducible refine (c1 _).mono ?_); rintro e w' ⟨rfl, rfl⟩)) | (go_at_call 32; ((with_reducible refine (c2 _).mono ?_); rintro e w' ⟨rfl, rfl⟩)) | (go_at_call 33; ((with_reducible refine c3.mono ?_); rintro e w' ⟨rfl, rfl⟩)))
          go_ret3
          exact ⟨rfl, rfl⟩
        · rw [if_neg h4] at hr
          simp only [Prod.mk.injEq] at hr
          obtain ⟨rfl, rfl, rfl⟩ := hr
          go_enter Try.func24, Try.ntmps24
          go_wp2_with (first | (go_at_call 26; ((with_reducible refine (c1 _).mono ?_); rintro e w' ⟨rfl, rfl⟩)) | (go_at_call 32; ((with_reducible refine (c2 _).mono ?_); rintro e w' ⟨rfl, rfl⟩)) | (go_at_call 33; ((with_reducible refine c3.mono ?_); rintro e w' ⟨rfl, rfl⟩)))
          go_ret3
          exact ⟨rfl, rfl⟩

theorem SAt.drewN {w : World} {g : Nat} {xs : List ByteArray} (h : SAt w g xs) (n : Nat) : SAt (w.drewN n) g xs := h
theorem below_drewN {B : Nat} {a w : World} (h : Below B a w) (n : Nat) : Below B a (w.drewN n) := ⟨h.os, h.tape, h.output, h.size, h.block⟩
theorem pre_take {x l : List UInt8} (h : x.isPrefixOf l = true) : x = l.take x.length := by
  obtain ⟨r, hr⟩ := pre_iff.1 h
  rw [← hr, List.take_left]
theorem pre_eq {x l : List UInt8} : x.isPrefixOf l = true ↔ x.length ≤ l.length ∧ l.take x.length = x := by
  constructor
  · intro h
    exact ⟨(pre_iff.1 h).length_le, (pre_take h).symm⟩
  · rintro ⟨_, h⟩
    rw [pre_iff, ← h]; exact List.take_prefix _ _
theorem cut_list (s : ByteArray) (i j : Nat) : (s.extract i j).data.toList = (s.data.toList.drop i).take (j - i) := by
  rw [ByteArray.data_extract, Array.toList_extract]

set_option maxHeartbeats 2000000 in
theorem refSign_any (s : ByteArray) (a : Nat) (w : World) (hs : s.size ≤ 9223372036854775000) (ha : a ≤ s.size) :
    Calls Try.prog 36 #[.string s, .int .i64 a] w fun e w' => e = .returned (.string (BA ((s.data.toList.drop a).take (sgN (s.data.toList.drop a))))) ∧ Below w.heap.size w w' := by
  have cS := fun (w : World) => refSigns_any w
  have hcat : SAt (w.alloc (.cells SGc 9)) w.heap.size SGb := SGc_at (heap_alloc_new w _)
  obtain ⟨W1, hW1⟩ : ∃ W1, w.alloc (.cells SGc 9) = W1 := ⟨_, rfl⟩
  have hbel : Below w.heap.size w W1 := by rw [← hW1]; exact bel_alloc (Below.refl _ _) _
  have cS0 := cS w
  rw [hW1] at cS0 hcat
  clear cS hW1
  obtain ⟨g, hg⟩ : ∃ g, w.heap.size = g := ⟨_, rfl⟩
  rw [hg] at cS0 hcat
  have h3 : ∀ x ∈ SGb, x.size ≤ 3 := by decide
  have hlen : SGb.length = 27 := rfl
  have hst : ∀ k m (h : k < SGb.length), ((SGb.drop k).map (·.data.toList)).foldl (sgS (s.data.toList.drop a)) m = ((SGb.drop (k + 1)).map (·.data.toList)).foldl (sgS (s.data.toList.drop a)) (sgS (s.data.toList.drop a) m SGb[k].data.toList) := fun k m h => fold_at h
  have he : ∀ k m, SGb.length ≤ k → ((SGb.drop k).map (·.data.toList)).foldl (sgS (s.data.toList.drop a)) m = m := fun k m h => by rw [List.drop_eq_nil_of_le h]; rfl
  have h0 : sgN (s.data.toList.drop a) = ((SGb.drop 0).map (·.data.toList)).foldl (sgS (s.data.toList.drop a)) 0 := rfl
  rw [h0]
  clear h0
  obtain ⟨F, hF⟩ : ∃ F : Nat → Nat → Nat, ∀ k m, ((SGb.drop k).map (·.data.toList)).foldl (sgS (s.data.toList.drop a)) m = F k m := ⟨_, fun _ _ => rfl⟩
  simp only [hF] at hst he ⊢
  clear hF
  have Hst := Lib.hid hst
  have He := Lib.hid he
  have Hc := Lib.hid hcat
  have H3 := Lib.hid h3
  have Hlen := Lib.hid hlen
  have Hg := Lib.hid hg
  clear hst he hcat h3 hlen hg
  go_enter Try.func36, Try.ntmps36
  go_wp2_with (go_at_call 19; ((with_reducible refine cS0.mono ?_); rintro e w' ⟨rfl, rfl⟩))
  clear cS0
  go_loopw [5, 7] (fun n i wr => ∃ (k m d : Nat) (b : ByteArray), wr = W1.drewN d ∧ k ≤ 27 ∧ i = .int .i64 k ∧ n = .string b ∧ b.size = m ∧ m ≤ 3 ∧ Hid (b = BA ((s.data.toList.drop a).take m)) ∧ Hid (F k m = F 0 0)) (fun _ i _ => 27 - (intOf i).toNat)
  case atStart => exact ⟨0, 0, 0, ⟨#[]⟩, rfl, by omega, rfl, rfl, rfl, by omega, Lib.hid rfl, Lib.hid rfl⟩
  case round =>
    obtain ⟨k, m, d, b, rfl, hk, rfl, rfl, hbm, hm, hB, hR⟩ := hrel
    by_cases hlt : k < 27
    · have hlt2 : k < SGb.length := by rw [Hlen.out]; exact hlt
      have hcell := Hc.out k hlt2
      have hx := H3.out SGb[k] (List.getElem_mem hlt2)
      have hs1 := Lib.hid (Hst.out k m hlt2)
      generalize SGb[k] = x at *
      have hxl := len_list x
      have hiw : 0 ≤ (k : Int) := by omega
      by_cases h1 : m < x.size
      · have hd1 : decide (b.size < x.size) = true := decide_eq_true (by omega)
        have hd2 : decide ((b.size : Int) < (x.size : Int)) = true := decide_eq_true (by omega)
        by_cases h2 : a + x.size ≤ s.size
        · have hd3 : decide ((a : Int) + (x.size : Int) ≤ (s.size : Int)) = true := decide_eq_true (by omega)
          have hwr : IntKind.i64.wrap ((a : Int) + (x.size : Int)) = (a : Int) + (x.size : Int) := IntWalk.i64_in _ (by omega)
          have h0a : 0 ≤ (a : Int) + (x.size : Int) := by omega
          have hna : ((a : Int) + (x.size : Int)).toNat = a + x.size := by omega
          have hcl := cut_list s a (a + x.size)
          rw [show a + x.size - a = x.size by omega] at hcl
          cases hb : x.data.toList.isPrefixOf (s.data.toList.drop a) with
          | true =>
            have hnew : Hid (F (k + 1) x.size = F 0 0) := by
              show _ = _
              rw [← hR.out, hs1.out, sgS, if_pos ⟨by rw [hxl]; exact h1, hb⟩, hxl]
            have hxB : Hid (x = BA ((s.data.toList.drop a).take x.size)) := by
              show _ = _
              have := pre_take hb
              rw [hxl] at this
              rw [← this]; rfl
            have heq : ((s.extract a (a + x.size)).toList == x.toList) = true := by
              rw [ByteArray.toList_eq, ByteArray.toList_eq, hcl, beq_iff_eq]
              have := pre_take hb
              rw [hxl] at this
              exact this.symm
            have hbm2 := Lib.hid hbm
            have hle2 : x.size ≤ 3 := hx
            clear hs1 hR hxl hbm hcl hb hB
            go_wp2
            go_quiet (fail)
            go_wp2
            go_roundw
            case rel => exact ⟨k + 1, x.size, _, x, rfl, by omega, by go_num, rfl, rfl, hle2, hxB, hnew⟩
            case measure => simp [intOf]; omega
          | false =>
            have hnew : Hid (F (k + 1) m = F 0 0) := by
              show _ = _
              rw [← hR.out, hs1.out, sgS, if_neg (by rw [hb]; simp)]
            have heq : ((s.extract a (a + x.size)).toList == x.toList) = false := by
              rw [ByteArray.toList_eq, ByteArray.toList_eq, hcl, beq_eq_false_iff_ne]
              intro e
              have := (pre_eq (x := x.data.toList) (l := s.data.toList.drop a)).2 ⟨by rw [hxl, List.length_drop, len_list]; omega, by rw [hxl]; exact e⟩
              rw [hb] at this; cases this
            have hbm2 := Lib.hid hbm
            clear hs1 hR hxl hbm hcl hb
            go_wp2
            go_quiet (fail)
            go_wp2
            go_roundw
            case rel => exact ⟨k + 1, m, _, b, rfl, by omega, by go_num, rfl, hbm2.out, hm, hB, hnew⟩
            case measure => simp [intOf]; omega
        · have hd3 : decide ((a : Int) + (x.size : Int) ≤ (s.size : Int)) = false := decide_eq_false (by omega)
          have hwr : IntKind.i64.wrap ((a : Int) + (x.size : Int)) = (a : Int) + (x.size : Int) := IntWalk.i64_in _ (by omega)
          have hnew : Hid (F (k + 1) m = F 0 0) := by
            show _ = _
            rw [← hR.out, hs1.out, sgS, if_neg]
            intro ⟨_, h⟩
            have := (pre_eq.1 h).1
            rw [hxl, List.length_drop, len_list] at this
            omega
          have hbm2 := Lib.hid hbm
          clear hs1 hR hxl hbm
          go_wp2
          go_quiet (fail)
          go_wp2
          go_roundw
          case rel => exact ⟨k + 1, m, _, b, rfl, by omega, by go_num, rfl, hbm2.out, hm, hB, hnew⟩
          case measure => simp [intOf]; omega
      · have hnew : Hid (F (k + 1) m = F 0 0) := by
          show _ = _
          rw [← hR.out, hs1.out, sgS, if_neg (by rw [hxl]; omega)]
        have hd1 : decide (b.size < x.size) = false := decide_eq_false (by omega)
        have hd2 : decide ((b.size : Int) < (x.size : Int)) = false := decide_eq_false (by omega)
        have hbm2 := Lib.hid hbm
        clear hs1 hR hxl hbm
        go_wp2

        go_quiet (fail)
        go_wp2
        go_roundw
        case rel => exact ⟨k + 1, m, _, b, rfl, by omega, by go_num, rfl, hbm2.out, hm, hB, hnew⟩
        case measure => simp [intOf]; omega
    · have hnew : Hid (m = F 0 0) := by show _ = _; rw [← hR.out, He.out k m (by rw [Hlen.out]; omega)]
      have hfin : Hid (b = BA ((s.data.toList.drop a).take (F 0 0))) := by show _ = _; rw [hB.out, hnew.out]
      clear hR hB hnew
      go_wp2
      go_ret
      exact ⟨retS hfin.out, below_drewN hbel d⟩
end Go.Proofs.Ytanbcclconhheaa.Tok
