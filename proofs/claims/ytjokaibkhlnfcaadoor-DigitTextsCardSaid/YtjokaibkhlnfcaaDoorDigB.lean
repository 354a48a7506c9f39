/-
  What is proved: what Read, Nat, Index, Text and Part of package digit return.
-/
import Derived.Test.YtjokaibkhlnfcaaDoorDigA
import Derived.Test.YtjokaibkhlnfcaaDoorShelf
import Derived.Lib.LaidTab
import Derived.Lib.AppendIntMem
import Derived.Lib.SmallJoins
namespace Go.Proofs.YtjokaibkhlnfcaaDoor.Dig
open Go.RowKit
set_option linter.unusedVariables false
set_option linter.unusedSimpArgs false

theorem fit_low {v u : Nat} (h : v ≤ u) (hf : fitB (-(v : Int)) = false) : fitV (-(u : Int)) = 0 ∧ fitB (-(u : Int)) = false := by
  have h1 := of_decide_eq_false (show decide _ = false from hf)
  exact fit_no (by omega)
theorem val_take_le {l : List UInt8} {k : Nat} : val (l.take k) ≤ val l := by
  have h := List.take_append_drop k l
  have : val l = val (l.take k ++ l.drop k) := by rw [h]
  rw [this]
  generalize l.take k = a
  generalize l.drop k = b
  have : val (a ++ b) = val a * 10 ^ b.length + val b := by
    rw [val, List.foldl_append, fold_add]; rfl
  rw [this]
  have : val a * 1 ≤ val a * 10 ^ b.length := Nat.mul_le_mul_left _ (Nat.one_le_pow _ _ (by decide))
  omega
theorem pair2 {k : IntKind} {a b : Int} {p q : Bool} (h : b = a ∧ q = p) : Ending.returned (.tuple #[.int k a, .bool p]) = .returned (.tuple #[.int k b, .bool q]) := by
  obtain ⟨rfl, rfl⟩ := h; rfl

set_option maxHeartbeats 1000000 in
theorem negative_any (s : ByteArray) (w : World) (hs : s.size ≤ 9223372036854775807) (hD : s.data.toList.all isD = true) :
    Calls Tryd.prog 23 #[.string s] w fun e w' => e = .returned (.tuple #[.int .i64 (fitV (-(val s.data.toList : Int))), .bool (fitB (-(val s.data.toList : Int)))]) ∧ w = w' := by
  have hdig : ∀ k (h : k < s.size), 48 ≤ s[k].toNat ∧ s[k].toNat ≤ 57 := fun k h => isD_iff.1 (List.all_eq_true.1 hD _ (by rw [← at_list s k h]; exact List.getElem_mem _))
  have hend : s.data.toList.take s.size = s.data.toList := by rw [← len_list]; exact List.take_length
  have hlow : ∀ k, val (s.data.toList.take k) ≤ val s.data.toList := fun k => val_take_le
  have hst : ∀ k (h : k < s.size), val (s.data.toList.take (k + 1)) = 10 * val (s.data.toList.take k) + (s[k].toNat - 48) := fun k h => by rw [take_snoc s k h, val_snoc]
  obtain ⟨V, hV⟩ : ∃ V : Nat → Nat, ∀ k, val (s.data.toList.take k) = V k := ⟨fun k => val (s.data.toList.take k), fun k => rfl⟩
  have hV0 : V 0 = 0 := by rw [← hV]; rfl
  obtain ⟨T, hT⟩ : ∃ T, val s.data.toList = T := ⟨_, rfl⟩
  have hVT : V s.size = T := by rw [← hV, hend, hT]
  simp only [hV, hT] at hlow hst
  rw [hT]
  clear hV hT hend hD
  have Hst := Lib.hid hst
  have HVT := Lib.hid hVT
  have HV0 := Lib.hid hV0
  clear hst hVT hV0
  go_enter Tryd.func23, Tryd.ntmps23
  go_wp2
  go_loop [4, 5, 6] (fun n o i => ∃ k : Nat, k ≤ s.size ∧ i = .int .i64 k ∧ n = .int .i64 (fitV (-(V k : Int))) ∧ o = .bool (fitB (-(V k : Int)))) (fun _ _ i => s.size - (intOf i).toNat)
  case atStart => exact ⟨0, by omega, rfl, by rw [HV0.out]; rfl, by rw [HV0.out]; rfl⟩
  case round =>
    obtain ⟨k, hk, rfl, rfl, rfl⟩ := hrel
    cases hf : fitB (-(V k : Int)) with
    | false =>
      obtain ⟨f1, f2⟩ := fit_low (hlow k) hf
      rw [(fit_low (Nat.le_refl (V k)) hf).1]
      have g1 := Lib.hid f1
      have g2 := Lib.hid f2
      clear hf hlow hdig f1 f2
      go_wp2
      go_ret2
      exact ⟨pair2 ⟨g1.out, g2.out⟩, rfl⟩
    | true =>
      have hb := of_decide_eq_true (show decide _ = true from hf)
      rw [(fit_yes hb).1]
      by_cases hlt : k < s.size
      · have hc := hdig k hlt
        have hs1 := Hst.out k hlt
        obtain ⟨c1, c2⟩ := hc
        have hm := fun (w : World) => mul_any (-(V k : Int)) 10 hb.1 hb.2 (by omega) (by omega) w
        obtain ⟨b1, b2⟩ := hb
        by_cases hf2 : fitB (-(V k : Int) * 10) = true
        · have hb2 := of_decide_eq_true (show decide _ = true from hf2)
          rw [(fit_yes hb2).1, hf2] at hm
          have hsb := fun (w : World) => sub_any (-(V k : Int) * 10) ((s[k].toNat : Int) - 48) hb2.1 hb2.2 (by omega) (by omega) w
          rw [show -(V k : Int) * 10 - ((s[k].toNat : Int) - 48) = -(V (k + 1) : Int) by omega] at hsb
          obtain ⟨b3, b4⟩ := hb2
          clear hf hf2 hlow hdig hs1
          generalize -(V k : Int) * 10 = p at *
          generalize -(V k : Int) = q at *
          go_wp2_with (first | (go_at_call 31; ((with_reducible refine (hm _).mono ?_); rintro e w' ⟨rfl, rfl⟩)) | (go_at_call 32; ((with_reducible refine (hsb _).mono ?_); rintro e w' ⟨rfl, rfl⟩)))
          go_round
          case rel => exact ⟨k + 1, by omega, by go_num, rfl, rfl⟩
          case measure => simp [intOf]; omega
        · have hf3 : fitB (-(V k : Int) * 10) = false := by simpa using hf2
          have hno := of_decide_eq_false (show decide _ = false from hf3)
          have hz := fit_no hno
          rw [hz.1, hf3] at hm
          have hz2 : fitV (-(V (k + 1) : Int)) = 0 ∧ fitB (-(V (k + 1) : Int)) = false := fit_no (by omega)
          have f1 := Lib.hid hz2.1
          have f2 := Lib.hid hz2.2
          clear hf hf2 hlow hdig hs1 hz hz2 hno hf3
          generalize -(V k : Int) = q at *
          go_wp2_with (first | (go_at_call 31; ((with_reducible refine (hm _).mono ?_); rintro e w' ⟨rfl, rfl⟩)))
          go_round
          case rel => exact ⟨k + 1, by omega, by go_num, by rw [f1.out], by rw [f2.out]⟩
          case measure => simp [intOf]; omega
      · have hkk : k = s.size := by omega
        have f1 : Hid (fitV (-(T : Int)) = -(V k : Int)) := by
          show _ = _
          rw [← HVT.out, ← hkk, (fit_yes hb).1]
        have f2 : Hid (fitB (-(T : Int)) = true) := by
          show _ = _
          rw [← HVT.out, ← hkk, hf]
        clear hf hlow hdig hb hkk
        generalize -(V k : Int) = q at *
        go_wp2
        go_ret2
        exact ⟨pair2 ⟨f1.out, f2.out⟩, rfl⟩

def BA (l : List UInt8) : ByteArray := ⟨l.toArray⟩
theorem BA_list (l : List UInt8) : (BA l).data.toList = l := rfl
theorem BA_size (l : List UInt8) : (BA l).size = l.length := by simp [BA, ByteArray.size]
theorem BA_toList (l : List UInt8) : (BA l).toList = l := by rw [ByteArray.toList_eq]; rfl
theorem BA_of (s : ByteArray) : BA s.data.toList = s := rfl

theorem cut_any (s : ByteArray) (w : World) :
    Calls Tryd.prog 21 #[.string s, .string ⟨#[45]⟩] w fun e w' => e = .returned (.tuple #[.string (BA (body s.data.toList)), .bool (isNeg s.data.toList)]) ∧ w = w' := by
  refine (Tryd.strings_CutPrefix s ⟨#[45]⟩ w).mono fun e w' ⟨h, hw⟩ => ⟨?_, hw.symm⟩
  have h1 : Lib.hasPrefix s.data.toList [45] = isNeg s.data.toList := by
    unfold Lib.hasPrefix isNeg
    cases s.data.toList with
    | nil => rfl
    | cons c r => simp [List.isPrefixOf, Bool.beq_comm (a := c)]
  have h2 : Lib.trimPrefix s.data.toList [45] = body s.data.toList := by
    unfold Lib.trimPrefix body
    rw [h1]
    simp
  rw [h]
  show Ending.returned (.tuple #[.string ⟨(Lib.trimPrefix s.data.toList [45]).toArray⟩, .bool (Lib.hasPrefix s.data.toList [45])]) = _
  rw [h1, h2]; rfl

theorem body_len (l : List UInt8) : (body l).length ≤ l.length := by
  unfold body; split <;> simp

theorem rd_form1 {l : List UInt8} (h : plainB (body l) = false) : rdV l = 0 ∧ rdE l = 7 := by
  unfold rdV rdE isNum; rw [h]; exact ⟨rfl, rfl⟩
theorem rd_form2 {l : List UInt8} (h : isNeg l = true) (h2 : body l = [48]) : rdV l = 0 ∧ rdE l = 7 := by
  unfold rdV rdE isNum; rw [h, h2]; exact ⟨rfl, rfl⟩
theorem rd_neg {l : List UInt8} (h : plainB (body l) = true) (hn : isNeg l = true) (h2 : body l ≠ [48]) :
    rdV l = fitV (-(val (body l) : Int)) ∧ rdE l = if fitB (-(val (body l) : Int)) then 0 else 5 := by
  have : isNum l = true := by unfold isNum; rw [h, hn]; simp [h2]
  unfold rdV rdE num; rw [if_pos this, if_pos this, if_pos hn]; exact ⟨rfl, rfl⟩
theorem rd_pos {l : List UInt8} (h : plainB (body l) = true) (hn : isNeg l = false) :
    rdV l = fitV (val (body l) : Int) ∧ rdE l = if fitB (val (body l) : Int) then 0 else 5 := by
  have : isNum l = true := by unfold isNum; rw [h, hn]; rfl
  unfold rdV rdE num; rw [if_pos this, if_pos this, hn]; exact ⟨rfl, rfl⟩
theorem fit_zero (n : Int) (h : fitB n = false) : fitV n = 0 := (fit_no (of_decide_eq_false (show decide _ = false from h))).1
theorem pairE {a b c d : Int} (h : b = a ∧ d = c) : Ending.returned (.tuple #[.int .i64 a, .int .i64 c]) = .returned (.tuple #[.int .i64 b, .int .i64 d]) := by
  obtain ⟨rfl, rfl⟩ := h; rfl

set_option maxHeartbeats 1000000 in
theorem read_any (s : ByteArray) (w : World) (hs : s.size ≤ 9223372036854775807) :
    Calls Tryd.prog 11 #[.string s] w fun e w' => e = .returned (.tuple #[.int .i64 (rdV s.data.toList), .int .i64 (rdE s.data.toList)]) ∧ w = w' := by
  have hsz : (BA (body s.data.toList)).size ≤ 9223372036854775807 := by
    rw [BA_size]; have := body_len s.data.toList; rw [len_list] at this; omega
  have c0 := fun (w : World) => cut_any s w
  have c1 := fun (w : World) => plain_any (BA (body s.data.toList)) w hsz
  have c2 := fun (w : World) (h : (body s.data.toList).all isD = true) => negative_any (BA (body s.data.toList)) w hsz h
  simp only [BA_list] at c1 c2
  have e1 := @rd_form1 s.data.toList
  have e2 := @rd_form2 s.data.toList
  have e3 := @rd_neg s.data.toList
  have e4 := @rd_pos s.data.toList
  generalize rdV s.data.toList = v at *
  generalize rdE s.data.toList = e at *
  generalize isNeg s.data.toList = g at *
  have hall := @plain_all (body s.data.toList)
  have ht := BA_toList (body s.data.toList)
  generalize body s.data.toList = b at *
  generalize hB : BA b = t at *
  clear hB
  cases hp : plainB b with
  | false =>
    obtain ⟨rfl, rfl⟩ := e1 hp
    rw [hp] at c1
    clear e1 e2 e3 e4 hp hall ht c2
    go_enter Tryd.func11, Tryd.ntmps11
    go_wp2_with (first | (go_at_call 21; ((with_reducible refine (c0 _).mono ?_); rintro e w' ⟨rfl, rfl⟩)) | (go_at_call 22; ((with_reducible refine (c1 _).mono ?_); rintro e w' ⟨rfl, rfl⟩)))
    go_ret2
    exact ⟨rfl, rfl⟩
  | true =>
    rw [hp] at c1
    have c2 := fun (w : World) => c2 w (hall hp)
    cases g with
    | true =>
      by_cases hb : b = [48]
      · obtain ⟨rfl, rfl⟩ := e2 rfl hb
        have ht1 : t.toList = [48] := by rw [ht]; exact hb
        clear e1 e2 e3 e4 hp hall ht c2 hb
        go_enter Tryd.func11, Tryd.ntmps11
        go_wp2_with (first | (go_at_call 21; ((with_reducible refine (c0 _).mono ?_); rintro e w' ⟨rfl, rfl⟩)) | (go_at_call 22; ((with_reducible refine (c1 _).mono ?_); rintro e w' ⟨rfl, rfl⟩)))
        go_ret2
        exact ⟨rfl, rfl⟩
      · obtain ⟨rfl, rfl⟩ := e3 hp rfl hb
        have ht1 : (t.toList = [48]) = False := by rw [ht]; simp [hb]
        have ht2 : (t.toList == [48]) = false := by rw [ht]; simp [hb]
        clear e1 e2 e3 e4 hp hall ht hb
        have hx := fit_zero (-(val b : Int))
        generalize fitV (-(val b : Int)) = x at *
        generalize fitB (-(val b : Int)) = y at *
        cases y
        all_goals
          try (obtain rfl := hx rfl)
          clear hx
          go_enter Tryd.func11, Tryd.ntmps11
          go_wp2_with (first | (go_at_call 21; ((with_reducible refine (c0 _).mono ?_); rintro e w' ⟨rfl, rfl⟩)) | (go_at_call 22; ((with_reducible refine (c1 _).mono ?_); rintro e w' ⟨rfl, rfl⟩)) | (go_at_call 23; ((with_reducible refine (c2 _).mono ?_); rintro e w' ⟨rfl, rfl⟩)))
          go_ret2
          exact ⟨rfl, rfl⟩
    | false =>
      obtain ⟨rfl, rfl⟩ := e4 hp rfl
      have hv : 0 ≤ (val b : Int) := by omega
      clear e1 e2 e3 e4 hp hall ht
      generalize (val b : Int) = z at *
      cases hf : fitB (-z) with
      | true =>
        have hb := of_decide_eq_true (show decide _ = true from hf)
        rw [(fit_yes hb).1, hf] at c2
        have c3 := fun (w : World) => neg_any (-z) hb.1 hb.2 w
        rw [Int.neg_neg] at c3
        clear hf hb
        have hx := fit_zero z
        generalize -z = z' at *
        generalize fitV z = x at *
        generalize fitB z = y at *
        cases y
        all_goals
          try (obtain rfl := hx rfl)
          clear hx
          go_enter Tryd.func11, Tryd.ntmps11
          go_wp2_with (first | (go_at_call 21; ((with_reducible refine (c0 _).mono ?_); rintro e w' ⟨rfl, rfl⟩)) | (go_at_call 22; ((with_reducible refine (c1 _).mono ?_); rintro e w' ⟨rfl, rfl⟩)) | (go_at_call 23; ((with_reducible refine (c2 _).mono ?_); rintro e w' ⟨rfl, rfl⟩)) | (go_at_call 24; ((with_reducible refine (c3 _).mono ?_); rintro e w' ⟨rfl, rfl⟩)))
          go_ret2
          exact ⟨rfl, rfl⟩
      | false =>
        have hn := of_decide_eq_false (show decide _ = false from hf)
        obtain ⟨z1, z2⟩ := fit_no hn
        have hn2 : ¬(-9223372036854775808 ≤ z ∧ z ≤ 9223372036854775807) := by omega
        obtain ⟨z3, z4⟩ := fit_no hn2
        rw [z1, z2] at c2
        rw [z3, z4]
        clear hf hn z1 z2 hn2 z3 z4 hv
        go_enter Tryd.func11, Tryd.ntmps11
        go_wp2_with (first | (go_at_call 21; ((with_reducible refine (c0 _).mono ?_); rintro e w' ⟨rfl, rfl⟩)) | (go_at_call 22; ((with_reducible refine (c1 _).mono ?_); rintro e w' ⟨rfl, rfl⟩)) | (go_at_call 23; ((with_reducible refine (c2 _).mono ?_); rintro e w' ⟨rfl, rfl⟩)))
        go_ret2
        exact ⟨rfl, rfl⟩
end Go.Proofs.YtjokaibkhlnfcaaDoor.Dig
