/-
  What is proved: what the document's own answer for Read returns.
-/
import Derived.Test.YthchjceibpcgbaaDoorDgS
namespace Go.Proofs.YthchjceibpcgbaaDoor.Dig
open Go.RowKit
set_option linter.unusedVariables false
set_option linter.unusedSimpArgs false

def m7 : List UInt8 := [57, 50, 50, 51, 51, 55, 50, 48, 51, 54, 56, 53, 52, 55, 55, 53, 56, 48, 55]
def m8 : List UInt8 := [57, 50, 50, 51, 51, 55, 50, 48, 51, 54, 56, 53, 52, 55, 55, 53, 56, 48, 56]
theorem less7 {l : List UInt8} (h : plainB l = true) : lessB m7 l = decide (9223372036854775807 < val l) := by
  rw [lessB_val (by decide) h]; rfl
theorem less8 {l : List UInt8} (h : plainB l = true) : lessB m8 l = decide (9223372036854775808 < val l) := by
  rw [lessB_val (by decide) h]; rfl

theorem rd_cases_pos {l : List UInt8} (hn : isNeg l = false) : (rdV l = 0 ∧ rdE l = 7 ∧ plainB (body l) = false) ∨
    (plainB (body l) = true ∧ lessB m7 (body l) = true ∧ rdV l = 0 ∧ rdE l = 5) ∨
    (plainB (body l) = true ∧ lessB m7 (body l) = false ∧ val (body l) ≤ 9223372036854775807 ∧ rdV l = (val (body l) : Int) ∧ rdE l = 0) := by
  cases hp : plainB (body l) with
  | false => obtain ⟨a, b⟩ := rd_form1 hp; exact Or.inl ⟨a, b, rfl⟩
  | true =>
    obtain ⟨a, b⟩ := rd_pos hp hn
    rw [less7 hp]
    by_cases hv : 9223372036854775807 < val (body l)
    · obtain ⟨f1, f2⟩ := fit_no (n := (val (body l) : Int)) (by omega)
      rw [f1] at a; rw [f2] at b
      exact Or.inr (Or.inl ⟨rfl, by simpa using hv, a, b⟩)
    · obtain ⟨f1, f2⟩ := fit_yes (n := (val (body l) : Int)) (by omega)
      rw [f1] at a; rw [f2] at b
      exact Or.inr (Or.inr ⟨rfl, by simpa using hv, by omega, a, b⟩)
theorem rd_cases_neg {l : List UInt8} (hn : isNeg l = true) : (rdV l = 0 ∧ rdE l = 7 ∧ plainB (body l) = false) ∨ (rdV l = 0 ∧ rdE l = 7 ∧ plainB (body l) = true ∧ body l = [48]) ∨
    (plainB (body l) = true ∧ body l ≠ [48] ∧ lessB m8 (body l) = true ∧ rdV l = 0 ∧ rdE l = 5) ∨
    (plainB (body l) = true ∧ body l ≠ [48] ∧ lessB m8 (body l) = false ∧ val (body l) ≤ 9223372036854775808 ∧ rdV l = -(val (body l) : Int) ∧ rdE l = 0) := by
  cases hp : plainB (body l) with
  | false => obtain ⟨a, b⟩ := rd_form1 hp; exact Or.inl ⟨a, b, rfl⟩
  | true =>
    by_cases hb : body l = [48]
    · obtain ⟨a, b⟩ := rd_form2 hn hb
      exact Or.inr (Or.inl ⟨a, b, rfl, hb⟩)
    · obtain ⟨a, b⟩ := rd_neg hp hn hb
      rw [less8 hp]
      by_cases hv : 9223372036854775808 < val (body l)
      · obtain ⟨f1, f2⟩ := fit_no (n := -(val (body l) : Int)) (by omega)
        rw [f1] at a; rw [f2] at b
        exact Or.inr (Or.inr (Or.inl ⟨rfl, hb, by simpa using hv, a, b⟩))
      · obtain ⟨f1, f2⟩ := fit_yes (n := -(val (body l) : Int)) (by omega)
        rw [f1] at a; rw [f2] at b
        exact Or.inr (Or.inr (Or.inr ⟨rfl, hb, by simpa using hv, by omega, a, b⟩))

/-- a text's beginning, as the program takes it apart -/
theorem start_cases (s : ByteArray) : (s.size = 0 ∧ isNeg s.data.toList = false ∧ BA (body s.data.toList) = s) ∨
    (∃ h : 0 < s.size, s[0].toNat ≠ 45 ∧ isNeg s.data.toList = false ∧ BA (body s.data.toList) = s) ∨
    (∃ h : 0 < s.size, s[0].toNat = 45 ∧ isNeg s.data.toList = true ∧ BA (body s.data.toList) = s.extract 1 s.size) := by
  by_cases h0 : s.size = 0
  · have : s.data.toList = [] := List.length_eq_zero_iff.1 (by rw [len_list]; exact h0)
    have hn : isNeg s.data.toList = false := by rw [this]; rfl
    refine Or.inl ⟨h0, hn, ?_⟩
    unfold body; rw [hn]; exact BA_of s
  · have hp : 0 < s.size := by omega
    have hh := head_at s hp
    by_cases h45 : s[0].toNat = 45
    · have hc : s[0] = 45 := UInt8.toNat_inj.1 h45
      have hn : isNeg s.data.toList = true := by unfold isNeg; rw [hh, hc]; rfl
      refine Or.inr (Or.inr ⟨hp, h45, hn, ?_⟩)
      unfold body; rw [hn]
      apply ByteArray.ext; apply Array.ext'
      show s.data.toList.tail = (s.extract 1 s.size).data.toList
      rw [Lib.extract_to_end]; simp
    · have hn : isNeg s.data.toList = false := by
        unfold isNeg; rw [hh]
        have : s[0] ≠ 45 := fun e => h45 (by rw [e]; rfl)
        simp [this]
      refine Or.inr (Or.inl ⟨hp, h45, hn, ?_⟩)
      unfold body; rw [hn]; exact BA_of s

set_option maxRecDepth 100000 in
set_option maxHeartbeats 4000000 in
theorem rread_any (s : ByteArray) (w : World) (hs : s.size ≤ 9223372036854775807) :
    Calls Tryd.prog 51 #[.string s] w fun e w' => e = .returned (.tuple #[.int .i64 (rdV s.data.toList), .int .i64 (rdE s.data.toList)]) ∧ w = w' := by
  have hsz : (BA (body s.data.toList)).size ≤ 9223372036854775807 := by
    rw [BA_size]; have := body_len s.data.toList; rw [len_list] at this; omega
  have c1 := fun (w : World) => rdigits_any (BA (body s.data.toList)) w hsz
  have c7 := fun (w : World) => less_any (BA m7) (BA (body s.data.toList)) w (by decide) hsz
  have c8 := fun (w : World) => less_any (BA m8) (BA (body s.data.toList)) w (by decide) hsz
  simp only [BA_list] at c1 c7 c8
  have hdig : plainB (body s.data.toList) = true → ∀ k (h : k < (BA (body s.data.toList)).size), 48 ≤ (BA (body s.data.toList))[k].toNat ∧ (BA (body s.data.toList))[k].toNat ≤ 57 :=
    fun hp k h => isD_iff.1 (List.all_eq_true.1 (plain_all hp) _ (by rw [← at_list _ k h]; exact List.getElem_mem _))
  have hst : ∀ k (h : k < (BA (body s.data.toList)).size), val ((body s.data.toList).take (k + 1)) = 10 * val ((body s.data.toList).take k) + ((BA (body s.data.toList))[k].toNat - 48) := fun k h => by
    have := take_snoc (BA (body s.data.toList)) k h
    rw [BA_list] at this
    rw [this, val_snoc]
  have hlow : ∀ k, val ((body s.data.toList).take k) ≤ val (body s.data.toList) := fun k => val_take_le
  have hend : (body s.data.toList).take (BA (body s.data.toList)).size = body s.data.toList := by rw [BA_size]; exact List.take_length
  have hrp := @rd_cases_pos s.data.toList
  have hrn := @rd_cases_neg s.data.toList
  have hsc := start_cases s
  have ht := BA_toList (body s.data.toList)
  have E7 : BA m7 = ⟨#[57, 50, 50, 51, 51, 55, 50, 48, 51, 54, 56, 53, 52, 55, 55, 53, 56, 48, 55]⟩ := rfl
  have E8 : BA m8 = ⟨#[57, 50, 50, 51, 51, 55, 50, 48, 51, 54, 56, 53, 52, 55, 55, 53, 56, 48, 56]⟩ := rfl
  rw [E7] at c7
  rw [E8] at c8
  clear E7 E8
  generalize rdV s.data.toList = v at *
  generalize rdE s.data.toList = e at *
  generalize isNeg s.data.toList = g at *
  generalize body s.data.toList = b at *
  generalize hB : BA b = t at *
  clear hB
  generalize lessB m7 b = l7 at *
  generalize lessB m8 b = l8 at *
  generalize plainB b = pl at *
  have HD := Lib.hid hdig
  have HST := Lib.hid hst
  have HL := Lib.hid hlow
  have HE := Lib.hid hend
  have HT := Lib.hid ht
  clear hdig hst hlow hend ht
  rcases hsc with ⟨h0, rfl, rfl⟩ | ⟨h0, h1, rfl, rfl⟩ | ⟨h0, h1, rfl, h2⟩
  · have hrp := hrp rfl
    have h4 : decide ((t.size : Int) > 0) = false := decide_eq_false (by omega)
    have h5 : ¬ (0 < t.size) := by omega
    clear h0 hrn
    rcases hrp with ⟨rfl, rfl, rfl⟩ | ⟨rfl, h7, rfl, rfl⟩ | ⟨rfl, h7, hval, rfl, rfl⟩
    · clear c7 c8
      go_enter Tryd.func51, Tryd.ntmps51
      go_wp2_with (first | (go_at_call 59; ((with_reducible refine (c1 _).mono ?_); rintro e w' ⟨rfl, rfl⟩)) | (go_at_call 60; ((with_reducible refine (c1 _).mono ?_); rintro e w' ⟨rfl, rfl⟩)))
      go_ret2
      exact ⟨rfl, rfl⟩
    · rw [h7] at c7
      clear c8 h7
      go_enter Tryd.func51, Tryd.ntmps51
      go_wp2_with (first | (go_at_call 59; ((with_reducible refine (c1 _).mono ?_); rintro e w' ⟨rfl, rfl⟩)) | (go_at_call 60; ((with_reducible refine (c7 _).mono ?_); rintro e w' ⟨rfl, rfl⟩)))
      go_ret2
      exact ⟨rfl, rfl⟩
    · rw [h7] at c7
      clear c8 h7
      obtain ⟨V, hV⟩ : ∃ V : Nat → Nat, ∀ k, val (b.take k) = V k := ⟨fun k => val (b.take k), fun k => rfl⟩
      have HST2 : Hid (∀ k (h : k < t.size), V (k + 1) = 10 * V k + (t[k].toNat - 48)) := fun k h => by rw [← hV, ← hV]; exact HST.out k h
      have HV0 : Hid (V 0 = 0) := by show _ = _; rw [← hV]; rfl
      have HVT : Hid (V t.size = val b) := by show _ = _; rw [← hV, HE.out]
      have HLO : Hid (∀ k, V k ≤ 9223372036854775807) := fun k => by rw [← hV]; have := HL.out k; omega
      clear hV hval HST HL HE
      generalize val b = vb at *
      go_enter Tryd.func51, Tryd.ntmps51
      go_wp2_with (first | (go_at_call 59; ((with_reducible refine (c1 _).mono ?_); rintro e w' ⟨rfl, rfl⟩)) | (go_at_call 60; ((with_reducible refine (c7 _).mono ?_); rintro e w' ⟨rfl, rfl⟩)))
      go_loop [6, 7] (fun n i => ∃ (k : Nat) (a : Int), k ≤ t.size ∧ i = .int .i64 k ∧ n = .int .i64 a ∧ Hid (a = (V k : Int))) (fun _ i => t.size - (intOf i).toNat)
      case atStart => exact ⟨0, 0, by omega, rfl, rfl, by show _ = _; rw [HV0.out]; rfl⟩
      case round =>
        obtain ⟨k, a, hk, rfl, rfl, ha⟩ := hrel
        by_cases hlt : k < t.size
        · obtain ⟨d0, d1⟩ := HD.out trivial k hlt
          have q1 := HST2.out k hlt
          have q2 := HLO.out (k + 1)
          have q3 := ha.out
          obtain ⟨d, hd⟩ : ∃ d : Int, d = (t[k].toNat : Int) - 48 := ⟨_, rfl⟩
          have na : Hid (10 * a + ((t[k].toNat : Int) - 48) = (V (k + 1) : Int)) := by show _ = _; omega
          have b1 : 10 * a + ((t[k].toNat : Int) - 48) ≤ 9223372036854775807 := by omega
          have b2 : 0 ≤ a := by omega
          have b3 : 10 * a ≤ 9223372036854775807 := by omega
          have d2 : (48 : Int) ≤ (t[k].toNat : Int) := by omega
          have d3 : (t[k].toNat : Int) ≤ 57 := by omega
          clear q1 q2 q3 d0 d1 hd d
          go_wp2
          go_round
          case rel => exact ⟨k + 1, _, by omega, by go_num, rfl, by have := na.out; show _ = _; omega⟩
          case measure => simp [intOf]; omega
        · have hkk : k = t.size := by omega
          have hr : Hid ((vb : Int) = a) := by show _ = _; rw [ha.out, hkk, HVT.out]
          clear hkk ha
          go_wp2
          go_ret2
          exact ⟨pairE ⟨hr.out, rfl⟩, rfl⟩
  · have hrp := hrp rfl
    have h4 : ((t[0].toNat : Int) == 45) = false := beq_no' (by omega)
    clear h1 hrn
    rcases hrp with ⟨rfl, rfl, rfl⟩ | ⟨rfl, h7, rfl, rfl⟩ | ⟨rfl, h7, hval, rfl, rfl⟩
    · clear c7 c8
      go_enter Tryd.func51, Tryd.ntmps51
      go_wp2_with (first | (go_at_call 59; ((with_reducible refine (c1 _).mono ?_); rintro e w' ⟨rfl, rfl⟩)) | (go_at_call 60; ((with_reducible refine (c1 _).mono ?_); rintro e w' ⟨rfl, rfl⟩)))
      go_ret2
      exact ⟨rfl, rfl⟩
    · rw [h7] at c7
      clear c8 h7
      go_enter Tryd.func51, Tryd.ntmps51
      go_wp2_with (first | (go_at_call 59; ((with_reducible refine (c1 _).mono ?_); rintro e w' ⟨rfl, rfl⟩)) | (go_at_call 60; ((with_reducible refine (c7 _).mono ?_); rintro e w' ⟨rfl, rfl⟩)))
      go_ret2
      exact ⟨rfl, rfl⟩
    · rw [h7] at c7
      clear c8 h7
      obtain ⟨V, hV⟩ : ∃ V : Nat → Nat, ∀ k, val (b.take k) = V k := ⟨fun k => val (b.take k), fun k => rfl⟩
      have HST2 : Hid (∀ k (h : k < t.size), V (k + 1) = 10 * V k + (t[k].toNat - 48)) := fun k h => by rw [← hV, ← hV]; exact HST.out k h
      have HV0 : Hid (V 0 = 0) := by show _ = _; rw [← hV]; rfl
      have HVT : Hid (V t.size = val b) := by show _ = _; rw [← hV, HE.out]
      have HLO : Hid (∀ k, V k ≤ 9223372036854775807) := fun k => by rw [← hV]; have := HL.out k; omega
      clear hV hval HST HL HE
      generalize val b = vb at *
      go_enter Tryd.func51, Tryd.ntmps51
      go_wp2_with (first | (go_at_call 59; ((with_reducible refine (c1 _).mono ?_); rintro e w' ⟨rfl, rfl⟩)) | (go_at_call 60; ((with_reducible refine (c7 _).mono ?_); rintro e w' ⟨rfl, rfl⟩)))
      go_loop [6, 7] (fun n i => ∃ (k : Nat) (a : Int), k ≤ t.size ∧ i = .int .i64 k ∧ n = .int .i64 a ∧ Hid (a = (V k : Int))) (fun _ i => t.size - (intOf i).toNat)
      case atStart => exact ⟨0, 0, by omega, rfl, rfl, by show _ = _; rw [HV0.out]; rfl⟩
      case round =>
        obtain ⟨k, a, hk, rfl, rfl, ha⟩ := hrel
        by_cases hlt : k < t.size
        · obtain ⟨d0, d1⟩ := HD.out trivial k hlt
          have q1 := HST2.out k hlt
          have q2 := HLO.out (k + 1)
          have q3 := ha.out
          obtain ⟨d, hd⟩ : ∃ d : Int, d = (t[k].toNat : Int) - 48 := ⟨_, rfl⟩
          have na : Hid (10 * a + ((t[k].toNat : Int) - 48) = (V (k + 1) : Int)) := by show _ = _; omega
          have b1 : 10 * a + ((t[k].toNat : Int) - 48) ≤ 9223372036854775807 := by omega
          have b2 : 0 ≤ a := by omega
          have b3 : 10 * a ≤ 9223372036854775807 := by omega
          have d2 : (48 : Int) ≤ (t[k].toNat : Int) := by omega
          have d3 : (t[k].toNat : Int) ≤ 57 := by omega
          clear q1 q2 q3 d0 d1 hd d
          go_wp2
          go_round
          case rel => exact ⟨k + 1, _, by omega, by go_num, rfl, by have := na.out; show _ = _; omega⟩
          case measure => simp [intOf]; omega
        · have hkk : k = t.size := by omega
          have hr : Hid ((vb : Int) = a) := by show _ = _; rw [ha.out, hkk, HVT.out]
          clear hkk ha
          go_wp2
          go_ret2
          exact ⟨pairE ⟨hr.out, rfl⟩, rfl⟩
  · have hrn := hrn rfl
    have h4 : ((s[0].toNat : Int) == 45) = true := beq_yes' (by omega)
    have h3 := h2.symm
    clear h1 hrp h2
    rcases hrn with ⟨rfl, rfl, rfl⟩ | ⟨rfl, rfl, rfl, hb⟩ | ⟨rfl, hb, h8, rfl, rfl⟩ | ⟨rfl, hb, h8, hval, rfl, rfl⟩
    · clear c7 c8
      go_enter Tryd.func51, Tryd.ntmps51
      go_wp2_with (first | (go_at_call 59; ((with_reducible refine (c1 _).mono ?_); rintro e w' ⟨rfl, rfl⟩)) | (go_at_call 60; ((with_reducible refine (c1 _).mono ?_); rintro e w' ⟨rfl, rfl⟩)))
      go_ret2
      exact ⟨rfl, rfl⟩
    · have t1 : t.toList = [48] := by rw [HT.out]; exact hb
      clear c7 c8 hb
      go_enter Tryd.func51, Tryd.ntmps51
      go_wp2_with (first | (go_at_call 59; ((with_reducible refine (c1 _).mono ?_); rintro e w' ⟨rfl, rfl⟩)) | (go_at_call 60; ((with_reducible refine (c1 _).mono ?_); rintro e w' ⟨rfl, rfl⟩)))
      go_ret2
      exact ⟨rfl, rfl⟩
    · have t1 : (t.toList == [48]) = false := by rw [HT.out]; simp [hb]
      have t2 : (t.toList = [48]) = False := by rw [HT.out]; simp [hb]
      rw [h8] at c8
      clear c7 h8 hb
      go_enter Tryd.func51, Tryd.ntmps51
      go_wp2_with (first | (go_at_call 59; ((with_reducible refine (c1 _).mono ?_); rintro e w' ⟨rfl, rfl⟩)) | (go_at_call 60; ((with_reducible refine (c8 _).mono ?_); rintro e w' ⟨rfl, rfl⟩)))
      go_ret2
      exact ⟨rfl, rfl⟩
    · have t1 : (t.toList == [48]) = false := by rw [HT.out]; simp [hb]
      have t2 : (t.toList = [48]) = False := by rw [HT.out]; simp [hb]
      rw [h8] at c8
      clear c7 h8 hb
      obtain ⟨V, hV⟩ : ∃ V : Nat → Nat, ∀ k, val (b.take k) = V k := ⟨fun k => val (b.take k), fun k => rfl⟩
      have HST2 : Hid (∀ k (h : k < t.size), V (k + 1) = 10 * V k + (t[k].toNat - 48)) := fun k h => by rw [← hV, ← hV]; exact HST.out k h
      have HV0 : Hid (V 0 = 0) := by show _ = _; rw [← hV]; rfl
      have HVT : Hid (V t.size = val b) := by show _ = _; rw [← hV, HE.out]
      have HLO : Hid (∀ k, V k ≤ 9223372036854775808) := fun k => by rw [← hV]; have := HL.out k; omega
      clear hV hval HST HL HE
      generalize val b = vb at *
      go_enter Tryd.func51, Tryd.ntmps51
      go_wp2_with (first | (go_at_call 59; ((with_reducible refine (c1 _).mono ?_); rintro e w' ⟨rfl, rfl⟩)) | (go_at_call 60; ((with_reducible refine (c8 _).mono ?_); rintro e w' ⟨rfl, rfl⟩)))
      go_loop [6, 7] (fun n i => ∃ (k : Nat) (a : Int), k ≤ t.size ∧ i = .int .i64 k ∧ n = .int .i64 a ∧ Hid (a = -(V k : Int))) (fun _ i => t.size - (intOf i).toNat)
      case atStart => exact ⟨0, 0, by omega, rfl, rfl, by show _ = _; rw [HV0.out]; rfl⟩
      case round =>
        obtain ⟨k, a, hk, rfl, rfl, ha⟩ := hrel
        by_cases hlt : k < t.size
        · obtain ⟨d0, d1⟩ := HD.out trivial k hlt
          have q1 := HST2.out k hlt
          have q2 := HLO.out (k + 1)
          have q3 := ha.out
          obtain ⟨d, hd⟩ : ∃ d : Int, d = (t[k].toNat : Int) - 48 := ⟨_, rfl⟩
          have na : Hid (10 * a - ((t[k].toNat : Int) - 48) = -(V (k + 1) : Int)) := by show _ = _; omega
          have b1 : -9223372036854775808 ≤ 10 * a - ((t[k].toNat : Int) - 48) := by omega
          have b2 : a ≤ 0 := by omega
          have b3 : -9223372036854775808 ≤ 10 * a := by omega
          have d2 : (48 : Int) ≤ (t[k].toNat : Int) := by omega
          have d3 : (t[k].toNat : Int) ≤ 57 := by omega
          clear q1 q2 q3 d0 d1 hd d
          go_wp2
          go_round
          case rel => exact ⟨k + 1, _, by omega, by go_num, rfl, by have := na.out; show _ = _; omega⟩
          case measure => simp [intOf]; omega
        · have hkk : k = t.size := by omega
          have hr : Hid (-(vb : Int) = a) := by show _ = _; rw [ha.out, hkk, HVT.out]
          clear hkk ha
          go_wp2
          go_ret2
          exact ⟨pairE ⟨hr.out, rfl⟩, rfl⟩
end Go.Proofs.YthchjceibpcgbaaDoor.Dig
