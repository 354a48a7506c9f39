/-
  What is proved: what the calls of package digit that read a text return.
-/
import Derived.Test.YtjokaibkhlnfcaaDoorDigN
import Derived.LoopTactic
import Derived.Outline
import Derived.Lib.Hide
import Derived.WalkMore
import Derived.Deep.LoopGhost
namespace Go.Proofs.YtjokaibkhlnfcaaDoor.Dig
open Go.RowKit
set_option linter.unusedVariables false
set_option linter.unusedSimpArgs false

def lead (l : List UInt8) : Nat := (l.takeWhile isD).length
theorem lead_of {l : List UInt8} {k : Nat} (h : (l.take k).all isD = true) (hk : k ≤ l.length) (he : ∀ h : k < l.length, isD l[k] = false) : lead l = k := by
  induction l generalizing k with
  | nil => simp at hk; subst hk; rfl
  | cons c l ih =>
    cases k with
    | zero =>
      have := he (by simp)
      simp at this
      simp [lead, List.takeWhile, this]
    | succ k =>
      simp only [List.take_succ_cons, List.all_cons, Bool.and_eq_true] at h
      have := ih (k := k) h.2 (by simpa using hk) (fun hlt => by have := he (by simp only [List.length_cons]; omega); rwa [List.getElem_cons_succ] at this)
      simp [lead, List.takeWhile, h.1] at this ⊢
      exact this
theorem lead_all (l : List UInt8) : (lead l = l.length) ↔ l.all isD = true := by
  constructor
  · intro h
    unfold lead at h
    have : l.takeWhile isD = l := by
      have h1 := List.takeWhile_prefix (l := l) isD
      exact h1.eq_of_length h
    rw [← this]
    simp [List.all_takeWhile]
  · intro h
    exact lead_of (by rw [List.take_length]; exact h) (Nat.le_refl _) (fun hlt => by omega)

theorem at_list (s : ByteArray) (k : Nat) (h : k < s.size) : s.data.toList[k]'(by simpa using h) = s[k] := rfl
theorem len_list (s : ByteArray) : s.data.toList.length = s.size := Array.length_toList
theorem take_snoc (s : ByteArray) (k : Nat) (h : k < s.size) : s.data.toList.take (k + 1) = s.data.toList.take k ++ [s[k]] := by
  rw [List.take_succ_eq_append_getElem (by simpa using h)]; rfl
theorem beq_no' {a b : Int} (h : a ≠ b) : (a == b) = false := by simp [h]
theorem beq_yes' {a b : Int} (h : a = b) : (a == b) = true := by simp [h]

theorem leading_any (s : ByteArray) (w : World) (hs : s.size ≤ 9223372036854775807) :
    Calls Tryd.prog 30 #[.string s] w fun e w' => e = .returned (.int .i64 (lead s.data.toList)) ∧ w = w' := by
  have H : ∀ k, (s.data.toList.take k).all isD = true → k ≤ s.size → (∀ h : k < s.size, isD s[k] = false) → lead s.data.toList = k := fun k h1 h2 h3 => lead_of h1 (by rw [len_list]; exact h2) (fun h => h3 (by rw [len_list] at h; exact h))
  go_enter Tryd.func30, Tryd.ntmps30
  go_wp2
  go_step3
  go_wp2
  go_step3
  go_wp2
  go_loop [3] (fun n => ∃ k : Nat, k ≤ s.size ∧ n = .int .i64 k ∧ Hid ((s.data.toList.take k).all isD = true)) (fun n => s.size - (intOf n).toNat)
  case atStart => exact ⟨0, by omega, rfl, by simp [Hid]⟩
  case round =>
    obtain ⟨k, hk, rfl, hd⟩ := hrel
    by_cases hlt : k < s.size
    · have hc : Hid (s.data.toList.take (k + 1) = s.data.toList.take k ++ [s[k]]) := take_snoc s k hlt
      by_cases hD : isD s[k] = true
      · have hdd := isD_iff.1 hD
        have hcc : s[k].toNat = 48 ∨ s[k].toNat = 49 ∨ s[k].toNat = 50 ∨ s[k].toNat = 51 ∨ s[k].toNat = 52 ∨ s[k].toNat = 53 ∨ s[k].toNat = 54 ∨ s[k].toNat = 55 ∨ s[k].toNat = 56 ∨ s[k].toNat = 57 := by omega
        have hall : Hid ((s.data.toList.take (k + 1)).all isD = true) := by
          show _ = _
          rw [hc.out, List.all_append, hd.out, List.all_cons, hD]; rfl
        clear hdd hc hd hD H
        rcases hcc with hcc | hcc | hcc | hcc | hcc | hcc | hcc | hcc | hcc | hcc
        all_goals
          go_wp2
          go_round
          case rel => exact ⟨k + 1, by omega, by go_num, hall⟩
          case measure => simp [intOf]; omega
      · have hn : ∀ j : Nat, 48 ≤ j → j ≤ 57 → ((s[k].toNat : Int) == j) = false := by
          intro j h1 h2
          apply beq_no'
          intro e
          exact hD (isD_iff.2 (by omega))
        have n0 := hn 48 (by omega) (by omega)
        have n1 := hn 49 (by omega) (by omega)
        have n2 := hn 50 (by omega) (by omega)
        have n3 := hn 51 (by omega) (by omega)
        have n4 := hn 52 (by omega) (by omega)
        have n5 := hn 53 (by omega) (by omega)
        have n6 := hn 54 (by omega) (by omega)
        have n7 := hn 55 (by omega) (by omega)
        have n8 := hn 56 (by omega) (by omega)
        have n9 := hn 57 (by omega) (by omega)
        have hr := Lib.hid (H k hd.out hk (fun _ => by simpa using hD))
        clear hn hD hc hd H
        go_wp2
        try rw [Exit.noGoto_ret]
        go_ret
        exact ⟨one (by rw [hr.out]), rfl⟩
    · have hr := Lib.hid (H k hd.out hk (fun h => absurd h hlt))
      clear H hd
      go_wp2
      try rw [Exit.noGoto_ret]
      go_ret
      exact ⟨one (by rw [hr.out]), rfl⟩

theorem plain_of {l : List UInt8} (h0 : l ≠ []) (h1 : l.all isD = true) (h2 : l.head? ≠ some 48 ∨ l.length = 1) : plainB l = true := by
  unfold plainB
  rw [h1]
  cases l with
  | nil => exact absurd rfl h0
  | cons c l =>
    rcases h2 with h2 | h2
    · simp at h2; simp [h2]
    · simp at h2; simp [h2]
theorem plain_no1 {l : List UInt8} (h1 : l.all isD = false) : plainB l = false := by
  unfold plainB; rw [h1]; simp
theorem plain_no2 {l : List UInt8} (h1 : l.head? = some 48) (h2 : l.length ≠ 1) : plainB l = false := by
  unfold plainB; simp [h1, h2]
theorem head_at (s : ByteArray) (h : 0 < s.size) : s.data.toList.head? = some s[0] := by
  rw [← at_list s 0 h, List.head?_eq_getElem?, List.getElem?_eq_getElem (by simpa using h)]

theorem plain_any (s : ByteArray) (w : World) (hs : s.size ≤ 9223372036854775807) :
    Calls Tryd.prog 22 #[.string s] w fun e w' => e = .returned (.bool (plainB s.data.toList)) ∧ w = w' := by
  have c1 := fun (w : World) => leading_any s w hs
  by_cases h0 : s.data.toList = []
  · have he : plainB s.data.toList = false := by rw [h0]; rfl
    rw [he]
    have h1 : s.toList = [] := by rw [ByteArray.toList_eq]; exact h0
    have h2 : s.toList.isEmpty = true := by rw [h1]; rfl
    clear c1 h0 he
    go_enter Tryd.func22, Tryd.ntmps22
    go_wp2
    go_ret
    exact ⟨rfl, rfl⟩
  · have hp : 0 < s.size := by rw [← len_list]; exact List.length_pos_iff.2 h0
    have h1 : ¬ s.toList = [] := by rw [ByteArray.toList_eq]; exact h0
    have h2 : s.toList.isEmpty = false := by simp [h1]
    by_cases ha : s.data.toList.all isD = true
    · have hl : lead s.data.toList = s.size := by rw [← len_list]; exact (lead_all _).2 ha
      rw [hl] at c1
      have hh := head_at s hp
      by_cases h48 : s[0].toNat = 48
      · have hh2 : s.data.toList.head? = some 48 := by rw [hh]; congr 1; exact UInt8.toNat_inj.1 h48
        by_cases h3 : s.size = 1
        · have he : plainB s.data.toList = true := plain_of h0 ha (Or.inr (by rw [len_list]; exact h3))
          rw [he]
          have h4 : ((s.size : Int) == 1) = true := beq_yes' (by omega)
          have h5 : ((s[0].toNat : Int) == 48) = true := beq_yes' (by omega)
          have h6 : ((s[0].toNat : Int) != 48) = false := by simp [h48]
          have hsz := Lib.hid h3
          clear h0 hl ha hh hh2 he h3 h48
          go_enter Tryd.func22, Tryd.ntmps22
          go_wp2_with (go_at_call 30; ((with_reducible refine (c1 _).mono ?_); rintro e w' ⟨rfl, rfl⟩))
          go_ret
          exact ⟨rfl, rfl⟩
        · have he : plainB s.data.toList = false := plain_no2 hh2 (by rw [len_list]; exact h3)
          rw [he]
          have h4 : ((s.size : Int) == 1) = false := beq_no' (by omega)
          have h5 : ((s[0].toNat : Int) == 48) = true := beq_yes' (by omega)
          have h6 : ((s[0].toNat : Int) != 48) = false := by simp [h48]
          clear h0 hl ha hh hh2 he h3 h48
          go_enter Tryd.func22, Tryd.ntmps22
          go_wp2_with (go_at_call 30; ((with_reducible refine (c1 _).mono ?_); rintro e w' ⟨rfl, rfl⟩))
          go_ret
          exact ⟨rfl, rfl⟩
      · have he : plainB s.data.toList = true := plain_of h0 ha (Or.inl (by rw [hh]; intro e; simp at e; rw [e] at h48; exact h48 rfl))
        rw [he]
        have h5 : ((s[0].toNat : Int) == 48) = false := beq_no' (by omega)
        have h6 : ((s[0].toNat : Int) != 48) = true := by simp; omega
        clear h0 hl ha hh he h48
        go_enter Tryd.func22, Tryd.ntmps22
        go_wp2_with (go_at_call 30; ((with_reducible refine (c1 _).mono ?_); rintro e w' ⟨rfl, rfl⟩))
        go_ret
        exact ⟨rfl, rfl⟩
    · have he : plainB s.data.toList = false := plain_no1 (by simpa using ha)
      rw [he]
      have hl : lead s.data.toList ≠ s.size := by rw [← len_list]; intro e; exact ha ((lead_all _).1 e)
      generalize lead s.data.toList = m at *
      have h4 : ((m : Int) == (s.size : Int)) = false := beq_no' (by omega)
      have h5 : ((m : Int) != (s.size : Int)) = true := by simp; omega
      have h7 : (m == s.size) = false := by simp [hl]
      have h8 : (m != s.size) = true := by simp [hl]
      clear h0 hl ha he
      go_enter Tryd.func22, Tryd.ntmps22
      go_wp2_with (go_at_call 30; ((with_reducible refine (c1 _).mono ?_); rintro e w' ⟨rfl, rfl⟩))
      go_ret
      exact ⟨rfl, rfl⟩
end Go.Proofs.YtjokaibkhlnfcaaDoor.Dig
