/-
  What is proved: what stands first in a text, by the document's answers.
-/
import Derived.Test.YtanbcclconhheaaTokE
namespace Go.Proofs.Ytanbcclconhheaa.Tok
open Go.RowKit
set_option linter.unusedVariables false
set_option linter.unusedSimpArgs false

def okc (B : Bool) (c : UInt8) : Bool := isD c || (B && (isL c || decide (c.toNat = 39)))
def cnt (B : Bool) (l : List UInt8) : Nat := (l.takeWhile (okc B)).length
theorem cnt_step {B : Bool} {c : UInt8} {l : List UInt8} (h : okc B c = true) : cnt B (c :: l) = 1 + cnt B l := by simp [cnt, h]; omega
theorem cnt_stop {B : Bool} {c : UInt8} {l : List UInt8} (h : okc B c = false) : cnt B (c :: l) = 0 := by simp [cnt, h]
theorem okc_true : okc true = isN := by
  funext c; simp only [okc, isN, Bool.true_and]
  cases isL c <;> cases isD c <;> simp
theorem okc_false : okc false = isD := by funext c; simp [okc]
theorem cnt_true (l : List UInt8) : cnt true l = twN l := by unfold cnt twN; rw [okc_true]
theorem cnt_false (l : List UInt8) : cnt false l = numN l := by unfold cnt numN; rw [okc_false]
theorem cnt_le (B : Bool) (l : List UInt8) : cnt B l ≤ l.length := tw_le _ _

/-- the tests of one round: what they say, and what follows -/
theorem okc_cases (B : Bool) (c : UInt8) : (okc B c = true ∧ (isD c = true ∨ (isD c = false ∧ B = true ∧ isL c = true) ∨ (isD c = false ∧ B = true ∧ isL c = false ∧ c.toNat = 39))) ∨
    (okc B c = false ∧ ((isD c = false ∧ B = false) ∨ (isD c = false ∧ B = true ∧ isL c = false ∧ c.toNat ≠ 39))) := by
  unfold okc
  cases isD c <;> cases B <;> cases isL c <;> by_cases h : c.toNat = 39 <;> simp [h]

/-- the token that the document's answer gives, and its code -/
def oK (l : List UInt8) : Int := if fE l = 0 then fK l else 0
def oT (l : List UInt8) : ByteArray := BA (if fE l = 0 then l.take (fN l) else [])
def oA (l : List UInt8) (a : Nat) : Int := if fE l = 0 then (a : Int) else 0
theorem o_yes {l : List UInt8} {a n : Nat} {k : Int} (h : fst3 l = (k, n, 0)) : oK l = k ∧ oT l = BA (l.take n) ∧ oA l a = a ∧ fE l = 0 := by
  have hE : fE l = 0 := by unfold fE; rw [h]
  unfold oK oT oA
  rw [if_pos hE, if_pos hE, if_pos hE, show fK l = k by unfold fK; rw [h], show fN l = n by unfold fN; rw [h]]
  exact ⟨rfl, rfl, rfl, hE⟩
theorem o_no {l : List UInt8} {a n : Nat} {k e : Int} (h : fst3 l = (k, n, e)) (he : e ≠ 0) : oK l = 0 ∧ oT l = ⟨#[]⟩ ∧ oA l a = 0 ∧ fE l = e := by
  have hE : fE l = e := by unfold fE; rw [h]
  have hne : fE l ≠ 0 := by rw [hE]; exact he
  unfold oK oT oA
  rw [if_neg hne, if_neg hne, if_neg hne]
  exact ⟨rfl, rfl, rfl, hE⟩
theorem tokE {a c d x z u : Int} {b y : ByteArray} (h : x = a ∧ y = b ∧ z = c ∧ u = d) : Ending.returned (.tuple #[.agg #[.int .i64 a, .string b, .int .i64 c], .int .i64 d]) = .returned (.tuple #[.agg #[.int .i64 x, .string y, .int .i64 z], .int .i64 u]) := by
  obtain ⟨rfl, rfl, rfl, rfl⟩ := h; rfl

set_option maxHeartbeats 2000000 in
theorem one_name (s : ByteArray) (a : Nat) (w : World) (hs : s.size ≤ 9223372036854775000) (ha : a < s.size) (hL : isL s[a] = true) :
    Calls Try.prog 25 #[.string s, .int .i64 a] w fun e w' =>
      e = .returned (.tuple #[.agg #[.int .i64 (oK (s.data.toList.drop a)), .string (oT (s.data.toList.drop a)), .int .i64 (oA (s.data.toList.drop a) a)], .int .i64 (fE (s.data.toList.drop a))]) ∧ Below w.heap.size w w' := by
  have hy : ∀ k (h : k < s.size), okc true s[k] = true → cnt true (s.data.toList.drop k) = 1 + cnt true (s.data.toList.drop (k + 1)) := fun k h hd => by rw [drop_at s k h, cnt_step hd]
  have hn : ∀ k (h : k < s.size), okc true s[k] = false → cnt true (s.data.toList.drop k) = 0 := fun k h hd => by rw [drop_at s k h, cnt_stop hd]
  have he : ∀ k, s.size ≤ k → cnt true (s.data.toList.drop k) = 0 := fun k h => by rw [drop_end s k h]; rfl
  have hle := cnt_le true (s.data.toList.drop a)
  rw [List.length_drop, len_list] at hle
  have hnm : nameN (s.data.toList.drop a) = cnt true (s.data.toList.drop a) := by
    have h1 : okc true s[a] = true := by rw [okc_true]; exact isN_iff.2 (.inl hL)
    rw [hy a ha h1, cnt_true, drop_at s a ha, nameN_yes hL]
  have h1n : 1 ≤ cnt true (s.data.toList.drop a) := by
    have h1 : okc true s[a] = true := by rw [okc_true]; exact isN_iff.2 (.inl hL)
    rw [hy a ha h1]; omega
  have hf1 : 32 < cnt true (s.data.toList.drop a) → fst3 (s.data.toList.drop a) = (0, 0, 2) := fun h => by
    unfold fst3; rw [hnm, if_pos h]
  have hf2 : ¬ 32 < cnt true (s.data.toList.drop a) → fst3 (s.data.toList.drop a) = (1, cnt true (s.data.toList.drop a), 0) := fun h => by
    unfold fst3; rw [hnm, if_neg h, if_pos (by omega)]
  have hcut := cut_list s a (a + cnt true (s.data.toList.drop a))
  rw [show ∀ n : Nat, a + n - a = n by omega] at hcut
  have hr1 := fun h => o_no (a := a) (hf1 h) (by decide)
  have hr2 := fun h => o_yes (a := a) (hf2 h)
  clear hf1 hf2 hnm
  obtain ⟨F, hF⟩ : ∃ F : Nat → Nat, ∀ k, cnt true (s.data.toList.drop k) = F k := ⟨_, fun _ => rfl⟩
  simp only [hF] at hy hn he hle h1n hcut hr1 hr2
  clear hF
  generalize oK (s.data.toList.drop a) = K at *
  generalize oT (s.data.toList.drop a) = T at *
  generalize oA (s.data.toList.drop a) a = A at *
  generalize fE (s.data.toList.drop a) = E at *
  have hcut2 : (s.extract a (a + F a)).size = F a := by rw [← len_list, hcut, List.length_take, List.length_drop, len_list]; omega
  have hne : (s.extract a (a + F a)).toList ≠ [] := fun e => by
    rw [ByteArray.toList_eq] at e
    rw [← len_list, e] at hcut2
    simp at hcut2; omega
  have Hy := Lib.hid hy
  have Hn := Lib.hid hn
  have He := Lib.hid he
  have Hcut := Lib.hid hcut
  have Hcut2 := Lib.hid hcut2
  have Hne := Lib.hid hne
  have Hr1 := Lib.hid hr1
  have Hr2 := Lib.hid hr2
  have ca := fun (w : World) => Letter_any s[a] w
  rw [hL] at ca
  clear hy hn he hcut hcut2 hne hr1 hr2 hL
  go_enter Try.func25, Try.ntmps25
  go_wp2
  go_loop [6] (fun n => ∃ k : Nat, a ≤ k ∧ k ≤ s.size ∧ n = .int .i64 k ∧ Hid (k + F k = a + F a)) (fun n => s.size - (intOf n).toNat)
  case atStart => exact ⟨a, by omega, by omega, rfl, Lib.hid rfl⟩
  case round =>
    obtain ⟨k, hak, hk, rfl, hR⟩ := hrel
    by_cases hlt : k < s.size
    · have c1 := fun (w : World) => Digit_any s[k] w
      have c2 := fun (w : World) => Letter_any s[k] w
      rcases okc_cases true s[k] with ⟨ho, hc⟩ | ⟨ho, hc⟩
      · have hnew : Hid (k + 1 + F (k + 1) = a + F a) := by have := Hy.out k hlt ho; have := hR.out; show _ = _; omega
        clear ho hR
        rcases hc with h | ⟨h, _, h2⟩ | ⟨h, _, h2, h3⟩
        all_goals
          rw [h] at c1
          try rw [h2] at c2
          try have h39 : ((s[k].toNat : Int) == 39) = true := beq_yes' (by omega)
          clear h
          try clear h2
          try clear h3
          go_wp2_with (first | (go_at_call 34; ((with_reducible refine (c1 _).mono ?_); rintro e w' ⟨rfl, rfl⟩)) | (go_at_call 35; first | ((with_reducible refine (c2 _).mono ?_); rintro e w' ⟨rfl, rfl⟩) | ((with_reducible refine (ca _).mono ?_); rintro e w' ⟨rfl, rfl⟩)))
          go_round
          case rel => exact ⟨k + 1, by omega, by omega, by go_num, hnew⟩
          case measure => simp [intOf]; omega
      · have hk2 : k = a + F a := by have := Hn.out k hlt ho; have := hR.out; omega
        clear hR ho
        have hcut := Hcut.out
        have hcut2 := Hcut2.out
        have hne := Hne.out
        have hr1 := Hr1.out
        have hr2 := Hr2.out
        clear Hcut Hcut2 Hne Hr1 Hr2 Hy Hn He
        rw [← hk2] at hcut hcut2 hne
        generalize F a = n at *
        have Hk := Lib.hid hk2
        have hne2 : (s.extract a k).toList.isEmpty = false := by simp [hne]
        have hka : ((k : Int) == (a : Int)) = false := beq_no' (by omega)
        have hka2 : (k == a) = false := by simp; omega
        have hcutB : Hid (BA ((s.data.toList.drop a).take n) = s.extract a k) := by show _ = _; rw [← hcut]; rfl
        clear hcut hcut2
        rcases hc with ⟨h, h2⟩ | ⟨h, _, h2, h3⟩
        · cases h2
        rw [h] at c1
        rw [h2] at c2
        have h39 : ((s[k].toNat : Int) == 39) = false := beq_no' (by omega)
        clear h h2 h3
        by_cases h32 : 32 < n
        · have hr := Lib.hid (hr1 h32)
          clear hr1 hr2
          have h33 : ¬ ((k - a : Nat) : Int) ≤ 32 := by omega
          clear hk2 hcutB
          go_wp2_with (first | (go_at_call 34; ((with_reducible refine (c1 _).mono ?_); rintro e w' ⟨rfl, rfl⟩)) | (go_at_call 35; first | ((with_reducible refine (c2 _).mono ?_); rintro e w' ⟨rfl, rfl⟩) | ((with_reducible refine (ca _).mono ?_); rintro e w' ⟨rfl, rfl⟩)))
          exact bodyPost_ret (v := .tuple #[.agg #[.int .i64 0, .string ⟨#[]⟩, .int .i64 0], .int .i64 2]) (by simp [results, Try.results25, go_sem]) rfl ⟨tokE hr.out, bel_alloc (bel_alloc (Below.refl _ _) _) _⟩
        · have hr := hr2 h32
          rw [hcutB.out] at hr
          have Hr3 := Lib.hid hr
          clear hr
          clear hr1 hr2
          have h33 : ((k - a : Nat) : Int) ≤ 32 := by omega
          clear hk2 hcutB
          go_wp2_with (first | (go_at_call 34; ((with_reducible refine (c1 _).mono ?_); rintro e w' ⟨rfl, rfl⟩)) | (go_at_call 35; first | ((with_reducible refine (c2 _).mono ?_); rintro e w' ⟨rfl, rfl⟩) | ((with_reducible refine (ca _).mono ?_); rintro e w' ⟨rfl, rfl⟩)))
          exact bodyPost_ret (v := .tuple #[.agg #[.int .i64 1, .string (s.extract a k), .int .i64 a], .int .i64 0]) (by simp [results, Try.results25, go_sem]) rfl ⟨tokE Hr3.out, bel_alloc (bel_alloc (Below.refl _ _) _) _⟩
    · have hk2 : k = a + F a := by have := He.out k (by omega); have := hR.out; omega
      clear hR
      have hcut := Hcut.out
      have hcut2 := Hcut2.out
      have hne := Hne.out
      have hr1 := Hr1.out
      have hr2 := Hr2.out
      clear Hcut Hcut2 Hne Hr1 Hr2 Hy Hn He
      rw [← hk2] at hcut hcut2 hne
      generalize F a = n at *
      have Hk := Lib.hid hk2
      have hne2 : (s.extract a k).toList.isEmpty = false := by simp [hne]
      have hka : ((k : Int) == (a : Int)) = false := beq_no' (by omega)
      have hka2 : (k == a) = false := by simp; omega
      have hcutB : Hid (BA ((s.data.toList.drop a).take n) = s.extract a k) := by show _ = _; rw [← hcut]; rfl
      clear hcut hcut2
      by_cases h32 : 32 < n
      · have hr := Lib.hid (hr1 h32)
        clear hr1 hr2
        have h33 : ¬ ((k - a : Nat) : Int) ≤ 32 := by omega
        clear hk2 hcutB
        go_wp2_with (go_at_call 35; ((with_reducible refine (ca _).mono ?_); rintro e w' ⟨rfl, rfl⟩))
        exact bodyPost_ret (v := .tuple #[.agg #[.int .i64 0, .string ⟨#[]⟩, .int .i64 0], .int .i64 2]) (by simp [results, Try.results25, go_sem]) rfl ⟨tokE hr.out, bel_alloc (bel_alloc (Below.refl _ _) _) _⟩
      · have hr := hr2 h32
        rw [hcutB.out] at hr
        have Hr3 := Lib.hid hr
        clear hr
        clear hr1 hr2
        have h33 : ((k - a : Nat) : Int) ≤ 32 := by omega
        clear hk2 hcutB
        go_wp2_with (go_at_call 35; ((with_reducible refine (ca _).mono ?_); rintro e w' ⟨rfl, rfl⟩))
        exact bodyPost_ret (v := .tuple #[.agg #[.int .i64 1, .string (s.extract a k), .int .i64 a], .int .i64 0]) (by simp [results, Try.results25, go_sem]) rfl ⟨tokE Hr3.out, bel_alloc (bel_alloc (Below.refl _ _) _) _⟩

set_option maxHeartbeats 2000000 in
theorem one_num (s : ByteArray) (a : Nat) (w : World) (hs : s.size ≤ 9223372036854775000) (ha : a < s.size) (hL : isL s[a] = false) (hD : isD s[a] = true) :
    Calls Try.prog 25 #[.string s, .int .i64 a] w fun e w' =>
      e = .returned (.tuple #[.agg #[.int .i64 (oK (s.data.toList.drop a)), .string (oT (s.data.toList.drop a)), .int .i64 (oA (s.data.toList.drop a) a)], .int .i64 (fE (s.data.toList.drop a))]) ∧ Below w.heap.size w w' := by
  have hy : ∀ k (h : k < s.size), okc false s[k] = true → cnt false (s.data.toList.drop k) = 1 + cnt false (s.data.toList.drop (k + 1)) := fun k h hd => by rw [drop_at s k h, cnt_step hd]
  have hn : ∀ k (h : k < s.size), okc false s[k] = false → cnt false (s.data.toList.drop k) = 0 := fun k h hd => by rw [drop_at s k h, cnt_stop hd]
  have he : ∀ k, s.size ≤ k → cnt false (s.data.toList.drop k) = 0 := fun k h => by rw [drop_end s k h]; rfl
  have hle := cnt_le false (s.data.toList.drop a)
  rw [List.length_drop, len_list] at hle
  have h1n : 1 ≤ cnt false (s.data.toList.drop a) := by
    rw [hy a ha (by rw [okc_false]; exact hD)]; omega
  have hf2 : fst3 (s.data.toList.drop a) = (2, cnt false (s.data.toList.drop a), 0) := by
    have h0 : nameN (s.data.toList.drop a) = 0 := by rw [drop_at s a ha, nameN_no hL]
    unfold fst3
    rw [h0, ← cnt_false, if_neg (by omega), if_neg (by omega), if_pos (by omega)]
  have hcut := cut_list s a (a + cnt false (s.data.toList.drop a))
  rw [show ∀ n : Nat, a + n - a = n by omega] at hcut
  have hr2 := o_yes (a := a) hf2
  clear hf2 hD
  obtain ⟨F, hF⟩ : ∃ F : Nat → Nat, ∀ k, cnt false (s.data.toList.drop k) = F k := ⟨_, fun _ => rfl⟩
  simp only [hF] at hy hn he hle h1n hcut hr2
  clear hF
  generalize oK (s.data.toList.drop a) = K at *
  generalize oT (s.data.toList.drop a) = T at *
  generalize oA (s.data.toList.drop a) a = A at *
  generalize fE (s.data.toList.drop a) = E at *
  have hcut2 : (s.extract a (a + F a)).size = F a := by rw [← len_list, hcut, List.length_take, List.length_drop, len_list]; omega
  have hne : (s.extract a (a + F a)).toList ≠ [] := fun e => by
    rw [ByteArray.toList_eq] at e
    rw [← len_list, e] at hcut2
    simp at hcut2; omega
  have Hy := Lib.hid hy
  have Hn := Lib.hid hn
  have He := Lib.hid he
  have Hcut := Lib.hid hcut
  have Hcut2 := Lib.hid hcut2
  have Hne := Lib.hid hne
  have Hr2 := Lib.hid hr2
  have ca := fun (w : World) => Letter_any s[a] w
  rw [hL] at ca
  clear hy hn he hcut hcut2 hne hr2 hL
  go_enter Try.func25, Try.ntmps25
  go_wp2
  go_loop [6] (fun n => ∃ k : Nat, a ≤ k ∧ k ≤ s.size ∧ n = .int .i64 k ∧ Hid (k + F k = a + F a)) (fun n => s.size - (intOf n).toNat)
  case atStart => exact ⟨a, by omega, by omega, rfl, Lib.hid rfl⟩
  case round =>
    obtain ⟨k, hak, hk, rfl, hR⟩ := hrel
    by_cases hlt : k < s.size
    · have c1 := fun (w : World) => Digit_any s[k] w
      have c2 := fun (w : World) => Letter_any s[k] w
      cases ho : okc false s[k] with
      | true =>
        have hnew : Hid (k + 1 + F (k + 1) = a + F a) := by have := Hy.out k hlt ho; have := hR.out; show _ = _; omega
        rw [show isD s[k] = true by rw [← okc_false]; exact ho] at c1
        clear ho hR c2
        go_wp2_with (first | (go_at_call 34; ((with_reducible refine (c1 _).mono ?_); rintro e w' ⟨rfl, rfl⟩)) | (go_at_call 35; ((with_reducible refine (ca _).mono ?_); rintro e w' ⟨rfl, rfl⟩)))
        go_round
        case rel => exact ⟨k + 1, by omega, by omega, by go_num, hnew⟩
        case measure => simp [intOf]; omega
      | false =>
        have hk2 : k = a + F a := by have := Hn.out k hlt ho; have := hR.out; omega
        rw [show isD s[k] = false by rw [← okc_false]; exact ho] at c1
        clear hR ho c2
        have hcut := Hcut.out
        have hcut2 := Hcut2.out
        have hne := Hne.out
        have hr2 := Hr2.out
        clear Hcut Hcut2 Hne Hr2 Hy Hn He
        rw [← hk2] at hcut hcut2 hne
        generalize F a = n at *
        have Hk := Lib.hid hk2
        have hne2 : (s.extract a k).toList.isEmpty = false := by simp [hne]
        have hka : ((k : Int) == (a : Int)) = false := beq_no' (by omega)
        have hka2 : (k == a) = false := by simp; omega
        have hcutB : Hid (BA ((s.data.toList.drop a).take n) = s.extract a k) := by show _ = _; rw [← hcut]; rfl
        rw [hcutB.out] at hr2
        have Hr3 := Lib.hid hr2
        clear hcut hcut2 hk2 hcutB hr2
        go_wp2_with (first | (go_at_call 34; ((with_reducible refine (c1 _).mono ?_); rintro e w' ⟨rfl, rfl⟩)) | (go_at_call 35; ((with_reducible refine (ca _).mono ?_); rintro e w' ⟨rfl, rfl⟩)))
        exact bodyPost_ret (v := .tuple #[.agg #[.int .i64 2, .string (s.extract a k), .int .i64 a], .int .i64 0]) (by simp [results, Try.results25, go_sem]) rfl ⟨tokE Hr3.out, bel_alloc (bel_alloc (Below.refl _ _) _) _⟩
    · have hk2 : k = a + F a := by have := He.out k (by omega); have := hR.out; omega
      clear hR
      have hcut := Hcut.out
      have hcut2 := Hcut2.out
      have hne := Hne.out
      have hr2 := Hr2.out
      clear Hcut Hcut2 Hne Hr2 Hy Hn He
      rw [← hk2] at hcut hcut2 hne
      generalize F a = n at *
      have Hk := Lib.hid hk2
      have hne2 : (s.extract a k).toList.isEmpty = false := by simp [hne]
      have hka : ((k : Int) == (a : Int)) = false := beq_no' (by omega)
      have hka2 : (k == a) = false := by simp; omega
      have hcutB : Hid (BA ((s.data.toList.drop a).take n) = s.extract a k) := by show _ = _; rw [← hcut]; rfl
      rw [hcutB.out] at hr2
      have Hr3 := Lib.hid hr2
      clear hcut hcut2 hk2 hcutB hr2
      go_wp2_with (go_at_call 35; ((with_reducible refine (ca _).mono ?_); rintro e w' ⟨rfl, rfl⟩))
      exact bodyPost_ret (v := .tuple #[.agg #[.int .i64 2, .string (s.extract a k), .int .i64 a], .int .i64 0]) (by simp [results, Try.results25, go_sem]) rfl ⟨tokE Hr3.out, bel_alloc (bel_alloc (Below.refl _ _) _) _⟩

end Go.Proofs.Ytanbcclconhheaa.Tok
