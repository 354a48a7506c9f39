/-
  What is proved: the sizes that the laws speak of; the chapter's examples; what follows for a list into which a sort is put.
-/
import Derived.Test.YtfamlimnanehnaaSrtD
namespace Go.Proofs.Ytfamlimnanehnaa.Srt
open Go.RowKit L
set_option linter.unusedVariables false
set_option linter.unusedSimpArgs false

def fewB (X : List ByteArray) : Bool := decide (X.length ≤ 200) && X.all (fun x : ByteArray => decide (x.size ≤ 200))
theorem few_okZ {X : List ByteArray} (h : fewB X = true) : X.length ≤ 200 ∧ okZ X := by
  unfold fewB at h
  rw [Bool.and_eq_true, decide_eq_true_eq, List.all_eq_true] at h
  exact ⟨h.1, fun x hx => by have := of_decide_eq_true (h.2 x hx); omega⟩

set_option maxHeartbeats 2000000 in
theorem few_any (a : Option Addr) (n c : Nat) (X : List ByteArray) (w : World) (hX : IsS w a n X) (hn : n ≤ 9223372036854775807) (hz : ∀ x ∈ X, x.size ≤ 9223372036854775807) :
    Calls Try.prog 8 #[.slice a n c] w fun e w' => e = .returned (.bool (fewB X)) ∧ w = w' := by
  by_cases h2 : n ≤ 200
  · have hst : ∀ k (x : ByteArray), X[k]? = some x → (X.drop k).all (fun x : ByteArray => decide (x.size ≤ 200)) = (decide (x.size ≤ 200) && (X.drop (k + 1)).all (fun x : ByteArray => decide (x.size ≤ 200))) := fun k x h => by
      obtain ⟨hk, rfl⟩ := List.getElem?_eq_some_iff.1 h
      rw [List.drop_eq_getElem_cons hk, List.all_cons]
    have he : ∀ k, n ≤ k → (X.drop k).all (fun x : ByteArray => decide (x.size ≤ 200)) = true := fun k h => by rw [List.drop_eq_nil_of_le (by rw [← hX.1]; exact h)]; rfl
    have h0 : fewB X = (X.drop 0).all (fun x : ByteArray => decide (x.size ≤ 200)) := by unfold fewB; rw [List.drop_zero, ← hX.1, decide_eq_true h2, Bool.true_and]
    rw [h0]
    obtain ⟨F, hF⟩ : ∃ F : Nat → Bool, ∀ k, (X.drop k).all (fun x : ByteArray => decide (x.size ≤ 200)) = F k := ⟨_, fun _ => rfl⟩
    simp only [hF] at hst he ⊢
    clear hF h0
    have hzz : ∀ k (x : ByteArray), X[k]? = some x → x.size ≤ 9223372036854775807 := fun k x h => hz x (List.mem_of_getElem? h)
    have H1 := Lib.hid hX
    have Hst := Lib.hid hst
    have He := Lib.hid he
    have Hz := Lib.hid hzz
    clear hX hst he hz hzz
    have h3 : ¬ 200 < (n : Int) := by omega
    go_enter Try.func8, Try.ntmps8
    go_wp2
    go_loop [10] (fun i => ∃ (k : Nat), k ≤ n ∧ i = .int .i64 k ∧ Hid (F k = F 0)) (fun i => n - (intOf i).toNat)
    case atStart => exact ⟨0, by omega, rfl, Lib.hid rfl⟩
    case round =>
      obtain ⟨k, hk, rfl, hR⟩ := hrel
      by_cases hlt : k < n
      · obtain ⟨b, o, x, rfl, _, y1, hx, _⟩ := H1.out.at hlt
        have hs1 := Hst.out k x hx
        have hxz := Hz.out k x hx
        clear hx H1 Hst Hz
        by_cases hb : x.size ≤ 200
        · have hnew : Hid (F (k + 1) = F 0) := by show _ = _; rw [← hR.out, hs1, decide_eq_true hb]; rfl
          have hb2 : ¬ 200 < (x.size : Int) := by omega
          clear hR hs1
          go_wp2
          go_round
          case rel => exact ⟨k + 1, by omega, by go_num, hnew⟩
          case measure => simp [intOf]; omega
        · have hnew : Hid (false = F 0) := by show _ = _; rw [← hR.out, hs1, decide_eq_false hb]; rfl
          have hb2 : 200 < (x.size : Int) := by omega
          clear hR hs1
          go_wp2
          go_ret
          exact ⟨oneB hnew.out, rfl⟩
      · have hnew : Hid (true = F 0) := by show _ = _; rw [← hR.out, He.out k (by omega)]
        clear hR
        go_wp2
        go_ret
        exact ⟨oneB hnew.out, rfl⟩
  · have hf : Hid (false = fewB X) := by show _ = _; unfold fewB; rw [← hX.1, decide_eq_false h2]; rfl
    have h3 : 200 < (n : Int) := by omega
    clear hX hz
    go_enter Try.func8, Try.ntmps8
    go_wp2
    go_ret
    exact ⟨oneB hf.out, rfl⟩

/-! the same over lists of bytes, which can be computed -/
def validL (l : List UInt8) : Bool := nameB l && (!wordB l && (!(l == [66, 111, 111, 108]) && !(l == [73, 110, 116])))
def rgtL : List (List UInt8) → List (List UInt8) → Int
  | _, [] => 0
  | P, x :: l => if validL x = false then 10 else if P.any (fun y => y == x) = true then 4 else rgtL (P ++ [x]) l
theorem valid_L (s : ByteArray) : validS s = validL s.data.toList := by unfold validS validL; rw [ByteArray.toList_eq]
theorem has_L (X : List ByteArray) (s : ByteArray) : hasS X s = (X.map (·.data.toList)).any (fun y => y == s.data.toList) := by
  unfold hasS; rw [List.any_map]
  congr 1
  funext x
  simp only [ByteArray.toList_eq, Function.comp]
theorem rgt_L : ∀ (X P : List ByteArray), rgt P X = rgtL (P.map (·.data.toList)) (X.map (·.data.toList))
  | [], P => rfl
  | x :: X, P => by
    rw [rgt, List.map_cons, rgtL, rgt_L X (P ++ [x]), valid_L, has_L, List.map_append]; rfl

theorem ex1 : putE [BA [65]] (BA [116, 114, 117, 101]) = 10 := by unfold putE; rw [valid_L]; decide +kernel
theorem ex2 : rightV [BA [65], BA [66], BA [65]] = 4 := by unfold rightV; rw [rgt_L]; decide +kernel
theorem ex3 : placeI [BA [65], BA [66]] (BA [65]) = 2 := by
  refine place_first (k := 0) rfl ?_ rfl
  rw [valid_L]; decide +kernel
theorem okZ_A (X : List ByteArray) (h : ∀ x ∈ X, x.size ≤ 1) : okZ X := fun x hx => by have := h x hx; omega

set_option maxHeartbeats 2000000 in
theorem alive_any (w : World) : Calls Try.prog 9 #[] w fun e w' => e = .returned (.bool true) ∧ Below w.heap.size w w' := by
  have c1 : ∀ w : World, Calls Try.prog 12 #[.slice (some ⟨w.heap.size, 0, none⟩) 1 1, .string ⟨#[116, 114, 117, 101]⟩] (w.alloc (.cells #[.string ⟨#[65]⟩] 9)) fun e w' => ∃ v, e = .returned (.tuple #[v, .int .i64 10]) ∧ Below w.heap.size w w' := fun w => by
    refine (Put_any _ 1 1 [BA [65]] (BA [116, 114, 117, 101]) _ (slS_one w (BA [65])) (by decide) (by decide)).mono fun e w' ⟨v, he, _, hb⟩ => ⟨v, ?_, bel_trans (bel_alloc (Below.refl _ _) _) hb⟩
    rw [he, ex1]
  have c2 : ∀ w : World, Calls Try.prog 10 #[.slice (some ⟨w.heap.size, 0, none⟩) 3 3] (w.alloc (.cells #[.string ⟨#[65]⟩, .string ⟨#[66]⟩, .string ⟨#[65]⟩] 9)) fun e w' => e = .returned (.int .i64 4) ∧ Below w.heap.size w w' := fun w => by
    obtain ⟨A, c, hv, hS⟩ := (OwnS.made w [BA [65], BA [66], BA [65]] w.heap.size (Nat.le_refl _) (by decide)).slS
    injection hv with h1 h2 h3
    subst h1 h3
    refine (Right_any _ 3 3 [BA [65], BA [66], BA [65]] _ hS.1 (okZ_A _ (by decide)) (by decide)).mono fun e w' ⟨he, hb⟩ => ⟨?_, bel_trans (bel_alloc (Below.refl _ _) _) hb⟩
    rw [he, ex2]
  have c3 : ∀ w : World, Calls Try.prog 17 #[.slice (some ⟨w.heap.size, 0, none⟩) 2 2, .string ⟨#[65]⟩] (w.alloc (.cells #[.string ⟨#[65]⟩, .string ⟨#[66]⟩] 9)) fun e w' => e = .returned (.int .i64 2) ∧ Below w.heap.size w w' := fun w => by
    obtain ⟨A, c, hv, hS⟩ := (OwnS.made w [BA [65], BA [66]] w.heap.size (Nat.le_refl _) (by decide)).slS
    injection hv with h1 h2 h3
    subst h1 h3
    refine (Place_any _ 2 2 [BA [65], BA [66]] (BA [65]) _ hS.1 (by decide)).mono fun e w' ⟨he, hb⟩ => ⟨?_, bel_trans (bel_alloc (Below.refl _ _) _) hb⟩
    rw [he, ex3]
  go_enter Try.func9, Try.ntmps9
  go_wp2_with (first
    | (go_at_call 12; ((with_reducible refine (c1 _).mono ?_); rintro e w1 ⟨v, rfl, hb1⟩))
    | (go_at_call 10; ((with_reducible refine (c2 _).mono ?_); rintro e w2 ⟨rfl, hb2⟩))
    | (go_at_call 17; ((with_reducible refine (c3 _).mono ?_); rintro e w3 ⟨rfl, hb3⟩)))
  go_ret
  exact ⟨rfl, bel_trans (bel_trans hb1 hb2) hb3⟩

theorem rgt_snoc (s : ByteArray) : ∀ (X P : List ByteArray), rgt P X = 0 → rgt P (X ++ [s]) = if validS s = false then 10 else if hasS (P ++ X) s = true then 4 else 0
  | [], P, _ => by rw [List.nil_append, rgt, List.append_nil]; rfl
  | x :: X, P, h => by
    rw [rgt] at h
    rw [List.cons_append, rgt]
    split at h
    · omega
    · split at h
      · omega
      · rw [if_neg (by assumption), if_neg (by assumption), rgt_snoc s X (P ++ [x]) h, List.append_assoc]; rfl
theorem right_ok {X : List ByteArray} (h : rightV X = 0) : X.length ≤ 64 ∧ rgt [] X = 0 := by
  unfold rightV at h
  split at h
  · omega
  · exact ⟨by omega, h⟩
theorem put_ok' {X : List ByteArray} {s : ByteArray} (h : putE X s = 0) : validS s = true ∧ hasS X s = false ∧ X.length < 64 := by
  unfold putE at h
  split at h
  · omega
  · split at h
    · omega
    · split at h
      · omega
      · exact ⟨by simpa using (by assumption : ¬ validS s = false), by simpa using (by assumption : ¬ hasS X s = true), by omega⟩
theorem right_put {X : List ByteArray} {s : ByteArray} (h : rightV X = 0) (hp : putE X s = 0) : rightV (X ++ [s]) = 0 := by
  obtain ⟨h1, h2⟩ := right_ok h
  obtain ⟨p1, p2, p3⟩ := put_ok' hp
  unfold rightV
  rw [if_neg (by simp; omega), rgt_snoc s X [] h2, if_neg (by simp [p1]), if_neg (by simp [p2])]
theorem place_put {X : List ByteArray} {s : ByteArray} (hp : putE X s = 0) : placeI (X ++ [s]) s = 2 + (X.length : Int) := by
  obtain ⟨p1, p2, p3⟩ := put_ok' hp
  refine place_first (k := X.length) (by simp) p1 ?_
  rw [List.take_left]; exact p2
end Go.Proofs.Ytfamlimnanehnaa.Srt
