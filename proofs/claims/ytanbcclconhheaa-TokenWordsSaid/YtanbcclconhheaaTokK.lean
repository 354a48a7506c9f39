/-
  What is proved: two equal lists of tokens, and of texts, are told to be equal; a list of texts is searched.
-/
import Derived.Test.YtanbcclconhheaaTokJ
import Derived.Laws.StructEq
namespace Go.Proofs.Ytanbcclconhheaa.Tok
open Go.RowKit
set_option linter.unusedVariables false
set_option linter.unusedSimpArgs false

def tokY (T : List Tok) : List (Int × ByteArray × Int) := T.map fun t => (t.k, BA t.t, (t.a : Int))
theorem cells_at (T : List Tok) (i : Nat) (h : i < T.length) : (cellsT T)[i * 3]? = some (.int .i64 T[i].k) ∧ (cellsT T)[i * 3 + 1]? = some (.string (BA T[i].t)) ∧ (cellsT T)[i * 3 + 1 + 1]? = some (.int .i64 T[i].a) := by
  induction T generalizing i with
  | nil => simp at h
  | cons t T ih =>
    cases i with
    | zero => exact ⟨rfl, rfl, rfl⟩
    | succ i =>
      have e : cellsT (t :: T) = tokC t ++ cellsT T := by simp [cellsT]
      have h1 := ih i (by simpa using h)
      rw [e]
      have l : (tokC t).length = 3 := rfl
      rw [List.getElem?_append_right (by omega), List.getElem?_append_right (by omega), List.getElem?_append_right (by omega), l]
      rw [show (i + 1) * 3 - 3 = i * 3 by omega, show (i + 1) * 3 + 1 - 3 = i * 3 + 1 by omega, show (i + 1) * 3 + 1 + 1 - 3 = i * 3 + 1 + 1 by omega]
      exact h1
theorem own_isY {w : World} {base : Nat} {v : Value} {T : List Tok} (h : w.ownsRow base 33 3 v T.length (cellsT T)) :
    ∃ A c, v = .slice A T.length c ∧ IsY w A T.length (tokY T) := by
  rcases h.2 with ⟨rfl, h0⟩ | ⟨g, cap, cur, rfl, _, hg, _⟩
  · rw [h0]
    refine ⟨none, 0, rfl, by rw [tokY, List.length_map]; exact h0.symm, fun hn => absurd hn (by omega)⟩
  · refine ⟨_, _, rfl, by simp [tokY], fun hn => ⟨g, 0, rfl, (Array.getElem?_eq_some_iff.1 hg).1, fun i hi => ?_⟩⟩
    have hi2 : i < T.length := by simpa [tokY] using hi
    obtain ⟨c1, c2, c3⟩ := cells_at T i hi2
    have hc := h.cells (g := g) rfl
    have d1 := hc _ _ c1
    have d2 := hc _ _ c2
    have d3 := hc _ _ c3
    rw [Addr.add_lit] at d1 d2 d3
    refine ⟨?_, ?_, ?_⟩
    · rw [d1]; simp [tokY]
    · rw [show 0 + i * 3 + 1 = 0 + (i * 3 + 1) by omega, d2]; simp [tokY]
    · rw [show 0 + i * 3 + 1 + 1 = 0 + (i * 3 + 1 + 1) by omega, d3]; simp [tokY]

set_option maxHeartbeats 2000000 in
theorem Tokens_some (b o c b' o' c' : Nat) (Y : List (Int × ByteArray × Int)) (w : World) (hn : Y.length ≤ 100000000) (h1 : RowY w b o Y) (h2 : RowY w b' o' Y) :
    Calls Try.prog 12 #[.slice (some ⟨b, o, none⟩) Y.length c, .slice (some ⟨b', o', none⟩) Y.length c'] w fun e w' => e = .returned (.bool true) ∧ Below w.heap.size w w' := by
  have H1 := Lib.hid h1
  have H2 := Lib.hid h2
  clear h1 h2
  go_enter Try.func12, Try.ntmps12
  go_wp2
  go_loopw [5] (fun i wr0 => ∃ (k d : Nat), wr0 = w.drewN d ∧ k ≤ Y.length ∧ i = .int .i64 k) (fun i _ => Y.length - (intOf i).toNat)
  case atStart => exact ⟨0, 0, rfl, by omega, rfl⟩
  case round =>
    obtain ⟨k, d, rfl, hk, rfl⟩ := hrel
    by_cases hlt : k < Y.length
    · obtain ⟨y1, y2, y3⟩ := H1.out k hlt
      obtain ⟨z1, z2, z3⟩ := H2.out k hlt
      have hk0 : 0 ≤ (k : Int) := by omega
      have hk1 : (k : Int) < (Y.length : Int) := by omega
      go_wp2
      go_quiet (fail)
      go_wp2
      go_roundw
      case rel => exact ⟨k + 1, _, rfl, by omega, by go_num⟩
      case measure => simp [intOf]; omega
    · go_wp2
      go_ret
      exact ⟨rfl, below_drewN (Below.refl _ _) d⟩
theorem Tokens_none (a a' : Option Addr) (c c' : Nat) (w : World) :
    Calls Try.prog 12 #[.slice a 0 c, .slice a' 0 c'] w fun e w' => e = .returned (.bool true) ∧ Below w.heap.size w w' := by
  go_enter Try.func12, Try.ntmps12
  go_wp2
  go_loop [5] (fun i => i = .int .i64 0) (fun i => 0)
  case atStart => rfl
  case round =>
    obtain rfl := hrel
    go_wp2
    go_ret
    exact ⟨rfl, Below.refl _ _⟩
theorem Tokens_any (a a' : Option Addr) (n c c' : Nat) (Y : List (Int × ByteArray × Int)) (w : World) (hY : IsY w a n Y) (hY' : IsY w a' n Y) (hn : n ≤ 100000000) :
    Calls Try.prog 12 #[.slice a n c, .slice a' n c'] w fun e w' => e = .returned (.bool true) ∧ Below w.heap.size w w' := by
  obtain ⟨rfl, h⟩ := hY
  obtain ⟨_, h'⟩ := hY'
  by_cases h0 : Y = []
  · subst h0
    exact Tokens_none a a' c c' w
  · obtain ⟨b, o, rfl, hb, hr⟩ := h (List.length_pos_iff.2 h0)
    obtain ⟨b', o', rfl, hb', hr'⟩ := h' (List.length_pos_iff.2 h0)
    exact Tokens_some b o c b' o' c' Y w hn hr hr'

set_option maxHeartbeats 2000000 in
theorem Strings_gen (g g' : Nat) (X : List ByteArray) (w : World) (hn : X.length ≤ 1000) (h1 : SAt w g X) (h2 : SAt w g' X) :
    Calls Try.prog 17 #[.slice (some ⟨g, 0, none⟩) X.length X.length, .slice (some ⟨g', 0, none⟩) X.length X.length] w fun e w' => e = .returned (.bool true) ∧ Below w.heap.size w w' := by
  have H1 := Lib.hid h1
  have H2 := Lib.hid h2
  clear h1 h2
  go_enter Try.func17, Try.ntmps17
  go_wp2
  go_loopw [5] (fun i wr0 => ∃ (k d : Nat), wr0 = w.drewN d ∧ k ≤ X.length ∧ i = .int .i64 k) (fun i _ => X.length - (intOf i).toNat)
  case atStart => exact ⟨0, 0, rfl, by omega, rfl⟩
  case round =>
    obtain ⟨k, d, rfl, hk, rfl⟩ := hrel
    by_cases hlt : k < X.length
    · have y1 := H1.out k hlt
      have z1 := H2.out k hlt
      have hk0 : 0 ≤ (k : Int) := by omega
      have hk1 : (k : Int) < (X.length : Int) := by omega
      go_wp2
      go_quiet (fail)
      go_wp2
      go_roundw
      case rel => exact ⟨k + 1, _, rfl, by omega, by go_num⟩
      case measure => simp [intOf]; omega
    · go_wp2
      go_ret
      exact ⟨rfl, below_drewN (Below.refl _ _) d⟩

theorem any_at {X : List ByteArray} {l : List UInt8} {k : Nat} (h : k < X.length) : (X.drop k).any (fun x => x.toList == l) = ((X[k].toList == l) || (X.drop (k + 1)).any (fun x => x.toList == l)) := by
  rw [List.drop_eq_getElem_cons h, List.any_cons]
set_option maxHeartbeats 2000000 in
theorem Has_gen (g : Nat) (X : List ByteArray) (s : ByteArray) (w : World) (hn : X.length ≤ 1000) (h1 : SAt w g X) :
    Calls Try.prog 29 #[.slice (some ⟨g, 0, none⟩) X.length X.length, .string s] w fun e w' => e = .returned (.bool (X.any (fun x => x.toList == s.toList))) ∧ w = w' := by
  have hst : ∀ k (h : k < X.length), (X.drop k).any (fun x => x.toList == s.toList) = ((X[k].toList == s.toList) || (X.drop (k + 1)).any (fun x => x.toList == s.toList)) := fun k h => any_at h
  have he : ∀ k, X.length ≤ k → (X.drop k).any (fun x => x.toList == s.toList) = false := fun k h => by rw [List.drop_eq_nil_of_le h]; rfl
  have h0 : X.any (fun x => x.toList == s.toList) = (X.drop 0).any (fun x => x.toList == s.toList) := rfl
  rw [h0]
  obtain ⟨F, hF⟩ : ∃ F : Nat → Bool, ∀ k, (X.drop k).any (fun x => x.toList == s.toList) = F k := ⟨_, fun _ => rfl⟩
  simp only [hF] at hst he ⊢
  clear hF h0
  have H1 := Lib.hid h1
  have Hst := Lib.hid hst
  have He := Lib.hid he
  clear h1 hst he
  go_enter Try.func29, Try.ntmps29
  go_wp2
  go_loop [5] (fun i => ∃ (k : Nat), k ≤ X.length ∧ i = .int .i64 k ∧ Hid (F k = F 0)) (fun i => X.length - (intOf i).toNat)
  case atStart => exact ⟨0, by omega, rfl, Lib.hid rfl⟩
  case round =>
    obtain ⟨k, hk, rfl, hR⟩ := hrel
    by_cases hlt : k < X.length
    · have y1 := H1.out k hlt
      have hs1 := Lib.hid (Hst.out k hlt)
      generalize X[k] = x at *
      cases hb : x.toList == s.toList with
      | true =>
        have hnew : Hid (true = F 0) := by show _ = _; rw [← hR.out, hs1.out, hb]; rfl
        clear hR hs1
        go_wp2
        go_ret
        exact ⟨oneB hnew.out, rfl⟩
      | false =>
        have hnew : Hid (F (k + 1) = F 0) := by show _ = _; rw [← hR.out, hs1.out, hb]; rfl
        clear hR hs1
        have hb2 : (x.toList = s.toList) = False := by simpa using hb
        go_wp2
        go_round
        case rel => exact ⟨k + 1, by omega, by go_num, hnew⟩
        case measure => simp [intOf]; omega
    · have hnew : Hid (false = F 0) := by show _ = _; rw [← hR.out, He.out k (by omega)]
      clear hR
      go_wp2
      go_ret
      exact ⟨oneB hnew.out, rfl⟩
end Go.Proofs.Ytanbcclconhheaa.Tok
