/-
  What is proved: what the calls that go over a slice of texts return: membership, equality, the first place.
-/
import Derived.Test.YtakcbpmdjdadnaaLibA
import Derived.Laws.StructEq
namespace Go.Proofs.Ytakcbpmdjdadnaa.L
open Go.RowKit
set_option linter.unusedVariables false
set_option linter.unusedSimpArgs false

/-- from an offset on, a block holds these texts -/
def RowS (w : World) (b o : Nat) (X : List ByteArray) : Prop := ∀ k (h : k < X.length), w.cell? ⟨b, o + k, none⟩ = some (.string X[k])
/-- a slice's address and length read as a list of texts -/
def IsS (w : World) (a : Option Addr) (n : Nat) (X : List ByteArray) : Prop := n = X.length ∧ (0 < n → ∃ b o, a = some ⟨b, o, none⟩ ∧ b < w.heap.size ∧ RowS w b o X)
theorem RowS.below {w w' : World} {b o B : Nat} {X : List ByteArray} (h : RowS w b o X) (hb : Below B w w') (hlt : b < B) : RowS w' b o X := fun k hk => by
  rw [hb.cell (p := ⟨b, _, none⟩) hlt]; exact h k hk
theorem IsS.below {w w' : World} {a : Option Addr} {n : Nat} {X : List ByteArray} (h : IsS w a n X) (hb : Below w.heap.size w w') : IsS w' a n X :=
  ⟨h.1, fun hn => by
    obtain ⟨b, o, ha, hlt, hr⟩ := h.2 hn
    exact ⟨b, o, ha, Nat.lt_of_lt_of_le hlt hb.size, hr.below hb hlt⟩⟩
theorem IsS.drew {w : World} {a : Option Addr} {n : Nat} {X : List ByteArray} (h : IsS w a n X) (d : Nat) : IsS (w.drewN d) a n X := h.below (below_drewN (Below.refl _ _) d)
theorem IsS.nil (w : World) (a : Option Addr) : IsS w a 0 [] := ⟨rfl, fun h => absurd h (by omega)⟩
theorem IsS.at {w : World} {a : Option Addr} {n k : Nat} {X : List ByteArray} (h : IsS w a n X) (hk : k < n) :
    ∃ b o x, a = some ⟨b, o, none⟩ ∧ b < w.heap.size ∧ w.cell? ⟨b, o + k, none⟩ = some (.string x) ∧ X[k]? = some x ∧ RowS w b o X := by
  obtain ⟨b, o, ha, hlt, hr⟩ := h.2 (by omega)
  exact ⟨b, o, X[k]'(h.1 ▸ hk), ha, hlt, hr k (h.1 ▸ hk), List.getElem?_eq_getElem _, hr⟩

theorem eqS_iff {x y : ByteArray} : (x.toList == y.toList) = true ↔ x = y := by
  rw [beq_iff_eq, ByteArray.toList_eq, ByteArray.toList_eq]
  constructor
  · intro h
    have : x.data = y.data := by rw [← Array.toArray_toList (xs := x.data), h]
    cases x; cases y; simp at this; rw [this]
  · rintro rfl; rfl
theorem eqS_refl (x : ByteArray) : (x.toList == x.toList) = true := eqS_iff.2 rfl
/-- is a text in a list? -/
def hasS (X : List ByteArray) (s : ByteArray) : Bool := X.any (fun x => x.toList == s.toList)
theorem hasS_iff {X : List ByteArray} {s : ByteArray} : hasS X s = true ↔ s ∈ X := by
  unfold hasS
  rw [List.any_eq_true]
  constructor
  · rintro ⟨x, hx, h⟩; rw [eqS_iff] at h; exact h ▸ hx
  · intro h; exact ⟨s, h, eqS_refl s⟩
/-- the first place of a text in a list, its length if there is none -/
def idxN (X : List ByteArray) (s : ByteArray) : Nat := X.findIdx (fun x => x.toList == s.toList)
def idxI (X : List ByteArray) (s : ByteArray) : Int := if idxN X s < X.length then (idxN X s : Int) else -1
theorem idxN_le (X : List ByteArray) (s : ByteArray) : idxN X s ≤ X.length := List.findIdx_le_length
def eqL : List ByteArray → List ByteArray → Bool
  | [], [] => true
  | x :: l, y :: m => (x.toList == y.toList) && eqL l m
  | _, _ => false
theorem eqL_iff : ∀ {X Y : List ByteArray}, eqL X Y = true ↔ X = Y
  | [], [] => by simp [eqL]
  | x :: l, [] => by simp [eqL]
  | [], y :: m => by simp [eqL]
  | x :: l, y :: m => by rw [eqL, Bool.and_eq_true, eqS_iff, eqL_iff]; simp
theorem eqL_refl (X : List ByteArray) : eqL X X = true := eqL_iff.2 rfl
theorem eqL_len {X Y : List ByteArray} (h : X.length ≠ Y.length) : eqL X Y = false := by
  cases hc : eqL X Y with
  | false => rfl
  | true => exact absurd (congrArg List.length (eqL_iff.1 hc)) h

set_option maxHeartbeats 2000000 in
theorem Has_any (a : Option Addr) (n c : Nat) (X : List ByteArray) (s : ByteArray) (w : World) (hX : IsS w a n X) (hn : n ≤ 9223372036854775807) :
    Calls Try.prog 27 #[.slice a n c, .string s] w fun e w' => e = .returned (.bool (hasS X s)) ∧ w = w' := by
  have hst : ∀ k x, X[k]? = some x → hasS (X.drop k) s = ((x.toList == s.toList) || hasS (X.drop (k + 1)) s) := fun k x h => by
    obtain ⟨hk, rfl⟩ := List.getElem?_eq_some_iff.1 h
    unfold hasS; rw [List.drop_eq_getElem_cons hk, List.any_cons]
  have he : ∀ k, n ≤ k → hasS (X.drop k) s = false := fun k h => by rw [List.drop_eq_nil_of_le (by rw [← hX.1]; exact h)]; rfl
  have h0 : hasS X s = hasS (X.drop 0) s := rfl
  rw [h0]
  obtain ⟨F, hF⟩ : ∃ F : Nat → Bool, ∀ k, hasS (X.drop k) s = F k := ⟨_, fun _ => rfl⟩
  simp only [hF] at hst he ⊢
  clear hF h0
  have H1 := Lib.hid hX
  have Hst := Lib.hid hst
  have He := Lib.hid he
  clear hX hst he
  go_enter Try.func27, Try.ntmps27
  go_wp2
  go_loop [5] (fun i => ∃ (k : Nat), k ≤ n ∧ i = .int .i64 k ∧ Hid (F k = F 0)) (fun i => n - (intOf i).toNat)
  case atStart => exact ⟨0, by omega, rfl, Lib.hid rfl⟩
  case round =>
    obtain ⟨k, hk, rfl, hR⟩ := hrel
    by_cases hlt : k < n
    · obtain ⟨b, o, x, rfl, _, y1, hx, _⟩ := H1.out.at hlt
      have hs1 := Lib.hid (Hst.out k x hx)
      clear hx H1
      cases hb : x.toList == s.toList with
      | true =>
        have hnew : Hid (true = F 0) := by show _ = _; rw [← hR.out, hs1.out, hb]; rfl
        clear hR hs1
        go_wp2
        go_ret
        exact ⟨oneB hnew.out, rfl⟩
      | false =>
        have hnew : Hid (F (k + 1) = F 0) := by show _ = _; rw [← hR.out, hs1.out, hb]; rfl
        clear hR hs1
        have hb2 : (x.toList = s.toList) = False := by simpa using hb
        go_wp2
        go_round
        case rel => exact ⟨k + 1, by omega, by go_num, hnew⟩
        case measure => simp [intOf]; omega
    · have hnew : Hid (false = F 0) := by show _ = _; rw [← hR.out, He.out k (by omega)]
      clear hR
      go_wp2
      go_ret
      exact ⟨oneB hnew.out, rfl⟩

set_option maxHeartbeats 2000000 in
theorem Strings_any (a a' : Option Addr) (n n' c c' : Nat) (X Y : List ByteArray) (w : World) (hX : IsS w a n X) (hY : IsS w a' n' Y) (hn : n ≤ 1000000000) (hn' : n' ≤ 1000000000) :
    Calls Try.prog 23 #[.slice a n c, .slice a' n' c'] w fun e w' => e = .returned (.bool (eqL X Y)) ∧ Below w.heap.size w w' := by
  by_cases hlen : n = n'
  · subst hlen
    have hst : ∀ k x y, X[k]? = some x → Y[k]? = some y → eqL (X.drop k) (Y.drop k) = ((x.toList == y.toList) && eqL (X.drop (k + 1)) (Y.drop (k + 1))) := fun k x y h g => by
      obtain ⟨hk, rfl⟩ := List.getElem?_eq_some_iff.1 h
      obtain ⟨gk, rfl⟩ := List.getElem?_eq_some_iff.1 g
      rw [List.drop_eq_getElem_cons hk, List.drop_eq_getElem_cons gk, eqL]
    have he : ∀ k, n ≤ k → eqL (X.drop k) (Y.drop k) = true := fun k h => by
      rw [List.drop_eq_nil_of_le (by rw [← hX.1]; exact h), List.drop_eq_nil_of_le (by rw [← hY.1]; exact h)]; rfl
    have h0 : eqL X Y = eqL (X.drop 0) (Y.drop 0) := rfl
    rw [h0]
    obtain ⟨F, hF⟩ : ∃ F : Nat → Bool, ∀ k, eqL (X.drop k) (Y.drop k) = F k := ⟨_, fun _ => rfl⟩
    simp only [hF] at hst he ⊢
    clear hF h0
    have H1 := Lib.hid hX
    have H2 := Lib.hid hY
    have Hst := Lib.hid hst
    have He := Lib.hid he
    clear hX hY hst he
    go_enter Try.func23, Try.ntmps23
    go_wp2
    go_loopw [5] (fun i wr0 => ∃ (k d : Nat), wr0 = w.drewN d ∧ k ≤ n ∧ i = .int .i64 k ∧ Hid (F k = F 0)) (fun i _ => n - (intOf i).toNat)
    case atStart => exact ⟨0, 0, rfl, by omega, rfl, Lib.hid rfl⟩
    case round =>
      obtain ⟨k, d, rfl, hk, rfl, hR⟩ := hrel
      by_cases hlt : k < n
      · obtain ⟨b, o, x, rfl, _, y1, hx, _⟩ := H1.out.at hlt
        obtain ⟨b', o', y, rfl, _, z1, hy, _⟩ := H2.out.at hlt
        have hs1 := Lib.hid (Hst.out k x y hx hy)
        clear hx hy H1 H2
        have hk0 : 0 ≤ (k : Int) := by omega
        have hk1 : (k : Int) < (n : Int) := by omega
        cases hb : x.toList == y.toList with
        | true =>
          have hnew : Hid (F (k + 1) = F 0) := by show _ = _; rw [← hR.out, hs1.out, hb]; rfl
          have hb2 : (x.toList = y.toList) = True := by simpa using hb
          clear hR hs1
          go_wp2
          go_quiet (fail)
          go_wp2
          go_roundw
          case rel => exact ⟨k + 1, _, rfl, by omega, by go_num, hnew⟩
          case measure => simp [intOf]; omega
        | false =>
          have hnew : Hid (false = F 0) := by show _ = _; rw [← hR.out, hs1.out, hb]; rfl
          have hb2 : (x.toList = y.toList) = False := by simpa using hb
          clear hR hs1
          go_wp2
          go_quiet (fail)
          go_wp2
          go_ret
          exact ⟨oneB hnew.out, below_drewN (below_drewN (Below.refl _ _) d) _⟩
      · have hnew : Hid (true = F 0) := by show _ = _; rw [← hR.out, He.out k (by omega)]
        clear hR
        go_wp2
        go_ret
        exact ⟨oneB hnew.out, below_drewN (Below.refl _ _) d⟩
  · have hf : Hid (false = eqL X Y) := (eqL_len (by rw [← hX.1, ← hY.1]; exact hlen)).symm
    have n1 : ((n : Int) != (n' : Int)) = true := by simp; omega
    clear hX hY hlen
    go_enter Try.func23, Try.ntmps23
    go_wp2
    go_ret
    exact ⟨oneB hf.out, Below.refl _ _⟩

set_option maxHeartbeats 2000000 in
theorem Index_any (a : Option Addr) (n c : Nat) (X : List ByteArray) (s : ByteArray) (w : World) (hX : IsS w a n X) (hn : n ≤ 9223372036854775807) :
    Calls Try.prog 61 #[.slice a n c, .string s] w fun e w' => e = .returned (.int .i64 (idxI X s)) ∧ w = w' := by
  have hst : ∀ k x, X[k]? = some x → idxN (X.drop k) s = if (x.toList == s.toList) = true then 0 else idxN (X.drop (k + 1)) s + 1 := fun k x h => by
    obtain ⟨hk, rfl⟩ := List.getElem?_eq_some_iff.1 h
    unfold idxN; rw [List.drop_eq_getElem_cons hk, List.findIdx_cons]
    cases X[k].toList == s.toList <;> rfl
  have he : ∀ k, n ≤ k → idxN (X.drop k) s = 0 := fun k h => by rw [List.drop_eq_nil_of_le (by rw [← hX.1]; exact h)]; rfl
  have h0 : idxN X s = idxN (X.drop 0) s := rfl
  have hR1 : ∀ k, k < n → idxN (X.drop 0) s = k → (k : Int) = idxI X s := fun k h g => by unfold idxI; rw [h0, g, if_pos (by rw [← hX.1]; exact h)]
  have hR2 : idxN (X.drop 0) s = n → (-1 : Int) = idxI X s := fun g => by unfold idxI; rw [h0, g, if_neg (by rw [← hX.1]; omega)]
  generalize idxI X s = R at *
  obtain ⟨F, hF⟩ : ∃ F : Nat → Nat, ∀ k, idxN (X.drop k) s = F k := ⟨_, fun _ => rfl⟩
  simp only [hF] at hst he hR1 hR2
  clear hF h0
  have H1 := Lib.hid hX
  have Hst := Lib.hid hst
  have He := Lib.hid he
  have HR1 := Lib.hid hR1
  have HR2 := Lib.hid hR2
  clear hX hst he hR1 hR2
  go_enter Try.func61, Try.ntmps61
  go_wp2
  go_loop [8] (fun i => ∃ (k : Nat), k ≤ n ∧ i = .int .i64 k ∧ Hid (F 0 = k + F k)) (fun i => n - (intOf i).toNat)
  case atStart => exact ⟨0, by omega, rfl, Lib.hid (by omega)⟩
  case round =>
    obtain ⟨k, hk, rfl, hR⟩ := hrel
    by_cases hlt : k < n
    · obtain ⟨b, o, x, rfl, _, y1, hx, _⟩ := H1.out.at hlt
      have hs1 := Hst.out k x hx
      clear hx H1
      cases hb : s.toList == x.toList with
      | true =>
        have hnew : Hid ((k : Int) = R) := HR1.out k hlt (by rw [hR.out, hs1, if_pos (by rw [beq_iff_eq] at hb ⊢; exact hb.symm)]; rfl)
        clear hR hs1
        go_wp2
        go_ret
        exact ⟨one hnew.out, rfl⟩
      | false =>
        have hnew : Hid (F 0 = k + 1 + F (k + 1)) := by
          show _ = _
          rw [hR.out, hs1, if_neg (by intro h; rw [beq_iff_eq] at h; rw [h] at hb; simp at hb)]; omega
        clear hR hs1
        have hb2 : (s.toList = x.toList) = False := by simpa using hb
        go_wp2
        go_round
        case rel => exact ⟨k + 1, by omega, by go_num, hnew⟩
        case measure => simp [intOf]; omega
    · have hnew : Hid ((-1 : Int) = R) := HR2.out (by rw [hR.out, He.out k (by omega)]; omega)
      clear hR
      go_wp2
      go_ret
      exact ⟨one hnew.out, rfl⟩
end Go.Proofs.Ytakcbpmdjdadnaa.L
