/-
  What is proved: the place of a sort in a list, and the first error of a list, by package sorts (a query that is a closure).
-/
import Derived.Test.YtakcbpmdjdadnaaSrtA
namespace Go.Proofs.Ytakcbpmdjdadnaa.Srt
open Go.RowKit L
set_option linter.unusedVariables false
set_option linter.unusedSimpArgs false

def placeI (X : List ByteArray) (s : ByteArray) : Int :=
  if s.toList = [66, 111, 111, 108] then 0 else if s.toList = [73, 110, 116] then 1 else if 0 ≤ idxI X s then 2 + idxI X s else -1
theorem idxI_le (X : List ByteArray) (s : ByteArray) : -1 ≤ idxI X s ∧ idxI X s < X.length := by
  unfold idxI; split <;> omega
theorem idxN_first {X : List ByteArray} {k : Nat} {x : ByteArray} (h : X[k]? = some x) (hh : hasS (X.take k) x = false) : idxN X x = k := by
  obtain ⟨hk, rfl⟩ := List.getElem?_eq_some_iff.1 h
  unfold idxN
  rw [List.findIdx_eq hk]
  refine ⟨eqS_refl _, fun j hj => ?_⟩
  have h2 : ¬ hasS (X.take k) X[k] = true := by simp [hh]
  rw [hasS_iff] at h2
  cases hc : X[j].toList == X[k].toList with
  | false => rfl
  | true =>
    refine absurd ?_ h2
    rw [← eqS_iff.1 hc]
    exact List.mem_take_iff_getElem.2 ⟨j, by omega, rfl⟩
theorem idxN_later {X : List ByteArray} {k : Nat} {x : ByteArray} (h : X[k]? = some x) (hh : hasS (X.take k) x = true) : idxN X x < k := by
  obtain ⟨hk, rfl⟩ := List.getElem?_eq_some_iff.1 h
  obtain ⟨j, hj, he⟩ := List.mem_take_iff_getElem.1 (hasS_iff.1 hh)
  refine Nat.lt_of_not_le fun hle => ?_
  have := List.not_of_lt_findIdx (p := fun y => y.toList == X[k].toList) (xs := X) (i := j) (Nat.lt_of_lt_of_le (by omega) hle)
  rw [he] at this
  rw [eqS_refl] at this; cases this
theorem valid_not {s : ByteArray} (h : validS s = true) : s.toList ≠ [66, 111, 111, 108] ∧ s.toList ≠ [73, 110, 116] := by
  unfold validS at h
  simp at h
  exact h.2.2
theorem place_first {X : List ByteArray} {k : Nat} {x : ByteArray} (h : X[k]? = some x) (hv : validS x = true) (hh : hasS (X.take k) x = false) : placeI X x = 2 + (k : Int) := by
  obtain ⟨h1, h2⟩ := valid_not hv
  have hk := (List.getElem?_eq_some_iff.1 h).1
  unfold placeI idxI
  rw [if_neg h1, if_neg h2, idxN_first h hh, if_pos hk, if_pos (by omega)]
theorem place_later {X : List ByteArray} {k : Nat} {x : ByteArray} (h : X[k]? = some x) (hv : validS x = true) (hh : hasS (X.take k) x = true) : placeI X x < 2 + (k : Int) := by
  obtain ⟨h1, h2⟩ := valid_not hv
  have hk := (List.getElem?_eq_some_iff.1 h).1
  have := idxN_later h hh
  unfold placeI idxI
  rw [if_neg h1, if_neg h2, if_pos (by omega), if_pos (by omega)]; omega

def rgt : List ByteArray → List ByteArray → Int
  | _, [] => 0
  | P, x :: l => if validS x = false then 10 else if hasS P x = true then 4 else rgt (P ++ [x]) l
def rightV (X : List ByteArray) : Int := if 64 < X.length then 2 else rgt [] X
theorem rgt_at {X : List ByteArray} {k : Nat} {x : ByteArray} (h : X[k]? = some x) :
    rgt (X.take k) (X.drop k) = if validS x = false then 10 else if hasS (X.take k) x = true then 4 else rgt (X.take (k + 1)) (X.drop (k + 1)) := by
  obtain ⟨hk, rfl⟩ := List.getElem?_eq_some_iff.1 h
  rw [List.drop_eq_getElem_cons hk, rgt, List.take_succ_eq_append_getElem hk]
theorem rgt_end {X : List ByteArray} {k : Nat} (h : X.length ≤ k) : rgt (X.take k) (X.drop k) = 0 := by
  rw [List.drop_eq_nil_of_le h]; rfl

set_option maxHeartbeats 2000000 in
theorem query_any (g : Nat) (a : Option Addr) (n c : Nat) (X : List ByteArray) (s : ByteArray) (w : World) (hg : w.cell? ⟨g, 0, none⟩ = some (.slice a n c)) (hX : IsS w a n X) (hn : n ≤ 1000000000) :
    Calls Try.prog 60 #[.string s, .pointer (some ⟨g, 0, none⟩)] w fun e w' => e = .returned (.int .i64 (placeI X s)) ∧ w = w' := by
  have c1 := Index_any a n c X s w hX (by omega)
  have hl := idxI_le X s
  rw [← hX.1] at hl
  have p1 : s.toList = [66, 111, 111, 108] → (0 : Int) = placeI X s := fun h => by unfold placeI; rw [if_pos h]
  have p2 : ¬ s.toList = [66, 111, 111, 108] → s.toList = [73, 110, 116] → (1 : Int) = placeI X s := fun h h2 => by unfold placeI; rw [if_neg h, if_pos h2]
  have p3 : ¬ s.toList = [66, 111, 111, 108] → ¬ s.toList = [73, 110, 116] → 0 ≤ idxI X s → 2 + idxI X s = placeI X s := fun h h2 h3 => by unfold placeI; rw [if_neg h, if_neg h2, if_pos h3]
  have p4 : ¬ s.toList = [66, 111, 111, 108] → ¬ s.toList = [73, 110, 116] → ¬ 0 ≤ idxI X s → -1 = placeI X s := fun h h2 h3 => by unfold placeI; rw [if_neg h, if_neg h2, if_neg h3]
  generalize idxI X s = R at *
  generalize placeI X s = V at *
  clear hX
  by_cases h1 : s.toList = [66, 111, 111, 108]
  · have hr : Hid (0 = V) := p1 h1
    have g1 : (s.toList == [66, 111, 111, 108]) = true := by simp [h1]
    clear p1 p2 p3 p4
    go_enter Try.func60, Try.ntmps60
    go_wp2
    go_ret
    exact ⟨one hr.out, rfl⟩
  · have g1 : (s.toList == [66, 111, 111, 108]) = false := by simp [h1]
    have e1 : (s.toList = [66, 111, 111, 108]) = False := by simp [h1]
    by_cases h2 : s.toList = [73, 110, 116]
    · have hr : Hid (1 = V) := p2 h1 h2
      have g2 : (s.toList == [73, 110, 116]) = true := by simp [h2]
      clear p1 p2 p3 p4 h1
      go_enter Try.func60, Try.ntmps60
      go_wp2
      go_ret
      exact ⟨one hr.out, rfl⟩
    · have g2 : (s.toList == [73, 110, 116]) = false := by simp [h2]
      have e2 : (s.toList = [73, 110, 116]) = False := by simp [h2]
      by_cases h0 : 0 ≤ R
      · have hr : Hid (2 + R = V) := p3 h1 h2 h0
        clear p1 p2 p3 p4 h1 h2
        go_enter Try.func60, Try.ntmps60
        go_wp2_with (go_at_call 61; ((with_reducible refine c1.mono ?_); rintro e w' ⟨rfl, rfl⟩))
        go_ret
        exact ⟨one hr.out, rfl⟩
      · have hr : Hid (-1 = V) := p4 h1 h2 h0
        clear p1 p2 p3 p4 h1 h2
        go_enter Try.func60, Try.ntmps60
        go_wp2_with (go_at_call 61; ((with_reducible refine c1.mono ?_); rintro e w' ⟨rfl, rfl⟩))
        go_ret
        exact ⟨one hr.out, rfl⟩

theorem places_any (a : Option Addr) (n c : Nat) (w : World) :
    Calls Try.prog 50 #[.slice a n c] w fun e w' => e = .returned (.func (.func 60) #[] #[.pointer (some ⟨w.heap.size, 0, none⟩)]) ∧ w.alloc (.cells #[.slice a n c] 22) = w' := by
  have hmf : ∀ (fn : Fn) (first cap : Array Value) (w : World), (Instr.makeFunc fn first cap).run Try.prog w = .ok (.func fn first cap) w := fun _ _ _ _ => rfl
  go_enter Try.func50, Try.ntmps50
  go_wp2
  go_ret
  exact ⟨rfl, rfl⟩

theorem IsS.boxed {w : World} {a : Option Addr} {n c : Nat} {X : List ByteArray} (h : IsS w a n X) :
    IsS (w.alloc (.cells #[.slice a n c] 22)) a n X ∧ (w.alloc (.cells #[.slice a n c] 22)).cell? ⟨w.heap.size, 0, none⟩ = some (.slice a n c) :=
  ⟨h.below (bel_alloc (Below.refl _ _) _), by rw [World.cell?_alloc_at _ _ _ _ rfl]; rfl⟩
theorem Place_any (a : Option Addr) (n c : Nat) (X : List ByteArray) (s : ByteArray) (w : World) (hX : IsS w a n X) (hn : n ≤ 1000000000) :
    Calls Try.prog 55 #[.slice a n c, .string s] w fun e w' => e = .returned (.int .i64 (placeI X s)) ∧ Below w.heap.size w w' := by
  have c1 := fun (w : World) => places_any a n c w
  obtain ⟨b1, b2⟩ := IsS.boxed (c := c) hX
  have c2 := query_any w.heap.size a n c X s _ b2 b1 hn
  have hb : Hid (Below w.heap.size w (w.alloc (.cells #[.slice a n c] 22))) := bel_alloc (Below.refl _ _) _
  clear hX b1 b2
  generalize placeI X s = V at *
  go_enter Try.func55, Try.ntmps55
  go_wp2_with (first
    | (go_at_call 50; ((with_reducible refine (c1 _).mono ?_); rintro e w' ⟨rfl, rfl⟩))
    | (go_at_call 60; ((with_reducible refine c2.mono ?_); rintro e w' ⟨rfl, rfl⟩)))
  go_ret
  exact ⟨rfl, hb.out⟩
theorem Known_any (a : Option Addr) (n c : Nat) (X : List ByteArray) (s : ByteArray) (w : World) (hX : IsS w a n X) (hn : n ≤ 1000000000) :
    Calls Try.prog 34 #[.slice a n c, .string s] w fun e w' => e = .returned (.bool (decide (0 ≤ placeI X s))) ∧ Below w.heap.size w w' := by
  have c1 := Place_any a n c X s w hX hn
  clear hX
  generalize placeI X s = V at *
  go_enter Try.func34, Try.ntmps34
  go_wp2_with (go_at_call 55; ((with_reducible refine c1.mono ?_); rintro e w1 ⟨rfl, hb1⟩))
  go_ret
  exact ⟨rfl, hb1⟩

/-- the texts of a list are of a size that a machine can hold -/
def okZ (X : List ByteArray) : Prop := ∀ x ∈ X, x.size ≤ 9223372036854775000
theorem okZ.at {X : List ByteArray} {k : Nat} {x : ByteArray} (h : okZ X) (hk : X[k]? = some x) : x.size ≤ 9223372036854775000 := h x (List.mem_of_getElem? hk)

theorem Right_long (a : Option Addr) (n c : Nat) (w : World) (hn : 64 < n) :
    Calls Try.prog 29 #[.slice a n c] w fun e w' => e = .returned (.int .i64 2) ∧ Below w.heap.size w w' := by
  have h1 : 64 < (n : Int) := by omega
  clear hn
  go_enter Try.func29, Try.ntmps29
  go_wp2
  go_ret
  exact ⟨rfl, Below.refl _ _⟩

set_option maxHeartbeats 2000000 in
theorem Right_any (a : Option Addr) (n c : Nat) (X : List ByteArray) (w : World) (hX : IsS w a n X) (hz : okZ X) (hn : n ≤ 1000000000) :
    Calls Try.prog 29 #[.slice a n c] w fun e w' => e = .returned (.int .i64 (rightV X)) ∧ Below w.heap.size w w' := by
  by_cases h64 : 64 < n
  · have : rightV X = 2 := by unfold rightV; rw [if_pos (by rw [← hX.1]; exact h64)]
    rw [this]
    exact Right_long a n c w h64
  have hst : ∀ k x, X[k]? = some x → rgt (X.take k) (X.drop k) = if validS x = false then 10 else if hasS (X.take k) x = true then 4 else rgt (X.take (k + 1)) (X.drop (k + 1)) := fun k x h => rgt_at h
  have he : ∀ k, n ≤ k → rgt (X.take k) (X.drop k) = 0 := fun k h => rgt_end (by rw [← hX.1]; exact h)
  have h0 : rightV X = rgt (X.take 0) (X.drop 0) := by unfold rightV; rw [if_neg (by rw [← hX.1]; exact h64)]; rfl
  rw [h0]
  obtain ⟨F, hF⟩ : ∃ F : Nat → Int, ∀ k, rgt (X.take k) (X.drop k) = F k := ⟨_, fun _ => rfl⟩
  simp only [hF] at hst he ⊢
  clear hF h0
  have hv : ∀ x, x.size ≤ 9223372036854775000 → ∀ w : World, Calls Try.prog 51 #[.string x] w fun e w' => e = .returned (.bool (validS x)) ∧ Below w.heap.size w w' := fun x hx w => valid_any x w hx
  have hq : ∀ (x : ByteArray) (w' : World), w'.cell? ⟨w.heap.size, 0, none⟩ = some (.slice a n c) → IsS w' a n X → Calls Try.prog 60 #[.string x, .pointer (some ⟨w.heap.size, 0, none⟩)] w' fun e w1 => e = .returned (.int .i64 (placeI X x)) ∧ w' = w1 :=
    fun x w' h1 h2 => query_any w.heap.size a n c X x w' h1 h2 hn
  have pf : ∀ k x, X[k]? = some x → validS x = true → hasS (X.take k) x = false → placeI X x = 2 + (k : Int) := fun k x => place_first
  have pl : ∀ k x, X[k]? = some x → validS x = true → hasS (X.take k) x = true → placeI X x < 2 + (k : Int) := fun k x => place_later
  have c1 := fun (w : World) => places_any a n c w
  have b1 := (IsS.boxed (c := c) hX).1
  have b2 := (IsS.boxed (c := c) hX).2
  have hb : Below w.heap.size w (w.alloc (.cells #[.slice a n c] 22)) := bel_alloc (Below.refl _ _) _
  have hsz : w.heap.size < (w.alloc (.cells #[.slice a n c] 22)).heap.size := by simp
  have H1 := Lib.hid b1
  have H2 := Lib.hid b2
  have H3 := Lib.hid hb
  have H4 := Lib.hid hsz
  have Hst := Lib.hid hst
  have He := Lib.hid he
  have Hv := Lib.hid hv
  have Hq := Lib.hid hq
  have Hpf := Lib.hid pf
  have Hpl := Lib.hid pl
  have Hz := Lib.hid hz
  clear hX hst he hv hq pf pl b1 b2 hb hsz hz
  have h65 : ¬ 64 < (n : Int) := by omega
  go_enter Try.func29, Try.ntmps29
  go_wp2_with (go_at_call 50; ((with_reducible refine (c1 _).mono ?_); rintro e w' ⟨rfl, rfl⟩))
  clear c1
  go_loopw [13] (fun i wr0 => ∃ (wr : World) (k : Nat), wr = wr0 ∧ k ≤ n ∧ i = .int .i64 k ∧ IsS wr a n X ∧ Hid (wr.cell? ⟨w.heap.size, 0, none⟩ = some (.slice a n c)) ∧ Below w.heap.size w wr ∧ w.heap.size < wr.heap.size ∧ Hid (F k = F 0)) (fun i _ => n - (intOf i).toNat)
  case atStart => exact ⟨_, 0, rfl, by omega, rfl, H1.out, H2, H3.out, H4.out, Lib.hid rfl⟩
  case round =>
    obtain ⟨wr, k, rfl, hk, rfl, hI, hc, hB, hlt0, hR⟩ := hrel
    by_cases hlt : k < n
    · obtain ⟨b, o, x, rfl, _, y1, hx, _⟩ := hI.at hlt
      have hs1 := Hst.out k x hx
      have cv := Hv.out x (Hz.out.at hx)
      have cq := fun (w' : World) h1 h2 => Hq.out x w' h1 h2
      have hf := Hpf.out k x hx
      have hl := Hpl.out k x hx
      clear hx Hst Hv Hq Hpf Hpl Hz
      cases hval : validS x with
      | false =>
        rw [hval] at cv
        have hnew : Hid ((10 : Int) = F 0) := by show _ = _; rw [← hR.out, hs1, if_pos hval]
        clear hR hs1 hf hl cq
        go_wp2_with (go_at_call 51; ((with_reducible refine (cv _).mono ?_); rintro e w1 ⟨rfl, hb1⟩))
        go_ret
        exact ⟨one hnew.out, bel_trans hB hb1⟩
      | true =>
        rw [hval] at cv
        rw [if_neg (by simp [hval])] at hs1
        have hcell : ∀ w1, Below wr.heap.size wr w1 → w1.cell? ⟨w.heap.size, 0, none⟩ = some (.slice (some ⟨b, o, none⟩) n c) := fun w1 h => by rw [h.cell (p := ⟨w.heap.size, 0, none⟩) hlt0]; exact hc.out
        cases hh : hasS (X.take k) x with
        | true =>
          have hnew : Hid ((4 : Int) = F 0) := by show _ = _; rw [← hR.out, hs1, if_pos hh]
          have hp := hl hval hh
          have hne : (placeI X x != 2 + (k : Int)) = true := by simp; omega
          clear hR hs1 hf hl hh hval
          generalize placeI X x = V at *
          go_wp2_with (first
            | (go_at_call 51; ((with_reducible refine (cv _).mono ?_); rintro e w1 ⟨rfl, hb1⟩))
            | (go_at_call 60; ((with_reducible refine (cq _ (hcell _ hb1) (hI.below hb1)).mono ?_); rintro e w' ⟨rfl, rfl⟩)))
          go_ret
          exact ⟨one hnew.out, bel_trans hB hb1⟩
        | false =>
          have hnew : Hid (F (k + 1) = F 0) := by show _ = _; rw [← hR.out, hs1, if_neg (by simp [hh])]
          have hp := hf hval hh
          rw [hp] at cq
          have hne : ((2 + (k : Int)) != 2 + (k : Int)) = false := by simp
          clear hR hs1 hf hl hh hval hp
          go_wp2_with (first
            | (go_at_call 51; ((with_reducible refine (cv _).mono ?_); rintro e w1 ⟨rfl, hb1⟩))
            | (go_at_call 60; ((with_reducible refine (cq _ (hcell _ hb1) (hI.below hb1)).mono ?_); rintro e w' ⟨rfl, rfl⟩)))
          go_roundw
          case rel => exact ⟨w1, k + 1, rfl, by omega, by go_num, hI.below hb1, hcell _ hb1, bel_trans hB hb1, Nat.lt_of_lt_of_le hlt0 hb1.size, hnew⟩
          case measure => simp [intOf]; omega
    · have hnew : Hid ((0 : Int) = F 0) := by show _ = _; rw [← hR.out, He.out k (by omega)]
      clear hR
      go_wp2
      go_ret
      exact ⟨one hnew.out, hB⟩
end Go.Proofs.Ytakcbpmdjdadnaa.Srt
