/-
  What is proved: the library's Contains, ContainsFunc, Clone, DeleteFunc, Compact on rows of integers; what package lit's without returns.
  What is proved: what package lit's Right, Has, Holds, Within and Same return.
  What is proved: what package lit's Within and Same return, and the document's.
-/
import Derived.Test.YthchjceibpcgbaaGreatDoorLA
import Derived.Test.YthchjceibpcgbaaGreatDoorShelf
import Derived.Maps.Own
import Derived.Maps.Views
namespace Go.Proofs.YthchjceibpcgbaaGreatDoor.Lt
open Go.RowKit Go.Shelf L
set_option linter.unusedVariables false
set_option linter.unusedSimpArgs false

theorem wrap_r (z : Int) : R64 (IntKind.i64.wrap z) := by
  unfold R64
  simp [IntKind.wrap, IntKind.bits, IntKind.signed]
  split <;> omega
def encW (x : Int) : Value := .int .i64 (IntKind.i64.wrap x)
theorem encW_r {x : Int} (h : R64 x) : encW x = .int .i64 x := by unfold encW; rw [wrap_id h]
theorem enters (g : Nat) (h : ∀ args w, (callFunc g args).run Tryz.prog w = .ok (.enter g args) w) : ∀ args w, (callFunc g args).run Tryz.prog w = .ok (.enter g args) w := h
theorem containsF (p : Int → Bool) (g : Nat) (lb : Array Value) (eg : ∀ args w, (callFunc g args).run Tryz.prog w = .ok (.enter g args) w) (A : Option Addr) (n c : Nat) (X : List Int) (w : World) (h : SlI w A n c X) (hr : R64s X) (hn : n ≤ 9223372036854775807)
    (hp : ∀ W x, Below w.heap.size w W → R64 x → FnGives Tryz.prog g lb #[.int .i64 x] (.bool (p x)) W) :
    Calls Tryz.prog 45 #[.slice A n c, .func (.func g) #[] lb] w fun e w' => e = .returned (.bool (X.any p)) ∧ Below w.heap.size w w' := by
  by_cases h0 : n = 0
  · subst h0
    have hX : X = [] := List.eq_nil_of_length_eq_zero h.1.symm
    subst hX
    exact (Tryz.slices_ContainsFunc_empty (α := Int) A c _ w).mono fun e w' ⟨he, hw⟩ => ⟨he, by rw [hw]; exact Below.refl _ _⟩
  · obtain ⟨b, o, rfl, hb, hc⟩ := h.2.2.2 (by omega)
    have hcon := Tryz.slices_ContainsFunc (α := Int) encW (fun x => p (IntKind.i64.wrap x)) g lb eg b o n c X w (fun W x hB => hp W _ hB (wrap_r x)) (Nat.le_of_eq h.1) hn
      (fun j hj => by rw [hc j hj, getElem!_pos X j hj, encW_r (hr _ (List.getElem_mem hj))])
    rw [h.1, List.take_length] at hcon
    rw [h.1]
    refine hcon.mono fun e w' ⟨he, q, hw⟩ => ⟨?_, by rw [hw]; exact below_drewN (Below.refl _ _) q⟩
    rw [he]
    congr 2
    rw [Bool.eq_iff_iff, List.any_eq_true, List.any_eq_true]
    constructor
    · rintro ⟨x, hx, hpx⟩; exact ⟨x, hx, by rwa [wrap_id (hr x hx)] at hpx⟩
    · rintro ⟨x, hx, hpx⟩; exact ⟨x, hx, by rwa [wrap_id (hr x hx)]⟩
theorem clone_any (A : Option Addr) (n c : Nat) (X : List Int) (w : World) (h : SlI w A n c X) (hn : n ≤ 1000000000) :
    Calls Tryz.prog 31 #[.slice A n c] w fun e w' => ∃ A' c', e = .returned (.slice A' X.length c') ∧ OwnI w' w.heap.size (.slice A' X.length c') X ∧ Below w.heap.size w w' := by
  have fin : ∀ v' w', w'.ownsRow w.heap.size 3 1 v' n (vsI X) → Below w.heap.size w w' → ∃ A' c', Ending.returned v' = .returned (.slice A' X.length c') ∧ OwnI w' w.heap.size (.slice A' X.length c') X ∧ Below w.heap.size w w' := fun v' w' ho hb => by
    rw [h.1] at ho
    obtain ⟨A', c', rfl, _⟩ := OwnI.slice (X := X) ho
    exact ⟨A', c', rfl, ho, hb⟩
  cases A with
  | none =>
    have hc0 := h.2.2.1 rfl
    have hn0 : n = 0 := by have := h.2.1; omega
    subst hn0
    have hX : X = [] := List.eq_nil_of_length_eq_zero h.1.symm
    subst hX
    refine (Tryz.slices_Clone_int_nil 0 c w).mono fun e w' ⟨he, hw⟩ => ?_
    subst hw he
    exact ⟨none, 0, rfl, OwnI.nil _ _, Below.refl _ _⟩
  | some ad =>
    by_cases h0 : n = 0
    · subst h0
      have hX : X = [] := List.eq_nil_of_length_eq_zero h.1.symm
      subst hX
      refine (Tryz.slices_Clone_int_zero ad c w).mono fun e w' ⟨v', he, ho, _, hb⟩ => ?_
      subst he
      exact fin v' w' ho hb
    · obtain ⟨b, o, ha, hb, hc⟩ := h.2.2.2 (by omega)
      injection ha with ha
      subst ha
      refine (Tryz.slices_Clone_int b o n c X w (Nat.le_of_eq h.1) (by omega) (fun j hj => by rw [hc j hj]; simp [List.getD, List.getElem?_eq_getElem hj])).mono fun e w' ⟨v', he, ho, _, hb⟩ => ?_
      subst he
      rw [h.1, List.take_length] at ho
      exact fin v' w' (by rw [h.1]; exact ho) hb
theorem delete_none (c : Nat) (fv : Value) (w : World) : Calls Tryz.prog 82 #[.slice none 0 c, fv] w fun e w' => e = .returned (.slice none 0 c) ∧ w = w' := by
  have c1 := Tryz.slices_IndexFunc_empty (α := Int) none c fv w
  go_enter Tryz.func82, Tryz.ntmps82
  go_wp2_with (go_at_call 80; ((with_reducible refine c1.mono ?_); rintro e w1 ⟨rfl, rfl⟩))
  go_ret
  exact ⟨rfl, rfl⟩
/-- the worlds that keep what lies below a bound -/
def Kp (B : Nat) (w W : World) : Prop := ∀ k, k < B → W.heap[k]? = w.heap[k]?
theorem Kp.cell {B : Nat} {w W : World} (h : Kp B w W) {k o : Nat} (hk : k < B) : W.cell? ⟨k, o, none⟩ = w.cell? ⟨k, o, none⟩ := World.cell?_of_block (h k hk)
theorem kp_sort {B : Nat} {w : World} {g n : Nat} {os : Array Obj} (d : Array Int) (hb : B ≤ g) (hw : B ≤ w.heap.size) : Kp B w (sortWorld (Value.int .i64) w g 0 n d os) := fun k hk =>
  (grownBy_sortedI (w := w) (g := g) (n := n) (os := os) d).block k (by omega) (fun e => by injection e with e; omega)
theorem delete_own {w : World} {base : Nat} {A : Option Addr} {c : Nat} {X : List Int} (h : OwnI w base (.slice A X.length c) X) (hl : X.length ≤ 1000000000) (hbase : base ≤ w.heap.size) (p : Int → Bool) (g : Nat) (lb : Array Value) (eg : ∀ args w, (callFunc g args).run Tryz.prog w = .ok (.enter g args) w)
    (hp : ∀ W x, Kp base w W → FnGives Tryz.prog g lb #[.int .i64 x] (.bool (p x)) W) :
    Calls Tryz.prog 82 #[.slice A X.length c, .func (.func g) #[] lb] w fun e w' => ∃ n', e = .returned (.slice A n' c) ∧ n' = (X.filter fun x => !p x).length ∧ OwnI w' base (.slice A n' c) (X.filter fun x => !p x) ∧ w.grownBy w' (Value.slice A X.length c).ownBlock := by
  rcases h.2 with ⟨hv, hn⟩ | ⟨b, cap, cur, hv, hb, hg, hnc, hcm, hcs, ht⟩
  · injection hv with e1 e2 e3
    subst e1 e3
    have hX : X = [] := List.eq_nil_of_length_eq_zero hn
    subst hX
    refine (delete_none 0 _ w).mono fun e w' ⟨he, hw⟩ => ?_
    subst hw
    exact ⟨0, he, rfl, OwnI.nil _ _, rfl, rfl, rfl, Nat.le_refl _, fun _ _ _ => rfl⟩
  · injection hv with e1 e2 e3
    subst e1 e3
    rw [Nat.mul_one] at ht
    have hh : Go.Sort.Holds (Value.int .i64) w b 0 X.toArray := holds_of_blockI hg ht
    have hcon := Tryz.slices_DeleteFunc (α := Int) (Value.int .i64) (fun _ => rfl) p g lb eg 0 Tryz.zeroValue3 b 0 c X.toArray w
      (fun W x hB => hp W x (fun k hk => hB.block k (by omega))) (fun n os dk x _ => hp _ x (kp_sort dk hb hbase)) hh (by simp; omega) (by simpa using hnc)
    have e0 : X.toArray.size = X.length := by simp
    rw [e0] at hcon
    refine hcon.mono fun e w' ⟨he, q, hw⟩ => ?_
    simp only [List.toList_toArray] at he hw
    generalize hF : (X.filter fun x => !p x) = F at *
    have hle : F.length ≤ X.length := by rw [← hF]; exact List.length_filter_le _ _
    have hlen : (F ++ List.replicate (X.length - F.length) 0).length = X.length := by simp; omega
    have hgr : w' = Go.Sort.grow w' #[] := (Go.Sort.grow_empty w').symm
    rw [hgr, hw]
    refine ⟨F.length, he, rfl, ⟨by rw [vsI_len]; omega, .inr ⟨b, c, _, rfl, hb, heap_sortedI _ hg, by omega, hcm, by simp [Go.Sort.putCells, hcs], ?_⟩⟩, grownBy_sortedI _⟩
    have hall := take_putCellsI cur (F ++ List.replicate (X.length - F.length) 0) (by omega)
    rw [hlen] at hall
    rw [Nat.mul_one]
    have h2 := congrArg (List.take F.length) hall
    rw [List.take_take, Nat.min_eq_left hle] at h2
    rw [h2, List.map_append, List.take_append_of_le_length (by simp), List.take_of_length_le (by simp)]
    rfl
theorem compact_le (X : List Int) : (Lib.compact X).length ≤ X.length := by
  unfold Lib.compact Lib.compactUpTo
  rw [List.length_map]
  have := List.length_filter_le (Lib.keeps X.toArray) (List.range X.length)
  rwa [List.length_range] at this
theorem compact_own {w : World} {base : Nat} {A : Option Addr} {c : Nat} {X : List Int} (h : OwnI w base (.slice A X.length c) X) (hl : X.length ≤ 1000000000) :
    Calls Tryz.prog 57 #[.slice A X.length c] w fun e w' => e = .returned (.slice A (Lib.compact X).length c) ∧ OwnI w' base (.slice A (Lib.compact X).length c) (Lib.compact X) ∧ w.grownBy w' (Value.slice A X.length c).ownBlock := by
  by_cases h0 : X = []
  · subst h0
    refine (Tryz.slices_Compact_int_empty A c w).mono fun e w' ⟨he, hw⟩ => ?_
    subst hw
    exact ⟨he, h, rfl, rfl, rfl, Nat.le_refl _, fun _ _ _ => rfl⟩
  · have hp : 0 < X.length := List.length_pos_iff.2 h0
    rcases h.2 with ⟨hv, hn⟩ | ⟨g, cap, cur, hv, hb, hg, hnc, hcm, hcs, ht⟩
    · omega
    · injection hv with e1 e2 e3
      subst e1 e3
      rw [Nat.mul_one] at ht
      have hh : Go.Sort.Holds (Value.int .i64) w g 0 X.toArray := holds_of_blockI hg ht
      refine (Tryz.slices_Compact_int g 0 c X w hh (by omega) hnc).mono fun e w' ⟨he, q, hw⟩ => ?_
      have hle := compact_le X
      have hlen : (Lib.compact X ++ List.replicate (X.length - (Lib.compact X).length) 0).length = X.length := by simp; omega
      have hgr : w' = Go.Sort.grow w' #[] := (Go.Sort.grow_empty w').symm
      rw [hgr, hw]
      refine ⟨he, ⟨by rw [vsI_len]; omega, .inr ⟨g, c, _, rfl, hb, heap_sortedI _ hg, by omega, hcm, by simp [Go.Sort.putCells, hcs], ?_⟩⟩, grownBy_sortedI _⟩
      have hall := take_putCellsI cur (Lib.compact X ++ List.replicate (X.length - (Lib.compact X).length) 0) (by omega)
      rw [hlen] at hall
      rw [Nat.mul_one]
      have h2 := congrArg (List.take (Lib.compact X).length) hall
      rw [List.take_take, Nat.min_eq_left hle] at h2
      rw [h2, List.map_append, List.take_append_of_le_length (by simp), List.take_of_length_le (by simp)]
      rfl
theorem without_any (A : Option Addr) (n c : Nat) (X : List Int) (w : World) (h : SlI w A n c X) (hn : n ≤ 1000000000) (p : Int → Bool) (g : Nat) (lb : Array Value) (eg : ∀ args w, (callFunc g args).run Tryz.prog w = .ok (.enter g args) w)
    (hp : ∀ W x, Kp w.heap.size w W → FnGives Tryz.prog g lb #[.int .i64 x] (.bool (p x)) W) :
    Calls Tryz.prog 49 #[.slice A n c, .func (.func g) #[] lb] w fun e w' => ∃ A' n' c', e = .returned (.slice A' n' c') ∧ n' = (X.filter fun x => !p x).length ∧ OwnI w' w.heap.size (.slice A' n' c') (X.filter fun x => !p x) ∧ Below w.heap.size w w' := by
  have c1 := clone_any A n c X w h hn
  have hXl : X.length ≤ 1000000000 := by rw [← h.1]; exact hn
  have HD : Hid (∀ w1 A' c', OwnI w1 w.heap.size (.slice A' X.length c') X → Below w.heap.size w w1 → Calls Tryz.prog 82 #[.slice A' X.length c', .func (.func g) #[] lb] w1 fun e w' => ∃ n', e = .returned (.slice A' n' c') ∧ n' = (X.filter fun x => !p x).length ∧ OwnI w' w.heap.size (.slice A' n' c') (X.filter fun x => !p x) ∧ w1.grownBy w' (Value.slice A' X.length c').ownBlock) :=
    fun w1 A' c' ho hb => delete_own ho hXl hb.size p g lb eg (fun W x hK => hp W x (fun k hk => (hK k hk).trans (hb.block k hk)))
  clear h hp
  generalize (X.filter fun x => !p x) = F at *
  go_enter Tryz.func49, Tryz.ntmps49
  go_wp2_with (first
    | (go_at_call 31; ((with_reducible refine c1.mono ?_); rintro e w1 ⟨A1, k1, rfl, ho1, hb1⟩; have c2 := HD.out w1 A1 k1 ho1 hb1; have Ho1 := Lib.hid ho1; clear ho1))
    | (go_at_call 82; ((with_reducible refine c2.mono ?_); rintro e w2 ⟨n2, rfl, hn2, ho2, hg2⟩; have Hn2 := Lib.hid hn2; clear hn2)))
  go_ret
  exact ⟨A1, n2, k1, rfl, Hn2.out, ho2, hb1.grown hg2 hb1.size (fun k hk => (Ho1.out.lt k hk).1)⟩
end Go.Proofs.YthchjceibpcgbaaGreatDoor.Lt
namespace Go.Proofs.YthchjceibpcgbaaGreatDoor.Lt
open Go.RowKit Go.Shelf Go.Maps Go.WideMaps L
set_option linter.unusedVariables false
set_option linter.unusedSimpArgs false
set_option maxRecDepth 100000

def rgL (X : List Int) (m : Int) : Int := if X.length > 64 then 2 else if X.any (fun x => !isL x || decide (m < vr x)) then 1 else 0
theorem wrong_any (m x : Int) (B : Nat) (W : World) (hc : W.cell? ⟨B, 0, none⟩ = some (.int .i64 m)) :
    FnGives Tryz.prog 91 #[.pointer (some ⟨B, 0, none⟩)] #[.int .i64 x] (.bool (!isL x || decide (m < vr x))) W := by
  show Calls Tryz.prog 91 #[.int .i64 x, .pointer (some ⟨B, 0, none⟩)] W _
  have c1 := fun W => (literal_any x W).mono fun e w' (h : _ ∧ W = w') => (show e = .returned (.bool (isL x)) ∧ w' = W from ⟨h.1, h.2.symm⟩)
  have c2 := fun W => (variable_any x W).mono fun e w' (h : _ ∧ W = w') => (show e = .returned (.int .i64 (vr x)) ∧ w' = W from ⟨h.1, h.2.symm⟩)
  generalize hi : isL x = i at *
  generalize hv : vr x = v at *
  generalize hd : decide (m < v) = d
  have hd' : decide (v > m) = d := hd
  clear hi hv
  cases i
  · go_enter Tryz.func91, Tryz.ntmps91
    go_wp2
    go_quiet (first
      | (go_at_call 51; exact Calls.quiet_of_same (c1 _))
      | (go_at_call 56; exact Calls.quiet_of_same (c2 _)))
    go_wp2
    go_ret
    exact ⟨rfl, _, rfl⟩
  · go_enter Tryz.func91, Tryz.ntmps91
    go_wp2
    go_quiet (first
      | (go_at_call 51; exact Calls.quiet_of_same (c1 _))
      | (go_at_call 56; exact Calls.quiet_of_same (c2 _)))
    go_wp2
    go_ret
    exact ⟨by simp, _, rfl⟩
theorem Right_any (A : Option Addr) (n c : Nat) (X : List Int) (m : Int) (w : World) (h : SlI w A n c X) (hr : R64s X) (hn : n ≤ 9223372036854775807) :
    Calls Tryz.prog 73 #[.slice A n c, .int .i64 m] w fun e w' => e = .returned (.int .i64 (rgL X m)) ∧ Below w.heap.size w w' := by
  obtain ⟨W, hW⟩ : ∃ W, w.alloc (.cells #[.int .i64 m] 3) = W := ⟨_, rfl⟩
  have hB : Below w.heap.size w W := by rw [← hW]; exact bel_alloc (Below.refl _ _) _
  have hs : w.heap.size < W.heap.size := by rw [← hW]; simp
  have hc : W.cell? ⟨w.heap.size, 0, none⟩ = some (.int .i64 m) := by rw [← hW, World.cell?_alloc_at _ _ _ _ rfl]; rfl
  have eg : ∀ args w, (callFunc 91 args).run Tryz.prog w = .ok (.enter 91 args) w := enters_of Tryz.func91 (by kernel_rfl) rfl
  have cF := containsF (fun x => !isL x || decide (m < vr x)) 91 #[.pointer (some ⟨w.heap.size, 0, none⟩)] eg A n c X W (h.below hB) hr hn
    (fun W' x hb _ => wrong_any m x w.heap.size W' ((hb.cell (p := ⟨w.heap.size, 0, none⟩) hs).trans hc))
  have hHr : Hid (rgL X m = if n > 64 then 2 else if X.any (fun x => !isL x || decide (m < vr x)) then 1 else 0) := by show _ = _; unfold rgL; rw [← h.1]
  generalize X.any (fun x => !isL x || decide (m < vr x)) = r at *
  generalize rgL X m = R at *
  clear h hr eg hc hs
  by_cases h1 : n > 64
  · have hR : Hid ((2 : Int) = R) := by show _ = _; rw [hHr.out, if_pos h1]
    have q1 : decide ((n : Int) > 64) = true := decide_eq_true (by omega)
    clear hHr
    go_enter Tryz.func73, Tryz.ntmps73
    go_wp2
    go_ret
    exact ⟨L.one hR.out, hB⟩
  · have q1 : decide ((n : Int) > 64) = false := decide_eq_false (by omega)
    cases r
    · have hR : Hid ((0 : Int) = R) := by show _ = _; rw [hHr.out, if_neg h1]; rfl
      clear hHr
      go_enter Tryz.func73, Tryz.ntmps73
      go_wp2_with (go_at_call 45; ((with_reducible refine cF.mono ?_); rintro e w1 ⟨rfl, hb1⟩))
      go_ret
      exact ⟨L.one hR.out, bel_trans hB hb1⟩
    · have hR : Hid ((1 : Int) = R) := by show _ = _; rw [hHr.out, if_neg h1]; rfl
      clear hHr
      go_enter Tryz.func73, Tryz.ntmps73
      go_wp2_with (go_at_call 45; ((with_reducible refine cF.mono ?_); rintro e w1 ⟨rfl, hb1⟩))
      go_ret
      exact ⟨L.one hR.out, bel_trans hB hb1⟩
theorem holdsF_any (l : Int) (a : Option Addr) (n c : Nat) (V : List Bool) (B : Nat) (W : World) (hR : R64 l) (hV : SlB W a n c V) (hn : n ≤ 9223372036854775807) (hc : W.cell? ⟨B, 0, none⟩ = some (.slice a n c)) :
    FnGives Tryz.prog 46 #[.pointer (some ⟨B, 0, none⟩)] #[.int .i64 l] (.bool (tru V l)) W := by
  show Calls Tryz.prog 46 #[.int .i64 l, .pointer (some ⟨B, 0, none⟩)] W _
  have c1 := holds_any l a n c V W hR hV hn
  generalize tru V l = r at *
  clear hV
  go_enter Tryz.func46, Tryz.ntmps46
  go_wp2_with (go_at_call 47; ((with_reducible refine c1.mono ?_); rintro e w1 ⟨rfl, rfl⟩))
  go_ret
  exact ⟨rfl, 0, rfl⟩
theorem Holds_any (A : Option Addr) (n c : Nat) (X : List Int) (a : Option Addr) (m d : Nat) (V : List Bool) (w : World) (h : SlI w A n c X) (hr : R64s X) (hV : SlB w a m d V) (hn : n ≤ 9223372036854775807) (hm : m ≤ 9223372036854775807) :
    Calls Tryz.prog 21 #[.slice A n c, .slice a m d] w fun e w' => e = .returned (.bool (hld X V)) ∧ Below w.heap.size w w' := by
  obtain ⟨W, hW⟩ : ∃ W, w.alloc (.cells #[.slice a m d] 25) = W := ⟨_, rfl⟩
  have hB : Below w.heap.size w W := by rw [← hW]; exact bel_alloc (Below.refl _ _) _
  have hs : w.heap.size < W.heap.size := by rw [← hW]; simp
  have hc : W.cell? ⟨w.heap.size, 0, none⟩ = some (.slice a m d) := by rw [← hW, World.cell?_alloc_at _ _ _ _ rfl]; rfl
  have eg : ∀ args w, (callFunc 46 args).run Tryz.prog w = .ok (.enter 46 args) w := enters_of Tryz.func46 (by kernel_rfl) rfl
  have cF := containsF (tru V) 46 #[.pointer (some ⟨w.heap.size, 0, none⟩)] eg A n c X W (h.below hB) hr hn
    (fun W' x hb hx => holdsF_any x a m d V w.heap.size W' hx (hV.below (bel_trans hB hb)) hm ((hb.cell (p := ⟨w.heap.size, 0, none⟩) hs).trans hc))
  have hR : Hid (X.any (tru V) = hld X V) := rfl
  generalize X.any (tru V) = r at *
  generalize hld X V = R at *
  clear h hr eg hc hs hV
  go_enter Tryz.func21, Tryz.ntmps21
  go_wp2_with (go_at_call 45; ((with_reducible refine cF.mono ?_); rintro e w1 ⟨rfl, hb1⟩))
  go_ret
  exact ⟨oneB hR.out, bel_trans hB hb1⟩
/-- a map of the call's own that reads as a set of integers -/
def MapI (w : World) (g k : Nat) (S : Int → Bool) : Prop :=
  ∃ D : DataW Unit, w.ownsMap Tryz.prog 3 (plainElem Tryz.prog 4) g k D ∧ IsMap D ∧ ∀ x, D.atKey (.int .i64 x) (.lit (.bool false)) = .lit (.bool (S x))
theorem lawI : Keyed Tryz.prog 3 := int_keyed Tryz.underlying3
theorem zeroB (w : World) : (zeroValue 4).run Tryz.prog w = .ok (.bool false) w := by kernel_rfl
theorem plainB_inv {P : Program} {e : TypeId} (he : P.underlying e = some .bool) {v : Value} {z : DataW Unit × List MemPlace} (h : plainElem P e v = some z) : ∃ a, v = .bool a ∧ z = (.lit (.bool a), []) := by
  unfold plainElem at h
  rw [he] at h
  cases v <;> simp at h
  exact ⟨_, rfl, h.symm⟩
theorem wfI {x : Int} (h : R64 x) : (Lit.int .i64 x).wf = true := by
  unfold R64 at h
  simp [Lit.wf, IntKind.min, IntKind.max, IntKind.bits, IntKind.signed]
  omega
theorem MapI.made (w : World) : MapI (w.alloc (.map #[] 0)) w.heap.size 0 (fun _ => false) := ⟨.map [], World.ownsMap_made _ _ _ _, ⟨[], rfl⟩, fun x => rfl⟩
theorem MapI.lt {w : World} {g k : Nat} {S : Int → Bool} (h : MapI w g k S) : g < w.heap.size := by obtain ⟨D, ho, _⟩ := h; exact ho.lt
theorem MapI.b {w w' : World} {g k : Nat} {S : Int → Bool} (h : MapI w g k S) (hb : Below w.heap.size w w') : MapI w' g k S := by
  have hlt := h.lt
  obtain ⟨D, ⟨es, ck, h1, h2, h3, h4⟩, hD, hs⟩ := h
  exact ⟨D, ⟨es, ck, (hb.block g hlt).trans h1, h2, h3, h4⟩, hD, hs⟩
theorem MapI.congr {w : World} {g k : Nat} {S S' : Int → Bool} (h : MapI w g k S) (e : ∀ x, S x = S' x) : MapI w g k S' := by
  obtain ⟨D, h1, h2, h3⟩ := h
  exact ⟨D, h1, h2, fun x => by rw [h3, e]⟩
theorem MapI.put {w : World} {g k : Nat} {S : Int → Bool} (h : MapI w g k S) (hk : k < maxLen) (x : Int) (hx : R64 x) :
    ∃ w', (Instr.mapUpdate 54 (.map (some g)) (.int .i64 x) (.bool true)).run Tryz.prog w = .ok () w' ∧ MapI w' g (k + 1) (fun y => y == x || S y) ∧ w.grownBy w' (some g) := by
  obtain ⟨D, ho, hD, hs⟩ := h
  obtain ⟨w', h1, h2, h3⟩ := ho.update lawI Tryz.underlying54 hk (key := .int .i64 x) (val := .bool true) (keyOf_int_mk Tryz.underlying3 (wfI hx)) (plainElem_bool Tryz.underlying4 true)
  have hD1 : IsMap (D.put (.int .i64 x) (.lit (.bool true))) := by
    obtain ⟨es, rfl⟩ := hD
    exact ⟨_, rfl⟩
  refine ⟨w', h1, ⟨_, h2, hD1, fun y => ?_⟩, h3⟩
  by_cases e : y = x
  · subst e
    rw [atKey_put_same hD (by trivial)]
    simp
  · rw [atKey_put_other (by intro h; injection h with _ h; exact e h), hs]
    simp [e]
theorem MapI.look {w : World} {g k : Nat} {S : Int → Bool} (h : MapI w g k S) (x : Int) (hx : R64 x) :
    (Instr.lookup 54 (.map (some g)) (.int .i64 x) false).run Tryz.prog w = .ok (.bool (S x)) w := by
  obtain ⟨D, ho, hD, hs⟩ := h
  obtain ⟨v, ps, hrun, hv⟩ := ho.lookup lawI Tryz.underlying54 (zeroB _) (plainElem_bool Tryz.underlying4 false) (keyOf_int_mk Tryz.underlying3 (wfI hx))
  obtain ⟨c, rfl, hc⟩ := plainB_inv Tryz.underlying4 hv
  simp only [Prod.mk.injEq] at hc
  have e := (hs x).symm.trans hc.1
  injection e with e
  injection e with e
  rw [hrun, e]
set_option maxRecDepth 100000 in
theorem set_any (A : Option Addr) (n c : Nat) (X : List Int) (w : World) (h : SlI w A n c X) (hr : R64s X) (hn : n ≤ 1000000000) :
    Calls Tryz.prog 89 #[.slice A n c] w fun e w' => e = .returned (.map (some w.heap.size)) ∧ (∃ k, MapI w' w.heap.size k (hasL X)) ∧ Below w.heap.size w w' := by
  have hmm := @run_makeMap Tryz.prog
  have c1 := fun x W => literal_any x W
  obtain ⟨W, hW⟩ : ∃ W, w.alloc (.map #[] 0) = W := ⟨_, rfl⟩
  have hB : Below w.heap.size w W := by rw [← hW]; exact bel_alloc (Below.refl _ _) _
  have HM : Hid (MapI W w.heap.size 0 (hasL (X.take 0))) := by rw [← hW]; exact (MapI.made w).congr (fun x => by simp [hasL])
  have HB := Lib.hid hB
  have H := Lib.hid h
  have HX := Lib.hid h.1
  have HR := Lib.hid hr
  clear h hr hB
  go_enter Tryz.func89, Tryz.ntmps89
  go_wp2
  go_loopw [9] (fun i wr0 => ∃ (wr : World) (k q : Nat), wr = wr0 ∧ k ≤ n ∧ q ≤ k ∧ i = .int .i64 k ∧ Hid (MapI wr w.heap.size q (hasL (X.take k))) ∧ Hid (Below w.heap.size w wr)) (fun i _ => n - (intOf i).toNat)
  case atStart => exact ⟨_, 0, 0, rfl, by omega, by omega, rfl, HM, HB⟩
  case round =>
    obtain ⟨wr, k, q, rfl, hk, hqk, rfl, hM, hBr⟩ := hrel
    by_cases hlt : k < n
    · obtain ⟨g, o, x, rfl, hg, z0, hx⟩ := SlI.at H.out hlt
      have y0 := (hBr.out.cell (p := ⟨g, _, none⟩) hg).trans z0
      have hxR := HR.out x (List.mem_of_getElem? hx)
      have HE := Lib.hid (fun l => hasL_take X l k x hx)
      have hk0 : 0 ≤ (k : Int) := by omega
      have hk1 : (k : Int) < (n : Int) := by omega
      have cx := c1 x wr
      cases hi : isL x
      · rw [hi] at cx
        have HM1 : Hid (MapI wr w.heap.size q (hasL (X.take (k + 1)))) := Lib.hid (hM.out.congr fun l => by
          rw [HE.out l]
          cases hl : isL l
          · simp
          · have : (x == l) = false := by simp; intro e; rw [e, hl] at hi; cases hi
            rw [this]; simp)
        clear z0 hx H HR hi hxR
        go_wp2_with (go_at_call 51; ((with_reducible refine cx.mono ?_); rintro e w1 ⟨rfl, rfl⟩))
        go_roundw
        case rel => exact ⟨_, k + 1, q, rfl, by omega, by omega, by go_num, HM1, hBr⟩
        case measure => simp [intOf]; omega
      · rw [hi] at cx
        obtain ⟨wn, hrun, hM1, hg1⟩ := hM.out.put (by unfold maxLen; omega) x hxR
        have HM1 : Hid (MapI wn w.heap.size (q + 1) (hasL (X.take (k + 1)))) := Lib.hid (hM1.congr fun l => by
          rw [HE.out l]
          by_cases hl : l = x
          · subst hl; simp [hi]
          · have e1 : (x == l) = false := by simp; exact fun e => hl e.symm
            have e2 : (l == x) = false := by simp [hl]
            rw [e1, e2]; simp)
        have HB1 := Lib.hid (hBr.out.grown hg1 hBr.out.size (fun k hk => by injection hk with hk; omega))
        clear z0 hx H HR hi hxR hM1 hg1
        go_wp2_with (go_at_call 51; ((with_reducible refine cx.mono ?_); rintro e w1 ⟨rfl, rfl⟩))
        go_roundw
        case rel => exact ⟨_, k + 1, q + 1, rfl, by omega, by omega, by go_num, HM1, HB1⟩
        case measure => simp [intOf]; omega
    · obtain rfl : k = n := by omega
      have hM2 := Lib.hid hM.out
      have HX2 := Lib.hid HX.out
      go_wp2
      go_ret
      exact ⟨rfl, ⟨q, by have := hM2.out; rwa [List.take_of_length_le (by have := HX2.out; omega)] at this⟩, hBr.out⟩
end Go.Proofs.YthchjceibpcgbaaGreatDoor.Lt
namespace Go.Proofs.YthchjceibpcgbaaGreatDoor.Lt
open Go.RowKit Go.Shelf Go.Maps Go.WideMaps L
set_option linter.unusedVariables false
set_option linter.unusedSimpArgs false

theorem missing_any (x : Int) (B g k : Nat) (S : Int → Bool) (W : World) (hx : R64 x) (hM : MapI W g k S) (hc : W.cell? ⟨B, 0, none⟩ = some (.map (some g))) :
    FnGives Tryz.prog 90 #[.pointer (some ⟨B, 0, none⟩)] #[.int .i64 x] (.bool (isL x && !S x)) W := by
  show Calls Tryz.prog 90 #[.int .i64 x, .pointer (some ⟨B, 0, none⟩)] W _
  have c1 := literal_any x W
  have c2 := hM.look x hx
  clear hM
  generalize S x = s at *
  generalize isL x = i at *
  cases i
  · go_enter Tryz.func90, Tryz.ntmps90
    go_wp2_with (go_at_call 51; ((with_reducible refine c1.mono ?_); rintro e w1 ⟨rfl, rfl⟩))
    go_ret
    exact ⟨rfl, 0, rfl⟩
  · go_enter Tryz.func90, Tryz.ntmps90
    go_wp2_with (go_at_call 51; ((with_reducible refine c1.mono ?_); rintro e w1 ⟨rfl, rfl⟩))
    go_ret
    exact ⟨by simp, 0, rfl⟩
theorem Within_any (A : Option Addr) (n c : Nat) (X : List Int) (A' : Option Addr) (n' c' : Nat) (Y : List Int) (w : World) (h : SlI w A n c X) (hr : R64s X) (hn : n ≤ 9223372036854775807) (h' : SlI w A' n' c' Y) (hr' : R64s Y) (hn' : n' ≤ 1000000000) :
    Calls Tryz.prog 72 #[.slice A n c, .slice A' n' c'] w fun e w' => e = .returned (.bool (within X Y)) ∧ Below w.heap.size w w' := by
  have c1 := set_any A' n' c' Y w h' hr' hn'
  have eg : ∀ args w, (callFunc 90 args).run Tryz.prog w = .ok (.enter 90 args) w := enters_of Tryz.func90 (by kernel_rfl) rfl
  have CF : Hid (∀ w1 k, MapI w1 w.heap.size k (hasL Y) → Below w.heap.size w w1 →
      Calls Tryz.prog 45 #[.slice A n c, .func (.func 90) #[] #[.pointer (some ⟨w1.heap.size, 0, none⟩)]] (w1.alloc (.cells #[.map (some w.heap.size)] 54)) fun e w' => e = .returned (.bool (X.any fun x => isL x && !hasL Y x)) ∧ Below (w1.heap.size + 1) (w1.alloc (.cells #[.map (some w.heap.size)] 54)) w') := fun w1 k hM hb => by
    have hb2 : Below w1.heap.size w1 (w1.alloc (.cells #[.map (some w.heap.size)] 54)) := bel_alloc (Below.refl _ _) _
    have := containsF (fun x => isL x && !hasL Y x) 90 #[.pointer (some ⟨w1.heap.size, 0, none⟩)] eg A n c X (w1.alloc (.cells #[.map (some w.heap.size)] 54)) ((h.below hb).below hb2) hr hn
      (fun W' x hbW hx => missing_any x w1.heap.size w.heap.size k (hasL Y) W' hx (((hM.b hb2).b hbW)) ((hbW.cell (p := ⟨w1.heap.size, 0, none⟩) (by simp)).trans (by rw [World.cell?_alloc_at _ _ _ _ rfl]; rfl)))
    rwa [World.size_alloc] at this
  have hR : Hid ((!(X.any fun x => isL x && !hasL Y x)) = within X Y) := by
    show _ = _
    rw [Bool.eq_iff_iff, within_iff]
    simp [hasL]
    exact ⟨fun h x hx hl => (h x hx hl).2, fun h x hx hl => ⟨hl, h x hx hl⟩⟩
  generalize (X.any fun x => isL x && !hasL Y x) = r at *
  generalize within X Y = R at *
  clear h hr h' hr' eg
  go_enter Tryz.func72, Tryz.ntmps72
  go_wp2_with (first
    | (go_at_call 89; ((with_reducible refine c1.mono ?_); rintro e w1 ⟨rfl, ⟨k1, hM1⟩, hb1⟩; have cF := CF.out w1 k1 hM1 hb1; have HM1 := Lib.hid hM1; clear hM1))
    | (go_at_call 45; ((with_reducible refine cF.mono ?_); rintro e w2 ⟨rfl, hb2⟩)))
  go_ret
  exact ⟨oneB hR.out, (bel_alloc hb1 _).trans (hb2.mono (by have := hb1.size; omega))⟩
theorem Same_any (A : Option Addr) (n c : Nat) (X : List Int) (A' : Option Addr) (n' c' : Nat) (Y : List Int) (w : World) (h : SlI w A n c X) (hr : R64s X) (hn : n ≤ 1000000000) (h' : SlI w A' n' c' Y) (hr' : R64s Y) (hn' : n' ≤ 1000000000) :
    Calls Tryz.prog 37 #[.slice A n c, .slice A' n' c'] w fun e w' => e = .returned (.bool (same X Y)) ∧ Below w.heap.size w w' := by
  have c1 := Within_any A n c X A' n' c' Y w h hr (by omega) h' hr' hn'
  have C2 : Hid (∀ w1, Below w.heap.size w w1 → Calls Tryz.prog 72 #[.slice A' n' c', .slice A n c] w1 fun e w' => e = .returned (.bool (within Y X)) ∧ Below w1.heap.size w1 w') := fun w1 hb => Within_any A' n' c' Y A n c X w1 (h'.below hb) hr' (by omega) (h.below hb) hr hn
  have hR : Hid (same X Y = (within X Y && within Y X)) := rfl
  generalize same X Y = R at *
  clear h h' hr hr'
  generalize within X Y = x at *
  generalize within Y X = y at *
  cases x
  · have e : Hid (false = R) := by show _ = _; rw [hR.out]; rfl
    clear hR
    go_enter Tryz.func37, Tryz.ntmps37
    go_wp2_with (go_at_call 72; ((with_reducible refine c1.mono ?_); rintro e w1 ⟨rfl, hb1⟩))
    go_ret
    exact ⟨oneB e.out, hb1⟩
  · have e : Hid (y = R) := by show _ = _; rw [hR.out]; rfl
    clear hR
    go_enter Tryz.func37, Tryz.ntmps37
    go_wp2_with (first
      | (go_at_call 72; ((with_reducible refine c1.mono ?_); rintro e w1 ⟨rfl, hb1⟩; have c2 := C2.out w1 hb1; clear c1))
      | (go_at_call 72; ((with_reducible refine c2.mono ?_); rintro e w2 ⟨rfl, hb2⟩)))
    go_ret
    exact ⟨oneB e.out, bel_trans hb1 hb2⟩
set_option maxRecDepth 100000 in
theorem RWithin_any (A : Option Addr) (n c : Nat) (X : List Int) (A' : Option Addr) (n' c' : Nat) (Y : List Int) (w : World) (h : SlI w A n c X) (hn : n ≤ 1000000000) (h' : SlI w A' n' c' Y) (hn' : n' ≤ 1000000000) :
    Calls Tryz.prog 68 #[.slice A n c, .slice A' n' c'] w fun e w' => e = .returned (.bool (within X Y)) ∧ w = w' := by
  have c1 := fun x => is_any x w
  have c2 := fun x => RHas_any A' n' c' Y x w h' (by omega)
  have H := Lib.hid h
  have HX := Lib.hid h.1
  generalize hq : within X Y = r
  have Hq := Lib.hid hq
  have HE : Hid (within (X.take 0) Y = true) := by show _ = _; simp [within]
  have HC1 := Lib.hid c1
  have HC2 := Lib.hid c2
  clear h h' hq c1 c2
  go_enter Tryz.func68, Tryz.ntmps68
  go_wp2
  go_loopw [5] (fun i wr0 => ∃ (wr : World) (k : Nat), wr = wr0 ∧ k ≤ n ∧ i = .int .i64 k ∧ Hid (within (X.take k) Y = true) ∧ Hid (w = wr)) (fun i _ => n - (intOf i).toNat)
  case atStart => exact ⟨_, 0, rfl, by omega, rfl, HE, Lib.hid rfl⟩
  case round =>
    obtain ⟨wr, k, rfl, hk, rfl, hE, hW⟩ := hrel
    by_cases hlt : k < n
    · obtain ⟨g, o, x, rfl, hg, z0, hx⟩ := SlI.at H.out hlt
      have y0 : wr.cell? ⟨g, o + k, none⟩ = some (.int .i64 x) := by rw [← hW.out]; exact z0
      have HE1 : Hid (within (X.take (k + 1)) Y = (!isL x || Y.contains x)) := by
        show _ = _
        have := hE.out
        unfold within at this ⊢
        rw [List.take_add_one, hx, List.all_append, this]
        simp
      have HM : Hid (isL x = true → hasL Y x = false → r = false) := by
        show _ → _ → _
        intro h1 h2
        rw [← Hq.out, Bool.eq_false_iff]
        intro h3
        have := (within_iff X Y).1 h3 x (List.mem_of_getElem? hx) h1
        rw [(hasL_iff Y x).2 ⟨h1, this⟩] at h2; cases h2
      have cx := HC1.out x
      have cy := HC2.out x
      rw [hW.out] at cx cy
      have hk0 : 0 ≤ (k : Int) := by omega
      have hk1 : (k : Int) < (n : Int) := by omega
      have hYx : Hid (hasL Y x = (isL x && Y.contains x)) := rfl
      clear z0 hx hE H
      generalize isL x = i at *
      generalize hasL Y x = yx at *
      cases i
      · have HE2 : Hid (within (X.take (k + 1)) Y = true) := by show _ = _; rw [HE1.out]; rfl
        clear HE1 HM hYx
        go_wp2_with (go_at_call 65; ((with_reducible refine cx.mono ?_); rintro e w1 ⟨rfl, rfl⟩))
        go_roundw
        case rel => exact ⟨_, k + 1, rfl, by omega, by go_num, HE2, hW⟩
        case measure => simp [intOf]; omega
      · cases yx
        · have q2 : Hid (false = r) := (HM.out rfl rfl).symm
          clear HE1 HM hYx
          go_wp2_with (first
            | (go_at_call 65; ((with_reducible refine cx.mono ?_); rintro e w1 ⟨rfl, rfl⟩))
            | (go_at_call 66; ((with_reducible refine cy.mono ?_); rintro e w1 ⟨rfl, rfl⟩)))
          go_ret
          exact ⟨oneB q2.out, hW.out⟩
        · have HE2 : Hid (within (X.take (k + 1)) Y = true) := by show _ = _; rw [HE1.out]; exact hYx.out.symm
          clear HE1 HM hYx
          go_wp2_with (first
            | (go_at_call 65; ((with_reducible refine cx.mono ?_); rintro e w1 ⟨rfl, rfl⟩))
            | (go_at_call 66; ((with_reducible refine cy.mono ?_); rintro e w1 ⟨rfl, rfl⟩)))
          go_roundw
          case rel => exact ⟨_, k + 1, rfl, by omega, by go_num, HE2, hW⟩
          case measure => simp [intOf]; omega
    · obtain rfl : k = n := by omega
      have q2 : Hid (true = r) := by show _ = _; rw [← Hq.out, ← hE.out, List.take_of_length_le (by have := HX.out; omega)]
      clear hE
      go_wp2
      go_ret
      exact ⟨oneB q2.out, hW.out⟩
theorem RSame_any (A : Option Addr) (n c : Nat) (X : List Int) (A' : Option Addr) (n' c' : Nat) (Y : List Int) (w : World) (h : SlI w A n c X) (hn : n ≤ 1000000000) (h' : SlI w A' n' c' Y) (hn' : n' ≤ 1000000000) :
    Calls Tryz.prog 28 #[.slice A n c, .slice A' n' c'] w fun e w' => e = .returned (.bool (same X Y)) ∧ w = w' := by
  have c1 := RWithin_any A n c X A' n' c' Y w h hn h' hn'
  have c2 := RWithin_any A' n' c' Y A n c X w h' hn' h hn
  have hR : Hid (same X Y = (within X Y && within Y X)) := rfl
  generalize same X Y = R at *
  clear h h'
  generalize within X Y = x at *
  generalize within Y X = y at *
  cases x
  · have e : Hid (false = R) := by show _ = _; rw [hR.out]; rfl
    clear hR
    go_enter Tryz.func28, Tryz.ntmps28
    go_wp2_with (go_at_call 68; ((with_reducible refine c1.mono ?_); rintro e w1 ⟨rfl, rfl⟩))
    go_ret
    exact ⟨oneB e.out, rfl⟩
  · have e : Hid (y = R) := by show _ = _; rw [hR.out]; rfl
    clear hR
    go_enter Tryz.func28, Tryz.ntmps28
    go_wp2_with (first
      | (go_at_call 68; ((with_reducible refine c1.mono ?_); rintro e w1 ⟨rfl, rfl⟩))
      | (go_at_call 68; ((with_reducible refine c2.mono ?_); rintro e w1 ⟨rfl, rfl⟩)))
    go_ret
    exact ⟨oneB e.out, rfl⟩
end Go.Proofs.YthchjceibpcgbaaGreatDoor.Lt
