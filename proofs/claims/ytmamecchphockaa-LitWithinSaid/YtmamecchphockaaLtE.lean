/-
  What is proved: the library's Contains, ContainsFunc, Clone, DeleteFunc, Compact on rows of integers; what package lit's without returns.
-/
import Derived.Test.YtmamecchphockaaLtD
import Derived.Test.YtmamecchphockaaShelf
namespace Go.Proofs.Ytmamecchphockaa.Lt
open Go.RowKit Go.Shelf L
set_option linter.unusedVariables false
set_option linter.unusedSimpArgs false

theorem wrap_r (z : Int) : R64 (IntKind.i64.wrap z) := by
  unfold R64
  simp [IntKind.wrap, IntKind.bits, IntKind.signed]
  split <;> omega
def encW (x : Int) : Value := .int .i64 (IntKind.i64.wrap x)
theorem encW_r {x : Int} (h : R64 x) : encW x = .int .i64 x := by unfold encW; rw [wrap_id h]
theorem enters (g : Nat) (h : ∀ args w, (callFunc g args).run Try.prog w = .ok (.enter g args) w) : ∀ args w, (callFunc g args).run Try.prog w = .ok (.enter g args) w := h
theorem containsF (p : Int → Bool) (g : Nat) (lb : Array Value) (eg : ∀ args w, (callFunc g args).run Try.prog w = .ok (.enter g args) w) (A : Option Addr) (n c : Nat) (X : List Int) (w : World) (h : SlI w A n c X) (hr : R64s X) (hn : n ≤ 9223372036854775807)
    (hp : ∀ W x, Below w.heap.size w W → R64 x → FnGives Try.prog g lb #[.int .i64 x] (.bool (p x)) W) :
    Calls Try.prog 42 #[.slice A n c, .func (.func g) #[] lb] w fun e w' => e = .returned (.bool (X.any p)) ∧ Below w.heap.size w w' := by
  by_cases h0 : n = 0
  · subst h0
    have hX : X = [] := List.eq_nil_of_length_eq_zero h.1.symm
    subst hX
    exact (Try.slices_ContainsFunc_empty (α := Int) A c _ w).mono fun e w' ⟨he, hw⟩ => ⟨he, by rw [hw]; exact Below.refl _ _⟩
  · obtain ⟨b, o, rfl, hb, hc⟩ := h.2.2.2 (by omega)
    have hcon := Try.slices_ContainsFunc (α := Int) encW (fun x => p (IntKind.i64.wrap x)) g lb eg b o n c X w (fun W x hB => hp W _ hB (wrap_r x)) (Nat.le_of_eq h.1) hn
      (fun j hj => by rw [hc j hj, getElem!_pos X j hj, encW_r (hr _ (List.getElem_mem hj))])
    rw [h.1, List.take_length] at hcon
    rw [h.1]
    refine hcon.mono fun e w' ⟨he, q, hw⟩ => ⟨?_, by rw [hw]; exact below_drewN (Below.refl _ _) q⟩
    rw [he]
    congr 2
    rw [Bool.eq_iff_iff, List.any_eq_true, List.any_eq_true]
    constructor
    · rintro ⟨x, hx, hpx⟩; exact ⟨x, hx, by rwa [wrap_id (hr x hx)] at hpx⟩
    · rintro ⟨x, hx, hpx⟩; exact ⟨x, hx, by rwa [wrap_id (hr x hx)]⟩
theorem contains_any (A : Option Addr) (n c : Nat) (X : List Int) (x : Int) (w : World) (h : SlI w A n c X) (hn : n ≤ 9223372036854775807) :
    Calls Try.prog 45 #[.slice A n c, .int .i64 x] w fun e w' => e = .returned (.bool (X.contains x)) ∧ w = w' := by
  by_cases h0 : n = 0
  · subst h0
    have hX : X = [] := List.eq_nil_of_length_eq_zero h.1.symm
    subst hX
    exact (Try.slices_Contains_int_empty A c x w).mono fun e w' ⟨he, hw⟩ => ⟨he, hw.symm⟩
  · obtain ⟨b, o, rfl, hb, hc⟩ := h.2.2.2 (by omega)
    have hcon := Try.slices_Contains_int b o n c X x w (Nat.le_of_eq h.1) hn (fun j hj => by rw [hc j hj]; simp [List.getD, List.getElem?_eq_getElem hj])
    rw [h.1, List.take_length] at hcon
    rw [h.1]
    exact hcon.mono fun e w' ⟨he, hw⟩ => ⟨he, hw.symm⟩
theorem clone_any (A : Option Addr) (n c : Nat) (X : List Int) (w : World) (h : SlI w A n c X) (hn : n ≤ 1000000000) :
    Calls Try.prog 52 #[.slice A n c] w fun e w' => ∃ A' c', e = .returned (.slice A' X.length c') ∧ OwnI w' w.heap.size (.slice A' X.length c') X ∧ Below w.heap.size w w' := by
  have fin : ∀ v' w', w'.ownsRow w.heap.size 3 1 v' n (vsI X) → Below w.heap.size w w' → ∃ A' c', Ending.returned v' = .returned (.slice A' X.length c') ∧ OwnI w' w.heap.size (.slice A' X.length c') X ∧ Below w.heap.size w w' := fun v' w' ho hb => by
    rw [h.1] at ho
    obtain ⟨A', c', rfl, _⟩ := OwnI.slice (X := X) ho
    exact ⟨A', c', rfl, ho, hb⟩
  cases A with
  | none =>
    have hc0 := h.2.2.1 rfl
    have hn0 : n = 0 := by have := h.2.1; omega
    subst hn0
    have hX : X = [] := List.eq_nil_of_length_eq_zero h.1.symm
    subst hX
    refine (Try.slices_Clone_int_nil 0 c w).mono fun e w' ⟨he, hw⟩ => ?_
    subst hw he
    exact ⟨none, 0, rfl, OwnI.nil _ _, Below.refl _ _⟩
  | some ad =>
    by_cases h0 : n = 0
    · subst h0
      have hX : X = [] := List.eq_nil_of_length_eq_zero h.1.symm
      subst hX
      refine (Try.slices_Clone_int_zero ad c w).mono fun e w' ⟨v', he, ho, _, hb⟩ => ?_
      subst he
      exact fin v' w' ho hb
    · obtain ⟨b, o, ha, hb, hc⟩ := h.2.2.2 (by omega)
      injection ha with ha
      subst ha
      refine (Try.slices_Clone_int b o n c X w (Nat.le_of_eq h.1) (by omega) (fun j hj => by rw [hc j hj]; simp [List.getD, List.getElem?_eq_getElem hj])).mono fun e w' ⟨v', he, ho, _, hb⟩ => ?_
      subst he
      rw [h.1, List.take_length] at ho
      exact fin v' w' (by rw [h.1]; exact ho) hb
theorem delete_none (c : Nat) (fv : Value) (w : World) : Calls Try.prog 51 #[.slice none 0 c, fv] w fun e w' => e = .returned (.slice none 0 c) ∧ w = w' := by
  have c1 := Try.slices_IndexFunc_empty (α := Int) none c fv w
  go_enter Try.func51, Try.ntmps51
  go_wp2_with (go_at_call 56; ((with_reducible refine c1.mono ?_); rintro e w1 ⟨rfl, rfl⟩))
  go_ret
  exact ⟨rfl, rfl⟩
/-- the worlds that keep what lies below a bound -/
def Kp (B : Nat) (w W : World) : Prop := ∀ k, k < B → W.heap[k]? = w.heap[k]?
theorem Kp.cell {B : Nat} {w W : World} (h : Kp B w W) {k o : Nat} (hk : k < B) : W.cell? ⟨k, o, none⟩ = w.cell? ⟨k, o, none⟩ := World.cell?_of_block (h k hk)
theorem kp_sort {B : Nat} {w : World} {g n : Nat} {os : Array Obj} (d : Array Int) (hb : B ≤ g) (hw : B ≤ w.heap.size) : Kp B w (sortWorld (Value.int .i64) w g 0 n d os) := fun k hk =>
  (grownBy_sortedI (w := w) (g := g) (n := n) (os := os) d).block k (by omega) (fun e => by injection e with e; omega)
theorem delete_own {w : World} {base : Nat} {A : Option Addr} {c : Nat} {X : List Int} (h : OwnI w base (.slice A X.length c) X) (hl : X.length ≤ 1000000000) (hbase : base ≤ w.heap.size) (p : Int → Bool) (g : Nat) (lb : Array Value) (eg : ∀ args w, (callFunc g args).run Try.prog w = .ok (.enter g args) w)
    (hp : ∀ W x, Kp base w W → FnGives Try.prog g lb #[.int .i64 x] (.bool (p x)) W) :
    Calls Try.prog 51 #[.slice A X.length c, .func (.func g) #[] lb] w fun e w' => ∃ n', e = .returned (.slice A n' c) ∧ n' = (X.filter fun x => !p x).length ∧ OwnI w' base (.slice A n' c) (X.filter fun x => !p x) ∧ w.grownBy w' (Value.slice A X.length c).ownBlock := by
  rcases h.2 with ⟨hv, hn⟩ | ⟨b, cap, cur, hv, hb, hg, hnc, hcm, hcs, ht⟩
  · injection hv with e1 e2 e3
    subst e1 e3
    have hX : X = [] := List.eq_nil_of_length_eq_zero hn
    subst hX
    refine (delete_none 0 _ w).mono fun e w' ⟨he, hw⟩ => ?_
    subst hw
    exact ⟨0, he, rfl, OwnI.nil _ _, rfl, rfl, rfl, Nat.le_refl _, fun _ _ _ => rfl⟩
  · injection hv with e1 e2 e3
    subst e1 e3
    rw [Nat.mul_one] at ht
    have hh : Go.Sort.Holds (Value.int .i64) w b 0 X.toArray := holds_of_blockI hg ht
    have hcon := Try.slices_DeleteFunc (α := Int) (Value.int .i64) (fun _ => rfl) p g lb eg 0 Try.zeroValue3 b 0 c X.toArray w
      (fun W x hB => hp W x (fun k hk => hB.block k (by omega))) (fun n os dk x _ => hp _ x (kp_sort dk hb hbase)) hh (by simp; omega) (by simpa using hnc)
    have e0 : X.toArray.size = X.length := by simp
    rw [e0] at hcon
    refine hcon.mono fun e w' ⟨he, q, hw⟩ => ?_
    simp only [List.toList_toArray] at he hw
    generalize hF : (X.filter fun x => !p x) = F at *
    have hle : F.length ≤ X.length := by rw [← hF]; exact List.length_filter_le _ _
    have hlen : (F ++ List.replicate (X.length - F.length) 0).length = X.length := by simp; omega
    have hgr : w' = Go.Sort.grow w' #[] := (Go.Sort.grow_empty w').symm
    rw [hgr, hw]
    refine ⟨F.length, he, rfl, ⟨by rw [vsI_len]; omega, .inr ⟨b, c, _, rfl, hb, heap_sortedI _ hg, by omega, hcm, by simp [Go.Sort.putCells, hcs], ?_⟩⟩, grownBy_sortedI _⟩
    have hall := take_putCellsI cur (F ++ List.replicate (X.length - F.length) 0) (by omega)
    rw [hlen] at hall
    rw [Nat.mul_one]
    have h2 := congrArg (List.take F.length) hall
    rw [List.take_take, Nat.min_eq_left hle] at h2
    rw [h2, List.map_append, List.take_append_of_le_length (by simp), List.take_of_length_le (by simp)]
    rfl
theorem compact_le (X : List Int) : (Lib.compact X).length ≤ X.length := by
  unfold Lib.compact Lib.compactUpTo
  rw [List.length_map]
  have := List.length_filter_le (Lib.keeps X.toArray) (List.range X.length)
  rwa [List.length_range] at this
theorem compact_own {w : World} {base : Nat} {A : Option Addr} {c : Nat} {X : List Int} (h : OwnI w base (.slice A X.length c) X) (hl : X.length ≤ 1000000000) :
    Calls Try.prog 38 #[.slice A X.length c] w fun e w' => e = .returned (.slice A (Lib.compact X).length c) ∧ OwnI w' base (.slice A (Lib.compact X).length c) (Lib.compact X) ∧ w.grownBy w' (Value.slice A X.length c).ownBlock := by
  by_cases h0 : X = []
  · subst h0
    refine (Try.slices_Compact_int_empty A c w).mono fun e w' ⟨he, hw⟩ => ?_
    subst hw
    exact ⟨he, h, rfl, rfl, rfl, Nat.le_refl _, fun _ _ _ => rfl⟩
  · have hp : 0 < X.length := List.length_pos_iff.2 h0
    rcases h.2 with ⟨hv, hn⟩ | ⟨g, cap, cur, hv, hb, hg, hnc, hcm, hcs, ht⟩
    · omega
    · injection hv with e1 e2 e3
      subst e1 e3
      rw [Nat.mul_one] at ht
      have hh : Go.Sort.Holds (Value.int .i64) w g 0 X.toArray := holds_of_blockI hg ht
      refine (Try.slices_Compact_int g 0 c X w hh (by omega) hnc).mono fun e w' ⟨he, q, hw⟩ => ?_
      have hle := compact_le X
      have hlen : (Lib.compact X ++ List.replicate (X.length - (Lib.compact X).length) 0).length = X.length := by simp; omega
      have hgr : w' = Go.Sort.grow w' #[] := (Go.Sort.grow_empty w').symm
      rw [hgr, hw]
      refine ⟨he, ⟨by rw [vsI_len]; omega, .inr ⟨g, c, _, rfl, hb, heap_sortedI _ hg, by omega, hcm, by simp [Go.Sort.putCells, hcs], ?_⟩⟩, grownBy_sortedI _⟩
      have hall := take_putCellsI cur (Lib.compact X ++ List.replicate (X.length - (Lib.compact X).length) 0) (by omega)
      rw [hlen] at hall
      rw [Nat.mul_one]
      have h2 := congrArg (List.take (Lib.compact X).length) hall
      rw [List.take_take, Nat.min_eq_left hle] at h2
      rw [h2, List.map_append, List.take_append_of_le_length (by simp), List.take_of_length_le (by simp)]
      rfl
theorem without_any (A : Option Addr) (n c : Nat) (X : List Int) (w : World) (h : SlI w A n c X) (hn : n ≤ 1000000000) (p : Int → Bool) (g : Nat) (lb : Array Value) (eg : ∀ args w, (callFunc g args).run Try.prog w = .ok (.enter g args) w)
    (hp : ∀ W x, Kp w.heap.size w W → FnGives Try.prog g lb #[.int .i64 x] (.bool (p x)) W) :
    Calls Try.prog 30 #[.slice A n c, .func (.func g) #[] lb] w fun e w' => ∃ A' n' c', e = .returned (.slice A' n' c') ∧ n' = (X.filter fun x => !p x).length ∧ OwnI w' w.heap.size (.slice A' n' c') (X.filter fun x => !p x) ∧ Below w.heap.size w w' := by
  have c1 := clone_any A n c X w h hn
  have hXl : X.length ≤ 1000000000 := by rw [← h.1]; exact hn
  have HD : Hid (∀ w1 A' c', OwnI w1 w.heap.size (.slice A' X.length c') X → Below w.heap.size w w1 → Calls Try.prog 51 #[.slice A' X.length c', .func (.func g) #[] lb] w1 fun e w' => ∃ n', e = .returned (.slice A' n' c') ∧ n' = (X.filter fun x => !p x).length ∧ OwnI w' w.heap.size (.slice A' n' c') (X.filter fun x => !p x) ∧ w1.grownBy w' (Value.slice A' X.length c').ownBlock) :=
    fun w1 A' c' ho hb => delete_own ho hXl hb.size p g lb eg (fun W x hK => hp W x (fun k hk => (hK k hk).trans (hb.block k hk)))
  clear h hp
  generalize (X.filter fun x => !p x) = F at *
  go_enter Try.func30, Try.ntmps30
  go_wp2_with (first
    | (go_at_call 52; ((with_reducible refine c1.mono ?_); rintro e w1 ⟨A1, k1, rfl, ho1, hb1⟩; have c2 := HD.out w1 A1 k1 ho1 hb1; have Ho1 := Lib.hid ho1; clear ho1))
    | (go_at_call 51; ((with_reducible refine c2.mono ?_); rintro e w2 ⟨n2, rfl, hn2, ho2, hg2⟩; have Hn2 := Lib.hid hn2; clear hn2)))
  go_ret
  exact ⟨A1, n2, k1, rfl, Hn2.out, ho2, hb1.grown hg2 hb1.size (fun k hk => (Ho1.out.lt k hk).1)⟩
end Go.Proofs.Ytmamecchphockaa.Lt
