/-
  What is proved: what package lit's Right, Has, Holds, Within and Same return.
-/
import Derived.Test.YtmamecchphockaaLtE
import Derived.Maps.Own
import Derived.Maps.Views
namespace Go.Proofs.Ytmamecchphockaa.Lt
open Go.RowKit Go.Shelf Go.Maps Go.WideMaps L
set_option linter.unusedVariables false
set_option linter.unusedSimpArgs false

def rgL (X : List Int) (m : Int) : Int := if X.length > 64 then 2 else if X.any (fun x => !isL x || decide (m < vr x)) then 1 else 0
theorem wrong_any (m x : Int) (B : Nat) (W : World) (hc : W.cell? ⟨B, 0, none⟩ = some (.int .i64 m)) :
    FnGives Try.prog 41 #[.pointer (some ⟨B, 0, none⟩)] #[.int .i64 x] (.bool (!isL x || decide (m < vr x))) W := by
  show Calls Try.prog 41 #[.int .i64 x, .pointer (some ⟨B, 0, none⟩)] W _
  have c1 := fun W => (literal_any x W).mono fun e w' (h : _ ∧ W = w') => (show e = .returned (.bool (isL x)) ∧ w' = W from ⟨h.1, h.2.symm⟩)
  have c2 := fun W => (variable_any x W).mono fun e w' (h : _ ∧ W = w') => (show e = .returned (.int .i64 (vr x)) ∧ w' = W from ⟨h.1, h.2.symm⟩)
  generalize hi : isL x = i at *
  generalize hv : vr x = v at *
  generalize hd : decide (m < v) = d
  have hd' : decide (v > m) = d := hd
  clear hi hv
  cases i
  · go_enter Try.func41, Try.ntmps41
    go_wp2
    go_quiet (first
      | (go_at_call 32; exact Calls.quiet_of_same (c1 _))
      | (go_at_call 37; exact Calls.quiet_of_same (c2 _)))
    go_wp2
    go_ret
    exact ⟨rfl, _, rfl⟩
  · go_enter Try.func41, Try.ntmps41
    go_wp2
    go_quiet (first
      | (go_at_call 32; exact Calls.quiet_of_same (c1 _))
      | (go_at_call 37; exact Calls.quiet_of_same (c2 _)))
    go_wp2
    go_ret
    exact ⟨by simp, _, rfl⟩
theorem Right_any (A : Option Addr) (n c : Nat) (X : List Int) (m : Int) (w : World) (h : SlI w A n c X) (hr : R64s X) (hn : n ≤ 9223372036854775807) :
    Calls Try.prog 12 #[.slice A n c, .int .i64 m] w fun e w' => e = .returned (.int .i64 (rgL X m)) ∧ Below w.heap.size w w' := by
  obtain ⟨W, hW⟩ : ∃ W, w.alloc (.cells #[.int .i64 m] 3) = W := ⟨_, rfl⟩
  have hB : Below w.heap.size w W := by rw [← hW]; exact bel_alloc (Below.refl _ _) _
  have hs : w.heap.size < W.heap.size := by rw [← hW]; simp
  have hc : W.cell? ⟨w.heap.size, 0, none⟩ = some (.int .i64 m) := by rw [← hW, World.cell?_alloc_at _ _ _ _ rfl]; rfl
  have eg : ∀ args w, (callFunc 41 args).run Try.prog w = .ok (.enter 41 args) w := enters_of Try.func41 (by kernel_rfl) rfl
  have cF := containsF (fun x => !isL x || decide (m < vr x)) 41 #[.pointer (some ⟨w.heap.size, 0, none⟩)] eg A n c X W (h.below hB) hr hn
    (fun W' x hb _ => wrong_any m x w.heap.size W' ((hb.cell (p := ⟨w.heap.size, 0, none⟩) hs).trans hc))
  have hHr : Hid (rgL X m = if n > 64 then 2 else if X.any (fun x => !isL x || decide (m < vr x)) then 1 else 0) := by show _ = _; unfold rgL; rw [← h.1]
  generalize X.any (fun x => !isL x || decide (m < vr x)) = r at *
  generalize rgL X m = R at *
  clear h hr eg hc hs
  by_cases h1 : n > 64
  · have hR : Hid ((2 : Int) = R) := by show _ = _; rw [hHr.out, if_pos h1]
    have q1 : decide ((n : Int) > 64) = true := decide_eq_true (by omega)
    clear hHr
    go_enter Try.func12, Try.ntmps12
    go_wp2
    go_ret
    exact ⟨L.one hR.out, hB⟩
  · have q1 : decide ((n : Int) > 64) = false := decide_eq_false (by omega)
    cases r
    · have hR : Hid ((0 : Int) = R) := by show _ = _; rw [hHr.out, if_neg h1]; rfl
      clear hHr
      go_enter Try.func12, Try.ntmps12
      go_wp2_with (go_at_call 42; ((with_reducible refine cF.mono ?_); rintro e w1 ⟨rfl, hb1⟩))
      go_ret
      exact ⟨L.one hR.out, bel_trans hB hb1⟩
    · have hR : Hid ((1 : Int) = R) := by show _ = _; rw [hHr.out, if_neg h1]; rfl
      clear hHr
      go_enter Try.func12, Try.ntmps12
      go_wp2_with (go_at_call 42; ((with_reducible refine cF.mono ?_); rintro e w1 ⟨rfl, hb1⟩))
      go_ret
      exact ⟨L.one hR.out, bel_trans hB hb1⟩
theorem Has_any (A : Option Addr) (n c : Nat) (X : List Int) (l : Int) (w : World) (h : SlI w A n c X) (hn : n ≤ 9223372036854775807) :
    Calls Try.prog 19 #[.slice A n c, .int .i64 l] w fun e w' => e = .returned (.bool (hasL X l)) ∧ w = w' := by
  have c1 := literal_any l w
  have c2 := contains_any A n c X l w h hn
  have hr : Hid (hasL X l = (isL l && X.contains l)) := rfl
  generalize hasL X l = R at *
  generalize X.contains l = k at *
  clear h
  generalize isL l = i at *
  cases i
  · have hR : Hid (false = R) := by show _ = _; rw [hr.out]; rfl
    clear hr
    go_enter Try.func19, Try.ntmps19
    go_wp2_with (go_at_call 32; ((with_reducible refine c1.mono ?_); rintro e w1 ⟨rfl, rfl⟩))
    go_ret
    exact ⟨oneB hR.out, rfl⟩
  · have hR : Hid (k = R) := by show _ = _; rw [hr.out]; rfl
    clear hr
    go_enter Try.func19, Try.ntmps19
    go_wp2_with (first
      | (go_at_call 32; ((with_reducible refine c1.mono ?_); rintro e w1 ⟨rfl, rfl⟩))
      | (go_at_call 45; ((with_reducible refine c2.mono ?_); rintro e w1 ⟨rfl, rfl⟩)))
    go_ret
    exact ⟨oneB hR.out, rfl⟩
theorem holdsF_any (l : Int) (a : Option Addr) (n c : Nat) (V : List Bool) (B : Nat) (W : World) (hR : R64 l) (hV : SlB W a n c V) (hn : n ≤ 9223372036854775807) (hc : W.cell? ⟨B, 0, none⟩ = some (.slice a n c)) :
    FnGives Try.prog 46 #[.pointer (some ⟨B, 0, none⟩)] #[.int .i64 l] (.bool (tru V l)) W := by
  show Calls Try.prog 46 #[.int .i64 l, .pointer (some ⟨B, 0, none⟩)] W _
  have c1 := holds_any l a n c V W hR hV hn
  generalize tru V l = r at *
  clear hV
  go_enter Try.func46, Try.ntmps46
  go_wp2_with (go_at_call 47; ((with_reducible refine c1.mono ?_); rintro e w1 ⟨rfl, rfl⟩))
  go_ret
  exact ⟨rfl, 0, rfl⟩
theorem Holds_any (A : Option Addr) (n c : Nat) (X : List Int) (a : Option Addr) (m d : Nat) (V : List Bool) (w : World) (h : SlI w A n c X) (hr : R64s X) (hV : SlB w a m d V) (hn : n ≤ 9223372036854775807) (hm : m ≤ 9223372036854775807) :
    Calls Try.prog 21 #[.slice A n c, .slice a m d] w fun e w' => e = .returned (.bool (hld X V)) ∧ Below w.heap.size w w' := by
  obtain ⟨W, hW⟩ : ∃ W, w.alloc (.cells #[.slice a m d] 30) = W := ⟨_, rfl⟩
  have hB : Below w.heap.size w W := by rw [← hW]; exact bel_alloc (Below.refl _ _) _
  have hs : w.heap.size < W.heap.size := by rw [← hW]; simp
  have hc : W.cell? ⟨w.heap.size, 0, none⟩ = some (.slice a m d) := by rw [← hW, World.cell?_alloc_at _ _ _ _ rfl]; rfl
  have eg : ∀ args w, (callFunc 46 args).run Try.prog w = .ok (.enter 46 args) w := enters_of Try.func46 (by kernel_rfl) rfl
  have cF := containsF (tru V) 46 #[.pointer (some ⟨w.heap.size, 0, none⟩)] eg A n c X W (h.below hB) hr hn
    (fun W' x hb hx => holdsF_any x a m d V w.heap.size W' hx (hV.below (bel_trans hB hb)) hm ((hb.cell (p := ⟨w.heap.size, 0, none⟩) hs).trans hc))
  have hR : Hid (X.any (tru V) = hld X V) := rfl
  generalize X.any (tru V) = r at *
  generalize hld X V = R at *
  clear h hr eg hc hs hV
  go_enter Try.func21, Try.ntmps21
  go_wp2_with (go_at_call 42; ((with_reducible refine cF.mono ?_); rintro e w1 ⟨rfl, hb1⟩))
  go_ret
  exact ⟨oneB hR.out, bel_trans hB hb1⟩
/-- a map of the call's own that reads as a set of integers -/
def MapI (w : World) (g k : Nat) (S : Int → Bool) : Prop :=
  ∃ D : DataW Unit, w.ownsMap Try.prog 3 (plainElem Try.prog 4) g k D ∧ IsMap D ∧ ∀ x, D.atKey (.int .i64 x) (.lit (.bool false)) = .lit (.bool (S x))
theorem lawI : Keyed Try.prog 3 := int_keyed Try.underlying3
theorem zeroB (w : World) : (zeroValue 4).run Try.prog w = .ok (.bool false) w := by kernel_rfl
theorem plainB_inv {P : Program} {e : TypeId} (he : P.underlying e = some .bool) {v : Value} {z : DataW Unit × List MemPlace} (h : plainElem P e v = some z) : ∃ a, v = .bool a ∧ z = (.lit (.bool a), []) := by
  unfold plainElem at h
  rw [he] at h
  cases v <;> simp at h
  exact ⟨_, rfl, h.symm⟩
theorem wfI {x : Int} (h : R64 x) : (Lit.int .i64 x).wf = true := by
  unfold R64 at h
  simp [Lit.wf, IntKind.min, IntKind.max, IntKind.bits, IntKind.signed]
  omega
theorem MapI.made (w : World) : MapI (w.alloc (.map #[] 0)) w.heap.size 0 (fun _ => false) := ⟨.map [], World.ownsMap_made _ _ _ _, ⟨[], rfl⟩, fun x => rfl⟩
theorem MapI.lt {w : World} {g k : Nat} {S : Int → Bool} (h : MapI w g k S) : g < w.heap.size := by obtain ⟨D, ho, _⟩ := h; exact ho.lt
theorem MapI.b {w w' : World} {g k : Nat} {S : Int → Bool} (h : MapI w g k S) (hb : Below w.heap.size w w') : MapI w' g k S := by
  have hlt := h.lt
  obtain ⟨D, ⟨es, ck, h1, h2, h3, h4⟩, hD, hs⟩ := h
  exact ⟨D, ⟨es, ck, (hb.block g hlt).trans h1, h2, h3, h4⟩, hD, hs⟩
theorem MapI.congr {w : World} {g k : Nat} {S S' : Int → Bool} (h : MapI w g k S) (e : ∀ x, S x = S' x) : MapI w g k S' := by
  obtain ⟨D, h1, h2, h3⟩ := h
  exact ⟨D, h1, h2, fun x => by rw [h3, e]⟩
theorem MapI.put {w : World} {g k : Nat} {S : Int → Bool} (h : MapI w g k S) (hk : k < maxLen) (x : Int) (hx : R64 x) :
    ∃ w', (Instr.mapUpdate 49 (.map (some g)) (.int .i64 x) (.bool true)).run Try.prog w = .ok () w' ∧ MapI w' g (k + 1) (fun y => y == x || S y) ∧ w.grownBy w' (some g) := by
  obtain ⟨D, ho, hD, hs⟩ := h
  obtain ⟨w', h1, h2, h3⟩ := ho.update lawI Try.underlying49 hk (key := .int .i64 x) (val := .bool true) (keyOf_int_mk Try.underlying3 (wfI hx)) (plainElem_bool Try.underlying4 true)
  have hD1 : IsMap (D.put (.int .i64 x) (.lit (.bool true))) := by
    obtain ⟨es, rfl⟩ := hD
    exact ⟨_, rfl⟩
  refine ⟨w', h1, ⟨_, h2, hD1, fun y => ?_⟩, h3⟩
  by_cases e : y = x
  · subst e
    rw [atKey_put_same hD (by trivial)]
    simp
  · rw [atKey_put_other (by intro h; injection h with _ h; exact e h), hs]
    simp [e]
theorem MapI.look {w : World} {g k : Nat} {S : Int → Bool} (h : MapI w g k S) (x : Int) (hx : R64 x) :
    (Instr.lookup 49 (.map (some g)) (.int .i64 x) false).run Try.prog w = .ok (.bool (S x)) w := by
  obtain ⟨D, ho, hD, hs⟩ := h
  obtain ⟨v, ps, hrun, hv⟩ := ho.lookup lawI Try.underlying49 (zeroB _) (plainElem_bool Try.underlying4 false) (keyOf_int_mk Try.underlying3 (wfI hx))
  obtain ⟨c, rfl, hc⟩ := plainB_inv Try.underlying4 hv
  simp only [Prod.mk.injEq] at hc
  have e := (hs x).symm.trans hc.1
  injection e with e
  injection e with e
  rw [hrun, e]
set_option maxRecDepth 100000 in
theorem set_any (A : Option Addr) (n c : Nat) (X : List Int) (w : World) (h : SlI w A n c X) (hr : R64s X) (hn : n ≤ 1000000000) :
    Calls Try.prog 43 #[.slice A n c] w fun e w' => e = .returned (.map (some w.heap.size)) ∧ (∃ k, MapI w' w.heap.size k (hasL X)) ∧ Below w.heap.size w w' := by
  have hmm := @run_makeMap Try.prog
  have c1 := fun x W => literal_any x W
  obtain ⟨W, hW⟩ : ∃ W, w.alloc (.map #[] 0) = W := ⟨_, rfl⟩
  have hB : Below w.heap.size w W := by rw [← hW]; exact bel_alloc (Below.refl _ _) _
  have HM : Hid (MapI W w.heap.size 0 (hasL (X.take 0))) := by rw [← hW]; exact (MapI.made w).congr (fun x => by simp [hasL])
  have HB := Lib.hid hB
  have H := Lib.hid h
  have HX := Lib.hid h.1
  have HR := Lib.hid hr
  clear h hr hB
  go_enter Try.func43, Try.ntmps43
  go_wp2
  go_loopw [9] (fun i wr0 => ∃ (wr : World) (k q : Nat), wr = wr0 ∧ k ≤ n ∧ q ≤ k ∧ i = .int .i64 k ∧ Hid (MapI wr w.heap.size q (hasL (X.take k))) ∧ Hid (Below w.heap.size w wr)) (fun i _ => n - (intOf i).toNat)
  case atStart => exact ⟨_, 0, 0, rfl, by omega, by omega, rfl, HM, HB⟩
  case round =>
    obtain ⟨wr, k, q, rfl, hk, hqk, rfl, hM, hBr⟩ := hrel
    by_cases hlt : k < n
    · obtain ⟨g, o, x, rfl, hg, z0, hx⟩ := SlI.at H.out hlt
      have y0 := (hBr.out.cell (p := ⟨g, _, none⟩) hg).trans z0
      have hxR := HR.out x (List.mem_of_getElem? hx)
      have HE := Lib.hid (fun l => hasL_take X l k x hx)
      have hk0 : 0 ≤ (k : Int) := by omega
      have hk1 : (k : Int) < (n : Int) := by omega
      have cx := c1 x wr
      cases hi : isL x
      · rw [hi] at cx
        have HM1 : Hid (MapI wr w.heap.size q (hasL (X.take (k + 1)))) := Lib.hid (hM.out.congr fun l => by
          rw [HE.out l]
          cases hl : isL l
          · simp
          · have : (x == l) = false := by simp; intro e; rw [e, hl] at hi; cases hi
            rw [this]; simp)
        clear z0 hx H HR hi hxR
        go_wp2_with (go_at_call 32; ((with_reducible refine cx.mono ?_); rintro e w1 ⟨rfl, rfl⟩))
        go_roundw
        case rel => exact ⟨_, k + 1, q, rfl, by omega, by omega, by go_num, HM1, hBr⟩
        case measure => simp [intOf]; omega
      · rw [hi] at cx
        obtain ⟨wn, hrun, hM1, hg1⟩ := hM.out.put (by unfold maxLen; omega) x hxR
        have HM1 : Hid (MapI wn w.heap.size (q + 1) (hasL (X.take (k + 1)))) := Lib.hid (hM1.congr fun l => by
          rw [HE.out l]
          by_cases hl : l = x
          · subst hl; simp [hi]
          · have e1 : (x == l) = false := by simp; exact fun e => hl e.symm
            have e2 : (l == x) = false := by simp [hl]
            rw [e1, e2]; simp)
        have HB1 := Lib.hid (hBr.out.grown hg1 hBr.out.size (fun k hk => by injection hk with hk; omega))
        clear z0 hx H HR hi hxR hM1 hg1
        go_wp2_with (go_at_call 32; ((with_reducible refine cx.mono ?_); rintro e w1 ⟨rfl, rfl⟩))
        go_roundw
        case rel => exact ⟨_, k + 1, q + 1, rfl, by omega, by omega, by go_num, HM1, HB1⟩
        case measure => simp [intOf]; omega
    · obtain rfl : k = n := by omega
      have hM2 := Lib.hid hM.out
      have HX2 := Lib.hid HX.out
      go_wp2
      go_ret
      exact ⟨rfl, ⟨q, by have := hM2.out; rwa [List.take_of_length_le (by have := HX2.out; omega)] at this⟩, hBr.out⟩
end Go.Proofs.Ytmamecchphockaa.Lt
