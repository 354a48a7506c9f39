/-
  What is proved: what package lit's Within and Same return, and the document's.
-/
import Derived.Test.YtmamecchphockaaLtF
namespace Go.Proofs.Ytmamecchphockaa.Lt
open Go.RowKit Go.Shelf Go.Maps Go.WideMaps L
set_option linter.unusedVariables false
set_option linter.unusedSimpArgs false

theorem missing_any (x : Int) (B g k : Nat) (S : Int → Bool) (W : World) (hx : R64 x) (hM : MapI W g k S) (hc : W.cell? ⟨B, 0, none⟩ = some (.map (some g))) :
    FnGives Try.prog 44 #[.pointer (some ⟨B, 0, none⟩)] #[.int .i64 x] (.bool (isL x && !S x)) W := by
  show Calls Try.prog 44 #[.int .i64 x, .pointer (some ⟨B, 0, none⟩)] W _
  have c1 := literal_any x W
  have c2 := hM.look x hx
  clear hM
  generalize S x = s at *
  generalize isL x = i at *
  cases i
  · go_enter Try.func44, Try.ntmps44
    go_wp2_with (go_at_call 32; ((with_reducible refine c1.mono ?_); rintro e w1 ⟨rfl, rfl⟩))
    go_ret
    exact ⟨rfl, 0, rfl⟩
  · go_enter Try.func44, Try.ntmps44
    go_wp2_with (go_at_call 32; ((with_reducible refine c1.mono ?_); rintro e w1 ⟨rfl, rfl⟩))
    go_ret
    exact ⟨by simp, 0, rfl⟩
theorem Within_any (A : Option Addr) (n c : Nat) (X : List Int) (A' : Option Addr) (n' c' : Nat) (Y : List Int) (w : World) (h : SlI w A n c X) (hr : R64s X) (hn : n ≤ 9223372036854775807) (h' : SlI w A' n' c' Y) (hr' : R64s Y) (hn' : n' ≤ 1000000000) :
    Calls Try.prog 17 #[.slice A n c, .slice A' n' c'] w fun e w' => e = .returned (.bool (within X Y)) ∧ Below w.heap.size w w' := by
  have c1 := set_any A' n' c' Y w h' hr' hn'
  have eg : ∀ args w, (callFunc 44 args).run Try.prog w = .ok (.enter 44 args) w := enters_of Try.func44 (by kernel_rfl) rfl
  have CF : Hid (∀ w1 k, MapI w1 w.heap.size k (hasL Y) → Below w.heap.size w w1 →
      Calls Try.prog 42 #[.slice A n c, .func (.func 44) #[] #[.pointer (some ⟨w1.heap.size, 0, none⟩)]] (w1.alloc (.cells #[.map (some w.heap.size)] 49)) fun e w' => e = .returned (.bool (X.any fun x => isL x && !hasL Y x)) ∧ Below (w1.heap.size + 1) (w1.alloc (.cells #[.map (some w.heap.size)] 49)) w') := fun w1 k hM hb => by
    have hb2 : Below w1.heap.size w1 (w1.alloc (.cells #[.map (some w.heap.size)] 49)) := bel_alloc (Below.refl _ _) _
    have := containsF (fun x => isL x && !hasL Y x) 44 #[.pointer (some ⟨w1.heap.size, 0, none⟩)] eg A n c X (w1.alloc (.cells #[.map (some w.heap.size)] 49)) ((h.below hb).below hb2) hr hn
      (fun W' x hbW hx => missing_any x w1.heap.size w.heap.size k (hasL Y) W' hx (((hM.b hb2).b hbW)) ((hbW.cell (p := ⟨w1.heap.size, 0, none⟩) (by simp)).trans (by rw [World.cell?_alloc_at _ _ _ _ rfl]; rfl)))
    rwa [World.size_alloc] at this
  have hR : Hid ((!(X.any fun x => isL x && !hasL Y x)) = within X Y) := by
    show _ = _
    rw [Bool.eq_iff_iff, within_iff]
    simp [hasL]
    exact ⟨fun h x hx hl => (h x hx hl).2, fun h x hx hl => ⟨hl, h x hx hl⟩⟩
  generalize (X.any fun x => isL x && !hasL Y x) = r at *
  generalize within X Y = R at *
  clear h hr h' hr' eg
  go_enter Try.func17, Try.ntmps17
  go_wp2_with (first
    | (go_at_call 43; ((with_reducible refine c1.mono ?_); rintro e w1 ⟨rfl, ⟨k1, hM1⟩, hb1⟩; have cF := CF.out w1 k1 hM1 hb1; have HM1 := Lib.hid hM1; clear hM1))
    | (go_at_call 42; ((with_reducible refine cF.mono ?_); rintro e w2 ⟨rfl, hb2⟩)))
  go_ret
  exact ⟨oneB hR.out, (bel_alloc hb1 _).trans (hb2.mono (by have := hb1.size; omega))⟩
theorem Same_any (A : Option Addr) (n c : Nat) (X : List Int) (A' : Option Addr) (n' c' : Nat) (Y : List Int) (w : World) (h : SlI w A n c X) (hr : R64s X) (hn : n ≤ 1000000000) (h' : SlI w A' n' c' Y) (hr' : R64s Y) (hn' : n' ≤ 1000000000) :
    Calls Try.prog 15 #[.slice A n c, .slice A' n' c'] w fun e w' => e = .returned (.bool (same X Y)) ∧ Below w.heap.size w w' := by
  have c1 := Within_any A n c X A' n' c' Y w h hr (by omega) h' hr' hn'
  have C2 : Hid (∀ w1, Below w.heap.size w w1 → Calls Try.prog 17 #[.slice A' n' c', .slice A n c] w1 fun e w' => e = .returned (.bool (within Y X)) ∧ Below w1.heap.size w1 w') := fun w1 hb => Within_any A' n' c' Y A n c X w1 (h'.below hb) hr' (by omega) (h.below hb) hr hn
  have hR : Hid (same X Y = (within X Y && within Y X)) := rfl
  generalize same X Y = R at *
  clear h h' hr hr'
  generalize within X Y = x at *
  generalize within Y X = y at *
  cases x
  · have e : Hid (false = R) := by show _ = _; rw [hR.out]; rfl
    clear hR
    go_enter Try.func15, Try.ntmps15
    go_wp2_with (go_at_call 17; ((with_reducible refine c1.mono ?_); rintro e w1 ⟨rfl, hb1⟩))
    go_ret
    exact ⟨oneB e.out, hb1⟩
  · have e : Hid (y = R) := by show _ = _; rw [hR.out]; rfl
    clear hR
    go_enter Try.func15, Try.ntmps15
    go_wp2_with (first
      | (go_at_call 17; ((with_reducible refine c1.mono ?_); rintro e w1 ⟨rfl, hb1⟩; have c2 := C2.out w1 hb1; clear c1))
      | (go_at_call 17; ((with_reducible refine c2.mono ?_); rintro e w2 ⟨rfl, hb2⟩)))
    go_ret
    exact ⟨oneB e.out, bel_trans hb1 hb2⟩
set_option maxRecDepth 100000 in
theorem RWithin_any (A : Option Addr) (n c : Nat) (X : List Int) (A' : Option Addr) (n' c' : Nat) (Y : List Int) (w : World) (h : SlI w A n c X) (hn : n ≤ 1000000000) (h' : SlI w A' n' c' Y) (hn' : n' ≤ 1000000000) :
    Calls Try.prog 18 #[.slice A n c, .slice A' n' c'] w fun e w' => e = .returned (.bool (within X Y)) ∧ w = w' := by
  have c1 := fun x => is_any x w
  have c2 := fun x => RHas_any A' n' c' Y x w h' (by omega)
  have H := Lib.hid h
  have HX := Lib.hid h.1
  generalize hq : within X Y = r
  have Hq := Lib.hid hq
  have HE : Hid (within (X.take 0) Y = true) := by show _ = _; simp [within]
  have HC1 := Lib.hid c1
  have HC2 := Lib.hid c2
  clear h h' hq c1 c2
  go_enter Try.func18, Try.ntmps18
  go_wp2
  go_loopw [5] (fun i wr0 => ∃ (wr : World) (k : Nat), wr = wr0 ∧ k ≤ n ∧ i = .int .i64 k ∧ Hid (within (X.take k) Y = true) ∧ Hid (w = wr)) (fun i _ => n - (intOf i).toNat)
  case atStart => exact ⟨_, 0, rfl, by omega, rfl, HE, Lib.hid rfl⟩
  case round =>
    obtain ⟨wr, k, rfl, hk, rfl, hE, hW⟩ := hrel
    by_cases hlt : k < n
    · obtain ⟨g, o, x, rfl, hg, z0, hx⟩ := SlI.at H.out hlt
      have y0 : wr.cell? ⟨g, o + k, none⟩ = some (.int .i64 x) := by rw [← hW.out]; exact z0
      have HE1 : Hid (within (X.take (k + 1)) Y = (!isL x || Y.contains x)) := by
        show _ = _
        have := hE.out
        unfold within at this ⊢
        rw [List.take_add_one, hx, List.all_append, this]
        simp
      have HM : Hid (isL x = true → hasL Y x = false → r = false) := by
        show _ → _ → _
        intro h1 h2
        rw [← Hq.out, Bool.eq_false_iff]
        intro h3
        have := (within_iff X Y).1 h3 x (List.mem_of_getElem? hx) h1
        rw [(hasL_iff Y x).2 ⟨h1, this⟩] at h2; cases h2
      have cx := HC1.out x
      have cy := HC2.out x
      rw [hW.out] at cx cy
      have hk0 : 0 ≤ (k : Int) := by omega
      have hk1 : (k : Int) < (n : Int) := by omega
      have hYx : Hid (hasL Y x = (isL x && Y.contains x)) := rfl
      clear z0 hx hE H
      generalize isL x = i at *
      generalize hasL Y x = yx at *
      cases i
      · have HE2 : Hid (within (X.take (k + 1)) Y = true) := by show _ = _; rw [HE1.out]; rfl
        clear HE1 HM hYx
        go_wp2_with (go_at_call 39; ((with_reducible refine cx.mono ?_); rintro e w1 ⟨rfl, rfl⟩))
        go_roundw
        case rel => exact ⟨_, k + 1, rfl, by omega, by go_num, HE2, hW⟩
        case measure => simp [intOf]; omega
      · cases yx
        · have q2 : Hid (false = r) := (HM.out rfl rfl).symm
          clear HE1 HM hYx
          go_wp2_with (first
            | (go_at_call 39; ((with_reducible refine cx.mono ?_); rintro e w1 ⟨rfl, rfl⟩))
            | (go_at_call 20; ((with_reducible refine cy.mono ?_); rintro e w1 ⟨rfl, rfl⟩)))
          go_ret
          exact ⟨oneB q2.out, hW.out⟩
        · have HE2 : Hid (within (X.take (k + 1)) Y = true) := by show _ = _; rw [HE1.out]; exact hYx.out.symm
          clear HE1 HM hYx
          go_wp2_with (first
            | (go_at_call 39; ((with_reducible refine cx.mono ?_); rintro e w1 ⟨rfl, rfl⟩))
            | (go_at_call 20; ((with_reducible refine cy.mono ?_); rintro e w1 ⟨rfl, rfl⟩)))
          go_roundw
          case rel => exact ⟨_, k + 1, rfl, by omega, by go_num, HE2, hW⟩
          case measure => simp [intOf]; omega
    · obtain rfl : k = n := by omega
      have q2 : Hid (true = r) := by show _ = _; rw [← Hq.out, ← hE.out, List.take_of_length_le (by have := HX.out; omega)]
      clear hE
      go_wp2
      go_ret
      exact ⟨oneB q2.out, hW.out⟩
theorem RSame_any (A : Option Addr) (n c : Nat) (X : List Int) (A' : Option Addr) (n' c' : Nat) (Y : List Int) (w : World) (h : SlI w A n c X) (hn : n ≤ 1000000000) (h' : SlI w A' n' c' Y) (hn' : n' ≤ 1000000000) :
    Calls Try.prog 16 #[.slice A n c, .slice A' n' c'] w fun e w' => e = .returned (.bool (same X Y)) ∧ w = w' := by
  have c1 := RWithin_any A n c X A' n' c' Y w h hn h' hn'
  have c2 := RWithin_any A' n' c' Y A n c X w h' hn' h hn
  have hR : Hid (same X Y = (within X Y && within Y X)) := rfl
  generalize same X Y = R at *
  clear h h'
  generalize within X Y = x at *
  generalize within Y X = y at *
  cases x
  · have e : Hid (false = R) := by show _ = _; rw [hR.out]; rfl
    clear hR
    go_enter Try.func16, Try.ntmps16
    go_wp2_with (go_at_call 18; ((with_reducible refine c1.mono ?_); rintro e w1 ⟨rfl, rfl⟩))
    go_ret
    exact ⟨oneB e.out, rfl⟩
  · have e : Hid (y = R) := by show _ = _; rw [hR.out]; rfl
    clear hR
    go_enter Try.func16, Try.ntmps16
    go_wp2_with (first
      | (go_at_call 18; ((with_reducible refine c1.mono ?_); rintro e w1 ⟨rfl, rfl⟩))
      | (go_at_call 18; ((with_reducible refine c2.mono ?_); rintro e w1 ⟨rfl, rfl⟩)))
    go_ret
    exact ⟨oneB e.out, rfl⟩
end Go.Proofs.Ytmamecchphockaa.Lt
