/-
  What is proved: whether a literal holds, in the program and in the document; the document's Has, Count and Holds, the program's Count.
-/
import Derived.Test.YtmamecchphockaaLtB
namespace Go.Proofs.Ytmamecchphockaa.Lt
open Go.RowKit L
set_option linter.unusedVariables false
set_option linter.unusedSimpArgs false

set_option maxRecDepth 100000 in
theorem holds_any (l : Int) (a : Option Addr) (n c : Nat) (V : List Bool) (w : World) (hR : R64 l) (hV : SlB w a n c V) (hn : n ≤ 9223372036854775807) :
    Calls Try.prog 47 #[.int .i64 l, .slice a n c] w fun e w' => e = .returned (.bool (tru V l)) ∧ w = w' := by
  have c1 := literal_any l w
  have c2 := variable_any l w
  have hVn := hV.1
  cases h1 : isL l
  · have e : Hid (false = tru V l) := by show _ = _; simp [tru, h1]
    rw [h1] at c1
    generalize tru V l = r at *
    clear hV
    generalize vr l = v at *
    go_enter Try.func47, Try.ntmps47
    go_wp2_with (first
      | (go_at_call 32; ((with_reducible refine c1.mono ?_); rintro e w1 ⟨rfl, rfl⟩))
      | (go_at_call 37; ((with_reducible refine c2.mono ?_); rintro e w1 ⟨rfl, rfl⟩)))
    go_ret
    exact ⟨oneB e.out, rfl⟩
  · rw [h1] at c1
    obtain ⟨k, hk⟩ : ∃ k : Nat, vr l = (k : Int) + 1 := ⟨(vr l - 1).toNat, by have := vr_pos hR h1; omega⟩
    rw [hk] at c2
    by_cases h2 : k < n
    · obtain ⟨g, o, x, rfl, hg, hc, hx⟩ := hV.at h2
      have hd : V.getD k false = x := by simp [List.getD, hx]
      have e : Hid ((x == decide (0 < l)) = tru V l) := by
        show _ = _
        unfold tru
        rw [h1, hk, show (((k : Int) + 1 - 1).toNat) = k by omega, hd, decide_eq_true (p := (k : Int) + 1 ≤ (V.length : Int)) (by omega)]
        rfl
      generalize tru V l = r at *
      have q0 : decide ((k : Int) + 1 ≤ (n : Int)) = true := decide_eq_true (by omega)
      have q3 : IntKind.i64.wrap ((k : Int) + 1 - 1) = k := (wrap_id (z := (k : Int) + 1 - 1) ⟨by omega, by omega⟩).trans (by omega)
      have q4 : wrap64 ((k : Int) + 1 - 1) = k := by rw [w64]; exact q3
      have q5 : 0 ≤ (k : Int) := by omega
      have q6 : (k : Int) < (n : Int) := by omega
      generalize hp : decide (0 < l) = p at *
      have hp' : decide (l > 0) = p := hp
      clear hV hx hd hk hVn h1 hR
      go_enter Try.func47, Try.ntmps47
      go_wp2_with (first
        | (go_at_call 32; ((with_reducible refine c1.mono ?_); rintro e w1 ⟨rfl, rfl⟩))
        | (go_at_call 37; ((with_reducible refine c2.mono ?_); rintro e w1 ⟨rfl, rfl⟩)))
      go_ret
      exact ⟨oneB e.out, rfl⟩
    · have e : Hid (false = tru V l) := by
        show _ = _
        unfold tru
        rw [h1, hk, decide_eq_false (p := (k : Int) + 1 ≤ (V.length : Int)) (by omega)]
        rfl
      generalize tru V l = r at *
      have q0 : decide ((k : Int) + 1 ≤ (n : Int)) = false := decide_eq_false (by omega)
      clear hV hk hVn h1 hR
      go_enter Try.func47, Try.ntmps47
      go_wp2_with (first
        | (go_at_call 32; ((with_reducible refine c1.mono ?_); rintro e w1 ⟨rfl, rfl⟩))
        | (go_at_call 37; ((with_reducible refine c2.mono ?_); rintro e w1 ⟨rfl, rfl⟩)))
      go_ret
      exact ⟨oneB e.out, rfl⟩
set_option maxRecDepth 100000 in
theorem True_any (l : Int) (a : Option Addr) (n c : Nat) (V : List Bool) (w : World) (hR : R64 l) (hV : SlB w a n c V) (hn : n ≤ 9223372036854775807) :
    Calls Try.prog 48 #[.int .i64 l, .slice a n c] w fun e w' => e = .returned (.bool (tru V l)) ∧ w = w' := by
  have c1 := is_any l w
  have c2 := Of_any l w hR
  have hVn := hV.1
  cases h1 : isL l
  · have e : Hid (false = tru V l) := by show _ = _; simp [tru, h1]
    rw [h1] at c1
    generalize tru V l = r at *
    clear hV
    generalize vr l = v at *
    go_enter Try.func48, Try.ntmps48
    go_wp2_with (first
      | (go_at_call 39; ((with_reducible refine c1.mono ?_); rintro e w1 ⟨rfl, rfl⟩))
      | (go_at_call 29; ((with_reducible refine c2.mono ?_); rintro e w1 ⟨rfl, rfl⟩)))
    go_ret
    exact ⟨oneB e.out, rfl⟩
  · rw [h1] at c1
    obtain ⟨k, hk⟩ : ∃ k : Nat, vr l = (k : Int) + 1 := ⟨(vr l - 1).toNat, by have := vr_pos hR h1; omega⟩
    rw [hk] at c2
    by_cases h2 : k < n
    · obtain ⟨g, o, x, rfl, hg, hc, hx⟩ := hV.at h2
      have hd : V.getD k false = x := by simp [List.getD, hx]
      have e : Hid ((x == decide (0 < l)) = tru V l) := by
        show _ = _
        unfold tru
        rw [h1, hk, show (((k : Int) + 1 - 1).toNat) = k by omega, hd, decide_eq_true (p := (k : Int) + 1 ≤ (V.length : Int)) (by omega)]
        rfl
      generalize tru V l = r at *
      have q0 : decide ((k : Int) + 1 ≤ (n : Int)) = true := decide_eq_true (by omega)
      have q3 : IntKind.i64.wrap ((k : Int) + 1 - 1) = k := (wrap_id (z := (k : Int) + 1 - 1) ⟨by omega, by omega⟩).trans (by omega)
      have q4 : wrap64 ((k : Int) + 1 - 1) = k := by rw [w64]; exact q3
      have q5 : 0 ≤ (k : Int) := by omega
      have q6 : (k : Int) < (n : Int) := by omega
      generalize hp : decide (0 < l) = p at *
      have hp' : decide (l > 0) = p := hp
      clear hV hx hd hk hVn h1 hR
      go_enter Try.func48, Try.ntmps48
      go_wp2_with (first
        | (go_at_call 39; ((with_reducible refine c1.mono ?_); rintro e w1 ⟨rfl, rfl⟩))
        | (go_at_call 29; ((with_reducible refine c2.mono ?_); rintro e w1 ⟨rfl, rfl⟩)))
      go_ret
      exact ⟨oneB e.out, rfl⟩
    · have e : Hid (false = tru V l) := by
        show _ = _
        unfold tru
        rw [h1, hk, decide_eq_false (p := (k : Int) + 1 ≤ (V.length : Int)) (by omega)]
        rfl
      generalize tru V l = r at *
      have q0 : decide ((k : Int) + 1 ≤ (n : Int)) = false := decide_eq_false (by omega)
      clear hV hk hVn h1 hR
      go_enter Try.func48, Try.ntmps48
      go_wp2_with (first
        | (go_at_call 39; ((with_reducible refine c1.mono ?_); rintro e w1 ⟨rfl, rfl⟩))
        | (go_at_call 29; ((with_reducible refine c2.mono ?_); rintro e w1 ⟨rfl, rfl⟩)))
      go_ret
      exact ⟨oneB e.out, rfl⟩
theorem hasL_take (X : List Int) (l : Int) (k : Nat) (x : Int) (hx : X[k]? = some x) : hasL (X.take (k + 1)) l = (hasL (X.take k) l || (isL l && x == l)) := by
  rw [List.take_add_one, hx]
  unfold hasL
  rw [Bool.eq_iff_iff]
  simp
  constructor
  · rintro ⟨h, h' | h'⟩
    · exact .inl ⟨h, h'⟩
    · exact .inr ⟨h, h'.symm⟩
  · rintro (⟨h, h'⟩ | ⟨h, h'⟩)
    · exact ⟨h, .inl h'⟩
    · exact ⟨h, .inr h'.symm⟩
theorem hasL_mem {X : List Int} {l : Int} (k : Nat) (hx : X[k]? = some l) (hl : isL l = true) : hasL X l = true := (hasL_iff _ _).2 ⟨hl, List.mem_of_getElem? hx⟩
set_option maxRecDepth 100000 in
theorem RHas_any (A : Option Addr) (n c : Nat) (X : List Int) (l : Int) (w : World) (h : SlI w A n c X) (hn : n ≤ 9223372036854775807) :
    Calls Try.prog 20 #[.slice A n c, .int .i64 l] w fun e w' => e = .returned (.bool (hasL X l)) ∧ w = w' := by
  have c1 := fun W => is_any l W
  have hX := h.1
  have H := Lib.hid h
  have HX := Lib.hid hX
  have Hr : Hid (hasL X l = hasL X l) := rfl
  generalize hq : hasL X l = r at Hr
  have Hq := Lib.hid hq
  have HE : Hid (hasL (X.take 0) l = false) := by show _ = _; simp [hasL]
  have hil : Hid (isL l = isL l) := rfl
  generalize hi : isL l = i0 at *
  have Hi := Lib.hid hi
  clear h hX hq Hr hil hi
  go_enter Try.func20, Try.ntmps20
  go_wp2
  go_loopw [5] (fun i wr0 => ∃ (wr : World) (k : Nat), wr = wr0 ∧ k ≤ n ∧ i = .int .i64 k ∧ Hid (hasL (X.take k) l = false) ∧ Hid (w = wr)) (fun i _ => n - (intOf i).toNat)
  case atStart => exact ⟨_, 0, rfl, by omega, rfl, HE, Lib.hid rfl⟩
  case round =>
    obtain ⟨wr, k, rfl, hk, rfl, hE, hW⟩ := hrel
    by_cases hlt : k < n
    · obtain ⟨g, o, x, rfl, hg, z0, hx⟩ := SlI.at H.out hlt
      have y0 : wr.cell? ⟨g, o + k, none⟩ = some (.int .i64 x) := by rw [← hW.out]; exact z0
      have HE1 : Hid (hasL (X.take (k + 1)) l = (false || (i0 && x == l))) := by
        show _ = _
        rw [hasL_take X l k x hx, hE.out, Hi.out]
      have HM : Hid (i0 = true → x = l → r = true) := by
        show _ → _ → _
        rintro h1 rfl
        rw [← Hq.out]; exact hasL_mem k hx (Hi.out.trans h1)
      have hk0 : 0 ≤ (k : Int) := by omega
      have hk1 : (k : Int) < (n : Int) := by omega
      clear z0 hx hE H
      cases i0
      · go_wp2_with (go_at_call 39; ((with_reducible refine (c1 _).mono ?_); rintro e w1 ⟨rfl, rfl⟩))
        go_roundw
        case rel => exact ⟨_, k + 1, rfl, by omega, by go_num, Lib.hid (by rw [HE1.out]; rfl), hW⟩
        case measure => simp [intOf]; omega
      · by_cases hxl : x = l
        · have q1 : (x == l) = true := by simp [hxl]
          have q2 : Hid (true = r) := (HM.out rfl hxl).symm
          clear HE1 HM hxl
          go_wp2_with (go_at_call 39; ((with_reducible refine (c1 _).mono ?_); rintro e w1 ⟨rfl, rfl⟩))
          go_ret
          exact ⟨oneB q2.out, hW.out⟩
        · have q1 : (x == l) = false := by simp [hxl]
          have HE2 : Hid (hasL (X.take (k + 1)) l = false) := by show _ = _; rw [HE1.out, q1]; rfl
          clear HE1 HM hxl
          go_wp2_with (go_at_call 39; ((with_reducible refine (c1 _).mono ?_); rintro e w1 ⟨rfl, rfl⟩))
          go_roundw
          case rel => exact ⟨_, k + 1, rfl, by omega, by go_num, HE2, hW⟩
          case measure => simp [intOf]; omega
    · obtain rfl : k = n := by omega
      have q2 : Hid (false = r) := by show _ = _; rw [← Hq.out, ← hE.out, List.take_of_length_le (by have := HX.out; omega)]
      clear hE
      go_wp2
      go_ret
      exact ⟨oneB q2.out, hW.out⟩
set_option maxRecDepth 100000 in
theorem Count_any (A : Option Addr) (n c : Nat) (X : List Int) (a : Option Addr) (m d : Nat) (V : List Bool) (w : World) (h : SlI w A n c X) (hr : R64s X) (hV : SlB w a m d V) (hn : n ≤ 1000000000) (hm : m ≤ 9223372036854775807) :
    Calls Try.prog 23 #[.slice A n c, .slice a m d] w fun e w' => e = .returned (.int .i64 (cnt X V : Nat)) ∧ w = w' := by
  have c1 := fun l (hl : R64 l) => holds_any l a m d V w hl hV hm
  have C1 := Lib.hid c1
  have H := Lib.hid h
  have HX := Lib.hid h.1
  have HR := Lib.hid hr
  generalize hq : cnt X V = r
  have Hq := Lib.hid hq
  have HE : Hid (cnt (X.take 0) V = 0) := by show _ = _; simp [cnt]
  clear h hq hV c1 hr
  go_enter Try.func23, Try.ntmps23
  go_wp2
  go_loopw [5, 10] (fun u i wr0 => ∃ (wr : World) (k q : Nat), wr = wr0 ∧ k ≤ n ∧ q ≤ k ∧ i = .int .i64 k ∧ u = .int .i64 q ∧ Hid (cnt (X.take k) V = q) ∧ Hid (w = wr)) (fun u i _ => n - (intOf i).toNat)
  case atStart => exact ⟨_, 0, 0, rfl, by omega, by omega, rfl, rfl, HE, Lib.hid rfl⟩
  case round =>
    obtain ⟨wr, k, q, rfl, hk, hqk, rfl, rfl, hE, hW⟩ := hrel
    by_cases hlt : k < n
    · obtain ⟨g, o, x, rfl, hg, z0, hx⟩ := SlI.at H.out hlt
      have y0 : wr.cell? ⟨g, o + k, none⟩ = some (.int .i64 x) := by rw [← hW.out]; exact z0
      have cx := C1.out x (HR.out x (List.mem_of_getElem? hx))
      rw [hW.out] at cx
      have HE1 : Hid (cnt (X.take (k + 1)) V = q + (if tru V x then 1 else 0)) := by
        show _ = _
        have := hE.out
        unfold cnt at this ⊢
        rw [List.take_add_one, hx, List.filter_append, List.length_append, this]
        congr 1
        simp only [Option.toList_some, List.filter_cons, List.filter_nil]
        split <;> rfl
      have hk0 : 0 ≤ (k : Int) := by omega
      have hk1 : (k : Int) < (n : Int) := by omega
      clear z0 hx hE H
      generalize tru V x = b at *
      cases b
      · go_wp2_with (go_at_call 47; ((with_reducible refine cx.mono ?_); rintro e w1 ⟨rfl, rfl⟩))
        go_roundw
        case rel => exact ⟨_, k + 1, q, rfl, by omega, by omega, by go_num, rfl, Lib.hid (by rw [HE1.out]; rfl), hW⟩
        case measure => simp [intOf]; omega
      · go_wp2_with (go_at_call 47; ((with_reducible refine cx.mono ?_); rintro e w1 ⟨rfl, rfl⟩))
        go_roundw
        case rel => exact ⟨_, k + 1, q + 1, rfl, by omega, by omega, by go_num, by go_num, Lib.hid (by rw [HE1.out]; rfl), hW⟩
        case measure => simp [intOf]; omega
    · obtain rfl : k = n := by omega
      have q2 : Hid (q = r) := by show _ = _; rw [← Hq.out, ← hE.out, List.take_of_length_le (by have := HX.out; omega)]
      clear hE
      go_wp2
      go_ret
      exact ⟨by rw [q2.out]; rfl, hW.out⟩
set_option maxRecDepth 100000 in
theorem RCount_any (A : Option Addr) (n c : Nat) (X : List Int) (a : Option Addr) (m d : Nat) (V : List Bool) (w : World) (h : SlI w A n c X) (hr : R64s X) (hV : SlB w a m d V) (hn : n ≤ 1000000000) (hm : m ≤ 9223372036854775807) :
    Calls Try.prog 24 #[.slice A n c, .slice a m d] w fun e w' => e = .returned (.int .i64 (cnt X V : Nat)) ∧ w = w' := by
  have c1 := fun l (hl : R64 l) => True_any l a m d V w hl hV hm
  have C1 := Lib.hid c1
  have H := Lib.hid h
  have HX := Lib.hid h.1
  have HR := Lib.hid hr
  generalize hq : cnt X V = r
  have Hq := Lib.hid hq
  have HE : Hid (cnt (X.take 0) V = 0) := by show _ = _; simp [cnt]
  clear h hq hV c1 hr
  go_enter Try.func24, Try.ntmps24
  go_wp2
  go_loopw [5, 6] (fun u i wr0 => ∃ (wr : World) (k q : Nat), wr = wr0 ∧ k ≤ n ∧ q ≤ k ∧ i = .int .i64 k ∧ u = .int .i64 q ∧ Hid (cnt (X.take k) V = q) ∧ Hid (w = wr)) (fun u i _ => n - (intOf i).toNat)
  case atStart => exact ⟨_, 0, 0, rfl, by omega, by omega, rfl, rfl, HE, Lib.hid rfl⟩
  case round =>
    obtain ⟨wr, k, q, rfl, hk, hqk, rfl, rfl, hE, hW⟩ := hrel
    by_cases hlt : k < n
    · obtain ⟨g, o, x, rfl, hg, z0, hx⟩ := SlI.at H.out hlt
      have y0 : wr.cell? ⟨g, o + k, none⟩ = some (.int .i64 x) := by rw [← hW.out]; exact z0
      have cx := C1.out x (HR.out x (List.mem_of_getElem? hx))
      rw [hW.out] at cx
      have HE1 : Hid (cnt (X.take (k + 1)) V = q + (if tru V x then 1 else 0)) := by
        show _ = _
        have := hE.out
        unfold cnt at this ⊢
        rw [List.take_add_one, hx, List.filter_append, List.length_append, this]
        congr 1
        simp only [Option.toList_some, List.filter_cons, List.filter_nil]
        split <;> rfl
      have hk0 : 0 ≤ (k : Int) := by omega
      have hk1 : (k : Int) < (n : Int) := by omega
      clear z0 hx hE H
      generalize tru V x = b at *
      cases b
      · go_wp2_with (go_at_call 48; ((with_reducible refine cx.mono ?_); rintro e w1 ⟨rfl, rfl⟩))
        go_roundw
        case rel => exact ⟨_, k + 1, q, rfl, by omega, by omega, by go_num, rfl, Lib.hid (by rw [HE1.out]; rfl), hW⟩
        case measure => simp [intOf]; omega
      · go_wp2_with (go_at_call 48; ((with_reducible refine cx.mono ?_); rintro e w1 ⟨rfl, rfl⟩))
        go_roundw
        case rel => exact ⟨_, k + 1, q + 1, rfl, by omega, by omega, by go_num, by go_num, Lib.hid (by rw [HE1.out]; rfl), hW⟩
        case measure => simp [intOf]; omega
    · obtain rfl : k = n := by omega
      have q2 : Hid (q = r) := by show _ = _; rw [← Hq.out, ← hE.out, List.take_of_length_le (by have := HX.out; omega)]
      clear hE
      go_wp2
      go_ret
      exact ⟨by rw [q2.out]; rfl, hW.out⟩
theorem RHolds_any (A : Option Addr) (n c : Nat) (X : List Int) (a : Option Addr) (m d : Nat) (V : List Bool) (w : World) (h : SlI w A n c X) (hr : R64s X) (hV : SlB w a m d V) (hn : n ≤ 1000000000) (hm : m ≤ 9223372036854775807) :
    Calls Try.prog 22 #[.slice A n c, .slice a m d] w fun e w' => e = .returned (.bool (hld X V)) ∧ w = w' := by
  have c1 := RCount_any A n c X a m d V w h hr hV hn hm
  have e : Hid (decide (0 < cnt X V) = hld X V) := (hld_cnt X V).symm
  generalize hld X V = r at *
  generalize cnt X V = q at *
  clear h hr hV
  go_enter Try.func22, Try.ntmps22
  go_wp2_with (go_at_call 24; ((with_reducible refine c1.mono ?_); rintro e1 w1 ⟨rfl, rfl⟩))
  go_ret
  exact ⟨oneB (by rw [← e.out] <;> simp), rfl⟩
end Go.Proofs.Ytmamecchphockaa.Lt
