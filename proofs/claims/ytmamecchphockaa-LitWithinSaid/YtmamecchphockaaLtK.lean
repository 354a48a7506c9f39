/-
  What is proved: what Resolve returns, the program's and the document's.
-/
import Derived.Test.YtmamecchphockaaLtJ
namespace Go.Proofs.Ytmamecchphockaa.Lt
open Go.RowKit Go.Shelf Go.Maps Go.WideMaps L
set_option linter.unusedVariables false
set_option linter.unusedSimpArgs false

def erL (X Y : List Int) (v : Int) : Int := if can X Y v then (if opp (cl (res X Y v)) then 4 else 0) else 1
theorem isV_any (x v : Int) (B : Nat) (W : World) (hc : W.cell? ⟨B, 0, none⟩ = some (.int .i64 v)) :
    FnGives Try.prog 49 #[.pointer (some ⟨B, 0, none⟩)] #[.int .i64 x] (.bool (x == v)) W := by
  show Calls Try.prog 49 #[.int .i64 x, .pointer (some ⟨B, 0, none⟩)] W _
  generalize hq : (x == v) = q
  go_enter Try.func49, Try.ntmps49
  go_wp2
  go_ret
  exact ⟨rfl, 0, rfl⟩
theorem isO_any (x v : Int) (B : Nat) (W : World) (hc : W.cell? ⟨B, 0, none⟩ = some (.int .i64 v)) :
    FnGives Try.prog 50 #[.pointer (some ⟨B, 0, none⟩)] #[.int .i64 x] (.bool (x == ng v)) W := by
  show Calls Try.prog 50 #[.int .i64 x, .pointer (some ⟨B, 0, none⟩)] W _
  rw [ng64]
  generalize hq : (x == wrap64 (-v)) = q
  go_enter Try.func50, Try.ntmps50
  go_wp2
  go_ret
  exact ⟨rfl, 0, rfl⟩
/-- what Resolve hands back -/
def RtR (w : World) (b : Nat) (L : List Int) (e0 : Int) (e : Ending) (w' : World) : Prop := ∃ A q c, e = .returned (.tuple #[.slice A q c, .int .i64 e0]) ∧ SlI w' A q c L ∧ q ≤ b ∧ Below w.heap.size w w'
theorem RtR.no {w w' : World} (b : Nat) {e0 : Int} (hb : Below w.heap.size w w') : RtR w b [] e0 (.returned (.tuple #[.slice none 0 0, .int .i64 e0])) w' := ⟨none, 0, 0, rfl, SlI.nil _, Nat.zero_le _, hb⟩
theorem rs_no {X Y : List Int} {v : Int} (h : can X Y v = false) : rsL X Y v = [] ∧ erL X Y v = 1 := by unfold rsL erL; rw [h]; exact ⟨rfl, rfl⟩
theorem rs_same {X Y : List Int} {v : Int} (h : can X Y v = true) (ho : opp (cl (res X Y v)) = true) : rsL X Y v = [] ∧ erL X Y v = 4 := by unfold rsL erL; rw [h, ho]; exact ⟨rfl, rfl⟩
theorem rs_yes {X Y : List Int} {v : Int} (h : can X Y v = true) (ho : opp (cl (res X Y v)) = false) : rsL X Y v = cl (res X Y v) ∧ erL X Y v = 0 := by unfold rsL erL; rw [h, ho]; exact ⟨rfl, rfl⟩

set_option maxRecDepth 100000 in
set_option maxHeartbeats 4000000 in
theorem Resolve_any (A : Option Addr) (n c : Nat) (X : List Int) (A' : Option Addr) (n' c' : Nat) (Y : List Int) (v : Int) (w : World) (h : SlI w A n c X) (hr : R64s X) (hn : n ≤ 100000) (h' : SlI w A' n' c' Y) (hr' : R64s Y) (hn' : n' ≤ 100000) :
    Calls Try.prog 27 #[.slice A n c, .slice A' n' c', .int .i64 v] w fun e w' => RtR w (n + n') (rsL X Y v) (erL X Y v) e w' := by
  obtain ⟨W, hW⟩ : ∃ W, w.alloc (.cells #[.int .i64 v] 3) = W := ⟨_, rfl⟩
  have hB : Below w.heap.size w W := by rw [← hW]; exact bel_alloc (Below.refl _ _) _
  have hs : w.heap.size < W.heap.size := by rw [← hW]; simp
  have hc : W.cell? ⟨w.heap.size, 0, none⟩ = some (.int .i64 v) := by rw [← hW, World.cell?_alloc_at _ _ _ _ rfl]; rfl
  have cX := Has_any A n c X v W (h.below hB) (by omega)
  have cY := Has_any A' n' c' Y (ng v) W (h'.below hB) (by omega)
  have e1 : ∀ args w, (callFunc 49 args).run Try.prog w = .ok (.enter 49 args) w := enters_of Try.func49 (by kernel_rfl) rfl
  have e2 : ∀ args w, (callFunc 50 args).run Try.prog w = .ok (.enter 50 args) w := enters_of Try.func50 (by kernel_rfl) rfl
  have cL := without_any A n c X W (h.below hB) (by omega) (fun x => x == v) 49 #[.pointer (some ⟨w.heap.size, 0, none⟩)] e1 (fun W' x hK => isV_any x v w.heap.size W' ((hK.cell hs).trans hc))
  have CR := Lib.hid (fun w1 (hb : Below W.heap.size W w1) => without_any A' n' c' Y w1 ((h'.below hB).below hb) (by omega) (fun x => x == ng v) 50 #[.pointer (some ⟨w.heap.size, 0, none⟩)] e2 (fun W' x hK => isO_any x v w.heap.size W' ((hK.cell (by have := hb.size; omega)).trans ((hb.cell (p := ⟨w.heap.size, 0, none⟩) hs).trans hc))))
  have hcan : can X Y v = (hasL X v && hasL Y (ng v)) := rfl
  have hres : (X.filter fun x => !(x == v)) ++ (Y.filter fun x => !(x == ng v)) = res X Y v := rfl
  have hl1 : (X.filter fun x => !(x == v)).length ≤ n := by rw [h.1]; exact List.length_filter_le _ _
  have hl2 : (Y.filter fun x => !(x == ng v)).length ≤ n' := by rw [h'.1]; exact List.length_filter_le _ _
  have hrr := res_r (v := v) hr hr'
  have CC := Lib.hid (fun w1 A1 q1 k1 (hs : SlI w1 A1 q1 k1 (res X Y v)) (hq : q1 ≤ 1000000) => Clean_any A1 q1 k1 (res X Y v) w1 hs hrr hq)
  have Hno := Lib.hid (fun (hx : can X Y v = false) => rs_no hx)
  have Hsame := Lib.hid (fun (hx : can X Y v = true) (ho : opp (cl (res X Y v)) = true) => rs_same hx ho)
  have Hyes := Lib.hid (fun (hx : can X Y v = true) (ho : opp (cl (res X Y v)) = false) => rs_yes hx ho)
  generalize rsL X Y v = RS at *
  generalize erL X Y v = ER at *
  rw [hcan] at Hno Hsame Hyes
  generalize hR1 : (X.filter fun x => !(x == v)) = R1 at *
  generalize hR2 : (Y.filter fun x => !(x == ng v)) = R2 at *
  generalize hR : res X Y v = R at *
  generalize hasL X v = bx at *
  generalize hasL Y (ng v) = by' at *
  rw [ng64] at cY
  have HR := Lib.hid hres
  have HL1 := Lib.hid hl1
  have HL2 := Lib.hid hl2
  clear h hr h' hr' hs e1 e2 hcan hres hl1 hl2 hrr hR1 hR2 hR
  cases bx
  · obtain ⟨x1, x2⟩ := Hno.out rfl
    subst x1 x2
    go_enter Try.func27, Try.ntmps27
    go_wp2_with (go_at_call 19; ((with_reducible refine cX.mono ?_); rintro e w1 ⟨rfl, rfl⟩))
    go_ret2
    exact RtR.no _ hB
  · cases by'
    · obtain ⟨x1, x2⟩ := Hno.out rfl
      subst x1 x2
      go_enter Try.func27, Try.ntmps27
      go_wp2_with (first
        | (go_at_call 19; ((with_reducible refine cX.mono ?_); rintro e w1 ⟨rfl, rfl⟩))
        | (go_at_call 19; ((with_reducible refine cY.mono ?_); rintro e w1 ⟨rfl, rfl⟩)))
      go_ret2
      exact RtR.no _ hB
    · have HQ : Hid (∀ wE AE qE kE, SlI wE AE qE kE (cl R) → qE ≤ n + n' → Below w.heap.size w wE → (opp (cl R) = true → RtR w (n + n') RS ER (.returned (.tuple #[.slice none 0 0, .int .i64 4])) wE) ∧ (opp (cl R) = false → RtR w (n + n') RS ER (.returned (.tuple #[.slice AE qE kE, .int .i64 0])) wE)) := Lib.hid fun wE AE qE kE hE hqE hbE => ⟨fun ho => by
          obtain ⟨x1, x2⟩ := Hsame.out rfl ho
          rw [x1, x2]
          exact RtR.no _ hbE, fun ho => by
          obtain ⟨x1, x2⟩ := Hyes.out rfl ho
          rw [x1, x2]
          exact ⟨AE, qE, kE, rfl, hE, hqE, hbE⟩⟩
      clear Hno Hsame Hyes
      generalize hop : opp (cl R) = z at *
      clear hop
      have hsz : R1.length + R2.length ≤ 1000000 := by have := HL1.out; have := HL2.out; omega
      go_enter Try.func27, Try.ntmps27
      go_wp2_with (first
        | (go_at_call 19; ((with_reducible refine cX.mono ?_); rintro e w1 ⟨rfl, rfl⟩))
        | (go_at_call 19; ((with_reducible refine cY.mono ?_); rintro e w1 ⟨rfl, rfl⟩))
        | (go_at_call 30; ((with_reducible refine cL.mono ?_); rintro e w1 ⟨A1, n1, k1, rfl, hn1, ho1, hb1⟩; have cR := CR.out w1 hb1; have Ho1 := Lib.hid ho1; have Hn1 := Lib.hid hn1; clear ho1 hn1 cL))
        | (go_at_call 30; ((with_reducible refine cR.mono ?_); rintro e w2 ⟨A2, n2, k2, rfl, hn2, ho2, hb2⟩; have hoL := Ho1.out.b hb2; have hS2 := ho2.sl.2.2; have Hn2 := Lib.hid hn2; have B2 := bel_trans hb1 hb2; clear ho2 hn2 cR))
        | (at_builtin; ((refine app_ints rfl (.tmp 30) (.tmp 31) rfl W.heap.size _ R1 rfl hoL A2 n2 k2 R2 rfl hS2 (by have := Hn2.out; omega) B2.size ?_); intro v3 w3 ho3 hg3; have B3 : Below W.heap.size W w3 := B2.grown hg3 B2.size (fun q hq => (hoL.lt q hq).1); rw [HR.out] at ho3; obtain ⟨A3, k3, hv3, -⟩ := ho3.slice; subst hv3; have hS3 := ho3.sl.2.2; have hRl : R.length ≤ n + n' := (by rw [← HR.out, List.length_append]; have := HL1.out; have := HL2.out; omega); have HRl := Lib.hid hRl; have cC := CC.out w3 A3 R.length k3 hS3 (by omega); clear ho3 hS3 hRl hoL hS2))
        | (go_at_call 10; ((with_reducible refine cC.mono ?_); rintro e w4 ⟨A4, q4, k4, rfl, hS4, hq4, hb4⟩; have HF := HQ.out w4 A4 q4 k4 hS4 (by have := HRl.out; omega) (bel_trans (bel_trans hB B3) hb4); clear hS4; cases z)))
      · go_ret2
        exact HF.2 (by trivial)
      · go_ret2
        exact HF.1 (by trivial)
theorem filt_take (X : List Int) (k : Nat) (x : Int) (p : Int → Bool) (hx : X[k]? = some x) : (X.take (k + 1)).filter p = (X.take k).filter p ++ (if p x then [x] else []) := by
  rw [List.take_add_one, hx, List.filter_append]
  simp only [Option.toList_some, List.filter_cons, List.filter_nil]
set_option maxRecDepth 100000 in
set_option maxHeartbeats 4000000 in
theorem RResolve_any (A : Option Addr) (n c : Nat) (X : List Int) (A' : Option Addr) (n' c' : Nat) (Y : List Int) (v : Int) (w : World) (h : SlI w A n c X) (hr : R64s X) (hn : n ≤ 100000) (h' : SlI w A' n' c' Y) (hr' : R64s Y) (hn' : n' ≤ 100000) :
    Calls Try.prog 28 #[.slice A n c, .slice A' n' c', .int .i64 v] w fun e w' => RtR w (n + n') (rsL X Y v) (erL X Y v) e w' := by
  have hB := Below.refl w.heap.size w
  have ci := is_any v w
  have cX := RHas_any A n c X v w h (by omega)
  have cY := RHas_any A' n' c' Y (ng v) w h' (by omega)
  have hcan : can X Y v = (hasL X v && hasL Y (ng v)) := rfl
  have hhas : isL v = false → hasL X v = false := fun e => by unfold hasL; rw [e]; rfl
  have hres : (X.filter fun x => !(x == v)) ++ (Y.filter fun x => !(x == ng v)) = res X Y v := rfl
  have hl1 : (X.filter fun x => !(x == v)).length ≤ n := by rw [h.1]; exact List.length_filter_le _ _
  have hl2 : (Y.filter fun x => !(x == ng v)).length ≤ n' := by rw [h'.1]; exact List.length_filter_le _ _
  have hrr := res_r (v := v) hr hr'
  have CC := Lib.hid (fun w1 A1 q1 k1 (hs : SlI w1 A1 q1 k1 (res X Y v)) (hq : q1 ≤ 1000000) => RClean_any A1 q1 k1 (res X Y v) w1 hs hrr hq)
  have Hno := Lib.hid (fun (hx : can X Y v = false) => rs_no hx)
  have Hsame := Lib.hid (fun (hx : can X Y v = true) (ho : opp (cl (res X Y v)) = true) => rs_same hx ho)
  have Hyes := Lib.hid (fun (hx : can X Y v = true) (ho : opp (cl (res X Y v)) = false) => rs_yes hx ho)
  generalize rsL X Y v = RS at *
  generalize erL X Y v = ER at *
  rw [hcan] at Hno Hsame Hyes
  generalize hR : res X Y v = R at *
  have HR := Lib.hid hres
  have HL1 := Lib.hid hl1
  have HL2 := Lib.hid hl2
  have HX := Lib.hid h.1
  have HY := Lib.hid h'.1
  have H := Lib.hid h
  have H' := Lib.hid h'
  have Hhas := Lib.hid hhas
  generalize hasL X v = bx at *
  generalize hasL Y (ng v) = by' at *
  rw [ng64] at cY
  clear h hr h' hr' hcan hres hl1 hl2 hrr hR hhas
  cases hiv : isL v
  · obtain rfl := Hhas.out hiv
    rw [hiv] at ci
    obtain ⟨x1, x2⟩ := Hno.out rfl
    subst x1 x2
    go_enter Try.func28, Try.ntmps28
    go_wp2_with (go_at_call 39; ((with_reducible refine ci.mono ?_); rintro e w1 ⟨rfl, rfl⟩))
    go_ret2
    exact RtR.no _ hB
  rw [hiv] at ci
  clear hiv
  cases bx
  · obtain ⟨x1, x2⟩ := Hno.out rfl
    subst x1 x2
    go_enter Try.func28, Try.ntmps28
    go_wp2_with (first
      | (go_at_call 39; ((with_reducible refine ci.mono ?_); rintro e w1 ⟨rfl, rfl⟩))
      | (go_at_call 20; ((with_reducible refine cX.mono ?_); rintro e w1 ⟨rfl, rfl⟩)))
    go_ret2
    exact RtR.no _ hB
  cases by'
  · obtain ⟨x1, x2⟩ := Hno.out rfl
    subst x1 x2
    go_enter Try.func28, Try.ntmps28
    go_wp2_with (first
      | (go_at_call 39; ((with_reducible refine ci.mono ?_); rintro e w1 ⟨rfl, rfl⟩))
      | (go_at_call 20; ((with_reducible refine cX.mono ?_); rintro e w1 ⟨rfl, rfl⟩))
      | (go_at_call 20; ((with_reducible refine cY.mono ?_); rintro e w1 ⟨rfl, rfl⟩)))
    go_ret2
    exact RtR.no _ hB
  have HQ : Hid (∀ wE AE qE kE, SlI wE AE qE kE (cl R) → qE ≤ n + n' → Below w.heap.size w wE → (opp (cl R) = true → RtR w (n + n') RS ER (.returned (.tuple #[.slice none 0 0, .int .i64 4])) wE) ∧ (opp (cl R) = false → RtR w (n + n') RS ER (.returned (.tuple #[.slice AE qE kE, .int .i64 0])) wE)) := Lib.hid fun wE AE qE kE hE hqE hbE => ⟨fun ho => by
      obtain ⟨x1, x2⟩ := Hsame.out rfl ho
      rw [x1, x2]
      exact RtR.no _ hbE, fun ho => by
      obtain ⟨x1, x2⟩ := Hyes.out rfl ho
      rw [x1, x2]
      exact ⟨AE, qE, kE, rfl, hE, hqE, hbE⟩⟩
  clear Hno Hsame Hyes
  generalize hop : opp (cl R) = z at *
  clear hop
  have HLn : Hid (∀ k, ((X.take k).filter fun x => !(x == v)).length ≤ n ∧ ((Y.take k).filter fun x => !(x == ng v)).length ≤ n') := Lib.hid fun k => ⟨by
      have h1 := List.length_filter_le (fun x => !(x == v)) (X.take k)
      have h2 := HX.out
      rw [List.length_take] at h1; omega, by
      have h1 := List.length_filter_le (fun x => !(x == ng v)) (Y.take k)
      have h2 := HY.out
      rw [List.length_take] at h1; omega⟩
  have H0 : Hid (OwnI w w.heap.size (.slice none 0 0) ((X.take 0).filter fun x => !(x == v))) := Lib.hid (OwnI.nil _ _)
  have HB := Lib.hid hB
  have HN64 := Lib.hid (ng64 v)
  clear hB
  go_enter Try.func28, Try.ntmps28
  go_wp2_with (first
    | (go_at_call 39; ((with_reducible refine ci.mono ?_); rintro e w1 ⟨rfl, rfl⟩))
    | (go_at_call 20; ((with_reducible refine cX.mono ?_); rintro e w1 ⟨rfl, rfl⟩))
    | (go_at_call 20; ((with_reducible refine cY.mono ?_); rintro e w1 ⟨rfl, rfl⟩)))
  go_loopw [8, 9] (fun u i wr0 => ∃ (wr : World) (k : Nat) (vv : Value), wr = wr0 ∧ k ≤ n ∧ vv = u ∧ i = .int .i64 k ∧ Hid (OwnI wr w.heap.size vv ((X.take k).filter fun x => !(x == v))) ∧ Hid (Below w.heap.size w wr)) (fun _ i _ => n - (intOf i).toNat)
  case atStart => exact ⟨_, 0, _, rfl, by omega, rfl, rfl, H0, HB⟩
  case round =>
   obtain ⟨wr, k, vv, rfl, hk, rfl, rfl, hO, hBr⟩ := hrel
   by_cases hlt : k < n
   · obtain ⟨g, o, x, rfl, hg, z0, hx⟩ := SlI.at H.out hlt
     have y0 := (hBr.out.cell (p := ⟨g, _, none⟩) hg).trans z0
     have Y0 := Lib.hid y0
     have hk0 : 0 ≤ (k : Int) := by omega
     have hk1 : (k : Int) < (n : Int) := by omega
     have hT := filt_take X k x (fun x => !(x == v)) hx
     have HT := Lib.hid hT
     clear z0 hx hT
     cases hxv : (x == v)
     · have q1 : (x != v) = true := by simp only [bne, hxv]; rfl
       have ho := hO.out
       have hs := hBr.out.size
       have hB2 : Below wr.heap.size wr (wr.alloc (.cells #[.int .i64 x] 3)) := bel_alloc (Below.refl _ _) _
       have ho2 := ho.b hB2
       have B2 := bel_trans hBr.out hB2
       have hln := HLn.out
       clear ho hO
       go_wp2_with (at_builtin; ((refine app_ints rfl (.tmp 41) (.tmp 46) rfl w.heap.size _ _ rfl ho2 _ 1 1 [x] rfl one_sl (by have := (hln k).1; simp; omega) B2.size ?_); intro v3 w3 ho3 hg3; have B3 := Lib.hid (B2.grown hg3 B2.size (fun q hq => (ho2.lt q hq).1))))
       go_roundw
       case rel => exact ⟨_, k + 1, v3, rfl, by omega, rfl, by go_num, Lib.hid (by rw [HT.out, hxv]; exact ho3), B3⟩
       case measure => simp [intOf]; omega
     · have q1 : (x != v) = false := by simp only [bne, hxv]; rfl
       go_wp2
       go_roundw
       case rel => exact ⟨_, k + 1, vv, rfl, by omega, rfl, by go_num, Lib.hid (by rw [HT.out, hxv]; rw [if_neg (by simp), List.append_nil]; exact hO.out), hBr⟩
       case measure => simp [intOf]; omega

   · obtain rfl : n = k := by omega
     have hO1 : OwnI wr w.heap.size vv ((X.filter fun x => !(x == v)) ++ (Y.take 0).filter fun x => !(x == ng v)) := by
       have := hO.out
       rw [List.take_of_length_le (by have := HX.out; omega)] at this
       simpa using this
     generalize hF : (X.filter fun x => !(x == v)) = F at *
     have HO1 := Lib.hid hO1
     clear hO hO1 hF
     go_wp2
     go_loopw [8, 10] (fun u i wr0 => ∃ (wq : World) (j : Nat) (vq : Value), wq = wr0 ∧ j ≤ n' ∧ vq = u ∧ i = .int .i64 j ∧ Hid (OwnI wq w.heap.size vq (F ++ (Y.take j).filter fun x => !(x == ng v))) ∧ Hid (Below w.heap.size w wq)) (fun _ i _ => n' - (intOf i).toNat)
     case atStart => exact ⟨_, 0, _, rfl, by omega, rfl, rfl, HO1, hBr⟩
     case round =>
      clear HO1 hBr H0
      obtain ⟨wr, k, vv, rfl, hk, rfl, rfl, hO, hBr⟩ := hrel
      by_cases hlt : k < n'
      · obtain ⟨g, o, x, rfl, hg, z0, hx⟩ := SlI.at H'.out hlt
        have y0 := (hBr.out.cell (p := ⟨g, _, none⟩) hg).trans z0
        have Y0 := Lib.hid y0
        have hk0 : 0 ≤ (k : Int) := by omega
        have hk1 : (k : Int) < (n' : Int) := by omega
        have hT := filt_take Y k x (fun x => !(x == ng v)) hx
        have HT := Lib.hid hT
        clear z0 hx hT
        cases hxv : (x == wrap64 (-v))
        · have q1 : (x != wrap64 (-v)) = true := by simp only [bne, hxv]; rfl
          have ho := hO.out
          have hs := hBr.out.size
          have hB2 : Below wr.heap.size wr (wr.alloc (.cells #[.int .i64 x] 3)) := bel_alloc (Below.refl _ _) _
          have ho2 := ho.b hB2
          have B2 := bel_trans hBr.out hB2
          have hln := HLn.out
          clear ho hO
          go_wp2_with (at_builtin; ((refine app_ints rfl (.tmp 61) (.tmp 66) rfl w.heap.size _ _ rfl ho2 _ 1 1 [x] rfl one_sl (by have := (hln k).2; have := HL1.out; simp; omega) B2.size ?_); intro v3 w3 ho3 hg3; have B3 := Lib.hid (B2.grown hg3 B2.size (fun q hq => (ho2.lt q hq).1))))
          go_roundw
          case rel => exact ⟨_, k + 1, v3, rfl, by omega, rfl, by go_num, Lib.hid (by rw [HT.out, HN64.out, hxv]; rw [if_pos (by simp), ← List.append_assoc, ← HN64.out]; exact ho3), B3⟩
          case measure => simp [intOf]; omega
        · have q1 : (x != wrap64 (-v)) = false := by simp only [bne, hxv]; rfl
          go_wp2
          go_roundw
          case rel => exact ⟨_, k + 1, vv, rfl, by omega, rfl, by go_num, Lib.hid (by rw [HT.out, HN64.out, hxv]; rw [if_neg (by simp), List.append_nil, ← HN64.out]; exact hO.out), hBr⟩
          case measure => simp [intOf]; omega

      · obtain rfl : n' = k := by omega
        have ho := hO.out
        rw [List.take_of_length_le (by have := HY.out; omega), HR.out] at ho
        obtain ⟨A3, k3, rfl, -⟩ := ho.slice
        have hRl : R.length ≤ n + n' := by rw [← HR.out, List.length_append]; have := HL1.out; have := HL2.out; omega
        have HRl := Lib.hid hRl
        have cC := CC.out wr A3 R.length k3 ho.sl.2.2 (by omega)
        clear ho hO hRl
        go_wp2_with (go_at_call 11; ((with_reducible refine cC.mono ?_); rintro e w4 ⟨A4, q4, k4, rfl, hS4, hq4, hb4⟩; have HF := HQ.out w4 A4 q4 k4 hS4 (by have := HRl.out; omega) (bel_trans hBr.out hb4); clear hS4; cases z))
        · go_ret2
          exact HF.2 (by trivial)
        · go_ret2
          exact HF.1 (by trivial)
end Go.Proofs.Ytmamecchphockaa.Lt
