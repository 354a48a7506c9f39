/-
  What is proved: the document's Term of layer 11.
-/
import Derived.Test.YtnodcpifbcabmaaZMtN
import Derived.Test.YtnodcpifbcabmaaZMtG
namespace Go.Proofs.Ytnodcpifbcabmaa.Mt
open Go.RowKit L T C B U
set_option linter.unusedVariables false
set_option linter.unusedSimpArgs false

set_option maxHeartbeats 4000000 in
theorem told_yes (A : Option Addr) (n c : Nat) (w : World) : Calls Try.prog 69 #[.slice A n c, .bool true] w fun e w' => e = .returned (.tuple #[.slice A n c, .bool true]) ∧ w = w' := by
  go_enter Try.func69, Try.ntmps69
  go_wp2
  go_ret2
  exact ⟨rfl, rfl⟩
set_option maxHeartbeats 4000000 in
theorem told_no (A : Option Addr) (n c : Nat) (w : World) : Calls Try.prog 69 #[.slice A n c, .bool false] w fun e w' => e = .returned (.tuple #[.slice none 0 0, .bool false]) ∧ w = w' := by
  go_enter Try.func69, Try.ntmps69
  go_wp2
  go_ret2
  exact ⟨rfl, rfl⟩
/-- what told makes of an answer -/
def toldS (ok : Bool) (A : Option Addr) (n c : Nat) : Value := if ok then .slice A n c else .slice none 0 0
theorem told_any (ok : Bool) (A : Option Addr) (n c : Nat) (w : World) : Calls Try.prog 69 #[.slice A n c, .bool ok] w fun e w' => e = .returned (.tuple #[toldS ok A n c, .bool ok]) ∧ w = w' := by
  cases ok with
  | true => exact told_yes A n c w
  | false => exact told_no A n c w
theorem told_fin {r : Option (List Pr)} {w w' : World} {A : Option Addr} {n c : Nat} (h : ∀ l', r = some l' → UsW w' A n c l') (hb : Below w.heap.size w w') : RtPs r w (.returned (.tuple #[toldS r.isSome A n c, .bool r.isSome])) w' := by
  cases r with
  | none => exact ⟨none, 0, 0, rfl, UsW.nil _, hb⟩
  | some l => exact ⟨A, n, c, rfl, h l rfl, hb⟩
set_option maxRecDepth 100000 in
set_option maxHeartbeats 4000000 in
theorem Term11_any (X : List ByteArray) (p t : Tm) (a : Option Addr) (n c : Nat) (a' : Option Addr) (n' c' : Nat) (aX : Option Addr) (nX cX : Nat) (w : World) (hsz : size p ≤ 1000000) (hP : ArW w p a n c) (hT : ArW w t a' n' c') (hX : IsS w aX nX X) (hnX : nX ≤ 9223372036854775807) :
    Calls Try.prog 37 #[.agg #[.int .i64 (opT p), .string (nameT p), .int .i64 (numT p), .slice a n c], .agg #[.int .i64 (opT t), .string (nameT t), .int .i64 (numT t), .slice a' n' c'], .slice aX nX cX] w fun e w' => RtPs (mat X p [] t) w e w' := by
  obtain ⟨W2, hW2, hB2, hs2, S2, T2⟩ := box2 w (opT p) (nameT p) (numT p) a n c (opT t) (nameT t) (numT t) a' n' c'
  have cm := More11_any X p [] t none 0 0 a n c a' n' c' aX nX cX W2 (by simp; omega) (UsW.nil _) (ArW.b hP hB2) (ArW.b hT hB2) (hX.below hB2) hnX
  have ct := fun (ok : Bool) (A : Option Addr) (N C : Nat) (w' : World) => told_any ok A N C w'
  obtain ⟨s0, s1, s2, s3⟩ := S2.four
  obtain ⟨t0, t1, t2, t3⟩ := T2.four
  unfold RtK at cm
  have HB := Lib.hid hB2
  have HF := Lib.hid (show ∀ (A : Option Addr) (N C : Nat) (w' : World), (∀ l', mat X p [] t = some l' → UsW w' A N C l') → Below W2.heap.size W2 w' → RtPs (mat X p [] t) w (.returned (.tuple #[toldS (mat X p [] t).isSome A N C, .bool (mat X p [] t).isSome])) w' from fun A N C w' h hb => told_fin h (bel_trans hB2 hb))
  clear S2 T2 hP hT hX
  generalize mat X p [] t = R at *
  generalize hok : R.isSome = ok at *
  generalize opT p = op at *
  generalize nameT p = nm at *
  generalize numT p = nz at *
  generalize opT t = ot at *
  generalize nameT t = nt at *
  generalize numT t = zt at *
  clear hok
  go_enter Try.func37, Try.ntmps37
  go_wp2_with (first
    | (go_at_call 70; ((with_reducible refine cm.mono ?_); rintro e w3 ⟨A, N, C, rfl, hU, hb3⟩; have HU := Lib.hid hU; clear hU))
    | (go_at_call 69; ((with_reducible refine (ct _ _ _ _ _).mono ?_); rintro e w4 ⟨rfl, rfl⟩)))
  go_ret2
  exact HF.out _ _ _ _ HU.out hb3
end Go.Proofs.Ytnodcpifbcabmaa.Mt
