/-
  What is proved: the texts of a function; an argument that is a function reads as such.
-/
import Derived.Test.YtndhhmebaboeaaaGreatDoorZShAl
import Derived.Test.YtndhhmebaboeaaaGreatDoorSE
import Derived.Test.YtndhhmebaboeaaaGreatDoorZLibV
import Derived.Test.YtndhhmebaboeaaaGreatDoorBT
import Derived.Lib.SmallJoins
import Derived.Deep.Slices
import Derived.Deep.Fields
import Derived.ChangeArms
import Derived.OpenShut
namespace Go.Proofs.YtndhhmebaboeaaaGreatDoor.Sh
open Go.RowKit Go.Deep Go.ChangeShapes Go.WideShapes Go.Joins L T C
set_option linter.unusedVariables false
set_option linter.unusedSimpArgs false
set_option maxRecDepth 100000

theorem joinA (g o n c : Nat) (X : List ByteArray) (w : World) (hR : RowS w g o X) (hg : g < w.heap.size) (hn : n = X.length) (h1 : n ≤ 1000000000) (hc : n ≤ c) (ht : tot X ≤ 100000000000) :
    Calls Tryz.prog 44 #[.slice (some ⟨g, o, none⟩) n c, .string ⟨#[44, 32]⟩] w fun e w' => e = .returned (.string (joinC X)) ∧ Below w.heap.size w w' := by
  subst hn
  have hj := joinC_size X
  have c := Tryz.strings_Join g o c X ⟨#[44, 32]⟩ w (fun j x hx => by
    obtain ⟨hlt, rfl⟩ := List.getElem?_eq_some_iff.1 hx
    exact hR j hlt) hg (by omega) hc (by
    have h2 : (Lib.join (X.map (·.data.toList)) [44, 32]).length = (joinC X).size := by
      rw [← join_is X]; show _ = Array.size _; simp
    show (Lib.join (X.map (·.data.toList)) [44, 32]).length ≤ _
    rw [h2]; omega)
  refine c.mono fun e w' ⟨he, hb⟩ => ⟨?_, hb⟩
  rw [he, ← join_is X]
theorem join_sl (a : Option Addr) (n c : Nat) (X : List ByteArray) (w : World) (hS : SlS w a n c X) (h1 : n ≤ 1000000000) (ht : tot X ≤ 100000000000) :
    Calls Tryz.prog 44 #[.slice a n c, .string ⟨#[44, 32]⟩] w fun e w' => e = .returned (.string (joinC X)) ∧ Below w.heap.size w w' := by
  by_cases hn : n = 0
  · subst hn
    obtain rfl : X = [] := List.eq_nil_of_length_eq_zero hS.1.1.symm
    exact (Tryz.strings_Join_none a c ⟨#[44, 32]⟩ w).mono fun e w' ⟨he, hb⟩ => ⟨he, hb ▸ Below.refl _ _⟩
  · obtain ⟨b, o, rfl, hb, hr⟩ := hS.1.2 (by omega)
    exact joinA b o n c X w hr hb hS.1.1 h1 hS.2.1 ht

/-! a function by value -/
structure Fv where
  nm : ByteArray
  a : Option Addr
  n : Nat
  c : Nat
  X : List ByteArray
  res : ByteArray
def Fv.val (f : Fv) : Value := .agg #[.string f.nm, .slice f.a f.n f.c, .string f.res]
def Fv.ok (f : Fv) (w : World) : Prop := SlS w f.a f.n f.c f.X ∧ f.nm.size ≤ 9223372036854775807 ∧ f.res.size ≤ 9223372036854775807 ∧ sizedS f.X ∧ f.n ≤ 9223372036854775807
section
variable {H : Type} {enc : TypeId × Value → H} {W : World}
theorem strs_cell {v : Value} {fuel : Nat} {y : DataW H × List MemPlace} (h : DataW.trod enc Tryz.prog W 0 (fun _ => true) true fuel 48 [v] = some y) : ∃ A n c X, v = .slice A n c ∧ n ≤ 9223372036854775807 ∧ SlS W A n c X ∧ sizedS X := by
  rcases open_strings Tryz.underlying48 Tryz.underlying9 (by kernel_rfl) h with ⟨hcs, _⟩ | ⟨ad, len, cap, ss, hcs, _⟩
  · obtain rfl : v = .slice none 0 0 := by simpa using hcs
    obtain ⟨X, h1, h2, h3⟩ := strs_open (enc := enc) (W := W) (a := none) (n := 0) (c := 0) (d := y.1) (p := y.2) (sp := fun _ => true) ⟨fuel, by simpa [Value.cells] using h⟩
    exact ⟨_, _, _, X, rfl, h1, h2, h3⟩
  · obtain rfl : v = .slice (some ad) len cap := by simpa using hcs
    obtain ⟨X, h1, h2, h3⟩ := strs_open (enc := enc) (W := W) (a := some ad) (n := len) (c := cap) (d := y.1) (p := y.2) (sp := fun _ => true) ⟨fuel, by simpa [Value.cells] using h⟩
    exact ⟨_, _, _, X, rfl, h1, h2, h3⟩
theorem str_cell {v : Value} {fuel : Nat} {y : DataW H × List MemPlace} (h : DataW.trod enc Tryz.prog W 0 (fun _ => true) true fuel 9 [v] = some y) : ∃ s : ByteArray, v = .string s ∧ s.size ≤ 9223372036854775807 := by
  obtain ⟨s, e, _, hs⟩ := DataW.trod_string Tryz.underlying9 h
  exact ⟨s, by simpa using e, by unfold maxLen at hs; omega⟩
theorem fun_open_all {r : Reach} {b0 : Nat} {v : Value} {d : DataW H} {p : List MemPlace} (hv : Value.okWide Tryz.prog W r b0 50 v) (h : DataW.Trod enc Tryz.prog W 0 (fun _ => true) true 50 v d p) :
    ∃ f : Fv, v = f.val ∧ f.ok W := by
  obtain ⟨v0, v1, v2, y0, y1, y2, n, rfl, _, _, g0, g1, g2⟩ := open_agg3 Tryz.underlying50 (by kernel_rfl) (by kernel_rfl) hv h
  obtain ⟨s, rfl, hs⟩ := str_cell g0
  obtain ⟨A, m, c, X, rfl, hm, hX, hz⟩ := strs_cell g1
  obtain ⟨r, rfl, hr⟩ := str_cell g2
  exact ⟨⟨s, A, m, c, X, r⟩, rfl, hX, hs, hr, hz, hm⟩
end
/-- the text of a function -/
def funT (nm : ByteArray) (X : List ByteArray) (res : ByteArray) : ByteArray :=
  if (res.toList == [66, 111, 111, 108]) = true then (if X.length = 0 then ⟨#[112, 114, 101, 100, 32]⟩ ++ nm else ((⟨#[112, 114, 101, 100, 32]⟩ ++ nm) ++ ⟨#[58, 32]⟩) ++ joinC X)
  else if X.length = 0 then ((⟨#[102, 117, 110, 32]⟩ ++ nm) ++ ⟨#[58, 32]⟩) ++ res
  else ((((⟨#[102, 117, 110, 32]⟩ ++ nm) ++ ⟨#[58, 32]⟩) ++ joinC X) ++ ⟨#[32, 45, 62, 32]⟩) ++ res
theorem fbox (w : World) (s : ByteArray) (a : Option Addr) (n c : Nat) (r : ByteArray) :
    ∃ W, w.alloc (.cells #[.string s, .slice a n c, .string r] 50) = W ∧ Below w.heap.size w W ∧ W.heap.size = w.heap.size + 1 ∧ Blk W w.heap.size #[.string s, .slice a n c, .string r] 50 :=
  ⟨_, rfl, bel_alloc (Below.refl _ _) _, by simp, Blk.new w _ _⟩
set_option maxHeartbeats 8000000 in
theorem Fun_any (s : ByteArray) (a : Option Addr) (n c : Nat) (X : List ByteArray) (r : ByteArray) (w : World) (hS : SlS w a n c X) (hs : s.size ≤ 100) (hr : r.size ≤ 100) (hn : n ≤ 20) (ht : tot X ≤ 10000) :
    Calls Tryz.prog 22 #[.agg #[.string s, .slice a n c, .string r]] w fun e w' => e = .returned (.string (funT s X r)) ∧ Below w.heap.size w w' := by
  obtain ⟨W2, hW2, hB2, hs2, S2⟩ := fbox w s a n c r
  have cJ := join_sl a n c X W2 (hS.below hB2) (by omega) (by omega)
  have hjz := joinC_size X
  have hXl : n = X.length := hS.1.1
  have c0 := Blk.cell S2 0
  have c1 := Blk.cell S2 1
  have c2 := Blk.cell S2 2
  simp only [List.getElem?_toArray, List.getElem?_cons_zero, List.getElem?_cons_succ] at c0 c1 c2
  have HS := Lib.hid (show ∀ w', Below W2.heap.size W2 w' → (w'.cell? ⟨w.heap.size, 0, none⟩ = some (.string s) ∧ w'.cell? ⟨w.heap.size, 1, none⟩ = some (.slice a n c) ∧ w'.cell? ⟨w.heap.size, 2, none⟩ = some (.string r)) from fun w' h =>
    ⟨(h.cell (p := ⟨w.heap.size, 0, none⟩) (Blk.lt S2)).trans c0, (h.cell (p := ⟨w.heap.size, 1, none⟩) (Blk.lt S2)).trans c1, (h.cell (p := ⟨w.heap.size, 2, none⟩) (Blk.lt S2)).trans c2⟩)
  have z5 : (⟨#[112, 114, 101, 100, 32]⟩ : ByteArray).size = 5 := rfl
  have z4 : (⟨#[102, 117, 110, 32]⟩ : ByteArray).size = 4 := rfl
  have z2 : (⟨#[58, 32]⟩ : ByteArray).size = 2 := rfl
  have z3 : (⟨#[32, 45, 62, 32]⟩ : ByteArray).size = 4 := rfl
  obtain ⟨J, hJ⟩ : ∃ J, joinC X = J := ⟨_, rfl⟩
  have hJz : J.size ≤ 20000 := by rw [← hJ]; omega
  obtain ⟨P1, e1⟩ : ∃ v, (⟨#[112, 114, 101, 100, 32]⟩ : ByteArray) ++ s = v := ⟨_, rfl⟩
  obtain ⟨P2, e2⟩ : ∃ v, P1 ++ (⟨#[58, 32]⟩ : ByteArray) = v := ⟨_, rfl⟩
  obtain ⟨P3, e3⟩ : ∃ v, P2 ++ J = v := ⟨_, rfl⟩
  obtain ⟨F1, f1⟩ : ∃ v, (⟨#[102, 117, 110, 32]⟩ : ByteArray) ++ s = v := ⟨_, rfl⟩
  obtain ⟨F2, f2⟩ : ∃ v, F1 ++ (⟨#[58, 32]⟩ : ByteArray) = v := ⟨_, rfl⟩
  obtain ⟨F3, f3⟩ : ∃ v, F2 ++ J = v := ⟨_, rfl⟩
  obtain ⟨F4, f4⟩ : ∃ v, F3 ++ (⟨#[32, 45, 62, 32]⟩ : ByteArray) = v := ⟨_, rfl⟩
  obtain ⟨F5, f5⟩ : ∃ v, F4 ++ r = v := ⟨_, rfl⟩
  obtain ⟨F6, f6⟩ : ∃ v, F2 ++ r = v := ⟨_, rfl⟩
  have hT : funT s X r = if (r.toList == [66, 111, 111, 108]) = true then (if X.length = 0 then P1 else P3) else if X.length = 0 then F6 else F5 := by
    unfold funT; rw [hJ, e1, e2, e3, f1, f2, f3, f4, f5, f6]
  have y1 : P1.size ≤ 105 := by rw [← e1, ByteArray.size_append]; omega
  have y2 : P2.size ≤ 107 := by rw [← e2, ByteArray.size_append]; omega
  have x1 : F1.size ≤ 104 := by rw [← f1, ByteArray.size_append]; omega
  have x2 : F2.size ≤ 106 := by rw [← f2, ByteArray.size_append]; omega
  have x3 : F3.size ≤ 20106 := by rw [← f3, ByteArray.size_append]; omega
  have x4 : F4.size ≤ 20110 := by rw [← f4, ByteArray.size_append]; omega
  have r1 : ∀ w, (Op.stringOp .add ⟨#[112, 114, 101, 100, 32]⟩ s).run Tryz.prog w = .ok (.string P1) w := fun w => by rw [run_string_add_sum w _ _ (by omega), e1]
  have r2 : ∀ w, (Op.stringOp .add P1 ⟨#[58, 32]⟩).run Tryz.prog w = .ok (.string P2) w := fun w => by rw [run_string_add_sum w _ _ (by omega), e2]
  have r3 : ∀ w, (Op.stringOp .add P2 J).run Tryz.prog w = .ok (.string P3) w := fun w => by rw [run_string_add_sum w _ _ (by omega), e3]
  have q1 : ∀ w, (Op.stringOp .add ⟨#[102, 117, 110, 32]⟩ s).run Tryz.prog w = .ok (.string F1) w := fun w => by rw [run_string_add_sum w _ _ (by omega), f1]
  have q2 : ∀ w, (Op.stringOp .add F1 ⟨#[58, 32]⟩).run Tryz.prog w = .ok (.string F2) w := fun w => by rw [run_string_add_sum w _ _ (by omega), f2]
  have q3 : ∀ w, (Op.stringOp .add F2 J).run Tryz.prog w = .ok (.string F3) w := fun w => by rw [run_string_add_sum w _ _ (by omega), f3]
  have q4 : ∀ w, (Op.stringOp .add F3 ⟨#[32, 45, 62, 32]⟩).run Tryz.prog w = .ok (.string F4) w := fun w => by rw [run_string_add_sum w _ _ (by omega), f4]
  have q5 : ∀ w, (Op.stringOp .add F4 r).run Tryz.prog w = .ok (.string F5) w := fun w => by rw [run_string_add_sum w _ _ (by omega), f5]
  have q6 : ∀ w, (Op.stringOp .add F2 r).run Tryz.prog w = .ok (.string F6) w := fun w => by rw [run_string_add_sum w _ _ (by omega), f6]
  rw [hT]
  rw [hJ] at cJ
  rw [← hXl]
  clear e1 e2 e3 f1 f2 f3 f4 f5 f6 hJ hJz hjz z5 z4 z2 z3 y1 y2 x1 x2 x3 x4 hT hS S2 ht hXl hs hr
  have HT : ∀ b : Bool, (r.toList == [66, 111, 111, 108]) = b → True := fun _ _ => trivial
  cases hbo : r.toList == [66, 111, 111, 108] with
  | true =>
    have g1 : (r.toList = [66, 111, 111, 108]) = True := by simpa using hbo
    rw [if_pos rfl]
    by_cases h0 : n = 0
    · subst h0
      rw [if_pos rfl]
      clear HT
      go_enter Tryz.func22, Tryz.ntmps22
      go_wp2_with (go_at_call 44; ((with_reducible refine cJ.mono ?_); rintro e w3 ⟨rfl, hb3⟩; obtain ⟨d0, d1, d2⟩ := HS.out w3 hb3))
      go_ret
      exact ⟨rfl, bel_trans hB2 hb3⟩
    · have hp3 : 0 < n := by omega
      have hp : decide (0 < n) = true := decide_eq_true hp3
      rw [if_neg h0]
      clear HT h0
      go_enter Tryz.func22, Tryz.ntmps22
      go_wp2_with (go_at_call 44; ((with_reducible refine cJ.mono ?_); rintro e w3 ⟨rfl, hb3⟩; obtain ⟨d0, d1, d2⟩ := HS.out w3 hb3))
      go_ret
      exact ⟨rfl, bel_trans hB2 hb3⟩
  | false =>
    have g1 : (r.toList = [66, 111, 111, 108]) = False := by simpa using hbo
    rw [if_neg (by simp)]
    by_cases h0 : n = 0
    · subst h0
      rw [if_pos rfl]
      clear HT
      go_enter Tryz.func22, Tryz.ntmps22
      go_wp2_with (go_at_call 44; ((with_reducible refine cJ.mono ?_); rintro e w3 ⟨rfl, hb3⟩; obtain ⟨d0, d1, d2⟩ := HS.out w3 hb3))
      go_ret
      exact ⟨rfl, bel_trans hB2 hb3⟩
    · have hp3 : 0 < n := by omega
      have hp : decide (0 < n) = true := decide_eq_true hp3
      rw [if_neg h0]
      clear HT h0
      go_enter Tryz.func22, Tryz.ntmps22
      go_wp2_with (go_at_call 44; ((with_reducible refine cJ.mono ?_); rintro e w3 ⟨rfl, hb3⟩; obtain ⟨d0, d1, d2⟩ := HS.out w3 hb3))
      go_ret
      exact ⟨rfl, bel_trans hB2 hb3⟩
theorem tot_take : ∀ (X : List ByteArray) (k : Nat), tot (X.take k) ≤ tot X
  | [], k => by simp
  | x :: X, 0 => by rw [List.take_zero, tot]; omega
  | x :: X, k + 1 => by rw [List.take_succ_cons, tot, tot]; have := tot_take X k; omega
set_option maxHeartbeats 8000000 in
theorem RFun_any (s : ByteArray) (a : Option Addr) (n c : Nat) (X : List ByteArray) (r : ByteArray) (w : World) (hS : SlS w a n c X) (hs : s.size ≤ 100) (hr : r.size ≤ 100) (hn : n ≤ 20) (ht : tot X ≤ 10000) :
    Calls Tryz.prog 23 #[.agg #[.string s, .slice a n c, .string r]] w fun e w' => e = .returned (.string (funT s X r)) ∧ Below w.heap.size w w' := by
  obtain ⟨W2, hW2, hB2, hs2, S2⟩ := fbox w s a n c r
  have hS2 := hS.below hB2
  have hXl : n = X.length := hS.1.1
  have c0 := Blk.cell S2 0
  have c1 := Blk.cell S2 1
  have c2 := Blk.cell S2 2
  simp only [List.getElem?_toArray, List.getElem?_cons_zero, List.getElem?_cons_succ] at c0 c1 c2
  have z5 : (⟨#[112, 114, 101, 100, 32]⟩ : ByteArray).size = 5 := rfl
  have z4 : (⟨#[102, 117, 110, 32]⟩ : ByteArray).size = 4 := rfl
  have z2 : (⟨#[58, 32]⟩ : ByteArray).size = 2 := rfl
  have zc : (⟨#[44, 32]⟩ : ByteArray).size = 2 := rfl
  have z3 : (⟨#[32, 45, 62, 32]⟩ : ByteArray).size = 4 := rfl
  have hsz : ∀ k, (joinC (X.take k)).size ≤ 20000 := fun k => by
    have h1 := joinC_size (X.take k)
    have h2 := tot_take X k
    have h3 : (X.take k).length ≤ X.length := by rw [List.length_take]; omega
    omega
  have hxz : ∀ x ∈ X, x.size ≤ 10000 := fun x hx => by
    have : ∀ (X : List ByteArray), x ∈ X → x.size ≤ tot X := fun X => by
      induction X with
      | nil => intro h; cases h
      | cons y X ih => intro h; rw [tot]; rcases List.mem_cons.1 h with rfl | h
                       · omega
                       · have := ih h; omega
    have := this X hx
    omega
  have hst : ∀ k, k < n → ∃ bb o x, a = some ⟨bb, o, none⟩ ∧ W2.cell? ⟨bb, o + k, none⟩ = some (.string x) ∧ (k = 0 → ∀ w, (Op.stringOp .add (joinC (X.take k)) x).run Tryz.prog w = .ok (.string (joinC (X.take (k + 1)))) w) ∧
      (0 < k → ∃ M, (∀ w, (Op.stringOp .add (joinC (X.take k)) ⟨#[44, 32]⟩).run Tryz.prog w = .ok (.string M) w) ∧ (∀ w, (Op.stringOp .add M x).run Tryz.prog w = .ok (.string (joinC (X.take (k + 1)))) w)) := fun k hk => by
    obtain ⟨bb, o, h1, h2, h3⟩ := hS2.1.2 (by omega)
    have hkl : k < X.length := by omega
    have htk : X.take (k + 1) = X.take k ++ [X[k]] := by rw [List.take_add_one, List.getElem?_eq_getElem hkl]; rfl
    have hx := hxz _ (List.getElem_mem hkl)
    have hzk := hsz k
    refine ⟨bb, o, X[k], h1, h3 k hkl, fun h0 w => ?_, fun h0 => ?_⟩
    · subst h0
      rw [htk, List.take_zero, List.nil_append]
      show (Op.stringOp .add ⟨#[]⟩ X[0]).run Tryz.prog w = _
      rw [run_string_add_sum w _ _ (by have : (⟨#[]⟩ : ByteArray).size = 0 := rfl; omega), nil_app]; rfl
    · refine ⟨_, fun w => run_string_add_sum w _ _ (by omega), fun w => ?_⟩
      rw [run_string_add_sum w _ _ (by rw [ByteArray.size_append]; omega), htk, joinC_snoc _ _ (by intro h; have h9 := congrArg List.length h; rw [List.length_take, List.length_nil] at h9; omega), ByteArray.append_assoc]
  obtain ⟨S, hSd⟩ : ∃ S : Nat → ByteArray, ∀ k, joinC (X.take k) = S k := ⟨_, fun _ => rfl⟩
  have hS0 : S 0 = ⟨#[]⟩ := by rw [← hSd]; rfl
  have hSn : S n = joinC X := by rw [← hSd, hXl, List.take_length]
  simp only [hSd] at hst hsz
  obtain ⟨J, hJ⟩ : ∃ J, joinC X = J := ⟨_, rfl⟩
  have hJz : J.size ≤ 20000 := by rw [← hJ, ← hSn]; exact hsz n
  obtain ⟨P1, e1⟩ : ∃ v, (⟨#[112, 114, 101, 100, 32]⟩ : ByteArray) ++ s = v := ⟨_, rfl⟩
  obtain ⟨P2, e2⟩ : ∃ v, P1 ++ (⟨#[58, 32]⟩ : ByteArray) = v := ⟨_, rfl⟩
  obtain ⟨P3, e3⟩ : ∃ v, P2 ++ J = v := ⟨_, rfl⟩
  obtain ⟨F1, f1⟩ : ∃ v, (⟨#[102, 117, 110, 32]⟩ : ByteArray) ++ s = v := ⟨_, rfl⟩
  obtain ⟨F2, f2⟩ : ∃ v, F1 ++ (⟨#[58, 32]⟩ : ByteArray) = v := ⟨_, rfl⟩
  obtain ⟨J2, f3⟩ : ∃ v, J ++ (⟨#[32, 45, 62, 32]⟩ : ByteArray) = v := ⟨_, rfl⟩
  obtain ⟨F4, f4⟩ : ∃ v, F2 ++ J2 = v := ⟨_, rfl⟩
  obtain ⟨F5, f5⟩ : ∃ v, F4 ++ r = v := ⟨_, rfl⟩
  obtain ⟨F6, f6⟩ : ∃ v, F2 ++ r = v := ⟨_, rfl⟩
  have hT : funT s X r = if (r.toList == [66, 111, 111, 108]) = true then (if X.length = 0 then P1 else P3) else if X.length = 0 then F6 else F5 := by
    unfold funT
    rw [hJ, e1, e2, e3, f1, f2, f6, ByteArray.append_assoc (a := F2), f3, f4, f5]
  have y1 : P1.size ≤ 105 := by rw [← e1, ByteArray.size_append]; omega
  have y2 : P2.size ≤ 107 := by rw [← e2, ByteArray.size_append]; omega
  have x1 : F1.size ≤ 104 := by rw [← f1, ByteArray.size_append]; omega
  have x2 : F2.size ≤ 106 := by rw [← f2, ByteArray.size_append]; omega
  have x3 : J2.size ≤ 20106 := by rw [← f3, ByteArray.size_append]; omega
  have x4 : F4.size ≤ 20300 := by rw [← f4, ByteArray.size_append]; omega
  have r1 : ∀ w, (Op.stringOp .add ⟨#[112, 114, 101, 100, 32]⟩ s).run Tryz.prog w = .ok (.string P1) w := fun w => by rw [run_string_add_sum w _ _ (by omega), e1]
  have r2 : ∀ w, (Op.stringOp .add P1 ⟨#[58, 32]⟩).run Tryz.prog w = .ok (.string P2) w := fun w => by rw [run_string_add_sum w _ _ (by omega), e2]
  have r3 : ∀ w, (Op.stringOp .add P2 J).run Tryz.prog w = .ok (.string P3) w := fun w => by rw [run_string_add_sum w _ _ (by omega), e3]
  have q1 : ∀ w, (Op.stringOp .add ⟨#[102, 117, 110, 32]⟩ s).run Tryz.prog w = .ok (.string F1) w := fun w => by rw [run_string_add_sum w _ _ (by omega), f1]
  have q2 : ∀ w, (Op.stringOp .add F1 ⟨#[58, 32]⟩).run Tryz.prog w = .ok (.string F2) w := fun w => by rw [run_string_add_sum w _ _ (by omega), f2]
  have q3 : ∀ w, (Op.stringOp .add J ⟨#[32, 45, 62, 32]⟩).run Tryz.prog w = .ok (.string J2) w := fun w => by rw [run_string_add_sum w _ _ (by omega), f3]
  have q4 : ∀ w, (Op.stringOp .add F2 J2).run Tryz.prog w = .ok (.string F4) w := fun w => by rw [run_string_add_sum w _ _ (by omega), f4]
  have q5 : ∀ w, (Op.stringOp .add F4 r).run Tryz.prog w = .ok (.string F5) w := fun w => by rw [run_string_add_sum w _ _ (by omega), f5]
  have q6 : ∀ w, (Op.stringOp .add F2 r).run Tryz.prog w = .ok (.string F6) w := fun w => by rw [run_string_add_sum w _ _ (by omega), f6]
  have hnl : n = 0 → ∀ w, (Op.stringOp .add F2 J).run Tryz.prog w = .ok (.string F2) w := fun h0 w => by
    have hX0 : X = [] := List.eq_nil_of_length_eq_zero (by omega)
    have : J = ⟨#[]⟩ := by rw [← hJ, hX0]; rfl
    rw [this, run_string_add_sum w _ _ (by have : (⟨#[]⟩ : ByteArray).size = 0 := rfl; omega), app_nil]
  rw [hT, ← hXl]
  obtain ⟨Z, hZ⟩ : ∃ Z, (if (r.toList == [66, 111, 111, 108]) = true then (if n = 0 then P1 else P3) else if n = 0 then F6 else F5) = Z := ⟨_, rfl⟩
  rw [hZ]
  have HZ := Lib.hid hZ
  clear hZ
  have HQ := Lib.hid (And.intro r1 (And.intro r2 (And.intro r3 (And.intro q1 (And.intro q2 (And.intro q3 (And.intro q4 (And.intro q5 (And.intro q6 hnl)))))))))
  have HSt := Lib.hid hst
  have HSn := Lib.hid (hSn.trans hJ)
  have HS0 := Lib.hid hS0
  clear e1 e2 e3 f1 f2 f3 f4 f5 f6 hJ hJz z5 z4 z2 z3 zc y1 y2 x1 x2 x3 x4 hT hS hS2 S2 ht hXl hs hr r1 r2 r3 q1 q2 q3 q4 q5 q6 hnl hst hSn hS0 hSd hsz hxz
  go_enter Tryz.func23, Tryz.ntmps23
  go_wp2
  go_loopw [3, 4] (fun v i wr0 => ∃ (wr : World) (k : Nat), wr = wr0 ∧ wr = W2 ∧ k ≤ n ∧ v = .string (S k) ∧ i = .int .i64 k) (fun _ i _ => n - (intOf i).toNat)
  case atStart => exact ⟨_, 0, rfl, rfl, by omega, by rw [HS0.out], rfl⟩
  case round =>
    obtain ⟨wr, k, rfl, rfl, hk, rfl, rfl⟩ := hrel
    by_cases hlt : k < n
    · obtain ⟨bb, o, x, rfl, y0, h0, h1⟩ := HSt.out k hlt
      have hk0 : 0 ≤ (k : Int) := by omega
      have hk1 : (k : Int) < (n : Int) := by omega
      clear HSt HQ HSn HS0
      by_cases hz : k = 0
      · subst hz
        have h0 := h0 rfl
        rw [Nat.add_zero] at y0
        clear h1
        go_wp2
        go_roundw
        case rel => exact ⟨_, 0 + 1, rfl, rfl, by omega, rfl, by go_num⟩
        case measure => simp [intOf]; omega
      · obtain ⟨M, h1, h2⟩ := h1 (by omega)
        clear h0
        have hkp : decide ((k : Int) > 0) = true := decide_eq_true (by omega)
        go_wp2
        go_roundw
        case rel => exact ⟨_, k + 1, rfl, rfl, by omega, rfl, by go_num⟩
        case measure => simp [intOf]; omega
    · obtain rfl : k = n := by omega
      have hSk := HSn.out
      obtain ⟨r1, r2, r3, q1, q2, q3, q4, q5, q6, hnl⟩ := HQ.out
      clear HSt HQ HSn HS0
      generalize S k = SS at *
      subst hSk
      cases hbo : r.toList == [66, 111, 111, 108] with
      | true =>
        have g1 : (r.toList = [66, 111, 111, 108]) = True := by simpa using hbo
        by_cases h0 : k = 0
        · subst h0
          have hE : Hid (P1 = Z) := Lib.hid (by rw [← HZ.out, if_pos hbo, if_pos rfl])
          clear hnl HZ
          go_wp2
          go_ret
          exact ⟨retS hE.out, hB2⟩
        · have hp1 : ((k : Int) == 0) = false := beq_no' (by omega)
          have hE : Hid (P3 = Z) := Lib.hid (by rw [← HZ.out, if_pos hbo, if_neg h0])
          clear hnl HZ
          go_wp2
          go_ret
          exact ⟨retS hE.out, hB2⟩
      | false =>
        have g1 : (r.toList = [66, 111, 111, 108]) = False := by simpa using hbo
        by_cases h0 : k = 0
        · subst h0
          have hnl := hnl rfl
          have hE : Hid (F6 = Z) := Lib.hid (by rw [← HZ.out, if_neg (by rw [hbo]; simp), if_pos rfl])
          clear HZ
          go_wp2
          go_ret
          exact ⟨retS hE.out, hB2⟩
        · have hp3 : 0 < k := by omega
          have hp : decide (0 < k) = true := decide_eq_true hp3
          have hE : Hid (F5 = Z) := Lib.hid (by rw [← HZ.out, if_neg (by rw [hbo]; simp), if_neg h0])
          clear hnl HZ
          go_wp2
          go_ret
          exact ⟨retS hE.out, hB2⟩
end Go.Proofs.YtndhhmebaboeaaaGreatDoor.Sh
