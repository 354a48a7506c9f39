/-
  What is proved: a clause's line, as the document reads it.
-/
import Derived.Test.YthchjceibpcgbaaDoorCnG
namespace Go.Proofs.YthchjceibpcgbaaDoor.Cn
open Go.RowKit L Lt
set_option linter.unusedVariables false
set_option linter.unusedSimpArgs false

def erE {α : Type} : Except Int α → Int
  | .ok _ => 0
  | .error e => e
/-- what a clause's line returns: its error, and where there is none its numbers -/
def CP (t : List UInt8) (n : Int) (w : World) (e : Ending) (w' : World) : Prop :=
  ∃ A m c X, e = .returned (.tuple #[.slice A m c, .int .i64 (erE (clR' t n))]) ∧ SlI w' A m c X ∧ R64s X ∧ (∀ l, clR' t n = .ok l → X = l) ∧ (∀ ad, A = some ad → w.heap.size ≤ ad.block) ∧ Below w.heap.size w w'
theorem tupI {v : Value} {x y : Int} (h : x = y) : Ending.returned (.tuple #[v, .int .i64 x]) = .returned (.tuple #[v, .int .i64 y]) := by rw [h]
theorem CP.err {t : List UInt8} {n : Int} {w w' : World} {x : Int} (h : clR' t n = .error x) (hb : Below w.heap.size w w') : CP t n w (.returned (.tuple #[.slice none 0 0, .int .i64 x])) w' :=
  ⟨none, 0, 0, [], by rw [h]; rfl, SlI.nil _, (fun x hx => by cases hx), (fun l h2 => by rw [h] at h2; cases h2), (fun ad h => by cases h), hb⟩
theorem lsS_small {s : ByteArray} {D : List ByteArray} (h : lsS D = spl 32 s.data.toList) : True := trivial
theorem spl_small (b : UInt8) : ∀ (l : List UInt8), ∀ t ∈ spl b l, t.length ≤ l.length
  | [], t, h => by simp [spl] at h; simp [h]
  | c :: r, t, h => by
    have ih := spl_small b r
    rw [spl] at h
    split at h
    · rcases List.mem_cons.1 h with rfl | h
      · simp
      · have := ih t h; simp; omega
    · revert h
      cases hs : spl b r with
      | nil => intro h; simp at h; simp [h]
      | cons x xs =>
        intro h
        rcases List.mem_cons.1 h with rfl | h
        · have := ih x (by rw [hs]; simp); simp; omega
        · have := ih t (by rw [hs]; simp [h]); simp; omega
theorem words_small {s : ByteArray} {D : List ByteArray} (h : lsS D = spl 32 s.data.toList) (hs : s.size ≤ 100000) : ∀ d ∈ D, d.size ≤ 9223372036854775807 := fun d hd => by
  have h1 := spl_small 32 s.data.toList d.data.toList (by rw [← h]; exact List.mem_map.2 ⟨d, hd, rfl⟩)
  rw [Dig.len_list, Dig.len_list] at h1
  omega
theorem nums_ne {s : List UInt8} {l : List Int} (h : nums (spl 32 s) = some l) : l ≠ [] := by
  unfold nums at h
  split at h
  · injection h with h
    subst h
    intro e
    exact spl_ne 32 s (List.map_eq_nil_iff.1 e)
  · cases h
/-- numbers(words(s)) -/
theorem RNW_any (s : ByteArray) (hs : s.size ≤ 100000) (v : Value) (D : List ByteArray) (W : World) (base : Nat) (ho : OwnS W base v D) (hD : lsS D = spl 32 s.data.toList) (hl : D.length ≤ s.size + 1) (m : Option (List Int)) (hm : nums (spl 32 s.data.toList) = m) :
    Calls Tryd.prog 40 #[v] W fun e w' => ∃ v, e = .returned (.tuple #[v, .bool m.isSome]) ∧ OwnI w' W.heap.size v (m.getD []) ∧ Below W.heap.size W w' := by
  obtain ⟨A, c, rfl, hS⟩ := ho.slS
  have := RNumbers_any A D.length c D W hS (words_small hD hs) (by omega)
  rw [hD, hm] at this
  exact this
set_option maxRecDepth 100000 in
set_option maxHeartbeats 4000000 in
theorem RClause_any (s : ByteArray) (n : Int) (w : World) (hs : s.size ≤ 100000) :
    Calls Tryd.prog 24 #[.string s, .int .i64 n] w (CP s.data.toList n w) := by
  have C1 := Lib.hid (RWords_any s w (by omega))
  obtain ⟨m, hm⟩ : ∃ m, nums (spl 32 s.data.toList) = m := ⟨_, rfl⟩
  have C2 := Lib.hid (fun v D W base ho hD hl => RNW_any s hs v D W base ho hD hl m hm)
  cases m with
  | none =>
    have hE : Hid (clR' s.data.toList n = .error 7) := Lib.hid (by unfold clR'; rw [hm])
    clear hm
    have c1 := C1.out
    clear C1
    go_enter Tryd.func24, Tryd.ntmps24
    go_wp2_with (first
      | (go_at_call 39; ((with_reducible refine c1.mono ?_); rintro e w3 ⟨v, D, rfl, ho, hD, hl, b3⟩; have c2 := C2.out v D w3 _ ho hD hl; clear hD hl c1))
      | (go_at_call 40; ((with_reducible refine c2.mono ?_); rintro e w4 ⟨v4, rfl, ho4, b4⟩; clear c2)))
    go_ret2
    exact CP.err hE.out (bel_trans b3 b4)
  | some l =>
    have hR64 := nums_r hm
    obtain ⟨X, z, rfl⟩ : ∃ X z, l = X ++ [z] := ⟨l.dropLast, l.getLast (nums_ne hm), (List.dropLast_concat_getLast (nums_ne hm)).symm⟩
    have hE0 : clR' s.data.toList n = if z = 0 then (if X.any (· == 0) then .error 7 else if rg1 X n = 0 then .ok X else .error (rg1 X n)) else .error 7 := by
      unfold clR'
      rw [hm]
      simp only [List.getLast?_append, List.getLast?_singleton, Option.some_or, List.dropLast_concat, Option.some.injEq]
    have HXr : Hid (R64s X) := Lib.hid (fun x hx => hR64 x (List.mem_append_left _ hx))
    have C2' : Hid (∀ v D W base, OwnS W base v D → lsS D = spl 32 s.data.toList → D.length ≤ s.size + 1 → Calls Tryd.prog 40 #[v] W fun e w' => ∃ b o c, e = .returned (.tuple #[.slice (some ⟨b, o, none⟩) (X.length + 1) c, .bool true]) ∧ SlI w' (some ⟨b, o, none⟩) (X.length + 1) c (X ++ [z]) ∧ W.heap.size ≤ b ∧ Below W.heap.size W w') := Lib.hid (fun v D W base ho hD hl => by
      refine (C2.out v D W base ho hD hl).mono fun e w' => ?_
      rintro ⟨v, rfl, hO, hb⟩
      have hO : OwnI w' W.heap.size v (X ++ [z]) := hO
      obtain ⟨A, c, rfl, h1, h2, h3, h4⟩ := hO.slice
      obtain ⟨g, rfl, hg⟩ := h4 (by simp)
      have e1 : (X ++ [z]).length = X.length + 1 := by simp
      have := hO.sl.2.2
      rw [e1] at this ⊢
      exact ⟨g, 0, c, rfl, this, hg.1, hb⟩)
    obtain ⟨r, hr⟩ : ∃ r, X.length = r := ⟨_, rfl⟩
    rw [hr] at C2'
    have hrl : Hid (r ≤ 100000) := Lib.hid (by
      have h1 := C2.out
      clear C2 C2' C1
      have : (nums (spl 32 s.data.toList)).map List.length = some (X.length + 1) := by rw [hm]; simp
      unfold nums at this
      split at this
      · simp at this
        have h2 : ∀ l : List UInt8, (spl 32 l).length ≤ l.length + 1 := by
          intro l
          induction l with
          | nil => simp [spl]
          | cons c t ih =>
            rw [spl]
            split
            · simp; omega
            · revert ih; cases spl 32 t with
              | nil => simp
              | cons a b => simp; omega
        have h3 := h2 s.data.toList
        rw [Dig.len_list] at h3
        omega
      · cases this)
    have Hr := Lib.hid hr
    clear hm C2 hR64 hr
    have c1 := C1.out
    clear C1
    by_cases hz : z = 0
    · subst hz
      rw [if_pos rfl] at hE0
      have hE := Lib.hid hE0
      have CR := Lib.hid (fun A m c (W : World) (h : SlI W A m c X) (hn : m ≤ 9223372036854775807) => RRight_any A m c X n W h HXr.out hn)
      clear hE0
      have hrr := hrl.out
      go_enter Tryd.func24, Tryd.ntmps24
      go_wp2_with (first
        | (go_at_call 39; ((with_reducible refine c1.mono ?_); rintro e w3 ⟨v, D, rfl, ho, hD, hl, b3⟩; have c2 := C2'.out v D w3 _ ho hD hl; clear hD hl c1))
        | (go_at_call 40; ((with_reducible refine c2.mono ?_); rintro e w4 ⟨b, o, c, rfl, hS4, hbb, b4⟩; clear c2; have z0 : w4.cell? ⟨b, o + r, none⟩ = some (.int .i64 0) := (by obtain ⟨g', o', x, e', _, h1, h2⟩ := SlI.at hS4 (k := r) (by omega); injection e' with e'; injection e' with e1 e2; subst e1 e2; rw [← Hr.out] at h1 h2 ⊢; rw [h1]; have h3 : x = 0 := (by simpa using h2.symm); rw [h3]); have hrc : r + 1 ≤ c := hS4.2.1; have hr0 : (0 : Int) ≤ (r : Int) := (by omega); have hr1 : (r : Int) ≤ (c : Int) := (by omega))))
      have HS : Hid (SlI w4 (some ⟨b, o, none⟩) r c X) := Lib.hid (by have := sub1 hS4 r (by omega); rwa [List.take_append_of_le_length (by have := Hr.out; omega), List.take_of_length_le (by have := Hr.out; omega)] at this)
      have HB4 := Lib.hid (bel_trans b3 b4)
      have Hbb : Hid (w.heap.size ≤ b) := Lib.hid (Nat.le_trans b3.size hbb)
      have HE0 : Hid (∀ x ∈ X.take 0, x ≠ 0) := Lib.hid (by simp)
      clear hS4 z0 b3 b4 hbb
      go_loopw [8] (fun i wr0 => ∃ (wr : World) (k : Nat), wr = wr0 ∧ k ≤ r ∧ i = .int .i64 k ∧ Hid (∀ x ∈ X.take k, x ≠ 0) ∧ Hid (w4 = wr)) (fun i _ => r - (intOf i).toNat)
      case atStart => exact ⟨_, 0, rfl, by omega, rfl, HE0, Lib.hid rfl⟩
      case round =>
        obtain ⟨wr, k, rfl, hk, rfl, hE1, hW⟩ := hrel
        by_cases hlt : k < r
        · obtain ⟨g', o', x, e', _, y0, hx⟩ := SlI.at HS.out hlt
          injection e' with e'
          injection e' with e1 e2
          subst e1 e2
          rw [hW.out] at y0
          have hk0 : 0 ≤ (k : Int) := by omega
          have hk1 : (k : Int) < (r : Int) := by omega
          cases hx0 : (x == 0)
          · have HE2 : Hid (∀ x ∈ X.take (k + 1), x ≠ 0) := Lib.hid (fun y hy => by
              rw [List.take_add_one, hx] at hy
              rcases List.mem_append.1 hy with hy | hy
              · exact hE1.out y hy
              · obtain rfl : y = x := by simpa using hy
                simpa using hx0)
            clear hx
            go_wp2
            go_roundw
            case rel => exact ⟨_, k + 1, rfl, by omega, by go_num, HE2, hW⟩
            case measure => simp [intOf]; omega
          · have hq : Hid (clR' s.data.toList n = .error 7) := Lib.hid (by
              rw [hE.out, if_pos]
              exact List.any_eq_true.2 ⟨x, List.mem_of_getElem? hx, hx0⟩)
            clear hx
            go_wp2
            go_ret2
            exact CP.err hq.out (by rw [← hW.out]; exact HB4.out)
        · obtain rfl : k = r := by omega
          have cr := CR.out _ _ _ w4 HS.out (by omega)
          rw [hW.out] at cr
          have hany : X.any (· == 0) = false := by
            rw [List.any_eq_false]; intro x hx
            have h1 : X.take k = X := List.take_of_length_le (by have := Hr.out; omega)
            have := hE1.out x (by rw [h1]; exact hx)
            simpa using this
          have hq : clR' s.data.toList n = if rg1 X n = 0 then .ok X else .error (rg1 X n) := by rw [hE.out, if_neg (by rw [hany]; decide)]
          have hq2 : Hid (erE (clR' s.data.toList n) = rgL X n ∧ ∀ l, clR' s.data.toList n = .ok l → X = l) := Lib.hid (by
            rw [hq]
            by_cases h0 : rg1 X n = 0
            · rw [if_pos h0]; exact ⟨h0.symm, fun l h => by injection h⟩
            · rw [if_neg h0]; exact ⟨rfl, fun l h => by cases h⟩)
          clear hany hq
          have HSw := Lib.hid (hW.out ▸ HS.out)
          generalize rgL X n = v at *
          go_wp2_with (go_at_call 16; ((with_reducible refine cr.mono ?_); rintro e w5 ⟨rfl, rfl⟩))
          go_ret2
          exact ⟨_, _, _, X, tupI hq2.out.1.symm, HSw.out, HXr.out, hq2.out.2, (fun ad h => by injection h with h; subst h; exact Hbb.out), by rw [← hW.out]; exact HB4.out⟩
    · rw [if_neg hz] at hE0
      have hE := Lib.hid hE0
      have q1 : (z != 0) = true := by simp [hz]
      clear hE0 hz
      have hrr := hrl.out
      go_enter Tryd.func24, Tryd.ntmps24
      go_wp2_with (first
        | (go_at_call 39; ((with_reducible refine c1.mono ?_); rintro e w3 ⟨v, D, rfl, ho, hD, hl, b3⟩; have c2 := C2'.out v D w3 _ ho hD hl; clear hD hl c1))
        | (go_at_call 40; ((with_reducible refine c2.mono ?_); rintro e w4 ⟨b, o, c, rfl, hS4, hbb, b4⟩; clear c2; have z0 : w4.cell? ⟨b, o + r, none⟩ = some (.int .i64 z) := (by obtain ⟨g', o', x, e', _, h1, h2⟩ := SlI.at hS4 (k := r) (by omega); injection e' with e'; injection e' with e1 e2; subst e1 e2; rw [← Hr.out] at h1 h2 ⊢; rw [h1]; have h3 : x = z := (by simpa using h2.symm); rw [h3]))))
      go_ret2
      exact CP.err hE.out (bel_trans b3 b4)
end Go.Proofs.YthchjceibpcgbaaDoor.Cn
