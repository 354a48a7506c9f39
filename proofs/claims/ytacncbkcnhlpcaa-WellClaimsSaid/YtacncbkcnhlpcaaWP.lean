/-
  What is proved: paths: rows of integers, a place behind a path in new memory; the first sort that is not as wanted.
  What is proved: the first sort that is not as wanted, by package well.
  What is proved: base.Ints on rows of integers.
-/
import Derived.Test.YtacncbkcnhlpcaaWA
import Derived.ArgAppend
import Derived.BigQuiet
namespace Go.Proofs.Ytacncbkcnhlpcaa.Wl
open Go.RowKit L T C
set_option linter.unusedVariables false
set_option linter.unusedSimpArgs false
set_option maxRecDepth 100000

/-- a slice's address, length and room read as a list of integers -/
def SlI (w : World) (a : Option Addr) (n c : Nat) (X : List Int) : Prop :=
  n = X.length ∧ n ≤ c ∧ (a = none → c = 0) ∧ (0 < n → ∃ b o, a = some ⟨b, o, none⟩ ∧ b < w.heap.size ∧ ∀ i (h : i < X.length), w.cell? ⟨b, o + i, none⟩ = some (.int .i64 X[i]))
theorem SlI.below {w w' : World} {a : Option Addr} {n c : Nat} {X : List Int} (h : SlI w a n c X) (hb : Below w.heap.size w w') : SlI w' a n c X :=
  ⟨h.1, h.2.1, h.2.2.1, fun hn => by
    obtain ⟨b, o, ha, hlt, hr⟩ := h.2.2.2 hn
    exact ⟨b, o, ha, Nat.lt_of_lt_of_le hlt hb.size, fun i hi => (hb.cell (p := ⟨b, _, none⟩) hlt).trans (hr i hi)⟩⟩
theorem SlI.nil (w : World) : SlI w none 0 0 [] := ⟨rfl, Nat.le_refl _, fun _ => rfl, fun h => absurd h (by omega)⟩
def vsI (X : List Int) : List Value := X.map (.int .i64)
theorem vsI_len (X : List Int) : (vsI X).length = X.length := by simp [vsI]
theorem intI : (Try.prog.info? 3).map (fun i => (i.zero, i.size, i.bytes)) = some (some (.int .i64 0), 1, 8) := by kernel_rfl
theorem SlI.of_own {w : World} {base : Nat} {v : Value} {X : List Int} (h : w.ownsRow base 3 1 v X.length (vsI X)) : ∃ A c, v = .slice A X.length c ∧ SlI w A X.length c X := by
  rcases h.2 with ⟨rfl, hn⟩ | ⟨g, cap, cur, rfl, hb, hg, hnc, hcm, hcs, ht⟩
  · exact ⟨none, 0, by rw [hn], rfl, by omega, fun _ => rfl, fun h => absurd h (by omega)⟩
  · refine ⟨_, _, rfl, rfl, hnc, (fun h => by cases h), fun _ => ⟨g, 0, rfl, (Array.getElem?_eq_some_iff.1 hg).1, fun k hk => ?_⟩⟩
    rw [Nat.zero_add, cell_of_row w g k _ _ _ hg]
    have h2 : (cur.toList.take (X.length * 1))[k]? = (vsI X)[k]? := by rw [ht]
    rw [List.getElem?_take_of_lt (by omega)] at h2
    rw [← Array.getElem?_toList, h2]
    simp [vsI, hk]

set_option maxHeartbeats 2000000 in
theorem below_any (a : Option Addr) (n c : Nat) (X : List Int) (z : Int) (w : World) (h : SlI w a n c X) (hn : n ≤ 1000000) :
    Calls Try.prog 65 #[.slice a n c, .int .i64 z] w fun e w' => ∃ A C, e = .returned (.slice A (n + 1) C) ∧ SlI w' A (n + 1) C (X ++ [z]) ∧ Below w.heap.size w w' := by
  obtain ⟨i0, hi, hz0, hz1, hz2⟩ := info_parts intI
  have hnc := h.2.1
  obtain ⟨W1, hW1⟩ : ∃ W1, w.alloc (.cells #[.int .i64 z] 3) = W1 := ⟨_, rfl⟩
  have hB1 : Below w.heap.size w W1 := by rw [← hW1]; exact bel_alloc (Below.refl _ _) _
  have c1 : W1.cell? ⟨w.heap.size, 0, none⟩ = some (.int .i64 z) := by rw [← hW1, World.cell?_alloc_at _ _ _ _ rfl]; rfl
  have h1 := h.below hB1
  have hold : ∀ b, a = some b → ∀ j u, (vsI X)[j]? = some u → W1.cell? (b.add j) = some u := fun b hb j u hj => by
    obtain ⟨hj2, hu⟩ := List.getElem?_eq_some_iff.1 hj
    rw [vsI_len] at hj2
    obtain ⟨b', o, ha, _, hr⟩ := h1.2.2.2 (by rw [h1.1]; omega)
    rw [hb] at ha
    injection ha with ha
    subst ha
    rw [Addr.add_lit, hr j hj2, ← hu]
    simp [vsI]
  have hnone : a = none → n = 0 ∧ n = 0 := fun e => by have := h.2.2.1 e; omega
  have hnew : ∀ j u, [Value.int .i64 z][j]? = some u → W1.cell? ((⟨w.heap.size, 0, none⟩ : Addr).add j) = some u := fun j u hj => by
    match j, hj with
    | 0, hj => rw [Addr.add_lit]; simp at hj; rw [← hj]; exact c1
  have hone : ∀ u ∈ [Value.int .i64 z], u.oneCell' = true := fun u hu => by simp at hu; rw [hu]; rfl
  have hfin : ∀ (v' : Value) (w' : World), w'.ownsRow W1.heap.size 3 1 v' (n + 1) (vsI X ++ [.int .i64 z]) → W1.grownBy w' none → (∃ A C, v' = .slice A (n + 1) C ∧ SlI w' A (n + 1) C (X ++ [z])) ∧ Below w.heap.size w w' := fun v' w' h1 h2 => by
    have e1 : vsI X ++ [.int .i64 z] = vsI (X ++ [z]) := by simp [vsI]
    have e2 : n + 1 = (X ++ [z]).length := by rw [List.length_append, ← h.1]; rfl
    rw [e1, e2] at h1
    rw [e2]
    exact ⟨SlI.of_own h1, hB1.grown h2 hB1.size (fun k hk => by cases hk)⟩
  have hlo : (vsI X).length = n * 1 := by rw [vsI_len, ← h.1, Nat.mul_one]
  have HF := Lib.hid hfin
  have hn0 : (n : Int) ≤ (c : Int) := by omega
  have b1 : n + 1 ≤ maxLen := by unfold maxLen; omega
  have b2 : (n + 1) * 8 ≤ 140737488355328 := by omega
  clear hfin h h1 c1
  go_enter Try.func65, Try.ntmps65
  go_wp2_with (at_builtin; ((refine wpList_append_grows _ rfl (.tmp 10) (.tmp 12) 35 rfl 3 i0 _ 1 8 Try.underlying35 hi hz0 hz1 hz2 rfl (by decide) a n n (vsI X) rfl hnone hlo hold _ 1 1 _ rfl rfl hnew hone (by omega) b1 b2 ?_); intro v1 w1 ho1 hg1))
  obtain ⟨⟨A, C, e1, e2⟩, e3⟩ := HF.out v1 w1 ho1 hg1
  subst e1
  go_ret
  exact ⟨A, C, rfl, e2, e3⟩
end Go.Proofs.Ytacncbkcnhlpcaa.Wl
namespace Go.Proofs.Ytacncbkcnhlpcaa.Wl
open Go.RowKit L T C
set_option linter.unusedVariables false
set_option linter.unusedSimpArgs false
set_option maxRecDepth 100000

/-- the answer of a check: the path to what is wrong, and how -/
def ansV (A : Option Addr) (N c : Nat) (e : Int) : Value := .tuple #[.slice A N c, .int .i64 e]
def UnP (X : List Int) (q : Option Nat) (w : World) (e : Ending) (w' : World) : Prop :=
  Below w.heap.size w w' ∧ match q with
    | none => e = .returned (ansV none 0 0 0)
    | some i => ∃ A C, e = .returned (ansV A (X.length + 1) C 11) ∧ SlI w' A (X.length + 1) C (X ++ [(i : Int)])
theorem diff_at {G D : List ByteArray} {k : Nat} {g d : ByteArray} (h1 : G[k]? = some g) (h2 : D[k]? = some d) :
    diff (G.drop k) (D.drop k) = if (g.toList == d.toList) = true then (diff (G.drop (k + 1)) (D.drop (k + 1))).map (· + 1) else some 0 := by
  obtain ⟨hk, rfl⟩ := List.getElem?_eq_some_iff.1 h1
  obtain ⟨hk2, rfl⟩ := List.getElem?_eq_some_iff.1 h2
  rw [List.drop_eq_getElem_cons hk, List.drop_eq_getElem_cons hk2, diff]
theorem diff_end {G D : List ByteArray} {k : Nat} (h : D.length ≤ k) : diff (G.drop k) (D.drop k) = none := by
  rw [List.drop_eq_nil_of_le h]
  cases G.drop k <;> rfl

set_option maxHeartbeats 4000000 in
theorem unlike_any (g : Option Addr) (n c : Nat) (G : List ByteArray) (d : Option Addr) (c' : Nat) (D : List ByteArray) (a : Option Addr) (N C : Nat) (X : List Int) (w : World) (hG : IsS w g n G) (hD : IsS w d n D) (hn : n ≤ 1000000) (hX : SlI w a N C X) (hN : N ≤ 1000000) :
    Calls Try.prog 54 #[.slice g n c, .slice d n c', .slice a N C] w (UnP X (diff G D) w) := by
  have hst : ∀ k x y, G[k]? = some x → D[k]? = some y → diff (G.drop k) (D.drop k) = if (x.toList == y.toList) = true then (diff (G.drop (k + 1)) (D.drop (k + 1))).map (· + 1) else some 0 := fun k x y h1 h2 => diff_at h1 h2
  have he : ∀ k, n ≤ k → diff (G.drop k) (D.drop k) = none := fun k h => diff_end (by rw [← hD.1]; exact h)
  have h0 : diff G D = diff (G.drop 0) (D.drop 0) := rfl
  have cB : ∀ (k : Nat) w', Below w.heap.size w w' → _ := fun k w' h => below_any a N C X (k : Int) w' (hX.below h) hN
  have hP1 : ∀ (k : Nat) A c2 w', diff G D = some k → Below w.heap.size w w' → SlI w' A (N + 1) c2 (X ++ [(k : Int)]) → UnP X (diff G D) w (.returned (ansV A (N + 1) c2 11)) w' := fun k A c2 w' h1 h2 h3 => by
    unfold UnP
    rw [h1, ← hX.1]
    exact ⟨h2, A, c2, rfl, h3⟩
  have hP2 : ∀ w', diff G D = none → Below w.heap.size w w' → UnP X (diff G D) w (.returned (ansV none 0 0 0)) w' := fun w' h1 h2 => by
    unfold UnP; rw [h1]; exact ⟨h2, rfl⟩
  rw [h0] at hP1 hP2 ⊢
  obtain ⟨F, hF⟩ : ∃ F : Nat → Option Nat, ∀ k, diff (G.drop k) (D.drop k) = F k := ⟨_, fun _ => rfl⟩
  simp only [hF] at hst he hP1 hP2 ⊢
  generalize UnP X (F 0) w = PP at *
  clear hF h0
  have HG := Lib.hid hG
  have HD := Lib.hid hD
  have Hst := Lib.hid hst
  have He := Lib.hid he
  have HP1 := Lib.hid hP1
  have HP2 := Lib.hid hP2
  have HB := Lib.hid cB
  clear hG hD hst he hP1 hP2 cB hX
  unfold ansV at HP1 HP2
  go_enter Try.func54, Try.ntmps54
  go_wp2
  go_loop [12] (fun i => ∃ (k : Nat), k ≤ n ∧ i = .int .i64 k ∧ Hid (F 0 = (F k).map (· + k))) (fun i => n - (intOf i).toNat)
  case atStart => exact ⟨0, by omega, rfl, Lib.hid (by simp)⟩
  case round =>
    obtain ⟨k, hk, rfl, hR⟩ := hrel
    by_cases hlt : k < n
    · obtain ⟨b1, o1, x, rfl, l1, y1, hx, _⟩ := HG.out.at hlt
      obtain ⟨b2, o2, y, rfl, l2, y2, hy, _⟩ := HD.out.at hlt
      have hs1 := Hst.out k x y hx hy
      have hk0 : 0 ≤ (k : Int) := by omega
      have hk1 : (k : Int) < (n : Int) := by omega
      have cb := HB.out k
      clear hx hy Hst HG HD HB
      cases hu : x.toList == y.toList with
      | true =>
        have hnew : Hid (F 0 = (F (k + 1)).map (· + (k + 1))) := by
          show _ = _
          rw [hR.out, hs1, if_pos hu, Option.map_map]
          congr 1
          funext i
          simp; omega
        have hu2 : (x.toList = y.toList) = True := by simpa using hu
        have hu3 : (x.toList != y.toList) = false := by simpa using hu
        clear hR hs1 cb
        go_wp2
        go_round
        case rel => exact ⟨k + 1, by omega, by go_num, hnew⟩
        case measure => simp [intOf]; omega
      | false =>
        have hnew : Hid (F 0 = some k) := by show _ = _; rw [hR.out, hs1, if_neg (by simp [hu])]; simp
        have hu2 : (x.toList = y.toList) = False := by simpa using hu
        have hu3 : (x.toList != y.toList) = true := by simpa using hu
        clear hR hs1
        go_wp2_with (go_at_call 65; ((with_reducible refine (cb _ (Below.refl _ _)).mono ?_); rintro e w1 ⟨A1, C1, rfl, hI, hb1⟩; have HE := Lib.hid (HP1.out k A1 C1 w1 hnew.out hb1 hI)))
        simp [bodyPost, results, Try.results54, go_sem]
        exact HE.out
    · have hnew : Hid (F 0 = none) := by show _ = _; rw [hR.out, He.out k (by omega)]; rfl
      have HE := Lib.hid (HP2.out w hnew.out (Below.refl _ _))
      clear hR
      go_wp2
      exact HE.out
end Go.Proofs.Ytacncbkcnhlpcaa.Wl
namespace Go.Proofs.Ytacncbkcnhlpcaa.Wl
open Go.RowKit L T C
set_option linter.unusedVariables false
set_option linter.unusedSimpArgs false

theorem SlI.at {w : World} {A : Option Addr} {n c : Nat} {X : List Int} (h : SlI w A n c X) {k : Nat} (hk : k < n) : ∃ g o x, A = some ⟨g, o, none⟩ ∧ g < w.heap.size ∧ w.cell? ⟨g, o + k, none⟩ = some (.int .i64 x) ∧ X[k]? = some x := by
  obtain ⟨g, o, e, hg, hc⟩ := h.2.2.2 (by omega)
  have hk2 : k < X.length := by rw [← h.1]; exact hk
  exact ⟨g, o, X[k], e, hg, hc k hk2, List.getElem?_eq_getElem hk2⟩
set_option maxRecDepth 100000 in
set_option maxHeartbeats 4000000 in
theorem Ints_any (A : Option Addr) (n c : Nat) (X : List Int) (A' : Option Addr) (n' c' : Nat) (Y : List Int) (w : World) (h1 : SlI w A n c X) (h2 : SlI w A' n' c' Y) (hnm : n ≤ 9223372036854775807) :
    Calls Try.prog 16 #[.slice A n c, .slice A' n' c'] w fun e w' => e = .returned (.bool (decide (X = Y))) ∧ Below w.heap.size w w' := by
  have hn1 := h1.1
  have hn2 := h2.1
  obtain ⟨r, hr⟩ : ∃ r, decide (X = Y) = r := ⟨_, rfl⟩
  rw [hr]
  have Hr := Lib.hid hr
  clear hr
  by_cases hl : n = n'
  · subst hl
    have H1 := Lib.hid h1
    have H2 := Lib.hid h2
    have Hn1 := Lib.hid hn1
    have Hn2 := Lib.hid hn2
    have q0 : ((n : Int) != (n : Int)) = false := by simp
    have HE : Hid (X.take 0 = Y.take 0) := Lib.hid rfl
    have HB0 : Hid (Below w.heap.size w w) := Lib.hid (Below.refl _ _)
    clear h1 h2 hn1 hn2
    go_enter Try.func16, Try.ntmps16
    go_wp2
    go_loopw [5] (fun i wr0 => ∃ (wr : World) (k : Nat), wr = wr0 ∧ k ≤ n ∧ i = .int .i64 k ∧ Hid (X.take k = Y.take k) ∧ Hid (Below w.heap.size w wr)) (fun i _ => n - (intOf i).toNat)
    case atStart => exact ⟨_, 0, rfl, by omega, rfl, HE, HB0⟩
    case round =>
      obtain ⟨wr, k, rfl, hk, rfl, hE, hBr⟩ := hrel
      by_cases hlt : k < n
      · obtain ⟨g, o, x, rfl, hg, z0, hx⟩ := SlI.at H1.out hlt
        obtain ⟨g', o', y, rfl, hg', z0', hy⟩ := SlI.at H2.out hlt
        have y0 := (hBr.out.cell (p := ⟨g, _, none⟩) hg).trans z0
        have y0' := (hBr.out.cell (p := ⟨g', _, none⟩) hg').trans z0'
        have Hx := Lib.hid hx
        have Hy := Lib.hid hy
        clear z0 z0' hx hy
        have hk0 : 0 ≤ (k : Int) := by omega
        have hk1 : (k : Int) < (n : Int) := by omega
        by_cases hxy : x = y
        · subst hxy
          have q1 : (x != x) = false := by simp
          have HE1 : Hid (X.take (k + 1) = Y.take (k + 1)) := Lib.hid (by rw [List.take_add_one, List.take_add_one, hE.out, Hx.out, Hy.out])
          clear hE Hx Hy H1 H2
          go_wp2
          go_quiet (fail)
          go_wp2
          go_roundw
          case rel => exact ⟨_, k + 1, rfl, by omega, by go_num, HE1, Lib.hid (below_drewN hBr.out _)⟩
          case measure => simp [intOf]; omega
        · have q1 : (x != y) = true := by simp [hxy]
          have q2 := Lib.hid (Hr.out.symm.trans (decide_eq_false (p := X = Y) (fun e => by
            have h1 := Hx.out
            have h2 := Hy.out
            rw [e, h2] at h1
            injection h1 with h1
            exact hxy h1.symm)))
          clear hE Hx Hy H1 H2 hxy
          go_wp2
          go_quiet (fail)
          go_wp2
          go_ret
          exact ⟨by rw [q2.out] <;> rfl, below_drewN hBr.out _⟩
      · obtain rfl : k = n := by omega
        have q2 := Lib.hid (Hr.out.symm.trans (decide_eq_true (p := X = Y) (by have := hE.out; rwa [List.take_of_length_le (by have := Hn1.out; omega), List.take_of_length_le (by have := Hn2.out; omega)] at this)))
        clear hE
        go_wp2
        go_ret
        exact ⟨by rw [q2.out] <;> rfl, hBr.out⟩
  · have q0 : ((n : Int) != (n' : Int)) = true := by simp; omega
    have q2 := Lib.hid (Hr.out.symm.trans (decide_eq_false (p := X = Y) (fun e => hl (by rw [hn1, hn2, e]))))
    clear h1 h2 hn1 hn2 hl
    go_enter Try.func16, Try.ntmps16
    go_wp2
    go_ret
    exact ⟨by rw [q2.out] <;> rfl, Below.refl _ _⟩
end Go.Proofs.Ytacncbkcnhlpcaa.Wl
