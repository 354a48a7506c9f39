/-
  What is proved: a number put among rising ones, as the document does it.
  What is proved: the variables of a set of clauses, as the document lists them.
-/
import Derived.Test.YthchjceibpcgbaaGreatDoorZCnD
namespace Go.Proofs.YthchjceibpcgbaaGreatDoor.Cn
open Go.RowKit L Lt
set_option linter.unusedVariables false
set_option linter.unusedSimpArgs false

def insP (P : List Int) (n : Int) : List Int := P.takeWhile (· < n) ++ n :: P.dropWhile (· < n)
def acc (P : List Int) (n : Int) : List Int := if P.any (fun y => decide (n < y)) then insP P n else P
theorem all_lt {P : List Int} {n : Int} (h : n ∉ P) (h2 : P.any (fun y => decide (n < y)) = false) : ∀ y ∈ P, y < n := fun y hy => by
  have h3 := (List.any_eq_false.1 h2) y hy
  have h4 : y ≠ n := fun e => h (e ▸ hy)
  simp at h3; omega
theorem tw_all {P : List Int} {n : Int} (h : ∀ y ∈ P, y < n) (Q : List Int) : (P ++ Q).takeWhile (· < n) = P ++ Q.takeWhile (· < n) ∧ (P ++ Q).dropWhile (· < n) = Q.dropWhile (· < n) := by
  induction P with
  | nil => exact ⟨rfl, rfl⟩
  | cons y P ih =>
    have hy : y < n := h y (by simp)
    obtain ⟨h1, h2⟩ := ih (fun z hz => h z (by simp [hz]))
    constructor
    · rw [List.cons_append, List.takeWhile_cons, if_pos (by simpa using hy), h1]; rfl
    · rw [List.cons_append, List.dropWhile_cons, if_pos (by simpa using hy), h2]
theorem acc_new {P : List Int} {n x : Int} (h : n ∉ P) (h2 : P.any (fun y => decide (n < y)) = false) (hx : n < x) : acc (P ++ [x]) n = P ++ [n] ++ [x] := by
  unfold acc
  rw [if_pos (by rw [List.any_append]; simp [hx])]
  unfold insP
  obtain ⟨h3, h4⟩ := tw_all (all_lt h h2) [x]
  rw [h3, h4]
  have : ¬ x < n := by omega
  simp [this]
theorem acc_less {P : List Int} {n x : Int} (h2 : P.any (fun y => decide (n < y)) = false) (hx : ¬ n < x) : acc (P ++ [x]) n = P ++ [x] ∧ acc P n = P := by
  unfold acc
  constructor
  · rw [if_neg (by rw [List.any_append, h2]; simp; omega)]
  · rw [if_neg (by rw [h2]; decide)]
theorem ins_more {n x : Int} : ∀ {P : List Int}, P.any (fun y => decide (n < y)) = true → insP (P ++ [x]) n = insP P n ++ [x]
  | [], h => by cases h
  | y :: P, h => by
    by_cases hy : y < n
    · have h' : P.any (fun y => decide (n < y)) = true := by
        rw [List.any_cons] at h
        have : decide (n < y) = false := decide_eq_false (by omega)
        rw [this] at h; simpa using h
      have ih := ins_more (x := x) h'
      unfold insP at ih ⊢
      simp only [List.cons_append, List.takeWhile_cons, List.dropWhile_cons, hy, decide_true, if_true]
      rw [ih]
    · unfold insP
      simp [List.takeWhile_cons, List.dropWhile_cons, hy]
theorem acc_more {P : List Int} {n x : Int} (h : P.any (fun y => decide (n < y)) = true) : acc (P ++ [x]) n = acc P n ++ [x] := by
  unfold acc
  rw [if_pos (by rw [List.any_append, h]; rfl), if_pos h, ins_more h]
theorem acc_len (P : List Int) (n : Int) : (acc P n).length ≤ P.length + 1 := by
  unfold acc
  split
  · unfold insP
    have : (P.takeWhile (· < n) ++ P.dropWhile (· < n)).length = P.length := by rw [List.takeWhile_append_dropWhile]
    rw [List.length_append] at this
    rw [List.length_append, List.length_cons]; omega
  · omega
theorem put_end {P : List Int} {n : Int} (h : n ∉ P) : put P n = if P.any (fun y => decide (n < y)) then acc P n else acc P n ++ [n] := by
  unfold put
  rw [if_neg h]
  cases h2 : P.any (fun y => decide (n < y))
  · have h3 := tw_all (all_lt h h2) []
    simp only [List.append_nil] at h3
    unfold acc
    rw [h2, h3.1, h3.2]; simp
  · unfold acc; rw [h2]; rfl

set_option maxRecDepth 100000 in
set_option maxHeartbeats 4000000 in
theorem RPut_any (A : Option Addr) (r c : Nat) (X : List Int) (n : Int) (w : World) (h : SlI w A r c X) (hr : r ≤ 1000000) :
    Calls Tryz.prog 34 #[.slice A r c, .int .i64 n] w fun e w' => ∃ A' q c', e = .returned (.slice A' q c') ∧ SlI w' A' q c' (put X n) ∧ Below w.heap.size w w' := by
  have H := Lib.hid h
  have HX := Lib.hid h.1
  have HO0 : Hid (OwnI w w.heap.size (.slice none 0 0) (acc (X.take 0) n)) := Lib.hid (OwnI.nil _ _)
  have HE0 : Hid (n ∉ X.take 0) := Lib.hid (by simp)
  clear h
  go_enter Tryz.func34, Tryz.ntmps34
  go_wp2
  go_loopw [5, 6, 7] (fun v b i wr0 => ∃ (wr : World) (k : Nat) (d : Bool), wr = wr0 ∧ k ≤ r ∧ b = .bool d ∧ i = .int .i64 k ∧ Hid ((X.take k).any (fun y => decide (n < y)) = d) ∧ Hid (n ∉ X.take k) ∧ Hid (OwnI wr w.heap.size v (acc (X.take k) n)) ∧ Hid (Below w.heap.size w wr)) (fun v b i _ => r - (intOf i).toNat)
  case atStart => exact ⟨_, 0, false, rfl, by omega, rfl, rfl, Lib.hid rfl, HE0, HO0, Lib.hid (Below.refl _ _)⟩
  case round =>
    obtain ⟨wr, k, d, rfl, hk, rfl, rfl, hD, hE, hO, hB⟩ := hrel
    have hlen : (acc (X.take k) n).length ≤ 1000001 := by have := acc_len (X.take k) n; rw [List.length_take] at this; omega
    by_cases hlt : k < r
    · obtain ⟨g, o, x, rfl, hg, z0, hx⟩ := SlI.at H.out hlt
      have y0 := (hB.out.cell (p := ⟨g, _, none⟩) hg).trans z0
      have HZ0 := Lib.hid z0
      have e1 : X.take (k + 1) = X.take k ++ [x] := by rw [List.take_add_one, hx]; rfl
      have hk0 : 0 ≤ (k : Int) := by omega
      have hk1 : (k : Int) < (r : Int) := by omega
      by_cases hxn : x = n
      · have q1 : (x == n) = true := by simp [hxn]
        have hq : Hid (put X n = X) := Lib.hid (by unfold put; rw [if_pos (hxn ▸ List.mem_of_getElem? hx)])
        have hS := Lib.hid (SlI.below H.out hB.out)
        clear z0 hx e1 hxn
        go_wp2
        go_ret
        exact ⟨_, _, _, rfl, by rw [hq.out]; exact hS.out, hB.out⟩
      · have q1 : (x == n) = false := by simp [hxn]
        have HE1 : Hid (n ∉ X.take (k + 1)) := Lib.hid (by
          rw [e1, List.mem_append]; rintro (h | h)
          · exact hE.out h
          · have h6 : n = x := by simpa using h
            exact hxn h6.symm)
        cases d
        · by_cases hnx : n < x
          · have q2 : decide (n < x) = true := decide_eq_true hnx
            have HD1 : Hid ((X.take (k + 1)).any (fun y => decide (n < y)) = true) := Lib.hid (by rw [e1, List.any_append]; simp [hnx])
            have HV : Hid (acc (X.take (k + 1)) n = acc (X.take k) n ++ [n] ++ [x]) := Lib.hid (by rw [e1, acc_new hE.out hD.out hnx]; unfold acc; rw [hD.out]; rfl)
            clear z0 hx e1 hxn hD hE
            generalize acc (X.take k) n = Y at *
            go_wp2_with (first
              | (at_builtin; ((refine app_ints rfl (.tmp 31) (.tmp 33) rfl w.heap.size _ Y rfl (World.ownsRow.alloc hO.out (.cells #[.int .i64 n] 3)) _ 1 1 [n] rfl one_sl (by omega) (bel_alloc hB.out _).size ?_); intro v2 w3 ho3 hg3; have B3 : Below w.heap.size w w3 := (bel_alloc hB.out (.cells #[.int .i64 n] 3)).grown hg3 (bel_alloc hB.out _).size (fun q hq => (hO.out.lt q hq).1); have y3 := (B3.cell (p := ⟨g, _, none⟩) hg).trans HZ0.out))
              | (at_builtin; ((refine app_ints rfl (.tmp 35) (.tmp 40) rfl w.heap.size v2 (Y ++ [n]) rfl (World.ownsRow.alloc ho3 (.cells #[.int .i64 x] 3)) _ 1 1 [x] rfl one_sl (by simp; omega) (bel_alloc B3 _).size ?_); intro v4 w5 ho5 hg5; have B5 : Below w.heap.size w w5 := (bel_alloc B3 (.cells #[.int .i64 x] 3)).grown hg5 (bel_alloc B3 _).size (fun q hq => (ho3.lt q hq).1))))
            go_roundw
            case rel => exact ⟨_, k + 1, true, rfl, by omega, rfl, by go_num, HD1, HE1, Lib.hid (by rw [HV.out]; exact ho5), Lib.hid B5⟩
            case measure => simp [intOf]; omega
          · have q2 : decide (n < x) = false := decide_eq_false hnx
            have HD1 : Hid ((X.take (k + 1)).any (fun y => decide (n < y)) = false) := Lib.hid (by rw [e1, List.any_append, hD.out]; simp; omega)
            have HV : Hid (acc (X.take (k + 1)) n = acc (X.take k) n ++ [x]) := Lib.hid (by have h5 := acc_less (x := x) hD.out hnx; rw [e1, h5.1, h5.2])
            clear z0 hx e1 hxn hD hE
            generalize acc (X.take k) n = Y at *
            go_wp2_with (at_builtin; ((refine app_ints rfl (.tmp 35) (.tmp 40) rfl w.heap.size _ Y rfl (World.ownsRow.alloc hO.out (.cells #[.int .i64 x] 3)) _ 1 1 [x] rfl one_sl (by omega) (bel_alloc hB.out _).size ?_); intro v2 w3 ho3 hg3; have B3 : Below w.heap.size w w3 := (bel_alloc hB.out (.cells #[.int .i64 x] 3)).grown hg3 (bel_alloc hB.out _).size (fun q hq => (hO.out.lt q hq).1)))
            go_roundw
            case rel => exact ⟨_, k + 1, false, rfl, by omega, rfl, by go_num, HD1, HE1, Lib.hid (by rw [HV.out]; exact ho3), Lib.hid B3⟩
            case measure => simp [intOf]; omega
        · have HD1 : Hid ((X.take (k + 1)).any (fun y => decide (n < y)) = true) := Lib.hid (by rw [e1, List.any_append, hD.out]; rfl)
          have HV : Hid (acc (X.take (k + 1)) n = acc (X.take k) n ++ [x]) := Lib.hid (by rw [e1, acc_more hD.out])
          clear z0 hx e1 hxn hD hE
          generalize acc (X.take k) n = Y at *
          go_wp2_with (at_builtin; ((refine app_ints rfl (.tmp 35) (.tmp 40) rfl w.heap.size _ Y rfl (World.ownsRow.alloc hO.out (.cells #[.int .i64 x] 3)) _ 1 1 [x] rfl one_sl (by omega) (bel_alloc hB.out _).size ?_); intro v2 w3 ho3 hg3; have B3 : Below w.heap.size w w3 := (bel_alloc hB.out (.cells #[.int .i64 x] 3)).grown hg3 (bel_alloc hB.out _).size (fun q hq => (hO.out.lt q hq).1)))
          go_roundw
          case rel => exact ⟨_, k + 1, true, rfl, by omega, rfl, by go_num, HD1, HE1, Lib.hid (by rw [HV.out]; exact ho3), Lib.hid B3⟩
          case measure => simp [intOf]; omega
    · obtain rfl : k = r := by omega
      have e1 : X.take k = X := List.take_of_length_le (by have := HX.out; omega)
      rw [e1] at hD hE hO hlen
      have hP := put_end hE.out
      rw [hD.out] at hP
      clear e1
      generalize acc X n = Y at *
      cases d
      · have HP : Hid (put X n = Y ++ [n]) := Lib.hid hP
        clear hP hE
        go_wp2_with (at_builtin; ((refine app_ints rfl (.tmp 44) (.tmp 46) rfl w.heap.size _ Y rfl (World.ownsRow.alloc hO.out (.cells #[.int .i64 n] 3)) _ 1 1 [n] rfl one_sl (by omega) (bel_alloc hB.out _).size ?_); intro v2 w3 ho3 hg3; have B3 : Below w.heap.size w w3 := (bel_alloc hB.out (.cells #[.int .i64 n] 3)).grown hg3 (bel_alloc hB.out _).size (fun q hq => (hO.out.lt q hq).1)))
        go_ret
        rw [HP.out]
        obtain ⟨A', c', hv, _⟩ := ho3.slice
        subst hv
        exact ⟨_, _, _, rfl, ho3.sl.2.2, B3⟩
      · have HP : Hid (put X n = Y) := Lib.hid hP
        clear hP hE
        go_wp2
        go_ret
        rw [HP.out]
        obtain ⟨A', c', hv, _⟩ := hO.out.slice
        have ho := hO.out
        rw [hv] at ho ⊢
        exact ⟨_, _, _, rfl, ho.sl.2.2, hB.out⟩
end Go.Proofs.YthchjceibpcgbaaGreatDoor.Cn
namespace Go.Proofs.YthchjceibpcgbaaGreatDoor.Cn
open Go.RowKit L Lt
set_option linter.unusedVariables false
set_option linter.unusedSimpArgs false

theorem put_len (l : List Int) (n : Int) : (put l n).length ≤ l.length + 1 := by
  unfold put
  split
  · omega
  · have : (l.takeWhile (· < n) ++ l.dropWhile (· < n)).length = l.length := by rw [List.takeWhile_append_dropWhile]
    rw [List.length_append] at this
    rw [List.length_append, List.length_cons]; omega
theorem fput_len : ∀ (Y l : List Int), (Y.foldl put l).length ≤ l.length + Y.length
  | [], l => by simp
  | y :: Y, l => by
    have h1 := fput_len Y (put l y)
    have h2 := put_len l y
    simp only [List.foldl_cons, List.length_cons]; omega
/-- the variables of the first clauses, and of the first literals of one more -/
def vrP (G : List (List Int)) (Y : List Int) : List Int := (Y.map vr).foldl put (vrC G)
theorem vrP_next {G : List (List Int)} {Y : List Int} {j : Nat} {y : Int} (h : Y[j]? = some y) : vrP G (Y.take (j + 1)) = put (vrP G (Y.take j)) (vr y) := by
  unfold vrP; rw [List.take_add_one, h, List.map_append, List.foldl_append]; rfl
theorem vrC_next {G : List (List Int)} {k : Nat} {X : List Int} (h : G[k]? = some X) : vrC (G.take (k + 1)) = vrP (G.take k) (cl X) := by
  unfold vrP vrC; rw [List.take_add_one, h, List.flatMap_append, List.foldl_append]; simp
theorem vrC_len : ∀ {G : List (List Int)}, (∀ X ∈ G, X.length ≤ 1000) → (vrC G).length ≤ G.length * 1000 := fun {G} h => by
  have h1 := fput_len (G.flatMap fun c => (cl c).map vr) []
  have h2 : (G.flatMap fun c => (cl c).map vr).length ≤ G.length * 1000 := by
    clear h1
    induction G with
    | nil => simp
    | cons X G ih =>
      have h3 := ih (fun Y hY => h Y (by simp [hY]))
      have h4 := h X (by simp)
      have h5 := cl_len X
      rw [List.flatMap_cons, List.length_append, List.length_map, List.length_cons, Nat.add_mul]; omega
  rw [List.length_nil, Nat.zero_add] at h1
  exact Nat.le_trans h1 h2
set_option maxRecDepth 100000 in
set_option maxHeartbeats 4000000 in
theorem RVars_any (N : Int) (A : Option Addr) (r c : Nat) (G : List (List Int)) (w : World) (h : SlG w A r c G) (hr : r ≤ 500) (hs : ∀ X ∈ G, R64s X ∧ X.length ≤ 1000) :
    Calls Tryz.prog 15 #[.agg #[.int .i64 N, .slice A r c]] w fun e w' => ∃ A' q c', e = .returned (.slice A' q c') ∧ SlI w' A' q c' (vrC G) ∧ Below w.heap.size w w' := by
  obtain ⟨W2, hW2, hB2, S2⟩ := boxC w N A r c
  obtain ⟨s0, s1⟩ := S2.two
  have LS := Lib.hid (Blk.lt S2)
  have H := Lib.hid (h.below hB2)
  have HX := Lib.hid h.1
  have HS := Lib.hid hs
  have HB2 := Lib.hid hB2
  have HL := Lib.hid (fun k => vrC_len (G := G.take k) (fun X hX => (hs X (List.take_subset _ _ hX)).2))
  have HO0 : Hid (SlI W2 none 0 0 (vrC (G.take 0))) := Lib.hid (SlI.nil _)
  have CP := Lib.hid (fun A q c X n (W : World) (h : SlI W A q c X) (hq : q ≤ 1000000) => RPut_any A q c X n W h hq)
  clear h hs hB2 S2
  go_enter Tryz.func15, Tryz.ntmps15
  go_wp2
  go_loopw [3, 4] (fun v i wr0 => ∃ (wr : World) (k : Nat) (A3 : Option Addr) (q3 c3 : Nat), wr = wr0 ∧ k ≤ r ∧ v = .slice A3 q3 c3 ∧ i = .int .i64 k ∧ Hid (SlI wr A3 q3 c3 (vrC (G.take k))) ∧ Hid (Below W2.heap.size W2 wr)) (fun v i _ => r - (intOf i).toNat)
  case atStart => exact ⟨_, 0, none, 0, 0, rfl, by omega, rfl, rfl, HO0, Lib.hid (Below.refl _ _)⟩
  case round =>
    obtain ⟨wr, k, A3, q3, c3, rfl, hk, rfl, rfl, hO, hB⟩ := hrel
    have t1 : wr.cell? ⟨w.heap.size, 1, none⟩ = some (.slice A r c) := (hB.out.cell (p := ⟨_, _, none⟩) LS.out).trans s1
    by_cases hlt : k < r
    · obtain ⟨g, o, B, p, q, X, rfl, hg, z0, hx, hX⟩ := SlG.at H.out hlt
      have y0 := (hB.out.cell (p := ⟨g, _, none⟩) hg).trans z0
      obtain ⟨hXr, hXl⟩ := HS.out X (List.mem_of_getElem? hx)
      have cr := RClean_any B p q X wr (hX.below hB.out) hXr (by rw [hX.1]; omega)
      have hcr := Lib.hid (cl_r hXr)
      have hcl := Lib.hid (Nat.le_trans (cl_len X) hXl)
      have hN := Lib.hid (vrC_next hx)
      have hpb : p ≤ 1000 := by rw [hX.1]; exact hXl
      have hk0 : 0 ≤ (k : Int) := by omega
      have hk1 : (k : Int) < (r : Int) := by omega
      clear z0 hx hX hXr hXl
      generalize opp (cl X) = op at *
      generalize cl X = Y at *
      go_wp2_with (go_at_call 27; ((with_reducible refine cr.mono ?_); rintro e w3 ⟨A4, q4, c4, rfl, hY, hq4, b3⟩; clear cr))
      have HY := Lib.hid hY
      have HYl := Lib.hid hY.1
      have HO3 := Lib.hid (show SlI w3 A3 q3 c3 (vrP (G.take k) (Y.take 0)) from hO.out.below b3)
      have HB3 := Lib.hid (bel_trans hB.out b3)
      clear hY b3
      go_loopw [3, 7] (fun v i wr0 => ∃ (ws : World) (j : Nat) (A5 : Option Addr) (q5 c5 : Nat), ws = wr0 ∧ j ≤ q4 ∧ v = .slice A5 q5 c5 ∧ i = .int .i64 j ∧ Hid (SlI ws A5 q5 c5 (vrP (G.take k) (Y.take j))) ∧ Hid (Below w3.heap.size w3 ws)) (fun v i _ => q4 - (intOf i).toNat)
      case atStart => exact ⟨_, 0, A3, q3, c3, rfl, by omega, rfl, rfl, HO3, Lib.hid (Below.refl _ _)⟩
      case round =>
        obtain ⟨ws, j, A5, q5, c5, rfl, hj, rfl, rfl, hO5, hB5⟩ := hrel
        by_cases hjl : j < q4
        · obtain ⟨g', o', y, rfl, hg', z1, hy⟩ := SlI.at HY.out hjl
          have y1 := (hB5.out.cell (p := ⟨g', _, none⟩) hg').trans z1
          have co := Of_any y ws (hcr.out y (List.mem_of_getElem? hy))
          have hq5 : q5 ≤ 1000000 := by
            rw [hO5.out.1]
            have h1 := fput_len ((Y.take j).map vr) (vrC (G.take k))
            have h2 := HL.out k
            have h3 := hcl.out
            simp only [List.length_map, List.length_take] at h1 h2
            show (vrP _ _).length ≤ _
            unfold vrP
            omega
          have cp := CP.out A5 q5 c5 _ (vr y) ws hO5.out hq5
          have hV := Lib.hid (vrP_next (G := G.take k) hy)
          have hj2 := Lib.hid (show j + 1 ≤ q4 from hjl)
          have hj0 : 0 ≤ (j : Int) := by omega
          have hj1 : (j : Int) < (q4 : Int) := by omega
          clear z1 hy hq5
          generalize vr y = u at *
          go_wp2_with (first
            | (go_at_call 35; ((with_reducible refine co.mono ?_); rintro e w5 ⟨rfl, rfl⟩; clear co))
            | (go_at_call 34; ((with_reducible refine cp.mono ?_); rintro e w6 ⟨A6, q6, c6, rfl, hS6, b6⟩; clear cp)))
          go_roundw
          case rel => exact ⟨_, j + 1, A6, q6, c6, rfl, hj2.out, rfl, by go_num, Lib.hid (by rw [hV.out]; exact hS6), Lib.hid (bel_trans hB5.out b6)⟩
          case measure => have := hj2.out; simp [intOf]; omega
        · obtain rfl : j = q4 := by omega
          have e1 : Y.take j = Y := List.take_of_length_le (by have := HYl.out; omega)
          have hS := Lib.hid (show SlI ws A5 q5 c5 (vrC (G.take (k + 1))) by rw [hN.out]; have := hO5.out; rwa [e1] at this)
          clear e1
          go_wp2
          go_roundw
          case rel => exact ⟨_, k + 1, A5, q5, c5, rfl, by omega, rfl, by go_num, hS, Lib.hid (bel_trans HB3.out hB5.out)⟩
          case measure => simp [intOf]; omega
    · obtain rfl : k = r := by omega
      have e1 : G.take k = G := List.take_of_length_le (by have := HX.out; omega)
      have hS := Lib.hid (show SlI wr A3 q3 c3 (vrC G) by have := hO.out; rwa [e1] at this)
      clear e1
      go_wp2
      go_ret
      exact ⟨_, _, _, rfl, hS.out, bel_trans HB2.out hB.out⟩
end Go.Proofs.YthchjceibpcgbaaGreatDoor.Cn
