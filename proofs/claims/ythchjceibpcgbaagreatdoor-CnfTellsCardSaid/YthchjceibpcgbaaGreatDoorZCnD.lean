/-
  What is proved: what the document's own answers return: Long, Right, Holds.
-/
import Derived.Test.YthchjceibpcgbaaGreatDoorCB
import Derived.Test.YthchjceibpcgbaaGreatDoorZCnC
import Derived.Test.YthchjceibpcgbaaGreatDoorLC
namespace Go.Proofs.YthchjceibpcgbaaGreatDoor.Cn
open Go.RowKit L Lt
set_option linter.unusedVariables false
set_option linter.unusedSimpArgs false

def lgG (G : List (List Int)) (m : Int) : Bool := decide ((G.length : Int) > m) || G.any (fun X => decide ((X.length : Int) > 70))
set_option maxRecDepth 100000 in
theorem RLong_any (a : Option Addr) (n c : Nat) (G : List (List Int)) (m : Int) (w : World) (h : SlG w a n c G) (hn : n ≤ 9223372036854775807) :
    Calls Tryz.prog 6 #[.slice a n c, .int .i64 m] w fun e w' => e = .returned (.bool (lgG G m)) ∧ w = w' := by
  have H := Lib.hid h
  have HX := Lib.hid h.1
  have hR0 : Hid (lgG G m = (decide ((n : Int) > m) || G.any (fun X => decide ((X.length : Int) > 70)))) := by show _ = _; unfold lgG; rw [← h.1]
  generalize lgG G m = R at *
  clear h
  cases h1 : decide ((n : Int) > m)
  · have hR : Hid (R = G.any (fun X => decide ((X.length : Int) > 70))) := Lib.hid (by rw [hR0.out, h1]; simp)
    have HE : Hid ((G.take 0).any (fun X => decide ((X.length : Int) > 70)) = false) := by show _ = _; simp
    clear hR0
    go_enter Tryz.func6, Tryz.ntmps6
    go_wp2
    go_loopw [5] (fun i wr0 => ∃ (wr : World) (k : Nat), wr = wr0 ∧ k ≤ n ∧ i = .int .i64 k ∧ Hid ((G.take k).any (fun X => decide ((X.length : Int) > 70)) = false) ∧ Hid (w = wr)) (fun i _ => n - (intOf i).toNat)
    case atStart => exact ⟨_, 0, rfl, by omega, rfl, HE, Lib.hid rfl⟩
    case round =>
      obtain ⟨wr, k, rfl, hk, rfl, hE, hW⟩ := hrel
      by_cases hlt : k < n
      · obtain ⟨g, o, B, p, q, X, rfl, hg, z0, hx, hX⟩ := SlG.at H.out hlt
        have y0 : wr.cell? ⟨g, o + k, none⟩ = some (.slice B p q) := by rw [← hW.out]; exact z0
        have hp := hX.1
        have HE1 : Hid ((G.take (k + 1)).any (fun X => decide ((X.length : Int) > 70)) = decide ((p : Int) > 70)) := Lib.hid (by rw [List.take_add_one, hx, List.any_append, hE.out, hp]; simp)
        have HM : Hid (decide ((p : Int) > 70) = true → true = R) := Lib.hid (fun h => by rw [hR.out]; exact (List.any_eq_true.2 ⟨X, List.mem_of_getElem? hx, by rw [← hp]; exact h⟩).symm)
        have hk0 : 0 ≤ (k : Int) := by omega
        have hk1 : (k : Int) < (n : Int) := by omega
        clear z0 hx hX hE hp
        cases hd : decide ((p : Int) > 70)
        · have HE2 := Lib.hid (HE1.out.trans hd)
          clear HM HE1
          go_wp2
          go_roundw
          case rel => exact ⟨_, k + 1, rfl, by omega, by go_num, HE2, hW⟩
          case measure => simp [intOf]; omega
        · have q2 := Lib.hid (HM.out hd)
          clear HM HE1
          go_wp2
          go_ret
          exact ⟨L.oneB q2.out, hW.out⟩
      · obtain rfl : k = n := by omega
        have q2 : Hid (false = R) := Lib.hid (by rw [hR.out]; have := hE.out; rw [List.take_of_length_le (by have := HX.out; omega)] at this; exact this.symm)
        clear hE
        go_wp2
        go_ret
        exact ⟨L.oneB q2.out, hW.out⟩
  · have hR : Hid (true = R) := Lib.hid (by rw [hR0.out, h1]; simp)
    clear hR0
    go_enter Tryz.func6, Tryz.ntmps6
    go_wp2
    go_ret
    exact ⟨L.oneB hR.out, rfl⟩
theorem lg_small {G : List (List Int)} {m : Int} (h : lgG G m = false) : (G.length : Int) ≤ m ∧ ∀ X ∈ G, X.length ≤ 70 := by
  unfold lgG at h
  simp only [Bool.or_eq_false_iff, decide_eq_false_iff_not, List.any_eq_false, decide_eq_true_eq] at h
  exact ⟨by omega, fun X hX => by have := h.2 X hX; omega⟩

theorem bad_skip (N : Int) : ∀ (A : List (List Int)) (B : List (List Int)) (i : Nat), (∀ c ∈ A, rg1 c N = 0) → bad N i (A ++ B) = bad N (i + A.length) B
  | [], B, i, _ => by simp
  | c :: A, B, i, h => by
    rw [List.cons_append, bad, if_pos (h c (by simp)), bad_skip N A B (i + 1) (fun d hd => h d (by simp [hd]))]
    congr 1; simp; omega
theorem bad_hit {N : Int} {G : List (List Int)} {k : Nat} {X : List Int} (h : G[k]? = some X) (h0 : ∀ c ∈ G.take k, rg1 c N = 0) (h1 : rg1 X N ≠ 0) : bad N 0 G = ((k : Int), rg1 X N) := by
  obtain ⟨hk, hx⟩ := List.getElem?_eq_some_iff.1 h
  have e : G = G.take k ++ X :: G.drop (k + 1) := by rw [← hx, List.getElem_cons_drop, List.take_append_drop]
  rw [e, bad_skip N _ _ 0 h0, bad, if_neg h1, List.length_take]
  congr 1; omega
set_option maxRecDepth 100000 in
set_option maxHeartbeats 4000000 in
theorem RRightC_any (z : CfZ) (w : World) (h : z.ok w) :
    Calls Tryz.prog 18 #[z.val] w fun e w' => e = .returned (.tuple #[.int .i64 (rgC z.N z.G).1, .int .i64 (rgC z.N z.G).2]) ∧ Below w.heap.size w w' := by
  obtain ⟨N, a, n, c, G⟩ := z
  obtain ⟨hN, hn, hG, hs⟩ := h
  simp only at hN hn hG hs
  show Calls Tryz.prog 18 #[.agg #[.int .i64 N, .slice a n c]] w _
  obtain ⟨W2, hW2, hB2, S2⟩ := boxC w N a n c
  obtain ⟨s0, s1⟩ := S2.two
  have H := Lib.hid (hG.below hB2)
  have HB2 := Lib.hid hB2
  have HX := Lib.hid hG.1
  have HS := Lib.hid hs
  have CR := Lib.hid (fun A m q X (W : World) (h : SlI W A m q X) (hr : R64s X) (hn : m ≤ 9223372036854775807) => RRight_any A m q X N W h hr hn)
  have hR : Hid (rgC N G = if N < 0 ∨ 1024 < N then (-1, 1) else if 4096 < n then (-1, 2) else bad N 0 G) := by show _ = _; unfold rgC; rw [← hG.1]
  show Calls _ _ _ _ fun e w' => e = .returned (.tuple #[.int .i64 (rgC N G).1, .int .i64 (rgC N G).2]) ∧ Below w.heap.size w w'
  generalize rgC N G = R at *
  obtain ⟨R1, R2⟩ := R
  show Calls _ _ _ _ fun e w' => e = .returned (.tuple #[.int .i64 R1, .int .i64 R2]) ∧ Below w.heap.size w w'
  have LS := Lib.hid (Blk.lt S2)
  clear hG hs hB2 S2
  by_cases h1 : N < 0
  · have q1 : decide (N < 0) = true := decide_eq_true h1
    have hq : Hid (R1 = -1 ∧ R2 = 1) := Lib.hid (by have := hR.out; rw [if_pos (Or.inl h1)] at this; injection this with e1 e2; exact ⟨e1, e2⟩)
    clear hR
    go_enter Tryz.func18, Tryz.ntmps18
    go_wp2
    go_ret2
    exact ⟨by rw [hq.out.1, hq.out.2]; rfl, HB2.out⟩
  · have q1 : decide (N < 0) = false := decide_eq_false h1
    by_cases h2 : 1024 < N
    · have q2 : decide (N > 1024) = true := decide_eq_true h2
      have hq : Hid (R1 = -1 ∧ R2 = 1) := Lib.hid (by have := hR.out; rw [if_pos (Or.inr h2)] at this; injection this with e1 e2; exact ⟨e1, e2⟩)
      clear hR
      go_enter Tryz.func18, Tryz.ntmps18
      go_wp2
      go_ret2
      exact ⟨by rw [hq.out.1, hq.out.2]; rfl, HB2.out⟩
    · have q2 : decide (N > 1024) = false := decide_eq_false h2
      by_cases h3 : 4096 < n
      · have q3 : decide ((n : Int) > 4096) = true := decide_eq_true (by omega)
        have hq : Hid (R1 = -1 ∧ R2 = 2) := Lib.hid (by have := hR.out; rw [if_neg (by omega), if_pos h3] at this; injection this with e1 e2; exact ⟨e1, e2⟩)
        clear hR
        go_enter Tryz.func18, Tryz.ntmps18
        go_wp2
        go_ret2
        exact ⟨by rw [hq.out.1, hq.out.2]; rfl, HB2.out⟩
      · have q3 : decide ((n : Int) > 4096) = false := decide_eq_false (by omega)
        have hB : Hid ((R1, R2) = bad N 0 G) := Lib.hid (by have := hR.out; rw [if_neg (by omega), if_neg h3] at this; exact this)
        have HE : Hid (∀ c ∈ G.take 0, rg1 c N = 0) := Lib.hid (by simp)
        clear hR
        go_enter Tryz.func18, Tryz.ntmps18
        go_wp2
        go_loopw [4] (fun i wr0 => ∃ (wr : World) (k : Nat), wr = wr0 ∧ k ≤ n ∧ i = .int .i64 k ∧ Hid (∀ c ∈ G.take k, rg1 c N = 0) ∧ Hid (Below W2.heap.size W2 wr)) (fun i _ => n - (intOf i).toNat)
        case atStart => exact ⟨_, 0, rfl, by omega, rfl, HE, Lib.hid (Below.refl _ _)⟩
        case round =>
          obtain ⟨wr, k, rfl, hk, rfl, hE, hW⟩ := hrel
          by_cases hlt : k < n
          · obtain ⟨g, o, B, p, q, X, rfl, hg, z0, hx, hX⟩ := SlG.at H.out hlt
            have y0 : wr.cell? ⟨g, o + k, none⟩ = some (.slice B p q) := (hW.out.cell (p := ⟨g, _, none⟩) hg).trans z0
            have t0 : wr.cell? ⟨w.heap.size, 0, none⟩ = some (.int .i64 N) := (hW.out.cell (p := ⟨_, _, none⟩) LS.out).trans s0
            have t1 : wr.cell? ⟨w.heap.size, 1, none⟩ = some (.slice (some ⟨g, o, none⟩) n c) := (hW.out.cell (p := ⟨_, _, none⟩) LS.out).trans s1
            have hsX := HS.out X (List.mem_of_getElem? hx)
            have cr := Lib.hid (fun (W : World) (hb : Below wr.heap.size wr W) => CR.out B p q X W (hX.below (bel_trans hW.out hb)) hsX.1 (by rw [hX.1]; exact hsX.2))
            have HH : Hid (rg1 X N ≠ 0 → R1 = k ∧ R2 = rg1 X N) := Lib.hid (fun h => by
              have := hB.out; rw [bad_hit hx hE.out h] at this; injection this with e1 e2; exact ⟨e1, e2⟩)
            have HE1 : Hid (rg1 X N = 0 → ∀ c ∈ G.take (k + 1), rg1 c N = 0) := Lib.hid (fun h c hc => by
              rw [List.take_add_one, hx] at hc
              rcases List.mem_append.1 hc with hc | hc
              · exact hE.out c hc
              · obtain rfl : c = X := by simpa using hc
                exact h)
            have hk0 : 0 ≤ (k : Int) := by omega
            have hk1 : (k : Int) < (n : Int) := by omega
            have er : rgL X N = rg1 X N := rfl
            rw [er] at cr
            clear z0 hx hX hsX hE er
            generalize rg1 X N = v at *
            cases hv : (v != 0)
            · have hv0 : v = 0 := by simpa using hv
              have HE2 := Lib.hid (HE1.out hv0)
              clear HE1 HH hv0
              go_wp2_with fail
              go_region_with (go_at_call 38; ((with_reducible refine (cr.out _ (Below.refl _ _).drew).mono ?_); rintro e w2 ⟨rfl, rfl⟩))
              all_goals go_wp2
              all_goals go_roundw
              all_goals first
                | exact ⟨_, k + 1, rfl, by omega, by go_num, HE2, Lib.hid (by first | exact hW.out | exact hW.out.drew)⟩
                | (simp [intOf]; omega)
            · have hq := Lib.hid (HH.out (by simpa using hv))
              clear HE1 HH
              go_wp2_with fail
              go_region_with (go_at_call 38; ((with_reducible refine (cr.out _ (Below.refl _ _).drew).mono ?_); rintro e w2 ⟨rfl, rfl⟩))
              all_goals go_wp2
              all_goals go_ret2
              all_goals exact ⟨by rw [hq.out.1, hq.out.2]; rfl, (by first | exact bel_trans HB2.out hW.out | exact bel_trans HB2.out hW.out.drew)⟩
          · obtain rfl : k = n := by omega
            have t1 : wr.cell? ⟨w.heap.size, 1, none⟩ = some (.slice a k c) := (hW.out.cell (p := ⟨_, _, none⟩) LS.out).trans s1
            have hq : Hid (R1 = 0 ∧ R2 = 0) := Lib.hid (by
              have h5 := hE.out
              rw [List.take_of_length_le (by have := HX.out; omega)] at h5
              have := hB.out; rw [bad_at N G 0 h5] at this; injection this with e1 e2; exact ⟨e1, e2⟩)
            clear hE
            go_wp2
            go_ret2
            exact ⟨by rw [hq.out.1, hq.out.2]; rfl, (by first | exact bel_trans HB2.out hW.out | exact bel_trans HB2.out hW.out.drew)⟩
theorem hdC_skip (V : List Bool) : ∀ (A B : List (List Int)) (i : Nat), (∀ c ∈ A, hld c V = true) → hdC i (A ++ B) V = hdC (i + A.length) B V
  | [], B, i, _ => by simp
  | c :: A, B, i, h => by
    rw [List.cons_append, hdC, if_pos (h c (by simp)), hdC_skip V A B (i + 1) (fun d hd => h d (by simp [hd]))]
    congr 1; simp; omega
theorem hdC_hit {V : List Bool} {G : List (List Int)} {k : Nat} {X : List Int} (h : G[k]? = some X) (h0 : ∀ c ∈ G.take k, hld c V = true) (h1 : hld X V = false) : hdC 0 G V = ((k : Int), false) := by
  obtain ⟨hk, hx⟩ := List.getElem?_eq_some_iff.1 h
  have e : G = G.take k ++ X :: G.drop (k + 1) := by rw [← hx, List.getElem_cons_drop, List.take_append_drop]
  rw [e, hdC_skip V _ _ 0 h0, hdC, if_neg (by rw [h1]; decide), List.length_take]
  congr 1; omega
theorem hdC_none {V : List Bool} : ∀ {G : List (List Int)} (i : Nat), (∀ c ∈ G, hld c V = true) → hdC i G V = (0, true)
  | [], i, _ => rfl
  | c :: r, i, h => by rw [hdC, if_pos (h c (by simp))]; exact hdC_none (i + 1) (fun d hd => h d (by simp [hd]))
set_option maxRecDepth 100000 in
set_option maxHeartbeats 4000000 in
theorem RHoldsC_any (z : CfZ) (b : Option Addr) (m d : Nat) (V : List Bool) (w : World) (h : z.ok w) (hb : SlB w b m d V) (hm : m ≤ 9223372036854775807) (hl : ∀ X ∈ z.G, X.length ≤ 1000000000) :
    Calls Tryz.prog 8 #[z.val, .slice b m d] w fun e w' => e = .returned (.tuple #[.int .i64 (hdC 0 z.G V).1, .bool (hdC 0 z.G V).2]) ∧ Below w.heap.size w w' := by
  obtain ⟨N, a, n, c, G⟩ := z
  obtain ⟨hN, hn, hG, hs⟩ := h
  simp only at hN hn hG hs hl
  show Calls Tryz.prog 8 #[.agg #[.int .i64 N, .slice a n c], .slice b m d] w _
  obtain ⟨W2, hW2, hB2, S2⟩ := boxC w N a n c
  obtain ⟨s0, s1⟩ := S2.two
  have hb2 := hb.below hB2
  have H := Lib.hid (hG.below hB2)
  have HB2 := Lib.hid hB2
  have HX := Lib.hid hG.1
  have HS := Lib.hid hs
  have HL := Lib.hid hl
  have CR := Lib.hid (fun A p q X (h : SlI W2 A p q X) (hr : R64s X) (hn : p ≤ 1000000000) => RHolds_any A p q X b m d V W2 h hr hb2 hn hm)
  show Calls _ _ _ _ fun e w' => e = .returned (.tuple #[.int .i64 (hdC 0 G V).1, .bool (hdC 0 G V).2]) ∧ Below w.heap.size w w'
  obtain ⟨R, hR⟩ : ∃ R, hdC 0 G V = R := ⟨_, rfl⟩
  rw [hR]
  obtain ⟨R1, R2⟩ := R
  show Calls _ _ _ _ fun e w' => e = .returned (.tuple #[.int .i64 R1, .bool R2]) ∧ Below w.heap.size w w'
  have hB : Hid ((R1, R2) = hdC 0 G V) := Lib.hid hR.symm
  have HE : Hid (∀ c ∈ G.take 0, hld c V = true) := Lib.hid (by simp)
  clear hG hs hl hb hb2 hm hR hB2 S2
  go_enter Tryz.func8, Tryz.ntmps8
  go_wp2
  go_loopw [6] (fun i wr0 => ∃ (wr : World) (k : Nat), wr = wr0 ∧ k ≤ n ∧ i = .int .i64 k ∧ Hid (∀ c ∈ G.take k, hld c V = true) ∧ Hid (W2 = wr)) (fun i _ => n - (intOf i).toNat)
  case atStart => exact ⟨_, 0, rfl, by omega, rfl, HE, Lib.hid rfl⟩
  case round =>
    obtain ⟨wr, k, rfl, hk, rfl, hE, hW⟩ := hrel
    by_cases hlt : k < n
    · obtain ⟨g, o, B, p, q, X, rfl, hg, z0, hx, hX⟩ := SlG.at H.out hlt
      have y0 : wr.cell? ⟨g, o + k, none⟩ = some (.slice B p q) := by rw [← hW.out]; exact z0
      have t0 : wr.cell? ⟨w.heap.size, 0, none⟩ = some (.int .i64 N) := by rw [← hW.out]; exact s0
      have t1 : wr.cell? ⟨w.heap.size, 1, none⟩ = some (.slice (some ⟨g, o, none⟩) n c) := by rw [← hW.out]; exact s1
      have hsX := HS.out X (List.mem_of_getElem? hx)
      have hp : p ≤ 1000000000 := by rw [hX.1]; exact HL.out X (List.mem_of_getElem? hx)
      have cr := CR.out B p q X hX hsX.1 hp
      rw [hW.out] at cr
      have HH : Hid (hld X V = false → R1 = k ∧ R2 = false) := Lib.hid (fun h => by
        have := hB.out; rw [hdC_hit hx hE.out h] at this; injection this with e1 e2; exact ⟨e1, e2⟩)
      have HE1 : Hid (hld X V = true → ∀ c ∈ G.take (k + 1), hld c V = true) := Lib.hid (fun h c hc => by
        rw [List.take_add_one, hx] at hc
        rcases List.mem_append.1 hc with hc | hc
        · exact hE.out c hc
        · obtain rfl : c = X := by simpa using hc
          exact h)
      have hk0 : 0 ≤ (k : Int) := by omega
      have hk1 : (k : Int) < (n : Int) := by omega
      clear z0 hx hX hsX hE hp
      generalize hld X V = v at *
      cases v
      · have hq := Lib.hid (HH.out rfl)
        clear HE1 HH
        go_wp2_with (go_at_call 22; ((with_reducible refine cr.mono ?_); rintro e w2 ⟨rfl, rfl⟩))
        go_ret2
        exact ⟨by rw [hq.out.1, hq.out.2]; rfl, hW.out ▸ HB2.out⟩
      · have HE2 := Lib.hid (HE1.out rfl)
        clear HE1 HH
        go_wp2_with (go_at_call 22; ((with_reducible refine cr.mono ?_); rintro e w2 ⟨rfl, rfl⟩))
        go_roundw
        case rel => exact ⟨_, k + 1, rfl, by omega, by go_num, HE2, hW⟩
        case measure => simp [intOf]; omega
    · obtain rfl : k = n := by omega
      have t1 : wr.cell? ⟨w.heap.size, 1, none⟩ = some (.slice a k c) := by rw [← hW.out]; exact s1
      have hq : Hid (R1 = 0 ∧ R2 = true) := Lib.hid (by
        have h5 := hE.out
        rw [List.take_of_length_le (by have := HX.out; omega)] at h5
        have := hB.out; rw [hdC_none 0 h5] at this; injection this with e1 e2; exact ⟨e1, e2⟩)
      clear hE
      go_wp2
      go_ret2
      exact ⟨by rw [hq.out.1, hq.out.2]; rfl, hW.out ▸ HB2.out⟩
end Go.Proofs.YthchjceibpcgbaaGreatDoor.Cn
