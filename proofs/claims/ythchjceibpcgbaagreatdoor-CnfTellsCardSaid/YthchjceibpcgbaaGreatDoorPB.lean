/-
  What is proved: what package cnf's Holds returns.
  What is proved: are two sets of clauses the same, as the document says.
  What is proved: what package cnf's Same returns.
-/
import Derived.Test.YthchjceibpcgbaaGreatDoorZCpA
import Derived.Test.YthchjceibpcgbaaGreatDoorZCnP
import Derived.Test.YthchjceibpcgbaaGreatDoorLB
namespace Go.Proofs.YthchjceibpcgbaaGreatDoor.Cn
open Go.RowKit L Lt
set_option linter.unusedVariables false
set_option linter.unusedSimpArgs false

set_option maxRecDepth 100000 in
set_option maxHeartbeats 4000000 in
theorem CHolds_any (z : CfZ) (b : Option Addr) (m d : Nat) (V : List Bool) (w : World) (h : z.ok w) (hb : SlB w b m d V) (hm : m ≤ 9223372036854775807) (hl : ∀ X ∈ z.G, X.length ≤ 1000000000) :
    Calls Tryz.prog 7 #[z.val, .slice b m d] w fun e w' => e = .returned (.tuple #[.int .i64 (hdC 0 z.G V).1, .bool (hdC 0 z.G V).2]) ∧ Below w.heap.size w w' := by
  obtain ⟨N, a, n, c, G⟩ := z
  obtain ⟨hN, hn, hG, hs⟩ := h
  simp only at hN hn hG hs hl
  show Calls Tryz.prog 7 #[.agg #[.int .i64 N, .slice a n c], .slice b m d] w _
  obtain ⟨W2, hW2, hB2, S2⟩ := boxC w N a n c
  obtain ⟨s0, s1⟩ := S2.two
  have hb2 := hb.below hB2
  have H := Lib.hid (hG.below hB2)
  have HB2 := Lib.hid hB2
  have HX := Lib.hid hG.1
  have HS := Lib.hid hs
  have HL := Lib.hid hl
  have CR := Lib.hid (fun A p q X (W : World) (hB : Below W2.heap.size W2 W) (h : SlI W A p q X) (hr : R64s X) (hn : p ≤ 1000000000) => Holds_any A p q X b m d V W h hr (hb2.below hB) (by omega) hm)
  show Calls _ _ _ _ fun e w' => e = .returned (.tuple #[.int .i64 (hdC 0 G V).1, .bool (hdC 0 G V).2]) ∧ Below w.heap.size w w'
  obtain ⟨R, hR⟩ : ∃ R, hdC 0 G V = R := ⟨_, rfl⟩
  rw [hR]
  obtain ⟨R1, R2⟩ := R
  show Calls _ _ _ _ fun e w' => e = .returned (.tuple #[.int .i64 R1, .bool R2]) ∧ Below w.heap.size w w'
  have hB : Hid ((R1, R2) = hdC 0 G V) := Lib.hid hR.symm
  have HE : Hid (∀ c ∈ G.take 0, hld c V = true) := Lib.hid (by simp)
  clear hG hs hl hb hb2 hm hR hB2 S2
  go_enter Tryz.func7, Tryz.ntmps7
  go_wp2
  go_loopw [11] (fun i wr0 => ∃ (wr : World) (k : Nat), wr = wr0 ∧ k ≤ n ∧ i = .int .i64 k ∧ Hid (∀ c ∈ G.take k, hld c V = true) ∧ Hid (Below W2.heap.size W2 wr)) (fun i _ => n - (intOf i).toNat)
  case atStart => exact ⟨_, 0, rfl, by omega, rfl, HE, Lib.hid (Below.refl _ _)⟩
  case round =>
    obtain ⟨wr, k, rfl, hk, rfl, hE, hW⟩ := hrel
    by_cases hlt : k < n
    · obtain ⟨g, o, B, p, q, X, rfl, hg, z0, hx, hX⟩ := SlG.at H.out hlt
      have y0 : wr.cell? ⟨g, o + k, none⟩ = some (.slice B p q) := (hW.out.cell (p := ⟨g, _, none⟩) hg).trans z0
      have hsX := HS.out X (List.mem_of_getElem? hx)
      have hp : p ≤ 1000000000 := by rw [hX.1]; exact HL.out X (List.mem_of_getElem? hx)
      have cr := CR.out B p q X wr hW.out (hX.below hW.out) hsX.1 hp
      have HH : Hid (hld X V = false → R1 = k ∧ R2 = false) := Lib.hid (fun h => by
        have := hB.out; rw [hdC_hit hx hE.out h] at this; injection this with e1 e2; exact ⟨e1, e2⟩)
      have HE1 : Hid (hld X V = true → ∀ c ∈ G.take (k + 1), hld c V = true) := Lib.hid (fun h c hc => by
        rw [List.take_add_one, hx] at hc
        rcases List.mem_append.1 hc with hc | hc
        · exact hE.out c hc
        · obtain rfl : c = X := by simpa using hc
          exact h)
      have hk0 : 0 ≤ (k : Int) := by omega
      have hk1 : (k : Int) < (n : Int) := by omega
      clear z0 hx hX hsX hE hp
      generalize hld X V = v at *
      cases v
      · have hq := Lib.hid (HH.out rfl)
        clear HE1 HH
        go_wp2_with (go_at_call 21; ((with_reducible refine cr.mono ?_); rintro e w2 ⟨rfl, b2⟩))
        go_ret2
        exact ⟨by rw [hq.out.1, hq.out.2] <;> rfl, bel_trans HB2.out (bel_trans hW.out b2)⟩
      · have HE2 := Lib.hid (HE1.out rfl)
        clear HE1 HH
        go_wp2_with (go_at_call 21; ((with_reducible refine cr.mono ?_); rintro e w2 ⟨rfl, b2⟩))
        go_roundw
        case rel => exact ⟨_, k + 1, rfl, by omega, by go_num, HE2, Lib.hid (bel_trans hW.out b2)⟩
        case measure => simp [intOf]; omega
    · obtain rfl : k = n := by omega
      have hq : Hid (R1 = 0 ∧ R2 = true) := Lib.hid (by
        have h5 := hE.out
        rw [List.take_of_length_le (by have := HX.out; omega)] at h5
        have := hB.out; rw [hdC_none 0 h5] at this; injection this with e1 e2; exact ⟨e1, e2⟩)
      clear hE
      go_wp2
      go_ret2
      exact ⟨by rw [hq.out.1, hq.out.2] <;> rfl, bel_trans HB2.out hW.out⟩

end Go.Proofs.YthchjceibpcgbaaGreatDoor.Cn
namespace Go.Proofs.YthchjceibpcgbaaGreatDoor.Cn
open Go.RowKit L Lt
set_option linter.unusedVariables false
set_option linter.unusedSimpArgs false

theorem zip_at {G K : List (List Int)} {k : Nat} {X Y : List Int} (h1 : G[k]? = some X) (h2 : K[k]? = some Y) : (G.zip K)[k]? = some (X, Y) := by
  rw [List.getElem?_zip_eq_some]; exact ⟨h1, h2⟩
def smP (p : List Int × List Int) : Bool := same p.1 p.2
theorem smC_eq {N M : Int} {G K : List (List Int)} (h1 : N = M) (h2 : G.length = K.length) : smC N G M K = (G.zip K).all smP := by
  unfold smC; rw [h1, h2]; simp; rfl
set_option maxRecDepth 100000 in
set_option maxHeartbeats 4000000 in
theorem RSameC_any (N : Int) (A : Option Addr) (n c : Nat) (G : List (List Int)) (M : Int) (A' : Option Addr) (n' c' : Nat) (K : List (List Int)) (w : World) (h1 : SlG w A n c G) (h2 : SlG w A' n' c' K) (hn : n ≤ 9223372036854775807) (hs : ∀ X ∈ G, X.length ≤ 1000000000) (hs' : ∀ X ∈ K, X.length ≤ 1000000000) :
    Calls Tryz.prog 17 #[.agg #[.int .i64 N, .slice A n c], .agg #[.int .i64 M, .slice A' n' c']] w fun e w' => e = .returned (.bool (smC N G M K)) ∧ Below w.heap.size w w' := by
  obtain ⟨W2, hW2, hB2, S2, T2⟩ := boxC2 w N A n c M A' n' c'
  obtain ⟨s0, s1⟩ := S2.two
  obtain ⟨t0, t1⟩ := T2.two
  have HB2 := Lib.hid hB2
  have hn1 := h1.1
  have hn2 := h2.1
  obtain ⟨r, hr⟩ : ∃ r, smC N G M K = r := ⟨_, rfl⟩
  rw [hr]
  have Hr := Lib.hid hr
  clear hr
  by_cases hNM : N = M
  · have q0 : (N != M) = false := by simp [hNM]
    by_cases hl : n = n'
    · subst hl
      have H1 := Lib.hid (h1.below hB2)
      have H2 := Lib.hid (h2.below hB2)
      have Hn1 := Lib.hid hn1
      have Hn2 := Lib.hid hn2
      have HS := Lib.hid hs
      have HS' := Lib.hid hs'
      have Hr2 : Hid (r = (G.zip K).all smP) := Lib.hid (by rw [← Hr.out, smC_eq hNM (by omega)])
      have q1 : ((n : Int) != (n : Int)) = false := by simp
      have HE : Hid (((G.zip K).take 0).all smP = true) := Lib.hid rfl
      have HH := Lib.hid (show ∀ w', Below W2.heap.size W2 w' → (w'.cell? ⟨w.heap.size, 0, none⟩ = some (.int .i64 N) ∧ w'.cell? ⟨w.heap.size, 1, none⟩ = some (.slice A n c) ∧ w'.cell? ⟨w.heap.size + 1, 0, none⟩ = some (.int .i64 M) ∧ w'.cell? ⟨w.heap.size + 1, 1, none⟩ = some (.slice A' n c')) from fun w' h =>
        ⟨(S2.b h).two.1, (S2.b h).two.2, (T2.b h).two.1, (T2.b h).two.2⟩)
      clear h1 h2 hn1 hn2 hs hs' hB2 S2 T2 Hr hNM
      go_enter Tryz.func17, Tryz.ntmps17
      go_wp2
      go_loopw [5] (fun i wr0 => ∃ (wr : World) (k : Nat), wr = wr0 ∧ k ≤ n ∧ i = .int .i64 k ∧ Hid (((G.zip K).take k).all smP = true) ∧ Hid (Below W2.heap.size W2 wr)) (fun i _ => n - (intOf i).toNat)
      case atStart => exact ⟨_, 0, rfl, by omega, rfl, HE, Lib.hid (Below.refl _ _)⟩
      case round =>
        obtain ⟨wr, k, rfl, hk, rfl, hE, hBr⟩ := hrel
        obtain ⟨u0, u1, u2, u3⟩ := HH.out wr hBr.out
        by_cases hlt : k < n
        · obtain ⟨g, o, B, p, q, X, rfl, hg, z0, hx, hX⟩ := SlG.at H1.out hlt
          obtain ⟨g', o', B', p', q', Y, rfl, hg', z0', hy, hY⟩ := SlG.at H2.out hlt
          have y0 := (hBr.out.cell (p := ⟨g, _, none⟩) hg).trans z0
          have y0' := (hBr.out.cell (p := ⟨g', _, none⟩) hg').trans z0'
          have hpm : p ≤ 1000000000 := by rw [hX.1]; exact HS.out X (List.mem_of_getElem? hx)
          have hpm' : p' ≤ 1000000000 := by rw [hY.1]; exact HS'.out Y (List.mem_of_getElem? hy)
          have cr := Lib.hid (fun (W : World) (hb : Below wr.heap.size wr W) => RSame_any B p q X B' p' q' Y W (hX.below (bel_trans hBr.out hb)) hpm (hY.below (bel_trans hBr.out hb)) hpm')
          have hz := zip_at hx hy
          have HE1 : Hid (((G.zip K).take (k + 1)).all smP = same X Y) := Lib.hid (by
            rw [List.take_add_one, hz, List.all_append, hE.out]; simp [smP])
          have HM : Hid (same X Y = false → r = false) := Lib.hid (fun h => by
            rw [Hr2.out, List.all_eq_false]; exact ⟨(X, Y), List.mem_of_getElem? hz, by unfold smP; simp [h]⟩)
          clear z0 z0' hx hy hX hY hz hpm hpm' hE
          have hk0 : 0 ≤ (k : Int) := by omega
          have hk1 : (k : Int) < (n : Int) := by omega
          generalize same X Y = v at *
          cases v
          · have q2 := Lib.hid (HM.out rfl)
            clear HE1 HM H1 H2
            go_wp2_with fail
            go_region_with (go_at_call 28; ((with_reducible refine (cr.out _ (Below.refl _ _).drew).mono ?_); rintro e w2 ⟨rfl, rfl⟩))
            all_goals go_wp2
            all_goals go_ret
            all_goals exact ⟨by rw [q2.out] <;> rfl, by first | exact bel_trans HB2.out hBr.out | exact (bel_trans HB2.out hBr.out).drew⟩
          · have HE2 := HE1
            clear HM H1 H2 HE1
            go_wp2_with fail
            go_region_with (go_at_call 28; ((with_reducible refine (cr.out _ (Below.refl _ _).drew).mono ?_); rintro e w2 ⟨rfl, rfl⟩))
            all_goals go_wp2
            all_goals go_roundw
            all_goals first
              | exact ⟨_, k + 1, rfl, by omega, by go_num, HE2, Lib.hid (by first | exact hBr.out | exact hBr.out.drew)⟩
              | (simp [intOf]; omega)
        · obtain rfl : k = n := by omega
          have q2 : Hid (r = true) := Lib.hid (by
            rw [Hr2.out]
            have := hE.out
            rwa [List.take_of_length_le (by rw [List.length_zip]; have := Hn1.out; omega)] at this)
          clear hE
          go_wp2
          go_ret
          exact ⟨by rw [q2.out] <;> rfl, bel_trans HB2.out hBr.out⟩
    · have q1 : ((n : Int) != (n' : Int)) = true := by simp; omega
      have q2 : Hid (r = false) := Lib.hid (by
        rw [← Hr.out]; unfold smC
        have : (G.length == K.length) = false := by simp; omega
        rw [this]; simp)
      clear h1 h2 hn1 hn2 hs hs' hB2 S2 T2 Hr hNM
      go_enter Tryz.func17, Tryz.ntmps17
      go_wp2
      go_ret
      exact ⟨by rw [q2.out] <;> rfl, HB2.out⟩
  · have q0 : (N != M) = true := by simp [hNM]
    have q2 : Hid (r = false) := Lib.hid (by
      rw [← Hr.out]; unfold smC
      have : (M == N) = false := by simp; exact fun e => hNM e.symm
      have h2 : (N == M) = false := by simp [hNM]
      simp [h2])
    clear h1 h2 hn1 hn2 hs hs' hB2 S2 T2 Hr hNM
    go_enter Tryz.func17, Tryz.ntmps17
    go_wp2
    go_ret
    exact ⟨by rw [q2.out] <;> rfl, HB2.out⟩
end Go.Proofs.YthchjceibpcgbaaGreatDoor.Cn
namespace Go.Proofs.YthchjceibpcgbaaGreatDoor.Cn
open Go.RowKit L Lt
set_option linter.unusedVariables false
set_option linter.unusedSimpArgs false

def eqG (G K : List (List Int)) : Bool := (G.length == K.length) && (G.zip K).all smP
set_option maxRecDepth 100000 in
set_option maxHeartbeats 4000000 in
theorem EqFunc_any (A : Option Addr) (n c : Nat) (G : List (List Int)) (A' : Option Addr) (n' c' : Nat) (K : List (List Int)) (w : World) (h1 : SlG w A n c G) (h2 : SlG w A' n' c' K) (hn : n ≤ 9223372036854775807) (hn' : n' ≤ 9223372036854775807) (hs : ∀ X ∈ G, R64s X ∧ X.length ≤ 1000000000) (hs' : ∀ X ∈ K, R64s X ∧ X.length ≤ 1000000000) :
    Calls Tryz.prog 36 #[.slice A n c, .slice A' n' c', .func (.func 37) #[] #[]] w fun e w' => e = .returned (.bool (eqG G K)) ∧ Below w.heap.size w w' := by
  have hl1 := h1.1
  have hl2 := h2.1
  obtain ⟨r, hr⟩ : ∃ r, eqG G K = r := ⟨_, rfl⟩
  rw [hr]
  have Hr := Lib.hid hr
  clear hr
  by_cases hl : n = n'
  · subst hl
    have q1 : ((n : Int) != (n : Int)) = false := by simp
    have H1 := Lib.hid h1
    have H2 := Lib.hid h2
    have Hn1 := Lib.hid hl1
    have Hn2 := Lib.hid hl2
    have HS := Lib.hid hs
    have HS' := Lib.hid hs'
    have Hr2 : Hid (r = (G.zip K).all smP) := Lib.hid (by
      rw [← Hr.out]; unfold eqG
      have : (G.length == K.length) = true := by simp; omega
      rw [this]; rfl)
    have HE : Hid (((G.zip K).take 0).all smP = true) := Lib.hid rfl
    clear h1 h2 hl1 hl2 hs hs' Hr
    go_enter Tryz.func36, Tryz.ntmps36
    go_wp2
    go_loopw [17] (fun i wr0 => ∃ (wr : World) (k : Nat), wr = wr0 ∧ k ≤ n ∧ i = .int .i64 k ∧ Hid (((G.zip K).take k).all smP = true) ∧ Hid (Below w.heap.size w wr)) (fun i _ => n - (intOf i).toNat)
    case atStart => exact ⟨_, 0, rfl, by omega, rfl, HE, Lib.hid (Below.refl _ _)⟩
    case round =>
      obtain ⟨wr, k, rfl, hk, rfl, hE, hBr⟩ := hrel
      by_cases hlt : k < n
      · obtain ⟨g, o, B, p, q, X, rfl, hg, z0, hx, hX⟩ := SlG.at H1.out hlt
        obtain ⟨g', o', B', p', q', Y, rfl, hg', z0', hy, hY⟩ := SlG.at H2.out hlt
        have y0 := (hBr.out.cell (p := ⟨g, _, none⟩) hg).trans z0
        have y0' := (hBr.out.cell (p := ⟨g', _, none⟩) hg').trans z0'
        have hXs := HS.out X (List.mem_of_getElem? hx)
        have hYs := HS'.out Y (List.mem_of_getElem? hy)
        have cr := Same_any B p q X B' p' q' Y wr (hX.below hBr.out) hXs.1 (by rw [hX.1]; exact hXs.2) (hY.below hBr.out) hYs.1 (by rw [hY.1]; exact hYs.2)
        have hz := zip_at hx hy
        have HE1 : Hid (((G.zip K).take (k + 1)).all smP = same X Y) := Lib.hid (by
          rw [List.take_add_one, hz, List.all_append, hE.out]; simp [smP])
        have HM : Hid (same X Y = false → r = false) := Lib.hid (fun h => by
          rw [Hr2.out, List.all_eq_false]; exact ⟨(X, Y), List.mem_of_getElem? hz, by unfold smP; simp [h]⟩)
        clear z0 z0' hx hy hX hY hz hXs hYs hE
        have hk0 : 0 ≤ (k : Int) := by omega
        have hk1 : (k : Int) < (n : Int) := by omega
        generalize same X Y = v at *
        cases v
        · have q2 := Lib.hid (HM.out rfl)
          clear HE1 HM H1 H2
          go_wp2_with (go_at_call 37; ((with_reducible refine cr.mono ?_); rintro e w2 ⟨rfl, b2⟩))
          go_ret
          exact ⟨by rw [q2.out] <;> rfl, bel_trans hBr.out b2⟩
        · have HE2 := HE1
          clear HM H1 H2 HE1
          go_wp2_with (go_at_call 37; ((with_reducible refine cr.mono ?_); rintro e w2 ⟨rfl, b2⟩))
          go_roundw
          case rel => exact ⟨_, k + 1, rfl, by omega, by go_num, HE2, Lib.hid (bel_trans hBr.out b2)⟩
          case measure => simp [intOf]; omega
      · obtain rfl : k = n := by omega
        have q2 : Hid (r = true) := Lib.hid (by
          rw [Hr2.out]
          have := hE.out
          rwa [List.take_of_length_le (by rw [List.length_zip]; have := Hn1.out; omega)] at this)
        clear hE
        go_wp2
        go_ret
        exact ⟨by rw [q2.out] <;> rfl, hBr.out⟩
  · have q1 : ((n : Int) != (n' : Int)) = true := by simp; omega
    have q2 : Hid (r = false) := Lib.hid (by
      rw [← Hr.out]; unfold eqG
      have : (G.length == K.length) = false := by simp; omega
      rw [this]; rfl)
    clear h1 h2 hl1 hl2 hs hs' Hr
    go_enter Tryz.func36, Tryz.ntmps36
    go_wp2
    go_ret
    exact ⟨by rw [q2.out] <;> rfl, Below.refl _ _⟩
theorem smC_and (N M : Int) (G K : List (List Int)) : smC N G M K = ((N == M) && eqG G K) := by
  unfold smC eqG
  rw [Bool.and_assoc]; rfl
set_option maxRecDepth 100000 in
set_option maxHeartbeats 4000000 in
theorem CSame_any (N : Int) (A : Option Addr) (n c : Nat) (G : List (List Int)) (M : Int) (A' : Option Addr) (n' c' : Nat) (K : List (List Int)) (w : World) (h1 : SlG w A n c G) (h2 : SlG w A' n' c' K) (hn : n ≤ 9223372036854775807) (hn' : n' ≤ 9223372036854775807) (hs : ∀ X ∈ G, R64s X ∧ X.length ≤ 1000000000) (hs' : ∀ X ∈ K, R64s X ∧ X.length ≤ 1000000000) :
    Calls Tryz.prog 16 #[.agg #[.int .i64 N, .slice A n c], .agg #[.int .i64 M, .slice A' n' c']] w fun e w' => e = .returned (.bool (smC N G M K)) ∧ Below w.heap.size w w' := by
  obtain ⟨W2, hW2, hB2, S2, T2⟩ := boxC2 w N A n c M A' n' c'
  obtain ⟨s0, s1⟩ := S2.two
  obtain ⟨t0, t1⟩ := T2.two
  have ce := EqFunc_any A n c G A' n' c' K W2 (h1.below hB2) (h2.below hB2) hn hn' hs hs'
  have HB2 := Lib.hid hB2
  rw [smC_and]
  generalize eqG G K = v at *
  clear h1 h2 hs hs' hB2 S2 T2
  cases hq : (N == M)
  · go_enter Tryz.func16, Tryz.ntmps16
    go_wp2
    go_ret
    exact ⟨rfl, HB2.out⟩
  · go_enter Tryz.func16, Tryz.ntmps16
    go_wp2_with (go_at_call 36; ((with_reducible refine ce.mono ?_); rintro e w2 ⟨rfl, b2⟩))
    go_ret
    exact ⟨by simp, bel_trans HB2.out b2⟩
end Go.Proofs.YthchjceibpcgbaaGreatDoor.Cn
