/-
  What is proved: the two statements of layer 1 about any numbers, as Go functions, return true, at any input of their types, and nothing that was there is written.
-/
import Derived.Test.YtneflljiocnkjaaNumL
import Derived.OpenShut
namespace Go.Proofs.Ytneflljiocnkjaa.Num
open Go.RowKit
set_option linter.unusedVariables false
set_option linter.unusedSimpArgs false

/-- a slice of numbers that came in: nil, or a row of 'cap' cells -/
def IsRow (k : IntKind) (w : World) (a : Option Addr) (len cap : Nat) (zs : List Int) : Prop :=
  (a = none ∧ len = 0 ∧ cap = 0 ∧ zs = []) ∨
  ∃ x, a = some x ∧ len ≤ cap ∧ cap ≤ maxLen ∧ zs.length = cap ∧ (∀ i, i < zs.length → w.cell? (x.add i) = some (.int k (zs.getD i 0))) ∧ ∀ n ∈ zs, (Lit.int k n).wf = true

/-- what is read of it: its numbers, each of 64 bits -/
theorem row_open {w : World} {a : Option Addr} {len cap : Nat} {zs : List Int} (h : IsRow .i64 w a len cap zs) (h0 : 0 < len) :
    ∃ b off, a = some ⟨b, off, none⟩ ∧ b < w.heap.size ∧ (zs.take len).length = len ∧ (∀ i, i < (zs.take len).length → w.cell? ⟨b, off + i, none⟩ = some (.int .i64 ((zs.take len).getD i 0))) ∧
      (∀ z ∈ zs.take len, -9223372036854775808 ≤ z ∧ z ≤ 9223372036854775807) := by
  rcases h with ⟨_, h, _, _⟩ | ⟨x, rfl, h1, h2, h3, h4, h5⟩
  · omega
  · obtain ⟨b, off, rfl, hc⟩ := Go.ints_at h4 (by omega)
    have hl : (zs.take len).length = len := by simp; omega
    refine ⟨b, off, rfl, ?_, hl, ?_, ?_⟩
    · exact World.block_lt_of_cell? _ _ (hc 0 (by omega))
    · intro i hi
      rw [hl] at hi
      rw [hc i (by omega)]
      simp [List.getD, List.getElem?_take, hi]
    · intro z hz
      exact Go.bounds_i64 (h5 z (List.mem_of_mem_take hz))

theorem getD_bd {l : List Int} (h : ∀ z ∈ l, -9223372036854775808 ≤ z ∧ z ≤ 9223372036854775807) (i : Nat) (hi : i < l.length) : -9223372036854775808 ≤ l.getD i 0 ∧ l.getD i 0 ≤ 9223372036854775807 := by
  rw [List.getD_eq_getElem?_getD, List.getElem?_eq_getElem hi]
  exact h _ (List.getElem_mem hi)

theorem gcds_walk (a0 : Option Addr) (len cap : Nat) (zs : List Int) (a b : Int) (w : World) (hr : IsRow .i64 w a0 len cap zs) (a0' : -9223372036854775808 ≤ a) (a1 : a ≤ 9223372036854775807) (b0 : -9223372036854775808 ≤ b) (b1 : b ≤ 9223372036854775807) :
    Calls Try.prog 6 #[.slice a0 len cap, .int .i64 a, .int .i64 b] w fun e w' => e = .returned (.bool true) ∧ Below w.heap.size w w' := by
  have hlen : len ≤ 9223372036854775807 := by
    rcases hr with ⟨_, h, _, _⟩ | ⟨x, _, h1, h2, _⟩
    · omega
    · unfold maxLen at h2; omega
  by_cases h100 : 100 < len
  · have h1 : (100 : Int) < (len : Int) := by omega
    clear hr
    go_enter Try.func6, Try.ntmps6
    go_wp2_with (go_at_call 18; ((with_reducible refine (goes_any _).mono ?_); rintro e w5 ⟨rfl, hw5⟩))
    go_ret
    exact ⟨rfl, hw5⟩
  have h1 : (len : Int) ≤ 100 := by omega
  have c3 := fun (w : World) => nlcm_any a b a0' a1 b0 b1 w
  have c4 := fun (w : World) => rlcm_any a b a0' a1 b0 b1 w
  generalize fitV (lc a b) = m at *
  generalize fitB (lc a b) = o at *
  by_cases h0 : len = 0
  · subst h0
    have c1 := fun (w : World) => ngcd_empty a0 cap w
    have c2 := fun (w : World) => refgcd_empty a0 cap w
    generalize fitV (gl [] 0) = g at *
    generalize fitB (gl [] 0) = p at *
    clear hr h100
    go_enter Try.func6, Try.ntmps6
    go_wp2_with (first | (go_at_call 30; ((with_reducible refine (c1 _).mono ?_); rintro e w1 ⟨rfl, rfl⟩)) | (go_at_call 31; ((with_reducible refine (c2 _).mono ?_); rintro e w2 ⟨rfl, hw2⟩)) | (go_at_call 32; ((with_reducible refine (c3 _).mono ?_); rintro e w1 ⟨rfl, rfl⟩)) | (go_at_call 33; ((with_reducible refine (c4 _).mono ?_); rintro e w3 ⟨rfl, hw3⟩)) | (go_at_call 18; ((with_reducible refine (goes_any _).mono ?_); rintro e w5 ⟨rfl, hw5⟩)))
    go_ret
    exact ⟨rfl, by repeat (first | assumption | refine bel_trans ?_ (by assumption))⟩
  · obtain ⟨bl, off, rfl, hbl, hl, hc, hz⟩ := row_open hr (by omega)
    have c1 := ngcd_row bl off cap (zs.take len) w (by omega) hc (getD_bd hz)
    have c2 := refgcd_row bl off cap (zs.take len) w hbl (by omega) hc (getD_bd hz)
    rw [hl] at c1 c2
    generalize fitV (gl (zs.take len) 0) = g at *
    generalize fitB (gl (zs.take len) 0) = p at *
    clear hr h100 hc hz hl h0
    go_enter Try.func6, Try.ntmps6
    go_wp2_with (first | (go_at_call 30; ((with_reducible refine c1.mono ?_); rintro e w1 ⟨rfl, rfl⟩)) | (go_at_call 31; ((with_reducible refine c2.mono ?_); rintro e w2 ⟨rfl, hw2⟩)) | (go_at_call 32; ((with_reducible refine (c3 _).mono ?_); rintro e w1 ⟨rfl, rfl⟩)) | (go_at_call 33; ((with_reducible refine (c4 _).mono ?_); rintro e w3 ⟨rfl, hw3⟩)) | (go_at_call 18; ((with_reducible refine (goes_any _).mono ?_); rintro e w5 ⟨rfl, hw5⟩)))
    go_ret
    exact ⟨rfl, by repeat (first | assumption | refine bel_trans ?_ (by assumption))⟩

/-- whether d divides the first k of them -/
def AL (l : List Int) (d : Int) (k : Nat) : Bool := decide (d ≠ 0 ∧ ∀ z ∈ l.take k, ab z % ab d = 0)

theorem AL_step {l : List Int} {d : Int} {k : Nat} (hk : k < l.length) (h : AL l d k = true) : AL l d (k + 1) = decide (ab (l.getD k 0) % ab d = 0) := by
  unfold AL at *
  have h := of_decide_eq_true h
  rw [List.take_add_one, List.getElem?_eq_getElem hk]
  apply decide_eq_decide.2
  simp only [List.getD_eq_getElem?_getD, List.getElem?_eq_getElem hk, Option.getD_some, Option.toList_some, List.mem_append, List.mem_singleton]
  exact ⟨fun x => x.2 _ (Or.inr rfl), fun x => ⟨h.1, fun z hz => hz.elim (h.2 z) (fun e => e ▸ x)⟩⟩
theorem AL_false {l : List Int} {d : Int} {k : Nat} (h : AL l d k = false) : AL l d (k + 1) = false := by
  unfold AL at *
  have h := of_decide_eq_false h
  apply decide_eq_false
  rintro ⟨h1, h2⟩
  refine h ⟨h1, fun z hz => h2 z ?_⟩
  rw [List.take_add_one]
  exact List.mem_append_left _ hz


theorem AL_zero (l : List Int) (d : Int) : AL l d 0 = (d != 0) := by
  unfold AL; by_cases h : d = 0 <;> simp [h]

set_option maxRecDepth 100000 in
set_option maxHeartbeats 4000000 in
theorem divides_row (bl off cap : Nat) (l : List Int) (d : Int) (w : World) (hlen : l.length ≤ 100)
    (hc : ∀ i, i < l.length → w.cell? ⟨bl, off + i, none⟩ = some (.int .i64 (l.getD i 0)))
    (hz : ∀ z ∈ l, -9223372036854775808 ≤ z ∧ z ≤ 9223372036854775807) (d0 : -9223372036854775808 ≤ d) (d1 : d ≤ 9223372036854775807) :
    Calls Try.prog 7 #[.slice (some ⟨bl, off, none⟩) l.length cap, .int .i64 d] w fun e w' => e = .returned (.bool true) ∧ Below w.heap.size w w' := by
  have c1 := ngcd_row bl off cap l w (by omega) hc (getD_bd hz)
  have cd := fun (w : World) => far_any d d0 d1 w
  have hG := gl_le l 9223372036854775808 (fun z h => by have := hz z h; omega) 0 (by omega)
  obtain ⟨G, HGe, hGe⟩ : ∃ G, Hid (gl l 0 = G) ∧ gl l 0 = G := ⟨_, rfl, rfl⟩
  rw [hGe] at c1 hG
  clear hGe
  have hD := ab_bd d0 d1
  have h1 : (l.length : Int) ≤ 100 := by omega
  have HA0 := Lib.hid (AL_zero l d)
  by_cases hf : G ≤ 9223372036854775807
  · obtain ⟨f1, f2⟩ := fit_yes (n := (G : Int)) (by omega)
    rw [f1, f2] at c1
    clear f1 f2
    obtain ⟨g, Hg, hg⟩ : ∃ g : Int, Hid (g = (G : Int)) ∧ (G : Int) = g := ⟨_, rfl, rfl⟩
    rw [hg] at c1
    clear hg
    have g0 : 0 ≤ g := by have := Hg.out; omega
    have g1 : g ≤ 9223372036854775807 := by have := Hg.out; omega
    clear hf hG
    go_enter Try.func7, Try.ntmps7
    go_wp2_with (go_at_call 30; ((with_reducible refine c1.mono ?_); rintro e w1 ⟨rfl, rfl⟩))
    rw [← HA0.out]
    go_loop [7, 8] (fun s7 s8 => ∃ k : Nat, s7 = .bool (AL l d k) ∧ s8 = .int .i64 (k : Int) ∧ k ≤ l.length) (fun _ s => l.length - (intOf s).toNat)
    case atStart => exact ⟨0, rfl, rfl, by omega⟩
    case round =>
      obtain ⟨k, rfl, rfl, hk⟩ := hrel
      by_cases hlt : k < l.length
      · have hck := hc k hlt
        have hzk := getD_bd hz k hlt
        have hgd : (G : Int) ∣ l.getD k 0 := by
          have := (gl_dvd l 0).2 (l.getD k 0) (by rw [List.getD_eq_getElem?_getD, List.getElem?_eq_getElem hlt]; exact List.getElem_mem hlt)
          rw [HGe.out] at this
          exact Int.ofNat_dvd_left.2 this
        have hs1 := @AL_step l d k hlt
        have hs0 := @AL_false l d k
        have hidx : (k : Int) < (l.length : Int) := by omega
        rw [← Hg.out] at hgd
        clear hc hz c1 HA0
        generalize l.getD k 0 = z at *
        obtain ⟨z0, z1⟩ := hzk
        have cz := fun (w : World) => far_any z z0 z1 w
        have hdz : AL l d k = true → 0 < ab d := by
          intro h
          have h := of_decide_eq_true (show decide _ = true from h)
          have := h.1
          unfold ab; split <;> omega
        generalize AL l d k = c at *
        obtain ⟨c', HC, hc'⟩ : ∃ c', Hid (AL l d (k + 1) = c') ∧ AL l d (k + 1) = c' := ⟨_, rfl, rfl⟩
        rw [hc'] at hs0 hs1
        clear hc'
        have hab := ab_bd z0 z1
        generalize ab z = az at *
        generalize ab d = D at *
        cases c with
        | false =>
          have e := hs0 rfl
          subst e
          clear hs0 hs1 hdz
          by_cases hg0 : g = 0
          · subst hg0
            have hz0 : z = 0 := Int.zero_dvd.1 hgd
            subst hz0
            clear hgd
            go_wp2_with (first | (go_at_call 29; (first | with_reducible refine (cz _).mono ?_ | with_reducible refine (cd _).mono ?_); rintro e w' ⟨rfl, rfl⟩))
            go_round
            case rel => exact ⟨k + 1, by rw [HC.out], by go_num, by omega⟩
            case measure => simp [intOf]; omega
          · have hg2 : 0 < g := by omega
            have hm : z.tmod g = 0 := Int.tmod_eq_zero_of_dvd hgd
            have hg3 : (g == 0) = false := by simp [hg0]
            clear hgd hg0
            go_wp2_with (first | (go_at_call 29; (first | with_reducible refine (cz _).mono ?_ | with_reducible refine (cd _).mono ?_); rintro e w' ⟨rfl, rfl⟩))
            go_round
            case rel => exact ⟨k + 1, by rw [HC.out], by go_num, by omega⟩
            case measure => simp [intOf]; omega
        | true =>
          have e := hs1 rfl
          have hD0 := hdz rfl
          clear hs0 hs1 hdz
          by_cases hD1 : D = 1
          · subst hD1
            have hx : decide (az % 1 = 0) = true := by simp [Int.emod_one]
            rw [hx] at e
            subst e
            have hx2 : az % 1 = 0 := Int.emod_one az
            by_cases hg0 : g = 0
            · subst hg0
              have hz0 : z = 0 := Int.zero_dvd.1 hgd
              subst hz0
              clear hgd
              go_wp2_with (first | (go_at_call 29; (first | with_reducible refine (cz _).mono ?_ | with_reducible refine (cd _).mono ?_); rintro e w' ⟨rfl, rfl⟩))
              all_goals
                go_round
                case rel => exact ⟨k + 1, by rw [HC.out], by go_num, by omega⟩
                case measure => simp [intOf]; omega
            · have hg2 : 0 < g := by omega
              have hm : z.tmod g = 0 := Int.tmod_eq_zero_of_dvd hgd
              have hg3 : (g == 0) = false := by simp [hg0]
              clear hgd hg0
              go_wp2_with (first | (go_at_call 29; (first | with_reducible refine (cz _).mono ?_ | with_reducible refine (cd _).mono ?_); rintro e w' ⟨rfl, rfl⟩))
              all_goals
                go_round
                case rel => exact ⟨k + 1, by rw [HC.out], by go_num, by omega⟩
                case measure => simp [intOf]; omega
          · have hD2 : 1 < D := by omega
            have hD3 : (D == 0) = false := by simp; omega
            clear hD1
            have hm0 := Int.emod_nonneg az (show D ≠ 0 by omega)
            obtain ⟨r, hr⟩ : ∃ r, az % D = r := ⟨_, rfl⟩
            rw [hr] at e hm0
            by_cases hdv : r = 0
            · rw [hdv] at e
              obtain rfl : c' = true := by simpa using e
              clear e
              have hdv2 : (r == 0) = true := by simp [hdv]
              clear hdv
              by_cases hg0 : g = 0
              · subst hg0
                have hz0 : z = 0 := Int.zero_dvd.1 hgd
                subst hz0
                clear hgd
                go_wp2_with (first | (go_at_call 29; (first | with_reducible refine (cz _).mono ?_ | with_reducible refine (cd _).mono ?_); rintro e w' ⟨rfl, rfl⟩))
                all_goals
                  go_round
                  case rel => exact ⟨k + 1, by rw [HC.out], by go_num, by omega⟩
                  case measure => simp [intOf]; omega
              · have hg2 : 0 < g := by omega
                have hm : z.tmod g = 0 := Int.tmod_eq_zero_of_dvd hgd
                have hg3 : (g == 0) = false := by simp [hg0]
                clear hgd hg0
                go_wp2_with (first | (go_at_call 29; (first | with_reducible refine (cz _).mono ?_ | with_reducible refine (cd _).mono ?_); rintro e w' ⟨rfl, rfl⟩))
                all_goals
                  go_round
                  case rel => exact ⟨k + 1, by rw [HC.out], by go_num, by omega⟩
                  case measure => simp [intOf]; omega
            · obtain rfl : c' = false := by simpa [hdv] using e
              clear e
              have hdv2 : (r == 0) = false := by simp [hdv]
              clear hdv
              by_cases hg0 : g = 0
              · subst hg0
                have hz0 : z = 0 := Int.zero_dvd.1 hgd
                subst hz0
                clear hgd
                go_wp2_with (first | (go_at_call 29; (first | with_reducible refine (cz _).mono ?_ | with_reducible refine (cd _).mono ?_); rintro e w' ⟨rfl, rfl⟩))
                all_goals
                  go_round
                  case rel => exact ⟨k + 1, by rw [HC.out], by go_num, by omega⟩
                  case measure => simp [intOf]; omega
              · have hg2 : 0 < g := by omega
                have hm : z.tmod g = 0 := Int.tmod_eq_zero_of_dvd hgd
                have hg3 : (g == 0) = false := by simp [hg0]
                clear hgd hg0
                go_wp2_with (first | (go_at_call 29; (first | with_reducible refine (cz _).mono ?_ | with_reducible refine (cd _).mono ?_); rintro e w' ⟨rfl, rfl⟩))
                all_goals
                  go_round
                  case rel => exact ⟨k + 1, by rw [HC.out], by go_num, by omega⟩
                  case measure => simp [intOf]; omega
      · have hk' : k = l.length := by omega
        have HL : AL l d k = true → 0 < ab d ∧ g % ab d = 0 := by
          intro h
          have h := of_decide_eq_true (show decide _ = true from h)
          have hd : 0 < ab d := by have := h.1; unfold ab; split <;> omega
          refine ⟨hd, ?_⟩
          have hz2 : ∀ z ∈ l, d.natAbs ∣ z.natAbs := by
            intro z hz
            have := h.2 z (by rw [hk', List.take_length]; exact hz)
            rw [ab_nat, ab_nat] at this
            exact Nat.dvd_of_mod_eq_zero (by omega)
          have h3 := dvd_gl l d.natAbs 0 (Nat.dvd_zero _) hz2
          rw [HGe.out] at h3
          rw [Hg.out, ab_nat]
          have := Nat.mod_eq_zero_of_dvd h3
          omega
        generalize AL l d k = c at *
        generalize ab d = D at *
        clear hc hz c1 HA0 hlt
        cases c with
        | false =>
          clear HL
          go_wp2_with (go_at_call 18; ((with_reducible refine (goes_any _).mono ?_); rintro e w5 ⟨rfl, hw5⟩))
          go_ret
          exact ⟨rfl, hw5⟩
        | true =>
          obtain ⟨hD0, hL⟩ := HL rfl
          clear HL
          have hD2 : (D == 0) = false := by simp; omega
          go_wp2_with (first | (go_at_call 29; (with_reducible refine (cd _).mono ?_); rintro e w' ⟨rfl, rfl⟩) | (go_at_call 18; ((with_reducible refine (goes_any _).mono ?_); rintro e w5 ⟨rfl, hw5⟩)))
          go_ret
          exact ⟨rfl, hw5⟩
  · obtain ⟨f1, f2⟩ := fit_no (n := (G : Int)) (by omega)
    rw [f1, f2] at c1
    clear f1 f2 hf hG
    go_enter Try.func7, Try.ntmps7
    go_wp2_with (go_at_call 30; ((with_reducible refine c1.mono ?_); rintro e w1 ⟨rfl, rfl⟩))
    rw [← HA0.out]
    go_loop [7, 8] (fun s7 s8 => ∃ k : Nat, s7 = .bool (AL l d k) ∧ s8 = .int .i64 (k : Int) ∧ k ≤ l.length) (fun _ s => l.length - (intOf s).toNat)
    case atStart => exact ⟨0, rfl, rfl, by omega⟩
    case round =>
      obtain ⟨k, rfl, rfl, hk⟩ := hrel
      by_cases hlt : k < l.length
      · have hck := hc k hlt
        have hzk := getD_bd hz k hlt
        have hs1 := @AL_step l d k hlt
        have hs0 := @AL_false l d k
        have hidx : (k : Int) < (l.length : Int) := by omega
        clear hc hz c1 HA0
        generalize l.getD k 0 = z at *
        obtain ⟨z0, z1⟩ := hzk
        have cz := fun (w : World) => far_any z z0 z1 w
        have hdz : AL l d k = true → 0 < ab d := by
          intro h
          have h := of_decide_eq_true (show decide _ = true from h)
          have := h.1
          unfold ab; split <;> omega
        generalize AL l d k = c at *
        obtain ⟨c', HC, hc'⟩ : ∃ c', Hid (AL l d (k + 1) = c') ∧ AL l d (k + 1) = c' := ⟨_, rfl, rfl⟩
        rw [hc'] at hs0 hs1
        clear hc'
        have hab := ab_bd z0 z1
        generalize ab z = az at *
        generalize ab d = D at *
        cases c with
        | false =>
          have e := hs0 rfl
          subst e
          clear hs0 hs1 hdz
          go_wp2_with (first | (go_at_call 29; (first | with_reducible refine (cz _).mono ?_ | with_reducible refine (cd _).mono ?_); rintro e w' ⟨rfl, rfl⟩))
          all_goals
            go_round
            case rel => exact ⟨k + 1, by rw [HC.out], by go_num, by omega⟩
            case measure => simp [intOf]; omega
        | true =>
          have e := hs1 rfl
          have hD0 := hdz rfl
          clear hs0 hs1 hdz
          by_cases hD1 : D = 1
          · subst hD1
            have hx : decide (az % 1 = 0) = true := by simp [Int.emod_one]
            rw [hx] at e
            subst e
            have hx2 : az % 1 = 0 := Int.emod_one az
            go_wp2_with (first | (go_at_call 29; (first | with_reducible refine (cz _).mono ?_ | with_reducible refine (cd _).mono ?_); rintro e w' ⟨rfl, rfl⟩))
            all_goals
              go_round
              case rel => exact ⟨k + 1, by rw [HC.out], by go_num, by omega⟩
              case measure => simp [intOf]; omega
          · have hD2 : 1 < D := by omega
            have hD3 : (D == 0) = false := by simp; omega
            clear hD1
            have hm0 := Int.emod_nonneg az (show D ≠ 0 by omega)
            obtain ⟨r, hr⟩ : ∃ r, az % D = r := ⟨_, rfl⟩
            rw [hr] at e hm0
            by_cases hdv : r = 0
            · rw [hdv] at e
              obtain rfl : c' = true := by simpa using e
              clear e
              have hdv2 : (r == 0) = true := by simp [hdv]
              clear hdv
              go_wp2_with (first | (go_at_call 29; (first | with_reducible refine (cz _).mono ?_ | with_reducible refine (cd _).mono ?_); rintro e w' ⟨rfl, rfl⟩))
              all_goals
                go_round
                case rel => exact ⟨k + 1, by rw [HC.out], by go_num, by omega⟩
                case measure => simp [intOf]; omega
            · obtain rfl : c' = false := by simpa [hdv] using e
              clear e
              have hdv2 : (r == 0) = false := by simp [hdv]
              clear hdv
              go_wp2_with (first | (go_at_call 29; (first | with_reducible refine (cz _).mono ?_ | with_reducible refine (cd _).mono ?_); rintro e w' ⟨rfl, rfl⟩))
              all_goals
                go_round
                case rel => exact ⟨k + 1, by rw [HC.out], by go_num, by omega⟩
                case measure => simp [intOf]; omega
      · have hk' : k = l.length := by omega
        generalize AL l d k = c at *
        clear hc hz c1 HA0 hlt
        go_wp2_with (go_at_call 18; ((with_reducible refine (goes_any _).mono ?_); rintro e w5 ⟨rfl, hw5⟩))
        go_ret
        exact ⟨rfl, hw5⟩

theorem divides_empty (a0 : Option Addr) (cap : Nat) (d : Int) (w : World) (d0 : -9223372036854775808 ≤ d) (d1 : d ≤ 9223372036854775807) :
    Calls Try.prog 7 #[.slice a0 0 cap, .int .i64 d] w fun e w' => e = .returned (.bool true) ∧ Below w.heap.size w w' := by
  have c1 := fun (w : World) => ngcd_empty a0 cap w
  have e1 : fitV (gl [] 0) = 0 ∧ fitB (gl [] 0) = true := by decide
  rw [e1.1, e1.2] at c1
  clear e1
  have cd := fun (w : World) => far_any d d0 d1 w
  have hD : d ≠ 0 → 0 < ab d := by intro h; unfold ab; split <;> omega
  generalize ab d = D at *
  by_cases h : d = 0
  · have hd : (d != 0) = false := by simp [h]
    clear h hD
    go_enter Try.func7, Try.ntmps7
    go_wp2_with (go_at_call 30; ((with_reducible refine (c1 _).mono ?_); rintro e w1 ⟨rfl, rfl⟩))
    go_loop [7, 8] (fun s7 s8 => s7 = .bool false ∧ s8 = .int .i64 0) (fun _ _ => 0)
    case atStart => exact ⟨rfl, rfl⟩
    case round =>
      obtain ⟨rfl, rfl⟩ := hrel
      go_wp2_with (go_at_call 18; ((with_reducible refine (goes_any _).mono ?_); rintro e w5 ⟨rfl, hw5⟩))
      go_ret
      exact ⟨rfl, hw5⟩
  · have hd : (d != 0) = true := by simp [h]
    have hD0 := hD h
    have hD2 : (D == 0) = false := by simp; omega
    have hD3 : (0 : Int) % D = 0 := Int.zero_emod D
    clear h hD
    go_enter Try.func7, Try.ntmps7
    go_wp2_with (go_at_call 30; ((with_reducible refine (c1 _).mono ?_); rintro e w1 ⟨rfl, rfl⟩))
    go_loop [7, 8] (fun s7 s8 => s7 = .bool true ∧ s8 = .int .i64 0) (fun _ _ => 0)
    case atStart => exact ⟨rfl, rfl⟩
    case round =>
      obtain ⟨rfl, rfl⟩ := hrel
      go_wp2_with (first | (go_at_call 29; (with_reducible refine (cd _).mono ?_); rintro e w' ⟨rfl, rfl⟩) | (go_at_call 18; ((with_reducible refine (goes_any _).mono ?_); rintro e w5 ⟨rfl, hw5⟩)))
      go_ret
      exact ⟨rfl, hw5⟩

theorem divides_walk (a0 : Option Addr) (len cap : Nat) (zs : List Int) (d : Int) (w : World) (hr : IsRow .i64 w a0 len cap zs) (d0 : -9223372036854775808 ≤ d) (d1 : d ≤ 9223372036854775807) :
    Calls Try.prog 7 #[.slice a0 len cap, .int .i64 d] w fun e w' => e = .returned (.bool true) ∧ Below w.heap.size w w' := by
  by_cases h100 : 100 < len
  · have h1 : (100 : Int) < (len : Int) := by omega
    clear hr
    go_enter Try.func7, Try.ntmps7
    go_wp2_with (go_at_call 18; ((with_reducible refine (goes_any _).mono ?_); rintro e w5 ⟨rfl, hw5⟩))
    go_ret
    exact ⟨rfl, hw5⟩
  by_cases h0 : len = 0
  · subst h0
    exact divides_empty a0 cap d w d0 d1
  · obtain ⟨bl, off, rfl, _, hl, hc, hz⟩ := row_open hr (by omega)
    have h := divides_row bl off cap (zs.take len) d w (by omega) hc hz d0 d1
    rw [hl] at h
    exact h

end Go.Proofs.Ytneflljiocnkjaa.Num
