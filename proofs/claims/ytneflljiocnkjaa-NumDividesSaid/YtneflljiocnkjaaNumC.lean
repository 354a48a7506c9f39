/-
  What is proved: the calls of package num and of the document's answers for layer 1 that loop return the numbers named here, and the world has new blocks at most.
-/
import Derived.Test.YtneflljiocnkjaaNumB
import Derived.Test.YtneflljiocnkjaaNumG
namespace Go.Proofs.Ytneflljiocnkjaa.Num
open Go.RowKit
set_option linter.unusedVariables false
set_option linter.unusedSimpArgs false

theorem rceil_any (a b : Int) (a0 : -9223372036854775808 ≤ a) (a1 : a ≤ 9223372036854775807) (b0 : -9223372036854775808 ≤ b) (b1 : b ≤ 9223372036854775807) (w : World) :
    Calls Try.prog 23 #[.int .i64 a, .int .i64 b] w fun e w' => e = .returned (.tuple #[.int .i64 (cV a b), .bool (dB a b)]) ∧ Below w.heap.size w w' := by
  have hd := fun (w : World) => rdiv_any a b a0 a1 b0 b1 w
  have hm := fun (w : World) => rmod_any a b a0 a1 b0 b1 w
  by_cases h : b = 0 ∨ b = -1 ∧ a = -9223372036854775808
  · obtain ⟨d1, d2, d3⟩ := dV_no h
    rw [d1, d2] at hd
    rw [d1, d3]
    clear d1 d2 d3 h
    generalize mV a b = m at *
    generalize (b != 0) = c at *
    go_enter Try.func23, Try.ntmps23
    go_wp2_with (first | (go_at_call 22; ((with_reducible refine (hd _).mono ?_); rintro e w' ⟨rfl, hw⟩)) | (go_at_call 24; ((with_reducible refine (hm _).mono ?_); rintro e w' ⟨rfl, rfl⟩)))
    go_ret2
    exact ⟨rfl, hw⟩
  · have hb : b ≠ 0 := by omega
    have hab : ¬(b = -1 ∧ a = -9223372036854775808) := by omega
    obtain ⟨d1, d2, d3⟩ := dV_yes (a := a) hb hab
    have e : mV a b = dm a b := by unfold mV; rw [if_pos hb]
    have hz := dm_zero (a := a) hb
    have hr : dm a b ≠ 0 → dq a b + 1 ≤ 9223372036854775807 ∧ -9223372036854775808 ≤ dq a b + 1 := by
      intro h1
      have := quo_room a b a0 a1 hb (fun k => h1 (hz.2 k))
      have := quo_fits a b a0 a1 hb hab
      unfold dq
      split <;> omega
    rw [d1, d2] at hd
    rw [e] at hm
    rw [d1, d3, dc_eq hb]
    clear d1 d2 d3 h hab e hz
    generalize dm a b = m at *
    generalize dq a b = q at *
    generalize (b != 0) = c at *
    by_cases h1 : m = 0
    · have h2 : (m != 0) = false := by simp [h1]
      rw [if_pos h1]
      clear h1 hr
      go_enter Try.func23, Try.ntmps23
      go_wp2_with (first | (go_at_call 22; ((with_reducible refine (hd _).mono ?_); rintro e w' ⟨rfl, hw⟩)) | (go_at_call 24; ((with_reducible refine (hm _).mono ?_); rintro e w' ⟨rfl, rfl⟩)))
      go_ret2
      exact ⟨rfl, hw⟩
    · have h2 : (m != 0) = true := by simp [h1]
      obtain ⟨r1, r2⟩ := hr h1
      rw [if_neg h1]
      clear h1 hr
      go_enter Try.func23, Try.ntmps23
      go_wp2_with (first | (go_at_call 22; ((with_reducible refine (hd _).mono ?_); rintro e w' ⟨rfl, hw⟩)) | (go_at_call 24; ((with_reducible refine (hm _).mono ?_); rintro e w' ⟨rfl, rfl⟩)))
      go_ret2
      exact ⟨rfl, hw⟩

theorem rgcd_any (a b : Int) (a0 : 0 ≤ a) (a1 : a ≤ 18446744073709551615) (b0 : 0 ≤ b) (b1 : b ≤ 18446744073709551615) (w : World) :
    Calls Try.prog 41 #[.int .u64 a, .int .u64 b] w fun e w' => e = .returned (.int .u64 (gc a b)) ∧ Below w.heap.size w w' := by
  go_enter Try.func41, Try.ntmps41
  go_wp2
  go_loopw [0, 1] (fun u v wr => ∃ x y : Int, u = .int .u64 x ∧ v = .int .u64 y ∧ (0 ≤ x ∧ x ≤ 18446744073709551615) ∧ (0 ≤ y ∧ y ≤ 18446744073709551615) ∧ Hid (gc x y = gc a b) ∧ Below w.heap.size w wr) (fun _ v _ => (intOf v).toNat)
  case atStart => exact ⟨a, b, rfl, rfl, ⟨a0, a1⟩, ⟨b0, b1⟩, rfl, Below.refl _ _⟩
  case round =>
    obtain ⟨x, y, rfl, rfl, ⟨x0, x1⟩, ⟨y0, y1⟩, HG, hbel⟩ := hrel
    by_cases hy : y = 0
    · subst hy
      have e := HG.out
      rw [gc_zero x0] at e
      go_wp2
      go_ret
      exact ⟨one e, hbel⟩
    · have hy2 : 0 < y := by omega
      have HG' : Hid (gc y (x % y) = gc a b) := by rw [gc_step x0 hy2]; exact HG
      have m0 := Int.emod_nonneg x hy
      have m1 := Int.emod_lt_of_pos x hy2
      have h0 : (y == 0) = false := by simp [hy]
      clear hy HG
      go_wp2
      go_quiet (fail)
      go_wp2
      go_roundw
      case rel => exact ⟨y, x % y, rfl, rfl, ⟨by omega, by omega⟩, ⟨m0, by omega⟩, HG', below_drewN hbel _⟩
      case measure => simp [intOf]; omega

/-- how often 2 divides N, up to 64 -/
def Halved (N : Nat) (w : World) (e : Ending) (w' : World) : Prop :=
  ∃ t : Nat, e = .returned (.int .i64 t) ∧ w = w' ∧ t ≤ 64 ∧ N % 2 ^ t = 0 ∧ (t = 64 ∨ N / 2 ^ t % 2 = 1)

theorem castdiv (m s : Nat) : (m : Int) / 2 ^ s = ((m / 2 ^ s : Nat) : Int) := by
  rw [Int.natCast_ediv, Int.natCast_pow]; rfl
theorem bit_of (N k : Nat) (h : N < 18446744073709551616) : bits .and .u64 ((N : Int) / 2 ^ k) 1 = ((N / 2 ^ k % 2 : Nat) : Int) := by
  rw [castdiv]
  have h2 : N / 2 ^ k ≤ N := Nat.div_le_self _ _
  have := bits_and_u64_nat (N / 2 ^ k) 1 (by omega) (by omega)
  rw [Nat.and_one_is_mod] at this
  exact this

theorem halvings_any (N : Nat) (hN : N < 18446744073709551616) (w : World) :
    Calls Try.prog 43 #[.int .u64 (N : Int)] w (Halved N w) := by
  go_enter Try.func43, Try.ntmps43
  go_wp2
  go_loop [4] (fun u => ∃ k : Nat, k ≤ 64 ∧ u = .int .i64 k ∧ N % 2 ^ k = 0) (fun u => 64 - (intOf u).toNat)
  case atStart => exact ⟨0, by omega, rfl, by simp [Nat.mod_one]⟩
  case round =>
    obtain ⟨k, hk, rfl, hz⟩ := hrel
    have HZ := Lib.hid hz
    clear hz
    have hb := bit_of N k hN
    by_cases h64 : k < 64
    · by_cases hodd : N / 2 ^ k % 2 = 1
      · rw [hodd] at hb
        have HO := Lib.hid hodd
        clear hodd
        go_wp2
        go_ret
        exact ⟨k, rfl, rfl, by omega, HZ.out, Or.inr HO.out⟩
      · have h0 : N / 2 ^ k % 2 = 0 := by omega
        rw [h0] at hb
        have HE : Hid (N % 2 ^ (k + 1) = 0) := by
          have := Nat.mod_pow_succ (b := 2) (k := k) (x := N)
          rw [HZ.out, h0] at this
          simp at this
          exact this
        clear hodd h0
        go_wp2
        go_round
        case rel => exact ⟨k + 1, by omega, by go_num, HE.out⟩
        case measure => simp [intOf]; omega
    · have h : k = 64 := by omega
      clear hb
      go_wp2
      go_ret
      subst h
      exact ⟨64, rfl, rfl, by omega, HZ.out, Or.inl rfl⟩

/-- where N is not 0 -/
def HalvedPos (N : Nat) (w : World) (e : Ending) (w' : World) : Prop :=
  ∃ t : Nat, e = .returned (.int .i64 t) ∧ w = w' ∧ t < 64 ∧ Twos N t

theorem halvings_pos (N : Nat) (hN : N < 18446744073709551616) (h0 : 0 < N) (w : World) :
    Calls Try.prog 43 #[.int .u64 (N : Int)] w (HalvedPos N w) := by
  refine (halvings_any N hN w).mono fun e w' ⟨t, he, hw, ht, h1, h2⟩ => ?_
  have hlt : t ≠ 64 := by
    intro h
    subst h
    rw [Nat.mod_eq_of_lt (by omega)] at h1
    omega
  exact ⟨t, he, hw, by omega, h1, by omega⟩

theorem twos_div {N t : Nat} (h : Twos N t) (h0 : 0 < N) : 0 < N / 2 ^ t ∧ N / 2 ^ t ≤ N ∧ N / 2 ^ t % 2 = 1 := by
  refine ⟨?_, Nat.div_le_self _ _, h.2⟩
  have := h.2
  generalize N / 2 ^ t = q at *
  omega

theorem common_any (M N : Nat) (hM : M < 18446744073709551616) (hN : N < 18446744073709551616) (w : World) :
    Calls Try.prog 39 #[.int .u64 (M : Int), .int .u64 (N : Int)] w fun e w' => e = .returned (.int .u64 ((Nat.gcd M N : Nat) : Int)) ∧ w = w' := by
  have hor := bits_or_u64_nat M N hM hN
  by_cases hm : M = 0
  · subst hm
    rw [Nat.zero_or] at hor
    rw [Nat.gcd_zero_left]
    go_enter Try.func39, Try.ntmps39
    go_wp2
    go_ret
    exact ⟨one hor, rfl⟩
  by_cases hn : N = 0
  · subst hn
    have hm1 : ((M : Int) == 0) = false := by simp [hm]
    rw [Nat.or_zero] at hor
    rw [Nat.gcd_zero_right]
    clear hm
    go_enter Try.func39, Try.ntmps39
    go_wp2
    go_ret
    exact ⟨one hor, rfl⟩
  have hK : M ||| N < 2 ^ 64 := Nat.or_lt_two_pow (by omega) (by omega)
  have hK0 : 0 < M ||| N := by have := Nat.left_le_or (n := M) (m := N); omega
  have hm1 : ((M : Int) == 0) = false := by simp [hm]
  have hn1 : ((N : Int) == 0) = false := by simp [hn]
  have hm2 : 0 < M := by omega
  have hn2 : 0 < N := by omega
  have c1 := fun (w : World) => halvings_pos (M ||| N) (by omega) hK0 w
  have c2 := fun (w : World) => halvings_pos M hM hm2 w
  have GT := fun t a (h : Twos (M ||| N) t) (ha : Twos M a) => gcd_twos h ha
  clear hm hn hK0
  generalize M ||| N = K at *
  go_enter Try.func39, Try.ntmps39
  go_wp2_with (go_at_call 43; (first | ((with_reducible refine (c1 _).mono ?_); rintro e w' ⟨t, rfl, rfl, ht, HT⟩) | ((with_reducible refine (c2 _).mono ?_); rintro e w' ⟨a, rfl, rfl, ha, HA⟩)))
  obtain ⟨q0, q1, q2⟩ := twos_div HA hm2
  have hG := GT t a HT HA
  have hc := castdiv M a
  clear GT c1 c2 hor
  generalize M / 2 ^ a = q at *
  rw [hc]
  have HG := Lib.hid hG
  clear hG hc HT HA
  go_loop [0, 1] (fun u v => ∃ m n : Nat, u = .int .u64 (m : Int) ∧ v = .int .u64 (n : Int) ∧ (m < 18446744073709551616 ∧ Hid (m % 2 = 1)) ∧ n < 18446744073709551616 ∧ Hid (2 ^ t * Nat.gcd m n = Nat.gcd M N)) (fun u v => (intOf u).toNat + (intOf v).toNat)
  case atStart => exact ⟨q, N, rfl, rfl, ⟨by omega, q2⟩, hN, HG.out.symm⟩
  case round =>
    obtain ⟨m, n, rfl, rfl, ⟨hm, HO⟩, hn, HE⟩ := hrel
    by_cases h0 : n = 0
    · subst h0
      clear HG
      go_wp2
      go_ret
      have h1 := HE.out
      rw [Nat.gcd_zero_right] at h1
      have h2 := Nat.gcd_le_left N hm2
      refine ⟨one ?_, rfl⟩
      have h3 : (m : Int) * 2 ^ t = ((Nat.gcd M N : Nat) : Int) := by
        rw [← h1, Nat.mul_comm, Int.natCast_mul, Int.natCast_pow]; rfl
      rw [h3, IntKind.wrap_u64]
      omega
    · have hn0 : ((n : Int) == 0) = false := by simp [h0]
      have hn1 : 0 < n := by omega
      have cn := fun (w : World) => halvings_pos n hn hn1 w
      clear h0
      go_wp2_with (go_at_call 43; ((with_reducible refine (cn _).mono ?_); rintro e w' ⟨s, rfl, rfl, hs, HS⟩; obtain ⟨q2, hq, hcs⟩ : ∃ q2 : Nat, Hid (n / 2 ^ s = q2) ∧ (n : Int) / 2 ^ s = (q2 : Int) := ⟨_, rfl, castdiv n s⟩))
      · have hlt : q2 < m := by assumption
        obtain ⟨k0, k1, k2⟩ := twos_div HS hn1
        have hg := gcd_half HO.out HS.1
        have hq' := hq.out
        rw [hq'] at k0 k1 k2 hg
        go_round
        case rel =>
          refine ⟨q2, m - q2, rfl, ?_, ⟨by omega, k2⟩, by omega, ?_⟩
          · rw [Int.ofNat_sub (by omega)]
          · show 2 ^ t * Nat.gcd q2 (m - q2) = Nat.gcd M N
            rw [gcd_take (by omega), Nat.gcd_comm, hg]
            exact HE.out
        case measure => simp [intOf]; omega
      · have hge : ¬ q2 < m := by assumption
        obtain ⟨k0, k1, k2⟩ := twos_div HS hn1
        have hg := gcd_half HO.out HS.1
        have hq' := hq.out
        rw [hq'] at k0 k1 k2 hg
        have hwr : IntKind.u64.wrap ((q2 : Int) - (m : Int)) = ((q2 - m : Nat) : Int) := by rw [IntKind.wrap_u64]; omega
        rw [hwr]
        have hO := HO.out
        go_round
        case rel =>
          refine ⟨m, q2 - m, rfl, rfl, ⟨hm, HO⟩, by omega, ?_⟩
          show 2 ^ t * Nat.gcd m (q2 - m) = Nat.gcd M N
          rw [gcd_take (by omega), hg]
          exact HE.out
        case measure => simp [intOf]; omega

theorem ab_nat (z : Int) : ab z = ((z.natAbs : Nat) : Int) := by unfold ab; split <;> omega

theorem ngcd_row (b off cap : Nat) (l : List Int) (w : World) (hcap : l.length ≤ 9223372036854775807)
    (hc : ∀ i, i < l.length → w.cell? ⟨b, off + i, none⟩ = some (.int .i64 (l.getD i 0)))
    (hz : ∀ i, i < l.length → -9223372036854775808 ≤ l.getD i 0 ∧ l.getD i 0 ≤ 9223372036854775807) :
    Calls Try.prog 30 #[.slice (some ⟨b, off, none⟩) l.length cap] w fun e w' => e = .returned (.tuple #[.int .i64 (fitV (gl l 0)), .bool (fitB (gl l 0))]) ∧ w = w' := by
  go_enter Try.func30, Try.ntmps30
  go_wp2
  go_loop [4, 9] (fun g i => ∃ G k : Nat, g = .int .u64 (G : Int) ∧ i = .int .i64 (k : Int) ∧ k ≤ l.length ∧ G ≤ 9223372036854775808 ∧ Hid (gl (l.drop k) G = gl l 0)) (fun _ i => l.length - (intOf i).toNat)
  case atStart => exact ⟨0, 0, rfl, rfl, by omega, by omega, rfl⟩
  case round =>
    obtain ⟨G, k, rfl, rfl, hk, hG, HE⟩ := hrel
    by_cases hlt : k < l.length
    · have hck := hc k hlt
      obtain ⟨z0, z1⟩ := hz k hlt
      have hst := gl_step l k G hlt
      have hidx : (k : Int) < (l.length : Int) := by omega
      clear hc hz
      generalize l.getD k 0 = z at *
      have cs := fun (w : World) => size_any z z0 z1 w
      rw [ab_nat z] at cs
      have hn : z.natAbs ≤ 9223372036854775808 := by omega
      generalize z.natAbs = n at *
      have HS := Lib.hid hst
      clear hst
      have cc := fun (w : World) => common_any G n (by omega) (by omega) w
      have hg := gcd_max hG hn
      generalize Nat.gcd G n = g at *
      go_wp2_with (first | (go_at_call 36; ((with_reducible refine (cs _).mono ?_); rintro e w' ⟨rfl, rfl⟩)) | (go_at_call 39; ((with_reducible refine (cc _).mono ?_); rintro e w' ⟨rfl, rfl⟩)))
      go_round
      case rel => exact ⟨g, k + 1, rfl, by go_num, by omega, hg, by have h1 := HS.out; have h2 := HE.out; exact h1.symm.trans h2⟩
      case measure => simp [intOf]; omega
    · clear hc hz
      have h1 := gl_end l k G (by omega)
      have h2 := HE.out
      rw [h1] at h2
      have HF := Lib.hid h2
      clear h1 h2 HE
      go_wp2_with (go_at_call 40; ((with_reducible refine (signed_any _ _ (by omega) (by omega) _).mono ?_); rintro e w' ⟨rfl, rfl⟩))
      go_ret2
      exact ⟨pair (by rw [← HF.out]; exact ⟨rfl, rfl⟩), rfl⟩

theorem ngcd_empty (a : Option Addr) (cap : Nat) (w : World) :
    Calls Try.prog 30 #[.slice a 0 cap] w fun e w' => e = .returned (.tuple #[.int .i64 (fitV (gl [] 0)), .bool (fitB (gl [] 0))]) ∧ w = w' := by
  go_enter Try.func30, Try.ntmps30
  go_wp2
  go_loop [4, 9] (fun g i => g = .int .u64 0 ∧ i = .int .i64 0) (fun _ i => 0)
  case atStart => exact ⟨rfl, rfl⟩
  case round =>
    obtain ⟨rfl, rfl⟩ := hrel
    go_wp2_with (go_at_call 40; ((with_reducible refine (signed_any _ _ (by omega) (by omega) _).mono ?_); rintro e w' ⟨rfl, rfl⟩))
    go_ret2
    exact ⟨rfl, rfl⟩

theorem refgcd_row (b off cap : Nat) (l : List Int) (w : World) (hb : b < w.heap.size) (hcap : l.length ≤ 9223372036854775807)
    (hc : ∀ i, i < l.length → w.cell? ⟨b, off + i, none⟩ = some (.int .i64 (l.getD i 0)))
    (hz : ∀ i, i < l.length → -9223372036854775808 ≤ l.getD i 0 ∧ l.getD i 0 ≤ 9223372036854775807) :
    Calls Try.prog 31 #[.slice (some ⟨b, off, none⟩) l.length cap] w fun e w' => e = .returned (.tuple #[.int .i64 (fitV (gl l 0)), .bool (fitB (gl l 0))]) ∧ Below w.heap.size w w' := by
  go_enter Try.func31, Try.ntmps31
  go_wp2
  go_loopw [4, 5] (fun g i wr => ∃ G k : Nat, g = .int .u64 (G : Int) ∧ i = .int .i64 (k : Int) ∧ k ≤ l.length ∧ G ≤ 9223372036854775808 ∧ Hid (gl (l.drop k) G = gl l 0) ∧ Below w.heap.size w wr) (fun _ i _ => l.length - (intOf i).toNat)
  case atStart => exact ⟨0, 0, rfl, rfl, by omega, by omega, rfl, Below.refl _ _⟩
  case round =>
    obtain ⟨G, k, rfl, rfl, hk, hG, HE, hbel⟩ := hrel
    by_cases hlt : k < l.length
    · have hck := (hbel.cell (p := ⟨b, off + k, none⟩) hb).trans (hc k hlt)
      obtain ⟨z0, z1⟩ := hz k hlt
      have hst := gl_step l k G hlt
      have hidx : (k : Int) < (l.length : Int) := by omega
      clear hc hz
      generalize l.getD k 0 = z at *
      have cs := fun (w : World) => far_any z z0 z1 w
      rw [ab_nat z] at cs
      have hn : z.natAbs ≤ 9223372036854775808 := by omega
      generalize z.natAbs = n at *
      have HS := Lib.hid hst
      clear hst
      have cc := fun (w : World) => rgcd_any G n (by omega) (by omega) (by omega) (by omega) w
      have e1 : gc (G : Int) (n : Int) = ((Nat.gcd G n : Nat) : Int) := rfl
      rw [e1] at cc
      clear e1
      have hg := gcd_max hG hn
      generalize Nat.gcd G n = g at *
      go_wp2_with (first | (go_at_call 29; ((with_reducible refine (cs _).mono ?_); rintro e w' ⟨rfl, rfl⟩)) | (go_at_call 41; ((with_reducible refine (cc _).mono ?_); rintro e w' ⟨rfl, hw⟩)))
      go_roundw
      case rel => exact ⟨g, k + 1, rfl, by go_num, by omega, hg, by (have h1 := HS.out; have h2 := HE.out; exact h1.symm.trans h2), bel_trans hbel hw⟩
      case measure => simp [intOf]; omega
    · clear hc hz
      have h1 := gl_end l k G (by omega)
      have h2 := HE.out
      rw [h1] at h2
      have HF := Lib.hid h2
      clear h1 h2 HE
      have hF : Hid (((gl l 0 : Nat) : Int) = (G : Int)) := by (have h1 := HF.out; show ((gl l 0 : Nat) : Int) = (G : Int); omega)
      have hG0 : (0 : Int) ≤ (G : Int) := by omega
      have hG1 : (G : Int) ≤ 9223372036854775808 := by omega
      clear HF hG
      generalize (G : Int) = Z at *
      by_cases h3 : Z = 9223372036854775808
      · have h4 : 9223372036854775808 ≤ Z := by omega
        clear h3
        go_wp2
        go_ret2
        exact ⟨pair (by rw [hF.out]; exact fit_no (by omega)), hbel⟩
      · have h4 : Z < 9223372036854775808 := by omega
        clear h3
        go_wp2
        go_ret2
        exact ⟨pair (by rw [hF.out]; exact fit_yes (by omega)), hbel⟩

theorem refgcd_empty (a : Option Addr) (cap : Nat) (w : World) :
    Calls Try.prog 31 #[.slice a 0 cap] w fun e w' => e = .returned (.tuple #[.int .i64 (fitV (gl [] 0)), .bool (fitB (gl [] 0))]) ∧ Below w.heap.size w w' := by
  go_enter Try.func31, Try.ntmps31
  go_wp2
  go_loop [4, 5] (fun g i => g = .int .u64 0 ∧ i = .int .i64 0) (fun _ i => 0)
  case atStart => exact ⟨rfl, rfl⟩
  case round =>
    obtain ⟨rfl, rfl⟩ := hrel
    go_wp2
    go_ret2
    exact ⟨rfl, Below.refl _ _⟩

/-- the least common multiple, which may not fit -/
def lc (a b : Int) : Int := (a.natAbs : Int) / ((Nat.gcd a.natAbs b.natAbs : Nat) : Int) * (b.natAbs : Int)

theorem nlcm_any (a b : Int) (a0 : -9223372036854775808 ≤ a) (a1 : a ≤ 9223372036854775807) (b0 : -9223372036854775808 ≤ b) (b1 : b ≤ 9223372036854775807) (w : World) :
    Calls Try.prog 32 #[.int .i64 a, .int .i64 b] w fun e w' => e = .returned (.tuple #[.int .i64 (fitV (lc a b)), .bool (fitB (lc a b))]) ∧ w = w' := by
  by_cases ha : a = 0
  · subst ha
    have e : lc 0 b = 0 := by unfold lc; simp
    rw [e]
    clear e
    go_enter Try.func32, Try.ntmps32
    go_wp2
    go_ret2
    exact ⟨rfl, rfl⟩
  by_cases hb : b = 0
  · subst hb
    have e : lc a 0 = 0 := by unfold lc; simp
    rw [e]
    have ha' : (a == 0) = false := by simp [ha]
    clear e ha
    go_enter Try.func32, Try.ntmps32
    go_wp2
    go_ret2
    exact ⟨rfl, rfl⟩
  have ha' : (a == 0) = false := by simp [ha]
  have hb' : (b == 0) = false := by simp [hb]
  have ca := fun (w : World) => size_any a a0 a1 w
  have cb := fun (w : World) => size_any b b0 b1 w
  rw [ab_nat] at ca cb
  unfold lc
  have hM : 0 < a.natAbs ∧ a.natAbs ≤ 9223372036854775808 := by omega
  have hN : 0 < b.natAbs ∧ b.natAbs ≤ 9223372036854775808 := by omega
  clear ha hb
  generalize a.natAbs = M at *
  generalize b.natAbs = N at *
  have cc := fun (w : World) => common_any M N (by omega) (by omega) w
  have hg : 0 < Nat.gcd M N := Nat.gcd_pos_of_pos_left _ hM.1
  generalize Nat.gcd M N = g at *
  have hq : (M : Int) / (g : Int) ≤ M ∧ 0 ≤ (M : Int) / (g : Int) := ⟨Int.ediv_le_self _ (by omega), Int.ediv_nonneg (by omega) (by omega)⟩
  obtain ⟨q, hqe⟩ : ∃ q, (M : Int) / (g : Int) = q := ⟨_, rfl⟩
  rw [hqe] at hq ⊢
  obtain ⟨q1, q0⟩ := hq
  obtain ⟨M0, M1⟩ := hM
  obtain ⟨N0, N1⟩ := hN
  have hg1 : (1 : Int) ≤ (g : Int) := by omega
  have hg2 : ((g : Int) == 0) = false := by simp; omega
  go_enter Try.func32, Try.ntmps32
  go_wp2_with (first | (go_at_call 36; (first | with_reducible refine (ca _).mono ?_ | with_reducible refine (cb _).mono ?_); rintro e w' ⟨rfl, rfl⟩) | (go_at_call 39; ((with_reducible refine (cc _).mono ?_); rintro e w' ⟨rfl, rfl⟩)) | (go_at_call 35; ((with_reducible refine (product_any _ _ _ (by omega) (by omega) (by omega) (by omega) _).mono ?_); rintro e w' ⟨rfl, rfl⟩)))
  go_ret2
  exact ⟨rfl, rfl⟩

theorem rlcm_any (a b : Int) (a0 : -9223372036854775808 ≤ a) (a1 : a ≤ 9223372036854775807) (b0 : -9223372036854775808 ≤ b) (b1 : b ≤ 9223372036854775807) (w : World) :
    Calls Try.prog 33 #[.int .i64 a, .int .i64 b] w fun e w' => e = .returned (.tuple #[.int .i64 (fitV (lc a b)), .bool (fitB (lc a b))]) ∧ Below w.heap.size w w' := by
  by_cases ha : a = 0
  · subst ha
    have e : lc 0 b = 0 := by unfold lc; simp
    rw [e]
    clear e
    go_enter Try.func33, Try.ntmps33
    go_wp2
    go_ret2
    exact ⟨rfl, Below.refl _ _⟩
  by_cases hb : b = 0
  · subst hb
    have e : lc a 0 = 0 := by unfold lc; simp
    rw [e]
    have ha' : (a == 0) = false := by simp [ha]
    clear e ha
    go_enter Try.func33, Try.ntmps33
    go_wp2
    go_ret2
    exact ⟨rfl, Below.refl _ _⟩
  have ha' : (a == 0) = false := by simp [ha]
  have hb' : (b == 0) = false := by simp [hb]
  have ca := fun (w : World) => far_any a a0 a1 w
  have cb := fun (w : World) => far_any b b0 b1 w
  rw [ab_nat] at ca cb
  unfold lc
  have hM : 0 < a.natAbs ∧ a.natAbs ≤ 9223372036854775808 := by omega
  have hN : 0 < b.natAbs ∧ b.natAbs ≤ 9223372036854775808 := by omega
  clear ha hb
  generalize a.natAbs = M at *
  generalize b.natAbs = N at *
  have cc := fun (w : World) => rgcd_any M N (by omega) (by omega) (by omega) (by omega) w
  have e1 : gc (M : Int) (N : Int) = ((Nat.gcd M N : Nat) : Int) := rfl
  rw [e1] at cc
  clear e1
  have hg : 0 < Nat.gcd M N := Nat.gcd_pos_of_pos_left _ hM.1
  generalize Nat.gcd M N = g at *
  have hq : (M : Int) / (g : Int) ≤ M ∧ 0 ≤ (M : Int) / (g : Int) := ⟨Int.ediv_le_self _ (by omega), Int.ediv_nonneg (by omega) (by omega)⟩
  obtain ⟨q, hqe⟩ : ∃ q, (M : Int) / (g : Int) = q := ⟨_, rfl⟩
  rw [hqe] at hq ⊢
  obtain ⟨q1, q0⟩ := hq
  obtain ⟨M0, M1⟩ := hM
  obtain ⟨N0, N1⟩ := hN
  have hg1 : (1 : Int) ≤ (g : Int) := by omega
  have hg2 : ((g : Int) == 0) = false := by simp; omega
  have hN2 : ((N : Int) == 0) = false := by simp; omega
  have hle := Int.le_ediv_iff_mul_le (a := q) (b := 9223372036854775807) (c := N) (by omega)
  have hp0 : 0 ≤ q * (N : Int) := Int.mul_nonneg q0 (by omega)
  obtain ⟨p, hp⟩ : ∃ p, q * (N : Int) = p := ⟨_, rfl⟩
  rw [hp] at hle hp0 ⊢
  by_cases hfit : p ≤ 9223372036854775807
  · have h5 := hle.2 hfit
    clear hle
    go_enter Try.func33, Try.ntmps33
    go_wp2_with (first | (go_at_call 29; (first | with_reducible refine (ca _).mono ?_ | with_reducible refine (cb _).mono ?_); rintro e w' ⟨rfl, rfl⟩) | (go_at_call 41; ((with_reducible refine (cc _).mono ?_); rintro e w' ⟨rfl, hw⟩)))
    go_ret2
    exact ⟨pair (fit_yes (by omega)), hw⟩
  · have h5 : ¬ q ≤ 9223372036854775807 / (N : Int) := fun h => hfit (hle.1 h)
    clear hle
    go_enter Try.func33, Try.ntmps33
    go_wp2_with (first | (go_at_call 29; (first | with_reducible refine (ca _).mono ?_ | with_reducible refine (cb _).mono ?_); rintro e w' ⟨rfl, rfl⟩) | (go_at_call 41; ((with_reducible refine (cc _).mono ?_); rintro e w' ⟨rfl, hw⟩)))
    go_ret2
    exact ⟨pair (fit_no (by omega)), hw⟩

theorem wrap_W (n : Int) : wrap64 n = W n := by unfold wrap64 W; rfl

/-- what Bezout answers -/
def BezEnd (a b : Int) (w : World) (e : Ending) (w' : World) : Prop :=
  ∃ g x y : Int, e = .returned (.tuple #[.int .i64 (fitV g), .int .i64 x, .int .i64 y, .bool (fitB g)]) ∧ Below w.heap.size w w' ∧ g = gc (ab a) (ab b) ∧ g ≤ 9223372036854775808 ∧
    (fitB g = true → a * x + b * y = g ∧ Bd x (ab b) ∧ Bd y (ab a)) ∧ (fitB g = false → x = 0 ∧ y = 0)

theorem results_tmp4 {fn : Func} {t u v s : Tmp} (h : fn.results = #[.tmp t, .tmp u, .tmp v, .tmp s]) (tmps : Array Value) (P : Program) (w : World) :
    (results fn tmps).run P w = .ok (.tuple #[tmps.getD t undef, tmps.getD u undef, tmps.getD v undef, tmps.getD s undef]) w := by
  simp [results, h]

theorem ab_times {a x : Int} : (a < 0 → a * -x = ab a * x) ∧ (0 ≤ a → a * x = ab a * x) := by
  refine ⟨fun h => ?_, fun h => ?_⟩
  · rw [ab_neg h, Int.neg_mul, Int.mul_neg]
  · rw [ab_pos h]

theorem bez_end {a b m x y x' y' : Int} {w w' : World} (hb : Below w.heap.size w w') (hm : m ≤ 9223372036854775807) (m0 : 0 ≤ m) (hg : m = gc (ab a) (ab b)) (he : m = ab a * x + ab b * y)
    (bx : Bd x (ab b)) (by' : Bd y (ab a)) (hx : a < 0 ∧ x' = -x ∨ 0 ≤ a ∧ x' = x) (hy : b < 0 ∧ y' = -y ∨ 0 ≤ b ∧ y' = y) :
    BezEnd a b w (.returned (.tuple #[.int .i64 m, .int .i64 x', .int .i64 y', .bool true])) w' := by
  obtain ⟨f1, f2⟩ := fit_yes (n := m) (by omega)
  refine ⟨m, x', y', by rw [f1, f2], hb, hg, by omega, fun _ => ?_, fun h => by rw [f2] at h; cases h⟩
  have ex : a * x' = ab a * x := by
    rcases hx with ⟨h, rfl⟩ | ⟨h, rfl⟩
    · exact ab_times.1 h
    · exact ab_times.2 h
  have ey : b * y' = ab b * y := by
    rcases hy with ⟨h, rfl⟩ | ⟨h, rfl⟩
    · exact ab_times.1 h
    · exact ab_times.2 h
  refine ⟨by rw [ex, ey]; exact he.symm, ?_, ?_⟩
  · rcases hx with ⟨_, rfl⟩ | ⟨_, rfl⟩
    · exact Bd_neg bx
    · exact bx
  · rcases hy with ⟨_, rfl⟩ | ⟨_, rfl⟩
    · exact Bd_neg by'
    · exact by'

theorem bezout_any (a b : Int) (a0 : -9223372036854775808 ≤ a) (a1 : a ≤ 9223372036854775807) (b0 : -9223372036854775808 ≤ b) (b1 : b ≤ 9223372036854775807) (w : World) :
    Calls Try.prog 34 #[.int .i64 a, .int .i64 b] w (BezEnd a b w) := by
  have ca := fun (w : World) => size_any a a0 a1 w
  have cb := fun (w : World) => size_any b b0 b1 w
  have hA := ab_bd a0 a1
  have hB := ab_bd b0 b1
  have hs := bez_start hA.1 hB.1 hA.2 hB.2
  obtain ⟨A, hAe⟩ : ∃ A, Hid (ab a = A) ∧ ab a = A := ⟨_, rfl, rfl⟩
  obtain ⟨B, hBe⟩ : ∃ B, Hid (ab b = B) ∧ ab b = B := ⟨_, rfl, rfl⟩
  obtain ⟨HA, hAe⟩ := hAe
  obtain ⟨HB, hBe⟩ := hBe
  rw [hAe] at ca hA hs
  rw [hBe] at cb hB hs
  clear hAe hBe
  go_enter Try.func34, Try.ntmps34
  go_wp2_with (go_at_call 36; (first | with_reducible refine (ca _).mono ?_ | with_reducible refine (cb _).mono ?_); rintro e w' ⟨rfl, rfl⟩)
  go_loopw [8, 9, 10, 11, 12, 13] (fun s8 s9 s10 s11 s12 s13 wr => ∃ m n x y u v : Int, s8 = .int .u64 m ∧ s9 = .int .i64 x ∧ s10 = .int .i64 y ∧ s11 = .int .u64 n ∧ s12 = .int .i64 u ∧ s13 = .int .i64 v ∧ Bez A B m n x y u v ∧ Below w.heap.size w wr) (fun _ _ _ s _ _ _ => (intOf s).toNat)
  case atStart => exact ⟨A, B, 1, 0, 0, 1, rfl, rfl, rfl, rfl, rfl, rfl, hs, Below.refl _ _⟩
  case round =>
    obtain ⟨m, n, x, y, u, v, rfl, rfl, rfl, rfl, rfl, rfl, hz, hbel⟩ := hrel
    obtain ⟨m0, n0, m1, n1⟩ : 0 ≤ m ∧ 0 ≤ n ∧ m ≤ 9223372036854775808 ∧ n ≤ 9223372036854775808 := ⟨hz.m0, hz.n0, hz.m1, hz.n1⟩
    by_cases hn : n = 0
    · subst hn
      have hg : m = gc A B := by rw [← hz.g, gc_zero m0]
      obtain ⟨x0, x1, x2⟩ : Bd x B := hz.bx
      obtain ⟨y0, y1, y2⟩ : Bd y A := hz.by'
      have he : m = A * x + B * y := hz.e
      have HZ := Lib.hid hz
      clear hz hs
      have HE := Lib.hid he
      have HG := Lib.hid hg
      have HX := Lib.hid x2
      have HY := Lib.hid y2
      clear he hg x2 y2
      have cs := fun (w : World) => signed_any m false m0 (by omega) w
      have esg : sg false m = m := rfl
      rw [esg] at cs
      clear esg
      by_cases hf : m ≤ 9223372036854775807
      · obtain ⟨f1, f2⟩ := fit_yes (n := m) (by omega)
        rw [f2] at cs
        have HF := Lib.hid f2
        clear f2
        by_cases ha : a < 0
        · by_cases hb : b < 0
          · go_wp2_with (go_at_call 40; ((with_reducible refine (cs _).mono ?_); rintro e w' ⟨rfl, rfl⟩))
            refine bodyPost_ret (results_tmp4 rfl _ _ _) rfl ?_
            exact bez_end hbel hf m0 (by rw [HA.out, HB.out]; exact HG.out) (by rw [HA.out, HB.out]; exact HE.out) (by rw [HB.out]; exact HZ.out.bx) (by rw [HA.out]; exact HZ.out.by') (Or.inl ⟨ha, rfl⟩) (Or.inl ⟨hb, rfl⟩)
          · go_wp2_with (go_at_call 40; ((with_reducible refine (cs _).mono ?_); rintro e w' ⟨rfl, rfl⟩))
            refine bodyPost_ret (results_tmp4 rfl _ _ _) rfl ?_
            exact bez_end hbel hf m0 (by rw [HA.out, HB.out]; exact HG.out) (by rw [HA.out, HB.out]; exact HE.out) (by rw [HB.out]; exact HZ.out.bx) (by rw [HA.out]; exact HZ.out.by') (Or.inl ⟨ha, rfl⟩) (Or.inr ⟨by omega, rfl⟩)
        · by_cases hb : b < 0
          · go_wp2_with (go_at_call 40; ((with_reducible refine (cs _).mono ?_); rintro e w' ⟨rfl, rfl⟩))
            refine bodyPost_ret (results_tmp4 rfl _ _ _) rfl ?_
            exact bez_end hbel hf m0 (by rw [HA.out, HB.out]; exact HG.out) (by rw [HA.out, HB.out]; exact HE.out) (by rw [HB.out]; exact HZ.out.bx) (by rw [HA.out]; exact HZ.out.by') (Or.inr ⟨by omega, rfl⟩) (Or.inl ⟨hb, rfl⟩)
          · go_wp2_with (go_at_call 40; ((with_reducible refine (cs _).mono ?_); rintro e w' ⟨rfl, rfl⟩))
            refine bodyPost_ret (results_tmp4 rfl _ _ _) rfl ?_
            exact bez_end hbel hf m0 (by rw [HA.out, HB.out]; exact HG.out) (by rw [HA.out, HB.out]; exact HE.out) (by rw [HB.out]; exact HZ.out.bx) (by rw [HA.out]; exact HZ.out.by') (Or.inr ⟨by omega, rfl⟩) (Or.inr ⟨by omega, rfl⟩)
      · obtain ⟨f1, f2⟩ := fit_no (n := m) (by omega)
        rw [f1, f2] at cs
        have HF := Lib.hid (And.intro f1 f2)
        clear f1 f2
        go_wp2_with (go_at_call 40; ((with_reducible refine (cs _).mono ?_); rintro e w' ⟨rfl, rfl⟩))
        refine bodyPost_ret (results_tmp4 rfl _ _ _) rfl ?_
        refine ⟨m, 0, 0, by rw [HF.out.1, HF.out.2]; rfl, hbel, by rw [HA.out, HB.out]; exact HG.out, m1, (fun h => by (rw [HF.out.2] at h; cases h)), fun _ => ⟨rfl, rfl⟩⟩
    · have hn2 : 0 < n := by omega
      have hst := bez_step hA.2 hB.2 hn hz
      have r0 := Int.emod_nonneg m hn
      have r1 := Int.emod_lt_of_pos m hn2
      have h0 : (n == 0) = false := by simp [hn]
      have h0' : (n != 0) = true := by simp [hn]
      clear hn
      go_wp2
      go_quiet (fail)
      go_wp2
      go_roundw
      case rel =>
        refine ⟨n, m % n, u, v, _, _, rfl, rfl, rfl, rfl, rfl, rfl, ?_, below_drewN hbel _⟩
        simp only [wrap_W]
        exact hst
      case measure => simp [intOf]; omega

def BezYes (a b g A B : Int) (w : World) (e : Ending) (w' : World) : Prop :=
  ∃ x y : Int, e = .returned (.tuple #[.int .i64 g, .int .i64 x, .int .i64 y, .bool true]) ∧ Below w.heap.size w w' ∧ Hid (a * x + b * y = g ∧ Bd x B ∧ Bd y A) ∧
    (-4611686018427387904 ≤ x ∧ x ≤ 4611686018427387904) ∧ (-4611686018427387904 ≤ y ∧ y ≤ 4611686018427387904)

theorem bezout_yes (a b : Int) (a0 : -9223372036854775808 ≤ a) (a1 : a ≤ 9223372036854775807) (b0 : -9223372036854775808 ≤ b) (b1 : b ≤ 9223372036854775807) (hf : gc (ab a) (ab b) ≤ 9223372036854775807) (w : World) :
    Calls Try.prog 34 #[.int .i64 a, .int .i64 b] w (BezYes a b (gc (ab a) (ab b)) (ab a) (ab b) w) := by
  refine (bezout_any a b a0 a1 b0 b1 w).mono fun e w' ⟨g, x, y, he, hw, hg, _, h1, _⟩ => ?_
  subst hg
  have h0 := gc_pos (ab a) (ab b)
  obtain ⟨f1, f2⟩ := fit_yes (n := gc (ab a) (ab b)) (by omega)
  rw [f1, f2] at he
  have h := h1 f2
  exact ⟨x, y, he, hw, h, ⟨h.2.1.1, h.2.1.2.1⟩, ⟨h.2.2.1, h.2.2.2.1⟩⟩

theorem bezout_no (a b : Int) (a0 : -9223372036854775808 ≤ a) (a1 : a ≤ 9223372036854775807) (b0 : -9223372036854775808 ≤ b) (b1 : b ≤ 9223372036854775807) (hf : ¬ gc (ab a) (ab b) ≤ 9223372036854775807) (w : World) :
    Calls Try.prog 34 #[.int .i64 a, .int .i64 b] w fun e w' => e = .returned (.tuple #[.int .i64 0, .int .i64 0, .int .i64 0, .bool false]) ∧ Below w.heap.size w w' := by
  refine (bezout_any a b a0 a1 b0 b1 w).mono fun e w' ⟨g, x, y, he, hw, hg, _, _, h2⟩ => ?_
  subst hg
  obtain ⟨f1, f2⟩ := fit_no (n := gc (ab a) (ab b)) (by omega)
  rw [f1, f2] at he
  obtain ⟨rfl, rfl⟩ := h2 f2
  exact ⟨he, hw⟩

theorem ngcd_two (b cap : Nat) (x y : Int) (w : World) (h1 : w.cell? ⟨b, 0, none⟩ = some (.int .i64 x)) (h2 : w.cell? ⟨b, 1, none⟩ = some (.int .i64 y))
    (x0 : -9223372036854775808 ≤ x) (x1 : x ≤ 9223372036854775807) (y0 : -9223372036854775808 ≤ y) (y1 : y ≤ 9223372036854775807) :
    Calls Try.prog 30 #[.slice (some ⟨b, 0, none⟩) 2 cap] w fun e w' => e = .returned (.tuple #[.int .i64 (fitV (gl [x, y] 0)), .bool (fitB (gl [x, y] 0))]) ∧ w = w' := by
  refine ngcd_row b 0 cap [x, y] w (by simp) ?_ ?_
  · intro i hi
    match i, hi with
    | 0, _ => exact h1
    | 1, _ => exact h2
  · intro i hi
    match i, hi with
    | 0, _ => exact ⟨x0, x1⟩
    | 1, _ => exact ⟨y0, y1⟩

theorem refgcd_two (b cap : Nat) (x y : Int) (w : World) (hb : b < w.heap.size) (h1 : w.cell? ⟨b, 0, none⟩ = some (.int .i64 x)) (h2 : w.cell? ⟨b, 1, none⟩ = some (.int .i64 y))
    (x0 : -9223372036854775808 ≤ x) (x1 : x ≤ 9223372036854775807) (y0 : -9223372036854775808 ≤ y) (y1 : y ≤ 9223372036854775807) :
    Calls Try.prog 31 #[.slice (some ⟨b, 0, none⟩) 2 cap] w fun e w' => e = .returned (.tuple #[.int .i64 (fitV (gl [x, y] 0)), .bool (fitB (gl [x, y] 0))]) ∧ Below w.heap.size w w' := by
  refine refgcd_row b 0 cap [x, y] w hb (by simp) ?_ ?_
  · intro i hi
    match i, hi with
    | 0, _ => exact h1
    | 1, _ => exact h2
  · intro i hi
    match i, hi with
    | 0, _ => exact ⟨x0, x1⟩
    | 1, _ => exact ⟨y0, y1⟩

theorem goes_any (w : World) : Calls Try.prog 18 #[] w fun e w' => e = .returned (.bool true) ∧ Below w.heap.size w w' := by
  have c1 := fun (w : World) => div_any (-7) 2 (by decide) (by decide) (by decide) (by decide) w
  have e1 : dV (-7) 2 = -4 ∧ dB (-7) 2 = true := by decide
  rw [e1.1, e1.2] at c1
  have c2 := fun (w : World) => mod_any 7 (-2) (by decide) (by decide) (by decide) (by decide) w
  have e2 : mV 7 (-2) = -1 ∧ ((-2 : Int) != 0) = true := by decide
  rw [e2.1, e2.2] at c2
  have c3 := fun (b : Nat) (w : World) h1 h2 => ngcd_two b 2 12 (-18) w h1 h2 (by decide) (by decide) (by decide) (by decide)
  have e3 : fitV (gl [12, -18] 0) = 6 ∧ fitB (gl [12, -18] 0) = true := by decide
  rw [e3.1, e3.2] at c3
  clear e1 e2 e3
  go_enter Try.func18, Try.ntmps18
  go_wp2_with (first | (go_at_call 19; ((with_reducible refine (c1 _).mono ?_); rintro e w1 ⟨rfl, hw1⟩)) | (go_at_call 21; ((with_reducible refine (c2 _).mono ?_); rintro e w2 ⟨rfl, rfl⟩)) | (go_at_call 30; ((with_reducible refine (c3 _ _ (by simp [go_sem]) (by simp [go_sem])).mono ?_); rintro e w3 ⟨rfl, rfl⟩)))
  go_ret
  exact ⟨rfl, bel_alloc hw1 _⟩

end Go.Proofs.Ytneflljiocnkjaa.Num
