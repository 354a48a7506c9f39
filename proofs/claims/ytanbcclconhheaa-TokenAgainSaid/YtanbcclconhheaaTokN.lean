/-
  What is proved: plain mathematics of tokens: the text of tokens has the same tokens; tokens stand one behind the other; the limits.
-/
import Derived.Test.YtanbcclconhheaaTokM
namespace Go.Proofs.Ytanbcclconhheaa.Tok

theorem toks_len {a : Nat} {l : List UInt8} {T : List Tok} (h : Toks a l T) : T.length ≤ l.length := by
  induction h with
  | nil a => exact Nat.le_refl _
  | @cons a l T h he ht ih =>
    rw [List.length_drop] at ih
    have := fN_pos he
    have := List.length_pos_iff.2 h
    simp only [List.length_cons]; omega
theorem ofS_len (s : List UInt8) : (ofS s).T.length ≤ s.length := by
  cases h : ofS s with
  | err a e => exact Nat.zero_le _
  | ok T =>
    have := toks_len (ofS_toks h).2
    rw [List.length_drop] at this
    show T.length ≤ _
    omega

theorem run_errE {f a : Nat} {l : List UInt8} {acc : List Tok} {b : Nat} {x : Int} (h : run f a l acc = .err b x) : x = 2 ∨ x = 7 := by
  induction f generalizing a l acc with
  | zero => cases h
  | succ f ih =>
    by_cases hl : l = []
    · subst hl; rw [run_nil] at h; cases h
    · by_cases he : fE l = 0
      · rw [run_ok hl he] at h; exact ih h
      · rw [run_err hl he] at h
        injection h with _ h
        rcases fE_or l with e | e | e
        · exact absurd e he
        · exact .inl (h.symm.trans e)
        · exact .inr (h.symm.trans e)
theorem ofS_errE {s : List UInt8} {b : Nat} {x : Int} (h : ofS s = .err b x) : x ≠ 0 := by
  unfold ofS at h
  split at h
  · injection h with _ h; rw [← h]; decide
  · rcases run_errE h with e | e <;> rw [e] <;> decide

/-! ## what follows the first token doesn't turn it -/
def stops (r : List UInt8) : Prop := r = [] ∨ ∃ r', r = 32 :: r'
theorem tw_app (p : UInt8 → Bool) (hp : p 32 = false) (l r : List UInt8) (hr : stops r) : (l.takeWhile p ++ r).takeWhile p = l.takeWhile p := by
  have hr2 : r.takeWhile p = [] := by
    rcases hr with rfl | ⟨r', rfl⟩
    · rfl
    · simp [hp]
  induction l with
  | nil => simpa using hr2
  | cons c l ih =>
    rw [List.takeWhile_cons]
    split
    · rename_i hc
      rw [List.cons_append, List.takeWhile_cons, if_pos hc, ih]
    · simpa using hr2
theorem tw_take (p : UInt8 → Bool) (l : List UInt8) : l.take (l.takeWhile p).length = l.takeWhile p := by
  obtain ⟨t, ht⟩ := List.takeWhile_prefix (l := l) p
  conv => lhs; rw [← ht]
  rw [List.take_left' (by simp [ht])]
theorem isN_32 : isN 32 = false := by decide
theorem isD_32 : isD 32 = false := by decide
theorem SG_no32 : ∀ x ∈ SG, (32 : UInt8) ∉ x := by decide
theorem SG_head : ∀ x ∈ SG, ∃ c y, x = c :: y ∧ c.toNat ≠ 10 ∧ c.toNat ≠ 35 ∧ c.toNat ≠ 9 ∧ c.toNat ≠ 13 ∧ c.toNat ≠ 32 := by
  intro x hx
  simp only [SG, List.mem_cons, List.not_mem_nil, or_false] at hx
  rcases hx with h | h | h | h | h | h | h | h | h | h | h | h | h | h | h | h | h | h | h | h | h | h | h | h | h | h | h
  all_goals
    subst h
    exact ⟨_, _, rfl, by decide, by decide, by decide, by decide, by decide⟩

theorem sgN_app (l r : List UInt8) (hr : stops r) : sgN (l.take (sgN l) ++ r) = sgN l := by
  obtain ⟨⟨x, hx1, hx2, hx3⟩, hmax⟩ := sg_of l
  obtain ⟨⟨y, hy1, hy2, hy3⟩, hmax2⟩ := sg_of (l.take (sgN l) ++ r)
  have hle := sgN_le l
  have htl : (l.take (sgN l)).length = sgN l := by rw [List.length_take]; omega
  have hxp : x = l.take (sgN l) := by
    rw [← hx1]; exact List.prefix_iff_eq_take.1 (pre_iff.1 hx2)
  apply Nat.le_antisymm
  · rcases Nat.lt_or_ge (sgN l) (sgN (l.take (sgN l) ++ r)) with hlt | hge
    · exfalso
      have hyS : y ∈ SG := by
        rcases hy3 with h | h
        · omega
        · exact h
      have hyp := pre_iff.1 hy2
      rcases hr with rfl | ⟨r', rfl⟩
      · have := hyp.length_le
        rw [List.append_nil, htl] at this
        rw [List.append_nil] at hlt hy1
        omega
      · have h32 : y[sgN l]? = some 32 := by
          obtain ⟨t, ht⟩ := hyp
          have h1 : (y ++ t)[sgN l]? = some 32 := by rw [ht, List.getElem?_append_right (by omega), htl, Nat.sub_self]; rfl
          rwa [List.getElem?_append_left (by omega)] at h1
        exact SG_no32 y hyS (List.mem_of_getElem? h32)
    · exact hge
  · rcases hx3 with h | h
    · omega
    · have := hmax2 x h (pre_iff.2 (by rw [hxp]; exact List.prefix_append _ _))
      omega

theorem fst3_app (l r : List UInt8) (hr : stops r) (he : fE l = 0) : fst3 (l.take (fN l) ++ r) = fst3 l := by
  have hL32 : ∀ (c : UInt8) (y : List UInt8), isL c = false → nameN (c :: y) = 0 := fun c y h => by rw [nameN, if_neg (by simp [h])]
  have hstop0 : nameN r = 0 ∧ numN r = 0 := by
    rcases hr with rfl | ⟨r', rfl⟩
    · exact ⟨rfl, rfl⟩
    · exact ⟨by rw [nameN, if_neg (by decide)], by simp [numN, isD_32]⟩
  cases l with
  | nil => exact absurd he (by decide)
  | cons c l =>
    by_cases hn : isL c = true
    · have e1 : nameN (c :: l) = 1 + (l.takeWhile isN).length := by rw [nameN, if_pos hn]
      have hle : ¬ 32 < nameN (c :: l) := fun h => by unfold fE fst3 at he; rw [if_pos h] at he; exact absurd he (by decide)
      have hN : fN (c :: l) = nameN (c :: l) := by unfold fN fst3; rw [if_neg hle, if_pos (by omega)]
      have ht : (c :: l).take (nameN (c :: l)) = c :: l.takeWhile isN := by rw [e1, Nat.add_comm, List.take_succ_cons, tw_take]
      have e2 : nameN ((c :: l).take (fN (c :: l)) ++ r) = nameN (c :: l) := by
        rw [hN, ht, List.cons_append, nameN, if_pos hn, tw_app isN isN_32 l r hr, e1]
      unfold fst3
      rw [e2, if_neg hle, if_pos (by omega), if_neg hle, if_pos (by omega)]
    · have hn : isL c = false := by simpa using hn
      have e0 : nameN (c :: l) = 0 := hL32 c l hn
      by_cases hd : isD c = true
      · have e1 : numN (c :: l) = 1 + (l.takeWhile isD).length := by simp [numN, hd]; omega
        have hN : fN (c :: l) = numN (c :: l) := by unfold fN fst3; rw [e0, if_neg (by omega), if_neg (by omega), if_pos (by omega)]
        have ht : (c :: l).take (numN (c :: l)) = c :: l.takeWhile isD := by rw [e1, Nat.add_comm, List.take_succ_cons, tw_take]
        have e2 : numN ((c :: l).take (fN (c :: l)) ++ r) = numN (c :: l) := by
          rw [hN, ht, List.cons_append, e1]
          simp only [numN, List.takeWhile_cons, hd, if_true, List.length_cons, tw_app isD isD_32 l r hr]; omega
        have e3 : nameN ((c :: l).take (fN (c :: l)) ++ r) = 0 := by rw [hN, ht, List.cons_append]; exact hL32 _ _ hn
        have hp : 0 < numN (c :: l) := by omega
        unfold fst3
        rw [e2, e3, e0]
        simp [hp]
      · have hd : isD c = false := by simpa using hd
        have e1 : numN (c :: l) = 0 := by simp [numN, hd]
        have hsg : 0 < sgN (c :: l) := by
          rcases Nat.eq_zero_or_pos (sgN (c :: l)) with h | h
          · exfalso
            unfold fE fst3 at he
            rw [e0, e1, h] at he
            exact absurd he (by decide)
          · exact h
        have hN : fN (c :: l) = sgN (c :: l) := by unfold fN fst3; rw [e0, e1, if_neg (by omega), if_neg (by omega), if_neg (by omega), if_pos hsg]
        have e2 : sgN ((c :: l).take (fN (c :: l)) ++ r) = sgN (c :: l) := by rw [hN]; exact sgN_app _ _ hr
        obtain ⟨m, hm⟩ : ∃ m, sgN (c :: l) = m + 1 := ⟨sgN (c :: l) - 1, by omega⟩
        have e3 : nameN ((c :: l).take (fN (c :: l)) ++ r) = 0 := by rw [hN, hm, List.take_succ_cons, List.cons_append]; exact hL32 _ _ hn
        have e4 : numN ((c :: l).take (fN (c :: l)) ++ r) = 0 := by rw [hN, hm, List.take_succ_cons, List.cons_append]; simp [numN, hd]
        unfold fst3
        rw [e2, e3, e4, e0, e1]

/-- no blank begins a token -/
theorem bl_tok (l : List UInt8) (he : fE l = 0) : bl false l = 0 := by
  cases l with
  | nil => rfl
  | cons c l =>
    by_cases hn : isL c = true
    · have := isL_iff.1 hn
      exact bl_no (by omega) (by omega) (by omega) (by omega) (by omega)
    · have hn : isL c = false := by simpa using hn
      have e0 : nameN (c :: l) = 0 := by rw [nameN, if_neg (by simp [hn])]
      by_cases hd : isD c = true
      · have := isD_iff.1 hd
        exact bl_no (by omega) (by omega) (by omega) (by omega) (by omega)
      · have hd : isD c = false := by simpa using hd
        have e1 : numN (c :: l) = 0 := by simp [numN, hd]
        obtain ⟨⟨x, hx1, hx2, hx3⟩, _⟩ := sg_of (c :: l)
        have hsg : 0 < sgN (c :: l) := by
          rcases Nat.eq_zero_or_pos (sgN (c :: l)) with h | h
          · exfalso
            unfold fE fst3 at he
            rw [e0, e1, h] at he
            exact absurd he (by decide)
          · exact h
        have hx : x ∈ SG := by
          rcases hx3 with h | h
          · omega
          · exact h
        obtain ⟨c', y, rfl, h1, h2, h3, h4, h5⟩ := SG_head x hx
        obtain ⟨t, ht⟩ := pre_iff.1 hx2
        rw [List.cons_append] at ht
        injection ht with ht _
        subst ht
        exact bl_no h1 h2 h3 h4 h5

/-! ## the text of tokens -/
def jt (T : List Tok) : List UInt8 := Lib.join (T.map (·.t)) [32]
def kt (T : List Tok) : List (Int × List UInt8) := T.map fun t => (t.k, t.t)
theorem jt_cons (t : Tok) (T : List Tok) : jt (t :: T) = t.t ++ Lib.joinTail [32] (T.map (·.t)) := by unfold jt; rw [List.map_cons, Lib.join_cons]
theorem tail_stops (X : List (List UInt8)) : stops (Lib.joinTail [32] X) := by
  cases X with
  | nil => exact .inl rfl
  | cons x X => exact .inr ⟨x ++ Lib.joinTail [32] X, by simp [Lib.joinTail]⟩
theorem tail_cons (t : Tok) (T : List Tok) : Lib.joinTail [32] ((t :: T).map (·.t)) = 32 :: jt (t :: T) := by
  rw [jt_cons]; simp [Lib.joinTail]
theorem again {a : Nat} {l : List UInt8} {T : List Tok} (h : Toks a l T) : bl false (jt T) = 0 ∧ ∀ b, ∃ T', Toks b (jt T) T' ∧ kt T' = kt T := by
  induction h with
  | nil a => exact ⟨rfl, fun b => ⟨[], .nil b, rfl⟩⟩
  | @cons a l T h he ht ih =>
    have hst := tail_stops (T.map (·.t))
    have hf := fst3_app l (Lib.joinTail [32] (T.map (·.t))) hst he
    have hj : jt (⟨fK l, l.take (fN l), a⟩ :: T) = l.take (fN l) ++ Lib.joinTail [32] (T.map (·.t)) := jt_cons _ _
    have hE : fE (l.take (fN l) ++ Lib.joinTail [32] (T.map (·.t))) = 0 := by unfold fE; rw [hf]; exact he
    have hN : fN (l.take (fN l) ++ Lib.joinTail [32] (T.map (·.t))) = fN l := congrArg (fun x => x.2.1) hf
    have hK : fK (l.take (fN l) ++ Lib.joinTail [32] (T.map (·.t))) = fK l := congrArg (fun x => x.1) hf
    have hlen : (l.take (fN l)).length = fN l := by rw [List.length_take]; have := fN_le l; omega
    rw [hj]
    refine ⟨bl_tok _ hE, fun b => ?_⟩
    have hpos := fN_pos he
    have hne : l.take (fN l) ++ Lib.joinTail [32] (T.map (·.t)) ≠ [] := by
      intro e
      have := congrArg List.length e
      rw [List.length_append, hlen, List.length_nil] at this
      omega
    have hdrop : (l.take (fN l) ++ Lib.joinTail [32] (T.map (·.t))).drop (fN l) = Lib.joinTail [32] (T.map (·.t)) := List.drop_left' hlen
    have htake : (l.take (fN l) ++ Lib.joinTail [32] (T.map (·.t))).take (fN l) = l.take (fN l) := List.take_left' hlen
    have hrest : (Lib.joinTail [32] (T.map (·.t))).drop (bl false (Lib.joinTail [32] (T.map (·.t)))) = jt T := by
      cases T with
      | nil => rfl
      | cons t T =>
        rw [tail_cons, bl_yes (by decide), ih.1]; rfl
    obtain ⟨T', h1, h2⟩ := ih.2 (b + (fN l + bl false (Lib.joinTail [32] (T.map (·.t)))))
    refine ⟨⟨fK l, l.take (fN l), b⟩ :: T', ?_, by unfold kt at h2 ⊢; rw [List.map_cons, List.map_cons, h2]⟩
    have hc := @Toks.cons b (l.take (fN l) ++ Lib.joinTail [32] (T.map (·.t))) T' hne hE
    rw [hN, hK, hdrop, htake, ← List.drop_drop, hdrop, hrest] at hc
    exact hc h1
theorem jt_len {a : Nat} {l : List UInt8} {T : List Tok} (h : Toks a l T) : (Lib.joinTail [32] (T.map (·.t))).length ≤ 2 * l.length := by
  induction h with
  | nil a => exact Nat.le_refl _
  | @cons a l T h he ht ih =>
    have hpos := fN_pos he
    have hle := fN_le l
    rw [List.length_drop] at ih
    rw [tail_cons, jt_cons, List.length_cons, List.length_append]
    show (l.take (fN l)).length + _ + 1 ≤ _
    rw [List.length_take]
    omega
theorem jt_le {a : Nat} {l : List UInt8} {T : List Tok} (h : Toks a l T) : (jt T).length ≤ 2 * l.length := by
  have := jt_len h
  cases T with
  | nil => exact Nat.zero_le _
  | cons t T => rw [tail_cons, List.length_cons] at this; omega
/-- the tokens of the text of the tokens of a text -/
theorem ofS_again {s : List UInt8} {T : List Tok} (h : ofS s = .ok T) (hs : s.length ≤ 1000) : ∃ T', ofS (jt T) = .ok T' ∧ kt T' = kt T := by
  obtain ⟨_, ht⟩ := ofS_toks h
  have hl := jt_le ht
  rw [List.length_drop] at hl
  obtain ⟨h0, h1⟩ := again ht
  obtain ⟨T', h2, h3⟩ := h1 0
  refine ⟨T', toks_ofS (by omega) ?_, h3⟩
  rw [h0]; exact h2

/-! ## one behind the other -/
def Bet (s : List UInt8) : Nat → List Tok → Prop
  | e, [] => e ≤ s.length ∧ e + bl false (s.drop e) = s.length
  | e, t :: T => e ≤ s.length ∧ e + bl false (s.drop e) = t.a ∧ 0 < t.t.length ∧ t.a + t.t.length ≤ s.length ∧ (s.drop t.a).take t.t.length = t.t ∧ Bet s (t.a + t.t.length) T
theorem bet_of {s : List UInt8} {a : Nat} {l : List UInt8} {T : List Tok} (h : Toks a l T) : ∀ e, e ≤ s.length → a = e + bl false (s.drop e) → l = s.drop a → Bet s e T := by
  induction h with
  | nil a =>
    intro e he ha hl
    refine ⟨he, ?_⟩
    have h1 := bl_le false (s.drop e)
    rw [List.length_drop] at h1
    have h2 := congrArg List.length hl
    rw [List.length_drop, List.length_nil] at h2
    omega
  | @cons a l T h hE ht ih =>
    intro e he ha hl
    have hpos := fN_pos hE
    have hle := fN_le l
    have hll := congrArg List.length hl
    rw [List.length_drop] at hll
    have hlen : (l.take (fN l)).length = fN l := by rw [List.length_take]; omega
    refine ⟨he, ha.symm, by show 0 < (l.take (fN l)).length; omega, by show a + (l.take (fN l)).length ≤ _; omega, ?_, ?_⟩
    · show (s.drop a).take (l.take (fN l)).length = l.take (fN l)
      rw [hlen, hl]
    · show Bet s (a + (l.take (fN l)).length) T
      rw [hlen]
      have hd : l.drop (fN l) = s.drop (a + fN l) := by rw [hl, List.drop_drop]
      refine ih _ (by omega) (by rw [hd]; omega) ?_
      rw [hl, List.drop_drop]
theorem ofS_bet {s : List UInt8} {T : List Tok} (h : ofS s = .ok T) : Bet s 0 T :=
  bet_of (ofS_toks h).2 0 (Nat.zero_le _) (by simp) rfl

/-! ## the limits -/
theorem nameN_rep (n : Nat) : nameN (List.replicate (n + 1) 120) = n + 1 := by
  have h : ∀ m, (List.replicate m (120 : UInt8)).takeWhile isN = List.replicate m 120 := by
    intro m
    induction m with
    | zero => rfl
    | succ m ih => rw [List.replicate_succ, List.takeWhile_cons, if_pos (by decide), ih]
  rw [List.replicate_succ, nameN, if_pos (by decide), h, List.length_replicate]; omega
theorem fst3_open (R : List UInt8) : fst3 (40 :: 32 :: R) = (3, 1, 0) := by
  have h1 : nameN (40 :: 32 :: R) = 0 := by rw [nameN, if_neg (by decide)]
  have h2 : numN (40 :: 32 :: R) = 0 := by unfold numN; rw [List.takeWhile_cons, if_neg (by decide)]; rfl
  have h3 : sgN (40 :: 32 :: R) = 1 := by
    obtain ⟨⟨x, hx1, hx2, hx3⟩, hmax⟩ := sg_of (40 :: 32 :: R)
    have hge := hmax [40] (by decide) rfl
    simp only [List.length_cons, List.length_nil] at hge
    rcases Nat.lt_or_ge 1 (sgN (40 :: 32 :: R)) with h | h
    · exfalso
      have hx : x ∈ SG := by
        rcases hx3 with h0 | h0
        · omega
        · exact h0
      obtain ⟨t, ht⟩ := pre_iff.1 hx2
      have h32 : (x ++ t)[1]? = some 32 := by rw [ht]; rfl
      rw [List.getElem?_append_left (by omega)] at h32
      exact SG_no32 x hx (List.mem_of_getElem? h32)
    · omega
  unfold fst3
  rw [h1, h2, h3]; rfl
theorem fst3_rep (n : Nat) : fst3 (List.replicate (n + 1) 120) = if 32 < n + 1 then (0, 0, 2) else (1, n + 1, 0) := by
  unfold fst3
  rw [nameN_rep, if_pos (c := 0 < n + 1) (by omega)]
theorem bl_rep (n : Nat) : bl false (List.replicate n 120) = 0 := by
  cases n with
  | zero => rfl
  | succ n => rw [List.replicate_succ]; exact bl_no (by decide) (by decide) (by decide) (by decide) (by decide)
theorem limits1 (n : Nat) (hn : n < 1000) : ofS (40 :: 32 :: List.replicate (n + 1) 120) = if 32 < n + 1 then .err 2 2 else .ok [⟨3, [40], 0⟩, ⟨1, List.replicate (n + 1) 120, 2⟩] := by
  have hf := fst3_open (List.replicate (n + 1) 120)
  have hE : fE (40 :: 32 :: List.replicate (n + 1) 120) = 0 := congrArg (fun x => x.2.2) hf
  have hN : fN (40 :: 32 :: List.replicate (n + 1) 120) = 1 := congrArg (fun x => x.2.1) hf
  have hK : fK (40 :: 32 :: List.replicate (n + 1) 120) = 3 := congrArg (fun x => x.1) hf
  have hb0 : bl false (40 :: 32 :: List.replicate (n + 1) 120) = 0 := bl_no (by decide) (by decide) (by decide) (by decide) (by decide)
  have hb1 : bl false (32 :: List.replicate (n + 1) 120) = 1 := by rw [bl_yes (by decide), bl_rep]
  have hr := fst3_rep n
  have hne : List.replicate (n + 1) (120 : UInt8) ≠ [] := by simp
  have h1 : ofS (40 :: 32 :: List.replicate (n + 1) 120) = run (n + 3) 2 (List.replicate (n + 1) 120) [⟨3, [40], 0⟩] := by
    unfold ofS
    rw [if_neg (by simp; omega), hb0, List.drop_zero, show ((40 : UInt8) :: 32 :: List.replicate (n + 1) 120).length + 1 = (n + 3) + 1 by simp, run_ok (by simp) hE, hN, hK]
    show run (n + 3) (0 + (1 + bl false (32 :: List.replicate (n + 1) 120))) ((32 :: List.replicate (n + 1) 120).drop (bl false (32 :: List.replicate (n + 1) 120))) [⟨3, [40], 0⟩] = _
    rw [hb1]; rfl
  rw [h1]
  by_cases h : 32 < n + 1
  · rw [if_pos h] at hr ⊢
    have hE2 : fE (List.replicate (n + 1) 120) = 2 := congrArg (fun x => x.2.2) hr
    rw [run_err hne (by rw [hE2]; decide), hE2]
  · rw [if_neg h] at hr ⊢
    have hE2 : fE (List.replicate (n + 1) 120) = 0 := congrArg (fun x => x.2.2) hr
    have hN2 : fN (List.replicate (n + 1) 120) = n + 1 := congrArg (fun x => x.2.1) hr
    have hK2 : fK (List.replicate (n + 1) 120) = 1 := congrArg (fun x => x.1) hr
    have hd : (List.replicate (n + 1) (120 : UInt8)).drop (n + 1) = [] := List.drop_eq_nil_of_le (by simp)
    rw [run_ok hne hE2, hN2, hK2, hd, bl_nil, Nat.add_zero, hd, run_nil, List.take_of_length_le (by simp)]
    rfl
theorem bl_spaces (n : Nat) (l : List UInt8) : bl false (List.replicate n 32 ++ l) = n + bl false l := by
  induction n with
  | zero => simp
  | succ n ih => rw [List.replicate_succ, List.cons_append, bl_yes (by decide), ih]; omega
theorem limits2 (n : Nat) : ofS (List.replicate n 32 ++ [121]) = if 65536 ≤ n then .err 0 2 else .ok [⟨1, [121], n⟩] := by
  have hb : bl false (List.replicate n 32 ++ [121]) = n := by rw [bl_spaces]; rfl
  by_cases h : 65536 ≤ n
  · rw [if_pos h]; unfold ofS; rw [if_pos (by simp; omega)]
  · rw [if_neg h]
    refine toks_ofS (by simp; omega) ?_
    rw [hb, List.drop_left' (by simp)]
    exact .cons (by simp) (by decide) (.nil _)
end Go.Proofs.Ytanbcclconhheaa.Tok
