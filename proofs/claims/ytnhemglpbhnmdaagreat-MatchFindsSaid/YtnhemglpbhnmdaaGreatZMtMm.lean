/-
  What is proved: what matching finds makes the term, or the claim; a pattern matches what a substitution makes of it (plain mathematics).
-/
import Derived.Test.YtnhemglpbhnmdaaGreatME
import Derived.Test.YtnhemglpbhnmdaaGreatZMtZb
namespace Go.Proofs.YtnhemglpbhnmdaaGreat.Mt
open Go.RowKit L T C B U
set_option linter.unusedVariables false
set_option linter.unusedSimpArgs false

mutual
/-- without a bound number lifting changes nothing -/
theorem lift_nb (a b k : Int) : ∀ t : Tm, bdT t = false → wk (fLift a b) k t = t
  | .mk o s z l, h => by
    rw [bdT, Bool.or_eq_false_iff] at h
    have ho : ¬ (o = 2 ∧ k ≤ z) := fun e => by rw [e.1] at h; simp at h
    have e : fLift a b k o s z = .go z := by unfold fLift; rw [if_neg ho]
    rw [wk, e]
    show Tm.mk o s z (wks (fLift a b) k l) = _
    rw [lifts_nb a b k l h.2]
theorem lifts_nb (a b k : Int) : ∀ l : List Tm, bdTs l = false → wks (fLift a b) k l = l
  | [], _ => by rw [wks]
  | t :: l, h => by
    rw [bdTs, Bool.or_eq_false_iff] at h
    rw [wks, lift_nb a b k t h.1, lifts_nb a b k l h.2]
end
theorem may_bd {t : Tm} (h : mayT t = true) : bdT t = false := by
  unfold mayT at h
  rw [Bool.and_eq_true] at h
  simpa using h.2
theorem getU_at : ∀ {l : List Pr} {s : ByteArray} {u : Tm}, getU l s = some u → ∃ q ∈ l, q.nm = s ∧ q.t = u
  | [], s, u, h => by simp [getU] at h
  | p :: l, s, u, h => by
    rw [getU] at h
    by_cases e : (p.nm.toList == s.toList) = true
    · rw [if_pos e] at h; injection h with h; exact ⟨p, by simp, nm_eq.1 e, h⟩
    · rw [if_neg e] at h; obtain ⟨q, hq, e2⟩ := getU_at h; exact ⟨q, by simp [hq], e2⟩
theorem getU_has : ∀ {l : List Pr} {q : Pr}, q ∈ l → ∃ u, getU l q.nm = some u
  | [], q, h => by cases h
  | p :: l, q, h => by
    rw [getU]
    by_cases e : (p.nm.toList == q.nm.toList) = true
    · rw [if_pos e]; exact ⟨_, rfl⟩
    · rw [if_neg e]
      rcases List.mem_cons.1 h with rfl | h
      · exact absurd (nm_eq.2 rfl) e
      · exact getU_has h
def ExtU (l m : List Pr) : Prop := ∀ s u, getU l s = some u → getU m s = some u
theorem ExtU.trans {l m k : List Pr} (h : ExtU l m) (g : ExtU m k) : ExtU l k := fun s u e => g s u (h s u e)
theorem ExtU.refl (l : List Pr) : ExtU l l := fun s u e => e
theorem ext_put {l : List Pr} {x : Pr} (h : getU l x.nm = none) : ExtU l (putL l x) := fun s u e => by
  rw [putL_get s h]
  by_cases q : (x.nm.toList == s.toList) = true
  · rw [← nm_eq.1 q, h] at e; cases e
  · rw [if_neg q]; exact e
mutual
theorem mat_ext (X : List ByteArray) : ∀ (p : Tm) (l : List Pr) (t : Tm) (l' : List Pr), mat X p l t = some l' → ExtU l l'
  | .mk o s z xs, l, t, l', h => by
    rw [mat] at h
    split at h
    · split at h
      · split at h
        · injection h with h; subst h; exact ExtU.refl _
        · cases h
      · rename_i hn
        split at h
        · injection h with h; subst h; exact ext_put (x := ⟨s, t⟩) hn
        · cases h
    · split at h
      · exact mats_ext X xs l (argsT t) l' h
      · cases h
theorem mats_ext (X : List ByteArray) : ∀ (xs : List Tm) (l : List Pr) (us : List Tm) (l' : List Pr), mats X xs l us = some l' → ExtU l l'
  | [], l, us, l', h => by rw [mats] at h; injection h with h; subst h; exact ExtU.refl _
  | x :: xs, l, [], l', h => by rw [mats] at h; cases h
  | x :: xs, l, u :: us, l', h => by
    rw [mats] at h
    split at h
    · cases h
    · rename_i l1 h1
      exact (mat_ext X x l u l1 h1).trans (mats_ext X xs l1 us l' h)
end
def InX (X : List ByteArray) (l : List Pr) (q : Pr) : Prop := q ∈ l ∨ (hasS X q.nm = true ∧ mayT q.t = true)
mutual
theorem mat_in (X : List ByteArray) : ∀ (p : Tm) (l : List Pr) (t : Tm) (l' : List Pr), mat X p l t = some l' → ∀ q ∈ l', InX X l q
  | .mk o s z xs, l, t, l', h => by
    rw [mat] at h
    split at h
    · rename_i hv
      split at h
      · split at h
        · injection h with h; subst h; exact fun q hq => .inl hq
        · cases h
      · rename_i hn
        split at h
        · rename_i hm
          injection h with h; subst h
          intro q hq
          rcases putL_mem.1 hq with rfl | hq
          · exact .inr ⟨hv.2, hm⟩
          · exact .inl hq
        · cases h
    · split at h
      · exact mats_in X xs l (argsT t) l' h
      · cases h
theorem mats_in (X : List ByteArray) : ∀ (xs : List Tm) (l : List Pr) (us : List Tm) (l' : List Pr), mats X xs l us = some l' → ∀ q ∈ l', InX X l q
  | [], l, us, l', h => by rw [mats] at h; injection h with h; subst h; exact fun q hq => .inl hq
  | x :: xs, l, [], l', h => by rw [mats] at h; cases h
  | x :: xs, l, u :: us, l', h => by
    rw [mats] at h
    split at h
    · cases h
    · rename_i l1 h1
      intro q hq
      rcases mats_in X xs l1 us l' h q hq with hq | hq
      · exact mat_in X x l u l1 h1 q hq
      · exact .inr hq
end
mutual
theorem matC_ext (X : List ByteArray) : ∀ (p : Cl) (l : List Pr) (c : Cl) (l' : List Pr), matC X p l c = some l' → ExtU l l'
  | .mk o s z ts cs, l, c, l', h => by
    rw [matC] at h
    split at h
    · split at h
      · cases h
      · rename_i l1 h1
        exact (mats_ext X ts l (tsC c) l1 h1).trans (matCs_ext X cs l1 (subC c) l' h)
    · cases h
theorem matCs_ext (X : List ByteArray) : ∀ (xs : List Cl) (l : List Pr) (us : List Cl) (l' : List Pr), matCs X xs l us = some l' → ExtU l l'
  | [], l, us, l', h => by rw [matCs] at h; injection h with h; subst h; exact ExtU.refl _
  | x :: xs, l, [], l', h => by rw [matCs] at h; cases h
  | x :: xs, l, u :: us, l', h => by
    rw [matCs] at h
    split at h
    · cases h
    · rename_i l1 h1
      exact (matC_ext X x l u l1 h1).trans (matCs_ext X xs l1 us l' h)
end
mutual
theorem matC_in (X : List ByteArray) : ∀ (p : Cl) (l : List Pr) (c : Cl) (l' : List Pr), matC X p l c = some l' → ∀ q ∈ l', InX X l q
  | .mk o s z ts cs, l, c, l', h => by
    rw [matC] at h
    split at h
    · split at h
      · cases h
      · rename_i l1 h1
        intro q hq
        rcases matCs_in X cs l1 (subC c) l' h q hq with hq | hq
        · exact mats_in X ts l (tsC c) l1 h1 q hq
        · exact .inr hq
    · cases h
theorem matCs_in (X : List ByteArray) : ∀ (xs : List Cl) (l : List Pr) (us : List Cl) (l' : List Pr), matCs X xs l us = some l' → ∀ q ∈ l', InX X l q
  | [], l, us, l', h => by rw [matCs] at h; injection h with h; subst h; exact fun q hq => .inl hq
  | x :: xs, l, [], l', h => by rw [matCs] at h; cases h
  | x :: xs, l, u :: us, l', h => by
    rw [matCs] at h
    split at h
    · cases h
    · rename_i l1 h1
      intro q hq
      rcases matCs_in X xs l1 us l' h q hq with hq | hq
      · exact matC_in X x l u l1 h1 q hq
      · exact .inr hq
end
/-- of these names, and of terms that may stand for variables -/
def OkU (X : List ByteArray) (m : List Pr) : Prop := ∀ q ∈ m, hasS X q.nm = true ∧ mayT q.t = true
theorem OkU.get {X : List ByteArray} {m : List Pr} (h : OkU X m) {s : ByteArray} {u : Tm} (e : getU m s = some u) (K : Int) : getK m K s = some u := by
  obtain ⟨q, hq, rfl, rfl⟩ := getU_at e
  unfold getK
  rw [e]
  show some (wk (fLift K 0) 0 q.t) = _
  rw [lift_nb K 0 0 q.t (may_bd (h q hq).2)]
theorem OkU.none {X : List ByteArray} {m : List Pr} (h : OkU X m) {s : ByteArray} (e : hasS X s = false) (K : Int) : getK m K s = none := by
  unfold getK
  cases hg : getU m s with
  | none => rfl
  | some u =>
    obtain ⟨q, hq, rfl, rfl⟩ := getU_at hg
    rw [(h q hq).1] at e
    cases e
theorem not_var {X : List ByteArray} {o : Int} {s : ByteArray} (h : ¬ (o = 1 ∧ hasS X s = true)) : o ≠ 1 ∨ hasS X s = false := by
  by_cases e : o = 1
  · exact .inr (by simpa using fun h2 => h ⟨e, h2⟩)
  · exact .inl e
mutual
theorem mat_makes (X : List ByteArray) : ∀ (p : Tm) (l : List Pr) (t : Tm) (l' : List Pr), mat X p l t = some l' → ∀ m, ExtU l' m → OkU X m → ∀ K, sbT (getK m K) p = t
  | .mk o s z xs, l, t, l', h, m, hE, hO, K => by
    rw [mat] at h
    split at h
    · rename_i hv
      split at h
      · rename_i u hu
        split at h
        · rename_i he
          injection h with h; subst h
          rw [sbT_put (t := .mk o s z xs) hv.1 (hO.get (hE s u hu) K)]
          exact eqT_iff.1 he
        · cases h
      · rename_i hn
        split at h
        · injection h with h; subst h
          refine sbT_put (t := .mk o s z xs) hv.1 (hO.get (hE s t ?_) K)
          rw [putL_get (x := ⟨s, t⟩) s hn, if_pos (nm_eq.2 rfl)]
        · cases h
    · rename_i hv
      split at h
      · rename_i hh
        rw [sbT_go (t := .mk o s z xs) ((not_var hv).imp id (fun e => hO.none e K))]
        show Tm.mk o s z (xs.map (sbT (getK m K))) = t
        rw [← sbTs_map, mats_makes X xs l (argsT t) l' h hh.2.2.2 m hE hO K, hh.1, hh.2.1, hh.2.2.1]
        cases t; rfl
      · cases h
theorem mats_makes (X : List ByteArray) : ∀ (xs : List Tm) (l : List Pr) (us : List Tm) (l' : List Pr), mats X xs l us = some l' → xs.length = us.length → ∀ m, ExtU l' m → OkU X m → ∀ K, sbTs (getK m K) xs = us
  | [], l, us, l', h, hl, m, hE, hO, K => by rw [sbTs]; exact (List.eq_nil_of_length_eq_zero hl.symm).symm
  | x :: xs, l, [], l', h, hl, m, hE, hO, K => by cases hl
  | x :: xs, l, u :: us, l', h, hl, m, hE, hO, K => by
    rw [mats] at h
    split at h
    · cases h
    · rename_i l1 h1
      rw [sbTs, mat_makes X x l u l1 h1 m ((mats_ext X xs l1 us l' h).trans hE) hO K, mats_makes X xs l1 us l' h (by simpa using hl) m hE hO K]
end
mutual
theorem matC_makes (X : List ByteArray) : ∀ (p : Cl) (l : List Pr) (c : Cl) (l' : List Pr), matC X p l c = some l' → ∀ m, ExtU l' m → OkU X m → ∀ K, eqC (sbCl m K p) c = true
  | .mk o s z ts cs, l, c, l', h, m, hE, hO, K => by
    rw [matC] at h
    split at h
    · rename_i hh
      split at h
      · cases h
      · rename_i l1 h1
        obtain ⟨e1, e2, e3, e4, e5⟩ := hh
        have a1 := mats_makes X ts l (tsC c) l1 h1 e4 m ((matCs_ext X cs l1 (subC c) l' h).trans hE) hO K
        have a2 := matCs_makes X cs l1 (subC c) l' h e5 m hE hO (if o = 11 ∨ o = 12 then K + 1 else K)
        rw [sbCl, eqC_mk]
        show ((o == opC c) && ((z.toList == (soC c).toList) && (((o == 11) || (o == 12) || (s.toList == (nmC c).toList)) && (eqTs (ts.map (sbT (getK m K))) (tsC c) && eqCs (sbCls m (if o = 11 ∨ o = 12 then K + 1 else K) cs) (subC c))))) = true
        rw [← sbTs_map, a1, a2, eqTs_refl, e1, e3]
        have e6 : (opC c == 11 || opC c == 12 || s.toList == (nmC c).toList) = true := by
          rcases e2 with e | e | e
          · rw [← e1, e]; rfl
          · rw [← e1, e]; rfl
          · rw [e]; simp
        rw [e6]
        simp
    · cases h
theorem matCs_makes (X : List ByteArray) : ∀ (xs : List Cl) (l : List Pr) (us : List Cl) (l' : List Pr), matCs X xs l us = some l' → xs.length = us.length → ∀ m, ExtU l' m → OkU X m → ∀ K, eqCs (sbCls m K xs) us = true
  | [], l, us, l', h, hl, m, hE, hO, K => by rw [sbCls, List.eq_nil_of_length_eq_zero hl.symm]; rfl
  | x :: xs, l, [], l', h, hl, m, hE, hO, K => by cases hl
  | x :: xs, l, u :: us, l', h, hl, m, hE, hO, K => by
    rw [matCs] at h
    split at h
    · cases h
    · rename_i l1 h1
      rw [sbCls, eqCs, matC_makes X x l u l1 h1 m ((matCs_ext X xs l1 us l' h).trans hE) hO K, matCs_makes X xs l1 us l' h (by simpa using hl) m hE hO K]
      rfl
end
/-! what is found is of the names, and right -/
theorem none_ok {X : List ByteArray} {l' : List Pr} (h : ∀ q ∈ l', InX X [] q) : OkU X l' := fun q hq => (h q hq).resolve_left (fun e => by cases e)
theorem rg_of : ∀ (l : List Pr) (prev : Option ByteArray), (∀ q ∈ l, rightE q.t = 0) → rises l → (∀ s q, prev = some s → l.head? = some q → cmpN s q.nm < 0) → rgU prev l = 0
  | [], prev, _, _, _ => by cases prev <;> rw [rgU]
  | p :: l, prev, hr, hs, hp => by
    have h1 : badN prev p.nm = false := by
      unfold badN
      cases prev with
      | none => rfl
      | some s =>
        have a := hp s p rfl rfl
        have b := linN.anti s p.nm
        have c := linN.rng s p.nm
        show decide (cmpN p.nm s ≠ 1) = false
        exact decide_eq_false (fun e => e (by omega))
    rw [rgU, if_neg (fun e => e (hr p (by simp))), h1, if_neg (by simp)]
    refine rg_of l (some p.nm) (fun q hq => hr q (by simp [hq])) ?_ ?_
    · cases l with
      | nil => trivial
      | cons q l => exact hs.2
    · intro s q e1 e2
      cases l with
      | nil => cases e2
      | cons q' l => injection e1 with e1; injection e2 with e2; subst e1 e2; exact hs.1
theorem rg_found {X : List ByteArray} {l : List Pr} (h : OkU X l) (hs : rises l) : rgU none l = 0 :=
  rg_of l none (fun q hq => may_right (h q hq).2) hs (fun s q e => by cases e)
/-! matched once more, with more there -/
mutual
theorem mat_again (X : List ByteArray) : ∀ (p : Tm) (l : List Pr) (t : Tm) (l' : List Pr), mat X p l t = some l' → ∀ m, ExtU l' m → mat X p m t = some m
  | .mk o s z xs, l, t, l', h, m, hE => by
    rw [mat] at h ⊢
    split at h
    · rename_i hv
      rw [if_pos hv]
      split at h
      · rename_i u hu
        split at h
        · rename_i he
          injection h with h; subst h
          rw [hE s u hu]
          show (if eqT u t then some m else none) = _
          rw [if_pos he]
        · cases h
      · rename_i hn
        split at h
        · injection h with h; subst h
          rw [hE s t (by rw [putL_get (x := ⟨s, t⟩) s hn, if_pos (nm_eq.2 rfl)])]
          show (if eqT t t then some m else none) = _
          rw [if_pos (eqT_refl t)]
        · cases h
    · rename_i hv
      rw [if_neg hv]
      split at h
      · rename_i hh
        rw [if_pos hh]
        exact mats_again X xs l (argsT t) l' h m hE
      · cases h
theorem mats_again (X : List ByteArray) : ∀ (xs : List Tm) (l : List Pr) (us : List Tm) (l' : List Pr), mats X xs l us = some l' → ∀ m, ExtU l' m → mats X xs m us = some m
  | [], l, us, l', h, m, hE => by rw [mats]
  | x :: xs, l, [], l', h, m, hE => by rw [mats] at h; cases h
  | x :: xs, l, u :: us, l', h, m, hE => by
    rw [mats] at h ⊢
    split at h
    · cases h
    · rename_i l1 h1
      rw [mat_again X x l u l1 h1 m ((mats_ext X xs l1 us l' h).trans hE)]
      exact mats_again X xs l1 us l' h m hE
end
/-! a pattern matches what a substitution makes of it -/
def SubU (l m : List Pr) : Prop := ∀ q ∈ l, getU m q.nm = some q.t
/-- these are the names -/
def NmX (X : List ByteArray) (m : List Pr) : Prop := ∀ s, hasS X s = true → ∃ u, getU m s = some u
mutual
theorem mat_finds (X : List ByteArray) (m : List Pr) (hO : OkU X m) (hX : NmX X m) (K : Int) : ∀ (p : Tm) (l : List Pr), SubU l m → ∃ l1, mat X p l (sbT (getK m K) p) = some l1 ∧ SubU l1 m
  | .mk o s z xs, l, hl => by
    by_cases hv : o = 1 ∧ hasS X s = true
    · obtain ⟨u, hu⟩ := hX s hv.2
      rw [sbT_put (t := .mk o s z xs) hv.1 (hO.get hu K), mat, if_pos hv]
      obtain ⟨q, hq, e1, e2⟩ := getU_at hu
      cases hg : getU l s with
      | some u2 =>
        obtain ⟨q2, hq2, e3, e4⟩ := getU_at hg
        have e5 := hl q2 hq2
        rw [e3, hu, e4] at e5
        injection e5 with e5
        subst e5
        show ∃ l1, (if eqT u u then some l else none) = _ ∧ _
        rw [if_pos (eqT_refl u)]
        exact ⟨l, rfl, hl⟩
      | none =>
        show ∃ l1, (if mayT u = true then some (putL l ⟨s, u⟩) else none) = _ ∧ _
        rw [if_pos (by rw [← e2]; exact (hO q hq).2)]
        refine ⟨_, rfl, fun q hq => ?_⟩
        rcases putL_mem.1 hq with rfl | hq
        · exact hu
        · exact hl q hq
    · rw [sbT_go (t := .mk o s z xs) ((not_var hv).imp id (fun e => hO.none e K)), mat, if_neg hv]
      show ∃ l1, (if o = o ∧ s = s ∧ z = z ∧ xs.length = (xs.map (sbT (getK m K))).length then mats X xs l (xs.map (sbT (getK m K))) else none) = _ ∧ _
      rw [if_pos ⟨rfl, rfl, rfl, by simp⟩, ← sbTs_map]
      exact mats_finds X m hO hX K xs l hl
theorem mats_finds (X : List ByteArray) (m : List Pr) (hO : OkU X m) (hX : NmX X m) (K : Int) : ∀ (xs : List Tm) (l : List Pr), SubU l m → ∃ l1, mats X xs l (sbTs (getK m K) xs) = some l1 ∧ SubU l1 m
  | [], l, hl => ⟨l, by rw [mats], hl⟩
  | x :: xs, l, hl => by
    obtain ⟨l1, h1, hl1⟩ := mat_finds X m hO hX K x l hl
    rw [sbTs, mats, h1]
    exact mats_finds X m hO hX K xs l1 hl1
end
mutual
theorem matC_finds (X : List ByteArray) (m : List Pr) (hO : OkU X m) (hX : NmX X m) : ∀ (p : Cl) (K : Int) (l : List Pr), SubU l m → ∃ l1, matC X p l (sbCl m K p) = some l1 ∧ SubU l1 m
  | .mk o s z ts cs, K, l, hl => by
    obtain ⟨l1, h1, hl1⟩ := mats_finds X m hO hX K ts l hl
    have hlen : ∀ (K : Int) (cs : List Cl), (sbCls m K cs).length = cs.length := fun K cs => by rw [sbCls_map]; simp
    rw [sbCl, matC]
    show ∃ l1, (if o = o ∧ (o = 11 ∨ o = 12 ∨ s = s) ∧ z = z ∧ ts.length = (ts.map (sbT (getK m K))).length ∧ cs.length = (sbCls m (if o = 11 ∨ o = 12 then K + 1 else K) cs).length then
      match mats X ts l (ts.map (sbT (getK m K))) with | none => none | some l1 => matCs X cs l1 (sbCls m (if o = 11 ∨ o = 12 then K + 1 else K) cs) else none) = _ ∧ _
    rw [if_pos ⟨rfl, .inr (.inr rfl), rfl, by simp, (hlen _ _).symm⟩, ← sbTs_map, h1]
    exact matCs_finds X m hO hX cs _ l1 hl1
theorem matCs_finds (X : List ByteArray) (m : List Pr) (hO : OkU X m) (hX : NmX X m) : ∀ (xs : List Cl) (K : Int) (l : List Pr), SubU l m → ∃ l1, matCs X xs l (sbCls m K xs) = some l1 ∧ SubU l1 m
  | [], K, l, hl => ⟨l, by rw [matCs], hl⟩
  | x :: xs, K, l, hl => by
    obtain ⟨l1, h1, hl1⟩ := matC_finds X m hO hX x K l hl
    rw [sbCls, matCs, h1]
    exact matCs_finds X m hO hX xs K l1 hl1
end
/-- the names of rising pairs -/
theorem names_ok {m : List Pr} (h : ∀ q ∈ m, mayT q.t = true) : OkU (m.map Pr.nm) m ∧ NmX (m.map Pr.nm) m :=
  ⟨fun q hq => ⟨hasS_iff.2 (List.mem_map.2 ⟨q, hq, rfl⟩), h q hq⟩, fun s hs => by
    obtain ⟨q, hq, rfl⟩ := List.mem_map.1 (hasS_iff.1 hs)
    exact getU_has hq⟩
end Go.Proofs.YtnhemglpbhnmdaaGreat.Mt
