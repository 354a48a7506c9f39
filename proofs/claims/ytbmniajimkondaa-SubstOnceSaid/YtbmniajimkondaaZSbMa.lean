/-
  What is proved: two substitutions, one behind the other, come to what both together do at once (plain mathematics; for SubstOnce).
-/
import Derived.Test.YtbmniajimkondaaZSbAe
namespace Go.Proofs.Ytbmniajimkondaa.U
open Go.RowKit L T C B
set_option linter.unusedVariables false
set_option linter.unusedSimpArgs false

/-- what a and then b put in place of a name -/
def mixG (a b : List Pr) (s : ByteArray) : Option Tm := match getU a s with | some u => some (sbT (getL b 0) u) | none => getU b s
theorem getL_some {l : List Pr} {K : Int} {s : ByteArray} {u : Tm} (h : getU l s = some u) : getL l K s = some (lfT K u) := by unfold getL; rw [h]; rfl
theorem getL_none {l : List Pr} {K : Int} {s : ByteArray} (h : getU l s = none) : getL l K s = none := by unfold getL; rw [h]; rfl
theorem lf_op {K : Int} {o : Int} {s : ByteArray} {z : Int} {l : List Tm} (h : o ≠ 2) : lfT K (.mk o s z l) = .mk o s z (lfTs K l) := by rw [lfT, if_neg h]
mutual
theorem lf_sb (b : List Pr) (hb : ∀ p ∈ b, lfT 0 p.t = p.t) (K : Int) : ∀ u : Tm, lfT K (sbT (getL b 0) u) = sbT (getL b K) (lfT K u)
  | .mk o s z l => by
    have ih := lfs_sb b hb K l
    by_cases ho : o = 1
    · subst ho
      cases hg : getU b s with
      | some v =>
        obtain ⟨p, hp, rfl⟩ := getU_mem hg
        rw [sbT_put (t := .mk 1 s z l) rfl (show getL b 0 s = some _ from getL_some hg), hb p hp, lf_op (by decide), sbT_put (t := .mk 1 s z (lfTs K l)) rfl (show getL b K s = some _ from getL_some hg)]
      | none =>
        rw [sbL_mk _ (.mk 1 s z l) (.inr (getL_none hg)), lf_op (show (1 : Int) ≠ 2 by decide), sbL_mk _ (.mk 1 s z (lfTs K l)) (.inr (getL_none hg))]
        show lfT K (.mk 1 s z (sbTs (getL b 0) l)) = .mk 1 s z (sbTs (getL b K) (lfTs K l))
        rw [lf_op (by decide), ih]
    · rw [sbL_mk _ (.mk o s z l) (.inl ho)]
      show lfT K (.mk o s z (sbTs (getL b 0) l)) = sbT (getL b K) (lfT K (.mk o s z l))
      rw [lfT, lfT, sbL_mk (getL b K) (.mk o s (if o = 2 then IntKind.i64.wrap (z + K) else z) (lfTs K l)) (.inl ho), ih]
      rfl
theorem lfs_sb (b : List Pr) (hb : ∀ p ∈ b, lfT 0 p.t = p.t) (K : Int) : ∀ l : List Tm, lfTs K (sbTs (getL b 0) l) = sbTs (getL b K) (lfTs K l)
  | [] => by rw [sbTs, lfTs, sbTs]
  | u :: l => by rw [sbTs, lfTs, lfTs, sbTs, lf_sb b hb K u, lfs_sb b hb K l]
end
mutual
theorem once_t (a b c : List Pr) (hb : ∀ p ∈ b, lfT 0 p.t = p.t) (hc : ∀ s, getU c s = mixG a b s) (K : Int) : ∀ t : Tm, sbT (getL b K) (sbT (getL a K) t) = sbT (getL c K) t
  | .mk o s z l => by
    have ih := once_ts a b c hb hc K l
    have hs := hc s
    unfold mixG at hs
    by_cases ho : o = 1
    · subst ho
      cases hg : getU a s with
      | some u =>
        rw [hg] at hs
        rw [sbT_put (t := .mk 1 s z l) rfl (show getL a K s = some _ from getL_some hg), sbT_put (f := getL c K) (t := .mk 1 s z l) rfl (show getL c K s = some _ from getL_some hs), lf_sb b hb K u]
      | none =>
        rw [hg] at hs
        rw [sbL_mk _ (.mk 1 s z l) (.inr (getL_none hg))]
        show sbT (getL b K) (.mk 1 s z (sbTs (getL a K) l)) = _
        cases hg2 : getU b s with
        | some v =>
          rw [hg2] at hs
          rw [sbT_put (t := .mk 1 s z (sbTs (getL a K) l)) rfl (show getL b K s = some _ from getL_some hg2), sbT_put (t := .mk 1 s z l) rfl (show getL c K s = some _ from getL_some hs)]
        | none =>
          rw [hg2] at hs
          rw [sbL_mk _ (.mk 1 s z (sbTs (getL a K) l)) (.inr (getL_none hg2)), sbL_mk (getL c K) (.mk 1 s z l) (.inr (getL_none hs))]
          show Tm.mk 1 s z (sbTs (getL b K) (sbTs (getL a K) l)) = .mk 1 s z (sbTs (getL c K) l)
          rw [ih]
    · rw [sbL_mk _ (.mk o s z l) (.inl ho), sbL_mk (getL c K) (.mk o s z l) (.inl ho)]
      show sbT (getL b K) (.mk o s z (sbTs (getL a K) l)) = .mk o s z (sbTs (getL c K) l)
      rw [sbL_mk _ (.mk o s z (sbTs (getL a K) l)) (.inl ho)]
      show Tm.mk o s z (sbTs (getL b K) (sbTs (getL a K) l)) = .mk o s z (sbTs (getL c K) l)
      rw [ih]
theorem once_ts (a b c : List Pr) (hb : ∀ p ∈ b, lfT 0 p.t = p.t) (hc : ∀ s, getU c s = mixG a b s) (K : Int) : ∀ l : List Tm, sbTs (getL b K) (sbTs (getL a K) l) = sbTs (getL c K) l
  | [] => by rw [sbTs, sbTs, sbTs]
  | t :: l => by rw [sbTs, sbTs, sbTs, once_t a b c hb hc K t, once_ts a b c hb hc K l]
end
mutual
theorem once_c (a b c : List Pr) (hb : ∀ p ∈ b, lfT 0 p.t = p.t) (hc : ∀ s, getU c s = mixG a b s) : ∀ (t : Cl) (K : Int), sbRl b K (sbRl a K t) = sbRl c K t
  | .mk o s z ts cs, K => by
    rw [sbRl, sbRl, sbRl, once_cs a b c hb hc cs]
    rw [← sbTs_map, ← sbTs_map, ← sbTs_map, once_ts a b c hb hc K ts]
theorem once_cs (a b c : List Pr) (hb : ∀ p ∈ b, lfT 0 p.t = p.t) (hc : ∀ s, getU c s = mixG a b s) : ∀ (cs : List Cl) (K : Int), sbRls b K (sbRls a K cs) = sbRls c K cs
  | [], K => by rw [sbRls, sbRls, sbRls]
  | t :: cs, K => by rw [sbRls, sbRls, sbRls, once_c a b c hb hc t, once_cs a b c hb hc cs]
end
/-! what a stable sort, a compaction and an append leave of the first terms -/
theorem getU_app (l m : List Pr) (s : ByteArray) : getU (l ++ m) s = match getU l s with | some u => some u | none => getU m s := by
  induction l with
  | nil => rw [getU]; rfl
  | cons p l ih =>
    rw [List.cons_append, getU, getU]
    by_cases h : (p.nm.toList == s.toList) = true
    · rw [if_pos h, if_pos h]
    · rw [if_neg h, if_neg h, ih]
theorem getU_swap (l m : List Pr) (p q : Pr) (h : (p.nm.toList == q.nm.toList) = false) (s : ByteArray) : getU (l ++ q :: p :: m) s = getU (l ++ p :: q :: m) s := by
  have e : getU (q :: p :: m) s = getU (p :: q :: m) s := by
    rw [getU, getU, getU, getU]
    by_cases h1 : (p.nm.toList == s.toList) = true
    · by_cases h2 : (q.nm.toList == s.toList) = true
      · rw [beq_iff_eq] at h1 h2
        rw [h1, ← h2, beq_self_eq_true] at h
        cases h
      · rw [if_pos h1, if_neg h2, if_pos h1]
    · by_cases h2 : (q.nm.toList == s.toList) = true
      · rw [if_neg h1, if_pos h2, if_neg h1]
      · rw [if_neg h1, if_neg h2, if_neg h1]
  rw [getU_app, getU_app, e]
theorem getU_drop (l m : List Pr) (p q : Pr) (h : (p.nm.toList == q.nm.toList) = true) (s : ByteArray) : getU (l ++ p :: m) s = getU (l ++ p :: q :: m) s := by
  have e : getU (p :: m) s = getU (p :: q :: m) s := by
    rw [getU, getU, getU]
    by_cases h1 : (p.nm.toList == s.toList) = true
    · rw [if_pos h1, if_pos h1]
    · have h2 : ¬ (q.nm.toList == s.toList) = true := by
        rw [beq_iff_eq] at h
        rw [← h]; exact h1
      rw [if_neg h1, if_neg h1, if_neg h2]
  rw [getU_app, getU_app, e]
theorem getU_map (f : Tm → Tm) (s : ByteArray) : ∀ l : List Pr, getU (l.map (fun p => (⟨p.nm, f p.t⟩ : Pr))) s = (getU l s).map f
  | [] => by rw [List.map_nil, getU]; rfl
  | p :: l => by
    rw [List.map_cons, getU, getU, getU_map f s l]
    by_cases h : (p.nm.toList == s.toList) = true
    · rw [if_pos h, if_pos h]; rfl
    · rw [if_neg h, if_neg h]
theorem mix_app {a a' b b' : List Pr} (ha : ∀ s, getU a' s = getU a s) (hb : ∀ s, getU b' s = getU b s) (s : ByteArray) : getU (a'.map (fun p => (⟨p.nm, sbT (getL b 0) p.t⟩ : Pr)) ++ b') s = mixG a b s := by
  rw [getU_app, getU_map, ha, hb]
  unfold mixG
  cases getU a s with
  | none => rfl
  | some u => rfl
/-! bound numbers stay low where right terms are put into right terms; sizes -/
mutual
theorem okN_sb {b : List Pr} (hb : ∀ p ∈ b, okN p.t) (hz : ∀ p ∈ b, lfT 0 p.t = p.t) : ∀ u : Tm, okN u → okN (sbT (getL b 0) u)
  | .mk o s z l, h => by
    have h' := h
    rw [okN] at h
    by_cases ho : o = 1
    · subst ho
      cases hg : getU b s with
      | some v =>
        obtain ⟨p, hp, rfl⟩ := getU_mem hg
        rw [sbT_put (t := .mk 1 s z l) rfl (show getL b 0 s = some _ from getL_some hg), hz p hp]
        exact hb p hp
      | none =>
        rw [sbL_mk _ (.mk 1 s z l) (.inr (getL_none hg))]
        show okN (.mk 1 s z (sbTs (getL b 0) l))
        rw [okN]
        exact ⟨h.1, okNs_sb hb hz l h.2⟩
    · rw [sbL_mk _ (.mk o s z l) (.inl ho)]
      show okN (.mk o s z (sbTs (getL b 0) l))
      rw [okN]
      exact ⟨h.1, okNs_sb hb hz l h.2⟩
theorem okNs_sb {b : List Pr} (hb : ∀ p ∈ b, okN p.t) (hz : ∀ p ∈ b, lfT 0 p.t = p.t) : ∀ l : List Tm, okNs l → okNs (sbTs (getL b 0) l)
  | [], _ => by rw [sbTs, okNs]; trivial
  | u :: l, h => by
    rw [okNs] at h
    rw [sbTs, okNs]
    exact ⟨okN_sb hb hz u h.1, okNs_sb hb hz l h.2⟩
end
mutual
theorem size_lf (K : Int) : ∀ u : Tm, size (lfT K u) = size u
  | .mk o s z l => by rw [lfT, size, size, sizes_lf K l]
theorem sizes_lf (K : Int) : ∀ l : List Tm, sizes (lfTs K l) = sizes l
  | [] => by rw [lfTs]
  | u :: l => by rw [lfTs, sizes, sizes, size_lf K u, sizes_lf K l]
end
mutual
theorem size_sb {b : List Pr} {M : Nat} (hM : 1 ≤ M) (hb : ∀ p ∈ b, size p.t ≤ M) (K : Int) : ∀ u : Tm, size (sbT (getL b K) u) ≤ size u * M
  | .mk o s z l => by
    have ih := sizes_sb hM hb K l
    have e : size (.mk o s z l) = 1 + sizes l := by rw [size]
    have hmul : (1 + sizes l) * M = M + sizes l * M := by rw [Nat.add_mul, Nat.one_mul]
    by_cases ho : o = 1
    · subst ho
      cases hg : getU b s with
      | some v =>
        obtain ⟨p, hp, rfl⟩ := getU_mem hg
        rw [sbT_put (t := .mk 1 s z l) rfl (show getL b K s = some _ from getL_some hg), size_lf, e, hmul]
        exact Nat.le_trans (hb p hp) (Nat.le_add_right _ _)
      | none =>
        rw [sbL_mk _ (.mk 1 s z l) (.inr (getL_none hg))]
        show size (.mk 1 s z (sbTs (getL b K) l)) ≤ _
        rw [size, e, hmul]; omega
    · rw [sbL_mk _ (.mk o s z l) (.inl ho)]
      show size (.mk o s z (sbTs (getL b K) l)) ≤ _
      rw [size, e, hmul]; omega
theorem sizes_sb {b : List Pr} {M : Nat} (hM : 1 ≤ M) (hb : ∀ p ∈ b, size p.t ≤ M) (K : Int) : ∀ l : List Tm, sizes (sbTs (getL b K) l) ≤ sizes l * M
  | [] => by rw [sbTs, sizes]; exact Nat.zero_le _
  | u :: l => by
    have h1 := size_sb hM hb K u
    have h2 := sizes_sb hM hb K l
    rw [sbTs, sizes, sizes, Nat.add_mul]; omega
end
end Go.Proofs.Ytbmniajimkondaa.U
