/-
  What is proved: what the laws' guards say of a term and of a claim; a claim's text depends only on which names are taken. No program is spoken of.
-/
import Derived.Test.YtcigeclnbhcohaaGreatDoorZShO
import Derived.Test.YtcigeclnbhcohaaGreatDoorZShRe
import Derived.Test.YtcigeclnbhcohaaGreatDoorBR
import Derived.Test.YtcigeclnbhcohaaGreatDoorL3
namespace Go.Proofs.YtcigeclnbhcohaaGreatDoor.Sh
open Go.RowKit L T C
set_option linter.unusedVariables false
set_option linter.unusedSimpArgs false

/-! names of at most 100 bytes -/
mutual
def shT : Tm → Bool
  | .mk _ s _ l => shTs l && decide (s.size ≤ 100)
def shTs : List Tm → Bool
  | [] => true
  | t :: l => shT t && shTs l
end
theorem shT_mk (t : Tm) : shT t = (shTs (argsT t) && decide ((nameT t).size ≤ 100)) := by cases t; rw [shT]; rfl
mutual
def shC : Cl → Bool
  | .mk _ s z ts l => shTs ts && (shCs l && (decide (s.size ≤ 100) && decide (z.size ≤ 100)))
def shCs : List Cl → Bool
  | [] => true
  | t :: l => shC t && shCs l
end
theorem shC_mk (t : Cl) : shC t = (shTs (tsC t) && (shCs (subC t) && (decide ((nmC t).size ≤ 100) && decide ((soC t).size ≤ 100)))) := by cases t; rw [shC]; rfl
theorem num64 {z : Int} (hw : (Lit.int .i64 z).wf = true) : -9223372036854775808 ≤ z ∧ z ≤ 9223372036854775807 := by
  have hmin : IntKind.i64.min = -9223372036854775808 := by decide
  have hmax : IntKind.i64.max = 9223372036854775807 := by decide
  unfold Lit.wf at hw
  rw [Bool.and_eq_true, decide_eq_true_eq, decide_eq_true_eq, hmin, hmax] at hw
  exact hw
mutual
theorem okT_of : ∀ t : Tm, partE t = 0 → shT t = true → smZ t → okT t
  | .mk o s z l, h, hs, hz => by
    rw [partE] at h
    rw [shT, Bool.and_eq_true, decide_eq_true_eq] at hs
    rw [smZ] at hz
    by_cases h1 : formB o s z = true
    · rw [if_pos h1] at h; omega
    rw [if_neg h1] at h
    by_cases h2 : arityB o l.length = true
    · rw [if_pos h2] at h; omega
    rw [if_neg h2] at h
    rw [okT]
    refine ⟨?_, hs.2, num64 hz.1.2, okTs_of l h hs.1 hz.2⟩
    have ho : 1 ≤ o ∧ o ≤ 8 ∧ (o = 2 → 0 ≤ z) := by
      simp only [formB, Bool.or_eq_true, Bool.and_eq_true, decide_eq_true_eq, beq_iff_eq, not_or, not_and] at h1
      omega
    have har : ∀ k : Int, argsI o = k → 0 ≤ k → (l.length : Int) = k := fun k e hk => by
      simp only [arityB, e, Bool.or_eq_true, Bool.and_eq_true, decide_eq_true_eq, not_or, not_and, bne_iff_ne, ne_eq, Decidable.not_not] at h2
      exact h2.1 hk
    unfold arT
    have ho8 : o = 1 ∨ o = 2 ∨ o = 3 ∨ o = 4 ∨ o = 5 ∨ o = 6 ∨ o = 7 ∨ o = 8 := by omega
    rcases ho8 with rfl | rfl | rfl | rfl | rfl | rfl | rfl | rfl
    · have := har 0 rfl (by omega); omega
    · have := har 0 rfl (by omega); have := ho.2.2 rfl; omega
    · omega
    · have := har 0 rfl (by omega); omega
    · have := har 2 rfl (by omega); omega
    · have := har 2 rfl (by omega); omega
    · have := har 1 rfl (by omega); omega
    · have := har 1 rfl (by omega); omega
theorem okTs_of : ∀ l : List Tm, partsE l = 0 → shTs l = true → smZs l → okTs l
  | [], _, _, _ => by rw [okTs]; trivial
  | t :: l, h, hs, hz => by
    rw [partsE] at h
    rw [shTs, Bool.and_eq_true] at hs
    rw [smZs] at hz
    rw [okTs]
    by_cases h1 : partE t ≠ 0
    · rw [if_pos h1] at h; exact absurd h h1
    · rw [if_neg h1] at h
      exact ⟨okT_of t (by omega) hs.1 hz.1, okTs_of l h hs.2 hz.2⟩
end
theorem rightE_part {t : Tm} (h : rightE t = 0) : partE t = 0 ∧ size t ≤ 4096 := by
  unfold rightE at h
  split at h
  · omega
  · split at h
    · omega
    · exact ⟨h, by omega⟩
theorem rightsE_part : ∀ {l : List Tm}, rightsE l = 0 → partsE l = 0
  | [], _ => rfl
  | t :: l, h => by
    rw [rightsE] at h
    by_cases h1 : rightE t ≠ 0
    · rw [if_pos h1] at h; exact absurd h h1
    · rw [if_neg h1] at h
      have h2 := (rightE_part (show rightE t = 0 by omega)).1
      rw [partsE, if_neg (by omega)]
      exact rightsE_part h
mutual
theorem okC_of : ∀ t : Cl, cpartE t = 0 → shC t = true → smC t → okC t
  | .mk o s z ts l, h, hs, hz => by
    rw [cpartE] at h
    rw [shC, Bool.and_eq_true, Bool.and_eq_true, Bool.and_eq_true, decide_eq_true_eq, decide_eq_true_eq] at hs
    rw [smC] at hz
    by_cases h1 : formC o s z = true
    · rw [if_pos h1] at h; omega
    rw [if_neg h1] at h
    by_cases h2 : arityC o ts.length l.length = true
    · rw [if_pos h2] at h; omega
    rw [if_neg h2] at h
    by_cases h3 : rightsE ts ≠ 0
    · rw [if_pos h3] at h; exact absurd h h3
    rw [if_neg h3] at h
    rw [okC]
    refine ⟨?_, hs.2.2.1, hs.2.2.2, okTs_of ts (rightsE_part (by omega)) hs.1 hz.2.2.1, okCs_of l h hs.2.1 hz.2.2.2⟩
    have ho : 1 ≤ o ∧ o ≤ 12 := by
      simp only [formC, Bool.or_eq_true, decide_eq_true_eq, not_or] at h1
      exact ⟨by omega, by omega⟩
    unfold arityC at h2
    unfold arC
    clear h h3 hz hs h1
    generalize ts.length = nt at *
    generalize l.length = ns at *
    by_cases e3 : o = 3
    · subst e3
      rw [if_pos rfl] at h2
      simp at h2
      omega
    · rw [if_neg e3] at h2
      simp only [Bool.or_eq_true, not_or, bne_iff_ne, ne_eq, Decidable.not_not] at h2
      unfold wantT wantS at h2
      have ho12 : o = 1 ∨ o = 2 ∨ o = 4 ∨ o = 5 ∨ o = 6 ∨ o = 7 ∨ o = 8 ∨ o = 9 ∨ o = 10 ∨ o = 11 ∨ o = 12 := by omega
      rcases ho12 with rfl | rfl | rfl | rfl | rfl | rfl | rfl | rfl | rfl | rfl | rfl <;> simp at h2 <;> omega
theorem okCs_of : ∀ l : List Cl, cpartsE l = 0 → shCs l = true → smCs l → okCs l
  | [], _, _, _ => by rw [okCs]; trivial
  | t :: l, h, hs, hz => by
    rw [cpartsE] at h
    rw [shCs, Bool.and_eq_true] at hs
    rw [smCs] at hz
    rw [okCs]
    by_cases h1 : cpartE t ≠ 0
    · rw [if_pos h1] at h; exact absurd h h1
    · rw [if_neg h1] at h
      exact ⟨okC_of t (by omega) hs.1 hz.1, okCs_of l h hs.2 hz.2⟩
end
theorem crightE_part {t : Cl} (h : crightE t = 0) : cpartE t = 0 ∧ wt t ≤ 4096 := by
  unfold crightE at h
  split at h
  · omega
  · split at h
    · omega
    · exact ⟨h, by omega⟩

/-! the text depends on which names are taken only -/
theorem hasS_app (X Y : List ByteArray) (x : ByteArray) : hasS (X ++ Y) x = (hasS X x || hasS Y x) := by unfold hasS; rw [List.any_append]
theorem bname_congr {X Y : List ByteArray} (h : ∀ x, hasS X x = hasS Y x) (s : ByteArray) : bname X s = bname Y s := by
  unfold bname; rw [frB_congr h, frB_congr h]
mutual
theorem cX_congr {fr fr' : List ByteArray} (h : ∀ x, hasS fr x = hasS fr' x) : ∀ c : Cl, cX fr c = cX fr' c
  | .mk o s z ts l => by
    rw [cX, cX, cXs_congr h l]
    funext bs fol
    unfold cxB
    rw [show bname (fr ++ bs) s = bname (fr' ++ bs) s from bname_congr (fun x => by rw [hasS_app, hasS_app, h]) s]
theorem cXs_congr {fr fr' : List ByteArray} (h : ∀ x, hasS fr x = hasS fr' x) : ∀ l : List Cl, cXs fr l = cXs fr' l
  | [] => by rw [cXs, cXs]
  | t :: l => by rw [cXs, cXs, cX_congr h t, cXs_congr h l]
end
theorem cT_congr {fr fr' : List ByteArray} (h : ∀ x, hasS fr x = hasS fr' x) (c : Cl) (bs : List ByteArray) (m : Int) (fol : Bool) : cT fr c bs m fol = cT fr' c bs m fol := by
  unfold cT; rw [cX_congr h]
theorem hasS_names (X : List ByteArray) (x : ByteArray) : hasS (cmpS (srtS X)) x = hasS X x := by
  rw [Bool.eq_iff_iff, hasS_iff, hasS_iff]; exact (names_sorted X).2 x
theorem names_len (X : List ByteArray) : (cmpS (srtS X)).length ≤ X.length := by
  have h1 := compact_leS (rawS (srtS X))
  rw [raw_len, srtS_len] at h1
  unfold cmpS
  rw [un_len]
  exact h1
/-! the names of a right claim are short -/
mutual
theorem all_ok : ∀ t : Tm, okT t → ∀ x ∈ all t, okT x
  | .mk o s z l, h, x, hx => by
    rw [all] at hx
    rcases List.mem_cons.1 hx with rfl | hx
    · exact h
    · rw [okT] at h; exact alls_ok l h.2.2.2 x hx
theorem alls_ok : ∀ l : List Tm, okTs l → ∀ x ∈ alls l, okT x
  | [], _, x, hx => by rw [alls] at hx; cases hx
  | t :: l, h, x, hx => by
    rw [okTs] at h
    rw [alls] at hx
    rcases List.mem_append.1 hx with hx | hx
    · exact all_ok t h.1 x hx
    · exact alls_ok l h.2 x hx
end
theorem nmsP_mem : ∀ {l : List Tm} {x : ByteArray}, x ∈ nmsP l → ∃ t ∈ l, nameT t = x
  | [], x, h => by rw [nmsP] at h; cases h
  | t :: l, x, h => by
    rw [nmsP] at h
    split at h
    · rcases List.mem_cons.1 h with rfl | h
      · exact ⟨t, by simp, rfl⟩
      · obtain ⟨u, hu, e⟩ := nmsP_mem h; exact ⟨u, by simp [hu], e⟩
    · obtain ⟨u, hu, e⟩ := nmsP_mem h; exact ⟨u, by simp [hu], e⟩
mutual
theorem nmsA_small : ∀ t : Cl, okC t → ∀ x ∈ nmsA t, x.size ≤ 100
  | .mk o s z ts l, h, x, hx => by
    rw [okC] at h
    rw [nmsA] at hx
    rcases List.mem_append.1 hx with hx | hx
    · split at hx
      · simp at hx; subst hx; exact h.2.1
      · cases hx
    · rcases List.mem_append.1 hx with hx | hx
      · obtain ⟨t, ht, rfl⟩ := nmsP_mem hx
        exact (okT_mk (alls_ok ts h.2.2.2.1 t ht)).2.1
      · exact nmsAs_small l h.2.2.2.2 x hx
theorem nmsAs_small : ∀ l : List Cl, okCs l → ∀ x ∈ nmsAs l, x.size ≤ 100
  | [], _, x, hx => by rw [nmsAs] at hx; cases hx
  | t :: l, h, x, hx => by
    rw [okCs] at h
    rw [nmsAs] at hx
    rcases List.mem_append.1 hx with hx | hx
    · exact nmsA_small t h.1 x hx
    · exact nmsAs_small l h.2 x hx
end
end Go.Proofs.YtcigeclnbhcohaaGreatDoor.Sh
