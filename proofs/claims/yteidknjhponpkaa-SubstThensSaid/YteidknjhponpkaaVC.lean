/-
  What is proved: what clear leaves of a row of pairs of the call's own; which pairs CompactFunc keeps (plain mathematics).
  What is proved: which pairs the library's CompactFunc keeps of a row of pairs; of a sorted row one of each name, by rising names.
-/
import Derived.Test.YteidknjhponpkaaSO
import Derived.Test.YteidknjhponpkaaZSbOw
import Derived.Test.YteidknjhponpkaaM1
namespace Go.Proofs.Yteidknjhponpkaa.U
open Go.RowKit L T C B
set_option linter.unusedVariables false
set_option linter.unusedSimpArgs false

/-! which pairs are kept -/
theorem getU_has {X : List Pr} {s : ByteArray} : (∃ x ∈ X, (x.nm.toList == s.toList) = true) → getU X s ≠ none := by
  induction X with
  | nil => rintro ⟨x, hx, _⟩; simp at hx
  | cons p X ih =>
    rintro ⟨x, hx, he⟩
    rw [getU]
    by_cases h : (p.nm.toList == s.toList) = true
    · rw [if_pos h]; simp
    · rw [if_neg h]
      refine ih ⟨x, ?_, he⟩
      rcases List.mem_cons.1 hx with rfl | hx
      · exact absurd he h
      · exact hx
/-- row Z, its first k kept, the pairs of l ahead of j looked at -/
structure Cmp (l Z : List Pr) (k j : Nat) : Prop where
  len : Z.length = l.length
  kj : k < j
  jl : j ≤ l.length
  rest : ∀ i, j ≤ i + 1 → Z[i]? = l[i]?
  get : ∀ s, getU (Z.take k ++ l.drop j) s = getU l s
  last : ∀ p, l[j - 1]? = some p → ∃ x ∈ Z.take k, (x.nm.toList == p.nm.toList) = true
  mem : ∀ x ∈ Z.take k, x ∈ l
theorem Cmp.start {l : List Pr} {k : Nat} {p q : Pr} (h1 : l[k]? = some p) (h2 : l[k + 1]? = some q) (he : (q.nm.toList == p.nm.toList) = true) : Cmp l l (k + 1) (k + 2) := by
  obtain ⟨k1, e1⟩ := List.getElem?_eq_some_iff.1 h1
  obtain ⟨k2, e2⟩ := List.getElem?_eq_some_iff.1 h2
  have a1 := List.drop_eq_getElem_cons k1
  have a2 := List.drop_eq_getElem_cons k2
  rw [e1] at a1
  rw [e2] at a2
  have ht : l.take (k + 1) = l.take k ++ [p] := by rw [List.take_add_one, h1]; rfl
  have e : l = l.take k ++ p :: q :: l.drop (k + 2) := by
    conv => lhs; rw [← List.take_append_drop k l, a1, a2]
  have hpq : (p.nm.toList == q.nm.toList) = true := by rw [beq_iff_eq] at he ⊢; exact he.symm
  refine ⟨rfl, by omega, by omega, fun _ _ => rfl, fun s => ?_, fun x hx => ?_, fun x hx => List.mem_of_mem_take hx⟩
  · have := getU_drop (l.take k) (l.drop (k + 2)) p q hpq s
    rw [ht, List.append_assoc]
    conv => rhs; rw [e]
    exact this
  · rw [show k + 2 - 1 = k + 1 by omega, h2] at hx
    injection hx with hx
    subst hx
    exact ⟨p, by rw [ht]; simp, hpq⟩
theorem Cmp.same {l Z : List Pr} {k j : Nat} (h : Cmp l Z k j) {p q : Pr} (h1 : l[j - 1]? = some p) (h2 : l[j]? = some q) (he : (q.nm.toList == p.nm.toList) = true) : Cmp l Z k (j + 1) := by
  obtain ⟨k2, e2⟩ := List.getElem?_eq_some_iff.1 h2
  have a2 := List.drop_eq_getElem_cons k2
  rw [e2] at a2
  obtain ⟨x, hx, hxe⟩ := h.last p h1
  have hxq : (x.nm.toList == q.nm.toList) = true := by rw [beq_iff_eq] at he hxe ⊢; rw [hxe, he]
  refine ⟨h.len, by have := h.kj; omega, by omega, fun i hi => h.rest i (by omega), fun s => ?_, fun y hy => ?_, h.mem⟩
  · rw [← h.get s, a2, getU_app, getU_app]
    cases hg : getU (Z.take k) s with
    | some u => rfl
    | none =>
      have hne : ¬ (q.nm.toList == s.toList) = true := fun hq => getU_has ⟨x, hx, by rw [beq_iff_eq] at hq hxq ⊢; rw [hxq, hq]⟩ hg
      show getU (l.drop (j + 1)) s = getU (q :: l.drop (j + 1)) s
      rw [getU, if_neg hne]
  · rw [Nat.add_sub_cancel, h2] at hy
    injection hy with hy
    subst hy
    exact ⟨x, hx, hxq⟩
theorem Cmp.other {l Z : List Pr} {k j : Nat} (h : Cmp l Z k j) {q : Pr} (h2 : l[j]? = some q) : Cmp l (Z.set k q) (k + 1) (j + 1) := by
  obtain ⟨k2, e2⟩ := List.getElem?_eq_some_iff.1 h2
  have a2 := List.drop_eq_getElem_cons k2
  rw [e2] at a2
  have hkj := h.kj
  have hkl : k < Z.length := by rw [h.len]; omega
  have ht : (Z.set k q).take (k + 1) = Z.take k ++ [q] := by
    rw [List.take_add_one, List.getElem?_set_self hkl, List.take_set_of_le (Nat.le_refl _)]; rfl
  refine ⟨by rw [List.length_set, h.len], by omega, by omega, fun i hi => ?_, fun s => ?_, fun y hy => ?_, fun x hx => ?_⟩
  · rw [List.getElem?_set_ne (by omega)]; exact h.rest i (by omega)
  · rw [ht, List.append_assoc, ← h.get s, a2]; rfl
  · rw [Nat.add_sub_cancel, h2] at hy
    injection hy with hy
    subst hy
    exact ⟨q, by rw [ht]; simp, by simp⟩
  · rw [ht] at hx
    rcases List.mem_append.1 hx with hx | hx
    · exact h.mem x hx
    · rw [List.mem_singleton] at hx; subst hx; exact List.mem_of_getElem? h2
/-- the same first terms, no other pairs, not more -/
def LessF (Y l : List Pr) : Prop := Y.length ≤ l.length ∧ (∀ s, getU Y s = getU l s) ∧ ∀ x ∈ Y, x ∈ l
theorem LessF.refl (l : List Pr) : LessF l l := ⟨Nat.le_refl _, fun _ => rfl, fun _ h => h⟩
theorem LessF.same {X Y l : List Pr} (h : LessF Y X) (hs : SameF X l) : LessF Y l := ⟨by rw [← hs.1]; exact h.1, fun s => (h.2.1 s).trans (hs.2.1 s), fun x hx => hs.2.2 x (h.2.2 x hx)⟩
theorem Cmp.done {l Z : List Pr} {k j : Nat} (h : Cmp l Z k j) (hj : j = l.length) : LessF (Z.take k) l := by
  refine ⟨by rw [List.length_take, h.len]; omega, fun s => ?_, h.mem⟩
  have := h.get s
  rw [hj, List.drop_length, List.append_nil] at this
  exact this
end Go.Proofs.Yteidknjhponpkaa.U
namespace Go.Proofs.Yteidknjhponpkaa.U
open Go.RowKit L T C B
set_option linter.unusedVariables false
set_option linter.unusedSimpArgs false

/-- no two neighbours of one name, up to a place -/
def Apt (l : List Pr) (m : Nat) : Prop := ∀ (i : Nat) (p q : Pr), i < m → l[i]? = some p → l[i + 1]? = some q → (q.nm.toList == p.nm.toList) = false
theorem Apt.zero (l : List Pr) : Apt l 0 := fun i p q h => by omega
theorem Apt.step {l : List Pr} {m : Nat} {p q : Pr} (h : Apt l m) (h1 : l[m]? = some p) (h2 : l[m + 1]? = some q) (hne : (q.nm.toList == p.nm.toList) = false) : Apt l (m + 1) := fun i p' q' hi e1 e2 => by
  by_cases hm : i = m
  · subst hm
    rw [h1] at e1; rw [h2] at e2
    injection e1 with e1; injection e2 with e2
    subst e1 e2
    exact hne
  · exact h i p' q' (by omega) e1 e2
theorem srtU_at {l : List Pr} (h : SrtU l) {i j : Nat} {p q : Pr} (h1 : l[i]? = some p) (h2 : l[j]? = some q) (hij : i < j) : cmpN p.nm q.nm ≤ 0 := by
  obtain ⟨a, rfl⟩ := List.getElem?_eq_some_iff.1 h1
  obtain ⟨b, rfl⟩ := List.getElem?_eq_some_iff.1 h2
  exact List.pairwise_iff_getElem.1 h i j a b hij
theorem ris_apt {l : List Pr} (hs : SrtU l) {m : Nat} (ha : Apt l m) : RisU (l.take (m + 1)) := by
  refine List.pairwise_iff_getElem.2 fun i j hi hj hij => ?_
  rw [List.length_take] at hi hj
  rw [List.getElem_take, List.getElem_take]
  have e1 : l[i]? = some (l[i]'(by omega)) := List.getElem?_eq_getElem _
  have e2 : l[i + 1]? = some (l[i + 1]'(by omega)) := List.getElem?_eq_getElem _
  have e3 : l[j]? = some (l[j]'(by omega)) := List.getElem?_eq_getElem _
  have a1 := srtU_at hs e1 e2 (by omega)
  have a2 := ha i _ _ (by omega) e1 e2
  have a3 : cmpN (l[i]'(by omega)).nm (l[i + 1]'(by omega)).nm ≠ 0 := fun e => by rw [(linN.eq _ _).1 e] at a2; simp at a2
  by_cases hj2 : j = i + 1
  · subst hj2; omega
  · have a4 := srtU_at hs e2 e3 (by omega)
    have a5 := cmpN_le a1 a4
    rcases linN.rng (l[i]'(by omega)).nm (l[j]'(by omega)).nm with b | b | b
    · omega
    · rw [← (linN.eq _ _).1 b] at a4
      have := linN.anti (l[i]'(by omega)).nm (l[i + 1]'(by omega)).nm
      omega
    · omega
theorem ris_all {l : List Pr} (hs : SrtU l) {m : Nat} (ha : Apt l m) (hm : l.length ≤ m + 1) : RisU l := by
  have := ris_apt hs ha
  rwa [List.take_of_length_le hm] at this
theorem ris_few {l : List Pr} (h : l.length < 2) : RisU l := by
  match l, h with
  | [], _ => exact List.Pairwise.nil
  | [p], _ => exact List.pairwise_singleton _ _
  | p :: q :: l, h => simp at h; omega
/-- row Z, its first k kept, the pairs of l ahead of j looked at -/
structure CmpS (l Z : List Pr) (k j : Nat) : Prop where
  len : Z.length = l.length
  kj : k < j
  jl : j ≤ l.length
  rest : ∀ i, j ≤ i + 1 → Z[i]? = l[i]?
  get : ∀ s, getU (Z.take k ++ l.drop j) s = getU l s
  last : ∀ p, l[j - 1]? = some p → ∃ x ∈ Z.take k, (x.nm.toList == p.nm.toList) = true
  mem : ∀ x ∈ Z.take k, x ∈ l
  up : SrtU l → RisU (Z.take k)
  le : SrtU l → ∀ p, l[j - 1]? = some p → ∀ x ∈ Z.take k, cmpN x.nm p.nm ≤ 0
theorem CmpS.start {l : List Pr} {k : Nat} {p q : Pr} (h1 : l[k]? = some p) (h2 : l[k + 1]? = some q) (he : (q.nm.toList == p.nm.toList) = true) (ha : Apt l k) : CmpS l l (k + 1) (k + 2) := by
  obtain ⟨k1, e1⟩ := List.getElem?_eq_some_iff.1 h1
  obtain ⟨k2, e2⟩ := List.getElem?_eq_some_iff.1 h2
  have a1 := List.drop_eq_getElem_cons k1
  have a2 := List.drop_eq_getElem_cons k2
  rw [e1] at a1
  rw [e2] at a2
  have ht : l.take (k + 1) = l.take k ++ [p] := by rw [List.take_add_one, h1]; rfl
  have e : l = l.take k ++ p :: q :: l.drop (k + 2) := by
    conv => lhs; rw [← List.take_append_drop k l, a1, a2]
  have hpq : (p.nm.toList == q.nm.toList) = true := by rw [beq_iff_eq] at he ⊢; exact he.symm
  refine ⟨rfl, by omega, by omega, fun _ _ => rfl, fun s => ?_, fun x hx => ?_, fun x hx => List.mem_of_mem_take hx, fun hs => ris_apt hs ha, fun hs x hx y hy => ?_⟩
  · have := getU_drop (l.take k) (l.drop (k + 2)) p q hpq s
    rw [ht, List.append_assoc]
    conv => rhs; rw [e]
    exact this
  · rw [show k + 2 - 1 = k + 1 by omega, h2] at hx
    injection hx with hx
    subst hx
    exact ⟨p, by rw [ht]; simp, hpq⟩
  · rw [show k + 2 - 1 = k + 1 by omega, h2] at hx
    injection hx with hx
    subst hx
    obtain ⟨i, hi⟩ := List.mem_iff_getElem?.1 hy
    have hik : i < k + 1 := by have := (List.getElem?_eq_some_iff.1 hi).1; rw [List.length_take] at this; omega
    rw [List.getElem?_take_of_lt hik] at hi
    exact srtU_at hs hi h2 (by omega)
theorem CmpS.same {l Z : List Pr} {k j : Nat} (h : CmpS l Z k j) {p q : Pr} (h1 : l[j - 1]? = some p) (h2 : l[j]? = some q) (he : (q.nm.toList == p.nm.toList) = true) : CmpS l Z k (j + 1) := by
  obtain ⟨k2, e2⟩ := List.getElem?_eq_some_iff.1 h2
  have a2 := List.drop_eq_getElem_cons k2
  rw [e2] at a2
  obtain ⟨x, hx, hxe⟩ := h.last p h1
  have hxq : (x.nm.toList == q.nm.toList) = true := by rw [beq_iff_eq] at he hxe ⊢; rw [hxe, he]
  refine ⟨h.len, by have := h.kj; omega, by omega, fun i hi => h.rest i (by omega), fun s => ?_, fun y hy => ?_, h.mem, h.up, fun hs y hy x2 hx2 => ?_⟩
  · rw [← h.get s, a2, getU_app, getU_app]
    cases hg : getU (Z.take k) s with
    | some u => rfl
    | none =>
      have hne : ¬ (q.nm.toList == s.toList) = true := fun hq => getU_has ⟨x, hx, by rw [beq_iff_eq] at hq hxq ⊢; rw [hxq, hq]⟩ hg
      show getU (l.drop (j + 1)) s = getU (q :: l.drop (j + 1)) s
      rw [getU, if_neg hne]
  · rw [Nat.add_sub_cancel, h2] at hy
    injection hy with hy
    subst hy
    exact ⟨x, hx, hxq⟩
  · rw [Nat.add_sub_cancel, h2] at hy
    injection hy with hy
    subst hy
    rw [show q.nm = p.nm from eqNm.1 he]
    exact h.le hs p h1 x2 hx2
theorem CmpS.other {l Z : List Pr} {k j : Nat} (h : CmpS l Z k j) {p q : Pr} (h1 : l[j - 1]? = some p) (h2 : l[j]? = some q) (hne : (q.nm.toList == p.nm.toList) = false) : CmpS l (Z.set k q) (k + 1) (j + 1) := by
  obtain ⟨k2, e2⟩ := List.getElem?_eq_some_iff.1 h2
  have a2 := List.drop_eq_getElem_cons k2
  rw [e2] at a2
  have hkj := h.kj
  have hkl : k < Z.length := by rw [h.len]; omega
  have ht : (Z.set k q).take (k + 1) = Z.take k ++ [q] := by
    rw [List.take_add_one, List.getElem?_set_self hkl, List.take_set_of_le (Nat.le_refl _)]; rfl
  refine ⟨by rw [List.length_set, h.len], by omega, by omega, fun i hi => ?_, fun s => ?_, fun y hy => ?_, fun x hx => ?_, fun hs => ?_, fun hs y hy x hx => ?_⟩
  · rw [List.getElem?_set_ne (by omega)]; exact h.rest i (by omega)
  · rw [ht, List.append_assoc, ← h.get s, a2]; rfl
  · rw [Nat.add_sub_cancel, h2] at hy
    injection hy with hy
    subst hy
    exact ⟨q, by rw [ht]; simp, by simp⟩
  · rw [ht] at hx
    rcases List.mem_append.1 hx with hx | hx
    · exact h.mem x hx
    · rw [List.mem_singleton] at hx; subst hx; exact List.mem_of_getElem? h2
  · rw [ht]
    refine List.pairwise_append.2 ⟨h.up hs, List.pairwise_singleton _ _, fun x hx y hy => ?_⟩
    rw [List.mem_singleton] at hy
    subst hy
    have a1 := h.le hs p h1 x hx
    have a2 := srtU_at hs h1 h2 (by omega)
    have a3 : cmpN p.nm y.nm ≠ 0 := fun e => by rw [(linN.eq _ _).1 e] at hne; simp at hne
    have a4 := cmpN_le a1 a2
    rcases linN.rng x.nm y.nm with b | b | b
    · omega
    · have e := (linN.eq _ _).1 b
      rw [e] at a1
      have := linN.anti p.nm y.nm
      omega
    · omega
  · rw [Nat.add_sub_cancel, h2] at hy
    injection hy with hy
    subst hy
    rw [ht] at hx
    rcases List.mem_append.1 hx with hx | hx
    · exact cmpN_le (h.le hs p h1 x hx) (srtU_at hs h1 h2 (by omega))
    · rw [List.mem_singleton] at hx; subst hx; rw [cmp_self]; omega
theorem CmpS.done {l Z : List Pr} {k j : Nat} (h : CmpS l Z k j) (hj : j = l.length) : LessF (Z.take k) l ∧ (SrtU l → RisU (Z.take k)) := by
  refine ⟨⟨by rw [List.length_take, h.len]; omega, fun s => ?_, h.mem⟩, h.up⟩
  have := h.get s
  rw [hj, List.drop_length, List.append_nil] at this
  exact this
set_option maxRecDepth 100000 in
set_option maxHeartbeats 16000000 in
theorem compactU2_any (l : List Pr) (lo g n c : Nat) (w : World) (hG : OwnP w lo (.slice (some ⟨g, 0, none⟩) n c) l) (hlen : n = l.length) (hlg : lo ≤ g) (hlw : lo ≤ w.heap.size) (hn : n ≤ 1000000) :
    Calls Try.prog 56 #[.slice (some ⟨g, 0, none⟩) n c, .func (.func 57) #[] #[]] w fun e w' => ∃ m, e = .returned (.slice (some ⟨g, 0, none⟩) m c) ∧ (∃ Y, OwnP w' lo (.slice (some ⟨g, 0, none⟩) m c) Y ∧ LessF Y l ∧ (SrtU l → RisU Y)) ∧ Below lo w w' := by
  by_cases h2 : n < 2
  · have h2' : (n : Int) < 2 := by omega
    have HG := Lib.hid hG
    have HR1 := Lib.hid (show RisU l from ris_few (by omega))
    clear hG hlen
    go_enter Try.func56, Try.ntmps56
    go_wp2
    go_ret
    exact ⟨_, rfl, ⟨l, HG.out, LessF.refl l, fun _ => HR1.out⟩, Below.refl _ _⟩
  · have h2' : ¬ (n : Int) < 2 := by omega
    have hnc : n ≤ c := by
      obtain ⟨A0, c0, hv, q1, -⟩ := hG.slice
      injection hv with v1 v2 v3
      omega
    have HG := Lib.hid hG
    have HL := Lib.hid hlen
    clear hG hlen
    go_enter Try.func56, Try.ntmps56
    go_wp2
    go_loopw [5] (fun i wr0 => ∃ (wr : World) (k : Nat), wr = wr0 ∧ k < n ∧ i = .int .i64 ((k : Int) + 1) ∧ Below lo w wr ∧ Hid (OwnP wr lo (.slice (some ⟨g, 0, none⟩) n c) l) ∧ Hid (Apt l k)) (fun i _ => n - (intOf i).toNat)
    case atStart => exact ⟨_, 0, rfl, by omega, rfl, Below.refl _ _, HG, Lib.hid (Apt.zero l)⟩
    case round =>
      obtain ⟨wr, m, rfl, hk, rfl, hB, hH, hAp⟩ := hrel
      by_cases hlt : m + 1 < n
      · obtain ⟨p, hp⟩ : ∃ p, l[m]? = some p := ⟨_, List.getElem?_eq_getElem (by have := HL.out; omega)⟩
        obtain ⟨q, hq⟩ : ∃ q, l[m + 1]? = some q := ⟨_, List.getElem?_eq_getElem (by have := HL.out; omega)⟩
        obtain ⟨⟨xp, op, sp, zp, ap, np, cp⟩, ⟨xq, oq, sq, zq, aq, nq, cq⟩, hA, hBq, ⟨c0, c1, c2, c3, c4⟩, ⟨d0, d1, d2, d3, d4⟩, -⟩ := hH.out.swap hp hq
        obtain ⟨⟨r1, r2, r3, r4⟩, -⟩ := hA
        obtain ⟨⟨t1, t2, t3, t4⟩, -⟩ := hBq
        dsimp only at c0 c1 c2 c3 c4 d0 d1 d2 d3 d4 r1 r2 r3 r4 t1 t2 t3 t4
        have cC := fun (w' : World) => ordered2_any q p aq nq cq ap np cp w'
        have hSt := fun (h : (q.nm.toList == p.nm.toList) = true) => CmpS.start hp hq h hAp.out
        have hAs := fun (h : (q.nm.toList == p.nm.toList) = false) => Apt.step hAp.out hp hq h
        rw [← r1, ← t1] at hSt hAs
        rw [← r1, ← r2, ← r3, ← r4, ← t1, ← t2, ← t3, ← t4] at cC
        have hgl := (hH.out.lt g rfl).2
        have hBd : Below wr.heap.size wr wr.drew := (Below.refl _ _).drew
        have hwr : IntKind.i64.wrap ((m : Int) + 1 - 1) = (m : Int) := by rw [IntKind.wrap_i64]; omega
        have hwr2 : IntKind.i64.wrap (m : Int) = (m : Int) := by rw [IntKind.wrap_i64]; omega
        have hk0 : 0 ≤ (m : Int) := by omega
        have hk1 : 0 ≤ (m : Int) + 1 := by omega
        have hkN : (m : Int) + 1 < (n : Int) := by omega
        have hkN0 : (m : Int) < (n : Int) := by omega
        clear r1 r2 r3 r4 t1 t2 t3 t4
        cases hcmp : (xq.toList == xp.toList) with
        | false =>
          rw [hcmp] at cC
          have HAp1 := Lib.hid (hAs hcmp)
          clear hSt hAs hAp hp hq hcmp
          go_wp2_with fail
          go_region_held3 (fun w' => w'.cell? ⟨g, m * 5, none⟩ = some (.string xp) ∧ w'.cell? ⟨g, m * 5 + 1, none⟩ = some (.int .i64 op) ∧ w'.cell? ⟨g, m * 5 + 1 + 1, none⟩ = some (.string sp) ∧ w'.cell? ⟨g, m * 5 + 1 + 1 + 1, none⟩ = some (.int .i64 zp) ∧ w'.cell? ⟨g, m * 5 + 1 + 1 + 1 + 1, none⟩ = some (.slice ap np cp) ∧ w'.cell? ⟨g, (m + 1) * 5, none⟩ = some (.string xq) ∧ w'.cell? ⟨g, (m + 1) * 5 + 1, none⟩ = some (.int .i64 oq) ∧ w'.cell? ⟨g, (m + 1) * 5 + 1 + 1, none⟩ = some (.string sq) ∧ w'.cell? ⟨g, (m + 1) * 5 + 1 + 1 + 1, none⟩ = some (.int .i64 zq) ∧ w'.cell? ⟨g, (m + 1) * 5 + 1 + 1 + 1 + 1, none⟩ = some (.slice aq nq cq))
            (first | go_keep | (exact ⟨(B4.cell hgl).trans c0, (B4.cell hgl).trans c1, (B4.cell hgl).trans c2, (B4.cell hgl).trans c3, (B4.cell hgl).trans c4, (B4.cell hgl).trans d0, (B4.cell hgl).trans d1, (B4.cell hgl).trans d2, (B4.cell hgl).trans d3, (B4.cell hgl).trans d4⟩))
            (first | (go_at_call 57; ((with_reducible refine (cC _).mono ?_); rintro e w4 ⟨rfl, hb4⟩; have B4 := bel_trans hBd hb4)))
          all_goals go_wp2
          all_goals go_roundw
          case rel => exact ⟨_, m + 1, rfl, by omega, by go_num, hB.trans (B4.mono (by have := hB.size; omega)), Lib.hid (hH.out.below B4), HAp1⟩
          case measure => simp [intOf]; omega
        | true =>
          rw [hcmp] at cC
          have hSt2 := Lib.hid (hSt (by rw [hcmp]))
          clear hSt hAs hAp hp hq hcmp
          have hne : ¬ n = m + 1 := by omega
          have hneC : ¬ c = m + 1 := by omega
          have hle : (m : Int) + 1 ≤ (n : Int) := by omega
          go_wp2_with fail
          go_region_held3 (fun w' => w'.cell? ⟨g, m * 5, none⟩ = some (.string xp) ∧ w'.cell? ⟨g, m * 5 + 1, none⟩ = some (.int .i64 op) ∧ w'.cell? ⟨g, m * 5 + 1 + 1, none⟩ = some (.string sp) ∧ w'.cell? ⟨g, m * 5 + 1 + 1 + 1, none⟩ = some (.int .i64 zp) ∧ w'.cell? ⟨g, m * 5 + 1 + 1 + 1 + 1, none⟩ = some (.slice ap np cp) ∧ w'.cell? ⟨g, (m + 1) * 5, none⟩ = some (.string xq) ∧ w'.cell? ⟨g, (m + 1) * 5 + 1, none⟩ = some (.int .i64 oq) ∧ w'.cell? ⟨g, (m + 1) * 5 + 1 + 1, none⟩ = some (.string sq) ∧ w'.cell? ⟨g, (m + 1) * 5 + 1 + 1 + 1, none⟩ = some (.int .i64 zq) ∧ w'.cell? ⟨g, (m + 1) * 5 + 1 + 1 + 1 + 1, none⟩ = some (.slice aq nq cq))
            (first | go_keep | (exact ⟨(B4.cell hgl).trans c0, (B4.cell hgl).trans c1, (B4.cell hgl).trans c2, (B4.cell hgl).trans c3, (B4.cell hgl).trans c4, (B4.cell hgl).trans d0, (B4.cell hgl).trans d1, (B4.cell hgl).trans d2, (B4.cell hgl).trans d3, (B4.cell hgl).trans d4⟩))
            (first | (go_at_call 57; ((with_reducible refine (cC _).mono ?_); rintro e w4 ⟨rfl, hb4⟩; have B4 := bel_trans hBd hb4)))
          have HH := Lib.hid (hH.out.below B4)
          have hB4 : Below lo w w4 := hB.trans (B4.mono (by have := hB.size; omega))
          clear hH c0 c1 c2 c3 c4 d0 d1 d2 d3 d4 hgl
          go_wp2
          go_loopw [5, 7] (fun kk jj wr0 => ∃ (w2 : World) (k i : Nat) (Z : List Pr), w2 = wr0 ∧ kk = .int .i64 (k : Int) ∧ jj = .int .i64 ((i : Int) + 1) ∧ m + 2 + i ≤ n ∧ Below lo w w2 ∧ Hid (OwnP w2 lo (.slice (some ⟨g, 0, none⟩) n c) Z ∧ CmpS l Z k (m + 2 + i))) (fun kk jj _ => n - (intOf jj).toNat)
          case atStart => exact ⟨_, m + 1, 0, l, rfl, by go_num, rfl, by omega, hB4, Lib.hid ⟨HH.out, hSt2.out⟩⟩
          case round =>
            clear HH hSt2 HG cC hBd
            obtain ⟨w2, k, i, Z, rfl, rfl, rfl, hjn, hB2, hI⟩ := hrel
            have hkj := hI.out.2.kj
            by_cases hlt2 : m + 2 + i < n
            · have hZl : Z.length = n := hI.out.2.len.trans HL.out.symm
              obtain ⟨p, hp⟩ : ∃ p, Z[m + 1 + i]? = some p := ⟨_, List.getElem?_eq_getElem (by omega)⟩
              obtain ⟨q, hq⟩ : ∃ q, Z[m + 1 + i + 1]? = some q := ⟨_, List.getElem?_eq_getElem (by omega)⟩
              obtain ⟨⟨xp, op, sp, zp, ap, np, cp⟩, ⟨xq, oq, sq, zq, aq, nq, cq⟩, hA, hBq, ⟨c0, c1, c2, c3, c4⟩, ⟨d0, d1, d2, d3, d4⟩, -⟩ := hI.out.1.swap hp hq
              have HBq := Lib.hid hBq
              obtain ⟨⟨r1, r2, r3, r4⟩, -⟩ := hA
              obtain ⟨⟨t1, t2, t3, t4⟩, -⟩ := hBq
              dsimp only at c0 c1 c2 c3 c4 d0 d1 d2 d3 d4 r1 r2 r3 r4 t1 t2 t3 t4
              have cC := fun (w' : World) => ordered2_any q p aq nq cq ap np cp w'
              have hlp : l[m + 2 + i - 1]? = some p := by rw [← hI.out.2.rest (m + 2 + i - 1) (by omega), ← hp]; congr 1; omega
              have hlq : l[m + 2 + i]? = some q := by rw [← hI.out.2.rest (m + 2 + i) (by omega), ← hq]; congr 1; omega
              have hSa := fun (h : (q.nm.toList == p.nm.toList) = true) => hI.out.2.same hlp hlq h
              have hOt0 := fun (h : (q.nm.toList == p.nm.toList) = false) => hI.out.2.other hlp hlq h
              rw [← r1, ← t1] at hSa hOt0
              rw [← r1, ← r2, ← r3, ← r4, ← t1, ← t2, ← t3, ← t4] at cC
              rw [show (m + 1 + i) * 5 = (m + 1) * 5 + i * 5 by omega] at c0 c1 c2 c3 c4
              rw [show (m + 1 + i + 1) * 5 = (m + 1) * 5 + (i + 1) * 5 by omega] at d0 d1 d2 d3 d4
              have hgl := (hI.out.1.lt g rfl).2
              have HO := Lib.hid hI.out.1
              have hBd : Below w2.heap.size w2 w2.drew := (Below.refl _ _).drew
              have hwr3 : IntKind.i64.wrap ((i : Int) + 1 - 1) = (i : Int) := by rw [IntKind.wrap_i64]; omega
              have hwr4 : IntKind.i64.wrap (i : Int) = (i : Int) := by rw [IntKind.wrap_i64]; omega
              have hi0 : 0 ≤ (i : Int) := by omega
              have hi1 : 0 ≤ (i : Int) + 1 := by omega
              have hiN : (i : Int) + 1 < ((n - (m + 1) : Nat) : Int) := by omega
              have hiN0 : (i : Int) < ((n - (m + 1) : Nat) : Int) := by omega
              have hkn0 : 0 ≤ (k : Int) := by omega
              have hknN : (k : Int) < (n : Int) := by omega
              clear r1 r2 r3 r4 t1 t2 t3 t4 hwr hwr2
              cases hcmp : (xq.toList == xp.toList) with
              | true =>
                rw [hcmp] at cC
                have hS := Lib.hid (hSa (by rw [hcmp]))
                clear hSa hOt0 hI hp hq hlp hlq hcmp
                go_wp2_with fail
                go_region_held3 (fun w' => w'.cell? ⟨g, (m + 1) * 5 + i * 5, none⟩ = some (.string xp) ∧ w'.cell? ⟨g, (m + 1) * 5 + i * 5 + 1, none⟩ = some (.int .i64 op) ∧ w'.cell? ⟨g, (m + 1) * 5 + i * 5 + 1 + 1, none⟩ = some (.string sp) ∧ w'.cell? ⟨g, (m + 1) * 5 + i * 5 + 1 + 1 + 1, none⟩ = some (.int .i64 zp) ∧ w'.cell? ⟨g, (m + 1) * 5 + i * 5 + 1 + 1 + 1 + 1, none⟩ = some (.slice ap np cp) ∧ w'.cell? ⟨g, (m + 1) * 5 + (i + 1) * 5, none⟩ = some (.string xq) ∧ w'.cell? ⟨g, (m + 1) * 5 + (i + 1) * 5 + 1, none⟩ = some (.int .i64 oq) ∧ w'.cell? ⟨g, (m + 1) * 5 + (i + 1) * 5 + 1 + 1, none⟩ = some (.string sq) ∧ w'.cell? ⟨g, (m + 1) * 5 + (i + 1) * 5 + 1 + 1 + 1, none⟩ = some (.int .i64 zq) ∧ w'.cell? ⟨g, (m + 1) * 5 + (i + 1) * 5 + 1 + 1 + 1 + 1, none⟩ = some (.slice aq nq cq))
                  (first | go_keep | (exact ⟨(B5.cell hgl).trans c0, (B5.cell hgl).trans c1, (B5.cell hgl).trans c2, (B5.cell hgl).trans c3, (B5.cell hgl).trans c4, (B5.cell hgl).trans d0, (B5.cell hgl).trans d1, (B5.cell hgl).trans d2, (B5.cell hgl).trans d3, (B5.cell hgl).trans d4⟩))
                  (first | (go_at_call 57; ((with_reducible refine (cC _).mono ?_); rintro e w5 ⟨rfl, hb5⟩; have B5 := bel_trans hBd hb5)))
                go_wp2
                go_roundw
                case rel => exact ⟨_, k, i + 1, Z, rfl, rfl, by go_num, by omega, hB2.trans (B5.mono (by have := hB2.size; omega)), Lib.hid ⟨HO.out.below B5, hS.out⟩⟩
                case measure => simp [intOf]; omega
              | false =>
                rw [hcmp] at cC
                have hOt := Lib.hid (hOt0 hcmp)
                clear hSa hOt0 hI hp hq hlp hlq hcmp
                go_wp2_with fail
                go_region_held3 (fun w' => w'.cell? ⟨g, (m + 1) * 5 + i * 5, none⟩ = some (.string xp) ∧ w'.cell? ⟨g, (m + 1) * 5 + i * 5 + 1, none⟩ = some (.int .i64 op) ∧ w'.cell? ⟨g, (m + 1) * 5 + i * 5 + 1 + 1, none⟩ = some (.string sp) ∧ w'.cell? ⟨g, (m + 1) * 5 + i * 5 + 1 + 1 + 1, none⟩ = some (.int .i64 zp) ∧ w'.cell? ⟨g, (m + 1) * 5 + i * 5 + 1 + 1 + 1 + 1, none⟩ = some (.slice ap np cp) ∧ w'.cell? ⟨g, (m + 1) * 5 + (i + 1) * 5, none⟩ = some (.string xq) ∧ w'.cell? ⟨g, (m + 1) * 5 + (i + 1) * 5 + 1, none⟩ = some (.int .i64 oq) ∧ w'.cell? ⟨g, (m + 1) * 5 + (i + 1) * 5 + 1 + 1, none⟩ = some (.string sq) ∧ w'.cell? ⟨g, (m + 1) * 5 + (i + 1) * 5 + 1 + 1 + 1, none⟩ = some (.int .i64 zq) ∧ w'.cell? ⟨g, (m + 1) * 5 + (i + 1) * 5 + 1 + 1 + 1 + 1, none⟩ = some (.slice aq nq cq))
                  (first | go_keep | (exact ⟨(B5.cell hgl).trans c0, (B5.cell hgl).trans c1, (B5.cell hgl).trans c2, (B5.cell hgl).trans c3, (B5.cell hgl).trans c4, (B5.cell hgl).trans d0, (B5.cell hgl).trans d1, (B5.cell hgl).trans d2, (B5.cell hgl).trans d3, (B5.cell hgl).trans d4⟩))
                  (first | (go_at_call 57; ((with_reducible refine (cC _).mono ?_); rintro e w5 ⟨rfl, hb5⟩; have B5 := bel_trans hBd hb5)))
                have HO2 := Lib.hid (show OwnP (setU w5 g k ⟨xq, oq, sq, zq, aq, nq, cq⟩) lo (.slice (some ⟨g, 0, none⟩) n c) (Z.set k q) from by
                  have h5 := HO.out.below B5
                  exact h5.setH (k := k) (by rw [hZl]; omega) ⟨xq, oq, sq, zq, aq, nq, cq⟩ q (HBq.out.to (fun b hb => B5.block b hb.1) (fun b hb => ⟨Nat.lt_of_lt_of_le hb.1 B5.size, hb.2⟩)))
                have hX : Below lo w w5 := hB2.trans (B5.mono (by have := hB2.size; omega))
                have hX2 := Lib.hid (setU_below hX hlg k ⟨xq, oq, sq, zq, aq, nq, cq⟩)
                have e0 := (B5.cell (p := ⟨g, _, none⟩) hgl).trans d0
                have e1 := (B5.cell (p := ⟨g, _, none⟩) hgl).trans d1
                have e2 := (B5.cell (p := ⟨g, _, none⟩) hgl).trans d2
                have e3 := (B5.cell (p := ⟨g, _, none⟩) hgl).trans d3
                have e4 := (B5.cell (p := ⟨g, _, none⟩) hgl).trans d4
                have hsm := isSome_row (HO.out.below B5)
                obtain ⟨u0, k0⟩ := Option.isSome_iff_exists.1 (hsm (k * 5) (by omega))
                obtain ⟨u1, k1⟩ := Option.isSome_iff_exists.1 (hsm (k * 5 + 1) (by omega))
                obtain ⟨u2, k2⟩ := Option.isSome_iff_exists.1 (hsm (k * 5 + 2) (by omega))
                obtain ⟨u3, k3⟩ := Option.isSome_iff_exists.1 (hsm (k * 5 + 3) (by omega))
                obtain ⟨u4, k4⟩ := Option.isSome_iff_exists.1 (hsm (k * 5 + 4) (by omega))
                obtain ⟨hs9, ho9, -, -⟩ := HO.out.below B5
                have hfr := fun (i : Nat) => RowU.free (OwnU.row ho9) i
                have f0 := hfr (k * 5)
                have f1 := hfr (k * 5 + 1)
                have f2 := hfr (k * 5 + 2)
                have f3 := hfr (k * 5 + 3)
                have f4 := hfr (k * 5 + 4)
                clear c0 c1 c2 c3 c4 d0 d1 d2 d3 d4 hfr ho9 hsm
                unfold setU at HO2 hX2
                go_wp2
                go_roundw
                case rel => exact ⟨_, k + 1, i + 1, _, rfl, by go_num, by go_num, by omega, hX2.out, Lib.hid ⟨HO2.out, hOt.out⟩⟩
                case measure => simp [intOf]; omega
            · obtain rfl : n = m + 2 + i := by omega
              have hfr : ∀ j : Nat, w2.frozen? ⟨g, j, none⟩ = false := fun j => by
                obtain ⟨hs9, ho9, -, -⟩ := hI.out.1
                exact RowU.free (OwnU.row ho9) j
              have hsm := isSome_row hI.out.1
              obtain ⟨vs, hcl⟩ := clear_pairs w2 g (k * 5) (m + 2 + i - k) (c - k) (by omega) (fun j hj => hsm _ (by omega)) hfr
              have HK := Lib.hid (hI.out.1.keep k (by rw [hI.out.2.len, ← HL.out]; omega) vs)
              have HD := Lib.hid (hI.out.2.done HL.out)
              have hge2 : ¬ (i : Int) + 1 < ((m + 2 + i - (m + 1) : Nat) : Int) := by omega
              have hBc := setCells_below hlg vs (k * 5) w2 hB2
              have hkle : (k : Int) ≤ ((m + 2 + i : Nat) : Int) := by omega
              have hkn0 : 0 ≤ (k : Int) := by omega
              have hne2 : ¬ m + 2 + i = k := by omega
              have hne3 : ¬ c = k := by omega
              clear hI hfr hsm
              go_wp2
              go_ret
              exact ⟨_, rfl, ⟨_, HK.out, HD.out⟩, hBc⟩
      · have hge : ¬ (m : Int) + 1 < (n : Int) := by omega
        have HR2 := Lib.hid (show SrtU l → RisU l from fun hs => ris_all hs hAp.out (by have := HL.out; omega))
        clear HG hAp
        go_wp2
        go_ret
        exact ⟨_, rfl, ⟨l, hH.out, LessF.refl l, HR2.out⟩, hB⟩
end Go.Proofs.Yteidknjhponpkaa.U
