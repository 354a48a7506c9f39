/-
  What is proved: what is read of right terms does not lie in a block that no right term can lie in; the terms that are found are right.
-/
import Derived.Test.YtnhemglpbhnmdaaGreatZMtZ
import Derived.Test.YtnhemglpbhnmdaaGreatMG
namespace Go.Proofs.YtnhemglpbhnmdaaGreat.Mt
open Go.RowKit L T C B U
set_option linter.unusedVariables false
set_option linter.unusedSimpArgs false

mutual
/-- no part has an Op of nought -/
def nzT : Tm → Prop
  | .mk o _ _ l => o ≠ 0 ∧ nzTs l
def nzTs : List Tm → Prop
  | [] => True
  | t :: l => nzT t ∧ nzTs l
end
mutual
theorem nzT_of : ∀ t : Tm, partE t = 0 → nzT t
  | .mk o s z l, h2 => by
    rw [partE] at h2
    by_cases hf : formB o s z = true
    · rw [if_pos hf] at h2; omega
    · rw [if_neg hf] at h2
      by_cases ha : arityB o l.length = true
      · rw [if_pos ha] at h2; omega
      · rw [if_neg ha] at h2
        rw [nzT]
        refine ⟨fun ho => ?_, nzTs_of l h2⟩
        subst ho
        exact hf (by unfold formB; simp)
theorem nzTs_of : ∀ l : List Tm, partsE l = 0 → nzTs l
  | [], _ => by rw [nzTs]; trivial
  | t :: l, h2 => by
    rw [partsE] at h2
    by_cases h : partE t = 0
    · rw [if_neg (by simpa using h)] at h2
      rw [nzTs]
      exact ⟨nzT_of t h, nzTs_of l h2⟩
    · rw [if_pos h] at h2; exact absurd h2 h
end
theorem nz_right {t : Tm} (h : rightE t = 0) : nzT t := by
  unfold rightE at h
  by_cases h1 : 64 < depth t
  · rw [if_pos h1] at h; omega
  · rw [if_neg h1] at h
    by_cases h2 : 4096 < size t
    · rw [if_pos h2] at h; omega
    · rw [if_neg h2] at h; exact nzT_of t h
theorem may_right {t : Tm} (h : mayT t = true) : rightE t = 0 := by
  unfold mayT at h
  rw [Bool.and_eq_true, decide_eq_true_eq] at h
  exact h.1
mutual
theorem mat_nz (X : List ByteArray) : ∀ (p : Tm) (l : List Pr) (t : Tm) (l' : List Pr), mat X p l t = some l' → (∀ q ∈ l, nzT q.t) → ∀ q ∈ l', nzT q.t
  | .mk o s z xs, l, t, l', h, hg => by
    rw [mat] at h
    split at h
    · split at h
      · split at h
        · injection h with h; subst h; exact hg
        · cases h
      · split at h
        · rename_i hm
          injection h with h; subst h
          intro q hq
          rcases putL_mem.1 hq with rfl | hq
          · exact nz_right (may_right hm)
          · exact hg q hq
        · cases h
    · split at h
      · exact mats_nz X xs l (argsT t) l' h hg
      · cases h
theorem mats_nz (X : List ByteArray) : ∀ (xs : List Tm) (l : List Pr) (us : List Tm) (l' : List Pr), mats X xs l us = some l' → (∀ q ∈ l, nzT q.t) → ∀ q ∈ l', nzT q.t
  | [], l, us, l', h, hg => by rw [mats] at h; injection h with h; subst h; exact hg
  | x :: xs, l, [], l', h, _ => by rw [mats] at h; cases h
  | x :: xs, l, u :: us, l', h, hg => by
    rw [mats] at h
    split at h
    · cases h
    · rename_i l1 h1
      exact mats_nz X xs l1 us l' h (mat_nz X x l u l1 h1 hg)
end
/-- no right term, no pair lies there -/
def Away (w : World) (g : Nat) : Prop := (∀ o op s, w.cell? ⟨g, o, none⟩ = some (.int .i64 op) → w.cell? ⟨g, o + 1, none⟩ = some (.string s) → op = 0) ∧ (∀ o s op s', w.cell? ⟨g, o, none⟩ = some (.string s) → w.cell? ⟨g, o + 1, none⟩ = some (.int .i64 op) → w.cell? ⟨g, o + 1 + 1, none⟩ = some (.string s') → False)
mutual
theorem Ar.away {B : Nat} {w w' : World} {g : Nat} (hg : Away w g) (hc : ∀ (b o : Nat), b ≠ g → w'.cell? ⟨b, o, none⟩ = w.cell? ⟨b, o, none⟩) : ∀ (t : Tm) {a : Option Addr} {n c : Nat}, nzTs (argsT t) → Ar B w t a n c → Ar B w' t a n c
  | .mk o s z l, a, n, c, hz, h => by
    rw [Ar] at h ⊢
    refine ⟨h.1, h.2.1, h.2.2.1, h.2.2.2.1, fun hn => ?_⟩
    obtain ⟨b, o, ha, hlt, hr⟩ := h.2.2.2.2 hn
    exact ⟨b, o, ha, hlt, Rw.away hg hc l hz hr⟩
theorem Rw.away {B : Nat} {w w' : World} {g : Nat} (hg : Away w g) (hc : ∀ (b o : Nat), b ≠ g → w'.cell? ⟨b, o, none⟩ = w.cell? ⟨b, o, none⟩) {b : Nat} : ∀ (l : List Tm) {o : Nat}, nzTs l → Rw B w b o l → Rw B w' b o l
  | [], o, _, h => by rw [Rw]; trivial
  | t :: l, o, hz, h => by
    rw [Rw] at h ⊢
    rw [nzTs] at hz
    obtain ⟨⟨a, n, c, h0, h1, h2, h3, h4⟩, h5⟩ := h
    have hne : b ≠ g := fun e => by
      subst e
      have h6 := hg.1 o _ _ h0 h1
      have h7 : nzT t := hz.1
      cases t with
      | mk o' s' z' l' => rw [nzT] at h7; exact h7.1 h6
    have hz2 : nzTs (argsT t) := by
      have h7 : nzT t := hz.1
      cases t with
      | mk o' s' z' l' => rw [nzT] at h7; exact h7.2
    exact ⟨⟨a, n, c, (hc b _ hne).trans h0, (hc b _ hne).trans h1, (hc b _ hne).trans h2, (hc b _ hne).trans h3, Ar.away hg hc t hz2 h4⟩, Rw.away hg hc l hz.2 h5⟩
end
theorem IsU.away {B : Nat} {w w' : World} {g : Nat} (hg : Away w g) (hc : ∀ (b o : Nat), b ≠ g → w'.cell? ⟨b, o, none⟩ = w.cell? ⟨b, o, none⟩) {a : Option Addr} {n c : Nat} {l : List Pr} (hz : ∀ q ∈ l, nzT q.t) (h : IsU B w a n c l) : IsU B w' a n c l :=
  ⟨h.1, h.2.1, h.2.2.1, h.2.2.2.1, fun hn => by
    obtain ⟨b, o, ha, hlt, hr⟩ := h.2.2.2.2 hn
    refine ⟨b, o, ha, hlt, fun i p hi => ?_⟩
    obtain ⟨a', n', c', q0, q1, q2, q3, q4, q5⟩ := hr i p hi
    have hne : b ≠ g := fun e => by subst e; exact hg.2 _ _ _ _ q0 q1 q2
    have hz2 : nzTs (argsT p.t) := by
      have h7 := hz p (List.mem_of_getElem? hi)
      cases hp : p.t with
      | mk o' s' z' l' => rw [hp, nzT] at h7; exact h7.2
    exact ⟨a', n', c', (hc b _ hne).trans q0, (hc b _ hne).trans q1, (hc b _ hne).trans q2, (hc b _ hne).trans q3, (hc b _ hne).trans q4, Ar.away hg hc _ hz2 q5⟩⟩
theorem away_term {w : World} {g : Nat} {s : ByteArray} {z : Int} {a : Option Addr} {n c : Nat} (h : TBox w g 0 s z a n c) : Away w g := by
  have hc : ∀ k, w.cell? ⟨g, k, none⟩ = (#[Value.int .i64 0, .string s, .int .i64 z, .slice a n c])[k]? := fun k => Blk.cell h k
  refine ⟨fun o op s' h0 h1 => ?_, fun o s1 op s2 h0 h1 h2 => ?_⟩
  · rw [hc] at h0 h1
    rcases o with _ | _ | _ | _ | o <;> simp at h0 h1
    first | exact h0.symm | exact h0 | omega
  · rw [hc] at h0 h1 h2
    rcases o with _ | _ | _ | _ | o <;> simp at h0 h1 h2
theorem away_one {w : World} {g : Nat} {v : Value} {t : TypeId} (h : Blk w g #[v] t) : Away w g := by
  have hc : ∀ k, w.cell? ⟨g, k, none⟩ = (#[v])[k]? := fun k => Blk.cell h k
  refine ⟨fun o op s' h0 h1 => ?_, fun o s1 op s2 h0 h1 h2 => ?_⟩
  · rw [hc] at h1; simp at h1
  · rw [hc] at h1; simp at h1
theorem set_cell_other (w : World) (g k b o : Nat) (v : Value) (hne : b ≠ g) : (w.setCell ⟨g, k, none⟩ v).cell? ⟨b, o, none⟩ = w.cell? ⟨b, o, none⟩ :=
  World.cell?_of_block (heap_setCell_other w ⟨g, k, none⟩ b v hne)
/-- four stores into such a block leave the pairs -/
theorem us_put {w : World} {g : Nat} (hg : Away w g) {A : Option Addr} {N C : Nat} {l : List Pr} (hz : ∀ q ∈ l, nzT q.t) (h : UsW w A N C l) (v0 v1 v2 v3 : Value) : UsW ((((w.setCell ⟨g, 0, none⟩ v0).setCell ⟨g, 1, none⟩ v1).setCell ⟨g, 2, none⟩ v2).setCell ⟨g, 3, none⟩ v3) A N C l := by
  have hs : ((((w.setCell ⟨g, 0, none⟩ v0).setCell ⟨g, 1, none⟩ v1).setCell ⟨g, 2, none⟩ v2).setCell ⟨g, 3, none⟩ v3).heap.size = w.heap.size := by simp
  unfold UsW
  rw [hs]
  exact IsU.away hg (fun b o hne => by rw [set_cell_other _ _ _ _ _ _ hne, set_cell_other _ _ _ _ _ _ hne, set_cell_other _ _ _ _ _ _ hne, set_cell_other _ _ _ _ _ _ hne]) hz h
end Go.Proofs.YtnhemglpbhnmdaaGreat.Mt
