/-
  What is proved: rows of claims of a call's own that grow by appends between calls.
-/
import Derived.Test.YtnhemglpbhnmdaaGreatBC
namespace Go.Proofs.YtnhemglpbhnmdaaGreat.C
open Go.RowKit L T
set_option linter.unusedVariables false
set_option linter.unusedSimpArgs false

def HdCP (P : Nat → Prop) (w : World) (h : Hc) (t : Cl) : Prop := h.op = opC t ∧ h.nm = nmC t ∧ h.so = soC t ∧ ArCP P w t h.k h.a h.n h.c
/-- a row of the call's own, of terms whose Args lie apart from it -/
def RowHC (B lo : Nat) (w : World) (v : Value) (lr : List Cl) (k : Nat) (hs : List Hc) : Prop :=
  hs.length = k ∧ OwnC w lo v hs ∧ ∀ (j : Nat) (h : Hc) (t : Cl), hs[j]? = some h → lr[j]? = some t → HdCP (fun b => NewB B lo w.heap.size b ∧ v.ownBlock ≠ some b) w h t
def RowQC (B lo : Nat) (w : World) (v : Value) (lr : List Cl) (k : Nat) : Prop := ∃ hs, RowHC B lo w v lr k hs
theorem RowQC.nil (B lo : Nat) (w : World) (lr : List Cl) : RowQC B lo w (.slice none 0 0) lr 0 := ⟨[], rfl, OwnC.nil _ _, fun j h t hj => by simp at hj⟩
theorem RowHC.below {B lo : Nat} {w w' : World} {v : Value} {lr : List Cl} {k : Nat} {hs : List Hc} (h : RowHC B lo w v lr k hs) (hb : Below w.heap.size w w') : RowHC B lo w' v lr k hs := by
  obtain ⟨h1, h2, h3⟩ := h
  refine ⟨h1, h2.below hb, fun j h t e1 e2 => ?_⟩
  obtain ⟨q1, q2, q3, q4⟩ := h3 j h t e1 e2
  exact ⟨q1, q2, q3, ArCP.to (fun b hp => hb.block b hp.1.1) (fun b hp => ⟨⟨Nat.lt_of_lt_of_le hp.1.1 hb.size, hp.1.2⟩, hp.2⟩) t q4⟩
/-- a term more: made by a call, put behind -/
theorem RowHC.step {B lo : Nat} {wr w4 w5 w6 : World} {v v' : Value} {lr : List Cl} {k : Nat} {hs : List Hc} {x : Cl} {K : SS} {A : Option Addr} {N C g : Nat} (hp : RowHC B lo wr v lr k hs) (hBl : B ≤ lo) (hlo : lo ≤ wr.heap.size)
    (hb4 : Below wr.heap.size wr w4) (hA : ArCP (NewB B wr.heap.size w4.heap.size) w4 x K A N C) (hb5 : Below w4.heap.size w4 w5) (hx : lr[k]? = some x)
    (ho : OwnC w6 lo v' (hs ++ [hcOf x K A N C])) (hg : w5.grownBy w6 v.ownBlock) (hv : v'.ownBlock = some g) (hat : v.ownBlock = some g ∨ g = w5.heap.size) : RowQC B lo w6 v' lr (k + 1) := by
  obtain ⟨h1, h2, h3⟩ := hp
  have s4 := hb4.size
  have s5 := hb5.size
  have s6 := hg.size
  have hown : ∀ q, v.ownBlock = some q → lo ≤ q ∧ q < wr.heap.size := fun q hq => World.ownsRow.lt h2 q hq
  refine ⟨hs ++ [hcOf x K A N C], by simp [h1], ho, fun j h t e1 e2 => ?_⟩
  rcases Nat.lt_or_ge j hs.length with hj | hj
  · rw [List.getElem?_append_left hj] at e1
    obtain ⟨q1, q2, q3, q4⟩ := h3 j h t e1 e2
    refine ⟨q1, q2, q3, ArCP.to (fun b hq => ?_) (fun b hq => ?_) t q4⟩
    · exact (hg.block b (by have := hq.1.1; omega) (fun e => hq.2 e.symm)).trans ((hb5.block b (by have := hq.1.1; omega)).trans (hb4.block b hq.1.1))
    · refine ⟨⟨by have := hq.1.1; omega, hq.1.2⟩, fun e => ?_⟩
      rw [hv] at e
      injection e with e
      subst e
      rcases hat with e | e
      · exact hq.2 e
      · have := hq.1.1; omega
  · have hjl : j < (hs ++ [hcOf x K A N C]).length := (List.getElem?_eq_some_iff.1 e1).1
    have hjk : j = k := by simp at hjl; omega
    subst hjk
    rw [List.getElem?_append_right hj] at e1
    have e3 : j - hs.length = 0 := by omega
    rw [e3] at e1
    simp only [List.getElem?_cons_zero, Option.some.injEq] at e1
    rw [hx] at e2
    injection e2 with e2
    subst e1 e2
    refine ⟨rfl, rfl, rfl, ArCP.to (P := NewB B wr.heap.size w4.heap.size) (fun b hq => ?_) (fun b hq => ?_) x hA⟩
    · refine (hg.block b (by have := hq.1; omega) (fun e => ?_)).trans (hb5.block b hq.1)
      have := hown b e.symm
      rcases hq.2 with h | h <;> omega
    · refine ⟨⟨by have := hq.1; omega, hq.2.imp id (fun h => by omega)⟩, fun e => ?_⟩
      rw [hv] at e
      injection e with e
      subst e
      rcases hat with e | e
      · have := hown g e
        rcases hq.2 with h | h <;> omega
      · have := hq.1; omega
/-- the whole row as a term's Args, elsewhere blocks may have changed -/
theorem RowQC.arP {B lo lo' : Nat} {w w' : World} {A : Option Addr} {n C : Nat} {lr : List Cl} {o : Int} {s z : ByteArray} {ts : List Tm} {K : SS} (hk : IsTP (NewB B lo' w'.heap.size) w' K ts) (hp : RowQC B lo w (.slice A n C) lr n) (hl : lr.length = n) (hlo : lo' ≤ lo) (hs' : w'.heap.size = w.heap.size) (hb : ∀ b, b < B ∨ lo ≤ b → w'.heap[b]? = w.heap[b]?) : ArCP (NewB B lo' w'.heap.size) w' (.mk o s z ts lr) K A n C := by
  obtain ⟨hs, h1, h2, h3⟩ := hp
  obtain ⟨A', c', hv, hc1, hc2, hc3, hc4⟩ := h2.slice
  injection hv with e1 e2 e3
  subst e1 e3
  rw [ArCP]
  refine ⟨hk, hl.symm, by omega, hc2, hc3, fun hn => ?_⟩
  obtain ⟨g, rfl, hg1, hg2⟩ := hc4 (by omega)
  refine ⟨g, 0, rfl, ⟨by omega, .inr (by omega)⟩, rwCP_of lr 0 fun k t hkt => ?_⟩
  have hk2 : k < hs.length := by have := (List.getElem?_eq_some_iff.1 hkt).1; omega
  obtain ⟨q1, q2, q3, q4⟩ := h3 k hs[k] t (List.getElem?_eq_getElem hk2) hkt
  obtain ⟨c0, c1, c2, c3, c4⟩ := h2.at hk2
  have hgb := hb g (.inr hg1)
  rw [Nat.zero_add]
  exact ⟨_, _, _, _, (World.cell?_of_block hgb).trans (by rw [← q1]; exact c0), (World.cell?_of_block hgb).trans (by rw [← q2]; exact c1), (World.cell?_of_block hgb).trans (by rw [← q3]; exact c2), (World.cell?_of_block hgb).trans c3, (World.cell?_of_block hgb).trans c4,
    ArCP.to (fun b hq => hb b hq.1.2) (fun b hq => ⟨by rw [hs']; exact hq.1.1, hq.1.2.imp id (fun h => by omega)⟩) t q4⟩
theorem RowHC.slice {B lo : Nat} {w : World} {v : Value} {lr : List Cl} {k : Nat} {hs : List Hc} (h : RowHC B lo w v lr k hs) : ∃ A c, v = .slice A k c ∧ w.ownsRow lo 25 5 v k (flatC hs) := by
  obtain ⟨h1, h2, _⟩ := h
  obtain ⟨A', c', hv, _⟩ := h2.slice
  exact ⟨A', c', by rw [← h1]; exact hv, by rw [← h1]; exact h2⟩
theorem ownsRow_belowC {w w' : World} {base n : Nat} {v : Value} {xs : List Value} (h : w.ownsRow base 25 5 v n xs) (hb : Below w.heap.size w w') : w'.ownsRow base 25 5 v n xs := by
  refine ⟨h.1, ?_⟩
  rcases h.2 with hn | ⟨g, cap, cur, rfl, h1, hg, rest⟩
  · exact .inl hn
  · exact .inr ⟨g, cap, cur, rfl, h1, by rw [hb.block g (Array.getElem?_eq_some_iff.1 hg).1]; exact hg, rest⟩
theorem RowHC.more {w : World} {lo k g cap : Nat} {hs : List Hc} (hl : hs.length = k) (x : Cl) (K : SS) (A : Option Addr) (N C : Nat) (h : w.ownsRow lo 25 5 (.slice (some ⟨g, 0, none⟩) (k + 1) cap) (k + 1) (flatC hs ++ [.int .i64 (opC x), .string (nmC x), .string (soC x), .slice K.a K.n K.c, .slice A N C])) : OwnC w lo (.slice (some ⟨g, 0, none⟩) (k + 1) cap) (hs ++ [hcOf x K A N C]) := by
  unfold OwnC
  rw [List.length_append, flatC_app, hl]
  exact h
end Go.Proofs.YtnhemglpbhnmdaaGreat.C
