/-
  What is proved: terms read in blocks of a given kind; rows of terms that grow by appends between calls that make terms.
-/
import Derived.Test.YtacncbkcnhlpcaaZLibF
import Derived.Test.YtacncbkcnhlpcaaBL
namespace Go.Proofs.Ytacncbkcnhlpcaa.T
open Go.RowKit L
set_option linter.unusedVariables false
set_option linter.unusedSimpArgs false

mutual
def ArP (P : Nat → Prop) (w : World) : Tm → Option Addr → Nat → Nat → Prop
  | .mk _ _ _ l, a, n, c => n = l.length ∧ n ≤ c ∧ c ≤ maxLen ∧ (a = none → c = 0) ∧ (0 < n → ∃ b o, a = some ⟨b, o, none⟩ ∧ P b ∧ RwP P w b o l)
def RwP (P : Nat → Prop) (w : World) (b : Nat) : Nat → List Tm → Prop
  | _, [] => True
  | o, t :: l => (∃ a n c, w.cell? ⟨b, o, none⟩ = some (.int .i64 (opT t)) ∧ w.cell? ⟨b, o + 1, none⟩ = some (.string (nameT t)) ∧ w.cell? ⟨b, o + 1 + 1, none⟩ = some (.int .i64 (numT t)) ∧ w.cell? ⟨b, o + 1 + 1 + 1, none⟩ = some (.slice a n c) ∧ ArP P w t a n c) ∧ RwP P w b (o + 4) l
end
mutual
theorem ArP.to {P Q : Nat → Prop} {w w' : World} (hb : ∀ b, P b → w'.heap[b]? = w.heap[b]?) (hq : ∀ b, P b → Q b) : ∀ (t : Tm) {a : Option Addr} {n c : Nat}, ArP P w t a n c → ArP Q w' t a n c
  | .mk o s z l, a, n, c, h => by
    rw [ArP] at h ⊢
    refine ⟨h.1, h.2.1, h.2.2.1, h.2.2.2.1, fun hn => ?_⟩
    obtain ⟨b, o, ha, hp, hr⟩ := h.2.2.2.2 hn
    exact ⟨b, o, ha, hq b hp, RwP.to hb hq hp l hr⟩
theorem RwP.to {P Q : Nat → Prop} {w w' : World} (hb : ∀ b, P b → w'.heap[b]? = w.heap[b]?) (hq : ∀ b, P b → Q b) {b : Nat} (hp : P b) : ∀ (l : List Tm) {o : Nat}, RwP P w b o l → RwP Q w' b o l
  | [], o, h => by rw [RwP]; trivial
  | t :: l, o, h => by
    rw [RwP] at h ⊢
    obtain ⟨⟨a, n, c, h0, h1, h2, h3, h4⟩, h5⟩ := h
    exact ⟨⟨a, n, c, (World.cell?_of_block (hb b hp)).trans h0, (World.cell?_of_block (hb b hp)).trans h1, (World.cell?_of_block (hb b hp)).trans h2, (World.cell?_of_block (hb b hp)).trans h3, ArP.to hb hq t h4⟩, RwP.to hb hq hp l h5⟩
end
mutual
theorem ArP.ar {P : Nat → Prop} {w : World} {B : Nat} (hq : ∀ b, P b → b < B) : ∀ (t : Tm) {a : Option Addr} {n c : Nat}, ArP P w t a n c → Ar B w t a n c
  | .mk o s z l, a, n, c, h => by
    rw [ArP] at h
    rw [Ar]
    refine ⟨h.1, h.2.1, h.2.2.1, h.2.2.2.1, fun hn => ?_⟩
    obtain ⟨b, o, ha, hp, hr⟩ := h.2.2.2.2 hn
    exact ⟨b, o, ha, hq b hp, RwP.rw hq l hr⟩
theorem RwP.rw {P : Nat → Prop} {w : World} {B : Nat} (hq : ∀ b, P b → b < B) {b : Nat} : ∀ (l : List Tm) {o : Nat}, RwP P w b o l → Rw B w b o l
  | [], o, h => by rw [Rw]; trivial
  | t :: l, o, h => by
    rw [RwP] at h
    rw [Rw]
    obtain ⟨⟨a, n, c, h0, h1, h2, h3, h4⟩, h5⟩ := h
    exact ⟨⟨a, n, c, h0, h1, h2, h3, ArP.ar hq t h4⟩, RwP.rw hq l h5⟩
end
mutual
theorem Ar.p {w : World} {B : Nat} : ∀ (t : Tm) {a : Option Addr} {n c : Nat}, Ar B w t a n c → ArP (fun b => b < B) w t a n c
  | .mk o s z l, a, n, c, h => by
    rw [Ar] at h
    rw [ArP]
    refine ⟨h.1, h.2.1, h.2.2.1, h.2.2.2.1, fun hn => ?_⟩
    obtain ⟨b, o, ha, hp, hr⟩ := h.2.2.2.2 hn
    exact ⟨b, o, ha, hp, Rw.p l hr⟩
theorem Rw.p {w : World} {B : Nat} {b : Nat} : ∀ (l : List Tm) {o : Nat}, Rw B w b o l → RwP (fun b => b < B) w b o l
  | [], o, h => by rw [RwP]; trivial
  | t :: l, o, h => by
    rw [Rw] at h
    rw [RwP]
    obtain ⟨⟨a, n, c, h0, h1, h2, h3, h4⟩, h5⟩ := h
    exact ⟨⟨a, n, c, h0, h1, h2, h3, Ar.p t h4⟩, Rw.p l h5⟩
end
theorem rwP_of {P : Nat → Prop} {w : World} {b : Nat} : ∀ (l : List Tm) (o : Nat), (∀ k t, l[k]? = some t → ∃ a n c, w.cell? ⟨b, o + k * 4, none⟩ = some (.int .i64 (opT t)) ∧ w.cell? ⟨b, o + k * 4 + 1, none⟩ = some (.string (nameT t)) ∧ w.cell? ⟨b, o + k * 4 + 1 + 1, none⟩ = some (.int .i64 (numT t)) ∧ w.cell? ⟨b, o + k * 4 + 1 + 1 + 1, none⟩ = some (.slice a n c) ∧ ArP P w t a n c) → RwP P w b o l
  | [], o, h => by rw [RwP]; trivial
  | t :: l, o, h => by
    rw [RwP]
    refine ⟨?_, rwP_of l (o + 4) fun k t' hk => ?_⟩
    · have := h 0 t rfl
      rw [Nat.zero_mul, Nat.add_zero] at this
      exact this
    · have := h (k + 1) t' (by simpa using hk)
      rw [show o + (k + 1) * 4 = o + 4 + k * 4 by omega] at this
      exact this

/-- a head and its term -/
def HdP (P : Nat → Prop) (w : World) (h : Hd) (t : Tm) : Prop := h.op = opT t ∧ h.nm = nameT t ∧ h.nu = numT t ∧ ArP P w t h.a h.n h.c
/-- the blocks of what a call has made, and of what was there -/
def NewB (B lo hi : Nat) (b : Nat) : Prop := b < hi ∧ (b < B ∨ lo ≤ b)
/-- a row of the call's own, of terms whose Args lie apart from it -/
def RowH (B lo : Nat) (w : World) (v : Value) (lr : List Tm) (k : Nat) (hs : List Hd) : Prop :=
  hs.length = k ∧ OwnT w lo v hs ∧ ∀ (j : Nat) (h : Hd) (t : Tm), hs[j]? = some h → lr[j]? = some t → HdP (fun b => NewB B lo w.heap.size b ∧ v.ownBlock ≠ some b) w h t
def RowP (B lo : Nat) (w : World) (v : Value) (lr : List Tm) (k : Nat) : Prop := ∃ hs, RowH B lo w v lr k hs
theorem RowP.nil (B lo : Nat) (w : World) (lr : List Tm) : RowP B lo w (.slice none 0 0) lr 0 := ⟨[], rfl, OwnT.nil _ _, fun j h t hj => by simp at hj⟩
theorem RowH.below {B lo : Nat} {w w' : World} {v : Value} {lr : List Tm} {k : Nat} {hs : List Hd} (h : RowH B lo w v lr k hs) (hb : Below w.heap.size w w') : RowH B lo w' v lr k hs := by
  obtain ⟨h1, h2, h3⟩ := h
  refine ⟨h1, h2.below hb, fun j h t e1 e2 => ?_⟩
  obtain ⟨q1, q2, q3, q4⟩ := h3 j h t e1 e2
  exact ⟨q1, q2, q3, ArP.to (fun b hp => hb.block b hp.1.1) (fun b hp => ⟨⟨Nat.lt_of_lt_of_le hp.1.1 hb.size, hp.1.2⟩, hp.2⟩) t q4⟩
/-- a term more: made by a call, put behind -/
theorem RowH.step {B lo : Nat} {wr w4 w5 w6 : World} {v v' : Value} {lr : List Tm} {k : Nat} {hs : List Hd} {x : Tm} {A : Option Addr} {N C g : Nat} (hp : RowH B lo wr v lr k hs) (hBl : B ≤ lo) (hlo : lo ≤ wr.heap.size)
    (hb4 : Below wr.heap.size wr w4) (hA : ArP (NewB B wr.heap.size w4.heap.size) w4 x A N C) (hb5 : Below w4.heap.size w4 w5) (hx : lr[k]? = some x)
    (ho : OwnT w6 lo v' (hs ++ [hdOf x A N C])) (hg : w5.grownBy w6 v.ownBlock) (hv : v'.ownBlock = some g) (hat : v.ownBlock = some g ∨ g = w5.heap.size) : RowP B lo w6 v' lr (k + 1) := by
  obtain ⟨h1, h2, h3⟩ := hp
  have s4 := hb4.size
  have s5 := hb5.size
  have s6 := hg.size
  have hown : ∀ q, v.ownBlock = some q → lo ≤ q ∧ q < wr.heap.size := fun q hq => World.ownsRow.lt h2 q hq
  refine ⟨hs ++ [hdOf x A N C], by simp [h1], ho, fun j h t e1 e2 => ?_⟩
  rcases Nat.lt_or_ge j hs.length with hj | hj
  · rw [List.getElem?_append_left hj] at e1
    obtain ⟨q1, q2, q3, q4⟩ := h3 j h t e1 e2
    refine ⟨q1, q2, q3, ArP.to (fun b hq => ?_) (fun b hq => ?_) t q4⟩
    · exact (hg.block b (by have := hq.1.1; omega) (fun e => hq.2 e.symm)).trans ((hb5.block b (by have := hq.1.1; omega)).trans (hb4.block b hq.1.1))
    · refine ⟨⟨by have := hq.1.1; omega, hq.1.2⟩, fun e => ?_⟩
      rw [hv] at e
      injection e with e
      subst e
      rcases hat with e | e
      · exact hq.2 e
      · have := hq.1.1; omega
  · have hjl : j < (hs ++ [hdOf x A N C]).length := (List.getElem?_eq_some_iff.1 e1).1
    have hjk : j = k := by simp at hjl; omega
    subst hjk
    rw [List.getElem?_append_right hj] at e1
    have e3 : j - hs.length = 0 := by omega
    rw [e3] at e1
    simp only [List.getElem?_cons_zero, Option.some.injEq] at e1
    rw [hx] at e2
    injection e2 with e2
    subst e1 e2
    refine ⟨rfl, rfl, rfl, ArP.to (P := NewB B wr.heap.size w4.heap.size) (fun b hq => ?_) (fun b hq => ?_) x hA⟩
    · refine (hg.block b (by have := hq.1; omega) (fun e => ?_)).trans (hb5.block b hq.1)
      have := hown b e.symm
      rcases hq.2 with h | h <;> omega
    · refine ⟨⟨by have := hq.1; omega, hq.2.imp id (fun h => by omega)⟩, fun e => ?_⟩
      rw [hv] at e
      injection e with e
      subst e
      rcases hat with e | e
      · have := hown g e
        rcases hq.2 with h | h <;> omega
      · have := hq.1; omega
/-- the whole row as a term's Args, elsewhere blocks may have changed -/
theorem RowP.arP {B lo lo' : Nat} {w w' : World} {A : Option Addr} {n C : Nat} {lr : List Tm} {o : Int} {s : ByteArray} {z : Int} (hp : RowP B lo w (.slice A n C) lr n) (hl : lr.length = n) (hlo : lo' ≤ lo) (hs' : w'.heap.size = w.heap.size) (hb : ∀ b, b < B ∨ lo ≤ b → w'.heap[b]? = w.heap[b]?) : ArP (NewB B lo' w'.heap.size) w' (.mk o s z lr) A n C := by
  obtain ⟨hs, h1, h2, h3⟩ := hp
  obtain ⟨A', c', hv, hc1, hc2, hc3, hc4⟩ := h2.slice
  injection hv with e1 e2 e3
  subst e1 e3
  rw [ArP]
  refine ⟨hl.symm, by omega, hc2, hc3, fun hn => ?_⟩
  obtain ⟨g, rfl, hg1, hg2⟩ := hc4 (by omega)
  refine ⟨g, 0, rfl, ⟨by omega, .inr (by omega)⟩, rwP_of lr 0 fun k t hk => ?_⟩
  have hk2 : k < hs.length := by have := (List.getElem?_eq_some_iff.1 hk).1; omega
  obtain ⟨q1, q2, q3, q4⟩ := h3 k hs[k] t (List.getElem?_eq_getElem hk2) hk
  obtain ⟨c0, c1, c2, c3⟩ := h2.at hk2
  have hgb := hb g (.inr hg1)
  rw [Nat.zero_add]
  exact ⟨_, _, _, (World.cell?_of_block hgb).trans (by rw [← q1]; exact c0), (World.cell?_of_block hgb).trans (by rw [← q2]; exact c1), (World.cell?_of_block hgb).trans (by rw [← q3]; exact c2), (World.cell?_of_block hgb).trans c3,
    ArP.to (fun b hq => hb b hq.1.2) (fun b hq => ⟨by rw [hs']; exact hq.1.1, hq.1.2.imp id (fun h => by omega)⟩) t q4⟩
theorem RowH.slice {B lo : Nat} {w : World} {v : Value} {lr : List Tm} {k : Nat} {hs : List Hd} (h : RowH B lo w v lr k hs) : ∃ A c, v = .slice A k c ∧ w.ownsRow lo 33 4 v k (flatH hs) := by
  obtain ⟨h1, h2, _⟩ := h
  obtain ⟨A', c', hv, _⟩ := h2.slice
  exact ⟨A', c', by rw [← h1]; exact hv, by rw [← h1]; exact h2⟩
theorem ownsRow_below {w w' : World} {base n : Nat} {v : Value} {xs : List Value} (h : w.ownsRow base 33 4 v n xs) (hb : Below w.heap.size w w') : w'.ownsRow base 33 4 v n xs := by
  refine ⟨h.1, ?_⟩
  rcases h.2 with hn | ⟨g, cap, cur, rfl, h1, hg, rest⟩
  · exact .inl hn
  · exact .inr ⟨g, cap, cur, rfl, h1, by rw [hb.block g (Array.getElem?_eq_some_iff.1 hg).1]; exact hg, rest⟩
theorem RowH.more {w : World} {lo k g cap : Nat} {hs : List Hd} (hl : hs.length = k) (x : Tm) (A : Option Addr) (N C : Nat) (h : w.ownsRow lo 33 4 (.slice (some ⟨g, 0, none⟩) (k + 1) cap) (k + 1) (flatH hs ++ [.int .i64 (opT x), .string (nameT x), .int .i64 (numT x), .slice A N C])) : OwnT w lo (.slice (some ⟨g, 0, none⟩) (k + 1) cap) (hs ++ [hdOf x A N C]) := by
  unfold OwnT
  rw [List.length_append, flat_app, hl]
  exact h
end Go.Proofs.Ytacncbkcnhlpcaa.T
