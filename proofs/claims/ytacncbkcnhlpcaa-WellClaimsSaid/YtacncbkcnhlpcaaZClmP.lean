/-
  What is proved: claims read in blocks of a given kind, which stand when those blocks stand.
-/
import Derived.Test.YtacncbkcnhlpcaaZClmC
import Derived.Test.YtacncbkcnhlpcaaZLibP
namespace Go.Proofs.Ytacncbkcnhlpcaa.C
open Go.RowKit L T
set_option linter.unusedVariables false
set_option linter.unusedSimpArgs false

def IsTP (P : Nat → Prop) (w : World) (k : SS) (l : List Tm) : Prop := ArP P w (.mk 0 ⟨#[]⟩ 0 l) k.a k.n k.c
mutual
def ArCP (P : Nat → Prop) (w : World) : Cl → SS → Option Addr → Nat → Nat → Prop
  | .mk _ _ _ ts l, k, a, n, c => IsTP P w k ts ∧ n = l.length ∧ n ≤ c ∧ c ≤ maxLen ∧ (a = none → c = 0) ∧ (0 < n → ∃ b o, a = some ⟨b, o, none⟩ ∧ P b ∧ RwCP P w b o l)
def RwCP (P : Nat → Prop) (w : World) (b : Nat) : Nat → List Cl → Prop
  | _, [] => True
  | o, t :: l => (∃ k a n c, w.cell? ⟨b, o, none⟩ = some (.int .i64 (opC t)) ∧ w.cell? ⟨b, o + 1, none⟩ = some (.string (nmC t)) ∧ w.cell? ⟨b, o + 1 + 1, none⟩ = some (.string (soC t)) ∧ w.cell? ⟨b, o + 1 + 1 + 1, none⟩ = some (.slice k.a k.n k.c) ∧ w.cell? ⟨b, o + 1 + 1 + 1 + 1, none⟩ = some (.slice a n c) ∧ ArCP P w t k a n c) ∧ RwCP P w b (o + 5) l
end
mutual
theorem ArCP.to {P Q : Nat → Prop} {w w' : World} (hb : ∀ b, P b → w'.heap[b]? = w.heap[b]?) (hq : ∀ b, P b → Q b) : ∀ (t : Cl) {k : SS} {a : Option Addr} {n c : Nat}, ArCP P w t k a n c → ArCP Q w' t k a n c
  | .mk o s z ts l, k, a, n, c, h => by
    rw [ArCP] at h ⊢
    refine ⟨ArP.to hb hq _ h.1, h.2.1, h.2.2.1, h.2.2.2.1, h.2.2.2.2.1, fun hn => ?_⟩
    obtain ⟨b, o, ha, hp, hr⟩ := h.2.2.2.2.2 hn
    exact ⟨b, o, ha, hq b hp, RwCP.to hb hq hp l hr⟩
theorem RwCP.to {P Q : Nat → Prop} {w w' : World} (hb : ∀ b, P b → w'.heap[b]? = w.heap[b]?) (hq : ∀ b, P b → Q b) {b : Nat} (hp : P b) : ∀ (l : List Cl) {o : Nat}, RwCP P w b o l → RwCP Q w' b o l
  | [], o, h => by rw [RwCP]; trivial
  | t :: l, o, h => by
    rw [RwCP] at h ⊢
    obtain ⟨⟨k, a, n, c, h0, h1, h2, h3, h4, h5⟩, h6⟩ := h
    exact ⟨⟨k, a, n, c, (World.cell?_of_block (hb b hp)).trans h0, (World.cell?_of_block (hb b hp)).trans h1, (World.cell?_of_block (hb b hp)).trans h2, (World.cell?_of_block (hb b hp)).trans h3, (World.cell?_of_block (hb b hp)).trans h4, ArCP.to hb hq t h5⟩, RwCP.to hb hq hp l h6⟩
end
mutual
theorem ArCP.ar {P : Nat → Prop} {w : World} {B : Nat} (hq : ∀ b, P b → b < B) : ∀ (t : Cl) {k : SS} {a : Option Addr} {n c : Nat}, ArCP P w t k a n c → ArC B w t k a n c
  | .mk o s z ts l, k, a, n, c, h => by
    rw [ArCP] at h
    rw [ArC]
    refine ⟨ar_isT.1 (ArP.ar hq _ h.1), h.2.1, h.2.2.1, h.2.2.2.1, h.2.2.2.2.1, fun hn => ?_⟩
    obtain ⟨b, o, ha, hp, hr⟩ := h.2.2.2.2.2 hn
    exact ⟨b, o, ha, hq b hp, RwCP.rw hq l hr⟩
theorem RwCP.rw {P : Nat → Prop} {w : World} {B : Nat} (hq : ∀ b, P b → b < B) {b : Nat} : ∀ (l : List Cl) {o : Nat}, RwCP P w b o l → RwC B w b o l
  | [], o, h => by rw [RwC]; trivial
  | t :: l, o, h => by
    rw [RwCP] at h
    rw [RwC]
    obtain ⟨⟨k, a, n, c, h0, h1, h2, h3, h4, h5⟩, h6⟩ := h
    exact ⟨⟨k, a, n, c, h0, h1, h2, h3, h4, ArCP.ar hq t h5⟩, RwCP.rw hq l h6⟩
end
mutual
theorem ArC.p {w : World} {B : Nat} : ∀ (t : Cl) {k : SS} {a : Option Addr} {n c : Nat}, ArC B w t k a n c → ArCP (fun b => b < B) w t k a n c
  | .mk o s z ts l, k, a, n, c, h => by
    rw [ArC] at h
    rw [ArCP]
    refine ⟨Ar.p _ (ar_isT.2 h.1), h.2.1, h.2.2.1, h.2.2.2.1, h.2.2.2.2.1, fun hn => ?_⟩
    obtain ⟨b, o, ha, hp, hr⟩ := h.2.2.2.2.2 hn
    exact ⟨b, o, ha, hp, RwC.p l hr⟩
theorem RwC.p {w : World} {B : Nat} {b : Nat} : ∀ (l : List Cl) {o : Nat}, RwC B w b o l → RwCP (fun b => b < B) w b o l
  | [], o, h => by rw [RwCP]; trivial
  | t :: l, o, h => by
    rw [RwC] at h
    rw [RwCP]
    obtain ⟨⟨k, a, n, c, h0, h1, h2, h3, h4, h5⟩, h6⟩ := h
    exact ⟨⟨k, a, n, c, h0, h1, h2, h3, h4, ArC.p t h5⟩, RwC.p l h6⟩
end
/-! what lies in fresh blocks is read in these blocks -/
theorem Row.rwP {P : Nat → Prop} {w : World} {g : Nat} {hs : List Hd} {l : List Tm} (hr : Row w g hs) (hl : hs.length = l.length) (h : ∀ k (hk : k < l.length) (hk2 : k < hs.length), (hs[k].op = opT l[k] ∧ hs[k].nm = nameT l[k] ∧ hs[k].nu = numT l[k]) ∧ ArP P w l[k] hs[k].a hs[k].n hs[k].c) : RwP P w g 0 l := by
  refine rwP_of l 0 fun k t hk => ?_
  obtain ⟨hk1, rfl⟩ := List.getElem?_eq_some_iff.1 hk
  have hk2 : k < hs.length := by omega
  obtain ⟨c0, c1, c2, c3⟩ := hr.at hk2
  have h5 := h k hk1 hk2
  rw [Nat.zero_add]
  exact ⟨_, _, _, by rw [← h5.1.1]; exact c0, by rw [← h5.1.2.1]; exact c1, by rw [← h5.1.2.2]; exact c2, c3, h5.2⟩
mutual
theorem Fr.arP {w : World} {P : Nat → Prop} : ∀ (t : Tm) {lo hi : Nat} {h : Hd}, (∀ b, lo ≤ b → b < hi → P b) → Fr w t lo hi h → ArP P w t h.a h.n h.c
  | .mk o s z l, lo, hi, h, hp, hf => by
    rw [Fr] at hf
    rw [ArP]
    refine ⟨hf.2.1.1, hf.2.1.2.1, hf.2.1.2.2.1, hf.2.1.2.2.2, fun hn => ?_⟩
    obtain ⟨g, hs, h1, h2, h3, h4⟩ := hf.2.2.2 hn
    have := FrL.le h4
    exact ⟨g, 0, h1, hp g h2 (by omega), Row.rwP h3 (FrL.len h4) (FrL.arP l (fun b x y => hp b (by omega) y) h4)⟩
theorem FrL.arP {w : World} {P : Nat → Prop} : ∀ (l : List Tm) {lo hi : Nat} {hs : List Hd}, (∀ b, lo ≤ b → b < hi → P b) → FrL w l lo hi hs → ∀ k (hk : k < l.length) (hk2 : k < hs.length), (hs[k].op = opT l[k] ∧ hs[k].nm = nameT l[k] ∧ hs[k].nu = numT l[k]) ∧ ArP P w l[k] hs[k].a hs[k].n hs[k].c
  | [], lo, hi, hs, hp, hf, k, hk, _ => absurd hk (by simp)
  | t :: l, lo, hi, hs, hp, hf, k, hk, hk2 => by
    rw [FrL] at hf
    obtain ⟨h, hs', mid, rfl, h1, h2⟩ := hf
    have l2 := FrL.le h2
    have l1 := h1.le
    cases k with
    | zero => exact ⟨h1.hd, Fr.arP t (fun b x y => hp b x (by omega)) h1⟩
    | succ k => exact FrL.arP l (fun b x y => hp b (by omega) y) h2 k (by simpa using hk) (by simpa using hk2)
end
theorem rwCP_of {P : Nat → Prop} {w : World} {b : Nat} : ∀ (l : List Cl) (o : Nat), (∀ i t, l[i]? = some t → ∃ k a n c, w.cell? ⟨b, o + i * 5, none⟩ = some (.int .i64 (opC t)) ∧ w.cell? ⟨b, o + i * 5 + 1, none⟩ = some (.string (nmC t)) ∧ w.cell? ⟨b, o + i * 5 + 1 + 1, none⟩ = some (.string (soC t)) ∧ w.cell? ⟨b, o + i * 5 + 1 + 1 + 1, none⟩ = some (.slice k.a k.n k.c) ∧ w.cell? ⟨b, o + i * 5 + 1 + 1 + 1 + 1, none⟩ = some (.slice a n c) ∧ ArCP P w t k a n c) → RwCP P w b o l
  | [], o, h => by rw [RwCP]; trivial
  | t :: l, o, h => by
    rw [RwCP]
    refine ⟨?_, rwCP_of l (o + 5) fun i t' hk => ?_⟩
    · have := h 0 t rfl
      rw [Nat.zero_mul, Nat.add_zero] at this
      exact this
    · have := h (i + 1) t' (by simpa using hk)
      rw [show o + (i + 1) * 5 = o + 5 + i * 5 by omega] at this
      exact this
mutual
theorem FrC.arP {w : World} {P : Nat → Prop} : ∀ (t : Cl) {lo hi : Nat} {h : Hc}, (∀ b, lo ≤ b → b < hi → P b) → FrC w t lo hi h → ArCP P w t h.k h.a h.n h.c
  | .mk o s z ts l, lo, hi, h, hp, hf => by
    rw [FrC] at hf
    rw [ArCP]
    obtain ⟨h0, mid, h1, h2, h3, h4⟩ := hf
    have l1 := h1.le
    refine ⟨Fr.arP _ (fun b x y => hp b x (by omega)) h1, h2.1, h2.2.1, h2.2.2.1, h2.2.2.2, fun hn => ?_⟩
    obtain ⟨g, hs, e1, e2, e3, e4⟩ := h4 hn
    have := FrCL.le e4
    have hl := FrCL.len e4
    refine ⟨g, 0, e1, hp g (by omega) (by omega), rwCP_of l 0 fun k t hk => ?_⟩
    obtain ⟨hk1, rfl⟩ := List.getElem?_eq_some_iff.1 hk
    have hk2 : k < hs.length := by omega
    obtain ⟨c0, c1, c2, c3, c4⟩ := e3.at hk2
    have h5 := FrCL.arP l (fun b x y => hp b (by omega) y) e4 k hk1 hk2
    rw [Nat.zero_add]
    exact ⟨_, _, _, _, by rw [← h5.1.1]; exact c0, by rw [← h5.1.2.1]; exact c1, by rw [← h5.1.2.2]; exact c2, c3, c4, h5.2⟩
theorem FrCL.arP {w : World} {P : Nat → Prop} : ∀ (l : List Cl) {lo hi : Nat} {hs : List Hc}, (∀ b, lo ≤ b → b < hi → P b) → FrCL w l lo hi hs → ∀ k (hk : k < l.length) (hk2 : k < hs.length), (hs[k].op = opC l[k] ∧ hs[k].nm = nmC l[k] ∧ hs[k].so = soC l[k]) ∧ ArCP P w l[k] hs[k].k hs[k].a hs[k].n hs[k].c
  | [], lo, hi, hs, hp, hf, k, hk, _ => absurd hk (by simp)
  | t :: l, lo, hi, hs, hp, hf, k, hk, hk2 => by
    rw [FrCL] at hf
    obtain ⟨h, hs', mid, rfl, h1, h2⟩ := hf
    have l2 := FrCL.le h2
    have l1 := h1.le
    cases k with
    | zero => exact ⟨h1.hd, FrC.arP t (fun b x y => hp b x (by omega)) h1⟩
    | succ k => exact FrCL.arP l (fun b x y => hp b (by omega) y) h2 k (by simpa using hk) (by simpa using hk2)
end
/-! it stands where the cells that are read stand -/
mutual
theorem ArP.toC {P Q : Nat → Prop} {w w' : World} (hb : ∀ b o v, P b → w.cell? ⟨b, o, none⟩ = some v → w'.cell? ⟨b, o, none⟩ = some v) (hq : ∀ b, P b → Q b) : ∀ (t : Tm) {a : Option Addr} {n c : Nat}, ArP P w t a n c → ArP Q w' t a n c
  | .mk o s z l, a, n, c, h => by
    rw [ArP] at h ⊢
    refine ⟨h.1, h.2.1, h.2.2.1, h.2.2.2.1, fun hn => ?_⟩
    obtain ⟨b, o, ha, hp, hr⟩ := h.2.2.2.2 hn
    exact ⟨b, o, ha, hq b hp, RwP.toC hb hq hp l hr⟩
theorem RwP.toC {P Q : Nat → Prop} {w w' : World} (hb : ∀ b o v, P b → w.cell? ⟨b, o, none⟩ = some v → w'.cell? ⟨b, o, none⟩ = some v) (hq : ∀ b, P b → Q b) {b : Nat} (hp : P b) : ∀ (l : List Tm) {o : Nat}, RwP P w b o l → RwP Q w' b o l
  | [], o, h => by rw [RwP]; trivial
  | t :: l, o, h => by
    rw [RwP] at h ⊢
    obtain ⟨⟨a, n, c, h0, h1, h2, h3, h4⟩, h5⟩ := h
    exact ⟨⟨a, n, c, hb _ _ _ hp h0, hb _ _ _ hp h1, hb _ _ _ hp h2, hb _ _ _ hp h3, ArP.toC hb hq t h4⟩, RwP.toC hb hq hp l h5⟩
end
mutual
theorem ArCP.toC {P Q : Nat → Prop} {w w' : World} (hb : ∀ b o v, P b → w.cell? ⟨b, o, none⟩ = some v → w'.cell? ⟨b, o, none⟩ = some v) (hq : ∀ b, P b → Q b) : ∀ (t : Cl) {k : SS} {a : Option Addr} {n c : Nat}, ArCP P w t k a n c → ArCP Q w' t k a n c
  | .mk o s z ts l, k, a, n, c, h => by
    rw [ArCP] at h ⊢
    refine ⟨ArP.toC hb hq _ h.1, h.2.1, h.2.2.1, h.2.2.2.1, h.2.2.2.2.1, fun hn => ?_⟩
    obtain ⟨b, o, ha, hp, hr⟩ := h.2.2.2.2.2 hn
    exact ⟨b, o, ha, hq b hp, RwCP.toC hb hq hp l hr⟩
theorem RwCP.toC {P Q : Nat → Prop} {w w' : World} (hb : ∀ b o v, P b → w.cell? ⟨b, o, none⟩ = some v → w'.cell? ⟨b, o, none⟩ = some v) (hq : ∀ b, P b → Q b) {b : Nat} (hp : P b) : ∀ (l : List Cl) {o : Nat}, RwCP P w b o l → RwCP Q w' b o l
  | [], o, h => by rw [RwCP]; trivial
  | t :: l, o, h => by
    rw [RwCP] at h ⊢
    obtain ⟨⟨k, a, n, c, h0, h1, h2, h3, h4, h5⟩, h6⟩ := h
    exact ⟨⟨k, a, n, c, hb _ _ _ hp h0, hb _ _ _ hp h1, hb _ _ _ hp h2, hb _ _ _ hp h3, hb _ _ _ hp h4, ArCP.toC hb hq t h5⟩, RwCP.toC hb hq hp l h6⟩
end
end Go.Proofs.Ytacncbkcnhlpcaa.C
