/-
  What is proved: what the document's Named returns: a claim that is alike but for the names of binders, and what is left of the names.
-/
import Derived.Test.YteedfbbcboehgaaZSbNa
import Derived.Test.YteedfbbcboehgaaBM
import Derived.Test.YteedfbbcboehgaaZSbMc
import Derived.Test.YteedfbbcboehgaaBL
namespace Go.Proofs.Yteedfbbcboehgaa.U
open Go.RowKit L T C B
set_option linter.unusedVariables false
set_option linter.unusedSimpArgs false

/-- the blocks below B, and those from s on below s' -/
def OldNew (B s s' : Nat) (b : Nat) : Prop := b < B ∨ (s ≤ b ∧ b < s')
def NmRes (w0 : World) (t : Cl) (w : World) (e : Ending) (w' : World) : Prop :=
  ∃ (d : Cl) (K0 : Option Addr) (K1 K2 : Nat) (A2 : Option Addr) (N2 C2 : Nat) (A3 : Option Addr) (n3 c3 : Nat) (X3 : List ByteArray), e = .returned (.tuple #[.agg #[.int .i64 (opC d), .string (nmC d), .string (soC d), .slice K0 K1 K2, .slice A2 N2 C2], .slice A3 n3 c3]) ∧ liC t d ∧ ArCP (OldNew w0.heap.size w.heap.size w'.heap.size) w' d ⟨K0, K1, K2⟩ A2 N2 C2 ∧ SlS w0 A3 n3 c3 X3 ∧ n3 ≤ 9223372036854775807 ∧ Below w.heap.size w w'
def NmOk (w0 : World) (t : Cl) : Prop := ∀ (ks : SS) (a : Option Addr) (m c : Nat) (A : Option Addr) (n' c' : Nat) (X : List ByteArray) (w : World), wt t ≤ 1000000 → ArC w0.heap.size w0 t ks a m c → SlS w0 A n' c' X → n' ≤ 9223372036854775807 → Below w0.heap.size w0 w → w0.heap.size ≤ w.heap.size →
  Calls Try.prog 51 #[.agg #[.int .i64 (opC t), .string (nmC t), .string (soC t), .slice ks.a ks.n ks.c, .slice a m c], .slice A n' c'] w fun e w' => NmRes w0 t w e w'
theorem SlS.tail {w : World} {b o n c : Nat} {X : List ByteArray} (h : SlS w (some ⟨b, o, none⟩) n c X) (hn : 0 < n) : SlS w (some ⟨b, o + 1, none⟩) (n - 1) (c - 1) X.tail := by
  have hl := h.1.1
  refine ⟨⟨by rw [List.length_tail]; omega, fun hn1 => ?_⟩, by have := h.2.1; omega, fun h => by cases h⟩
  obtain ⟨b', o', ha, hlt, hr⟩ := h.1.2 hn
  injection ha with ha
  injection ha with e1 e2
  subst e1 e2
  refine ⟨b, o + 1, rfl, hlt, fun k hk => ?_⟩
  have h2 := hr (k + 1) (by rw [List.length_tail] at hk; omega)
  rw [show o + (k + 1) = o + 1 + k by omega] at h2
  rw [h2, List.getElem_tail]
/-- what the loop has made so far: the row of the parts -/
def NmRowH (w0 : World) (lo : Nat) (gout : Nat) (wr : World) (v : Value) (l : List Cl) (j : Nat) (hs : List Hc) : Prop :=
  ∃ (ds : List Cl), hs.length = j ∧ ds.length = j ∧ OwnC wr lo v hs ∧ (∀ (i : Nat) (h : Hc) (d : Cl), hs[i]? = some h → ds[i]? = some d → HdC (fun b => (b < w0.heap.size ∨ lo ≤ b) ∧ b < wr.heap.size ∧ v.ownBlock ≠ some b) wr h d) ∧ (∀ (i : Nat) (c d : Cl), l[i]? = some c → ds[i]? = some d → liC c d)
def NmRow (w0 : World) (lo : Nat) (gout : Nat) (wr : World) (v : Value) (l : List Cl) (j : Nat) : Prop := ∃ hs, NmRowH w0 lo gout wr v l j hs
theorem NmRow.nil (w0 : World) (lo gout : Nat) (wr : World) (l : List Cl) : NmRow w0 lo gout wr (.slice none 0 0) l 0 :=
  ⟨[], [], rfl, rfl, OwnC.nil _ _, fun i h d e => by simp at e, fun i c d _ e => by simp at e⟩
theorem NmRow.below {w0 wr w' : World} {lo gout : Nat} {v : Value} {l : List Cl} {j : Nat} (h : NmRow w0 lo gout wr v l j) (hb : Below wr.heap.size wr w') : NmRow w0 lo gout w' v l j := by
  obtain ⟨hs, ds, h1, h2, h3, h4, h5⟩ := h
  exact ⟨hs, ds, h1, h2, h3.below hb, fun i h d e1 e2 => hdC_to (h4 i h d e1 e2) (fun b hp => hb.block b hp.2.1) (fun b hp => ⟨hp.1, Nat.lt_of_lt_of_le hp.2.1 hb.size, hp.2.2⟩), h5⟩
/-- a store into a block ahead of the row -/
theorem NmRow.far {w0 wr : World} {lo gout : Nat} {v : Value} {l : List Cl} {j : Nat} (h : NmRow w0 lo gout wr v l j) (hg1 : w0.heap.size ≤ gout) (hg2 : gout < lo) (k : Nat) (u : Value) : NmRow w0 lo gout (wr.setCell ⟨gout, k, none⟩ u) v l j := by
  obtain ⟨hs, ds, h1, h2, h3, h4, h5⟩ := h
  have hz : (wr.setCell ⟨gout, k, none⟩ u).heap.size = wr.heap.size := by simp [World.setCell]
  exact ⟨hs, ds, h1, h2, row_far h3 hg2 k u, fun i h d e1 e2 => hdC_to (h4 i h d e1 e2) (fun b hp => heap_setCell_other wr ⟨gout, k, none⟩ b u (by show b ≠ gout; rcases hp.1 with h | h <;> omega)) (fun b hp => ⟨hp.1, by rw [hz]; exact hp.2.1, hp.2.2⟩), h5⟩
/-- one part more -/
theorem NmRow.step {w0 wr w5 w6 w7 : World} {lo gout j g cap : Nat} {v : Value} {l : List Cl} {x d : Cl} {K0 : Option Addr} {K1 K2 : Nat} {A2 : Option Addr} {N2 C2 : Nat} {hs : List Hc} (hp : NmRowH w0 lo gout wr v l j hs) (hlo : w0.heap.size ≤ lo) (hlw : lo ≤ wr.heap.size) (hx : l[j]? = some x) (hd : liC x d)
    (h5 : Below wr.heap.size wr w5) (hA : ArCP (OldNew w0.heap.size wr.heap.size w5.heap.size) w5 d ⟨K0, K1, K2⟩ A2 N2 C2) (h6 : Below w5.heap.size w5 w6)
    (ho : OwnC w6 lo v hs → OwnC w7 lo (.slice (some ⟨g, 0, none⟩) (hs.length + 1) cap) (hs ++ [hcOf d ⟨K0, K1, K2⟩ A2 N2 C2])) (hg : w6.grownBy w7 v.ownBlock) (hat : v.ownBlock = some g ∨ g = w6.heap.size) :
    NmRow w0 lo gout w7 (.slice (some ⟨g, 0, none⟩) (j + 1) cap) l (j + 1) := by
  obtain ⟨ds, h1, h2, h3, h4, h5'⟩ := hp
  have b6 := bel_trans h5 h6
  have q5 := h5.size
  have q6 := h6.size
  have q7 := hg.size
  have hv : ∀ q, v.ownBlock = some q → lo ≤ q ∧ q < wr.heap.size := fun q hq => World.ownsRow.lt h3 q hq
  have ho7 := ho (h3.below b6)
  rw [h1] at ho7
  refine ⟨hs ++ [hcOf d ⟨K0, K1, K2⟩ A2 N2 C2], ds ++ [d], by simp [h1], by simp [h2], ho7, fun i h y e1 e2 => ?_, fun i c y e1 e2 => ?_⟩
  · have hnew : ∀ b, b < w6.heap.size → v.ownBlock ≠ some b → (Value.slice (some ⟨g, 0, none⟩) (j + 1) cap).ownBlock ≠ some b := fun b hb hne e => by
      have e' : g = b := by simpa [Value.ownBlock] using e
      subst e'
      rcases hat with h | h
      · exact hne h
      · omega
    rcases Nat.lt_or_ge i hs.length with hi | hi
    · rw [List.getElem?_append_left hi] at e1
      rw [List.getElem?_append_left (by omega)] at e2
      exact hdC_to (h4 i h y e1 e2) (fun b hp => (hg.block b (by omega) (fun e => hp.2.2 e.symm)).trans (b6.block b hp.2.1)) (fun b hp => ⟨hp.1, by omega, hnew b (by omega) hp.2.2⟩)
    · have hil : i < (hs ++ [hcOf d ⟨K0, K1, K2⟩ A2 N2 C2]).length := (List.getElem?_eq_some_iff.1 e1).1
      have hij : i = j := by simp at hil; omega
      subst hij
      rw [List.getElem?_append_right hi, show i - hs.length = 0 by omega] at e1
      rw [List.getElem?_append_right (by omega), show i - ds.length = 0 by omega] at e2
      simp only [List.getElem?_cons_zero, Option.some.injEq] at e1 e2
      subst e1 e2
      refine ⟨⟨rfl, rfl, rfl⟩, ArCP.to (fun b hb => ?_) (fun b hb => ?_) _ hA⟩
      · have hne : v.ownBlock ≠ some b := fun e => by have := hv b e; unfold OldNew at hb; omega
        exact (hg.block b (by unfold OldNew at hb; omega) (fun e => hne e.symm)).trans (h6.block b (by unfold OldNew at hb; omega))
      · have hne : v.ownBlock ≠ some b := fun e => by have := hv b e; unfold OldNew at hb; omega
        refine ⟨by unfold OldNew at hb; omega, by unfold OldNew at hb; omega, hnew b (by unfold OldNew at hb; omega) hne⟩
  · rcases Nat.lt_or_ge i ds.length with hi | hi
    · rw [List.getElem?_append_left hi] at e2
      exact h5' i c y e1 e2
    · have hil : i < (ds ++ [d]).length := (List.getElem?_eq_some_iff.1 e2).1
      have hij : i = j := by simp at hil; omega
      subst hij
      rw [List.getElem?_append_right hi, show i - ds.length = 0 by omega] at e2
      simp only [List.getElem?_cons_zero, Option.some.injEq] at e2
      rw [hx] at e1
      injection e1 with e1
      subst e1 e2
      exact hd
/-- the whole, at the end -/
theorem NmRow.done {w0 wr w' : World} {lo gout : Nat} {A : Option Addr} {n C : Nat} {l ts : List Tm} {cs : List Cl} {s0 : Nat} {op : Int} {nm nm' so : ByteArray} {ks : SS} (hp : NmRow w0 lo gout wr (.slice A n C) cs n) (hl : cs.length = n) (hlo : s0 ≤ lo) (hts : IsK w0.heap.size w0 ks ts) (hb0 : Below w0.heap.size w0 wr)
    (hs : w'.heap.size = wr.heap.size) (hb : ∀ b, b < w0.heap.size ∨ lo ≤ b → w'.heap[b]? = wr.heap[b]?) (hnm : op ≠ 11 → op ≠ 12 → nm' = nm) :
    ∃ ds, liC (.mk op nm so ts cs) (.mk op nm' so ts ds) ∧ ArCP (OldNew w0.heap.size s0 w'.heap.size) w' (.mk op nm' so ts ds) ks A n C := by
  obtain ⟨hs', ds, h1, h2, h3, h4, h5⟩ := hp
  refine ⟨ds, ?_, ?_⟩
  · rw [liC]
    exact ⟨rfl, rfl, rfl, hnm, lis_of (by omega) h5⟩
  · rw [ArCP]
    obtain ⟨A', c', hv, hc1, hc2, hc3, hc4⟩ := h3.slice
    injection hv with e1 e2 e3
    subst e1 e3
    refine ⟨?_, by omega, by omega, hc2, hc3, fun hn => ?_⟩
    · unfold IsTP
      refine ArP.to (P := fun b => b < w0.heap.size) (fun b hb1 => (hb b (.inl hb1)).trans (hb0.block b hb1)) (fun b hb1 => .inl hb1) _ ?_
      exact Ar.p _ (by rw [Ar]; exact hts)
    · obtain ⟨g, rfl, hg1, hg2⟩ := hc4 (by omega)
      refine ⟨g, 0, rfl, .inr ⟨by omega, by rw [hs]; exact hg2⟩, rowC_rwCP (h3.row.of_block (hb g (.inr hg1))) (by omega) fun k hk hk2 => ?_⟩
      exact hdC_to (h4 k _ _ (List.getElem?_eq_getElem hk2) (List.getElem?_eq_getElem hk)) (fun b hp => hb b hp.1) (fun b hp => hp.1.imp id (fun h => ⟨Nat.le_trans hlo h, by rw [hs]; exact hp.2.1⟩))

theorem nmBoxes (w : World) (o : Int) (s z : ByteArray) (k : SS) (a : Option Addr) (n c : Nat) :
    ∃ W, ((w.alloc (.cells #[.int .i64 o, .string s, .string z, .slice k.a k.n k.c, .slice a n c] 53)).alloc (.cells #[.int .i64 0, .string ⟨#[]⟩, .string ⟨#[]⟩, .slice none 0 0, .slice none 0 0] 53)).alloc (.cells #[.int .i64 o, .string s, .string z, .slice k.a k.n k.c, .slice none 0 0] 53) = W ∧ Below w.heap.size w W ∧ W.heap.size = w.heap.size + 3 ∧ CBox W w.heap.size o s z k a n c ∧ CBox W (w.heap.size + 1) 0 ⟨#[]⟩ ⟨#[]⟩ SS.nil none 0 0 ∧ CBox W (w.heap.size + 2) o s z k none 0 0 := by
  obtain ⟨W2, h2, hb, hs, t1, t2⟩ := cbox2 w o s z k a n c 0 ⟨#[]⟩ ⟨#[]⟩ SS.nil none 0 0
  have h2' : (w.alloc (.cells #[.int .i64 o, .string s, .string z, .slice k.a k.n k.c, .slice a n c] 53)).alloc (.cells #[.int .i64 0, .string ⟨#[]⟩, .string ⟨#[]⟩, .slice none 0 0, .slice none 0 0] 53) = W2 := h2
  rw [h2']
  have b3 := CBox.new W2 o s z k none 0 0
  rw [hs] at b3
  exact ⟨_, rfl, bel_alloc hb _, by simp [hs], Blk.alloc t1 _, Blk.alloc t2 _, b3⟩
theorem CBox.nm {w : World} {g : Nat} {o : Int} {s z : ByteArray} {k : SS} {a : Option Addr} {n c : Nat} (h : CBox w g o s z k a n c) (s' : ByteArray) : CBox (w.setCell ⟨g, 1, none⟩ (.string s')) g o s' z k a n c := by
  have := Blk.set h 1 (.string s')
  unfold CBox
  simpa using this
/-- what holds at the head of the loop -/
def NmSt (w0 w : World) (op : Int) (nm nm' so : ByteArray) (ks : SS) (a : Option Addr) (m c : Nat) (l : List Cl) (wr : World) (A : Option Addr) (n c' j : Nat) (vA : Option Addr) (vC : Nat) : Prop :=
  (∃ X, SlS w0 A n c' X) ∧ n ≤ 9223372036854775807 ∧ CBox wr w.heap.size op nm so ks a m c ∧ CBox wr (w.heap.size + 1) 0 ⟨#[]⟩ ⟨#[]⟩ SS.nil none 0 0 ∧ CBox wr (w.heap.size + 2) op nm' so ks vA j vC ∧ NmRow w0 (w.heap.size + 3) (w.heap.size + 2) wr (.slice vA j vC) l j
set_option maxRecDepth 100000 in
set_option maxHeartbeats 8000000 in
theorem named_step (w0 : World) (t : Cl) (hok : ∀ x ∈ subC t, NmOk w0 x) : NmOk w0 t := by
  intro ks a m c A n' c' X w hwt hA hX hc' hb0 hs0
  obtain ⟨KA, kn, kc⟩ := ks
  obtain ⟨W, hW, hB, hs, S1, S2, S3⟩ := nmBoxes w (opC t) (nmC t) (soC t) ⟨KA, kn, kc⟩ a m c
  have hC := (ar_isC.1 hA).2
  have hT := (ar_isC.1 hA).1
  have hm : m ≤ 9223372036854775807 := by have h1 := hC.2.1; have h2 := hC.2.2.1; unfold maxLen at h2; omega
  have hmm : m ≤ 1000000 := by have h1 := hC.1; have := wts_len (subC t); have := wt_mk t; omega
  have hn9 : n' ≤ 9223372036854775807 := hc'
  have hnc : n' ≤ c' := hX.2.1
  have HC := Lib.hid hC
  have HT := Lib.hid hT
  have HX := Lib.hid hX
  have HMax := Lib.hid hc'
  have HK := Lib.hid (show ∀ k x, (subC t)[k]? = some x → NmOk w0 x ∧ wt x ≤ 1000000 from fun k x h => ⟨hok x (List.mem_of_getElem? h), by have := wts_mem (List.mem_of_getElem? h); have := wt_mk t; omega⟩)
  have HB0 := Lib.hid hb0
  have HEnd := Lib.hid (show ∀ (nm' : ByteArray), (opC t ≠ 11 → opC t ≠ 12 → nm' = nmC t) → ∀ (wr : World) (A3 : Option Addr) (n3 c3 : Nat) (vA : Option Addr) (vC : Nat), Below w.heap.size w wr → NmSt w0 w (opC t) (nmC t) nm' (soC t) ⟨KA, kn, kc⟩ a m c (subC t) wr A3 n3 c3 m vA vC → ∀ v0 v1 v2 v3 v4, NmRes w0 t w (.returned (.tuple #[.agg #[.int .i64 (opC t), .string nm', .string (soC t), .slice KA kn kc, .slice vA m vC], .slice A3 n3 c3])) (put5 wr (w.heap.size + 1) v0 v1 v2 v3 v4) from fun nm' hnm wr A3 n3 c3 vA vC hBr hst v0 v1 v2 v3 v4 => by
    obtain ⟨⟨X3, hX3⟩, hm3, _, _, _, hrow⟩ := hst
    obtain ⟨ds, h1, h2⟩ := NmRow.done (w' := put5 wr (w.heap.size + 1) v0 v1 v2 v3 v4) (s0 := w.heap.size) (op := opC t) (nm := nmC t) (nm' := nm') (so := soC t) (ts := tsC t) (ks := ⟨KA, kn, kc⟩) (l := tsC t) hrow hC.1.symm (by omega) hT (hb0.trans (hBr.mono hs0)) (put5_size _ _ _ _ _ _ _) (fun b hb => put5_other wr _ b _ _ _ _ _ (by omega)) hnm
    have et : Cl.mk (opC t) (nmC t) (soC t) (tsC t) (subC t) = t := by cases t; rfl
    rw [et] at h1
    exact ⟨_, KA, kn, kc, vA, m, vC, A3, n3, c3, X3, rfl, h1, h2, hX3, hm3, put5_below hBr (by omega) _ _ _ _ _⟩)
  have HSt0 := Lib.hid (show NmSt w0 w (opC t) (nmC t) (nmC t) (soC t) ⟨KA, kn, kc⟩ a m c (subC t) W A n' c' 0 none 0 from ⟨⟨X, hX⟩, hc', S1, S2, S3, NmRow.nil _ _ _ _ _⟩)
  have HSt1 := Lib.hid (show ∀ b o x0, A = some ⟨b, o, none⟩ → 0 < n' → NmSt w0 w (opC t) (nmC t) x0 (soC t) ⟨KA, kn, kc⟩ a m c (subC t) (W.setCell ⟨w.heap.size + 2, 1, none⟩ (.string x0)) (some ⟨b, o + 1, none⟩) (n' - 1) (c' - 1) 0 none 0 from fun b o x0 hAe hpos => by
    subst hAe
    exact ⟨⟨_, SlS.tail hX hpos⟩, by omega, CBox.far S1 (by omega) _ _, CBox.far S2 (by omega) _ _, CBox.nm S3 x0, NmRow.nil _ _ _ _ _⟩)
  have HSt2 := Lib.hid (show ∀ b o x0, A = some ⟨b, o, none⟩ → 0 < n' → c' = 1 → NmSt w0 w (opC t) (nmC t) x0 (soC t) ⟨KA, kn, kc⟩ a m c (subC t) (W.setCell ⟨w.heap.size + 2, 1, none⟩ (.string x0)) (some ⟨b, o, none⟩) (n' - 1) 0 0 none 0 from fun b o x0 hAe hpos hc1 => by
    subst hAe
    exact ⟨⟨[], ⟨by show n' - 1 = 0; omega, fun h => absurd h (by omega)⟩, by omega, fun _ => rfl⟩, by omega, CBox.far S1 (by omega) _ _, CBox.far S2 (by omega) _ _, CBox.nm S3 x0, NmRow.nil _ _ _ _ _⟩)
  have e0 : W.setCell ⟨w.heap.size + 1 + 1, 4, none⟩ (.slice none 0 0) = W := setCell_same S3 rfl
  obtain ⟨s0, s1, s2, s3, s4⟩ := S1.five
  obtain ⟨p0, p1, p2, p3, p4⟩ := S3.five
  obtain ⟨q0, q1, q2, q3, q4⟩ := S3.free
  have hBs1 := fun (x0 : ByteArray) => below_set (g := w.heap.size + 2) hB (by omega) 1 (.string x0)
  clear hA hC hT hX hok hwt hc' S1 S2 S3 hb0
  have hs2 := Lib.hid hs
  clear hs
  dsimp only at *
  unfold put5 at HEnd
  generalize hl : subC t = l at *
  clear hl
  generalize hop : opC t = op at *
  generalize nmC t = nm at *
  generalize soC t = so at *
  have hs : W.heap.size = w.heap.size + 3 := hs2.out
  clear hs
  by_cases h11 : op = 11
  · have p1 : (op == 11) = true := by rw [h11]; rfl
    have HNm := Lib.hid (show ∀ (x : ByteArray), op ≠ 11 → op ≠ 12 → x = nm from fun _ h _ => absurd h11 h)
    clear h11
    by_cases hpos : 0 < n'
    · obtain ⟨nb, no, x0, rfl, hnb, hn0, hx0, _⟩ := HX.out.1.at hpos
      rw [Nat.add_zero] at hn0
      have st1 := HSt1.out nb no x0 rfl hpos
      have hBx := hBs1 x0
      have c0 := ((HB0.out.trans (hB.mono hs0)).cell (p := ⟨nb, _, none⟩) hnb).trans hn0
      have c1 : (W.setCell ⟨w.heap.size + 1 + 1, 1, none⟩ (.string x0)).cell? ⟨nb, no, none⟩ = some (.string x0) := cell_far c0 (by omega)
      have hpi : (0 : Int) < (n' : Int) := by omega
      have hle : (1 : Int) ≤ (n' : Int) := by omega
      have hle2 : (1 : Int) ≤ (c' : Int) := by omega
      clear hn0 hx0 hop HSt1
      by_cases hc1 : c' = 1
      · have st2 := HSt2.out nb no x0 rfl (by omega) hc1
        clear st1 HSt2
        have hn1 : n' = 1 := by omega
        subst hc1 hn1
        go_enter Try.func51, Try.ntmps51
        go_wp2
        go_loopw [1, 7] (fun nv i wr0 => ∃ (wr : World) (j : Nat) (A3 : Option Addr) (n3 c3 : Nat) (vA : Option Addr) (vC : Nat), wr = wr0 ∧ j ≤ m ∧ nv = .slice A3 n3 c3 ∧ i = .int .i64 j ∧ Below w.heap.size w wr ∧ Hid (NmSt w0 w op nm x0 so ⟨KA, kn, kc⟩ a m c l wr A3 n3 c3 j vA vC)) (fun nv i _ => m - (intOf i).toNat)
        case atStart => exact ⟨_, 0, (some ⟨nb, no, none⟩), 0, 0, none, 0, rfl, by omega, rfl, rfl, hBx, st2⟩
        case round =>
          obtain ⟨wr, j, A3, n3, c3, vA, vC, rfl, hj, rfl, rfl, hBr, hH⟩ := hrel
          obtain ⟨hX3, hM3, C1, C2, C3, hrow⟩ := hH.out
          obtain ⟨e0, e1, e2, e3, e4⟩ := C1.five
          obtain ⟨f0, f1, f2, f3, f4⟩ := C3.five
          by_cases hlt : j < m
          · have hb0r := HB0.out.trans (hBr.mono hs0)
            have hs0r := Nat.le_trans hs0 hBr.size
            obtain ⟨bb, o, x, ⟨xa, xn, xc⟩, AA, M, Cc, rfl, hbb, y0, y1, y2, y3, y4, hx, hax⟩ := HC.out.at hlt
            dsimp only at y3
            have t0 := (hb0r.cell (p := ⟨bb, _, none⟩) hbb).trans y0
            have t1 := (hb0r.cell (p := ⟨bb, _, none⟩) hbb).trans y1
            have t2 := (hb0r.cell (p := ⟨bb, _, none⟩) hbb).trans y2
            have t3 := (hb0r.cell (p := ⟨bb, _, none⟩) hbb).trans y3
            have t4 := (hb0r.cell (p := ⟨bb, _, none⟩) hbb).trans y4
            obtain ⟨X3, hX3'⟩ := hX3
            obtain ⟨hkx, hwx⟩ := HK.out j x hx
            obtain ⟨hs9, hrowH⟩ := hrow
            have cV := hkx ⟨xa, xn, xc⟩ AA M Cc A3 n3 c3 X3 wr hwx hax hX3' hM3 hb0r hs0r
            have HStep := Lib.hid (show ∀ (w5 w7 w8 : World) (d : Cl) (K0 : Option Addr) (K1 K2 : Nat) (A2 : Option Addr) (N2 C2' : Nat) (A4 : Option Addr) (n4 c4 : Nat) (X4 : List ByteArray) (g cap : Nat), liC x d → ArCP (OldNew w0.heap.size wr.heap.size w5.heap.size) w5 d ⟨K0, K1, K2⟩ A2 N2 C2' → SlS w0 A4 n4 c4 X4 → n4 ≤ 9223372036854775807 → Below wr.heap.size wr w5 → Below w5.heap.size w5 w7 →
                (OwnC w7 (w.heap.size + 3) (.slice vA j vC) hs9 → OwnC w8 (w.heap.size + 3) (.slice (some ⟨g, 0, none⟩) (hs9.length + 1) cap) (hs9 ++ [hcOf d ⟨K0, K1, K2⟩ A2 N2 C2'])) → w7.grownBy w8 (Value.slice vA j vC).ownBlock → ((Value.slice vA j vC).ownBlock = some g ∨ g = w7.heap.size) → 
                Below w.heap.size w (w8.setCell ⟨w.heap.size + 2, 4, none⟩ (.slice (some ⟨g, 0, none⟩) (j + 1) cap)) ∧ Hid (NmSt w0 w op nm x0 so ⟨KA, kn, kc⟩ (some ⟨bb, o, none⟩) m c l (w8.setCell ⟨w.heap.size + 2, 4, none⟩ (.slice (some ⟨g, 0, none⟩) (j + 1) cap)) A4 n4 c4 (j + 1) (some ⟨g, 0, none⟩) cap) from fun w5 w7 w8 d K0 K1 K2 A2 N2 C2' A4 n4 c4 X4 g cap hd hA5 hX4 hM4 h5 h7 ho hg hat => by
              have hlw : w.heap.size + 3 ≤ wr.heap.size := by have := Blk.lt C3; omega
              have hrow8 := NmRow.step hrowH (by omega) hlw hx hd h5 hA5 h7 ho hg hat
              have b7 := bel_trans h5 h7
              have hown : ∀ q, (Value.slice vA j vC).ownBlock = some q → w.heap.size + 3 ≤ q := fun q hq => by
                obtain ⟨ds', _, _, h3, _, _⟩ := hrowH
                exact (World.ownsRow.lt h3 q hq).1
              have C1' : CBox w8 w.heap.size op nm so ⟨KA, kn, kc⟩ (some ⟨bb, o, none⟩) m c := Blk.grown (Blk.below C1 b7) hg (fun e => by have := hown _ e.symm; omega)
              have C2'' : CBox w8 (w.heap.size + 1) 0 ⟨#[]⟩ ⟨#[]⟩ SS.nil none 0 0 := Blk.grown (Blk.below C2 b7) hg (fun e => by have := hown _ e.symm; omega)
              have C3' : CBox w8 (w.heap.size + 2) op x0 so ⟨KA, kn, kc⟩ vA j vC := Blk.grown (Blk.below C3 b7) hg (fun e => by have := hown _ e.symm; omega)
              refine ⟨below_set ((hBr.trans (b7.mono hBr.size)).grown hg (by have := b7.size; have := hBr.size; omega) (fun q hq => by have := hown q hq; omega)) (by omega) _ _, Lib.hid ⟨⟨X4, hX4⟩, hM4, CBox.far C1' (by omega) _ _, CBox.far C2'' (by omega) _ _, CBox.su C3' _ _ _, hrow8.far (by omega) (by omega) _ _⟩⟩)
            have HF3 := Lib.hid C3
            have HOwn := Lib.hid (show hs9.length = j ∧ OwnC wr (w.heap.size + 3) (.slice vA j vC) hs9 from by obtain ⟨ds', e1, _, h3, _, _⟩ := hrowH; exact ⟨e1, h3⟩)
            have hlw2 : w.heap.size + 3 ≤ wr.heap.size := by have := Blk.lt C3; omega
            clear y0 y1 y2 y3 y4 hx hax hkx hwx hrowH hH C1 C2 C3 hX3' hM3
            dsimp only at cV
            unfold NmRes at cV
            generalize opC x = op' at *
            generalize nmC x = nm2 at *
            generalize soC x = so' at *
            have hj0 : 0 ≤ (j : Int) := by omega
            have hj1 : (j : Int) < (m : Int) := by omega
            go_wp2_with (first
              | (go_at_call 51; ((with_reducible refine cV.mono ?_); rintro e w5 ⟨d, K0, K1, K2, A2, N2, C2', A4, n4, c4, X4, rfl, hd, hA5, hX4, hM4, hb5⟩; have HA5 := Lib.hid hA5; have HX4 := Lib.hid hX4; have HD := Lib.hid hd; have HM4 := Lib.hid hM4; clear hA5 hX4 hd hM4; obtain ⟨W6, hW6, hB6, hs6, S6⟩ := cbox1 w5 (opC d) (nmC d) (soC d) ⟨K0, K1, K2⟩ A2 N2 C2'; obtain ⟨W7, hW7, hB7, hs7, S7⟩ := cbox1 W6 (opC d) (nmC d) (soC d) ⟨K0, K1, K2⟩ A2 N2 C2'; obtain ⟨i0, i1, i2, i3, i4⟩ := S6.five; have F6 := CBox.b (CBox.b HF3.out hb5) hB6; obtain ⟨o0, o1, o2, o3, o4⟩ := F6.five; have b57 : Below w5.heap.size w5 W7 := (bel_trans hB6 hB7); have bR7 := bel_trans hb5 b57; rw [hs6] at S7; have HS7 := Lib.hid S7; obtain ⟨hl9, ho9⟩ := HOwn.out; have HO9 := Lib.hid (ho9.below bR7); have hl9' : hs9.length + 1 ≤ 1000000000 := (by omega); have hsz7 : w.heap.size + 3 ≤ W7.heap.size := Nat.le_trans hlw2 bR7.size; have HF7 := Lib.hid (CBox.b F6 hB7); clear ho9 S7 F6; dsimp only at *))
              | (at_builtin; ((refine app_oneC rfl (.tmp 56) (.tmp 58) rfl (w.heap.size + 3) (.slice vA j vC) hs9 rfl HO9.out (w5.heap.size + 1) (hcOf d ⟨K0, K1, K2⟩ A2 N2 C2') rfl HS7.out hl9' hsz7 ?_); intro g cap w8 ho8 hg8 hat8; obtain ⟨hBn, Hn⟩ := HStep.out w5 W7 w8 d K0 K1 K2 A2 N2 C2' A4 n4 c4 X4 g cap HD.out HA5.out HX4.out HM4.out hb5 b57 (fun _ => ho8) hg8 hat8; have F8 : CBox w8 (w.heap.size + 2) op x0 so ⟨KA, kn, kc⟩ vA j vC := Blk.grown HF7.out hg8 (fun e => by have := World.ownsRow.lt HO9.out _ e.symm; omega); obtain ⟨z0, z1, z2, z3, z4⟩ := F8.free; obtain ⟨k0, k1, k2, k3, k4⟩ := F8.five)))
            go_roundw
            case rel => exact ⟨_, j + 1, A4, n4, c4, some ⟨g, 0, none⟩, cap, rfl, by omega, rfl, by go_num, hBn, Hn⟩
            case measure => simp [intOf]; omega
          · obtain rfl : j = m := by omega
            have Hn := Lib.hid (fun v0 v1 v2 v3 v4 => HEnd.out x0 (HNm.out _) wr A3 n3 c3 vA vC hBr hH.out v0 v1 v2 v3 v4)
            obtain ⟨r0, r1, r2, r3, r4⟩ := C2.free
            obtain ⟨u0, u1, u2, u3, u4⟩ := C2.five
            have F3 := CBox.put C2 op x0 so ⟨KA, kn, kc⟩ vA j vC
            unfold put5 at F3
            obtain ⟨x0, x1, x2, x3, x4⟩ := F3.five
            clear hrow hH C1 C2 C3 hX3 F3 hM3
            dsimp only at *
            go_wp2
            simp [bodyPost, results, Try.results51, go_sem, x0, x1, x2, x3, x4]
            exact Hn.out _ _ _ _ _
      · clear HSt2
        go_enter Try.func51, Try.ntmps51
        go_wp2
        go_loopw [1, 7] (fun nv i wr0 => ∃ (wr : World) (j : Nat) (A3 : Option Addr) (n3 c3 : Nat) (vA : Option Addr) (vC : Nat), wr = wr0 ∧ j ≤ m ∧ nv = .slice A3 n3 c3 ∧ i = .int .i64 j ∧ Below w.heap.size w wr ∧ Hid (NmSt w0 w op nm x0 so ⟨KA, kn, kc⟩ a m c l wr A3 n3 c3 j vA vC)) (fun nv i _ => m - (intOf i).toNat)
        case atStart => exact ⟨_, 0, (some ⟨nb, no + 1, none⟩), (n' - 1), (c' - 1), none, 0, rfl, by omega, rfl, rfl, hBx, st1⟩
        case round =>
          obtain ⟨wr, j, A3, n3, c3, vA, vC, rfl, hj, rfl, rfl, hBr, hH⟩ := hrel
          obtain ⟨hX3, hM3, C1, C2, C3, hrow⟩ := hH.out
          obtain ⟨e0, e1, e2, e3, e4⟩ := C1.five
          obtain ⟨f0, f1, f2, f3, f4⟩ := C3.five
          by_cases hlt : j < m
          · have hb0r := HB0.out.trans (hBr.mono hs0)
            have hs0r := Nat.le_trans hs0 hBr.size
            obtain ⟨bb, o, x, ⟨xa, xn, xc⟩, AA, M, Cc, rfl, hbb, y0, y1, y2, y3, y4, hx, hax⟩ := HC.out.at hlt
            dsimp only at y3
            have t0 := (hb0r.cell (p := ⟨bb, _, none⟩) hbb).trans y0
            have t1 := (hb0r.cell (p := ⟨bb, _, none⟩) hbb).trans y1
            have t2 := (hb0r.cell (p := ⟨bb, _, none⟩) hbb).trans y2
            have t3 := (hb0r.cell (p := ⟨bb, _, none⟩) hbb).trans y3
            have t4 := (hb0r.cell (p := ⟨bb, _, none⟩) hbb).trans y4
            obtain ⟨X3, hX3'⟩ := hX3
            obtain ⟨hkx, hwx⟩ := HK.out j x hx
            obtain ⟨hs9, hrowH⟩ := hrow
            have cV := hkx ⟨xa, xn, xc⟩ AA M Cc A3 n3 c3 X3 wr hwx hax hX3' hM3 hb0r hs0r
            have HStep := Lib.hid (show ∀ (w5 w7 w8 : World) (d : Cl) (K0 : Option Addr) (K1 K2 : Nat) (A2 : Option Addr) (N2 C2' : Nat) (A4 : Option Addr) (n4 c4 : Nat) (X4 : List ByteArray) (g cap : Nat), liC x d → ArCP (OldNew w0.heap.size wr.heap.size w5.heap.size) w5 d ⟨K0, K1, K2⟩ A2 N2 C2' → SlS w0 A4 n4 c4 X4 → n4 ≤ 9223372036854775807 → Below wr.heap.size wr w5 → Below w5.heap.size w5 w7 →
                (OwnC w7 (w.heap.size + 3) (.slice vA j vC) hs9 → OwnC w8 (w.heap.size + 3) (.slice (some ⟨g, 0, none⟩) (hs9.length + 1) cap) (hs9 ++ [hcOf d ⟨K0, K1, K2⟩ A2 N2 C2'])) → w7.grownBy w8 (Value.slice vA j vC).ownBlock → ((Value.slice vA j vC).ownBlock = some g ∨ g = w7.heap.size) → 
                Below w.heap.size w (w8.setCell ⟨w.heap.size + 2, 4, none⟩ (.slice (some ⟨g, 0, none⟩) (j + 1) cap)) ∧ Hid (NmSt w0 w op nm x0 so ⟨KA, kn, kc⟩ (some ⟨bb, o, none⟩) m c l (w8.setCell ⟨w.heap.size + 2, 4, none⟩ (.slice (some ⟨g, 0, none⟩) (j + 1) cap)) A4 n4 c4 (j + 1) (some ⟨g, 0, none⟩) cap) from fun w5 w7 w8 d K0 K1 K2 A2 N2 C2' A4 n4 c4 X4 g cap hd hA5 hX4 hM4 h5 h7 ho hg hat => by
              have hlw : w.heap.size + 3 ≤ wr.heap.size := by have := Blk.lt C3; omega
              have hrow8 := NmRow.step hrowH (by omega) hlw hx hd h5 hA5 h7 ho hg hat
              have b7 := bel_trans h5 h7
              have hown : ∀ q, (Value.slice vA j vC).ownBlock = some q → w.heap.size + 3 ≤ q := fun q hq => by
                obtain ⟨ds', _, _, h3, _, _⟩ := hrowH
                exact (World.ownsRow.lt h3 q hq).1
              have C1' : CBox w8 w.heap.size op nm so ⟨KA, kn, kc⟩ (some ⟨bb, o, none⟩) m c := Blk.grown (Blk.below C1 b7) hg (fun e => by have := hown _ e.symm; omega)
              have C2'' : CBox w8 (w.heap.size + 1) 0 ⟨#[]⟩ ⟨#[]⟩ SS.nil none 0 0 := Blk.grown (Blk.below C2 b7) hg (fun e => by have := hown _ e.symm; omega)
              have C3' : CBox w8 (w.heap.size + 2) op x0 so ⟨KA, kn, kc⟩ vA j vC := Blk.grown (Blk.below C3 b7) hg (fun e => by have := hown _ e.symm; omega)
              refine ⟨below_set ((hBr.trans (b7.mono hBr.size)).grown hg (by have := b7.size; have := hBr.size; omega) (fun q hq => by have := hown q hq; omega)) (by omega) _ _, Lib.hid ⟨⟨X4, hX4⟩, hM4, CBox.far C1' (by omega) _ _, CBox.far C2'' (by omega) _ _, CBox.su C3' _ _ _, hrow8.far (by omega) (by omega) _ _⟩⟩)
            have HF3 := Lib.hid C3
            have HOwn := Lib.hid (show hs9.length = j ∧ OwnC wr (w.heap.size + 3) (.slice vA j vC) hs9 from by obtain ⟨ds', e1, _, h3, _, _⟩ := hrowH; exact ⟨e1, h3⟩)
            have hlw2 : w.heap.size + 3 ≤ wr.heap.size := by have := Blk.lt C3; omega
            clear y0 y1 y2 y3 y4 hx hax hkx hwx hrowH hH C1 C2 C3 hX3' hM3
            dsimp only at cV
            unfold NmRes at cV
            generalize opC x = op' at *
            generalize nmC x = nm2 at *
            generalize soC x = so' at *
            have hj0 : 0 ≤ (j : Int) := by omega
            have hj1 : (j : Int) < (m : Int) := by omega
            go_wp2_with (first
              | (go_at_call 51; ((with_reducible refine cV.mono ?_); rintro e w5 ⟨d, K0, K1, K2, A2, N2, C2', A4, n4, c4, X4, rfl, hd, hA5, hX4, hM4, hb5⟩; have HA5 := Lib.hid hA5; have HX4 := Lib.hid hX4; have HD := Lib.hid hd; have HM4 := Lib.hid hM4; clear hA5 hX4 hd hM4; obtain ⟨W6, hW6, hB6, hs6, S6⟩ := cbox1 w5 (opC d) (nmC d) (soC d) ⟨K0, K1, K2⟩ A2 N2 C2'; obtain ⟨W7, hW7, hB7, hs7, S7⟩ := cbox1 W6 (opC d) (nmC d) (soC d) ⟨K0, K1, K2⟩ A2 N2 C2'; obtain ⟨i0, i1, i2, i3, i4⟩ := S6.five; have F6 := CBox.b (CBox.b HF3.out hb5) hB6; obtain ⟨o0, o1, o2, o3, o4⟩ := F6.five; have b57 : Below w5.heap.size w5 W7 := (bel_trans hB6 hB7); have bR7 := bel_trans hb5 b57; rw [hs6] at S7; have HS7 := Lib.hid S7; obtain ⟨hl9, ho9⟩ := HOwn.out; have HO9 := Lib.hid (ho9.below bR7); have hl9' : hs9.length + 1 ≤ 1000000000 := (by omega); have hsz7 : w.heap.size + 3 ≤ W7.heap.size := Nat.le_trans hlw2 bR7.size; have HF7 := Lib.hid (CBox.b F6 hB7); clear ho9 S7 F6; dsimp only at *))
              | (at_builtin; ((refine app_oneC rfl (.tmp 56) (.tmp 58) rfl (w.heap.size + 3) (.slice vA j vC) hs9 rfl HO9.out (w5.heap.size + 1) (hcOf d ⟨K0, K1, K2⟩ A2 N2 C2') rfl HS7.out hl9' hsz7 ?_); intro g cap w8 ho8 hg8 hat8; obtain ⟨hBn, Hn⟩ := HStep.out w5 W7 w8 d K0 K1 K2 A2 N2 C2' A4 n4 c4 X4 g cap HD.out HA5.out HX4.out HM4.out hb5 b57 (fun _ => ho8) hg8 hat8; have F8 : CBox w8 (w.heap.size + 2) op x0 so ⟨KA, kn, kc⟩ vA j vC := Blk.grown HF7.out hg8 (fun e => by have := World.ownsRow.lt HO9.out _ e.symm; omega); obtain ⟨z0, z1, z2, z3, z4⟩ := F8.free; obtain ⟨k0, k1, k2, k3, k4⟩ := F8.five)))
            go_roundw
            case rel => exact ⟨_, j + 1, A4, n4, c4, some ⟨g, 0, none⟩, cap, rfl, by omega, rfl, by go_num, hBn, Hn⟩
            case measure => simp [intOf]; omega
          · obtain rfl : j = m := by omega
            have Hn := Lib.hid (fun v0 v1 v2 v3 v4 => HEnd.out x0 (HNm.out _) wr A3 n3 c3 vA vC hBr hH.out v0 v1 v2 v3 v4)
            obtain ⟨r0, r1, r2, r3, r4⟩ := C2.free
            obtain ⟨u0, u1, u2, u3, u4⟩ := C2.five
            have F3 := CBox.put C2 op x0 so ⟨KA, kn, kc⟩ vA j vC
            unfold put5 at F3
            obtain ⟨x0, x1, x2, x3, x4⟩ := F3.five
            clear hrow hH C1 C2 C3 hX3 F3 hM3
            dsimp only at *
            go_wp2
            simp [bodyPost, results, Try.results51, go_sem, x0, x1, x2, x3, x4]
            exact Hn.out _ _ _ _ _
    · have hpi : ¬ (0 : Int) < (n' : Int) := by omega
      clear hop
      go_enter Try.func51, Try.ntmps51
      go_wp2
      go_loopw [1, 7] (fun nv i wr0 => ∃ (wr : World) (j : Nat) (A3 : Option Addr) (n3 c3 : Nat) (vA : Option Addr) (vC : Nat), wr = wr0 ∧ j ≤ m ∧ nv = .slice A3 n3 c3 ∧ i = .int .i64 j ∧ Below w.heap.size w wr ∧ Hid (NmSt w0 w op nm nm so ⟨KA, kn, kc⟩ a m c l wr A3 n3 c3 j vA vC)) (fun nv i _ => m - (intOf i).toNat)
      case atStart => exact ⟨_, 0, A, n', c', none, 0, rfl, by omega, rfl, rfl, hB, HSt0⟩
      case round =>
        obtain ⟨wr, j, A3, n3, c3, vA, vC, rfl, hj, rfl, rfl, hBr, hH⟩ := hrel
        obtain ⟨hX3, hM3, C1, C2, C3, hrow⟩ := hH.out
        obtain ⟨e0, e1, e2, e3, e4⟩ := C1.five
        obtain ⟨f0, f1, f2, f3, f4⟩ := C3.five
        by_cases hlt : j < m
        · have hb0r := HB0.out.trans (hBr.mono hs0)
          have hs0r := Nat.le_trans hs0 hBr.size
          obtain ⟨bb, o, x, ⟨xa, xn, xc⟩, AA, M, Cc, rfl, hbb, y0, y1, y2, y3, y4, hx, hax⟩ := HC.out.at hlt
          dsimp only at y3
          have t0 := (hb0r.cell (p := ⟨bb, _, none⟩) hbb).trans y0
          have t1 := (hb0r.cell (p := ⟨bb, _, none⟩) hbb).trans y1
          have t2 := (hb0r.cell (p := ⟨bb, _, none⟩) hbb).trans y2
          have t3 := (hb0r.cell (p := ⟨bb, _, none⟩) hbb).trans y3
          have t4 := (hb0r.cell (p := ⟨bb, _, none⟩) hbb).trans y4
          obtain ⟨X3, hX3'⟩ := hX3
          obtain ⟨hkx, hwx⟩ := HK.out j x hx
          obtain ⟨hs9, hrowH⟩ := hrow
          have cV := hkx ⟨xa, xn, xc⟩ AA M Cc A3 n3 c3 X3 wr hwx hax hX3' hM3 hb0r hs0r
          have HStep := Lib.hid (show ∀ (w5 w7 w8 : World) (d : Cl) (K0 : Option Addr) (K1 K2 : Nat) (A2 : Option Addr) (N2 C2' : Nat) (A4 : Option Addr) (n4 c4 : Nat) (X4 : List ByteArray) (g cap : Nat), liC x d → ArCP (OldNew w0.heap.size wr.heap.size w5.heap.size) w5 d ⟨K0, K1, K2⟩ A2 N2 C2' → SlS w0 A4 n4 c4 X4 → n4 ≤ 9223372036854775807 → Below wr.heap.size wr w5 → Below w5.heap.size w5 w7 →
              (OwnC w7 (w.heap.size + 3) (.slice vA j vC) hs9 → OwnC w8 (w.heap.size + 3) (.slice (some ⟨g, 0, none⟩) (hs9.length + 1) cap) (hs9 ++ [hcOf d ⟨K0, K1, K2⟩ A2 N2 C2'])) → w7.grownBy w8 (Value.slice vA j vC).ownBlock → ((Value.slice vA j vC).ownBlock = some g ∨ g = w7.heap.size) → 
              Below w.heap.size w (w8.setCell ⟨w.heap.size + 2, 4, none⟩ (.slice (some ⟨g, 0, none⟩) (j + 1) cap)) ∧ Hid (NmSt w0 w op nm nm so ⟨KA, kn, kc⟩ (some ⟨bb, o, none⟩) m c l (w8.setCell ⟨w.heap.size + 2, 4, none⟩ (.slice (some ⟨g, 0, none⟩) (j + 1) cap)) A4 n4 c4 (j + 1) (some ⟨g, 0, none⟩) cap) from fun w5 w7 w8 d K0 K1 K2 A2 N2 C2' A4 n4 c4 X4 g cap hd hA5 hX4 hM4 h5 h7 ho hg hat => by
            have hlw : w.heap.size + 3 ≤ wr.heap.size := by have := Blk.lt C3; omega
            have hrow8 := NmRow.step hrowH (by omega) hlw hx hd h5 hA5 h7 ho hg hat
            have b7 := bel_trans h5 h7
            have hown : ∀ q, (Value.slice vA j vC).ownBlock = some q → w.heap.size + 3 ≤ q := fun q hq => by
              obtain ⟨ds', _, _, h3, _, _⟩ := hrowH
              exact (World.ownsRow.lt h3 q hq).1
            have C1' : CBox w8 w.heap.size op nm so ⟨KA, kn, kc⟩ (some ⟨bb, o, none⟩) m c := Blk.grown (Blk.below C1 b7) hg (fun e => by have := hown _ e.symm; omega)
            have C2'' : CBox w8 (w.heap.size + 1) 0 ⟨#[]⟩ ⟨#[]⟩ SS.nil none 0 0 := Blk.grown (Blk.below C2 b7) hg (fun e => by have := hown _ e.symm; omega)
            have C3' : CBox w8 (w.heap.size + 2) op nm so ⟨KA, kn, kc⟩ vA j vC := Blk.grown (Blk.below C3 b7) hg (fun e => by have := hown _ e.symm; omega)
            refine ⟨below_set ((hBr.trans (b7.mono hBr.size)).grown hg (by have := b7.size; have := hBr.size; omega) (fun q hq => by have := hown q hq; omega)) (by omega) _ _, Lib.hid ⟨⟨X4, hX4⟩, hM4, CBox.far C1' (by omega) _ _, CBox.far C2'' (by omega) _ _, CBox.su C3' _ _ _, hrow8.far (by omega) (by omega) _ _⟩⟩)
          have HF3 := Lib.hid C3
          have HOwn := Lib.hid (show hs9.length = j ∧ OwnC wr (w.heap.size + 3) (.slice vA j vC) hs9 from by obtain ⟨ds', e1, _, h3, _, _⟩ := hrowH; exact ⟨e1, h3⟩)
          have hlw2 : w.heap.size + 3 ≤ wr.heap.size := by have := Blk.lt C3; omega
          clear y0 y1 y2 y3 y4 hx hax hkx hwx hrowH hH C1 C2 C3 hX3' hM3
          dsimp only at cV
          unfold NmRes at cV
          generalize opC x = op' at *
          generalize nmC x = nm2 at *
          generalize soC x = so' at *
          have hj0 : 0 ≤ (j : Int) := by omega
          have hj1 : (j : Int) < (m : Int) := by omega
          go_wp2_with (first
            | (go_at_call 51; ((with_reducible refine cV.mono ?_); rintro e w5 ⟨d, K0, K1, K2, A2, N2, C2', A4, n4, c4, X4, rfl, hd, hA5, hX4, hM4, hb5⟩; have HA5 := Lib.hid hA5; have HX4 := Lib.hid hX4; have HD := Lib.hid hd; have HM4 := Lib.hid hM4; clear hA5 hX4 hd hM4; obtain ⟨W6, hW6, hB6, hs6, S6⟩ := cbox1 w5 (opC d) (nmC d) (soC d) ⟨K0, K1, K2⟩ A2 N2 C2'; obtain ⟨W7, hW7, hB7, hs7, S7⟩ := cbox1 W6 (opC d) (nmC d) (soC d) ⟨K0, K1, K2⟩ A2 N2 C2'; obtain ⟨i0, i1, i2, i3, i4⟩ := S6.five; have F6 := CBox.b (CBox.b HF3.out hb5) hB6; obtain ⟨o0, o1, o2, o3, o4⟩ := F6.five; have b57 : Below w5.heap.size w5 W7 := (bel_trans hB6 hB7); have bR7 := bel_trans hb5 b57; rw [hs6] at S7; have HS7 := Lib.hid S7; obtain ⟨hl9, ho9⟩ := HOwn.out; have HO9 := Lib.hid (ho9.below bR7); have hl9' : hs9.length + 1 ≤ 1000000000 := (by omega); have hsz7 : w.heap.size + 3 ≤ W7.heap.size := Nat.le_trans hlw2 bR7.size; have HF7 := Lib.hid (CBox.b F6 hB7); clear ho9 S7 F6; dsimp only at *))
            | (at_builtin; ((refine app_oneC rfl (.tmp 56) (.tmp 58) rfl (w.heap.size + 3) (.slice vA j vC) hs9 rfl HO9.out (w5.heap.size + 1) (hcOf d ⟨K0, K1, K2⟩ A2 N2 C2') rfl HS7.out hl9' hsz7 ?_); intro g cap w8 ho8 hg8 hat8; obtain ⟨hBn, Hn⟩ := HStep.out w5 W7 w8 d K0 K1 K2 A2 N2 C2' A4 n4 c4 X4 g cap HD.out HA5.out HX4.out HM4.out hb5 b57 (fun _ => ho8) hg8 hat8; have F8 : CBox w8 (w.heap.size + 2) op nm so ⟨KA, kn, kc⟩ vA j vC := Blk.grown HF7.out hg8 (fun e => by have := World.ownsRow.lt HO9.out _ e.symm; omega); obtain ⟨z0, z1, z2, z3, z4⟩ := F8.free; obtain ⟨k0, k1, k2, k3, k4⟩ := F8.five)))
          go_roundw
          case rel => exact ⟨_, j + 1, A4, n4, c4, some ⟨g, 0, none⟩, cap, rfl, by omega, rfl, by go_num, hBn, Hn⟩
          case measure => simp [intOf]; omega
        · obtain rfl : j = m := by omega
          have Hn := Lib.hid (fun v0 v1 v2 v3 v4 => HEnd.out nm (fun _ _ => rfl) wr A3 n3 c3 vA vC hBr hH.out v0 v1 v2 v3 v4)
          obtain ⟨r0, r1, r2, r3, r4⟩ := C2.free
          obtain ⟨u0, u1, u2, u3, u4⟩ := C2.five
          have F3 := CBox.put C2 op nm so ⟨KA, kn, kc⟩ vA j vC
          unfold put5 at F3
          obtain ⟨x0, x1, x2, x3, x4⟩ := F3.five
          clear hrow hH C1 C2 C3 hX3 F3 hM3
          dsimp only at *
          go_wp2
          simp [bodyPost, results, Try.results51, go_sem, x0, x1, x2, x3, x4]
          exact Hn.out _ _ _ _ _
  · have p1 : (op == 11) = false := beq_no' h11
    by_cases h12 : op = 12
    · have p2 : (op == 12) = true := by rw [h12]; rfl
      have HNm := Lib.hid (show ∀ (x : ByteArray), op ≠ 11 → op ≠ 12 → x = nm from fun _ _ h => absurd h12 h)
      clear h11 h12
      by_cases hpos : 0 < n'
      · obtain ⟨nb, no, x0, rfl, hnb, hn0, hx0, _⟩ := HX.out.1.at hpos
        rw [Nat.add_zero] at hn0
        have st1 := HSt1.out nb no x0 rfl hpos
        have hBx := hBs1 x0
        have c0 := ((HB0.out.trans (hB.mono hs0)).cell (p := ⟨nb, _, none⟩) hnb).trans hn0
        have c1 : (W.setCell ⟨w.heap.size + 1 + 1, 1, none⟩ (.string x0)).cell? ⟨nb, no, none⟩ = some (.string x0) := cell_far c0 (by omega)
        have hpi : (0 : Int) < (n' : Int) := by omega
        have hle : (1 : Int) ≤ (n' : Int) := by omega
        have hle2 : (1 : Int) ≤ (c' : Int) := by omega
        clear hn0 hx0 hop HSt1
        by_cases hc1 : c' = 1
        · have st2 := HSt2.out nb no x0 rfl (by omega) hc1
          clear st1 HSt2
          have hn1 : n' = 1 := by omega
          subst hc1 hn1
          go_enter Try.func51, Try.ntmps51
          go_wp2
          go_loopw [1, 7] (fun nv i wr0 => ∃ (wr : World) (j : Nat) (A3 : Option Addr) (n3 c3 : Nat) (vA : Option Addr) (vC : Nat), wr = wr0 ∧ j ≤ m ∧ nv = .slice A3 n3 c3 ∧ i = .int .i64 j ∧ Below w.heap.size w wr ∧ Hid (NmSt w0 w op nm x0 so ⟨KA, kn, kc⟩ a m c l wr A3 n3 c3 j vA vC)) (fun nv i _ => m - (intOf i).toNat)
          case atStart => exact ⟨_, 0, (some ⟨nb, no, none⟩), 0, 0, none, 0, rfl, by omega, rfl, rfl, hBx, st2⟩
          case round =>
            obtain ⟨wr, j, A3, n3, c3, vA, vC, rfl, hj, rfl, rfl, hBr, hH⟩ := hrel
            obtain ⟨hX3, hM3, C1, C2, C3, hrow⟩ := hH.out
            obtain ⟨e0, e1, e2, e3, e4⟩ := C1.five
            obtain ⟨f0, f1, f2, f3, f4⟩ := C3.five
            by_cases hlt : j < m
            · have hb0r := HB0.out.trans (hBr.mono hs0)
              have hs0r := Nat.le_trans hs0 hBr.size
              obtain ⟨bb, o, x, ⟨xa, xn, xc⟩, AA, M, Cc, rfl, hbb, y0, y1, y2, y3, y4, hx, hax⟩ := HC.out.at hlt
              dsimp only at y3
              have t0 := (hb0r.cell (p := ⟨bb, _, none⟩) hbb).trans y0
              have t1 := (hb0r.cell (p := ⟨bb, _, none⟩) hbb).trans y1
              have t2 := (hb0r.cell (p := ⟨bb, _, none⟩) hbb).trans y2
              have t3 := (hb0r.cell (p := ⟨bb, _, none⟩) hbb).trans y3
              have t4 := (hb0r.cell (p := ⟨bb, _, none⟩) hbb).trans y4
              obtain ⟨X3, hX3'⟩ := hX3
              obtain ⟨hkx, hwx⟩ := HK.out j x hx
              obtain ⟨hs9, hrowH⟩ := hrow
              have cV := hkx ⟨xa, xn, xc⟩ AA M Cc A3 n3 c3 X3 wr hwx hax hX3' hM3 hb0r hs0r
              have HStep := Lib.hid (show ∀ (w5 w7 w8 : World) (d : Cl) (K0 : Option Addr) (K1 K2 : Nat) (A2 : Option Addr) (N2 C2' : Nat) (A4 : Option Addr) (n4 c4 : Nat) (X4 : List ByteArray) (g cap : Nat), liC x d → ArCP (OldNew w0.heap.size wr.heap.size w5.heap.size) w5 d ⟨K0, K1, K2⟩ A2 N2 C2' → SlS w0 A4 n4 c4 X4 → n4 ≤ 9223372036854775807 → Below wr.heap.size wr w5 → Below w5.heap.size w5 w7 →
                  (OwnC w7 (w.heap.size + 3) (.slice vA j vC) hs9 → OwnC w8 (w.heap.size + 3) (.slice (some ⟨g, 0, none⟩) (hs9.length + 1) cap) (hs9 ++ [hcOf d ⟨K0, K1, K2⟩ A2 N2 C2'])) → w7.grownBy w8 (Value.slice vA j vC).ownBlock → ((Value.slice vA j vC).ownBlock = some g ∨ g = w7.heap.size) → 
                  Below w.heap.size w (w8.setCell ⟨w.heap.size + 2, 4, none⟩ (.slice (some ⟨g, 0, none⟩) (j + 1) cap)) ∧ Hid (NmSt w0 w op nm x0 so ⟨KA, kn, kc⟩ (some ⟨bb, o, none⟩) m c l (w8.setCell ⟨w.heap.size + 2, 4, none⟩ (.slice (some ⟨g, 0, none⟩) (j + 1) cap)) A4 n4 c4 (j + 1) (some ⟨g, 0, none⟩) cap) from fun w5 w7 w8 d K0 K1 K2 A2 N2 C2' A4 n4 c4 X4 g cap hd hA5 hX4 hM4 h5 h7 ho hg hat => by
                have hlw : w.heap.size + 3 ≤ wr.heap.size := by have := Blk.lt C3; omega
                have hrow8 := NmRow.step hrowH (by omega) hlw hx hd h5 hA5 h7 ho hg hat
                have b7 := bel_trans h5 h7
                have hown : ∀ q, (Value.slice vA j vC).ownBlock = some q → w.heap.size + 3 ≤ q := fun q hq => by
                  obtain ⟨ds', _, _, h3, _, _⟩ := hrowH
                  exact (World.ownsRow.lt h3 q hq).1
                have C1' : CBox w8 w.heap.size op nm so ⟨KA, kn, kc⟩ (some ⟨bb, o, none⟩) m c := Blk.grown (Blk.below C1 b7) hg (fun e => by have := hown _ e.symm; omega)
                have C2'' : CBox w8 (w.heap.size + 1) 0 ⟨#[]⟩ ⟨#[]⟩ SS.nil none 0 0 := Blk.grown (Blk.below C2 b7) hg (fun e => by have := hown _ e.symm; omega)
                have C3' : CBox w8 (w.heap.size + 2) op x0 so ⟨KA, kn, kc⟩ vA j vC := Blk.grown (Blk.below C3 b7) hg (fun e => by have := hown _ e.symm; omega)
                refine ⟨below_set ((hBr.trans (b7.mono hBr.size)).grown hg (by have := b7.size; have := hBr.size; omega) (fun q hq => by have := hown q hq; omega)) (by omega) _ _, Lib.hid ⟨⟨X4, hX4⟩, hM4, CBox.far C1' (by omega) _ _, CBox.far C2'' (by omega) _ _, CBox.su C3' _ _ _, hrow8.far (by omega) (by omega) _ _⟩⟩)
              have HF3 := Lib.hid C3
              have HOwn := Lib.hid (show hs9.length = j ∧ OwnC wr (w.heap.size + 3) (.slice vA j vC) hs9 from by obtain ⟨ds', e1, _, h3, _, _⟩ := hrowH; exact ⟨e1, h3⟩)
              have hlw2 : w.heap.size + 3 ≤ wr.heap.size := by have := Blk.lt C3; omega
              clear y0 y1 y2 y3 y4 hx hax hkx hwx hrowH hH C1 C2 C3 hX3' hM3
              dsimp only at cV
              unfold NmRes at cV
              generalize opC x = op' at *
              generalize nmC x = nm2 at *
              generalize soC x = so' at *
              have hj0 : 0 ≤ (j : Int) := by omega
              have hj1 : (j : Int) < (m : Int) := by omega
              go_wp2_with (first
                | (go_at_call 51; ((with_reducible refine cV.mono ?_); rintro e w5 ⟨d, K0, K1, K2, A2, N2, C2', A4, n4, c4, X4, rfl, hd, hA5, hX4, hM4, hb5⟩; have HA5 := Lib.hid hA5; have HX4 := Lib.hid hX4; have HD := Lib.hid hd; have HM4 := Lib.hid hM4; clear hA5 hX4 hd hM4; obtain ⟨W6, hW6, hB6, hs6, S6⟩ := cbox1 w5 (opC d) (nmC d) (soC d) ⟨K0, K1, K2⟩ A2 N2 C2'; obtain ⟨W7, hW7, hB7, hs7, S7⟩ := cbox1 W6 (opC d) (nmC d) (soC d) ⟨K0, K1, K2⟩ A2 N2 C2'; obtain ⟨i0, i1, i2, i3, i4⟩ := S6.five; have F6 := CBox.b (CBox.b HF3.out hb5) hB6; obtain ⟨o0, o1, o2, o3, o4⟩ := F6.five; have b57 : Below w5.heap.size w5 W7 := (bel_trans hB6 hB7); have bR7 := bel_trans hb5 b57; rw [hs6] at S7; have HS7 := Lib.hid S7; obtain ⟨hl9, ho9⟩ := HOwn.out; have HO9 := Lib.hid (ho9.below bR7); have hl9' : hs9.length + 1 ≤ 1000000000 := (by omega); have hsz7 : w.heap.size + 3 ≤ W7.heap.size := Nat.le_trans hlw2 bR7.size; have HF7 := Lib.hid (CBox.b F6 hB7); clear ho9 S7 F6; dsimp only at *))
                | (at_builtin; ((refine app_oneC rfl (.tmp 56) (.tmp 58) rfl (w.heap.size + 3) (.slice vA j vC) hs9 rfl HO9.out (w5.heap.size + 1) (hcOf d ⟨K0, K1, K2⟩ A2 N2 C2') rfl HS7.out hl9' hsz7 ?_); intro g cap w8 ho8 hg8 hat8; obtain ⟨hBn, Hn⟩ := HStep.out w5 W7 w8 d K0 K1 K2 A2 N2 C2' A4 n4 c4 X4 g cap HD.out HA5.out HX4.out HM4.out hb5 b57 (fun _ => ho8) hg8 hat8; have F8 : CBox w8 (w.heap.size + 2) op x0 so ⟨KA, kn, kc⟩ vA j vC := Blk.grown HF7.out hg8 (fun e => by have := World.ownsRow.lt HO9.out _ e.symm; omega); obtain ⟨z0, z1, z2, z3, z4⟩ := F8.free; obtain ⟨k0, k1, k2, k3, k4⟩ := F8.five)))
              go_roundw
              case rel => exact ⟨_, j + 1, A4, n4, c4, some ⟨g, 0, none⟩, cap, rfl, by omega, rfl, by go_num, hBn, Hn⟩
              case measure => simp [intOf]; omega
            · obtain rfl : j = m := by omega
              have Hn := Lib.hid (fun v0 v1 v2 v3 v4 => HEnd.out x0 (HNm.out _) wr A3 n3 c3 vA vC hBr hH.out v0 v1 v2 v3 v4)
              obtain ⟨r0, r1, r2, r3, r4⟩ := C2.free
              obtain ⟨u0, u1, u2, u3, u4⟩ := C2.five
              have F3 := CBox.put C2 op x0 so ⟨KA, kn, kc⟩ vA j vC
              unfold put5 at F3
              obtain ⟨x0, x1, x2, x3, x4⟩ := F3.five
              clear hrow hH C1 C2 C3 hX3 F3 hM3
              dsimp only at *
              go_wp2
              simp [bodyPost, results, Try.results51, go_sem, x0, x1, x2, x3, x4]
              exact Hn.out _ _ _ _ _
        · clear HSt2
          go_enter Try.func51, Try.ntmps51
          go_wp2
          go_loopw [1, 7] (fun nv i wr0 => ∃ (wr : World) (j : Nat) (A3 : Option Addr) (n3 c3 : Nat) (vA : Option Addr) (vC : Nat), wr = wr0 ∧ j ≤ m ∧ nv = .slice A3 n3 c3 ∧ i = .int .i64 j ∧ Below w.heap.size w wr ∧ Hid (NmSt w0 w op nm x0 so ⟨KA, kn, kc⟩ a m c l wr A3 n3 c3 j vA vC)) (fun nv i _ => m - (intOf i).toNat)
          case atStart => exact ⟨_, 0, (some ⟨nb, no + 1, none⟩), (n' - 1), (c' - 1), none, 0, rfl, by omega, rfl, rfl, hBx, st1⟩
          case round =>
            obtain ⟨wr, j, A3, n3, c3, vA, vC, rfl, hj, rfl, rfl, hBr, hH⟩ := hrel
            obtain ⟨hX3, hM3, C1, C2, C3, hrow⟩ := hH.out
            obtain ⟨e0, e1, e2, e3, e4⟩ := C1.five
            obtain ⟨f0, f1, f2, f3, f4⟩ := C3.five
            by_cases hlt : j < m
            · have hb0r := HB0.out.trans (hBr.mono hs0)
              have hs0r := Nat.le_trans hs0 hBr.size
              obtain ⟨bb, o, x, ⟨xa, xn, xc⟩, AA, M, Cc, rfl, hbb, y0, y1, y2, y3, y4, hx, hax⟩ := HC.out.at hlt
              dsimp only at y3
              have t0 := (hb0r.cell (p := ⟨bb, _, none⟩) hbb).trans y0
              have t1 := (hb0r.cell (p := ⟨bb, _, none⟩) hbb).trans y1
              have t2 := (hb0r.cell (p := ⟨bb, _, none⟩) hbb).trans y2
              have t3 := (hb0r.cell (p := ⟨bb, _, none⟩) hbb).trans y3
              have t4 := (hb0r.cell (p := ⟨bb, _, none⟩) hbb).trans y4
              obtain ⟨X3, hX3'⟩ := hX3
              obtain ⟨hkx, hwx⟩ := HK.out j x hx
              obtain ⟨hs9, hrowH⟩ := hrow
              have cV := hkx ⟨xa, xn, xc⟩ AA M Cc A3 n3 c3 X3 wr hwx hax hX3' hM3 hb0r hs0r
              have HStep := Lib.hid (show ∀ (w5 w7 w8 : World) (d : Cl) (K0 : Option Addr) (K1 K2 : Nat) (A2 : Option Addr) (N2 C2' : Nat) (A4 : Option Addr) (n4 c4 : Nat) (X4 : List ByteArray) (g cap : Nat), liC x d → ArCP (OldNew w0.heap.size wr.heap.size w5.heap.size) w5 d ⟨K0, K1, K2⟩ A2 N2 C2' → SlS w0 A4 n4 c4 X4 → n4 ≤ 9223372036854775807 → Below wr.heap.size wr w5 → Below w5.heap.size w5 w7 →
                  (OwnC w7 (w.heap.size + 3) (.slice vA j vC) hs9 → OwnC w8 (w.heap.size + 3) (.slice (some ⟨g, 0, none⟩) (hs9.length + 1) cap) (hs9 ++ [hcOf d ⟨K0, K1, K2⟩ A2 N2 C2'])) → w7.grownBy w8 (Value.slice vA j vC).ownBlock → ((Value.slice vA j vC).ownBlock = some g ∨ g = w7.heap.size) → 
                  Below w.heap.size w (w8.setCell ⟨w.heap.size + 2, 4, none⟩ (.slice (some ⟨g, 0, none⟩) (j + 1) cap)) ∧ Hid (NmSt w0 w op nm x0 so ⟨KA, kn, kc⟩ (some ⟨bb, o, none⟩) m c l (w8.setCell ⟨w.heap.size + 2, 4, none⟩ (.slice (some ⟨g, 0, none⟩) (j + 1) cap)) A4 n4 c4 (j + 1) (some ⟨g, 0, none⟩) cap) from fun w5 w7 w8 d K0 K1 K2 A2 N2 C2' A4 n4 c4 X4 g cap hd hA5 hX4 hM4 h5 h7 ho hg hat => by
                have hlw : w.heap.size + 3 ≤ wr.heap.size := by have := Blk.lt C3; omega
                have hrow8 := NmRow.step hrowH (by omega) hlw hx hd h5 hA5 h7 ho hg hat
                have b7 := bel_trans h5 h7
                have hown : ∀ q, (Value.slice vA j vC).ownBlock = some q → w.heap.size + 3 ≤ q := fun q hq => by
                  obtain ⟨ds', _, _, h3, _, _⟩ := hrowH
                  exact (World.ownsRow.lt h3 q hq).1
                have C1' : CBox w8 w.heap.size op nm so ⟨KA, kn, kc⟩ (some ⟨bb, o, none⟩) m c := Blk.grown (Blk.below C1 b7) hg (fun e => by have := hown _ e.symm; omega)
                have C2'' : CBox w8 (w.heap.size + 1) 0 ⟨#[]⟩ ⟨#[]⟩ SS.nil none 0 0 := Blk.grown (Blk.below C2 b7) hg (fun e => by have := hown _ e.symm; omega)
                have C3' : CBox w8 (w.heap.size + 2) op x0 so ⟨KA, kn, kc⟩ vA j vC := Blk.grown (Blk.below C3 b7) hg (fun e => by have := hown _ e.symm; omega)
                refine ⟨below_set ((hBr.trans (b7.mono hBr.size)).grown hg (by have := b7.size; have := hBr.size; omega) (fun q hq => by have := hown q hq; omega)) (by omega) _ _, Lib.hid ⟨⟨X4, hX4⟩, hM4, CBox.far C1' (by omega) _ _, CBox.far C2'' (by omega) _ _, CBox.su C3' _ _ _, hrow8.far (by omega) (by omega) _ _⟩⟩)
              have HF3 := Lib.hid C3
              have HOwn := Lib.hid (show hs9.length = j ∧ OwnC wr (w.heap.size + 3) (.slice vA j vC) hs9 from by obtain ⟨ds', e1, _, h3, _, _⟩ := hrowH; exact ⟨e1, h3⟩)
              have hlw2 : w.heap.size + 3 ≤ wr.heap.size := by have := Blk.lt C3; omega
              clear y0 y1 y2 y3 y4 hx hax hkx hwx hrowH hH C1 C2 C3 hX3' hM3
              dsimp only at cV
              unfold NmRes at cV
              generalize opC x = op' at *
              generalize nmC x = nm2 at *
              generalize soC x = so' at *
              have hj0 : 0 ≤ (j : Int) := by omega
              have hj1 : (j : Int) < (m : Int) := by omega
              go_wp2_with (first
                | (go_at_call 51; ((with_reducible refine cV.mono ?_); rintro e w5 ⟨d, K0, K1, K2, A2, N2, C2', A4, n4, c4, X4, rfl, hd, hA5, hX4, hM4, hb5⟩; have HA5 := Lib.hid hA5; have HX4 := Lib.hid hX4; have HD := Lib.hid hd; have HM4 := Lib.hid hM4; clear hA5 hX4 hd hM4; obtain ⟨W6, hW6, hB6, hs6, S6⟩ := cbox1 w5 (opC d) (nmC d) (soC d) ⟨K0, K1, K2⟩ A2 N2 C2'; obtain ⟨W7, hW7, hB7, hs7, S7⟩ := cbox1 W6 (opC d) (nmC d) (soC d) ⟨K0, K1, K2⟩ A2 N2 C2'; obtain ⟨i0, i1, i2, i3, i4⟩ := S6.five; have F6 := CBox.b (CBox.b HF3.out hb5) hB6; obtain ⟨o0, o1, o2, o3, o4⟩ := F6.five; have b57 : Below w5.heap.size w5 W7 := (bel_trans hB6 hB7); have bR7 := bel_trans hb5 b57; rw [hs6] at S7; have HS7 := Lib.hid S7; obtain ⟨hl9, ho9⟩ := HOwn.out; have HO9 := Lib.hid (ho9.below bR7); have hl9' : hs9.length + 1 ≤ 1000000000 := (by omega); have hsz7 : w.heap.size + 3 ≤ W7.heap.size := Nat.le_trans hlw2 bR7.size; have HF7 := Lib.hid (CBox.b F6 hB7); clear ho9 S7 F6; dsimp only at *))
                | (at_builtin; ((refine app_oneC rfl (.tmp 56) (.tmp 58) rfl (w.heap.size + 3) (.slice vA j vC) hs9 rfl HO9.out (w5.heap.size + 1) (hcOf d ⟨K0, K1, K2⟩ A2 N2 C2') rfl HS7.out hl9' hsz7 ?_); intro g cap w8 ho8 hg8 hat8; obtain ⟨hBn, Hn⟩ := HStep.out w5 W7 w8 d K0 K1 K2 A2 N2 C2' A4 n4 c4 X4 g cap HD.out HA5.out HX4.out HM4.out hb5 b57 (fun _ => ho8) hg8 hat8; have F8 : CBox w8 (w.heap.size + 2) op x0 so ⟨KA, kn, kc⟩ vA j vC := Blk.grown HF7.out hg8 (fun e => by have := World.ownsRow.lt HO9.out _ e.symm; omega); obtain ⟨z0, z1, z2, z3, z4⟩ := F8.free; obtain ⟨k0, k1, k2, k3, k4⟩ := F8.five)))
              go_roundw
              case rel => exact ⟨_, j + 1, A4, n4, c4, some ⟨g, 0, none⟩, cap, rfl, by omega, rfl, by go_num, hBn, Hn⟩
              case measure => simp [intOf]; omega
            · obtain rfl : j = m := by omega
              have Hn := Lib.hid (fun v0 v1 v2 v3 v4 => HEnd.out x0 (HNm.out _) wr A3 n3 c3 vA vC hBr hH.out v0 v1 v2 v3 v4)
              obtain ⟨r0, r1, r2, r3, r4⟩ := C2.free
              obtain ⟨u0, u1, u2, u3, u4⟩ := C2.five
              have F3 := CBox.put C2 op x0 so ⟨KA, kn, kc⟩ vA j vC
              unfold put5 at F3
              obtain ⟨x0, x1, x2, x3, x4⟩ := F3.five
              clear hrow hH C1 C2 C3 hX3 F3 hM3
              dsimp only at *
              go_wp2
              simp [bodyPost, results, Try.results51, go_sem, x0, x1, x2, x3, x4]
              exact Hn.out _ _ _ _ _
      · have hpi : ¬ (0 : Int) < (n' : Int) := by omega
        clear hop
        go_enter Try.func51, Try.ntmps51
        go_wp2
        go_loopw [1, 7] (fun nv i wr0 => ∃ (wr : World) (j : Nat) (A3 : Option Addr) (n3 c3 : Nat) (vA : Option Addr) (vC : Nat), wr = wr0 ∧ j ≤ m ∧ nv = .slice A3 n3 c3 ∧ i = .int .i64 j ∧ Below w.heap.size w wr ∧ Hid (NmSt w0 w op nm nm so ⟨KA, kn, kc⟩ a m c l wr A3 n3 c3 j vA vC)) (fun nv i _ => m - (intOf i).toNat)
        case atStart => exact ⟨_, 0, A, n', c', none, 0, rfl, by omega, rfl, rfl, hB, HSt0⟩
        case round =>
          obtain ⟨wr, j, A3, n3, c3, vA, vC, rfl, hj, rfl, rfl, hBr, hH⟩ := hrel
          obtain ⟨hX3, hM3, C1, C2, C3, hrow⟩ := hH.out
          obtain ⟨e0, e1, e2, e3, e4⟩ := C1.five
          obtain ⟨f0, f1, f2, f3, f4⟩ := C3.five
          by_cases hlt : j < m
          · have hb0r := HB0.out.trans (hBr.mono hs0)
            have hs0r := Nat.le_trans hs0 hBr.size
            obtain ⟨bb, o, x, ⟨xa, xn, xc⟩, AA, M, Cc, rfl, hbb, y0, y1, y2, y3, y4, hx, hax⟩ := HC.out.at hlt
            dsimp only at y3
            have t0 := (hb0r.cell (p := ⟨bb, _, none⟩) hbb).trans y0
            have t1 := (hb0r.cell (p := ⟨bb, _, none⟩) hbb).trans y1
            have t2 := (hb0r.cell (p := ⟨bb, _, none⟩) hbb).trans y2
            have t3 := (hb0r.cell (p := ⟨bb, _, none⟩) hbb).trans y3
            have t4 := (hb0r.cell (p := ⟨bb, _, none⟩) hbb).trans y4
            obtain ⟨X3, hX3'⟩ := hX3
            obtain ⟨hkx, hwx⟩ := HK.out j x hx
            obtain ⟨hs9, hrowH⟩ := hrow
            have cV := hkx ⟨xa, xn, xc⟩ AA M Cc A3 n3 c3 X3 wr hwx hax hX3' hM3 hb0r hs0r
            have HStep := Lib.hid (show ∀ (w5 w7 w8 : World) (d : Cl) (K0 : Option Addr) (K1 K2 : Nat) (A2 : Option Addr) (N2 C2' : Nat) (A4 : Option Addr) (n4 c4 : Nat) (X4 : List ByteArray) (g cap : Nat), liC x d → ArCP (OldNew w0.heap.size wr.heap.size w5.heap.size) w5 d ⟨K0, K1, K2⟩ A2 N2 C2' → SlS w0 A4 n4 c4 X4 → n4 ≤ 9223372036854775807 → Below wr.heap.size wr w5 → Below w5.heap.size w5 w7 →
                (OwnC w7 (w.heap.size + 3) (.slice vA j vC) hs9 → OwnC w8 (w.heap.size + 3) (.slice (some ⟨g, 0, none⟩) (hs9.length + 1) cap) (hs9 ++ [hcOf d ⟨K0, K1, K2⟩ A2 N2 C2'])) → w7.grownBy w8 (Value.slice vA j vC).ownBlock → ((Value.slice vA j vC).ownBlock = some g ∨ g = w7.heap.size) → 
                Below w.heap.size w (w8.setCell ⟨w.heap.size + 2, 4, none⟩ (.slice (some ⟨g, 0, none⟩) (j + 1) cap)) ∧ Hid (NmSt w0 w op nm nm so ⟨KA, kn, kc⟩ (some ⟨bb, o, none⟩) m c l (w8.setCell ⟨w.heap.size + 2, 4, none⟩ (.slice (some ⟨g, 0, none⟩) (j + 1) cap)) A4 n4 c4 (j + 1) (some ⟨g, 0, none⟩) cap) from fun w5 w7 w8 d K0 K1 K2 A2 N2 C2' A4 n4 c4 X4 g cap hd hA5 hX4 hM4 h5 h7 ho hg hat => by
              have hlw : w.heap.size + 3 ≤ wr.heap.size := by have := Blk.lt C3; omega
              have hrow8 := NmRow.step hrowH (by omega) hlw hx hd h5 hA5 h7 ho hg hat
              have b7 := bel_trans h5 h7
              have hown : ∀ q, (Value.slice vA j vC).ownBlock = some q → w.heap.size + 3 ≤ q := fun q hq => by
                obtain ⟨ds', _, _, h3, _, _⟩ := hrowH
                exact (World.ownsRow.lt h3 q hq).1
              have C1' : CBox w8 w.heap.size op nm so ⟨KA, kn, kc⟩ (some ⟨bb, o, none⟩) m c := Blk.grown (Blk.below C1 b7) hg (fun e => by have := hown _ e.symm; omega)
              have C2'' : CBox w8 (w.heap.size + 1) 0 ⟨#[]⟩ ⟨#[]⟩ SS.nil none 0 0 := Blk.grown (Blk.below C2 b7) hg (fun e => by have := hown _ e.symm; omega)
              have C3' : CBox w8 (w.heap.size + 2) op nm so ⟨KA, kn, kc⟩ vA j vC := Blk.grown (Blk.below C3 b7) hg (fun e => by have := hown _ e.symm; omega)
              refine ⟨below_set ((hBr.trans (b7.mono hBr.size)).grown hg (by have := b7.size; have := hBr.size; omega) (fun q hq => by have := hown q hq; omega)) (by omega) _ _, Lib.hid ⟨⟨X4, hX4⟩, hM4, CBox.far C1' (by omega) _ _, CBox.far C2'' (by omega) _ _, CBox.su C3' _ _ _, hrow8.far (by omega) (by omega) _ _⟩⟩)
            have HF3 := Lib.hid C3
            have HOwn := Lib.hid (show hs9.length = j ∧ OwnC wr (w.heap.size + 3) (.slice vA j vC) hs9 from by obtain ⟨ds', e1, _, h3, _, _⟩ := hrowH; exact ⟨e1, h3⟩)
            have hlw2 : w.heap.size + 3 ≤ wr.heap.size := by have := Blk.lt C3; omega
            clear y0 y1 y2 y3 y4 hx hax hkx hwx hrowH hH C1 C2 C3 hX3' hM3
            dsimp only at cV
            unfold NmRes at cV
            generalize opC x = op' at *
            generalize nmC x = nm2 at *
            generalize soC x = so' at *
            have hj0 : 0 ≤ (j : Int) := by omega
            have hj1 : (j : Int) < (m : Int) := by omega
            go_wp2_with (first
              | (go_at_call 51; ((with_reducible refine cV.mono ?_); rintro e w5 ⟨d, K0, K1, K2, A2, N2, C2', A4, n4, c4, X4, rfl, hd, hA5, hX4, hM4, hb5⟩; have HA5 := Lib.hid hA5; have HX4 := Lib.hid hX4; have HD := Lib.hid hd; have HM4 := Lib.hid hM4; clear hA5 hX4 hd hM4; obtain ⟨W6, hW6, hB6, hs6, S6⟩ := cbox1 w5 (opC d) (nmC d) (soC d) ⟨K0, K1, K2⟩ A2 N2 C2'; obtain ⟨W7, hW7, hB7, hs7, S7⟩ := cbox1 W6 (opC d) (nmC d) (soC d) ⟨K0, K1, K2⟩ A2 N2 C2'; obtain ⟨i0, i1, i2, i3, i4⟩ := S6.five; have F6 := CBox.b (CBox.b HF3.out hb5) hB6; obtain ⟨o0, o1, o2, o3, o4⟩ := F6.five; have b57 : Below w5.heap.size w5 W7 := (bel_trans hB6 hB7); have bR7 := bel_trans hb5 b57; rw [hs6] at S7; have HS7 := Lib.hid S7; obtain ⟨hl9, ho9⟩ := HOwn.out; have HO9 := Lib.hid (ho9.below bR7); have hl9' : hs9.length + 1 ≤ 1000000000 := (by omega); have hsz7 : w.heap.size + 3 ≤ W7.heap.size := Nat.le_trans hlw2 bR7.size; have HF7 := Lib.hid (CBox.b F6 hB7); clear ho9 S7 F6; dsimp only at *))
              | (at_builtin; ((refine app_oneC rfl (.tmp 56) (.tmp 58) rfl (w.heap.size + 3) (.slice vA j vC) hs9 rfl HO9.out (w5.heap.size + 1) (hcOf d ⟨K0, K1, K2⟩ A2 N2 C2') rfl HS7.out hl9' hsz7 ?_); intro g cap w8 ho8 hg8 hat8; obtain ⟨hBn, Hn⟩ := HStep.out w5 W7 w8 d K0 K1 K2 A2 N2 C2' A4 n4 c4 X4 g cap HD.out HA5.out HX4.out HM4.out hb5 b57 (fun _ => ho8) hg8 hat8; have F8 : CBox w8 (w.heap.size + 2) op nm so ⟨KA, kn, kc⟩ vA j vC := Blk.grown HF7.out hg8 (fun e => by have := World.ownsRow.lt HO9.out _ e.symm; omega); obtain ⟨z0, z1, z2, z3, z4⟩ := F8.free; obtain ⟨k0, k1, k2, k3, k4⟩ := F8.five)))
            go_roundw
            case rel => exact ⟨_, j + 1, A4, n4, c4, some ⟨g, 0, none⟩, cap, rfl, by omega, rfl, by go_num, hBn, Hn⟩
            case measure => simp [intOf]; omega
          · obtain rfl : j = m := by omega
            have Hn := Lib.hid (fun v0 v1 v2 v3 v4 => HEnd.out nm (fun _ _ => rfl) wr A3 n3 c3 vA vC hBr hH.out v0 v1 v2 v3 v4)
            obtain ⟨r0, r1, r2, r3, r4⟩ := C2.free
            obtain ⟨u0, u1, u2, u3, u4⟩ := C2.five
            have F3 := CBox.put C2 op nm so ⟨KA, kn, kc⟩ vA j vC
            unfold put5 at F3
            obtain ⟨x0, x1, x2, x3, x4⟩ := F3.five
            clear hrow hH C1 C2 C3 hX3 F3 hM3
            dsimp only at *
            go_wp2
            simp [bodyPost, results, Try.results51, go_sem, x0, x1, x2, x3, x4]
            exact Hn.out _ _ _ _ _
    · have p2 : (op == 12) = false := beq_no' h12
      clear hop h11 h12
      go_enter Try.func51, Try.ntmps51
      go_wp2
      go_loopw [1, 7] (fun nv i wr0 => ∃ (wr : World) (j : Nat) (A3 : Option Addr) (n3 c3 : Nat) (vA : Option Addr) (vC : Nat), wr = wr0 ∧ j ≤ m ∧ nv = .slice A3 n3 c3 ∧ i = .int .i64 j ∧ Below w.heap.size w wr ∧ Hid (NmSt w0 w op nm nm so ⟨KA, kn, kc⟩ a m c l wr A3 n3 c3 j vA vC)) (fun nv i _ => m - (intOf i).toNat)
      case atStart => exact ⟨_, 0, A, n', c', none, 0, rfl, by omega, rfl, rfl, hB, HSt0⟩
      case round =>
        obtain ⟨wr, j, A3, n3, c3, vA, vC, rfl, hj, rfl, rfl, hBr, hH⟩ := hrel
        obtain ⟨hX3, hM3, C1, C2, C3, hrow⟩ := hH.out
        obtain ⟨e0, e1, e2, e3, e4⟩ := C1.five
        obtain ⟨f0, f1, f2, f3, f4⟩ := C3.five
        by_cases hlt : j < m
        · have hb0r := HB0.out.trans (hBr.mono hs0)
          have hs0r := Nat.le_trans hs0 hBr.size
          obtain ⟨bb, o, x, ⟨xa, xn, xc⟩, AA, M, Cc, rfl, hbb, y0, y1, y2, y3, y4, hx, hax⟩ := HC.out.at hlt
          dsimp only at y3
          have t0 := (hb0r.cell (p := ⟨bb, _, none⟩) hbb).trans y0
          have t1 := (hb0r.cell (p := ⟨bb, _, none⟩) hbb).trans y1
          have t2 := (hb0r.cell (p := ⟨bb, _, none⟩) hbb).trans y2
          have t3 := (hb0r.cell (p := ⟨bb, _, none⟩) hbb).trans y3
          have t4 := (hb0r.cell (p := ⟨bb, _, none⟩) hbb).trans y4
          obtain ⟨X3, hX3'⟩ := hX3
          obtain ⟨hkx, hwx⟩ := HK.out j x hx
          obtain ⟨hs9, hrowH⟩ := hrow
          have cV := hkx ⟨xa, xn, xc⟩ AA M Cc A3 n3 c3 X3 wr hwx hax hX3' hM3 hb0r hs0r
          have HStep := Lib.hid (show ∀ (w5 w7 w8 : World) (d : Cl) (K0 : Option Addr) (K1 K2 : Nat) (A2 : Option Addr) (N2 C2' : Nat) (A4 : Option Addr) (n4 c4 : Nat) (X4 : List ByteArray) (g cap : Nat), liC x d → ArCP (OldNew w0.heap.size wr.heap.size w5.heap.size) w5 d ⟨K0, K1, K2⟩ A2 N2 C2' → SlS w0 A4 n4 c4 X4 → n4 ≤ 9223372036854775807 → Below wr.heap.size wr w5 → Below w5.heap.size w5 w7 →
              (OwnC w7 (w.heap.size + 3) (.slice vA j vC) hs9 → OwnC w8 (w.heap.size + 3) (.slice (some ⟨g, 0, none⟩) (hs9.length + 1) cap) (hs9 ++ [hcOf d ⟨K0, K1, K2⟩ A2 N2 C2'])) → w7.grownBy w8 (Value.slice vA j vC).ownBlock → ((Value.slice vA j vC).ownBlock = some g ∨ g = w7.heap.size) → 
              Below w.heap.size w (w8.setCell ⟨w.heap.size + 2, 4, none⟩ (.slice (some ⟨g, 0, none⟩) (j + 1) cap)) ∧ Hid (NmSt w0 w op nm nm so ⟨KA, kn, kc⟩ (some ⟨bb, o, none⟩) m c l (w8.setCell ⟨w.heap.size + 2, 4, none⟩ (.slice (some ⟨g, 0, none⟩) (j + 1) cap)) A4 n4 c4 (j + 1) (some ⟨g, 0, none⟩) cap) from fun w5 w7 w8 d K0 K1 K2 A2 N2 C2' A4 n4 c4 X4 g cap hd hA5 hX4 hM4 h5 h7 ho hg hat => by
            have hlw : w.heap.size + 3 ≤ wr.heap.size := by have := Blk.lt C3; omega
            have hrow8 := NmRow.step hrowH (by omega) hlw hx hd h5 hA5 h7 ho hg hat
            have b7 := bel_trans h5 h7
            have hown : ∀ q, (Value.slice vA j vC).ownBlock = some q → w.heap.size + 3 ≤ q := fun q hq => by
              obtain ⟨ds', _, _, h3, _, _⟩ := hrowH
              exact (World.ownsRow.lt h3 q hq).1
            have C1' : CBox w8 w.heap.size op nm so ⟨KA, kn, kc⟩ (some ⟨bb, o, none⟩) m c := Blk.grown (Blk.below C1 b7) hg (fun e => by have := hown _ e.symm; omega)
            have C2'' : CBox w8 (w.heap.size + 1) 0 ⟨#[]⟩ ⟨#[]⟩ SS.nil none 0 0 := Blk.grown (Blk.below C2 b7) hg (fun e => by have := hown _ e.symm; omega)
            have C3' : CBox w8 (w.heap.size + 2) op nm so ⟨KA, kn, kc⟩ vA j vC := Blk.grown (Blk.below C3 b7) hg (fun e => by have := hown _ e.symm; omega)
            refine ⟨below_set ((hBr.trans (b7.mono hBr.size)).grown hg (by have := b7.size; have := hBr.size; omega) (fun q hq => by have := hown q hq; omega)) (by omega) _ _, Lib.hid ⟨⟨X4, hX4⟩, hM4, CBox.far C1' (by omega) _ _, CBox.far C2'' (by omega) _ _, CBox.su C3' _ _ _, hrow8.far (by omega) (by omega) _ _⟩⟩)
          have HF3 := Lib.hid C3
          have HOwn := Lib.hid (show hs9.length = j ∧ OwnC wr (w.heap.size + 3) (.slice vA j vC) hs9 from by obtain ⟨ds', e1, _, h3, _, _⟩ := hrowH; exact ⟨e1, h3⟩)
          have hlw2 : w.heap.size + 3 ≤ wr.heap.size := by have := Blk.lt C3; omega
          clear y0 y1 y2 y3 y4 hx hax hkx hwx hrowH hH C1 C2 C3 hX3' hM3
          dsimp only at cV
          unfold NmRes at cV
          generalize opC x = op' at *
          generalize nmC x = nm2 at *
          generalize soC x = so' at *
          have hj0 : 0 ≤ (j : Int) := by omega
          have hj1 : (j : Int) < (m : Int) := by omega
          go_wp2_with (first
            | (go_at_call 51; ((with_reducible refine cV.mono ?_); rintro e w5 ⟨d, K0, K1, K2, A2, N2, C2', A4, n4, c4, X4, rfl, hd, hA5, hX4, hM4, hb5⟩; have HA5 := Lib.hid hA5; have HX4 := Lib.hid hX4; have HD := Lib.hid hd; have HM4 := Lib.hid hM4; clear hA5 hX4 hd hM4; obtain ⟨W6, hW6, hB6, hs6, S6⟩ := cbox1 w5 (opC d) (nmC d) (soC d) ⟨K0, K1, K2⟩ A2 N2 C2'; obtain ⟨W7, hW7, hB7, hs7, S7⟩ := cbox1 W6 (opC d) (nmC d) (soC d) ⟨K0, K1, K2⟩ A2 N2 C2'; obtain ⟨i0, i1, i2, i3, i4⟩ := S6.five; have F6 := CBox.b (CBox.b HF3.out hb5) hB6; obtain ⟨o0, o1, o2, o3, o4⟩ := F6.five; have b57 : Below w5.heap.size w5 W7 := (bel_trans hB6 hB7); have bR7 := bel_trans hb5 b57; rw [hs6] at S7; have HS7 := Lib.hid S7; obtain ⟨hl9, ho9⟩ := HOwn.out; have HO9 := Lib.hid (ho9.below bR7); have hl9' : hs9.length + 1 ≤ 1000000000 := (by omega); have hsz7 : w.heap.size + 3 ≤ W7.heap.size := Nat.le_trans hlw2 bR7.size; have HF7 := Lib.hid (CBox.b F6 hB7); clear ho9 S7 F6; dsimp only at *))
            | (at_builtin; ((refine app_oneC rfl (.tmp 56) (.tmp 58) rfl (w.heap.size + 3) (.slice vA j vC) hs9 rfl HO9.out (w5.heap.size + 1) (hcOf d ⟨K0, K1, K2⟩ A2 N2 C2') rfl HS7.out hl9' hsz7 ?_); intro g cap w8 ho8 hg8 hat8; obtain ⟨hBn, Hn⟩ := HStep.out w5 W7 w8 d K0 K1 K2 A2 N2 C2' A4 n4 c4 X4 g cap HD.out HA5.out HX4.out HM4.out hb5 b57 (fun _ => ho8) hg8 hat8; have F8 : CBox w8 (w.heap.size + 2) op nm so ⟨KA, kn, kc⟩ vA j vC := Blk.grown HF7.out hg8 (fun e => by have := World.ownsRow.lt HO9.out _ e.symm; omega); obtain ⟨z0, z1, z2, z3, z4⟩ := F8.free; obtain ⟨k0, k1, k2, k3, k4⟩ := F8.five)))
          go_roundw
          case rel => exact ⟨_, j + 1, A4, n4, c4, some ⟨g, 0, none⟩, cap, rfl, by omega, rfl, by go_num, hBn, Hn⟩
          case measure => simp [intOf]; omega
        · obtain rfl : j = m := by omega
          have Hn := Lib.hid (fun v0 v1 v2 v3 v4 => HEnd.out nm (fun _ _ => rfl) wr A3 n3 c3 vA vC hBr hH.out v0 v1 v2 v3 v4)
          obtain ⟨r0, r1, r2, r3, r4⟩ := C2.free
          obtain ⟨u0, u1, u2, u3, u4⟩ := C2.five
          have F3 := CBox.put C2 op nm so ⟨KA, kn, kc⟩ vA j vC
          unfold put5 at F3
          obtain ⟨x0, x1, x2, x3, x4⟩ := F3.five
          clear hrow hH C1 C2 C3 hX3 F3 hM3
          dsimp only at *
          go_wp2
          simp [bodyPost, results, Try.results51, go_sem, x0, x1, x2, x3, x4]
          exact Hn.out _ _ _ _ _
theorem named_any (w0 : World) (t : Cl) : NmOk w0 t := Cl.ind (named_step w0) t
end Go.Proofs.Yteedfbbcboehgaa.U
