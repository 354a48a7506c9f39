/-
  What is proved: the library's stable sort of any number of places.
  What is proved: the library's CompactFunc over a row of places: of alike neighbours the first one stays.
-/
import Derived.Test.YtjjfbgadpgckeaaGreatZTrmSh
import Derived.Test.YtjjfbgadpgckeaaGreatZTrmSi
import Derived.Test.YtjjfbgadpgckeaaGreatB1
import Derived.Deep.DeepCutAuto
import Derived.Deep.CutRange
import Derived.Lib.SliceRun
namespace Go.Proofs.YtjjfbgadpgckeaaGreat.T
open Go.RowKit L
set_option linter.unusedVariables false
set_option linter.unusedSimpArgs false

theorem sym_any (g gc gl n : Nat) (l : List Tm) (w0 : World) (hc : CmpIn g gc gl n l w0) (cf : Nat → Nat → Int) (hcf : ∀ i j, cmpT (atL l i) (atL l j) = cf i j) (h3 : Cmp3 cf) (N cap : Nat) (hN2 : N ≤ 1000000) : ∀ K, SymAt g gc gl n N cap cf w0 K
  | 0 => fun X A B Y a m b w hA hB hK => by have := List.length_pos_iff.2 hA; omega
  | K + 1 => fun X A B Y a m b w hA hB hK ha hm hb hN hsA hsB hx hlt hbw hr => by
    by_cases h1 : A.length = 1
    · obtain ⟨x, rfl⟩ := List.length_eq_one_iff.1 h1
      exact sym_left g gc gl n l w0 hc cf hcf h3 X B Y x hsB (fun y hy => hx x (by simp) y hy) (fun z hz => hlt z (by simpa using hz)) N cap a m b ha (by simpa using hm) hb hN hN2 w hbw (by simpa using hr)
    · by_cases h2 : B.length = 1
      · obtain ⟨y, rfl⟩ := List.length_eq_one_iff.1 h2
        refine (sym_right g gc gl n l w0 hc cf hcf h3 X A Y y hsA (fun x hx1 => hx x hx1 y (by simp)) (fun z hz => hlt z (by rcases List.mem_cons.1 hz with h | h <;> simp [h])) N cap a m b h1 ha hm (by simpa using hb) hN hN2 w hbw (by simpa using hr)).mono fun e w' ⟨k1, ⟨M, k2, k3, k4⟩, k5⟩ => ⟨k1, ⟨M, k2, k3.trans (List.perm_append_comm (l₁ := [y])), k4⟩, k5⟩
      · have IH := sym_any g gc gl n l w0 hc cf hcf h3 N cap hN2 K
        by_cases hq : (a + b) / 2 < m
        · exact sym_gen1 g gc gl n l w0 hc cf hcf h3 K N cap hN2 IH X A B Y a m b w hK hq hA hB h1 h2 ha hm hb hN hsA hsB hx hlt hbw hr
        · exact sym_gen2 g gc gl n l w0 hc cf hcf h3 K N cap hN2 IH X A B Y a m b w hK hq hA hB h1 h2 ha hm hb hN hsA hsB hx hlt hbw hr

/-! insertion keeps alike places in their order -/
theorem ins_srt {c : Nat → Nat → Int} (hc : Cmp3 c) (x : Nat) : ∀ l : List Nat, l.Pairwise (fun u v => lx c v u) → (∀ y ∈ l, y < x) → (insRev c x l).Pairwise (fun u v => lx c v u)
  | [], _, _ => List.pairwise_singleton _ _
  | y :: l, h, hlt => by
    obtain ⟨h1, h2⟩ := List.pairwise_cons.1 h
    rw [insRev]
    split
    · rename_i hn
      refine List.pairwise_cons.2 ⟨fun v hv => ?_, ins_srt hc x l h2 fun z hz => hlt z (List.mem_cons_of_mem _ hz)⟩
      rcases List.mem_cons.1 ((insRev_perm c x l).mem_iff.1 hv) with rfl | hv
      · exact .inl hn
      · exact h1 v hv
    · rename_i hn
      have hyx : lx c y x := lx_ge hc hn (hlt y (by simp))
      refine List.pairwise_cons.2 ⟨fun v hv => ?_, h⟩
      rcases List.mem_cons.1 hv with rfl | hv
      · exact hyx
      · exact lx_trans hc (h1 v hv) hyx
theorem isort_srt {c : Nat → Nat → Int} (hc : Cmp3 c) : ∀ (l acc : List Nat), acc.Pairwise (fun u v => lx c v u) → (∀ x ∈ acc, ∀ y ∈ l, x < y) → l.Pairwise (· < ·) → (isortR c acc l).Pairwise (fun u v => lx c v u)
  | [], acc, h, _, _ => h
  | x :: l, acc, h, h1, h2 => by
    obtain ⟨p1, p2⟩ := List.pairwise_cons.1 h2
    refine isort_srt hc l (insRev c x acc) (ins_srt hc x acc h fun y hy => h1 y hy x (by simp)) (fun z hz y hy => ?_) p2
    rcases List.mem_cons.1 ((insRev_perm c x acc).mem_iff.1 hz) with rfl | hz
    · exact p1 y hy
    · exact h1 z hz y (List.mem_cons_of_mem _ hy)
theorem isort_ok {c : Nat → Nat → Int} (hc : Cmp3 c) (l : List Nat) (h : l.Pairwise (· < ·)) : Srt c (isortR c [] l).reverse ∧ (isortR c [] l).reverse.Perm l :=
  ⟨List.pairwise_reverse.2 (isort_srt hc l [] List.Pairwise.nil (fun x hx => by cases hx) h), (List.reverse_perm _).trans (by simpa using isortR_perm c l [])⟩
/-! rows of sorted blocks -/
def Full (c : Nat → Nat → Int) (k : Nat) (R : List (List Nat)) : Prop := ∀ r ∈ R, r.length = k ∧ Srt c r
def Chain (R : List (List Nat)) : Prop := R.Pairwise fun r s => ∀ x ∈ r, ∀ y ∈ s, x < y
theorem full_len {c : Nat → Nat → Int} {k : Nat} : ∀ {R : List (List Nat)}, Full c k R → R.flatten.length = R.length * k
  | [], _ => by simp
  | r :: R, h => by
    have := full_len (R := R) fun s hs => h s (List.mem_cons_of_mem _ hs)
    rw [List.flatten_cons, List.length_append, this, (h r (by simp)).1, List.length_cons, Nat.succ_mul]; omega
/-- the row as so many sorted blocks of one length, and a shorter one -/
def Blks (c : Nat → Nat → Int) (z : List Nat) (bs : Nat) (Z : List Nat) : Prop := ∃ R last, Z = R.flatten ++ last ∧ Z.Perm z ∧ Full c bs R ∧ Srt c last ∧ last.length < bs ∧ Chain (R ++ [last])
/-- half way: blocks of twice the length up to a -/
def Half (c : Nat → Nat → Int) (z : List Nat) (bs a : Nat) (Z : List Nat) : Prop := ∃ D R last, Z = D.flatten ++ (R.flatten ++ last) ∧ Z.Perm z ∧ Full c (2 * bs) D ∧ Full c bs R ∧ Srt c last ∧ last.length < bs ∧ Chain (D ++ (R ++ [last])) ∧ D.flatten.length = a
/-- blocks of k places up to a, the rest untouched -/
def Ins (c : Nat → Nat → Int) (z : List Nat) (k a : Nat) (Z : List Nat) : Prop := ∃ D, Z = D.flatten ++ z.drop a ∧ D.flatten.Perm (z.take a) ∧ Full c k D ∧ Chain D ∧ D.flatten.length = a
theorem chain_merge {D R : List (List Nat)} {p q r : List Nat} (hp : r.Perm (p ++ q)) (h : Chain (D ++ (p :: q :: R))) : Chain (D ++ (r :: R)) := by
  obtain ⟨h1, h2, h3⟩ := List.pairwise_append.1 h
  obtain ⟨h4, h5⟩ := List.pairwise_cons.1 h2
  obtain ⟨h6, h7⟩ := List.pairwise_cons.1 h5
  refine List.pairwise_append.2 ⟨h1, List.pairwise_cons.2 ⟨fun s hs x hx y hy => ?_, h7⟩, fun d hd s hs x hx y hy => ?_⟩
  · rcases List.mem_append.1 (hp.mem_iff.1 hx) with hx | hx
    · exact h4 s (List.mem_cons_of_mem _ hs) x hx y hy
    · exact h6 s hs x hx y hy
  · rcases List.mem_cons.1 hs with rfl | hs
    · rcases List.mem_append.1 (hp.mem_iff.1 hy) with hy | hy
      · exact h3 d hd p (by simp) x hx y hy
      · exact h3 d hd q (by simp) x hx y hy
    · exact h3 d hd s (by simp [hs]) x hx y hy
theorem flat_snoc (D : List (List Nat)) (r : List Nat) : (D ++ [r]).flatten = D.flatten ++ r := by simp
/-- a block more of the first pass -/
theorem ins_step {c : Nat → Nat → Int} (hc : Cmp3 c) {z : List Nat} (hz : z.Pairwise (· < ·)) {k a : Nat} {Z : List Nat} (h : Ins c z k a Z) (hk : a + k ≤ z.length) :
    ∃ pre, pre.length = a ∧ Z = pre ++ (z.drop a).take k ++ z.drop (a + k) ∧ ((z.drop a).take k).length = k ∧ Ins c z k (a + k) (pre ++ (isortR c [] ((z.drop a).take k)).reverse ++ z.drop (a + k)) := by
  obtain ⟨D, h1, h2, h3, h4, h5⟩ := h
  have hs : ((z.drop a).take k).Pairwise (· < ·) := (hz.sublist (List.drop_sublist _ _)).sublist (List.take_sublist _ _)
  obtain ⟨s1, s2⟩ := isort_ok hc _ hs
  have hl : ((z.drop a).take k).length = k := by simp; omega
  have ht : z.take (a + k) = z.take a ++ (z.drop a).take k := by rw [List.take_add]
  refine ⟨D.flatten, h5, ?_, hl, D ++ [(isortR c [] ((z.drop a).take k)).reverse], by rw [flat_snoc], ?_, ?_, ?_, ?_⟩
  · rw [h1, List.append_assoc]
    congr 1
    rw [← List.drop_drop, List.take_append_drop]
  · rw [flat_snoc, ht]
    exact h2.append s2
  · intro r hr
    rcases List.mem_append.1 hr with hr | hr
    · exact h3 r hr
    · rw [List.mem_singleton.1 hr]
      exact ⟨by rw [s2.length_eq, hl], s1⟩
  · refine List.pairwise_append.2 ⟨h4, List.pairwise_singleton _ _, fun d hd s hs x hx y hy => ?_⟩
    rw [List.mem_singleton.1 hs] at hy
    have hx2 := h2.mem_iff.1 (List.mem_flatten.2 ⟨d, hd, hx⟩)
    have hy2 := s2.mem_iff.1 hy
    have := List.pairwise_append.1 (show (z.take a ++ z.drop a).Pairwise (· < ·) by rw [List.take_append_drop]; exact hz)
    exact this.2.2 x hx2 y (List.take_subset _ _ hy2)
  · rw [flat_snoc, List.length_append, s2.length_eq, hl, h5]
theorem ins_last {c : Nat → Nat → Int} (hc : Cmp3 c) {z : List Nat} (hz : z.Pairwise (· < ·)) {k a : Nat} {Z : List Nat} (h : Ins c z k a Z) (ha : a ≤ z.length) (hk : z.length < a + k) :
    ∃ pre, pre.length = a ∧ Z = pre ++ z.drop a ++ [] ∧ (z.drop a).length = z.length - a ∧ Blks c z k (pre ++ (isortR c [] (z.drop a)).reverse ++ []) := by
  obtain ⟨D, h1, h2, h3, h4, h5⟩ := h
  have hs : (z.drop a).Pairwise (· < ·) := hz.sublist (List.drop_sublist _ _)
  obtain ⟨s1, s2⟩ := isort_ok hc _ hs
  have hl : (z.drop a).length = z.length - a := by simp
  refine ⟨D.flatten, h5, by rw [h1]; simp, hl, D, (isortR c [] (z.drop a)).reverse, by simp, ?_, h3, s1, by rw [s2.length_eq, hl]; omega, ?_⟩
  · rw [List.append_nil]
    refine (h2.append s2).trans ?_
    rw [List.take_append_drop]
  · refine List.pairwise_append.2 ⟨h4, List.pairwise_singleton _ _, fun d hd s hs x hx y hy => ?_⟩
    rw [List.mem_singleton.1 hs] at hy
    have hx2 := h2.mem_iff.1 (List.mem_flatten.2 ⟨d, hd, hx⟩)
    have hy2 := s2.mem_iff.1 hy
    have := List.pairwise_append.1 (show (z.take a ++ z.drop a).Pairwise (· < ·) by rw [List.take_append_drop]; exact hz)
    exact this.2.2 x hx2 y hy2
theorem half_start {c : Nat → Nat → Int} {z : List Nat} {bs : Nat} {Z : List Nat} (h : Blks c z bs Z) : Half c z bs 0 Z := by
  obtain ⟨R, last, h1, h2, h3, h4, h5, h6⟩ := h
  exact ⟨[], R, last, by simpa using h1, h2, (by intro r hr; cases hr), h3, h4, h5, by simpa using h6, rfl⟩
theorem half_step {c : Nat → Nat → Int} {z : List Nat} {bs a : Nat} {Z : List Nat} (h : Half c z bs a Z) (hb : a + 2 * bs ≤ Z.length) :
    ∃ X A B Y, Z = X ++ A ++ B ++ Y ∧ X.length = a ∧ A.length = bs ∧ B.length = bs ∧ Srt c A ∧ Srt c B ∧ (∀ x ∈ A, ∀ y ∈ B, x < y) ∧ ∀ M, M.Perm (A ++ B) → Srt c M → Half c z bs (a + 2 * bs) (X ++ M ++ Y) := by
  obtain ⟨D, R, last, h1, h2, h3, h4, h5, h6, h7, h8⟩ := h
  have hl : Z.length = a + (R.length * bs + last.length) := by rw [h1, List.length_append, List.length_append, h8, full_len h4]
  match R, h1, h4, h7, hl with
  | [], h1, h4, h7, hl => simp at hl; omega
  | [p], h1, h4, h7, hl => simp at hl; omega
  | p :: q :: R, h1, h4, h7, hl =>
    have hp := h4 p (by simp)
    have hq := h4 q (by simp)
    have hpq : ∀ x ∈ p, ∀ y ∈ q, x < y := by
      have := (List.pairwise_append.1 h7).2.1
      exact (List.pairwise_cons.1 this).1 q (by simp)
    refine ⟨D.flatten, p, q, R.flatten ++ last, by rw [h1]; simp, h8, hp.1, hq.1, hp.2, hq.2, hpq, fun M hM hs => ?_⟩
    refine ⟨D ++ [M], R, last, by rw [flat_snoc], ?_, ?_, fun r hr => h4 r (by simp [hr]), h5, h6, ?_, ?_⟩
    · refine List.Perm.trans ?_ h2
      rw [h1]
      have e : D.flatten ++ ((p :: q :: R).flatten ++ last) = D.flatten ++ (p ++ q) ++ (R.flatten ++ last) := by simp
      rw [e]
      exact (hM.append_left _).append_right _
    · intro r hr
      rcases List.mem_append.1 hr with hr | hr
      · exact h3 r hr
      · rw [List.mem_singleton.1 hr]
        exact ⟨by rw [hM.length_eq, List.length_append, hp.1, hq.1]; omega, hs⟩
    · have := chain_merge hM h7
      simpa using this
    · rw [flat_snoc, List.length_append, h8, hM.length_eq, List.length_append, hp.1, hq.1]; omega
/-- the end of a pass: one more merge, or none -/
theorem half_end {c : Nat → Nat → Int} {z : List Nat} {bs a : Nat} {Z : List Nat} (h : Half c z bs a Z) (hb : Z.length < a + 2 * bs) :
    (a + bs < Z.length → ∃ X A B, Z = X ++ A ++ B ++ [] ∧ X.length = a ∧ A.length = bs ∧ B.length = Z.length - a - bs ∧ Srt c A ∧ Srt c B ∧ (∀ x ∈ A, ∀ y ∈ B, x < y) ∧ ∀ M, M.Perm (A ++ B) → Srt c M → Blks c z (2 * bs) (X ++ M ++ [])) ∧
      (¬ a + bs < Z.length → Blks c z (2 * bs) Z) := by
  obtain ⟨D, R, last, h1, h2, h3, h4, h5, h6, h7, h8⟩ := h
  have hl : Z.length = a + (R.length * bs + last.length) := by rw [h1, List.length_append, List.length_append, h8, full_len h4]
  match R, h1, h4, h7, hl with
  | [], h1, h4, h7, hl =>
    simp at hl
    refine ⟨fun h => by omega, fun _ => ⟨D, last, by simpa using h1, h2, h3, h5, by omega, by simpa using h7⟩⟩
  | [p], h1, h4, h7, hl =>
    have hp := h4 p (by simp)
    simp at hl
    refine ⟨fun h => ⟨D.flatten, p, last, by rw [h1]; simp, h8, hp.1, by omega, hp.2, h5, ?_, fun M hM hs => ?_⟩, fun h => ?_⟩
    · have := (List.pairwise_append.1 h7).2.1
      exact (List.pairwise_cons.1 this).1 last (by simp)
    · refine ⟨D, M, by simp, ?_, h3, hs, by rw [hM.length_eq, List.length_append, hp.1]; omega, ?_⟩
      · refine List.Perm.trans ?_ h2
        rw [h1]
        simpa using hM.append_left D.flatten
      · exact chain_merge (R := []) hM (by simpa using h7)
    · have e0 : last = [] := List.eq_nil_of_length_eq_zero (by omega)
      subst e0
      refine ⟨D, p, by simpa using h1, h2, h3, hp.2, by rw [hp.1]; omega, ?_⟩
      exact chain_merge (R := []) (p := p) (q := []) (by simp) (by simpa using h7)
  | p :: q :: R, h1, h4, h7, hl =>
    simp only [List.length_cons] at hl
    have : (R.length + 1 + 1) * bs = R.length * bs + bs + bs := by rw [Nat.succ_mul, Nat.succ_mul]
    omega
theorem blks_end {c : Nat → Nat → Int} {z : List Nat} {bs : Nat} {Z : List Nat} (h : Blks c z bs Z) (hb : Z.length ≤ bs) (h0 : 0 < bs) : Z.Perm z ∧ Srt c Z := by
  obtain ⟨R, last, h1, h2, h3, h4, h5, h6⟩ := h
  refine ⟨h2, ?_⟩
  have hl : Z.length = R.length * bs + last.length := by rw [h1, List.length_append, full_len h3]
  match R, h1, h3, h6, hl with
  | [], h1, h3, h6, hl => rw [h1]; simpa using h4
  | [p], h1, h3, h6, hl =>
    have e0 : last = [] := List.eq_nil_of_length_eq_zero (by simp at hl; omega)
    subst e0
    rw [h1]; simpa using (h3 p (by simp)).2
  | p :: q :: R, h1, h3, h6, hl =>
    simp only [List.length_cons] at hl
    have : (R.length + 1 + 1) * bs = R.length * bs + bs + bs := by rw [Nat.succ_mul, Nat.succ_mul]
    omega

/-- what the calls of the sort's passes find and leave -/
theorem stb_parts (g gc gl n : Nat) (l : List Tm) (w0 : World) (hc : CmpIn g gc gl n l w0) (cf : Nat → Nat → Int) (hcf : ∀ i j, cmpT (atL l i) (atL l j) = cf i j) (h3 : Cmp3 cf) (z : List Nat) (hz : z.Pairwise (· < ·)) (hlt : ∀ y ∈ z, y < n) (N cap : Nat) (hN : N = z.length) (hN2 : N ≤ 1000000) (w : World) (hbw : Below g w0 w) (hg : g < w.heap.size) :
    (∀ (a b : Nat) (W : World), a + 20 ≤ b → b ≤ a + 20 → b ≤ N → w.grownBy W (some g) → (∃ Z, RowN W g Z ∧ Ins cf z 20 a Z) → Calls Tryz.prog 120 #[.slice (some ⟨g, 0, none⟩) N cap, .int .i64 a, .int .i64 b, .func (.func 72) #[] #[.pointer (some ⟨gc, 0, none⟩), .pointer (some ⟨gl, 0, none⟩)]] W fun e w' => (∃ v, e = .returned v) ∧ (∃ Z, RowN w' g Z ∧ Ins cf z 20 b Z) ∧ w.grownBy w' (some g)) ∧
    (∀ (a : Nat) (W : World), a ≤ N → N < a + 20 → w.grownBy W (some g) → (∃ Z, RowN W g Z ∧ Ins cf z 20 a Z) → Calls Tryz.prog 120 #[.slice (some ⟨g, 0, none⟩) N cap, .int .i64 a, .int .i64 N, .func (.func 72) #[] #[.pointer (some ⟨gc, 0, none⟩), .pointer (some ⟨gl, 0, none⟩)]] W fun e w' => (∃ v, e = .returned v) ∧ (∃ Z, RowN w' g Z ∧ Blks cf z 20 Z) ∧ w.grownBy w' (some g)) ∧
    (∀ (bs a m b : Nat) (W : World), 0 < bs → a + bs = m → a + 2 * bs = b → b ≤ N → w.grownBy W (some g) → (∃ Z, RowN W g Z ∧ Half cf z bs a Z) → Calls Tryz.prog 121 #[.slice (some ⟨g, 0, none⟩) N cap, .int .i64 a, .int .i64 m, .int .i64 b, .func (.func 72) #[] #[.pointer (some ⟨gc, 0, none⟩), .pointer (some ⟨gl, 0, none⟩)]] W fun e w' => (∃ v, e = .returned v) ∧ (∃ Z, RowN w' g Z ∧ Half cf z bs b Z) ∧ w.grownBy w' (some g)) ∧
    (∀ (bs b2 a m : Nat) (W : World), 0 < bs → 2 * bs = b2 → a + bs = m → N < a + 2 * bs → m < N → w.grownBy W (some g) → (∃ Z, RowN W g Z ∧ Half cf z bs a Z) → Calls Tryz.prog 121 #[.slice (some ⟨g, 0, none⟩) N cap, .int .i64 a, .int .i64 m, .int .i64 N, .func (.func 72) #[] #[.pointer (some ⟨gc, 0, none⟩), .pointer (some ⟨gl, 0, none⟩)]] W fun e w' => (∃ v, e = .returned v) ∧ (∃ Z, RowN w' g Z ∧ Blks cf z b2 Z) ∧ w.grownBy w' (some g)) := by
  have hB1 : ∀ W, w.grownBy W (some g) → Below g w0 W := fun W h => hbw.trans (gr_below h (Nat.le_of_lt hg) (Nat.le_refl _))
  have hcfe : (fun i j => cmpT (atL l i) (atL l j)) = cf := funext fun i => funext fun j => hcf i j
  have lIns : ∀ a Z, Ins cf z 20 a Z → a ≤ N → Z.length = N := fun a Z ⟨D, h1, h2, _, _, h5⟩ h => by rw [h1, List.length_append, h5, List.length_drop]; omega
  have lHalf : ∀ bs a Z, Half cf z bs a Z → Z.length = N := fun bs a Z ⟨D, R, last, h1, h2, _⟩ => by rw [h2.length_eq]; omega
  have mHalf : ∀ bs a Z, Half cf z bs a Z → ∀ y ∈ Z, y < n := fun bs a Z ⟨D, R, last, h1, h2, _⟩ y hy => hlt y (h2.mem_iff.1 hy)
  have mIns : ∀ a Z, Ins cf z 20 a Z → ∀ y ∈ Z, y < n := fun a Z ⟨D, h1, h2, _, _, h5⟩ y hy => by
    rw [h1] at hy
    rcases List.mem_append.1 hy with hy | hy
    · exact hlt y (List.take_subset _ _ (h2.mem_iff.1 hy))
    · exact hlt y (List.drop_subset _ _ hy)
  refine ⟨?_, ?_, ?_, ?_⟩
  · rintro a b W h1 h2 h4 hG ⟨Z, hR, hZ⟩
    obtain rfl : b = a + 20 := by omega
    obtain ⟨pre, p1, p2, p3, p4⟩ := ins_step h3 hz hZ (by omega)
    have h := insertion_any g gc gl n l w0 hc pre ((z.drop a).take 20) (z.drop (a + 20)) (by rw [← p2]; exact mIns a Z hZ) N cap (by rw [← p2, lIns a Z hZ (by omega)]) hN2 W (hB1 W hG) (by rw [← p2]; exact hR)
    rw [hcfe, p1, p3, show (a : Int) + ((20 : Nat) : Int) = ((a + 20 : Nat) : Int) by omega] at h
    exact h.mono fun e w' ⟨k1, k2, k3⟩ => ⟨k1, ⟨_, k2, p4⟩, hG.trans k3⟩
  · rintro a W h1 h2 hG ⟨Z, hR, hZ⟩
    obtain ⟨pre, p1, p2, p3, p4⟩ := ins_last h3 hz hZ (by omega) (by omega)
    have h := insertion_any g gc gl n l w0 hc pre (z.drop a) [] (by rw [← p2]; exact mIns a Z hZ) N cap (by rw [← p2, lIns a Z hZ (by omega)]) hN2 W (hB1 W hG) (by rw [← p2]; exact hR)
    rw [hcfe, p1, p3, show (a : Int) + ((z.length - a : Nat) : Int) = (N : Int) by omega] at h
    exact h.mono fun e w' ⟨k1, k2, k3⟩ => ⟨k1, ⟨_, k2, p4⟩, hG.trans k3⟩
  · rintro bs a m b W h0 h1 h2 h4 hG ⟨Z, hR, hZ⟩
    obtain ⟨X, A, B, Y, e0, e1, e2, e3, e4, e5, e6, e7⟩ := half_step hZ (by rw [lHalf bs a Z hZ]; omega)
    have hl := lHalf bs a Z hZ
    rw [e0] at hl
    simp only [List.length_append] at hl
    have h := sym_any g gc gl n l w0 hc cf hcf h3 N cap hN2 (A.length + B.length) X A B Y a m b W (by intro h; rw [h] at e2; simp at e2; omega) (by intro h; rw [h] at e3; simp at e3; omega) (Nat.le_refl _) e1.symm (by omega) (by omega) (by omega) e4 e5 e6 (fun y hy => mHalf bs a Z hZ y (by rw [e0]; rcases List.mem_append.1 hy with h | h <;> simp [h])) (hB1 W hG) (by rw [← e0]; exact hR)
    exact h.mono fun e w' ⟨k1, ⟨M, k2, k3, k4⟩, k5⟩ => ⟨k1, ⟨_, k2, by rw [← h2]; exact e7 M k3 k4⟩, hG.trans k5⟩
  · rintro bs b2 a m W h0 hb2 h1 h2 h4 hG ⟨Z, hR, hZ⟩
    have hl := lHalf bs a Z hZ
    obtain ⟨X, A, B, e0, e1, e2, e3, e4, e5, e6, e7⟩ := (half_end hZ (by omega)).1 (by omega)
    have h := sym_any g gc gl n l w0 hc cf hcf h3 N cap hN2 (A.length + B.length) X A B [] a m N W (by intro h; rw [h] at e2; simp at e2; omega) (by intro h; rw [h] at e3; simp at e3; omega) (Nat.le_refl _) e1.symm (by omega) (by omega) (by simp) e4 e5 e6 (fun y hy => mHalf bs a Z hZ y (by rw [e0]; rcases List.mem_append.1 hy with h | h <;> simp [h])) (hB1 W hG) (by rw [← e0]; exact hR)
    exact h.mono fun e w' ⟨k1, ⟨M, k2, k3, k4⟩, k5⟩ => ⟨k1, ⟨_, k2, by rw [← hb2]; exact e7 M k3 k4⟩, hG.trans k5⟩

set_option maxRecDepth 100000 in
set_option maxHeartbeats 16000000 in
theorem stable_any (g gc gl n : Nat) (l : List Tm) (w0 : World) (hc : CmpIn g gc gl n l w0) (cf : Nat → Nat → Int) (hcf : ∀ i j, cmpT (atL l i) (atL l j) = cf i j) (h3 : Cmp3 cf) (z : List Nat) (hz : z.Pairwise (· < ·)) (hlt : ∀ y ∈ z, y < n) (N cap : Nat) (hN : N = z.length) (hN2 : N ≤ 1000000) (w : World) (hbw : Below g w0 w) (hr : RowN w g z) :
    Calls Tryz.prog 106 #[.slice (some ⟨g, 0, none⟩) N cap, .int .i64 N, .func (.func 72) #[] #[.pointer (some ⟨gc, 0, none⟩), .pointer (some ⟨gl, 0, none⟩)]] w fun e w' => (∃ v, e = .returned v) ∧ (∃ Z, RowN w' g Z ∧ Z.Perm z ∧ Srt cf Z) ∧ w.grownBy w' (some g) := by
  obtain ⟨P1, P2, P3, P4⟩ := stb_parts g gc gl n l w0 hc cf hcf h3 z hz hlt N cap hN hN2 w hbw (Blk.lt hr)
  have H1 := Lib.hid P1
  have H2 := Lib.hid P2
  have H3 := Lib.hid P3
  have H4 := Lib.hid P4
  have H0 : Hid (∃ Z, RowN w g Z ∧ Ins cf z 20 0 Z) := ⟨z, hr, [], by simp, by simp, (by intro r hr; cases hr), List.Pairwise.nil, rfl⟩
  have HS := Lib.hid (show ∀ bs Z, Blks cf z bs Z → Half cf z bs 0 Z from fun bs Z h => half_start h)
  have HE := Lib.hid (show ∀ bs b2 a Z, 2 * bs = b2 → N < a + 2 * bs → ¬ a + bs < N → Half cf z bs a Z → Blks cf z b2 Z from fun bs b2 a Z h1 h2 h3 h => by
    obtain ⟨D, R, last, e1, e2, e3⟩ := id h
    have hl : Z.length = N := by rw [e2.length_eq]; omega
    rw [← h1]
    exact (half_end h (by omega)).2 (by omega))
  have HF := Lib.hid (show ∀ bs Z, N ≤ bs → 0 < bs → Blks cf z bs Z → Z.Perm z ∧ Srt cf Z from fun bs Z h1 h2 h => by
    obtain ⟨R, last, e1, e2, e3⟩ := id h
    exact blks_end h (by rw [e2.length_eq]; omega) h2)
  clear P1 P2 P3 P4 hr hc hcf hlt hz hN h3 hbw
  go_enter Tryz.func106, Tryz.ntmps106
  go_wp2
  go_loopw [7, 8] (fun I J wr0 => ∃ (wr : World) (a b : Nat), wr = wr0 ∧ a ≤ N ∧ a + 20 ≤ b ∧ b ≤ a + 20 ∧ I = .int .i64 a ∧ J = .int .i64 b ∧ w.grownBy wr (some g) ∧ Hid (∃ Z, RowN wr g Z ∧ Ins cf z 20 a Z)) (fun I J _ => N + 20 - (intOf J).toNat)
  case atStart => exact ⟨_, 0, 20, rfl, by omega, by omega, by omega, rfl, rfl, World.grownBy.refl _ _, H0⟩
  case round =>
    obtain ⟨wr, a, b, rfl, ha, hb1, hb2, rfl, rfl, hG, hR⟩ := hrel
    by_cases hlt : b ≤ N
    · have cI := H1.out a b wr hb1 hb2 hlt hG hR.out
      have t0 : (b : Int) ≤ (N : Int) := by omega
      have t1 : IntKind.i64.wrap ((b : Int) + 20) = (b : Int) + 20 := by rw [IntKind.wrap_i64]; omega
      clear hR
      go_wp2_with (go_at_call 120; ((with_reducible refine cI.mono ?_); rintro e w4 ⟨⟨v, rfl⟩, hR4, hG4⟩; have J4 := Lib.hid hR4; clear hR4 cI))
      all_goals go_roundw
      all_goals first | exact ⟨_, b, b + 20, rfl, by omega, by omega, by omega, rfl, by go_num, hG4, J4⟩ | (simp [intOf]; omega)
    · have cI := H2.out a wr ha (by omega) hG hR.out
      have t0 : ¬ (b : Int) ≤ (N : Int) := by omega
      clear hR
      go_wp2_with (go_at_call 120; ((with_reducible refine cI.mono ?_); rintro e w4 ⟨⟨v, rfl⟩, hR4, hG4⟩; have J4 := Lib.hid hR4; clear hR4 cI))
      go_loopw [6, 7, 8, 9] (fun I A0 B0 M0 wr0 => ∃ (w5 : World) (bs : Nat), w5 = wr0 ∧ 0 < bs ∧ bs ≤ 2000000 ∧ I = .int .i64 bs ∧ w.grownBy w5 (some g) ∧ Hid (∃ Z, RowN w5 g Z ∧ Blks cf z bs Z)) (fun I _ _ _ _ => N - (intOf I).toNat)
      case atStart => exact ⟨_, 20, rfl, by omega, by omega, rfl, hG4, J4⟩
      case round =>
        obtain ⟨w5, bs, rfl, hbs, hbs2, rfl, hG5, hR5⟩ := hrel
        by_cases hbn : bs < N
        · obtain ⟨b2, hb2'⟩ : ∃ b2, 2 * bs = b2 := ⟨_, rfl⟩
          have s0 : (bs : Int) < (N : Int) := by omega
          have s1 : IntKind.i64.wrap (2 * (bs : Int)) = (b2 : Int) := by rw [IntKind.wrap_i64]; omega
          have s2 : IntKind.i64.wrap ((bs : Int) * 2) = (b2 : Int) := by rw [IntKind.wrap_i64]; omega
          have HB := Lib.hid hb2'
          have b2a : b2 ≤ bs + bs := by omega
          have b2b : bs + bs ≤ b2 := by omega
          have J5 : Hid (∃ Z, RowN w5 g Z ∧ Half cf z bs 0 Z) := by obtain ⟨Z, q1, q2⟩ := hR5.out; exact ⟨Z, q1, HS.out bs Z q2⟩
          clear hR5 hb2'
          go_wp2
          go_loopw [7, 8] (fun I J wr0 => ∃ (w6 : World) (a b : Nat), w6 = wr0 ∧ a ≤ N ∧ a + b2 ≤ b ∧ b ≤ a + b2 ∧ I = .int .i64 a ∧ J = .int .i64 b ∧ w.grownBy w6 (some g) ∧ Hid (∃ Z, RowN w6 g Z ∧ Half cf z bs a Z)) (fun I J _ => N + b2 - (intOf J).toNat)
          case atStart => exact ⟨_, 0, b2, rfl, by omega, by omega, by omega, rfl, rfl, hG5, J5⟩
          case round =>
            obtain ⟨w6, a, b, rfl, ha, hb1, hb2, rfl, rfl, hG6, hR6⟩ := hrel
            obtain ⟨m, hm⟩ : ∃ m, a + bs = m := ⟨_, rfl⟩
            have r1 : IntKind.i64.wrap ((a : Int) + bs) = (m : Int) := by rw [IntKind.wrap_i64]; omega
            have HM := Lib.hid hm
            have ma : m ≤ a + bs := by omega
            have mb : a + bs ≤ m := by omega
            clear hm
            by_cases hbN : b ≤ N
            · have cS := H3.out bs a m b w6 hbs HM.out (by omega) hbN hG6 hR6.out
              have r0 : (b : Int) ≤ (N : Int) := by omega
              have r2 : IntKind.i64.wrap ((b : Int) + b2) = ((b + b2 : Nat) : Int) := by rw [IntKind.wrap_i64]; omega
              clear hR6
              go_wp2_with (go_at_call 121; ((with_reducible refine cS.mono ?_); rintro e w7 ⟨⟨v, rfl⟩, hR7, hG7⟩; have J7 := Lib.hid hR7; clear hR7 cS))
              all_goals go_roundw
              all_goals first | exact ⟨_, b, b + b2, rfl, by omega, by omega, by omega, rfl, rfl, hG7, J7⟩ | (simp [intOf]; omega)
            · have r0 : ¬ (b : Int) ≤ (N : Int) := by omega
              by_cases hmN : m < N
              · have cS := H4.out bs b2 a m w6 hbs HB.out HM.out (by omega) hmN hG6 hR6.out
                have r3 : (m : Int) < (N : Int) := by omega
                clear hR6
                go_wp2_with (go_at_call 121; ((with_reducible refine cS.mono ?_); rintro e w7 ⟨⟨v, rfl⟩, hR7, hG7⟩; have J7 := Lib.hid hR7; clear hR7 cS))
                all_goals go_roundw
                all_goals first | exact ⟨_, b2, rfl, by omega, by omega, rfl, hG7, J7⟩ | (simp [intOf]; omega)
              · have r3 : ¬ (m : Int) < (N : Int) := by omega
                have J7 : Hid (∃ Z, RowN w6 g Z ∧ Blks cf z b2 Z) := by obtain ⟨Z, q1, q2⟩ := hR6.out; exact ⟨Z, q1, HE.out bs b2 a Z HB.out (by omega) (by omega) q2⟩
                clear hR6
                go_wp2
                all_goals go_roundw
                all_goals first | exact ⟨_, b2, rfl, by omega, by omega, rfl, hG6, J7⟩ | (simp [intOf]; omega)
        · have s0 : ¬ (bs : Int) < (N : Int) := by omega
          have J7 : Hid (∃ Z, RowN w5 g Z ∧ Z.Perm z ∧ Srt cf Z) := by obtain ⟨Z, q1, q2⟩ := hR5.out; exact ⟨Z, q1, HF.out bs Z (by omega) hbs q2⟩
          clear hR5
          go_wp2
          go_end0
          exact ⟨⟨_, rfl⟩, J7.out, hG5⟩
theorem stableFunc_any (g gc gl n : Nat) (l : List Tm) (w0 : World) (hc : CmpIn g gc gl n l w0) (cf : Nat → Nat → Int) (hcf : ∀ i j, cmpT (atL l i) (atL l j) = cf i j) (h3 : Cmp3 cf) (z : List Nat) (hz : z.Pairwise (· < ·)) (hlt : ∀ y ∈ z, y < n) (N cap : Nat) (hN : N = z.length) (hN2 : N ≤ 1000000) (w : World) (hbw : Below g w0 w) (hr : RowN w g z) :
    Calls Tryz.prog 71 #[.slice (some ⟨g, 0, none⟩) N cap, .func (.func 72) #[] #[.pointer (some ⟨gc, 0, none⟩), .pointer (some ⟨gl, 0, none⟩)]] w fun e w' => (∃ v, e = .returned v) ∧ (∃ Z, RowN w' g Z ∧ Z.Perm z ∧ Srt cf Z) ∧ w.grownBy w' (some g) := by
  have cI := stable_any g gc gl n l w0 hc cf hcf h3 z hz hlt N cap hN hN2 w hbw hr
  clear hr hc hlt hN hcf h3 hz
  go_enter Tryz.func71, Tryz.ntmps71
  go_wp2_with (go_at_call 106; ((with_reducible refine cI.mono ?_); rintro e w1 ⟨⟨v, rfl⟩, hR, hG⟩; have HR := Lib.hid hR; clear hR))
  go_end0
  exact ⟨⟨_, rfl⟩, HR.out, hG⟩
end Go.Proofs.YtjjfbgadpgckeaaGreat.T
namespace Go.Proofs.YtjjfbgadpgckeaaGreat.T
open Go.RowKit L
set_option linter.unusedVariables false
set_option linter.unusedSimpArgs false

def gof (e : Nat → Nat → Bool) : Nat → List Nat → List Nat
  | p, [] => []
  | p, y :: l => if e y p then gof e y l else y :: gof e y l
def comp (e : Nat → Nat → Bool) : List Nat → List Nat
  | [] => []
  | x :: l => x :: gof e x l
theorem gof_sub (e : Nat → Nat → Bool) : ∀ (l : List Nat) (p : Nat), (gof e p l).Sublist l
  | [], p => List.Sublist.refl _
  | y :: l, p => by
    rw [gof]; split
    · exact (gof_sub e l y).cons y
    · exact (gof_sub e l y).cons_cons y
theorem comp_sub (e : Nat → Nat → Bool) : ∀ l : List Nat, (comp e l).Sublist l
  | [] => List.Sublist.refl _
  | x :: l => (gof_sub e l x).cons_cons x
def lst : Nat → List Nat → Nat
  | p, [] => p
  | p, y :: l => lst y l
theorem lst_at : ∀ (l : List Nat) (p : Nat), (p :: l)[l.length]? = some (lst p l)
  | [], p => rfl
  | y :: l, p => by rw [List.length_cons, List.getElem?_cons_succ, lst_at l y]; rfl
theorem gof_snoc (e : Nat → Nat → Bool) (y : Nat) : ∀ (l : List Nat) (p : Nat), gof e p (l ++ [y]) = gof e p l ++ (if e y (lst p l) then [] else [y])
  | [], p => rfl
  | z :: l, p => by
    rw [List.cons_append, gof, gof, gof_snoc e y l z, lst]
    by_cases hh : e z p = true
    · rw [if_pos hh, if_pos hh]
    · rw [if_neg hh, if_neg hh, List.cons_append]
theorem comp_snoc (e : Nat → Nat → Bool) {Z : List Nat} {i p y : Nat} (h1 : Z[i]? = some p) (h2 : Z[i + 1]? = some y) : comp e (Z.take (i + 2)) = comp e (Z.take (i + 1)) ++ (if e y p then [] else [y]) := by
  rw [List.take_add_one (i := i + 1), h2]
  have hl : (Z.take (i + 1)).length = i + 1 := by have := (List.getElem?_eq_some_iff.1 h2).1; simp; omega
  cases hz : Z.take (i + 1) with
  | nil => rw [hz] at hl; simp at hl
  | cons x l =>
    have hlast : lst x l = p := by
      have h3 := lst_at l x
      rw [← hz, show l.length = i by rw [hz] at hl; simpa using hl, List.getElem?_take_of_lt (by omega), h1] at h3
      exact (Option.some.inj h3).symm
    rw [show (x :: l ++ (some y).toList) = x :: (l ++ [y]) from rfl, comp, comp, gof_snoc, hlast]
    rfl
/-- what has been kept so far stands first, the rest as it was -/
def CmpI (e : Nat → Nat → Bool) (Z : List Nat) (k j : Nat) (R : List Nat) : Prop := R = comp e (Z.take j) ++ Z.drop k ∧ k = (comp e (Z.take j)).length ∧ k + 1 ≤ j
theorem CmpI.same {e : Nat → Nat → Bool} {Z : List Nat} {k i p y : Nat} {R : List Nat} (h : CmpI e Z k (i + 1) R) (h1 : Z[i]? = some p) (h2 : Z[i + 1]? = some y) (he : e y p = true) : CmpI e Z k (i + 2) R := by
  obtain ⟨a, b, c⟩ := h
  have := comp_snoc e h1 h2
  rw [he, if_pos rfl, List.append_nil] at this
  exact ⟨by rw [this]; exact a, by rw [this]; exact b, by omega⟩
theorem CmpI.other {e : Nat → Nat → Bool} {Z : List Nat} {k i p y : Nat} {R : List Nat} (h : CmpI e Z k (i + 1) R) (h1 : Z[i]? = some p) (h2 : Z[i + 1]? = some y) (he : e y p = false) : CmpI e Z (k + 1) (i + 2) (R.set k y) := by
  obtain ⟨a, b, c⟩ := h
  have hz := (List.getElem?_eq_some_iff.1 h2).1
  have := comp_snoc e h1 h2
  rw [he, if_neg (by simp)] at this
  refine ⟨?_, by rw [this, List.length_append, ← b]; rfl, by omega⟩
  rw [this, a, List.drop_eq_getElem_cons (show k < Z.length by omega)]
  rw [List.set_append_right _ _ (by omega), ← b, Nat.sub_self, List.set_cons_zero]
  simp
theorem CmpI.at {e : Nat → Nat → Bool} {Z : List Nat} {k i q p : Nat} {R : List Nat} (h : CmpI e Z k (i + 1) R) (hq : i ≤ q) (h1 : Z[q]? = some p) : R[q]? = some p := by
  obtain ⟨a, b, c⟩ := h
  rw [a, List.getElem?_append_right (by omega), ← b, List.getElem?_drop, show k + (q - k) = q by omega]
  exact h1
theorem CmpI.len {e : Nat → Nat → Bool} {Z : List Nat} {k j : Nat} {R : List Nat} (h : CmpI e Z k j R) (hk : k ≤ Z.length) : R.length = Z.length := by
  obtain ⟨a, b, c⟩ := h
  rw [a, List.length_append, ← b, List.length_drop]; omega
/-- cells behind the kept ones set to nought -/
theorem RowN.wipe {g : Nat} {P : List Nat} : ∀ (m o : Nat) (R : List Nat) (w : World), P.length ≤ o → RowN w g (P ++ R) → ∃ R', R'.length = R.length ∧ RowN (w.setCells g o (List.replicate m (.int .i64 0))) g (P ++ R')
  | 0, o, R, w, _, h => ⟨R, rfl, h⟩
  | m + 1, o, R, w, ho, h => by
    have h1 := h.set o 0
    rw [List.set_append_right _ _ ho] at h1
    obtain ⟨R', h2, h3⟩ := RowN.wipe m (o + 1) _ _ (by omega) h1
    exact ⟨R', by rw [h2]; simp, h3⟩
theorem gr_setCells {w0 : World} {g : Nat} : ∀ (vs : List Value) (o : Nat) (w : World), w0.grownBy w (some g) → w0.grownBy (w.setCells g o vs) (some g)
  | [], o, w, h => h
  | v :: vs, o, w, h => gr_setCells vs (o + 1) _ (gr_set h _ _)
theorem clear_row (w : World) (g k : Nat) (R : List Nat) (n c : Nat) (hn : 0 < n) (hl : k + n ≤ R.length) (hr : RowN w g R) :
    ∀ ty, (Builtin.clear_ #[83] ty #[.slice (some ⟨g, k, none⟩) n c]).run Tryz.prog w = .ok (.tuple #[]) (w.setCells g k (List.replicate n (.int .i64 0))) := fun ty =>
  Lib.run_clear_slice (P := Tryz.prog) w 83 3 ty (.int .i64 0) Tryz.underlying83 (fun w => by kernel_rfl) rfl rfl g k n c hn (fun j hj => by rw [RowN.at hr (List.getElem?_eq_getElem (show k + j < R.length by omega))]; rfl) (fun j _ => Blk.free hr (k + j))

set_option maxRecDepth 100000 in
set_option maxHeartbeats 8000000 in
theorem compact_any (g gc gl n : Nat) (l : List Tm) (w0 : World) (hc : EqIn g gc gl n l w0) (ef : Nat → Nat → Bool) (hef : ∀ i j, eqT (atL l i) (atL l j) = ef i j) (zs : List Nat) (hlt : ∀ z ∈ zs, z < n) (N : Nat) (hN : N = zs.length) (hN2 : N ≤ 1000000) (w : World) (hb : Below g w0 w) (hr : RowN w g zs) :
    Calls Tryz.prog 73 #[.slice (some ⟨g, 0, none⟩) N N, .func (.func 74) #[] #[.pointer (some ⟨gc, 0, none⟩), .pointer (some ⟨gl, 0, none⟩)]] w fun e w' => e = .returned (.slice (some ⟨g, 0, none⟩) (comp ef zs).length N) ∧ (∃ R, RowN w' g (comp ef zs ++ R)) ∧ w.grownBy w' (some g) := by
  have hg := Blk.lt hr
  by_cases h2 : N < 2
  · have h2' : (N : Int) < 2 := by omega
    have hcz : comp ef zs = zs := by
      match zs, hN with
      | [], _ => rfl
      | [x], _ => rfl
      | x :: y :: l, h => simp at h; omega
    have Hr := Lib.hid (show Ending.returned (.slice (some ⟨g, 0, none⟩) N N) = .returned (.slice (some ⟨g, 0, none⟩) (comp ef zs).length N) ∧ ∃ R, RowN w g (comp ef zs ++ R) from by rw [hcz, ← hN]; exact ⟨rfl, [], by simpa using hr⟩)
    clear hr hc hlt hN hcz hef
    go_enter Tryz.func73, Tryz.ntmps73
    go_wp2
    go_ret
    exact ⟨Hr.out.1, Hr.out.2, World.grownBy.refl _ _⟩
  · have h2' : ¬ (N : Int) < 2 := by omega
    have HC := Lib.hid hc
    have Hef := Lib.hid hef
    have Hlt := Lib.hid hlt
    have HN := Lib.hid hN
    have HC0 : Hid (comp ef (zs.take 1) = zs.take 1) := by
      show _ = _
      match zs with
      | [] => rfl
      | x :: l => simp [comp, gof]
    have HCN : Hid (comp ef (zs.take N) = zs.take N → (∃ R, comp ef zs ++ R = zs) ∧ N = (comp ef zs).length) := fun h => by
      rw [hN, List.take_length] at h
      exact ⟨⟨[], by rw [h]; simp⟩, by rw [h]; exact hN⟩
    have HCD : Hid (∀ k R, CmpI ef zs k N R → (∃ R', R = comp ef zs ++ R') ∧ k = (comp ef zs).length) := fun k R h => by
      obtain ⟨a, b, c⟩ := h
      rw [hN, List.take_length] at a b
      exact ⟨⟨_, a⟩, b⟩
    have Hr := Lib.hid hr
    clear hr hc hlt hN hef
    go_enter Tryz.func73, Tryz.ntmps73
    go_wp2
    go_loopw [5] (fun i wr0 => ∃ (wr : World) (k : Nat), wr = wr0 ∧ k < N ∧ i = .int .i64 ((k : Int) + 1) ∧ w.grownBy wr (some g) ∧ Hid (RowN wr g zs ∧ comp ef (zs.take (k + 1)) = zs.take (k + 1))) (fun i _ => N - (intOf i).toNat)
    case atStart => exact ⟨_, 0, rfl, by omega, rfl, World.grownBy.refl _ _, Lib.hid ⟨Hr.out, HC0.out⟩⟩
    case round =>
      obtain ⟨wr, k, rfl, hk, rfl, hG, hR⟩ := hrel
      by_cases hlk : k + 1 < N
      · have hk0 : k < zs.length := by have := HN.out; omega
        have hk1 : k + 1 < zs.length := by have := HN.out; omega
        obtain ⟨x, hx⟩ : ∃ x, zs[k]? = some x := ⟨_, List.getElem?_eq_getElem hk0⟩
        obtain ⟨y, hy⟩ : ∃ y, zs[k + 1]? = some y := ⟨_, List.getElem?_eq_getElem hk1⟩
        have c0 := RowN.at hR.out.1 hx
        have c1 := RowN.at hR.out.1 hy
        have hgr := Blk.lt hR.out.1
        have hBd : Below wr.heap.size wr wr.drew := (Below.refl _ _).drew
        have hB2 : Below g w0 wr.drew := (hb.trans (gr_below hG (Nat.le_of_lt hg) (Nat.le_refl _))).drew
        have cE := HC.out y x wr.drew hB2 (Nat.le_of_lt hgr) (Hlt.out y (List.mem_of_getElem? hy)) (Hlt.out x (List.mem_of_getElem? hx))
        rw [Hef.out] at cE
        have hsn := comp_snoc ef hx hy
        have hwr : IntKind.i64.wrap ((k : Int) + 1 - 1) = (k : Int) := by rw [IntKind.wrap_i64]; omega
        have hwr2 : IntKind.i64.wrap (k : Int) = (k : Int) := by rw [IntKind.wrap_i64]; omega
        have hi0 : 0 ≤ (k : Int) := by omega
        have hi1 : 0 ≤ (k : Int) + 1 := by omega
        have hi2 : (k : Int) + 1 < (N : Int) := by omega
        have hi3 : (k : Int) < (N : Int) := by omega
        have HRow := Lib.hid hR.out.1
        cases heq : ef y x with
        | false =>
          rw [heq] at cE hsn
          have Hn := Lib.hid (show comp ef (zs.take (k + 1 + 1)) = zs.take (k + 1 + 1) from by
            rw [show k + 1 + 1 = k + 2 from rfl, hsn, hR.out.2, if_neg (by simp), List.take_add_one (i := k + 1), hy]; rfl)
          clear hR hx hy hk0 hk1 hsn heq
          go_upto_region 6 with fail
          go_region_held3 (fun w' => w'.cell? ⟨g, k, none⟩ = some (.int .i64 x) ∧ w'.cell? ⟨g, k + 1, none⟩ = some (.int .i64 y))
            (first | go_keep | (exact ⟨(B4.cell hgr).trans c0, (B4.cell hgr).trans c1⟩))
            (first | (go_at_call 74; ((with_reducible refine cE.mono ?_); rintro e w4 ⟨rfl, hb4⟩; have B4 := bel_trans hBd hb4; have H4 := Lib.hid (Blk.below HRow.out B4))))
          have hg4 : wr.grownBy w4 (some g) := gr_of_below B4 B4.tape
          go_wp2
          go_roundw
          case rel => exact ⟨_, k + 1, rfl, by omega, by go_num, hG.trans hg4, Lib.hid ⟨H4.out, Hn.out⟩⟩
          case measure => simp [intOf]; omega
        | true =>
          rw [heq] at cE hsn
          have Hst : Hid (CmpI ef zs (k + 1) (k + 2) zs) := by
            rw [if_pos rfl, List.append_nil, hR.out.2] at hsn
            refine ⟨by rw [hsn]; exact (List.take_append_drop _ _).symm, by rw [hsn]; simp; omega, by omega⟩
          clear hR hx hy hk0 hk1 hsn heq
          have hne : ¬ N = k + 1 := by omega
          have hle : (k : Int) + 1 ≤ (N : Int) := by omega
          go_upto_region 6 with fail
          go_region_held3 (fun w' => w'.cell? ⟨g, k, none⟩ = some (.int .i64 x) ∧ w'.cell? ⟨g, k + 1, none⟩ = some (.int .i64 y))
            (first | go_keep | (exact ⟨(B4.cell hgr).trans c0, (B4.cell hgr).trans c1⟩))
            (first | (go_at_call 74; ((with_reducible refine cE.mono ?_); rintro e w4 ⟨rfl, hb4⟩; have B4 := bel_trans hBd hb4; have H4 := Lib.hid (Blk.below HRow.out B4))))
          have hg4 : wr.grownBy w4 (some g) := gr_of_below B4 B4.tape
          have hG4 := hG.trans hg4
          clear c0 c1 hgr hBd hB2 cE HRow
          go_wp2
          go_loopw [5, 7] (fun kk jj wr0 => ∃ (w2 : World) (q i : Nat), w2 = wr0 ∧ kk = .int .i64 (q : Int) ∧ jj = .int .i64 ((i : Int) + 1) ∧ k + 2 + i ≤ N ∧ q + 1 ≤ k + 2 + i ∧ w.grownBy w2 (some g) ∧ Hid (∃ R, RowN w2 g R ∧ CmpI ef zs q (k + 2 + i) R)) (fun kk jj _ => N - (intOf jj).toNat)
          case atStart => exact ⟨_, k + 1, 0, rfl, by go_num, rfl, by omega, by omega, hG4, Lib.hid ⟨zs, H4.out, Hst.out⟩⟩
          case round =>
            obtain ⟨w2, q, i, rfl, rfl, rfl, hjn, hqj, hG2, hI⟩ := hrel
            obtain ⟨R, hRow2, hCI⟩ := hI.out
            have hgr2 := Blk.lt hRow2
            clear hI
            by_cases hlt2 : k + 2 + i < N
            · obtain ⟨x2, hx2⟩ : ∃ p, zs[k + 1 + i]? = some p := ⟨_, List.getElem?_eq_getElem (by have := HN.out; omega)⟩
              obtain ⟨y2, hy2⟩ : ∃ p, zs[k + 1 + i + 1]? = some p := ⟨_, List.getElem?_eq_getElem (by have := HN.out; omega)⟩
              rw [show k + 2 + i = k + 1 + i + 1 by omega] at hCI
              have c0 := RowN.at hRow2 (hCI.at (q := k + 1 + i) (by omega) hx2)
              have c1 := RowN.at hRow2 (hCI.at (q := k + 1 + i + 1) (by omega) hy2)
              rw [show k + 1 + i + 1 = k + 1 + (i + 1) by omega] at c1
              have hBd : Below w2.heap.size w2 w2.drew := (Below.refl _ _).drew
              have hB2 : Below g w0 w2.drew := (hb.trans (gr_below hG2 (Nat.le_of_lt hg) (Nat.le_refl _))).drew
              have cE := HC.out y2 x2 w2.drew hB2 (Nat.le_of_lt hgr2) (Hlt.out y2 (List.mem_of_getElem? hy2)) (Hlt.out x2 (List.mem_of_getElem? hx2))
              rw [Hef.out] at cE
              have HRow := Lib.hid hRow2
              have hwr3 : IntKind.i64.wrap ((i : Int) + 1 - 1) = (i : Int) := by rw [IntKind.wrap_i64]; omega
              have hwr4 : IntKind.i64.wrap (i : Int) = (i : Int) := by rw [IntKind.wrap_i64]; omega
              have j0 : 0 ≤ (i : Int) := by omega
              have j1 : 0 ≤ (i : Int) + 1 := by omega
              have j2 : (i : Int) + 1 < ((N - (k + 1) : Nat) : Int) := by omega
              have j3 : (i : Int) < ((N - (k + 1) : Nat) : Int) := by omega
              have q0 : 0 ≤ (q : Int) := by omega
              have q1 : (q : Int) < (N : Int) := by omega
              cases heq : ef y2 x2 with
              | true =>
                have Hn := Lib.hid (hCI.same hx2 hy2 heq)
                rw [heq] at cE
                clear hRow2 hCI hx2 hy2 heq
                go_upto_region 11 with fail
                go_region_held3 (fun w' => w'.cell? ⟨g, k + 1 + i, none⟩ = some (.int .i64 x2) ∧ w'.cell? ⟨g, k + 1 + (i + 1), none⟩ = some (.int .i64 y2))
                  (first | go_keep | (exact ⟨(B5.cell hgr2).trans c0, (B5.cell hgr2).trans c1⟩))
                  (first | (go_at_call 74; ((with_reducible refine cE.mono ?_); rintro e w5 ⟨rfl, hb5⟩; have B5 := bel_trans hBd hb5; have H5 := Lib.hid (Blk.below HRow.out B5))))
                have hg5 : w2.grownBy w5 (some g) := gr_of_below B5 B5.tape
                go_wp2
                all_goals go_roundw
                case rel => exact ⟨_, q, i + 1, rfl, rfl, by go_num, by omega, by omega, hG2.trans hg5, Lib.hid ⟨R, H5.out, by rw [show k + 2 + (i + 1) = k + 1 + i + 2 by omega]; exact Hn.out⟩⟩
                case measure => simp [intOf]; omega
              | false =>
                have Hn := Lib.hid (hCI.other hx2 hy2 heq)
                rw [heq] at cE
                have hRl := hCI.len (by have := HN.out; omega)
                obtain ⟨u, hu⟩ : ∃ u, R[q]? = some u := ⟨_, List.getElem?_eq_getElem (by have := HN.out; omega)⟩
                have cu := RowN.at hRow2 hu
                have fu := Blk.free hRow2 q
                clear hRow2 hCI hx2 hy2 heq hRl hu
                go_upto_region 11 with fail
                go_region_held3 (fun w' => w'.cell? ⟨g, k + 1 + i, none⟩ = some (.int .i64 x2) ∧ w'.cell? ⟨g, k + 1 + (i + 1), none⟩ = some (.int .i64 y2))
                  (first | go_keep | (exact ⟨(B5.cell hgr2).trans c0, (B5.cell hgr2).trans c1⟩))
                  (first | (go_at_call 74; ((with_reducible refine cE.mono ?_); rintro e w5 ⟨rfl, hb5⟩; have B5 := bel_trans hBd hb5; have H5 := Lib.hid (Blk.below HRow.out B5))))
                have hg5 : w2.grownBy w5 (some g) := gr_of_below B5 B5.tape
                have HS := Lib.hid (RowN.set H5.out q y2)
                have d1 := (B5.cell (p := ⟨g, k + 1 + (i + 1), none⟩) hgr2).trans c1
                have d2 := (B5.cell (p := ⟨g, q, none⟩) hgr2).trans cu
                have d3 := (B5.frozen (p := ⟨g, q, none⟩) hgr2).trans fu
                clear c0 c1 cu fu
                go_wp2
                all_goals go_roundw
                case rel => exact ⟨_, q + 1, i + 1, rfl, by go_num, by go_num, by omega, by omega, gr_set (hG2.trans hg5) _ _, Lib.hid ⟨_, HS.out, by rw [show k + 2 + (i + 1) = k + 1 + i + 2 by omega]; exact Hn.out⟩⟩
                case measure => simp [intOf]; omega
            · obtain rfl : N = k + 2 + i := by omega
              obtain ⟨⟨R', hR'⟩, hq⟩ := HCD.out q R hCI
              have hRl := hCI.len (by have := HN.out; omega)
              have hcl := clear_row w2 g q R (k + 2 + i - q) (k + 2 + i - q) (by omega) (by have := HN.out; omega) hRow2
              have HK := Lib.hid (show (∃ R2, RowN (w2.setCells g q (List.replicate (k + 2 + i - q) (.int .i64 0))) g (comp ef zs ++ R2)) ∧ q = (comp ef zs).length from by
                rw [hR'] at hRow2
                obtain ⟨R2, e1, e2⟩ := RowN.wipe (k + 2 + i - q) q R' w2 (by omega) hRow2
                exact ⟨⟨R2, e2⟩, hq⟩)
              have j2 : ¬ (i : Int) + 1 < ((k + 2 + i - (k + 1) : Nat) : Int) := by omega
              have q0 : 0 ≤ (q : Int) := by omega
              have q1 : (q : Int) ≤ ((k + 2 + i : Nat) : Int) := by omega
              have q2 : ¬ k + 2 + i = q := by omega
              have hG7 := gr_setCells (List.replicate (k + 2 + i - q) (.int .i64 0)) q w2 hG2
              clear hRow2 hCI hR' hq hRl
              go_wp2
              go_ret
              exact ⟨by rw [← HK.out.2]; rfl, HK.out.1, hG7⟩
      · have hi2 : ¬ (k : Int) + 1 < (N : Int) := by omega
        obtain rfl : N = k + 1 := by omega
        have HE := Lib.hid (HCN.out hR.out.2)
        have HRow := Lib.hid hR.out.1
        clear hR
        go_wp2
        go_ret
        obtain ⟨⟨R, h1⟩, h2⟩ := HE.out
        exact ⟨by rw [← h2]; rfl, ⟨R, by rw [h1]; exact HRow.out⟩, hG⟩
end Go.Proofs.YtjjfbgadpgckeaaGreat.T
