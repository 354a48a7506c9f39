/-
  What is proved: the library's stable sort of any number of places.
-/
import Derived.Test.YthchjceibpcgbaaGreatDoorZFiSh
import Derived.Test.YthchjceibpcgbaaGreatDoorZFiSi
namespace Go.Proofs.YthchjceibpcgbaaGreatDoor.Fi
open Go.RowKit L Lt Cn
set_option linter.unusedVariables false
set_option linter.unusedSimpArgs false


theorem sym_any (g gc gl n : Nat) (l : List (List Int)) (w0 : World) (hc : CmpIn g gc gl n l w0) (cf : Nat → Nat → Int) (hcf : ∀ i j, cmR (atL l i) (atL l j) = cf i j) (h3 : Cmp3 cf) (N cap : Nat) (hN2 : N ≤ 1000000) : ∀ K, SymAt g gc gl n N cap cf w0 K
  | 0 => fun X A B Y a m b w hA hB hK => by have := List.length_pos_iff.2 hA; omega
  | K + 1 => fun X A B Y a m b w hA hB hK ha hm hb hN hsA hsB hx hlt hbw hr => by
    by_cases h1 : A.length = 1
    · obtain ⟨x, rfl⟩ := List.length_eq_one_iff.1 h1
      exact sym_left g gc gl n l w0 hc cf hcf h3 X B Y x hsB (fun y hy => hx x (by simp) y hy) (fun z hz => hlt z (by simpa using hz)) N cap a m b ha (by simpa using hm) hb hN hN2 w hbw (by simpa using hr)
    · by_cases h2 : B.length = 1
      · obtain ⟨y, rfl⟩ := List.length_eq_one_iff.1 h2
        refine (sym_right g gc gl n l w0 hc cf hcf h3 X A Y y hsA (fun x hx1 => hx x hx1 y (by simp)) (fun z hz => hlt z (by rcases List.mem_cons.1 hz with h | h <;> simp [h])) N cap a m b h1 ha hm (by simpa using hb) hN hN2 w hbw (by simpa using hr)).mono fun e w' ⟨k1, ⟨M, k2, k3, k4⟩, k5⟩ => ⟨k1, ⟨M, k2, k3.trans (List.perm_append_comm (l₁ := [y])), k4⟩, k5⟩
      · have IH := sym_any g gc gl n l w0 hc cf hcf h3 N cap hN2 K
        by_cases hq : (a + b) / 2 < m
        · exact sym_gen1 g gc gl n l w0 hc cf hcf h3 K N cap hN2 IH X A B Y a m b w hK hq hA hB h1 h2 ha hm hb hN hsA hsB hx hlt hbw hr
        · exact sym_gen2 g gc gl n l w0 hc cf hcf h3 K N cap hN2 IH X A B Y a m b w hK hq hA hB h1 h2 ha hm hb hN hsA hsB hx hlt hbw hr

/-! insertion keeps alike places in their order -/
theorem ins_srt {c : Nat → Nat → Int} (hc : Cmp3 c) (x : Nat) : ∀ l : List Nat, l.Pairwise (fun u v => lx c v u) → (∀ y ∈ l, y < x) → (insRev c x l).Pairwise (fun u v => lx c v u)
  | [], _, _ => List.pairwise_singleton _ _
  | y :: l, h, hlt => by
    obtain ⟨h1, h2⟩ := List.pairwise_cons.1 h
    rw [insRev]
    split
    · rename_i hn
      refine List.pairwise_cons.2 ⟨fun v hv => ?_, ins_srt hc x l h2 fun z hz => hlt z (List.mem_cons_of_mem _ hz)⟩
      rcases List.mem_cons.1 ((insRev_perm c x l).mem_iff.1 hv) with rfl | hv
      · exact .inl hn
      · exact h1 v hv
    · rename_i hn
      have hyx : lx c y x := lx_ge hc hn (hlt y (by simp))
      refine List.pairwise_cons.2 ⟨fun v hv => ?_, h⟩
      rcases List.mem_cons.1 hv with rfl | hv
      · exact hyx
      · exact lx_trans hc (h1 v hv) hyx
theorem isort_srt {c : Nat → Nat → Int} (hc : Cmp3 c) : ∀ (l acc : List Nat), acc.Pairwise (fun u v => lx c v u) → (∀ x ∈ acc, ∀ y ∈ l, x < y) → l.Pairwise (· < ·) → (isortR c acc l).Pairwise (fun u v => lx c v u)
  | [], acc, h, _, _ => h
  | x :: l, acc, h, h1, h2 => by
    obtain ⟨p1, p2⟩ := List.pairwise_cons.1 h2
    refine isort_srt hc l (insRev c x acc) (ins_srt hc x acc h fun y hy => h1 y hy x (by simp)) (fun z hz y hy => ?_) p2
    rcases List.mem_cons.1 ((insRev_perm c x acc).mem_iff.1 hz) with rfl | hz
    · exact p1 y hy
    · exact h1 z hz y (List.mem_cons_of_mem _ hy)
theorem isort_ok {c : Nat → Nat → Int} (hc : Cmp3 c) (l : List Nat) (h : l.Pairwise (· < ·)) : Srt c (isortR c [] l).reverse ∧ (isortR c [] l).reverse.Perm l :=
  ⟨List.pairwise_reverse.2 (isort_srt hc l [] List.Pairwise.nil (fun x hx => by cases hx) h), (List.reverse_perm _).trans (by simpa using isortR_perm c l [])⟩
/-! rows of sorted blocks -/
def Full (c : Nat → Nat → Int) (k : Nat) (R : List (List Nat)) : Prop := ∀ r ∈ R, r.length = k ∧ Srt c r
def Chain (R : List (List Nat)) : Prop := R.Pairwise fun r s => ∀ x ∈ r, ∀ y ∈ s, x < y
theorem full_len {c : Nat → Nat → Int} {k : Nat} : ∀ {R : List (List Nat)}, Full c k R → R.flatten.length = R.length * k
  | [], _ => by simp
  | r :: R, h => by
    have := full_len (R := R) fun s hs => h s (List.mem_cons_of_mem _ hs)
    rw [List.flatten_cons, List.length_append, this, (h r (by simp)).1, List.length_cons, Nat.succ_mul]; omega
/-- the row as so many sorted blocks of one length, and a shorter one -/
def Blks (c : Nat → Nat → Int) (z : List Nat) (bs : Nat) (Z : List Nat) : Prop := ∃ R last, Z = R.flatten ++ last ∧ Z.Perm z ∧ Full c bs R ∧ Srt c last ∧ last.length < bs ∧ Chain (R ++ [last])
/-- half way: blocks of twice the length up to a -/
def Half (c : Nat → Nat → Int) (z : List Nat) (bs a : Nat) (Z : List Nat) : Prop := ∃ D R last, Z = D.flatten ++ (R.flatten ++ last) ∧ Z.Perm z ∧ Full c (2 * bs) D ∧ Full c bs R ∧ Srt c last ∧ last.length < bs ∧ Chain (D ++ (R ++ [last])) ∧ D.flatten.length = a
/-- blocks of k places up to a, the rest untouched -/
def Ins (c : Nat → Nat → Int) (z : List Nat) (k a : Nat) (Z : List Nat) : Prop := ∃ D, Z = D.flatten ++ z.drop a ∧ D.flatten.Perm (z.take a) ∧ Full c k D ∧ Chain D ∧ D.flatten.length = a
theorem chain_merge {D R : List (List Nat)} {p q r : List Nat} (hp : r.Perm (p ++ q)) (h : Chain (D ++ (p :: q :: R))) : Chain (D ++ (r :: R)) := by
  obtain ⟨h1, h2, h3⟩ := List.pairwise_append.1 h
  obtain ⟨h4, h5⟩ := List.pairwise_cons.1 h2
  obtain ⟨h6, h7⟩ := List.pairwise_cons.1 h5
  refine List.pairwise_append.2 ⟨h1, List.pairwise_cons.2 ⟨fun s hs x hx y hy => ?_, h7⟩, fun d hd s hs x hx y hy => ?_⟩
  · rcases List.mem_append.1 (hp.mem_iff.1 hx) with hx | hx
    · exact h4 s (List.mem_cons_of_mem _ hs) x hx y hy
    · exact h6 s hs x hx y hy
  · rcases List.mem_cons.1 hs with rfl | hs
    · rcases List.mem_append.1 (hp.mem_iff.1 hy) with hy | hy
      · exact h3 d hd p (by simp) x hx y hy
      · exact h3 d hd q (by simp) x hx y hy
    · exact h3 d hd s (by simp [hs]) x hx y hy
theorem flat_snoc (D : List (List Nat)) (r : List Nat) : (D ++ [r]).flatten = D.flatten ++ r := by simp
/-- a block more of the first pass -/
theorem ins_step {c : Nat → Nat → Int} (hc : Cmp3 c) {z : List Nat} (hz : z.Pairwise (· < ·)) {k a : Nat} {Z : List Nat} (h : Ins c z k a Z) (hk : a + k ≤ z.length) :
    ∃ pre, pre.length = a ∧ Z = pre ++ (z.drop a).take k ++ z.drop (a + k) ∧ ((z.drop a).take k).length = k ∧ Ins c z k (a + k) (pre ++ (isortR c [] ((z.drop a).take k)).reverse ++ z.drop (a + k)) := by
  obtain ⟨D, h1, h2, h3, h4, h5⟩ := h
  have hs : ((z.drop a).take k).Pairwise (· < ·) := (hz.sublist (List.drop_sublist _ _)).sublist (List.take_sublist _ _)
  obtain ⟨s1, s2⟩ := isort_ok hc _ hs
  have hl : ((z.drop a).take k).length = k := by simp; omega
  have ht : z.take (a + k) = z.take a ++ (z.drop a).take k := by rw [List.take_add]
  refine ⟨D.flatten, h5, ?_, hl, D ++ [(isortR c [] ((z.drop a).take k)).reverse], by rw [flat_snoc], ?_, ?_, ?_, ?_⟩
  · rw [h1, List.append_assoc]
    congr 1
    rw [← List.drop_drop, List.take_append_drop]
  · rw [flat_snoc, ht]
    exact h2.append s2
  · intro r hr
    rcases List.mem_append.1 hr with hr | hr
    · exact h3 r hr
    · rw [List.mem_singleton.1 hr]
      exact ⟨by rw [s2.length_eq, hl], s1⟩
  · refine List.pairwise_append.2 ⟨h4, List.pairwise_singleton _ _, fun d hd s hs x hx y hy => ?_⟩
    rw [List.mem_singleton.1 hs] at hy
    have hx2 := h2.mem_iff.1 (List.mem_flatten.2 ⟨d, hd, hx⟩)
    have hy2 := s2.mem_iff.1 hy
    have := List.pairwise_append.1 (show (z.take a ++ z.drop a).Pairwise (· < ·) by rw [List.take_append_drop]; exact hz)
    exact this.2.2 x hx2 y (List.take_subset _ _ hy2)
  · rw [flat_snoc, List.length_append, s2.length_eq, hl, h5]
theorem ins_last {c : Nat → Nat → Int} (hc : Cmp3 c) {z : List Nat} (hz : z.Pairwise (· < ·)) {k a : Nat} {Z : List Nat} (h : Ins c z k a Z) (ha : a ≤ z.length) (hk : z.length < a + k) :
    ∃ pre, pre.length = a ∧ Z = pre ++ z.drop a ++ [] ∧ (z.drop a).length = z.length - a ∧ Blks c z k (pre ++ (isortR c [] (z.drop a)).reverse ++ []) := by
  obtain ⟨D, h1, h2, h3, h4, h5⟩ := h
  have hs : (z.drop a).Pairwise (· < ·) := hz.sublist (List.drop_sublist _ _)
  obtain ⟨s1, s2⟩ := isort_ok hc _ hs
  have hl : (z.drop a).length = z.length - a := by simp
  refine ⟨D.flatten, h5, by rw [h1]; simp, hl, D, (isortR c [] (z.drop a)).reverse, by simp, ?_, h3, s1, by rw [s2.length_eq, hl]; omega, ?_⟩
  · rw [List.append_nil]
    refine (h2.append s2).trans ?_
    rw [List.take_append_drop]
  · refine List.pairwise_append.2 ⟨h4, List.pairwise_singleton _ _, fun d hd s hs x hx y hy => ?_⟩
    rw [List.mem_singleton.1 hs] at hy
    have hx2 := h2.mem_iff.1 (List.mem_flatten.2 ⟨d, hd, hx⟩)
    have hy2 := s2.mem_iff.1 hy
    have := List.pairwise_append.1 (show (z.take a ++ z.drop a).Pairwise (· < ·) by rw [List.take_append_drop]; exact hz)
    exact this.2.2 x hx2 y hy2
theorem half_start {c : Nat → Nat → Int} {z : List Nat} {bs : Nat} {Z : List Nat} (h : Blks c z bs Z) : Half c z bs 0 Z := by
  obtain ⟨R, last, h1, h2, h3, h4, h5, h6⟩ := h
  exact ⟨[], R, last, by simpa using h1, h2, (by intro r hr; cases hr), h3, h4, h5, by simpa using h6, rfl⟩
theorem half_step {c : Nat → Nat → Int} {z : List Nat} {bs a : Nat} {Z : List Nat} (h : Half c z bs a Z) (hb : a + 2 * bs ≤ Z.length) :
    ∃ X A B Y, Z = X ++ A ++ B ++ Y ∧ X.length = a ∧ A.length = bs ∧ B.length = bs ∧ Srt c A ∧ Srt c B ∧ (∀ x ∈ A, ∀ y ∈ B, x < y) ∧ ∀ M, M.Perm (A ++ B) → Srt c M → Half c z bs (a + 2 * bs) (X ++ M ++ Y) := by
  obtain ⟨D, R, last, h1, h2, h3, h4, h5, h6, h7, h8⟩ := h
  have hl : Z.length = a + (R.length * bs + last.length) := by rw [h1, List.length_append, List.length_append, h8, full_len h4]
  match R, h1, h4, h7, hl with
  | [], h1, h4, h7, hl => simp at hl; omega
  | [p], h1, h4, h7, hl => simp at hl; omega
  | p :: q :: R, h1, h4, h7, hl =>
    have hp := h4 p (by simp)
    have hq := h4 q (by simp)
    have hpq : ∀ x ∈ p, ∀ y ∈ q, x < y := by
      have := (List.pairwise_append.1 h7).2.1
      exact (List.pairwise_cons.1 this).1 q (by simp)
    refine ⟨D.flatten, p, q, R.flatten ++ last, by rw [h1]; simp, h8, hp.1, hq.1, hp.2, hq.2, hpq, fun M hM hs => ?_⟩
    refine ⟨D ++ [M], R, last, by rw [flat_snoc], ?_, ?_, fun r hr => h4 r (by simp [hr]), h5, h6, ?_, ?_⟩
    · refine List.Perm.trans ?_ h2
      rw [h1]
      have e : D.flatten ++ ((p :: q :: R).flatten ++ last) = D.flatten ++ (p ++ q) ++ (R.flatten ++ last) := by simp
      rw [e]
      exact (hM.append_left _).append_right _
    · intro r hr
      rcases List.mem_append.1 hr with hr | hr
      · exact h3 r hr
      · rw [List.mem_singleton.1 hr]
        exact ⟨by rw [hM.length_eq, List.length_append, hp.1, hq.1]; omega, hs⟩
    · have := chain_merge hM h7
      simpa using this
    · rw [flat_snoc, List.length_append, h8, hM.length_eq, List.length_append, hp.1, hq.1]; omega
/-- the end of a pass: one more merge, or none -/
theorem half_end {c : Nat → Nat → Int} {z : List Nat} {bs a : Nat} {Z : List Nat} (h : Half c z bs a Z) (hb : Z.length < a + 2 * bs) :
    (a + bs < Z.length → ∃ X A B, Z = X ++ A ++ B ++ [] ∧ X.length = a ∧ A.length = bs ∧ B.length = Z.length - a - bs ∧ Srt c A ∧ Srt c B ∧ (∀ x ∈ A, ∀ y ∈ B, x < y) ∧ ∀ M, M.Perm (A ++ B) → Srt c M → Blks c z (2 * bs) (X ++ M ++ [])) ∧
      (¬ a + bs < Z.length → Blks c z (2 * bs) Z) := by
  obtain ⟨D, R, last, h1, h2, h3, h4, h5, h6, h7, h8⟩ := h
  have hl : Z.length = a + (R.length * bs + last.length) := by rw [h1, List.length_append, List.length_append, h8, full_len h4]
  match R, h1, h4, h7, hl with
  | [], h1, h4, h7, hl =>
    simp at hl
    refine ⟨fun h => by omega, fun _ => ⟨D, last, by simpa using h1, h2, h3, h5, by omega, by simpa using h7⟩⟩
  | [p], h1, h4, h7, hl =>
    have hp := h4 p (by simp)
    simp at hl
    refine ⟨fun h => ⟨D.flatten, p, last, by rw [h1]; simp, h8, hp.1, by omega, hp.2, h5, ?_, fun M hM hs => ?_⟩, fun h => ?_⟩
    · have := (List.pairwise_append.1 h7).2.1
      exact (List.pairwise_cons.1 this).1 last (by simp)
    · refine ⟨D, M, by simp, ?_, h3, hs, by rw [hM.length_eq, List.length_append, hp.1]; omega, ?_⟩
      · refine List.Perm.trans ?_ h2
        rw [h1]
        simpa using hM.append_left D.flatten
      · exact chain_merge (R := []) hM (by simpa using h7)
    · have e0 : last = [] := List.eq_nil_of_length_eq_zero (by omega)
      subst e0
      refine ⟨D, p, by simpa using h1, h2, h3, hp.2, by rw [hp.1]; omega, ?_⟩
      exact chain_merge (R := []) (p := p) (q := []) (by simp) (by simpa using h7)
  | p :: q :: R, h1, h4, h7, hl =>
    simp only [List.length_cons] at hl
    have : (R.length + 1 + 1) * bs = R.length * bs + bs + bs := by rw [Nat.succ_mul, Nat.succ_mul]
    omega
theorem blks_end {c : Nat → Nat → Int} {z : List Nat} {bs : Nat} {Z : List Nat} (h : Blks c z bs Z) (hb : Z.length ≤ bs) (h0 : 0 < bs) : Z.Perm z ∧ Srt c Z := by
  obtain ⟨R, last, h1, h2, h3, h4, h5, h6⟩ := h
  refine ⟨h2, ?_⟩
  have hl : Z.length = R.length * bs + last.length := by rw [h1, List.length_append, full_len h3]
  match R, h1, h3, h6, hl with
  | [], h1, h3, h6, hl => rw [h1]; simpa using h4
  | [p], h1, h3, h6, hl =>
    have e0 : last = [] := List.eq_nil_of_length_eq_zero (by simp at hl; omega)
    subst e0
    rw [h1]; simpa using (h3 p (by simp)).2
  | p :: q :: R, h1, h3, h6, hl =>
    simp only [List.length_cons] at hl
    have : (R.length + 1 + 1) * bs = R.length * bs + bs + bs := by rw [Nat.succ_mul, Nat.succ_mul]
    omega

/-- what the calls of the sort's passes find and leave -/
theorem stb_parts (g gc gl n : Nat) (l : List (List Int)) (w0 : World) (hc : CmpIn g gc gl n l w0) (cf : Nat → Nat → Int) (hcf : ∀ i j, cmR (atL l i) (atL l j) = cf i j) (h3 : Cmp3 cf) (z : List Nat) (hz : z.Pairwise (· < ·)) (hlt : ∀ y ∈ z, y < n) (N cap : Nat) (hN : N = z.length) (hN2 : N ≤ 1000000) (w : World) (hbw : Below g w0 w) (hg : g < w.heap.size) :
    (∀ (a b : Nat) (W : World), a + 20 ≤ b → b ≤ a + 20 → b ≤ N → w.grownBy W (some g) → (∃ Z, RowN W g Z ∧ Ins cf z 20 a Z) → Calls Tryz.prog 99 #[.slice (some ⟨g, 0, none⟩) N cap, .int .i64 a, .int .i64 b, .func (.func 59) #[] #[.pointer (some ⟨gc, 0, none⟩), .pointer (some ⟨gl, 0, none⟩)]] W fun e w' => (∃ v, e = .returned v) ∧ (∃ Z, RowN w' g Z ∧ Ins cf z 20 b Z) ∧ w.grownBy w' (some g)) ∧
    (∀ (a : Nat) (W : World), a ≤ N → N < a + 20 → w.grownBy W (some g) → (∃ Z, RowN W g Z ∧ Ins cf z 20 a Z) → Calls Tryz.prog 99 #[.slice (some ⟨g, 0, none⟩) N cap, .int .i64 a, .int .i64 N, .func (.func 59) #[] #[.pointer (some ⟨gc, 0, none⟩), .pointer (some ⟨gl, 0, none⟩)]] W fun e w' => (∃ v, e = .returned v) ∧ (∃ Z, RowN w' g Z ∧ Blks cf z 20 Z) ∧ w.grownBy w' (some g)) ∧
    (∀ (bs a m b : Nat) (W : World), 0 < bs → a + bs = m → a + 2 * bs = b → b ≤ N → w.grownBy W (some g) → (∃ Z, RowN W g Z ∧ Half cf z bs a Z) → Calls Tryz.prog 109 #[.slice (some ⟨g, 0, none⟩) N cap, .int .i64 a, .int .i64 m, .int .i64 b, .func (.func 59) #[] #[.pointer (some ⟨gc, 0, none⟩), .pointer (some ⟨gl, 0, none⟩)]] W fun e w' => (∃ v, e = .returned v) ∧ (∃ Z, RowN w' g Z ∧ Half cf z bs b Z) ∧ w.grownBy w' (some g)) ∧
    (∀ (bs b2 a m : Nat) (W : World), 0 < bs → 2 * bs = b2 → a + bs = m → N < a + 2 * bs → m < N → w.grownBy W (some g) → (∃ Z, RowN W g Z ∧ Half cf z bs a Z) → Calls Tryz.prog 109 #[.slice (some ⟨g, 0, none⟩) N cap, .int .i64 a, .int .i64 m, .int .i64 N, .func (.func 59) #[] #[.pointer (some ⟨gc, 0, none⟩), .pointer (some ⟨gl, 0, none⟩)]] W fun e w' => (∃ v, e = .returned v) ∧ (∃ Z, RowN w' g Z ∧ Blks cf z b2 Z) ∧ w.grownBy w' (some g)) := by
  have hB1 : ∀ W, w.grownBy W (some g) → Below g w0 W := fun W h => hbw.trans (gr_below h (Nat.le_of_lt hg) (Nat.le_refl _))
  have hcfe : (fun i j => cmR (atL l i) (atL l j)) = cf := funext fun i => funext fun j => hcf i j
  have lIns : ∀ a Z, Ins cf z 20 a Z → a ≤ N → Z.length = N := fun a Z ⟨D, h1, h2, _, _, h5⟩ h => by rw [h1, List.length_append, h5, List.length_drop]; omega
  have lHalf : ∀ bs a Z, Half cf z bs a Z → Z.length = N := fun bs a Z ⟨D, R, last, h1, h2, _⟩ => by rw [h2.length_eq]; omega
  have mHalf : ∀ bs a Z, Half cf z bs a Z → ∀ y ∈ Z, y < n := fun bs a Z ⟨D, R, last, h1, h2, _⟩ y hy => hlt y (h2.mem_iff.1 hy)
  have mIns : ∀ a Z, Ins cf z 20 a Z → ∀ y ∈ Z, y < n := fun a Z ⟨D, h1, h2, _, _, h5⟩ y hy => by
    rw [h1] at hy
    rcases List.mem_append.1 hy with hy | hy
    · exact hlt y (List.take_subset _ _ (h2.mem_iff.1 hy))
    · exact hlt y (List.drop_subset _ _ hy)
  refine ⟨?_, ?_, ?_, ?_⟩
  · rintro a b W h1 h2 h4 hG ⟨Z, hR, hZ⟩
    obtain rfl : b = a + 20 := by omega
    obtain ⟨pre, p1, p2, p3, p4⟩ := ins_step h3 hz hZ (by omega)
    have h := insertion_any g gc gl n l w0 hc pre ((z.drop a).take 20) (z.drop (a + 20)) (by rw [← p2]; exact mIns a Z hZ) N cap (by rw [← p2, lIns a Z hZ (by omega)]) hN2 W (hB1 W hG) (by rw [← p2]; exact hR)
    rw [hcfe, p1, p3, show (a : Int) + ((20 : Nat) : Int) = ((a + 20 : Nat) : Int) by omega] at h
    exact h.mono fun e w' ⟨k1, k2, k3⟩ => ⟨k1, ⟨_, k2, p4⟩, hG.trans k3⟩
  · rintro a W h1 h2 hG ⟨Z, hR, hZ⟩
    obtain ⟨pre, p1, p2, p3, p4⟩ := ins_last h3 hz hZ (by omega) (by omega)
    have h := insertion_any g gc gl n l w0 hc pre (z.drop a) [] (by rw [← p2]; exact mIns a Z hZ) N cap (by rw [← p2, lIns a Z hZ (by omega)]) hN2 W (hB1 W hG) (by rw [← p2]; exact hR)
    rw [hcfe, p1, p3, show (a : Int) + ((z.length - a : Nat) : Int) = (N : Int) by omega] at h
    exact h.mono fun e w' ⟨k1, k2, k3⟩ => ⟨k1, ⟨_, k2, p4⟩, hG.trans k3⟩
  · rintro bs a m b W h0 h1 h2 h4 hG ⟨Z, hR, hZ⟩
    obtain ⟨X, A, B, Y, e0, e1, e2, e3, e4, e5, e6, e7⟩ := half_step hZ (by rw [lHalf bs a Z hZ]; omega)
    have hl := lHalf bs a Z hZ
    rw [e0] at hl
    simp only [List.length_append] at hl
    have h := sym_any g gc gl n l w0 hc cf hcf h3 N cap hN2 (A.length + B.length) X A B Y a m b W (by intro h; rw [h] at e2; simp at e2; omega) (by intro h; rw [h] at e3; simp at e3; omega) (Nat.le_refl _) e1.symm (by omega) (by omega) (by omega) e4 e5 e6 (fun y hy => mHalf bs a Z hZ y (by rw [e0]; rcases List.mem_append.1 hy with h | h <;> simp [h])) (hB1 W hG) (by rw [← e0]; exact hR)
    exact h.mono fun e w' ⟨k1, ⟨M, k2, k3, k4⟩, k5⟩ => ⟨k1, ⟨_, k2, by rw [← h2]; exact e7 M k3 k4⟩, hG.trans k5⟩
  · rintro bs b2 a m W h0 hb2 h1 h2 h4 hG ⟨Z, hR, hZ⟩
    have hl := lHalf bs a Z hZ
    obtain ⟨X, A, B, e0, e1, e2, e3, e4, e5, e6, e7⟩ := (half_end hZ (by omega)).1 (by omega)
    have h := sym_any g gc gl n l w0 hc cf hcf h3 N cap hN2 (A.length + B.length) X A B [] a m N W (by intro h; rw [h] at e2; simp at e2; omega) (by intro h; rw [h] at e3; simp at e3; omega) (Nat.le_refl _) e1.symm (by omega) (by omega) (by simp) e4 e5 e6 (fun y hy => mHalf bs a Z hZ y (by rw [e0]; rcases List.mem_append.1 hy with h | h <;> simp [h])) (hB1 W hG) (by rw [← e0]; exact hR)
    exact h.mono fun e w' ⟨k1, ⟨M, k2, k3, k4⟩, k5⟩ => ⟨k1, ⟨_, k2, by rw [← hb2]; exact e7 M k3 k4⟩, hG.trans k5⟩

set_option maxRecDepth 100000 in
set_option maxHeartbeats 16000000 in
theorem stable_any (g gc gl n : Nat) (l : List (List Int)) (w0 : World) (hc : CmpIn g gc gl n l w0) (cf : Nat → Nat → Int) (hcf : ∀ i j, cmR (atL l i) (atL l j) = cf i j) (h3 : Cmp3 cf) (z : List Nat) (hz : z.Pairwise (· < ·)) (hlt : ∀ y ∈ z, y < n) (N cap : Nat) (hN : N = z.length) (hN2 : N ≤ 1000000) (w : World) (hbw : Below g w0 w) (hr : RowN w g z) :
    Calls Tryz.prog 86 #[.slice (some ⟨g, 0, none⟩) N cap, .int .i64 N, .func (.func 59) #[] #[.pointer (some ⟨gc, 0, none⟩), .pointer (some ⟨gl, 0, none⟩)]] w fun e w' => (∃ v, e = .returned v) ∧ (∃ Z, RowN w' g Z ∧ Z.Perm z ∧ Srt cf Z) ∧ w.grownBy w' (some g) := by
  obtain ⟨P1, P2, P3, P4⟩ := stb_parts g gc gl n l w0 hc cf hcf h3 z hz hlt N cap hN hN2 w hbw (Blk.lt hr)
  have H1 := Lib.hid P1
  have H2 := Lib.hid P2
  have H3 := Lib.hid P3
  have H4 := Lib.hid P4
  have H0 : Hid (∃ Z, RowN w g Z ∧ Ins cf z 20 0 Z) := ⟨z, hr, [], by simp, by simp, (by intro r hr; cases hr), List.Pairwise.nil, rfl⟩
  have HS := Lib.hid (show ∀ bs Z, Blks cf z bs Z → Half cf z bs 0 Z from fun bs Z h => half_start h)
  have HE := Lib.hid (show ∀ bs b2 a Z, 2 * bs = b2 → N < a + 2 * bs → ¬ a + bs < N → Half cf z bs a Z → Blks cf z b2 Z from fun bs b2 a Z h1 h2 h3 h => by
    obtain ⟨D, R, last, e1, e2, e3⟩ := id h
    have hl : Z.length = N := by rw [e2.length_eq]; omega
    rw [← h1]
    exact (half_end h (by omega)).2 (by omega))
  have HF := Lib.hid (show ∀ bs Z, N ≤ bs → 0 < bs → Blks cf z bs Z → Z.Perm z ∧ Srt cf Z from fun bs Z h1 h2 h => by
    obtain ⟨R, last, e1, e2, e3⟩ := id h
    exact blks_end h (by rw [e2.length_eq]; omega) h2)
  clear P1 P2 P3 P4 hr hc hcf hlt hz hN h3 hbw
  go_enter Tryz.func86, Tryz.ntmps86
  go_wp2
  go_loopw [7, 8] (fun I J wr0 => ∃ (wr : World) (a b : Nat), wr = wr0 ∧ a ≤ N ∧ a + 20 ≤ b ∧ b ≤ a + 20 ∧ I = .int .i64 a ∧ J = .int .i64 b ∧ w.grownBy wr (some g) ∧ Hid (∃ Z, RowN wr g Z ∧ Ins cf z 20 a Z)) (fun I J _ => N + 20 - (intOf J).toNat)
  case atStart => exact ⟨_, 0, 20, rfl, by omega, by omega, by omega, rfl, rfl, World.grownBy.refl _ _, H0⟩
  case round =>
    obtain ⟨wr, a, b, rfl, ha, hb1, hb2, rfl, rfl, hG, hR⟩ := hrel
    by_cases hlt : b ≤ N
    · have cI := H1.out a b wr hb1 hb2 hlt hG hR.out
      have t0 : (b : Int) ≤ (N : Int) := by omega
      have t1 : IntKind.i64.wrap ((b : Int) + 20) = (b : Int) + 20 := by rw [IntKind.wrap_i64]; omega
      clear hR
      go_wp2_with (go_at_call 99; ((with_reducible refine cI.mono ?_); rintro e w4 ⟨⟨v, rfl⟩, hR4, hG4⟩; have J4 := Lib.hid hR4; clear hR4 cI))
      all_goals go_roundw
      all_goals first | exact ⟨_, b, b + 20, rfl, by omega, by omega, by omega, rfl, by go_num, hG4, J4⟩ | (simp [intOf]; omega)
    · have cI := H2.out a wr ha (by omega) hG hR.out
      have t0 : ¬ (b : Int) ≤ (N : Int) := by omega
      clear hR
      go_wp2_with (go_at_call 99; ((with_reducible refine cI.mono ?_); rintro e w4 ⟨⟨v, rfl⟩, hR4, hG4⟩; have J4 := Lib.hid hR4; clear hR4 cI))
      go_loopw [6, 7, 8, 9] (fun I A0 B0 M0 wr0 => ∃ (w5 : World) (bs : Nat), w5 = wr0 ∧ 0 < bs ∧ bs ≤ 2000000 ∧ I = .int .i64 bs ∧ w.grownBy w5 (some g) ∧ Hid (∃ Z, RowN w5 g Z ∧ Blks cf z bs Z)) (fun I _ _ _ _ => N - (intOf I).toNat)
      case atStart => exact ⟨_, 20, rfl, by omega, by omega, rfl, hG4, J4⟩
      case round =>
        obtain ⟨w5, bs, rfl, hbs, hbs2, rfl, hG5, hR5⟩ := hrel
        by_cases hbn : bs < N
        · obtain ⟨b2, hb2'⟩ : ∃ b2, 2 * bs = b2 := ⟨_, rfl⟩
          have s0 : (bs : Int) < (N : Int) := by omega
          have s1 : IntKind.i64.wrap (2 * (bs : Int)) = (b2 : Int) := by rw [IntKind.wrap_i64]; omega
          have s2 : IntKind.i64.wrap ((bs : Int) * 2) = (b2 : Int) := by rw [IntKind.wrap_i64]; omega
          have HB := Lib.hid hb2'
          have b2a : b2 ≤ bs + bs := by omega
          have b2b : bs + bs ≤ b2 := by omega
          have J5 : Hid (∃ Z, RowN w5 g Z ∧ Half cf z bs 0 Z) := by obtain ⟨Z, q1, q2⟩ := hR5.out; exact ⟨Z, q1, HS.out bs Z q2⟩
          clear hR5 hb2'
          go_wp2
          go_loopw [7, 8] (fun I J wr0 => ∃ (w6 : World) (a b : Nat), w6 = wr0 ∧ a ≤ N ∧ a + b2 ≤ b ∧ b ≤ a + b2 ∧ I = .int .i64 a ∧ J = .int .i64 b ∧ w.grownBy w6 (some g) ∧ Hid (∃ Z, RowN w6 g Z ∧ Half cf z bs a Z)) (fun I J _ => N + b2 - (intOf J).toNat)
          case atStart => exact ⟨_, 0, b2, rfl, by omega, by omega, by omega, rfl, rfl, hG5, J5⟩
          case round =>
            obtain ⟨w6, a, b, rfl, ha, hb1, hb2, rfl, rfl, hG6, hR6⟩ := hrel
            obtain ⟨m, hm⟩ : ∃ m, a + bs = m := ⟨_, rfl⟩
            have r1 : IntKind.i64.wrap ((a : Int) + bs) = (m : Int) := by rw [IntKind.wrap_i64]; omega
            have HM := Lib.hid hm
            have ma : m ≤ a + bs := by omega
            have mb : a + bs ≤ m := by omega
            clear hm
            by_cases hbN : b ≤ N
            · have cS := H3.out bs a m b w6 hbs HM.out (by omega) hbN hG6 hR6.out
              have r0 : (b : Int) ≤ (N : Int) := by omega
              have r2 : IntKind.i64.wrap ((b : Int) + b2) = ((b + b2 : Nat) : Int) := by rw [IntKind.wrap_i64]; omega
              clear hR6
              go_wp2_with (go_at_call 109; ((with_reducible refine cS.mono ?_); rintro e w7 ⟨⟨v, rfl⟩, hR7, hG7⟩; have J7 := Lib.hid hR7; clear hR7 cS))
              all_goals go_roundw
              all_goals first | exact ⟨_, b, b + b2, rfl, by omega, by omega, by omega, rfl, rfl, hG7, J7⟩ | (simp [intOf]; omega)
            · have r0 : ¬ (b : Int) ≤ (N : Int) := by omega
              by_cases hmN : m < N
              · have cS := H4.out bs b2 a m w6 hbs HB.out HM.out (by omega) hmN hG6 hR6.out
                have r3 : (m : Int) < (N : Int) := by omega
                clear hR6
                go_wp2_with (go_at_call 109; ((with_reducible refine cS.mono ?_); rintro e w7 ⟨⟨v, rfl⟩, hR7, hG7⟩; have J7 := Lib.hid hR7; clear hR7 cS))
                all_goals go_roundw
                all_goals first | exact ⟨_, b2, rfl, by omega, by omega, rfl, hG7, J7⟩ | (simp [intOf]; omega)
              · have r3 : ¬ (m : Int) < (N : Int) := by omega
                have J7 : Hid (∃ Z, RowN w6 g Z ∧ Blks cf z b2 Z) := by obtain ⟨Z, q1, q2⟩ := hR6.out; exact ⟨Z, q1, HE.out bs b2 a Z HB.out (by omega) (by omega) q2⟩
                clear hR6
                go_wp2
                all_goals go_roundw
                all_goals first | exact ⟨_, b2, rfl, by omega, by omega, rfl, hG6, J7⟩ | (simp [intOf]; omega)
        · have s0 : ¬ (bs : Int) < (N : Int) := by omega
          have J7 : Hid (∃ Z, RowN w5 g Z ∧ Z.Perm z ∧ Srt cf Z) := by obtain ⟨Z, q1, q2⟩ := hR5.out; exact ⟨Z, q1, HF.out bs Z (by omega) hbs q2⟩
          clear hR5
          go_wp2
          go_end0
          exact ⟨⟨_, rfl⟩, J7.out, hG5⟩
theorem stableFunc_any (g gc gl n : Nat) (l : List (List Int)) (w0 : World) (hc : CmpIn g gc gl n l w0) (cf : Nat → Nat → Int) (hcf : ∀ i j, cmR (atL l i) (atL l j) = cf i j) (h3 : Cmp3 cf) (z : List Nat) (hz : z.Pairwise (· < ·)) (hlt : ∀ y ∈ z, y < n) (N cap : Nat) (hN : N = z.length) (hN2 : N ≤ 1000000) (w : World) (hbw : Below g w0 w) (hr : RowN w g z) :
    Calls Tryz.prog 58 #[.slice (some ⟨g, 0, none⟩) N cap, .func (.func 59) #[] #[.pointer (some ⟨gc, 0, none⟩), .pointer (some ⟨gl, 0, none⟩)]] w fun e w' => (∃ v, e = .returned v) ∧ (∃ Z, RowN w' g Z ∧ Z.Perm z ∧ Srt cf Z) ∧ w.grownBy w' (some g) := by
  have cI := stable_any g gc gl n l w0 hc cf hcf h3 z hz hlt N cap hN hN2 w hbw hr
  clear hr hc hlt hN hcf h3 hz
  go_enter Tryz.func58, Tryz.ntmps58
  go_wp2_with (go_at_call 86; ((with_reducible refine cI.mono ?_); rintro e w1 ⟨⟨v, rfl⟩, hR, hG⟩; have HR := Lib.hid hR; clear hR))
  go_end0
  exact ⟨⟨_, rfl⟩, HR.out, hG⟩

end Go.Proofs.YthchjceibpcgbaaGreatDoor.Fi
