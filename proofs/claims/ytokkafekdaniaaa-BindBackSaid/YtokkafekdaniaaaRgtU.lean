/-
  What is proved: how great a claim is that was opened or closed; its loose numbers, opened with a closed term; boxes for a claim and a term. No function of the program is named.
-/
import Derived.Test.YtokkafekdaniaaaRgtM
import Derived.Test.YtokkafekdaniaaaBndO
namespace Go.Proofs.Ytokkafekdaniaaa.B
open Go.RowKit L T C
set_option linter.unusedVariables false
set_option linter.unusedSimpArgs false

theorem mul_ge {a u : Nat} (hu : 1 ≤ u) : a ≤ a * u := by have := Nat.mul_le_mul_left a hu; omega
theorem lift_go (b f k o : Int) (s : ByteArray) (z : Int) : ∃ z', fLift b f k o s z = .go z' := by
  unfold fLift
  split
  · split <;> exact ⟨_, rfl⟩
  · exact ⟨_, rfl⟩
theorem open_go (u : Tm) (k o : Int) (s : ByteArray) (z : Int) : (∃ z', fOpen u k o s z = .go z') ∨ fOpen u k o s z = .put (wk (fLift k 0) 0 u) := by
  unfold fOpen
  split
  · split
    · exact .inr rfl
    · exact .inl ⟨_, rfl⟩
  · exact .inl ⟨_, rfl⟩
theorem close_go (name : ByteArray) (k o : Int) (s : ByteArray) (z : Int) : (∃ z', fClose name k o s z = .go z') ∨ fClose name k o s z = .leaf 2 ⟨#[]⟩ k := by
  unfold fClose
  split
  · exact .inr rfl
  · split <;> exact .inl ⟨_, rfl⟩
mutual
theorem size_lift (b f : Int) (k : Int) : ∀ t : Tm, size (wk (fLift b f) k t) = size t
  | .mk o s z l => by
    have h := sizes_lift b f k l
    obtain ⟨z', e⟩ := lift_go b f k o s z
    rw [wk, e]
    simp only [size, h]
theorem sizes_lift (b f : Int) (k : Int) : ∀ l : List Tm, sizes (wks (fLift b f) k l) = sizes l
  | [] => by rw [wks]
  | t :: l => by rw [wks, sizes, sizes, size_lift b f k t, sizes_lift b f k l]
end
mutual
theorem size_open (u : Tm) (k : Int) : ∀ t : Tm, size (wk (fOpen u) k t) ≤ size t * size u
  | .mk o s z l => by
    have hu := size_pos u
    have h := sizes_open u k l
    have e2 : size (.mk o s z l) * size u = size u + sizes l * size u := by rw [size, Nat.add_mul, Nat.one_mul]
    rw [wk, e2]
    rcases open_go u k o s z with ⟨z', e⟩ | e
    · rw [e]; simp only [size]; omega
    · rw [e]; simp only [size_lift]; omega
theorem sizes_open (u : Tm) (k : Int) : ∀ l : List Tm, sizes (wks (fOpen u) k l) ≤ sizes l * size u
  | [] => by rw [wks, sizes]; omega
  | t :: l => by rw [wks, sizes, sizes, Nat.add_mul]; have := size_open u k t; have := sizes_open u k l; omega
end
mutual
theorem wt_open (u : Tm) : ∀ (c : Cl) (k : Int), wt (wkC (fOpen u) k c) ≤ wt c * size u
  | .mk o s z ts l, k => by
    have hu := size_pos u
    rw [wkC, wt, wt, Nat.add_mul, Nat.add_mul, Nat.one_mul]
    have := sizes_open u k ts
    have := wts_open u l (kin o k)
    omega
theorem wts_open (u : Tm) : ∀ (l : List Cl) (k : Int), wts (wkCs (fOpen u) k l) ≤ wts l * size u
  | [], k => by rw [wkCs, wts]; omega
  | c :: l, k => by rw [wkCs, wts, wts, Nat.add_mul]; have := wt_open u c k; have := wts_open u l k; omega
end
mutual
theorem size_close (name : ByteArray) (k : Int) : ∀ t : Tm, size (wk (fClose name) k t) ≤ size t
  | .mk o s z l => by
    have h := sizes_close name k l
    rw [wk]
    rcases close_go name k o s z with ⟨z', e⟩ | e
    · rw [e]; simp only [size]; omega
    · rw [e]; simp only [size, sizes]; omega
theorem sizes_close (name : ByteArray) (k : Int) : ∀ l : List Tm, sizes (wks (fClose name) k l) ≤ sizes l
  | [] => by rw [wks]; exact Nat.le_refl _
  | t :: l => by rw [wks, sizes, sizes]; have := size_close name k t; have := sizes_close name k l; omega
end
mutual
theorem wt_close (name : ByteArray) : ∀ (c : Cl) (k : Int), wt (wkC (fClose name) k c) ≤ wt c
  | .mk o s z ts l, k => by
    rw [wkC, wt, wt]
    have := sizes_close name k ts
    have := wts_close name l (kin o k)
    omega
theorem wts_close (name : ByteArray) : ∀ (l : List Cl) (k : Int), wts (wkCs (fClose name) k l) ≤ wts l
  | [], k => by rw [wkCs]; exact Nat.le_refl _
  | c :: l, k => by rw [wkCs, wts, wts]; have := wt_close name c k; have := wts_close name l k; omega
end
def In64 (x : Int) : Prop := -9223372036854775808 ≤ x ∧ x ≤ 9223372036854775807
theorem wrap64_in (x : Int) : In64 (wrap64 x) := by unfold In64 wrap64; omega
mutual
theorem lsT_in (k : Int) : ∀ (t : Tm) (x : Int), x ∈ lsT k t → In64 x
  | .mk o s z l, x, h => by
    rw [lsT, List.mem_append] at h
    rcases h with h | h
    · split at h
      · rw [List.mem_singleton] at h; rw [h]; exact wrap64_in _
      · cases h
    · exact lsTs_in k l x h
theorem lsTs_in (k : Int) : ∀ (l : List Tm) (x : Int), x ∈ lsTs k l → In64 x
  | [], x, h => by rw [lsTs] at h; cases h
  | t :: l, x, h => by
    rw [lsTs, List.mem_append] at h
    exact h.elim (lsT_in k t x) (lsTs_in k l x)
end
mutual
theorem lsC_in : ∀ (c : Cl) (k : Int) (x : Int), x ∈ lsC k c → In64 x
  | .mk o s z ts l, k, x, h => by
    rw [lsC, List.mem_append] at h
    exact h.elim (lsTs_in k ts x) (lsCs_in l (kin o k) x)
theorem lsCs_in : ∀ (l : List Cl) (k : Int) (x : Int), x ∈ lsCs k l → In64 x
  | [], k, x, h => by rw [lsCs] at h; cases h
  | t :: l, k, x, h => by
    rw [lsCs, List.mem_append] at h
    exact h.elim (lsC_in t k x) (lsCs_in l k x)
end
theorem looseL_in {c : Cl} {x : Int} (h : x ∈ looseL c) : In64 x := by
  rw [looseL_puts, mem_puts] at h
  rcases h with h | h
  · cases h
  · exact lsC_in c 0 x h
theorem loose_len (c : Cl) : (looseL c).length ≤ wt c := by
  rw [looseL_puts]
  have h1 := puts_len (lsC 0 c) []
  have h2 := lsC_len c 0
  simp at h1; omega
theorem loose_open {c : Cl} {t : Tm} (hc : plainC c) (ht : lsT 0 t = []) : looseL (wkC (fOpen t) 0 c) = less (looseL c) := by
  rw [looseL_puts, looseL_puts, less_openC t ht c 0 (Int.le_refl _) hc, less_puts]
theorem lone_nil {t : Tm} (h : (puts [] (lsT 0 t)).length = 0) : lsT 0 t = [] := by
  have h1 := List.eq_nil_of_length_eq_zero h
  refine List.eq_nil_iff_forall_not_mem.2 fun x hx => ?_
  have : x ∈ puts [] (lsT 0 t) := (mem_puts _ _ _).2 (.inr hx)
  rw [h1] at this; cases this
theorem less_step {X : List Int} {k : Nat} {x : Int} (h : X[k]? = some x) : less (X.take (k + 1)) = less (X.take k) ++ (if 0 < x then [x - 1] else []) := by
  rw [List.take_add_one, h, less_app]
  congr 1
  unfold less
  by_cases hx : 0 < x <;> simp [hx]
theorem less_len (X : List Int) : (less X).length ≤ X.length := by
  unfold less; rw [List.length_map]; exact List.length_filter_le _ _
theorem lawBoxesR (w : World) (o : Int) (s z : ByteArray) (k : SS) (a : Option Addr) (n c : Nat) (o' : Int) (s' : ByteArray) (z' : Int) (a' : Option Addr) (n' c' : Nat) :
    ∃ W, (w.alloc (.cells #[.int .i64 o, .string s, .string z, .slice k.a k.n k.c, .slice a n c] 43)).alloc (.cells #[.int .i64 o', .string s', .int .i64 z', .slice a' n' c'] 24) = W ∧ Below w.heap.size w W ∧ W.heap.size = w.heap.size + 2 ∧ CBox W w.heap.size o s z k a n c ∧ TBox W (w.heap.size + 1) o' s' z' a' n' c' := by
  have b1 : CBox _ _ o s z k a n c := CBox.new w o s z k a n c
  have b2 := TBox.new (w.alloc (.cells #[.int .i64 o, .string s, .string z, .slice k.a k.n k.c, .slice a n c] 43)) o' s' z' a' n' c'
  simp only [World.size_alloc] at b2
  exact ⟨_, rfl, bel_alloc (bel_alloc (Below.refl _ _) _) _, by simp, Blk.alloc b1 _, b2⟩
theorem small_cR {c : Cl} {m : Nat} (h : wtTo m c ≤ m) : wt c ≤ m := Nat.le_trans (wtTo_le c m h) h
theorem small_tR {t : Tm} {m : Nat} (h : szTo m t ≤ m) : size t ≤ m := (szTo_le t m).1 h
end Go.Proofs.Ytokkafekdaniaaa.B
