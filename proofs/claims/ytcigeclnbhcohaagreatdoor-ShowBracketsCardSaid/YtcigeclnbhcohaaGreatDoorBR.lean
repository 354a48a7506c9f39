/-
  What is proved: terms and claims in plain words, changed part by part within binders: lifted, opened, closed; the loose numbers. No program is spoken of.
  What is proved: lists of numbers in plain words: sorted and each once is put in one after another.
  What is proved: what follows of opening and closing, in plain words: opened with the variable by which it was closed a claim is as it was; the other way round; the loose numbers of what was opened with a closed term. No program is spoken of.
  What is proved: right terms and claims in plain words: the first error of a claim, its depth; what a claim without error looks like. No program is spoken of.
-/
import Derived.Test.YtcigeclnbhcohaaGreatDoorBC
import Derived.Lib.SlicesCompact
namespace Go.Proofs.YtcigeclnbhcohaaGreatDoor.B
open Go.RowKit L T C
set_option linter.unusedVariables false
set_option linter.unusedSimpArgs false

/-- what becomes of a part: another number, and its Args are gone into; another part, without Args; or another term, which is not gone into -/
inductive Nd where
  | go (num : Int)
  | leaf (op : Int) (name : ByteArray) (num : Int)
  | put (t : Tm)
abbrev Fn := Int → Int → ByteArray → Int → Nd
mutual
def wk (f : Fn) (k : Int) : Tm → Tm
  | .mk o s z l => match f k o s z with
    | .go z' => .mk o s z' (wks f k l)
    | .leaf o' s' z' => .mk o' s' z' []
    | .put t => t
def wks (f : Fn) (k : Int) : List Tm → List Tm
  | [] => []
  | t :: l => wk f k t :: wks f k l
end
/-- how many binders lie around a claim's Subs -/
def kin (o k : Int) : Int := if o = 11 ∨ o = 12 then k + 1 else k
mutual
def wkC (f : Fn) (k : Int) : Cl → Cl
  | .mk o s z ts l => .mk o s z (wks f k ts) (wkCs f (kin o k) l)
def wkCs (f : Fn) (k : Int) : List Cl → List Cl
  | [] => []
  | c :: l => wkC f k c :: wkCs f k l
end
theorem wks_map (f : Fn) (k : Int) : ∀ l : List Tm, wks f k l = l.map (wk f k)
  | [] => by rw [wks]; rfl
  | t :: l => by rw [wks, wks_map f k l]; rfl
theorem wkCs_map (f : Fn) (k : Int) : ∀ l : List Cl, wkCs f k l = l.map (wkC f k)
  | [] => by rw [wkCs]; rfl
  | t :: l => by rw [wkCs, wkCs_map f k l]; rfl
theorem wk_mk (f : Fn) (k : Int) (t : Tm) : wk f k t = match f k (opT t) (nameT t) (numT t) with | .go z' => .mk (opT t) (nameT t) z' (wks f k (argsT t)) | .leaf o' s' z' => .mk o' s' z' [] | .put t => t := by
  cases t; rw [wk]; rfl
theorem wkC_mk (f : Fn) (k : Int) (c : Cl) : wkC f k c = .mk (opC c) (nmC c) (soC c) (wks f k (tsC c)) (wkCs f (kin (opC c) k) (subC c)) := by
  cases c; rw [wkC]; rfl
/-- lifted by so much, from so much on -/
def fLift (by_ fr : Int) : Fn := fun k o _ z => if o = 2 ∧ k ≤ z then (if fr ≤ wrap64 (z - k) then .go (wrap64 (max (wrap64 (wrap64 (z - k) + by_)) 0 + k)) else .go z) else .go z
/-- opened with a term -/
def fOpen (t : Tm) : Fn := fun k o _ z => if o = 2 ∧ k ≤ z then (if wrap64 (z - k) = 0 then .put (wk (fLift k 0) 0 t) else .go (wrap64 (z - 1))) else .go z
/-- closed by a name -/
def fClose (name : ByteArray) : Fn := fun k o s z => if o = 1 ∧ s.toList = name.toList then .leaf 2 ⟨#[]⟩ k else if o = 2 ∧ k ≤ z then .go (wrap64 (z + 1)) else .go z
/-! the loose numbers, as they come -/
mutual
def lsT (k : Int) : Tm → List Int
  | .mk o s z l => (if o = 2 ∧ k ≤ z then [wrap64 (z - k)] else []) ++ lsTs k l
def lsTs (k : Int) : List Tm → List Int
  | [] => []
  | t :: l => lsT k t ++ lsTs k l
end
mutual
def lsC (k : Int) : Cl → List Int
  | .mk o s z ts l => lsTs k ts ++ lsCs (kin o k) l
def lsCs (k : Int) : List Cl → List Int
  | [] => []
  | c :: l => lsC k c ++ lsCs k l
end
theorem lsT_mk (k : Int) (t : Tm) : lsT k t = (if opT t = 2 ∧ k ≤ numT t then [wrap64 (numT t - k)] else []) ++ lsTs k (argsT t) := by
  cases t; rw [lsT]; rfl
theorem lsC_mk (k : Int) (c : Cl) : lsC k c = lsTs k (tsC c) ++ lsCs (kin (opC c) k) (subC c) := by
  cases c; rw [lsC]; rfl
theorem lsTs_app (k : Int) (l m : List Tm) : lsTs k (l ++ m) = lsTs k l ++ lsTs k m := by
  induction l with
  | nil => rw [List.nil_append, lsTs]; rfl
  | cons t l ih => rw [List.cons_append, lsTs, lsTs, ih, List.append_assoc]
theorem lsCs_app (k : Int) (l m : List Cl) : lsCs k (l ++ m) = lsCs k l ++ lsCs k m := by
  induction l with
  | nil => rw [List.nil_append, lsCs]; rfl
  | cons t l ih => rw [List.cons_append, lsCs, lsCs, ih, List.append_assoc]
mutual
theorem lsT_len (k : Int) : ∀ t : Tm, (lsT k t).length ≤ size t
  | .mk o s z l => by
    rw [lsT, size, List.length_append]
    have := lsTs_len k l
    split <;> simp <;> omega
theorem lsTs_len (k : Int) : ∀ l : List Tm, (lsTs k l).length ≤ sizes l
  | [] => by rw [lsTs, sizes]; simp
  | t :: l => by rw [lsTs, sizes, List.length_append]; have := lsT_len k t; have := lsTs_len k l; omega
end
mutual
theorem lsC_len : ∀ (c : Cl) (k : Int), (lsC k c).length ≤ wt c
  | .mk o s z ts l, k => by
    rw [lsC, wt, List.length_append]
    have := lsTs_len k ts; have := lsCs_len l (kin o k); omega
theorem lsCs_len : ∀ (l : List Cl) (k : Int), (lsCs k l).length ≤ wts l
  | [], k => by rw [lsCs, wts]; simp
  | t :: l, k => by rw [lsCs, wts, List.length_append]; have := lsC_len t k; have := lsCs_len l k; omega
end
end Go.Proofs.YtcigeclnbhcohaaGreatDoor.B
namespace Go.Proofs.YtcigeclnbhcohaaGreatDoor.B
open Go.RowKit L T C
set_option linter.unusedVariables false
set_option linter.unusedSimpArgs false

/-- ahead of the first greater one -/
def insI (u : Int) : List Int → List Int
  | [] => [u]
  | x :: l => if u < x then u :: x :: l else x :: insI u l
def putL (X : List Int) (u : Int) : List Int := if u ∈ X then X else insI u X
theorem insI_len (u : Int) : ∀ X : List Int, (insI u X).length = X.length + 1
  | [] => rfl
  | x :: l => by rw [insI]; split <;> simp [insI_len u l]
theorem putL_len (X : List Int) (u : Int) : (putL X u).length ≤ X.length + 1 := by
  unfold putL; split
  · omega
  · rw [insI_len]; exact Nat.le_refl _
theorem mem_insI (u y : Int) : ∀ X : List Int, y ∈ insI u X ↔ y = u ∨ y ∈ X
  | [] => by simp [insI]
  | x :: l => by
    rw [insI]; split
    · simp
    · simp [mem_insI u y l]
      constructor
      · rintro (h | h | h)
        · exact .inr (.inl h)
        · exact .inl h
        · exact .inr (.inr h)
      · rintro (h | h | h)
        · exact .inr (.inl h)
        · exact .inl h
        · exact .inr (.inr h)
theorem mem_putL (X : List Int) (u y : Int) : y ∈ putL X u ↔ y = u ∨ y ∈ X := by
  unfold putL; split
  · rename_i h
    constructor
    · exact .inr
    · rintro (rfl | h')
      · exact h
      · exact h'
  · exact mem_insI u y X
abbrev Up (X : List Int) : Prop := X.Pairwise (· < ·)
theorem up_insI {u : Int} : ∀ {X : List Int}, Up X → u ∉ X → Up (insI u X)
  | [], _, _ => by simp [insI]
  | x :: l, h, hn => by
    rw [insI]
    have hx := List.pairwise_cons.1 h
    have hne : u ≠ x := fun e => hn (by simp [e])
    have hnl : u ∉ l := fun e => hn (by simp [e])
    split
    · rename_i hlt
      exact List.pairwise_cons.2 ⟨fun y hy => by
        rcases List.mem_cons.1 hy with rfl | hy
        · exact hlt
        · exact Int.lt_trans hlt (hx.1 y hy), h⟩
    · rename_i hge
      exact List.pairwise_cons.2 ⟨fun y hy => by
        rcases (mem_insI u y l).1 hy with rfl | hy
        · omega
        · exact hx.1 y hy, up_insI hx.2 hnl⟩
theorem up_putL {X : List Int} {u : Int} (h : Up X) : Up (putL X u) := by
  unfold putL; split
  · exact h
  · rename_i hn; exact up_insI h hn
theorem up_eq : ∀ {X Y : List Int}, Up X → Up Y → (∀ y, y ∈ X ↔ y ∈ Y) → X = Y
  | [], [], _, _, _ => rfl
  | [], y :: l, _, _, h => absurd ((h y).2 (by simp)) (by simp)
  | x :: l, [], _, _, h => absurd ((h x).1 (by simp)) (by simp)
  | x :: l, y :: m, hX, hY, h => by
    have h1 := List.pairwise_cons.1 hX
    have h2 := List.pairwise_cons.1 hY
    have e : x = y := by
      rcases List.mem_cons.1 ((h x).1 (by simp)) with e | hx
      · exact e
      · rcases List.mem_cons.1 ((h y).2 (by simp)) with e | hy
        · exact e.symm
        · have := h1.1 y hy; have := h2.1 x hx; omega
    subst e
    congr 1
    refine up_eq h1.2 h2.2 fun z => ?_
    constructor
    · intro hz
      rcases List.mem_cons.1 ((h z).1 (by simp [hz])) with e | h'
      · have := h1.1 z hz; omega
      · exact h'
    · intro hz
      rcases List.mem_cons.1 ((h z).2 (by simp [hz])) with e | h'
      · have := h2.1 z hz; omega
      · exact h'
/-- put in one after another -/
def puts (X : List Int) (Y : List Int) : List Int := Y.foldl putL X
theorem puts_up (Y : List Int) : ∀ {X : List Int}, Up X → Up (puts X Y) := by
  induction Y with
  | nil => exact fun h => h
  | cons y l ih => exact fun h => ih (up_putL h)
theorem mem_puts (Y : List Int) : ∀ (X : List Int) (z : Int), z ∈ puts X Y ↔ z ∈ X ∨ z ∈ Y := by
  induction Y with
  | nil => intro X z; simp [puts]
  | cons y l ih =>
    intro X z
    show z ∈ puts (putL X y) l ↔ _
    rw [ih, mem_putL, List.mem_cons]
    constructor
    · rintro ((h | h) | h)
      · exact .inr (.inl h)
      · exact .inl h
      · exact .inr (.inr h)
    · rintro (h | h | h)
      · exact .inl (.inr h)
      · exact .inl (.inl h)
      · exact .inr h
theorem puts_app (X Y Z : List Int) : puts X (Y ++ Z) = puts (puts X Y) Z := by unfold puts; rw [List.foldl_append]
theorem puts_len (Y : List Int) : ∀ X : List Int, (puts X Y).length ≤ X.length + Y.length := by
  induction Y with
  | nil => intro X; simp [puts]
  | cons y l ih =>
    intro X
    have h1 := ih (putL X y)
    have h2 := putL_len X y
    show (puts (putL X y) l).length ≤ _
    rw [List.length_cons]; omega
/-- what compacting a sorted list leaves -/
theorem compact_up (X : List Int) (hs : X.Pairwise (· ≤ ·)) : Up (Lib.compact X) ∧ ∀ y, y ∈ Lib.compact X ↔ y ∈ X := by
  have key : ∀ m, m ≤ X.length → Up (Lib.compactUpTo X.toArray m) ∧ (∀ y, y ∈ Lib.compactUpTo X.toArray m ↔ y ∈ X.take m) := by
    intro m
    induction m with
    | zero => intro _; simp [Lib.compactUpTo]
    | succ m ih =>
      intro hm
      obtain ⟨h1, h2⟩ := ih (by omega)
      rw [Lib.compactUpTo_succ]
      have hget : X.toArray[m]! = X[m]'(by omega) := by simp [show m < X.length by omega]
      have htk : X.take (m + 1) = X.take m ++ [X[m]'(by omega)] := by rw [List.take_add_one, List.getElem?_eq_getElem (by omega)]; rfl
      by_cases hk : Lib.keeps X.toArray m = true
      · rw [if_pos hk, hget, htk]
        have hlt : ∀ y ∈ X.take m, y < X[m]'(by omega) := by
          intro y hy
          obtain ⟨i, hi, rfl⟩ := List.mem_iff_getElem.1 hy
          rw [List.length_take] at hi
          rw [List.getElem_take]
          have hm0 : 0 < m := by omega
          have hle1 : X[i]'(by omega) ≤ X[m - 1]'(by omega) := by
            by_cases e : i = m - 1
            · subst e; exact Int.le_refl _
            · exact List.pairwise_iff_getElem.1 hs i (m - 1) (by omega) (by omega) (by omega)
          have hle2 := List.pairwise_iff_getElem.1 hs (m - 1) m (by omega) (by omega) (by omega)
          unfold Lib.keeps at hk
          have hk' := of_decide_eq_true hk
          rcases hk' with h0 | h0
          · omega
          · rw [hget] at h0
            have : X.toArray[m - 1]! = X[m - 1]'(by omega) := by simp [show m - 1 < X.length by omega]
            rw [this] at h0
            omega
        refine ⟨?_, fun y => by rw [List.mem_append, List.mem_append, h2 y]⟩
        refine List.pairwise_append.2 ⟨h1, by simp, fun a ha b hb => ?_⟩
        rw [List.mem_singleton] at hb
        subst hb
        exact hlt a ((h2 a).1 ha)
      · rw [if_neg hk, List.append_nil, htk]
        refine ⟨h1, fun y => ?_⟩
        rw [h2 y, List.mem_append, List.mem_singleton]
        refine ⟨Or.inl, fun h => ?_⟩
        rcases h with h | rfl
        · exact h
        · unfold Lib.keeps at hk
          have hk' : ¬ (m = 0 ∨ X.toArray[m]! ≠ X.toArray[m - 1]!) := fun e => hk (decide_eq_true e)
          have hm0 : m ≠ 0 := fun e => hk' (.inl e)
          have heq : X.toArray[m]! = X.toArray[m - 1]! := Decidable.byContradiction fun e => hk' (.inr e)
          rw [hget] at heq
          have : X.toArray[m - 1]! = X[m - 1]'(by omega) := by simp [show m - 1 < X.length by omega]
          rw [heq, this]
          exact List.mem_iff_getElem.2 ⟨m - 1, by rw [List.length_take]; omega, by rw [List.getElem_take]⟩
  have := key X.length (Nat.le_refl _)
  rw [List.take_length] at this
  exact this
def srtI (X : List Int) : List Int := X.mergeSort fun x y => decide (x ≤ y)
theorem compact_puts (X : List Int) : Lib.compact (srtI X) = puts [] X := by
  have hs : (srtI X).Pairwise (· ≤ ·) := by
    have := List.pairwise_mergeSort (le := fun x y : Int => decide (x ≤ y)) (fun a b c h1 h2 => by simp at *; omega) (fun a b => by simp; omega) X
    exact this.imp (fun h => by simpa using h)
  obtain ⟨h1, h2⟩ := compact_up _ hs
  refine up_eq h1 (puts_up X (by simp)) fun y => ?_
  rw [h2, mem_puts]
  unfold srtI
  rw [List.mem_mergeSort]
  simp
end Go.Proofs.YtcigeclnbhcohaaGreatDoor.B
namespace Go.Proofs.YtcigeclnbhcohaaGreatDoor.B
open Go.RowKit L T C
set_option linter.unusedVariables false
set_option linter.unusedSimpArgs false

/-! numbers that don't wrap; variables and bound numbers without Args, as a right term has them -/
mutual
def plainT : Tm → Prop
  | .mk o s z l => (o = 2 → 0 ≤ z ∧ z < 4611686018427387904 ∧ s = ⟨#[]⟩ ∧ l = []) ∧ (o = 1 → z = 0 ∧ l = []) ∧ plainTs l
def plainTs : List Tm → Prop
  | [] => True
  | t :: l => plainT t ∧ plainTs l
end
mutual
def plainC : Cl → Prop
  | .mk _ _ _ ts l => plainTs ts ∧ plainCs l
def plainCs : List Cl → Prop
  | [] => True
  | c :: l => plainC c ∧ plainCs l
end
mutual
def freshT (name : ByteArray) : Tm → Prop
  | .mk o s _ l => ¬ (o = 1 ∧ s.toList = name.toList) ∧ freshTs name l
def freshTs (name : ByteArray) : List Tm → Prop
  | [] => True
  | t :: l => freshT name t ∧ freshTs name l
end
mutual
def freshC (name : ByteArray) : Cl → Prop
  | .mk _ _ _ ts l => freshTs name ts ∧ freshCs name l
def freshCs (name : ByteArray) : List Cl → Prop
  | [] => True
  | c :: l => freshC name c ∧ freshCs name l
end
def var (name : ByteArray) : Tm := .mk 1 name 0 []
theorem lift_var (name : ByteArray) (k : Int) : wk (fLift k 0) 0 (var name) = var name := by
  simp [var, wk, wks, fLift]
theorem wrap_small {x : Int} (h0 : -4611686018427387905 ≤ x) (h1 : x ≤ 4611686018427387904) : wrap64 x = x := by unfold wrap64; omega
theorem wrap64_zero : wrap64 0 = 0 := by unfold wrap64; omega
mutual
theorem open_close (name : ByteArray) (k : Int) (hk : 0 ≤ k) : ∀ t : Tm, plainT t → wk (fOpen (var name)) k (wk (fClose name) k t) = t
  | .mk o s z l, h => by
    rw [plainT] at h
    obtain ⟨h2, h1, hl⟩ := h
    by_cases c1 : o = 1 ∧ s.toList = name.toList
    · obtain ⟨rfl, e⟩ := c1
      have e1 : wk (fClose name) k (.mk 1 s z l) = .mk 2 ⟨#[]⟩ k [] := by simp [wk, fClose, e]
      rw [e1]
      have e2 : wk (fOpen (var name)) k (.mk 2 ⟨#[]⟩ k []) = wk (fLift k 0) 0 (var name) := by
        simp [wk, fOpen, wrap64_zero]
      rw [e2, lift_var]
      obtain ⟨rfl, rfl⟩ := h1 rfl
      have : s = name := eqS_iff.1 (beq_iff_eq.2 e)
      rw [this]; rfl
    · by_cases c2 : o = 2 ∧ k ≤ z
      · obtain ⟨rfl, hz⟩ := c2
        obtain ⟨a1, a2, a3, a4⟩ := h2 rfl
        have w1 : wrap64 (z + 1) = z + 1 := wrap_small (by omega) (by omega)
        have e1 : wk (fClose name) k (.mk 2 s z l) = .mk 2 s (z + 1) (wks (fClose name) k l) := by
          simp [wk, fClose, hz, w1]
        rw [e1]
        have w2 : wrap64 (z + 1 - k) = z + 1 - k := wrap_small (by omega) (by omega)
        have w3 : wrap64 (z + 1 - 1) = z := by rw [wrap_small (by omega) (by omega)]; omega
        have n0 : ¬ (z + 1 - k = 0) := by omega
        have hz1 : k ≤ z + 1 := by omega
        have e2 : wk (fOpen (var name)) k (.mk 2 s (z + 1) (wks (fClose name) k l)) = .mk 2 s z (wks (fOpen (var name)) k (wks (fClose name) k l)) := by
          simp only [wk, fOpen, w2, w3]
          rw [if_pos ⟨trivial, hz1⟩, if_neg n0]
        rw [e2, opens_closes name k hk l hl]
      · have e1 : wk (fClose name) k (.mk o s z l) = .mk o s z (wks (fClose name) k l) := by
          simp only [wk, fClose]; rw [if_neg c1, if_neg c2]
        have e2 : wk (fOpen (var name)) k (.mk o s z (wks (fClose name) k l)) = .mk o s z (wks (fOpen (var name)) k (wks (fClose name) k l)) := by
          simp only [wk, fOpen]; rw [if_neg c2]
        rw [e1, e2, opens_closes name k hk l hl]
theorem opens_closes (name : ByteArray) (k : Int) (hk : 0 ≤ k) : ∀ l : List Tm, plainTs l → wks (fOpen (var name)) k (wks (fClose name) k l) = l
  | [], _ => by rw [wks, wks]
  | t :: l, h => by
    rw [plainTs] at h
    rw [wks, wks, open_close name k hk t h.1, opens_closes name k hk l h.2]
end
theorem kin_pos {o k : Int} (h : 0 ≤ k) : 0 ≤ kin o k := by unfold kin; split <;> omega
mutual
theorem open_closeC (name : ByteArray) : ∀ (c : Cl) (k : Int), 0 ≤ k → plainC c → wkC (fOpen (var name)) k (wkC (fClose name) k c) = c
  | .mk o s z ts l, k, hk, h => by
    rw [plainC] at h
    rw [wkC, wkC, opens_closes name k hk ts h.1, opens_closesC name l (kin o k) (kin_pos hk) h.2]
theorem opens_closesC (name : ByteArray) : ∀ (l : List Cl) (k : Int), 0 ≤ k → plainCs l → wkCs (fOpen (var name)) k (wkCs (fClose name) k l) = l
  | [], k, _, _ => by rw [wkCs, wkCs]
  | t :: l, k, hk, h => by
    rw [plainCs] at h
    rw [wkCs, wkCs, open_closeC name t k hk h.1, opens_closesC name l k hk h.2]
end
mutual
theorem close_open (name : ByteArray) (k : Int) (hk : 0 ≤ k) : ∀ t : Tm, plainT t → freshT name t → wk (fClose name) k (wk (fOpen (var name)) k t) = t
  | .mk o s z l, h, hf => by
    rw [plainT] at h
    rw [freshT] at hf
    obtain ⟨h2, h1, hl⟩ := h
    by_cases c2 : o = 2 ∧ k ≤ z
    · obtain ⟨rfl, hz⟩ := c2
      obtain ⟨a1, a2, rfl, rfl⟩ := h2 rfl
      have w2 : wrap64 (z - k) = z - k := wrap_small (by omega) (by omega)
      by_cases hzk : z - k = 0
      · have e1 : wk (fOpen (var name)) k (.mk 2 ⟨#[]⟩ z []) = var name := by
          have : wk (fOpen (var name)) k (.mk 2 ⟨#[]⟩ z []) = wk (fLift k 0) 0 (var name) := by simp [wk, fOpen, hz, hzk, wrap64_zero]
          rw [this, lift_var]
        rw [e1]
        have : z = k := by omega
        subst this
        simp [var, wk, fClose]
      · have w3 : wrap64 (z - 1) = z - 1 := wrap_small (by omega) (by omega)
        have e1 : wk (fOpen (var name)) k (.mk 2 ⟨#[]⟩ z []) = .mk 2 ⟨#[]⟩ (z - 1) [] := by
          simp only [wk, fOpen, w2, w3]
          rw [if_pos ⟨trivial, hz⟩, if_neg hzk]
          simp [wks]
        have w4 : wrap64 (z - 1 + 1) = z := by rw [wrap_small (by omega) (by omega)]; omega
        have hz1 : k ≤ z - 1 := by omega
        rw [e1]
        simp only [wk, fClose, w4]
        rw [if_neg (by omega), if_pos ⟨trivial, hz1⟩]
        simp [wks]
    · have e1 : wk (fOpen (var name)) k (.mk o s z l) = .mk o s z (wks (fOpen (var name)) k l) := by
        simp only [wk, fOpen]; rw [if_neg c2]
      have e2 : wk (fClose name) k (.mk o s z (wks (fOpen (var name)) k l)) = .mk o s z (wks (fClose name) k (wks (fOpen (var name)) k l)) := by
        simp only [wk, fClose]; rw [if_neg hf.1, if_neg c2]
      rw [e1, e2, closes_opens name k hk l hl hf.2]
theorem closes_opens (name : ByteArray) (k : Int) (hk : 0 ≤ k) : ∀ l : List Tm, plainTs l → freshTs name l → wks (fClose name) k (wks (fOpen (var name)) k l) = l
  | [], _, _ => by rw [wks, wks]
  | t :: l, h, hf => by
    rw [plainTs] at h
    rw [freshTs] at hf
    rw [wks, wks, close_open name k hk t h.1 hf.1, closes_opens name k hk l h.2 hf.2]
end
mutual
theorem close_openC (name : ByteArray) : ∀ (c : Cl) (k : Int), 0 ≤ k → plainC c → freshC name c → wkC (fClose name) k (wkC (fOpen (var name)) k c) = c
  | .mk o s z ts l, k, hk, h, hf => by
    rw [plainC] at h
    rw [freshC] at hf
    rw [wkC, wkC, closes_opens name k hk ts h.1 hf.1, closes_opensC name l (kin o k) (kin_pos hk) h.2 hf.2]
theorem closes_opensC (name : ByteArray) : ∀ (l : List Cl) (k : Int), 0 ≤ k → plainCs l → freshCs name l → wkCs (fClose name) k (wkCs (fOpen (var name)) k l) = l
  | [], k, _, _, _ => by rw [wkCs, wkCs]
  | t :: l, k, hk, h, hf => by
    rw [plainCs] at h
    rw [freshCs] at hf
    rw [wkCs, wkCs, close_openC name t k hk h.1 hf.1, closes_opensC name l k hk h.2 hf.2]
end
/-! the loose numbers of what was opened with a closed term -/
mutual
theorem closed_lift (by_ : Int) : ∀ t : Tm, lsT 0 t = [] → wk (fLift by_ 0) 0 t = t
  | .mk o s z l, h => by
    rw [lsT] at h
    obtain ⟨h1, h2⟩ := List.append_eq_nil_iff.1 h
    have c2 : ¬ (o = 2 ∧ (0 : Int) ≤ z) := fun e => by rw [if_pos e] at h1; cases h1
    have e1 : wk (fLift by_ 0) 0 (.mk o s z l) = .mk o s z (wks (fLift by_ 0) 0 l) := by
      simp only [wk, fLift]; rw [if_neg c2]
    rw [e1, closed_lifts by_ l h2]
theorem closed_lifts (by_ : Int) : ∀ l : List Tm, lsTs 0 l = [] → wks (fLift by_ 0) 0 l = l
  | [], _ => by rw [wks]
  | t :: l, h => by
    rw [lsTs] at h
    obtain ⟨h1, h2⟩ := List.append_eq_nil_iff.1 h
    rw [wks, closed_lift by_ t h1, closed_lifts by_ l h2]
end
mutual
theorem closed_up (k : Int) (hk : 0 ≤ k) : ∀ t : Tm, lsT 0 t = [] → lsT k t = []
  | .mk o s z l, h => by
    rw [lsT] at h ⊢
    obtain ⟨h1, h2⟩ := List.append_eq_nil_iff.1 h
    have c2 : ¬ (o = 2 ∧ k ≤ z) := fun e => by rw [if_pos ⟨e.1, by omega⟩] at h1; cases h1
    rw [if_neg c2, closed_ups k hk l h2]; rfl
theorem closed_ups (k : Int) (hk : 0 ≤ k) : ∀ l : List Tm, lsTs 0 l = [] → lsTs k l = []
  | [], _ => by rw [lsTs]
  | t :: l, h => by
    rw [lsTs] at h ⊢
    obtain ⟨h1, h2⟩ := List.append_eq_nil_iff.1 h
    rw [closed_up k hk t h1, closed_ups k hk l h2]; rfl
end
def less (L : List Int) : List Int := (L.filter (fun n => decide (0 < n))).map (fun n => n - 1)
theorem less_app (L M : List Int) : less (L ++ M) = less L ++ less M := by unfold less; simp
mutual
theorem less_open (t0 : Tm) (h0 : lsT 0 t0 = []) (k : Int) (hk : 0 ≤ k) : ∀ t : Tm, plainT t → lsT k (wk (fOpen t0) k t) = less (lsT k t)
  | .mk o s z l, h => by
    rw [plainT] at h
    obtain ⟨h2, h1, hl⟩ := h
    by_cases c2 : o = 2 ∧ k ≤ z
    · obtain ⟨rfl, hz⟩ := c2
      obtain ⟨a1, a2, rfl, rfl⟩ := h2 rfl
      have w2 : wrap64 (z - k) = z - k := wrap_small (by omega) (by omega)
      have eL : lsT k (.mk 2 ⟨#[]⟩ z []) = [z - k] := by rw [lsT, lsTs, if_pos ⟨rfl, hz⟩, w2]; rfl
      rw [eL]
      by_cases hzk : z - k = 0
      · have e1 : wk (fOpen t0) k (.mk 2 ⟨#[]⟩ z []) = wk (fLift k 0) 0 t0 := by simp [wk, fOpen, hz, hzk, wrap64_zero]
        rw [e1, closed_lift k t0 h0, closed_up k hk t0 h0, hzk]
        simp [less]
      · have w3 : wrap64 (z - 1) = z - 1 := wrap_small (by omega) (by omega)
        have e1 : wk (fOpen t0) k (.mk 2 ⟨#[]⟩ z []) = .mk 2 ⟨#[]⟩ (z - 1) [] := by
          simp only [wk, fOpen, w2, w3]
          rw [if_pos ⟨trivial, hz⟩, if_neg hzk]
          simp [wks]
        have w4 : wrap64 (z - 1 - k) = z - 1 - k := wrap_small (by omega) (by omega)
        rw [e1, lsT, lsTs, if_pos ⟨rfl, by omega⟩, w4]
        have hp : 0 < z - k := by omega
        have hq : (0 : Int) < z - k := hp
        simp only [less, List.filter_cons, hq, decide_true, if_true, List.filter_nil, List.map_cons, List.map_nil, List.append_nil]
        congr 1
        omega
    · have e1 : wk (fOpen t0) k (.mk o s z l) = .mk o s z (wks (fOpen t0) k l) := by
        simp only [wk, fOpen]; rw [if_neg c2]
      rw [e1, lsT, lsT, if_neg c2, List.nil_append, List.nil_append, lesses_open t0 h0 k hk l hl]
theorem lesses_open (t0 : Tm) (h0 : lsT 0 t0 = []) (k : Int) (hk : 0 ≤ k) : ∀ l : List Tm, plainTs l → lsTs k (wks (fOpen t0) k l) = less (lsTs k l)
  | [], _ => by rw [wks, lsTs]; rfl
  | t :: l, h => by
    rw [plainTs] at h
    rw [wks, lsTs, lsTs, less_app, less_open t0 h0 k hk t h.1, lesses_open t0 h0 k hk l h.2]
end
mutual
theorem less_openC (t0 : Tm) (h0 : lsT 0 t0 = []) : ∀ (c : Cl) (k : Int), 0 ≤ k → plainC c → lsC k (wkC (fOpen t0) k c) = less (lsC k c)
  | .mk o s z ts l, k, hk, h => by
    rw [plainC] at h
    rw [wkC, lsC, lsC, less_app, lesses_open t0 h0 k hk ts h.1, lesses_openC t0 h0 l (kin o k) (kin_pos hk) h.2]
theorem lesses_openC (t0 : Tm) (h0 : lsT 0 t0 = []) : ∀ (l : List Cl) (k : Int), 0 ≤ k → plainCs l → lsCs k (wkCs (fOpen t0) k l) = less (lsCs k l)
  | [], k, _, _ => by rw [wkCs, lsCs]; rfl
  | t :: l, k, hk, h => by
    rw [plainCs] at h
    rw [wkCs, lsCs, lsCs, less_app, less_openC t0 h0 t k hk h.1, lesses_openC t0 h0 l k hk h.2]
end
theorem up_less {X : List Int} (h : Up X) : Up (less X) := by
  unfold less
  show List.Pairwise (· < ·) _
  rw [List.pairwise_map]
  exact (List.Pairwise.filter _ h).imp (fun h => by omega)
theorem mem_less {X : List Int} {y : Int} : y ∈ less X ↔ y + 1 ∈ X ∧ 0 < y + 1 := by
  unfold less
  rw [List.mem_map]
  constructor
  · rintro ⟨n, hn, rfl⟩
    rw [List.mem_filter] at hn
    have := of_decide_eq_true hn.2
    rw [show n - 1 + 1 = n by omega]
    exact ⟨hn.1, this⟩
  · rintro ⟨h1, h2⟩
    exact ⟨y + 1, List.mem_filter.2 ⟨h1, decide_eq_true h2⟩, by omega⟩
/-- the numbers of what was opened, each once and rising -/
theorem less_puts (L : List Int) : puts [] (less L) = less (puts [] L) := by
  refine up_eq (puts_up _ (by simp)) (up_less (puts_up _ (by simp))) fun y => ?_
  rw [mem_puts, mem_less, mem_less, mem_puts]
  simp
end Go.Proofs.YtcigeclnbhcohaaGreatDoor.B
namespace Go.Proofs.YtcigeclnbhcohaaGreatDoor.C
open L T
set_option linter.unusedVariables false
set_option linter.unusedSimpArgs false

theorem depth_argsR (t : Tm) : depth t = 1 + depths (argsT t) := by cases t; rw [depth]; rfl
theorem depths_appR (l m : List Tm) : depths (l ++ m) = max (depths l) (depths m) := by
  induction l with
  | nil => rw [List.nil_append, depths]; omega
  | cons t l ih => rw [List.cons_append, depths, depths, ih]; omega
theorem depths_takeR {x : Tm} {l : List Tm} {k : Nat} (h : l[k]? = some x) : depths (l.take (k + 1)) = max (depths (l.take k)) (depth x) := by
  rw [take_t h, depths_appR, depths, depths]; omega
mutual
def dpC : Cl → Nat
  | .mk _ _ _ _ l => 1 + dpCs l
def dpCs : List Cl → Nat
  | [] => 0
  | c :: l => max (dpC c) (dpCs l)
end
theorem dpC_mk (c : Cl) : dpC c = 1 + dpCs (subC c) := by cases c; rw [dpC]; rfl
theorem dpCs_app (l m : List Cl) : dpCs (l ++ m) = max (dpCs l) (dpCs m) := by
  induction l with
  | nil => rw [List.nil_append, dpCs]; omega
  | cons t l ih => rw [List.cons_append, dpCs, dpCs, ih]; omega
theorem dpCs_take {x : Cl} {l : List Cl} {k : Nat} (h : l[k]? = some x) : dpCs (l.take (k + 1)) = max (dpCs (l.take k)) (dpC x) := by
  rw [take_c h, dpCs_app, dpCs, dpCs]; omega
mutual
theorem dpC_wt : ∀ c : Cl, dpC c ≤ wt c
  | .mk o s z ts l => by rw [dpC, wt]; have := dpCs_wts l; omega
theorem dpCs_wts : ∀ l : List Cl, dpCs l ≤ wts l
  | [] => Nat.le_refl _
  | t :: l => by rw [dpCs, wts]; have := dpC_wt t; have := dpCs_wts l; omega
end
def rightsE : List Tm → Int
  | [] => 0
  | t :: l => if rightE t ≠ 0 then rightE t else rightsE l
def formC (o : Int) (s z : ByteArray) : Bool := (decide (o < 1) || decide (12 < o)) || (((o != 11 && (o != 12 && o != 3)) && !s.toList.isEmpty) || ((o != 11 && o != 12) && !z.toList.isEmpty))
def wantT (o : Int) : Nat := if o = 4 ∨ o = 5 then 2 else 0
def wantS (o : Int) : Nat := if o = 6 ∨ o = 11 ∨ o = 12 then 1 else if 7 ≤ o ∧ o ≤ 10 then 2 else 0
def arityC (o : Int) (nt ns : Nat) : Bool := if o = 3 then decide (8 < nt) || ns != 0 else nt != wantT o || ns != wantS o
mutual
def cpartE : Cl → Int
  | .mk o s z ts l => if formC o s z = true then 7 else if arityC o ts.length l.length = true then 12 else if rightsE ts ≠ 0 then rightsE ts else cpartsE l
def cpartsE : List Cl → Int
  | [] => 0
  | c :: l => if cpartE c ≠ 0 then cpartE c else cpartsE l
end
theorem cpartE_mk (c : Cl) : cpartE c = if formC (opC c) (nmC c) (soC c) = true then 7 else if arityC (opC c) (tsC c).length (subC c).length = true then 12 else if rightsE (tsC c) ≠ 0 then rightsE (tsC c) else cpartsE (subC c) := by cases c; rw [cpartE]; rfl
theorem partE_mk (t : Tm) : partE t = if formB (opT t) (nameT t) (numT t) = true then 7 else if arityB (opT t) (argsT t).length = true then 12 else partsE (argsT t) := by cases t; rw [partE]; rfl
def crightE (c : Cl) : Int := if 64 < dpC c then 6 else if 4096 < wt c then 2 else cpartE c

/-! numbers of TBounds below 2^62 -/
mutual
def smallT : Tm → Bool
  | .mk o _ z l => smallTs l && (o != 2 || decide (z < 4611686018427387904))
def smallTs : List Tm → Bool
  | [] => true
  | t :: l => smallT t && smallTs l
end
mutual
def smallC : Cl → Bool
  | .mk _ _ _ ts l => smallTs ts && smallCs l
def smallCs : List Cl → Bool
  | [] => true
  | c :: l => smallC c && smallCs l
end
theorem smallT_mk (t : Tm) : smallT t = (smallTs (argsT t) && (opT t != 2 || decide (numT t < 4611686018427387904))) := by cases t; rw [smallT]; rfl
theorem smallC_mk (c : Cl) : smallC c = (smallTs (tsC c) && smallCs (subC c)) := by cases c; rw [smallC]; rfl
open B in
mutual
theorem plain_of : ∀ t : Tm, partE t = 0 → smallT t = true → plainT t
  | .mk o s z l, h, hs => by
    rw [partE] at h
    rw [smallT, Bool.and_eq_true] at hs
    by_cases h1 : formB o s z = true
    · rw [if_pos h1] at h; omega
    · rw [if_neg h1] at h
      by_cases h2 : arityB o l.length = true
      · rw [if_pos h2] at h; omega
      · rw [if_neg h2] at h
        rw [plainT]
        have e0 : (argsI o = 0) → l = [] := fun e => by
          simp only [arityB, e, Bool.or_eq_true, Bool.and_eq_true, decide_eq_true_eq, not_or, not_and, bne_iff_ne, ne_eq, Decidable.not_not] at h2
          have := h2.1 (Int.le_refl _)
          exact List.eq_nil_of_length_eq_zero (by omega)
        refine ⟨fun e => ?_, fun e => ?_, plains_of l h hs.1⟩
        · subst e
          simp [formB] at h1
          have hz := hs.2
          simp at hz
          refine ⟨by omega, hz, ?_, e0 (by simp [argsI])⟩
          have := h1.2
          exact eqS_iff.1 (by rw [this]; show (([] : List UInt8) == (BA []).toList) = true; rw [BA_toList]; rfl)
        · subst e
          simp [formB] at h1
          exact ⟨by omega, e0 (by simp [argsI])⟩
theorem plains_of : ∀ l : List Tm, partsE l = 0 → smallTs l = true → plainTs l
  | [], _, _ => by rw [plainTs]; trivial
  | t :: l, h, hs => by
    rw [partsE] at h
    rw [smallTs, Bool.and_eq_true] at hs
    rw [plainTs]
    by_cases h1 : partE t ≠ 0
    · rw [if_pos h1] at h; exact absurd h h1
    · rw [if_neg h1] at h
      exact ⟨plain_of t (by omega) hs.1, plains_of l h hs.2⟩
end
theorem right_part {t : Tm} (h : rightE t = 0) : partE t = 0 := by
  unfold rightE at h
  by_cases h1 : 64 < depth t
  · rw [if_pos h1] at h; omega
  · rw [if_neg h1] at h
    by_cases h2 : 4096 < size t
    · rw [if_pos h2] at h; omega
    · rw [if_neg h2] at h; exact h
open B in
theorem plains_right : ∀ l : List Tm, rightsE l = 0 → smallTs l = true → plainTs l
  | [], _, _ => by rw [plainTs]; trivial
  | t :: l, h, hs => by
    rw [rightsE] at h
    rw [smallTs, Bool.and_eq_true] at hs
    rw [plainTs]
    by_cases h1 : rightE t ≠ 0
    · rw [if_pos h1] at h; exact absurd h h1
    · rw [if_neg h1] at h
      exact ⟨plain_of t (right_part (by omega)) hs.1, plains_right l h hs.2⟩
open B in
mutual
theorem plainC_of : ∀ c : Cl, cpartE c = 0 → smallC c = true → plainC c
  | .mk o s z ts l, h, hs => by
    rw [cpartE] at h
    rw [smallC, Bool.and_eq_true] at hs
    rw [plainC]
    by_cases h1 : formC o s z = true
    · rw [if_pos h1] at h; omega
    · rw [if_neg h1] at h
      by_cases h2 : arityC o ts.length l.length = true
      · rw [if_pos h2] at h; omega
      · rw [if_neg h2] at h
        by_cases h3 : rightsE ts ≠ 0
        · rw [if_pos h3] at h; exact absurd h h3
        · rw [if_neg h3] at h
          exact ⟨plains_right ts (by omega) hs.1, plainCs_of l h hs.2⟩
theorem plainCs_of : ∀ l : List Cl, cpartsE l = 0 → smallCs l = true → plainCs l
  | [], _, _ => by rw [plainCs]; trivial
  | c :: l, h, hs => by
    rw [cpartsE] at h
    rw [smallCs, Bool.and_eq_true] at hs
    rw [plainCs]
    by_cases h1 : cpartE c ≠ 0
    · rw [if_pos h1] at h; exact absurd h h1
    · rw [if_neg h1] at h
      exact ⟨plainC_of c (by omega) hs.1, plainCs_of l h hs.2⟩
end
open B in
theorem plain_right {c : Cl} (h : crightE c = 0) (hs : smallC c = true) : plainC c := by
  unfold crightE at h
  by_cases h1 : 64 < dpC c
  · rw [if_pos h1] at h; omega
  · rw [if_neg h1] at h
    by_cases h2 : 4096 < wt c
    · rw [if_pos h2] at h; omega
    · rw [if_neg h2] at h; exact plainC_of c h hs

/-! the names of variables -/
mutual
def nmsT : Tm → List ByteArray
  | .mk o s _ l => (if o = 1 then [s] else []) ++ nmsTs l
def nmsTs : List Tm → List ByteArray
  | [] => []
  | t :: l => nmsT t ++ nmsTs l
end
mutual
def nmsC : Cl → List ByteArray
  | .mk _ _ _ ts l => nmsTs ts ++ nmsCs l
def nmsCs : List Cl → List ByteArray
  | [] => []
  | c :: l => nmsC c ++ nmsCs l
end
theorem nmsT_mk (t : Tm) : nmsT t = (if opT t = 1 then [nameT t] else []) ++ nmsTs (argsT t) := by cases t; rw [nmsT]; rfl
theorem nmsC_mk (c : Cl) : nmsC c = nmsTs (tsC c) ++ nmsCs (subC c) := by cases c; rw [nmsC]; rfl
theorem nmsTs_app (l m : List Tm) : nmsTs (l ++ m) = nmsTs l ++ nmsTs m := by
  induction l with
  | nil => rfl
  | cons t l ih => rw [List.cons_append, nmsTs, nmsTs, ih, List.append_assoc]
theorem nmsCs_app (l m : List Cl) : nmsCs (l ++ m) = nmsCs l ++ nmsCs m := by
  induction l with
  | nil => rfl
  | cons t l ih => rw [List.cons_append, nmsCs, nmsCs, ih, List.append_assoc]
theorem nmsTs_step {x : Tm} {l : List Tm} {k : Nat} (h : l[k]? = some x) : nmsTs (l.take (k + 1)) = nmsTs (l.take k) ++ nmsT x := by
  rw [take_t h, nmsTs_app, nmsTs, nmsTs, List.append_nil]
theorem nmsCs_step {x : Cl} {l : List Cl} {k : Nat} (h : l[k]? = some x) : nmsCs (l.take (k + 1)) = nmsCs (l.take k) ++ nmsC x := by
  rw [take_c h, nmsCs_app, nmsCs, nmsCs, List.append_nil]
mutual
theorem nmsT_len : ∀ t : Tm, (nmsT t).length ≤ size t
  | .mk o s z l => by rw [nmsT, size, List.length_append]; have := nmsTs_len l; split <;> simp <;> omega
theorem nmsTs_len : ∀ l : List Tm, (nmsTs l).length ≤ sizes l
  | [] => Nat.le_refl _
  | t :: l => by rw [nmsTs, sizes, List.length_append]; have := nmsT_len t; have := nmsTs_len l; omega
end
mutual
theorem nmsC_len : ∀ t : Cl, (nmsC t).length ≤ wt t
  | .mk o s z ts l => by rw [nmsC, wt, List.length_append]; have := nmsTs_len ts; have := nmsCs_len l; omega
theorem nmsCs_len : ∀ l : List Cl, (nmsCs l).length ≤ wts l
  | [] => Nat.le_refl _
  | t :: l => by rw [nmsCs, wts, List.length_append]; have := nmsC_len t; have := nmsCs_len l; omega
end
def putsN : List ByteArray → List ByteArray → List ByteArray
  | X, [] => X
  | X, y :: l => putsN (putN y X) l
theorem putsN_app : ∀ (l m X : List ByteArray), putsN X (l ++ m) = putsN (putsN X l) m
  | [], m, X => rfl
  | y :: l, m, X => by rw [List.cons_append, putsN, putsN, putsN_app l m]
theorem mem_putsN (x : ByteArray) : ∀ (l X : List ByteArray), x ∈ putsN X l ↔ x ∈ X ∨ x ∈ l
  | [], X => by rw [putsN]; simp
  | y :: l, X => by
    rw [putsN, mem_putsN x l, mem_put, List.mem_cons]
    constructor
    · rintro ((h | h) | h)
      · exact .inr (.inl h)
      · exact .inl h
      · exact .inr (.inr h)
    · rintro (h | h | h)
      · exact .inl (.inr h)
      · exact .inl (.inl h)
      · exact .inr h
theorem up_putsN : ∀ (l X : List ByteArray), Up X → Up (putsN X l)
  | [], X, h => h
  | y :: l, X, h => by rw [putsN]; exact up_putsN l _ (up_put y X h)
theorem putN_len (s : ByteArray) : ∀ X : List ByteArray, (putN s X).length ≤ X.length + 1
  | [] => by simp [putN]
  | x :: X => by
    rw [putN]; split
    · simp
    · split
      · simp
      · have := putN_len s X; simp; omega
theorem putsN_len : ∀ (l X : List ByteArray), (putsN X l).length ≤ X.length + l.length
  | [], X => by rw [putsN]; simp
  | y :: l, X => by rw [putsN]; have h1 := putsN_len l (putN y X); have h2 := putN_len y X; simp; omega
open B in
mutual
theorem fresh_of (name : ByteArray) : ∀ t : Tm, name ∉ nmsT t → freshT name t
  | .mk o s z l, h => by
    rw [nmsT, List.mem_append, not_or] at h
    rw [freshT]
    refine ⟨fun e => h.1 ?_, freshs_of name l h.2⟩
    rw [if_pos e.1, List.mem_singleton]
    exact (eqS_iff.1 (beq_iff_eq.2 e.2)).symm
theorem freshs_of (name : ByteArray) : ∀ l : List Tm, name ∉ nmsTs l → freshTs name l
  | [], _ => by rw [freshTs]; trivial
  | t :: l, h => by
    rw [nmsTs, List.mem_append, not_or] at h
    rw [freshTs]
    exact ⟨fresh_of name t h.1, freshs_of name l h.2⟩
end
open B in
mutual
theorem freshC_of (name : ByteArray) : ∀ t : Cl, name ∉ nmsC t → freshC name t
  | .mk o s z ts l, h => by
    rw [nmsC, List.mem_append, not_or] at h
    rw [freshC]
    exact ⟨freshs_of name ts h.1, freshCs_of name l h.2⟩
theorem freshCs_of (name : ByteArray) : ∀ l : List Cl, name ∉ nmsCs l → freshCs name l
  | [], _ => by rw [freshCs]; trivial
  | t :: l, h => by
    rw [nmsCs, List.mem_append, not_or] at h
    rw [freshCs]
    exact ⟨freshC_of name t h.1, freshCs_of name l h.2⟩
end
end Go.Proofs.YtcigeclnbhcohaaGreatDoor.C
