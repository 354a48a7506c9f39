/-
  What is proved: basics: endings, worlds that grow, texts as bytes, slices read as lists of texts, rows of the call's own. No function of the program is named.
  What is proved: terms in plain words: size, depth, parts, equality, order, replacement; that the order is a total one; what follows of replacement. No program is spoken of.
  What is proved: terms in plain words: the depth counted up to a bound, the errors, the parts without repetition, the names in order. No program is spoken of.
  What is proved: blocks of the call's own, known whole; what a store into one leaves of what is read elsewhere.
  What is proved: terms in memory: how a slice of terms reads as a list of trees, what keeps it; a term put into a block.
  What is proved: what makes a name, in plain words over lists of bytes; what the calls that tell letters, digits and names return.
  What is proved: whether a text is in a list, as the document has it.
  What is proved: what the calls that go over a slice of texts return: membership, equality, the first place.
  What is proved: which texts are words: what the calls of package token that tell so return.
  What is proved: what other texts share with LibTe (taken out of it, for seats that lack the functions of its rest).
  What is proved: an argument that is a slice of texts reads as a list of texts.
-/
import Derived.Test.YtacncbkcnhlpcaaProg
import Derived.WalkKit
import Derived.WalkSpells
import Derived.WalkLawsBesides
import Derived.Laws.ResultCell
import Derived.Deep.QuietTactic
import Derived.BigQuiet
import Derived.LoopTactic
import Derived.Outline
import Derived.Lib.Hide
import Derived.WalkMore
import Derived.Deep.LoopGhost
import Derived.Below
import Derived.Laws.StructEq
import Derived.Maps.AppendAt
import Derived.Laws.AppendOwnNone
import Derived.OwnWalk
import Derived.Lib.AppendZeros
import Derived.Deep.AppendLies
import Derived.Maps.Own
import Derived.Maps.Views
import Derived.Carry
import Derived.Deep.RegionHeld3
import Derived.SliceStrings
import Derived.Deep.Slices
import Derived.ChangeArms
import Derived.OpenShut
namespace Go.Proofs.Ytacncbkcnhlpcaa.L
open Go.RowKit
set_option linter.unusedVariables false
set_option linter.unusedSimpArgs false

theorem one {k : IntKind} {a b : Int} (h : a = b) : Ending.returned (.int k a) = .returned (.int k b) := by rw [h]
theorem oneB {a b : Bool} (h : a = b) : Ending.returned (.bool a) = .returned (.bool b) := by rw [h]
theorem bel_trans {a b c : World} (h : Below a.heap.size a b) (k : Below b.heap.size b c) : Below a.heap.size a c := h.trans (k.mono h.size)
theorem bel_alloc {a b : World} (h : Below a.heap.size a b) (o : Obj) : Below a.heap.size a (b.alloc o) := h.alloc h.size o
theorem bcell {W w1 : World} (hb : Below W.heap.size W w1) : (∀ b o, b < W.heap.size → w1.cell? ⟨b, o, none⟩ = W.cell? ⟨b, o, none⟩) ∧ (∀ b o, b < W.heap.size → w1.frozen? ⟨b, o, none⟩ = W.frozen? ⟨b, o, none⟩) :=
  ⟨fun b o h => hb.cell (p := ⟨b, o, none⟩) h, fun b o h => hb.frozen (p := ⟨b, o, none⟩) h⟩
theorem at_list (s : ByteArray) (k : Nat) (h : k < s.size) : s.data.toList[k]'(by simpa using h) = s[k] := rfl
theorem len_list (s : ByteArray) : s.data.toList.length = s.size := Array.length_toList
theorem beq_no' {a b : Int} (h : a ≠ b) : (a == b) = false := by simp [h]
theorem beq_yes' {a b : Int} (h : a = b) : (a == b) = true := by simp [h]
def BA (l : List UInt8) : ByteArray := ⟨l.toArray⟩
theorem BA_list (l : List UInt8) : (BA l).data.toList = l := rfl
theorem BA_size (l : List UInt8) : (BA l).size = l.length := by simp [BA, ByteArray.size]
theorem BA_toList (l : List UInt8) : (BA l).toList = l := by rw [ByteArray.toList_eq]; rfl
theorem BA_of (s : ByteArray) : BA s.data.toList = s := rfl
theorem drop_at (s : ByteArray) (k : Nat) (h : k < s.size) : s.data.toList.drop k = s[k] :: s.data.toList.drop (k + 1) := by
  rw [List.drop_eq_getElem_cons (by simpa using h)]; rfl
theorem drop_end (s : ByteArray) (k : Nat) (h : s.size ≤ k) : s.data.toList.drop k = [] := List.drop_eq_nil_of_le (by rw [len_list]; exact h)

/-- from an offset on, a block holds these texts -/
def RowS (w : World) (b o : Nat) (X : List ByteArray) : Prop := ∀ k (h : k < X.length), w.cell? ⟨b, o + k, none⟩ = some (.string X[k])
/-- a slice's address and length read as a list of texts -/
def IsS (w : World) (a : Option Addr) (n : Nat) (X : List ByteArray) : Prop := n = X.length ∧ (0 < n → ∃ b o, a = some ⟨b, o, none⟩ ∧ b < w.heap.size ∧ RowS w b o X)
theorem RowS.below {w w' : World} {b o B : Nat} {X : List ByteArray} (h : RowS w b o X) (hb : Below B w w') (hlt : b < B) : RowS w' b o X := fun k hk => by
  rw [hb.cell (p := ⟨b, _, none⟩) hlt]; exact h k hk
theorem IsS.below {w w' : World} {a : Option Addr} {n : Nat} {X : List ByteArray} (h : IsS w a n X) (hb : Below w.heap.size w w') : IsS w' a n X :=
  ⟨h.1, fun hn => by
    obtain ⟨b, o, ha, hlt, hr⟩ := h.2 hn
    exact ⟨b, o, ha, Nat.lt_of_lt_of_le hlt hb.size, hr.below hb hlt⟩⟩
theorem IsS.drew {w : World} {a : Option Addr} {n : Nat} {X : List ByteArray} (h : IsS w a n X) (d : Nat) : IsS (w.drewN d) a n X := h.below (below_drewN (Below.refl _ _) d)
theorem IsS.nil (w : World) (a : Option Addr) : IsS w a 0 [] := ⟨rfl, fun h => absurd h (by omega)⟩
theorem IsS.at {w : World} {a : Option Addr} {n k : Nat} {X : List ByteArray} (h : IsS w a n X) (hk : k < n) :
    ∃ b o x, a = some ⟨b, o, none⟩ ∧ b < w.heap.size ∧ w.cell? ⟨b, o + k, none⟩ = some (.string x) ∧ X[k]? = some x ∧ RowS w b o X := by
  obtain ⟨b, o, ha, hlt, hr⟩ := h.2 (by omega)
  exact ⟨b, o, X[k]'(h.1 ▸ hk), ha, hlt, hr k (h.1 ▸ hk), List.getElem?_eq_getElem _, hr⟩

theorem eqS_iff {x y : ByteArray} : (x.toList == y.toList) = true ↔ x = y := by
  rw [beq_iff_eq, ByteArray.toList_eq, ByteArray.toList_eq]
  constructor
  · intro h
    have : x.data = y.data := by rw [← Array.toArray_toList (xs := x.data), h]
    cases x; cases y; simp at this; rw [this]
  · rintro rfl; rfl
theorem eqS_refl (x : ByteArray) : (x.toList == x.toList) = true := eqS_iff.2 rfl
/-- is a text in a list? -/
def hasS (X : List ByteArray) (s : ByteArray) : Bool := X.any (fun x => x.toList == s.toList)
theorem hasS_iff {X : List ByteArray} {s : ByteArray} : hasS X s = true ↔ s ∈ X := by
  unfold hasS
  rw [List.any_eq_true]
  constructor
  · rintro ⟨x, hx, h⟩; rw [eqS_iff] at h; exact h ▸ hx
  · intro h; exact ⟨s, h, eqS_refl s⟩
/-- the first place of a text in a list, its length if there is none -/
def idxN (X : List ByteArray) (s : ByteArray) : Nat := X.findIdx (fun x => x.toList == s.toList)
def idxI (X : List ByteArray) (s : ByteArray) : Int := if idxN X s < X.length then (idxN X s : Int) else -1
theorem idxN_le (X : List ByteArray) (s : ByteArray) : idxN X s ≤ X.length := List.findIdx_le_length
def eqL : List ByteArray → List ByteArray → Bool
  | [], [] => true
  | x :: l, y :: m => (x.toList == y.toList) && eqL l m
  | _, _ => false
theorem eqL_iff : ∀ {X Y : List ByteArray}, eqL X Y = true ↔ X = Y
  | [], [] => by simp [eqL]
  | x :: l, [] => by simp [eqL]
  | [], y :: m => by simp [eqL]
  | x :: l, y :: m => by rw [eqL, Bool.and_eq_true, eqS_iff, eqL_iff]; simp
theorem eqL_refl (X : List ByteArray) : eqL X X = true := eqL_iff.2 rfl
theorem eqL_len {X Y : List ByteArray} (h : X.length ≠ Y.length) : eqL X Y = false := by
  cases hc : eqL X Y with
  | false => rfl
  | true => exact absurd (congrArg List.length (eqL_iff.1 hc)) h

/-- a slice value read as a list of texts: with what an append asks of it -/
def SlS (w : World) (a : Option Addr) (n c : Nat) (X : List ByteArray) : Prop := IsS w a n X ∧ n ≤ c ∧ (a = none → c = 0)
theorem SlS.below {w w' : World} {a : Option Addr} {n c : Nat} {X : List ByteArray} (h : SlS w a n c X) (hb : Below w.heap.size w w') : SlS w' a n c X := ⟨h.1.below hb, h.2⟩
def vsS (X : List ByteArray) : List Value := X.map .string
theorem vsS_len (X : List ByteArray) : (vsS X).length = X.length := by simp [vsS]
theorem vsS_app (X Y : List ByteArray) : vsS (X ++ Y) = vsS X ++ vsS Y := by simp [vsS]
theorem strI : (Try.prog.info? 9).map (fun i => (i.zero, i.size, i.bytes)) = some (some (.string ⟨#[]⟩), 1, 16) := by kernel_rfl
/-- a row of the call's own, read as a list of texts -/
def OwnS (w : World) (base : Nat) (v : Value) (X : List ByteArray) : Prop := w.ownsRow base 9 1 v X.length (vsS X)
theorem OwnS.nil (w : World) (base : Nat) : OwnS w base (.slice none 0 0) [] := World.ownsRow_nil _ _ _ _
theorem OwnS.base {w : World} {b b' : Nat} {v : Value} {X : List ByteArray} (h : OwnS w b v X) (hb : b' ≤ b) : OwnS w b' v X := by
  refine ⟨h.1, ?_⟩
  rcases h.2 with hn | ⟨g, cap, cur, rfl, h1, rest⟩
  · exact .inl hn
  · exact .inr ⟨g, cap, cur, rfl, by omega, rest⟩
theorem OwnS.made (w : World) (X : List ByteArray) (base : Nat) (hb : base ≤ w.heap.size) (hl : X.length ≤ maxLen) : OwnS (w.alloc (.cells (vsS X).toArray 9)) base (.slice (some ⟨w.heap.size, 0, none⟩) X.length X.length) X :=
  ⟨by simp [vsS], .inr ⟨w.heap.size, X.length, _, rfl, hb, heap_alloc_new w _, Nat.le_refl _, hl, by simp [vsS], by simp [vsS, List.take_of_length_le]⟩⟩
theorem OwnS.slS {w : World} {base : Nat} {v : Value} {X : List ByteArray} (h : OwnS w base v X) : ∃ A c, v = .slice A X.length c ∧ SlS w A X.length c X := by
  rcases h.2 with ⟨rfl, hn⟩ | ⟨g, cap, cur, rfl, hb, hg, hnc, hcm, hcs, ht⟩
  · exact ⟨none, 0, by rw [hn], ⟨rfl, fun h => absurd h (by omega)⟩, by omega, fun _ => rfl⟩
  · refine ⟨_, _, rfl, ⟨rfl, fun _ => ⟨g, 0, rfl, (Array.getElem?_eq_some_iff.1 hg).1, fun k hk => ?_⟩⟩, hnc, fun h => by cases h⟩
    rw [Nat.zero_add, cell_of_row w g k _ _ _ hg]
    have h2 : (cur.toList.take (X.length * 1))[k]? = (vsS X)[k]? := by rw [ht]
    rw [List.getElem?_take_of_lt (by omega)] at h2
    rw [← Array.getElem?_toList, h2]
    simp [vsS, hk]
theorem OwnS.below {w w' : World} {base : Nat} {v : Value} {X : List ByteArray} (h : OwnS w base v X) (hb : Below w.heap.size w w') : OwnS w' base v X := by
  refine ⟨h.1, ?_⟩
  rcases h.2 with hn | ⟨g, cap, cur, rfl, h1, hg, rest⟩
  · exact .inl hn
  · exact .inr ⟨g, cap, cur, rfl, h1, by rw [hb.block g (Array.getElem?_eq_some_iff.1 hg).1]; exact hg, rest⟩
theorem news_at {w : World} {ad : Addr} {n : Nat} {X : List ByteArray} (h : IsS w (some ad) n X) : ∀ j u, (vsS X)[j]? = some u → w.cell? (ad.add j) = some u := fun j u hj => by
  obtain ⟨hj2, hu⟩ := List.getElem?_eq_some_iff.1 hj
  rw [vsS_len] at hj2
  obtain ⟨b, o, ha, _, hr⟩ := h.2 (by rw [h.1]; omega)
  injection ha with ha
  subst ha
  rw [Addr.add_lit, hr j hj2, ← hu]
  simp [vsS]
theorem vsS_one (X : List ByteArray) : ∀ u ∈ vsS X, u.oneCell' = true := fun u hu => by
  obtain ⟨x, _, rfl⟩ := List.mem_map.1 hu
  rfl

/-- append(s, x...) for the walk: s a row of the call's own, x any list of texts -/
theorem app_strs {w : World} {ops : Array Oper} {rest : List Oper} {o : Oper} {a : Act} {Q : Exit → Act → World → Prop} (hgd : o.guard = none) (s x : Operand)
    (ho : o.op = .call { callee := .builtin .append, args := #[s, x], argTypes := #[22, 22] })
    (base : Nat) (v : Value) (Y : List ByteArray) (hs : a.eval s = v) (hown : OwnS w base v Y) (A : Option Addr) (m c : Nat) (X : List ByteArray) (hx : a.eval x = .slice A m c) (hX : SlS w A m c X)
    (hn : Y.length + m ≤ 1000000000) (hbase : base ≤ w.heap.size)
    (h : ∀ v' w', OwnS w' base v' (Y ++ X) → w.grownBy w' v.ownBlock → wpList Try.prog ops Q rest (a.put o.dst v') w') : wpList Try.prog ops Q (o :: rest) a w := by
  obtain ⟨i0, hi, hz0, hz1, hz2⟩ := info_parts strI
  have hm : m = X.length := hX.1.1
  have hl : Y.length + m ≤ maxLen := by unfold maxLen; omega
  cases A with
  | none =>
    have hc : c = 0 := hX.2.2 rfl
    have hm0 : m = 0 := by have := hX.2.1; omega
    have hX0 : X = [] := List.eq_nil_of_length_eq_zero (by omega)
    subst hX0 hc hm0
    refine wpList_append_own_none hgd s x 22 ho base 9 i0 1 Try.underlying22 hi v Y.length (vsS Y) hs hown hx (h v w ?_ ⟨rfl, rfl, rfl, Nat.le_refl _, fun _ _ _ => rfl⟩)
    rw [List.append_nil]; exact hown
  | some ad =>
    refine wpList_append_own w hgd s x 22 ho base 9 i0 _ 1 16 Try.underlying22 hi hz0 hz1 hz2 rfl (by decide) v Y.length (vsS Y) hs hown ad m c (vsS X) hx (by rw [vsS_len, hm]; omega) (news_at hX.1) (vsS_one X) hl (by omega) hbase fun v' w' h1 h2 _ => h v' w' ?_ h2
    unfold OwnS
    rw [List.length_append, vsS_app, ← hm]
    exact h1

/-- a block that holds two slices -/
def Two (w : World) (h : Nat) (u v : Value) : Prop := w.cell? ⟨h, 0, none⟩ = some u ∧ w.cell? ⟨h, 1, none⟩ = some v
theorem Two.below {w w' : World} {h B : Nat} {u v : Value} (t : Two w h u v) (hb : Below B w w') (hlt : h < B) : Two w' h u v :=
  ⟨(hb.cell (p := ⟨h, 0, none⟩) hlt).trans t.1, (hb.cell (p := ⟨h, 1, none⟩) hlt).trans t.2⟩
end Go.Proofs.Ytacncbkcnhlpcaa.L
namespace Go.Proofs.Ytacncbkcnhlpcaa.T
open L
set_option linter.unusedVariables false
set_option linter.unusedSimpArgs false

inductive Tm where
  | mk (op : Int) (name : ByteArray) (num : Int) (args : List Tm)

mutual
def size : Tm → Nat
  | .mk _ _ _ l => 1 + sizes l
def sizes : List Tm → Nat
  | [] => 0
  | t :: l => size t + sizes l
end
mutual
def depth : Tm → Nat
  | .mk _ _ _ l => 1 + depths l
def depths : List Tm → Nat
  | [] => 0
  | t :: l => max (depth t) (depths l)
end
/-! all parts, each ahead of its arguments, also those that are alike -/
mutual
def all : Tm → List Tm
  | .mk o s n l => .mk o s n l :: alls l
def alls : List Tm → List Tm
  | [] => []
  | t :: l => all t ++ alls l
end
mutual
def eqT : Tm → Tm → Bool
  | .mk o s n l, .mk o' s' n' l' => (o == o') && ((s.toList == s'.toList) && ((n == n') && eqTs l l'))
def eqTs : List Tm → List Tm → Bool
  | [], [] => true
  | t :: l, u :: m => eqT t u && eqTs l m
  | [], _ :: _ => false
  | _ :: _, [] => false
end
mutual
theorem eqT_iff : ∀ {t u : Tm}, eqT t u = true ↔ t = u
  | .mk o s n l, .mk o' s' n' l' => by
    rw [eqT, Bool.and_eq_true, Bool.and_eq_true, Bool.and_eq_true, beq_iff_eq, eqS_iff, beq_iff_eq, eqTs_iff]
    simp
theorem eqTs_iff : ∀ {l m : List Tm}, eqTs l m = true ↔ l = m
  | [], [] => by simp [eqTs]
  | t :: l, u :: m => by rw [eqTs, Bool.and_eq_true, eqT_iff, eqTs_iff]; simp
  | [], _ :: _ => by simp [eqTs]
  | _ :: _, [] => by simp [eqTs]
end
theorem eqT_refl (t : Tm) : eqT t t = true := eqT_iff.2 rfl
theorem eqTs_refl (l : List Tm) : eqTs l l = true := eqTs_iff.2 rfl
theorem eqT_no {t u : Tm} : eqT t u = false ↔ t ≠ u := by
  rw [← Bool.not_eq_true, eqT_iff]
theorem sizes_app (l m : List Tm) : sizes (l ++ m) = sizes l + sizes m := by
  induction l with
  | nil => simp [sizes]
  | cons t l ih => simp [sizes, ih]; omega
theorem size_pos : ∀ t : Tm, 0 < size t
  | .mk _ _ _ l => by rw [size]; omega
mutual
theorem all_len : ∀ t : Tm, (all t).length = size t
  | .mk o s n l => by rw [all, size, List.length_cons, alls_len]; omega
theorem alls_len : ∀ l : List Tm, (alls l).length = sizes l
  | [] => rfl
  | t :: l => by rw [alls, sizes, List.length_append, all_len, alls_len]
end
mutual
theorem depth_size : ∀ t : Tm, depth t ≤ size t
  | .mk o s n l => by rw [depth, size]; have := depths_sizes l; omega
theorem depths_sizes : ∀ l : List Tm, depths l ≤ sizes l
  | [] => Nat.le_refl _
  | t :: l => by rw [depths, sizes]; have := depth_size t; have := depths_sizes l; omega
end
theorem self_all (t : Tm) : t ∈ all t := by cases t; rw [all]; exact List.mem_cons_self

/-! counting that stops behind a bound -/
mutual
def szTo : Nat → Tm → Nat
  | most, .mk _ _ _ l => szTos most 1 l
def szTos : Nat → Nat → List Tm → Nat
  | _, n, [] => n
  | most, n, t :: l => if n ≤ most then szTos most (n + szTo (most - n) t) l else n
end
mutual
theorem szTo_small : ∀ (t : Tm) (most : Nat), size t ≤ most → szTo most t = size t
  | .mk o s n l, most, h => by
    rw [size] at h ⊢
    rw [szTo, szTos_small l most 1 (by omega)]
theorem szTos_small : ∀ (l : List Tm) (most n : Nat), n + sizes l ≤ most → szTos most n l = n + sizes l
  | [], most, n, h => by rw [szTos, sizes]; rfl
  | t :: l, most, n, h => by
    rw [sizes] at h ⊢
    rw [szTos, if_pos (by omega), szTo_small t (most - n) (by omega), szTos_small l most _ (by omega)]; omega
end
mutual
theorem szTo_big : ∀ (t : Tm) (most : Nat), most < size t → most < szTo most t
  | .mk o s n l, most, h => by
    rw [size] at h
    rw [szTo]
    by_cases h1 : 1 ≤ most
    · exact szTos_big l most 1 h1 h
    · cases l with
      | nil => rw [szTos]; omega
      | cons t l => rw [szTos, if_neg h1]; omega
theorem szTos_big : ∀ (l : List Tm) (most n : Nat), n ≤ most → most < n + sizes l → most < szTos most n l
  | [], most, n, h0, h => by rw [sizes] at h; omega
  | t :: l, most, n, h0, h => by
    rw [sizes] at h
    rw [szTos, if_pos h0]
    by_cases h1 : size t ≤ most - n
    · rw [szTo_small t _ h1]
      by_cases h2 : n + size t ≤ most
      · exact szTos_big l most _ h2 (by omega)
      · omega
    · have := szTo_big t (most - n) (by omega)
      have h3 : most < n + szTo (most - n) t := by omega
      cases l with
      | nil => rw [szTos]; exact h3
      | cons u l => rw [szTos, if_neg (by omega)]; exact h3
end
theorem szTo_le (t : Tm) (most : Nat) : (szTo most t ≤ most) ↔ size t ≤ most := by
  constructor
  · intro h
    refine Nat.le_of_not_lt fun h2 => ?_
    have := szTo_big t most h2; omega
  · intro h; rw [szTo_small t most h]; exact h

/-! replacement -/
mutual
def rep (f u : Tm) : Tm → Tm
  | .mk o s n l => if eqT (.mk o s n l) f = true then u else .mk o s n (reps f u l)
def reps (f u : Tm) : List Tm → List Tm
  | [] => []
  | t :: l => rep f u t :: reps f u l
end
theorem reps_len (f u : Tm) (l : List Tm) : (reps f u l).length = l.length := by
  induction l with
  | nil => rfl
  | cons t l ih => rw [reps, List.length_cons, List.length_cons, ih]
mutual
theorem rep_self (f : Tm) : ∀ t : Tm, rep f f t = t
  | .mk o s n l => by
    rw [rep]
    split
    · rename_i h; exact (eqT_iff.1 h).symm
    · rw [reps_self f l]
theorem reps_self (f : Tm) : ∀ l : List Tm, reps f f l = l
  | [] => rfl
  | t :: l => by rw [reps, rep_self f t, reps_self f l]
end
/-- is a term a part? -/
def has (t p : Tm) : Bool := (all t).any (fun x => eqT x p)
def hass (l : List Tm) (p : Tm) : Bool := (alls l).any (fun x => eqT x p)
theorem has_mk (o : Int) (s : ByteArray) (n : Int) (l : List Tm) (p : Tm) : has (.mk o s n l) p = (eqT (.mk o s n l) p || hass l p) := by
  unfold has hass; rw [all, List.any_cons]
theorem hass_cons (t : Tm) (l : List Tm) (p : Tm) : hass (t :: l) p = (has t p || hass l p) := by
  unfold hass has; rw [alls, List.any_append]
theorem has_iff {t p : Tm} : has t p = true ↔ p ∈ all t := by
  unfold has
  rw [List.any_eq_true]
  constructor
  · rintro ⟨x, hx, h⟩; rw [← eqT_iff.1 h]; exact hx
  · intro h; exact ⟨p, h, eqT_refl p⟩
mutual
theorem rep_none (f u : Tm) : ∀ t : Tm, has t f = false → rep f u t = t
  | .mk o s n l, h => by
    rw [has_mk, Bool.or_eq_false_iff] at h
    rw [rep, if_neg (by simp [h.1]), reps_none f u l h.2]
theorem reps_none (f u : Tm) : ∀ l : List Tm, hass l f = false → reps f u l = l
  | [], _ => rfl
  | t :: l, h => by
    rw [hass_cons, Bool.or_eq_false_iff] at h
    rw [reps, rep_none f u t h.1, reps_none f u l h.2]
end
mutual
theorem rep_gone (o' : Int) (s' : ByteArray) (n' : Int) (u : Tm) (hu : has u (.mk o' s' n' []) = false) : ∀ t : Tm, has (rep (.mk o' s' n' []) u t) (.mk o' s' n' []) = false
  | .mk o s n l => by
    rw [rep]
    split
    · exact hu
    · rename_i h
      rw [has_mk, Bool.or_eq_false_iff]
      refine ⟨?_, reps_gone o' s' n' u hu l⟩
      rw [eqT_no]
      intro he
      injection he with h1 h2 h3 h4
      have hl : l = [] := List.eq_nil_of_length_eq_zero (by rw [← reps_len (.mk o' s' n' []) u l, h4]; rfl)
      subst h1 h2 h3 hl
      exact h (eqT_refl _)
theorem reps_gone (o' : Int) (s' : ByteArray) (n' : Int) (u : Tm) (hu : has u (.mk o' s' n' []) = false) : ∀ l : List Tm, hass (reps (.mk o' s' n' []) u l) (.mk o' s' n' []) = false
  | [] => rfl
  | t :: l => by rw [reps, hass_cons, rep_gone o' s' n' u hu t, reps_gone o' s' n' u hu l]; rfl
end

/-! orders -/
def lex (x y : Int) : Int := if x ≠ 0 then x else y
theorem lex_assoc (x y z : Int) : lex (lex x y) z = lex x (lex y z) := by
  unfold lex
  by_cases h : x ≠ 0
  · rw [if_pos h, if_pos h, if_pos h]
  · rw [if_neg h, if_neg h]
theorem lex_zero (x : Int) : lex x 0 = x := by unfold lex; split <;> omega
theorem zero_lex (x : Int) : lex 0 x = x := by unfold lex; rw [if_neg (by simp)]
theorem lex_eq {x y : Int} : lex x y = 0 ↔ x = 0 ∧ y = 0 := by unfold lex; split <;> omega
/-- a comparison that is a total order -/
structure Lin {α : Type} (c : α → α → Int) : Prop where
  rng : ∀ x y, c x y = -1 ∨ c x y = 0 ∨ c x y = 1
  anti : ∀ x y, c y x = - c x y
  eq : ∀ x y, c x y = 0 ↔ x = y
  trans : ∀ x y z, c x y = -1 → c y z = -1 → c x z = -1
def cmpI (x y : Int) : Int := if x < y then -1 else if y < x then 1 else 0
theorem linI : Lin cmpI := by
  refine ⟨fun x y => ?_, fun x y => ?_, fun x y => ?_, fun x y z => ?_⟩ <;> unfold cmpI <;> (repeat' split) <;> omega
def lexP {α β : Type} (c : α → α → Int) (d : β → β → Int) (x y : α × β) : Int := lex (c x.1 y.1) (d x.2 y.2)
theorem linP {α β : Type} {c : α → α → Int} {d : β → β → Int} (hc : Lin c) (hd : Lin d) : Lin (lexP c d) := by
  refine ⟨fun x y => ?_, fun x y => ?_, fun x y => ?_, fun x y z h1 h2 => ?_⟩
  · unfold lexP lex; split
    · exact hc.rng _ _
    · exact hd.rng _ _
  · unfold lexP lex
    rw [hc.anti x.1 y.1, hd.anti x.2 y.2]
    split <;> split <;> omega
  · unfold lexP
    rw [lex_eq, hc.eq, hd.eq]
    exact ⟨fun h => Prod.ext h.1 h.2, fun h => by rw [h]; exact ⟨rfl, rfl⟩⟩
  · unfold lexP lex at h1 h2 ⊢
    by_cases e1 : c x.1 y.1 = 0
    · have e1' := (hc.eq _ _).1 e1
      rw [if_neg (by simp [e1])] at h1
      rw [e1']
      by_cases e2 : c y.1 z.1 = 0
      · rw [if_neg (by simp [e2])] at h2 ⊢
        exact hd.trans _ _ _ h1 h2
      · rw [if_pos e2] at h2 ⊢; exact h2
    · rw [if_pos e1] at h1
      by_cases e2 : c y.1 z.1 = 0
      · have e2' := (hc.eq _ _).1 e2
        rw [← e2', if_pos e1]; exact h1
      · rw [if_pos e2] at h2
        have h3 := hc.trans _ _ _ h1 h2
        rw [if_pos (by omega)]; exact h3
def lexL {α : Type} (c : α → α → Int) : List α → List α → Int
  | [], [] => 0
  | [], _ :: _ => -1
  | _ :: _, [] => 1
  | x :: l, y :: m => lex (c x y) (lexL c l m)
theorem linL {α : Type} {c : α → α → Int} (hc : Lin c) : Lin (lexL c) := by
  refine ⟨fun x => ?_, fun x => ?_, fun x => ?_, fun x => ?_⟩
  · induction x with
    | nil => intro y; cases y <;> simp [lexL]
    | cons a l ih =>
      intro y
      cases y with
      | nil => simp [lexL]
      | cons b m =>
        rw [lexL]; unfold lex; split
        · exact hc.rng _ _
        · exact ih m
  · induction x with
    | nil => intro y; cases y <;> simp [lexL]
    | cons a l ih =>
      intro y
      cases y with
      | nil => simp [lexL]
      | cons b m =>
        rw [lexL, lexL, ih m, hc.anti a b]
        unfold lex
        split <;> split <;> omega
  · induction x with
    | nil => intro y; cases y <;> simp [lexL]
    | cons a l ih =>
      intro y
      cases y with
      | nil => simp [lexL]
      | cons b m => rw [lexL, lex_eq, hc.eq, ih m, List.cons.injEq]
  · induction x with
    | nil =>
      intro y z h1 h2
      cases y with
      | nil => exact h2
      | cons b m =>
        cases z with
        | nil => simp [lexL] at h2
        | cons d k => rfl
    | cons a l ih =>
      intro y z h1 h2
      cases y with
      | nil => simp [lexL] at h1
      | cons b m =>
        cases z with
        | nil => simp [lexL] at h2
        | cons d k =>
          rw [lexL] at h1 h2 ⊢
          unfold lex at h1 h2 ⊢
          by_cases e1 : c a b = 0
          · have e1' := (hc.eq _ _).1 e1
            rw [if_neg (by simp [e1])] at h1
            rw [e1']
            by_cases e2 : c b d = 0
            · rw [if_neg (by simp [e2])] at h2 ⊢
              exact ih _ _ h1 h2
            · rw [if_pos e2] at h2 ⊢; exact h2
          · rw [if_pos e1] at h1
            by_cases e2 : c b d = 0
            · have e2' := (hc.eq _ _).1 e2
              rw [← e2', if_pos e1]; exact h1
            · rw [if_pos e2] at h2
              have h3 := hc.trans _ _ _ h1 h2
              rw [if_pos (by omega)]; exact h3
def cmpU (a b : UInt8) : Int := cmpI a.toNat b.toNat
theorem linU : Lin cmpU := ⟨fun x y => linI.rng _ _, fun x y => linI.anti _ _, fun x y => by
  unfold cmpU
  rw [linI.eq]
  exact ⟨fun h => UInt8.toNat_inj.1 (by omega), fun h => by rw [h]⟩, fun x y z => linI.trans _ _ _⟩
def cmpB : List UInt8 → List UInt8 → Int := lexL cmpU
theorem linB : Lin cmpB := linL linU
theorem less_cmp : ∀ x y : List UInt8, Go.Op.bytesLess x y = decide (cmpB x y = -1)
  | [], [] => rfl
  | [], _ :: _ => rfl
  | _ :: _, [] => rfl
  | a :: x, b :: y => by
    rw [Go.Op.bytesLess, less_cmp x y]
    show _ = decide (lex (cmpU a b) (lexL cmpU x y) = -1)
    unfold cmpB lex cmpU cmpI
    by_cases h1 : a < b
    · have h2 : (a.toNat : Int) < b.toNat := by have := UInt8.lt_iff_toNat_lt.1 h1; omega
      simp [h1, h2]
    · have h2 : ¬ (a.toNat : Int) < b.toNat := fun h => h1 (UInt8.lt_iff_toNat_lt.2 (by omega))
      by_cases h3 : a = b
      · subst h3; simp [h1]
      · have h4 : (b.toNat : Int) < a.toNat := by
          have : a.toNat ≠ b.toNat := fun h => h3 (UInt8.toNat_inj.1 h)
          omega
        simp [h1, h2, h3, h4]
/-! the order of terms: by the keys of their parts, each ahead of its arguments -/
/-- texts, byte by byte -/
def cmpN (x y : ByteArray) : Int := cmpB x.toList y.toList
theorem linN : Lin cmpN := ⟨fun x y => linB.rng _ _, fun x y => linB.anti _ _, fun x y => by
  unfold cmpN
  rw [linB.eq]
  exact ⟨fun h => eqS_iff.1 (beq_iff_eq.2 h), fun h => by rw [h]⟩, fun x y z => linB.trans _ _ _⟩
abbrev Key := Int × Int × ByteArray × Int
def cmpK : Key → Key → Int := lexP cmpI (lexP cmpI (lexP cmpN cmpI))
theorem linK : Lin cmpK := linP linI (linP linI (linP linN linI))
mutual
def keys : Tm → List Key
  | .mk o s n l => (o, n, s, (l.length : Int)) :: keyss l
def keyss : List Tm → List Key
  | [] => []
  | t :: l => keys t ++ keyss l
end
mutual
def cmpT : Tm → Tm → Int
  | .mk o s n l, .mk o' s' n' l' => lex (cmpI o o') (lex (cmpI n n') (lex (cmpN s s') (lex (cmpI l.length l'.length) (cmpTs l l'))))
def cmpTs : List Tm → List Tm → Int
  | [], _ => 0
  | _ :: _, [] => 0
  | t :: l, u :: m => lex (cmpT t u) (cmpTs l m)
end
mutual
theorem cmp_keys : ∀ (t u : Tm) (xs ys : List Key), lexL cmpK (keys t ++ xs) (keys u ++ ys) = lex (cmpT t u) (lexL cmpK xs ys)
  | .mk o s n l, .mk o' s' n' l', xs, ys => by
    rw [keys, keys, List.cons_append, List.cons_append, lexL, cmpT]
    show lex (lex (cmpI o o') (lex (cmpI n n') (lex (cmpN s s') (cmpI l.length l'.length)))) _ = _
    simp only [lex_assoc]
    by_cases hl : l.length = l'.length
    · rw [cmps_keys l l' hl xs ys]
    · have h1 : cmpI l.length l'.length ≠ 0 := fun h => hl (by have := (linI.eq _ _).1 h; omega)
      have e : ∀ y z : Int, lex (cmpI l.length l'.length) y = lex (cmpI l.length l'.length) z := fun y z => by unfold lex; rw [if_pos h1, if_pos h1]
      rw [e _ (lex (cmpTs l l') (lexL cmpK xs ys))]
theorem cmps_keys : ∀ (l m : List Tm), l.length = m.length → ∀ (xs ys : List Key), lexL cmpK (keyss l ++ xs) (keyss m ++ ys) = lex (cmpTs l m) (lexL cmpK xs ys)
  | [], [], _, xs, ys => by rw [cmpTs, zero_lex]; rfl
  | t :: l, u :: m, h, xs, ys => by
    rw [keyss, keyss, List.append_assoc, List.append_assoc, cmp_keys t u, cmps_keys l m (by simpa using h), cmpTs, lex_assoc]
  | [], _ :: _, h, _, _ => by simp at h
  | _ :: _, [], h, _, _ => by simp at h
end
theorem cmp_key (t u : Tm) : cmpT t u = lexL cmpK (keys t) (keys u) := by
  have := cmp_keys t u [] []
  rw [List.append_nil, List.append_nil, lexL, lex_zero] at this
  exact this.symm
mutual
theorem cmp_zero : ∀ {t u : Tm}, cmpT t u = 0 → t = u
  | .mk o s n l, .mk o' s' n' l', h => by
    rw [cmpT, lex_eq, lex_eq, lex_eq, lex_eq, linI.eq, linI.eq, linN.eq, linI.eq] at h
    obtain ⟨rfl, rfl, rfl, h4, h5⟩ := h
    rw [cmps_zero (by omega) h5]
theorem cmps_zero : ∀ {l m : List Tm}, l.length = m.length → cmpTs l m = 0 → l = m
  | [], [], _, _ => rfl
  | t :: l, u :: m, hl, h => by
    rw [cmpTs, lex_eq] at h
    rw [cmp_zero h.1, cmps_zero (by simpa using hl) h.2]
  | [], _ :: _, h, _ => by simp at h
  | _ :: _, [], h, _ => by simp at h
end
theorem linT : Lin cmpT := by
  have h := linL linK
  refine ⟨fun x y => ?_, fun x y => ?_, fun x y => ⟨cmp_zero, fun e => ?_⟩, fun x y z => ?_⟩
  · rw [cmp_key]; exact h.rng _ _
  · rw [cmp_key, cmp_key]; exact h.anti _ _
  · rw [e, cmp_key]; exact (h.eq _ _).2 rfl
  · rw [cmp_key, cmp_key, cmp_key]; exact h.trans _ _ _
theorem lin_le {α : Type} {c : α → α → Int} (h : Lin c) (x y z : α) (h1 : c x y ≤ 0) (h2 : c y z ≤ 0) : c x z ≤ 0 ∧ (c x z = 0 ↔ c x y = 0 ∧ c y z = 0) := by
  rcases h.rng x y with e1 | e1 | e1
  · rcases h.rng y z with e2 | e2 | e2
    · have := h.trans _ _ _ e1 e2; omega
    · have := (h.eq _ _).1 e2; subst this; omega
    · omega
  · have := (h.eq _ _).1 e1; subst this; omega
  · omega
end Go.Proofs.Ytacncbkcnhlpcaa.T
namespace Go.Proofs.Ytacncbkcnhlpcaa.T
open L
set_option linter.unusedVariables false
set_option linter.unusedSimpArgs false

/-! the depth, counted up to a bound -/
mutual
def dpTo : Nat → Tm → Nat
  | most, .mk _ _ _ l => dpTos most 1 l
def dpTos : Nat → Nat → List Tm → Nat
  | _, d, [] => d
  | most, d, t :: l => if d ≤ most then dpTos most (max d (1 + dpTo (most - 1) t)) l else d
end
mutual
theorem dpTo_small : ∀ (t : Tm) (most : Nat), depth t ≤ most → dpTo most t = depth t
  | .mk o s n l, most, h => by
    rw [depth] at h ⊢
    rw [dpTo, dpTos_small l most 1 (Nat.le_refl _) (by omega) h]
    omega
theorem dpTos_small : ∀ (l : List Tm) (most d : Nat), 1 ≤ d → d ≤ most → 1 + depths l ≤ most → dpTos most d l = max d (1 + depths l)
  | [], most, d, h1, h0, h => by rw [dpTos, depths]; omega
  | t :: l, most, d, h1, h0, h => by
    rw [depths] at h ⊢
    rw [dpTos, if_pos h0, dpTo_small t (most - 1) (by omega), dpTos_small l most _ (by omega) (by omega) (by omega)]
    omega
end
theorem depth_pos : ∀ t : Tm, 0 < depth t
  | .mk _ _ _ l => by rw [depth]; omega
mutual
theorem dpTo_big : ∀ (t : Tm) (most : Nat), most < depth t → most < dpTo most t
  | .mk o s n l, most, h => by
    rw [depth] at h
    rw [dpTo]
    by_cases h1 : 1 ≤ most
    · exact dpTos_big l most 1 (Nat.le_refl _) h1 h
    · cases l with
      | nil => rw [dpTos]; omega
      | cons t l => rw [dpTos, if_neg h1]; omega
theorem dpTos_big : ∀ (l : List Tm) (most d : Nat), 1 ≤ d → d ≤ most → most < 1 + depths l → most < dpTos most d l
  | [], most, d, hd, h0, h => by rw [depths] at h; omega
  | t :: l, most, d, hd, h0, h => by
    rw [depths] at h
    rw [dpTos, if_pos h0]
    by_cases h1 : depth t ≤ most - 1
    · rw [dpTo_small t _ h1]
      by_cases h2 : max d (1 + depth t) ≤ most
      · exact dpTos_big l most _ (by omega) h2 (by omega)
      · exact Nat.lt_of_lt_of_le (by omega) (dpTos_ge l most _)
    · have := dpTo_big t (most - 1) (by omega)
      exact Nat.lt_of_lt_of_le (by omega) (dpTos_ge l most _)
theorem dpTos_ge : ∀ (l : List Tm) (most d : Nat), d ≤ dpTos most d l
  | [], most, d => by rw [dpTos]; exact Nat.le_refl _
  | t :: l, most, d => by
    rw [dpTos]; split
    · exact Nat.le_trans (Nat.le_max_left _ _) (dpTos_ge l most _)
    · exact Nat.le_refl _
end
theorem dpTo_min (t : Tm) (most : Nat) : min (dpTo most t) (most + 1) = min (depth t) (most + 1) := by
  by_cases h : depth t ≤ most
  · rw [dpTo_small t most h]
  · have := dpTo_big t most (by omega); omega

/-! the errors -/
def formB (o : Int) (s : ByteArray) (n : Int) : Bool :=
  (decide (o < 1) || (decide (8 < o) || (o == 2 && decide (n < 0)))) || (((o != 2 && (o != 4 && o != 8)) && n != 0) || ((o != 1 && o != 3) && !s.toList.isEmpty))
def argsI (o : Int) : Int := if o = 3 then -1 else if o = 5 ∨ o = 6 then 2 else if o = 7 ∨ o = 8 then 1 else 0
def arityB (o : Int) (k : Nat) : Bool := (decide (0 ≤ argsI o) && (k : Int) != argsI o) || decide (8 < k)
mutual
def partE : Tm → Int
  | .mk o s n l => if formB o s n = true then 7 else if arityB o l.length = true then 12 else partsE l
def partsE : List Tm → Int
  | [] => 0
  | t :: l => if partE t ≠ 0 then partE t else partsE l
end
def rightE (t : Tm) : Int := if 64 < depth t then 6 else if 4096 < size t then 2 else partE t

/-! without repetition: each where it first occurs -/
def inT (l : List Tm) (t : Tm) : Bool := l.any (fun x => eqT x t)
theorem inT_iff {l : List Tm} {t : Tm} : inT l t = true ↔ t ∈ l := by
  unfold inT
  rw [List.any_eq_true]
  constructor
  · rintro ⟨x, hx, h⟩; rw [← eqT_iff.1 h]; exact hx
  · intro h; exact ⟨t, h, eqT_refl t⟩
def uniq : List Tm → List Tm → List Tm
  | acc, [] => acc
  | acc, t :: l => if inT acc t = true then uniq acc l else uniq (acc ++ [t]) l
def parts (t : Tm) : List Tm := uniq [] (all t)
theorem uniq_app : ∀ (l m acc : List Tm), uniq acc (l ++ m) = uniq (uniq acc l) m
  | [], m, acc => rfl
  | t :: l, m, acc => by
    rw [List.cons_append, uniq, uniq]
    split
    · exact uniq_app l m acc
    · exact uniq_app l m (acc ++ [t])
theorem mem_uniq : ∀ (l acc : List Tm) (t : Tm), t ∈ uniq acc l ↔ t ∈ acc ∨ t ∈ l
  | [], acc, t => by rw [uniq]; simp
  | u :: l, acc, t => by
    rw [uniq]; split
    · rename_i h
      rw [mem_uniq l acc t]
      have := inT_iff.1 h
      simp only [List.mem_cons]
      constructor
      · rintro (h1 | h1)
        · exact .inl h1
        · exact .inr (.inr h1)
      · rintro (h1 | rfl | h1)
        · exact .inl h1
        · exact .inl this
        · exact .inr h1
    · rw [mem_uniq l _ t]; simp [or_assoc]
theorem has_parts (t p : Tm) : inT (parts t) p = has t p := by
  rw [Bool.eq_iff_iff, inT_iff, has_iff]
  unfold parts
  rw [mem_uniq]; simp
theorem uniq_len : ∀ (l acc : List Tm), (uniq acc l).length ≤ acc.length + l.length
  | [], acc => by rw [uniq]; simp
  | u :: l, acc => by
    rw [uniq]; split
    · have := uniq_len l acc; simp; omega
    · have := uniq_len l (acc ++ [u]); simp at this ⊢; omega
theorem parts_len (t : Tm) : (parts t).length ≤ size t := by
  have := uniq_len (all t) []
  rw [all_len] at this
  simpa [parts] using this

/-! names in order -/
def Up (l : List (ByteArray)) : Prop := l.Pairwise (fun x y => cmpN x y = -1)
/-- a name put among rising ones, as long as it is not there -/
def putN (s : ByteArray) : List (ByteArray) → List (ByteArray)
  | [] => [s]
  | x :: l => if cmpN s x = -1 then s :: x :: l else if s = x then x :: l else x :: putN s l
theorem mem_put (s x : ByteArray) : ∀ l : List (ByteArray), x ∈ putN s l ↔ x = s ∨ x ∈ l
  | [] => by simp [putN]
  | y :: l => by
    rw [putN]; split
    · simp
    · split
      · rename_i h; subst h; simp
      · rw [List.mem_cons, mem_put s x l, List.mem_cons]
        constructor
        · rintro (h | h | h) <;> simp [h]
        · rintro (h | h | h) <;> simp [h]
theorem up_put (s : ByteArray) : ∀ l : List (ByteArray), Up l → Up (putN s l)
  | [], _ => by unfold Up putN; simp
  | y :: l, h => by
    have h2 := List.pairwise_cons.1 h
    rw [putN]; split
    · rename_i hs
      refine List.pairwise_cons.2 ⟨fun z hz => ?_, h⟩
      rcases List.mem_cons.1 hz with rfl | hz
      · exact hs
      · exact linN.trans _ _ _ hs (h2.1 z hz)
    · split
      · exact h
      · rename_i h3 h4
        refine List.pairwise_cons.2 ⟨fun z hz => ?_, up_put s l h2.2⟩
        rcases (mem_put s z l).1 hz with rfl | hz
        · rcases linN.rng z y with e | e | e
          · exact absurd e h3
          · exact absurd ((linN.eq _ _).1 e) h4
          · rw [linN.anti, e]
        · exact h2.1 z hz
/-- rising lists with the same elements are the same -/
theorem up_same : ∀ {l m : List (ByteArray)}, Up l → Up m → (∀ x, x ∈ l ↔ x ∈ m) → l = m
  | [], [], _, _, _ => rfl
  | [], y :: m, _, _, h => absurd ((h y).2 (by simp)) (by simp)
  | x :: l, [], _, _, h => absurd ((h x).1 (by simp)) (by simp)
  | x :: l, y :: m, hl, hm, h => by
    have hl2 := List.pairwise_cons.1 hl
    have hm2 := List.pairwise_cons.1 hm
    have irr : ∀ z : ByteArray, cmpN z z ≠ -1 := fun z e => by have := (linN.eq z z).2 rfl; omega
    have hxy : x = y := by
      rcases List.mem_cons.1 ((h x).1 (by simp)) with e | e
      · exact e
      · rcases List.mem_cons.1 ((h y).2 (by simp)) with e2 | e2
        · exact e2.symm
        · have h1 := hm2.1 x e
          have h2 := hl2.1 y e2
          exact absurd (linN.trans _ _ _ h1 h2) (irr y)
    subst hxy
    have hrest : ∀ z, z ∈ l ↔ z ∈ m := fun z => by
      constructor
      · intro hz
        rcases List.mem_cons.1 ((h z).1 (by simp [hz])) with rfl | e
        · exact absurd (hl2.1 z hz) (irr z)
        · exact e
      · intro hz
        rcases List.mem_cons.1 ((h z).2 (by simp [hz])) with rfl | e
        · exact absurd (hm2.1 z hz) (irr z)
        · exact e
    rw [up_same hl2.2 hm2.2 hrest]
def opT : Tm → Int | .mk o _ _ _ => o
def nameT : Tm → ByteArray | .mk _ s _ _ => s
/-- the names of the variables among some parts, put in one by one -/
def namesF : List (ByteArray) → List Tm → List (ByteArray)
  | acc, [] => acc
  | acc, t :: l => namesF (if opT t = 1 then putN (nameT t) acc else acc) l
def names (l : List Tm) : List (ByteArray) := namesF [] (alls l)
theorem namesF_app : ∀ (l m : List Tm) (acc : List (ByteArray)), namesF acc (l ++ m) = namesF (namesF acc l) m
  | [], m, acc => rfl
  | t :: l, m, acc => by rw [List.cons_append, namesF, namesF, namesF_app l m]
theorem up_namesF : ∀ (l : List Tm) (acc : List (ByteArray)), Up acc → Up (namesF acc l)
  | [], acc, h => h
  | t :: l, acc, h => by
    rw [namesF]
    split
    · exact up_namesF l _ (up_put _ _ h)
    · exact up_namesF l _ h
theorem mem_namesF : ∀ (l : List Tm) (acc : List (ByteArray)) (x : ByteArray), x ∈ namesF acc l ↔ x ∈ acc ∨ ∃ t ∈ l, opT t = 1 ∧ nameT t = x
  | [], acc, x => by rw [namesF]; simp
  | t :: l, acc, x => by
    rw [namesF, mem_namesF l _ x]
    split
    · rename_i h
      rw [mem_put]
      simp only [List.mem_cons, exists_eq_or_imp, h, true_and]
      constructor
      · rintro ((h1 | h1) | h1)
        · exact .inr (.inl h1.symm)
        · exact .inl h1
        · exact .inr (.inr h1)
      · rintro (h1 | h1 | h1)
        · exact .inl (.inr h1)
        · exact .inl (.inl h1.symm)
        · exact .inr h1
    · rename_i h
      simp only [List.mem_cons, exists_eq_or_imp, h, false_and, false_or]
theorem names_up (l : List Tm) : Up (names l) := up_namesF _ _ (by unfold Up; simp)
theorem mem_names (l : List Tm) (x : ByteArray) : x ∈ names l ↔ ∃ t ∈ alls l, opT t = 1 ∧ nameT t = x := by
  unfold names; rw [mem_namesF]; simp
/-- whatever is rising and has just these names is their list -/
theorem names_only {l : List Tm} {m : List (ByteArray)} (hm : Up m) (h : ∀ x, x ∈ m ↔ ∃ t ∈ alls l, opT t = 1 ∧ nameT t = x) : m = names l :=
  up_same hm (names_up l) (fun x => by rw [h, mem_names])
end Go.Proofs.Ytacncbkcnhlpcaa.T
namespace Go.Proofs.Ytacncbkcnhlpcaa.L
open Go.RowKit
set_option linter.unusedVariables false
set_option linter.unusedSimpArgs false

/-- a block that is known whole -/
def Blk (w : World) (g : Nat) (cs : Array Value) (t : TypeId) : Prop := w.heap[g]? = some (.cells cs t (0, 0))
theorem Blk.new (w : World) (cs : Array Value) (t : TypeId) : Blk (w.alloc (.cells cs t)) w.heap.size cs t := heap_alloc_new w _
theorem Blk.lt {w : World} {g : Nat} {cs : Array Value} {t : TypeId} (h : Blk w g cs t) : g < w.heap.size := (Array.getElem?_eq_some_iff.1 h).1
theorem Blk.cell {w : World} {g : Nat} {cs : Array Value} {t : TypeId} (h : Blk w g cs t) (k : Nat) : w.cell? ⟨g, k, none⟩ = cs[k]? := cell_of_row w g k _ _ _ h
theorem Blk.free {w : World} {g : Nat} {cs : Array Value} {t : TypeId} (h : Blk w g cs t) (k : Nat) : w.frozen? ⟨g, k, none⟩ = false := frozen_of_row w g k _ _ h
theorem Blk.alloc {w : World} {g : Nat} {cs : Array Value} {t : TypeId} (h : Blk w g cs t) (o : Obj) : Blk (w.alloc o) g cs t := (heap_alloc_old w o h.lt).trans h
theorem Blk.below {w w' : World} {g : Nat} {cs : Array Value} {t : TypeId} (h : Blk w g cs t) (hb : Below w.heap.size w w') : Blk w' g cs t := (hb.block g h.lt).trans h
theorem Blk.grown {w w' : World} {g : Nat} {cs : Array Value} {t : TypeId} {r : Option Nat} (h : Blk w g cs t) (hg : w.grownBy w' r) (hne : some g ≠ r) : Blk w' g cs t := (hg.block g h.lt hne).trans h
theorem Blk.set {w : World} {g : Nat} {cs : Array Value} {t : TypeId} (h : Blk w g cs t) (k : Nat) (v : Value) : Blk (w.setCell ⟨g, k, none⟩ v) g (cs.setIfInBounds k v) t := heap_setCell_same w g k cs t v h
theorem Blk.far {w : World} {g g' : Nat} {cs : Array Value} {t : TypeId} (h : Blk w g cs t) (hne : g' ≠ g) (k : Nat) (v : Value) : Blk (w.setCell ⟨g', k, none⟩ v) g cs t := (heap_setCell_other w ⟨g', k, none⟩ g v (fun e => hne e.symm)).trans h
/-- a slice that does not lie in this block -/
def Off (g : Nat) (A : Option Addr) (n : Nat) : Prop := 0 < n → ∀ b o, A = some ⟨b, o, none⟩ → b ≠ g
theorem SlS.far {w : World} {A : Option Addr} {n c : Nat} {X : List ByteArray} {g : Nat} (h : SlS w A n c X) (ho : Off g A n) (k : Nat) (v : Value) : SlS (w.setCell ⟨g, k, none⟩ v) A n c X := by
  refine ⟨⟨h.1.1, fun hn => ?_⟩, h.2⟩
  obtain ⟨b, o, ha, hlt, hr⟩ := h.1.2 hn
  refine ⟨b, o, ha, by simpa [World.setCell] using hlt, fun i hi => ?_⟩
  exact (World.cell?_of_block (heap_setCell_other w ⟨g, k, none⟩ b v (ho hn b o ha))).trans (hr i hi)
theorem off_old {w : World} {A : Option Addr} {n c : Nat} {X : List ByteArray} {g : Nat} (h : SlS w A n c X) (hg : w.heap.size ≤ g) : Off g A n := fun hn b o ha e => by
  obtain ⟨b', o', ha', hlt, _⟩ := h.1.2 hn
  rw [ha] at ha'
  injection ha' with ha'
  injection ha' with h1
  omega
/-- a row of the call's own lies at its base or behind -/
theorem off_row {w : World} {A : Option Addr} {n n' c g base size : Nat} {t : TypeId} {xs : List Value} (h : w.ownsRow base t size (.slice A n c) n' xs) (hg : g < base) : Off g A n := fun hn b o ha e => by
  rcases h.2 with ⟨hv, _⟩ | ⟨g', cap, cur, hv, hb, _⟩
  · injection hv with h1; rw [h1] at ha; cases ha
  · injection hv with h1
    rw [ha] at h1
    injection h1 with h1
    injection h1 with h1
    omega
theorem off_own {w : World} {A : Option Addr} {n c : Nat} {X : List ByteArray} {g base : Nat} (h : OwnS w base (.slice A n c) X) (hg : g < base) : Off g A n := off_row h hg
theorem own_sl {w : World} {base : Nat} {A : Option Addr} {n c : Nat} {X : List ByteArray} (h : OwnS w base (.slice A n c) X) (hn : n = X.length) : SlS w A n c X := by
  obtain ⟨A', c', hv, hS⟩ := h.slS
  injection hv with h1 h2 h3
  subst h1 h3
  rw [hn]; exact hS
theorem grown_setRow (w : World) (g : Nat) (cs : Array Value) : w.grownBy (w.setRow g cs) (some g) :=
  ⟨rfl, rfl, rfl, by simp [World.setRow], fun k _ hk => setRow_other w g k cs (fun e => hk (by rw [e]))⟩
theorem grown_setCell (w : World) (x k : Nat) (v : Value) : w.grownBy (w.setCell ⟨x, k, none⟩ v) (some x) :=
  ⟨rfl, rfl, rfl, by simp [World.setCell], fun j _ hj => heap_setCell_other w ⟨x, k, none⟩ j v (fun e => hj (by rw [e]))⟩
/-- a row of the call's own stands when a block ahead of its base is written -/
theorem row_far {w : World} {base size n x : Nat} {t : TypeId} {v : Value} {xs : List Value} (h : w.ownsRow base t size v n xs) (hx : x < base) (k : Nat) (u : Value) : (w.setCell ⟨x, k, none⟩ u).ownsRow base t size v n xs := by
  refine World.ownsRow.kept h (grown_setCell w x k u) ?_
  cases hv : v.ownBlock with
  | none => exact .inl rfl
  | some y => exact .inr (fun e => by injection e with e; have := (World.ownsRow.lt h y hv).1; omega)
theorem cell_far {w : World} {g k x j : Nat} {u v : Value} (h : w.cell? ⟨g, k, none⟩ = some u) (hne : g ≠ x) : (w.setCell ⟨x, j, none⟩ v).cell? ⟨g, k, none⟩ = some u :=
  (World.cell?_of_block (heap_setCell_other w ⟨x, j, none⟩ g v hne)).trans h
theorem below_set {B g : Nat} {w0 w : World} (h : Below B w0 w) (hg : B ≤ g) (k : Nat) (v : Value) : Below B w0 (w.setCell ⟨g, k, none⟩ v) := h.setCell (p := ⟨g, k, none⟩) hg v
end Go.Proofs.Ytacncbkcnhlpcaa.L
namespace Go.Proofs.Ytacncbkcnhlpcaa.T
open Go.RowKit L
set_option linter.unusedVariables false
set_option linter.unusedSimpArgs false

def numT : Tm → Int | .mk _ _ z _ => z
def argsT : Tm → List Tm | .mk _ _ _ l => l
/-! a term's Args slice (in blocks below B); a row of terms -/
mutual
def Ar (B : Nat) (w : World) : Tm → Option Addr → Nat → Nat → Prop
  | .mk _ _ _ l, a, n, c => n = l.length ∧ n ≤ c ∧ c ≤ maxLen ∧ (a = none → c = 0) ∧ (0 < n → ∃ b o, a = some ⟨b, o, none⟩ ∧ b < B ∧ Rw B w b o l)
def Rw (B : Nat) (w : World) (b : Nat) : Nat → List Tm → Prop
  | _, [] => True
  | o, t :: l => (∃ a n c, w.cell? ⟨b, o, none⟩ = some (.int .i64 (opT t)) ∧ w.cell? ⟨b, o + 1, none⟩ = some (.string (nameT t)) ∧ w.cell? ⟨b, o + 1 + 1, none⟩ = some (.int .i64 (numT t)) ∧ w.cell? ⟨b, o + 1 + 1 + 1, none⟩ = some (.slice a n c) ∧ Ar B w t a n c) ∧ Rw B w b (o + 4) l
end
/-- a slice that reads as these terms -/
def IsT (B : Nat) (w : World) (a : Option Addr) (n c : Nat) (l : List Tm) : Prop :=
  n = l.length ∧ n ≤ c ∧ c ≤ maxLen ∧ (a = none → c = 0) ∧ (0 < n → ∃ b o, a = some ⟨b, o, none⟩ ∧ b < B ∧ Rw B w b o l)
/-- the four cells of a term, and what they lead to -/
def At (B : Nat) (w : World) (b o : Nat) (t : Tm) (a : Option Addr) (n c : Nat) : Prop :=
  w.cell? ⟨b, o, none⟩ = some (.int .i64 (opT t)) ∧ w.cell? ⟨b, o + 1, none⟩ = some (.string (nameT t)) ∧ w.cell? ⟨b, o + 1 + 1, none⟩ = some (.int .i64 (numT t)) ∧ w.cell? ⟨b, o + 1 + 1 + 1, none⟩ = some (.slice a n c) ∧ Ar B w t a n c
theorem ar_isT {B : Nat} {w : World} {t : Tm} {a : Option Addr} {n c : Nat} : Ar B w t a n c ↔ IsT B w a n c (argsT t) := by
  cases t; rw [Ar]; rfl
theorem rw_cons {B : Nat} {w : World} {b o : Nat} {t : Tm} {l : List Tm} : Rw B w b o (t :: l) ↔ (∃ a n c, At B w b o t a n c) ∧ Rw B w b (o + 4) l := by
  rw [Rw]; rfl
theorem rw_at {B : Nat} {w : World} {b : Nat} : ∀ {l : List Tm} {o : Nat}, Rw B w b o l ↔ ∀ k (h : k < l.length), ∃ a n c, At B w b (o + k * 4) l[k] a n c
  | [], o => by rw [Rw]; simp
  | t :: l, o => by
    rw [rw_cons, rw_at]
    constructor
    · rintro ⟨h0, h1⟩ k hk
      cases k with
      | zero => simpa using h0
      | succ k =>
        have := h1 k (by simpa using hk)
        rw [show o + (k + 1) * 4 = o + 4 + k * 4 by omega]
        exact this
    · intro h
      refine ⟨by have := h 0 (by simp); rw [Nat.zero_mul, Nat.add_zero] at this; exact this, fun k hk => ?_⟩
      have := h (k + 1) (by simpa using hk)
      rw [show o + (k + 1) * 4 = o + 4 + k * 4 by omega] at this
      exact this
mutual
theorem Ar.bel {B : Nat} {w w' : World} (hb : Below B w w') : ∀ (t : Tm) {a : Option Addr} {n c : Nat}, Ar B w t a n c → Ar B w' t a n c
  | .mk o s z l, a, n, c, h => by
    rw [Ar] at h ⊢
    refine ⟨h.1, h.2.1, h.2.2.1, h.2.2.2.1, fun hn => ?_⟩
    obtain ⟨b, o, ha, hlt, hr⟩ := h.2.2.2.2 hn
    exact ⟨b, o, ha, hlt, Rw.bel hb hlt l hr⟩
theorem Rw.bel {B : Nat} {w w' : World} (hb : Below B w w') {b : Nat} (hlt : b < B) : ∀ (l : List Tm) {o : Nat}, Rw B w b o l → Rw B w' b o l
  | [], o, h => by rw [Rw]; trivial
  | t :: l, o, h => by
    rw [Rw] at h ⊢
    obtain ⟨⟨a, n, c, h0, h1, h2, h3, h4⟩, h5⟩ := h
    exact ⟨⟨a, n, c, (hb.cell (p := ⟨b, _, none⟩) hlt).trans h0, (hb.cell (p := ⟨b, _, none⟩) hlt).trans h1, (hb.cell (p := ⟨b, _, none⟩) hlt).trans h2, (hb.cell (p := ⟨b, _, none⟩) hlt).trans h3, Ar.bel hb t h4⟩, Rw.bel hb hlt l h5⟩
end
mutual
theorem Ar.mono {B B' : Nat} {w : World} (hB : B ≤ B') : ∀ (t : Tm) {a : Option Addr} {n c : Nat}, Ar B w t a n c → Ar B' w t a n c
  | .mk o s z l, a, n, c, h => by
    rw [Ar] at h ⊢
    refine ⟨h.1, h.2.1, h.2.2.1, h.2.2.2.1, fun hn => ?_⟩
    obtain ⟨b, o, ha, hlt, hr⟩ := h.2.2.2.2 hn
    exact ⟨b, o, ha, by omega, Rw.mono hB l hr⟩
theorem Rw.mono {B B' : Nat} {w : World} (hB : B ≤ B') {b : Nat} : ∀ (l : List Tm) {o : Nat}, Rw B w b o l → Rw B' w b o l
  | [], o, h => by rw [Rw]; trivial
  | t :: l, o, h => by
    rw [Rw] at h ⊢
    obtain ⟨⟨a, n, c, h0, h1, h2, h3, h4⟩, h5⟩ := h
    exact ⟨⟨a, n, c, h0, h1, h2, h3, Ar.mono hB t h4⟩, Rw.mono hB l h5⟩
end
theorem IsT.bel {B : Nat} {w w' : World} {a : Option Addr} {n c : Nat} {l : List Tm} (h : IsT B w a n c l) (hb : Below B w w') : IsT B w' a n c l :=
  ⟨h.1, h.2.1, h.2.2.1, h.2.2.2.1, fun hn => by
    obtain ⟨b, o, ha, hlt, hr⟩ := h.2.2.2.2 hn
    exact ⟨b, o, ha, hlt, hr.bel hb hlt l⟩⟩
theorem IsT.mono {B B' : Nat} {w : World} {a : Option Addr} {n c : Nat} {l : List Tm} (h : IsT B w a n c l) (hB : B ≤ B') : IsT B' w a n c l :=
  ⟨h.1, h.2.1, h.2.2.1, h.2.2.2.1, fun hn => by
    obtain ⟨b, o, ha, hlt, hr⟩ := h.2.2.2.2 hn
    exact ⟨b, o, ha, by omega, hr.mono hB l⟩⟩
/-- read in this world, wherever it lies -/
abbrev ArW (w : World) (t : Tm) (a : Option Addr) (n c : Nat) : Prop := Ar w.heap.size w t a n c
abbrev TsW (w : World) (a : Option Addr) (n c : Nat) (l : List Tm) : Prop := IsT w.heap.size w a n c l
theorem ArW.b {w w' : World} {t : Tm} {a : Option Addr} {n c : Nat} (h : ArW w t a n c) (hb : Below w.heap.size w w') : ArW w' t a n c := Ar.mono hb.size t (Ar.bel hb t h)
theorem TsW.b {w w' : World} {a : Option Addr} {n c : Nat} {l : List Tm} (h : TsW w a n c l) (hb : Below w.heap.size w w') : TsW w' a n c l := (h.bel hb).mono hb.size
theorem TsW.nil (w : World) : TsW w none 0 0 [] := ⟨rfl, Nat.le_refl _, Nat.zero_le _, fun _ => rfl, fun h => absurd h (by omega)⟩
theorem ArW.args {w : World} {t : Tm} {a : Option Addr} {n c : Nat} (h : ArW w t a n c) : TsW w a n c (argsT t) := ar_isT.1 h
theorem IsT.at {B : Nat} {w : World} {a : Option Addr} {n c k : Nat} {l : List Tm} (h : IsT B w a n c l) (hk : k < n) :
    ∃ b o t a' n' c', a = some ⟨b, o, none⟩ ∧ b < B ∧ w.cell? ⟨b, o + k * 4, none⟩ = some (.int .i64 (opT t)) ∧ w.cell? ⟨b, o + k * 4 + 1, none⟩ = some (.string (nameT t)) ∧ w.cell? ⟨b, o + k * 4 + 1 + 1, none⟩ = some (.int .i64 (numT t)) ∧ w.cell? ⟨b, o + k * 4 + 1 + 1 + 1, none⟩ = some (.slice a' n' c') ∧ l[k]? = some t ∧ Ar B w t a' n' c' := by
  obtain ⟨b, o, ha, hlt, hr⟩ := h.2.2.2.2 (by omega)
  have hk2 : k < l.length := by rw [← h.1]; exact hk
  obtain ⟨a', n', c', h0, h1, h2, h3, h4⟩ := rw_at.1 hr k hk2
  exact ⟨b, o, l[k], a', n', c', ha, hlt, h0, h1, h2, h3, List.getElem?_eq_getElem _, h4⟩

/-! a term as a value; put into a block -/
def tmV (o : Int) (s : ByteArray) (z : Int) (a : Option Addr) (n c : Nat) : Value := .agg #[.int .i64 o, .string s, .int .i64 z, .slice a n c]
def TBox (w : World) (g : Nat) (o : Int) (s : ByteArray) (z : Int) (a : Option Addr) (n c : Nat) : Prop := Blk w g #[.int .i64 o, .string s, .int .i64 z, .slice a n c] 33
theorem TBox.four {w : World} {g : Nat} {o : Int} {s : ByteArray} {z : Int} {a : Option Addr} {n c : Nat} (h : TBox w g o s z a n c) :
    w.cell? ⟨g, 0, none⟩ = some (.int .i64 o) ∧ w.cell? ⟨g, 1, none⟩ = some (.string s) ∧ w.cell? ⟨g, 1 + 1, none⟩ = some (.int .i64 z) ∧ w.cell? ⟨g, 1 + 1 + 1, none⟩ = some (.slice a n c) := ⟨Blk.cell h 0, Blk.cell h 1, Blk.cell h 2, Blk.cell h 3⟩
theorem TBox.b {w w' : World} {g : Nat} {o : Int} {s : ByteArray} {z : Int} {a : Option Addr} {n c : Nat} (h : TBox w g o s z a n c) (hb : Below w.heap.size w w') : TBox w' g o s z a n c := Blk.below h hb
theorem TBox.new (w : World) (o : Int) (s : ByteArray) (z : Int) (a : Option Addr) (n c : Nat) : TBox (w.alloc (.cells #[.int .i64 o, .string s, .int .i64 z, .slice a n c] 33)) w.heap.size o s z a n c := Blk.new w _ _
theorem box1 (w : World) (o : Int) (s : ByteArray) (z : Int) (a : Option Addr) (n c : Nat) :
    ∃ W, w.alloc (.cells #[.int .i64 o, .string s, .int .i64 z, .slice a n c] 33) = W ∧ Below w.heap.size w W ∧ W.heap.size = w.heap.size + 1 ∧ TBox W w.heap.size o s z a n c :=
  ⟨_, rfl, bel_alloc (Below.refl _ _) _, by simp, TBox.new w o s z a n c⟩
theorem box2 (w : World) (o : Int) (s : ByteArray) (z : Int) (a : Option Addr) (n c : Nat) (o' : Int) (s' : ByteArray) (z' : Int) (a' : Option Addr) (n' c' : Nat) :
    ∃ W, (w.alloc (.cells #[.int .i64 o, .string s, .int .i64 z, .slice a n c] 33)).alloc (.cells #[.int .i64 o', .string s', .int .i64 z', .slice a' n' c'] 33) = W ∧ Below w.heap.size w W ∧ W.heap.size = w.heap.size + 2 ∧ TBox W w.heap.size o s z a n c ∧ TBox W (w.heap.size + 1) o' s' z' a' n' c' := by
  refine ⟨_, rfl, bel_alloc (bel_alloc (Below.refl _ _) _) _, by simp, Blk.alloc (TBox.new w o s z a n c) _, ?_⟩
  have := TBox.new (w.alloc (.cells #[.int .i64 o, .string s, .int .i64 z, .slice a n c] 33)) o' s' z' a' n' c'
  rwa [World.size_alloc] at this
theorem box3 (w : World) (o : Int) (s : ByteArray) (z : Int) (a : Option Addr) (n c : Nat) (o' : Int) (s' : ByteArray) (z' : Int) (a' : Option Addr) (n' c' : Nat) (o2 : Int) (s2 : ByteArray) (z2 : Int) (a2 : Option Addr) (n2 c2 : Nat) :
    ∃ W, ((w.alloc (.cells #[.int .i64 o, .string s, .int .i64 z, .slice a n c] 33)).alloc (.cells #[.int .i64 o', .string s', .int .i64 z', .slice a' n' c'] 33)).alloc (.cells #[.int .i64 o2, .string s2, .int .i64 z2, .slice a2 n2 c2] 33) = W ∧ Below w.heap.size w W ∧ W.heap.size = w.heap.size + 3 ∧ TBox W w.heap.size o s z a n c ∧ TBox W (w.heap.size + 1) o' s' z' a' n' c' ∧ TBox W (w.heap.size + 1 + 1) o2 s2 z2 a2 n2 c2 := by
  obtain ⟨W2, h2, hb, hs, t1, t2⟩ := box2 w o s z a n c o' s' z' a' n' c'
  rw [h2]
  refine ⟨_, rfl, bel_alloc hb _, by simp [hs], Blk.alloc t1 _, Blk.alloc t2 _, ?_⟩
  have := TBox.new W2 o2 s2 z2 a2 n2 c2
  rwa [hs] at this
theorem drop_t {t : Tm} {l : List Tm} {k : Nat} (h : l[k]? = some t) : l.drop k = t :: l.drop (k + 1) := by
  obtain ⟨hk, rfl⟩ := List.getElem?_eq_some_iff.1 h
  exact List.drop_eq_getElem_cons hk
end Go.Proofs.Ytacncbkcnhlpcaa.T
namespace Go.Proofs.Ytacncbkcnhlpcaa.L
open Go.RowKit
set_option linter.unusedVariables false
set_option linter.unusedSimpArgs false

def isL (c : UInt8) : Bool := decide ((65 ≤ c.toNat ∧ c.toNat ≤ 90) ∨ (97 ≤ c.toNat ∧ c.toNat ≤ 122) ∨ c.toNat = 95)
def isD (c : UInt8) : Bool := decide (48 ≤ c.toNat ∧ c.toNat ≤ 57)
def isN (c : UInt8) : Bool := isL c || (isD c || decide (c.toNat = 39))
theorem isL_iff {c : UInt8} : isL c = true ↔ (65 ≤ c.toNat ∧ c.toNat ≤ 90) ∨ (97 ≤ c.toNat ∧ c.toNat ≤ 122) ∨ c.toNat = 95 := by simp [isL]
theorem isD_iff {c : UInt8} : isD c = true ↔ 48 ≤ c.toNat ∧ c.toNat ≤ 57 := by simp [isD]
theorem isN_iff {c : UInt8} : isN c = true ↔ isL c = true ∨ isD c = true ∨ c.toNat = 39 := by simp [isN]

def nameN : List UInt8 → Nat
  | [] => 0
  | c :: l => if isL c = true then 1 + (l.takeWhile isN).length else 0
theorem tw_le (p : UInt8 → Bool) (l : List UInt8) : (l.takeWhile p).length ≤ l.length := (List.takeWhile_prefix p).length_le
theorem nameN_le (l : List UInt8) : nameN l ≤ l.length := by
  cases l with
  | nil => exact Nat.le_refl _
  | cons c l => rw [nameN]; have := tw_le isN l; split <;> simp <;> omega
theorem letter_any (c : UInt8) (w : World) :
    Calls Try.prog 92 #[.int .u8 c.toNat] w fun e w' => e = .returned (.bool (isL c)) ∧ w = w' := by
  have hi := @isL_iff c
  have hr : Hid (isL c = decide ((65 ≤ c.toNat ∧ c.toNat ≤ 90) ∨ (97 ≤ c.toNat ∧ c.toNat ≤ 122) ∨ c.toNat = 95)) := rfl
  clear hi
  go_enter Try.func92, Try.ntmps92
  go_wp2
  all_goals
    go_ret
    exact ⟨oneB (by rw [hr.out, Bool.eq_iff_iff]; simp; omega), rfl⟩
theorem digit_any (c : UInt8) (w : World) :
    Calls Try.prog 93 #[.int .u8 c.toNat] w fun e w' => e = .returned (.bool (isD c)) ∧ w = w' := by
  have hr : Hid (isD c = decide (48 ≤ c.toNat ∧ c.toNat ≤ 57)) := rfl
  go_enter Try.func93, Try.ntmps93
  go_wp2
  all_goals
    go_ret
    exact ⟨oneB (by rw [hr.out, Bool.eq_iff_iff]; simp; omega), rfl⟩
/-- a scan over what makes up a name -/
def twN (l : List UInt8) : Nat := (l.takeWhile isN).length
theorem twN_step {c : UInt8} {l : List UInt8} (h : isN c = true) : twN (c :: l) = 1 + twN l := by simp [twN, h]; omega
theorem twN_stop {c : UInt8} {l : List UInt8} (h : isN c = false) : twN (c :: l) = 0 := by simp [twN, h]
theorem nameN_yes {c : UInt8} {l : List UInt8} (h : isL c = true) : nameN (c :: l) = 1 + twN l := by rw [nameN, if_pos h]; rfl
theorem nameN_no {c : UInt8} {l : List UInt8} (h : isL c = false) : nameN (c :: l) = 0 := by rw [nameN, if_neg (by simp [h])]
theorem isN_false {c : UInt8} (h : isN c = false) : isL c = false ∧ isD c = false ∧ c.toNat ≠ 39 := by
  simp only [isN, Bool.or_eq_false_iff, decide_eq_false_iff_not] at h; exact h

set_option maxHeartbeats 1000000 in
theorem name_any (s : ByteArray) (w : World) (hs : s.size ≤ 9223372036854775807) :
    Calls Try.prog 74 #[.string s] w fun e w' => e = .returned (.int .i64 (nameN s.data.toList)) ∧ w = w' := by
  by_cases hz : s.size = 0
  · have h1 : s.data.toList = [] := List.eq_nil_of_length_eq_zero (by rw [len_list]; exact hz)
    have hr : Hid ((0 : Int) = nameN s.data.toList) := by show _ = _; rw [h1]; rfl
    have h2 : s.toList = [] := by rw [ByteArray.toList_eq]; exact h1
    have h3 : s.toList.isEmpty = true := by rw [h2]; rfl
    clear h1 hz
    go_enter Try.func74, Try.ntmps74
    go_wp2
    go_ret
    exact ⟨one hr.out, rfl⟩
  · have hp : 0 < s.size := by omega
    have h1 : s.data.toList ≠ [] := fun e => by rw [← len_list, e] at hp; exact absurd hp (by simp)
    have h2 : ¬ s.toList = [] := by rw [ByteArray.toList_eq]; exact h1
    have h3 : s.toList.isEmpty = false := by simp [h2]
    have c0 := fun (w : World) => letter_any s[0] w
    have hd0 := drop_at s 0 hp
    rw [List.drop_zero, Nat.zero_add] at hd0
    clear hz h1
    cases hl : isL s[0] with
    | false =>
      have hr : Hid ((0 : Int) = nameN s.data.toList) := by show _ = _; rw [hd0, nameN_no hl]; rfl
      rw [hl] at c0
      clear hd0 hl
      go_enter Try.func74, Try.ntmps74
      go_wp2_with (go_at_call 92; ((with_reducible refine (c0 _).mono ?_); rintro e w' ⟨rfl, rfl⟩))
      go_ret
      exact ⟨one hr.out, rfl⟩
    | true =>
      have h0 : 1 + twN (s.data.toList.drop 1) = nameN s.data.toList := by conv => rhs; rw [hd0, nameN_yes hl]
      rw [hl] at c0
      clear hd0 hl
      have hy : ∀ k (h : k < s.size), isN s[k] = true → twN (s.data.toList.drop k) = 1 + twN (s.data.toList.drop (k + 1)) := fun k h hd => by rw [drop_at s k h, twN_step hd]
      have hn : ∀ k (h : k < s.size), isN s[k] = false → twN (s.data.toList.drop k) = 0 := fun k h hd => by rw [drop_at s k h, twN_stop hd]
      have he : ∀ k, s.size ≤ k → twN (s.data.toList.drop k) = 0 := fun k h => by rw [drop_end s k h]; rfl
      generalize nameN s.data.toList = R at *
      obtain ⟨F, hF⟩ : ∃ F : Nat → Nat, ∀ k, twN (s.data.toList.drop k) = F k := ⟨_, fun _ => rfl⟩
      simp only [hF] at hy hn he h0
      clear hF
      have Hy := Lib.hid hy
      have Hn := Lib.hid hn
      have He := Lib.hid he
      have H0 := Lib.hid h0
      clear hy hn he h0
      go_enter Try.func74, Try.ntmps74
      go_wp2_with (go_at_call 92; ((with_reducible refine (c0 _).mono ?_); rintro e w' ⟨rfl, rfl⟩))
      clear c0
      go_loop [3] (fun n => ∃ k : Nat, k ≤ s.size ∧ n = .int .i64 k ∧ Hid (k + F k = R)) (fun n => s.size - (intOf n).toNat)
      case atStart => exact ⟨1, by omega, rfl, H0.out⟩
      case round =>
        obtain ⟨k, hk, rfl, hR⟩ := hrel
        by_cases hlt : k < s.size
        · have c1 := fun (w : World) => letter_any s[k] w
          have c2 := fun (w : World) => digit_any s[k] w
          cases hd : isN s[k] with
          | true =>
            have hnew : Hid (k + 1 + F (k + 1) = R) := by have := Hy.out k hlt hd; have := hR.out; show _ = _; omega
            clear hR
            rcases isN_iff.1 hd with h | h | h
            · rw [h] at c1
              clear h hd
              go_wp2_with (first | (go_at_call 92; ((with_reducible refine (c1 _).mono ?_); rintro e w' ⟨rfl, rfl⟩)) | (go_at_call 93; ((with_reducible refine (c2 _).mono ?_); rintro e w' ⟨rfl, rfl⟩)))
              go_round
              case rel => exact ⟨k + 1, by omega, by go_num, hnew⟩
              case measure => simp [intOf]; omega
            · rw [h] at c2
              clear h hd
              generalize isL s[k] = B at *
              cases B
              all_goals
                go_wp2_with (first | (go_at_call 92; ((with_reducible refine (c1 _).mono ?_); rintro e w' ⟨rfl, rfl⟩)) | (go_at_call 93; ((with_reducible refine (c2 _).mono ?_); rintro e w' ⟨rfl, rfl⟩)))
                go_round
                case rel => exact ⟨k + 1, by omega, by go_num, hnew⟩
                case measure => simp [intOf]; omega
            · have h39 : ((s[k].toNat : Int) == 39) = true := beq_yes' (by omega)
              clear h hd
              generalize isL s[k] = B at *
              generalize isD s[k] = B2 at *
              cases B <;> cases B2
              all_goals
                go_wp2_with (first | (go_at_call 92; ((with_reducible refine (c1 _).mono ?_); rintro e w' ⟨rfl, rfl⟩)) | (go_at_call 93; ((with_reducible refine (c2 _).mono ?_); rintro e w' ⟨rfl, rfl⟩)))
                go_round
                case rel => exact ⟨k + 1, by omega, by go_num, hnew⟩
                case measure => simp [intOf]; omega
          | false =>
            have hnew : Hid ((k : Int) = R) := by have := Hn.out k hlt hd; have := hR.out; show _ = _; omega
            obtain ⟨h1, h2, h39⟩ := isN_false hd
            rw [h1] at c1
            rw [h2] at c2
            have h40 : ((s[k].toNat : Int) == 39) = false := beq_no' (by omega)
            clear hR hd h1 h2 h39
            go_wp2_with (first | (go_at_call 92; ((with_reducible refine (c1 _).mono ?_); rintro e w' ⟨rfl, rfl⟩)) | (go_at_call 93; ((with_reducible refine (c2 _).mono ?_); rintro e w' ⟨rfl, rfl⟩)))
            go_ret
            exact ⟨one hnew.out, rfl⟩
        · have hnew : Hid ((k : Int) = R) := by have := He.out k (by omega); have := hR.out; show _ = _; omega
          clear hR
          go_wp2
          go_ret
          exact ⟨one hnew.out, rfl⟩
/-- may the byte stand at the place: the first of a name, or a later one? -/
def okAt (first : Bool) (c : UInt8) : Bool := if first then isL c else isN c
def nmF : Bool → List UInt8 → Bool
  | _, [] => true
  | f, c :: l => okAt f c && nmF false l
def nameB (l : List UInt8) : Bool := nmF true l && (decide (0 < l.length) && decide (l.length ≤ 32))
theorem nmF_false (l : List UInt8) : nmF false l = decide (twN l = l.length) := by
  induction l with
  | nil => rfl
  | cons c l ih =>
    rw [nmF, ih, okAt, if_neg (by simp)]
    have := tw_le isN l
    cases h : isN c with
    | true => rw [twN_step h, Bool.true_and, List.length_cons]; congr 1; simp; omega
    | false => rw [twN_stop h]; simp
theorem nameB_of (l : List UInt8) : nameB l = (decide (nameN l = l.length) && (decide (0 < nameN l) && decide (nameN l ≤ 32))) := by
  cases l with
  | nil => rfl
  | cons c l =>
    unfold nameB
    rw [nmF, nmF_false, okAt, if_pos rfl]
    have := tw_le isN l
    cases h : isL c with
    | true =>
      rw [nameN_yes h, Bool.true_and, List.length_cons, Bool.eq_iff_iff]
      simp only [Bool.and_eq_true, decide_eq_true_eq]; omega
    | false => rw [nameN_no h]; simp
theorem isL_no {c : UInt8} (h : isL c = false) : c.toNat < 65 ∨ (90 < c.toNat ∧ c.toNat < 95) ∨ (95 < c.toNat ∧ c.toNat < 97) ∨ 122 < c.toNat := by
  have : ¬ isL c = true := by simp [h]
  rw [isL_iff] at this; omega

set_option maxHeartbeats 2000000 in
theorem baseName_any (s : ByteArray) (w : World) (hs : s.size ≤ 9223372036854775807) :
    Calls Try.prog 42 #[.string s] w fun e w' => e = .returned (.bool (nameB s.data.toList)) ∧ w = w' := by
  have hst : ∀ k (h : k < s.size), nmF (decide (k = 0)) (s.data.toList.drop k) = (okAt (decide (k = 0)) s[k] && nmF (decide (k + 1 = 0)) (s.data.toList.drop (k + 1))) := fun k h => by
    rw [drop_at s k h, nmF]; rfl
  have he : ∀ k, s.size ≤ k → nmF (decide (k = 0)) (s.data.toList.drop k) = true := fun k h => by rw [drop_end s k h, nmF]
  have hR : nameB s.data.toList = (nmF true s.data.toList && (decide (0 < s.size) && decide (s.size ≤ 32))) := by unfold nameB; rw [len_list]
  obtain ⟨F, hF⟩ : ∃ F : Nat → Bool, ∀ k, nmF (decide (k = 0)) (s.data.toList.drop k) = F k := ⟨_, fun _ => rfl⟩
  have h0 : nmF true s.data.toList = F 0 := hF 0
  rw [h0] at hR
  simp only [hF] at hst he
  generalize nameB s.data.toList = V at *
  have v0 : F 0 = false → V = false := fun h => by rw [hR, h]; rfl
  have v1 : F 0 = true → V = (decide (0 < s.size) && decide (s.size ≤ 32)) := fun h => by rw [hR, h]; rfl
  clear hF h0 hR
  have Hst := Lib.hid hst
  have He := Lib.hid he
  have V0 := Lib.hid v0
  have V1 := Lib.hid v1
  clear hst he v0 v1
  go_enter Try.func42, Try.ntmps42
  go_wp2
  go_loop [3] (fun n => ∃ k : Nat, k ≤ s.size ∧ n = .int .i64 k ∧ Hid (F k = F 0)) (fun n => s.size - (intOf n).toNat)
  case atStart => exact ⟨0, by omega, rfl, Lib.hid rfl⟩
  case round =>
    obtain ⟨k, hk, rfl, hR⟩ := hrel
    by_cases hlt : k < s.size
    · have hs1 := Lib.hid (Hst.out k hlt)
      cases hl : isL s[k] with
      | true =>
        have hok : okAt (decide (k = 0)) s[k] = true := by unfold okAt; split; exact hl; exact isN_iff.2 (.inl hl)
        have hnew : Hid (F (k + 1) = F 0) := by have := hs1.out; rw [hok, Bool.true_and] at this; show _ = _; rw [← this]; exact hR.out
        have hc := isL_iff.1 hl
        clear hs1 hok hl hR
        rcases hc with ⟨h1, h2⟩ | ⟨h1, h2⟩ | h1
        all_goals
          go_wp2
          go_round
          case rel => exact ⟨k + 1, by omega, by go_num, hnew⟩
          case measure => simp [intOf]; omega
      | false =>
        have hc := isL_no hl
        by_cases hk0 : k = 0
        · have hok : okAt (decide (k = 0)) s[k] = false := by unfold okAt; rw [if_pos (by simp [hk0])]; exact hl
          have hnew : Hid (false = V) := by
            have := hs1.out; rw [hok, Bool.false_and, hR.out] at this; exact (V0.out this).symm
          have n2 : ((s[k].toNat : Int) == 95) = false := beq_no' (by omega)
          have hk1 : ((k : Int) == 0) = true := beq_yes' (by omega)
          have hk2 : (k == 0) = true := by simp [hk0]
          clear hs1 hok hl hR
          subst hk0
          rcases hc with h1 | ⟨h1, h2⟩ | ⟨h1, h2⟩ | h1
          all_goals
            try have d1 : decide ((s[0].toNat : Int) ≤ 90) = false := decide_eq_false (by omega)
            try have d2 : decide ((s[0].toNat : Int) ≤ 122) = false := decide_eq_false (by omega)
            try have d3 : decide (65 ≤ (s[0].toNat : Int)) = false := decide_eq_false (by omega)
            try have d4 : decide (97 ≤ (s[0].toNat : Int)) = false := decide_eq_false (by omega)
            go_wp2
            go_ret
            exact ⟨oneB hnew.out, rfl⟩
        · have hk1 : ((k : Int) == 0) = false := beq_no' (by omega)
          have hk3 : (k == 0) = false := by simp [hk0]
          have hkd : decide (k = 0) = false := by simp [hk0]
          cases hn : isN s[k] with
          | true =>
            have hok : okAt (decide (k = 0)) s[k] = true := by unfold okAt; rw [if_neg (by simp [hk0])]; exact hn
            have hnew : Hid (F (k + 1) = F 0) := by have := hs1.out; rw [hok, Bool.true_and] at this; show _ = _; rw [← this]; exact hR.out
            have hd : s[k].toNat = 39 ∨ (48 ≤ s[k].toNat ∧ s[k].toNat ≤ 57) := by
              rcases isN_iff.1 hn with h | h | h
              · rw [hl] at h; cases h
              · exact .inr (isD_iff.1 h)
              · exact .inl h
            clear hs1 hok hl hR hn hc hkd hk0
            rcases hd with h1 | ⟨h1, h2⟩
            · have n1 : ((s[k].toNat : Int) != 39) = false := by simp; omega
              have n2 : ((s[k].toNat : Int) == 95) = false := beq_no' (by omega)
              have n3 : s[k].toNat < 65 := by omega
              clear h1
              go_wp2
              go_round
              case rel => exact ⟨k + 1, by omega, by go_num, hnew⟩
              case measure => simp [intOf]; omega
            · have n1 : ((s[k].toNat : Int) != 39) = true := by simp; omega
              have n2 : ((s[k].toNat : Int) == 95) = false := beq_no' (by omega)
              go_wp2
              go_round
              case rel => exact ⟨k + 1, by omega, by go_num, hnew⟩
              case measure => simp [intOf]; omega
          | false =>
            have hok : okAt (decide (k = 0)) s[k] = false := by unfold okAt; rw [if_neg (by simp [hk0])]; exact hn
            have hnew : Hid (false = V) := by
              have := hs1.out; rw [hok, Bool.false_and, hR.out] at this; exact (V0.out this).symm
            obtain ⟨_, hd, h39⟩ := isN_false hn
            have hd2 : s[k].toNat < 48 ∨ 57 < s[k].toNat := by
              have : ¬ isD s[k] = true := by simp [hd]
              rw [isD_iff] at this; omega
            have n1 : ((s[k].toNat : Int) != 39) = true := by simp; omega
            have n2 : ((s[k].toNat : Int) == 95) = false := beq_no' (by omega)
            clear hs1 hok hl hR hn hkd hk0 hd h39
            have hc2 : s[k].toNat < 48 ∨ (57 < s[k].toNat ∧ s[k].toNat < 65) ∨ (90 < s[k].toNat ∧ s[k].toNat < 95) ∨ (95 < s[k].toNat ∧ s[k].toNat < 97) ∨ 122 < s[k].toNat := by omega
            clear hc hd2
            rcases hc2 with h1 | ⟨h1, h2⟩ | ⟨h1, h2⟩ | ⟨h1, h2⟩ | h1
            all_goals
              try have d1 : decide ((s[k].toNat : Int) ≤ 90) = false := decide_eq_false (by omega)
              try have d2 : decide ((s[k].toNat : Int) ≤ 122) = false := decide_eq_false (by omega)
              try have d3 : decide (65 ≤ (s[k].toNat : Int)) = false := decide_eq_false (by omega)
              try have d4 : decide (97 ≤ (s[k].toNat : Int)) = false := decide_eq_false (by omega)
              go_wp2
              go_ret
              exact ⟨oneB hnew.out, rfl⟩
    · have hnew : F 0 = true := by rw [← hR.out]; exact He.out k (by omega)
      have hr := V1.out hnew
      clear hR hnew
      by_cases h1 : 0 < s.size
      · by_cases h2 : s.size ≤ 32
        · have hr2 : Hid (true = V) := by show _ = _; rw [hr]; simp [h1, h2]
          clear hr
          go_wp2
          go_ret
          exact ⟨oneB (by first | exact hr2.out | (rw [← hr2.out]; simp; omega)), rfl⟩
        · have hr2 : Hid (false = V) := by show _ = _; rw [hr]; simp [h2]
          clear hr
          go_wp2
          go_ret
          exact ⟨oneB (by first | exact hr2.out | (rw [← hr2.out]; simp; omega)), rfl⟩
      · have hr2 : Hid (false = V) := by show _ = _; rw [hr]; simp [h1]
        clear hr
        go_wp2
        go_ret
        exact ⟨oneB (by first | exact hr2.out | (rw [← hr2.out]; simp; omega)), rfl⟩

theorem Name_any (s : ByteArray) (w : World) (hs : s.size ≤ 9223372036854775807) :
    Calls Try.prog 39 #[.string s] w fun e w' => e = .returned (.bool (nameB s.data.toList)) ∧ w = w' := by
  have c1 := fun (w : World) => name_any s w hs
  have hR := nameB_of s.data.toList
  have hle := nameN_le s.data.toList
  rw [len_list] at hR hle
  generalize nameB s.data.toList = V at *
  generalize nameN s.data.toList = n at *
  by_cases h1 : n = s.size
  · have n1 : ((n : Int) == (s.size : Int)) = true := beq_yes' (by omega)
    have n2 : (n == s.size) = true := by simp [h1]
    by_cases h2 : 0 < n
    · by_cases h3 : n ≤ 32
      · have hr2 : Hid (true = V) := by show _ = _; rw [hR]; simp [h1]; omega
        clear hR h1
        go_enter Try.func39, Try.ntmps39
        go_wp2_with (go_at_call 74; ((with_reducible refine (c1 _).mono ?_); rintro e w' ⟨rfl, rfl⟩))
        go_ret
        exact ⟨oneB (by first | exact hr2.out | (rw [← hr2.out]; simp; omega)), rfl⟩
      · have hr2 : Hid (false = V) := by show _ = _; rw [hR]; simp; omega
        have h4 : ¬ (n : Int) ≤ 32 := by omega
        clear hR h1
        go_enter Try.func39, Try.ntmps39
        go_wp2_with (go_at_call 74; ((with_reducible refine (c1 _).mono ?_); rintro e w' ⟨rfl, rfl⟩))
        go_ret
        exact ⟨oneB (by first | exact hr2.out | (rw [← hr2.out]; simp; omega)), rfl⟩
    · have hr2 : Hid (false = V) := by show _ = _; rw [hR]; simp; omega
      have h4 : ¬ 0 < (n : Int) := by omega
      clear hR h1
      go_enter Try.func39, Try.ntmps39
      go_wp2_with (go_at_call 74; ((with_reducible refine (c1 _).mono ?_); rintro e w' ⟨rfl, rfl⟩))
      go_ret
      exact ⟨oneB (by first | exact hr2.out | (rw [← hr2.out]; simp; omega)), rfl⟩
  · have hr2 : Hid (false = V) := by show _ = _; rw [hR]; simp [h1]
    have n1 : ((n : Int) == (s.size : Int)) = false := beq_no' (by omega)
    have n2 : (n == s.size) = false := by simp [h1]
    clear hR h1
    go_enter Try.func39, Try.ntmps39
    go_wp2_with (go_at_call 74; ((with_reducible refine (c1 _).mono ?_); rintro e w' ⟨rfl, rfl⟩))
    go_ret
    exact ⟨oneB (by first | exact hr2.out | (rw [← hr2.out]; simp; omega)), rfl⟩
end Go.Proofs.Ytacncbkcnhlpcaa.L
namespace Go.Proofs.Ytacncbkcnhlpcaa.L
open Go.RowKit
set_option linter.unusedVariables false
set_option linter.unusedSimpArgs false

set_option maxHeartbeats 2000000 in
theorem Has_any (a : Option Addr) (n c : Nat) (X : List ByteArray) (s : ByteArray) (w : World) (hX : IsS w a n X) (hn : n ≤ 9223372036854775807) :
    Calls Try.prog 44 #[.slice a n c, .string s] w fun e w' => e = .returned (.bool (hasS X s)) ∧ w = w' := by
  have hst : ∀ k x, X[k]? = some x → hasS (X.drop k) s = ((x.toList == s.toList) || hasS (X.drop (k + 1)) s) := fun k x h => by
    obtain ⟨hk, rfl⟩ := List.getElem?_eq_some_iff.1 h
    unfold hasS; rw [List.drop_eq_getElem_cons hk, List.any_cons]
  have he : ∀ k, n ≤ k → hasS (X.drop k) s = false := fun k h => by rw [List.drop_eq_nil_of_le (by rw [← hX.1]; exact h)]; rfl
  have h0 : hasS X s = hasS (X.drop 0) s := rfl
  rw [h0]
  obtain ⟨F, hF⟩ : ∃ F : Nat → Bool, ∀ k, hasS (X.drop k) s = F k := ⟨_, fun _ => rfl⟩
  simp only [hF] at hst he ⊢
  clear hF h0
  have H1 := Lib.hid hX
  have Hst := Lib.hid hst
  have He := Lib.hid he
  clear hX hst he
  go_enter Try.func44, Try.ntmps44
  go_wp2
  go_loop [5] (fun i => ∃ (k : Nat), k ≤ n ∧ i = .int .i64 k ∧ Hid (F k = F 0)) (fun i => n - (intOf i).toNat)
  case atStart => exact ⟨0, by omega, rfl, Lib.hid rfl⟩
  case round =>
    obtain ⟨k, hk, rfl, hR⟩ := hrel
    by_cases hlt : k < n
    · obtain ⟨b, o, x, rfl, _, y1, hx, _⟩ := H1.out.at hlt
      have hs1 := Lib.hid (Hst.out k x hx)
      clear hx H1
      cases hb : x.toList == s.toList with
      | true =>
        have hnew : Hid (true = F 0) := by show _ = _; rw [← hR.out, hs1.out, hb]; rfl
        clear hR hs1
        go_wp2
        go_ret
        exact ⟨oneB hnew.out, rfl⟩
      | false =>
        have hnew : Hid (F (k + 1) = F 0) := by show _ = _; rw [← hR.out, hs1.out, hb]; rfl
        clear hR hs1
        have hb2 : (x.toList = s.toList) = False := by simpa using hb
        go_wp2
        go_round
        case rel => exact ⟨k + 1, by omega, by go_num, hnew⟩
        case measure => simp [intOf]; omega
    · have hnew : Hid (false = F 0) := by show _ = _; rw [← hR.out, He.out k (by omega)]
      clear hR
      go_wp2
      go_ret
      exact ⟨oneB hnew.out, rfl⟩

end Go.Proofs.Ytacncbkcnhlpcaa.L
namespace Go.Proofs.Ytacncbkcnhlpcaa.L
open Go.RowKit
set_option linter.unusedVariables false
set_option linter.unusedSimpArgs false

set_option maxHeartbeats 2000000 in
theorem Index_any (a : Option Addr) (n c : Nat) (X : List ByteArray) (s : ByteArray) (w : World) (hX : IsS w a n X) (hn : n ≤ 9223372036854775807) :
    Calls Try.prog 112 #[.slice a n c, .string s] w fun e w' => e = .returned (.int .i64 (idxI X s)) ∧ w = w' := by
  have hst : ∀ k x, X[k]? = some x → idxN (X.drop k) s = if (x.toList == s.toList) = true then 0 else idxN (X.drop (k + 1)) s + 1 := fun k x h => by
    obtain ⟨hk, rfl⟩ := List.getElem?_eq_some_iff.1 h
    unfold idxN; rw [List.drop_eq_getElem_cons hk, List.findIdx_cons]
    cases X[k].toList == s.toList <;> rfl
  have he : ∀ k, n ≤ k → idxN (X.drop k) s = 0 := fun k h => by rw [List.drop_eq_nil_of_le (by rw [← hX.1]; exact h)]; rfl
  have h0 : idxN X s = idxN (X.drop 0) s := rfl
  have hR1 : ∀ k, k < n → idxN (X.drop 0) s = k → (k : Int) = idxI X s := fun k h g => by unfold idxI; rw [h0, g, if_pos (by rw [← hX.1]; exact h)]
  have hR2 : idxN (X.drop 0) s = n → (-1 : Int) = idxI X s := fun g => by unfold idxI; rw [h0, g, if_neg (by rw [← hX.1]; omega)]
  generalize idxI X s = R at *
  obtain ⟨F, hF⟩ : ∃ F : Nat → Nat, ∀ k, idxN (X.drop k) s = F k := ⟨_, fun _ => rfl⟩
  simp only [hF] at hst he hR1 hR2
  clear hF h0
  have H1 := Lib.hid hX
  have Hst := Lib.hid hst
  have He := Lib.hid he
  have HR1 := Lib.hid hR1
  have HR2 := Lib.hid hR2
  clear hX hst he hR1 hR2
  go_enter Try.func112, Try.ntmps112
  go_wp2
  go_loop [8] (fun i => ∃ (k : Nat), k ≤ n ∧ i = .int .i64 k ∧ Hid (F 0 = k + F k)) (fun i => n - (intOf i).toNat)
  case atStart => exact ⟨0, by omega, rfl, Lib.hid (by omega)⟩
  case round =>
    obtain ⟨k, hk, rfl, hR⟩ := hrel
    by_cases hlt : k < n
    · obtain ⟨b, o, x, rfl, _, y1, hx, _⟩ := H1.out.at hlt
      have hs1 := Hst.out k x hx
      clear hx H1
      cases hb : s.toList == x.toList with
      | true =>
        have hnew : Hid ((k : Int) = R) := HR1.out k hlt (by rw [hR.out, hs1, if_pos (by rw [beq_iff_eq] at hb ⊢; exact hb.symm)]; rfl)
        clear hR hs1
        go_wp2
        go_ret
        exact ⟨one hnew.out, rfl⟩
      | false =>
        have hnew : Hid (F 0 = k + 1 + F (k + 1)) := by
          show _ = _
          rw [hR.out, hs1, if_neg (by intro h; rw [beq_iff_eq] at h; rw [h] at hb; simp at hb)]; omega
        clear hR hs1
        have hb2 : (s.toList = x.toList) = False := by simpa using hb
        go_wp2
        go_round
        case rel => exact ⟨k + 1, by omega, by go_num, hnew⟩
        case measure => simp [intOf]; omega
    · have hnew : Hid ((-1 : Int) = R) := HR2.out (by rw [hR.out, He.out k (by omega)]; omega)
      clear hR
      go_wp2
      go_ret
      exact ⟨one hnew.out, rfl⟩
end Go.Proofs.Ytacncbkcnhlpcaa.L
namespace Go.Proofs.Ytacncbkcnhlpcaa.L
open Go.RowKit Go.Maps Go.WideMaps
set_option linter.unusedVariables false
set_option linter.unusedSimpArgs false
set_option maxRecDepth 100000

def WD : List (List UInt8) := [[116, 114, 117, 101], [102, 97, 108, 115, 101], [115, 111, 114, 116], [102, 117, 110], [112, 114, 101, 100], [97, 120, 105, 111, 109], [116, 104, 101, 111, 114, 101, 109], [112, 114, 111, 111, 102], [113, 101, 100], [97, 115], [98, 97, 99, 107], [105, 110, 116, 114, 111], [115, 112, 108, 105, 116], [108, 101, 102, 116], [114, 105, 103, 104, 116], [101, 120, 97, 99, 116], [97, 115, 115, 117, 109, 101], [97, 112, 112, 108, 121], [119, 105, 116, 110, 101, 115, 115], [99, 97, 115, 101, 115], [104, 97, 118, 101], [99, 111, 110, 116, 114, 97], [114, 101, 102, 108], [115, 119, 97, 112], [112, 114, 111, 112], [97, 114, 105, 116, 104], [109, 105, 120, 101, 100], [97, 117, 116, 111], [99, 111, 110, 103, 114], [116, 114, 121], [108, 111, 111, 112], [101, 97, 99, 104], [115, 107, 105, 112], [102, 97, 105, 108]]
def WDb : List ByteArray := WD.map BA
def wordB (l : List UInt8) : Bool := decide (l ∈ WD)
theorem law : Keyed Try.prog 9 := string_keyed Try.underlying9
theorem zeroB (w : World) : (zeroValue 4).run Try.prog w = .ok (.bool false) w := by kernel_rfl
theorem grown_trans {a b c : World} {row : Option Nat} (h : a.grownBy b row) (k : b.grownBy c row) : a.grownBy c row :=
  ⟨k.os.trans h.os, k.tape.trans h.tape, k.output.trans h.output, Nat.le_trans h.size k.size, fun i hi hne => (k.block i (Nat.lt_of_lt_of_le hi h.size) hne).trans (h.block i hi hne)⟩
theorem plainElem_bool_inv {P : Program} {e : TypeId} (he : P.underlying e = some .bool) {v : Value} {z : DataW Unit × List MemPlace} (h : plainElem P e v = some z) : ∃ a, v = .bool a ∧ z = (.lit (.bool a), []) := by
  unfold plainElem at h
  rw [he] at h
  cases v <;> simp at h
  exact ⟨_, rfl, h.symm⟩
theorem fill (g : Nat) (X : List ByteArray) : ∀ (W : World) (n : Nat) (D : DataW Unit), (∀ x ∈ X, x.size ≤ 100) → n + X.length < 1000 → W.ownsMap Try.prog 9 (plainElem Try.prog 4) g n D → IsMap D →
    ∃ Ws : Nat → World, Ws 0 = W ∧ (∀ i (h : i < X.length), (Instr.mapUpdate 108 (.map (some g)) (.string X[i]) (.bool true)).run Try.prog (Ws i) = .ok () (Ws (i + 1))) ∧
      ∃ n' D', (Ws X.length).ownsMap Try.prog 9 (plainElem Try.prog 4) g n' D' ∧ IsMap D' ∧ (∀ l z, D'.atKey (.string l) z = if l ∈ X.map (·.data.toList) then .lit (.bool true) else D.atKey (.string l) z) ∧ W.grownBy (Ws X.length) (some g) := by
  induction X with
  | nil =>
    intro W n D _ _ ho hD
    exact ⟨fun _ => W, rfl, fun i h => absurd h (by simp), n, D, ho, hD, fun l z => by simp, World.grownBy.refl _ _⟩
  | cons x X ih =>
    intro W n D hx hn ho hD
    have hk : keyOf Try.prog 9 (.string x) = some (.string x.data.toList) := keyOf_string_mk Try.underlying9 (Nat.le_trans (hx x (List.mem_cons_self ..)) (by unfold maxLen; omega))
    obtain ⟨W1, hrun, ho1, hg1⟩ := ho.update law Try.underlying108 (by simp at hn; unfold maxLen; omega) hk (plainElem_bool Try.underlying4 true)
    have hD1 : IsMap (D.put (.string x.data.toList) (.lit (.bool true))) := by
      obtain ⟨es, rfl⟩ := hD
      exact ⟨_, rfl⟩
    obtain ⟨Ws, h0, hr, n', D', ho', hD', hat, hg'⟩ := ih W1 (n + 1) _ (fun y hy => hx y (List.mem_cons_of_mem _ hy)) (by simp at hn; omega) ho1 hD1
    refine ⟨fun i => match i with | 0 => W | i + 1 => Ws i, rfl, fun i h => ?_, n', D', ho', hD', fun l z => ?_, grown_trans hg1 hg'⟩
    · cases i with
      | zero => show _ = Result.ok () (Ws 0); rw [h0]; exact hrun
      | succ i => exact hr i (by simpa using h)
    · rw [hat]
      by_cases hl : l ∈ X.map (·.data.toList)
      · rw [if_pos hl, if_pos (by simp only [List.map_cons, List.mem_cons]; exact .inr hl)]
      · rw [if_neg hl]
        by_cases he : l = x.data.toList
        · rw [if_pos (by simp [he]), he, atKey_put_same hD (by trivial)]
        · rw [if_neg (by simp only [List.map_cons, List.mem_cons]; exact fun h => h.elim he hl), atKey_put_other (by simpa using he)]

def LooksUp (g : Nat) (w : World) : Prop := ∀ s : ByteArray, s.size ≤ maxLen → (Instr.lookup 108 (.map (some g)) (.string s) false).run Try.prog w = .ok (.bool (wordB s.data.toList)) w
set_option maxHeartbeats 2000000 in
theorem words_any (w : World) :
    Calls Try.prog 75 #[] w fun e w' => e = .returned (.map (some w.heap.size)) ∧ Below w.heap.size w w' ∧ LooksUp w.heap.size w' := by
  have hmm := @run_makeMap Try.prog
  obtain ⟨Ws, h0, hr, n', D', ho, hD, hat, hg⟩ := fill w.heap.size WDb (w.alloc (.map #[] 0)) 0 (.map []) (by decide) (by decide) (World.ownsMap_made _ _ _ _) ⟨[], rfl⟩
  have r0 : (Instr.mapUpdate 108 (.map (some w.heap.size)) (.string ⟨#[116, 114, 117, 101]⟩) (.bool true)).run Try.prog (w.alloc (.map #[] 0)) = .ok () (Ws 1) := by have := hr 0 (by decide); rw [h0] at this; exact this
  have r1 : (Instr.mapUpdate 108 (.map (some w.heap.size)) (.string ⟨#[102, 97, 108, 115, 101]⟩) (.bool true)).run Try.prog (Ws 1) = .ok () (Ws 2) := hr 1 (by decide)
  have r2 : (Instr.mapUpdate 108 (.map (some w.heap.size)) (.string ⟨#[115, 111, 114, 116]⟩) (.bool true)).run Try.prog (Ws 2) = .ok () (Ws 3) := hr 2 (by decide)
  have r3 : (Instr.mapUpdate 108 (.map (some w.heap.size)) (.string ⟨#[102, 117, 110]⟩) (.bool true)).run Try.prog (Ws 3) = .ok () (Ws 4) := hr 3 (by decide)
  have r4 : (Instr.mapUpdate 108 (.map (some w.heap.size)) (.string ⟨#[112, 114, 101, 100]⟩) (.bool true)).run Try.prog (Ws 4) = .ok () (Ws 5) := hr 4 (by decide)
  have r5 : (Instr.mapUpdate 108 (.map (some w.heap.size)) (.string ⟨#[97, 120, 105, 111, 109]⟩) (.bool true)).run Try.prog (Ws 5) = .ok () (Ws 6) := hr 5 (by decide)
  have r6 : (Instr.mapUpdate 108 (.map (some w.heap.size)) (.string ⟨#[116, 104, 101, 111, 114, 101, 109]⟩) (.bool true)).run Try.prog (Ws 6) = .ok () (Ws 7) := hr 6 (by decide)
  have r7 : (Instr.mapUpdate 108 (.map (some w.heap.size)) (.string ⟨#[112, 114, 111, 111, 102]⟩) (.bool true)).run Try.prog (Ws 7) = .ok () (Ws 8) := hr 7 (by decide)
  have r8 : (Instr.mapUpdate 108 (.map (some w.heap.size)) (.string ⟨#[113, 101, 100]⟩) (.bool true)).run Try.prog (Ws 8) = .ok () (Ws 9) := hr 8 (by decide)
  have r9 : (Instr.mapUpdate 108 (.map (some w.heap.size)) (.string ⟨#[97, 115]⟩) (.bool true)).run Try.prog (Ws 9) = .ok () (Ws 10) := hr 9 (by decide)
  have r10 : (Instr.mapUpdate 108 (.map (some w.heap.size)) (.string ⟨#[98, 97, 99, 107]⟩) (.bool true)).run Try.prog (Ws 10) = .ok () (Ws 11) := hr 10 (by decide)
  have r11 : (Instr.mapUpdate 108 (.map (some w.heap.size)) (.string ⟨#[105, 110, 116, 114, 111]⟩) (.bool true)).run Try.prog (Ws 11) = .ok () (Ws 12) := hr 11 (by decide)
  have r12 : (Instr.mapUpdate 108 (.map (some w.heap.size)) (.string ⟨#[115, 112, 108, 105, 116]⟩) (.bool true)).run Try.prog (Ws 12) = .ok () (Ws 13) := hr 12 (by decide)
  have r13 : (Instr.mapUpdate 108 (.map (some w.heap.size)) (.string ⟨#[108, 101, 102, 116]⟩) (.bool true)).run Try.prog (Ws 13) = .ok () (Ws 14) := hr 13 (by decide)
  have r14 : (Instr.mapUpdate 108 (.map (some w.heap.size)) (.string ⟨#[114, 105, 103, 104, 116]⟩) (.bool true)).run Try.prog (Ws 14) = .ok () (Ws 15) := hr 14 (by decide)
  have r15 : (Instr.mapUpdate 108 (.map (some w.heap.size)) (.string ⟨#[101, 120, 97, 99, 116]⟩) (.bool true)).run Try.prog (Ws 15) = .ok () (Ws 16) := hr 15 (by decide)
  have r16 : (Instr.mapUpdate 108 (.map (some w.heap.size)) (.string ⟨#[97, 115, 115, 117, 109, 101]⟩) (.bool true)).run Try.prog (Ws 16) = .ok () (Ws 17) := hr 16 (by decide)
  have r17 : (Instr.mapUpdate 108 (.map (some w.heap.size)) (.string ⟨#[97, 112, 112, 108, 121]⟩) (.bool true)).run Try.prog (Ws 17) = .ok () (Ws 18) := hr 17 (by decide)
  have r18 : (Instr.mapUpdate 108 (.map (some w.heap.size)) (.string ⟨#[119, 105, 116, 110, 101, 115, 115]⟩) (.bool true)).run Try.prog (Ws 18) = .ok () (Ws 19) := hr 18 (by decide)
  have r19 : (Instr.mapUpdate 108 (.map (some w.heap.size)) (.string ⟨#[99, 97, 115, 101, 115]⟩) (.bool true)).run Try.prog (Ws 19) = .ok () (Ws 20) := hr 19 (by decide)
  have r20 : (Instr.mapUpdate 108 (.map (some w.heap.size)) (.string ⟨#[104, 97, 118, 101]⟩) (.bool true)).run Try.prog (Ws 20) = .ok () (Ws 21) := hr 20 (by decide)
  have r21 : (Instr.mapUpdate 108 (.map (some w.heap.size)) (.string ⟨#[99, 111, 110, 116, 114, 97]⟩) (.bool true)).run Try.prog (Ws 21) = .ok () (Ws 22) := hr 21 (by decide)
  have r22 : (Instr.mapUpdate 108 (.map (some w.heap.size)) (.string ⟨#[114, 101, 102, 108]⟩) (.bool true)).run Try.prog (Ws 22) = .ok () (Ws 23) := hr 22 (by decide)
  have r23 : (Instr.mapUpdate 108 (.map (some w.heap.size)) (.string ⟨#[115, 119, 97, 112]⟩) (.bool true)).run Try.prog (Ws 23) = .ok () (Ws 24) := hr 23 (by decide)
  have r24 : (Instr.mapUpdate 108 (.map (some w.heap.size)) (.string ⟨#[112, 114, 111, 112]⟩) (.bool true)).run Try.prog (Ws 24) = .ok () (Ws 25) := hr 24 (by decide)
  have r25 : (Instr.mapUpdate 108 (.map (some w.heap.size)) (.string ⟨#[97, 114, 105, 116, 104]⟩) (.bool true)).run Try.prog (Ws 25) = .ok () (Ws 26) := hr 25 (by decide)
  have r26 : (Instr.mapUpdate 108 (.map (some w.heap.size)) (.string ⟨#[109, 105, 120, 101, 100]⟩) (.bool true)).run Try.prog (Ws 26) = .ok () (Ws 27) := hr 26 (by decide)
  have r27 : (Instr.mapUpdate 108 (.map (some w.heap.size)) (.string ⟨#[97, 117, 116, 111]⟩) (.bool true)).run Try.prog (Ws 27) = .ok () (Ws 28) := hr 27 (by decide)
  have r28 : (Instr.mapUpdate 108 (.map (some w.heap.size)) (.string ⟨#[99, 111, 110, 103, 114]⟩) (.bool true)).run Try.prog (Ws 28) = .ok () (Ws 29) := hr 28 (by decide)
  have r29 : (Instr.mapUpdate 108 (.map (some w.heap.size)) (.string ⟨#[116, 114, 121]⟩) (.bool true)).run Try.prog (Ws 29) = .ok () (Ws 30) := hr 29 (by decide)
  have r30 : (Instr.mapUpdate 108 (.map (some w.heap.size)) (.string ⟨#[108, 111, 111, 112]⟩) (.bool true)).run Try.prog (Ws 30) = .ok () (Ws 31) := hr 30 (by decide)
  have r31 : (Instr.mapUpdate 108 (.map (some w.heap.size)) (.string ⟨#[101, 97, 99, 104]⟩) (.bool true)).run Try.prog (Ws 31) = .ok () (Ws 32) := hr 31 (by decide)
  have r32 : (Instr.mapUpdate 108 (.map (some w.heap.size)) (.string ⟨#[115, 107, 105, 112]⟩) (.bool true)).run Try.prog (Ws 32) = .ok () (Ws 33) := hr 32 (by decide)
  have r33 : (Instr.mapUpdate 108 (.map (some w.heap.size)) (.string ⟨#[102, 97, 105, 108]⟩) (.bool true)).run Try.prog (Ws 33) = .ok () (Ws 34) := hr 33 (by decide)
  have hlook : Hid (LooksUp w.heap.size (Ws 34)) := by
    intro s hs
    obtain ⟨v, ps, hrun, hv⟩ := ho.lookup law Try.underlying108 (zeroB _) (plainElem_bool Try.underlying4 false) (keyOf_string_mk Try.underlying9 hs)
    obtain ⟨c, rfl, hc⟩ := plainElem_bool_inv Try.underlying4 hv
    have hlen : WDb.length = 34 := rfl
    rw [hlen] at hrun
    rw [hrun]
    have e := hat s.data.toList (.lit (.bool false))
    have hWD : WDb.map (·.data.toList) = WD := rfl
    rw [hWD] at e
    simp only [Prod.mk.injEq] at hc
    rw [hc.1] at e
    unfold wordB
    by_cases hm : s.data.toList ∈ WD
    · rw [if_pos hm] at e
      injection e with e; injection e with e
      rw [e]; simp [hm]
    · rw [if_neg hm] at e
      have e : (DataW.lit (Lit.bool c) : DataW Unit) = .lit (.bool false) := e
      injection e with e; injection e with e
      rw [e]; simp [hm]
  have hB : Hid (Below w.heap.size w (Ws 34)) := (bel_alloc (Below.refl _ _) (.map #[] 0)).grown hg (by simp) (fun k hk => by injection hk with hk; omega)
  clear h0 hr ho hD hat hg
  go_enter Try.func75, Try.ntmps75
  go_wp2
  go_ret
  exact ⟨rfl, hB.out, hlook.out⟩
theorem word_size {l : List UInt8} (h : wordB l = true) : 2 ≤ l.length ∧ l.length ≤ 7 := by
  have h := of_decide_eq_true (show decide _ = true from h)
  have : ∀ x ∈ WD, 2 ≤ x.length ∧ x.length ≤ 7 := by decide
  exact this l h
theorem word_name {l : List UInt8} (h : wordB l = true) : nameB l = true := by
  have h := of_decide_eq_true (show decide _ = true from h)
  have : ∀ x ∈ WD, nameB x = true := by decide +kernel
  exact this l h

theorem Word_all (s : ByteArray) (w : World) :
    Calls Try.prog 40 #[.string s] w fun e w' => e = .returned (.bool (wordB s.data.toList)) ∧ Below w.heap.size w w' := by
  have hw := @word_size s.data.toList
  rw [len_list] at hw
  by_cases h1 : 2 ≤ s.size
  · by_cases h2 : s.size ≤ 7
    · have c1 := fun (w : World) => words_any w
      have hml : s.size ≤ maxLen := by unfold maxLen; omega
      clear hw
      go_enter Try.func40, Try.ntmps40
      go_wp2_with (go_at_call 75; ((with_reducible refine (c1 _).mono ?_); rintro e w1 ⟨rfl, hb1, hl⟩; have hl2 := hl s hml))
      go_ret
      exact ⟨rfl, hb1⟩
    · have hf : Hid (false = wordB s.data.toList) := by
        show _ = _
        cases hc : wordB s.data.toList with
        | true => have := hw hc; omega
        | false => rfl
      have h3 : ¬ (s.size : Int) ≤ 7 := by omega
      clear hw
      go_enter Try.func40, Try.ntmps40
      go_wp2
      go_ret
      exact ⟨oneB hf.out, Below.refl _ _⟩
  · have hf : Hid (false = wordB s.data.toList) := by
      show _ = _
      cases hc : wordB s.data.toList with
      | true => have := hw hc; omega
      | false => rfl
    have h3 : ¬ 2 ≤ (s.size : Int) := by omega
    clear hw
    go_enter Try.func40, Try.ntmps40
    go_wp2
    go_ret
    exact ⟨oneB hf.out, Below.refl _ _⟩

theorem Word_any (s : ByteArray) (w : World) (hs : s.size ≤ 9223372036854775000) :
    Calls Try.prog 40 #[.string s] w fun e w' => e = .returned (.bool (wordB s.data.toList)) ∧ Below w.heap.size w w' := Word_all s w
noncomputable def WDc : Array Value := (WD.map fun l => Value.string (BA l)).toArray
theorem WDc_at {w : World} {g : Nat} {f : Nat × Nat} (h : w.heap[g]? = some (.cells WDc 9 f)) : RowS w g 0 WDb := fun k hk => by
  rw [cell_of_row w g _ _ _ _ h]
  have : k < WD.length := by simpa [WDb] using hk
  simp [WDc, WDb, this]
theorem any_word (s : ByteArray) : hasS WDb s = wordB s.data.toList := by
  unfold wordB WDb hasS
  rw [Bool.eq_iff_iff, List.any_eq_true, decide_eq_true_eq]
  simp only [List.mem_map, beq_iff_eq]
  constructor
  · rintro ⟨x, ⟨l, hl, rfl⟩, h⟩
    rw [BA_toList, ByteArray.toList_eq] at h
    rw [← h]; exact hl
  · intro h
    exact ⟨_, ⟨_, h, rfl⟩, by rw [BA_toList, ByteArray.toList_eq]⟩
/-- what a call to Has over the words' own block returns -/
theorem Has_words (s : ByteArray) (w : World) :
    Calls Try.prog 44 #[.slice (some ⟨w.heap.size, 0, none⟩) 34 34, .string s] (w.alloc (.cells WDc 9)) fun e w' => e = .returned (.bool (wordB s.data.toList)) ∧ w.alloc (.cells WDc 9) = w' := by
  have hr := WDc_at (heap_alloc_new w (.cells WDc 9))
  have ch := Has_any (some ⟨w.heap.size, 0, none⟩) 34 34 WDb s (w.alloc (.cells WDc 9)) ⟨rfl, fun _ => ⟨_, _, rfl, by simp, hr⟩⟩ (by decide)
  rw [any_word] at ch
  exact ch
end Go.Proofs.Ytacncbkcnhlpcaa.L
namespace Go.Proofs.Ytacncbkcnhlpcaa.T
open Go.RowKit L
set_option linter.unusedVariables false
set_option linter.unusedSimpArgs false

theorem size_arg {t x : Tm} (h : x ∈ argsT t) : size x < size t := by
  cases t with
  | mk o s z l =>
    rw [size]
    have : ∀ l : List Tm, x ∈ l → size x ≤ sizes l := fun l => by
      induction l with
      | nil => intro h; cases h
      | cons y l ih =>
        intro h
        rw [sizes]
        rcases List.mem_cons.1 h with rfl | h
        · omega
        · have := ih h; omega
    have := this l h
    omega
theorem Tm.ind {P : Tm → Prop} (h : ∀ t, (∀ x ∈ argsT t, P x) → P t) : ∀ t, P t := by
  have : ∀ k t, size t ≤ k → P t := by
    intro k
    induction k with
    | zero => intro t ht; have := size_pos t; omega
    | succ k ih => intro t ht; exact h t (fun x hx => ih x (by have := size_arg hx; omega))
  exact fun t => this _ t (Nat.le_refl _)
end Go.Proofs.Ytacncbkcnhlpcaa.T
namespace Go.Proofs.Ytacncbkcnhlpcaa.L
open Go.RowKit Go.Deep Go.ChangeShapes Go.WideShapes
set_option linter.unusedVariables false

/-- the texts of a list are of a size that Go's len can tell -/
def sizedS (X : List ByteArray) : Prop := ∀ x ∈ X, x.size ≤ 9223372036854775807
theorem strs_open {H : Type} {enc : TypeId × Value → H} {W : World} {a : Option Addr} {n c : Nat} {d : DataW H} {p : List MemPlace} {sp : Nat → Bool}
    (h : DataW.Trod enc Try.prog W 0 sp true 22 (.slice a n c) d p) : ∃ X, n ≤ 9223372036854775807 ∧ SlS W a n c X ∧ sizedS X := by
  obtain ⟨fuel, hf⟩ := h
  rcases open_strings Try.underlying22 Try.underlying9 (by kernel_rfl) hf with ⟨hcs, _⟩ | ⟨ad, len, cap, ss, hcs, _, hl, hmx, hss, _, hat, hsz⟩
  · simp [Value.cells] at hcs
    obtain ⟨rfl, rfl, rfl⟩ := hcs
    exact ⟨[], by omega, ⟨IsS.nil _ _, by omega, fun _ => rfl⟩, fun x hx => absurd hx (by simp)⟩
  · simp [Value.cells] at hcs
    obtain ⟨rfl, rfl, rfl⟩ := hcs
    have hle : n ≤ ss.length := by rw [hss]; split <;> omega
    have hlen : (ss.take n).length = n := by rw [List.length_take]; omega
    refine ⟨ss.take n, by unfold maxLen at hmx; omega, ⟨⟨hlen.symm, fun hn => ?_⟩, hl, fun h => by cases h⟩, fun x hx => ?_⟩
    · obtain ⟨b, off, spot⟩ := ad
      have h0 := hat 0 (by omega)
      have hspot : spot = none := by simpa [Addr.add] using World.cell?_spot h0
      subst hspot
      refine ⟨b, off, rfl, ?_, fun i hi => ?_⟩
      · rw [Go.WideShapes.add_plain] at h0
        exact World.block_lt_of_cell? _ _ h0
      · have hi2 : i < ss.length := by omega
        have := hat i hi2
        rw [Go.WideShapes.add_plain] at this
        rw [this, List.getElem_take, List.getD_eq_getElem?_getD, List.getElem?_eq_getElem hi2]; rfl
    · have := hsz x (List.mem_of_mem_take hx)
      unfold maxLen at this; omega
theorem strs_open_all {H : Type} {enc : TypeId × Value → H} {W : World} {a : Option Addr} {n c : Nat} {d : DataW H} {p : List MemPlace}
    (h : DataW.Trod enc Try.prog W 0 (fun _ => true) true 22 (.slice a n c) d p) : ∃ X, n ≤ 9223372036854775807 ∧ SlS W a n c X ∧ sizedS X := strs_open h
end Go.Proofs.Ytacncbkcnhlpcaa.L
