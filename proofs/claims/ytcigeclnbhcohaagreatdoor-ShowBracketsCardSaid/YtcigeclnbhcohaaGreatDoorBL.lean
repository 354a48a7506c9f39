/-
  What is proved: basics: endings, worlds that grow, texts as bytes, slices read as lists of texts, rows of the call's own. No function of the program is named.
  What is proved: terms in plain words: size, depth, parts, equality, order, replacement; that the order is a total one; what follows of replacement. No program is spoken of.
  What is proved: terms in plain words: the depth counted up to a bound, the errors, the parts without repetition, the names in order. No program is spoken of.
  What is proved: blocks of the call's own, known whole; what a store into one leaves of what is read elsewhere.
  What is proved: terms in memory: how a slice of terms reads as a list of trees, what keeps it; a term put into a block.
  What is proved: rows of terms that a call makes itself: appended to, made, stored into, read.
  What is proved: terms in new memory: each in blocks of its own, so that a write into one leaves the others.
  What is proved: what other texts share with LibTe (taken out of it, for seats that lack the functions of its rest).
  What is proved: terms read in blocks of a given kind; rows of terms that grow by appends between calls that make terms.
  What is proved: what the document's count of a term's parts returns, which stops behind a bound.
-/
import Derived.Test.YtcigeclnbhcohaaGreatDoorProg
import Derived.WalkKit
import Derived.WalkSpells
import Derived.WalkLawsBesides
import Derived.Laws.ResultCell
import Derived.Deep.QuietTactic
import Derived.BigQuiet
import Derived.LoopTactic
import Derived.Outline
import Derived.Lib.Hide
import Derived.WalkMore
import Derived.Deep.LoopGhost
import Derived.Below
import Derived.Laws.StructEq
import Derived.Maps.AppendAt
import Derived.Laws.AppendOwnNone
import Derived.OwnWalk
import Derived.Lib.AppendZeros
import Derived.Deep.AppendLies
import Derived.Deep.OwnRows
import Derived.Deep.RegionHeld3
namespace Go.Proofs.YtcigeclnbhcohaaGreatDoor.L
open Go.RowKit
set_option linter.unusedVariables false
set_option linter.unusedSimpArgs false

theorem one {k : IntKind} {a b : Int} (h : a = b) : Ending.returned (.int k a) = .returned (.int k b) := by rw [h]
theorem oneB {a b : Bool} (h : a = b) : Ending.returned (.bool a) = .returned (.bool b) := by rw [h]
theorem bel_trans {a b c : World} (h : Below a.heap.size a b) (k : Below b.heap.size b c) : Below a.heap.size a c := h.trans (k.mono h.size)
theorem bel_alloc {a b : World} (h : Below a.heap.size a b) (o : Obj) : Below a.heap.size a (b.alloc o) := h.alloc h.size o
theorem bcell {W w1 : World} (hb : Below W.heap.size W w1) : (∀ b o, b < W.heap.size → w1.cell? ⟨b, o, none⟩ = W.cell? ⟨b, o, none⟩) ∧ (∀ b o, b < W.heap.size → w1.frozen? ⟨b, o, none⟩ = W.frozen? ⟨b, o, none⟩) :=
  ⟨fun b o h => hb.cell (p := ⟨b, o, none⟩) h, fun b o h => hb.frozen (p := ⟨b, o, none⟩) h⟩
theorem at_list (s : ByteArray) (k : Nat) (h : k < s.size) : s.data.toList[k]'(by simpa using h) = s[k] := rfl
theorem len_list (s : ByteArray) : s.data.toList.length = s.size := Array.length_toList
theorem beq_no' {a b : Int} (h : a ≠ b) : (a == b) = false := by simp [h]
theorem beq_yes' {a b : Int} (h : a = b) : (a == b) = true := by simp [h]
def BA (l : List UInt8) : ByteArray := ⟨l.toArray⟩
theorem BA_list (l : List UInt8) : (BA l).data.toList = l := rfl
theorem BA_size (l : List UInt8) : (BA l).size = l.length := by simp [BA, ByteArray.size]
theorem BA_toList (l : List UInt8) : (BA l).toList = l := by rw [ByteArray.toList_eq]; rfl
theorem BA_of (s : ByteArray) : BA s.data.toList = s := rfl
theorem drop_at (s : ByteArray) (k : Nat) (h : k < s.size) : s.data.toList.drop k = s[k] :: s.data.toList.drop (k + 1) := by
  rw [List.drop_eq_getElem_cons (by simpa using h)]; rfl
theorem drop_end (s : ByteArray) (k : Nat) (h : s.size ≤ k) : s.data.toList.drop k = [] := List.drop_eq_nil_of_le (by rw [len_list]; exact h)

/-- from an offset on, a block holds these texts -/
def RowS (w : World) (b o : Nat) (X : List ByteArray) : Prop := ∀ k (h : k < X.length), w.cell? ⟨b, o + k, none⟩ = some (.string X[k])
/-- a slice's address and length read as a list of texts -/
def IsS (w : World) (a : Option Addr) (n : Nat) (X : List ByteArray) : Prop := n = X.length ∧ (0 < n → ∃ b o, a = some ⟨b, o, none⟩ ∧ b < w.heap.size ∧ RowS w b o X)
theorem RowS.below {w w' : World} {b o B : Nat} {X : List ByteArray} (h : RowS w b o X) (hb : Below B w w') (hlt : b < B) : RowS w' b o X := fun k hk => by
  rw [hb.cell (p := ⟨b, _, none⟩) hlt]; exact h k hk
theorem IsS.below {w w' : World} {a : Option Addr} {n : Nat} {X : List ByteArray} (h : IsS w a n X) (hb : Below w.heap.size w w') : IsS w' a n X :=
  ⟨h.1, fun hn => by
    obtain ⟨b, o, ha, hlt, hr⟩ := h.2 hn
    exact ⟨b, o, ha, Nat.lt_of_lt_of_le hlt hb.size, hr.below hb hlt⟩⟩
theorem IsS.drew {w : World} {a : Option Addr} {n : Nat} {X : List ByteArray} (h : IsS w a n X) (d : Nat) : IsS (w.drewN d) a n X := h.below (below_drewN (Below.refl _ _) d)
theorem IsS.nil (w : World) (a : Option Addr) : IsS w a 0 [] := ⟨rfl, fun h => absurd h (by omega)⟩
theorem IsS.at {w : World} {a : Option Addr} {n k : Nat} {X : List ByteArray} (h : IsS w a n X) (hk : k < n) :
    ∃ b o x, a = some ⟨b, o, none⟩ ∧ b < w.heap.size ∧ w.cell? ⟨b, o + k, none⟩ = some (.string x) ∧ X[k]? = some x ∧ RowS w b o X := by
  obtain ⟨b, o, ha, hlt, hr⟩ := h.2 (by omega)
  exact ⟨b, o, X[k]'(h.1 ▸ hk), ha, hlt, hr k (h.1 ▸ hk), List.getElem?_eq_getElem _, hr⟩

theorem eqS_iff {x y : ByteArray} : (x.toList == y.toList) = true ↔ x = y := by
  rw [beq_iff_eq, ByteArray.toList_eq, ByteArray.toList_eq]
  constructor
  · intro h
    have : x.data = y.data := by rw [← Array.toArray_toList (xs := x.data), h]
    cases x; cases y; simp at this; rw [this]
  · rintro rfl; rfl
theorem eqS_refl (x : ByteArray) : (x.toList == x.toList) = true := eqS_iff.2 rfl
/-- is a text in a list? -/
def hasS (X : List ByteArray) (s : ByteArray) : Bool := X.any (fun x => x.toList == s.toList)
theorem hasS_iff {X : List ByteArray} {s : ByteArray} : hasS X s = true ↔ s ∈ X := by
  unfold hasS
  rw [List.any_eq_true]
  constructor
  · rintro ⟨x, hx, h⟩; rw [eqS_iff] at h; exact h ▸ hx
  · intro h; exact ⟨s, h, eqS_refl s⟩
/-- the first place of a text in a list, its length if there is none -/
def idxN (X : List ByteArray) (s : ByteArray) : Nat := X.findIdx (fun x => x.toList == s.toList)
def idxI (X : List ByteArray) (s : ByteArray) : Int := if idxN X s < X.length then (idxN X s : Int) else -1
theorem idxN_le (X : List ByteArray) (s : ByteArray) : idxN X s ≤ X.length := List.findIdx_le_length
def eqL : List ByteArray → List ByteArray → Bool
  | [], [] => true
  | x :: l, y :: m => (x.toList == y.toList) && eqL l m
  | _, _ => false
theorem eqL_iff : ∀ {X Y : List ByteArray}, eqL X Y = true ↔ X = Y
  | [], [] => by simp [eqL]
  | x :: l, [] => by simp [eqL]
  | [], y :: m => by simp [eqL]
  | x :: l, y :: m => by rw [eqL, Bool.and_eq_true, eqS_iff, eqL_iff]; simp
theorem eqL_refl (X : List ByteArray) : eqL X X = true := eqL_iff.2 rfl
theorem eqL_len {X Y : List ByteArray} (h : X.length ≠ Y.length) : eqL X Y = false := by
  cases hc : eqL X Y with
  | false => rfl
  | true => exact absurd (congrArg List.length (eqL_iff.1 hc)) h

/-- a slice value read as a list of texts: with what an append asks of it -/
def SlS (w : World) (a : Option Addr) (n c : Nat) (X : List ByteArray) : Prop := IsS w a n X ∧ n ≤ c ∧ (a = none → c = 0)
theorem SlS.below {w w' : World} {a : Option Addr} {n c : Nat} {X : List ByteArray} (h : SlS w a n c X) (hb : Below w.heap.size w w') : SlS w' a n c X := ⟨h.1.below hb, h.2⟩
def vsS (X : List ByteArray) : List Value := X.map .string
theorem vsS_len (X : List ByteArray) : (vsS X).length = X.length := by simp [vsS]
theorem vsS_app (X Y : List ByteArray) : vsS (X ++ Y) = vsS X ++ vsS Y := by simp [vsS]
theorem strI : (Tryz.prog.info? 9).map (fun i => (i.zero, i.size, i.bytes)) = some (some (.string ⟨#[]⟩), 1, 16) := by kernel_rfl
/-- a row of the call's own, read as a list of texts -/
def OwnS (w : World) (base : Nat) (v : Value) (X : List ByteArray) : Prop := w.ownsRow base 9 1 v X.length (vsS X)
theorem OwnS.nil (w : World) (base : Nat) : OwnS w base (.slice none 0 0) [] := World.ownsRow_nil _ _ _ _
theorem OwnS.base {w : World} {b b' : Nat} {v : Value} {X : List ByteArray} (h : OwnS w b v X) (hb : b' ≤ b) : OwnS w b' v X := by
  refine ⟨h.1, ?_⟩
  rcases h.2 with hn | ⟨g, cap, cur, rfl, h1, rest⟩
  · exact .inl hn
  · exact .inr ⟨g, cap, cur, rfl, by omega, rest⟩
theorem OwnS.made (w : World) (X : List ByteArray) (base : Nat) (hb : base ≤ w.heap.size) (hl : X.length ≤ maxLen) : OwnS (w.alloc (.cells (vsS X).toArray 9)) base (.slice (some ⟨w.heap.size, 0, none⟩) X.length X.length) X :=
  ⟨by simp [vsS], .inr ⟨w.heap.size, X.length, _, rfl, hb, heap_alloc_new w _, Nat.le_refl _, hl, by simp [vsS], by simp [vsS, List.take_of_length_le]⟩⟩
theorem OwnS.slS {w : World} {base : Nat} {v : Value} {X : List ByteArray} (h : OwnS w base v X) : ∃ A c, v = .slice A X.length c ∧ SlS w A X.length c X := by
  rcases h.2 with ⟨rfl, hn⟩ | ⟨g, cap, cur, rfl, hb, hg, hnc, hcm, hcs, ht⟩
  · exact ⟨none, 0, by rw [hn], ⟨rfl, fun h => absurd h (by omega)⟩, by omega, fun _ => rfl⟩
  · refine ⟨_, _, rfl, ⟨rfl, fun _ => ⟨g, 0, rfl, (Array.getElem?_eq_some_iff.1 hg).1, fun k hk => ?_⟩⟩, hnc, fun h => by cases h⟩
    rw [Nat.zero_add, cell_of_row w g k _ _ _ hg]
    have h2 : (cur.toList.take (X.length * 1))[k]? = (vsS X)[k]? := by rw [ht]
    rw [List.getElem?_take_of_lt (by omega)] at h2
    rw [← Array.getElem?_toList, h2]
    simp [vsS, hk]
theorem OwnS.below {w w' : World} {base : Nat} {v : Value} {X : List ByteArray} (h : OwnS w base v X) (hb : Below w.heap.size w w') : OwnS w' base v X := by
  refine ⟨h.1, ?_⟩
  rcases h.2 with hn | ⟨g, cap, cur, rfl, h1, hg, rest⟩
  · exact .inl hn
  · exact .inr ⟨g, cap, cur, rfl, h1, by rw [hb.block g (Array.getElem?_eq_some_iff.1 hg).1]; exact hg, rest⟩
theorem news_at {w : World} {ad : Addr} {n : Nat} {X : List ByteArray} (h : IsS w (some ad) n X) : ∀ j u, (vsS X)[j]? = some u → w.cell? (ad.add j) = some u := fun j u hj => by
  obtain ⟨hj2, hu⟩ := List.getElem?_eq_some_iff.1 hj
  rw [vsS_len] at hj2
  obtain ⟨b, o, ha, _, hr⟩ := h.2 (by rw [h.1]; omega)
  injection ha with ha
  subst ha
  rw [Addr.add_lit, hr j hj2, ← hu]
  simp [vsS]
theorem vsS_one (X : List ByteArray) : ∀ u ∈ vsS X, u.oneCell' = true := fun u hu => by
  obtain ⟨x, _, rfl⟩ := List.mem_map.1 hu
  rfl

/-- append(s, x...) for the walk: s a row of the call's own, x any list of texts -/
theorem app_strs {w : World} {ops : Array Oper} {rest : List Oper} {o : Oper} {a : Act} {Q : Exit → Act → World → Prop} (hgd : o.guard = none) (s x : Operand)
    (ho : o.op = .call { callee := .builtin .append, args := #[s, x], argTypes := #[48, 48] })
    (base : Nat) (v : Value) (Y : List ByteArray) (hs : a.eval s = v) (hown : OwnS w base v Y) (A : Option Addr) (m c : Nat) (X : List ByteArray) (hx : a.eval x = .slice A m c) (hX : SlS w A m c X)
    (hn : Y.length + m ≤ 1000000000) (hbase : base ≤ w.heap.size)
    (h : ∀ v' w', OwnS w' base v' (Y ++ X) → w.grownBy w' v.ownBlock → wpList Tryz.prog ops Q rest (a.put o.dst v') w') : wpList Tryz.prog ops Q (o :: rest) a w := by
  obtain ⟨i0, hi, hz0, hz1, hz2⟩ := info_parts strI
  have hm : m = X.length := hX.1.1
  have hl : Y.length + m ≤ maxLen := by unfold maxLen; omega
  cases A with
  | none =>
    have hc : c = 0 := hX.2.2 rfl
    have hm0 : m = 0 := by have := hX.2.1; omega
    have hX0 : X = [] := List.eq_nil_of_length_eq_zero (by omega)
    subst hX0 hc hm0
    refine wpList_append_own_none hgd s x 48 ho base 9 i0 1 Tryz.underlying48 hi v Y.length (vsS Y) hs hown hx (h v w ?_ ⟨rfl, rfl, rfl, Nat.le_refl _, fun _ _ _ => rfl⟩)
    rw [List.append_nil]; exact hown
  | some ad =>
    refine wpList_append_own w hgd s x 48 ho base 9 i0 _ 1 16 Tryz.underlying48 hi hz0 hz1 hz2 rfl (by decide) v Y.length (vsS Y) hs hown ad m c (vsS X) hx (by rw [vsS_len, hm]; omega) (news_at hX.1) (vsS_one X) hl (by omega) hbase fun v' w' h1 h2 _ => h v' w' ?_ h2
    unfold OwnS
    rw [List.length_append, vsS_app, ← hm]
    exact h1

/-- a block that holds two slices -/
def Two (w : World) (h : Nat) (u v : Value) : Prop := w.cell? ⟨h, 0, none⟩ = some u ∧ w.cell? ⟨h, 1, none⟩ = some v
theorem Two.below {w w' : World} {h B : Nat} {u v : Value} (t : Two w h u v) (hb : Below B w w') (hlt : h < B) : Two w' h u v :=
  ⟨(hb.cell (p := ⟨h, 0, none⟩) hlt).trans t.1, (hb.cell (p := ⟨h, 1, none⟩) hlt).trans t.2⟩
end Go.Proofs.YtcigeclnbhcohaaGreatDoor.L
namespace Go.Proofs.YtcigeclnbhcohaaGreatDoor.T
open L
set_option linter.unusedVariables false
set_option linter.unusedSimpArgs false

inductive Tm where
  | mk (op : Int) (name : ByteArray) (num : Int) (args : List Tm)

mutual
def size : Tm → Nat
  | .mk _ _ _ l => 1 + sizes l
def sizes : List Tm → Nat
  | [] => 0
  | t :: l => size t + sizes l
end
mutual
def depth : Tm → Nat
  | .mk _ _ _ l => 1 + depths l
def depths : List Tm → Nat
  | [] => 0
  | t :: l => max (depth t) (depths l)
end
/-! all parts, each ahead of its arguments, also those that are alike -/
mutual
def all : Tm → List Tm
  | .mk o s n l => .mk o s n l :: alls l
def alls : List Tm → List Tm
  | [] => []
  | t :: l => all t ++ alls l
end
mutual
def eqT : Tm → Tm → Bool
  | .mk o s n l, .mk o' s' n' l' => (o == o') && ((s.toList == s'.toList) && ((n == n') && eqTs l l'))
def eqTs : List Tm → List Tm → Bool
  | [], [] => true
  | t :: l, u :: m => eqT t u && eqTs l m
  | [], _ :: _ => false
  | _ :: _, [] => false
end
mutual
theorem eqT_iff : ∀ {t u : Tm}, eqT t u = true ↔ t = u
  | .mk o s n l, .mk o' s' n' l' => by
    rw [eqT, Bool.and_eq_true, Bool.and_eq_true, Bool.and_eq_true, beq_iff_eq, eqS_iff, beq_iff_eq, eqTs_iff]
    simp
theorem eqTs_iff : ∀ {l m : List Tm}, eqTs l m = true ↔ l = m
  | [], [] => by simp [eqTs]
  | t :: l, u :: m => by rw [eqTs, Bool.and_eq_true, eqT_iff, eqTs_iff]; simp
  | [], _ :: _ => by simp [eqTs]
  | _ :: _, [] => by simp [eqTs]
end
theorem eqT_refl (t : Tm) : eqT t t = true := eqT_iff.2 rfl
theorem eqTs_refl (l : List Tm) : eqTs l l = true := eqTs_iff.2 rfl
theorem eqT_no {t u : Tm} : eqT t u = false ↔ t ≠ u := by
  rw [← Bool.not_eq_true, eqT_iff]
theorem sizes_app (l m : List Tm) : sizes (l ++ m) = sizes l + sizes m := by
  induction l with
  | nil => simp [sizes]
  | cons t l ih => simp [sizes, ih]; omega
theorem size_pos : ∀ t : Tm, 0 < size t
  | .mk _ _ _ l => by rw [size]; omega
mutual
theorem all_len : ∀ t : Tm, (all t).length = size t
  | .mk o s n l => by rw [all, size, List.length_cons, alls_len]; omega
theorem alls_len : ∀ l : List Tm, (alls l).length = sizes l
  | [] => rfl
  | t :: l => by rw [alls, sizes, List.length_append, all_len, alls_len]
end
mutual
theorem depth_size : ∀ t : Tm, depth t ≤ size t
  | .mk o s n l => by rw [depth, size]; have := depths_sizes l; omega
theorem depths_sizes : ∀ l : List Tm, depths l ≤ sizes l
  | [] => Nat.le_refl _
  | t :: l => by rw [depths, sizes]; have := depth_size t; have := depths_sizes l; omega
end
theorem self_all (t : Tm) : t ∈ all t := by cases t; rw [all]; exact List.mem_cons_self

/-! counting that stops behind a bound -/
mutual
def szTo : Nat → Tm → Nat
  | most, .mk _ _ _ l => szTos most 1 l
def szTos : Nat → Nat → List Tm → Nat
  | _, n, [] => n
  | most, n, t :: l => if n ≤ most then szTos most (n + szTo (most - n) t) l else n
end
mutual
theorem szTo_small : ∀ (t : Tm) (most : Nat), size t ≤ most → szTo most t = size t
  | .mk o s n l, most, h => by
    rw [size] at h ⊢
    rw [szTo, szTos_small l most 1 (by omega)]
theorem szTos_small : ∀ (l : List Tm) (most n : Nat), n + sizes l ≤ most → szTos most n l = n + sizes l
  | [], most, n, h => by rw [szTos, sizes]; rfl
  | t :: l, most, n, h => by
    rw [sizes] at h ⊢
    rw [szTos, if_pos (by omega), szTo_small t (most - n) (by omega), szTos_small l most _ (by omega)]; omega
end
mutual
theorem szTo_big : ∀ (t : Tm) (most : Nat), most < size t → most < szTo most t
  | .mk o s n l, most, h => by
    rw [size] at h
    rw [szTo]
    by_cases h1 : 1 ≤ most
    · exact szTos_big l most 1 h1 h
    · cases l with
      | nil => rw [szTos]; omega
      | cons t l => rw [szTos, if_neg h1]; omega
theorem szTos_big : ∀ (l : List Tm) (most n : Nat), n ≤ most → most < n + sizes l → most < szTos most n l
  | [], most, n, h0, h => by rw [sizes] at h; omega
  | t :: l, most, n, h0, h => by
    rw [sizes] at h
    rw [szTos, if_pos h0]
    by_cases h1 : size t ≤ most - n
    · rw [szTo_small t _ h1]
      by_cases h2 : n + size t ≤ most
      · exact szTos_big l most _ h2 (by omega)
      · omega
    · have := szTo_big t (most - n) (by omega)
      have h3 : most < n + szTo (most - n) t := by omega
      cases l with
      | nil => rw [szTos]; exact h3
      | cons u l => rw [szTos, if_neg (by omega)]; exact h3
end
theorem szTo_le (t : Tm) (most : Nat) : (szTo most t ≤ most) ↔ size t ≤ most := by
  constructor
  · intro h
    refine Nat.le_of_not_lt fun h2 => ?_
    have := szTo_big t most h2; omega
  · intro h; rw [szTo_small t most h]; exact h

/-! replacement -/
mutual
def rep (f u : Tm) : Tm → Tm
  | .mk o s n l => if eqT (.mk o s n l) f = true then u else .mk o s n (reps f u l)
def reps (f u : Tm) : List Tm → List Tm
  | [] => []
  | t :: l => rep f u t :: reps f u l
end
theorem reps_len (f u : Tm) (l : List Tm) : (reps f u l).length = l.length := by
  induction l with
  | nil => rfl
  | cons t l ih => rw [reps, List.length_cons, List.length_cons, ih]
mutual
theorem rep_self (f : Tm) : ∀ t : Tm, rep f f t = t
  | .mk o s n l => by
    rw [rep]
    split
    · rename_i h; exact (eqT_iff.1 h).symm
    · rw [reps_self f l]
theorem reps_self (f : Tm) : ∀ l : List Tm, reps f f l = l
  | [] => rfl
  | t :: l => by rw [reps, rep_self f t, reps_self f l]
end
/-- is a term a part? -/
def has (t p : Tm) : Bool := (all t).any (fun x => eqT x p)
def hass (l : List Tm) (p : Tm) : Bool := (alls l).any (fun x => eqT x p)
theorem has_mk (o : Int) (s : ByteArray) (n : Int) (l : List Tm) (p : Tm) : has (.mk o s n l) p = (eqT (.mk o s n l) p || hass l p) := by
  unfold has hass; rw [all, List.any_cons]
theorem hass_cons (t : Tm) (l : List Tm) (p : Tm) : hass (t :: l) p = (has t p || hass l p) := by
  unfold hass has; rw [alls, List.any_append]
theorem has_iff {t p : Tm} : has t p = true ↔ p ∈ all t := by
  unfold has
  rw [List.any_eq_true]
  constructor
  · rintro ⟨x, hx, h⟩; rw [← eqT_iff.1 h]; exact hx
  · intro h; exact ⟨p, h, eqT_refl p⟩
mutual
theorem rep_none (f u : Tm) : ∀ t : Tm, has t f = false → rep f u t = t
  | .mk o s n l, h => by
    rw [has_mk, Bool.or_eq_false_iff] at h
    rw [rep, if_neg (by simp [h.1]), reps_none f u l h.2]
theorem reps_none (f u : Tm) : ∀ l : List Tm, hass l f = false → reps f u l = l
  | [], _ => rfl
  | t :: l, h => by
    rw [hass_cons, Bool.or_eq_false_iff] at h
    rw [reps, rep_none f u t h.1, reps_none f u l h.2]
end
mutual
theorem rep_gone (o' : Int) (s' : ByteArray) (n' : Int) (u : Tm) (hu : has u (.mk o' s' n' []) = false) : ∀ t : Tm, has (rep (.mk o' s' n' []) u t) (.mk o' s' n' []) = false
  | .mk o s n l => by
    rw [rep]
    split
    · exact hu
    · rename_i h
      rw [has_mk, Bool.or_eq_false_iff]
      refine ⟨?_, reps_gone o' s' n' u hu l⟩
      rw [eqT_no]
      intro he
      injection he with h1 h2 h3 h4
      have hl : l = [] := List.eq_nil_of_length_eq_zero (by rw [← reps_len (.mk o' s' n' []) u l, h4]; rfl)
      subst h1 h2 h3 hl
      exact h (eqT_refl _)
theorem reps_gone (o' : Int) (s' : ByteArray) (n' : Int) (u : Tm) (hu : has u (.mk o' s' n' []) = false) : ∀ l : List Tm, hass (reps (.mk o' s' n' []) u l) (.mk o' s' n' []) = false
  | [] => rfl
  | t :: l => by rw [reps, hass_cons, rep_gone o' s' n' u hu t, reps_gone o' s' n' u hu l]; rfl
end

/-! orders -/
def lex (x y : Int) : Int := if x ≠ 0 then x else y
theorem lex_assoc (x y z : Int) : lex (lex x y) z = lex x (lex y z) := by
  unfold lex
  by_cases h : x ≠ 0
  · rw [if_pos h, if_pos h, if_pos h]
  · rw [if_neg h, if_neg h]
theorem lex_zero (x : Int) : lex x 0 = x := by unfold lex; split <;> omega
theorem zero_lex (x : Int) : lex 0 x = x := by unfold lex; rw [if_neg (by simp)]
theorem lex_eq {x y : Int} : lex x y = 0 ↔ x = 0 ∧ y = 0 := by unfold lex; split <;> omega
/-- a comparison that is a total order -/
structure Lin {α : Type} (c : α → α → Int) : Prop where
  rng : ∀ x y, c x y = -1 ∨ c x y = 0 ∨ c x y = 1
  anti : ∀ x y, c y x = - c x y
  eq : ∀ x y, c x y = 0 ↔ x = y
  trans : ∀ x y z, c x y = -1 → c y z = -1 → c x z = -1
def cmpI (x y : Int) : Int := if x < y then -1 else if y < x then 1 else 0
theorem linI : Lin cmpI := by
  refine ⟨fun x y => ?_, fun x y => ?_, fun x y => ?_, fun x y z => ?_⟩ <;> unfold cmpI <;> (repeat' split) <;> omega
def lexP {α β : Type} (c : α → α → Int) (d : β → β → Int) (x y : α × β) : Int := lex (c x.1 y.1) (d x.2 y.2)
theorem linP {α β : Type} {c : α → α → Int} {d : β → β → Int} (hc : Lin c) (hd : Lin d) : Lin (lexP c d) := by
  refine ⟨fun x y => ?_, fun x y => ?_, fun x y => ?_, fun x y z h1 h2 => ?_⟩
  · unfold lexP lex; split
    · exact hc.rng _ _
    · exact hd.rng _ _
  · unfold lexP lex
    rw [hc.anti x.1 y.1, hd.anti x.2 y.2]
    split <;> split <;> omega
  · unfold lexP
    rw [lex_eq, hc.eq, hd.eq]
    exact ⟨fun h => Prod.ext h.1 h.2, fun h => by rw [h]; exact ⟨rfl, rfl⟩⟩
  · unfold lexP lex at h1 h2 ⊢
    by_cases e1 : c x.1 y.1 = 0
    · have e1' := (hc.eq _ _).1 e1
      rw [if_neg (by simp [e1])] at h1
      rw [e1']
      by_cases e2 : c y.1 z.1 = 0
      · rw [if_neg (by simp [e2])] at h2 ⊢
        exact hd.trans _ _ _ h1 h2
      · rw [if_pos e2] at h2 ⊢; exact h2
    · rw [if_pos e1] at h1
      by_cases e2 : c y.1 z.1 = 0
      · have e2' := (hc.eq _ _).1 e2
        rw [← e2', if_pos e1]; exact h1
      · rw [if_pos e2] at h2
        have h3 := hc.trans _ _ _ h1 h2
        rw [if_pos (by omega)]; exact h3
def lexL {α : Type} (c : α → α → Int) : List α → List α → Int
  | [], [] => 0
  | [], _ :: _ => -1
  | _ :: _, [] => 1
  | x :: l, y :: m => lex (c x y) (lexL c l m)
theorem linL {α : Type} {c : α → α → Int} (hc : Lin c) : Lin (lexL c) := by
  refine ⟨fun x => ?_, fun x => ?_, fun x => ?_, fun x => ?_⟩
  · induction x with
    | nil => intro y; cases y <;> simp [lexL]
    | cons a l ih =>
      intro y
      cases y with
      | nil => simp [lexL]
      | cons b m =>
        rw [lexL]; unfold lex; split
        · exact hc.rng _ _
        · exact ih m
  · induction x with
    | nil => intro y; cases y <;> simp [lexL]
    | cons a l ih =>
      intro y
      cases y with
      | nil => simp [lexL]
      | cons b m =>
        rw [lexL, lexL, ih m, hc.anti a b]
        unfold lex
        split <;> split <;> omega
  · induction x with
    | nil => intro y; cases y <;> simp [lexL]
    | cons a l ih =>
      intro y
      cases y with
      | nil => simp [lexL]
      | cons b m => rw [lexL, lex_eq, hc.eq, ih m, List.cons.injEq]
  · induction x with
    | nil =>
      intro y z h1 h2
      cases y with
      | nil => exact h2
      | cons b m =>
        cases z with
        | nil => simp [lexL] at h2
        | cons d k => rfl
    | cons a l ih =>
      intro y z h1 h2
      cases y with
      | nil => simp [lexL] at h1
      | cons b m =>
        cases z with
        | nil => simp [lexL] at h2
        | cons d k =>
          rw [lexL] at h1 h2 ⊢
          unfold lex at h1 h2 ⊢
          by_cases e1 : c a b = 0
          · have e1' := (hc.eq _ _).1 e1
            rw [if_neg (by simp [e1])] at h1
            rw [e1']
            by_cases e2 : c b d = 0
            · rw [if_neg (by simp [e2])] at h2 ⊢
              exact ih _ _ h1 h2
            · rw [if_pos e2] at h2 ⊢; exact h2
          · rw [if_pos e1] at h1
            by_cases e2 : c b d = 0
            · have e2' := (hc.eq _ _).1 e2
              rw [← e2', if_pos e1]; exact h1
            · rw [if_pos e2] at h2
              have h3 := hc.trans _ _ _ h1 h2
              rw [if_pos (by omega)]; exact h3
def cmpU (a b : UInt8) : Int := cmpI a.toNat b.toNat
theorem linU : Lin cmpU := ⟨fun x y => linI.rng _ _, fun x y => linI.anti _ _, fun x y => by
  unfold cmpU
  rw [linI.eq]
  exact ⟨fun h => UInt8.toNat_inj.1 (by omega), fun h => by rw [h]⟩, fun x y z => linI.trans _ _ _⟩
def cmpB : List UInt8 → List UInt8 → Int := lexL cmpU
theorem linB : Lin cmpB := linL linU
theorem less_cmp : ∀ x y : List UInt8, Go.Op.bytesLess x y = decide (cmpB x y = -1)
  | [], [] => rfl
  | [], _ :: _ => rfl
  | _ :: _, [] => rfl
  | a :: x, b :: y => by
    rw [Go.Op.bytesLess, less_cmp x y]
    show _ = decide (lex (cmpU a b) (lexL cmpU x y) = -1)
    unfold cmpB lex cmpU cmpI
    by_cases h1 : a < b
    · have h2 : (a.toNat : Int) < b.toNat := by have := UInt8.lt_iff_toNat_lt.1 h1; omega
      simp [h1, h2]
    · have h2 : ¬ (a.toNat : Int) < b.toNat := fun h => h1 (UInt8.lt_iff_toNat_lt.2 (by omega))
      by_cases h3 : a = b
      · subst h3; simp [h1]
      · have h4 : (b.toNat : Int) < a.toNat := by
          have : a.toNat ≠ b.toNat := fun h => h3 (UInt8.toNat_inj.1 h)
          omega
        simp [h1, h2, h3, h4]
/-! the order of terms: by the keys of their parts, each ahead of its arguments -/
/-- texts, byte by byte -/
def cmpN (x y : ByteArray) : Int := cmpB x.toList y.toList
theorem linN : Lin cmpN := ⟨fun x y => linB.rng _ _, fun x y => linB.anti _ _, fun x y => by
  unfold cmpN
  rw [linB.eq]
  exact ⟨fun h => eqS_iff.1 (beq_iff_eq.2 h), fun h => by rw [h]⟩, fun x y z => linB.trans _ _ _⟩
abbrev Key := Int × Int × ByteArray × Int
def cmpK : Key → Key → Int := lexP cmpI (lexP cmpI (lexP cmpN cmpI))
theorem linK : Lin cmpK := linP linI (linP linI (linP linN linI))
mutual
def keys : Tm → List Key
  | .mk o s n l => (o, n, s, (l.length : Int)) :: keyss l
def keyss : List Tm → List Key
  | [] => []
  | t :: l => keys t ++ keyss l
end
mutual
def cmpT : Tm → Tm → Int
  | .mk o s n l, .mk o' s' n' l' => lex (cmpI o o') (lex (cmpI n n') (lex (cmpN s s') (lex (cmpI l.length l'.length) (cmpTs l l'))))
def cmpTs : List Tm → List Tm → Int
  | [], _ => 0
  | _ :: _, [] => 0
  | t :: l, u :: m => lex (cmpT t u) (cmpTs l m)
end
mutual
theorem cmp_keys : ∀ (t u : Tm) (xs ys : List Key), lexL cmpK (keys t ++ xs) (keys u ++ ys) = lex (cmpT t u) (lexL cmpK xs ys)
  | .mk o s n l, .mk o' s' n' l', xs, ys => by
    rw [keys, keys, List.cons_append, List.cons_append, lexL, cmpT]
    show lex (lex (cmpI o o') (lex (cmpI n n') (lex (cmpN s s') (cmpI l.length l'.length)))) _ = _
    simp only [lex_assoc]
    by_cases hl : l.length = l'.length
    · rw [cmps_keys l l' hl xs ys]
    · have h1 : cmpI l.length l'.length ≠ 0 := fun h => hl (by have := (linI.eq _ _).1 h; omega)
      have e : ∀ y z : Int, lex (cmpI l.length l'.length) y = lex (cmpI l.length l'.length) z := fun y z => by unfold lex; rw [if_pos h1, if_pos h1]
      rw [e _ (lex (cmpTs l l') (lexL cmpK xs ys))]
theorem cmps_keys : ∀ (l m : List Tm), l.length = m.length → ∀ (xs ys : List Key), lexL cmpK (keyss l ++ xs) (keyss m ++ ys) = lex (cmpTs l m) (lexL cmpK xs ys)
  | [], [], _, xs, ys => by rw [cmpTs, zero_lex]; rfl
  | t :: l, u :: m, h, xs, ys => by
    rw [keyss, keyss, List.append_assoc, List.append_assoc, cmp_keys t u, cmps_keys l m (by simpa using h), cmpTs, lex_assoc]
  | [], _ :: _, h, _, _ => by simp at h
  | _ :: _, [], h, _, _ => by simp at h
end
theorem cmp_key (t u : Tm) : cmpT t u = lexL cmpK (keys t) (keys u) := by
  have := cmp_keys t u [] []
  rw [List.append_nil, List.append_nil, lexL, lex_zero] at this
  exact this.symm
mutual
theorem cmp_zero : ∀ {t u : Tm}, cmpT t u = 0 → t = u
  | .mk o s n l, .mk o' s' n' l', h => by
    rw [cmpT, lex_eq, lex_eq, lex_eq, lex_eq, linI.eq, linI.eq, linN.eq, linI.eq] at h
    obtain ⟨rfl, rfl, rfl, h4, h5⟩ := h
    rw [cmps_zero (by omega) h5]
theorem cmps_zero : ∀ {l m : List Tm}, l.length = m.length → cmpTs l m = 0 → l = m
  | [], [], _, _ => rfl
  | t :: l, u :: m, hl, h => by
    rw [cmpTs, lex_eq] at h
    rw [cmp_zero h.1, cmps_zero (by simpa using hl) h.2]
  | [], _ :: _, h, _ => by simp at h
  | _ :: _, [], h, _ => by simp at h
end
theorem linT : Lin cmpT := by
  have h := linL linK
  refine ⟨fun x y => ?_, fun x y => ?_, fun x y => ⟨cmp_zero, fun e => ?_⟩, fun x y z => ?_⟩
  · rw [cmp_key]; exact h.rng _ _
  · rw [cmp_key, cmp_key]; exact h.anti _ _
  · rw [e, cmp_key]; exact (h.eq _ _).2 rfl
  · rw [cmp_key, cmp_key, cmp_key]; exact h.trans _ _ _
theorem lin_le {α : Type} {c : α → α → Int} (h : Lin c) (x y z : α) (h1 : c x y ≤ 0) (h2 : c y z ≤ 0) : c x z ≤ 0 ∧ (c x z = 0 ↔ c x y = 0 ∧ c y z = 0) := by
  rcases h.rng x y with e1 | e1 | e1
  · rcases h.rng y z with e2 | e2 | e2
    · have := h.trans _ _ _ e1 e2; omega
    · have := (h.eq _ _).1 e2; subst this; omega
    · omega
  · have := (h.eq _ _).1 e1; subst this; omega
  · omega
end Go.Proofs.YtcigeclnbhcohaaGreatDoor.T
namespace Go.Proofs.YtcigeclnbhcohaaGreatDoor.T
open L
set_option linter.unusedVariables false
set_option linter.unusedSimpArgs false

/-! the depth, counted up to a bound -/
mutual
def dpTo : Nat → Tm → Nat
  | most, .mk _ _ _ l => dpTos most 1 l
def dpTos : Nat → Nat → List Tm → Nat
  | _, d, [] => d
  | most, d, t :: l => if d ≤ most then dpTos most (max d (1 + dpTo (most - 1) t)) l else d
end
mutual
theorem dpTo_small : ∀ (t : Tm) (most : Nat), depth t ≤ most → dpTo most t = depth t
  | .mk o s n l, most, h => by
    rw [depth] at h ⊢
    rw [dpTo, dpTos_small l most 1 (Nat.le_refl _) (by omega) h]
    omega
theorem dpTos_small : ∀ (l : List Tm) (most d : Nat), 1 ≤ d → d ≤ most → 1 + depths l ≤ most → dpTos most d l = max d (1 + depths l)
  | [], most, d, h1, h0, h => by rw [dpTos, depths]; omega
  | t :: l, most, d, h1, h0, h => by
    rw [depths] at h ⊢
    rw [dpTos, if_pos h0, dpTo_small t (most - 1) (by omega), dpTos_small l most _ (by omega) (by omega) (by omega)]
    omega
end
theorem depth_pos : ∀ t : Tm, 0 < depth t
  | .mk _ _ _ l => by rw [depth]; omega
mutual
theorem dpTo_big : ∀ (t : Tm) (most : Nat), most < depth t → most < dpTo most t
  | .mk o s n l, most, h => by
    rw [depth] at h
    rw [dpTo]
    by_cases h1 : 1 ≤ most
    · exact dpTos_big l most 1 (Nat.le_refl _) h1 h
    · cases l with
      | nil => rw [dpTos]; omega
      | cons t l => rw [dpTos, if_neg h1]; omega
theorem dpTos_big : ∀ (l : List Tm) (most d : Nat), 1 ≤ d → d ≤ most → most < 1 + depths l → most < dpTos most d l
  | [], most, d, hd, h0, h => by rw [depths] at h; omega
  | t :: l, most, d, hd, h0, h => by
    rw [depths] at h
    rw [dpTos, if_pos h0]
    by_cases h1 : depth t ≤ most - 1
    · rw [dpTo_small t _ h1]
      by_cases h2 : max d (1 + depth t) ≤ most
      · exact dpTos_big l most _ (by omega) h2 (by omega)
      · exact Nat.lt_of_lt_of_le (by omega) (dpTos_ge l most _)
    · have := dpTo_big t (most - 1) (by omega)
      exact Nat.lt_of_lt_of_le (by omega) (dpTos_ge l most _)
theorem dpTos_ge : ∀ (l : List Tm) (most d : Nat), d ≤ dpTos most d l
  | [], most, d => by rw [dpTos]; exact Nat.le_refl _
  | t :: l, most, d => by
    rw [dpTos]; split
    · exact Nat.le_trans (Nat.le_max_left _ _) (dpTos_ge l most _)
    · exact Nat.le_refl _
end
theorem dpTo_min (t : Tm) (most : Nat) : min (dpTo most t) (most + 1) = min (depth t) (most + 1) := by
  by_cases h : depth t ≤ most
  · rw [dpTo_small t most h]
  · have := dpTo_big t most (by omega); omega

/-! the errors -/
def formB (o : Int) (s : ByteArray) (n : Int) : Bool :=
  (decide (o < 1) || (decide (8 < o) || (o == 2 && decide (n < 0)))) || (((o != 2 && (o != 4 && o != 8)) && n != 0) || ((o != 1 && o != 3) && !s.toList.isEmpty))
def argsI (o : Int) : Int := if o = 3 then -1 else if o = 5 ∨ o = 6 then 2 else if o = 7 ∨ o = 8 then 1 else 0
def arityB (o : Int) (k : Nat) : Bool := (decide (0 ≤ argsI o) && (k : Int) != argsI o) || decide (8 < k)
mutual
def partE : Tm → Int
  | .mk o s n l => if formB o s n = true then 7 else if arityB o l.length = true then 12 else partsE l
def partsE : List Tm → Int
  | [] => 0
  | t :: l => if partE t ≠ 0 then partE t else partsE l
end
def rightE (t : Tm) : Int := if 64 < depth t then 6 else if 4096 < size t then 2 else partE t

/-! without repetition: each where it first occurs -/
def inT (l : List Tm) (t : Tm) : Bool := l.any (fun x => eqT x t)
theorem inT_iff {l : List Tm} {t : Tm} : inT l t = true ↔ t ∈ l := by
  unfold inT
  rw [List.any_eq_true]
  constructor
  · rintro ⟨x, hx, h⟩; rw [← eqT_iff.1 h]; exact hx
  · intro h; exact ⟨t, h, eqT_refl t⟩
def uniq : List Tm → List Tm → List Tm
  | acc, [] => acc
  | acc, t :: l => if inT acc t = true then uniq acc l else uniq (acc ++ [t]) l
def parts (t : Tm) : List Tm := uniq [] (all t)
theorem uniq_app : ∀ (l m acc : List Tm), uniq acc (l ++ m) = uniq (uniq acc l) m
  | [], m, acc => rfl
  | t :: l, m, acc => by
    rw [List.cons_append, uniq, uniq]
    split
    · exact uniq_app l m acc
    · exact uniq_app l m (acc ++ [t])
theorem mem_uniq : ∀ (l acc : List Tm) (t : Tm), t ∈ uniq acc l ↔ t ∈ acc ∨ t ∈ l
  | [], acc, t => by rw [uniq]; simp
  | u :: l, acc, t => by
    rw [uniq]; split
    · rename_i h
      rw [mem_uniq l acc t]
      have := inT_iff.1 h
      simp only [List.mem_cons]
      constructor
      · rintro (h1 | h1)
        · exact .inl h1
        · exact .inr (.inr h1)
      · rintro (h1 | rfl | h1)
        · exact .inl h1
        · exact .inl this
        · exact .inr h1
    · rw [mem_uniq l _ t]; simp [or_assoc]
theorem has_parts (t p : Tm) : inT (parts t) p = has t p := by
  rw [Bool.eq_iff_iff, inT_iff, has_iff]
  unfold parts
  rw [mem_uniq]; simp
theorem uniq_len : ∀ (l acc : List Tm), (uniq acc l).length ≤ acc.length + l.length
  | [], acc => by rw [uniq]; simp
  | u :: l, acc => by
    rw [uniq]; split
    · have := uniq_len l acc; simp; omega
    · have := uniq_len l (acc ++ [u]); simp at this ⊢; omega
theorem parts_len (t : Tm) : (parts t).length ≤ size t := by
  have := uniq_len (all t) []
  rw [all_len] at this
  simpa [parts] using this

/-! names in order -/
def Up (l : List (ByteArray)) : Prop := l.Pairwise (fun x y => cmpN x y = -1)
/-- a name put among rising ones, as long as it is not there -/
def putN (s : ByteArray) : List (ByteArray) → List (ByteArray)
  | [] => [s]
  | x :: l => if cmpN s x = -1 then s :: x :: l else if s = x then x :: l else x :: putN s l
theorem mem_put (s x : ByteArray) : ∀ l : List (ByteArray), x ∈ putN s l ↔ x = s ∨ x ∈ l
  | [] => by simp [putN]
  | y :: l => by
    rw [putN]; split
    · simp
    · split
      · rename_i h; subst h; simp
      · rw [List.mem_cons, mem_put s x l, List.mem_cons]
        constructor
        · rintro (h | h | h) <;> simp [h]
        · rintro (h | h | h) <;> simp [h]
theorem up_put (s : ByteArray) : ∀ l : List (ByteArray), Up l → Up (putN s l)
  | [], _ => by unfold Up putN; simp
  | y :: l, h => by
    have h2 := List.pairwise_cons.1 h
    rw [putN]; split
    · rename_i hs
      refine List.pairwise_cons.2 ⟨fun z hz => ?_, h⟩
      rcases List.mem_cons.1 hz with rfl | hz
      · exact hs
      · exact linN.trans _ _ _ hs (h2.1 z hz)
    · split
      · exact h
      · rename_i h3 h4
        refine List.pairwise_cons.2 ⟨fun z hz => ?_, up_put s l h2.2⟩
        rcases (mem_put s z l).1 hz with rfl | hz
        · rcases linN.rng z y with e | e | e
          · exact absurd e h3
          · exact absurd ((linN.eq _ _).1 e) h4
          · rw [linN.anti, e]
        · exact h2.1 z hz
/-- rising lists with the same elements are the same -/
theorem up_same : ∀ {l m : List (ByteArray)}, Up l → Up m → (∀ x, x ∈ l ↔ x ∈ m) → l = m
  | [], [], _, _, _ => rfl
  | [], y :: m, _, _, h => absurd ((h y).2 (by simp)) (by simp)
  | x :: l, [], _, _, h => absurd ((h x).1 (by simp)) (by simp)
  | x :: l, y :: m, hl, hm, h => by
    have hl2 := List.pairwise_cons.1 hl
    have hm2 := List.pairwise_cons.1 hm
    have irr : ∀ z : ByteArray, cmpN z z ≠ -1 := fun z e => by have := (linN.eq z z).2 rfl; omega
    have hxy : x = y := by
      rcases List.mem_cons.1 ((h x).1 (by simp)) with e | e
      · exact e
      · rcases List.mem_cons.1 ((h y).2 (by simp)) with e2 | e2
        · exact e2.symm
        · have h1 := hm2.1 x e
          have h2 := hl2.1 y e2
          exact absurd (linN.trans _ _ _ h1 h2) (irr y)
    subst hxy
    have hrest : ∀ z, z ∈ l ↔ z ∈ m := fun z => by
      constructor
      · intro hz
        rcases List.mem_cons.1 ((h z).1 (by simp [hz])) with rfl | e
        · exact absurd (hl2.1 z hz) (irr z)
        · exact e
      · intro hz
        rcases List.mem_cons.1 ((h z).2 (by simp [hz])) with rfl | e
        · exact absurd (hm2.1 z hz) (irr z)
        · exact e
    rw [up_same hl2.2 hm2.2 hrest]
def opT : Tm → Int | .mk o _ _ _ => o
def nameT : Tm → ByteArray | .mk _ s _ _ => s
/-- the names of the variables among some parts, put in one by one -/
def namesF : List (ByteArray) → List Tm → List (ByteArray)
  | acc, [] => acc
  | acc, t :: l => namesF (if opT t = 1 then putN (nameT t) acc else acc) l
def names (l : List Tm) : List (ByteArray) := namesF [] (alls l)
theorem namesF_app : ∀ (l m : List Tm) (acc : List (ByteArray)), namesF acc (l ++ m) = namesF (namesF acc l) m
  | [], m, acc => rfl
  | t :: l, m, acc => by rw [List.cons_append, namesF, namesF, namesF_app l m]
theorem up_namesF : ∀ (l : List Tm) (acc : List (ByteArray)), Up acc → Up (namesF acc l)
  | [], acc, h => h
  | t :: l, acc, h => by
    rw [namesF]
    split
    · exact up_namesF l _ (up_put _ _ h)
    · exact up_namesF l _ h
theorem mem_namesF : ∀ (l : List Tm) (acc : List (ByteArray)) (x : ByteArray), x ∈ namesF acc l ↔ x ∈ acc ∨ ∃ t ∈ l, opT t = 1 ∧ nameT t = x
  | [], acc, x => by rw [namesF]; simp
  | t :: l, acc, x => by
    rw [namesF, mem_namesF l _ x]
    split
    · rename_i h
      rw [mem_put]
      simp only [List.mem_cons, exists_eq_or_imp, h, true_and]
      constructor
      · rintro ((h1 | h1) | h1)
        · exact .inr (.inl h1.symm)
        · exact .inl h1
        · exact .inr (.inr h1)
      · rintro (h1 | h1 | h1)
        · exact .inl (.inr h1)
        · exact .inl (.inl h1.symm)
        · exact .inr h1
    · rename_i h
      simp only [List.mem_cons, exists_eq_or_imp, h, false_and, false_or]
theorem names_up (l : List Tm) : Up (names l) := up_namesF _ _ (by unfold Up; simp)
theorem mem_names (l : List Tm) (x : ByteArray) : x ∈ names l ↔ ∃ t ∈ alls l, opT t = 1 ∧ nameT t = x := by
  unfold names; rw [mem_namesF]; simp
/-- whatever is rising and has just these names is their list -/
theorem names_only {l : List Tm} {m : List (ByteArray)} (hm : Up m) (h : ∀ x, x ∈ m ↔ ∃ t ∈ alls l, opT t = 1 ∧ nameT t = x) : m = names l :=
  up_same hm (names_up l) (fun x => by rw [h, mem_names])
end Go.Proofs.YtcigeclnbhcohaaGreatDoor.T
namespace Go.Proofs.YtcigeclnbhcohaaGreatDoor.L
open Go.RowKit
set_option linter.unusedVariables false
set_option linter.unusedSimpArgs false

/-- a block that is known whole -/
def Blk (w : World) (g : Nat) (cs : Array Value) (t : TypeId) : Prop := w.heap[g]? = some (.cells cs t (0, 0))
theorem Blk.new (w : World) (cs : Array Value) (t : TypeId) : Blk (w.alloc (.cells cs t)) w.heap.size cs t := heap_alloc_new w _
theorem Blk.lt {w : World} {g : Nat} {cs : Array Value} {t : TypeId} (h : Blk w g cs t) : g < w.heap.size := (Array.getElem?_eq_some_iff.1 h).1
theorem Blk.cell {w : World} {g : Nat} {cs : Array Value} {t : TypeId} (h : Blk w g cs t) (k : Nat) : w.cell? ⟨g, k, none⟩ = cs[k]? := cell_of_row w g k _ _ _ h
theorem Blk.free {w : World} {g : Nat} {cs : Array Value} {t : TypeId} (h : Blk w g cs t) (k : Nat) : w.frozen? ⟨g, k, none⟩ = false := frozen_of_row w g k _ _ h
theorem Blk.alloc {w : World} {g : Nat} {cs : Array Value} {t : TypeId} (h : Blk w g cs t) (o : Obj) : Blk (w.alloc o) g cs t := (heap_alloc_old w o h.lt).trans h
theorem Blk.below {w w' : World} {g : Nat} {cs : Array Value} {t : TypeId} (h : Blk w g cs t) (hb : Below w.heap.size w w') : Blk w' g cs t := (hb.block g h.lt).trans h
theorem Blk.grown {w w' : World} {g : Nat} {cs : Array Value} {t : TypeId} {r : Option Nat} (h : Blk w g cs t) (hg : w.grownBy w' r) (hne : some g ≠ r) : Blk w' g cs t := (hg.block g h.lt hne).trans h
theorem Blk.set {w : World} {g : Nat} {cs : Array Value} {t : TypeId} (h : Blk w g cs t) (k : Nat) (v : Value) : Blk (w.setCell ⟨g, k, none⟩ v) g (cs.setIfInBounds k v) t := heap_setCell_same w g k cs t v h
theorem Blk.far {w : World} {g g' : Nat} {cs : Array Value} {t : TypeId} (h : Blk w g cs t) (hne : g' ≠ g) (k : Nat) (v : Value) : Blk (w.setCell ⟨g', k, none⟩ v) g cs t := (heap_setCell_other w ⟨g', k, none⟩ g v (fun e => hne e.symm)).trans h
/-- a slice that does not lie in this block -/
def Off (g : Nat) (A : Option Addr) (n : Nat) : Prop := 0 < n → ∀ b o, A = some ⟨b, o, none⟩ → b ≠ g
theorem SlS.far {w : World} {A : Option Addr} {n c : Nat} {X : List ByteArray} {g : Nat} (h : SlS w A n c X) (ho : Off g A n) (k : Nat) (v : Value) : SlS (w.setCell ⟨g, k, none⟩ v) A n c X := by
  refine ⟨⟨h.1.1, fun hn => ?_⟩, h.2⟩
  obtain ⟨b, o, ha, hlt, hr⟩ := h.1.2 hn
  refine ⟨b, o, ha, by simpa [World.setCell] using hlt, fun i hi => ?_⟩
  exact (World.cell?_of_block (heap_setCell_other w ⟨g, k, none⟩ b v (ho hn b o ha))).trans (hr i hi)
theorem off_old {w : World} {A : Option Addr} {n c : Nat} {X : List ByteArray} {g : Nat} (h : SlS w A n c X) (hg : w.heap.size ≤ g) : Off g A n := fun hn b o ha e => by
  obtain ⟨b', o', ha', hlt, _⟩ := h.1.2 hn
  rw [ha] at ha'
  injection ha' with ha'
  injection ha' with h1
  omega
/-- a row of the call's own lies at its base or behind -/
theorem off_row {w : World} {A : Option Addr} {n n' c g base size : Nat} {t : TypeId} {xs : List Value} (h : w.ownsRow base t size (.slice A n c) n' xs) (hg : g < base) : Off g A n := fun hn b o ha e => by
  rcases h.2 with ⟨hv, _⟩ | ⟨g', cap, cur, hv, hb, _⟩
  · injection hv with h1; rw [h1] at ha; cases ha
  · injection hv with h1
    rw [ha] at h1
    injection h1 with h1
    injection h1 with h1
    omega
theorem off_own {w : World} {A : Option Addr} {n c : Nat} {X : List ByteArray} {g base : Nat} (h : OwnS w base (.slice A n c) X) (hg : g < base) : Off g A n := off_row h hg
theorem own_sl {w : World} {base : Nat} {A : Option Addr} {n c : Nat} {X : List ByteArray} (h : OwnS w base (.slice A n c) X) (hn : n = X.length) : SlS w A n c X := by
  obtain ⟨A', c', hv, hS⟩ := h.slS
  injection hv with h1 h2 h3
  subst h1 h3
  rw [hn]; exact hS
theorem grown_setRow (w : World) (g : Nat) (cs : Array Value) : w.grownBy (w.setRow g cs) (some g) :=
  ⟨rfl, rfl, rfl, by simp [World.setRow], fun k _ hk => setRow_other w g k cs (fun e => hk (by rw [e]))⟩
theorem grown_setCell (w : World) (x k : Nat) (v : Value) : w.grownBy (w.setCell ⟨x, k, none⟩ v) (some x) :=
  ⟨rfl, rfl, rfl, by simp [World.setCell], fun j _ hj => heap_setCell_other w ⟨x, k, none⟩ j v (fun e => hj (by rw [e]))⟩
/-- a row of the call's own stands when a block ahead of its base is written -/
theorem row_far {w : World} {base size n x : Nat} {t : TypeId} {v : Value} {xs : List Value} (h : w.ownsRow base t size v n xs) (hx : x < base) (k : Nat) (u : Value) : (w.setCell ⟨x, k, none⟩ u).ownsRow base t size v n xs := by
  refine World.ownsRow.kept h (grown_setCell w x k u) ?_
  cases hv : v.ownBlock with
  | none => exact .inl rfl
  | some y => exact .inr (fun e => by injection e with e; have := (World.ownsRow.lt h y hv).1; omega)
theorem cell_far {w : World} {g k x j : Nat} {u v : Value} (h : w.cell? ⟨g, k, none⟩ = some u) (hne : g ≠ x) : (w.setCell ⟨x, j, none⟩ v).cell? ⟨g, k, none⟩ = some u :=
  (World.cell?_of_block (heap_setCell_other w ⟨x, j, none⟩ g v hne)).trans h
theorem below_set {B g : Nat} {w0 w : World} (h : Below B w0 w) (hg : B ≤ g) (k : Nat) (v : Value) : Below B w0 (w.setCell ⟨g, k, none⟩ v) := h.setCell (p := ⟨g, k, none⟩) hg v
end Go.Proofs.YtcigeclnbhcohaaGreatDoor.L
namespace Go.Proofs.YtcigeclnbhcohaaGreatDoor.T
open Go.RowKit L
set_option linter.unusedVariables false
set_option linter.unusedSimpArgs false

def numT : Tm → Int | .mk _ _ z _ => z
def argsT : Tm → List Tm | .mk _ _ _ l => l
/-! a term's Args slice (in blocks below B); a row of terms -/
mutual
def Ar (B : Nat) (w : World) : Tm → Option Addr → Nat → Nat → Prop
  | .mk _ _ _ l, a, n, c => n = l.length ∧ n ≤ c ∧ c ≤ maxLen ∧ (a = none → c = 0) ∧ (0 < n → ∃ b o, a = some ⟨b, o, none⟩ ∧ b < B ∧ Rw B w b o l)
def Rw (B : Nat) (w : World) (b : Nat) : Nat → List Tm → Prop
  | _, [] => True
  | o, t :: l => (∃ a n c, w.cell? ⟨b, o, none⟩ = some (.int .i64 (opT t)) ∧ w.cell? ⟨b, o + 1, none⟩ = some (.string (nameT t)) ∧ w.cell? ⟨b, o + 1 + 1, none⟩ = some (.int .i64 (numT t)) ∧ w.cell? ⟨b, o + 1 + 1 + 1, none⟩ = some (.slice a n c) ∧ Ar B w t a n c) ∧ Rw B w b (o + 4) l
end
/-- a slice that reads as these terms -/
def IsT (B : Nat) (w : World) (a : Option Addr) (n c : Nat) (l : List Tm) : Prop :=
  n = l.length ∧ n ≤ c ∧ c ≤ maxLen ∧ (a = none → c = 0) ∧ (0 < n → ∃ b o, a = some ⟨b, o, none⟩ ∧ b < B ∧ Rw B w b o l)
/-- the four cells of a term, and what they lead to -/
def At (B : Nat) (w : World) (b o : Nat) (t : Tm) (a : Option Addr) (n c : Nat) : Prop :=
  w.cell? ⟨b, o, none⟩ = some (.int .i64 (opT t)) ∧ w.cell? ⟨b, o + 1, none⟩ = some (.string (nameT t)) ∧ w.cell? ⟨b, o + 1 + 1, none⟩ = some (.int .i64 (numT t)) ∧ w.cell? ⟨b, o + 1 + 1 + 1, none⟩ = some (.slice a n c) ∧ Ar B w t a n c
theorem ar_isT {B : Nat} {w : World} {t : Tm} {a : Option Addr} {n c : Nat} : Ar B w t a n c ↔ IsT B w a n c (argsT t) := by
  cases t; rw [Ar]; rfl
theorem rw_cons {B : Nat} {w : World} {b o : Nat} {t : Tm} {l : List Tm} : Rw B w b o (t :: l) ↔ (∃ a n c, At B w b o t a n c) ∧ Rw B w b (o + 4) l := by
  rw [Rw]; rfl
theorem rw_at {B : Nat} {w : World} {b : Nat} : ∀ {l : List Tm} {o : Nat}, Rw B w b o l ↔ ∀ k (h : k < l.length), ∃ a n c, At B w b (o + k * 4) l[k] a n c
  | [], o => by rw [Rw]; simp
  | t :: l, o => by
    rw [rw_cons, rw_at]
    constructor
    · rintro ⟨h0, h1⟩ k hk
      cases k with
      | zero => simpa using h0
      | succ k =>
        have := h1 k (by simpa using hk)
        rw [show o + (k + 1) * 4 = o + 4 + k * 4 by omega]
        exact this
    · intro h
      refine ⟨by have := h 0 (by simp); rw [Nat.zero_mul, Nat.add_zero] at this; exact this, fun k hk => ?_⟩
      have := h (k + 1) (by simpa using hk)
      rw [show o + (k + 1) * 4 = o + 4 + k * 4 by omega] at this
      exact this
mutual
theorem Ar.bel {B : Nat} {w w' : World} (hb : Below B w w') : ∀ (t : Tm) {a : Option Addr} {n c : Nat}, Ar B w t a n c → Ar B w' t a n c
  | .mk o s z l, a, n, c, h => by
    rw [Ar] at h ⊢
    refine ⟨h.1, h.2.1, h.2.2.1, h.2.2.2.1, fun hn => ?_⟩
    obtain ⟨b, o, ha, hlt, hr⟩ := h.2.2.2.2 hn
    exact ⟨b, o, ha, hlt, Rw.bel hb hlt l hr⟩
theorem Rw.bel {B : Nat} {w w' : World} (hb : Below B w w') {b : Nat} (hlt : b < B) : ∀ (l : List Tm) {o : Nat}, Rw B w b o l → Rw B w' b o l
  | [], o, h => by rw [Rw]; trivial
  | t :: l, o, h => by
    rw [Rw] at h ⊢
    obtain ⟨⟨a, n, c, h0, h1, h2, h3, h4⟩, h5⟩ := h
    exact ⟨⟨a, n, c, (hb.cell (p := ⟨b, _, none⟩) hlt).trans h0, (hb.cell (p := ⟨b, _, none⟩) hlt).trans h1, (hb.cell (p := ⟨b, _, none⟩) hlt).trans h2, (hb.cell (p := ⟨b, _, none⟩) hlt).trans h3, Ar.bel hb t h4⟩, Rw.bel hb hlt l h5⟩
end
mutual
theorem Ar.mono {B B' : Nat} {w : World} (hB : B ≤ B') : ∀ (t : Tm) {a : Option Addr} {n c : Nat}, Ar B w t a n c → Ar B' w t a n c
  | .mk o s z l, a, n, c, h => by
    rw [Ar] at h ⊢
    refine ⟨h.1, h.2.1, h.2.2.1, h.2.2.2.1, fun hn => ?_⟩
    obtain ⟨b, o, ha, hlt, hr⟩ := h.2.2.2.2 hn
    exact ⟨b, o, ha, by omega, Rw.mono hB l hr⟩
theorem Rw.mono {B B' : Nat} {w : World} (hB : B ≤ B') {b : Nat} : ∀ (l : List Tm) {o : Nat}, Rw B w b o l → Rw B' w b o l
  | [], o, h => by rw [Rw]; trivial
  | t :: l, o, h => by
    rw [Rw] at h ⊢
    obtain ⟨⟨a, n, c, h0, h1, h2, h3, h4⟩, h5⟩ := h
    exact ⟨⟨a, n, c, h0, h1, h2, h3, Ar.mono hB t h4⟩, Rw.mono hB l h5⟩
end
theorem IsT.bel {B : Nat} {w w' : World} {a : Option Addr} {n c : Nat} {l : List Tm} (h : IsT B w a n c l) (hb : Below B w w') : IsT B w' a n c l :=
  ⟨h.1, h.2.1, h.2.2.1, h.2.2.2.1, fun hn => by
    obtain ⟨b, o, ha, hlt, hr⟩ := h.2.2.2.2 hn
    exact ⟨b, o, ha, hlt, hr.bel hb hlt l⟩⟩
theorem IsT.mono {B B' : Nat} {w : World} {a : Option Addr} {n c : Nat} {l : List Tm} (h : IsT B w a n c l) (hB : B ≤ B') : IsT B' w a n c l :=
  ⟨h.1, h.2.1, h.2.2.1, h.2.2.2.1, fun hn => by
    obtain ⟨b, o, ha, hlt, hr⟩ := h.2.2.2.2 hn
    exact ⟨b, o, ha, by omega, hr.mono hB l⟩⟩
/-- read in this world, wherever it lies -/
abbrev ArW (w : World) (t : Tm) (a : Option Addr) (n c : Nat) : Prop := Ar w.heap.size w t a n c
abbrev TsW (w : World) (a : Option Addr) (n c : Nat) (l : List Tm) : Prop := IsT w.heap.size w a n c l
theorem ArW.b {w w' : World} {t : Tm} {a : Option Addr} {n c : Nat} (h : ArW w t a n c) (hb : Below w.heap.size w w') : ArW w' t a n c := Ar.mono hb.size t (Ar.bel hb t h)
theorem TsW.b {w w' : World} {a : Option Addr} {n c : Nat} {l : List Tm} (h : TsW w a n c l) (hb : Below w.heap.size w w') : TsW w' a n c l := (h.bel hb).mono hb.size
theorem TsW.nil (w : World) : TsW w none 0 0 [] := ⟨rfl, Nat.le_refl _, Nat.zero_le _, fun _ => rfl, fun h => absurd h (by omega)⟩
theorem ArW.args {w : World} {t : Tm} {a : Option Addr} {n c : Nat} (h : ArW w t a n c) : TsW w a n c (argsT t) := ar_isT.1 h
theorem IsT.at {B : Nat} {w : World} {a : Option Addr} {n c k : Nat} {l : List Tm} (h : IsT B w a n c l) (hk : k < n) :
    ∃ b o t a' n' c', a = some ⟨b, o, none⟩ ∧ b < B ∧ w.cell? ⟨b, o + k * 4, none⟩ = some (.int .i64 (opT t)) ∧ w.cell? ⟨b, o + k * 4 + 1, none⟩ = some (.string (nameT t)) ∧ w.cell? ⟨b, o + k * 4 + 1 + 1, none⟩ = some (.int .i64 (numT t)) ∧ w.cell? ⟨b, o + k * 4 + 1 + 1 + 1, none⟩ = some (.slice a' n' c') ∧ l[k]? = some t ∧ Ar B w t a' n' c' := by
  obtain ⟨b, o, ha, hlt, hr⟩ := h.2.2.2.2 (by omega)
  have hk2 : k < l.length := by rw [← h.1]; exact hk
  obtain ⟨a', n', c', h0, h1, h2, h3, h4⟩ := rw_at.1 hr k hk2
  exact ⟨b, o, l[k], a', n', c', ha, hlt, h0, h1, h2, h3, List.getElem?_eq_getElem _, h4⟩

/-! a term as a value; put into a block -/
def tmV (o : Int) (s : ByteArray) (z : Int) (a : Option Addr) (n c : Nat) : Value := .agg #[.int .i64 o, .string s, .int .i64 z, .slice a n c]
def TBox (w : World) (g : Nat) (o : Int) (s : ByteArray) (z : Int) (a : Option Addr) (n c : Nat) : Prop := Blk w g #[.int .i64 o, .string s, .int .i64 z, .slice a n c] 24
theorem TBox.four {w : World} {g : Nat} {o : Int} {s : ByteArray} {z : Int} {a : Option Addr} {n c : Nat} (h : TBox w g o s z a n c) :
    w.cell? ⟨g, 0, none⟩ = some (.int .i64 o) ∧ w.cell? ⟨g, 1, none⟩ = some (.string s) ∧ w.cell? ⟨g, 1 + 1, none⟩ = some (.int .i64 z) ∧ w.cell? ⟨g, 1 + 1 + 1, none⟩ = some (.slice a n c) := ⟨Blk.cell h 0, Blk.cell h 1, Blk.cell h 2, Blk.cell h 3⟩
theorem TBox.b {w w' : World} {g : Nat} {o : Int} {s : ByteArray} {z : Int} {a : Option Addr} {n c : Nat} (h : TBox w g o s z a n c) (hb : Below w.heap.size w w') : TBox w' g o s z a n c := Blk.below h hb
theorem TBox.new (w : World) (o : Int) (s : ByteArray) (z : Int) (a : Option Addr) (n c : Nat) : TBox (w.alloc (.cells #[.int .i64 o, .string s, .int .i64 z, .slice a n c] 24)) w.heap.size o s z a n c := Blk.new w _ _
theorem box1 (w : World) (o : Int) (s : ByteArray) (z : Int) (a : Option Addr) (n c : Nat) :
    ∃ W, w.alloc (.cells #[.int .i64 o, .string s, .int .i64 z, .slice a n c] 24) = W ∧ Below w.heap.size w W ∧ W.heap.size = w.heap.size + 1 ∧ TBox W w.heap.size o s z a n c :=
  ⟨_, rfl, bel_alloc (Below.refl _ _) _, by simp, TBox.new w o s z a n c⟩
theorem box2 (w : World) (o : Int) (s : ByteArray) (z : Int) (a : Option Addr) (n c : Nat) (o' : Int) (s' : ByteArray) (z' : Int) (a' : Option Addr) (n' c' : Nat) :
    ∃ W, (w.alloc (.cells #[.int .i64 o, .string s, .int .i64 z, .slice a n c] 24)).alloc (.cells #[.int .i64 o', .string s', .int .i64 z', .slice a' n' c'] 24) = W ∧ Below w.heap.size w W ∧ W.heap.size = w.heap.size + 2 ∧ TBox W w.heap.size o s z a n c ∧ TBox W (w.heap.size + 1) o' s' z' a' n' c' := by
  refine ⟨_, rfl, bel_alloc (bel_alloc (Below.refl _ _) _) _, by simp, Blk.alloc (TBox.new w o s z a n c) _, ?_⟩
  have := TBox.new (w.alloc (.cells #[.int .i64 o, .string s, .int .i64 z, .slice a n c] 24)) o' s' z' a' n' c'
  rwa [World.size_alloc] at this
theorem box3 (w : World) (o : Int) (s : ByteArray) (z : Int) (a : Option Addr) (n c : Nat) (o' : Int) (s' : ByteArray) (z' : Int) (a' : Option Addr) (n' c' : Nat) (o2 : Int) (s2 : ByteArray) (z2 : Int) (a2 : Option Addr) (n2 c2 : Nat) :
    ∃ W, ((w.alloc (.cells #[.int .i64 o, .string s, .int .i64 z, .slice a n c] 24)).alloc (.cells #[.int .i64 o', .string s', .int .i64 z', .slice a' n' c'] 24)).alloc (.cells #[.int .i64 o2, .string s2, .int .i64 z2, .slice a2 n2 c2] 24) = W ∧ Below w.heap.size w W ∧ W.heap.size = w.heap.size + 3 ∧ TBox W w.heap.size o s z a n c ∧ TBox W (w.heap.size + 1) o' s' z' a' n' c' ∧ TBox W (w.heap.size + 1 + 1) o2 s2 z2 a2 n2 c2 := by
  obtain ⟨W2, h2, hb, hs, t1, t2⟩ := box2 w o s z a n c o' s' z' a' n' c'
  rw [h2]
  refine ⟨_, rfl, bel_alloc hb _, by simp [hs], Blk.alloc t1 _, Blk.alloc t2 _, ?_⟩
  have := TBox.new W2 o2 s2 z2 a2 n2 c2
  rwa [hs] at this
theorem drop_t {t : Tm} {l : List Tm} {k : Nat} (h : l[k]? = some t) : l.drop k = t :: l.drop (k + 1) := by
  obtain ⟨hk, rfl⟩ := List.getElem?_eq_some_iff.1 h
  exact List.drop_eq_getElem_cons hk
end Go.Proofs.YtcigeclnbhcohaaGreatDoor.T
namespace Go.Proofs.YtcigeclnbhcohaaGreatDoor.T
open Go.RowKit L
set_option linter.unusedVariables false
set_option linter.unusedSimpArgs false

/-- a term's four cells -/
structure Hd where
  op : Int
  nm : ByteArray
  nu : Int
  a : Option Addr
  n : Nat
  c : Nat
def Hd.cells (h : Hd) : List Value := [.int .i64 h.op, .string h.nm, .int .i64 h.nu, .slice h.a h.n h.c]
def Hd.val (h : Hd) : Value := .agg #[.int .i64 h.op, .string h.nm, .int .i64 h.nu, .slice h.a h.n h.c]
def Hd.zero : Hd := ⟨0, ⟨#[]⟩, 0, none, 0, 0⟩
def hdOf (t : Tm) (a : Option Addr) (n c : Nat) : Hd := ⟨opT t, nameT t, numT t, a, n, c⟩
def flatH (hs : List Hd) : List Value := hs.flatMap Hd.cells
theorem flat_len (hs : List Hd) : (flatH hs).length = hs.length * 4 := by
  unfold flatH
  induction hs with
  | nil => rfl
  | cons h l ih => rw [List.flatMap_cons, List.length_append, ih, List.length_cons]; simp [Hd.cells]; omega
theorem flat_app (l m : List Hd) : flatH (l ++ m) = flatH l ++ flatH m := by unfold flatH; rw [List.flatMap_append]
theorem flat_get : ∀ (hs : List Hd) (k j : Nat) (hk : k < hs.length), j < 4 → (flatH hs)[k * 4 + j]? = (hs[k].cells)[j]?
  | [], k, j, hk, _ => absurd hk (by simp)
  | h :: l, 0, j, hk, hj => by
    unfold flatH
    rw [List.flatMap_cons, List.getElem?_append_left (by simp [Hd.cells]; omega)]
    simp
  | h :: l, k + 1, j, hk, hj => by
    have ih := flat_get l k j (by simpa using hk) hj
    unfold flatH at ih ⊢
    rw [List.flatMap_cons, List.getElem?_append_right (by simp [Hd.cells]; omega)]
    have e : (k + 1) * 4 + j - h.cells.length = k * 4 + j := by simp [Hd.cells]; omega
    rw [e, ih]; simp
/-- a list of cells, told by places -/
theorem flat_ext {hs : List Hd} {cs : List Value} (hl : hs.length * 4 ≤ cs.length) (h : ∀ k (hk : k < hs.length) j, j < 4 → cs[k * 4 + j]? = (hs[k].cells)[j]?) : cs.take (hs.length * 4) = flatH hs := by
  refine List.ext_getElem? fun i => ?_
  by_cases hi : i < hs.length * 4
  · rw [List.getElem?_take_of_lt hi]
    have hk : i / 4 < hs.length := by omega
    have := h (i / 4) hk (i % 4) (by omega)
    rw [show i / 4 * 4 + i % 4 = i by omega] at this
    rw [this, ← flat_get hs (i / 4) (i % 4) hk (by omega), show i / 4 * 4 + i % 4 = i by omega]
  · rw [List.getElem?_eq_none (by rw [List.length_take]; omega), List.getElem?_eq_none (by rw [flat_len]; omega)]
theorem hd_one (hs : List Hd) : ∀ u ∈ flatH hs, u.oneCell' = true := fun u hu => by
  unfold flatH at hu
  obtain ⟨h, _, hu⟩ := List.mem_flatMap.1 hu
  simp [Hd.cells] at hu
  rcases hu with rfl | rfl | rfl | rfl <;> rfl
theorem termI : (Tryz.prog.info? 24).map (fun i => (i.zero, i.size, i.bytes)) = some (some (.agg #[.int .i64 0, .string ⟨#[]⟩, .int .i64 0, .slice none 0 0]), 4, 56) := by kernel_rfl

/-- a row of the call's own that holds these terms -/
def OwnT (w : World) (base : Nat) (v : Value) (hs : List Hd) : Prop := w.ownsRow base 24 4 v hs.length (flatH hs)
theorem OwnT.nil (w : World) (base : Nat) : OwnT w base (.slice none 0 0) [] := World.ownsRow_nil _ _ _ _
theorem OwnT.base {w : World} {b b' : Nat} {v : Value} {hs : List Hd} (h : OwnT w b v hs) (hb : b' ≤ b) : OwnT w b' v hs := by
  refine ⟨h.1, ?_⟩
  rcases h.2 with hn | ⟨g, cap, cur, rfl, h1, rest⟩
  · exact .inl hn
  · exact .inr ⟨g, cap, cur, rfl, by omega, rest⟩
theorem OwnT.below {w w' : World} {base : Nat} {v : Value} {hs : List Hd} (h : OwnT w base v hs) (hb : Below w.heap.size w w') : OwnT w' base v hs := by
  refine ⟨h.1, ?_⟩
  rcases h.2 with hn | ⟨g, cap, cur, rfl, h1, hg, rest⟩
  · exact .inl hn
  · exact .inr ⟨g, cap, cur, rfl, h1, by rw [hb.block g (Array.getElem?_eq_some_iff.1 hg).1]; exact hg, rest⟩
theorem OwnT.at {w : World} {base g n c : Nat} {hs : List Hd} (h : OwnT w base (.slice (some ⟨g, 0, none⟩) n c) hs) {k : Nat} (hk : k < hs.length) :
    w.cell? ⟨g, k * 4, none⟩ = some (.int .i64 hs[k].op) ∧ w.cell? ⟨g, k * 4 + 1, none⟩ = some (.string hs[k].nm) ∧ w.cell? ⟨g, k * 4 + 1 + 1, none⟩ = some (.int .i64 hs[k].nu) ∧ w.cell? ⟨g, k * 4 + 1 + 1 + 1, none⟩ = some (.slice hs[k].a hs[k].n hs[k].c) := by
  rcases h.2 with ⟨hv, _⟩ | ⟨g', cap, cur, hv, hb, hg, hnc, hcm, hcs, ht⟩
  · cases hv
  · injection hv with h1 h2 h3
    injection h1 with h1
    injection h1 with h1
    subst h1
    have key : ∀ j, j < 4 → w.cell? ⟨g, k * 4 + j, none⟩ = (hs[k].cells)[j]? := fun j hj => by
      rw [cell_of_row w g _ _ _ _ hg, ← flat_get hs k j hk hj, ← ht, List.getElem?_take_of_lt (by omega), Array.getElem?_toList]
    exact ⟨key 0 (by omega), key 1 (by omega), key 2 (by omega), key 3 (by omega)⟩
theorem OwnT.slice {w : World} {base : Nat} {v : Value} {hs : List Hd} (h : OwnT w base v hs) : ∃ A c, v = .slice A hs.length c ∧ hs.length ≤ c ∧ c ≤ maxLen ∧ (A = none → c = 0) ∧ (0 < hs.length → ∃ g, A = some ⟨g, 0, none⟩ ∧ base ≤ g ∧ g < w.heap.size) := by
  rcases h.2 with ⟨rfl, hn⟩ | ⟨g, cap, cur, rfl, hb, hg, hnc, hcm, hcs, ht⟩
  · exact ⟨none, 0, by rw [hn], by omega, Nat.zero_le _, fun _ => rfl, fun h => absurd h (by omega)⟩
  · exact ⟨_, _, rfl, hnc, hcm, (fun h => by cases h), fun _ => ⟨g, rfl, hb, (Array.getElem?_eq_some_iff.1 hg).1⟩⟩
/-- read as terms whose Args lie wherever they are read -/
theorem OwnT.isT {w : World} {base B : Nat} {A : Option Addr} {n c : Nat} {hs : List Hd} {l : List Tm} (h : OwnT w base (.slice A n c) hs) (hB : w.heap.size ≤ B) (hl : l.length = hs.length)
    (ha : ∀ k (hk : k < l.length) (hk2 : k < hs.length), hs[k].op = opT l[k] ∧ hs[k].nm = nameT l[k] ∧ hs[k].nu = numT l[k] ∧ Ar B w l[k] hs[k].a hs[k].n hs[k].c) : IsT B w A n c l := by
  obtain ⟨A', c', hv, h1, h2, h3, h4⟩ := h.slice
  injection hv with e1 e2 e3
  subst e1 e2 e3
  refine ⟨hl.symm, h1, h2, h3, fun hn => ?_⟩
  obtain ⟨g, rfl, hb, hlt⟩ := h4 hn
  refine ⟨g, 0, rfl, by omega, rw_at.2 fun k hk => ?_⟩
  have hk2 : k < hs.length := by omega
  obtain ⟨c0, c1, c2, c3⟩ := h.at hk2
  obtain ⟨e1, e2, e3, e4⟩ := ha k hk hk2
  rw [Nat.zero_add]
  exact ⟨_, _, _, by rw [← e1]; exact c0, by rw [← e2]; exact c1, by rw [← e3]; exact c2, c3, e4⟩
end Go.Proofs.YtcigeclnbhcohaaGreatDoor.T
namespace Go.Proofs.YtcigeclnbhcohaaGreatDoor.T
open Go.RowKit L
set_option linter.unusedVariables false
set_option linter.unusedSimpArgs false

/-- a block whose first cells are these terms -/
def Row (w : World) (g : Nat) (hs : List Hd) : Prop := ∃ cur, w.heap[g]? = some (.cells cur 24 (0, 0)) ∧ hs.length * 4 ≤ cur.size ∧ cur.toList.take (hs.length * 4) = flatH hs
theorem Row.lt {w : World} {g : Nat} {hs : List Hd} (h : Row w g hs) : g < w.heap.size := by
  obtain ⟨cur, hg, _⟩ := h
  exact (Array.getElem?_eq_some_iff.1 hg).1
theorem Row.of_block {w w' : World} {g : Nat} {hs : List Hd} (h : Row w g hs) (hb : w'.heap[g]? = w.heap[g]?) : Row w' g hs := by
  obtain ⟨cur, hg, r⟩ := h
  exact ⟨cur, hb.trans hg, r⟩
theorem Row.at {w : World} {g : Nat} {hs : List Hd} (h : Row w g hs) {k : Nat} (hk : k < hs.length) :
    w.cell? ⟨g, k * 4, none⟩ = some (.int .i64 hs[k].op) ∧ w.cell? ⟨g, k * 4 + 1, none⟩ = some (.string hs[k].nm) ∧ w.cell? ⟨g, k * 4 + 1 + 1, none⟩ = some (.int .i64 hs[k].nu) ∧ w.cell? ⟨g, k * 4 + 1 + 1 + 1, none⟩ = some (.slice hs[k].a hs[k].n hs[k].c) := by
  obtain ⟨cur, hg, hl, ht⟩ := h
  have key : ∀ j, j < 4 → w.cell? ⟨g, k * 4 + j, none⟩ = (hs[k].cells)[j]? := fun j hj => by
    rw [cell_of_row w g _ _ _ _ hg, ← flat_get hs k j hk hj, ← ht, List.getElem?_take_of_lt (by omega), Array.getElem?_toList]
  exact ⟨key 0 (by omega), key 1 (by omega), key 2 (by omega), key 3 (by omega)⟩
theorem Row.free {w : World} {g : Nat} {hs : List Hd} (h : Row w g hs) (k : Nat) : w.frozen? ⟨g, k, none⟩ = false := by
  obtain ⟨cur, hg, _⟩ := h
  exact frozen_of_row w g k _ _ hg
theorem OwnT.row {w : World} {base g n c : Nat} {hs : List Hd} (h : OwnT w base (.slice (some ⟨g, 0, none⟩) n c) hs) : Row w g hs := by
  rcases h.2 with ⟨hv, _⟩ | ⟨g', cap, cur, hv, hb, hg, hnc, hcm, hcs, ht⟩
  · cases hv
  · injection hv with h1 h2 h3
    injection h1 with h1
    injection h1 with h1
    subst h1
    exact ⟨cur, hg, by omega, ht⟩
/-- a store of one term into a row -/
def set4 (w : World) (g k : Nat) (h : Hd) : World := (((w.setCell ⟨g, k * 4, none⟩ (.int .i64 h.op)).setCell ⟨g, k * 4 + 1, none⟩ (.string h.nm)).setCell ⟨g, k * 4 + 2, none⟩ (.int .i64 h.nu)).setCell ⟨g, k * 4 + 3, none⟩ (.slice h.a h.n h.c)
theorem set4_block {w : World} {g : Nat} {cur : Array Value} {t : TypeId} (k : Nat) (h : Hd) (hg : w.heap[g]? = some (.cells cur t (0, 0))) :
    (set4 w g k h).heap[g]? = some (.cells ((((cur.setIfInBounds (k * 4) (.int .i64 h.op)).setIfInBounds (k * 4 + 1) (.string h.nm)).setIfInBounds (k * 4 + 1 + 1) (.int .i64 h.nu)).setIfInBounds (k * 4 + 1 + 1 + 1) (.slice h.a h.n h.c)) t (0, 0)) :=
  heap_setCell_same _ _ _ _ _ _ (heap_setCell_same _ _ _ _ _ _ (heap_setCell_same _ _ _ _ _ _ (heap_setCell_same _ _ _ _ _ _ hg)))
theorem set4_other (w : World) (g k i : Nat) (h : Hd) (hne : i ≠ g) : (set4 w g k h).heap[i]? = w.heap[i]? := by
  unfold set4
  rw [heap_setCell_other _ ⟨g, _, none⟩ i _ hne, heap_setCell_other _ ⟨g, _, none⟩ i _ hne, heap_setCell_other _ ⟨g, _, none⟩ i _ hne, heap_setCell_other _ ⟨g, _, none⟩ i _ hne]
theorem set4_size (w : World) (g k : Nat) (h : Hd) : (set4 w g k h).heap.size = w.heap.size := by simp [set4, World.setCell]
theorem set4_below {B g : Nat} {w0 w : World} (hb : Below B w0 w) (hg : B ≤ g) (k : Nat) (h : Hd) : Below B w0 (set4 w g k h) :=
  below_set (below_set (below_set (below_set hb hg _ _) hg _ _) hg _ _) hg _ _
theorem set4_get (cur : Array Value) (k : Nat) (h : Hd) (hk : k * 4 + 4 ≤ cur.size) (i : Nat) :
    ((((cur.setIfInBounds (k * 4) (.int .i64 h.op)).setIfInBounds (k * 4 + 1) (.string h.nm)).setIfInBounds (k * 4 + 1 + 1) (.int .i64 h.nu)).setIfInBounds (k * 4 + 1 + 1 + 1) (.slice h.a h.n h.c))[i]? = if k * 4 ≤ i ∧ i < k * 4 + 4 then (h.cells)[i - k * 4]? else cur[i]? := by
  by_cases h0 : i = k * 4
  · subst h0
    rw [if_pos (by omega)]
    simp only [Array.getElem?_setIfInBounds, Array.size_setIfInBounds]
    rw [if_neg (by omega), if_neg (by omega), if_neg (by omega), if_pos trivial, if_pos (by omega), Nat.sub_self]; rfl
  by_cases h1 : i = k * 4 + 1
  · subst h1
    rw [if_pos (by omega)]
    simp only [Array.getElem?_setIfInBounds, Array.size_setIfInBounds]
    rw [if_neg (by omega), if_neg (by omega), if_pos trivial, if_pos (by omega), show k * 4 + 1 - k * 4 = 1 by omega]; rfl
  by_cases h2 : i = k * 4 + 1 + 1
  · subst h2
    rw [if_pos (by omega)]
    simp only [Array.getElem?_setIfInBounds, Array.size_setIfInBounds]
    rw [if_neg (by omega), if_pos trivial, if_pos (by omega), show k * 4 + 1 + 1 - k * 4 = 2 by omega]; rfl
  by_cases h3 : i = k * 4 + 1 + 1 + 1
  · subst h3
    rw [if_pos (by omega)]
    simp only [Array.getElem?_setIfInBounds, Array.size_setIfInBounds]
    rw [if_pos trivial, if_pos (by omega), show k * 4 + 1 + 1 + 1 - k * 4 = 3 by omega]; rfl
  rw [if_neg (by omega), Array.getElem?_setIfInBounds_ne (by omega), Array.getElem?_setIfInBounds_ne (by omega), Array.getElem?_setIfInBounds_ne (by omega), Array.getElem?_setIfInBounds_ne (by omega)]
theorem flat_set (hs : List Hd) (k : Nat) (h : Hd) (hk : k < hs.length) {cur : Array Value} (hl : hs.length * 4 ≤ cur.size) (ht : cur.toList.take (hs.length * 4) = flatH hs) :
    ((((cur.setIfInBounds (k * 4) (.int .i64 h.op)).setIfInBounds (k * 4 + 1) (.string h.nm)).setIfInBounds (k * 4 + 1 + 1) (.int .i64 h.nu)).setIfInBounds (k * 4 + 1 + 1 + 1) (.slice h.a h.n h.c)).toList.take ((hs.set k h).length * 4) = flatH (hs.set k h) := by
  refine flat_ext (by simp; omega) fun i hi j hj => ?_
  rw [List.length_set] at hi
  rw [Array.getElem?_toList, set4_get cur k h (by omega)]
  by_cases e : i = k
  · subst e
    rw [if_pos (by omega), show i * 4 + j - i * 4 = j by omega]
    simp
  · rw [if_neg (by omega), ← Array.getElem?_toList, ← List.getElem?_take_of_lt (show i * 4 + j < hs.length * 4 by omega), ht, flat_get hs i j hi hj, List.getElem_set_ne (fun x => e x.symm)]
theorem Row.set {w : World} {g : Nat} {hs : List Hd} (hr : Row w g hs) (k : Nat) (h : Hd) (hk : k < hs.length) : Row (set4 w g k h) g (hs.set k h) := by
  obtain ⟨cur, hg, hl, ht⟩ := hr
  exact ⟨_, set4_block k h hg, by simp; omega, flat_set hs k h hk hl ht⟩
theorem OwnT.set {w : World} {base g n c : Nat} {hs : List Hd} (ho : OwnT w base (.slice (some ⟨g, 0, none⟩) n c) hs) (k : Nat) (h : Hd) (hk : k < hs.length) : OwnT (set4 w g k h) base (.slice (some ⟨g, 0, none⟩) n c) (hs.set k h) := by
  rcases ho.2 with ⟨hv, _⟩ | ⟨g', cap, cur, hv, hb, hg, hnc, hcm, hcs, ht⟩
  · cases hv
  · have hv' := hv
    injection hv with h1 h2 h3
    injection h1 with h1
    injection h1 with h1
    subst h1
    refine ⟨by rw [flat_len], .inr ⟨g, cap, _, by rw [List.length_set]; exact hv', hb, set4_block k h hg, by simpa using hnc, hcm, by simpa using hcs, flat_set hs k h hk (by omega) ht⟩⟩

theorem TBox.free {w : World} {g : Nat} {o : Int} {s : ByteArray} {z : Int} {a : Option Addr} {n c : Nat} (h : TBox w g o s z a n c) : w.frozen? ⟨g, 0, none⟩ = false ∧ w.frozen? ⟨g, 1, none⟩ = false ∧ w.frozen? ⟨g, 2, none⟩ = false ∧ w.frozen? ⟨g, 3, none⟩ = false := ⟨Blk.free h 0, Blk.free h 1, Blk.free h 2, Blk.free h 3⟩
theorem TBox.args {w : World} {g : Nat} {o : Int} {s : ByteArray} {z : Int} {a : Option Addr} {n c : Nat} (h : TBox w g o s z a n c) (a' : Option Addr) (n' c' : Nat) : TBox (w.setCell ⟨g, 3, none⟩ (.slice a' n' c')) g o s z a' n' c' := by
  have := Blk.set h 3 (.slice a' n' c')
  unfold TBox
  simpa using this
theorem TBox.far {w : World} {g x : Nat} {o : Int} {s : ByteArray} {z : Int} {a : Option Addr} {n c : Nat} (h : TBox w g o s z a n c) (hne : x ≠ g) (k : Nat) (v : Value) : TBox (w.setCell ⟨x, k, none⟩ v) g o s z a n c := Blk.far h hne k v
theorem TBox.put {w : World} {g : Nat} {o : Int} {s : ByteArray} {z : Int} {a : Option Addr} {n c : Nat} (h : TBox w g o s z a n c) (o' : Int) (s' : ByteArray) (z' : Int) (a' : Option Addr) (n' c' : Nat) :
    TBox ((((w.setCell ⟨g, 0, none⟩ (.int .i64 o')).setCell ⟨g, 1, none⟩ (.string s')).setCell ⟨g, 2, none⟩ (.int .i64 z')).setCell ⟨g, 3, none⟩ (.slice a' n' c')) g o' s' z' a' n' c' := by
  have := Blk.set (Blk.set (Blk.set (Blk.set h 0 (.int .i64 o')) 1 (.string s')) 2 (.int .i64 z')) 3 (.slice a' n' c')
  unfold TBox
  simpa using this
theorem put_other (w : World) (g i : Nat) (v0 v1 v2 v3 : Value) (hne : i ≠ g) : ((((w.setCell ⟨g, 0, none⟩ v0).setCell ⟨g, 1, none⟩ v1).setCell ⟨g, 2, none⟩ v2).setCell ⟨g, 3, none⟩ v3).heap[i]? = w.heap[i]? := by
  rw [heap_setCell_other _ ⟨g, _, none⟩ i _ hne, heap_setCell_other _ ⟨g, _, none⟩ i _ hne, heap_setCell_other _ ⟨g, _, none⟩ i _ hne, heap_setCell_other _ ⟨g, _, none⟩ i _ hne]
theorem put_below {B g : Nat} {w0 w : World} (hb : Below B w0 w) (hg : B ≤ g) (v0 v1 v2 v3 : Value) : Below B w0 ((((w.setCell ⟨g, 0, none⟩ v0).setCell ⟨g, 1, none⟩ v1).setCell ⟨g, 2, none⟩ v2).setCell ⟨g, 3, none⟩ v3) :=
  below_set (below_set (below_set (below_set hb hg _ _) hg _ _) hg _ _) hg _ _
theorem put_size (w : World) (g : Nat) (v0 v1 v2 v3 : Value) : ((((w.setCell ⟨g, 0, none⟩ v0).setCell ⟨g, 1, none⟩ v1).setCell ⟨g, 2, none⟩ v2).setCell ⟨g, 3, none⟩ v3).heap.size = w.heap.size := by simp [World.setCell]

/-! a term, a list of terms, each in blocks of its own, from lo on and below hi -/
mutual
def Fr (w : World) : Tm → Nat → Nat → Hd → Prop
  | .mk o s z l, lo, hi, h => (h.op = o ∧ h.nm = s ∧ h.nu = z) ∧ (h.n = l.length ∧ h.n ≤ h.c ∧ h.c ≤ maxLen ∧ (h.a = none → h.c = 0)) ∧ lo ≤ hi ∧ (0 < h.n → ∃ g hs, h.a = some ⟨g, 0, none⟩ ∧ lo ≤ g ∧ Row w g hs ∧ FrL w l (g + 1) hi hs)
def FrL (w : World) : List Tm → Nat → Nat → List Hd → Prop
  | [], lo, hi, hs => lo ≤ hi ∧ hs = []
  | t :: l, lo, hi, hs => ∃ h hs' mid, hs = h :: hs' ∧ Fr w t lo mid h ∧ FrL w l mid hi hs'
end
theorem Fr.le {w : World} : ∀ {t : Tm} {lo hi : Nat} {h : Hd}, Fr w t lo hi h → lo ≤ hi
  | .mk o s z l, lo, hi, h, hf => by rw [Fr] at hf; exact hf.2.2.1
theorem FrL.le {w : World} : ∀ {l : List Tm} {lo hi : Nat} {hs : List Hd}, FrL w l lo hi hs → lo ≤ hi
  | [], lo, hi, hs, hf => by rw [FrL] at hf; exact hf.1
  | t :: l, lo, hi, hs, hf => by
    rw [FrL] at hf
    obtain ⟨h, hs', mid, _, h1, h2⟩ := hf
    have := h1.le
    have := FrL.le h2
    omega
theorem FrL.len {w : World} : ∀ {l : List Tm} {lo hi : Nat} {hs : List Hd}, FrL w l lo hi hs → hs.length = l.length
  | [], lo, hi, hs, hf => by rw [FrL] at hf; rw [hf.2]; rfl
  | t :: l, lo, hi, hs, hf => by
    rw [FrL] at hf
    obtain ⟨h, hs', mid, rfl, h1, h2⟩ := hf
    rw [List.length_cons, List.length_cons, FrL.len h2]
theorem Fr.up {w : World} : ∀ {t : Tm} {lo hi hi' : Nat} {h : Hd}, hi ≤ hi' → Fr w t lo hi h → Fr w t lo hi' h
  | .mk o s z l, lo, hi, hi', h, hh, hf => by
    rw [Fr] at hf ⊢
    refine ⟨hf.1, hf.2.1, Nat.le_trans hf.2.2.1 hh, fun hn => ?_⟩
    obtain ⟨g, hs, h1, h2, h3, h4⟩ := hf.2.2.2 hn
    exact ⟨g, hs, h1, h2, h3, FrL.up hh h4⟩
where FrL.up {w : World} : ∀ {l : List Tm} {lo hi hi' : Nat} {hs : List Hd}, hi ≤ hi' → FrL w l lo hi hs → FrL w l lo hi' hs
  | [], lo, hi, hi', hs, hh, hf => by rw [FrL] at hf ⊢; exact ⟨Nat.le_trans hf.1 hh, hf.2⟩
  | t :: l, lo, hi, hi', hs, hh, hf => by
    rw [FrL] at hf ⊢
    obtain ⟨h, hs', mid, h0, h1, h2⟩ := hf
    exact ⟨h, hs', mid, h0, h1, FrL.up hh h2⟩
theorem FrL.upL {w : World} {l : List Tm} {lo hi hi' : Nat} {hs : List Hd} (h : hi ≤ hi') (hf : FrL w l lo hi hs) : FrL w l lo hi' hs := Fr.up.FrL.up h hf
mutual
/-- it stands when its own blocks stand -/
theorem Fr.same {w w' : World} : ∀ (t : Tm) {lo hi : Nat} {h : Hd}, (∀ b, lo ≤ b → b < hi → w'.heap[b]? = w.heap[b]?) → Fr w t lo hi h → Fr w' t lo hi h
  | .mk o s z l, lo, hi, h, hb, hf => by
    rw [Fr] at hf ⊢
    refine ⟨hf.1, hf.2.1, hf.2.2.1, fun hn => ?_⟩
    obtain ⟨g, hs, h1, h2, h3, h4⟩ := hf.2.2.2 hn
    have := FrL.le h4
    exact ⟨g, hs, h1, h2, h3.of_block (hb g h2 (by omega)), FrL.same l (fun b hl hu => hb b (by omega) hu) h4⟩
theorem FrL.same {w w' : World} : ∀ (l : List Tm) {lo hi : Nat} {hs : List Hd}, (∀ b, lo ≤ b → b < hi → w'.heap[b]? = w.heap[b]?) → FrL w l lo hi hs → FrL w' l lo hi hs
  | [], lo, hi, hs, hb, hf => by rw [FrL] at hf ⊢; exact hf
  | t :: l, lo, hi, hs, hb, hf => by
    rw [FrL] at hf ⊢
    obtain ⟨h, hs', mid, h0, h1, h2⟩ := hf
    have l1 := h1.le
    have l2 := FrL.le h2
    exact ⟨h, hs', mid, h0, Fr.same t (fun b hl hu => hb b hl (by omega)) h1, FrL.same l (fun b hl hu => hb b (by omega) hu) h2⟩
end
theorem FrL.at {w : World} : ∀ {l : List Tm} {lo hi : Nat} {hs : List Hd}, FrL w l lo hi hs → ∀ {k : Nat} (hk : k < l.length) (hk2 : k < hs.length), ∃ lo' hi', lo ≤ lo' ∧ hi' ≤ hi ∧ Fr w l[k] lo' hi' hs[k]
  | [], lo, hi, hs, hf, k, hk, _ => absurd hk (by simp)
  | t :: l, lo, hi, hs, hf, k, hk, hk2 => by
    rw [FrL] at hf
    obtain ⟨h, hs', mid, rfl, h1, h2⟩ := hf
    have l1 := h1.le
    have l2 := FrL.le h2
    cases k with
    | zero => exact ⟨lo, mid, Nat.le_refl _, l2, h1⟩
    | succ k =>
      obtain ⟨a, b, h3, h4, h5⟩ := FrL.at h2 (k := k) (by simpa using hk) (by simpa using hk2)
      exact ⟨a, b, by omega, h4, h5⟩
theorem FrL.snoc {w : World} {t : Tm} {h : Hd} {mid hi : Nat} (hf : Fr w t mid hi h) : ∀ {l : List Tm} {lo : Nat} {hs : List Hd}, FrL w l lo mid hs → FrL w (l ++ [t]) lo hi (hs ++ [h])
  | [], lo, hs, h1 => by
    rw [FrL] at h1
    rw [h1.2, List.nil_append, List.nil_append, FrL]
    refine ⟨h, [], hi, rfl, ?_, by rw [FrL]; exact ⟨Nat.le_refl _, rfl⟩⟩
    exact frDown h1.1 hf
  | u :: l, lo, hs, h1 => by
    rw [FrL] at h1
    obtain ⟨h', hs', mid', rfl, h2, h3⟩ := h1
    rw [List.cons_append, List.cons_append, FrL]
    exact ⟨h', _, mid', rfl, h2, FrL.snoc hf h3⟩
where frDown {w : World} {lo lo' hi : Nat} (hl : lo ≤ lo') : ∀ {t : Tm} {h : Hd}, Fr w t lo' hi h → Fr w t lo hi h
  | .mk o s z l, h, hf => by
    rw [Fr] at hf ⊢
    refine ⟨hf.1, hf.2.1, by omega, fun hn => ?_⟩
    obtain ⟨g, hs, h1, h2, h3, h4⟩ := hf.2.2.2 hn
    exact ⟨g, hs, h1, by omega, h3, h4⟩
theorem Fr.down {w : World} {lo lo' hi : Nat} {t : Tm} {h : Hd} (hl : lo ≤ lo') (hf : Fr w t lo' hi h) : Fr w t lo hi h := FrL.snoc.frDown hl hf
theorem Fr.hd {w : World} : ∀ {t : Tm} {lo hi : Nat} {h : Hd}, Fr w t lo hi h → h.op = opT t ∧ h.nm = nameT t ∧ h.nu = numT t
  | .mk o s z l, lo, hi, h, hf => by rw [Fr] at hf; exact hf.1
mutual
/-- it reads as the term -/
theorem Fr.ar {w : World} {B : Nat} : ∀ (t : Tm) {lo hi : Nat} {h : Hd}, hi ≤ B → Fr w t lo hi h → Ar B w t h.a h.n h.c
  | .mk o s z l, lo, hi, h, hB, hf => by
    rw [Fr] at hf
    rw [Ar]
    refine ⟨hf.2.1.1, hf.2.1.2.1, hf.2.1.2.2.1, hf.2.1.2.2.2, fun hn => ?_⟩
    obtain ⟨g, hs, h1, h2, h3, h4⟩ := hf.2.2.2 hn
    have := FrL.le h4
    have hl := FrL.len h4
    refine ⟨g, 0, h1, by omega, rw_at.2 fun k hk => ?_⟩
    have hk2 : k < hs.length := by omega
    obtain ⟨c0, c1, c2, c3⟩ := h3.at hk2
    have h5 := FrL.ar l hB h4 k hk hk2
    rw [Nat.zero_add]
    exact ⟨_, _, _, by rw [← h5.1.1]; exact c0, by rw [← h5.1.2.1]; exact c1, by rw [← h5.1.2.2]; exact c2, c3, h5.2⟩
theorem FrL.ar {w : World} {B : Nat} : ∀ (l : List Tm) {lo hi : Nat} {hs : List Hd}, hi ≤ B → FrL w l lo hi hs → ∀ k (hk : k < l.length) (hk2 : k < hs.length), (hs[k].op = opT l[k] ∧ hs[k].nm = nameT l[k] ∧ hs[k].nu = numT l[k]) ∧ Ar B w l[k] hs[k].a hs[k].n hs[k].c
  | [], lo, hi, hs, hB, hf, k, hk, _ => absurd hk (by simp)
  | t :: l, lo, hi, hs, hB, hf, k, hk, hk2 => by
    rw [FrL] at hf
    obtain ⟨h, hs', mid, rfl, h1, h2⟩ := hf
    have l2 := FrL.le h2
    cases k with
    | zero => exact ⟨h1.hd, Fr.ar t (by omega) h1⟩
    | succ k => exact FrL.ar l hB h2 k (by simpa using hk) (by simpa using hk2)
end
end Go.Proofs.YtcigeclnbhcohaaGreatDoor.T
namespace Go.Proofs.YtcigeclnbhcohaaGreatDoor.T
open Go.RowKit L
set_option linter.unusedVariables false
set_option linter.unusedSimpArgs false

theorem size_arg {t x : Tm} (h : x ∈ argsT t) : size x < size t := by
  cases t with
  | mk o s z l =>
    rw [size]
    have : ∀ l : List Tm, x ∈ l → size x ≤ sizes l := fun l => by
      induction l with
      | nil => intro h; cases h
      | cons y l ih =>
        intro h
        rw [sizes]
        rcases List.mem_cons.1 h with rfl | h
        · omega
        · have := ih h; omega
    have := this l h
    omega
theorem Tm.ind {P : Tm → Prop} (h : ∀ t, (∀ x ∈ argsT t, P x) → P t) : ∀ t, P t := by
  have : ∀ k t, size t ≤ k → P t := by
    intro k
    induction k with
    | zero => intro t ht; have := size_pos t; omega
    | succ k ih => intro t ht; exact h t (fun x hx => ih x (by have := size_arg hx; omega))
  exact fun t => this _ t (Nat.le_refl _)
end Go.Proofs.YtcigeclnbhcohaaGreatDoor.T
namespace Go.Proofs.YtcigeclnbhcohaaGreatDoor.T
open Go.RowKit L
set_option linter.unusedVariables false
set_option linter.unusedSimpArgs false

mutual
def ArP (P : Nat → Prop) (w : World) : Tm → Option Addr → Nat → Nat → Prop
  | .mk _ _ _ l, a, n, c => n = l.length ∧ n ≤ c ∧ c ≤ maxLen ∧ (a = none → c = 0) ∧ (0 < n → ∃ b o, a = some ⟨b, o, none⟩ ∧ P b ∧ RwP P w b o l)
def RwP (P : Nat → Prop) (w : World) (b : Nat) : Nat → List Tm → Prop
  | _, [] => True
  | o, t :: l => (∃ a n c, w.cell? ⟨b, o, none⟩ = some (.int .i64 (opT t)) ∧ w.cell? ⟨b, o + 1, none⟩ = some (.string (nameT t)) ∧ w.cell? ⟨b, o + 1 + 1, none⟩ = some (.int .i64 (numT t)) ∧ w.cell? ⟨b, o + 1 + 1 + 1, none⟩ = some (.slice a n c) ∧ ArP P w t a n c) ∧ RwP P w b (o + 4) l
end
mutual
theorem ArP.to {P Q : Nat → Prop} {w w' : World} (hb : ∀ b, P b → w'.heap[b]? = w.heap[b]?) (hq : ∀ b, P b → Q b) : ∀ (t : Tm) {a : Option Addr} {n c : Nat}, ArP P w t a n c → ArP Q w' t a n c
  | .mk o s z l, a, n, c, h => by
    rw [ArP] at h ⊢
    refine ⟨h.1, h.2.1, h.2.2.1, h.2.2.2.1, fun hn => ?_⟩
    obtain ⟨b, o, ha, hp, hr⟩ := h.2.2.2.2 hn
    exact ⟨b, o, ha, hq b hp, RwP.to hb hq hp l hr⟩
theorem RwP.to {P Q : Nat → Prop} {w w' : World} (hb : ∀ b, P b → w'.heap[b]? = w.heap[b]?) (hq : ∀ b, P b → Q b) {b : Nat} (hp : P b) : ∀ (l : List Tm) {o : Nat}, RwP P w b o l → RwP Q w' b o l
  | [], o, h => by rw [RwP]; trivial
  | t :: l, o, h => by
    rw [RwP] at h ⊢
    obtain ⟨⟨a, n, c, h0, h1, h2, h3, h4⟩, h5⟩ := h
    exact ⟨⟨a, n, c, (World.cell?_of_block (hb b hp)).trans h0, (World.cell?_of_block (hb b hp)).trans h1, (World.cell?_of_block (hb b hp)).trans h2, (World.cell?_of_block (hb b hp)).trans h3, ArP.to hb hq t h4⟩, RwP.to hb hq hp l h5⟩
end
mutual
theorem ArP.ar {P : Nat → Prop} {w : World} {B : Nat} (hq : ∀ b, P b → b < B) : ∀ (t : Tm) {a : Option Addr} {n c : Nat}, ArP P w t a n c → Ar B w t a n c
  | .mk o s z l, a, n, c, h => by
    rw [ArP] at h
    rw [Ar]
    refine ⟨h.1, h.2.1, h.2.2.1, h.2.2.2.1, fun hn => ?_⟩
    obtain ⟨b, o, ha, hp, hr⟩ := h.2.2.2.2 hn
    exact ⟨b, o, ha, hq b hp, RwP.rw hq l hr⟩
theorem RwP.rw {P : Nat → Prop} {w : World} {B : Nat} (hq : ∀ b, P b → b < B) {b : Nat} : ∀ (l : List Tm) {o : Nat}, RwP P w b o l → Rw B w b o l
  | [], o, h => by rw [Rw]; trivial
  | t :: l, o, h => by
    rw [RwP] at h
    rw [Rw]
    obtain ⟨⟨a, n, c, h0, h1, h2, h3, h4⟩, h5⟩ := h
    exact ⟨⟨a, n, c, h0, h1, h2, h3, ArP.ar hq t h4⟩, RwP.rw hq l h5⟩
end
mutual
theorem Ar.p {w : World} {B : Nat} : ∀ (t : Tm) {a : Option Addr} {n c : Nat}, Ar B w t a n c → ArP (fun b => b < B) w t a n c
  | .mk o s z l, a, n, c, h => by
    rw [Ar] at h
    rw [ArP]
    refine ⟨h.1, h.2.1, h.2.2.1, h.2.2.2.1, fun hn => ?_⟩
    obtain ⟨b, o, ha, hp, hr⟩ := h.2.2.2.2 hn
    exact ⟨b, o, ha, hp, Rw.p l hr⟩
theorem Rw.p {w : World} {B : Nat} {b : Nat} : ∀ (l : List Tm) {o : Nat}, Rw B w b o l → RwP (fun b => b < B) w b o l
  | [], o, h => by rw [RwP]; trivial
  | t :: l, o, h => by
    rw [Rw] at h
    rw [RwP]
    obtain ⟨⟨a, n, c, h0, h1, h2, h3, h4⟩, h5⟩ := h
    exact ⟨⟨a, n, c, h0, h1, h2, h3, Ar.p t h4⟩, Rw.p l h5⟩
end
theorem rwP_of {P : Nat → Prop} {w : World} {b : Nat} : ∀ (l : List Tm) (o : Nat), (∀ k t, l[k]? = some t → ∃ a n c, w.cell? ⟨b, o + k * 4, none⟩ = some (.int .i64 (opT t)) ∧ w.cell? ⟨b, o + k * 4 + 1, none⟩ = some (.string (nameT t)) ∧ w.cell? ⟨b, o + k * 4 + 1 + 1, none⟩ = some (.int .i64 (numT t)) ∧ w.cell? ⟨b, o + k * 4 + 1 + 1 + 1, none⟩ = some (.slice a n c) ∧ ArP P w t a n c) → RwP P w b o l
  | [], o, h => by rw [RwP]; trivial
  | t :: l, o, h => by
    rw [RwP]
    refine ⟨?_, rwP_of l (o + 4) fun k t' hk => ?_⟩
    · have := h 0 t rfl
      rw [Nat.zero_mul, Nat.add_zero] at this
      exact this
    · have := h (k + 1) t' (by simpa using hk)
      rw [show o + (k + 1) * 4 = o + 4 + k * 4 by omega] at this
      exact this

/-- a head and its term -/
def HdP (P : Nat → Prop) (w : World) (h : Hd) (t : Tm) : Prop := h.op = opT t ∧ h.nm = nameT t ∧ h.nu = numT t ∧ ArP P w t h.a h.n h.c
/-- the blocks of what a call has made, and of what was there -/
def NewB (B lo hi : Nat) (b : Nat) : Prop := b < hi ∧ (b < B ∨ lo ≤ b)
/-- a row of the call's own, of terms whose Args lie apart from it -/
def RowH (B lo : Nat) (w : World) (v : Value) (lr : List Tm) (k : Nat) (hs : List Hd) : Prop :=
  hs.length = k ∧ OwnT w lo v hs ∧ ∀ (j : Nat) (h : Hd) (t : Tm), hs[j]? = some h → lr[j]? = some t → HdP (fun b => NewB B lo w.heap.size b ∧ v.ownBlock ≠ some b) w h t
def RowP (B lo : Nat) (w : World) (v : Value) (lr : List Tm) (k : Nat) : Prop := ∃ hs, RowH B lo w v lr k hs
theorem RowP.nil (B lo : Nat) (w : World) (lr : List Tm) : RowP B lo w (.slice none 0 0) lr 0 := ⟨[], rfl, OwnT.nil _ _, fun j h t hj => by simp at hj⟩
theorem RowH.below {B lo : Nat} {w w' : World} {v : Value} {lr : List Tm} {k : Nat} {hs : List Hd} (h : RowH B lo w v lr k hs) (hb : Below w.heap.size w w') : RowH B lo w' v lr k hs := by
  obtain ⟨h1, h2, h3⟩ := h
  refine ⟨h1, h2.below hb, fun j h t e1 e2 => ?_⟩
  obtain ⟨q1, q2, q3, q4⟩ := h3 j h t e1 e2
  exact ⟨q1, q2, q3, ArP.to (fun b hp => hb.block b hp.1.1) (fun b hp => ⟨⟨Nat.lt_of_lt_of_le hp.1.1 hb.size, hp.1.2⟩, hp.2⟩) t q4⟩
/-- a term more: made by a call, put behind -/
theorem RowH.step {B lo : Nat} {wr w4 w5 w6 : World} {v v' : Value} {lr : List Tm} {k : Nat} {hs : List Hd} {x : Tm} {A : Option Addr} {N C g : Nat} (hp : RowH B lo wr v lr k hs) (hBl : B ≤ lo) (hlo : lo ≤ wr.heap.size)
    (hb4 : Below wr.heap.size wr w4) (hA : ArP (NewB B wr.heap.size w4.heap.size) w4 x A N C) (hb5 : Below w4.heap.size w4 w5) (hx : lr[k]? = some x)
    (ho : OwnT w6 lo v' (hs ++ [hdOf x A N C])) (hg : w5.grownBy w6 v.ownBlock) (hv : v'.ownBlock = some g) (hat : v.ownBlock = some g ∨ g = w5.heap.size) : RowP B lo w6 v' lr (k + 1) := by
  obtain ⟨h1, h2, h3⟩ := hp
  have s4 := hb4.size
  have s5 := hb5.size
  have s6 := hg.size
  have hown : ∀ q, v.ownBlock = some q → lo ≤ q ∧ q < wr.heap.size := fun q hq => World.ownsRow.lt h2 q hq
  refine ⟨hs ++ [hdOf x A N C], by simp [h1], ho, fun j h t e1 e2 => ?_⟩
  rcases Nat.lt_or_ge j hs.length with hj | hj
  · rw [List.getElem?_append_left hj] at e1
    obtain ⟨q1, q2, q3, q4⟩ := h3 j h t e1 e2
    refine ⟨q1, q2, q3, ArP.to (fun b hq => ?_) (fun b hq => ?_) t q4⟩
    · exact (hg.block b (by have := hq.1.1; omega) (fun e => hq.2 e.symm)).trans ((hb5.block b (by have := hq.1.1; omega)).trans (hb4.block b hq.1.1))
    · refine ⟨⟨by have := hq.1.1; omega, hq.1.2⟩, fun e => ?_⟩
      rw [hv] at e
      injection e with e
      subst e
      rcases hat with e | e
      · exact hq.2 e
      · have := hq.1.1; omega
  · have hjl : j < (hs ++ [hdOf x A N C]).length := (List.getElem?_eq_some_iff.1 e1).1
    have hjk : j = k := by simp at hjl; omega
    subst hjk
    rw [List.getElem?_append_right hj] at e1
    have e3 : j - hs.length = 0 := by omega
    rw [e3] at e1
    simp only [List.getElem?_cons_zero, Option.some.injEq] at e1
    rw [hx] at e2
    injection e2 with e2
    subst e1 e2
    refine ⟨rfl, rfl, rfl, ArP.to (P := NewB B wr.heap.size w4.heap.size) (fun b hq => ?_) (fun b hq => ?_) x hA⟩
    · refine (hg.block b (by have := hq.1; omega) (fun e => ?_)).trans (hb5.block b hq.1)
      have := hown b e.symm
      rcases hq.2 with h | h <;> omega
    · refine ⟨⟨by have := hq.1; omega, hq.2.imp id (fun h => by omega)⟩, fun e => ?_⟩
      rw [hv] at e
      injection e with e
      subst e
      rcases hat with e | e
      · have := hown g e
        rcases hq.2 with h | h <;> omega
      · have := hq.1; omega
/-- the whole row as a term's Args, elsewhere blocks may have changed -/
theorem RowP.arP {B lo lo' : Nat} {w w' : World} {A : Option Addr} {n C : Nat} {lr : List Tm} {o : Int} {s : ByteArray} {z : Int} (hp : RowP B lo w (.slice A n C) lr n) (hl : lr.length = n) (hlo : lo' ≤ lo) (hs' : w'.heap.size = w.heap.size) (hb : ∀ b, b < B ∨ lo ≤ b → w'.heap[b]? = w.heap[b]?) : ArP (NewB B lo' w'.heap.size) w' (.mk o s z lr) A n C := by
  obtain ⟨hs, h1, h2, h3⟩ := hp
  obtain ⟨A', c', hv, hc1, hc2, hc3, hc4⟩ := h2.slice
  injection hv with e1 e2 e3
  subst e1 e3
  rw [ArP]
  refine ⟨hl.symm, by omega, hc2, hc3, fun hn => ?_⟩
  obtain ⟨g, rfl, hg1, hg2⟩ := hc4 (by omega)
  refine ⟨g, 0, rfl, ⟨by omega, .inr (by omega)⟩, rwP_of lr 0 fun k t hk => ?_⟩
  have hk2 : k < hs.length := by have := (List.getElem?_eq_some_iff.1 hk).1; omega
  obtain ⟨q1, q2, q3, q4⟩ := h3 k hs[k] t (List.getElem?_eq_getElem hk2) hk
  obtain ⟨c0, c1, c2, c3⟩ := h2.at hk2
  have hgb := hb g (.inr hg1)
  rw [Nat.zero_add]
  exact ⟨_, _, _, (World.cell?_of_block hgb).trans (by rw [← q1]; exact c0), (World.cell?_of_block hgb).trans (by rw [← q2]; exact c1), (World.cell?_of_block hgb).trans (by rw [← q3]; exact c2), (World.cell?_of_block hgb).trans c3,
    ArP.to (fun b hq => hb b hq.1.2) (fun b hq => ⟨by rw [hs']; exact hq.1.1, hq.1.2.imp id (fun h => by omega)⟩) t q4⟩
theorem RowH.slice {B lo : Nat} {w : World} {v : Value} {lr : List Tm} {k : Nat} {hs : List Hd} (h : RowH B lo w v lr k hs) : ∃ A c, v = .slice A k c ∧ w.ownsRow lo 24 4 v k (flatH hs) := by
  obtain ⟨h1, h2, _⟩ := h
  obtain ⟨A', c', hv, _⟩ := h2.slice
  exact ⟨A', c', by rw [← h1]; exact hv, by rw [← h1]; exact h2⟩
theorem ownsRow_below {w w' : World} {base n : Nat} {v : Value} {xs : List Value} (h : w.ownsRow base 24 4 v n xs) (hb : Below w.heap.size w w') : w'.ownsRow base 24 4 v n xs := by
  refine ⟨h.1, ?_⟩
  rcases h.2 with hn | ⟨g, cap, cur, rfl, h1, hg, rest⟩
  · exact .inl hn
  · exact .inr ⟨g, cap, cur, rfl, h1, by rw [hb.block g (Array.getElem?_eq_some_iff.1 hg).1]; exact hg, rest⟩
theorem RowH.more {w : World} {lo k g cap : Nat} {hs : List Hd} (hl : hs.length = k) (x : Tm) (A : Option Addr) (N C : Nat) (h : w.ownsRow lo 24 4 (.slice (some ⟨g, 0, none⟩) (k + 1) cap) (k + 1) (flatH hs ++ [.int .i64 (opT x), .string (nameT x), .int .i64 (numT x), .slice A N C])) : OwnT w lo (.slice (some ⟨g, 0, none⟩) (k + 1) cap) (hs ++ [hdOf x A N C]) := by
  unfold OwnT
  rw [List.length_append, flat_app, hl]
  exact h
end Go.Proofs.YtcigeclnbhcohaaGreatDoor.T
namespace Go.Proofs.YtcigeclnbhcohaaGreatDoor.T
open Go.RowKit L
set_option linter.unusedVariables false
set_option linter.unusedSimpArgs false

mutual
theorem szTo_max : ∀ (t : Tm) (most : Nat), szTo most t ≤ most + 1
  | .mk o s n l, most => by rw [szTo]; have := szTos_max l most 1; omega
theorem szTos_max : ∀ (l : List Tm) (most n : Nat), szTos most n l ≤ max n (most + 1)
  | [], most, n => by rw [szTos]; omega
  | t :: l, most, n => by
    rw [szTos]
    split
    · have h1 := szTo_max t (most - n)
      have h2 := szTos_max l most (n + szTo (most - n) t)
      omega
    · omega
end
theorem szTo_args (most : Nat) (t : Tm) : szTo most t = szTos most 1 (argsT t) := by cases t; rw [szTo]; rfl
/-- the count, at this term -/
def SizeOk (t : Tm) : Prop := ∀ (a : Option Addr) (n c most : Nat) (w : World), most ≤ 1000000000 → ArW w t a n c →
  Calls Tryz.prog 9 #[.agg #[.int .i64 (opT t), .string (nameT t), .int .i64 (numT t), .slice a n c], .int .i64 most] w fun e w' => e = .returned (.int .i64 (szTo most t)) ∧ Below w.heap.size w w'

set_option maxRecDepth 100000 in
set_option maxHeartbeats 4000000 in
theorem Size_step (t : Tm) (hok : ∀ x ∈ argsT t, SizeOk x) : SizeOk t := by
  intro a n c most w hm hA
  obtain ⟨W2, hW2, hB2, hs2, S2⟩ := box1 w (opT t) (nameT t) (numT t) a n c
  have hT := TsW.b (ArW.args hA) hB2
  rw [szTo_args]
  generalize hl : argsT t = l at *
  have hst : ∀ k x q, l[k]? = some x → q ≤ most → szTos most q (l.drop k) = szTos most (q + szTo (most - q) x) (l.drop (k + 1)) := fun k x q h h2 => by rw [drop_t h, szTos, if_pos h2]
  have he : ∀ k q, n ≤ k → szTos most q (l.drop k) = q := fun k q h => by rw [List.drop_eq_nil_of_le (by rw [← hT.1]; exact h), szTos]
  have he2 : ∀ k q, most < q → szTos most q (l.drop k) = q := fun k q h => by
    cases hd : l.drop k with
    | nil => rw [szTos]
    | cons x r => rw [szTos, if_neg (by omega)]
  have hn : n ≤ 9223372036854775807 := by have h1 := hT.2.1; have h2 := hT.2.2.1; unfold maxLen at h2; omega
  have hk2 : ∀ k x, l[k]? = some x → SizeOk x := fun k x h => hok x (List.mem_of_getElem? h)
  have h0 : szTos most 1 l = szTos most 1 (l.drop 0) := rfl
  rw [h0]
  obtain ⟨F, hF⟩ : ∃ F : Nat → Nat → Nat, ∀ k q, szTos most q (l.drop k) = F k q := ⟨_, fun _ _ => rfl⟩
  simp only [hF] at hst he he2 ⊢
  generalize hRR : F 0 1 = R
  have HR0 := Lib.hid hRR
  clear hRR
  clear hF h0 hok
  obtain ⟨s0, s1, s2, s3⟩ := S2.four
  have H1 := Lib.hid hT
  have Hst := Lib.hid hst
  have He := Lib.hid he
  have He2 := Lib.hid he2
  have HK := Lib.hid hk2
  have HS := Lib.hid S2
  clear hA hT hst he he2 hk2 S2 hl s0 s1 s2
  generalize opT t = op at *
  generalize nameT t = nm at *
  generalize numT t = nu at *
  go_enter Tryz.func9, Tryz.ntmps9
  go_wp2
  go_loopw [5, 6] (fun q i wr0 => ∃ (wr : World) (k nk : Nat), wr = wr0 ∧ k ≤ n ∧ nk ≤ most + 1 ∧ q = .int .i64 nk ∧ i = .int .i64 k ∧ Below W2.heap.size W2 wr ∧ Hid (F k nk = R)) (fun q i _ => n - (intOf i).toNat)
  case atStart => exact ⟨_, 0, 1, rfl, by omega, by omega, rfl, rfl, Below.refl _ _, HR0⟩
  case round =>
    obtain ⟨wr, k, nk, rfl, hk, hnk, rfl, rfl, hB, hR⟩ := hrel
    obtain ⟨_, _, _, s3r⟩ := (TBox.b HS.out hB).four
    by_cases hlt : k < n
    · by_cases hq : nk ≤ most
      · obtain ⟨bb, o, x, A, M, Cc, rfl, hb, y0, y1, y2, y3, hx, hok⟩ := (TsW.b H1.out hB).at hlt
        have hs1 := Lib.hid (Hst.out k x nk hx hq)
        have cs := HK.out k x hx A M Cc (most - nk) wr (by omega) hok
        have hmx := szTo_max x (most - nk)
        have em : ((most - nk : Nat) : Int) = (most : Int) - (nk : Int) := by omega
        rw [em] at cs
        clear hx hok H1 Hst HK HS em
        generalize szTo (most - nk) x = sz at *
        generalize opT x = op' at *
        generalize nameT x = nm' at *
        generalize numT x = nu' at *
        have hnew : Hid (F (k + 1) (nk + sz) = R) := by show _ = _; rw [← hR.out, hs1.out]
        clear hR hs1
        have hk0 : 0 ≤ (k : Int) := by omega
        have hk1 : (k : Int) < (n : Int) := by omega
        go_wp2_with (go_at_call 9; ((with_reducible refine cs.mono ?_); rintro e w4 ⟨rfl, hb4⟩))
        go_roundw
        case rel => exact ⟨_, k + 1, nk + sz, rfl, by omega, by omega, by go_num, by go_num, bel_trans hB hb4, hnew⟩
        case measure => simp [intOf]; omega
      · have hnew : Hid (nk = R) := by show _ = _; rw [← hR.out, He2.out k nk (by omega)]
        clear hR
        go_wp2
        go_ret
        exact ⟨one (by rw [← hnew.out]), bel_trans hB2 hB⟩
    · have hnew : Hid (nk = R) := by show _ = _; rw [← hR.out, He.out k nk (by omega)]
      clear hR
      go_wp2
      go_ret
      exact ⟨one (by rw [← hnew.out]), bel_trans hB2 hB⟩
theorem Size_any (t : Tm) : SizeOk t := Tm.ind Size_step t
end Go.Proofs.YtcigeclnbhcohaaGreatDoor.T
