/-
  What is proved: matching as a function on plain terms; rising lists of pairs with one more (plain mathematics).
  What is proved: package match's map of what stands for each name, and its set of names: made, written, asked, kept.
  What is proved: package match's iterator over the parts of a term; whether a part is a bound number.
  What is proved: whether a term may stand for a variable, as package match tells.
-/
import Derived.Test.YtnhemglpbhnmdaaGreatBM
import Derived.Test.YtnhemglpbhnmdaaGreatBR
import Derived.Maps.Own
import Derived.Maps.Views
import Derived.Carry
import Derived.Test.YtnhemglpbhnmdaaGreatBT
import Derived.Test.YtnhemglpbhnmdaaGreatZRgtQ
namespace Go.Proofs.YtnhemglpbhnmdaaGreat.Mt
open Go.RowKit L T C B U
set_option linter.unusedVariables false
set_option linter.unusedSimpArgs false

mutual
/-- has it a bound number? -/
def bdT : Tm → Bool
  | .mk o _ _ l => o == 2 || bdTs l
def bdTs : List Tm → Bool
  | [] => false
  | t :: l => bdT t || bdTs l
end
/-- may it stand for a variable? -/
def mayT (t : Tm) : Bool := decide (rightE t = 0) && !bdT t
/-- a pair put among rising names -/
def putL : List Pr → Pr → List Pr
  | [], x => [x]
  | p :: l, x => if cmpN p.nm x.nm < 0 then p :: putL l x else x :: p :: l
mutual
/-- what turns a pattern into a term, beside what is there -/
def mat (vs : List ByteArray) : Tm → List Pr → Tm → Option (List Pr)
  | .mk o s z xs, l, t =>
    if o = 1 ∧ hasS vs s = true then
      match getU l s with
      | some u => if eqT u t then some l else none
      | none => if mayT t then some (putL l ⟨s, t⟩) else none
    else if o = opT t ∧ s = nameT t ∧ z = numT t ∧ xs.length = (argsT t).length then mats vs xs l (argsT t) else none
def mats (vs : List ByteArray) : List Tm → List Pr → List Tm → Option (List Pr)
  | [], l, _ => some l
  | _ :: _, _, [] => none
  | x :: xs, l, u :: us => match mat vs x l u with | none => none | some l' => mats vs xs l' us
end
theorem putL_len : ∀ (l : List Pr) (x : Pr), (putL l x).length = l.length + 1
  | [], x => rfl
  | p :: l, x => by
    rw [putL]
    split
    · rw [List.length_cons, putL_len l x, List.length_cons]
    · rfl
theorem nm_eq {x y : ByteArray} : (x.toList == y.toList) = true ↔ x = y := eqS_iff
theorem putL_get {x : Pr} (s : ByteArray) : ∀ {l : List Pr}, getU l x.nm = none → getU (putL l x) s = if x.nm.toList == s.toList then some x.t else getU l s
  | [], _ => by rw [putL, getU, getU, getU]
  | p :: l, h => by
    rw [getU] at h
    have hp : ¬ (p.nm.toList == x.nm.toList) = true := fun e => by rw [if_pos e] at h; cases h
    rw [if_neg hp] at h
    rw [putL]
    split
    · rw [getU, putL_get s h]
      by_cases e1 : (p.nm.toList == s.toList) = true
      · have e2 : ¬ (x.nm.toList == s.toList) = true := fun e2 => hp (nm_eq.2 ((nm_eq.1 e1).trans (nm_eq.1 e2).symm))
        rw [if_pos e1, if_neg e2, getU, if_pos e1]
      · rw [if_neg e1]
        conv => rhs; rw [getU, if_neg e1]
    · rw [getU]
/-- the same names, the same terms as with the pair in front -/
theorem putL_front {x : Pr} {l : List Pr} (h : getU l x.nm = none) (s : ByteArray) : getU (putL l x) s = getU (x :: l) s := by rw [putL_get s h, getU]
theorem putL_mem {x : Pr} : ∀ {l : List Pr} {p : Pr}, p ∈ putL l x ↔ p = x ∨ p ∈ l
  | [], p => by rw [putL]; simp
  | q :: l, p => by
    rw [putL]
    split
    · rw [List.mem_cons, putL_mem, List.mem_cons]
      constructor
      · rintro (h | h | h)
        · exact .inr (.inl h)
        · exact .inl h
        · exact .inr (.inr h)
      · rintro (h | h | h)
        · exact .inr (.inl h)
        · exact .inl h
        · exact .inr (.inr h)
    · rw [List.mem_cons, List.mem_cons]
/-- names that rise, by pairs -/
def rises : List Pr → Prop
  | [] => True
  | [_] => True
  | p :: q :: l => cmpN p.nm q.nm < 0 ∧ rises (q :: l)
theorem putL_rises {x : Pr} : ∀ {l : List Pr}, getU l x.nm = none → rises l → rises (putL l x)
  | [], _, _ => by rw [putL]; trivial
  | [p], h, _ => by
    rw [getU] at h
    have hp : ¬ (p.nm.toList == x.nm.toList) = true := fun e => by rw [if_pos e] at h; cases h
    rw [putL]
    split
    · rename_i hc; rw [putL]; exact ⟨hc, trivial⟩
    · rename_i hc
      refine ⟨?_, trivial⟩
      have h1 := linN.anti x.nm p.nm
      have h2 : cmpN p.nm x.nm ≠ 0 := fun e => hp (nm_eq.2 ((linN.eq _ _).1 e))
      omega
  | p :: q :: l, h, hr => by
    rw [getU] at h
    have hp : ¬ (p.nm.toList == x.nm.toList) = true := fun e => by rw [if_pos e] at h; cases h
    rw [if_neg hp] at h
    have ih := putL_rises (l := q :: l) h hr.2
    rw [putL]
    split
    · rename_i hc
      rw [putL] at ih ⊢
      split
      · rename_i hd; rw [if_pos hd] at ih; exact ⟨hr.1, ih⟩
      · rename_i hd; rw [if_neg hd] at ih; exact ⟨hc, ih⟩
    · rename_i hc
      refine ⟨?_, hr⟩
      have h1 := linN.anti x.nm p.nm
      have h2 : cmpN p.nm x.nm ≠ 0 := fun e => hp (nm_eq.2 ((linN.eq _ _).1 e))
      omega
end Go.Proofs.YtnhemglpbhnmdaaGreat.Mt
namespace Go.Proofs.YtnhemglpbhnmdaaGreat.Mt
open Go.RowKit Go.Maps Go.WideMaps L T U
set_option linter.unusedVariables false
set_option linter.unusedSimpArgs false

/-- the map in block g reads as the first terms of l -/
def MapM (B : Nat) (w : World) (g : Nat) (l : List Pr) : Prop :=
  ∃ n D, w.ownsMap Tryz.prog 9 RV g n D ∧ IsMap D ∧ n ≤ l.length ∧ ∀ s : ByteArray, (getU l s = none → ∀ z, D.atKey (.string s.data.toList) z = z) ∧
    (∀ t, getU l s = some t → ∃ a n c, (∀ z, D.atKey (.string s.data.toList) z = .held (tmV (opT t) (nameT t) (numT t) a n c)) ∧ Ar B w t a n c)
theorem MapM.made (B : Nat) (w : World) : MapM B (w.alloc (.map #[] 0)) w.heap.size [] :=
  ⟨0, _, World.ownsMap_made _ _ _ _, ⟨[], rfl⟩, Nat.le_refl _, fun s => ⟨fun _ z => rfl, fun t h => by simp [getU] at h⟩⟩
theorem MapM.lt {B : Nat} {w : World} {g : Nat} {l : List Pr} (h : MapM B w g l) : g < w.heap.size := by
  obtain ⟨n, D, ho, _⟩ := h; exact ho.lt
/-- kept, where its block and all blocks below B are -/
theorem MapM.keep {B : Nat} {w w' : World} {g : Nat} {l : List Pr} (h : MapM B w g l) (hg : w'.heap[g]? = w.heap[g]?) (hb : Below B w w') : MapM B w' g l := by
  obtain ⟨n, D, ⟨es, ck, h1, h2, h3, h4⟩, hD, hn, hs⟩ := h
  refine ⟨n, D, ⟨es, ck, hg.trans h1, h2, h3, h4⟩, hD, hn, fun s => ⟨(hs s).1, fun t ht => ?_⟩⟩
  obtain ⟨a, n', c, e1, e2⟩ := (hs s).2 t ht
  exact ⟨a, n', c, e1, Ar.bel hb _ e2⟩
theorem MapM.b {B : Nat} {w w' : World} {g : Nat} {l : List Pr} (h : MapM B w g l) (hB : B ≤ w.heap.size) (hb : Below w.heap.size w w') : MapM B w' g l :=
  h.keep (hb.block g h.lt) (hb.mono hB)
set_option maxRecDepth 100000 in
/-- written -/
theorem MapM.put {B : Nat} {w : World} {g : Nat} {l : List Pr} (h : MapM B w g l) (hBg : B ≤ g) (hBw : B ≤ w.heap.size) (hl : l.length < maxLen) (p : Pr) (a : Option Addr) (n c : Nat) (hp : p.nm.size ≤ maxLen) (hA : Ar B w p.t a n c) :
    ∃ w', (Instr.mapUpdate 68 (.map (some g)) (.string p.nm) (.agg #[.int .i64 (opT p.t), .string (nameT p.t), .int .i64 (numT p.t), .slice a n c])).run Tryz.prog w = .ok () w' ∧ MapM B w' g (p :: l) ∧ w.grownBy w' (some g) ∧ Below B w w' := by
  obtain ⟨k, D, ho, hD, hk, hs⟩ := h
  have hlt := ho.lt
  obtain ⟨w', h1, h2, h3⟩ := ho.update lawS Tryz.underlying68 (by omega) (key := .string p.nm) (val := .agg #[.int .i64 (opT p.t), .string (nameT p.t), .int .i64 (numT p.t), .slice a n c]) (keyOf_string_mk Tryz.underlying9 hp) (d := .held (tmV (opT p.t) (nameT p.t) (numT p.t) a n c)) (ps := []) rfl
  have hb : Below B w w' := (Below.refl B w).grown h3 hBw (fun q hq => by injection hq with hq; omega)
  refine ⟨w', h1, ⟨k + 1, _, h2, hD.put _ _, by simp; omega, fun s => ?_⟩, h3, hb⟩
  by_cases e : p.nm.toList == s.toList
  · have es : p.nm = s := eqS_iff.1 e
    subst es
    refine ⟨fun hn => by rw [getU, if_pos e] at hn; simp at hn, fun t ht => ?_⟩
    rw [getU, if_pos e] at ht
    injection ht with ht
    subst ht
    exact ⟨a, n, c, fun z => atKey_put_same hD (by trivial) _ _, Ar.bel hb _ hA⟩
  · have hne : (Lit.string s.data.toList) ≠ (Lit.string p.nm.data.toList) := fun h => e (by
      injection h with h
      exact eqS_iff.2 (ByteArray.ext (Array.toList_inj.1 h)).symm)
    rw [getU, if_neg e]
    refine ⟨fun hn z => by rw [atKey_put_other hne]; exact (hs s).1 hn z, fun t ht => ?_⟩
    obtain ⟨a', n', c', e1, e2⟩ := (hs s).2 t ht
    exact ⟨a', n', c', fun z => by rw [atKey_put_other hne]; exact e1 z, Ar.bel hb _ e2⟩
theorem zeroM (w : World) : (zeroValue 31).run Tryz.prog w = .ok (.agg #[.int .i64 0, .string ⟨#[]⟩, .int .i64 0, .slice none 0 0]) w := by kernel_rfl
set_option maxRecDepth 100000 in
/-- asked: found -/
theorem MapM.find {B : Nat} {w : World} {g : Nat} {l : List Pr} (h : MapM B w g l) (s : ByteArray) (hs : s.size ≤ maxLen) (t : Tm) (ht : getU l s = some t) :
    ∃ a n c, (Instr.lookup 68 (.map (some g)) (.string s) true).run Tryz.prog w = .ok (.tuple #[.agg #[.int .i64 (opT t), .string (nameT t), .int .i64 (numT t), .slice a n c], .bool true]) w ∧ Ar B w t a n c := by
  obtain ⟨n, D, ⟨es, ck, h1, h2, h3, h4⟩, hD, hn, hss⟩ := h
  obtain ⟨a, m, c, e1, e2⟩ := (hss s).2 t ht
  subst h4
  rcases Maps.fit_look (t := 68) true lawS Tryz.underlying68 (zeroM w) h1 h2 (keyOf_string_mk Tryz.underlying9 hs) with ⟨_, _, hz⟩ | ⟨e0, y, _, _, hrun, hR, hat, _⟩
  · have := (e1 .nil).symm.trans (hz .nil)
    cases this
  · have h5 := (e1 .nil).symm.trans (hat .nil)
    unfold RV at hR
    injection hR with hR
    rw [← hR] at h5
    injection h5 with h5
    rw [← h5] at hrun
    exact ⟨a, m, c, hrun, e2⟩
set_option maxRecDepth 100000 in
/-- asked: not there -/
theorem MapM.miss {B : Nat} {w : World} {g : Nat} {l : List Pr} (h : MapM B w g l) (s : ByteArray) (hs : s.size ≤ maxLen) (ht : getU l s = none) :
    (Instr.lookup 68 (.map (some g)) (.string s) true).run Tryz.prog w = .ok (.tuple #[.agg #[.int .i64 0, .string ⟨#[]⟩, .int .i64 0, .slice none 0 0], .bool false]) w := by
  obtain ⟨n, D, ⟨es, ck, h1, h2, h3, h4⟩, hD, hn, hss⟩ := h
  have e1 := (hss s).1 ht
  subst h4
  rcases Maps.fit_look (t := 68) true lawS Tryz.underlying68 (zeroM w) h1 h2 (keyOf_string_mk Tryz.underlying9 hs) with ⟨hrun, _, _⟩ | ⟨e0, y, _, _, hrun, hR, hat, _⟩
  · exact hrun
  · have h5 := (e1 .nil).symm.trans (hat .nil)
    unfold RV at hR
    injection hR with hR
    rw [← hR] at h5
    cases h5
theorem MapM.congr {B : Nat} {w : World} {g : Nat} {l m : List Pr} (h : MapM B w g l) (hg : ∀ s, getU m s = getU l s) (hl : l.length ≤ m.length) : MapM B w g m := by
  obtain ⟨n, D, h1, h2, h3, h4⟩ := h
  exact ⟨n, D, h1, h2, Nat.le_trans h3 hl, fun s => by rw [hg s]; exact h4 s⟩
set_option maxRecDepth 100000 in
/-- asked without the second answer: found -/
theorem MapM.find1 {B : Nat} {w : World} {g : Nat} {l : List Pr} (h : MapM B w g l) (s : ByteArray) (hs : s.size ≤ maxLen) (t : Tm) (ht : getU l s = some t) :
    ∃ a n c, (Instr.lookup 68 (.map (some g)) (.string s) false).run Tryz.prog w = .ok (.agg #[.int .i64 (opT t), .string (nameT t), .int .i64 (numT t), .slice a n c]) w ∧ Ar B w t a n c := by
  obtain ⟨n, D, ⟨es, ck, h1, h2, h3, h4⟩, hD, hn, hss⟩ := h
  obtain ⟨a, m, c, e1, e2⟩ := (hss s).2 t ht
  subst h4
  rcases Maps.fit_look (t := 68) false lawS Tryz.underlying68 (zeroM w) h1 h2 (keyOf_string_mk Tryz.underlying9 hs) with ⟨_, _, hz⟩ | ⟨e0, y, _, _, hrun, hR, hat, _⟩
  · have := (e1 .nil).symm.trans (hz .nil)
    cases this
  · have h5 := (e1 .nil).symm.trans (hat .nil)
    unfold RV at hR
    injection hR with hR
    rw [← hR] at h5
    injection h5 with h5
    rw [← h5] at hrun
    exact ⟨a, m, c, hrun, e2⟩
/-! the set of the names -/
/-- the map in block g tells which texts are among some -/
def SetM (w : World) (g : Nat) (X : List ByteArray) : Prop :=
  ∃ n D, w.ownsMap Tryz.prog 9 RV g n D ∧ IsMap D ∧ n ≤ X.length ∧ ∀ s : ByteArray, (hasS X s = false → ∀ z, D.atKey (.string s.data.toList) z = z) ∧ (hasS X s = true → ∀ z, D.atKey (.string s.data.toList) z = .held (.bool true))
theorem SetM.made (w : World) : SetM (w.alloc (.map #[] 0)) w.heap.size [] :=
  ⟨0, _, World.ownsMap_made _ _ _ _, ⟨[], rfl⟩, Nat.le_refl _, fun s => ⟨fun _ z => rfl, fun h => by simp [hasS] at h⟩⟩
theorem SetM.lt {w : World} {g : Nat} {X : List ByteArray} (h : SetM w g X) : g < w.heap.size := by
  obtain ⟨n, D, ho, _⟩ := h; exact ho.lt
theorem SetM.keep {w w' : World} {g : Nat} {X : List ByteArray} (h : SetM w g X) (hg : w'.heap[g]? = w.heap[g]?) : SetM w' g X := by
  obtain ⟨n, D, ⟨es, ck, h1, h2, h3, h4⟩, hD, hn, hs⟩ := h
  exact ⟨n, D, ⟨es, ck, hg.trans h1, h2, h3, h4⟩, hD, hn, hs⟩
theorem SetM.b {w w' : World} {g : Nat} {X : List ByteArray} (h : SetM w g X) (hb : Below w.heap.size w w') : SetM w' g X := h.keep (hb.block g h.lt)
set_option maxRecDepth 100000 in
theorem SetM.put {w : World} {g : Nat} {X : List ByteArray} (h : SetM w g X) (hl : X.length < maxLen) (s : ByteArray) (hs : s.size ≤ maxLen) :
    ∃ w', (Instr.mapUpdate 71 (.map (some g)) (.string s) (.bool true)).run Tryz.prog w = .ok () w' ∧ SetM w' g (X ++ [s]) ∧ w.grownBy w' (some g) := by
  obtain ⟨k, D, ho, hD, hk, hss⟩ := h
  obtain ⟨w', h1, h2, h3⟩ := ho.update lawS Tryz.underlying71 (by omega) (key := .string s) (val := .bool true) (keyOf_string_mk Tryz.underlying9 hs) (d := .held (.bool true)) (ps := []) rfl
  have hap : ∀ x, hasS (X ++ [s]) x = (hasS X x || (s.toList == x.toList)) := fun x => by unfold hasS; rw [List.any_append]; simp
  refine ⟨w', h1, ⟨k + 1, _, h2, hD.put _ _, by simp; omega, fun x => ?_⟩, h3⟩
  rw [hap]
  by_cases e : (s.toList == x.toList) = true
  · have es : s = x := eqS_iff.1 e
    subst es
    exact ⟨fun hn => (by rw [e, Bool.or_true] at hn; cases hn), fun _ z => atKey_put_same hD (by trivial) _ _⟩
  · have hne : (Lit.string x.data.toList) ≠ (Lit.string s.data.toList) := fun h => e (by
      injection h with h
      exact eqS_iff.2 (ByteArray.ext (Array.toList_inj.1 h)).symm)
    have e' : (s.toList == x.toList) = false := by simpa using e
    rw [e', Bool.or_false]
    exact ⟨fun hn z => by rw [atKey_put_other hne]; exact (hss x).1 hn z, fun ht z => by rw [atKey_put_other hne]; exact (hss x).2 ht z⟩
theorem zeroB (w : World) : (zeroValue 4).run Tryz.prog w = .ok (.bool false) w := by kernel_rfl
set_option maxRecDepth 100000 in
theorem SetM.ask {w : World} {g : Nat} {X : List ByteArray} (h : SetM w g X) (s : ByteArray) (hs : s.size ≤ maxLen) :
    (Instr.lookup 71 (.map (some g)) (.string s) false).run Tryz.prog w = .ok (.bool (hasS X s)) w := by
  obtain ⟨n, D, ⟨es, ck, h1, h2, h3, h4⟩, hD, hn, hss⟩ := h
  subst h4
  cases hq : hasS X s with
  | true =>
    have e1 := (hss s).2 hq
    rcases Maps.fit_look (t := 71) false lawS Tryz.underlying71 (zeroB w) h1 h2 (keyOf_string_mk Tryz.underlying9 hs) with ⟨_, _, hz⟩ | ⟨e0, y, _, _, hrun, hR, hat, _⟩
    · have := (e1 .nil).symm.trans (hz .nil)
      cases this
    · have h5 := (e1 .nil).symm.trans (hat .nil)
      unfold RV at hR
      injection hR with hR
      rw [← hR] at h5
      injection h5 with h5
      rw [← h5] at hrun
      exact hrun
  | false =>
    have e1 := (hss s).1 hq
    rcases Maps.fit_look (t := 71) false lawS Tryz.underlying71 (zeroB w) h1 h2 (keyOf_string_mk Tryz.underlying9 hs) with ⟨hrun, _, _⟩ | ⟨e0, y, _, _, hrun, hR, hat, _⟩
    · exact hrun
    · have h5 := (e1 .nil).symm.trans (hat .nil)
      unfold RV at hR
      injection hR with hR
      rw [← hR] at h5
      cases h5
end Go.Proofs.YtnhemglpbhnmdaaGreat.Mt
namespace Go.Proofs.YtnhemglpbhnmdaaGreat.Mt
open Go.RowKit Go.Shelf L T
set_option linter.unusedVariables false
set_option linter.unusedSimpArgs false
attribute [local go_sem] Oper.semAt_some

theorem args_any (o : Int) (s : ByteArray) (z : Int) (a : Option Addr) (n c : Nat) (w : World) :
    Calls Tryz.prog 179 #[.agg #[.int .i64 o, .string s, .int .i64 z, .slice a n c]] w fun e w' => e = .returned (.slice a n c) ∧ w' = w.alloc (.cells #[.int .i64 o, .string s, .int .i64 z, .slice a n c] 31) := by
  go_enter Tryz.func179, Tryz.ntmps179
  go_wp2
  go_ret
  exact ⟨rfl, rfl⟩
/-- the walk, at this term -/
def VisitOk (B : Nat) (w0 : World) (l N : Nat) (J Jx : List (Pt B w0) → World → Prop) (t : Tm) : Prop :=
  ∀ (n : Nat) (a : Option Addr) (m c : Nat) (pre : List (Pt B w0)) (W : World), Ar B w0 t a m c → Below B w0 W → B ≤ W.heap.size → J pre W → pre.length + size t ≤ N →
    CallsIn Fence.wide n Tryz.prog 141 #[.agg #[.int .i64 (opT t), .string (nameT t), .int .i64 (numT t), .slice a m c], .func (.func 179) #[] #[], .func (.yield l) #[] #[]] W fun e W' =>
      (e = .returned (.bool true) ∧ (∃ ys, ys.map Pt.t = all t ∧ J (pre ++ ys) W') ∧ KpT B W W') ∨ (e = .returned (.bool false) ∧ ∃ q, q.map Pt.t <+: all t ∧ Jx (pre ++ q) W')

set_option maxRecDepth 100000 in
set_option maxHeartbeats 4000000 in
theorem visit_step (B : Nat) (w0 : World) (l N : Nat) (J Jx : List (Pt B w0) → World → Prop) (b0 : Nat) (hJ : AbidesFrom b0 J) (hY : RoundsT B w0 l N J Jx) (t : Tm) (hok : ∀ x ∈ argsT t, VisitOk B w0 l N J Jx x) : VisitOk B w0 l N J Jx t := by
  intro n a m c pre W hA hB hBW hJ0 hN
  obtain ⟨W2, hW2, hB2, hs2, S2⟩ := box1 W (opT t) (nameT t) (numT t) a m c
  have hJ2 : J pre W2 := by rw [← hW2]; exact hJ pre W _ none hJ0 (World.grownBy_alloc W _ none) (fun r e => by cases e)
  have hp := size_pos t
  obtain ⟨fn, tmps, assign, body, hy, hR⟩ := hY (n - 1) pre ⟨t, a, m, c, hA⟩ W2 hJ2 (by omega)
  dsimp only [encP] at hy
  obtain ⟨s0, s1, s2, s3⟩ := S2.four
  have hKW : KpT B W W2 := KpT.of_below hBW hB2
  have hB02 : Below B w0 W2 := hB.trans hKW.1
  have hT := ar_isT.1 hA
  have hsz : size t = 1 + sizes (argsT t) := by cases t; rw [size]; rfl
  rw [all_mk]
  refine callsIn_of_wp Tryz.func141 rfl trivial ?_ rfl
  simp only [Tryz.ntmps141, List.size_toArray, List.length_cons, List.length_nil, Nat.reduceAdd, Nat.reduceSub, Array.replicate_succ, Array.replicate_zero, List.push_toArray, List.append_toArray, List.nil_append, List.cons_append]
  have hdd : ∀ k : Nat, (Fence.wide.depth.isSome = true → 1 ≤ k) := fun k h => by cases h
  gi_wp2_with (first
    | ((try refine ⟨hdd _, ?_⟩); refine hR.mono ?_; clear hR; rintro e W3 (⟨rfl, hJ3, hk3⟩ | ⟨rfl, hx3⟩); all_goals (try (have hk3' := hk3; obtain ⟨u0, u1, u2, u3⟩ := (S2.keep hk3).four)))
    | ((try refine ⟨trivial, ?_⟩); (try refine ⟨hdd _, ?_⟩); gi_at_call 179; refine (callsIn_wide.2 (args_any _ _ _ _ _ _ W3)).mono ?_; rintro e W3b ⟨rfl, hW3b⟩; have hW3c := Lib.hid hW3b; clear hW3b))
  · have hJ3b : J (pre ++ [⟨t, a, m, c, hA⟩]) W3b := by rw [hW3c.out]; exact hJ _ W3 _ none hJ3 (World.grownBy_alloc W3 _ none) (fun r e => by cases e)
    have hK3b : KpT B W3 W3b := by rw [hW3c.out]; exact KpT.of_below (Nat.le_trans hBW (hKW.trans hk3).1.size) (bel_alloc (Below.refl _ _) _)
    clear hJ3 hW3c
    have hJ3 := hJ3b
    have hK3 := (hKW.trans hk3).trans hK3b
    clear hJ3b
    have hn : m ≤ 9223372036854775807 := by have h1 := hT.2.1; have h2 := hT.2.2.1; unfold maxLen at h2; omega
    have hW3 : B ≤ W3b.heap.size := Nat.le_trans hBW hK3.1.size
    have HT := Lib.hid hT
    have HJ := Lib.hid hJ
    have HK := Lib.hid (show ∀ k x, (argsT t)[k]? = some x → VisitOk B w0 l N J Jx x from fun k x h => hok x (List.mem_of_getElem? h))
    have H0 : Hid (∃ ys : List (Pt B w0), ys.map Pt.t = t :: alls ((argsT t).take 0) ∧ J (pre ++ ys) W3b) := ⟨[⟨t, a, m, c, hA⟩], rfl, hJ3⟩
    clear hT hJ hok hJ3 hy hW2 s0 s1 s2 s3 u0 u1 u2 u3 S2 hJ2 hJ0 hY hK3b
    generalize hla : argsT t = la at *
    have HLa := Lib.hid hla
    clear hla
    generalize opT t = op at *
    generalize nameT t = nm at *
    generalize numT t = nu at *
    gi_loopw [17] (fun i wr0 => ∃ (wr : World) (k : Nat), wr = wr0 ∧ k ≤ m ∧ i = .int .i64 k ∧ KpT B W wr ∧ Hid (∃ ys : List (Pt B w0), ys.map Pt.t = t :: alls (la.take k) ∧ J (pre ++ ys) wr)) (fun i _ => m - (intOf i).toNat)
    case atStart => exact ⟨_, 0, rfl, by omega, rfl, hK3, H0⟩
    case round =>
      obtain ⟨wr, k, rfl, hk, rfl, hKr, hR⟩ := hrel
      have hBr : Below B w0 wr := hB.trans hKr.1
      have hBs : B ≤ wr.heap.size := Nat.le_trans hBW hKr.1.size
      by_cases hlt : k < m
      · obtain ⟨bb, o, x, A, M, Cc, rfl, hb, z0, z1, z2, z3, hx, hok⟩ := HT.out.at hlt
        have y0 := (hBr.cell (p := ⟨bb, _, none⟩) hb).trans z0
        have y1 := (hBr.cell (p := ⟨bb, _, none⟩) hb).trans z1
        have y2 := (hBr.cell (p := ⟨bb, _, none⟩) hb).trans z2
        have y3 := (hBr.cell (p := ⟨bb, _, none⟩) hb).trans z3
        obtain ⟨ys, hys, hJr⟩ := hR.out
        have hlen : ys.length = 1 + sizes (la.take k) := by
          have := congrArg List.length hys
          rw [List.length_map, List.length_cons, alls_len] at this
          omega
        have hlts := alls_lt hx
        obtain ⟨W4, hW4, hB4, hs4, S4⟩ := box1 wr (opT x) (nameT x) (numT x) A M Cc
        have hJ4 : J (pre ++ ys) W4 := by rw [← hW4]; exact HJ.out _ wr _ none hJr (World.grownBy_alloc wr _ none) (fun r e => by cases e)
        have hK4 : KpT B wr W4 := KpT.of_below hBs hB4
        have cv := HK.out k x hx (n - 1) A M Cc (pre ++ ys) W4 hok (hBr.trans hK4.1) (Nat.le_trans hBs hK4.1.size) hJ4 (by rw [List.length_append]; omega)
        obtain ⟨f0, f1, f2, f3⟩ := S4.four
        have hpre := alls_pre hx
        have htk := take_t hx
        clear z0 z1 z2 z3 hok hR HK HT HJ S4
        have Hx := Lib.hid hx
        have Hys := Lib.hid hys
        have Hpre := Lib.hid hpre
        have Htk := Lib.hid htk
        clear hx hys hpre htk hJr hJ4
        generalize opT x = op' at *
        generalize nameT x = nm' at *
        generalize numT x = nu' at *
        have hk0 : 0 ≤ (k : Int) := by omega
        have hk1 : (k : Int) < (m : Int) := by omega
        gi_wp2_with ((try refine ⟨trivial, ?_⟩); (try refine ⟨hdd _, ?_⟩); gi_at_call 141; refine cv.mono ?_; clear cv; rintro e W5 (⟨rfl, hz, hk5⟩ | ⟨rfl, hq⟩); all_goals (first | (have Hz := Lib.hid hz; clear hz) | (have Hq := Lib.hid hq; clear hq)))
        · go_roundw
          case rel => exact ⟨_, k + 1, rfl, by omega, by go_num, (hKr.trans hK4).trans hk5, by
            obtain ⟨zs, h1, h2⟩ := Hz.out
            refine ⟨ys ++ zs, ?_, by rw [← List.append_assoc]; exact h2⟩
            rw [List.map_append, Hys.out, h1, Htk.out, alls_app, List.cons_append]
            rw [show alls [x] = all x by rw [alls, alls, List.append_nil]]⟩
          case measure => simp [intOf]; omega
        · go_ret
          refine .inr ⟨rfl, ?_⟩
          rw [HLa.out]
          obtain ⟨q, h1, h2⟩ := Hq.out
          refine ⟨ys ++ q, ?_, by rw [← List.append_assoc]; exact h2⟩
          rw [List.map_append, Hys.out, List.cons_append]
          obtain ⟨r1, h3⟩ := h1
          obtain ⟨r2, h4⟩ := Hpre.out
          exact ⟨r1 ++ r2, by rw [← h4, ← h3]; simp⟩
      · obtain rfl : k = m := by omega
        have hR2 : Hid (∃ ys : List (Pt B w0), ys.map Pt.t = t :: alls la ∧ J (pre ++ ys) wr) := by
          obtain ⟨ys, h1, h2⟩ := hR.out
          exact ⟨ys, by rw [h1, List.take_of_length_le (by have := HT.out.1; omega)], h2⟩
        clear hR
        gi_wp2
        go_ret
        exact .inl ⟨rfl, by rw [HLa.out]; exact hR2.out, hKr⟩
  · go_ret
    exact .inr ⟨rfl, [⟨t, a, m, c, hA⟩], ⟨_, by rw [List.map_singleton, List.singleton_append]⟩, hx3⟩
theorem visit_any (B : Nat) (w0 : World) (l N : Nat) (J Jx : List (Pt B w0) → World → Prop) (b0 : Nat) (hJ : AbidesFrom b0 J) (hY : RoundsT B w0 l N J Jx) (t : Tm) : VisitOk B w0 l N J Jx t :=
  Tm.ind (visit_step B w0 l N J Jx b0 hJ hY) t
theorem box_all (w : World) (o : Int) (s : ByteArray) (z : Int) (a : Option Addr) (n c : Nat) :
    ∃ W, ((w.alloc (.cells #[.int .i64 o, .string s, .int .i64 z, .slice a n c] 31)).alloc (.cells #[.int .i64 o, .string s, .int .i64 z, .slice a n c] 31)).alloc (.cells #[.func (.func 179) #[] #[]] 124) = W ∧ Below w.heap.size w W ∧ W.heap.size = w.heap.size + 3 ∧ TBox W (w.heap.size + 1) o s z a n c ∧ Blk W (w.heap.size + 2) #[.func (.func 179) #[] #[]] 124 := by
  obtain ⟨W2, h2, hb, hs, t1, t2⟩ := box2 w o s z a n c o s z a n c
  rw [h2]
  refine ⟨_, rfl, bel_alloc hb _, by simp [hs], Blk.alloc t2 _, ?_⟩
  have := Blk.new W2 #[Value.func (.func 179) #[] #[]] 124
  rwa [hs] at this
theorem tall_any (o : Int) (s : ByteArray) (z : Int) (a : Option Addr) (n c : Nat) (w : World) :
    Calls Tryz.prog 117 #[.agg #[.int .i64 o, .string s, .int .i64 z, .slice a n c], .func (.func 179) #[] #[]] w fun e w' => e = .returned (.func (.func 140) #[] #[.pointer (some ⟨w.heap.size, 0, none⟩), .pointer (some ⟨w.heap.size + 1, 0, none⟩)]) ∧ w' = (w.alloc (.cells #[.int .i64 o, .string s, .int .i64 z, .slice a n c] 31)).alloc (.cells #[.func (.func 179) #[] #[]] 124) := by
  go_enter Tryz.func117, Tryz.ntmps117
  go_wp2
  go_ret
  exact ⟨rfl, rfl⟩
theorem all_any (o : Int) (s : ByteArray) (z : Int) (a : Option Addr) (n c : Nat) (w : World) :
    Calls Tryz.prog 160 #[.agg #[.int .i64 o, .string s, .int .i64 z, .slice a n c]] w fun e w' => e = .returned (.func (.func 140) #[] #[.pointer (some ⟨w.heap.size + 1, 0, none⟩), .pointer (some ⟨w.heap.size + 2, 0, none⟩)]) ∧ w' = ((w.alloc (.cells #[.int .i64 o, .string s, .int .i64 z, .slice a n c] 31)).alloc (.cells #[.int .i64 o, .string s, .int .i64 z, .slice a n c] 31)).alloc (.cells #[.func (.func 179) #[] #[]] 124) := by
  obtain ⟨W1, h1, hb1, hs1, S1⟩ := box1 w o s z a n c
  have c1 := tall_any o s z a n c W1
  rw [hs1, Nat.add_assoc] at c1
  rw [h1]
  obtain ⟨s0, s1, s2, s3⟩ := S1.four
  clear S1
  go_enter Tryz.func160, Tryz.ntmps160
  go_wp2_with (go_at_call 117; ((with_reducible refine c1.mono ?_); rintro e w1 ⟨rfl, rfl⟩))
  go_ret
  exact ⟨rfl, rfl⟩
set_option maxHeartbeats 2000000 in
theorem all_stops (n : Nat) (B g g2 : Nat) (w0 w : World) (t : Tm) (a : Option Addr) (m c : Nat) (hA : Ar B w0 t a m c) (hB : Below B w0 w) (hBw : B ≤ w.heap.size) (hT : TBox w g (opT t) (nameT t) (numT t) a m c) (hF : Blk w g2 #[.func (.func 179) #[] #[]] 124) :
    SeqStopsK Fence.wide n Tryz.prog 140 #[.pointer (some ⟨g, 0, none⟩), .pointer (some ⟨g2, 0, none⟩)] (encP (B := B) (w0 := w0)) (KpT B) (fun ys => ys.map Pt.t = all t) (fun pre => pre.map Pt.t <+: all t) (size t) w := fun l J Jx W hW hJ hJx hY h0 => by
  have hY2 : RoundsT B w0 l (size t) J Jx := fun m pre x W hj hl => yield_any rfl m (hY pre x W hj hl)
  have hv := visit_any B w0 l (size t) J Jx _ hJ hY2 t (n - 1) a m c [] W hA (hB.trans (hW.mono hBw)) (Nat.le_trans hBw hW.size) h0 (by simp)
  obtain ⟨t0, t1, t2, t3⟩ := (TBox.b hT hW).four
  have f0 := Blk.cell (Blk.below hF hW) 0
  have hdd : ∀ k : Nat, (Fence.wide.depth.isSome = true → 1 ≤ k) := fun k h => by cases h
  clear hY hY2 hT hA hJ hJx h0 hF
  refine callsIn_of_wp Tryz.func140 rfl trivial ?_ rfl
  simp only [Tryz.ntmps140, List.size_toArray, List.length_cons, List.length_nil, Nat.reduceAdd, Nat.reduceSub, Array.replicate_succ, Array.replicate_zero, List.push_toArray, List.append_toArray, List.nil_append, List.cons_append]
  gi_wp2_with ((try refine ⟨trivial, ?_⟩); (try refine ⟨hdd _, ?_⟩); gi_at_call 141; refine hv.mono ?_; clear hv; rintro e W5 (⟨rfl, hz, hk5⟩ | ⟨rfl, hq⟩); all_goals (first | (have Hz := Lib.hid hz; clear hz) | (have Hq := Lib.hid hq; clear hq)))
  · go_end0
    obtain ⟨ys, h1, h2⟩ := Hz.out
    exact ⟨⟨_, rfl⟩, .inl ⟨ys, h1, by simpa using h2⟩⟩
  · go_end0
    obtain ⟨ys, h1, h2⟩ := Hq.out
    exact ⟨⟨_, rfl⟩, .inr ⟨ys, h1, by simpa using h2⟩⟩
mutual
theorem bd_iff : ∀ t : Tm, bdT t = true ↔ ∃ x ∈ all t, opT x = 2
  | .mk o s z l => by
    rw [bdT, all, Bool.or_eq_true, beq_iff_eq, bds_iff l]
    constructor
    · rintro (h | ⟨x, hx, h⟩)
      · exact ⟨_, List.mem_cons_self, h⟩
      · exact ⟨x, List.mem_cons_of_mem _ hx, h⟩
    · rintro ⟨x, hx, h⟩
      rcases List.mem_cons.1 hx with rfl | hx
      · exact .inl h
      · exact .inr ⟨x, hx, h⟩
theorem bds_iff : ∀ l : List Tm, bdTs l = true ↔ ∃ x ∈ alls l, opT x = 2
  | [] => by rw [bdTs, alls]; simp
  | t :: l => by
    rw [bdTs, alls, Bool.or_eq_true, bd_iff t, bds_iff l]
    constructor
    · rintro (⟨x, hx, h⟩ | ⟨x, hx, h⟩)
      · exact ⟨x, List.mem_append_left _ hx, h⟩
      · exact ⟨x, List.mem_append_right _ hx, h⟩
    · rintro ⟨x, hx, h⟩
      rcases List.mem_append.1 hx with hx | hx
      · exact .inl ⟨x, hx, h⟩
      · exact .inr ⟨x, hx, h⟩
end
def noBd {B : Nat} {w0 : World} (pre : List (Pt B w0)) : Prop := ∀ x ∈ pre, opT x.t ≠ 2
def oneBd {B : Nat} {w0 : World} (pre : List (Pt B w0)) : Prop := ∃ x ∈ pre, opT x.t = 2
theorem bd_none {B : Nat} {w0 : World} {t : Tm} {xs : List (Pt B w0)} (h : xs.map Pt.t = all t) (hn : noBd xs) : bdT t = false := by
  cases hb : bdT t with
  | false => rfl
  | true =>
    obtain ⟨x, hx, ho⟩ := (bd_iff t).1 hb
    rw [← h] at hx
    obtain ⟨y, hy, rfl⟩ := List.mem_map.1 hx
    exact absurd ho (hn y hy)
theorem bd_some {B : Nat} {w0 : World} {t : Tm} {xs : List (Pt B w0)} (h : xs.map Pt.t <+: all t) (hn : oneBd xs) : bdT t = true := by
  obtain ⟨x, hx, ho⟩ := hn
  exact (bd_iff t).2 ⟨x.t, h.subset (List.mem_map.2 ⟨x, hx, rfl⟩), ho⟩
set_option maxRecDepth 100000 in
set_option maxHeartbeats 4000000 in
theorem hasBound_in (t : Tm) (a : Option Addr) (n c : Nat) (w : World) (hA : ArW w t a n c) :
    CallsIn Fence.wide 6 Tryz.prog 123 #[.agg #[.int .i64 (opT t), .string (nameT t), .int .i64 (numT t), .slice a n c]] w fun e w' => e = .returned (.bool (bdT t)) ∧ Below w.heap.size w w' := by
  obtain ⟨W2, hW2, hB2, hs2, S2⟩ := box1 w (opT t) (nameT t) (numT t) a n c
  obtain ⟨W3, hW3⟩ : ∃ W3, W2.alloc (.cells #[.bool false] 4) = W3 := ⟨_, rfl⟩
  have hB3 : Below W2.heap.size W2 W3 := by rw [← hW3]; exact bel_alloc (Below.refl _ _) _
  have hs3 : W3.heap.size = w.heap.size + 2 := by rw [← hW3, World.size_alloc, hs2]
  have R3 : Blk W3 (w.heap.size + 1) #[.bool false] 4 := by rw [← hW3, ← hs2]; exact Blk.new W2 _ _
  have S3 := S2.b hB3
  obtain ⟨W4, hW4, hB4, hs4, I4, F4⟩ := box_all W3 (opT t) (nameT t) (numT t) a n c
  have R4 := Blk.below R3 hB4
  have B4 : Below w.heap.size w W4 := bel_trans (bel_trans hB2 hB3) hB4
  rw [hs3, Nat.add_assoc] at I4 F4
  rw [hs3] at hs4
  have hst := all_stops (5 : Nat) w.heap.size (w.heap.size + 3) (w.heap.size + 4) w W4 t a n c hA B4 B4.size I4 F4
  have cAll := all_any (opT t) (nameT t) (numT t) a n c W3
  rw [hW4, hs3, Nat.add_assoc, Nat.add_assoc] at cAll
  obtain ⟨f0, f1, f2, f3⟩ := S3.four
  clear hA S2 S3 R3 F4
  refine callsIn_of_wp_marks Tryz.func123 rfl trivial ?_ rfl
  simp only [Tryz.ntmps123, List.size_toArray, List.length_cons, List.length_nil, Nat.reduceAdd, Nat.reduceSub, Array.replicate_succ, Array.replicate_zero, List.push_toArray, List.append_toArray, List.nil_append, List.cons_append]
  gi_wp2_with (refine ⟨trivial, ?_⟩; gi_at_call 160; refine (callsIn_wide.2 cAll).mono ?_; rintro e w' ⟨rfl, rfl⟩)
  refine wpIn_rangeFunc_ownH rfl (by decide) (gf := 140) (lb := #[.pointer (some ⟨w.heap.size + 3, 0, none⟩), .pointer (some ⟨w.heap.size + 4, 0, none⟩)]) rfl trivial (enters_of Tryz.func140 (by kernel_rfl) rfl)
    hst KpT.trans (KpT.obj B4.size) (Below.refl _ _) (fun _ => rfl)
    (fun pre W => (noBd pre ∧ Blk W (w.heap.size + 1) #[.bool false] 4) ∧ Below w.heap.size w W)
    (fun cd pre W => ((cd = .ret ∧ oneBd pre) ∧ Blk W (w.heap.size + 1) #[.bool true] 4) ∧ Below w.heap.size w W)
    (OwnFrom.and (OwnFrom.and (ownFrom_pure _ _) (Own.from (own_blk _ _ _) _)) (ownFrom_below (Nat.le_refl _) B4.size))
    (fun cd => OwnFrom.and (OwnFrom.and (ownFrom_pure _ _) (Own.from (own_blk _ _ _) _)) (ownFrom_below (Nat.le_refl _) B4.size))
    ⟨⟨fun x hx => absurd hx (by simp), R4⟩, B4⟩
    (fun x a2 W => ∃ Bx, TBox W Bx (opT x.t) (nameT x.t) (numT x.t) x.a x.n x.c ∧ a2 = { tmps := #[.agg #[.int .i64 (opT t), .string (nameT t), .int .i64 (numT t), .slice a n c], .pointer (some ⟨w.heap.size, 0, none⟩), .pointer (some ⟨w.heap.size + 1, 0, none⟩), .pointer (some ⟨Bx, 0, none⟩), .agg #[.int .i64 (opT t), .string (nameT t), .int .i64 (numT t), .slice a n c], .func (.func 140) #[] #[.pointer (some ⟨w.heap.size + 3, 0, none⟩), .pointer (some ⟨w.heap.size + 4, 0, none⟩)], .agg #[.int .i64 (opT x.t), .string (nameT x.t), .int .i64 (numT x.t), .slice x.a x.n x.c], undef, undef, undef], defers := [] })
    (fun x a2 _ X Y row hs hg hr => by obtain ⟨Bx, h2, h3⟩ := hs; exact ⟨Bx, own_blk Bx _ _ () X Y row h2 hg (fun r e => (hr r e).2), h3⟩)
    ?assign ?body ?done ?stop
  case assign =>
    rintro l pre x W K ⟨⟨hN, hR⟩, hB⟩ hK
    have hb : Below W.heap.size W (W.alloc (.cells #[.int .i64 (opT x.t), .string (nameT x.t), .int .i64 (numT x.t), .slice x.a x.n x.c] 31)) := bel_alloc (Below.refl _ _) _
    unfold encP
    gi_wp2
    exact hK _ _ (keepsF hb) (KpT.of_below hB.size hb) ⟨⟨hN, Blk.below hR hb⟩, hB.trans (hb.mono hB.size)⟩ ⟨W.heap.size, TBox.new W _ _ _ _ _ _, rfl⟩
  case body =>
    rintro l pre x a2 W hl hr ⟨⟨hN, hR⟩, hB⟩ ⟨Bx, hX, rfl⟩ hlt
    obtain ⟨x0, x1, x2, x3⟩ := hX.four
    have c5 := Blk.cell hR 0
    have q5 := Blk.free hR 0
    by_cases hop : opT x.t = 2
    · have hy : oneBd (pre ++ [x]) := ⟨x, by simp, hop⟩
      gi_wp2
      exact ⟨(KeepsOthers.setCell _ _ _).from _, ⟨⟨rfl, hy⟩, blk_cell_set hR _⟩, hB.setCell (p := ⟨w.heap.size + 1, 0, none⟩) (by simp) _⟩
    · have hy : noBd (pre ++ [x]) := fun y hy => by
        rcases List.mem_append.1 hy with h | h
        · exact hN y h
        · rw [List.mem_singleton.1 h]; exact hop
      gi_wp2
      exact ⟨keepsF (Below.refl _ _), KpT.refl _ _, ⟨hy, hR⟩, hB⟩
  case done =>
    rintro D zs W hD hS ⟨⟨hN, hR⟩, hB⟩ hK
    have hf := bd_none hS hN
    have c5 := Blk.cell hR 0
    have q5 := Blk.free hR 0
    have hR2 := blk_cell_set hR (.bool false)
    have hK2 : (W.setCell ⟨w.heap.size + 1, 0, none⟩ (.bool false)).heap[D]? = some (.deferred (some [])) := (heap_setCell_other W ⟨w.heap.size + 1, 0, none⟩ D _ (fun e => blk_ne hR hK e.symm)).trans hK
    have hR3 := blk_put hR2 hK2 (.deferred none)
    have c6 := Blk.cell hR3 0
    have hB2 := (hB.setCell (p := ⟨w.heap.size + 1, 0, none⟩) (by simp) (.bool false)).trans (belowK_b (w := w) (Nat.le_refl _) _ D _ (.deferred none) (Nat.le_trans B4.size hD) hK2 rfl rfl)
    gi_wp2
    refine ⟨by simp, .inl ⟨_, _, rfl, run_takeDeferred hK2, ?_⟩⟩
    exact ⟨_, by simp [results, Tryz.results123, go_sem, c6]; rfl, by rw [hf], hB2⟩
  case stop =>
    rintro D cd pre W hD hS ⟨⟨⟨rfl, hN⟩, hR⟩, hB⟩ hK
    have hf := bd_some hS hN
    have hR3 := blk_put hR hK (.deferred none)
    have c6 := Blk.cell hR3 0
    have hB2 := hB.trans (belowK_b (w := w) (Nat.le_refl _) W D _ (.deferred none) (Nat.le_trans B4.size hD) hK rfl rfl)
    gi_wp2
    refine ⟨by simp, .inl ⟨_, _, rfl, run_takeDeferred hK, ?_⟩⟩
    exact ⟨_, by simp [results, Tryz.results123, go_sem, c6]; rfl, by rw [hf], hB2⟩
theorem hasBound_any (t : Tm) (a : Option Addr) (n c : Nat) (w : World) (hA : ArW w t a n c) :
    Calls Tryz.prog 123 #[.agg #[.int .i64 (opT t), .string (nameT t), .int .i64 (numT t), .slice a n c]] w fun e w' => e = .returned (.bool (bdT t)) ∧ Below w.heap.size w w' :=
  callsIn_wide.1 (hasBound_in t a n c w hA)
end Go.Proofs.YtnhemglpbhnmdaaGreat.Mt
namespace Go.Proofs.YtnhemglpbhnmdaaGreat.Mt
open Go.RowKit L T C
set_option linter.unusedVariables false
set_option linter.unusedSimpArgs false

set_option maxRecDepth 100000 in
set_option maxHeartbeats 4000000 in
theorem may_any (t : Tm) (a : Option Addr) (n c : Nat) (w : World) (hs : size t ≤ 4096) (hA : ArW w t a n c) :
    Calls Tryz.prog 77 #[.agg #[.int .i64 (opT t), .string (nameT t), .int .i64 (numT t), .slice a n c]] w fun e w' => e = .returned (.bool (mayT t)) ∧ Below w.heap.size w w' := by
  obtain ⟨W2, hW2, hB2, hs2, S2⟩ := box1 w (opT t) (nameT t) (numT t) a n c
  have cR := fun (w' : World) (h : Below W2.heap.size W2 w') => tRight_few t a n c w' hs (ArW.b (ArW.b hA hB2) h)
  have cH := fun (w' : World) (h : Below W2.heap.size W2 w') => hasBound_any t a n c w' (ArW.b (ArW.b hA hB2) h)
  have HQ := Lib.hid (fun (w' : World) (h : Below W2.heap.size W2 w') => (TBox.b S2 h).four)
  obtain ⟨s0, s1, s2, s3⟩ := S2.four
  have hBd : Below W2.heap.size W2 W2 := Below.refl _ _
  have HM := Lib.hid (show mayT t = (decide (rightE t = 0) && !bdT t) from rfl)
  clear hA S2 hs2
  generalize mayT t = M at *
  generalize rightE t = R at *
  generalize bdT t = Bd at *
  generalize opT t = op at *
  generalize nameT t = nm at *
  generalize numT t = nu at *
  by_cases hR : R = 0
  · subst hR
    have hm : M = !Bd := by rw [HM.out]; simp
    clear HM
    cases Bd with
    | false =>
      obtain rfl : M = true := hm
      go_enter Tryz.func77, Tryz.ntmps77
      go_wp2_with (first
        | (go_at_call 47; ((with_reducible refine (cR _ (by assumption)).mono ?_); rintro e w4 ⟨rfl, hb4⟩; have B4 : Below W2.heap.size W2 w4 := bel_trans (by assumption) hb4; obtain ⟨s0, s1, s2, s3⟩ := HQ.out _ B4))
        | (go_at_call 123; ((with_reducible refine (cH _ B4).mono ?_); rintro e w5 ⟨rfl, hb5⟩; have B5 : Below W2.heap.size W2 w5 := bel_trans B4 hb5)))
      go_ret
      exact ⟨rfl, bel_trans hB2 B5⟩
    | true =>
      obtain rfl : M = false := hm
      go_enter Tryz.func77, Tryz.ntmps77
      go_wp2_with (first
        | (go_at_call 47; ((with_reducible refine (cR _ (by assumption)).mono ?_); rintro e w4 ⟨rfl, hb4⟩; have B4 : Below W2.heap.size W2 w4 := bel_trans (by assumption) hb4; obtain ⟨s0, s1, s2, s3⟩ := HQ.out _ B4))
        | (go_at_call 123; ((with_reducible refine (cH _ B4).mono ?_); rintro e w5 ⟨rfl, hb5⟩; have B5 : Below W2.heap.size W2 w5 := bel_trans B4 hb5)))
      go_ret
      exact ⟨rfl, bel_trans hB2 B5⟩
  · obtain rfl : M = false := by rw [HM.out, decide_eq_false hR]; rfl
    have hR2 : (R == 0) = false := by simpa using hR
    clear HM
    go_enter Tryz.func77, Tryz.ntmps77
    go_wp2_with (go_at_call 47; ((with_reducible refine (cR _ (by assumption)).mono ?_); rintro e w4 ⟨rfl, hb4⟩; have B4 : Below W2.heap.size W2 w4 := bel_trans (by assumption) hb4; obtain ⟨s0, s1, s2, s3⟩ := HQ.out _ B4))
    go_ret
    exact ⟨rfl, bel_trans hB2 B4⟩
end Go.Proofs.YtnhemglpbhnmdaaGreat.Mt
