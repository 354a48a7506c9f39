/-
  What is proved: terms in plain words: size, depth, parts, equality, order, replacement; that the order is a total one; what follows of replacement. No program is spoken of.
-/
import Derived.Test.YtelepojpnkoelaaZLibO
namespace Go.Proofs.Ytelepojpnkoelaa.T
open L
set_option linter.unusedVariables false
set_option linter.unusedSimpArgs false

inductive Tm where
  | mk (op : Int) (name : ByteArray) (num : Int) (args : List Tm)

mutual
def size : Tm → Nat
  | .mk _ _ _ l => 1 + sizes l
def sizes : List Tm → Nat
  | [] => 0
  | t :: l => size t + sizes l
end
mutual
def depth : Tm → Nat
  | .mk _ _ _ l => 1 + depths l
def depths : List Tm → Nat
  | [] => 0
  | t :: l => max (depth t) (depths l)
end
/-! all parts, each ahead of its arguments, also those that are alike -/
mutual
def all : Tm → List Tm
  | .mk o s n l => .mk o s n l :: alls l
def alls : List Tm → List Tm
  | [] => []
  | t :: l => all t ++ alls l
end
mutual
def eqT : Tm → Tm → Bool
  | .mk o s n l, .mk o' s' n' l' => (o == o') && ((s.toList == s'.toList) && ((n == n') && eqTs l l'))
def eqTs : List Tm → List Tm → Bool
  | [], [] => true
  | t :: l, u :: m => eqT t u && eqTs l m
  | [], _ :: _ => false
  | _ :: _, [] => false
end
mutual
theorem eqT_iff : ∀ {t u : Tm}, eqT t u = true ↔ t = u
  | .mk o s n l, .mk o' s' n' l' => by
    rw [eqT, Bool.and_eq_true, Bool.and_eq_true, Bool.and_eq_true, beq_iff_eq, eqS_iff, beq_iff_eq, eqTs_iff]
    simp
theorem eqTs_iff : ∀ {l m : List Tm}, eqTs l m = true ↔ l = m
  | [], [] => by simp [eqTs]
  | t :: l, u :: m => by rw [eqTs, Bool.and_eq_true, eqT_iff, eqTs_iff]; simp
  | [], _ :: _ => by simp [eqTs]
  | _ :: _, [] => by simp [eqTs]
end
theorem eqT_refl (t : Tm) : eqT t t = true := eqT_iff.2 rfl
theorem eqTs_refl (l : List Tm) : eqTs l l = true := eqTs_iff.2 rfl
theorem eqT_no {t u : Tm} : eqT t u = false ↔ t ≠ u := by
  rw [← Bool.not_eq_true, eqT_iff]
theorem sizes_app (l m : List Tm) : sizes (l ++ m) = sizes l + sizes m := by
  induction l with
  | nil => simp [sizes]
  | cons t l ih => simp [sizes, ih]; omega
theorem size_pos : ∀ t : Tm, 0 < size t
  | .mk _ _ _ l => by rw [size]; omega
mutual
theorem all_len : ∀ t : Tm, (all t).length = size t
  | .mk o s n l => by rw [all, size, List.length_cons, alls_len]; omega
theorem alls_len : ∀ l : List Tm, (alls l).length = sizes l
  | [] => rfl
  | t :: l => by rw [alls, sizes, List.length_append, all_len, alls_len]
end
mutual
theorem depth_size : ∀ t : Tm, depth t ≤ size t
  | .mk o s n l => by rw [depth, size]; have := depths_sizes l; omega
theorem depths_sizes : ∀ l : List Tm, depths l ≤ sizes l
  | [] => Nat.le_refl _
  | t :: l => by rw [depths, sizes]; have := depth_size t; have := depths_sizes l; omega
end
theorem self_all (t : Tm) : t ∈ all t := by cases t; rw [all]; exact List.mem_cons_self

/-! counting that stops behind a bound -/
mutual
def szTo : Nat → Tm → Nat
  | most, .mk _ _ _ l => szTos most 1 l
def szTos : Nat → Nat → List Tm → Nat
  | _, n, [] => n
  | most, n, t :: l => if n ≤ most then szTos most (n + szTo (most - n) t) l else n
end
mutual
theorem szTo_small : ∀ (t : Tm) (most : Nat), size t ≤ most → szTo most t = size t
  | .mk o s n l, most, h => by
    rw [size] at h ⊢
    rw [szTo, szTos_small l most 1 (by omega)]
theorem szTos_small : ∀ (l : List Tm) (most n : Nat), n + sizes l ≤ most → szTos most n l = n + sizes l
  | [], most, n, h => by rw [szTos, sizes]; rfl
  | t :: l, most, n, h => by
    rw [sizes] at h ⊢
    rw [szTos, if_pos (by omega), szTo_small t (most - n) (by omega), szTos_small l most _ (by omega)]; omega
end
mutual
theorem szTo_big : ∀ (t : Tm) (most : Nat), most < size t → most < szTo most t
  | .mk o s n l, most, h => by
    rw [size] at h
    rw [szTo]
    by_cases h1 : 1 ≤ most
    · exact szTos_big l most 1 h1 h
    · cases l with
      | nil => rw [szTos]; omega
      | cons t l => rw [szTos, if_neg h1]; omega
theorem szTos_big : ∀ (l : List Tm) (most n : Nat), n ≤ most → most < n + sizes l → most < szTos most n l
  | [], most, n, h0, h => by rw [sizes] at h; omega
  | t :: l, most, n, h0, h => by
    rw [sizes] at h
    rw [szTos, if_pos h0]
    by_cases h1 : size t ≤ most - n
    · rw [szTo_small t _ h1]
      by_cases h2 : n + size t ≤ most
      · exact szTos_big l most _ h2 (by omega)
      · omega
    · have := szTo_big t (most - n) (by omega)
      have h3 : most < n + szTo (most - n) t := by omega
      cases l with
      | nil => rw [szTos]; exact h3
      | cons u l => rw [szTos, if_neg (by omega)]; exact h3
end
theorem szTo_le (t : Tm) (most : Nat) : (szTo most t ≤ most) ↔ size t ≤ most := by
  constructor
  · intro h
    refine Nat.le_of_not_lt fun h2 => ?_
    have := szTo_big t most h2; omega
  · intro h; rw [szTo_small t most h]; exact h

/-! replacement -/
mutual
def rep (f u : Tm) : Tm → Tm
  | .mk o s n l => if eqT (.mk o s n l) f = true then u else .mk o s n (reps f u l)
def reps (f u : Tm) : List Tm → List Tm
  | [] => []
  | t :: l => rep f u t :: reps f u l
end
theorem reps_len (f u : Tm) (l : List Tm) : (reps f u l).length = l.length := by
  induction l with
  | nil => rfl
  | cons t l ih => rw [reps, List.length_cons, List.length_cons, ih]
mutual
theorem rep_self (f : Tm) : ∀ t : Tm, rep f f t = t
  | .mk o s n l => by
    rw [rep]
    split
    · rename_i h; exact (eqT_iff.1 h).symm
    · rw [reps_self f l]
theorem reps_self (f : Tm) : ∀ l : List Tm, reps f f l = l
  | [] => rfl
  | t :: l => by rw [reps, rep_self f t, reps_self f l]
end
/-- is a term a part? -/
def has (t p : Tm) : Bool := (all t).any (fun x => eqT x p)
def hass (l : List Tm) (p : Tm) : Bool := (alls l).any (fun x => eqT x p)
theorem has_mk (o : Int) (s : ByteArray) (n : Int) (l : List Tm) (p : Tm) : has (.mk o s n l) p = (eqT (.mk o s n l) p || hass l p) := by
  unfold has hass; rw [all, List.any_cons]
theorem hass_cons (t : Tm) (l : List Tm) (p : Tm) : hass (t :: l) p = (has t p || hass l p) := by
  unfold hass has; rw [alls, List.any_append]
theorem has_iff {t p : Tm} : has t p = true ↔ p ∈ all t := by
  unfold has
  rw [List.any_eq_true]
  constructor
  · rintro ⟨x, hx, h⟩; rw [← eqT_iff.1 h]; exact hx
  · intro h; exact ⟨p, h, eqT_refl p⟩
mutual
theorem rep_none (f u : Tm) : ∀ t : Tm, has t f = false → rep f u t = t
  | .mk o s n l, h => by
    rw [has_mk, Bool.or_eq_false_iff] at h
    rw [rep, if_neg (by simp [h.1]), reps_none f u l h.2]
theorem reps_none (f u : Tm) : ∀ l : List Tm, hass l f = false → reps f u l = l
  | [], _ => rfl
  | t :: l, h => by
    rw [hass_cons, Bool.or_eq_false_iff] at h
    rw [reps, rep_none f u t h.1, reps_none f u l h.2]
end
mutual
theorem rep_gone (o' : Int) (s' : ByteArray) (n' : Int) (u : Tm) (hu : has u (.mk o' s' n' []) = false) : ∀ t : Tm, has (rep (.mk o' s' n' []) u t) (.mk o' s' n' []) = false
  | .mk o s n l => by
    rw [rep]
    split
    · exact hu
    · rename_i h
      rw [has_mk, Bool.or_eq_false_iff]
      refine ⟨?_, reps_gone o' s' n' u hu l⟩
      rw [eqT_no]
      intro he
      injection he with h1 h2 h3 h4
      have hl : l = [] := List.eq_nil_of_length_eq_zero (by rw [← reps_len (.mk o' s' n' []) u l, h4]; rfl)
      subst h1 h2 h3 hl
      exact h (eqT_refl _)
theorem reps_gone (o' : Int) (s' : ByteArray) (n' : Int) (u : Tm) (hu : has u (.mk o' s' n' []) = false) : ∀ l : List Tm, hass (reps (.mk o' s' n' []) u l) (.mk o' s' n' []) = false
  | [] => rfl
  | t :: l => by rw [reps, hass_cons, rep_gone o' s' n' u hu t, reps_gone o' s' n' u hu l]; rfl
end

/-! orders -/
def lex (x y : Int) : Int := if x ≠ 0 then x else y
theorem lex_assoc (x y z : Int) : lex (lex x y) z = lex x (lex y z) := by
  unfold lex
  by_cases h : x ≠ 0
  · rw [if_pos h, if_pos h, if_pos h]
  · rw [if_neg h, if_neg h]
theorem lex_zero (x : Int) : lex x 0 = x := by unfold lex; split <;> omega
theorem zero_lex (x : Int) : lex 0 x = x := by unfold lex; rw [if_neg (by simp)]
theorem lex_eq {x y : Int} : lex x y = 0 ↔ x = 0 ∧ y = 0 := by unfold lex; split <;> omega
/-- a comparison that is a total order -/
structure Lin {α : Type} (c : α → α → Int) : Prop where
  rng : ∀ x y, c x y = -1 ∨ c x y = 0 ∨ c x y = 1
  anti : ∀ x y, c y x = - c x y
  eq : ∀ x y, c x y = 0 ↔ x = y
  trans : ∀ x y z, c x y = -1 → c y z = -1 → c x z = -1
def cmpI (x y : Int) : Int := if x < y then -1 else if y < x then 1 else 0
theorem linI : Lin cmpI := by
  refine ⟨fun x y => ?_, fun x y => ?_, fun x y => ?_, fun x y z => ?_⟩ <;> unfold cmpI <;> (repeat' split) <;> omega
def lexP {α β : Type} (c : α → α → Int) (d : β → β → Int) (x y : α × β) : Int := lex (c x.1 y.1) (d x.2 y.2)
theorem linP {α β : Type} {c : α → α → Int} {d : β → β → Int} (hc : Lin c) (hd : Lin d) : Lin (lexP c d) := by
  refine ⟨fun x y => ?_, fun x y => ?_, fun x y => ?_, fun x y z h1 h2 => ?_⟩
  · unfold lexP lex; split
    · exact hc.rng _ _
    · exact hd.rng _ _
  · unfold lexP lex
    rw [hc.anti x.1 y.1, hd.anti x.2 y.2]
    split <;> split <;> omega
  · unfold lexP
    rw [lex_eq, hc.eq, hd.eq]
    exact ⟨fun h => Prod.ext h.1 h.2, fun h => by rw [h]; exact ⟨rfl, rfl⟩⟩
  · unfold lexP lex at h1 h2 ⊢
    by_cases e1 : c x.1 y.1 = 0
    · have e1' := (hc.eq _ _).1 e1
      rw [if_neg (by simp [e1])] at h1
      rw [e1']
      by_cases e2 : c y.1 z.1 = 0
      · rw [if_neg (by simp [e2])] at h2 ⊢
        exact hd.trans _ _ _ h1 h2
      · rw [if_pos e2] at h2 ⊢; exact h2
    · rw [if_pos e1] at h1
      by_cases e2 : c y.1 z.1 = 0
      · have e2' := (hc.eq _ _).1 e2
        rw [← e2', if_pos e1]; exact h1
      · rw [if_pos e2] at h2
        have h3 := hc.trans _ _ _ h1 h2
        rw [if_pos (by omega)]; exact h3
def lexL {α : Type} (c : α → α → Int) : List α → List α → Int
  | [], [] => 0
  | [], _ :: _ => -1
  | _ :: _, [] => 1
  | x :: l, y :: m => lex (c x y) (lexL c l m)
theorem linL {α : Type} {c : α → α → Int} (hc : Lin c) : Lin (lexL c) := by
  refine ⟨fun x => ?_, fun x => ?_, fun x => ?_, fun x => ?_⟩
  · induction x with
    | nil => intro y; cases y <;> simp [lexL]
    | cons a l ih =>
      intro y
      cases y with
      | nil => simp [lexL]
      | cons b m =>
        rw [lexL]; unfold lex; split
        · exact hc.rng _ _
        · exact ih m
  · induction x with
    | nil => intro y; cases y <;> simp [lexL]
    | cons a l ih =>
      intro y
      cases y with
      | nil => simp [lexL]
      | cons b m =>
        rw [lexL, lexL, ih m, hc.anti a b]
        unfold lex
        split <;> split <;> omega
  · induction x with
    | nil => intro y; cases y <;> simp [lexL]
    | cons a l ih =>
      intro y
      cases y with
      | nil => simp [lexL]
      | cons b m => rw [lexL, lex_eq, hc.eq, ih m, List.cons.injEq]
  · induction x with
    | nil =>
      intro y z h1 h2
      cases y with
      | nil => exact h2
      | cons b m =>
        cases z with
        | nil => simp [lexL] at h2
        | cons d k => rfl
    | cons a l ih =>
      intro y z h1 h2
      cases y with
      | nil => simp [lexL] at h1
      | cons b m =>
        cases z with
        | nil => simp [lexL] at h2
        | cons d k =>
          rw [lexL] at h1 h2 ⊢
          unfold lex at h1 h2 ⊢
          by_cases e1 : c a b = 0
          · have e1' := (hc.eq _ _).1 e1
            rw [if_neg (by simp [e1])] at h1
            rw [e1']
            by_cases e2 : c b d = 0
            · rw [if_neg (by simp [e2])] at h2 ⊢
              exact ih _ _ h1 h2
            · rw [if_pos e2] at h2 ⊢; exact h2
          · rw [if_pos e1] at h1
            by_cases e2 : c b d = 0
            · have e2' := (hc.eq _ _).1 e2
              rw [← e2', if_pos e1]; exact h1
            · rw [if_pos e2] at h2
              have h3 := hc.trans _ _ _ h1 h2
              rw [if_pos (by omega)]; exact h3
def cmpU (a b : UInt8) : Int := cmpI a.toNat b.toNat
theorem linU : Lin cmpU := ⟨fun x y => linI.rng _ _, fun x y => linI.anti _ _, fun x y => by
  unfold cmpU
  rw [linI.eq]
  exact ⟨fun h => UInt8.toNat_inj.1 (by omega), fun h => by rw [h]⟩, fun x y z => linI.trans _ _ _⟩
def cmpB : List UInt8 → List UInt8 → Int := lexL cmpU
theorem linB : Lin cmpB := linL linU
theorem less_cmp : ∀ x y : List UInt8, Go.Op.bytesLess x y = decide (cmpB x y = -1)
  | [], [] => rfl
  | [], _ :: _ => rfl
  | _ :: _, [] => rfl
  | a :: x, b :: y => by
    rw [Go.Op.bytesLess, less_cmp x y]
    show _ = decide (lex (cmpU a b) (lexL cmpU x y) = -1)
    unfold cmpB lex cmpU cmpI
    by_cases h1 : a < b
    · have h2 : (a.toNat : Int) < b.toNat := by have := UInt8.lt_iff_toNat_lt.1 h1; omega
      simp [h1, h2]
    · have h2 : ¬ (a.toNat : Int) < b.toNat := fun h => h1 (UInt8.lt_iff_toNat_lt.2 (by omega))
      by_cases h3 : a = b
      · subst h3; simp [h1]
      · have h4 : (b.toNat : Int) < a.toNat := by
          have : a.toNat ≠ b.toNat := fun h => h3 (UInt8.toNat_inj.1 h)
          omega
        simp [h1, h2, h3, h4]
/-! the order of terms: by the keys of their parts, each ahead of its arguments -/
/-- texts, byte by byte -/
def cmpN (x y : ByteArray) : Int := cmpB x.toList y.toList
theorem linN : Lin cmpN := ⟨fun x y => linB.rng _ _, fun x y => linB.anti _ _, fun x y => by
  unfold cmpN
  rw [linB.eq]
  exact ⟨fun h => eqS_iff.1 (beq_iff_eq.2 h), fun h => by rw [h]⟩, fun x y z => linB.trans _ _ _⟩
abbrev Key := Int × Int × ByteArray × Int
def cmpK : Key → Key → Int := lexP cmpI (lexP cmpI (lexP cmpN cmpI))
theorem linK : Lin cmpK := linP linI (linP linI (linP linN linI))
mutual
def keys : Tm → List Key
  | .mk o s n l => (o, n, s, (l.length : Int)) :: keyss l
def keyss : List Tm → List Key
  | [] => []
  | t :: l => keys t ++ keyss l
end
mutual
def cmpT : Tm → Tm → Int
  | .mk o s n l, .mk o' s' n' l' => lex (cmpI o o') (lex (cmpI n n') (lex (cmpN s s') (lex (cmpI l.length l'.length) (cmpTs l l'))))
def cmpTs : List Tm → List Tm → Int
  | [], _ => 0
  | _ :: _, [] => 0
  | t :: l, u :: m => lex (cmpT t u) (cmpTs l m)
end
mutual
theorem cmp_keys : ∀ (t u : Tm) (xs ys : List Key), lexL cmpK (keys t ++ xs) (keys u ++ ys) = lex (cmpT t u) (lexL cmpK xs ys)
  | .mk o s n l, .mk o' s' n' l', xs, ys => by
    rw [keys, keys, List.cons_append, List.cons_append, lexL, cmpT]
    show lex (lex (cmpI o o') (lex (cmpI n n') (lex (cmpN s s') (cmpI l.length l'.length)))) _ = _
    simp only [lex_assoc]
    by_cases hl : l.length = l'.length
    · rw [cmps_keys l l' hl xs ys]
    · have h1 : cmpI l.length l'.length ≠ 0 := fun h => hl (by have := (linI.eq _ _).1 h; omega)
      have e : ∀ y z : Int, lex (cmpI l.length l'.length) y = lex (cmpI l.length l'.length) z := fun y z => by unfold lex; rw [if_pos h1, if_pos h1]
      rw [e _ (lex (cmpTs l l') (lexL cmpK xs ys))]
theorem cmps_keys : ∀ (l m : List Tm), l.length = m.length → ∀ (xs ys : List Key), lexL cmpK (keyss l ++ xs) (keyss m ++ ys) = lex (cmpTs l m) (lexL cmpK xs ys)
  | [], [], _, xs, ys => by rw [cmpTs, zero_lex]; rfl
  | t :: l, u :: m, h, xs, ys => by
    rw [keyss, keyss, List.append_assoc, List.append_assoc, cmp_keys t u, cmps_keys l m (by simpa using h), cmpTs, lex_assoc]
  | [], _ :: _, h, _, _ => by simp at h
  | _ :: _, [], h, _, _ => by simp at h
end
theorem cmp_key (t u : Tm) : cmpT t u = lexL cmpK (keys t) (keys u) := by
  have := cmp_keys t u [] []
  rw [List.append_nil, List.append_nil, lexL, lex_zero] at this
  exact this.symm
mutual
theorem cmp_zero : ∀ {t u : Tm}, cmpT t u = 0 → t = u
  | .mk o s n l, .mk o' s' n' l', h => by
    rw [cmpT, lex_eq, lex_eq, lex_eq, lex_eq, linI.eq, linI.eq, linN.eq, linI.eq] at h
    obtain ⟨rfl, rfl, rfl, h4, h5⟩ := h
    rw [cmps_zero (by omega) h5]
theorem cmps_zero : ∀ {l m : List Tm}, l.length = m.length → cmpTs l m = 0 → l = m
  | [], [], _, _ => rfl
  | t :: l, u :: m, hl, h => by
    rw [cmpTs, lex_eq] at h
    rw [cmp_zero h.1, cmps_zero (by simpa using hl) h.2]
  | [], _ :: _, h, _ => by simp at h
  | _ :: _, [], h, _ => by simp at h
end
theorem linT : Lin cmpT := by
  have h := linL linK
  refine ⟨fun x y => ?_, fun x y => ?_, fun x y => ⟨cmp_zero, fun e => ?_⟩, fun x y z => ?_⟩
  · rw [cmp_key]; exact h.rng _ _
  · rw [cmp_key, cmp_key]; exact h.anti _ _
  · rw [e, cmp_key]; exact (h.eq _ _).2 rfl
  · rw [cmp_key, cmp_key, cmp_key]; exact h.trans _ _ _
theorem lin_le {α : Type} {c : α → α → Int} (h : Lin c) (x y z : α) (h1 : c x y ≤ 0) (h2 : c y z ≤ 0) : c x z ≤ 0 ∧ (c x z = 0 ↔ c x y = 0 ∧ c y z = 0) := by
  rcases h.rng x y with e1 | e1 | e1
  · rcases h.rng y z with e2 | e2 | e2
    · have := h.trans _ _ _ e1 e2; omega
    · have := (h.eq _ _).1 e2; subst this; omega
    · omega
  · have := (h.eq _ _).1 e1; subst this; omega
  · omega
end Go.Proofs.Ytelepojpnkoelaa.T
