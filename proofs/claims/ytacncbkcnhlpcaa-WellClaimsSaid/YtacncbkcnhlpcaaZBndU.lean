/-
  What is proved: what follows of opening and closing, in plain words: opened with the variable by which it was closed a claim is as it was; the other way round; the loose numbers of what was opened with a closed term. No program is spoken of.
-/
import Derived.Test.YtacncbkcnhlpcaaZBndN
namespace Go.Proofs.Ytacncbkcnhlpcaa.B
open Go.RowKit L T C
set_option linter.unusedVariables false
set_option linter.unusedSimpArgs false

/-! numbers that don't wrap; variables and bound numbers without Args, as a right term has them -/
mutual
def plainT : Tm → Prop
  | .mk o s z l => (o = 2 → 0 ≤ z ∧ z < 4611686018427387904 ∧ s = ⟨#[]⟩ ∧ l = []) ∧ (o = 1 → z = 0 ∧ l = []) ∧ plainTs l
def plainTs : List Tm → Prop
  | [] => True
  | t :: l => plainT t ∧ plainTs l
end
mutual
def plainC : Cl → Prop
  | .mk _ _ _ ts l => plainTs ts ∧ plainCs l
def plainCs : List Cl → Prop
  | [] => True
  | c :: l => plainC c ∧ plainCs l
end
mutual
def freshT (name : ByteArray) : Tm → Prop
  | .mk o s _ l => ¬ (o = 1 ∧ s.toList = name.toList) ∧ freshTs name l
def freshTs (name : ByteArray) : List Tm → Prop
  | [] => True
  | t :: l => freshT name t ∧ freshTs name l
end
mutual
def freshC (name : ByteArray) : Cl → Prop
  | .mk _ _ _ ts l => freshTs name ts ∧ freshCs name l
def freshCs (name : ByteArray) : List Cl → Prop
  | [] => True
  | c :: l => freshC name c ∧ freshCs name l
end
def var (name : ByteArray) : Tm := .mk 1 name 0 []
theorem lift_var (name : ByteArray) (k : Int) : wk (fLift k 0) 0 (var name) = var name := by
  simp [var, wk, wks, fLift]
theorem wrap_small {x : Int} (h0 : -4611686018427387905 ≤ x) (h1 : x ≤ 4611686018427387904) : wrap64 x = x := by unfold wrap64; omega
theorem wrap64_zero : wrap64 0 = 0 := by unfold wrap64; omega
mutual
theorem open_close (name : ByteArray) (k : Int) (hk : 0 ≤ k) : ∀ t : Tm, plainT t → wk (fOpen (var name)) k (wk (fClose name) k t) = t
  | .mk o s z l, h => by
    rw [plainT] at h
    obtain ⟨h2, h1, hl⟩ := h
    by_cases c1 : o = 1 ∧ s.toList = name.toList
    · obtain ⟨rfl, e⟩ := c1
      have e1 : wk (fClose name) k (.mk 1 s z l) = .mk 2 ⟨#[]⟩ k [] := by simp [wk, fClose, e]
      rw [e1]
      have e2 : wk (fOpen (var name)) k (.mk 2 ⟨#[]⟩ k []) = wk (fLift k 0) 0 (var name) := by
        simp [wk, fOpen, wrap64_zero]
      rw [e2, lift_var]
      obtain ⟨rfl, rfl⟩ := h1 rfl
      have : s = name := eqS_iff.1 (beq_iff_eq.2 e)
      rw [this]; rfl
    · by_cases c2 : o = 2 ∧ k ≤ z
      · obtain ⟨rfl, hz⟩ := c2
        obtain ⟨a1, a2, a3, a4⟩ := h2 rfl
        have w1 : wrap64 (z + 1) = z + 1 := wrap_small (by omega) (by omega)
        have e1 : wk (fClose name) k (.mk 2 s z l) = .mk 2 s (z + 1) (wks (fClose name) k l) := by
          simp [wk, fClose, hz, w1]
        rw [e1]
        have w2 : wrap64 (z + 1 - k) = z + 1 - k := wrap_small (by omega) (by omega)
        have w3 : wrap64 (z + 1 - 1) = z := by rw [wrap_small (by omega) (by omega)]; omega
        have n0 : ¬ (z + 1 - k = 0) := by omega
        have hz1 : k ≤ z + 1 := by omega
        have e2 : wk (fOpen (var name)) k (.mk 2 s (z + 1) (wks (fClose name) k l)) = .mk 2 s z (wks (fOpen (var name)) k (wks (fClose name) k l)) := by
          simp only [wk, fOpen, w2, w3]
          rw [if_pos ⟨trivial, hz1⟩, if_neg n0]
        rw [e2, opens_closes name k hk l hl]
      · have e1 : wk (fClose name) k (.mk o s z l) = .mk o s z (wks (fClose name) k l) := by
          simp only [wk, fClose]; rw [if_neg c1, if_neg c2]
        have e2 : wk (fOpen (var name)) k (.mk o s z (wks (fClose name) k l)) = .mk o s z (wks (fOpen (var name)) k (wks (fClose name) k l)) := by
          simp only [wk, fOpen]; rw [if_neg c2]
        rw [e1, e2, opens_closes name k hk l hl]
theorem opens_closes (name : ByteArray) (k : Int) (hk : 0 ≤ k) : ∀ l : List Tm, plainTs l → wks (fOpen (var name)) k (wks (fClose name) k l) = l
  | [], _ => by rw [wks, wks]
  | t :: l, h => by
    rw [plainTs] at h
    rw [wks, wks, open_close name k hk t h.1, opens_closes name k hk l h.2]
end
theorem kin_pos {o k : Int} (h : 0 ≤ k) : 0 ≤ kin o k := by unfold kin; split <;> omega
mutual
theorem open_closeC (name : ByteArray) : ∀ (c : Cl) (k : Int), 0 ≤ k → plainC c → wkC (fOpen (var name)) k (wkC (fClose name) k c) = c
  | .mk o s z ts l, k, hk, h => by
    rw [plainC] at h
    rw [wkC, wkC, opens_closes name k hk ts h.1, opens_closesC name l (kin o k) (kin_pos hk) h.2]
theorem opens_closesC (name : ByteArray) : ∀ (l : List Cl) (k : Int), 0 ≤ k → plainCs l → wkCs (fOpen (var name)) k (wkCs (fClose name) k l) = l
  | [], k, _, _ => by rw [wkCs, wkCs]
  | t :: l, k, hk, h => by
    rw [plainCs] at h
    rw [wkCs, wkCs, open_closeC name t k hk h.1, opens_closesC name l k hk h.2]
end
mutual
theorem close_open (name : ByteArray) (k : Int) (hk : 0 ≤ k) : ∀ t : Tm, plainT t → freshT name t → wk (fClose name) k (wk (fOpen (var name)) k t) = t
  | .mk o s z l, h, hf => by
    rw [plainT] at h
    rw [freshT] at hf
    obtain ⟨h2, h1, hl⟩ := h
    by_cases c2 : o = 2 ∧ k ≤ z
    · obtain ⟨rfl, hz⟩ := c2
      obtain ⟨a1, a2, rfl, rfl⟩ := h2 rfl
      have w2 : wrap64 (z - k) = z - k := wrap_small (by omega) (by omega)
      by_cases hzk : z - k = 0
      · have e1 : wk (fOpen (var name)) k (.mk 2 ⟨#[]⟩ z []) = var name := by
          have : wk (fOpen (var name)) k (.mk 2 ⟨#[]⟩ z []) = wk (fLift k 0) 0 (var name) := by simp [wk, fOpen, hz, hzk, wrap64_zero]
          rw [this, lift_var]
        rw [e1]
        have : z = k := by omega
        subst this
        simp [var, wk, fClose]
      · have w3 : wrap64 (z - 1) = z - 1 := wrap_small (by omega) (by omega)
        have e1 : wk (fOpen (var name)) k (.mk 2 ⟨#[]⟩ z []) = .mk 2 ⟨#[]⟩ (z - 1) [] := by
          simp only [wk, fOpen, w2, w3]
          rw [if_pos ⟨trivial, hz⟩, if_neg hzk]
          simp [wks]
        have w4 : wrap64 (z - 1 + 1) = z := by rw [wrap_small (by omega) (by omega)]; omega
        have hz1 : k ≤ z - 1 := by omega
        rw [e1]
        simp only [wk, fClose, w4]
        rw [if_neg (by omega), if_pos ⟨trivial, hz1⟩]
        simp [wks]
    · have e1 : wk (fOpen (var name)) k (.mk o s z l) = .mk o s z (wks (fOpen (var name)) k l) := by
        simp only [wk, fOpen]; rw [if_neg c2]
      have e2 : wk (fClose name) k (.mk o s z (wks (fOpen (var name)) k l)) = .mk o s z (wks (fClose name) k (wks (fOpen (var name)) k l)) := by
        simp only [wk, fClose]; rw [if_neg hf.1, if_neg c2]
      rw [e1, e2, closes_opens name k hk l hl hf.2]
theorem closes_opens (name : ByteArray) (k : Int) (hk : 0 ≤ k) : ∀ l : List Tm, plainTs l → freshTs name l → wks (fClose name) k (wks (fOpen (var name)) k l) = l
  | [], _, _ => by rw [wks, wks]
  | t :: l, h, hf => by
    rw [plainTs] at h
    rw [freshTs] at hf
    rw [wks, wks, close_open name k hk t h.1 hf.1, closes_opens name k hk l h.2 hf.2]
end
mutual
theorem close_openC (name : ByteArray) : ∀ (c : Cl) (k : Int), 0 ≤ k → plainC c → freshC name c → wkC (fClose name) k (wkC (fOpen (var name)) k c) = c
  | .mk o s z ts l, k, hk, h, hf => by
    rw [plainC] at h
    rw [freshC] at hf
    rw [wkC, wkC, closes_opens name k hk ts h.1 hf.1, closes_opensC name l (kin o k) (kin_pos hk) h.2 hf.2]
theorem closes_opensC (name : ByteArray) : ∀ (l : List Cl) (k : Int), 0 ≤ k → plainCs l → freshCs name l → wkCs (fClose name) k (wkCs (fOpen (var name)) k l) = l
  | [], k, _, _, _ => by rw [wkCs, wkCs]
  | t :: l, k, hk, h, hf => by
    rw [plainCs] at h
    rw [freshCs] at hf
    rw [wkCs, wkCs, close_openC name t k hk h.1 hf.1, closes_opensC name l k hk h.2 hf.2]
end
/-! the loose numbers of what was opened with a closed term -/
mutual
theorem closed_lift (by_ : Int) : ∀ t : Tm, lsT 0 t = [] → wk (fLift by_ 0) 0 t = t
  | .mk o s z l, h => by
    rw [lsT] at h
    obtain ⟨h1, h2⟩ := List.append_eq_nil_iff.1 h
    have c2 : ¬ (o = 2 ∧ (0 : Int) ≤ z) := fun e => by rw [if_pos e] at h1; cases h1
    have e1 : wk (fLift by_ 0) 0 (.mk o s z l) = .mk o s z (wks (fLift by_ 0) 0 l) := by
      simp only [wk, fLift]; rw [if_neg c2]
    rw [e1, closed_lifts by_ l h2]
theorem closed_lifts (by_ : Int) : ∀ l : List Tm, lsTs 0 l = [] → wks (fLift by_ 0) 0 l = l
  | [], _ => by rw [wks]
  | t :: l, h => by
    rw [lsTs] at h
    obtain ⟨h1, h2⟩ := List.append_eq_nil_iff.1 h
    rw [wks, closed_lift by_ t h1, closed_lifts by_ l h2]
end
mutual
theorem closed_up (k : Int) (hk : 0 ≤ k) : ∀ t : Tm, lsT 0 t = [] → lsT k t = []
  | .mk o s z l, h => by
    rw [lsT] at h ⊢
    obtain ⟨h1, h2⟩ := List.append_eq_nil_iff.1 h
    have c2 : ¬ (o = 2 ∧ k ≤ z) := fun e => by rw [if_pos ⟨e.1, by omega⟩] at h1; cases h1
    rw [if_neg c2, closed_ups k hk l h2]; rfl
theorem closed_ups (k : Int) (hk : 0 ≤ k) : ∀ l : List Tm, lsTs 0 l = [] → lsTs k l = []
  | [], _ => by rw [lsTs]
  | t :: l, h => by
    rw [lsTs] at h ⊢
    obtain ⟨h1, h2⟩ := List.append_eq_nil_iff.1 h
    rw [closed_up k hk t h1, closed_ups k hk l h2]; rfl
end
def less (L : List Int) : List Int := (L.filter (fun n => decide (0 < n))).map (fun n => n - 1)
theorem less_app (L M : List Int) : less (L ++ M) = less L ++ less M := by unfold less; simp
mutual
theorem less_open (t0 : Tm) (h0 : lsT 0 t0 = []) (k : Int) (hk : 0 ≤ k) : ∀ t : Tm, plainT t → lsT k (wk (fOpen t0) k t) = less (lsT k t)
  | .mk o s z l, h => by
    rw [plainT] at h
    obtain ⟨h2, h1, hl⟩ := h
    by_cases c2 : o = 2 ∧ k ≤ z
    · obtain ⟨rfl, hz⟩ := c2
      obtain ⟨a1, a2, rfl, rfl⟩ := h2 rfl
      have w2 : wrap64 (z - k) = z - k := wrap_small (by omega) (by omega)
      have eL : lsT k (.mk 2 ⟨#[]⟩ z []) = [z - k] := by rw [lsT, lsTs, if_pos ⟨rfl, hz⟩, w2]; rfl
      rw [eL]
      by_cases hzk : z - k = 0
      · have e1 : wk (fOpen t0) k (.mk 2 ⟨#[]⟩ z []) = wk (fLift k 0) 0 t0 := by simp [wk, fOpen, hz, hzk, wrap64_zero]
        rw [e1, closed_lift k t0 h0, closed_up k hk t0 h0, hzk]
        simp [less]
      · have w3 : wrap64 (z - 1) = z - 1 := wrap_small (by omega) (by omega)
        have e1 : wk (fOpen t0) k (.mk 2 ⟨#[]⟩ z []) = .mk 2 ⟨#[]⟩ (z - 1) [] := by
          simp only [wk, fOpen, w2, w3]
          rw [if_pos ⟨trivial, hz⟩, if_neg hzk]
          simp [wks]
        have w4 : wrap64 (z - 1 - k) = z - 1 - k := wrap_small (by omega) (by omega)
        rw [e1, lsT, lsTs, if_pos ⟨rfl, by omega⟩, w4]
        have hp : 0 < z - k := by omega
        have hq : (0 : Int) < z - k := hp
        simp only [less, List.filter_cons, hq, decide_true, if_true, List.filter_nil, List.map_cons, List.map_nil, List.append_nil]
        congr 1
        omega
    · have e1 : wk (fOpen t0) k (.mk o s z l) = .mk o s z (wks (fOpen t0) k l) := by
        simp only [wk, fOpen]; rw [if_neg c2]
      rw [e1, lsT, lsT, if_neg c2, List.nil_append, List.nil_append, lesses_open t0 h0 k hk l hl]
theorem lesses_open (t0 : Tm) (h0 : lsT 0 t0 = []) (k : Int) (hk : 0 ≤ k) : ∀ l : List Tm, plainTs l → lsTs k (wks (fOpen t0) k l) = less (lsTs k l)
  | [], _ => by rw [wks, lsTs]; rfl
  | t :: l, h => by
    rw [plainTs] at h
    rw [wks, lsTs, lsTs, less_app, less_open t0 h0 k hk t h.1, lesses_open t0 h0 k hk l h.2]
end
mutual
theorem less_openC (t0 : Tm) (h0 : lsT 0 t0 = []) : ∀ (c : Cl) (k : Int), 0 ≤ k → plainC c → lsC k (wkC (fOpen t0) k c) = less (lsC k c)
  | .mk o s z ts l, k, hk, h => by
    rw [plainC] at h
    rw [wkC, lsC, lsC, less_app, lesses_open t0 h0 k hk ts h.1, lesses_openC t0 h0 l (kin o k) (kin_pos hk) h.2]
theorem lesses_openC (t0 : Tm) (h0 : lsT 0 t0 = []) : ∀ (l : List Cl) (k : Int), 0 ≤ k → plainCs l → lsCs k (wkCs (fOpen t0) k l) = less (lsCs k l)
  | [], k, _, _ => by rw [wkCs, lsCs]; rfl
  | t :: l, k, hk, h => by
    rw [plainCs] at h
    rw [wkCs, lsCs, lsCs, less_app, less_openC t0 h0 t k hk h.1, lesses_openC t0 h0 l k hk h.2]
end
theorem up_less {X : List Int} (h : Up X) : Up (less X) := by
  unfold less
  show List.Pairwise (· < ·) _
  rw [List.pairwise_map]
  exact (List.Pairwise.filter _ h).imp (fun h => by omega)
theorem mem_less {X : List Int} {y : Int} : y ∈ less X ↔ y + 1 ∈ X ∧ 0 < y + 1 := by
  unfold less
  rw [List.mem_map]
  constructor
  · rintro ⟨n, hn, rfl⟩
    rw [List.mem_filter] at hn
    have := of_decide_eq_true hn.2
    rw [show n - 1 + 1 = n by omega]
    exact ⟨hn.1, this⟩
  · rintro ⟨h1, h2⟩
    exact ⟨y + 1, List.mem_filter.2 ⟨h1, decide_eq_true h2⟩, by omega⟩
/-- the numbers of what was opened, each once and rising -/
theorem less_puts (L : List Int) : puts [] (less L) = less (puts [] L) := by
  refine up_eq (puts_up _ (by simp)) (up_less (puts_up _ (by simp))) fun y => ?_
  rw [mem_puts, mem_less, mem_less, mem_puts]
  simp
end Go.Proofs.Ytacncbkcnhlpcaa.B
