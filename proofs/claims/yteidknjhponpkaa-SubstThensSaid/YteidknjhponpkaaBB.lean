/-
  What is proved: terms and claims in plain words, changed part by part within binders: lifted, opened, closed; the loose numbers. No program is spoken of.
  What is proved: package bind's visitTerms, with any function that changes one part: every part is changed so, in place; nothing else is.
  What is proved: package bind's visit, with any function that changes one part: every part of the terms of a claim is changed so, in place, within as many binders as lie around it; nothing else is.
  What is proved: what package bind's function literals do to one part: those of LiftClaim and of Close.
  What is proved: what package bind's function literals do to one part: those of LiftClaim and of Close.
  What is proved: package bind's changed, with any function that changes one part: the claim so changed, in new memory; LiftClaim, Close.
  What is proved: what package bind's LiftClaim, Close and Lift return.
  What is proved: what package bind's Close, alone, Lift and Open return.
-/
import Derived.Test.YteidknjhponpkaaBC
namespace Go.Proofs.Yteidknjhponpkaa.B
open Go.RowKit L T C
set_option linter.unusedVariables false
set_option linter.unusedSimpArgs false

/-- what becomes of a part: another number, and its Args are gone into; another part, without Args; or another term, which is not gone into -/
inductive Nd where
  | go (num : Int)
  | leaf (op : Int) (name : ByteArray) (num : Int)
  | put (t : Tm)
abbrev Fn := Int → Int → ByteArray → Int → Nd
mutual
def wk (f : Fn) (k : Int) : Tm → Tm
  | .mk o s z l => match f k o s z with
    | .go z' => .mk o s z' (wks f k l)
    | .leaf o' s' z' => .mk o' s' z' []
    | .put t => t
def wks (f : Fn) (k : Int) : List Tm → List Tm
  | [] => []
  | t :: l => wk f k t :: wks f k l
end
/-- how many binders lie around a claim's Subs -/
def kin (o k : Int) : Int := if o = 11 ∨ o = 12 then k + 1 else k
mutual
def wkC (f : Fn) (k : Int) : Cl → Cl
  | .mk o s z ts l => .mk o s z (wks f k ts) (wkCs f (kin o k) l)
def wkCs (f : Fn) (k : Int) : List Cl → List Cl
  | [] => []
  | c :: l => wkC f k c :: wkCs f k l
end
theorem wks_map (f : Fn) (k : Int) : ∀ l : List Tm, wks f k l = l.map (wk f k)
  | [] => by rw [wks]; rfl
  | t :: l => by rw [wks, wks_map f k l]; rfl
theorem wkCs_map (f : Fn) (k : Int) : ∀ l : List Cl, wkCs f k l = l.map (wkC f k)
  | [] => by rw [wkCs]; rfl
  | t :: l => by rw [wkCs, wkCs_map f k l]; rfl
theorem wk_mk (f : Fn) (k : Int) (t : Tm) : wk f k t = match f k (opT t) (nameT t) (numT t) with | .go z' => .mk (opT t) (nameT t) z' (wks f k (argsT t)) | .leaf o' s' z' => .mk o' s' z' [] | .put t => t := by
  cases t; rw [wk]; rfl
theorem wkC_mk (f : Fn) (k : Int) (c : Cl) : wkC f k c = .mk (opC c) (nmC c) (soC c) (wks f k (tsC c)) (wkCs f (kin (opC c) k) (subC c)) := by
  cases c; rw [wkC]; rfl
/-- lifted by so much, from so much on -/
def fLift (by_ fr : Int) : Fn := fun k o _ z => if o = 2 ∧ k ≤ z then (if fr ≤ wrap64 (z - k) then .go (wrap64 (max (wrap64 (wrap64 (z - k) + by_)) 0 + k)) else .go z) else .go z
/-- opened with a term -/
def fOpen (t : Tm) : Fn := fun k o _ z => if o = 2 ∧ k ≤ z then (if wrap64 (z - k) = 0 then .put (wk (fLift k 0) 0 t) else .go (wrap64 (z - 1))) else .go z
/-- closed by a name -/
def fClose (name : ByteArray) : Fn := fun k o s z => if o = 1 ∧ s.toList = name.toList then .leaf 2 ⟨#[]⟩ k else if o = 2 ∧ k ≤ z then .go (wrap64 (z + 1)) else .go z
/-! the loose numbers, as they come -/
mutual
def lsT (k : Int) : Tm → List Int
  | .mk o s z l => (if o = 2 ∧ k ≤ z then [wrap64 (z - k)] else []) ++ lsTs k l
def lsTs (k : Int) : List Tm → List Int
  | [] => []
  | t :: l => lsT k t ++ lsTs k l
end
mutual
def lsC (k : Int) : Cl → List Int
  | .mk o s z ts l => lsTs k ts ++ lsCs (kin o k) l
def lsCs (k : Int) : List Cl → List Int
  | [] => []
  | c :: l => lsC k c ++ lsCs k l
end
theorem lsT_mk (k : Int) (t : Tm) : lsT k t = (if opT t = 2 ∧ k ≤ numT t then [wrap64 (numT t - k)] else []) ++ lsTs k (argsT t) := by
  cases t; rw [lsT]; rfl
theorem lsC_mk (k : Int) (c : Cl) : lsC k c = lsTs k (tsC c) ++ lsCs (kin (opC c) k) (subC c) := by
  cases c; rw [lsC]; rfl
theorem lsTs_app (k : Int) (l m : List Tm) : lsTs k (l ++ m) = lsTs k l ++ lsTs k m := by
  induction l with
  | nil => rw [List.nil_append, lsTs]; rfl
  | cons t l ih => rw [List.cons_append, lsTs, lsTs, ih, List.append_assoc]
theorem lsCs_app (k : Int) (l m : List Cl) : lsCs k (l ++ m) = lsCs k l ++ lsCs k m := by
  induction l with
  | nil => rw [List.nil_append, lsCs]; rfl
  | cons t l ih => rw [List.cons_append, lsCs, lsCs, ih, List.append_assoc]
mutual
theorem lsT_len (k : Int) : ∀ t : Tm, (lsT k t).length ≤ size t
  | .mk o s z l => by
    rw [lsT, size, List.length_append]
    have := lsTs_len k l
    split <;> simp <;> omega
theorem lsTs_len (k : Int) : ∀ l : List Tm, (lsTs k l).length ≤ sizes l
  | [] => by rw [lsTs, sizes]; simp
  | t :: l => by rw [lsTs, sizes, List.length_append]; have := lsT_len k t; have := lsTs_len k l; omega
end
mutual
theorem lsC_len : ∀ (c : Cl) (k : Int), (lsC k c).length ≤ wt c
  | .mk o s z ts l, k => by
    rw [lsC, wt, List.length_append]
    have := lsTs_len k ts; have := lsCs_len l (kin o k); omega
theorem lsCs_len : ∀ (l : List Cl) (k : Int), (lsCs k l).length ≤ wts l
  | [], k => by rw [lsCs, wts]; simp
  | t :: l, k => by rw [lsCs, wts, List.length_append]; have := lsC_len t k; have := lsCs_len l k; omega
end
end Go.Proofs.Yteidknjhponpkaa.B
namespace Go.Proofs.Yteidknjhponpkaa.B
open Go.RowKit L T C
set_option linter.unusedVariables false
set_option linter.unusedSimpArgs false

/-- only blocks from lo on and below hi are changed, and new ones made -/
def Ch (w w' : World) (lo hi : Nat) : Prop := Below lo w w' ∧ ∀ b, hi ≤ b → b < w.heap.size → w'.heap[b]? = w.heap[b]?
/-- blocks from lo on below hi, or from s on below s' -/
def Nw (lo hi s s' : Nat) (b : Nat) : Prop := (lo ≤ b ∧ b < hi) ∨ (s ≤ b ∧ b < s')
def nuw (h : Hd) (z : Int) : Hd := ⟨h.op, h.nm, z, h.a, h.n, h.c⟩
/-- what a call of the function leaves, at one part -/
def NodeOk (f : Fn) (k : Int) (w : World) (g : Nat) (hs : List Hd) (i : Nat) (h : Hd) (e : Ending) (w' : World) : Prop :=
  Ch w w' g (g + 1) ∧ ((∃ z', f k h.op h.nm h.nu = .go z' ∧ e = .returned (.bool true) ∧ Row w' g (hs.set i (nuw h z'))) ∨ (∃ o' s' z', f k h.op h.nm h.nu = .leaf o' s' z' ∧ e = .returned (.bool true) ∧ Row w' g (hs.set i ⟨o', s', z', none, 0, 0⟩)) ∨ (∃ t h', f k h.op h.nm h.nu = .put t ∧ e = .returned (.bool false) ∧ Row w' g (hs.set i h') ∧ HdP (Nw 0 0 w.heap.size w'.heap.size) w' h' t))
def ClosOk (F : Nat) (caps : Array Value) (f : Fn) (K : Int) (B0 : Nat) (w0 : World) : Prop :=
  ∀ (w : World) (g : Nat) (hs : List Hd) (i : Nat) (h : Hd) (k : Int), Below B0 w0 w → B0 ≤ g → Row w g hs → hs[i]? = some h → 0 ≤ k → k ≤ K →
    Calls Try.prog F (#[.pointer (some ⟨g, i * 4, none⟩), .int .i64 k] ++ caps) w fun e w' => NodeOk f k w g hs i h e w'
theorem Ch.refl (w : World) (lo hi : Nat) : Ch w w lo hi := ⟨Below.refl _ _, fun _ _ _ => rfl⟩
theorem Ch.trans {a b c : World} {lo hi lo' hi' : Nat} (h : Ch a b lo hi) (k : Ch b c lo' hi') (h1 : lo ≤ lo') (h2 : hi' ≤ hi) : Ch a c lo hi :=
  ⟨h.1.trans (k.1.mono h1), fun x hx hx2 => (k.2 x (by omega) (by have := h.1.size; omega)).trans (h.2 x hx hx2)⟩
theorem Ch.wide {a b : World} {lo hi lo' hi' : Nat} (h : Ch a b lo hi) (h1 : lo' ≤ lo) (h2 : hi ≤ hi') : Ch a b lo' hi' :=
  ⟨h.1.mono h1, fun x hx hx2 => h.2 x (by omega) hx2⟩
theorem Ch.of_below {a b : World} {lo hi : Nat} (h : Below a.heap.size a b) (hl : lo ≤ a.heap.size) : Ch a b lo hi := ⟨h.mono hl, fun x _ hx => h.block x hx⟩
theorem Ch.out {a b : World} {lo hi x : Nat} (h : Ch a b lo hi) (hx : x < a.heap.size) (ho : x < lo ∨ hi ≤ x) : b.heap[x]? = a.heap[x]? := by
  rcases ho with ho | ho
  · exact h.1.block x ho
  · exact h.2 x ho hx
theorem hdP_to {P Q : Nat → Prop} {w w' : World} {h : Hd} {t : Tm} (hh : HdP P w h t) (hb : ∀ b, P b → w'.heap[b]? = w.heap[b]?) (hq : ∀ b, P b → Q b) : HdP Q w' h t :=
  ⟨hh.1, hh.2.1, hh.2.2.1, ArP.to hb hq t hh.2.2.2⟩
/-- how far the loop has come -/
def VI (f : Fn) (k : Int) (w wr : World) (g lo hi : Nat) (l : List Tm) (n i : Nat) : Prop :=
  Ch w wr lo hi ∧ ∃ hs mid, hs.length = n ∧ Row wr g hs ∧ g + 1 ≤ mid ∧ mid ≤ hi ∧ FrL wr (l.drop i) mid hi (hs.drop i) ∧ ∀ j x h, j < i → l[j]? = some x → hs[j]? = some h → HdP (Nw (g + 1) mid w.heap.size wr.heap.size) wr h (wk f k x)
/-- what a round meets -/
def VGo (f : Fn) (k : Int) (w wr : World) (g lo hi : Nat) (l : List Tm) (n i B0 : Nat) (w0 : World) (hs : List Hd) (x : Tm) (hx : Hd) : Prop :=
  ∃ mid mid', mid' ≤ wr.heap.size ∧ (∀ w3 t h', Ch wr w3 g (g + 1) → f k hx.op hx.nm hx.nu = .put t → Row w3 g (hs.set i h') → HdP (Nw 0 0 wr.heap.size w3.heap.size) w3 h' t → VI f k w w3 g lo hi l n (i + 1)) ∧
    (∀ w3 o' s' z', Ch wr w3 g (g + 1) → f k hx.op hx.nm hx.nu = .leaf o' s' z' → Row w3 g (hs.set i ⟨o', s', z', none, 0, 0⟩) → w3.cell? ⟨g, i * 4 + 3, none⟩ = some (.slice none 0 0) ∧ FrK w3 [] mid mid' SS.nil ∧ mid' ≤ w3.heap.size ∧ B0 ≤ mid ∧ Below B0 w0 w3 ∧ ∀ w4, Ch w3 w4 mid mid' → VI f k w w4 g lo hi l n (i + 1)) ∧
    (∀ w3 z', Ch wr w3 g (g + 1) → f k hx.op hx.nm hx.nu = .go z' → Row w3 g (hs.set i (nuw hx z')) → w3.cell? ⟨g, i * 4 + 3, none⟩ = some (.slice hx.a hx.n hx.c) ∧ FrK w3 (argsT x) mid mid' ⟨hx.a, hx.n, hx.c⟩ ∧ mid' ≤ w3.heap.size ∧ B0 ≤ mid ∧ Below B0 w0 w3 ∧
      ∀ w4, Ch w3 w4 mid mid' → ArP (Nw mid mid' w3.heap.size w4.heap.size) w4 (.mk 0 ⟨#[]⟩ 0 (wks f k (argsT x))) hx.a hx.n hx.c → VI f k w w4 g lo hi l n (i + 1))
theorem VI.next {f : Fn} {k : Int} {w wr : World} {g lo hi : Nat} {l : List Tm} {n i B0 : Nat} {w0 : World} (h : VI f k w wr g lo hi l n i) (hl : l.length = n) (hi0 : i < n) (hlg : lo ≤ g) (hgw : g < w.heap.size) (hhi : hi ≤ w.heap.size) (hB : B0 ≤ lo) (hb0 : Below B0 w0 w) :
    ∃ hs x hx, Row wr g hs ∧ hs[i]? = some hx ∧ l[i]? = some x ∧ Below B0 w0 wr ∧ VGo f k w wr g lo hi l n i B0 w0 hs x hx := by
  obtain ⟨hC, hs, mid, h1, h2, h3, h3b, h4, h5⟩ := h
  have hkl : i < l.length := by omega
  have hks : i < hs.length := by omega
  rw [List.drop_eq_getElem_cons hkl, List.drop_eq_getElem_cons hks, FrL] at h4
  obtain ⟨hx, hsr, mid', e, hF, hL⟩ := h4
  simp only [List.cons.injEq] at e
  obtain ⟨rfl, rfl⟩ := e
  have q1 := hF.le
  have q2 := hL.le
  have q3 := hC.1.size
  have hxx : l[i]? = some l[i] := List.getElem?_eq_getElem hkl
  have hhx : hs[i]? = some hs[i] := List.getElem?_eq_getElem hks
  obtain ⟨e1, e2, e3⟩ := hF.hd
  refine ⟨hs, l[i], hs[i], h2, hhx, hxx, hb0.trans (hC.1.mono hB), mid, mid', by omega, ?_, ?_, ?_⟩
  · intro w3 t h' c3 hf hr hh
    have q4 := c3.1.size
    refine ⟨hC.trans c3 hlg (by omega), hs.set i h', mid', by simp [h1], hr, by omega, q2, ?_, fun j y hy hj hy1 hy2 => ?_⟩
    · rw [List.drop_set_of_lt (by omega)]
      exact FrL.same _ (fun b u v => c3.out (by omega) (Or.inr (by omega))) hL
    · by_cases ej : j = i
      · subst ej
        rw [List.getElem?_set_self hks] at hy2
        rw [hxx] at hy1
        injection hy1 with hy1
        injection hy2 with hy2
        subst hy1 hy2
        rw [wk_mk, ← e1, ← e2, ← e3, hf]
        exact hdP_to hh (fun _ _ => rfl) (fun b hb => by unfold Nw at hb ⊢; omega)
      · rw [List.getElem?_set_ne (fun x => ej x.symm)] at hy2
        exact hdP_to (h5 j y hy (by omega) hy1 hy2) (fun b hb => c3.out (by unfold Nw at hb; omega) (Or.inr (by unfold Nw at hb; omega))) (fun b hb => by unfold Nw at hb ⊢; omega)
  · intro w3 o' s' z' c3 hf hr
    have q4 := c3.1.size
    have hks2 : i < (hs.set i (⟨o', s', z', none, 0, 0⟩ : Hd)).length := by simpa using hks
    have hc3 := (hr.at hks2).2.2.2
    rw [List.getElem_set_self] at hc3
    refine ⟨hc3, ?_, by omega, by omega, (hb0.trans (hC.1.mono hB)).trans (c3.1.mono (by omega)), ?_⟩
    · unfold FrK SS.nil
      rw [Fr]
      exact ⟨⟨rfl, rfl, rfl⟩, ⟨rfl, Nat.le_refl _, Nat.zero_le _, fun _ => rfl⟩, q1, fun h => absurd h (by simp)⟩
    intro w4 c4
    have q5 := c4.1.size
    refine ⟨(hC.trans c3 hlg (by omega)).trans c4 (by omega) q2, hs.set i ⟨o', s', z', none, 0, 0⟩, mid', by simp [h1], hr.of_block (c4.out (by omega) (Or.inl (by omega))), by omega, q2, ?_, fun j y hy hj hy1 hy2 => ?_⟩
    · rw [List.drop_set_of_lt (by omega)]
      exact FrL.same _ (fun b u v => (c4.out (by omega) (Or.inr (by omega))).trans (c3.out (by omega) (Or.inr (by omega)))) hL
    · by_cases ej : j = i
      · subst ej
        rw [List.getElem?_set_self hks] at hy2
        rw [hxx] at hy1
        injection hy1 with hy1
        injection hy2 with hy2
        subst hy1 hy2
        rw [wk_mk, ← e1, ← e2, ← e3, hf]
        refine ⟨rfl, rfl, rfl, ?_⟩
        rw [ArP]
        exact ⟨rfl, Nat.le_refl _, Nat.zero_le _, fun _ => rfl, fun h => absurd h (by simp)⟩
      · rw [List.getElem?_set_ne (fun x => ej x.symm)] at hy2
        exact hdP_to (h5 j y hy (by omega) hy1 hy2) (fun b hb => (c4.out (by unfold Nw at hb; omega) (by unfold Nw at hb; omega)).trans (c3.out (by unfold Nw at hb; omega) (Or.inr (by unfold Nw at hb; omega)))) (fun b hb => by unfold Nw at hb ⊢; omega)
  · intro w3 z' c3 hf hr
    have q4 := c3.1.size
    have hFK : FrK wr (argsT l[i]) mid mid' ⟨hs[i].a, hs[i].n, hs[i].c⟩ := by
      unfold FrK
      cases hxe : l[i] with
      | mk o s z la =>
        rw [hxe, Fr] at hF
        rw [Fr]
        exact ⟨⟨rfl, rfl, rfl⟩, hF.2.1, hF.2.2.1, hF.2.2.2⟩
    have hks2 : i < (hs.set i (nuw hs[i] z')).length := by simpa using hks
    have hc3 := (hr.at hks2).2.2.2
    rw [List.getElem_set_self] at hc3
    refine ⟨hc3, hFK.same (fun b u v => c3.out (by omega) (Or.inr (by omega))), by omega, by omega, (hb0.trans (hC.1.mono hB)).trans (c3.1.mono (by omega)), ?_⟩
    intro w4 c4 hA
    have q5 := c4.1.size
    refine ⟨(hC.trans c3 hlg (by omega)).trans c4 (by omega) q2, hs.set i (nuw hs[i] z'), mid', by simp [h1], hr.of_block (c4.out (by omega) (Or.inl (by omega))), by omega, q2, ?_, fun j y hy hj hy1 hy2 => ?_⟩
    · rw [List.drop_set_of_lt (by omega)]
      exact FrL.same _ (fun b u v => (c4.out (by omega) (Or.inr (by omega))).trans (c3.out (by omega) (Or.inr (by omega)))) hL
    · by_cases ej : j = i
      · subst ej
        rw [List.getElem?_set_self hks] at hy2
        rw [hxx] at hy1
        injection hy1 with hy1
        injection hy2 with hy2
        subst hy1 hy2
        rw [wk_mk, ← e1, ← e2, ← e3, hf]
        refine ⟨rfl, rfl, rfl, ?_⟩
        rw [ArP] at hA ⊢
        refine ⟨hA.1, hA.2.1, hA.2.2.1, hA.2.2.2.1, fun hn => ?_⟩
        obtain ⟨b, o, a1, a2, a3⟩ := hA.2.2.2.2 hn
        have hq : ∀ b, Nw mid mid' w3.heap.size w4.heap.size b → Nw (g + 1) mid' w.heap.size w4.heap.size b := fun b hb => by unfold Nw at hb ⊢; omega
        exact ⟨b, o, a1, hq b a2, RwP.to (fun _ _ => rfl) hq a2 _ a3⟩
      · rw [List.getElem?_set_ne (fun x => ej x.symm)] at hy2
        exact hdP_to (h5 j y hy (by omega) hy1 hy2) (fun b hb => (c4.out (by unfold Nw at hb; omega) (by unfold Nw at hb; omega)).trans (c3.out (by unfold Nw at hb; omega) (Or.inr (by unfold Nw at hb; omega)))) (fun b hb => by unfold Nw at hb ⊢; omega)
theorem VI.done {f : Fn} {k : Int} {w wr : World} {g lo hi : Nat} {l : List Tm} {n c : Nat} (h : VI f k w wr g lo hi l n n) (hl : l.length = n) (hc : n ≤ c ∧ c ≤ maxLen) (hlg : lo ≤ g) (hgw : g < hi) :
    Ch w wr lo hi ∧ ArP (Nw lo hi w.heap.size wr.heap.size) wr (.mk 0 ⟨#[]⟩ 0 (wks f k l)) (some ⟨g, 0, none⟩) n c := by
  obtain ⟨hC, hs, mid, h1, h2, h3, h3b, h4, h5⟩ := h
  refine ⟨hC, ?_⟩
  rw [ArP]
  refine ⟨by rw [wks_map, List.length_map, hl], hc.1, hc.2, (fun h => by cases h), fun _ => ⟨g, 0, rfl, Or.inl ⟨hlg, hgw⟩, ?_⟩⟩
  refine Row.rwP h2 (by rw [wks_map, List.length_map]; omega) fun j hj hj2 => ?_
  have hjl : j < l.length := by rw [wks_map, List.length_map] at hj; exact hj
  have := h5 j l[j] hs[j] (by omega) (List.getElem?_eq_getElem hjl) (List.getElem?_eq_getElem hj2)
  have e : (wks f k l)[j] = wk f k l[j] := by simp [wks_map]
  rw [e]
  have t := hdP_to this (Q := Nw lo hi w.heap.size wr.heap.size) (fun _ _ => rfl) (fun b hb => by unfold Nw at hb ⊢; omega)
  exact ⟨⟨t.1, t.2.1, t.2.2.1⟩, t.2.2.2⟩
/-- the walk over a list of terms -/
def VtOk (F : Nat) (caps : Array Value) (f : Fn) (K : Int) (B0 : Nat) (w0 : World) (l : List Tm) : Prop :=
  ∀ (ks : SS) (lo hi : Nat) (w : World) (k : Int), FrK w l lo hi ks → hi ≤ w.heap.size → B0 ≤ lo → Below B0 w0 w → 0 ≤ k → k ≤ K →
    Calls Try.prog 117 #[.slice ks.a ks.n ks.c, .int .i64 k, .func (.func F) #[] caps] w fun e w' => e = .returned (.tuple #[]) ∧ Ch w w' lo hi ∧ ArP (Nw lo hi w.heap.size w'.heap.size) w' (.mk 0 ⟨#[]⟩ 0 (wks f k l)) ks.a ks.n ks.c
set_option maxRecDepth 100000 in
theorem vt_nil (F : Nat) (caps : Array Value) (f : Fn) (K : Int) (B0 : Nat) (w0 : World) : VtOk F caps f K B0 w0 [] := by
  intro ks lo hi w k hFr hhi hB hb hk0 hkK
  obtain ⟨a, n, c⟩ := ks
  dsimp only
  unfold FrK at hFr
  rw [Fr] at hFr
  obtain ⟨_, ⟨hn, hc1, hc2, hc3⟩, hlh, hg⟩ := hFr
  dsimp only at hn hc1 hc2 hc3 hg
  obtain rfl : n = 0 := hn
  clear hg hkK hk0 hb
  go_enter Try.func117, Try.ntmps117
  go_wp2
  go_loopw [9] (fun i wr0 => wr0 = w ∧ i = .int .i64 0) (fun i _ => 0)
  case atStart => exact ⟨rfl, rfl⟩
  case round =>
    obtain ⟨rfl, rfl⟩ := hrel
    go_wp2
    simp [bodyPost, results, Try.results117, go_sem]
    refine ⟨Ch.refl _ _ _, ?_⟩
    rw [ArP]
    exact ⟨by rw [wks]; rfl, Nat.zero_le _, hc2, hc3, fun h => absurd h (by omega)⟩
set_option maxRecDepth 100000 in
set_option maxHeartbeats 4000000 in
theorem vt_step (F : Nat) (caps : Array Value) (hE : ∀ (args : Array Value) (w : World), (callFunc F args).run Try.prog w = .ok (.enter F args) w) (f : Fn) (K : Int) (B0 : Nat) (w0 : World) (hF : ClosOk F caps f K B0 w0) (l : List Tm) (hok : ∀ x ∈ l, VtOk F caps f K B0 w0 (argsT x)) : VtOk F caps f K B0 w0 l := by
  intro ks lo hi w k hFr hhi hB hb hk0 hkK
  obtain ⟨a, n, c⟩ := ks
  dsimp only
  have hFr2 := hFr
  unfold FrK at hFr2
  rw [Fr] at hFr2
  obtain ⟨_, ⟨hn, hc1, hc2, hc3⟩, hlh, hg⟩ := hFr2
  dsimp only at hn hc1 hc2 hc3 hg
  have hnm : n ≤ 9223372036854775807 := by unfold maxLen at hc2; omega
  have HK := Lib.hid (show ∀ i x, l[i]? = some x → VtOk F caps f K B0 w0 (argsT x) from fun i x hx => hok x (List.mem_of_getElem? hx))
  have HF := Lib.hid hF
  have Hk1 := Lib.hid hkK
  have Hk0 := Lib.hid hk0
  by_cases hn0 : n = 0
  · subst hn0
    have hl0 : l = [] := List.length_eq_zero_iff.1 hn.symm
    subst hl0
    exact vt_nil F caps f K B0 w0 ⟨a, 0, c⟩ lo hi w k hFr hhi hB hb hk0 hkK
  · obtain ⟨g, hs, rfl, hg1, hrow, hL⟩ := hg (by omega)
    have hgl := hrow.lt
    have hgh : g < hi := by have := hL.le; omega
    have P0 : VI f k w w g lo hi l n 0 := ⟨Ch.refl _ _ _, hs, g + 1, by rw [hL.len, hn], hrow, Nat.le_refl _, by omega, by rw [List.drop_zero, List.drop_zero]; exact hL, fun j x h hj => absurd hj (by omega)⟩
    have HP0 := Lib.hid P0
    have Hn := Lib.hid hn
    have Hcc := Lib.hid (And.intro hc1 hc2)
    have Hb := Lib.hid hb
    clear hFr hok hF hg hrow hL P0 hn hkK hk0 hb hc2
    go_enter Try.func117, Try.ntmps117
    go_wp2
    go_loopw [9] (fun i wr0 => ∃ (wr : World) (j : Nat), wr = wr0 ∧ j ≤ n ∧ i = .int .i64 j ∧ Hid (VI f k w wr g lo hi l n j)) (fun i _ => n - (intOf i).toNat)
    case atStart => exact ⟨_, 0, rfl, by omega, rfl, HP0⟩
    case round =>
      obtain ⟨wr, i, rfl, hi0, rfl, hR⟩ := hrel
      by_cases hlt : i < n
      · obtain ⟨hs, x, hx, hrow, hhx, hxl, hbr, hGo⟩ := hR.out.next Hn.out.symm hlt hg1 hgl hhi hB Hb.out
        have cF := HF.out wr g hs i hx k hbr (by omega) hrow hhx Hk0.out Hk1.out
        have cV := HK.out i x hxl
        obtain ⟨mid, mid', hmw, hP, hLf, hG⟩ := hGo
        have HL := Lib.hid hLf
        clear hLf
        clear hxl hhx hrow hR HK HF hbr
        unfold NodeOk at cF
        unfold VtOk at cV
        have HP := Lib.hid hP
        have HG := Lib.hid hG
        have HV := Lib.hid cV
        clear hP hG cV
        have hj0 : 0 ≤ (i : Int) := by omega
        have hj1 : (i : Int) < (n : Int) := by omega
        go_wp2_with (first
          | ((with_reducible refine cF.mono ?_); rintro e w3 ⟨c3, ⟨z', hf, rfl, hr3⟩ | ⟨o', s', z', hf, rfl, hr3⟩ | ⟨t, h', hf, rfl, hr3, hh3⟩⟩; all_goals (first | (have hgo := HL.out w3 o' s' z' c3 hf hr3; obtain ⟨hcell, hFK, hm3, hBm, hb3, hNext⟩ := hgo; have cV2 := vt_nil F caps f K B0 w0 ⟨none, 0, 0⟩ mid mid' w3 k hFK hm3 hBm hb3 Hk0.out Hk1.out; have HNx := Lib.hid (fun w4 c4 (_ : ArP (Nw mid mid' w3.heap.size w4.heap.size) w4 (.mk 0 ⟨#[]⟩ 0 (wks f k [])) none 0 0) => hNext w4 c4); clear hNext hFK hr3 hf) | (have hgo := HG.out w3 z' c3 hf hr3; obtain ⟨hcell, hFK, hm3, hBm, hb3, hNext⟩ := hgo; have cV2 := HV.out ⟨hx.a, hx.n, hx.c⟩ mid mid' w3 k hFK hm3 hBm hb3 Hk0.out Hk1.out; have HNx := Lib.hid hNext; clear hNext hFK hr3 hf) | (have HN := Lib.hid (HP.out w3 t h' c3 hf hr3 hh3); clear hf hr3 hh3)))
          | (go_at_call 117; ((with_reducible refine cV2.mono ?_); rintro e w4 ⟨rfl, c4, hA4⟩; have HN := Lib.hid (HNx.out w4 c4 hA4); clear hA4)))
        all_goals go_roundw
        case rel => exact ⟨_, i + 1, rfl, by omega, by go_num, HN⟩
        case measure => simp [intOf]; omega
        case rel => exact ⟨_, i + 1, rfl, by omega, by go_num, HN⟩
        case measure => simp [intOf]; omega
        case rel => exact ⟨_, i + 1, rfl, by omega, by go_num, HN⟩
        case measure => simp [intOf]; omega
      · obtain rfl : i = n := by omega
        have Hfin := Lib.hid (VI.done hR.out Hn.out.symm Hcc.out hg1 hgh)
        clear hR
        go_wp2
        simp [bodyPost, results, Try.results117, go_sem]
        exact Hfin.out
theorem vt_any (F : Nat) (caps : Array Value) (hE : ∀ (args : Array Value) (w : World), (callFunc F args).run Try.prog w = .ok (.enter F args) w) (f : Fn) (K : Int) (B0 : Nat) (w0 : World) (hF : ClosOk F caps f K B0 w0) (l : List Tm) : VtOk F caps f K B0 w0 l :=
  vt_step F caps hE f K B0 w0 hF l fun x _ => Tm.ind (P := fun x => VtOk F caps f K B0 w0 (argsT x)) (fun x h => vt_step F caps hE f K B0 w0 hF (argsT x) h) x
end Go.Proofs.Yteidknjhponpkaa.B
namespace Go.Proofs.Yteidknjhponpkaa.B
open Go.RowKit L T C
set_option linter.unusedVariables false
set_option linter.unusedSimpArgs false

def HdC (P : Nat → Prop) (w : World) (h : Hc) (t : Cl) : Prop := (h.op = opC t ∧ h.nm = nmC t ∧ h.so = soC t) ∧ ArCP P w t h.k h.a h.n h.c
theorem hdC_to {P Q : Nat → Prop} {w w' : World} {h : Hc} {t : Cl} (hh : HdC P w h t) (hb : ∀ b, P b → w'.heap[b]? = w.heap[b]?) (hq : ∀ b, P b → Q b) : HdC Q w' h t :=
  ⟨hh.1, ArCP.to hb hq t hh.2⟩
theorem rowC_rwCP {P : Nat → Prop} {w : World} {g : Nat} {hs : List Hc} {l : List Cl} (hr : RowC w g hs) (hl : hs.length = l.length) (h : ∀ k (hk : k < l.length) (hk2 : k < hs.length), HdC P w hs[k] l[k]) : RwCP P w g 0 l := by
  refine rwCP_of l 0 fun k t hk => ?_
  obtain ⟨hk1, rfl⟩ := List.getElem?_eq_some_iff.1 hk
  have hk2 : k < hs.length := by omega
  obtain ⟨c0, c1, c2, c3, c4⟩ := hr.at hk2
  have h5 := h k hk1 hk2
  rw [Nat.zero_add]
  exact ⟨_, _, _, _, by rw [← h5.1.1]; exact c0, by rw [← h5.1.2.1]; exact c1, by rw [← h5.1.2.2]; exact c2, c3, c4, h5.2⟩
def VCI (f : Fn) (k : Int) (w wr : World) (g lo hi : Nat) (l : List Cl) (n i : Nat) : Prop :=
  Ch w wr lo hi ∧ ∃ hs m, hs.length = n ∧ RowC wr g hs ∧ g + 1 ≤ m ∧ m ≤ hi ∧ FrCL wr (l.drop i) m hi (hs.drop i) ∧ ∀ j x h, j < i → l[j]? = some x → hs[j]? = some h → HdC (Nw (g + 1) m w.heap.size wr.heap.size) wr h (wkC f k x)
theorem VCI.next {f : Fn} {k : Int} {w wr : World} {g lo hi : Nat} {l : List Cl} {n i : Nat} (h : VCI f k w wr g lo hi l n i) (hl : l.length = n) (hi0 : i < n) (hlg : lo ≤ g) (hgw : g < w.heap.size) (hhi : hi ≤ w.heap.size) :
    ∃ x hx m m', l[i]? = some x ∧ FrC wr x m m' hx ∧ g + 1 ≤ m ∧ m' ≤ wr.heap.size ∧ (wr.cell? ⟨g, i * 5, none⟩ = some (.int .i64 hx.op) ∧ wr.cell? ⟨g, i * 5 + 1, none⟩ = some (.string hx.nm) ∧ wr.cell? ⟨g, i * 5 + 1 + 1, none⟩ = some (.string hx.so) ∧ wr.cell? ⟨g, i * 5 + 1 + 1 + 1, none⟩ = some (.slice hx.k.a hx.k.n hx.k.c) ∧ wr.cell? ⟨g, i * 5 + 1 + 1 + 1 + 1, none⟩ = some (.slice hx.a hx.n hx.c)) ∧
      (∀ W4 w5, Below wr.heap.size wr W4 → Ch W4 w5 m m' → ArCP (Nw m m' W4.heap.size w5.heap.size) w5 (wkC f k x) hx.k hx.a hx.n hx.c → VCI f k w w5 g lo hi l n (i + 1)) := by
  obtain ⟨hC, hs, mid, h1, h2, h3, h3b, h4, h5⟩ := h
  have hkl : i < l.length := by omega
  have hks : i < hs.length := by omega
  rw [List.drop_eq_getElem_cons hkl, List.drop_eq_getElem_cons hks, FrCL] at h4
  obtain ⟨hx, hsr, mid', e, hF, hL⟩ := h4
  simp only [List.cons.injEq] at e
  obtain ⟨rfl, rfl⟩ := e
  have q1 := hF.le
  have q2 := hL.le
  have q3 := hC.1.size
  have hxx : l[i]? = some l[i] := List.getElem?_eq_getElem hkl
  have hgl := h2.lt
  obtain ⟨e1, e2, e3⟩ := FrC.hd hF
  refine ⟨l[i], hs[i], mid, mid', hxx, hF, h3, by omega, h2.at hks, ?_⟩
  intro W4 w5 b4 c5 hA
  have q4 := b4.size
  have q5 := c5.1.size
  have hold : ∀ b, b < wr.heap.size → (b < mid ∨ mid' ≤ b) → w5.heap[b]? = wr.heap[b]? := fun b u v => (c5.out (by omega) v).trans (b4.block b u)
  refine ⟨(hC.trans (Ch.of_below (lo := lo) (hi := hi) b4 (by omega)) (Nat.le_refl _) (Nat.le_refl _)).trans c5 (by omega) q2, hs, mid', h1, h2.of_block (hold g (by omega) (by omega)), by omega, q2, ?_, fun j y hy hj hy1 hy2 => ?_⟩
  · exact FrCL.same _ (fun b u v => hold b (by omega) (Or.inr u)) hL
  · by_cases ej : j = i
    · subst ej
      rw [List.getElem?_eq_getElem hks] at hy2
      rw [hxx] at hy1
      injection hy1 with hy1
      injection hy2 with hy2
      subst hy1 hy2
      refine ⟨?_, ArCP.to (fun _ _ => rfl) (fun b hb => by unfold Nw at hb ⊢; omega) _ hA⟩
      rw [wkC_mk]
      exact ⟨e1, e2, e3⟩
    · exact hdC_to (h5 j y hy (by omega) hy1 hy2) (fun b hb => hold b (by unfold Nw at hb; omega) (by unfold Nw at hb; omega)) (fun b hb => by unfold Nw at hb ⊢; omega)
theorem VCI.done {f : Fn} {k : Int} {w wr : World} {g lo hi : Nat} {l : List Cl} {n : Nat} (h : VCI f k w wr g lo hi l n n) (hl : l.length = n) (hlg : lo ≤ g) (hgw : g < hi) :
    Ch w wr lo hi ∧ RwCP (Nw lo hi w.heap.size wr.heap.size) wr g 0 (wkCs f k l) := by
  obtain ⟨hC, hs, mid, h1, h2, h3, h3b, h4, h5⟩ := h
  refine ⟨hC, rowC_rwCP h2 (by rw [wkCs_map, List.length_map]; omega) fun j hj hj2 => ?_⟩
  have hjl : j < l.length := by rw [wkCs_map, List.length_map] at hj; exact hj
  have := h5 j l[j] hs[j] (by omega) (List.getElem?_eq_getElem hjl) (List.getElem?_eq_getElem hj2)
  have e : (wkCs f k l)[j] = wkC f k l[j] := by simp [wkCs_map]
  rw [e]
  exact hdC_to this (fun _ _ => rfl) (fun b hb => by unfold Nw at hb ⊢; omega)
/-- the walk over a claim -/
def VsOk (F : Nat) (caps : Array Value) (f : Fn) (K : Int) (B0 : Nat) (w0 : World) (c : Cl) : Prop :=
  ∀ (h : Hc) (lo hi : Nat) (w : World) (k : Int), FrC w c lo hi h → hi ≤ w.heap.size → B0 ≤ lo → Below B0 w0 w → 0 ≤ k → k + wt c ≤ K → K ≤ 1000000000 →
    Calls Try.prog 108 #[.agg #[.int .i64 h.op, .string h.nm, .string h.so, .slice h.k.a h.k.n h.k.c, .slice h.a h.n h.c], .int .i64 k, .func (.func F) #[] caps] w fun e w' => e = .returned (.tuple #[]) ∧ Ch w w' lo hi ∧ ArCP (Nw lo hi w.heap.size w'.heap.size) w' (wkC f k c) h.k h.a h.n h.c
theorem kin_le (o k : Int) : k ≤ kin o k ∧ kin o k ≤ k + 1 := by unfold kin; split <;> omega
set_option maxRecDepth 100000 in
set_option maxHeartbeats 8000000 in
theorem vs_step (F : Nat) (caps : Array Value) (hE : ∀ (args : Array Value) (w : World), (callFunc F args).run Try.prog w = .ok (.enter F args) w) (f : Fn) (K : Int) (B0 : Nat) (w0 : World) (hF : ClosOk F caps f K B0 w0) (t : Cl) (hok : ∀ x ∈ subC t, VsOk F caps f K B0 w0 x) : VsOk F caps f K B0 w0 t := by
  intro h lo hi w k hFr hhi hB hb hk0 hkK hKm
  obtain ⟨W1, hW1, hB1, hs1, S1⟩ := cbox1 w h.op h.nm h.so h.k h.a h.n h.c
  have hwt := wt_mk t
  have hwp := wts_len (subC t)
  have hfr : ∃ mid, lo ≤ mid ∧ mid ≤ hi ∧ FrK w (tsC t) lo mid h.k ∧ (h.n = (subC t).length ∧ h.n ≤ h.c ∧ h.c ≤ maxLen ∧ (h.a = none → h.c = 0)) ∧ (0 < h.n → ∃ g hs, h.a = some ⟨g, 0, none⟩ ∧ mid ≤ g ∧ RowC w g hs ∧ FrCL w (subC t) (g + 1) hi hs) := by
    cases t with
    | mk o s z ts l =>
      rw [FrC] at hFr
      obtain ⟨_, mid, h1, h2, h3, h4⟩ := hFr
      exact ⟨mid, h1.le, h3, h1, h2, h4⟩
  obtain ⟨eo, en, es⟩ := FrC.hd hFr
  rw [eo] at hW1 S1 ⊢
  obtain ⟨mid, hlm, hmh, hTs, ⟨hn, hc1, hc2, hc3⟩, hg⟩ := hfr
  have hkm : h.k.n ≤ 9223372036854775807 := by have := hTs.ks (Nat.le_refl _); have h2 := this.2.2.1; have h3 := this.2.1; unfold maxLen at h2; omega
  have hnm : h.n ≤ 9223372036854775807 := by unfold maxLen at hc2; omega
  have cT := vt_any F caps hE f K B0 w0 hF (tsC t) h.k lo mid W1 k (hTs.same (fun b u v => hB1.block b (by omega))) (by omega) hB (hb.trans (hB1.mono (by have := hb.size; omega))) hk0 (by omega)
  obtain ⟨ka1, ka2⟩ := kin_le (opC t) k
  have HQ := Lib.hid (show ∀ w2, Ch W1 w2 lo mid → Below B0 w0 w2 ∧ (0 < h.n → ∃ g, h.a = some ⟨g, 0, none⟩ ∧ mid ≤ g ∧ g < hi ∧ g < w2.heap.size ∧ VCI f (kin (opC t) k) w2 w2 g mid hi (subC t) h.n 0) from fun w2 c2 => by
    refine ⟨(hb.trans (hB1.mono (by have := hb.size; omega))).trans (c2.1.mono hB), fun h0 => ?_⟩
    obtain ⟨g, hs, e, hg1, hrow, hL⟩ := hg h0
    have hl1 := hrow.lt
    have hl2 := hL.le
    have q := c2.1.size
    exact ⟨g, e, hg1, by omega, by omega, Ch.refl _ _ _, hs, g + 1, by rw [hL.len, hn], hrow.of_block ((c2.out (by omega) (Or.inr (by omega))).trans (hB1.block g hl1)), Nat.le_refl _, by omega, by rw [List.drop_zero, List.drop_zero]; exact FrCL.same _ (fun b u v => (c2.out (by omega) (Or.inr (by omega))).trans (hB1.block b (by omega))) hL, fun j x h hj => absurd hj (by omega)⟩)
  have HFin := Lib.hid (show ∀ w2 wr, Ch W1 w2 lo mid → ArP (Nw lo mid W1.heap.size w2.heap.size) w2 (.mk 0 ⟨#[]⟩ 0 (wks f k (tsC t))) h.k.a h.k.n h.k.c → Ch w2 wr mid hi → (0 < h.n → ∃ g, h.a = some ⟨g, 0, none⟩ ∧ mid ≤ g ∧ g < hi ∧ RwCP (Nw mid hi w2.heap.size wr.heap.size) wr g 0 (wkCs f (kin (opC t) k) (subC t))) → Ch w wr lo hi ∧ ArCP (Nw lo hi w.heap.size wr.heap.size) wr (wkC f k t) h.k h.a h.n h.c from fun w2 wr c2 hA c3 hR => by
    have q2 := c2.1.size
    have q3 := c3.1.size
    refine ⟨((Ch.of_below hB1 (by omega)).trans c2 (Nat.le_refl _) hmh).trans c3 hlm (Nat.le_refl _), ?_⟩
    rw [wkC_mk, ArCP]
    refine ⟨ArP.to (fun b hb => c3.out (by unfold Nw at hb; omega) (by unfold Nw at hb; omega)) (fun b hb => by unfold Nw at hb ⊢; omega) _ hA, by rw [wkCs_map, List.length_map]; exact hn, hc1, hc2, hc3, fun h0 => ?_⟩
    obtain ⟨g, e, hg1, hg2, hr⟩ := hR h0
    have hq : ∀ b, Nw mid hi w2.heap.size wr.heap.size b → Nw lo hi w.heap.size wr.heap.size b := fun b hb => by unfold Nw at hb ⊢; omega
    exact ⟨g, 0, e, Or.inl ⟨by omega, hg2⟩, RwCP.to (fun _ _ => rfl) hq (Or.inl ⟨hg1, hg2⟩) _ hr⟩)
  have HK := Lib.hid (show ∀ i x, (subC t)[i]? = some x → VsOk F caps f K B0 w0 x ∧ kin (opC t) k + wt x ≤ K from fun i x hx => ⟨hok x (List.mem_of_getElem? hx), by have := wts_mem (List.mem_of_getElem? hx); omega⟩)
  have HS := Lib.hid S1
  have Hn := Lib.hid hn
  have HB := Lib.hid hB
  have Hk0 := Lib.hid (show 0 ≤ kin (opC t) k by omega)
  have HKm := Lib.hid hKm
  have hsz1 : hi ≤ W1.heap.size := by omega
  have hwlt : w.heap.size < W1.heap.size := by omega
  have hmw : mid ≤ w.heap.size := by omega
  have hwrap : IntKind.i64.wrap (k + 1) = k + 1 := by rw [IntKind.wrap_i64]; omega
  obtain ⟨s0, s1, s2, s3, s4⟩ := S1.five
  clear hFr hok S1 hn hs1 hg hc2 hc3 hTs hF hwt hwp ka1 ka2 hkK hKm hk0 eo en es
  generalize hk2e : kin (opC t) k = k2 at *
  have Hk2 := Lib.hid hk2e
  clear hk2e
  generalize tsC t = lt at *
  generalize subC t = l at *
  generalize opC t = op at *
  generalize h.nm = nm at *
  generalize h.so = so at *
  generalize h.k = kk at *
  generalize h.a = a at *
  generalize h.n = n at *
  generalize h.c = c at *
  obtain ⟨ka, kn, kc⟩ := kk
  dsimp only at *
  by_cases h1 : op = 11
  · subst h1
    obtain rfl : k2 = k + 1 := by have := Hk2.out; unfold kin at this; simp at this; exact this.symm
    go_enter Try.func108, Try.ntmps108
    go_wp2_with (go_at_call 117; ((with_reducible refine cT.mono ?_); rintro e w2 ⟨rfl, c2, hA2⟩; have HA2 := Lib.hid hA2; have HC2 := Lib.hid c2; have S2 : CBox w2 w.heap.size 11 nm so ⟨ka, kn, kc⟩ a n c := (c2.2 w.heap.size hmw hwlt).trans HS.out; obtain ⟨e0, e1, e2, e3, e4⟩ := S2.five; have HQ2 := Lib.hid (HQ.out w2 c2); clear hA2 c2))
    have hb2 := HQ2.out.1
    have Hb2 := Lib.hid hb2
    have HP0 := Lib.hid HQ2.out.2
    have hz2 : W1.heap.size ≤ w2.heap.size := HC2.out.1.size
    clear hb2 HQ HQ2
    have HC0 : Hid (Ch w2 w2 mid hi) := Lib.hid (Ch.refl _ _ _)
    go_loopw [26] (fun i wr0 => ∃ (wr : World) (j : Nat), wr = wr0 ∧ j ≤ n ∧ i = .int .i64 j ∧ Hid (Ch w2 wr mid hi) ∧ Hid (0 < n → ∃ g, a = some ⟨g, 0, none⟩ ∧ mid ≤ g ∧ g < hi ∧ g < w2.heap.size ∧ VCI f (k + 1) w2 wr g mid hi l n j)) (fun i _ => n - (intOf i).toNat)
    case atStart => exact ⟨_, 0, rfl, by omega, rfl, HC0, HP0⟩
    case round =>
      obtain ⟨wr, i, rfl, hi0, rfl, hAt, hR⟩ := hrel
      by_cases hlt : i < n
      · obtain ⟨g, rfl, hmg, hgh, hgw, hV⟩ := hR.out (by omega)
        obtain ⟨x, hx, m, m', hxl, hFx, hgm, hm2, ⟨y0, y1, y2, y3, y4⟩, hNext⟩ := hV.next Hn.out.symm hlt hmg hgw (by omega)
        obtain ⟨W4, hW4, hB4, hs4, S4⟩ := cbox1 wr hx.op hx.nm hx.so hx.k hx.a hx.n hx.c
        obtain ⟨f0, f1, f2, f3, f4⟩ := S4.five
        obtain ⟨cK, hkx⟩ := HK.out i x hxl
        have cV := cK hx m m' W4 (k + 1) (FrC.same _ (fun b u v => hB4.block b (by omega)) hFx) (by omega) (by have := HB.out; omega) ((Hb2.out.trans (hAt.out.1.mono (by have := HB.out; omega))).trans (hB4.mono (by have := HB.out; have := hAt.out.1.size; omega))) Hk0.out hkx HKm.out
        have HNx := Lib.hid (fun w5 => hNext W4 w5 hB4)
        clear hxl hFx hNext hV hR cK hkx HK HP0 S4
        generalize hx.op = op' at *
        generalize hx.nm = nm' at *
        generalize hx.so = so' at *
        generalize hx.k = k' at *
        generalize hx.a = A' at *
        generalize hx.n = N' at *
        generalize hx.c = C' at *
        obtain ⟨ka', kn', kc'⟩ := k'
        dsimp only at *
        have hj0 : 0 ≤ (i : Int) := by omega
        have hj1 : (i : Int) < (n : Int) := by omega
        have := hwrap
        go_wp2_with (go_at_call 108; ((with_reducible refine cV.mono ?_); rintro e w5 ⟨rfl, c5, hA5⟩; have HN5 := Lib.hid (HNx.out w5 c5 hA5); clear hA5 c5))
        go_roundw
        case rel => exact ⟨_, i + 1, rfl, by omega, by go_num, Lib.hid HN5.out.1, Lib.hid (fun _ => ⟨g, rfl, hmg, hgh, hgw, HN5.out⟩)⟩
        case measure => simp [intOf]; omega
      · obtain rfl : i = n := by omega
        have Hfin := Lib.hid (HFin.out w2 wr HC2.out HA2.out hAt.out (fun h0 => by
          obtain ⟨g, e, h1, h2, h3, h4⟩ := hR.out h0
          exact ⟨g, e, h1, h2, (h4.done Hn.out.symm h1 h2).2⟩))
        clear hR hAt
        go_wp2
        simp [bodyPost, results, Try.results108, go_sem]
        exact Hfin.out
  · by_cases h2 : op = 12
    · subst h2
      obtain rfl : k2 = k + 1 := by have := Hk2.out; unfold kin at this; simp at this; exact this.symm
      go_enter Try.func108, Try.ntmps108
      go_wp2_with (go_at_call 117; ((with_reducible refine cT.mono ?_); rintro e w2 ⟨rfl, c2, hA2⟩; have HA2 := Lib.hid hA2; have HC2 := Lib.hid c2; have S2 : CBox w2 w.heap.size 12 nm so ⟨ka, kn, kc⟩ a n c := (c2.2 w.heap.size hmw hwlt).trans HS.out; obtain ⟨e0, e1, e2, e3, e4⟩ := S2.five; have HQ2 := Lib.hid (HQ.out w2 c2); clear hA2 c2))
      have hb2 := HQ2.out.1
      have Hb2 := Lib.hid hb2
      have HP0 := Lib.hid HQ2.out.2
      have hz2 : W1.heap.size ≤ w2.heap.size := HC2.out.1.size
      clear hb2 HQ HQ2
      have HC0 : Hid (Ch w2 w2 mid hi) := Lib.hid (Ch.refl _ _ _)
      go_loopw [26] (fun i wr0 => ∃ (wr : World) (j : Nat), wr = wr0 ∧ j ≤ n ∧ i = .int .i64 j ∧ Hid (Ch w2 wr mid hi) ∧ Hid (0 < n → ∃ g, a = some ⟨g, 0, none⟩ ∧ mid ≤ g ∧ g < hi ∧ g < w2.heap.size ∧ VCI f (k + 1) w2 wr g mid hi l n j)) (fun i _ => n - (intOf i).toNat)
      case atStart => exact ⟨_, 0, rfl, by omega, rfl, HC0, HP0⟩
      case round =>
        obtain ⟨wr, i, rfl, hi0, rfl, hAt, hR⟩ := hrel
        by_cases hlt : i < n
        · obtain ⟨g, rfl, hmg, hgh, hgw, hV⟩ := hR.out (by omega)
          obtain ⟨x, hx, m, m', hxl, hFx, hgm, hm2, ⟨y0, y1, y2, y3, y4⟩, hNext⟩ := hV.next Hn.out.symm hlt hmg hgw (by omega)
          obtain ⟨W4, hW4, hB4, hs4, S4⟩ := cbox1 wr hx.op hx.nm hx.so hx.k hx.a hx.n hx.c
          obtain ⟨f0, f1, f2, f3, f4⟩ := S4.five
          obtain ⟨cK, hkx⟩ := HK.out i x hxl
          have cV := cK hx m m' W4 (k + 1) (FrC.same _ (fun b u v => hB4.block b (by omega)) hFx) (by omega) (by have := HB.out; omega) ((Hb2.out.trans (hAt.out.1.mono (by have := HB.out; omega))).trans (hB4.mono (by have := HB.out; have := hAt.out.1.size; omega))) Hk0.out hkx HKm.out
          have HNx := Lib.hid (fun w5 => hNext W4 w5 hB4)
          clear hxl hFx hNext hV hR cK hkx HK HP0 S4
          generalize hx.op = op' at *
          generalize hx.nm = nm' at *
          generalize hx.so = so' at *
          generalize hx.k = k' at *
          generalize hx.a = A' at *
          generalize hx.n = N' at *
          generalize hx.c = C' at *
          obtain ⟨ka', kn', kc'⟩ := k'
          dsimp only at *
          have hj0 : 0 ≤ (i : Int) := by omega
          have hj1 : (i : Int) < (n : Int) := by omega
          have := hwrap
          go_wp2_with (go_at_call 108; ((with_reducible refine cV.mono ?_); rintro e w5 ⟨rfl, c5, hA5⟩; have HN5 := Lib.hid (HNx.out w5 c5 hA5); clear hA5 c5))
          go_roundw
          case rel => exact ⟨_, i + 1, rfl, by omega, by go_num, Lib.hid HN5.out.1, Lib.hid (fun _ => ⟨g, rfl, hmg, hgh, hgw, HN5.out⟩)⟩
          case measure => simp [intOf]; omega
        · obtain rfl : i = n := by omega
          have Hfin := Lib.hid (HFin.out w2 wr HC2.out HA2.out hAt.out (fun h0 => by
            obtain ⟨g, e, h1, h2, h3, h4⟩ := hR.out h0
            exact ⟨g, e, h1, h2, (h4.done Hn.out.symm h1 h2).2⟩))
          clear hR hAt
          go_wp2
          simp [bodyPost, results, Try.results108, go_sem]
          exact Hfin.out
    · obtain rfl : k2 = k := by have := Hk2.out; unfold kin at this; rw [if_neg (by omega)] at this; exact this.symm
      have o1 : (op == 11) = false := by simp [h1]
      have o2 : (op == 12) = false := by simp [h2]
      clear h1 h2
      go_enter Try.func108, Try.ntmps108
      go_wp2_with (go_at_call 117; ((with_reducible refine cT.mono ?_); rintro e w2 ⟨rfl, c2, hA2⟩; have HA2 := Lib.hid hA2; have HC2 := Lib.hid c2; have S2 : CBox w2 w.heap.size op nm so ⟨ka, kn, kc⟩ a n c := (c2.2 w.heap.size hmw hwlt).trans HS.out; obtain ⟨e0, e1, e2, e3, e4⟩ := S2.five; have HQ2 := Lib.hid (HQ.out w2 c2); clear hA2 c2))
      have hb2 := HQ2.out.1
      have Hb2 := Lib.hid hb2
      have HP0 := Lib.hid HQ2.out.2
      have hz2 : W1.heap.size ≤ w2.heap.size := HC2.out.1.size
      clear hb2 HQ HQ2
      have HC0 : Hid (Ch w2 w2 mid hi) := Lib.hid (Ch.refl _ _ _)
      go_loopw [26] (fun i wr0 => ∃ (wr : World) (j : Nat), wr = wr0 ∧ j ≤ n ∧ i = .int .i64 j ∧ Hid (Ch w2 wr mid hi) ∧ Hid (0 < n → ∃ g, a = some ⟨g, 0, none⟩ ∧ mid ≤ g ∧ g < hi ∧ g < w2.heap.size ∧ VCI f k2 w2 wr g mid hi l n j)) (fun i _ => n - (intOf i).toNat)
      case atStart => exact ⟨_, 0, rfl, by omega, rfl, HC0, HP0⟩
      case round =>
        obtain ⟨wr, i, rfl, hi0, rfl, hAt, hR⟩ := hrel
        by_cases hlt : i < n
        · obtain ⟨g, rfl, hmg, hgh, hgw, hV⟩ := hR.out (by omega)
          obtain ⟨x, hx, m, m', hxl, hFx, hgm, hm2, ⟨y0, y1, y2, y3, y4⟩, hNext⟩ := hV.next Hn.out.symm hlt hmg hgw (by omega)
          obtain ⟨W4, hW4, hB4, hs4, S4⟩ := cbox1 wr hx.op hx.nm hx.so hx.k hx.a hx.n hx.c
          obtain ⟨f0, f1, f2, f3, f4⟩ := S4.five
          obtain ⟨cK, hkx⟩ := HK.out i x hxl
          have cV := cK hx m m' W4 k2 (FrC.same _ (fun b u v => hB4.block b (by omega)) hFx) (by omega) (by have := HB.out; omega) ((Hb2.out.trans (hAt.out.1.mono (by have := HB.out; omega))).trans (hB4.mono (by have := HB.out; have := hAt.out.1.size; omega))) Hk0.out hkx HKm.out
          have HNx := Lib.hid (fun w5 => hNext W4 w5 hB4)
          clear hxl hFx hNext hV hR cK hkx HK HP0 S4
          generalize hx.op = op' at *
          generalize hx.nm = nm' at *
          generalize hx.so = so' at *
          generalize hx.k = k' at *
          generalize hx.a = A' at *
          generalize hx.n = N' at *
          generalize hx.c = C' at *
          obtain ⟨ka', kn', kc'⟩ := k'
          dsimp only at *
          have hj0 : 0 ≤ (i : Int) := by omega
          have hj1 : (i : Int) < (n : Int) := by omega
          have := hwrap
          go_wp2_with (go_at_call 108; ((with_reducible refine cV.mono ?_); rintro e w5 ⟨rfl, c5, hA5⟩; have HN5 := Lib.hid (HNx.out w5 c5 hA5); clear hA5 c5))
          go_roundw
          case rel => exact ⟨_, i + 1, rfl, by omega, by go_num, Lib.hid HN5.out.1, Lib.hid (fun _ => ⟨g, rfl, hmg, hgh, hgw, HN5.out⟩)⟩
          case measure => simp [intOf]; omega
        · obtain rfl : i = n := by omega
          have Hfin := Lib.hid (HFin.out w2 wr HC2.out HA2.out hAt.out (fun h0 => by
            obtain ⟨g, e, h1, h2, h3, h4⟩ := hR.out h0
            exact ⟨g, e, h1, h2, (h4.done Hn.out.symm h1 h2).2⟩))
          clear hR hAt
          go_wp2
          simp [bodyPost, results, Try.results108, go_sem]
          exact Hfin.out
theorem vs_any (F : Nat) (caps : Array Value) (hE : ∀ (args : Array Value) (w : World), (callFunc F args).run Try.prog w = .ok (.enter F args) w) (f : Fn) (K : Int) (B0 : Nat) (w0 : World) (hF : ClosOk F caps f K B0 w0) (t : Cl) : VsOk F caps f K B0 w0 t := Cl.ind (vs_step F caps hE f K B0 w0 hF) t
end Go.Proofs.Yteidknjhponpkaa.B
namespace Go.Proofs.Yteidknjhponpkaa.B
open Go.RowKit L T C
set_option linter.unusedVariables false
set_option linter.unusedSimpArgs false

theorem row_nu {w : World} {g : Nat} {hs : List Hd} (hr : Row w g hs) (k : Nat) (x : Int) (h : Hd) (hk : hs[k]? = some h) : Row (w.setCell ⟨g, k * 4 + 2, none⟩ (.int .i64 x)) g (hs.set k (nuw h x)) := by
  obtain ⟨hk, rfl⟩ := List.getElem?_eq_some_iff.1 hk
  obtain ⟨cur, hg, hl, ht⟩ := hr
  refine ⟨cur.setIfInBounds (k * 4 + 2) (.int .i64 x), heap_setCell_same _ _ _ _ _ _ hg, by simp; omega, flat_ext (by simp; omega) fun i hi j hj => ?_⟩
  rw [List.length_set] at hi
  rw [Array.getElem?_toList, Array.getElem?_setIfInBounds]
  by_cases e : k * 4 + 2 = i * 4 + j
  · obtain rfl : i = k := by omega
    obtain rfl : j = 2 := by omega
    rw [if_pos e, if_pos (by omega)]
    simp [nuw, Hd.cells]
  · rw [if_neg e, ← Array.getElem?_toList, ← List.getElem?_take_of_lt (show i * 4 + j < hs.length * 4 by omega), ht, flat_get hs i j hi hj]
    by_cases e2 : i = k
    · subst e2
      have hc : j = 0 ∨ j = 1 ∨ j = 3 := by omega
      rcases hc with rfl | rfl | rfl <;> simp [nuw, Hd.cells]
    · rw [List.getElem_set_ne (fun x => e2 x.symm)]
theorem set_same {hs : List Hd} {i : Nat} {h : Hd} (hk : hs[i]? = some h) : hs.set i (nuw h h.nu) = hs := by
  obtain ⟨hk, rfl⟩ := List.getElem?_eq_some_iff.1 hk
  have : nuw hs[i] hs[i].nu = hs[i] := rfl
  rw [this, List.set_getElem_self]
def isLs (o k z : Int) : Bool := decide (o = 2 ∧ k ≤ z)
def lsV (o k z : Int) : Int := if o = 2 ∧ k ≤ z then wrap64 (z - k) else 0
set_option maxHeartbeats 1000000 in
theorem loose_any (o : Int) (s : ByteArray) (z : Int) (a : Option Addr) (n c : Nat) (k : Int) (w : World) :
    Calls Try.prog 92 #[.agg #[.int .i64 o, .string s, .int .i64 z, .slice a n c], .int .i64 k] w fun e w' => e = .returned (.tuple #[.int .i64 (lsV o k z), .bool (isLs o k z)]) ∧ Below w.heap.size w w' := by
  obtain ⟨W1, hW1, hB1, hs1, S1⟩ := box1 w o s z a n c
  obtain ⟨s0, s1, s2, s3⟩ := S1.four
  clear S1 hs1
  by_cases h : o = 2 ∧ k ≤ z
  · have e1 : lsV o k z = wrap64 (z - k) := by unfold lsV; rw [if_pos h]
    have e2 : isLs o k z = true := by unfold isLs; simp [h]
    rw [e1, e2]
    obtain ⟨rfl, hkz⟩ := h
    have q1 : ¬ z < k := by omega
    clear e1 e2
    go_enter Try.func92, Try.ntmps92
    go_wp2
    go_ret2
    exact ⟨rfl, hB1⟩
  · have e1 : lsV o k z = 0 := by unfold lsV; rw [if_neg h]
    have e2 : isLs o k z = false := by unfold isLs; simp [h]
    rw [e1, e2]
    clear e1 e2
    by_cases ho : o = 2
    · subst ho
      have q1 : z < k := by omega
      clear h
      go_enter Try.func92, Try.ntmps92
      go_wp2
      go_ret2
      exact ⟨rfl, hB1⟩
    · have q1 : (o == 2) = false := by simp [ho]
      have q2 : (o != 2) = true := by simp [ho]
      clear h ho
      go_enter Try.func92, Try.ntmps92
      go_wp2
      go_ret2
      exact ⟨rfl, hB1⟩
end Go.Proofs.Yteidknjhponpkaa.B
namespace Go.Proofs.Yteidknjhponpkaa.B
open Go.RowKit L T C
set_option linter.unusedVariables false
set_option linter.unusedSimpArgs false

/-- the part stays as it is -/
theorem node_same {f : Fn} {k : Int} {w w' : World} {g : Nat} {hs : List Hd} {i : Nat} {h : Hd} (hr : Row w g hs) (hi : hs[i]? = some h) (hb : Below w.heap.size w w') (hf : f k h.op h.nm h.nu = .go h.nu) : NodeOk f k w g hs i h (.returned (.bool true)) w' := by
  have := hr.lt
  refine ⟨Ch.of_below hb (by omega), Or.inl ⟨h.nu, hf, rfl, ?_⟩⟩
  rw [set_same hi]
  exact hr.of_block (hb.block g this)
/-- its number is stored -/
theorem node_nu {f : Fn} {k : Int} {w w' : World} {g : Nat} {hs : List Hd} {i : Nat} {h : Hd} (hr : Row w g hs) (hi : hs[i]? = some h) (hb : Below w.heap.size w w') (z : Int) (hf : f k h.op h.nm h.nu = .go z) : NodeOk f k w g hs i h (.returned (.bool true)) (w'.setCell ⟨g, i * 4 + 2, none⟩ (.int .i64 z)) := by
  have hg := hr.lt
  have c := Ch.of_below (lo := g) (hi := g + 1) hb (by omega)
  have hr' := hr.of_block (hb.block g hg)
  refine ⟨⟨below_set c.1 (Nat.le_refl _) _ _, fun b h1 h2 => (heap_setCell_other w' ⟨g, i * 4 + 2, none⟩ b _ (by show b ≠ g; omega)).trans (c.2 b h1 h2)⟩, Or.inl ⟨z, hf, rfl, row_nu hr' i z h hi⟩⟩
/-- the cells of a part -/
theorem row_four {w : World} {g : Nat} {hs : List Hd} {i : Nat} {h : Hd} (hr : Row w g hs) (hi : hs[i]? = some h) :
    (w.cell? ⟨g, i * 4, none⟩ = some (.int .i64 h.op) ∧ w.cell? ⟨g, i * 4 + 1, none⟩ = some (.string h.nm) ∧ w.cell? ⟨g, i * 4 + 2, none⟩ = some (.int .i64 h.nu) ∧ w.cell? ⟨g, i * 4 + 3, none⟩ = some (.slice h.a h.n h.c)) ∧ (w.frozen? ⟨g, i * 4, none⟩ = false ∧ w.frozen? ⟨g, i * 4 + 1, none⟩ = false ∧ w.frozen? ⟨g, i * 4 + 2, none⟩ = false ∧ w.frozen? ⟨g, i * 4 + 3, none⟩ = false) := by
  obtain ⟨hk, rfl⟩ := List.getElem?_eq_some_iff.1 hi
  exact ⟨hr.at hk, hr.free _, hr.free _, hr.free _, hr.free _⟩
set_option maxHeartbeats 1000000 in
theorem lift_clos (by_ fr : Int) (gf gb K : Nat) (B0 : Nat) (w0 : World) (hf : gf < B0) (hb : gb < B0) (cf : w0.cell? ⟨gf, 0, none⟩ = some (.int .i64 fr)) (cb : w0.cell? ⟨gb, 0, none⟩ = some (.int .i64 by_)) (hK : K ≤ 1000000000) :
    ClosOk 91 #[.pointer (some ⟨gf, 0, none⟩), .pointer (some ⟨gb, 0, none⟩)] (fLift by_ fr) K B0 w0 := by
  intro w g hs i h k hB hg hr hi hk0 hk1
  show Calls _ _ #[.pointer (some ⟨g, i * 4, none⟩), .int .i64 k, .pointer (some ⟨gf, 0, none⟩), .pointer (some ⟨gb, 0, none⟩)] _ _
  obtain ⟨⟨c0, c1, c2, c3⟩, f0, f1, f2, f3⟩ := row_four hr hi
  have d1 := (hB.cell (p := ⟨gf, 0, none⟩) hf).trans cf
  have d2 := (hB.cell (p := ⟨gb, 0, none⟩) hb).trans cb
  have hgl := hr.lt
  have hfl : gf < w.heap.size := World.block_lt_of_cell? _ _ d1
  have hbl : gb < w.heap.size := World.block_lt_of_cell? _ _ d2
  have cl := loose_any h.op h.nm h.nu h.a h.n h.c k w
  have HS := Lib.hid (show ∀ w', Below w.heap.size w w' → fLift by_ fr k h.op h.nm h.nu = .go h.nu → NodeOk (fLift by_ fr) k w g hs i h (.returned (.bool true)) w' from fun w' b e => node_same hr hi b e)
  have HN := Lib.hid (show ∀ w' z, Below w.heap.size w w' → fLift by_ fr k h.op h.nm h.nu = .go z → NodeOk (fLift by_ fr) k w g hs i h (.returned (.bool true)) (w'.setCell ⟨g, i * 4 + 2, none⟩ (.int .i64 z)) from fun w' z b e => node_nu hr hi b z e)
  clear hr hi
  generalize h.op = op at *
  generalize h.nm = nm at *
  generalize h.nu = nu at *
  generalize h.a = a at *
  generalize h.n = n at *
  generalize h.c = c at *
  by_cases h1 : op = 2 ∧ k ≤ nu
  · have e1 : lsV op k nu = wrap64 (nu - k) := by unfold lsV; rw [if_pos h1]
    have e2 : isLs op k nu = true := by unfold isLs; simp [h1]
    rw [e1, e2] at cl
    by_cases h2 : fr ≤ wrap64 (nu - k)
    · have e3 := Lib.hid (show fLift by_ fr k op nm nu = .go (wrap64 (max (wrap64 (wrap64 (nu - k) + by_)) 0 + k)) by unfold fLift; rw [if_pos h1, if_pos h2])
      clear e1 e2 h1
      generalize wrap64 (nu - k) = m at *
      have q1 : fr ≤ m := h2
      go_enter Try.func91, Try.ntmps91
      go_wp2_with (go_at_call 92; ((with_reducible refine cl.mono ?_); rintro e w2 ⟨rfl, hb2⟩; have v1 := (hb2.cell (p := ⟨gf, 0, none⟩) hfl).trans d1; have v2 := (hb2.cell (p := ⟨gb, 0, none⟩) hbl).trans d2; have v3 := (hb2.cell (p := ⟨g, i * 4 + 2, none⟩) hgl).trans c2; have v4 := (hb2.frozen (p := ⟨g, i * 4 + 2, none⟩) hgl).trans f2))
      · rename_i hneg
        go_ret
        exact HN.out _ _ hb2 (by have e := e3.out; rw [Int.max_eq_right (by omega), Int.zero_add] at e; exact e)
      · rename_i hneg
        go_ret
        exact HN.out _ _ hb2 (by have e := e3.out; rw [Int.max_eq_left (by omega)] at e; exact e)
    · have e3 := Lib.hid (show fLift by_ fr k op nm nu = .go nu by unfold fLift; rw [if_pos h1, if_neg h2])
      clear e1 e2 h1
      generalize wrap64 (nu - k) = m at *
      have q1 : ¬ fr ≤ m := h2
      go_enter Try.func91, Try.ntmps91
      go_wp2_with (go_at_call 92; ((with_reducible refine cl.mono ?_); rintro e w2 ⟨rfl, hb2⟩; have v1 := (hb2.cell (p := ⟨gf, 0, none⟩) hfl).trans d1))
      go_ret
      exact HS.out _ hb2 e3.out
  · have e1 : lsV op k nu = 0 := by unfold lsV; rw [if_neg h1]
    have e2 : isLs op k nu = false := by unfold isLs; simp [h1]
    rw [e1, e2] at cl
    have e3 := Lib.hid (show fLift by_ fr k op nm nu = .go nu by unfold fLift; rw [if_neg h1])
    clear e1 e2 h1
    go_enter Try.func91, Try.ntmps91
    go_wp2_with (go_at_call 92; ((with_reducible refine cl.mono ?_); rintro e w2 ⟨rfl, hb2⟩))
    go_ret
    exact HS.out _ hb2 e3.out
/-- a term without Args is put in its place -/
theorem node_leaf {f : Fn} {k : Int} {w w' : World} {g : Nat} {hs : List Hd} {i : Nat} {h : Hd} (hr : Row w g hs) (hi : hs[i]? = some h) (hb : Below w.heap.size w w') (o : Int) (s : ByteArray) (z : Int) (hf : f k h.op h.nm h.nu = .leaf o s z) : NodeOk f k w g hs i h (.returned (.bool true)) (set4 w' g i ⟨o, s, z, none, 0, 0⟩) := by
  have hg := hr.lt
  obtain ⟨hk, rfl⟩ := List.getElem?_eq_some_iff.1 hi
  have c := Ch.of_below (lo := g) (hi := g + 1) hb (by omega)
  have hr' := hr.of_block (hb.block g hg)
  exact ⟨⟨set4_below c.1 (Nat.le_refl _) _ _, fun b h1 h2 => (set4_other w' g i b _ (by omega)).trans (c.2 b h1 h2)⟩, Or.inr (Or.inl ⟨o, s, z, hf, rfl, hr'.set i _ hk⟩)⟩
/-- a term in new memory is put in its place -/
theorem node_put {f : Fn} {k : Int} {w w' : World} {g : Nat} {hs : List Hd} {i : Nat} {h : Hd} (hr : Row w g hs) (hi : hs[i]? = some h) (hb : Below w.heap.size w w') (t : Tm) (h' : Hd) (hf : f k h.op h.nm h.nu = .put t) (hh : HdP (Nw 0 0 w.heap.size w'.heap.size) w' h' t) : NodeOk f k w g hs i h (.returned (.bool false)) (set4 w' g i h') := by
  have hg := hr.lt
  obtain ⟨hk, rfl⟩ := List.getElem?_eq_some_iff.1 hi
  have c := Ch.of_below (lo := g) (hi := g + 1) hb (by omega)
  have hr' := hr.of_block (hb.block g hg)
  exact ⟨⟨set4_below c.1 (Nat.le_refl _) _ _, fun b h1 h2 => (set4_other w' g i b _ (by omega)).trans (c.2 b h1 h2)⟩, Or.inr (Or.inr ⟨t, h', hf, rfl, hr'.set i _ hk, hdP_to hh (fun b hb => set4_other w' g i b _ (by unfold Nw at hb; omega)) (fun b hb => by rw [set4_size]; exact hb)⟩)⟩
end Go.Proofs.Yteidknjhponpkaa.B
namespace Go.Proofs.Yteidknjhponpkaa.B
open Go.RowKit L T C
set_option linter.unusedVariables false
set_option linter.unusedSimpArgs false

/-- a claim is returned that reads so, in new memory -/
def RtC (t : Cl) (w : World) (e : Ending) (w' : World) : Prop := ∃ (ka : Option Addr) (kn kc : Nat) (a : Option Addr) (n c : Nat), e = .returned (.agg #[.int .i64 (opC t), .string (nmC t), .string (soC t), .slice ka kn kc, .slice a n c]) ∧ ArCP (Nw 0 0 w.heap.size w'.heap.size) w' t ⟨ka, kn, kc⟩ a n c ∧ Below w.heap.size w w'
theorem NewC.five {t : Cl} {w w' : World} {e : Ending} (h : NewC t w e w') : ∃ (ka : Option Addr) (kn kc : Nat) (a : Option Addr) (n c : Nat), e = .returned (.agg #[.int .i64 (opC t), .string (nmC t), .string (soC t), .slice ka kn kc, .slice a n c]) ∧ FrC w' t w.heap.size w'.heap.size ⟨opC t, nmC t, soC t, ⟨ka, kn, kc⟩, a, n, c⟩ ∧ Below w.heap.size w w' := by
  obtain ⟨⟨o, s, z, ⟨K0, K1, K2⟩, A, N, C⟩, e1, hf, hb⟩ := h
  obtain ⟨q1, q2, q3⟩ := FrC.hd hf
  dsimp only at q1 q2 q3 e1
  subst q1 q2 q3
  exact ⟨K0, K1, K2, A, N, C, e1, hf, hb⟩
set_option maxRecDepth 100000 in
set_option maxHeartbeats 4000000 in
theorem changed_any (F : Nat) (caps : Array Value) (hE : ∀ (args : Array Value) (w : World), (callFunc F args).run Try.prog w = .ok (.enter F args) w) (f : Fn) (t : Cl) (k : SS) (a : Option Addr) (n c : Nat) (w : World) (hF : ClosOk F caps f (1000000 : Nat) w.heap.size w) (hsz : wt t ≤ 1000000) (hA : ArWC w t k a n c) :
    Calls Try.prog 90 #[.agg #[.int .i64 (opC t), .string (nmC t), .string (soC t), .slice k.a k.n k.c, .slice a n c], .func (.func F) #[] caps] w fun e w' => RtC (wkC f 0 t) w e w' := by
  obtain ⟨W2, hW2, hB2, hs2, S2, R2⟩ := cbox2 w (opC t) (nmC t) (soC t) k a n c 0 ⟨#[]⟩ ⟨#[]⟩ SS.nil none 0 0
  dsimp only [SS.nil] at hW2
  have cC := (CopyC_any t k a n c W2 hsz (ArWC.b hA hB2)).mono (fun e w1 h => NewC.five h)
  have HV := Lib.hid (show ∀ (h : Hc) (w3 w4 : World), FrC w3 t W2.heap.size w3.heap.size h → Below W2.heap.size W2 w3 → Below w.heap.size w w4 → w4.heap.size = w3.heap.size → (∀ b, W2.heap.size ≤ b → w4.heap[b]? = w3.heap[b]?) →
      Calls Try.prog 108 #[.agg #[.int .i64 h.op, .string h.nm, .string h.so, .slice h.k.a h.k.n h.k.c, .slice h.a h.n h.c], .int .i64 0, .func (.func F) #[] caps] w4 fun e w' => e = .returned (.tuple #[]) ∧ Ch w4 w' W2.heap.size w3.heap.size ∧ ArCP (Nw W2.heap.size w3.heap.size w4.heap.size w'.heap.size) w' (wkC f 0 t) h.k h.a h.n h.c from fun h w3 w4 hf b3 b4 hs hb =>
    vs_any F caps hE f (1000000 : Nat) w.heap.size w hF t h W2.heap.size w3.heap.size w4 0 (FrC.same t (fun b u v => hb b u) hf) (by omega) hB2.size b4 (Int.le_refl _) (by omega) (by omega))
  have HFin := Lib.hid (show ∀ (w3 w4 w5 w6 : World) (K0 : Option Addr) (K1 K2 : Nat) (A : Option Addr) (N C : Nat), w4.heap.size = w3.heap.size → w.heap.size + 2 ≤ w3.heap.size → ArCP (Nw W2.heap.size w3.heap.size w4.heap.size w5.heap.size) w5 (wkC f 0 t) ⟨K0, K1, K2⟩ A N C → Ch w4 w5 W2.heap.size w3.heap.size → w6.heap.size = w5.heap.size → (∀ b, w.heap.size + 2 ≤ b → w6.heap[b]? = w5.heap[b]?) → Below w.heap.size w w6 → RtC (wkC f 0 t) w (.returned (.agg #[.int .i64 (opC t), .string (nmC t), .string (soC t), .slice K0 K1 K2, .slice A N C])) w6 from fun w3 w4 w5 w6 K0 K1 K2 A N C e1 e2 hA c5 e3 e4 b6 => by
    have q := c5.1.size
    refine ⟨K0, K1, K2, A, N, C, by rw [wkC_mk]; rfl, ArCP.to (fun b hb => e4 b (by unfold Nw at hb; omega)) (fun b hb => by unfold Nw at hb ⊢; omega) _ hA, b6⟩)
  have HS := Lib.hid S2
  have HR := Lib.hid R2
  obtain ⟨s0, s1, s2, s3, s4⟩ := S2.five
  obtain ⟨ka, kn, kc⟩ := k
  dsimp only at *
  clear hA S2 R2 hF
  generalize hr : wkC f 0 t = r at *
  have Hr := Lib.hid hr
  clear hr
  generalize opC t = op at *
  generalize nmC t = nm at *
  generalize soC t = so at *
  go_enter Try.func90, Try.ntmps90
  go_wp2_with (first
    | (go_at_call 107; ((with_reducible refine cC.mono ?_); rintro e w3 ⟨K0, K1, K2, A, N, C, rfl, hFr, hb3⟩; have S3 := CBox.b HS.out hb3; have R3 := CBox.b HR.out hb3; obtain ⟨u0, u1, u2, u3, u4⟩ := S3.five; obtain ⟨p0, p1, p2, p3, p4⟩ := S3.free; have S4 := CBox.put S3 op nm so ⟨K0, K1, K2⟩ A N C; have hs3 : w.heap.size + 2 ≤ w3.heap.size := (by have := hb3.size; omega); have B4 := put5_below (bel_trans hB2 hb3) (Nat.le_refl w.heap.size) (.int .i64 op) (.string nm) (.string so) (.slice K0 K1 K2) (.slice A N C); have Z4 := put5_size w3 w.heap.size (.int .i64 op) (.string nm) (.string so) (.slice K0 K1 K2) (.slice A N C); have O4 := fun b (hb : b ≠ w.heap.size) => put5_other w3 w.heap.size b (.int .i64 op) (.string nm) (.string so) (.slice K0 K1 K2) (.slice A N C) hb; have R4 : CBox (put5 w3 w.heap.size (.int .i64 op) (.string nm) (.string so) (.slice K0 K1 K2) (.slice A N C)) (w.heap.size + 1) 0 ⟨#[]⟩ ⟨#[]⟩ SS.nil none 0 0 := (O4 (w.heap.size + 1) (by omega)).trans R3; obtain ⟨W4, hW4⟩ : ∃ W4, put5 w3 w.heap.size (.int .i64 op) (.string nm) (.string so) (.slice K0 K1 K2) (.slice A N C) = W4 := ⟨_, rfl⟩; rw [hW4] at S4 R4 B4 Z4 O4; unfold put5 at hW4; obtain ⟨v0, v1, v2, v3, v4⟩ := S4.five; have cV := HV.out ⟨op, nm, so, ⟨K0, K1, K2⟩, A, N, C⟩ w3 W4 hFr hb3 B4 Z4 (fun b hb => O4 b (by omega)); have HS4 := Lib.hid S4; have HR4 := Lib.hid R4; have HZ4 := Lib.hid Z4; clear S3 R3 S4 R4 O4 Z4 hFr))
    | (go_at_call 108; ((with_reducible refine cV.mono ?_); rintro e w5 ⟨rfl, c5, hA5⟩; have HA5 := Lib.hid hA5; have HC5 := Lib.hid c5; have S5 : CBox w5 w.heap.size op nm so ⟨K0, K1, K2⟩ A N C := (c5.out (by have := HZ4.out; omega) (Or.inl (by omega))).trans HS4.out; have R5 : CBox w5 (w.heap.size + 1) 0 ⟨#[]⟩ ⟨#[]⟩ SS.nil none 0 0 := (c5.out (by have := HZ4.out; omega) (Or.inl (by omega))).trans HR4.out; obtain ⟨y0, y1, y2, y3, y4⟩ := S5.five; obtain ⟨r0, r1, r2, r3, r4⟩ := R5.free; obtain ⟨t0, t1, t2, t3, t4⟩ := R5.five; have F5 := CBox.put R5 op nm so ⟨K0, K1, K2⟩ A N C; unfold put5 at F5; obtain ⟨x0, x1, x2, x3, x4⟩ := F5.five; have B5 : Below w.heap.size w w5 := B4.trans (c5.1.mono (by omega)); clear hA5 c5 S5 R5 F5)))
  simp [bodyPost, results, Try.results90, go_sem, x0, x1, x2, x3, x4]
  refine HFin.out w3 W4 w5 _ K0 K1 K2 A N C HZ4.out hs3 HA5.out HC5.out ?_ (fun b hb => ?_) ?_
  · exact put5_size _ _ _ _ _ _ _
  · exact put5_other _ (w.heap.size + 1) b _ _ _ _ _ (by omega)
  · exact put5_below B5 (by omega) _ _ _ _ _
end Go.Proofs.Yteidknjhponpkaa.B
namespace Go.Proofs.Yteidknjhponpkaa.B
open Go.RowKit L T C
set_option linter.unusedVariables false
set_option linter.unusedSimpArgs false

theorem rtC_put {t : Cl} {w W w' : World} {e : Ending} {g : Nat} (h : RtC t W e w') (hW : Below w.heap.size w W) (hg : w.heap.size ≤ g) (hgW : g < W.heap.size) (v0 v1 v2 v3 v4 : Value) : RtC t w e (put5 w' g v0 v1 v2 v3 v4) := by
  obtain ⟨ka, kn, kc, a, n, c, e1, hA, hb⟩ := h
  have := hW.size
  refine ⟨ka, kn, kc, a, n, c, e1, ArCP.to (fun b hb => put5_other w' g b _ _ _ _ _ (by unfold Nw at hb; omega)) (fun b hb => by rw [put5_size]; unfold Nw at hb ⊢; omega) _ hA, put5_below (bel_trans hW hb) hg _ _ _ _ _⟩
/-- a value of one cell, in a block -/
theorem cell1_new (w : World) (v : Value) (t : TypeId) : (w.alloc (.cells #[v] t)).cell? ⟨w.heap.size, 0, none⟩ = some v := Blk.cell (Blk.new w #[v] t) 0
theorem liftBoxes (w : World) (o : Int) (s z : ByteArray) (k : SS) (a : Option Addr) (n c : Nat) (by_ fr : Int) :
    ∃ W, (((w.alloc (.cells #[.int .i64 o, .string s, .string z, .slice k.a k.n k.c, .slice a n c] 97)).alloc (.cells #[.int .i64 by_] 3)).alloc (.cells #[.int .i64 fr] 3)).alloc (.cells #[.int .i64 0, .string ⟨#[]⟩, .string ⟨#[]⟩, .slice none 0 0, .slice none 0 0] 97) = W ∧ Below w.heap.size w W ∧ W.heap.size = w.heap.size + 4 ∧ CBox W w.heap.size o s z k a n c ∧ W.cell? ⟨w.heap.size + 1, 0, none⟩ = some (.int .i64 by_) ∧ W.cell? ⟨w.heap.size + 1 + 1, 0, none⟩ = some (.int .i64 fr) ∧ CBox W (w.heap.size + 1 + 1 + 1) 0 ⟨#[]⟩ ⟨#[]⟩ SS.nil none 0 0 := by
  have b1 : CBox _ _ o s z k a n c := CBox.new w o s z k a n c
  have b2 := Blk.new (w.alloc (.cells #[.int .i64 o, .string s, .string z, .slice k.a k.n k.c, .slice a n c] 97)) #[.int .i64 by_] 3
  have b3 := Blk.new ((w.alloc (.cells #[.int .i64 o, .string s, .string z, .slice k.a k.n k.c, .slice a n c] 97)).alloc (.cells #[.int .i64 by_] 3)) #[.int .i64 fr] 3
  have b4 := CBox.new (((w.alloc (.cells #[.int .i64 o, .string s, .string z, .slice k.a k.n k.c, .slice a n c] 97)).alloc (.cells #[.int .i64 by_] 3)).alloc (.cells #[.int .i64 fr] 3)) 0 ⟨#[]⟩ ⟨#[]⟩ SS.nil none 0 0
  simp only [World.size_alloc] at b2 b3 b4
  exact ⟨_, rfl, bel_alloc (bel_alloc (bel_alloc (bel_alloc (Below.refl _ _) _) _) _) _, by simp, Blk.alloc (Blk.alloc (Blk.alloc b1 _) _) _, Blk.cell (Blk.alloc (Blk.alloc b2 _) _) 0, Blk.cell (Blk.alloc b3 _) 0, b4⟩
set_option maxRecDepth 100000 in
set_option maxHeartbeats 4000000 in
theorem LiftClaim_any (by_ fr : Int) (t : Cl) (k : SS) (a : Option Addr) (n c : Nat) (w : World) (hsz : wt t ≤ 1000000) (hA : ArWC w t k a n c) :
    Calls Try.prog 80 #[.agg #[.int .i64 (opC t), .string (nmC t), .string (soC t), .slice k.a k.n k.c, .slice a n c], .int .i64 by_, .int .i64 fr] w fun e w' => RtC (wkC (fLift by_ fr) 0 t) w e w' := by
  obtain ⟨W, hW, hB, hs, S, d1, d2, R⟩ := liftBoxes w (opC t) (nmC t) (soC t) k a n c by_ fr
  have cC := changed_any 91 #[.pointer (some ⟨w.heap.size + 1 + 1, 0, none⟩), .pointer (some ⟨w.heap.size + 1, 0, none⟩)] (fun _ _ => rfl) (fLift by_ fr) t k a n c W (lift_clos by_ fr _ _ 1000000 W.heap.size W (by omega) (by omega) d2 d1 (by omega)) hsz (ArWC.b hA hB)
  have HFin := Lib.hid (show ∀ e w', RtC (wkC (fLift by_ fr) 0 t) W e w' → ∀ v0 v1 v2 v3 v4, RtC (wkC (fLift by_ fr) 0 t) w e (put5 w' (w.heap.size + 1 + 1 + 1) v0 v1 v2 v3 v4) from fun e w' h v0 v1 v2 v3 v4 => rtC_put h hB (by omega) (by omega) v0 v1 v2 v3 v4)
  have HR := Lib.hid R
  obtain ⟨s0, s1, s2, s3, s4⟩ := S.five
  obtain ⟨ka, kn, kc⟩ := k
  dsimp only at *
  clear hA S R
  generalize hr : wkC (fLift by_ fr) 0 t = r at *
  clear hr
  unfold put5 at HFin
  generalize opC t = op at *
  generalize nmC t = nm at *
  generalize soC t = so at *
  go_enter Try.func80, Try.ntmps80
  go_wp2_with (go_at_call 90; ((with_reducible refine cC.mono ?_); rintro e w3 h3; have HF := Lib.hid (HFin.out e w3 h3); obtain ⟨K0, K1, K2, A, N, C, rfl, hA3, hb3⟩ := h3; have R3 := CBox.b HR.out hb3; obtain ⟨r0, r1, r2, r3, r4⟩ := R3.free; obtain ⟨t0, t1, t2, t3, t4⟩ := R3.five; have F5 := CBox.put R3 (opC r) (nmC r) (soC r) ⟨K0, K1, K2⟩ A N C; unfold put5 at F5; obtain ⟨x0, x1, x2, x3, x4⟩ := F5.five; clear hA3 R3 F5))
  simp [bodyPost, results, Try.results80, go_sem, x0, x1, x2, x3, x4]
  exact HF.out _ _ _ _ _
end Go.Proofs.Yteidknjhponpkaa.B
namespace Go.Proofs.Yteidknjhponpkaa.B
open Go.RowKit L T C
set_option linter.unusedVariables false
set_option linter.unusedSimpArgs false

theorem closeBoxes (w : World) (o : Int) (s z : ByteArray) (k : SS) (a : Option Addr) (n c : Nat) (name : ByteArray) :
    ∃ W, ((w.alloc (.cells #[.int .i64 o, .string s, .string z, .slice k.a k.n k.c, .slice a n c] 97)).alloc (.cells #[.string name] 9)).alloc (.cells #[.int .i64 0, .string ⟨#[]⟩, .string ⟨#[]⟩, .slice none 0 0, .slice none 0 0] 97) = W ∧ Below w.heap.size w W ∧ W.heap.size = w.heap.size + 3 ∧ CBox W w.heap.size o s z k a n c ∧ W.cell? ⟨w.heap.size + 1, 0, none⟩ = some (.string name) ∧ CBox W (w.heap.size + 1 + 1) 0 ⟨#[]⟩ ⟨#[]⟩ SS.nil none 0 0 := by
  have b1 : CBox _ _ o s z k a n c := CBox.new w o s z k a n c
  have b2 := Blk.new (w.alloc (.cells #[.int .i64 o, .string s, .string z, .slice k.a k.n k.c, .slice a n c] 97)) #[.string name] 9
  have b3 := CBox.new ((w.alloc (.cells #[.int .i64 o, .string s, .string z, .slice k.a k.n k.c, .slice a n c] 97)).alloc (.cells #[.string name] 9)) 0 ⟨#[]⟩ ⟨#[]⟩ SS.nil none 0 0
  simp only [World.size_alloc] at b2 b3
  exact ⟨_, rfl, bel_alloc (bel_alloc (bel_alloc (Below.refl _ _) _) _) _, by simp, Blk.alloc (Blk.alloc b1 _) _, Blk.cell (Blk.alloc b2 _) 0, b3⟩
/-- a term is returned that reads so, in new memory -/
def RtT (t : Tm) (w : World) (e : Ending) (w' : World) : Prop := ∃ (a : Option Addr) (n c : Nat), e = .returned (.agg #[.int .i64 (opT t), .string (nameT t), .int .i64 (numT t), .slice a n c]) ∧ ArP (Nw 0 0 w.heap.size w'.heap.size) w' t a n c ∧ Below w.heap.size w w'
def lone (t : Tm) : Cl := .mk 0 ⟨#[]⟩ ⟨#[]⟩ [t] []
theorem tbox_ts {w : World} {g : Nat} {t : Tm} {a : Option Addr} {n c : Nat} (h : TBox w g (opT t) (nameT t) (numT t) a n c) (hA : ArW w t a n c) : TsW w (some ⟨g, 0, none⟩) 1 1 [t] := by
  obtain ⟨c0, c1, c2, c3⟩ := h.four
  refine ⟨rfl, Nat.le_refl _, by unfold maxLen; omega, (fun h => by cases h), fun _ => ⟨g, 0, rfl, Blk.lt h, ?_⟩⟩
  rw [Rw]
  exact ⟨⟨a, n, c, c0, c1, c2, c3, hA⟩, by rw [Rw]; trivial⟩
theorem loneBoxes (w : World) (o : Int) (s : ByteArray) (z : Int) (a : Option Addr) (n c : Nat) :
    ∃ W, (w.alloc (.cells #[.int .i64 o, .string s, .int .i64 z, .slice a n c] 24)).alloc (.cells #[.int .i64 0, .string ⟨#[]⟩, .string ⟨#[]⟩, .slice none 0 0, .slice none 0 0] 97) = W ∧ Below w.heap.size w W ∧ W.heap.size = w.heap.size + 2 ∧ TBox W w.heap.size o s z a n c ∧ CBox W (w.heap.size + 1) 0 ⟨#[]⟩ ⟨#[]⟩ SS.nil none 0 0 := by
  have b1 := TBox.new w o s z a n c
  have b3 := CBox.new (w.alloc (.cells #[.int .i64 o, .string s, .int .i64 z, .slice a n c] 24)) 0 ⟨#[]⟩ ⟨#[]⟩ SS.nil none 0 0
  simp only [World.size_alloc] at b3
  exact ⟨_, rfl, bel_alloc (bel_alloc (Below.refl _ _) _) _, by simp, Blk.alloc b1 _, b3⟩
def LoneOk (t : Tm) (w : World) (e : Ending) (w' : World) : Prop := ∃ g, e = .returned (.agg #[.int .i64 0, .string ⟨#[]⟩, .string ⟨#[]⟩, .slice (some ⟨g, 0, none⟩) 1 1, .slice none 0 0]) ∧ ArWC w' (lone t) ⟨some ⟨g, 0, none⟩, 1, 1⟩ none 0 0 ∧ Below w.heap.size w w'
set_option maxRecDepth 100000 in
set_option maxHeartbeats 4000000 in
theorem alone_any (t : Tm) (a : Option Addr) (n c : Nat) (w : World) (hA : ArW w t a n c) :
    Calls Try.prog 81 #[.agg #[.int .i64 (opT t), .string (nameT t), .int .i64 (numT t), .slice a n c]] w fun e w' => LoneOk t w e w' := by
  obtain ⟨W, hW, hB, hs, S, R⟩ := loneBoxes w (opT t) (nameT t) (numT t) a n c
  obtain ⟨W3, hW3, hB3, hs3, S3⟩ := box1 W (opT t) (nameT t) (numT t) a n c
  rw [hs] at S3
  have hT := tbox_ts S3 (ArW.b hA (bel_trans hB hB3))
  have R3 := CBox.b R hB3
  have F5 := CBox.put R3 0 ⟨#[]⟩ ⟨#[]⟩ ⟨some ⟨w.heap.size + 2, 0, none⟩, 1, 1⟩ none 0 0
  have HFin := Lib.hid (show ∀ v0 v1 v2 v3 v4, ArWC (put5 W3 (w.heap.size + 1) v0 v1 v2 v3 v4) (lone t) ⟨some ⟨w.heap.size + 2, 0, none⟩, 1, 1⟩ none 0 0 ∧ Below w.heap.size w (put5 W3 (w.heap.size + 1) v0 v1 v2 v3 v4) from fun v0 v1 v2 v3 v4 => by
    have hArP : ArP (fun b => b ≠ w.heap.size + 1 ∧ b < W3.heap.size) W3 (.mk 0 ⟨#[]⟩ 0 [t]) (some ⟨w.heap.size + 2, 0, none⟩) 1 1 := by
      obtain ⟨c0, c1, c2, c3⟩ := S3.four
      rw [ArP]
      refine ⟨rfl, Nat.le_refl _, by unfold maxLen; omega, (fun h => by cases h), fun _ => ⟨w.heap.size + 2, 0, rfl, ⟨by omega, by omega⟩, ?_⟩⟩
      rw [RwP]
      exact ⟨⟨a, n, c, c0, c1, c2, c3, ArP.to (fun b hb => (bel_trans hB hB3).block b hb) (fun b hb => ⟨by omega, by omega⟩) t (Ar.p t hA)⟩, by rw [RwP]; trivial⟩
    refine ⟨?_, put5_below (bel_trans hB hB3) (by omega) _ _ _ _ _⟩
    unfold ArWC lone
    rw [ArC]
    refine ⟨?_, rfl, Nat.le_refl _, Nat.zero_le _, fun _ => rfl, fun h => absurd h (by omega)⟩
    refine ar_isT.1 (ArP.ar (P := fun b => b ≠ w.heap.size + 1 ∧ b < W3.heap.size) (fun b hb => by rw [put5_size]; exact hb.2) _ (ArP.to (fun b hb => put5_other W3 _ b _ _ _ _ _ hb.1) (fun b hb => hb) _ hArP)))
  unfold put5 at HFin F5
  obtain ⟨s0, s1, s2, s3⟩ := S.four
  obtain ⟨r0, r1, r2, r3, r4⟩ := R3.free
  obtain ⟨t0, t1, t2, t3, t4⟩ := R3.five
  obtain ⟨x0, x1, x2, x3, x4⟩ := F5.five
  dsimp only [SS.nil] at t3 x3
  clear hA S R S3 R3 F5 hT
  generalize opT t = op at *
  generalize nameT t = nm at *
  generalize numT t = nu at *
  go_enter Try.func81, Try.ntmps81
  go_wp2
  simp [bodyPost, results, Try.results81, go_sem, x0, x1, x2, x3, x4]
  exact ⟨w.heap.size + 2, rfl, HFin.out _ _ _ _ _⟩
theorem wkC_lone (f : Fn) (k : Int) (t : Tm) : wkC f k (lone t) = lone (wk f k t) := by
  unfold lone; rw [wkC, wks, wks, wkCs]
theorem wt_lone (t : Tm) : wt (lone t) = 1 + size t := by unfold lone; rw [wt, wts, sizes, sizes]; omega
theorem liftBox (w : World) (o : Int) (s : ByteArray) (z : Int) (a : Option Addr) (n c : Nat) :
    ∃ W, (w.alloc (.cells #[.int .i64 o, .string s, .int .i64 z, .slice a n c] 24)).alloc (.cells #[.int .i64 0, .string ⟨#[]⟩, .int .i64 0, .slice none 0 0] 24) = W ∧ Below w.heap.size w W ∧ W.heap.size = w.heap.size + 2 ∧ TBox W w.heap.size o s z a n c ∧ TBox W (w.heap.size + 1) 0 ⟨#[]⟩ 0 none 0 0 := box2 w o s z a n c 0 ⟨#[]⟩ 0 none 0 0
set_option maxRecDepth 100000 in
set_option maxHeartbeats 4000000 in
theorem Lift_any (by_ : Int) (t : Tm) (a : Option Addr) (n c : Nat) (w : World) (hsz : 1 + size t ≤ 1000000) (hA : ArW w t a n c) :
    Calls Try.prog 59 #[.agg #[.int .i64 (opT t), .string (nameT t), .int .i64 (numT t), .slice a n c], .int .i64 by_] w fun e w' => RtT (wk (fLift by_ 0) 0 t) w e w' := by
  obtain ⟨W, hW, hB, hs, S, R⟩ := liftBox w (opT t) (nameT t) (numT t) a n c
  have cA := alone_any t a n c W (ArW.b hA hB)
  have cL := fun (g : Nat) (w' : World) (h : ArWC w' (lone t) ⟨some ⟨g, 0, none⟩, 1, 1⟩ none 0 0) => LiftClaim_any by_ 0 (lone t) ⟨some ⟨g, 0, none⟩, 1, 1⟩ none 0 0 w' (by rw [wt_lone]; exact hsz) h
  rw [wkC_lone] at cL
  have cL2 : ∀ (g : Nat) (w' : World) (h : ArWC w' (lone t) ⟨some ⟨g, 0, none⟩, 1, 1⟩ none 0 0), Calls Try.prog 80 #[.agg #[.int .i64 0, .string ⟨#[]⟩, .string ⟨#[]⟩, .slice (some ⟨g, 0, none⟩) 1 1, .slice none 0 0], .int .i64 by_, .int .i64 0] w' fun e w1 => RtC (lone (wk (fLift by_ 0) 0 t)) w' e w1 := cL
  clear cL
  obtain ⟨s0, s1, s2, s3⟩ := S.four
  have HR := Lib.hid R
  clear hA S R
  have HOpen := Lib.hid (show ∀ (w3 w4 : World) (r : Tm) (e : Ending), RtC (lone r) w3 e w4 → Below W.heap.size W w3 → ∃ (b o c' : Nat) (ka : Option Addr) (kn : Nat) (a' : Option Addr) (n' k' : Nat) (a1 : Option Addr) (n1 c1 : Nat), e = .returned (.agg #[.int .i64 0, .string ⟨#[]⟩, .string ⟨#[]⟩, .slice ka kn c', .slice a' n' k']) ∧ ka = some ⟨b, o, none⟩ ∧ kn = 1 ∧ (w4.cell? ⟨b, o, none⟩ = some (.int .i64 (opT r)) ∧ w4.cell? ⟨b, o + 1, none⟩ = some (.string (nameT r)) ∧ w4.cell? ⟨b, o + 2, none⟩ = some (.int .i64 (numT r)) ∧ w4.cell? ⟨b, o + 3, none⟩ = some (.slice a1 n1 c1)) ∧ 1 ≤ c' ∧ TBox w4 (w.heap.size + 1) 0 ⟨#[]⟩ 0 none 0 0 ∧ ∀ v0 v1 v2 v3, RtT r w (.returned (.agg #[.int .i64 (opT r), .string (nameT r), .int .i64 (numT r), .slice a1 n1 c1])) ((((w4.setCell ⟨w.heap.size + 1, 0, none⟩ v0).setCell ⟨w.heap.size + 1, 1, none⟩ v1).setCell ⟨w.heap.size + 1, 2, none⟩ v2).setCell ⟨w.heap.size + 1, 3, none⟩ v3) from fun w3 w4 r e h b3 => by
    obtain ⟨ka, kn, kc, a', n', c', e1, hA, b4⟩ := h
    unfold lone at hA e1
    rw [ArCP] at hA
    obtain ⟨hT, _⟩ := hA
    unfold IsTP at hT
    rw [ArP] at hT
    obtain ⟨h1, h2, h3, h4, h5⟩ := hT
    dsimp only at h1 h2 h3 h4 h5
    obtain ⟨b, o, e2, hb, hr⟩ := h5 (by rw [h1]; simp)
    rw [RwP] at hr
    obtain ⟨⟨a1, n1, c1, y0, y1, y2, y3, hA1⟩, _⟩ := hr
    have q3 := b3.size
    have q4 := b4.size
    refine ⟨b, o, kc, ka, kn, a', n', c', a1, n1, c1, e1, e2, by simpa using h1, ⟨y0, y1, y2, y3⟩, by have : kn = 1 := (by simpa using h1); omega, TBox.b HR.out (bel_trans b3 b4), fun v0 v1 v2 v3 => ⟨a1, n1, c1, rfl, ?_, put_below (bel_trans hB (bel_trans b3 b4)) (by omega) _ _ _ _⟩⟩
    exact ArP.to (fun x hx => put_other w4 _ x _ _ _ _ (by unfold Nw at hx; omega)) (fun x hx => by rw [put_size]; unfold Nw at hx ⊢; omega) _ hA1)
  generalize wk (fLift by_ 0) 0 t = r at *
  generalize opT t = op at *
  generalize nameT t = nm at *
  generalize numT t = nu at *
  have qF : ∀ (x y : Option Addr) (n1 c1 n2 c2 : Nat) (w' : World), (Instr.field 97 (.agg #[.int .i64 0, .string ⟨#[]⟩, .string ⟨#[]⟩, .slice x n1 c1, .slice y n2 c2]) 3).run Try.prog w' = .ok (.slice x n1 c1) w' := fun _ _ _ _ _ _ _ => by kernel_rfl
  go_enter Try.func59, Try.ntmps59
  go_wp2_with (first
    | (go_at_call 81; ((with_reducible refine cA.mono ?_); rintro e w3 ⟨g, rfl, hA3, hb3⟩; have cL := cL2 g w3 hA3; have Hb3 := Lib.hid hb3; clear hA3 hb3))
    | (go_at_call 80; ((with_reducible refine cL.mono ?_); rintro e w4 h4; obtain ⟨b, o, c', ka, kn, a', n', k', a1, n1, c1, rfl, rfl, rfl, ⟨y0, y1, y2, y3⟩, hc', T4, hf4⟩ := HOpen.out w3 w4 r e h4 Hb3.out; have HF := Lib.hid hf4; obtain ⟨r0, r1, r2, r3⟩ := T4.free; obtain ⟨t0, t1, t2, t3⟩ := T4.four; have F5 := TBox.put T4 (opT r) (nameT r) (numT r) a1 n1 c1; obtain ⟨x0, x1, x2, x3⟩ := F5.four; clear h4 hf4 T4 F5)))
  simp [bodyPost, results, Try.results59, go_sem, x0, x1, x2, x3]
  exact HF.out _ _ _ _
end Go.Proofs.Yteidknjhponpkaa.B
