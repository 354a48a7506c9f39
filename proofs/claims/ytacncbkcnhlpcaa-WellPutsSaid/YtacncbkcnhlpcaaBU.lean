/-
  What is proved: lists of pairs in memory: how a slice of pairs reads, what keeps it; a pair put into a block.
  What is proved: mathematics of substitutions: the first term of a name; a term with others in place of its variables.
  What is proved: what the document's Get answers: the term of the first pair of that name.
  What is proved: what the document's Get answers, of pairs that lie below a bound.
-/
import Derived.Test.YtacncbkcnhlpcaaBL
import Derived.Test.YtacncbkcnhlpcaaZLibF
import Derived.Test.YtacncbkcnhlpcaaZClmB
import Derived.Test.YtacncbkcnhlpcaaZBndA
namespace Go.Proofs.Ytacncbkcnhlpcaa.U
open Go.RowKit L T
set_option linter.unusedVariables false
set_option linter.unusedSimpArgs false

/-- a pair: a name, and the term in its place -/
structure Pr where
  nm : ByteArray
  t : Tm
/-- the five cells of a pair, and what they lead to -/
def AtU (B : Nat) (w : World) (b o : Nat) (p : Pr) (a : Option Addr) (n c : Nat) : Prop :=
  w.cell? ⟨b, o, none⟩ = some (.string p.nm) ∧ w.cell? ⟨b, o + 1, none⟩ = some (.int .i64 (opT p.t)) ∧ w.cell? ⟨b, o + 1 + 1, none⟩ = some (.string (nameT p.t)) ∧ w.cell? ⟨b, o + 1 + 1 + 1, none⟩ = some (.int .i64 (numT p.t)) ∧ w.cell? ⟨b, o + 1 + 1 + 1 + 1, none⟩ = some (.slice a n c) ∧ Ar B w p.t a n c
/-- a slice that reads as these pairs -/
def IsU (B : Nat) (w : World) (a : Option Addr) (n c : Nat) (l : List Pr) : Prop :=
  n = l.length ∧ n ≤ c ∧ c ≤ maxLen ∧ (a = none → c = 0) ∧ (0 < n → ∃ b o, a = some ⟨b, o, none⟩ ∧ b < B ∧ ∀ i p, l[i]? = some p → ∃ a' n' c', AtU B w b (o + i * 5) p a' n' c')
theorem AtU.bel {B : Nat} {w w' : World} (hb : Below B w w') {b o : Nat} (hl : b < B) {p : Pr} {a : Option Addr} {n c : Nat} (h : AtU B w b o p a n c) : AtU B w' b o p a n c :=
  ⟨(hb.cell (p := ⟨b, _, none⟩) hl).trans h.1, (hb.cell (p := ⟨b, _, none⟩) hl).trans h.2.1, (hb.cell (p := ⟨b, _, none⟩) hl).trans h.2.2.1, (hb.cell (p := ⟨b, _, none⟩) hl).trans h.2.2.2.1, (hb.cell (p := ⟨b, _, none⟩) hl).trans h.2.2.2.2.1, Ar.bel hb _ h.2.2.2.2.2⟩
theorem AtU.mono {B B' : Nat} {w : World} (hB : B ≤ B') {b o : Nat} {p : Pr} {a : Option Addr} {n c : Nat} (h : AtU B w b o p a n c) : AtU B' w b o p a n c :=
  ⟨h.1, h.2.1, h.2.2.1, h.2.2.2.1, h.2.2.2.2.1, Ar.mono hB _ h.2.2.2.2.2⟩
theorem IsU.bel {B : Nat} {w w' : World} {a : Option Addr} {n c : Nat} {l : List Pr} (h : IsU B w a n c l) (hb : Below B w w') : IsU B w' a n c l :=
  ⟨h.1, h.2.1, h.2.2.1, h.2.2.2.1, fun hn => by
    obtain ⟨b, o, ha, hlt, hr⟩ := h.2.2.2.2 hn
    exact ⟨b, o, ha, hlt, fun i p hi => by obtain ⟨a', n', c', q⟩ := hr i p hi; exact ⟨a', n', c', q.bel hb hlt⟩⟩⟩
theorem IsU.mono {B B' : Nat} {w : World} {a : Option Addr} {n c : Nat} {l : List Pr} (h : IsU B w a n c l) (hB : B ≤ B') : IsU B' w a n c l :=
  ⟨h.1, h.2.1, h.2.2.1, h.2.2.2.1, fun hn => by
    obtain ⟨b, o, ha, hlt, hr⟩ := h.2.2.2.2 hn
    exact ⟨b, o, ha, by omega, fun i p hi => by obtain ⟨a', n', c', q⟩ := hr i p hi; exact ⟨a', n', c', q.mono hB⟩⟩⟩
abbrev UsW (w : World) (a : Option Addr) (n c : Nat) (l : List Pr) : Prop := IsU w.heap.size w a n c l
theorem UsW.b {w w' : World} {a : Option Addr} {n c : Nat} {l : List Pr} (h : UsW w a n c l) (hb : Below w.heap.size w w') : UsW w' a n c l := (h.bel hb).mono hb.size
theorem UsW.nil (w : World) : UsW w none 0 0 [] := ⟨rfl, Nat.le_refl _, Nat.zero_le _, fun _ => rfl, fun h => absurd h (by omega)⟩
theorem IsU.at {B : Nat} {w : World} {a : Option Addr} {n c k : Nat} {l : List Pr} (h : IsU B w a n c l) (hk : k < n) :
    ∃ b o p a' n' c', a = some ⟨b, o, none⟩ ∧ b < B ∧ w.cell? ⟨b, o + k * 5, none⟩ = some (.string p.nm) ∧ w.cell? ⟨b, o + k * 5 + 1, none⟩ = some (.int .i64 (opT p.t)) ∧ w.cell? ⟨b, o + k * 5 + 1 + 1, none⟩ = some (.string (nameT p.t)) ∧ w.cell? ⟨b, o + k * 5 + 1 + 1 + 1, none⟩ = some (.int .i64 (numT p.t)) ∧ w.cell? ⟨b, o + k * 5 + 1 + 1 + 1 + 1, none⟩ = some (.slice a' n' c') ∧ l[k]? = some p ∧ Ar B w p.t a' n' c' := by
  obtain ⟨b, o, ha, hlt, hr⟩ := h.2.2.2.2 (by omega)
  have hk2 : k < l.length := by rw [← h.1]; exact hk
  obtain ⟨a', n', c', h0, h1, h2, h3, h4, h5⟩ := hr k l[k] (List.getElem?_eq_getElem hk2)
  exact ⟨b, o, l[k], a', n', c', ha, hlt, h0, h1, h2, h3, h4, List.getElem?_eq_getElem _, h5⟩
theorem IsU.lt63 {B : Nat} {w : World} {a : Option Addr} {n c : Nat} {l : List Pr} (h : IsU B w a n c l) : n ≤ 9223372036854775807 := by
  have h1 := h.2.1; have h2 := h.2.2.1; unfold maxLen at h2; omega
theorem drop_u {p : Pr} {l : List Pr} {k : Nat} (h : l[k]? = some p) : l.drop k = p :: l.drop (k + 1) := by
  obtain ⟨hk, rfl⟩ := List.getElem?_eq_some_iff.1 h
  exact List.drop_eq_getElem_cons hk

/-! a pair put into a block -/
def UBox (w : World) (g : Nat) (q : ByteArray) (o : Int) (s : ByteArray) (z : Int) (a : Option Addr) (n c : Nat) : Prop := Blk w g #[.string q, .int .i64 o, .string s, .int .i64 z, .slice a n c] 54
theorem UBox.five {w : World} {g : Nat} {q : ByteArray} {o : Int} {s : ByteArray} {z : Int} {a : Option Addr} {n c : Nat} (h : UBox w g q o s z a n c) :
    w.cell? ⟨g, 0, none⟩ = some (.string q) ∧ w.cell? ⟨g, 1, none⟩ = some (.int .i64 o) ∧ w.cell? ⟨g, 1 + 1, none⟩ = some (.string s) ∧ w.cell? ⟨g, 1 + 1 + 1, none⟩ = some (.int .i64 z) ∧ w.cell? ⟨g, 1 + 1 + 1 + 1, none⟩ = some (.slice a n c) := ⟨Blk.cell h 0, Blk.cell h 1, Blk.cell h 2, Blk.cell h 3, Blk.cell h 4⟩
theorem UBox.b {w w' : World} {g : Nat} {q : ByteArray} {o : Int} {s : ByteArray} {z : Int} {a : Option Addr} {n c : Nat} (h : UBox w g q o s z a n c) (hb : Below w.heap.size w w') : UBox w' g q o s z a n c := Blk.below h hb
theorem ubox1 (w : World) (q : ByteArray) (o : Int) (s : ByteArray) (z : Int) (a : Option Addr) (n c : Nat) :
    ∃ W, w.alloc (.cells #[.string q, .int .i64 o, .string s, .int .i64 z, .slice a n c] 54) = W ∧ Below w.heap.size w W ∧ W.heap.size = w.heap.size + 1 ∧ UBox W w.heap.size q o s z a n c :=
  ⟨_, rfl, bel_alloc (Below.refl _ _) _, by simp, Blk.new w _ _⟩
theorem ubox2 (w : World) (q : ByteArray) (o : Int) (s : ByteArray) (z : Int) (a : Option Addr) (n c : Nat) (q' : ByteArray) (o' : Int) (s' : ByteArray) (z' : Int) (a' : Option Addr) (n' c' : Nat) :
    ∃ W, (w.alloc (.cells #[.string q, .int .i64 o, .string s, .int .i64 z, .slice a n c] 54)).alloc (.cells #[.string q', .int .i64 o', .string s', .int .i64 z', .slice a' n' c'] 54) = W ∧ Below w.heap.size w W ∧ W.heap.size = w.heap.size + 2 ∧ UBox W w.heap.size q o s z a n c ∧ UBox W (w.heap.size + 1) q' o' s' z' a' n' c' := by
  obtain ⟨W1, h1, hb, hs, u⟩ := ubox1 w q o s z a n c
  rw [h1]
  refine ⟨_, rfl, bel_alloc hb _, by simp [hs], Blk.alloc u _, ?_⟩
  have := Blk.new W1 #[.string q', .int .i64 o', .string s', .int .i64 z', .slice a' n' c'] 54
  rwa [hs] at this
/-- a pair's value and what it reads as -/
def prV (q : ByteArray) (t : Tm) (a : Option Addr) (n c : Nat) : Value := .agg #[.string q, .int .i64 (opT t), .string (nameT t), .int .i64 (numT t), .slice a n c]
/-- are two pairs, two lists of pairs, the same? -/
def eqP (p q : Pr) : Bool := (p.nm.toList == q.nm.toList) && eqT p.t q.t
def eqPs : List Pr → List Pr → Bool
  | [], [] => true
  | p :: l, q :: m => eqP p q && eqPs l m
  | _, _ => false
theorem eqPs_len : ∀ {l m : List Pr}, l.length ≠ m.length → eqPs l m = false
  | [], [], h => absurd rfl h
  | [], _ :: _, _ => rfl
  | _ :: _, [], _ => rfl
  | p :: l, q :: m, h => by
    rw [eqPs, eqPs_len (l := l) (m := m) (by simpa using h), Bool.and_false]
end Go.Proofs.Ytacncbkcnhlpcaa.U
namespace Go.Proofs.Ytacncbkcnhlpcaa.U
open Go.RowKit L T C B
set_option linter.unusedVariables false
set_option linter.unusedSimpArgs false

/-- the term of the first pair of that name -/
def getU : List Pr → ByteArray → Option Tm
  | [], _ => none
  | p :: l, s => if p.nm.toList == s.toList then some p.t else getU l s
/-! a term with others in place of its variables -/
mutual
def sbT (f : ByteArray → Option Tm) : Tm → Tm
  | .mk o s z l => match (if o = 1 then f s else none) with | some u => u | none => .mk o s z (sbTs f l)
def sbTs (f : ByteArray → Option Tm) : List Tm → List Tm
  | [] => []
  | t :: l => sbT f t :: sbTs f l
end
theorem sbTs_map (f : ByteArray → Option Tm) : ∀ l : List Tm, sbTs f l = l.map (sbT f)
  | [] => by rw [sbTs]; rfl
  | t :: l => by rw [sbTs, sbTs_map f l]; rfl
theorem sbT_put {f : ByteArray → Option Tm} {t u : Tm} (h1 : opT t = 1) (h : f (nameT t) = some u) : sbT f t = u := by
  cases t with | mk o s z l => rw [sbT]; simp only [opT] at h1; simp only [nameT] at h; rw [if_pos h1, h]
theorem sbT_go {f : ByteArray → Option Tm} {t : Tm} (h : opT t ≠ 1 ∨ f (nameT t) = none) : sbT f t = .mk (opT t) (nameT t) (numT t) ((argsT t).map (sbT f)) := by
  cases t with
  | mk o s z l =>
    rw [sbT]; simp only [opT, nameT] at h
    have e : (if o = 1 then f s else none) = none := by
      by_cases h1 : o = 1
      · rw [if_pos h1]; exact h.resolve_left (fun h2 => h2 h1)
      · rw [if_neg h1]
    rw [e, sbTs_map]; rfl
/-- what stands for a name, so deep within binders -/
def getK (l : List Pr) (K : Int) (s : ByteArray) : Option Tm := (getU l s).map (wk (fLift K 0) 0)
theorem getU_mem : ∀ {l : List Pr} {s : ByteArray} {u : Tm}, getU l s = some u → ∃ p ∈ l, p.t = u
  | [], s, u, h => by simp [getU] at h
  | p :: l, s, u, h => by
    rw [getU] at h
    by_cases e : p.nm.toList == s.toList
    · rw [if_pos e] at h; injection h with h; exact ⟨p, by simp, h⟩
    · rw [if_neg e] at h; obtain ⟨q, hq, e2⟩ := getU_mem h; exact ⟨q, by simp [hq], e2⟩
end Go.Proofs.Ytacncbkcnhlpcaa.U
namespace Go.Proofs.Ytacncbkcnhlpcaa.U
open Go.RowKit L T C
set_option linter.unusedVariables false
set_option linter.unusedSimpArgs false

def GetP (l : List Pr) (s : ByteArray) (w : World) (e : Ending) (w' : World) : Prop :=
  (∃ (t : Tm) (a : Option Addr) (n c : Nat), getU l s = some t ∧ e = .returned (.tuple #[.agg #[.int .i64 (opT t), .string (nameT t), .int .i64 (numT t), .slice a n c], .bool true]) ∧ ArW w' t a n c ∧ Below w.heap.size w w') ∨
  (getU l s = none ∧ e = .returned (.tuple #[.agg #[.int .i64 0, .string ⟨#[]⟩, .int .i64 0, .slice none 0 0], .bool false]) ∧ Below w.heap.size w w')
theorem getU_step {l : List Pr} {k : Nat} {p : Pr} {s : ByteArray} (h : l[k]? = some p) : getU (l.drop k) s = if p.nm.toList == s.toList then some p.t else getU (l.drop (k + 1)) s := by rw [drop_u h, getU]
set_option maxRecDepth 100000 in
set_option maxHeartbeats 4000000 in
theorem Get10_any (l : List Pr) (s : ByteArray) (b : Option Addr) (m d : Nat) (w : World) (hG : UsW w b m d l) :
    Calls Try.prog 69 #[.slice b m d, .string s] w fun e w' => GetP l s w e w' := by
  obtain ⟨W2, hW2, hB2, hs2, R2⟩ := box1 w 0 ⟨#[]⟩ 0 none 0 0
  have hm : m ≤ 9223372036854775807 := hG.lt63
  have H1 := Lib.hid hG
  have HR := Lib.hid R2
  have HE := Lib.hid (show ∀ k, m ≤ k → getU (l.drop k) s = none from fun k h => by rw [List.drop_eq_nil_of_le (by rw [← hG.1]; exact h), getU])
  have HF1 := Lib.hid (show ∀ (w3 w4 : World) (t : Tm) (a : Option Addr) (n c : Nat), getU l s = some t → ArW w t a n c → Below W2.heap.size W2 w3 → ∀ v0 v1 v2 v3, GetP l s w (.returned (.tuple #[.agg #[.int .i64 (opT t), .string (nameT t), .int .i64 (numT t), .slice a n c], .bool true])) ((((w3.setCell ⟨w.heap.size, 0, none⟩ v0).setCell ⟨w.heap.size, 1, none⟩ v1).setCell ⟨w.heap.size, 2, none⟩ v2).setCell ⟨w.heap.size, 3, none⟩ v3) from fun w3 _ t a n c h1 h2 h3 v0 v1 v2 v3 => by
    have hb := put_below (bel_trans hB2 h3) (Nat.le_refl _) v0 v1 v2 v3
    exact .inl ⟨t, a, n, c, h1, rfl, ArW.b h2 hb, hb⟩)
  have HF2 := Lib.hid (show ∀ (w3 : World), getU l s = none → Below W2.heap.size W2 w3 → ∀ v0 v1 v2 v3, GetP l s w (.returned (.tuple #[.agg #[.int .i64 0, .string ⟨#[]⟩, .int .i64 0, .slice none 0 0], .bool false])) ((((w3.setCell ⟨w.heap.size, 0, none⟩ v0).setCell ⟨w.heap.size, 1, none⟩ v1).setCell ⟨w.heap.size, 2, none⟩ v2).setCell ⟨w.heap.size, 3, none⟩ v3) from fun w3 h1 h3 v0 v1 v2 v3 => .inr ⟨h1, rfl, put_below (bel_trans hB2 h3) (Nat.le_refl _) v0 v1 v2 v3⟩)
  have h00 : getU (l.drop 0) s = getU l s := rfl
  have H00 := Lib.hid h00
  clear hG R2 hs2 h00
  go_enter Try.func69, Try.ntmps69
  go_wp2
  go_loopw [6] (fun i wr0 => ∃ (wr : World) (k : Nat), wr = wr0 ∧ k ≤ m ∧ i = .int .i64 k ∧ Below W2.heap.size W2 wr ∧ Hid (getU (l.drop k) s = getU l s)) (fun i _ => m - (intOf i).toNat)
  case atStart => exact ⟨_, 0, rfl, by omega, rfl, Below.refl _ _, H00⟩
  case round =>
    obtain ⟨wr, k, rfl, hk, rfl, hB, hR⟩ := hrel
    have R3 := TBox.b HR.out hB
    obtain ⟨r0, r1, r2, r3⟩ := R3.free
    obtain ⟨v0, v1, v2, v3⟩ := R3.four
    by_cases hlt : k < m
    · obtain ⟨bb, o, p, A, M, Cc, rfl, hb, z0, z1, z2, z3, z4, hx, hok⟩ := H1.out.at hlt
      have hbw := bel_trans hB2 hB
      have y0 := (hbw.cell (p := ⟨bb, _, none⟩) hb).trans z0
      have y1 := (hbw.cell (p := ⟨bb, _, none⟩) hb).trans z1
      have y2 := (hbw.cell (p := ⟨bb, _, none⟩) hb).trans z2
      have y3 := (hbw.cell (p := ⟨bb, _, none⟩) hb).trans z3
      have y4 := (hbw.cell (p := ⟨bb, _, none⟩) hb).trans z4
      have hs1 := getU_step (s := s) hx
      have hk0 : 0 ≤ (k : Int) := by omega
      have hk1 : (k : Int) < (m : Int) := by omega
      clear z0 z1 z2 z3 z4 hx hbw
      cases hq : p.nm.toList == s.toList with
      | true =>
        have hn := Lib.hid (fun v0 v1 v2 v3 => HF1.out wr wr p.t A M Cc (by rw [← hR.out, hs1, if_pos hq]) hok hB v0 v1 v2 v3)
        have F3 := TBox.put R3 (opT p.t) (nameT p.t) (numT p.t) A M Cc
        obtain ⟨x0, x1, x2, x3⟩ := F3.four
        clear HF1 HF2 hs1 hR hok R3 F3 H1
        generalize opT p.t = op at *
        generalize nameT p.t = nm at *
        generalize numT p.t = nu at *
        generalize p.nm = x at *
        go_wp2
        simp [bodyPost, results, Try.results69, go_sem, x0, x1, x2, x3]
        exact hn.out _ _ _ _
      | false =>
        have hnew : Hid (getU (l.drop (k + 1)) s = getU l s) := Lib.hid (by rw [← hR.out, hs1, if_neg (by rw [hq]; simp)])
        clear HF1 HF2 hs1 hR hok R3 H1
        generalize opT p.t = op at *
        generalize nameT p.t = nm at *
        generalize numT p.t = nu at *
        generalize p.nm = x at *
        go_wp2
        go_roundw
        case rel => exact ⟨_, k + 1, rfl, by omega, by go_num, hB, hnew⟩
        case measure => simp [intOf]; omega
    · have hn := Lib.hid (fun v0 v1 v2 v3 => HF2.out wr (by rw [← hR.out]; exact HE.out k (by omega)) hB v0 v1 v2 v3)
      have F3 := TBox.put R3 0 ⟨#[]⟩ 0 none 0 0
      obtain ⟨x0, x1, x2, x3⟩ := F3.four
      clear HF1 HF2 hR R3 F3
      go_wp2
      simp [bodyPost, results, Try.results69, go_sem, x0, x1, x2, x3]
      exact hn.out _ _ _ _
end Go.Proofs.Ytacncbkcnhlpcaa.U
namespace Go.Proofs.Ytacncbkcnhlpcaa.U
open Go.RowKit L T C
set_option linter.unusedVariables false
set_option linter.unusedSimpArgs false

def GetB (B : Nat) (l : List Pr) (s : ByteArray) (w : World) (e : Ending) (w' : World) : Prop :=
  (∃ (t : Tm) (a : Option Addr) (n c : Nat), getU l s = some t ∧ e = .returned (.tuple #[.agg #[.int .i64 (opT t), .string (nameT t), .int .i64 (numT t), .slice a n c], .bool true]) ∧ Ar B w' t a n c ∧ Below w.heap.size w w') ∨
  (getU l s = none ∧ e = .returned (.tuple #[.agg #[.int .i64 0, .string ⟨#[]⟩, .int .i64 0, .slice none 0 0], .bool false]) ∧ Below w.heap.size w w')
set_option maxRecDepth 100000 in
set_option maxHeartbeats 4000000 in
theorem Get10_in (B : Nat) (l : List Pr) (s : ByteArray) (b : Option Addr) (m d : Nat) (w : World) (hBw : B ≤ w.heap.size) (hG : IsU B w b m d l) :
    Calls Try.prog 69 #[.slice b m d, .string s] w fun e w' => GetB B l s w e w' := by
  obtain ⟨W2, hW2, hB2, hs2, R2⟩ := box1 w 0 ⟨#[]⟩ 0 none 0 0
  have hm : m ≤ 9223372036854775807 := hG.lt63
  have H1 := Lib.hid hG
  have HR := Lib.hid R2
  have HE := Lib.hid (show ∀ k, m ≤ k → getU (l.drop k) s = none from fun k h => by rw [List.drop_eq_nil_of_le (by rw [← hG.1]; exact h), getU])
  have HF1 := Lib.hid (show ∀ (w3 w4 : World) (t : Tm) (a : Option Addr) (n c : Nat), getU l s = some t → Ar B w t a n c → Below W2.heap.size W2 w3 → ∀ v0 v1 v2 v3, GetB B l s w (.returned (.tuple #[.agg #[.int .i64 (opT t), .string (nameT t), .int .i64 (numT t), .slice a n c], .bool true])) ((((w3.setCell ⟨w.heap.size, 0, none⟩ v0).setCell ⟨w.heap.size, 1, none⟩ v1).setCell ⟨w.heap.size, 2, none⟩ v2).setCell ⟨w.heap.size, 3, none⟩ v3) from fun w3 _ t a n c h1 h2 h3 v0 v1 v2 v3 => by
    have hb := put_below (bel_trans hB2 h3) (Nat.le_refl _) v0 v1 v2 v3
    exact .inl ⟨t, a, n, c, h1, rfl, Ar.bel (hb.mono hBw) t h2, hb⟩)
  have HF2 := Lib.hid (show ∀ (w3 : World), getU l s = none → Below W2.heap.size W2 w3 → ∀ v0 v1 v2 v3, GetB B l s w (.returned (.tuple #[.agg #[.int .i64 0, .string ⟨#[]⟩, .int .i64 0, .slice none 0 0], .bool false])) ((((w3.setCell ⟨w.heap.size, 0, none⟩ v0).setCell ⟨w.heap.size, 1, none⟩ v1).setCell ⟨w.heap.size, 2, none⟩ v2).setCell ⟨w.heap.size, 3, none⟩ v3) from fun w3 h1 h3 v0 v1 v2 v3 => .inr ⟨h1, rfl, put_below (bel_trans hB2 h3) (Nat.le_refl _) v0 v1 v2 v3⟩)
  have h00 : getU (l.drop 0) s = getU l s := rfl
  have H00 := Lib.hid h00
  clear hG R2 hs2 h00
  go_enter Try.func69, Try.ntmps69
  go_wp2
  go_loopw [6] (fun i wr0 => ∃ (wr : World) (k : Nat), wr = wr0 ∧ k ≤ m ∧ i = .int .i64 k ∧ Below W2.heap.size W2 wr ∧ Hid (getU (l.drop k) s = getU l s)) (fun i _ => m - (intOf i).toNat)
  case atStart => exact ⟨_, 0, rfl, by omega, rfl, Below.refl _ _, H00⟩
  case round =>
    obtain ⟨wr, k, rfl, hk, rfl, hB, hR⟩ := hrel
    have R3 := TBox.b HR.out hB
    obtain ⟨r0, r1, r2, r3⟩ := R3.free
    obtain ⟨v0, v1, v2, v3⟩ := R3.four
    by_cases hlt : k < m
    · obtain ⟨bb, o, p, A, M, Cc, rfl, hb, z0, z1, z2, z3, z4, hx, hok⟩ := H1.out.at hlt
      have hbw := bel_trans hB2 hB
      have y0 := (hbw.cell (p := ⟨bb, _, none⟩) (Nat.lt_of_lt_of_le hb hBw)).trans z0
      have y1 := (hbw.cell (p := ⟨bb, _, none⟩) (Nat.lt_of_lt_of_le hb hBw)).trans z1
      have y2 := (hbw.cell (p := ⟨bb, _, none⟩) (Nat.lt_of_lt_of_le hb hBw)).trans z2
      have y3 := (hbw.cell (p := ⟨bb, _, none⟩) (Nat.lt_of_lt_of_le hb hBw)).trans z3
      have y4 := (hbw.cell (p := ⟨bb, _, none⟩) (Nat.lt_of_lt_of_le hb hBw)).trans z4
      have hs1 := getU_step (s := s) hx
      have hk0 : 0 ≤ (k : Int) := by omega
      have hk1 : (k : Int) < (m : Int) := by omega
      clear z0 z1 z2 z3 z4 hx hbw
      cases hq : p.nm.toList == s.toList with
      | true =>
        have hn := Lib.hid (fun v0 v1 v2 v3 => HF1.out wr wr p.t A M Cc (by rw [← hR.out, hs1, if_pos hq]) hok hB v0 v1 v2 v3)
        have F3 := TBox.put R3 (opT p.t) (nameT p.t) (numT p.t) A M Cc
        obtain ⟨x0, x1, x2, x3⟩ := F3.four
        clear HF1 HF2 hs1 hR hok R3 F3 H1
        generalize opT p.t = op at *
        generalize nameT p.t = nm at *
        generalize numT p.t = nu at *
        generalize p.nm = x at *
        go_wp2
        simp [bodyPost, results, Try.results69, go_sem, x0, x1, x2, x3]
        exact hn.out _ _ _ _
      | false =>
        have hnew : Hid (getU (l.drop (k + 1)) s = getU l s) := Lib.hid (by rw [← hR.out, hs1, if_neg (by rw [hq]; simp)])
        clear HF1 HF2 hs1 hR hok R3 H1
        generalize opT p.t = op at *
        generalize nameT p.t = nm at *
        generalize numT p.t = nu at *
        generalize p.nm = x at *
        go_wp2
        go_roundw
        case rel => exact ⟨_, k + 1, rfl, by omega, by go_num, hB, hnew⟩
        case measure => simp [intOf]; omega
    · have hn := Lib.hid (fun v0 v1 v2 v3 => HF2.out wr (by rw [← hR.out]; exact HE.out k (by omega)) hB v0 v1 v2 v3)
      have F3 := TBox.put R3 0 ⟨#[]⟩ 0 none 0 0
      obtain ⟨x0, x1, x2, x3⟩ := F3.four
      clear HF1 HF2 hR R3 F3
      go_wp2
      simp [bodyPost, results, Try.results69, go_sem, x0, x1, x2, x3]
      exact hn.out _ _ _ _
end Go.Proofs.Ytacncbkcnhlpcaa.U
