/-
  What is proved: lists of pairs in memory: how a slice of pairs reads, what keeps it; a pair put into a block.
  What is proved: whether two pairs are the same: the base's Pair, and the function that package subst's Same asks.
  What is proved: whether two lists of pairs are the same: the base's Pairs, and package subst's Same.
-/
import Derived.Test.YteedfbbcboehgaaBL
import Derived.Test.YteedfbbcboehgaaBC
import Derived.Test.YteedfbbcboehgaaBT
import Derived.BigQuiet
namespace Go.Proofs.Yteedfbbcboehgaa.U
open Go.RowKit L T
set_option linter.unusedVariables false
set_option linter.unusedSimpArgs false

/-- a pair: a name, and the term in its place -/
structure Pr where
  nm : ByteArray
  t : Tm
/-- the five cells of a pair, and what they lead to -/
def AtU (B : Nat) (w : World) (b o : Nat) (p : Pr) (a : Option Addr) (n c : Nat) : Prop :=
  w.cell? ⟨b, o, none⟩ = some (.string p.nm) ∧ w.cell? ⟨b, o + 1, none⟩ = some (.int .i64 (opT p.t)) ∧ w.cell? ⟨b, o + 1 + 1, none⟩ = some (.string (nameT p.t)) ∧ w.cell? ⟨b, o + 1 + 1 + 1, none⟩ = some (.int .i64 (numT p.t)) ∧ w.cell? ⟨b, o + 1 + 1 + 1 + 1, none⟩ = some (.slice a n c) ∧ Ar B w p.t a n c
/-- a slice that reads as these pairs -/
def IsU (B : Nat) (w : World) (a : Option Addr) (n c : Nat) (l : List Pr) : Prop :=
  n = l.length ∧ n ≤ c ∧ c ≤ maxLen ∧ (a = none → c = 0) ∧ (0 < n → ∃ b o, a = some ⟨b, o, none⟩ ∧ b < B ∧ ∀ i p, l[i]? = some p → ∃ a' n' c', AtU B w b (o + i * 5) p a' n' c')
theorem AtU.bel {B : Nat} {w w' : World} (hb : Below B w w') {b o : Nat} (hl : b < B) {p : Pr} {a : Option Addr} {n c : Nat} (h : AtU B w b o p a n c) : AtU B w' b o p a n c :=
  ⟨(hb.cell (p := ⟨b, _, none⟩) hl).trans h.1, (hb.cell (p := ⟨b, _, none⟩) hl).trans h.2.1, (hb.cell (p := ⟨b, _, none⟩) hl).trans h.2.2.1, (hb.cell (p := ⟨b, _, none⟩) hl).trans h.2.2.2.1, (hb.cell (p := ⟨b, _, none⟩) hl).trans h.2.2.2.2.1, Ar.bel hb _ h.2.2.2.2.2⟩
theorem AtU.mono {B B' : Nat} {w : World} (hB : B ≤ B') {b o : Nat} {p : Pr} {a : Option Addr} {n c : Nat} (h : AtU B w b o p a n c) : AtU B' w b o p a n c :=
  ⟨h.1, h.2.1, h.2.2.1, h.2.2.2.1, h.2.2.2.2.1, Ar.mono hB _ h.2.2.2.2.2⟩
theorem IsU.bel {B : Nat} {w w' : World} {a : Option Addr} {n c : Nat} {l : List Pr} (h : IsU B w a n c l) (hb : Below B w w') : IsU B w' a n c l :=
  ⟨h.1, h.2.1, h.2.2.1, h.2.2.2.1, fun hn => by
    obtain ⟨b, o, ha, hlt, hr⟩ := h.2.2.2.2 hn
    exact ⟨b, o, ha, hlt, fun i p hi => by obtain ⟨a', n', c', q⟩ := hr i p hi; exact ⟨a', n', c', q.bel hb hlt⟩⟩⟩
theorem IsU.mono {B B' : Nat} {w : World} {a : Option Addr} {n c : Nat} {l : List Pr} (h : IsU B w a n c l) (hB : B ≤ B') : IsU B' w a n c l :=
  ⟨h.1, h.2.1, h.2.2.1, h.2.2.2.1, fun hn => by
    obtain ⟨b, o, ha, hlt, hr⟩ := h.2.2.2.2 hn
    exact ⟨b, o, ha, by omega, fun i p hi => by obtain ⟨a', n', c', q⟩ := hr i p hi; exact ⟨a', n', c', q.mono hB⟩⟩⟩
abbrev UsW (w : World) (a : Option Addr) (n c : Nat) (l : List Pr) : Prop := IsU w.heap.size w a n c l
theorem UsW.b {w w' : World} {a : Option Addr} {n c : Nat} {l : List Pr} (h : UsW w a n c l) (hb : Below w.heap.size w w') : UsW w' a n c l := (h.bel hb).mono hb.size
theorem UsW.nil (w : World) : UsW w none 0 0 [] := ⟨rfl, Nat.le_refl _, Nat.zero_le _, fun _ => rfl, fun h => absurd h (by omega)⟩
theorem IsU.at {B : Nat} {w : World} {a : Option Addr} {n c k : Nat} {l : List Pr} (h : IsU B w a n c l) (hk : k < n) :
    ∃ b o p a' n' c', a = some ⟨b, o, none⟩ ∧ b < B ∧ w.cell? ⟨b, o + k * 5, none⟩ = some (.string p.nm) ∧ w.cell? ⟨b, o + k * 5 + 1, none⟩ = some (.int .i64 (opT p.t)) ∧ w.cell? ⟨b, o + k * 5 + 1 + 1, none⟩ = some (.string (nameT p.t)) ∧ w.cell? ⟨b, o + k * 5 + 1 + 1 + 1, none⟩ = some (.int .i64 (numT p.t)) ∧ w.cell? ⟨b, o + k * 5 + 1 + 1 + 1 + 1, none⟩ = some (.slice a' n' c') ∧ l[k]? = some p ∧ Ar B w p.t a' n' c' := by
  obtain ⟨b, o, ha, hlt, hr⟩ := h.2.2.2.2 (by omega)
  have hk2 : k < l.length := by rw [← h.1]; exact hk
  obtain ⟨a', n', c', h0, h1, h2, h3, h4, h5⟩ := hr k l[k] (List.getElem?_eq_getElem hk2)
  exact ⟨b, o, l[k], a', n', c', ha, hlt, h0, h1, h2, h3, h4, List.getElem?_eq_getElem _, h5⟩
theorem IsU.lt63 {B : Nat} {w : World} {a : Option Addr} {n c : Nat} {l : List Pr} (h : IsU B w a n c l) : n ≤ 9223372036854775807 := by
  have h1 := h.2.1; have h2 := h.2.2.1; unfold maxLen at h2; omega
theorem drop_u {p : Pr} {l : List Pr} {k : Nat} (h : l[k]? = some p) : l.drop k = p :: l.drop (k + 1) := by
  obtain ⟨hk, rfl⟩ := List.getElem?_eq_some_iff.1 h
  exact List.drop_eq_getElem_cons hk

/-! a pair put into a block -/
def UBox (w : World) (g : Nat) (q : ByteArray) (o : Int) (s : ByteArray) (z : Int) (a : Option Addr) (n c : Nat) : Prop := Blk w g #[.string q, .int .i64 o, .string s, .int .i64 z, .slice a n c] 49
theorem UBox.five {w : World} {g : Nat} {q : ByteArray} {o : Int} {s : ByteArray} {z : Int} {a : Option Addr} {n c : Nat} (h : UBox w g q o s z a n c) :
    w.cell? ⟨g, 0, none⟩ = some (.string q) ∧ w.cell? ⟨g, 1, none⟩ = some (.int .i64 o) ∧ w.cell? ⟨g, 1 + 1, none⟩ = some (.string s) ∧ w.cell? ⟨g, 1 + 1 + 1, none⟩ = some (.int .i64 z) ∧ w.cell? ⟨g, 1 + 1 + 1 + 1, none⟩ = some (.slice a n c) := ⟨Blk.cell h 0, Blk.cell h 1, Blk.cell h 2, Blk.cell h 3, Blk.cell h 4⟩
theorem UBox.b {w w' : World} {g : Nat} {q : ByteArray} {o : Int} {s : ByteArray} {z : Int} {a : Option Addr} {n c : Nat} (h : UBox w g q o s z a n c) (hb : Below w.heap.size w w') : UBox w' g q o s z a n c := Blk.below h hb
theorem ubox1 (w : World) (q : ByteArray) (o : Int) (s : ByteArray) (z : Int) (a : Option Addr) (n c : Nat) :
    ∃ W, w.alloc (.cells #[.string q, .int .i64 o, .string s, .int .i64 z, .slice a n c] 49) = W ∧ Below w.heap.size w W ∧ W.heap.size = w.heap.size + 1 ∧ UBox W w.heap.size q o s z a n c :=
  ⟨_, rfl, bel_alloc (Below.refl _ _) _, by simp, Blk.new w _ _⟩
theorem ubox2 (w : World) (q : ByteArray) (o : Int) (s : ByteArray) (z : Int) (a : Option Addr) (n c : Nat) (q' : ByteArray) (o' : Int) (s' : ByteArray) (z' : Int) (a' : Option Addr) (n' c' : Nat) :
    ∃ W, (w.alloc (.cells #[.string q, .int .i64 o, .string s, .int .i64 z, .slice a n c] 49)).alloc (.cells #[.string q', .int .i64 o', .string s', .int .i64 z', .slice a' n' c'] 49) = W ∧ Below w.heap.size w W ∧ W.heap.size = w.heap.size + 2 ∧ UBox W w.heap.size q o s z a n c ∧ UBox W (w.heap.size + 1) q' o' s' z' a' n' c' := by
  obtain ⟨W1, h1, hb, hs, u⟩ := ubox1 w q o s z a n c
  rw [h1]
  refine ⟨_, rfl, bel_alloc hb _, by simp [hs], Blk.alloc u _, ?_⟩
  have := Blk.new W1 #[.string q', .int .i64 o', .string s', .int .i64 z', .slice a' n' c'] 49
  rwa [hs] at this
/-- a pair's value and what it reads as -/
def prV (q : ByteArray) (t : Tm) (a : Option Addr) (n c : Nat) : Value := .agg #[.string q, .int .i64 (opT t), .string (nameT t), .int .i64 (numT t), .slice a n c]
/-- are two pairs, two lists of pairs, the same? -/
def eqP (p q : Pr) : Bool := (p.nm.toList == q.nm.toList) && eqT p.t q.t
def eqPs : List Pr → List Pr → Bool
  | [], [] => true
  | p :: l, q :: m => eqP p q && eqPs l m
  | _, _ => false
theorem eqPs_len : ∀ {l m : List Pr}, l.length ≠ m.length → eqPs l m = false
  | [], [], h => absurd rfl h
  | [], _ :: _, _ => rfl
  | _ :: _, [], _ => rfl
  | p :: l, q :: m, h => by
    rw [eqPs, eqPs_len (l := l) (m := m) (by simpa using h), Bool.and_false]
end Go.Proofs.Yteedfbbcboehgaa.U
namespace Go.Proofs.Yteedfbbcboehgaa.U
open Go.RowKit L T
set_option linter.unusedVariables false
set_option linter.unusedSimpArgs false

set_option maxRecDepth 100000 in
set_option maxHeartbeats 4000000 in
theorem Pair_any (p q : Pr) (a : Option Addr) (n c : Nat) (a' : Option Addr) (n' c' : Nat) (w : World) (hA : ArW w p.t a n c) (hA' : ArW w q.t a' n' c') :
    Calls Try.prog 79 #[prV p.nm p.t a n c, prV q.nm q.t a' n' c'] w fun e w' => e = .returned (.bool (eqP p q)) ∧ Below w.heap.size w w' := by
  obtain ⟨W3, hW3, hB3, hs3, S3, R3⟩ := ubox2 w p.nm (opT p.t) (nameT p.t) (numT p.t) a n c q.nm (opT q.t) (nameT q.t) (numT q.t) a' n' c'
  have cT := Term_any p.t q.t a n c a' n' c' W3 (ArW.b hA hB3) (ArW.b hA' hB3)
  unfold eqP prV
  obtain ⟨s0, s1, s2, s3, s4⟩ := S3.five
  obtain ⟨r0, r1, r2, r3, r4⟩ := R3.five
  clear hA hA' S3 R3
  generalize hE : eqT p.t q.t = E at *
  generalize opT p.t = op at *
  generalize nameT p.t = nm at *
  generalize numT p.t = nu at *
  generalize opT q.t = op' at *
  generalize nameT q.t = nm' at *
  generalize numT q.t = nu' at *
  generalize p.nm = x at *
  generalize q.nm = y at *
  clear hE
  cases hxy : x.toList == y.toList with
  | true =>
    go_enter Try.func79, Try.ntmps79
    go_wp2_with (go_at_call 40; ((with_reducible refine cT.mono ?_); rintro e w4 ⟨rfl, hb4⟩))
    go_ret
    exact ⟨by simp, bel_trans hB3 hb4⟩
  | false =>
    clear cT
    go_enter Try.func79, Try.ntmps79
    go_wp2
    go_ret
    exact ⟨by simp, hB3⟩
set_option maxRecDepth 100000 in
set_option maxHeartbeats 4000000 in
theorem samePair_any (p q : Pr) (a : Option Addr) (n c : Nat) (a' : Option Addr) (n' c' : Nat) (w : World) (hA : ArW w p.t a n c) (hA' : ArW w q.t a' n' c') :
    Calls Try.prog 78 #[prV p.nm p.t a n c, prV q.nm q.t a' n' c'] w fun e w' => e = .returned (.bool (eqP p q)) ∧ Below w.heap.size w w' := by
  obtain ⟨W3, hW3, hB3, hs3, S3, R3⟩ := ubox2 w p.nm (opT p.t) (nameT p.t) (numT p.t) a n c q.nm (opT q.t) (nameT q.t) (numT q.t) a' n' c'
  have cT := Same_any p.t q.t a n c a' n' c' W3 (ArW.b hA hB3) (ArW.b hA' hB3)
  unfold eqP prV
  obtain ⟨s0, s1, s2, s3, s4⟩ := S3.five
  obtain ⟨r0, r1, r2, r3, r4⟩ := R3.five
  clear hA hA' S3 R3
  generalize hE : eqT p.t q.t = E at *
  generalize opT p.t = op at *
  generalize nameT p.t = nm at *
  generalize numT p.t = nu at *
  generalize opT q.t = op' at *
  generalize nameT q.t = nm' at *
  generalize numT q.t = nu' at *
  generalize p.nm = x at *
  generalize q.nm = y at *
  clear hE
  cases hxy : x.toList == y.toList with
  | true =>
    go_enter Try.func78, Try.ntmps78
    go_wp2_with (go_at_call 76; ((with_reducible refine cT.mono ?_); rintro e w4 ⟨rfl, hb4⟩))
    go_ret
    exact ⟨by simp, bel_trans hB3 hb4⟩
  | false =>
    clear cT
    go_enter Try.func78, Try.ntmps78
    go_wp2
    go_ret
    exact ⟨by simp, hB3⟩
end Go.Proofs.Yteedfbbcboehgaa.U
namespace Go.Proofs.Yteedfbbcboehgaa.U
open Go.RowKit L T
set_option linter.unusedVariables false
set_option linter.unusedSimpArgs false

set_option maxRecDepth 100000 in
set_option maxHeartbeats 4000000 in
theorem Pairs_any (l l' : List Pr) (b : Option Addr) (m d : Nat) (b' : Option Addr) (m' d' : Nat) (w : World) (hG : UsW w b m d l) (hG' : UsW w b' m' d' l') :
    Calls Try.prog 36 #[.slice b m d, .slice b' m' d'] w fun e w' => e = .returned (.bool (eqPs l l')) ∧ Below w.heap.size w w' := by
  by_cases hmm : m = m'
  · subst hmm
    have hst : ∀ k (f g : Pr), l[k]? = some f → l'[k]? = some g → eqPs (l.drop k) (l'.drop k) = (eqP f g && eqPs (l.drop (k + 1)) (l'.drop (k + 1))) := fun k f g h h2 => by rw [drop_u h, drop_u h2, eqPs]
    have he : ∀ k, m ≤ k → eqPs (l.drop k) (l'.drop k) = true := fun k h => by
      rw [List.drop_eq_nil_of_le (by rw [← hG.1]; exact h), List.drop_eq_nil_of_le (by rw [← hG'.1]; exact h)]; rfl
    have h0 : eqPs l l' = eqPs (l.drop 0) (l'.drop 0) := rfl
    have hm : m ≤ 9223372036854775807 := hG.lt63
    rw [h0]
    obtain ⟨F, hF⟩ : ∃ F : Nat → Bool, ∀ k, eqPs (l.drop k) (l'.drop k) = F k := ⟨_, fun _ => rfl⟩
    simp only [hF] at hst he ⊢
    clear hF h0
    have H1 := Lib.hid hG
    have H2 := Lib.hid hG'
    have Hst := Lib.hid hst
    have He := Lib.hid he
    clear hG hG' hst he
    go_enter Try.func36, Try.ntmps36
    go_wp2
    go_loopw [5] (fun i wr0 => ∃ (wr : World) (k : Nat), wr = wr0 ∧ k ≤ m ∧ i = .int .i64 k ∧ Below w.heap.size w wr ∧ Hid (F k = F 0)) (fun i _ => m - (intOf i).toNat)
    case atStart => exact ⟨_, 0, rfl, by omega, rfl, Below.refl _ _, Lib.hid rfl⟩
    case round =>
      obtain ⟨wr, k, rfl, hk, rfl, hB, hR⟩ := hrel
      by_cases hlt : k < m
      · obtain ⟨bb, o, p, A, M, Cc, rfl, hb, y0, y1, y2, y3, y4, hx, hok⟩ := (UsW.b H1.out hB).at hlt
        obtain ⟨bb', o', q, A', M', Cc', rfl, hb', z0, z1, z2, z3, z4, hx', hok'⟩ := (UsW.b H2.out hB).at hlt
        have hs1 := Hst.out k p q hx hx'
        have hk0 : 0 ≤ (k : Int) := by omega
        have hk1 : (k : Int) < (m : Int) := by omega
        have hBd : Below wr.heap.size wr wr.drew := (Below.refl _ _).drew
        have cs := Pair_any p q A M Cc A' M' Cc' wr.drew (ArW.b hok hBd) (ArW.b hok' hBd)
        unfold prV at cs
        clear hx hx' hok hok' H1 H2 Hst
        generalize eqP p q = Q at *
        generalize opT p.t = op at *
        generalize nameT p.t = nm at *
        generalize numT p.t = nu at *
        generalize opT q.t = op' at *
        generalize nameT q.t = nm' at *
        generalize numT q.t = nu' at *
        generalize p.nm = x at *
        generalize q.nm = y at *
        cases Q with
        | true =>
          have hnew : Hid (F (k + 1) = F 0) := by show _ = _; rw [← hR.out, hs1]; rfl
          clear hR hs1
          go_wp2_with fail
          go_region_held3 (fun w' => w'.cell? ⟨bb, o + k * 5, none⟩ = some (.string x) ∧ w'.cell? ⟨bb, o + k * 5 + 1, none⟩ = some (.int .i64 op) ∧ w'.cell? ⟨bb, o + k * 5 + 1 + 1, none⟩ = some (.string nm) ∧ w'.cell? ⟨bb, o + k * 5 + 1 + 1 + 1, none⟩ = some (.int .i64 nu) ∧ w'.cell? ⟨bb, o + k * 5 + 1 + 1 + 1 + 1, none⟩ = some (.slice A M Cc) ∧ w'.cell? ⟨bb', o' + k * 5, none⟩ = some (.string y) ∧ w'.cell? ⟨bb', o' + k * 5 + 1, none⟩ = some (.int .i64 op') ∧ w'.cell? ⟨bb', o' + k * 5 + 1 + 1, none⟩ = some (.string nm') ∧ w'.cell? ⟨bb', o' + k * 5 + 1 + 1 + 1, none⟩ = some (.int .i64 nu') ∧ w'.cell? ⟨bb', o' + k * 5 + 1 + 1 + 1 + 1, none⟩ = some (.slice A' M' Cc'))
            (first | go_keep | (exact ⟨(B4.cell hb).trans y0, (B4.cell hb).trans y1, (B4.cell hb).trans y2, (B4.cell hb).trans y3, (B4.cell hb).trans y4, (B4.cell hb').trans z0, (B4.cell hb').trans z1, (B4.cell hb').trans z2, (B4.cell hb').trans z3, (B4.cell hb').trans z4⟩))
            (first | (go_at_call 79; ((with_reducible refine cs.mono ?_); rintro e w4 ⟨rfl, hb4⟩; have B4 := bel_trans hBd hb4)))
          go_wp2
          go_roundw
          case rel => exact ⟨_, k + 1, rfl, by omega, by go_num, bel_trans hB B4, hnew⟩
          case measure => simp [intOf]; omega
        | false =>
          have hnew : Hid (false = F 0) := by show _ = _; rw [← hR.out, hs1]; rfl
          clear hR hs1
          go_wp2_with fail
          go_region_held3 (fun w' => w'.cell? ⟨bb, o + k * 5, none⟩ = some (.string x) ∧ w'.cell? ⟨bb, o + k * 5 + 1, none⟩ = some (.int .i64 op) ∧ w'.cell? ⟨bb, o + k * 5 + 1 + 1, none⟩ = some (.string nm) ∧ w'.cell? ⟨bb, o + k * 5 + 1 + 1 + 1, none⟩ = some (.int .i64 nu) ∧ w'.cell? ⟨bb, o + k * 5 + 1 + 1 + 1 + 1, none⟩ = some (.slice A M Cc) ∧ w'.cell? ⟨bb', o' + k * 5, none⟩ = some (.string y) ∧ w'.cell? ⟨bb', o' + k * 5 + 1, none⟩ = some (.int .i64 op') ∧ w'.cell? ⟨bb', o' + k * 5 + 1 + 1, none⟩ = some (.string nm') ∧ w'.cell? ⟨bb', o' + k * 5 + 1 + 1 + 1, none⟩ = some (.int .i64 nu') ∧ w'.cell? ⟨bb', o' + k * 5 + 1 + 1 + 1 + 1, none⟩ = some (.slice A' M' Cc'))
            (first | go_keep | (exact ⟨(B4.cell hb).trans y0, (B4.cell hb).trans y1, (B4.cell hb).trans y2, (B4.cell hb).trans y3, (B4.cell hb).trans y4, (B4.cell hb').trans z0, (B4.cell hb').trans z1, (B4.cell hb').trans z2, (B4.cell hb').trans z3, (B4.cell hb').trans z4⟩))
            (first | (go_at_call 79; ((with_reducible refine cs.mono ?_); rintro e w4 ⟨rfl, hb4⟩; have B4 := bel_trans hBd hb4)))
          go_wp2
          go_ret
          exact ⟨oneB hnew.out, bel_trans hB B4⟩
      · have hnew : Hid (true = F 0) := by show _ = _; rw [← hR.out, He.out k (by omega)]
        clear hR
        go_wp2
        go_ret
        exact ⟨oneB hnew.out, hB⟩
  · have hf : Hid (false = eqPs l l') := (eqPs_len (by rw [← hG.1, ← hG'.1]; exact hmm)).symm
    have n1 : ((m : Int) != (m' : Int)) = true := by simp; omega
    clear hG hG' hmm
    go_enter Try.func36, Try.ntmps36
    go_wp2
    go_ret
    exact ⟨oneB hf.out, Below.refl _ _⟩
set_option maxRecDepth 100000 in
set_option maxHeartbeats 4000000 in
theorem equalPairs_any (l l' : List Pr) (b : Option Addr) (m d : Nat) (b' : Option Addr) (m' d' : Nat) (w : World) (hG : UsW w b m d l) (hG' : UsW w b' m' d' l') :
    Calls Try.prog 77 #[.slice b m d, .slice b' m' d', .func (.func 78) #[] #[]] w fun e w' => e = .returned (.bool (eqPs l l')) ∧ Below w.heap.size w w' := by
  by_cases hmm : m = m'
  · subst hmm
    have hst : ∀ k (f g : Pr), l[k]? = some f → l'[k]? = some g → eqPs (l.drop k) (l'.drop k) = (eqP f g && eqPs (l.drop (k + 1)) (l'.drop (k + 1))) := fun k f g h h2 => by rw [drop_u h, drop_u h2, eqPs]
    have he : ∀ k, m ≤ k → eqPs (l.drop k) (l'.drop k) = true := fun k h => by
      rw [List.drop_eq_nil_of_le (by rw [← hG.1]; exact h), List.drop_eq_nil_of_le (by rw [← hG'.1]; exact h)]; rfl
    have h0 : eqPs l l' = eqPs (l.drop 0) (l'.drop 0) := rfl
    have hm : m ≤ 9223372036854775807 := hG.lt63
    rw [h0]
    obtain ⟨F, hF⟩ : ∃ F : Nat → Bool, ∀ k, eqPs (l.drop k) (l'.drop k) = F k := ⟨_, fun _ => rfl⟩
    simp only [hF] at hst he ⊢
    clear hF h0
    have H1 := Lib.hid hG
    have H2 := Lib.hid hG'
    have Hst := Lib.hid hst
    have He := Lib.hid he
    clear hG hG' hst he
    go_enter Try.func77, Try.ntmps77
    go_wp2
    go_loopw [17] (fun i wr0 => ∃ (wr : World) (k : Nat), wr = wr0 ∧ k ≤ m ∧ i = .int .i64 k ∧ Below w.heap.size w wr ∧ Hid (F k = F 0)) (fun i _ => m - (intOf i).toNat)
    case atStart => exact ⟨_, 0, rfl, by omega, rfl, Below.refl _ _, Lib.hid rfl⟩
    case round =>
      obtain ⟨wr, k, rfl, hk, rfl, hB, hR⟩ := hrel
      by_cases hlt : k < m
      · obtain ⟨bb, o, p, A, M, Cc, rfl, hb, y0, y1, y2, y3, y4, hx, hok⟩ := (UsW.b H1.out hB).at hlt
        obtain ⟨bb', o', q, A', M', Cc', rfl, hb', z0, z1, z2, z3, z4, hx', hok'⟩ := (UsW.b H2.out hB).at hlt
        have hs1 := Hst.out k p q hx hx'
        have hk0 : 0 ≤ (k : Int) := by omega
        have hk1 : (k : Int) < (m : Int) := by omega
        obtain ⟨W3, hW3, hB3, hs3, F3, G3⟩ := ubox2 wr p.nm (opT p.t) (nameT p.t) (numT p.t) A M Cc q.nm (opT q.t) (nameT q.t) (numT q.t) A' M' Cc'
        have cs := samePair_any p q A M Cc A' M' Cc' W3 (ArW.b hok hB3) (ArW.b hok' hB3)
        unfold prV at cs
        have B3 := bel_trans hB hB3
        obtain ⟨f0, f1, f2, f3, f4⟩ := F3.five
        obtain ⟨h0, h1, h2, h3, h4⟩ := G3.five
        have hA : Below wr.heap.size wr (wr.alloc (.cells #[.string p.nm, .int .i64 (opT p.t), .string (nameT p.t), .int .i64 (numT p.t), .slice A M Cc] 49)) := bel_alloc (Below.refl _ _) _
        have v0 := (hA.cell hb').trans z0
        have v1 := (hA.cell hb').trans z1
        have v2 := (hA.cell hb').trans z2
        have v3 := (hA.cell hb').trans z3
        have v4 := (hA.cell hb').trans z4
        clear hx hx' hok hok' H1 H2 Hst hA F3 G3
        generalize eqP p q = Q at *
        generalize opT p.t = op at *
        generalize nameT p.t = nm at *
        generalize numT p.t = nu at *
        generalize opT q.t = op' at *
        generalize nameT q.t = nm' at *
        generalize numT q.t = nu' at *
        generalize p.nm = x at *
        generalize q.nm = y at *
        cases Q with
        | true =>
          have hnew : Hid (F (k + 1) = F 0) := by show _ = _; rw [← hR.out, hs1]; rfl
          clear hR hs1
          go_wp2_with (go_at_call 78; ((with_reducible refine cs.mono ?_); rintro e w4 ⟨rfl, hb4⟩))
          go_roundw
          case rel => exact ⟨_, k + 1, rfl, by omega, by go_num, bel_trans B3 hb4, hnew⟩
          case measure => simp [intOf]; omega
        | false =>
          have hnew : Hid (false = F 0) := by show _ = _; rw [← hR.out, hs1]; rfl
          clear hR hs1
          go_wp2_with (go_at_call 78; ((with_reducible refine cs.mono ?_); rintro e w4 ⟨rfl, hb4⟩))
          go_ret
          exact ⟨oneB hnew.out, bel_trans B3 hb4⟩
      · have hnew : Hid (true = F 0) := by show _ = _; rw [← hR.out, He.out k (by omega)]
        clear hR
        go_wp2
        go_ret
        exact ⟨oneB hnew.out, hB⟩
  · have hf : Hid (false = eqPs l l') := (eqPs_len (by rw [← hG.1, ← hG'.1]; exact hmm)).symm
    have n1 : ((m : Int) != (m' : Int)) = true := by simp; omega
    clear hG hG' hmm
    go_enter Try.func77, Try.ntmps77
    go_wp2
    go_ret
    exact ⟨oneB hf.out, Below.refl _ _⟩
theorem SameU_any (l l' : List Pr) (b : Option Addr) (m d : Nat) (b' : Option Addr) (m' d' : Nat) (w : World) (hG : UsW w b m d l) (hG' : UsW w b' m' d' l') :
    Calls Try.prog 35 #[.slice b m d, .slice b' m' d'] w fun e w' => e = .returned (.bool (eqPs l l')) ∧ Below w.heap.size w w' := by
  have cE := equalPairs_any l l' b m d b' m' d' w hG hG'
  clear hG hG'
  generalize eqPs l l' = Q at *
  go_enter Try.func35, Try.ntmps35
  go_wp2_with (go_at_call 77; ((with_reducible refine cE.mono ?_); rintro e w4 ⟨rfl, hb4⟩))
  go_ret
  exact ⟨rfl, hb4⟩
end Go.Proofs.Yteedfbbcboehgaa.U
