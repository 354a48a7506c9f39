/-
  What is proved: package tree's Mapped over a list of claims, with any function that makes a claim in new memory.
-/
import Derived.Test.YtnhemglpbhnmdaaGreatBB
import Derived.Test.YtnhemglpbhnmdaaGreatBC
namespace Go.Proofs.YtnhemglpbhnmdaaGreat.U
open Go.RowKit L T C B
set_option linter.unusedVariables false
set_option linter.unusedSimpArgs false

/-- a function that makes of each of these claims another one, in new memory -/
def MapClosC (F : Nat) (caps : Array Value) (f : Cl → Cl) (l : List Cl) (w0 : World) : Prop :=
  ∀ x ∈ l, ∀ (k : SS) (a : Option Addr) (n c : Nat) (w : World), Below w0.heap.size w0 w → ArWC w x k a n c →
    Calls Tryz.prog F (#[.agg #[.int .i64 (opC x), .string (nmC x), .string (soC x), .slice k.a k.n k.c, .slice a n c]] ++ caps) w fun e w' => RtC (f x) w e w'
theorem hdC_to {P Q : Nat → Prop} {w w' : World} {h : Hc} {t : Cl} (hh : HdC P w h t) (hb : ∀ b, P b → w'.heap[b]? = w.heap[b]?) (hq : ∀ b, P b → Q b) : HdC Q w' h t := ⟨hh.1, ArCP.to hb hq _ hh.2⟩
/-- a list of claims read in blocks of a kind -/
def CsP (P : Nat → Prop) (w : World) (A : Option Addr) (n c : Nat) (l : List Cl) : Prop := n = l.length ∧ n ≤ c ∧ c ≤ maxLen ∧ (A = none → c = 0) ∧ (0 < n → ∃ b o, A = some ⟨b, o, none⟩ ∧ P b ∧ RwCP P w b o l)
/-- what has been made so far -/
def PartCP (w0 : World) (g : Nat) (lr : List Cl) (m k : Nat) (wr : World) : Prop :=
  ∃ hs, hs.length = k ∧ OwnC wr w0.heap.size (.slice (some ⟨g, 0, none⟩) m m) (hs ++ List.replicate (m - k) Hc.zero) ∧ ∀ (j : Nat) (h : Hc) (t : Cl), hs[j]? = some h → lr[j]? = some t → HdC (fun b => g < b ∧ b < wr.heap.size) wr h t
theorem PartCP.go {w0 wr w4 w5 : World} {g : Nat} {lr : List Cl} {x : Cl} {m k : Nat} {K0 : Option Addr} {K1 K2 : Nat} {a : Option Addr} {n c : Nat} (hp : PartCP w0 g lr m k wr) (hk : k < m) (hx : lr[k]? = some x) (h4 : Below wr.heap.size wr w4) (h5 : Below w4.heap.size w4 w5) (hA : ArCP (Nw 0 0 w4.heap.size w5.heap.size) w5 x ⟨K0, K1, K2⟩ a n c) :
    (w5.cell? ⟨g, k * 5, none⟩ = some (.int .i64 0) ∧ w5.cell? ⟨g, k * 5 + 1, none⟩ = some (.string ⟨#[]⟩) ∧ w5.cell? ⟨g, k * 5 + 2, none⟩ = some (.string ⟨#[]⟩) ∧ w5.cell? ⟨g, k * 5 + 3, none⟩ = some (.slice none 0 0) ∧ w5.cell? ⟨g, k * 5 + 4, none⟩ = some (.slice none 0 0)) ∧ (w5.frozen? ⟨g, k * 5, none⟩ = false ∧ w5.frozen? ⟨g, k * 5 + 1, none⟩ = false ∧ w5.frozen? ⟨g, k * 5 + 2, none⟩ = false ∧ w5.frozen? ⟨g, k * 5 + 3, none⟩ = false ∧ w5.frozen? ⟨g, k * 5 + 4, none⟩ = false) ∧ Hid (PartCP w0 g lr m (k + 1) (set5 w5 g k (hcOf x ⟨K0, K1, K2⟩ a n c))) := by
  obtain ⟨hs, hl, ho, hfr⟩ := hp
  have b5 := bel_trans h4 h5
  have hgl : g < wr.heap.size := ho.row.lt
  have q4 := h4.size
  have q5 := h5.size
  have hlt : k < (hs ++ List.replicate (m - k) Hc.zero).length := by rw [List.length_append, List.length_replicate]; omega
  obtain ⟨z0, z1, z2, z3, z4⟩ := ho.at hlt
  have e : (hs ++ List.replicate (m - k) Hc.zero)[k] = Hc.zero := by
    rw [List.getElem_append_right (by omega), List.getElem_replicate]
  rw [e] at z0 z1 z2 z3 z4
  have hz := fun j => ho.row.free j
  have ho5 := (ho.below b5).set k (hcOf x ⟨K0, K1, K2⟩ a n c) (by rw [List.length_append, List.length_replicate]; omega)
  refine ⟨⟨(b5.cell (p := ⟨g, _, none⟩) hgl).trans z0, (b5.cell (p := ⟨g, _, none⟩) hgl).trans z1, (b5.cell (p := ⟨g, _, none⟩) hgl).trans z2, (b5.cell (p := ⟨g, _, none⟩) hgl).trans z3, (b5.cell (p := ⟨g, _, none⟩) hgl).trans z4⟩, ⟨(b5.frozen (p := ⟨g, _, none⟩) hgl).trans (hz _), (b5.frozen (p := ⟨g, _, none⟩) hgl).trans (hz _), (b5.frozen (p := ⟨g, _, none⟩) hgl).trans (hz _), (b5.frozen (p := ⟨g, _, none⟩) hgl).trans (hz _), (b5.frozen (p := ⟨g, _, none⟩) hgl).trans (hz _)⟩, Lib.hid ⟨hs ++ [hcOf x ⟨K0, K1, K2⟩ a n c], by simp [hl], ?_, fun j h t e1 e2 => ?_⟩⟩
  · rw [show m - k = m - (k + 1) + 1 by omega, ← hl, list_step, hl] at ho5
    exact ho5
  · rw [set5_size]
    rcases Nat.lt_or_ge j hs.length with hj | hj
    · rw [List.getElem?_append_left hj] at e1
      exact hdC_to (hfr j h t e1 e2) (fun b hb => (set5_other w5 g k b _ (by omega)).trans (b5.block b hb.2)) (fun b hb => ⟨hb.1, by omega⟩)
    · have hjl : j < (hs ++ [hcOf x ⟨K0, K1, K2⟩ a n c]).length := (List.getElem?_eq_some_iff.1 e1).1
      have hjk : j = k := by simp at hjl; omega
      subst hjk
      rw [List.getElem?_append_right hj] at e1
      have e3 : j - hs.length = 0 := by omega
      rw [e3] at e1
      simp only [List.getElem?_cons_zero, Option.some.injEq] at e1
      rw [hx] at e2
      injection e2 with e2
      subst e1 e2
      exact ⟨⟨rfl, rfl, rfl⟩, ArCP.to (fun b hb => set5_other w5 g j b _ (by unfold Nw at hb; omega)) (fun b hb => by unfold Nw at hb; omega) x hA⟩
theorem PartCP.done {w0 wr : World} {g : Nat} {lr : List Cl} {m : Nat} (hp : PartCP w0 g lr m m wr) (hm : lr.length = m) (hg : w0.heap.size ≤ g) (hc : m ≤ maxLen) : CsP (Nw 0 0 w0.heap.size wr.heap.size) wr (some ⟨g, 0, none⟩) m m lr := by
  obtain ⟨hs, hl, ho, hfr⟩ := hp
  rw [Nat.sub_self, List.replicate_zero, List.append_nil] at ho
  have hgl := ho.row.lt
  refine ⟨hm.symm, Nat.le_refl _, hc, (fun h => by cases h), fun _ => ⟨g, 0, rfl, Or.inr ⟨hg, hgl⟩, ?_⟩⟩
  refine rowC_rwCP ho.row (by omega) fun j hj hj2 => ?_
  exact hdC_to (hfr j _ _ (List.getElem?_eq_getElem hj2) (List.getElem?_eq_getElem hj)) (fun _ _ => rfl) (fun b hb => by unfold Nw; omega)
set_option maxRecDepth 100000 in
set_option maxHeartbeats 4000000 in
theorem mappedC_any (F : Nat) (caps : Array Value) (hE : ∀ (args : Array Value) (w : World), (callFunc F args).run Tryz.prog w = .ok (.enter F args) w) (f : Cl → Cl) (l : List Cl) (b : Option Addr) (m d : Nat) (w : World) (hF : MapClosC F caps f l w) (hm : m ≤ 1000000) (hG : CsW w b m d l) :
    Calls Tryz.prog 93 #[.slice b m d, .func (.func F) #[] caps] w fun e w' => ∃ A C, e = .returned (.slice A m C) ∧ CsP (Nw 0 0 w.heap.size w'.heap.size) w' A m C (l.map f) ∧ Below w.heap.size w w' := by
  by_cases hm0 : m = 0
  · subst hm0
    have hl : l = [] := List.length_eq_zero_iff.1 hG.1.symm
    subst hl
    clear hG hF
    go_enter Tryz.func93, Tryz.ntmps93
    go_wp2
    go_ret
    exact ⟨_, _, rfl, ⟨rfl, Nat.le_refl _, Nat.zero_le _, fun _ => rfl, fun h => absurd h (by omega)⟩, Below.refl _ _⟩
  · have hmk := make_claims m hm w
    have hmd := made_claims m hm w
    obtain ⟨W1, hW1⟩ : ∃ W1, w.alloc (.cells (madeCells #[.int .i64 0, .string ⟨#[]⟩, .string ⟨#[]⟩, .slice none 0 0, .slice none 0 0] (m * 5)) 25) = W1 := ⟨_, rfl⟩
    rw [hW1] at hmk hmd
    have hB1 : Below w.heap.size w W1 := by rw [← hW1]; exact bel_alloc (Below.refl _ _) _
    have hm1 : ((m : Int) == 0) = false := by simp; omega
    have P0 : PartCP w w.heap.size (l.map f) m 0 W1 := ⟨[], rfl, by simpa using hmd, fun j h t e => by simp at e⟩
    have HT := Lib.hid hG
    have HK := Lib.hid (show ∀ k x, l[k]? = some x → (∀ (ks : SS) (a : Option Addr) (n c : Nat) (w2 : World), Below w.heap.size w w2 → ArWC w2 x ks a n c → Calls Tryz.prog F (#[.agg #[.int .i64 (opC x), .string (nmC x), .string (soC x), .slice ks.a ks.n ks.c, .slice a n c]] ++ caps) w2 fun e w' => RtC (f x) w2 e w') ∧ (l.map f)[k]? = some (f x) from fun k x h => ⟨hF x (List.mem_of_getElem? h), by rw [List.getElem?_map, h]; rfl⟩)
    have HP0 := Lib.hid P0
    have HL := Lib.hid (show (l.map f).length = m by rw [List.length_map]; exact hG.1.symm)
    clear hG hF hmd P0 hW1
    generalize l.map f = lr at *
    go_enter Tryz.func93, Tryz.ntmps93
    go_wp2
    go_loopw [16] (fun i wr0 => ∃ (wr : World) (k : Nat), wr = wr0 ∧ k ≤ m ∧ i = .int .i64 k ∧ Below w.heap.size w wr ∧ Hid (PartCP w w.heap.size lr m k wr)) (fun i _ => m - (intOf i).toNat)
    case atStart => exact ⟨_, 0, rfl, by omega, rfl, hB1, HP0⟩
    case round =>
      obtain ⟨wr, k, rfl, hk, rfl, hB, hR⟩ := hrel
      by_cases hlt : k < m
      · obtain ⟨bb, o, x, ⟨k0, k1, k2⟩, A, M, Cc, rfl, hb, y0, y1, y2, y3, y4, hx, hok⟩ := (CsW.b HT.out hB).at hlt
        dsimp only at y3
        obtain ⟨W4, hW4, hB4, hs4, S4⟩ := cbox1 wr (opC x) (nmC x) (soC x) ⟨k0, k1, k2⟩ A M Cc
        obtain ⟨hck, hxr⟩ := HK.out k x hx
        have cc := hck ⟨k0, k1, k2⟩ A M Cc W4 (bel_trans hB hB4) (ArWC.b hok hB4)
        unfold RtC at cc
        obtain ⟨f0, f1, f2, f3, f4⟩ := S4.five
        have B4 := bel_trans hB hB4
        have Hx := Lib.hid hxr
        clear hx hxr hok HK S4 hck
        dsimp only at f3 cc hW4
        generalize f x = xr at *
        generalize opC x = op' at *
        generalize nmC x = nm' at *
        generalize soC x = nu' at *
        have hk0 : 0 ≤ (k : Int) := by omega
        have hk1 : (k : Int) < (m : Int) := by omega
        go_wp2_with ((with_reducible refine cc.mono ?_); rintro e w5 ⟨K0, K1, K2, a5, n5, c5, rfl, hF, hb5⟩; obtain ⟨⟨q0, q1, q2, q3, q4⟩, ⟨g0, g1, g2, g3, g4⟩, Hn⟩ := PartCP.go hR.out hlt Hx.out hB4 hb5 hF; clear hF)
        go_roundw
        case rel => exact ⟨_, k + 1, rfl, by omega, by go_num, set5_below (bel_trans B4 hb5) (Nat.le_refl _) k (hcOf xr ⟨K0, K1, K2⟩ a5 n5 c5), Hn⟩
        case measure => simp [intOf]; omega
      · obtain rfl : k = m := by omega
        have hcap : k ≤ maxLen := by unfold maxLen; omega
        have Hd := Lib.hid (PartCP.done hR.out HL.out (Nat.le_refl _) hcap)
        clear hR hcap
        go_wp2
        go_ret
        exact ⟨_, _, rfl, Hd.out, hB⟩
end Go.Proofs.YtnhemglpbhnmdaaGreat.U
