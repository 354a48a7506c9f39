/-
  What is proved: memory of package cnf's reader; appends of one row more in a region that draws its order; which zero is the last number.
-/
import Derived.Test.YthchjceibpcgbaaGreatDoorZCpN
import Derived.Test.YthchjceibpcgbaaGreatDoorZCpA
import Derived.Test.YthchjceibpcgbaaGreatDoorCB
import Derived.Deep.AppendLies
namespace Go.Proofs.YthchjceibpcgbaaGreatDoor.Cn
open Go.RowKit L Lt
set_option linter.unusedVariables false
set_option linter.unusedSimpArgs false

/-- append(s, x) inside a region that draws: s a row of the call's own, x one row that lies apart from it -/
theorem step_app_grid {ops : Array Oper} {o : Oper} {a : Act} {w : World} {K : Act → World → Prop} {Q : Exit → Act → World → Prop} {Z : Prop} (hgd : o.guard = none) (s x : Operand)
    (ho : o.op = .call { callee := .builtin .append, args := #[s, x], argTypes := #[22, 22] })
    (base : Nat) (v : Value) (G : List (List Int)) (hs : a.eval s = v) (hown : OwnG w base v G) (ad : Addr) (c : Nat) (u : Value) (X : List Int) (hx : a.eval x = .slice (some ad) 1 c) (hu : w.cell? ad = some u) (hX : RwI (fun b => base ≤ b ∧ b < w.heap.size ∧ v.ownBlock ≠ some b) w u X)
    (hn : G.length + 1 ≤ 1000000000) (hbase : base ≤ w.heap.size)
    (h : ∀ g cap w', OwnG w' base (.slice (some ⟨g, 0, none⟩) (G.length + 1) cap) (G ++ [X]) → w.grownBy w' v.ownBlock → g < w'.heap.size → K (a.put o.dst (.slice (some ⟨g, 0, none⟩) (G.length + 1) cap)) w') :
    if Region.wanted o (yielded ops a.tmps) = true then Oper.wp Tryz.prog o a w K Q else Z := by
  obtain ⟨i0, hi, hz0, hz1, hz2⟩ := info_parts rowI
  obtain ⟨us, hy1, hy2, hy3⟩ := hown
  have hul : us.length = G.length := hy2
  refine step_append_lies w hgd s x 22 ho base 34 i0 _ 1 24 Tryz.underlying22 hi hz0 hz1 hz2 rfl (by decide) v us.length us hs hy1 ad 1 c [u] hx rfl (fun j u' hj => ?_) (fun u' hu' => ?_) (by omega) (by unfold maxLen; omega) (by omega) hbase w.heap.size rfl fun g cap w' h1 h2 h4 h5 => ?_
  · have : j = 0 := by have := (List.getElem?_eq_some_iff.1 hj).1; simp at this; omega
    subst this
    have : u = u' := by simpa using hj
    subst this
    have : ad.add 0 = ad := by unfold Addr.add; cases ad; simp
    rw [this]; exact hu
  · obtain rfl : u' = u := by simpa using hu'
    exact hX.one
  · rw [hul] at h1 ⊢
    refine h g cap w' ⟨us ++ [u], by rw [List.length_append, hul]; exact h1, by simp [hy2], fun i u' X' e1 e2 => ?_⟩ h2 h5
    have hto : ∀ b, base ≤ b ∧ b < w.heap.size ∧ v.ownBlock ≠ some b → base ≤ b ∧ b < w'.heap.size ∧ (Value.slice (some ⟨g, 0, none⟩) (G.length + 1) cap).ownBlock ≠ some b := fun b hp => ⟨hp.1, Nat.lt_of_lt_of_le hp.2.1 h2.size, fun e => by
      have e : some g = some b := e
      rcases h4 with h4 | h4
      · exact hp.2.2 (h4.trans e)
      · injection e with e; have := hp.2.1; omega⟩
    rcases Nat.lt_or_ge i us.length with hlt | hge
    · rw [List.getElem?_append_left hlt] at e1
      rw [List.getElem?_append_left (by rw [← hy2]; exact hlt)] at e2
      exact (hy3 i u' X' e1 e2).to (fun b hp => h2.block b hp.2.1 (fun e => hp.2.2 e.symm)) hto
    · rw [List.getElem?_append_right hge] at e1
      rw [List.getElem?_append_right (by rw [← hy2]; exact hge), ← hy2] at e2
      have h0 : i - us.length = 0 := by have := (List.getElem?_eq_some_iff.1 e1).1; simp at this; omega
      rw [h0] at e1 e2
      obtain rfl : u = u' := by simpa using e1
      obtain rfl : X = X' := by simpa using e2
      exact hX.to (fun b hp => h2.block b hp.2.1 (fun e => hp.2.2 e.symm)) hto

/-- what a reader in block b holds -/
def RM2 (b : Nat) (w : World) (n : Int) (A : Option Addr) (r c : Nat) (G : List (List Int)) (cl : Int) : Prop := Blk w b #[.int .i64 n, .slice A r c, .int .i64 cl] 74 ∧ OwnG w (b + 1) (.slice A r c) G ∧ r = G.length
theorem RM2.cells {b : Nat} {w : World} {n : Int} {A : Option Addr} {r c : Nat} {G : List (List Int)} {cl : Int} (h : RM2 b w n A r c G cl) : w.cell? ⟨b, 0, none⟩ = some (.int .i64 n) ∧ w.cell? ⟨b, 1, none⟩ = some (.slice A r c) ∧ w.cell? ⟨b, 2, none⟩ = some (.int .i64 cl) := ⟨Blk.cell h.1 0, Blk.cell h.1 1, Blk.cell h.1 2⟩
theorem RM2.free {b : Nat} {w : World} {n : Int} {A : Option Addr} {r c : Nat} {G : List (List Int)} {cl : Int} (h : RM2 b w n A r c G cl) : w.frozen? ⟨b, 0, none⟩ = false ∧ w.frozen? ⟨b, 1, none⟩ = false ∧ w.frozen? ⟨b, 2, none⟩ = false := ⟨Blk.free h.1 0, Blk.free h.1 1, Blk.free h.1 2⟩
theorem RM2.b {b : Nat} {w w' : World} {n : Int} {A : Option Addr} {r c : Nat} {G : List (List Int)} {cl : Int} (h : RM2 b w n A r c G cl) (hb : Below w.heap.size w w') : RM2 b w' n A r c G cl := ⟨Blk.below h.1 hb, h.2.1.below hb, h.2.2⟩
theorem RM2.drew {b : Nat} {w : World} {n : Int} {A : Option Addr} {r c : Nat} {G : List (List Int)} {cl : Int} (h : RM2 b w n A r c G cl) : RM2 b w.drew n A r c G cl := h.b (Below.refl _ _).drew
theorem RM2.put0 {b : Nat} {w : World} {n : Int} {A : Option Addr} {r c : Nat} {G : List (List Int)} {cl : Int} (h : RM2 b w n A r c G cl) (p : Int) : RM2 b (w.setCell ⟨b, 0, none⟩ (.int .i64 p)) p A r c G cl := ⟨Blk.set h.1 0 _, h.2.1.far (Nat.lt_succ_self _) 0 _, h.2.2⟩
theorem RM2.put2 {b : Nat} {w : World} {n : Int} {A : Option Addr} {r c : Nat} {G : List (List Int)} {cl : Int} (h : RM2 b w n A r c G cl) (p : Int) : RM2 b (w.setCell ⟨b, 2, none⟩ (.int .i64 p)) n A r c G p := ⟨Blk.set h.1 2 _, h.2.1.far (Nat.lt_succ_self _) 2 _, h.2.2⟩
theorem RM2.lt {b : Nat} {w : World} {n : Int} {A : Option Addr} {r c : Nat} {G : List (List Int)} {cl : Int} (h : RM2 b w n A r c G cl) : b < w.heap.size := Blk.lt h.1

theorem idx_last1 (x : Int) : ∀ (m : List Int) (i : Nat), Lib.idxFrom (m ++ [x]) 0 i = ((i + m.length : Nat) : Int) ↔ x = 0 ∧ m.any (· == 0) = false
  | [], i => by
    rw [List.nil_append, Lib.idxFrom]
    by_cases h : x = 0
    · simp [h]
    · simp [h, Lib.idxFrom]
  | z :: m, i => by
    rw [List.cons_append, Lib.idxFrom]
    by_cases h : z = 0
    · simp [h]; intro h2; omega
    · have ih := idx_last1 x m (i + 1)
      rw [show i + (z :: m).length = i + 1 + m.length by simp; omega]
      simpa [h] using ih
theorem idx_last {l : List Int} (h : l ≠ []) : Lib.idxOf l 0 = (l.length : Int) - 1 ↔ l.getLast? = some 0 ∧ l.dropLast.any (· == 0) = false := by
  rcases List.eq_nil_or_concat l with rfl | ⟨m, x, rfl⟩
  · exact absurd rfl h
  · have := idx_last1 x m 0
    rw [Nat.zero_add] at this
    unfold Lib.idxOf
    rw [List.concat_eq_append, List.dropLast_concat, List.getLast?_concat, List.length_append]
    rw [show ((m.length + [x].length : Nat) : Int) - 1 = (m.length : Nat) by simp, this]
    simp
end Go.Proofs.YthchjceibpcgbaaGreatDoor.Cn
