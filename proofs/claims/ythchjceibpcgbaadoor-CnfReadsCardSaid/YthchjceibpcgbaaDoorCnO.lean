/-
  What is proved: rows of rows of integers of the call's own, and appends of one row more.
-/
import Derived.Test.YthchjceibpcgbaaDoorCnA
namespace Go.Proofs.YthchjceibpcgbaaDoor.Cn
open Go.RowKit L Lt
set_option linter.unusedVariables false
set_option linter.unusedSimpArgs false
set_option maxRecDepth 100000

/-- a slice value that reads as a list of integers in a block of a kind -/
def RwI (P : Nat → Prop) (w : World) (u : Value) (X : List Int) : Prop := ∃ A m k, u = .slice A m k ∧ SlI w A m k X ∧ (0 < m → ∀ ad, A = some ad → P ad.block)
theorem RwI.to {P Q : Nat → Prop} {w w' : World} {u : Value} {X : List Int} (h : RwI P w u X) (hb : ∀ b, P b → w'.heap[b]? = w.heap[b]?) (hq : ∀ b, P b → Q b) : RwI Q w' u X := by
  obtain ⟨A, m, k, e, hS, hP⟩ := h
  refine ⟨A, m, k, e, ⟨hS.1, hS.2.1, hS.2.2.1, fun hm => ?_⟩, fun hm ad ha => hq _ (hP hm ad ha)⟩
  obtain ⟨b, o, ha, hlt, hr⟩ := hS.2.2.2 hm
  have hB := hb b (hP hm _ ha)
  refine ⟨b, o, ha, ?_, fun i hi => (World.cell?_of_block hB).trans (hr i hi)⟩
  have : w.heap[b]? = some w.heap[b] := Array.getElem?_eq_getElem hlt
  rw [this] at hB
  exact (Array.getElem?_eq_some_iff.1 hB).1
theorem RwI.one {P : Nat → Prop} {w : World} {u : Value} {X : List Int} (h : RwI P w u X) : u.oneCell' = true := by
  obtain ⟨A, m, k, rfl, _⟩ := h; rfl
theorem rowI : (Tryd.prog.info? 38).map (fun i => (i.zero, i.size, i.bytes)) = some (some (.slice none 0 0), 1, 24) := by kernel_rfl
/-- a row of the call's own, of rows that lie apart from it -/
def OwnG (w : World) (lo : Nat) (v : Value) (G : List (List Int)) : Prop := ∃ us, w.ownsRow lo 38 1 v us.length us ∧ us.length = G.length ∧ ∀ (i : Nat) (u : Value) (X : List Int), us[i]? = some u → G[i]? = some X → RwI (fun b => lo ≤ b ∧ b < w.heap.size ∧ v.ownBlock ≠ some b) w u X
theorem OwnG.nil (w : World) (lo : Nat) : OwnG w lo (.slice none 0 0) [] := ⟨[], World.ownsRow_nil _ _ _ _, rfl, fun i u X hi => by simp at hi⟩
theorem own_block {w w' : World} {lo n : Nat} {v : Value} {us : List Value} (h : w.ownsRow lo 38 1 v n us) (hb : ∀ k, lo ≤ k → k < w.heap.size → w'.heap[k]? = w.heap[k]?) : w'.ownsRow lo 38 1 v n us := by
  refine ⟨h.1, ?_⟩
  rcases h.2 with hn | ⟨g, cap, cur, rfl, h1, hg, rest⟩
  · exact .inl hn
  · exact .inr ⟨g, cap, cur, rfl, h1, by rw [hb g h1 (Array.getElem?_eq_some_iff.1 hg).1]; exact hg, rest⟩
theorem OwnG.below {w w' : World} {lo : Nat} {v : Value} {G : List (List Int)} (h : OwnG w lo v G) (hb : Below w.heap.size w w') : OwnG w' lo v G := by
  obtain ⟨us, h1, h2, h3⟩ := h
  exact ⟨us, own_block h1 (fun k _ hk => hb.block k hk), h2, fun i u X e1 e2 => (h3 i u X e1 e2).to (fun b hp => hb.block b hp.2.1) (fun b hp => ⟨hp.1, Nat.lt_of_lt_of_le hp.2.1 hb.size, hp.2.2⟩)⟩
theorem OwnG.lt {w : World} {lo : Nat} {v : Value} {G : List (List Int)} (h : OwnG w lo v G) : ∀ q, v.ownBlock = some q → lo ≤ q ∧ q < w.heap.size := by
  obtain ⟨us, h1, h2, h3⟩ := h
  exact fun q hq => World.ownsRow.lt h1 q hq
/-- a store below the base leaves the row -/
theorem OwnG.far {w : World} {lo x : Nat} {v : Value} {G : List (List Int)} (h : OwnG w lo v G) (hx : x < lo) (k : Nat) (u : Value) : OwnG (w.setCell ⟨x, k, none⟩ u) lo v G := by
  obtain ⟨us, h1, h2, h3⟩ := h
  have hh : ∀ b, lo ≤ b → (w.setCell ⟨x, k, none⟩ u).heap[b]? = w.heap[b]? := fun b hb => heap_setCell_other w ⟨x, k, none⟩ b u (fun e => by have e : b = x := e; omega)
  have hsz : (w.setCell ⟨x, k, none⟩ u).heap.size = w.heap.size := by simp
  exact ⟨us, own_block h1 (fun b hb _ => hh b hb), h2, fun i u' X e1 e2 => (h3 i u' X e1 e2).to (fun b hp => hh b hp.1) (fun b hp => ⟨hp.1, by rw [hsz]; exact hp.2.1, hp.2.2⟩)⟩
theorem OwnG.slG {w : World} {lo : Nat} {v : Value} {G : List (List Int)} (h : OwnG w lo v G) : ∃ A c, v = .slice A G.length c ∧ c ≤ maxLen ∧ SlG w A G.length c G := by
  obtain ⟨us, h1, h2, h3⟩ := h
  have h1' := h1
  rcases h1.2 with ⟨rfl, hn⟩ | ⟨g, cap, cur, rfl, hb, hg, hnc, hcm, hcs, ht⟩
  · have e : G = [] := List.eq_nil_of_length_eq_zero (by omega)
    subst e
    exact ⟨none, 0, rfl, Nat.zero_le _, SlG.nil w⟩
  · refine ⟨some ⟨g, 0, none⟩, cap, by rw [h2], hcm, rfl, by omega, (fun e => by cases e), fun hn => ⟨g, 0, rfl, (Array.getElem?_eq_some_iff.1 hg).1, fun i hi => ?_⟩⟩
    have hi2 : i < us.length := by omega
    obtain ⟨A, m, k, e, hS, _⟩ := h3 i us[i] G[i] (List.getElem?_eq_getElem hi2) (List.getElem?_eq_getElem hi)
    refine ⟨A, m, k, ?_, hS⟩
    have e1 : (cur.toList.take (us.length * 1))[i]? = us[i]? := by rw [ht]
    rw [List.getElem?_take_of_lt (by omega), Array.getElem?_toList] at e1
    rw [Nat.zero_add, cell_of_row w g i _ _ _ hg, e1, List.getElem?_eq_getElem hi2, e]
/-- append(s, x) for the walk: s a row of the call's own, x one row that lies apart from it -/
theorem app_grid {w : World} {ops : Array Oper} {rest : List Oper} {o : Oper} {a : Act} {Q : Exit → Act → World → Prop} (hgd : o.guard = none) (s x : Operand)
    (ho : o.op = .call { callee := .builtin .append, args := #[s, x], argTypes := #[22, 22] })
    (base : Nat) (v : Value) (G : List (List Int)) (hs : a.eval s = v) (hown : OwnG w base v G) (ad : Addr) (c : Nat) (u : Value) (X : List Int) (hx : a.eval x = .slice (some ad) 1 c) (hu : w.cell? ad = some u) (hX : RwI (fun b => base ≤ b ∧ b < w.heap.size ∧ v.ownBlock ≠ some b) w u X)
    (hc : 1 ≤ c) (hn : G.length + 1 ≤ 1000000000) (hbase : base ≤ w.heap.size)
    (h : ∀ v' w', OwnG w' base v' (G ++ [X]) → w.grownBy w' v.ownBlock → wpList Tryd.prog ops Q rest (a.put o.dst v') w') : wpList Tryd.prog ops Q (o :: rest) a w := by
  obtain ⟨i0, hi, hz0, hz1, hz2⟩ := info_parts rowI
  obtain ⟨us, hy1, hy2, hy3⟩ := hown
  refine wpList_append_own_at w hgd s x 22 ho base 38 i0 _ 1 24 Tryd.underlying22 hi hz0 hz1 hz2 rfl (by decide) v us.length us hs hy1 ad 1 c [u] hx rfl (fun j u' hj => ?_) (fun u' hu' => ?_) (by unfold maxLen; omega) (by omega) hbase fun v' w' h1 h2 _ h4 => h v' w' ⟨us ++ [u], by rw [List.length_append]; exact h1, by simp [hy2], fun i u' X' e1 e2 => ?_⟩ h2
  · have : j = 0 := by have := (List.getElem?_eq_some_iff.1 hj).1; simp at this; omega
    subst this
    have : u = u' := by simpa using hj
    subst this
    have : ad.add 0 = ad := by unfold Addr.add; cases ad; simp
    rw [this]; exact hu
  · obtain rfl : u' = u := by simpa using hu'
    exact hX.one
  · have hto : ∀ b, base ≤ b ∧ b < w.heap.size ∧ v.ownBlock ≠ some b → base ≤ b ∧ b < w'.heap.size ∧ v'.ownBlock ≠ some b := fun b hp => ⟨hp.1, Nat.lt_of_lt_of_le hp.2.1 h2.size, fun e => by
      rcases h4 with h4 | h4
      · exact hp.2.2 (h4.symm.trans e)
      · rw [h4] at e; injection e with e; have := hp.2.1; omega⟩
    rcases Nat.lt_or_ge i us.length with hlt | hge
    · rw [List.getElem?_append_left hlt] at e1
      rw [List.getElem?_append_left (by rw [← hy2]; exact hlt)] at e2
      exact (hy3 i u' X' e1 e2).to (fun b hp => h2.block b hp.2.1 (fun e => hp.2.2 e.symm)) hto
    · rw [List.getElem?_append_right hge] at e1
      rw [List.getElem?_append_right (by rw [← hy2]; exact hge), ← hy2] at e2
      have h0 : i - us.length = 0 := by have := (List.getElem?_eq_some_iff.1 e1).1; simp at this; omega
      rw [h0] at e1 e2
      obtain rfl : u = u' := by simpa using e1
      obtain rfl : X = X' := by simpa using e2
      exact hX.to (fun b hp => h2.block b hp.2.1 (fun e => hp.2.2 e.symm)) hto
end Go.Proofs.YthchjceibpcgbaaDoor.Cn
