/-
  What is proved: rows of names that a box holds, grown by appends inside a range over a function.
-/
import Derived.Test.YtcigeclnbhcohaaGreatDoorBT
import Derived.Sort.LoopGhostIn
import Derived.OwnWalkIn
namespace Go.Proofs.YtcigeclnbhcohaaGreatDoor.Sh
open Go.RowKit Go.Shelf L T
set_option linter.unusedVariables false
set_option linter.unusedSimpArgs false
attribute [local go_sem] Oper.semAt_some

/-! the marks that ranges over functions leave in a frame -/
def mkD (D : Nat) : Deferred := { target := .collected D, args := #[] }
def Marks (lo : Nat) (W : World) (Ds : List Nat) : Prop := Ds.Nodup ∧ ∀ D ∈ Ds, lo ≤ D ∧ W.heap[D]? = some (.deferred (some []))
theorem Marks.nil (lo : Nat) (W : World) : Marks lo W [] := ⟨List.nodup_nil, fun D h => by cases h⟩
theorem Marks.lt {lo : Nat} {W : World} {Ds : List Nat} (h : Marks lo W Ds) : ∀ D ∈ Ds, D < W.heap.size := fun D hD => (Array.getElem?_eq_some_iff.1 (h.2 D hD).2).1
theorem Marks.b {lo : Nat} {W W' : World} {Ds : List Nat} (h : Marks lo W Ds) (hb : Below W.heap.size W W') : Marks lo W' Ds := ⟨h.1, fun D hD => ⟨(h.2 D hD).1, (hb.block D (h.lt D hD)).trans (h.2 D hD).2⟩⟩
theorem Marks.cons {lo : Nat} {W' : World} {Ds : List Nat} {D : Nat} (h : Marks lo W' Ds) (hlo : lo ≤ D) (hn : ∀ d ∈ Ds, d < D) (hD : W'.heap[D]? = some (.deferred (some []))) : Marks lo W' (D :: Ds) :=
  ⟨List.nodup_cons.2 ⟨fun hm => absurd (hn D hm) (Nat.lt_irrefl _), h.1⟩, fun d hd => by
    rcases List.mem_cons.1 hd with rfl | hd
    · exact ⟨hlo, hD⟩
    · exact h.2 d hd⟩
theorem leave_marks {F : Fence} {n : Nat} {P : Program} {fn : Func} {tmps : Array Value} {R : Ending → World → Prop} (lo : Nat) (I : World → Prop)
    (hI : ∀ (W : World) (D : Nat), I W → lo ≤ D → W.heap[D]? = some (.deferred (some [])) → I (W.putObj D (.deferred none))) (hend : ∀ W, I W → LeavesInM F n P fn tmps R [] .returning W) :
    ∀ (Ds : List Nat) (W : World), Marks lo W Ds → I W → LeavesInM F n P fn tmps R (Ds.map mkD) .returning W
  | [], W, _, h => hend W h
  | D :: Ds, W, hM, h => by
    obtain ⟨hn, hh⟩ := hM
    obtain ⟨hlo, hD⟩ := hh D List.mem_cons_self
    refine ⟨by simp, .inl ⟨D, W.putObj D (.deferred none), rfl, run_takeDeferred hD, leave_marks lo I hI hend Ds _ ⟨(List.nodup_cons.1 hn).2, fun d hd => ?_⟩ (hI W D h hlo hD)⟩⟩
    obtain ⟨h1, h2⟩ := hh d (List.mem_cons_of_mem _ hd)
    exact ⟨h1, (World.putObj_heap_other (fun e => (List.nodup_cons.1 hn).1 (by first | (rw [e]; exact hd) | (rw [← e]; exact hd)))).trans h2⟩
/-- one mark more, at what another range over a function leaves -/
theorem marks_own (lo B : Nat) (Ds : List Nat) (hB : ∀ D ∈ Ds, D < B) {β : Type} : OwnFrom B (fun (_ : β) W => Marks lo W Ds) := fun s X Y row hs hg hr =>
  ⟨hs.1, fun D hD => ⟨(hs.2 D hD).1, (hg.block D (hs.lt D hD) (fun e => by have := (hr D e.symm).1; have := hB D hD; omega)).trans (hs.2 D hD).2⟩⟩

theorem Marks.kept {lo : Nat} {W W' : World} {Ds : List Nat} {row : Option Nat} (h : Marks lo W Ds) (hg : W.grownBy W' row) (hr : ∀ r, row = some r → ∃ cs t fr, W.heap[r]? = some (.cells cs t fr)) : Marks lo W' Ds :=
  ⟨h.1, fun D hD => ⟨(h.2 D hD).1, (hg.block D (h.lt D hD) (fun e => by
    obtain ⟨cs, t, fr, hc⟩ := hr D e.symm
    rw [(h.2 D hD).2] at hc; cases hc)).trans (h.2 D hD).2⟩⟩
theorem ownS_cells {W : World} {lo : Nat} {v : Value} {X : List ByteArray} (h : OwnS W lo v X) : ∀ r, v.ownBlock = some r → ∃ cs t fr, W.heap[r]? = some (.cells cs t fr) := fun r hr => by
  rcases h.2 with ⟨rfl, _⟩ | ⟨g0, cap, cur, rfl, hb, hg0, _⟩
  · cases hr
  · have : g0 = r := by simpa [Value.ownBlock] using hr
    exact ⟨_, _, _, this ▸ hg0⟩
theorem ownS_lo {W : World} {lo : Nat} {v : Value} {X : List ByteArray} (h : OwnS W lo v X) : ∀ r, v.ownBlock = some r → lo ≤ r := fun r hr => by
  rcases h.2 with ⟨rfl, _⟩ | ⟨g0, cap, cur, rfl, hb, hg0, _⟩
  · cases hr
  · have : g0 = r := by simpa [Value.ownBlock] using hr
    omega
theorem ownS_put {W : World} {lo D : Nat} {v : Value} {X : List ByteArray} (h : OwnS W lo v X) {d : Option (List Deferred)} (hD : W.heap[D]? = some (.deferred d)) (o : Obj) : OwnS (W.putObj D o) lo v X :=
  World.ownsRow.kept h (grownBy_putObj' W D o) (by
    rcases h.2 with ⟨rfl, _⟩ | ⟨g0, cap0, cur, rfl, hb0, hg0, _⟩
    · exact .inl rfl
    · refine .inr (fun e => ?_)
      have : g0 = D := by simpa [Value.ownBlock] using e
      subst this
      rw [hg0] at hD; cases hD)
/-- the names so far, in a row that a box holds -/
def NmB (bx : Nat) (W : World) (X : List ByteArray) : Prop := ∃ a c, Blk W bx #[.slice a X.length c] 48 ∧ OwnS W (bx + 1) (.slice a X.length c) X
theorem NmB.b {bx : Nat} {W W' : World} {X : List ByteArray} (h : NmB bx W X) (hb : Below W.heap.size W W') : NmB bx W' X := by
  obtain ⟨a, c, h1, h2⟩ := h
  exact ⟨a, c, Blk.below h1 hb, h2.below hb⟩
theorem nmB_own {β : Type} (bx : Nat) (f : β → List ByteArray) : Own (fun (s : β) W => NmB bx W (f s)) := fun s X Y row hs hg hr => by
  obtain ⟨a, c, h1, h2⟩ := hs
  refine ⟨a, c, own_blk bx _ _ () X Y row h1 hg hr, World.ownsRow.kept h2 hg ?_⟩
  rcases h2.2 with ⟨hv, _⟩ | ⟨g0, cap, cur, hv, hb, hg0, _⟩
  · exact .inl (by rw [hv]; rfl)
  · refine .inr (fun e => ?_)
    obtain ⟨o, ho, hc⟩ := hr g0 (by rw [← e, hv]; rfl)
    rw [hg0] at ho; cases ho; cases hc
/-- an append of which the run is known, inside a fence -/
theorem step_app {F : Fence} {n : Nat} {P : Program} {w w' : World} {ops : Array Oper} {rest : List Oper} {o : Oper} {a : Act} {Q : Exit → Act → World → Prop}
    (hg : o.guard = none) (s x : Operand) (t : TypeId) (hop : o.op = Op.call { callee := Callee.builtin Builtin.append, args := #[s, x], argTypes := #[t, t] }) (v u v' : Value) (hs : a.eval s = v) (hx : a.eval x = u)
    (hrun : (Builtin.append_ #[t, t] o.type #[v, u]).run P w = .ok v' w') (hK : wpListIn F n P ops Q rest (a.put o.dst v') w') : wpListIn F n P ops Q (o :: rest) a w := by
  refine wpListIn_plain hg fun K hK' => ?_
  unfold Oper.wpIn
  refine ⟨?_, ?_⟩
  · simp [Oper.about, hop, resolve, Target.leads, Sem.run_pure]
  · rw [Oper.semAt_plain F _ _ (by rw [hop]; intro c hc'; cases hc')]
    simp [execOp, hop, resolve, invoke, builtin, hs, hx, hrun, Result.andThen]
    exact hK' _ _ hK
/-- append(names, x) -/
theorem app_name {W : World} {bx : Nat} {a : Option Addr} {c : Nat} {X : List ByteArray} (h1 : Blk W bx #[.slice a X.length c] 48) (h2 : OwnS W (bx + 1) (.slice a X.length c) X) (hX : X.length ≤ 100000000) (x : ByteArray) :
    ∃ a' c' W4, (Builtin.append_ #[48, 48] 48 #[.slice a X.length c, .slice (some ⟨W.heap.size, 0, none⟩) 1 1]).run Tryz.prog (W.alloc (.cells #[.string x] 9)) = .ok (.slice a' (X.length + 1) c') W4 ∧
      Blk W4 bx #[.slice a X.length c] 48 ∧ NmB bx (W4.setCell ⟨bx, 0, none⟩ (.slice a' (X.length + 1) c')) (X ++ [x]) ∧ (∀ B, B ≤ bx → Below B W (W4.setCell ⟨bx, 0, none⟩ (.slice a' (X.length + 1) c'))) ∧ (∀ (k : Nat) (o : Obj), W.heap[k]? = some o → (∀ cs fr, o ≠ .cells cs 9 fr) → k ≠ bx → (W4.setCell ⟨bx, 0, none⟩ (.slice a' (X.length + 1) c')).heap[k]? = some o) := by
  obtain ⟨i0, hi, hz0, hz1, hz2⟩ := info_parts strI
  have hb : Below W.heap.size W (W.alloc (.cells #[.string x] 9)) := bel_alloc (Below.refl _ _) _
  have hlt := Blk.lt h1
  obtain ⟨v', W4, hr, q1, q2, q3⟩ := run_append_own (P := Tryz.prog) (W.alloc (.cells #[.string x] 9)) (bx + 1) 48 48 9 i0 _ 1 16 Tryz.underlying48 hi hz0 hz1 hz2 rfl (by decide) (.slice a X.length c) X.length (vsS X) (h2.below hb) ⟨W.heap.size, 0, none⟩ 1 1 (vsS [x]) (by simp [vsS]) (fun j u hj => by
    have hj0 : j = 0 := by have := (List.getElem?_eq_some_iff.1 hj).1; simp [vsS] at this; exact this
    subst hj0
    simp only [vsS, List.map_cons, List.map_nil, List.getElem?_cons_zero, Option.some.injEq] at hj
    rw [Addr.add_lit, ← hj]
    exact Blk.cell (Blk.new W #[.string x] 9) 0) (vsS_one _) (by unfold maxLen; omega) (by omega) (by have := hb.size; omega)
  have hO4 : OwnS W4 (bx + 1) v' (X ++ [x]) := by
    unfold OwnS
    rw [List.length_append, vsS_app]
    exact q1
  obtain ⟨a', c', hv', -⟩ := hO4.slS
  rw [List.length_append, List.length_singleton] at hv'
  subst hv'
  have hlo := ownS_lo h2
  have hB4 : Blk W4 bx #[.slice a X.length c] 48 := Blk.grown (Blk.below h1 hb) q2 (fun e => by have := hlo bx e.symm; omega)
  refine ⟨a', c', W4, hr, hB4, ⟨a', c', ?_, ?_⟩, fun B hB => ?_, fun k o hk ho hne => ?_⟩
  · rw [List.length_append, List.length_singleton]; exact blk_cell_set hB4 _
  · rw [List.length_append, List.length_singleton]; exact row_far hO4 (by omega) _ _
  · exact below_set ((hb.mono (by omega)).grown q2 (by have := hb.size; omega) (fun k hk => by have := hlo k hk; omega)) hB _ _
  · rw [heap_setCell_other W4 ⟨bx, 0, none⟩ k _ hne]
    refine (q2.block k (by rw [World.size_alloc]; have := (Array.getElem?_eq_some_iff.1 hk).1; omega) (fun e => ?_)).trans ((hb.block k (Array.getElem?_eq_some_iff.1 hk).1).trans hk)
    rcases h2.2 with ⟨hv, _⟩ | ⟨g0, cap0, cur, hv, hb0, hg0, _⟩
    · rw [hv] at e; cases e
    · rw [hv] at e
      have : g0 = k := by simpa [Value.ownBlock] using e.symm
      subst this
      rw [hg0] at hk
      injection hk with hk
      exact ho _ _ hk.symm
end Go.Proofs.YtcigeclnbhcohaaGreatDoor.Sh
