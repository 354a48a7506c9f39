/-
  What is proved: a list of functions copied with more behind it, the arguments' lists copied too.
-/
import Derived.Test.YtakcbpmdjdadnaaSgnI
namespace Go.Proofs.Ytakcbpmdjdadnaa.Sgn
open Go.RowKit L Srt
set_option linter.unusedVariables false
set_option linter.unusedSimpArgs false

theorem RowF.all {w : World} {b o : Nat} {G : List Fm} (h : RowF w b o G) : ∀ j v, (cellsF G)[j]? = some v → w.cell? ((⟨b, o, none⟩ : Addr).add j) = some v := fun j v hj => by
  have hlt : j < G.length * 3 := by rw [← cellsF_len]; exact (List.getElem?_eq_some_iff.1 hj).1
  rw [Addr.add_lit]
  obtain ⟨h1, h2, h3⟩ := h (j / 3) (by omega)
  obtain ⟨c1, c2, c3⟩ := cellsF_at G (j / 3) (by omega)
  rcases (by omega : j % 3 = 0 ∨ j % 3 = 1 ∨ j % 3 = 2) with hr | hr | hr
  · have e : j = j / 3 * 3 := by omega
    rw [← e] at h1 c1; rw [h1, ← hj, c1]
  · have e : j = j / 3 * 3 + 1 := by omega
    rw [show o + j / 3 * 3 + 1 = o + (j / 3 * 3 + 1) by omega, ← e] at h2
    rw [← e] at c2; rw [h2, ← hj, c2]
  · have e : j = j / 3 * 3 + 1 + 1 := by omega
    rw [show o + j / 3 * 3 + 1 + 1 = o + (j / 3 * 3 + 1 + 1) by omega, ← e] at h3
    rw [← e] at c3; rw [h3, ← hj, c3]
theorem grown_setRow (w : World) (g : Nat) (cs : Array Value) : w.grownBy (w.setRow g cs) (some g) :=
  ⟨rfl, rfl, rfl, by simp [World.setRow], fun k _ hk => setRow_other w g k cs (fun e => hk (by rw [e]))⟩
theorem copy_funs {w : World} {ops : Array Oper} {rest : List Oper} {o : Oper} {a : Act} {Q : Exit → Act → World → Prop} (hgd : o.guard = none) (d s : Operand)
    (ho : o.op = .call { callee := .builtin .copy, args := #[d, s], argTypes := #[23, 23] }) (g off dLen dCap : Nat) (dp : Option Addr) (hd : a.eval d = .slice dp dLen dCap)
    (sp : Option Addr) (m sCap : Nat) (G : List Fm) (hs : a.eval s = .slice sp m sCap) (hG : IsG w sp m G) (cur : List Value) (hg : Blk w g cur.toArray 27) (hle : m ≤ dLen) (hdp : 0 < m → dp = some ⟨g, off, none⟩) (hfit : off + m * 3 ≤ cur.length)
    (h : ∀ w', Hid (Blk w' g (splice cur off (cellsF G)).toArray 27) → w.grownBy w' (some g) → wpList Try.prog ops Q rest (a.put o.dst (.int .i64 (m : Int))) w') : wpList Try.prog ops Q (o :: rest) a w := by
  have hsz : (Try.prog.info? 27).map (·.size) = some 3 := by kernel_rfl
  refine wpList_plain hgd fun K hK => ?_
  by_cases hm : m = 0
  · subst hm
    have hG0 : G = [] := List.eq_nil_of_length_eq_zero hG.1.symm
    subst hG0
    have hrun := run_copy3_none w 23 23 o.type 27 dp sp dLen dCap sCap Try.underlying23 hsz
    unfold Oper.wp
    simp [execOp, ho, resolve, invoke, builtin, hd, hs, hrun, Result.andThen]
    refine hK _ _ (h w ?_ ⟨rfl, rfl, rfl, Nat.le_refl _, fun _ _ _ => rfl⟩)
    show Blk _ _ _ _
    have e : splice cur off (cellsF []) = cur := by simp [splice, cellsF]
    rw [e]; exact hg
  · obtain ⟨b, ob, rfl, hlt, hr⟩ := hG.2.1 (by omega)
    obtain rfl := hdp (by omega)
    have hrun := run_copy3 w 23 23 o.type 27 g off dLen dCap ⟨b, ob, none⟩ m sCap cur.toArray 27 (cellsF G) Try.underlying23 hsz hg hle (by rw [cellsF_len, ← hG.1]) hr.all (by rw [cellsF_len, ← hG.1]; simpa using hfit) (cellsF_one G)
    unfold Oper.wp
    simp [execOp, ho, resolve, invoke, builtin, hd, hs, hrun, Result.andThen]
    exact hK _ _ (h _ (setRow_heap w g _ _ _ _ hg) (grown_setRow _ _ _))
theorem splice_two {α : Type} (Z A B : List α) (h : Z.length = A.length + B.length) : splice (splice Z 0 A) A.length B = A ++ B := by
  unfold splice
  have e1 : Z.take 0 ++ (A ++ Z.drop (0 + A.length)) = A ++ Z.drop A.length := by simp
  rw [e1]
  have e2 : (A ++ Z.drop A.length).take A.length = A := by simp
  have e3 : (A ++ Z.drop A.length).drop (A.length + B.length) = [] := by apply List.drop_eq_nil_of_le; simp; omega
  rw [e2, e3, List.append_nil]
theorem make_funs (n : Nat) (hn : n ≤ 100000000) :
    ∃ C : List Value, C.length = n * 3 ∧ ∀ w : World, (Instr.makeSlice 23 (.int .i64 (n : Int)) (.int .i64 (n : Int))).run Try.prog w = .ok (.slice (some ⟨w.heap.size, 0, none⟩) n n) (w.alloc (.cells C.toArray 27)) := by
  obtain ⟨i0, hi, hz0, hz1, hz2⟩ := info_parts funI
  refine ⟨(madeCells (Value.agg #[.string ⟨#[]⟩, .slice none 0 0, .string ⟨#[]⟩]).cells (n * 3)).toList, by simp [madeCells], fun w => ?_⟩
  have hr := run_make (P := Try.prog) w 23 27 i0 _ Try.underlying23 hi hz0 .i64 .i64 n n (by omega) (by omega) (by rw [hz2]; omega) (by omega)
  simp only [Int.toNat_natCast, hz1] at hr
  exact hr

/-- not in this block -/
def Off (g : Nat) (A : Option Addr) (n : Nat) : Prop := 0 < n → ∀ b o, A = some ⟨b, o, none⟩ → b ≠ g
theorem SlS.far {w : World} {A : Option Addr} {n c : Nat} {X : List ByteArray} {g : Nat} (h : SlS w A n c X) (ho : Off g A n) (k : Nat) (v : Value) : SlS (w.setCell ⟨g, k, none⟩ v) A n c X := by
  refine ⟨⟨h.1.1, fun hn => ?_⟩, h.2⟩
  obtain ⟨b, o, ha, hlt, hr⟩ := h.1.2 hn
  refine ⟨b, o, ha, by simpa [World.setCell] using hlt, fun i hi => ?_⟩
  exact (World.cell?_of_block (heap_setCell_other w ⟨g, k, none⟩ b v (ho hn b o ha))).trans (hr i hi)
theorem off_old {w : World} {A : Option Addr} {n c : Nat} {X : List ByteArray} {g : Nat} (h : SlS w A n c X) (hg : w.heap.size ≤ g) : Off g A n := fun hn b o ha e => by
  obtain ⟨b', o', ha', hlt, _⟩ := h.1.2 hn
  rw [ha] at ha'
  injection ha' with ha'
  injection ha' with h1
  omega
theorem off_own {w : World} {A : Option Addr} {n c : Nat} {X : List ByteArray} {g base : Nat} (h : OwnS w base (.slice A n c) X) (hg : g < base) : Off g A n := fun hn b o ha e => by
  rcases h.2 with ⟨hv, _⟩ | ⟨g', cap, cur, hv, hb, _⟩
  · injection hv with h1; rw [h1] at ha; cases ha
  · injection hv with h1
    rw [ha] at h1
    injection h1 with h1
    injection h1 with h1
    omega
theorem cellsF_set (G : List Fm) (k : Nat) (h : k < G.length) (A : Option Addr) (m c : Nat) :
    (cellsF G).toArray.setIfInBounds (k * 3 + 1) (.slice A m c) = (cellsF (G.set k { G[k] with a := A, m := m, c := c })).toArray := by
  apply Array.ext'
  rw [Array.toList_setIfInBounds]
  show (cellsF G).set _ _ = cellsF _
  induction G generalizing k with
  | nil => simp at h
  | cons f G ih =>
    have e : cellsF (f :: G) = f.cells ++ cellsF G := by simp [cellsF]
    cases k with
    | zero => rfl
    | succ k =>
      have h2 := ih k (by simpa using h)
      rw [e, show (k + 1) * 3 + 1 = (k * 3 + 1) + f.cells.length by simp [Fm.cells]; omega]
      rw [List.set_append_right _ _ (by omega), Nat.add_sub_cancel, h2]
      simp [cellsF]
theorem IsG.far {w : World} {a : Option Addr} {n : Nat} {G : List Fm} {x : Nat} (h : IsG w a n G) (ha : Off x a n) (ho : ∀ f ∈ G, Off x f.a f.m) (k : Nat) (v : Value) : IsG (w.setCell ⟨x, k, none⟩ v) a n G := by
  refine ⟨h.1, fun hn => ?_, fun f hf => SlS.far (h.2.2 f hf) (ho f hf) k v⟩
  obtain ⟨b, o, hb, hlt, hr⟩ := h.2.1 hn
  refine ⟨b, o, hb, by simpa [World.setCell] using hlt, fun i hi => ?_⟩
  obtain ⟨h1, h2, h3⟩ := hr i hi
  have e := fun (p : Addr) (hp : p.block = b) => World.cell?_of_block (w := w) (w' := w.setCell ⟨x, k, none⟩ v) (a := p) (by rw [hp]; exact heap_setCell_other w ⟨x, k, none⟩ b v (ha hn b o hb))
  exact ⟨(e _ rfl).trans h1, (e _ rfl).trans h2, (e _ rfl).trans h3⟩
theorem SlG.far {w : World} {a : Option Addr} {n c : Nat} {G : List Fm} {x : Nat} (h : SlG w a n c G) (ha : Off x a n) (ho : ∀ f ∈ G, Off x f.a f.m) (k : Nat) (v : Value) : SlG (w.setCell ⟨x, k, none⟩ v) a n c G := ⟨h.1.far ha ho k v, h.2⟩
theorem offG_old {w : World} {A : Option Addr} {n c : Nat} {G : List Fm} {g : Nat} (h : SlG w A n c G) (hg : w.heap.size ≤ g) : Off g A n ∧ ∀ f ∈ G, Off g f.a f.m := ⟨fun hn b o ha e => by
  obtain ⟨b', o', ha', hlt, _⟩ := h.1.2.1 hn
  rw [ha] at ha'
  injection ha' with ha'
  injection ha' with h1
  omega, fun f hf => off_old (h.1.2.2 f hf) hg⟩

/-- the row that is filled: its functions, whose arguments may be read, and lie neither in it nor in x -/
structure Ext (w : World) (g x : Nat) (K : List Core) (H : List Fm) : Prop where
  blk : Blk w g (cellsF H).toArray 27
  core : cores H = K
  ok : ∀ f ∈ H, f.ok w ∧ (Off g f.a f.m ∧ Off x f.a f.m)
theorem Ext.below {w w' : World} {g x : Nat} {K : List Core} {H : List Fm} (h : Ext w g x K H) (hb : Below w.heap.size w w') : Ext w' g x K H := ⟨h.blk.belowAll hb, h.core, fun f hf => ⟨(h.ok f hf).1.below hb, (h.ok f hf).2⟩⟩
theorem Ext.at {w : World} {g x : Nat} {K : List Core} {H : List Fm} (h : Ext w g x K H) {k : Nat} (hk : k < H.length) : w.cell? ⟨g, k * 3 + 1, none⟩ = some (.slice H[k].a H[k].m H[k].c) ∧ w.frozen? ⟨g, k * 3 + 1, none⟩ = false :=
  ⟨by rw [h.blk.cell]; rw [List.getElem?_toArray]; exact (cellsF_at H k hk).2.1, h.blk.free _⟩
theorem Ext.put {w : World} {g x : Nat} {K : List Core} {H : List Fm} (h : Ext w g x K H) {k : Nat} (hk : k < H.length) {A : Option Addr} {c base : Nat} (ho : OwnS w base (.slice A H[k].m c) H[k].X) (hg : g < base) (hx : x < base) :
    ∃ H', Ext (w.setCell ⟨g, k * 3 + 1, none⟩ (.slice A H[k].m c)) g x K H' ∧ H'.length = H.length := by
  refine ⟨H.set k { H[k] with a := A, m := H[k].m, c := c }, ⟨?_, ?_, ?_⟩, by simp⟩
  · have := h.blk.set (k * 3 + 1) (.slice A H[k].m c)
    rw [cellsF_set H k hk] at this
    exact this
  · rw [← h.core]
    unfold cores
    rw [List.map_set]
    have e : Fm.core { H[k] with a := A, m := H[k].m, c := c } = (H.map Fm.core)[k]'(by simpa using hk) := by simp [Fm.core]
    rw [e, List.set_getElem_self]
  · intro f hf
    rcases List.mem_or_eq_of_mem_set hf with h1 | rfl
    · exact ⟨SlS.far (h.ok f h1).1 (h.ok f h1).2.1 _ _, (h.ok f h1).2⟩
    · have hof : Off g A H[k].m := off_own ho hg
      have hl : H[k].m = H[k].X.length := (h.ok H[k] (List.getElem_mem hk)).1.1.1
      obtain ⟨A', c', hv, hS⟩ := ho.slS
      injection hv with h1 h2 h3
      subst h1 h3
      refine ⟨SlS.far ?_ hof _ _, hof, off_own ho hx⟩
      show SlS w A H[k].m c H[k].X
      rw [hl]; exact hS
end Go.Proofs.Ytakcbpmdjdadnaa.Sgn
