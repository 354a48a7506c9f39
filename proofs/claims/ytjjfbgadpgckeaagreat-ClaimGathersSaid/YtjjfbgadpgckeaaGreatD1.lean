/-
  What is proved: the library's Sort and Compact of a row of texts of the call's own: the names in order, each once.
  What is proved: compactS_own (taken out of LibSt, for seats without that function).
  What is proved: package term's Names: the names of the variables of any terms, in order, each once.
-/
import Derived.Test.YtjjfbgadpgckeaaGreatBL
import Derived.Test.YtjjfbgadpgckeaaGreatShelf
import Derived.Sort.OwnSorted
import Derived.Sort.Walk0
import Derived.Lib.SlicesCompact
import Derived.Test.YtjjfbgadpgckeaaGreatBT
import Derived.Sort.LoopGhostIn
import Derived.OwnWalkIn
namespace Go.Proofs.YtjjfbgadpgckeaaGreat.T
open Go.RowKit L
set_option linter.unusedVariables false
set_option linter.unusedSimpArgs false

theorem lt_cmp (x y : List UInt8) : x < y ↔ cmpB x y = -1 := by
  have h := bytesLess_eq x y
  rw [less_cmp] at h
  exact (decide_eq_decide.1 h).symm
theorem le_cmp (x y : List UInt8) : x ≤ y ↔ cmpB x y ≠ 1 := by
  rw [← List.not_lt, lt_cmp]
  have := linB.anti x y
  omega
theorem cmpB_le_trans {x y z : List UInt8} (h1 : cmpB x y ≠ 1) (h2 : cmpB y z ≠ 1) : cmpB x z ≠ 1 := by
  rcases linB.rng x y with e | e | e
  · rcases linB.rng y z with f | f | f
    · rw [linB.trans x y z e f]; decide
    · rw [← (linB.eq y z).1 f, e]; decide
    · exact absurd f h2
  · rw [(linB.eq x y).1 e]; exact h2
  · exact absurd e h1
theorem cmpB_lt_of {x y z : List UInt8} (h1 : cmpB x y ≠ 1) (h2 : cmpB y z ≠ 1) (h3 : y ≠ z) : cmpB x z = -1 := by
  have hyz : cmpB y z = -1 := by
    rcases linB.rng y z with f | f | f
    · exact f
    · exact absurd ((linB.eq y z).1 f) h3
    · exact absurd f h2
  rcases linB.rng x y with e | e | e
  · exact linB.trans x y z e hyz
  · rw [(linB.eq x y).1 e]; exact hyz
  · exact absurd e h1
def rawS (X : List ByteArray) : List (List UInt8) := X.map (fun s => s.data.toList)
def unS (zs : List (List UInt8)) : List ByteArray := zs.map (fun l => ⟨l.toArray⟩)
theorem raw_un (zs : List (List UInt8)) : rawS (unS zs) = zs := by unfold rawS unS; rw [List.map_map]; exact (List.map_congr_left (fun l _ => by simp)).trans (List.map_id zs)
theorem vs_un (zs : List (List UInt8)) : vsS (unS zs) = zs.map encStr := by unfold vsS unS; rw [List.map_map]; rfl
theorem un_raw (X : List ByteArray) : unS (rawS X) = X := by unfold rawS unS; rw [List.map_map]; exact (List.map_congr_left (fun s _ => by cases s; simp)).trans (List.map_id X)
theorem vs_raw (X : List ByteArray) : vsS X = (rawS X).map encStr := by rw [← vs_un, un_raw]
theorem un_len (zs : List (List UInt8)) : (unS zs).length = zs.length := by unfold unS; simp
theorem raw_len (X : List ByteArray) : (rawS X).length = X.length := by unfold rawS; simp
/-- texts in order -/
def srtS (X : List ByteArray) : List ByteArray := unS ((rawS X).mergeSort fun x y => decide (x ≤ y))
theorem srtS_len (X : List ByteArray) : (srtS X).length = X.length := by unfold srtS; rw [un_len, List.length_mergeSort, raw_len]
theorem sortS_own {w : World} {base : Nat} {A : Option Addr} {c : Nat} {X : List ByteArray} (h : OwnS w base (.slice A X.length c) X) (hl : X.length ≤ 1000000000) :
    Calls Tryz.prog 83 #[.slice A X.length c] w fun e w' => e = .returned (.tuple #[]) ∧ OwnS w' base (.slice A X.length c) (srtS X) ∧ w.grownBy w' (Value.slice A X.length c).ownBlock := by
  by_cases h0 : X = []
  · subst h0
    refine (Tryz.slices_Sort_string_none A c w).mono fun e w' ⟨he, hw⟩ => ?_
    subst hw
    have e0 : srtS [] = [] := by simp [srtS, rawS, unS]
    rw [e0]
    exact ⟨he, h, rfl, rfl, rfl, Nat.le_refl _, fun _ _ _ => rfl⟩
  · have hp : 0 < X.length := List.length_pos_iff.2 h0
    rcases h.2 with ⟨hv, hn⟩ | ⟨g, cap, cur, hv, hb, hg, hnc, hcm, hcs, ht⟩
    · omega
    · injection hv with e1 e2 e3
      subst e1 e3
      rw [Nat.mul_one, vs_raw, ← raw_len] at ht
      have hh : Go.Sort.Holds encStr w g 0 (rawS X).toArray := holds_of_block hg ht
      have hc := Tryz.slices_Sort_string g 0 c (rawS X) w hh (Array.getElem?_eq_some_iff.1 hg).1 (by rw [raw_len]; omega)
      rw [raw_len] at hc
      refine hc.mono fun e w' ⟨he, n, os, hw⟩ => ?_
      subst hw
      refine ⟨he, ?_, grownBy_sorted _⟩
      have := ownsRow_sorted (ss := rawS X) (ts := (rawS X).mergeSort fun x y => decide (x ≤ y)) (n := n) (os := os) (List.length_mergeSort _) hb hg (by rw [raw_len]; exact hnc) hcm hcs
      unfold OwnS
      rw [srtS_len]
      unfold srtS
      rw [vs_un]
      rw [raw_len] at this
      exact this
theorem compact_leS (X : List (List UInt8)) : (Lib.compact X).length ≤ X.length := by
  unfold Lib.compact Lib.compactUpTo
  rw [List.length_map]
  have := List.length_filter_le (Lib.keeps X.toArray) (List.range X.length)
  rwa [List.length_range] at this
def cmpS (X : List ByteArray) : List ByteArray := unS (Lib.compact (rawS X))
/-- what compacting a sorted list leaves -/
theorem compact_upS (X : List (List UInt8)) (hs : X.Pairwise (fun x y => cmpB x y ≠ 1)) : (Lib.compact X).Pairwise (fun x y => cmpB x y = -1) ∧ ∀ y, y ∈ Lib.compact X ↔ y ∈ X := by
  have key : ∀ m, m ≤ X.length → (Lib.compactUpTo X.toArray m).Pairwise (fun x y => cmpB x y = -1) ∧ (∀ y, y ∈ Lib.compactUpTo X.toArray m ↔ y ∈ X.take m) := by
    intro m
    induction m with
    | zero => intro _; simp [Lib.compactUpTo]
    | succ m ih =>
      intro hm
      obtain ⟨h1, h2⟩ := ih (by omega)
      rw [Lib.compactUpTo_succ]
      have hget : X.toArray[m]! = X[m]'(by omega) := by simp [show m < X.length by omega]
      have htk : X.take (m + 1) = X.take m ++ [X[m]'(by omega)] := by rw [List.take_add_one, List.getElem?_eq_getElem (by omega)]; rfl
      by_cases hk : Lib.keeps X.toArray m = true
      · rw [if_pos hk, hget, htk]
        have hlt : ∀ y ∈ X.take m, cmpB y (X[m]'(by omega)) = -1 := by
          intro y hy
          obtain ⟨i, hi, rfl⟩ := List.mem_iff_getElem.1 hy
          rw [List.length_take] at hi
          rw [List.getElem_take]
          have hm0 : 0 < m := by omega
          have hle1 : cmpB (X[i]'(by omega)) (X[m - 1]'(by omega)) ≠ 1 := by
            by_cases e : i = m - 1
            · subst e; rw [(linB.eq _ _).2 rfl]; decide
            · exact List.pairwise_iff_getElem.1 hs i (m - 1) (by omega) (by omega) (by omega)
          have hle2 := List.pairwise_iff_getElem.1 hs (m - 1) m (by omega) (by omega) (by omega)
          unfold Lib.keeps at hk
          have hk' := of_decide_eq_true hk
          rcases hk' with h0 | h0
          · omega
          · rw [hget] at h0
            have : X.toArray[m - 1]! = X[m - 1]'(by omega) := by simp [show m - 1 < X.length by omega]
            rw [this] at h0
            exact cmpB_lt_of hle1 hle2 (fun e => h0 e.symm)
        refine ⟨?_, fun y => by rw [List.mem_append, List.mem_append, h2 y]⟩
        refine List.pairwise_append.2 ⟨h1, by simp, fun a ha b hb => ?_⟩
        rw [List.mem_singleton] at hb
        subst hb
        exact hlt a ((h2 a).1 ha)
      · rw [if_neg hk, List.append_nil, htk]
        refine ⟨h1, fun y => ?_⟩
        rw [h2 y, List.mem_append, List.mem_singleton]
        refine ⟨Or.inl, fun h => ?_⟩
        rcases h with h | rfl
        · exact h
        · unfold Lib.keeps at hk
          have hk' : ¬ (m = 0 ∨ X.toArray[m]! ≠ X.toArray[m - 1]!) := fun e => hk (decide_eq_true e)
          have hm0 : m ≠ 0 := fun e => hk' (.inl e)
          have heq : X.toArray[m]! = X.toArray[m - 1]! := Decidable.byContradiction fun e => hk' (.inr e)
          rw [hget] at heq
          have : X.toArray[m - 1]! = X[m - 1]'(by omega) := by simp [show m - 1 < X.length by omega]
          rw [heq, this]
          exact List.mem_iff_getElem.2 ⟨m - 1, by rw [List.length_take]; omega, by rw [List.getElem_take]⟩
  have := key X.length (Nat.le_refl _)
  rw [List.take_length] at this
  exact this
/-- in order, each once -/
theorem names_sorted (X : List ByteArray) : Up (cmpS (srtS X)) ∧ ∀ x, x ∈ cmpS (srtS X) ↔ x ∈ X := by
  have hs : ((rawS X).mergeSort fun x y => decide (x ≤ y)).Pairwise (fun x y => cmpB x y ≠ 1) := by
    have := List.pairwise_mergeSort (le := fun x y : List UInt8 => decide (x ≤ y)) (fun a b c h1 h2 => by
      rw [decide_eq_true_eq, le_cmp] at *
      exact cmpB_le_trans h1 h2) (fun a b => by
      rw [Bool.or_eq_true, decide_eq_true_eq, decide_eq_true_eq, le_cmp, le_cmp]
      have := linB.anti a b
      have := linB.rng a b
      omega) (rawS X)
    exact this.imp (fun h => by rw [decide_eq_true_eq, le_cmp] at h; exact h)
  obtain ⟨h1, h2⟩ := compact_upS _ hs
  unfold cmpS srtS
  rw [raw_un]
  refine ⟨?_, fun x => ?_⟩
  · unfold Up unS
    rw [List.pairwise_map]
    exact h1.imp (fun {a b} h => by unfold cmpN; rw [ByteArray.toList_eq, ByteArray.toList_eq]; exact h)
  · unfold unS
    rw [List.mem_map]
    constructor
    · rintro ⟨y, hy, rfl⟩
      rw [h2, List.mem_mergeSort] at hy
      unfold rawS at hy
      obtain ⟨s, hs2, rfl⟩ := List.mem_map.1 hy
      cases s
      simpa using hs2
    · intro hx
      refine ⟨x.data.toList, ?_, by cases x; simp⟩
      rw [h2, List.mem_mergeSort]
      exact List.mem_map.2 ⟨x, hx, rfl⟩
end Go.Proofs.YtjjfbgadpgckeaaGreat.T
namespace Go.Proofs.YtjjfbgadpgckeaaGreat.T
open Go.RowKit L
set_option linter.unusedVariables false
set_option linter.unusedSimpArgs false

theorem compactS_own {w : World} {base : Nat} {A : Option Addr} {c : Nat} {X : List ByteArray} (h : OwnS w base (.slice A X.length c) X) (hl : X.length ≤ 1000000000) :
    Calls Tryz.prog 84 #[.slice A X.length c] w fun e w' => e = .returned (.slice A (cmpS X).length c) ∧ OwnS w' base (.slice A (cmpS X).length c) (cmpS X) ∧ w.grownBy w' (Value.slice A X.length c).ownBlock := by
  by_cases h0 : X = []
  · subst h0
    refine (Tryz.slices_Compact_string_empty A c w).mono fun e w' ⟨he, hw⟩ => ?_
    subst hw
    exact ⟨he, h, rfl, rfl, rfl, Nat.le_refl _, fun _ _ _ => rfl⟩
  · have hp : 0 < X.length := List.length_pos_iff.2 h0
    rcases h.2 with ⟨hv, hn⟩ | ⟨g, cap, cur, hv, hb, hg, hnc, hcm, hcs, ht⟩
    · omega
    · injection hv with e1 e2 e3
      subst e1 e3
      rw [Nat.mul_one, vs_raw, ← raw_len] at ht
      have hh : Go.Sort.Holds encStr w g 0 (rawS X).toArray := holds_of_block hg ht
      have hc := Tryz.slices_Compact_string g 0 c (rawS X) w hh (by rw [raw_len]; omega) (by rw [raw_len]; exact hnc)
      rw [raw_len] at hc
      refine hc.mono fun e w' ⟨he, q, hw⟩ => ?_
      have hle := compact_leS (rawS X)
      rw [raw_len] at hle
      have hlen : (Lib.compact (rawS X) ++ List.replicate (X.length - (Lib.compact (rawS X)).length) []).length = X.length := by simp; omega
      have hgr : w' = Go.Sort.grow w' #[] := (Go.Sort.grow_empty w').symm
      rw [hgr, hw]
      have hcl : (cmpS X).length = (Lib.compact (rawS X)).length := by unfold cmpS; rw [un_len]
      refine ⟨by rw [hcl]; exact he, ⟨by rw [vsS_len]; omega, .inr ⟨g, c, _, rfl, hb, heap_sorted _ hg, by omega, hcm, by simp [Go.Sort.putCells, hcs], ?_⟩⟩, grownBy_sorted _⟩
      have hall := take_putCells cur (Lib.compact (rawS X) ++ List.replicate (X.length - (Lib.compact (rawS X)).length) []) (by omega)
      rw [hlen] at hall
      rw [Nat.mul_one, hcl]
      have h2 := congrArg (List.take (Lib.compact (rawS X)).length) hall
      rw [List.take_take, Nat.min_eq_left hle] at h2
      rw [h2, List.map_append, List.take_append_of_le_length (by simp), List.take_of_length_le (by simp)]
      unfold cmpS
      rw [vs_un]
end Go.Proofs.YtjjfbgadpgckeaaGreat.T
namespace Go.Proofs.YtjjfbgadpgckeaaGreat.T
open Go.RowKit Go.Shelf L
set_option linter.unusedVariables false
set_option linter.unusedSimpArgs false
attribute [local go_sem] Oper.semAt_some

/-- the names of the variables among some parts, as they come -/
def varsL : List Tm → List ByteArray
  | [] => []
  | t :: l => if opT t = 1 then nameT t :: varsL l else varsL l
theorem varsL_app : ∀ l m : List Tm, varsL (l ++ m) = varsL l ++ varsL m
  | [], m => rfl
  | t :: l, m => by
    rw [List.cons_append, varsL, varsL, varsL_app l m]
    split <;> rfl
theorem mem_varsL (x : ByteArray) : ∀ l : List Tm, x ∈ varsL l ↔ ∃ t ∈ l, opT t = 1 ∧ nameT t = x
  | [] => by simp [varsL]
  | t :: l => by
    rw [varsL]
    by_cases h : opT t = 1
    · rw [if_pos h, List.mem_cons, mem_varsL x l]
      constructor
      · rintro (rfl | ⟨u, hu, h1⟩)
        · exact ⟨t, List.mem_cons_self, h, rfl⟩
        · exact ⟨u, List.mem_cons_of_mem _ hu, h1⟩
      · rintro ⟨u, hu, h1, h2⟩
        rcases List.mem_cons.1 hu with rfl | hu
        · exact .inl h2.symm
        · exact .inr ⟨u, hu, h1, h2⟩
    · rw [if_neg h, mem_varsL x l]
      constructor
      · rintro ⟨u, hu, h1⟩; exact ⟨u, List.mem_cons_of_mem _ hu, h1⟩
      · rintro ⟨u, hu, h1, h2⟩
        rcases List.mem_cons.1 hu with rfl | hu
        · exact absurd h1 h
        · exact ⟨u, hu, h1, h2⟩
theorem varsL_len : ∀ l : List Tm, (varsL l).length ≤ l.length
  | [] => Nat.le_refl _
  | t :: l => by rw [varsL]; have := varsL_len l; split <;> simp <;> omega
theorem names_eq (l : List Tm) : cmpS (srtS (varsL (alls l))) = names l :=
  names_only (names_sorted _).1 (fun x => by rw [(names_sorted _).2, mem_varsL])

/-! the marks that ranges over functions leave in a frame -/
def mkD (D : Nat) : Deferred := { target := .collected D, args := #[] }
def Marks (lo : Nat) (W : World) (Ds : List Nat) : Prop := Ds.Nodup ∧ ∀ D ∈ Ds, lo ≤ D ∧ W.heap[D]? = some (.deferred (some []))
theorem Marks.nil (lo : Nat) (W : World) : Marks lo W [] := ⟨List.nodup_nil, fun D h => by cases h⟩
theorem Marks.lt {lo : Nat} {W : World} {Ds : List Nat} (h : Marks lo W Ds) : ∀ D ∈ Ds, D < W.heap.size := fun D hD => (Array.getElem?_eq_some_iff.1 (h.2 D hD).2).1
theorem Marks.b {lo : Nat} {W W' : World} {Ds : List Nat} (h : Marks lo W Ds) (hb : Below W.heap.size W W') : Marks lo W' Ds := ⟨h.1, fun D hD => ⟨(h.2 D hD).1, (hb.block D (h.lt D hD)).trans (h.2 D hD).2⟩⟩
theorem Marks.cons {lo : Nat} {W' : World} {Ds : List Nat} {D : Nat} (h : Marks lo W' Ds) (hlo : lo ≤ D) (hn : ∀ d ∈ Ds, d < D) (hD : W'.heap[D]? = some (.deferred (some []))) : Marks lo W' (D :: Ds) :=
  ⟨List.nodup_cons.2 ⟨fun hm => absurd (hn D hm) (Nat.lt_irrefl _), h.1⟩, fun d hd => by
    rcases List.mem_cons.1 hd with rfl | hd
    · exact ⟨hlo, hD⟩
    · exact h.2 d hd⟩
theorem leave_marks {F : Fence} {n : Nat} {P : Program} {fn : Func} {tmps : Array Value} {R : Ending → World → Prop} (lo : Nat) (I : World → Prop)
    (hI : ∀ (W : World) (D : Nat), I W → lo ≤ D → W.heap[D]? = some (.deferred (some [])) → I (W.putObj D (.deferred none))) (hend : ∀ W, I W → LeavesInM F n P fn tmps R [] .returning W) :
    ∀ (Ds : List Nat) (W : World), Marks lo W Ds → I W → LeavesInM F n P fn tmps R (Ds.map mkD) .returning W
  | [], W, _, h => hend W h
  | D :: Ds, W, hM, h => by
    obtain ⟨hn, hh⟩ := hM
    obtain ⟨hlo, hD⟩ := hh D List.mem_cons_self
    refine ⟨by simp, .inl ⟨D, W.putObj D (.deferred none), rfl, run_takeDeferred hD, leave_marks lo I hI hend Ds _ ⟨(List.nodup_cons.1 hn).2, fun d hd => ?_⟩ (hI W D h hlo hD)⟩⟩
    obtain ⟨h1, h2⟩ := hh d (List.mem_cons_of_mem _ hd)
    exact ⟨h1, (World.putObj_heap_other (fun e => (List.nodup_cons.1 hn).1 (by first | (rw [e]; exact hd) | (rw [← e]; exact hd)))).trans h2⟩
/-- one mark more, at what another range over a function leaves -/
theorem marks_own (lo B : Nat) (Ds : List Nat) (hB : ∀ D ∈ Ds, D < B) {β : Type} : OwnFrom B (fun (_ : β) W => Marks lo W Ds) := fun s X Y row hs hg hr =>
  ⟨hs.1, fun D hD => ⟨(hs.2 D hD).1, (hg.block D (hs.lt D hD) (fun e => by have := (hr D e.symm).1; have := hB D hD; omega)).trans (hs.2 D hD).2⟩⟩

theorem Marks.kept {lo : Nat} {W W' : World} {Ds : List Nat} {row : Option Nat} (h : Marks lo W Ds) (hg : W.grownBy W' row) (hr : ∀ r, row = some r → ∃ cs t fr, W.heap[r]? = some (.cells cs t fr)) : Marks lo W' Ds :=
  ⟨h.1, fun D hD => ⟨(h.2 D hD).1, (hg.block D (h.lt D hD) (fun e => by
    obtain ⟨cs, t, fr, hc⟩ := hr D e.symm
    rw [(h.2 D hD).2] at hc; cases hc)).trans (h.2 D hD).2⟩⟩
theorem ownS_cells {W : World} {lo : Nat} {v : Value} {X : List ByteArray} (h : OwnS W lo v X) : ∀ r, v.ownBlock = some r → ∃ cs t fr, W.heap[r]? = some (.cells cs t fr) := fun r hr => by
  rcases h.2 with ⟨rfl, _⟩ | ⟨g0, cap, cur, rfl, hb, hg0, _⟩
  · cases hr
  · have : g0 = r := by simpa [Value.ownBlock] using hr
    exact ⟨_, _, _, this ▸ hg0⟩
theorem ownS_lo {W : World} {lo : Nat} {v : Value} {X : List ByteArray} (h : OwnS W lo v X) : ∀ r, v.ownBlock = some r → lo ≤ r := fun r hr => by
  rcases h.2 with ⟨rfl, _⟩ | ⟨g0, cap, cur, rfl, hb, hg0, _⟩
  · cases hr
  · have : g0 = r := by simpa [Value.ownBlock] using hr
    omega
theorem OwnS.put {W : World} {lo D : Nat} {v : Value} {X : List ByteArray} (h : OwnS W lo v X) {d : Option (List Deferred)} (hD : W.heap[D]? = some (.deferred d)) (o : Obj) : OwnS (W.putObj D o) lo v X :=
  World.ownsRow.kept h (grownBy_putObj' W D o) (by
    rcases h.2 with ⟨rfl, _⟩ | ⟨g0, cap0, cur, rfl, hb0, hg0, _⟩
    · exact .inl rfl
    · refine .inr (fun e => ?_)
      have : g0 = D := by simpa [Value.ownBlock] using e
      subst this
      rw [hg0] at hD; cases hD)
/-- the names so far, in a row that a box holds -/
def NmB (bx : Nat) (W : World) (X : List ByteArray) : Prop := ∃ a c, Blk W bx #[.slice a X.length c] 36 ∧ OwnS W (bx + 1) (.slice a X.length c) X
theorem NmB.b {bx : Nat} {W W' : World} {X : List ByteArray} (h : NmB bx W X) (hb : Below W.heap.size W W') : NmB bx W' X := by
  obtain ⟨a, c, h1, h2⟩ := h
  exact ⟨a, c, Blk.below h1 hb, h2.below hb⟩
theorem nmB_own {β : Type} (bx : Nat) (f : β → List ByteArray) : Own (fun (s : β) W => NmB bx W (f s)) := fun s X Y row hs hg hr => by
  obtain ⟨a, c, h1, h2⟩ := hs
  refine ⟨a, c, own_blk bx _ _ () X Y row h1 hg hr, World.ownsRow.kept h2 hg ?_⟩
  rcases h2.2 with ⟨hv, _⟩ | ⟨g0, cap, cur, hv, hb, hg0, _⟩
  · exact .inl (by rw [hv]; rfl)
  · refine .inr (fun e => ?_)
    obtain ⟨o, ho, hc⟩ := hr g0 (by rw [← e, hv]; rfl)
    rw [hg0] at ho; cases ho; cases hc
/-- an append of which the run is known, inside a fence -/
theorem step_app {F : Fence} {n : Nat} {P : Program} {w w' : World} {ops : Array Oper} {rest : List Oper} {o : Oper} {a : Act} {Q : Exit → Act → World → Prop}
    (hg : o.guard = none) (s x : Operand) (t : TypeId) (hop : o.op = Op.call { callee := Callee.builtin Builtin.append, args := #[s, x], argTypes := #[t, t] }) (v u v' : Value) (hs : a.eval s = v) (hx : a.eval x = u)
    (hrun : (Builtin.append_ #[t, t] o.type #[v, u]).run P w = .ok v' w') (hK : wpListIn F n P ops Q rest (a.put o.dst v') w') : wpListIn F n P ops Q (o :: rest) a w := by
  refine wpListIn_plain hg fun K hK' => ?_
  unfold Oper.wpIn
  refine ⟨?_, ?_⟩
  · simp [Oper.about, hop, resolve, Target.leads, Sem.run_pure]
  · rw [Oper.semAt_plain F _ _ (by rw [hop]; intro c hc'; cases hc')]
    simp [execOp, hop, resolve, invoke, builtin, hs, hx, hrun, Result.andThen]
    exact hK' _ _ hK
/-- append(names, x) -/
theorem app_name {W : World} {bx : Nat} {a : Option Addr} {c : Nat} {X : List ByteArray} (h1 : Blk W bx #[.slice a X.length c] 36) (h2 : OwnS W (bx + 1) (.slice a X.length c) X) (hX : X.length ≤ 100000000) (x : ByteArray) :
    ∃ a' c' W4, (Builtin.append_ #[36, 36] 36 #[.slice a X.length c, .slice (some ⟨W.heap.size, 0, none⟩) 1 1]).run Tryz.prog (W.alloc (.cells #[.string x] 9)) = .ok (.slice a' (X.length + 1) c') W4 ∧
      Blk W4 bx #[.slice a X.length c] 36 ∧ NmB bx (W4.setCell ⟨bx, 0, none⟩ (.slice a' (X.length + 1) c')) (X ++ [x]) ∧ (∀ B, B ≤ bx → Below B W (W4.setCell ⟨bx, 0, none⟩ (.slice a' (X.length + 1) c'))) ∧ (∀ (k : Nat) (o : Obj), W.heap[k]? = some o → (∀ cs fr, o ≠ .cells cs 9 fr) → k ≠ bx → (W4.setCell ⟨bx, 0, none⟩ (.slice a' (X.length + 1) c')).heap[k]? = some o) := by
  obtain ⟨i0, hi, hz0, hz1, hz2⟩ := info_parts strI
  have hb : Below W.heap.size W (W.alloc (.cells #[.string x] 9)) := bel_alloc (Below.refl _ _) _
  have hlt := Blk.lt h1
  obtain ⟨v', W4, hr, q1, q2, q3⟩ := run_append_own (P := Tryz.prog) (W.alloc (.cells #[.string x] 9)) (bx + 1) 36 36 9 i0 _ 1 16 Tryz.underlying36 hi hz0 hz1 hz2 rfl (by decide) (.slice a X.length c) X.length (vsS X) (h2.below hb) ⟨W.heap.size, 0, none⟩ 1 1 (vsS [x]) (by simp [vsS]) (fun j u hj => by
    have hj0 : j = 0 := by have := (List.getElem?_eq_some_iff.1 hj).1; simp [vsS] at this; exact this
    subst hj0
    simp only [vsS, List.map_cons, List.map_nil, List.getElem?_cons_zero, Option.some.injEq] at hj
    rw [Addr.add_lit, ← hj]
    exact Blk.cell (Blk.new W #[.string x] 9) 0) (vsS_one _) (by unfold maxLen; omega) (by omega) (by have := hb.size; omega)
  have hO4 : OwnS W4 (bx + 1) v' (X ++ [x]) := by
    unfold OwnS
    rw [List.length_append, vsS_app]
    exact q1
  obtain ⟨a', c', hv', -⟩ := hO4.slS
  rw [List.length_append, List.length_singleton] at hv'
  subst hv'
  have hlo := ownS_lo h2
  have hB4 : Blk W4 bx #[.slice a X.length c] 36 := Blk.grown (Blk.below h1 hb) q2 (fun e => by have := hlo bx e.symm; omega)
  refine ⟨a', c', W4, hr, hB4, ⟨a', c', ?_, ?_⟩, fun B hB => ?_, fun k o hk ho hne => ?_⟩
  · rw [List.length_append, List.length_singleton]; exact blk_cell_set hB4 _
  · rw [List.length_append, List.length_singleton]; exact row_far hO4 (by omega) _ _
  · exact below_set ((hb.mono (by omega)).grown q2 (by have := hb.size; omega) (fun k hk => by have := hlo k hk; omega)) hB _ _
  · rw [heap_setCell_other W4 ⟨bx, 0, none⟩ k _ hne]
    refine (q2.block k (by rw [World.size_alloc]; have := (Array.getElem?_eq_some_iff.1 hk).1; omega) (fun e => ?_)).trans ((hb.block k (Array.getElem?_eq_some_iff.1 hk).1).trans hk)
    rcases h2.2 with ⟨hv, _⟩ | ⟨g0, cap0, cur, hv, hb0, hg0, _⟩
    · rw [hv] at e; cases e
    · rw [hv] at e
      have : g0 = k := by simpa [Value.ownBlock] using e.symm
      subst this
      rw [hg0] at hk
      injection hk with hk
      exact ho _ _ hk.symm
set_option maxRecDepth 100000 in
set_option maxHeartbeats 16000000 in
theorem Names_in (l : List Tm) (A : Option Addr) (n c : Nat) (w : World) (hG : TsW w A n c l) (hl : sizes l ≤ 10000000) :
    CallsIn Fence.wide 6 Tryz.prog 46 #[.slice A n c] w fun e w' => ∃ v, e = .returned v ∧ OwnS w' w.heap.size v (names l) ∧ Below w.heap.size w w' := by
  obtain ⟨W1, hW1⟩ : ∃ W1, w.alloc (.cells #[.slice none 0 0] 36) = W1 := ⟨_, rfl⟩
  have hB1 : Below w.heap.size w W1 := by rw [← hW1]; exact bel_alloc (Below.refl _ _) _
  have N1 : NmB w.heap.size W1 (varsL (alls (l.take 0))) := ⟨none, 0, by rw [← hW1]; exact Blk.new w _ _, OwnS.nil _ _⟩
  have hn : n = l.length := hG.1
  have hn63 : n ≤ 9223372036854775807 := by
    have : ∀ l : List Tm, l.length ≤ sizes l := fun l => by
      induction l with
      | nil => exact Nat.le_refl _
      | cons t l ih => rw [List.length_cons, sizes]; have := size_pos t; omega
    have := this l
    omega
  have HG := Lib.hid hG
  have HE := Lib.hid (show varsL (alls (l.take n)) = varsL (alls l) from by rw [List.take_of_length_le (by omega)])
  have HE2 := Lib.hid (names_eq l)
  have HV := Lib.hid (show ∀ m : List Tm, m <+: alls l → (varsL m).length ≤ 10000000 from fun m hm => by
    have h1 := varsL_len m
    have h2 := hm.length_le
    rw [alls_len] at h2
    omega)
  have HN1 := Lib.hid N1
  clear hG hn N1
  refine callsIn_of_wp_marks Tryz.func46 rfl trivial ?_ rfl
  simp only [Tryz.ntmps46, List.size_toArray, List.length_cons, List.length_nil, Nat.reduceAdd, Nat.reduceSub, Array.replicate_succ, Array.replicate_zero, List.push_toArray, List.append_toArray, List.nil_append, List.cons_append]
  gi_wp2
  refine wpIn_loop_ghost_k (fun m a W => ∃ (k : Nat) (Ds : List Nat) (x5 x10 x11 x12 x13 x14 x24 : Value), a = { tmps := #[.slice A n c, undef, .slice none 0 0, .pointer (some ⟨w.heap.size, 0, none⟩), undef, x5, undef, .slice A n c, .int .i64 n, .int .i64 k, x10, x11, x12, x13, x14, undef, undef, undef, undef, undef, undef, undef, undef, undef, x24, undef, undef, undef, undef], defers := Ds.map mkD } ∧ m = n - k ∧ k ≤ n ∧ Below w.heap.size w W ∧ Hid (Marks w.heap.size W Ds ∧ NmB w.heap.size W (varsL (alls (l.take k))))) (n - 0)
    ⟨0, [], _, _, _, _, _, _, _, rfl, rfl, by omega, hB1, Lib.hid ⟨Marks.nil _ _, HN1.out⟩⟩ ?_
  rintro m a W ⟨k, Ds, x5, x10, x11, x12, x13, x14, x24, rfl, rfl, hk, hB, hI⟩ J K hJ hK
  clear HN1 hB1 hW1
  by_cases hlt : k < n
  · obtain ⟨bb, o, t', a', n', c', hA1, hbb, y0, y1, y2, y3, ht, hok⟩ := (HG.out).at hlt
    subst hA1
    have u0 := (hB.cell (p := ⟨bb, _, none⟩) hbb).trans y0
    have u1 := (hB.cell (p := ⟨bb, _, none⟩) hbb).trans y1
    have u2 := (hB.cell (p := ⟨bb, _, none⟩) hbb).trans y2
    have u3 := (hB.cell (p := ⟨bb, _, none⟩) hbb).trans y3
    obtain ⟨W2, hW2, hB2, hs2, S2⟩ := box1 W (opT t') (nameT t') (numT t') a' n' c'
    obtain ⟨s0, s1, s2, s3⟩ := S2.four
    obtain ⟨W5, hW5, hB5, hs5, I5, F5⟩ := box_all W2 (opT t') (nameT t') (numT t') a' n' c'
    have hBB5 : Below W.heap.size W W5 := bel_trans hB2 hB5
    have B5 : Below w.heap.size w W5 := hB.trans (hBB5.mono hB.size)
    have hst := all_stops (5 : Nat) w.heap.size (W2.heap.size + 1) (W2.heap.size + 2) w W5 t' a' n' c' hok B5 B5.size I5 F5
    have cAll := all_any (opT t') (nameT t') (numT t') a' n' c' W2
    rw [hW5] at cAll
    have HI5 := Lib.hid (show Marks w.heap.size W5 Ds ∧ NmB w.heap.size W5 (varsL (alls (l.take k))) from ⟨hI.out.1.b hBB5, hI.out.2.b hBB5⟩)
    have hDs : ∀ D ∈ Ds, D < W5.heap.size := HI5.out.1.lt
    have HTk := Lib.hid (show alls (l.take (k + 1)) = alls (l.take k) ++ all t' from by rw [take_t ht, alls_app]; simp [alls])
    have HPre := Lib.hid (show alls (l.take k) ++ all t' <+: alls l from by
      rw [← HTk.out]
      have := alls_app (l.take (k + 1)) (l.drop (k + 1))
      rw [List.take_append_drop] at this
      rw [this]
      exact List.prefix_append _ _)
    have hk0 : 0 ≤ (k : Int) := by omega
    have hk1 : (k : Int) < (n : Int) := by omega
    clear hI hs2 hs5 y0 y1 y2 y3 hok S2 I5 F5 hB2 hB5 hBB5
    generalize opT t' = op' at *
    generalize nameT t' = nm' at *
    generalize numT t' = nu' at *
    gi_wp2_with (refine ⟨trivial, ?_⟩; gi_at_call 66; refine (callsIn_wide.2 cAll).mono ?_; rintro e w' ⟨rfl, rfl⟩)
    refine wpIn_rangeFunc_ownH rfl (by decide) (gf := 118) (lb := #[.pointer (some ⟨W2.heap.size + 1, 0, none⟩), .pointer (some ⟨W2.heap.size + 2, 0, none⟩)]) rfl trivial (enters_of Tryz.func118 (by kernel_rfl) rfl)
      hst KpT.trans (KpT.obj B5.size) (Below.refl _ _) (fun _ => rfl)
      (fun pre W' => (NmB w.heap.size W' (varsL (alls (l.take k)) ++ varsL (pre.map Pt.t)) ∧ Marks w.heap.size W' Ds) ∧ Below w.heap.size w W')
      (fun cd pre W => False)
      (OwnFrom.and (OwnFrom.and (Own.from (nmB_own w.heap.size (fun pre : List (Pt w.heap.size w) => varsL (alls (l.take k)) ++ varsL (pre.map Pt.t))) _) (marks_own w.heap.size _ Ds hDs)) (ownFrom_below (Nat.le_refl _) B5.size))
      (fun cd _ _ _ _ hs _ _ => hs)
      ⟨⟨by simpa [varsL] using HI5.out.2, HI5.out.1⟩, B5⟩
      (fun x a2 W' => ∃ Bx, TBox W' Bx (opT x.t) (nameT x.t) (numT x.t) x.a x.n x.c ∧ a2 = { tmps := #[.slice (some ⟨bb, o, none⟩) n c, undef, .slice none 0 0, .pointer (some ⟨w.heap.size, 0, none⟩), undef, .pointer (some ⟨W.heap.size, 0, none⟩), .pointer (some ⟨Bx, 0, none⟩), .slice (some ⟨bb, o, none⟩) n c, .int .i64 n, .int .i64 k, .bool true, .pointer (some ⟨bb, o + k * 4, none⟩), .agg #[.int .i64 op', .string nm', .int .i64 nu', .slice a' n' c'], .agg #[.int .i64 op', .string nm', .int .i64 nu', .slice a' n' c'], .func (.func 118) #[] #[.pointer (some ⟨W2.heap.size + 1, 0, none⟩), .pointer (some ⟨W2.heap.size + 2, 0, none⟩)], .agg #[.int .i64 (opT x.t), .string (nameT x.t), .int .i64 (numT x.t), .slice x.a x.n x.c], undef, undef, undef, undef, undef, undef, undef, undef, x24, undef, undef, undef, undef], defers := [] })
      (fun x a2 _ X Y row hs hg hr => by obtain ⟨Bx, h2, h3⟩ := hs; exact ⟨Bx, own_blk Bx _ _ () X Y row h2 hg (fun r e => (hr r e).2), h3⟩)
      ?assign ?body ?done ?stop
    case assign =>
      rintro lp pre x W' KK ⟨⟨hN, hM⟩, hBw⟩ hKK
      have hb : Below W'.heap.size W' (W'.alloc (.cells #[.int .i64 (opT x.t), .string (nameT x.t), .int .i64 (numT x.t), .slice x.a x.n x.c] 53)) := bel_alloc (Below.refl _ _) _
      unfold encP
      gi_wp2
      exact hKK _ _ (keepsF hb) (KpT.of_below hBw.size hb) ⟨⟨hN.b hb, hM.b hb⟩, hBw.trans (hb.mono hBw.size)⟩ ⟨W'.heap.size, TBox.new W' _ _ _ _ _ _, rfl⟩
    case body =>
      rintro lp pre x a2 W' hlp hr ⟨⟨hN, hM⟩, hBw⟩ ⟨Bx, hX, rfl⟩ hlt2
      obtain ⟨z0, z1, z2, z3⟩ := hX.four
      have hpl : (pre ++ [x]).map Pt.t = pre.map Pt.t ++ [x.t] := by simp
      by_cases hop : opT x.t = 1
      · have hlen : (varsL (alls (l.take k)) ++ varsL (pre.map Pt.t)).length ≤ 100000000 := by
          have h1 := varsL_len (alls (l.take k))
          have h2 := varsL_len (pre.map Pt.t)
          have h3 := HPre.out.length_le
          rw [List.length_append, all_len] at h3
          rw [alls_len (l := l)] at h3
          rw [List.length_map] at h2
          rw [List.length_append]
          omega
        have hnew : varsL (alls (l.take k)) ++ varsL ((pre ++ [x]).map Pt.t) = (varsL (alls (l.take k)) ++ varsL (pre.map Pt.t)) ++ [nameT x.t] := by
          rw [hpl, varsL_app, ← List.append_assoc]
          congr 1
          rw [varsL, if_pos hop, varsL]
        obtain ⟨va, vc, h1, h2⟩ := hN
        obtain ⟨va', vc', W4, hrun, hB4, hN4, hbel, hkeep⟩ := app_name h1 h2 hlen (nameT x.t)
        have r0 := Blk.cell h1 0
        have r4 := Blk.cell hB4 0
        have q4 := Blk.free hB4 0
        have HF := Lib.hid (show KeepsFrom w'.heap.size W' (W4.setCell ⟨w.heap.size, 0, none⟩ (.slice va' ((varsL (alls (l.take k)) ++ varsL (pre.map Pt.t)).length + 1) vc')) ∧ KpT w.heap.size W' (W4.setCell ⟨w.heap.size, 0, none⟩ (.slice va' ((varsL (alls (l.take k)) ++ varsL (pre.map Pt.t)).length + 1) vc')) ∧ (NmB w.heap.size (W4.setCell ⟨w.heap.size, 0, none⟩ (.slice va' ((varsL (alls (l.take k)) ++ varsL (pre.map Pt.t)).length + 1) vc')) (varsL (alls (l.take k)) ++ varsL ((pre ++ [x]).map Pt.t)) ∧ Marks w.heap.size (W4.setCell ⟨w.heap.size, 0, none⟩ (.slice va' ((varsL (alls (l.take k)) ++ varsL (pre.map Pt.t)).length + 1) vc')) Ds) ∧ Below w.heap.size w (W4.setCell ⟨w.heap.size, 0, none⟩ (.slice va' ((varsL (alls (l.take k)) ++ varsL (pre.map Pt.t)).length + 1) vc')) from by
          have hbw := hbel w.heap.size (Nat.le_refl _)
          refine ⟨⟨hbw.size, fun i ob hi1 hi2 hi3 => hkeep i ob hi2 (fun cs fr e => by subst e; cases hi3) (fun e => by subst e; have := B5.size; have := Blk.lt h1; rw [show W'.heap[w.heap.size]? = _ from h1] at hi2; injection hi2 with hi2; subst hi2; cases hi3)⟩, ⟨hbw, fun i cs hi1 hi2 => hkeep i _ hi1 (fun cs' fr e => by injection e with e1 e2; exact absurd e2 (by decide)) (fun e => by subst e; rw [show W'.heap[w.heap.size]? = _ from h1] at hi1; injection hi1 with hi1; injection hi1 with e1 e2; exact absurd e2 (by decide))⟩, ⟨by rw [hnew]; exact hN4, ⟨hM.1, fun D hD => ⟨(hM.2 D hD).1, hkeep D _ (hM.2 D hD).2 (fun cs fr e => by cases e) (fun e => by subst e; have := (hM.2 _ hD).2; rw [show W'.heap[w.heap.size]? = _ from h1] at this; cases this)⟩⟩⟩, hBw.trans hbw⟩)
        clear hN4 hbel hkeep h1 h2 hB4 hM hX
        generalize (varsL (alls (l.take k)) ++ varsL (pre.map Pt.t)).length = N at *
        gi_wp2_with (gi_at_builtin; refine step_app rfl (.tmp 19) (.tmp 22) 36 rfl _ _ _ rfl rfl hrun ?_; clear hrun)
        exact HF.out
      · have hnew : varsL ((pre ++ [x]).map Pt.t) = varsL (pre.map Pt.t) := by
          rw [hpl, varsL_app]
          rw [varsL, if_neg hop, varsL, List.append_nil]
        gi_wp2
        exact ⟨keepsF (Below.refl _ _), KpT.refl _ _, ⟨by rw [hnew]; exact hN, hM⟩, hBw⟩
    case done =>
      rintro D zs W' hD hS ⟨⟨hN, hM⟩, hBw⟩ hKd
      have HN := Lib.hid (show NmB w.heap.size W' (varsL (alls (l.take (k + 1)))) from by rw [HTk.out, varsL_app, ← hS]; exact hN)
      have HM := Lib.hid (hM.cons (Nat.le_trans B5.size hD) (fun d hd => Nat.lt_of_lt_of_le (hDs d hd) hD) hKd)
      clear hN hM hst
      gi_wp2
      refine ⟨n - (k + 1), by omega, hJ _ _ _ ⟨k + 1, D :: Ds, .pointer (some ⟨W.heap.size, 0, none⟩), .bool true, .pointer (some ⟨bb, o + k * 4, none⟩), .agg #[.int .i64 op', .string nm', .int .i64 nu', .slice a' n' c'], .agg #[.int .i64 op', .string nm', .int .i64 nu', .slice a' n' c'], .func (.func 118) #[] #[.pointer (some ⟨W2.heap.size + 1, 0, none⟩), .pointer (some ⟨W2.heap.size + 2, 0, none⟩)], .int .i64 ((k : Int) + 1), ?_, rfl, by omega, hBw, Lib.hid ⟨HM.out, HN.out⟩⟩⟩
      rw [show ((k + 1 : Nat) : Int) = (k : Int) + 1 from by omega]
      rfl
    case stop =>
      rintro D cd pre W' hD hS h hKd
      exact h.elim
  · obtain rfl : k = n := by omega
    obtain ⟨hM, hN⟩ := hI.out
    rw [HE.out] at hN
    obtain ⟨va, vc, h1, h2⟩ := hN
    have hlen : (varsL (alls l)).length ≤ 1000000000 := by have := HV.out (alls l) (List.prefix_refl _); omega
    have r0 := Blk.cell h1 0
    have hbk : (Value.slice va (varsL (alls l)).length vc).ownBlock ≠ some w.heap.size := fun e => by have := ownS_lo h2 _ e; omega
    have cS := sortS_own h2 hlen
    have HC := Lib.hid (show ∀ W', OwnS W' (w.heap.size + 1) (.slice va (varsL (alls l)).length vc) (srtS (varsL (alls l))) → _ from fun W' h => compactS_own (X := srtS (varsL (alls l))) (by rw [srtS_len]; exact h) (by rw [srtS_len]; exact hlen))
    rw [srtS_len] at HC
    have H1 := Lib.hid h1
    have H2 := Lib.hid h2
    have HM := Lib.hid hM
    clear hI h1 h2 hM HV HE HG
    rw [HE2.out] at HC
    clear HE2
    have HNl := Lib.hid (show ∃ Y, Y = names l from ⟨_, rfl⟩)
    generalize hX : varsL (alls l) = X at *
    clear hX
    gi_wp2_with (first
      | (refine ⟨trivial, ?_⟩; gi_at_call 83; refine (callsIn_wide.2 cS).mono ?_; rintro e w6 ⟨rfl, ho6, hg6⟩; have HO6 := Lib.hid ho6; have r6 := Blk.cell (Blk.grown H1.out hg6 (fun e => hbk e.symm)) 0; have HM6 := Lib.hid (HM.out.kept hg6 (ownS_cells H2.out)); have cC := HC.out w6 HO6.out; clear ho6)
      | (refine ⟨trivial, ?_⟩; gi_at_call 84; refine (callsIn_wide.2 cC).mono ?_; rintro e w7 ⟨rfl, ho7, hg7⟩; have HO7 := Lib.hid ho7; have HM7 := Lib.hid (HM6.out.kept hg7 (by rw [show (Value.slice va X.length vc).ownBlock = (Value.slice va X.length vc).ownBlock from rfl]; exact ownS_cells HO6.out)); clear ho7))
    have h6 : Below w.heap.size w w6 := hB.grown hg6 hB.size (fun q hq => by have := ownS_lo H2.out q hq; omega)
    have h7 : Below w.heap.size w w7 := h6.grown hg7 h6.size (fun q hq => by have := ownS_lo HO6.out q hq; omega)
    show LeavesInM _ _ _ _ _ _ (Ds.map mkD) .returning w7
    refine leave_marks w.heap.size (fun W' => OwnS W' (w.heap.size + 1) (.slice va (names l).length vc) (names l) ∧ Below w.heap.size w W') (fun W' D hI hD hK => ⟨OwnS.put hI.1 hK _, hI.2.trans (belowK_b (w := w) (Nat.le_refl _) W' D _ (.deferred none) hD hK rfl rfl)⟩) (fun W' hI => ?_) Ds w7 HM7.out ⟨HO7.out, h7⟩
    exact ⟨_, results_tmp rfl _ _ _, _, rfl, hI.1.base (by omega), hI.2⟩
theorem Names_any (l : List Tm) (A : Option Addr) (n c : Nat) (w : World) (hG : TsW w A n c l) (hl : sizes l ≤ 10000000) :
    Calls Tryz.prog 46 #[.slice A n c] w fun e w' => ∃ v, e = .returned v ∧ OwnS w' w.heap.size v (names l) ∧ Below w.heap.size w w' :=
  callsIn_wide.1 (Names_in l A n c w hG hl)
end Go.Proofs.YtjjfbgadpgckeaaGreat.T
