/-
  What is proved: the library's Sort and Compact of a row of texts of the call's own: the names in order, each once.
  What is proved: compactS_own (taken out of LibSt, for seats without that function).
  What is proved: a region inside a round of a range over a function is walked as one outside: operations taken first where a condition on the world holds.
  What is proved: a list of texts appended to a row of the call's own; slices.Concat of two lists of texts.
-/
import Derived.Test.YtcigeclnbhcohaaGreatDoorBL
import Derived.Test.YtcigeclnbhcohaaGreatDoorShelf
import Derived.Sort.OwnSorted
import Derived.Sort.Walk0
import Derived.Lib.SlicesCompact
import Derived.OrdersIn
import Derived.OrdersHeld
import Derived.Deep.RegionHeld
import Derived.RangeFuncCalls
import Derived.RangeFuncWrites
import Derived.Test.YtcigeclnbhcohaaGreatDoorL2
import Derived.Maps.AppendAt
import Derived.Laws.AppendOwnNone
import Derived.OwnWalk
import Derived.Lib.AppendZeros
import Derived.Deep.AppendLies
namespace Go.Proofs.YtcigeclnbhcohaaGreatDoor.T
open Go.RowKit L
set_option linter.unusedVariables false
set_option linter.unusedSimpArgs false

theorem lt_cmp (x y : List UInt8) : x < y ↔ cmpB x y = -1 := by
  have h := bytesLess_eq x y
  rw [less_cmp] at h
  exact (decide_eq_decide.1 h).symm
theorem le_cmp (x y : List UInt8) : x ≤ y ↔ cmpB x y ≠ 1 := by
  rw [← List.not_lt, lt_cmp]
  have := linB.anti x y
  omega
theorem cmpB_le_trans {x y z : List UInt8} (h1 : cmpB x y ≠ 1) (h2 : cmpB y z ≠ 1) : cmpB x z ≠ 1 := by
  rcases linB.rng x y with e | e | e
  · rcases linB.rng y z with f | f | f
    · rw [linB.trans x y z e f]; decide
    · rw [← (linB.eq y z).1 f, e]; decide
    · exact absurd f h2
  · rw [(linB.eq x y).1 e]; exact h2
  · exact absurd e h1
theorem cmpB_lt_of {x y z : List UInt8} (h1 : cmpB x y ≠ 1) (h2 : cmpB y z ≠ 1) (h3 : y ≠ z) : cmpB x z = -1 := by
  have hyz : cmpB y z = -1 := by
    rcases linB.rng y z with f | f | f
    · exact f
    · exact absurd ((linB.eq y z).1 f) h3
    · exact absurd f h2
  rcases linB.rng x y with e | e | e
  · exact linB.trans x y z e hyz
  · rw [(linB.eq x y).1 e]; exact hyz
  · exact absurd e h1
def rawS (X : List ByteArray) : List (List UInt8) := X.map (fun s => s.data.toList)
def unS (zs : List (List UInt8)) : List ByteArray := zs.map (fun l => ⟨l.toArray⟩)
theorem raw_un (zs : List (List UInt8)) : rawS (unS zs) = zs := by unfold rawS unS; rw [List.map_map]; exact (List.map_congr_left (fun l _ => by simp)).trans (List.map_id zs)
theorem vs_un (zs : List (List UInt8)) : vsS (unS zs) = zs.map encStr := by unfold vsS unS; rw [List.map_map]; rfl
theorem un_raw (X : List ByteArray) : unS (rawS X) = X := by unfold rawS unS; rw [List.map_map]; exact (List.map_congr_left (fun s _ => by cases s; simp)).trans (List.map_id X)
theorem vs_raw (X : List ByteArray) : vsS X = (rawS X).map encStr := by rw [← vs_un, un_raw]
theorem un_len (zs : List (List UInt8)) : (unS zs).length = zs.length := by unfold unS; simp
theorem raw_len (X : List ByteArray) : (rawS X).length = X.length := by unfold rawS; simp
/-- texts in order -/
def srtS (X : List ByteArray) : List ByteArray := unS ((rawS X).mergeSort fun x y => decide (x ≤ y))
theorem srtS_len (X : List ByteArray) : (srtS X).length = X.length := by unfold srtS; rw [un_len, List.length_mergeSort, raw_len]
theorem sortS_own {w : World} {base : Nat} {A : Option Addr} {c : Nat} {X : List ByteArray} (h : OwnS w base (.slice A X.length c) X) (hl : X.length ≤ 1000000000) :
    Calls Tryz.prog 73 #[.slice A X.length c] w fun e w' => e = .returned (.tuple #[]) ∧ OwnS w' base (.slice A X.length c) (srtS X) ∧ w.grownBy w' (Value.slice A X.length c).ownBlock := by
  by_cases h0 : X = []
  · subst h0
    refine (Tryz.slices_Sort_string_none A c w).mono fun e w' ⟨he, hw⟩ => ?_
    subst hw
    have e0 : srtS [] = [] := by simp [srtS, rawS, unS]
    rw [e0]
    exact ⟨he, h, rfl, rfl, rfl, Nat.le_refl _, fun _ _ _ => rfl⟩
  · have hp : 0 < X.length := List.length_pos_iff.2 h0
    rcases h.2 with ⟨hv, hn⟩ | ⟨g, cap, cur, hv, hb, hg, hnc, hcm, hcs, ht⟩
    · omega
    · injection hv with e1 e2 e3
      subst e1 e3
      rw [Nat.mul_one, vs_raw, ← raw_len] at ht
      have hh : Go.Sort.Holds encStr w g 0 (rawS X).toArray := holds_of_block hg ht
      have hc := Tryz.slices_Sort_string g 0 c (rawS X) w hh (Array.getElem?_eq_some_iff.1 hg).1 (by rw [raw_len]; omega)
      rw [raw_len] at hc
      refine hc.mono fun e w' ⟨he, n, os, hw⟩ => ?_
      subst hw
      refine ⟨he, ?_, grownBy_sorted _⟩
      have := ownsRow_sorted (ss := rawS X) (ts := (rawS X).mergeSort fun x y => decide (x ≤ y)) (n := n) (os := os) (List.length_mergeSort _) hb hg (by rw [raw_len]; exact hnc) hcm hcs
      unfold OwnS
      rw [srtS_len]
      unfold srtS
      rw [vs_un]
      rw [raw_len] at this
      exact this
theorem compact_leS (X : List (List UInt8)) : (Lib.compact X).length ≤ X.length := by
  unfold Lib.compact Lib.compactUpTo
  rw [List.length_map]
  have := List.length_filter_le (Lib.keeps X.toArray) (List.range X.length)
  rwa [List.length_range] at this
def cmpS (X : List ByteArray) : List ByteArray := unS (Lib.compact (rawS X))
/-- what compacting a sorted list leaves -/
theorem compact_upS (X : List (List UInt8)) (hs : X.Pairwise (fun x y => cmpB x y ≠ 1)) : (Lib.compact X).Pairwise (fun x y => cmpB x y = -1) ∧ ∀ y, y ∈ Lib.compact X ↔ y ∈ X := by
  have key : ∀ m, m ≤ X.length → (Lib.compactUpTo X.toArray m).Pairwise (fun x y => cmpB x y = -1) ∧ (∀ y, y ∈ Lib.compactUpTo X.toArray m ↔ y ∈ X.take m) := by
    intro m
    induction m with
    | zero => intro _; simp [Lib.compactUpTo]
    | succ m ih =>
      intro hm
      obtain ⟨h1, h2⟩ := ih (by omega)
      rw [Lib.compactUpTo_succ]
      have hget : X.toArray[m]! = X[m]'(by omega) := by simp [show m < X.length by omega]
      have htk : X.take (m + 1) = X.take m ++ [X[m]'(by omega)] := by rw [List.take_add_one, List.getElem?_eq_getElem (by omega)]; rfl
      by_cases hk : Lib.keeps X.toArray m = true
      · rw [if_pos hk, hget, htk]
        have hlt : ∀ y ∈ X.take m, cmpB y (X[m]'(by omega)) = -1 := by
          intro y hy
          obtain ⟨i, hi, rfl⟩ := List.mem_iff_getElem.1 hy
          rw [List.length_take] at hi
          rw [List.getElem_take]
          have hm0 : 0 < m := by omega
          have hle1 : cmpB (X[i]'(by omega)) (X[m - 1]'(by omega)) ≠ 1 := by
            by_cases e : i = m - 1
            · subst e; rw [(linB.eq _ _).2 rfl]; decide
            · exact List.pairwise_iff_getElem.1 hs i (m - 1) (by omega) (by omega) (by omega)
          have hle2 := List.pairwise_iff_getElem.1 hs (m - 1) m (by omega) (by omega) (by omega)
          unfold Lib.keeps at hk
          have hk' := of_decide_eq_true hk
          rcases hk' with h0 | h0
          · omega
          · rw [hget] at h0
            have : X.toArray[m - 1]! = X[m - 1]'(by omega) := by simp [show m - 1 < X.length by omega]
            rw [this] at h0
            exact cmpB_lt_of hle1 hle2 (fun e => h0 e.symm)
        refine ⟨?_, fun y => by rw [List.mem_append, List.mem_append, h2 y]⟩
        refine List.pairwise_append.2 ⟨h1, by simp, fun a ha b hb => ?_⟩
        rw [List.mem_singleton] at hb
        subst hb
        exact hlt a ((h2 a).1 ha)
      · rw [if_neg hk, List.append_nil, htk]
        refine ⟨h1, fun y => ?_⟩
        rw [h2 y, List.mem_append, List.mem_singleton]
        refine ⟨Or.inl, fun h => ?_⟩
        rcases h with h | rfl
        · exact h
        · unfold Lib.keeps at hk
          have hk' : ¬ (m = 0 ∨ X.toArray[m]! ≠ X.toArray[m - 1]!) := fun e => hk (decide_eq_true e)
          have hm0 : m ≠ 0 := fun e => hk' (.inl e)
          have heq : X.toArray[m]! = X.toArray[m - 1]! := Decidable.byContradiction fun e => hk' (.inr e)
          rw [hget] at heq
          have : X.toArray[m - 1]! = X[m - 1]'(by omega) := by simp [show m - 1 < X.length by omega]
          rw [heq, this]
          exact List.mem_iff_getElem.2 ⟨m - 1, by rw [List.length_take]; omega, by rw [List.getElem_take]⟩
  have := key X.length (Nat.le_refl _)
  rw [List.take_length] at this
  exact this
/-- in order, each once -/
theorem names_sorted (X : List ByteArray) : Up (cmpS (srtS X)) ∧ ∀ x, x ∈ cmpS (srtS X) ↔ x ∈ X := by
  have hs : ((rawS X).mergeSort fun x y => decide (x ≤ y)).Pairwise (fun x y => cmpB x y ≠ 1) := by
    have := List.pairwise_mergeSort (le := fun x y : List UInt8 => decide (x ≤ y)) (fun a b c h1 h2 => by
      rw [decide_eq_true_eq, le_cmp] at *
      exact cmpB_le_trans h1 h2) (fun a b => by
      rw [Bool.or_eq_true, decide_eq_true_eq, decide_eq_true_eq, le_cmp, le_cmp]
      have := linB.anti a b
      have := linB.rng a b
      omega) (rawS X)
    exact this.imp (fun h => by rw [decide_eq_true_eq, le_cmp] at h; exact h)
  obtain ⟨h1, h2⟩ := compact_upS _ hs
  unfold cmpS srtS
  rw [raw_un]
  refine ⟨?_, fun x => ?_⟩
  · unfold Up unS
    rw [List.pairwise_map]
    exact h1.imp (fun {a b} h => by unfold cmpN; rw [ByteArray.toList_eq, ByteArray.toList_eq]; exact h)
  · unfold unS
    rw [List.mem_map]
    constructor
    · rintro ⟨y, hy, rfl⟩
      rw [h2, List.mem_mergeSort] at hy
      unfold rawS at hy
      obtain ⟨s, hs2, rfl⟩ := List.mem_map.1 hy
      cases s
      simpa using hs2
    · intro hx
      refine ⟨x.data.toList, ?_, by cases x; simp⟩
      rw [h2, List.mem_mergeSort]
      exact List.mem_map.2 ⟨x, hx, rfl⟩
end Go.Proofs.YtcigeclnbhcohaaGreatDoor.T
namespace Go.Proofs.YtcigeclnbhcohaaGreatDoor.T
open Go.RowKit L
set_option linter.unusedVariables false
set_option linter.unusedSimpArgs false

theorem compactS_own {w : World} {base : Nat} {A : Option Addr} {c : Nat} {X : List ByteArray} (h : OwnS w base (.slice A X.length c) X) (hl : X.length ≤ 1000000000) :
    Calls Tryz.prog 74 #[.slice A X.length c] w fun e w' => e = .returned (.slice A (cmpS X).length c) ∧ OwnS w' base (.slice A (cmpS X).length c) (cmpS X) ∧ w.grownBy w' (Value.slice A X.length c).ownBlock := by
  by_cases h0 : X = []
  · subst h0
    refine (Tryz.slices_Compact_string_empty A c w).mono fun e w' ⟨he, hw⟩ => ?_
    subst hw
    exact ⟨he, h, rfl, rfl, rfl, Nat.le_refl _, fun _ _ _ => rfl⟩
  · have hp : 0 < X.length := List.length_pos_iff.2 h0
    rcases h.2 with ⟨hv, hn⟩ | ⟨g, cap, cur, hv, hb, hg, hnc, hcm, hcs, ht⟩
    · omega
    · injection hv with e1 e2 e3
      subst e1 e3
      rw [Nat.mul_one, vs_raw, ← raw_len] at ht
      have hh : Go.Sort.Holds encStr w g 0 (rawS X).toArray := holds_of_block hg ht
      have hc := Tryz.slices_Compact_string g 0 c (rawS X) w hh (by rw [raw_len]; omega) (by rw [raw_len]; exact hnc)
      rw [raw_len] at hc
      refine hc.mono fun e w' ⟨he, q, hw⟩ => ?_
      have hle := compact_leS (rawS X)
      rw [raw_len] at hle
      have hlen : (Lib.compact (rawS X) ++ List.replicate (X.length - (Lib.compact (rawS X)).length) []).length = X.length := by simp; omega
      have hgr : w' = Go.Sort.grow w' #[] := (Go.Sort.grow_empty w').symm
      rw [hgr, hw]
      have hcl : (cmpS X).length = (Lib.compact (rawS X)).length := by unfold cmpS; rw [un_len]
      refine ⟨by rw [hcl]; exact he, ⟨by rw [vsS_len]; omega, .inr ⟨g, c, _, rfl, hb, heap_sorted _ hg, by omega, hcm, by simp [Go.Sort.putCells, hcs], ?_⟩⟩, grownBy_sorted _⟩
      have hall := take_putCells cur (Lib.compact (rawS X) ++ List.replicate (X.length - (Lib.compact (rawS X)).length) []) (by omega)
      rw [hlen] at hall
      rw [Nat.mul_one, hcl]
      have h2 := congrArg (List.take (Lib.compact (rawS X)).length) hall
      rw [List.take_take, Nat.min_eq_left hle] at h2
      rw [h2, List.map_append, List.take_append_of_le_length (by simp), List.take_of_length_le (by simp)]
      unfold cmpS
      rw [vs_un]
end Go.Proofs.YtcigeclnbhcohaaGreatDoor.T
namespace Go.Proofs.YtcigeclnbhcohaaGreatDoor.L
open Go.RowKit
set_option linter.unusedVariables false
set_option linter.unusedSimpArgs false

section
variable {P : Program} {ops : Array Oper} {Q : Exit → Act → World → Prop}

/-- no operation defers -/
def noDefer (ops : Array Oper) : Bool := ops.all (fun o => match o.op with | .defer _ => false | _ => true)
theorem noDefer_spec (h : noDefer ops = true) {i : Nat} {o : Oper} (hi : ops[i]? = some o) : ∀ c, o.op ≠ .defer c := fun c e => by
  unfold noDefer at h
  rw [Array.all_eq_true] at h
  obtain ⟨hlt, rfl⟩ := Array.getElem?_eq_some_iff.1 hi
  have := h i hlt
  rw [e] at this
  cases this
theorem rowsIn_round {n l : Nat} {row : String} {args : Array Value} {w : World} {R : Value → World → Prop} (h : Rows P row args w R) : RowsIn (Fence.wide.inRound l) n P row args w R :=
  fun c cs _ => let ⟨v, w', r, s⟩ := h c cs; ⟨v, w', r, stepsIn_wide.2 s⟩
theorem opIn_of {n l i : Nat} (hd : noDefer ops = true) (hL : ¬ LetsOut Q) {K K' : Act → World → Prop} (hK : ∀ a w, K a w → K' a w) {a : Act} {w : World} (h : wpOp P ops Q i K a w) : wpOpIn (Fence.wide.inRound l) n P ops Q i K' a w := by
  unfold wpOp at h
  unfold wpOpIn
  cases ho : ops[i]? with
  | none => rw [ho] at h; exact hK _ _ h
  | some o =>
    rw [ho] at h
    dsimp only at h ⊢
    split
    · rename_i hw
      rw [if_pos hw] at h
      rcases h with h | ⟨_, h⟩
      · refine ⟨fun f _ => trivial, ?_⟩
        rw [Oper.semAt_eq _ _ _ (noDefer_spec hd ho)]
        unfold Oper.wp at h
        generalize (execOp a.eval o).run P w = r at *
        cases r with
        | ok x w' =>
          cases x <;> simp only [Oper.upon] at h <;> simp only [Oper.uponIn]
          case value u => exact hK _ _ h
          case skip => exact hK _ _ h
          case defer d => exact hK _ _ h
          case enter f args =>
            refine ⟨(fun h => by cases h), CallsIn.inRound l (callsIn_wide.2 (Calls.mono h fun e w'' he => ?_))⟩
            cases e with
            | returned u => exact hK _ _ he
            | panicked c => exact he
            | outgrown => exact he
          case row row args => exact ⟨(fun h => by cases h), rowsIn_round (Rows.mono h fun v w'' he => hK _ _ he)⟩
        | halt x w' =>
          cases x <;> simp only [Oper.upon] at h <;> simp only [Oper.uponIn]
          case panic u => exact h
      · exact absurd h hL
    · rename_i hw
      rw [if_neg hw] at h
      exact ⟨fun f _ => trivial, hK _ _ h⟩
theorem anyIn_of {n l : Nat} {md : Region.Mode} (hd : noDefer ops = true) (hL : ¬ LetsOut Q) : ∀ (fuel : Nat) (listed : Array Bool) (a : Act) (w : World), wpAny P md ops Q fuel listed a w → wpAnyIn (Fence.wide.inRound l) n P md ops Q fuel listed a w
  | 0, _, _, _, h => h
  | fuel + 1, listed, a, w, h => ⟨h.1, fun i hi => opIn_of hd hL (fun a' w' h' => anyIn_of hd hL fuel _ a' w' h') (h.2 i hi)⟩
/-- a drawn region of a round, by the moves of a plain one -/
theorem wpIn_region_held {n l id : Nat} {a : Act} {w : World} (S : World → Prop) (hm : P.follows .mixedOrders = true) (hd : noDefer ops = true) (hL : ¬ LetsOut Q) (hS : S w.drew)
    (h : S w.drew → wpAnyH P .any ops Q S ops.size (Array.replicate ops.size false) a w.drew) : (Code.region id ops true).wpIn (Fence.wide.inRound l) n P Q a w :=
  wpIn_region_any hm (anyIn_of hd hL _ _ _ _ (wpAny_of_held _ _ _ _ (h hS)))
end
end Go.Proofs.YtcigeclnbhcohaaGreatDoor.L
namespace Go.Proofs.YtcigeclnbhcohaaGreatDoor.L
open Go.RowKit
set_option linter.unusedVariables false
set_option linter.unusedSimpArgs false

set_option maxHeartbeats 2000000 in
theorem Grow_nil (k : Nat) (w : World) (h0 : 0 < k) (hk : k ≤ 1000000000) :
    Calls Tryz.prog 133 #[.slice none 0 0, .int .i64 k] w fun e w' => ∃ v, e = .returned v ∧ OwnS w' w.heap.size v [] ∧ Below w.heap.size w w' := by
  obtain ⟨i0, hi, hz0, hz1, hz2⟩ := info_parts strI
  have hrz : ∀ ty, (Builtin.append_ #[48, 3] ty #[.slice none 0 0, .int .i64 (k : Int)]).run Tryz.prog w =
      .ok (.slice (some ⟨w.heap.size, 0, none⟩) k (grownCap w k 0 9)) (w.drew.alloc (.cells (Builtin.zeroCells (Value.string ⟨#[]⟩).cells k ++ Builtin.zeroCells (Value.string ⟨#[]⟩).cells (grownCap w k 0 9 - k)) 9)) := fun ty =>
    Lib.run_append_nil_zeros w 48 3 ty 9 i0 _ .i64 .i64 Tryz.underlying48 Tryz.underlying3 hi hz0 k h0 (by rw [hz1]; decide) (by omega) (by rw [hz2]; omega)
  have hG := grownCap_ge w k 0 9
  have hGm := grownCap_le_maxLen w k 0 9 (by unfold maxLen; omega)
  have ho : Hid (OwnS (w.drew.alloc (.cells (Builtin.zeroCells (Value.string ⟨#[]⟩).cells k ++ Builtin.zeroCells (Value.string ⟨#[]⟩).cells (grownCap w k 0 9 - k)) 9)) w.heap.size (.slice (some ⟨w.heap.size, 0, none⟩) 0 (grownCap w k 0 9)) []) := by
    have hsz : (Builtin.zeroCells (Value.string ⟨#[]⟩).cells k ++ Builtin.zeroCells (Value.string ⟨#[]⟩).cells (grownCap w k 0 9 - k)).size = grownCap w k 0 9 * 1 := by
      rw [Array.size_append, size_zeroCells, size_zeroCells]
      have : (Value.string ⟨#[]⟩).cells.size = 1 := rfl
      rw [this]; omega
    exact World.ownsRow_made w.drew _ _ (Nat.le_refl _) hGm hsz
  have hb : Hid (Below w.heap.size w (w.drew.alloc (.cells (Builtin.zeroCells (Value.string ⟨#[]⟩).cells k ++ Builtin.zeroCells (Value.string ⟨#[]⟩).cells (grownCap w k 0 9 - k)) 9))) := bel_alloc (Below.refl _ _).drew _
  unfold maxLen at hGm
  generalize hGG : grownCap w k 0 9 = G at *
  generalize w.drew.alloc (.cells (Builtin.zeroCells (Value.string ⟨#[]⟩).cells k ++ Builtin.zeroCells (Value.string ⟨#[]⟩).cells (G - k)) 9) = w1 at *
  clear hGG
  have k1 : ¬ (k : Int) < 0 := by omega
  have k2 : (k : Int) > 0 := by omega
  have hG63 : G ≤ 9223372036854775807 := by omega
  go_enter Tryz.func133, Tryz.ntmps133
  go_wp2_with (at_builtin; refine Lib.wpList_append_run _ rfl _ _ _ _ rfl _ _ rfl rfl _ _ (hrz _) ?_)
  go_ret
  exact ⟨_, rfl, ho.out, hb.out⟩

set_option maxHeartbeats 4000000 in
theorem Concat_two (h : Nat) (a b : Option Addr) (n m c d : Nat) (X Y : List ByteArray) (w : World) (hh : h < w.heap.size) (ht : Two w h (.slice a n c) (.slice b m d)) (hX : SlS w a n c X) (hY : SlS w b m d Y) (hn : n ≤ 100000000) (hm : m ≤ 100000000) (h0 : 0 < n + m) :
    Calls Tryz.prog 106 #[.slice (some ⟨h, 0, none⟩) 2 2] w fun e w' => ∃ v, e = .returned v ∧ OwnS w' w.heap.size v (X ++ Y) ∧ Below w.heap.size w w' := by
  have cg := Grow_nil (n + m) w h0 (by omega)
  rw [Int.natCast_add] at cg
  have hsum : X.length + m ≤ 1000000000 := by have := hX.1.1; omega
  obtain ⟨y1, y2⟩ := ht
  have Ht : Two w h (.slice a n c) (.slice b m d) := ⟨y1, y2⟩
  have k1 : ¬ (n : Int) < 0 := by omega
  have k2 : ¬ (n : Int) + (m : Int) < 0 := by omega
  have hl0 : ([] : List ByteArray).length + n ≤ 1000000000 := by simp; omega
  have hl1 : ([] ++ X).length + m ≤ 1000000000 := by simpa using hsum
  have fin : ∀ (W : World) (v : Value), OwnS W w.heap.size v ([] ++ X ++ Y) → OwnS W w.heap.size v (X ++ Y) := fun W v h => h
  go_enter Tryz.func106, Tryz.ntmps106
  go_wp2
  refine wp_loop_rounds 3 ?_
  rw [rounds_succ]
  go_wp2
  rw [rounds_succ]
  go_wp2
  rw [rounds_succ]
  go_wp2_with (go_at_call 133; ((with_reducible refine cg.mono ?_); rintro e w1 ⟨v1, rfl, ho1, hb1⟩))
  have t1 := Ht.below hb1 hh
  obtain ⟨z1, z2⟩ := t1
  have Ht1 : Two w1 h (.slice a n c) (.slice b m d) := ⟨z1, z2⟩
  have hX1 := hX.below hb1
  have hY1 := hY.below hb1
  have hs1 := hb1.size
  go_wp2
  refine wp_loop_rounds 3 ?_
  rw [rounds_succ]
  go_wp2_with (at_builtin; ((refine app_strs rfl (.tmp 31) (.tmp 32) rfl w.heap.size v1 [] rfl ho1 _ _ _ X rfl hX1 hl0 hs1 ?_); intro v2 w2 ho2 hg2))
  have hb2 : Below w.heap.size w w2 := hb1.grown hg2 hs1 (fun k hk => (ho1.lt k hk).1)
  have hs2 := hb2.size
  obtain ⟨z3, z4⟩ := Ht.below hb2 hh
  have hY2 := hY.below hb2
  rw [rounds_succ]
  go_wp2_with (at_builtin; ((refine app_strs rfl (.tmp 31) (.tmp 32) rfl w.heap.size v2 ([] ++ X) rfl ho2 _ _ _ Y rfl hY2 hl1 hs2 ?_); intro v3 w3 ho3 hg3))
  have hb3 : Below w.heap.size w w3 := hb2.grown hg3 hs2 (fun k hk => (ho2.lt k hk).1)
  rw [rounds_succ]
  go_wp2
  go_ret
  exact ⟨_, rfl, fin _ _ ho3, hb3⟩
end Go.Proofs.YtcigeclnbhcohaaGreatDoor.L
