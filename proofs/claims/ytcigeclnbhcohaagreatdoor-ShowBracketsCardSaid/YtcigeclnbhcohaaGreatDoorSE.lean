/-
  What is proved: what the library's calls give and what the listed tables hold, where the tables read as they were laid.
  What is proved: one world in which the listed tables read as they were laid; and what they give wherever a statement's row says so.
-/
import Derived.Test.YtcigeclnbhcohaaGreatDoorRows
import Derived.Test.YtcigeclnbhcohaaGreatDoorShelf
import Derived.Test.YtcigeclnbhcohaaGreatDoorZShE
import Derived.Lib.AppendIntMem
import Derived.LaidLaws
import Derived.Lib.LaidTab
import Derived.Stop.LaidErr
import Derived.OpenShut
namespace Go.Proofs.YtcigeclnbhcohaaGreatDoor.Sh
open Go.RowKit L T C
set_option linter.unusedVariables false
set_option linter.unusedSimpArgs false
set_option maxRecDepth 100000

theorem join_is : ∀ X : List ByteArray, (⟨(Lib.join (X.map (·.data.toList)) [44, 32]).toArray⟩ : ByteArray) = joinC X
  | [] => rfl
  | [x] => by rw [List.map_cons, List.map_nil, Lib.join_one, Lib.mk_data]; rfl
  | x :: y :: l => by
    have ih := join_is (y :: l)
    rw [joinC, ← ih]
    apply ByteArray.ext
    simp [Lib.join]
theorem join_any (g n : Nat) (X : List ByteArray) (w : World) (hR : RowS w g 0 X) (hg : g < w.heap.size) (hn : n = X.length) (h1 : n ≤ 1000000000) (ht : tot X ≤ 100000000000) :
    Calls Tryz.prog 44 #[.slice (some ⟨g, 0, none⟩) n n, .string ⟨#[44, 32]⟩] w fun e w' => e = .returned (.string (joinC X)) ∧ Below w.heap.size w w' := by
  subst hn
  have hj := joinC_size X
  have c := Tryz.strings_Join g 0 X.length X ⟨#[44, 32]⟩ w (fun j x hx => by
    obtain ⟨hlt, rfl⟩ := List.getElem?_eq_some_iff.1 hx
    exact hR j hlt) hg (by omega) (Nat.le_refl _) (by
    have h2 : (Lib.join (X.map (·.data.toList)) [44, 32]).length = (joinC X).size := by
      rw [← join_is X]; show _ = Array.size _; simp
    show (Lib.join (X.map (·.data.toList)) [44, 32]).length ≤ _
    rw [h2]; omega)
  refine c.mono fun e w' ⟨he, hb⟩ => ⟨?_, hb⟩
  rw [he, ← join_is X]
theorem dText_any {W : World} (HT : Lib.TabBelow Tryz.prog W.heap.size W "internal/strconv.uint64pow10" .u64 Lib.pow10Tab) (n : Int) (n0 : -9223372036854775808 ≤ n) (n1 : n ≤ 9223372036854775807) (w : World) (hw : Below W.heap.size W w) :
    Calls Tryz.prog 58 #[.int .i64 n] w fun e w' => e = .returned (.string (dig n)) ∧ Below w.heap.size w w' := by
  have c1 : Calls Tryz.prog 91 #[.int .i64 n, .int .i64 10] w fun e w' => e = .returned (.string (BA (Lib.itoa n))) ∧ Below w.heap.size w w' := by
    refine (Tryz.strconv_FormatInt_10 n n0 n1 w (HT w hw)).mono fun e w' ⟨h, k, os, hk⟩ => ⟨h, ?_⟩
    rw [hk]
    exact Lib.below_grow _ w (Nat.le_refl _) k os
  have hd : dig n = BA (Lib.itoa n) := rfl
  rw [hd]
  clear HT
  go_enter Tryz.func58, Tryz.ntmps58
  go_wp2_with (go_at_call 91; ((with_reducible refine c1.mono ?_); rintro e w' ⟨rfl, hw'⟩))
  go_ret
  exact ⟨rfl, hw'⟩
/-- a table of operators as a row lists it -/
def opsD (l : List (ByteArray × Int)) : DataW Unit := .agg (l.map fun p => .agg [.lit (.string p.1.data.toList), .lit (.int .i64 p.2)])
theorem opOf {W : World} {enc : TypeId × Value → Unit} {held : Bool} {fuel : Nat} {cs : List Value} {y : DataW Unit × List MemPlace} {s : List UInt8} {x : Int}
    (h : DataW.trod enc Tryz.prog W 0 (fun _ => true) held fuel 85 cs = some y) (hy : y.1 = .agg [.lit (.string s), .lit (.int .i64 x)]) : cs = [.string ⟨s.toArray⟩, .int .i64 x] := by
  obtain ⟨xs, n, hn, hx, hcl, hxl, hi⟩ := DataW.trod_struct Tryz.underlying85 h
  have hC : Tryz.prog.cellsOf 85 = 2 := by kernel_rfl
  rw [hC] at hcl
  match cs, hcl with
  | [c0, c1], _ =>
    match xs, hxl with
    | [x0, x1], _ =>
      have g0 : DataW.trod enc Tryz.prog W 0 (fun _ => true) held n 9 (([c0, c1].drop 0).take (Tryz.prog.cellsOf 9)) = some x0 := hi 0 _ rfl
      have g1 : DataW.trod enc Tryz.prog W 0 (fun _ => true) held n 3 (([c0, c1].drop 1).take (Tryz.prog.cellsOf 3)) = some x1 := hi 1 _ rfl
      have z0 : Tryz.prog.cellsOf 9 = 1 := by kernel_rfl
      have z1 : Tryz.prog.cellsOf 3 = 1 := by kernel_rfl
      rw [z0] at g0
      rw [z1] at g1
      have g0' : DataW.trod enc Tryz.prog W 0 (fun _ => true) held n 9 [c0] = some x0 := g0
      have g1' : DataW.trod enc Tryz.prog W 0 (fun _ => true) held n 3 [c1] = some x1 := g1
      obtain ⟨t, e1, f1, _⟩ := DataW.trod_string Tryz.underlying9 g0'
      obtain ⟨z, e2, f2, _⟩ := DataW.trod_int (k := .i64) Tryz.underlying3 g1'
      obtain rfl : c0 = .string t := by simpa using e1
      obtain rfl : c1 = .int .i64 z := by simpa using e2
      rw [hx, f1, f2] at hy
      simp at hy
      obtain ⟨hs, rfl⟩ := hy
      rw [← hs]
theorem ops_of {W : World} {name : String} {l : List (ByteArray × Int)} {rest : List (String × DataW Unit)} {g n : Nat} {t : TypeId}
    (hg : Tryz.prog.globalNamed name = some g) (hty : (Tryz.prog.globals[g]?).map (·.type) = some t) (ht : Tryz.prog.underlying t = some (.array n 85)) (hct : Tryz.prog.cellsOf t = n * 2)
    (h : laidMet Tryz.prog ((name, opsD l) :: rest) W) : ∀ i (h : i < l.length), W.cell? ⟨g, i * 2, none⟩ = some (.string l[i].1) ∧ W.cell? ⟨g, i * 2 + 1, none⟩ = some (.int .i64 l[i].2) := by
  obtain ⟨ps, ⟨g', t', cs, fuel, p, q, hg', ht', hvar, hd, _, _⟩, _⟩ := h
  obtain rfl := Option.some.inj (hg.symm.trans hg')
  obtain rfl := Option.some.inj (hty.symm.trans ht')
  obtain ⟨xs, m, hm, hx, hcl, hxl, hi⟩ := DataW.trod_array ht hd
  have hC : Tryz.prog.cellsOf 85 = 2 := by kernel_rfl
  have hxs : xs.map (·.1) = l.map fun p => (DataW.agg [.lit (.string p.1.data.toList), .lit (.int .i64 p.2)] : DataW Unit) := by
    have := congrArg Prod.fst hx
    simpa [opsD] using this.symm
  have hll : l.length = n := by have := congrArg List.length hxs; simp at this; omega
  intro i hlt
  have hix : i < xs.length := by omega
  have h1 := hi i (by omega)
  rw [List.getElem?_eq_getElem hix, hC] at h1
  have h2 : xs[i].1 = .agg [.lit (.string l[i].1.data.toList), .lit (.int .i64 l[i].2)] := by
    have h3 : (xs.map (·.1))[i]? = some xs[i].1 := by rw [List.getElem?_map, List.getElem?_eq_getElem hix]; rfl
    rw [hxs, List.getElem?_map, List.getElem?_eq_getElem hlt] at h3
    simpa using h3.symm
  have h4 := opOf h1 h2
  have k0 : cs[i * 2]? = some (.string l[i].1) := by
    have := congrArg (·[0]?) h4
    simpa [List.getElem?_take, List.getElem?_drop] using this
  have k1 : cs[i * 2 + 1]? = some (.int .i64 l[i].2) := by
    have := congrArg (·[1]?) h4
    simpa [List.getElem?_take, List.getElem?_drop] using this
  have e0 := World.var?_cell hg hvar (i * 2)
  have e1 := World.var?_cell hg hvar (i * 2 + 1)
  exact ⟨by rw [e0]; simpa using k0, by rw [e1]; simpa using k1⟩
end Go.Proofs.YtcigeclnbhcohaaGreatDoor.Sh
namespace Go.Proofs.YtcigeclnbhcohaaGreatDoor
open Go.RowKit
set_option linter.unusedVariables false

def laidL : List (String × DataW Unit) := [("math/bits.deBruijn32tab", Rows.laid_math_bits_deBruijn32tab), ("math/bits.deBruijn64tab", Rows.laid_math_bits_deBruijn64tab), ("internal/strconv.uint64pow10", Rows.laid_internal_strconv_uint64pow10), ("sequitur/show.termOperators", Rows.laid_sequitur_show_termOperators), ("sequitur/show.claimOperators", Rows.laid_sequitur_show_claimOperators)]

/-- the integers of a table -/
def tabInts : DataW Unit → Array Value
  | .agg ds => (ds.map fun d => match d with | .lit (.int k n) => Value.int k n | _ => Value.int .u8 0).toArray
  | _ => #[]
/-- the texts and integers of a table of pairs -/
def tabOps : DataW Unit → Array Value
  | .agg ds => (ds.flatMap fun d => match d with | .agg [.lit (.string s), .lit (.int k n)] => [Value.string ⟨s.toArray⟩, Value.int k n] | _ => []).toArray
  | _ => #[]
def setCells (cs : Array Value) : Obj → Obj
  | .cells _ t frozen => .cells cs t frozen
  | o => o
noncomputable def laidWorld (os : Os) : World :=
  let w0 := World.holding Tryz.prog os ⟨#[], #[], []⟩
  { w0 with heap := ((((w0.heap.modify 4 (setCells (tabInts Rows.laid_math_bits_deBruijn32tab))).modify 5 (setCells (tabInts Rows.laid_math_bits_deBruijn64tab))).modify 3 (setCells (tabInts Rows.laid_internal_strconv_uint64pow10))).modify 0 (setCells (tabOps Rows.laid_sequitur_show_termOperators))).modify 1 (setCells (tabOps Rows.laid_sequitur_show_claimOperators)) }
set_option maxRecDepth 100000 in
theorem laidWorld_met (os : Os) (args : Array Value) : laidMet Tryz.prog laidL ((laidWorld os).forCall (fun _ _ => 0) ⟨#[], args, []⟩).memory :=
  laidMet_of_run' 8 (by kernel_rfl) (by kernel_rfl)

theorem env_of {W : World} (h : laidMet Tryz.prog laidL W) : Sh.Env W := by
  have h2 : laidMet Tryz.prog [("internal/strconv.uint64pow10", Lib.tabData .u64 Lib.pow10Tab), ("sequitur/show.termOperators", Sh.opsD Sh.tOps), ("sequitur/show.claimOperators", Sh.opsD Sh.cOps)] W := laidMet.tail (laidMet.tail h)
  have hT := Lib.tabBelow_of_tabIs (Lib.tabIs_of_head (g := 3) (t := 165) (e := 107) (n := 20) (by kernel_rfl) (by kernel_rfl) Tryz.underlying165 Tryz.underlying107 (by kernel_rfl) (by kernel_rfl) h2)
  have h3 := laidMet.tail h2
  have hO := Sh.ops_of (g := 0) (t := 86) (n := 9) (by kernel_rfl) (by kernel_rfl) Tryz.underlying86 (by kernel_rfl) h3
  have hC := Sh.ops_of (g := 1) (t := 101) (n := 13) (by kernel_rfl) (by kernel_rfl) Tryz.underlying101 (by kernel_rfl) (laidMet.tail h3)
  have lt : ∀ {g k : Nat} {v : Value}, W.cell? ⟨g, k, none⟩ = some v → g < W.heap.size := fun h => World.block_lt_of_cell? _ _ h
  refine ⟨fun n n0 n1 w hw => Sh.dText_any hT n n0 n1 w hw, fun g n X w hR hg hn _ h1 ht => Sh.join_any g n X w hR hg hn h1 ht, fun w hw i hi => ?_, fun w hw i hi => ?_⟩
  · have := hO i hi
    exact ⟨(hw.cell (lt this.1)).trans this.1, (hw.cell (lt this.2)).trans this.2⟩
  · have := hC i hi
    exact ⟨(hw.cell (lt this.1)).trans this.1, (hw.cell (lt this.2)).trans this.2⟩
end Go.Proofs.YtcigeclnbhcohaaGreatDoor
