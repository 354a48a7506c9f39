/-
  What is proved: what Parts returns of errors of this program.
-/
import Derived.Test.YthhdhhebelmimaaDoorFltN
import Derived.Maps.AppendAt
import Derived.OwnWalk
namespace Go.Proofs.YthhdhhebelmimaaDoor.Flt
open Go.RowKit Go.Extern.Stop Go.Stop Go.Extern
set_option linter.unusedVariables false
set_option linter.unusedSimpArgs false

theorem un_E (v : Value) (w : World) : Calls Tryd.prog 13 #[.iface 26 v] w fun e w' => e = .returned .nilIface ∧ w' = w := by
  have unE' := unE
  go_enter Tryd.func13, Tryd.ntmps13
  go_wp2
  go_ret
  exact ⟨rfl, rfl⟩
theorem un_L (v : Value) (w : World) : Calls Tryd.prog 13 #[.iface 48 v] w fun e w' => e = .returned .nilIface ∧ w' = w := by
  have unL' := unL
  go_enter Tryd.func13, Tryd.ntmps13
  go_wp2
  go_ret
  exact ⟨rfl, rfl⟩
theorem un_F0 (w : World) : Calls Tryd.prog 13 #[.iface 22 (.pointer none)] w fun e w' => e = .returned .nilIface ∧ w' = w := by
  have unF' := unF
  have mUnF' := mUnF
  go_enter Tryd.func13, Tryd.ntmps13
  go_wp2
  go_ret
  exact ⟨rfl, rfl⟩
theorem un_W (b : Nat) (x : Value) (w : World) (hc : w.cell? ⟨b, 1, none⟩ = some x) : Calls Tryd.prog 13 #[.iface 56 (.pointer (some ⟨b, 0, none⟩))] w fun e w' => e = .returned x ∧ w' = w := by
  have unW' := unW
  have mUnW' := mUnW
  go_enter Tryd.func13, Tryd.ntmps13
  go_wp2
  go_ret
  exact ⟨rfl, rfl⟩
theorem un_R (T : TypeId) (v : Value) (w : World) : Calls Tryd.prog 13 #[.iface 40 (.agg #[.iface T v])] w fun e w' => e = .returned (.iface T v) ∧ w' = w.alloc (.cells #[.iface T v] 40) := by
  have unR' := unR
  have mUnR' := mUnR
  go_enter Tryd.func13, Tryd.ntmps13
  go_wp2
  go_ret
  exact ⟨rfl, rfl⟩
theorem wrapped_idle (w : World) :
    CallsD Tryd.prog 32 #[] .returning w fun e u' w' => e = .returned (.tuple #[]) ∧ u' = .returning ∧ w' = w := by
  refine callsD_of_wpS Tryd.func32 rfl fun c₀ cs hu => ?_
  apply wpS_region
  simp [wpOpsS, go_sem, recoverD, hu, Tryd.ntmps32, Exit.thenS, bodyPostS, results, Tryd.results32]
  cases c₀
  simp_all
theorem wrapped_of {v r : Value} {w w1 : World} (hc : Calls Tryd.prog 13 #[v] w fun e w' => e = .returned r ∧ w' = w1) :
    Calls Tryd.prog 23 #[v] w fun e w' => e = .returned r ∧ w' = w1 := by
  go_enter_defers Tryd.func23, Tryd.ntmps23
  go_wp2_with ((go_at_call 13; ((with_reducible refine hc.mono ?_); rintro e w1 ⟨rfl, rfl⟩)))
  refine leaves_cons (f := 32) (args := #[]) (by simp) (by simp [go_sem]) ?_
  refine (wrapped_idle _).mono ?_
  rintro e u' w'' ⟨rfl, rfl, rfl⟩
  exact ⟨_, results_tmp rfl _ _ _, rfl, rfl⟩

theorem parts_nil (w : World) : Calls Tryd.prog 16 #[.nilIface] w fun e w' => (∃ a c, e = .returned (.slice a 0 c)) ∧ Below w.heap.size w w' := by
  go_enter Tryd.func16, Tryd.ntmps16
  go_wp2
  refine wp_loop_rounds 1 ?_
  rw [rounds_succ]
  go_wp2
  go_ret
  exact ⟨⟨_, _, rfl⟩, Below.refl _ _⟩
/-- an error that wraps nothing -/
theorem parts_one (T : TypeId) (v : Value) (w : World) (ha : ∀ xT w, (Instr.typeAssert (.iface T v) xT 56 true).run Tryd.prog w = .ok (.tuple #[.pointer none, .bool false]) w)
    (hu : ∀ w, Calls Tryd.prog 13 #[.iface T v] w fun e w' => e = .returned .nilIface ∧ w' = w) :
    Calls Tryd.prog 16 #[.iface T v] w fun e w' => (∃ a c, e = .returned (.slice a 0 c)) ∧ Below w.heap.size w w' := by
  have c1 := fun w => wrapped_of (hu w)
  go_enter Tryd.func16, Tryd.ntmps16
  go_wp2
  refine wp_loop_rounds 2 ?_
  rw [rounds_succ]
  go_wp2_with ((go_at_call 23; ((with_reducible refine (c1 _).mono ?_); rintro e w1 ⟨rfl, rfl⟩)))
  rw [rounds_succ]
  go_wp2
  go_ret
  exact ⟨⟨_, _, rfl⟩, Below.refl _ _⟩
theorem str_info : (Tryd.prog.info? 9).map (fun i => (i.zero, i.size, i.bytes)) = some (some (.string ⟨#[]⟩), 1, 16) := by kernel_rfl
theorem own_len {w : World} {base : Nat} {v : Value} {n : Nat} {X : List Value} (h : w.ownsRow base 9 1 v n X) (hn : 0 < n) : ∃ a c, v = .slice a n c := by
  rcases h.2 with ⟨rfl, h0⟩ | ⟨g, cap, cur, rfl, _, hg, _⟩
  · omega
  · exact ⟨_, _, rfl⟩
theorem str_new (w : World) (a : Value) (t : TypeId) : ∀ j u, [a][j]? = some u → (w.alloc (.cells #[a] t)).cell? ((⟨w.heap.size, 0, none⟩ : Addr).add j) = some u := by
  intro j u h
  rw [Addr.add_lit, Nat.zero_add, cell_of_row _ _ _ _ _ _ (heap_alloc_new w _)]
  simpa using h
theorem str_one (b : ByteArray) : ∀ u ∈ [Value.string b], u.oneCell' = true := by
  intro u hu
  simp at hu
  subst hu; rfl
set_option maxRecDepth 100000 in
set_option maxHeartbeats 4000000 in
theorem parts_R (T : TypeId) (v : Value) (b : Nat) (s : ByteArray) (w : World) (hb : b < w.heap.size) (h0 : w.cell? ⟨b, 0, none⟩ = some (.string s)) (h1 : w.cell? ⟨b, 1, none⟩ = some (.iface T v))
    (ha : ∀ xT w, (Instr.typeAssert (.iface T v) xT 56 true).run Tryd.prog w = .ok (.tuple #[.pointer none, .bool false]) w)
    (hu : ∀ w, Calls Tryd.prog 13 #[.iface T v] w fun e w' => e = .returned .nilIface ∧ w' = w) :
    Calls Tryd.prog 16 #[.iface 40 (.agg #[.iface 56 (.pointer (some ⟨b, 0, none⟩))])] w fun e w' => (∃ a c, e = .returned (.slice a 1 c)) ∧ Below w.heap.size w w' := by
  have noWithinR' := noWithinR
  have isWithin' := isWithin
  have cR := fun w => wrapped_of (un_R 56 (.pointer (some ⟨b, 0, none⟩)) w)
  have cB := fun w => wrapped_of (hu w)
  obtain ⟨W1, hW1⟩ : ∃ W1, w.alloc (.cells #[.iface 56 (.pointer (some ⟨b, 0, none⟩))] 40) = W1 := ⟨_, rfl⟩
  have B1 : Below w.heap.size w W1 := by rw [← hW1]; exact (Below.refl _ _).alloc (Nat.le_refl _) _
  have k0 := (B1.cell (p := ⟨b, 0, none⟩) hb).trans h0
  have k1 := (B1.cell (p := ⟨b, 1, none⟩) hb).trans h1
  have cRw := cR w
  rw [hW1] at cRw
  obtain ⟨i0, hi, hz0, hz1, hz2⟩ := info_parts str_info
  clear cR hu h0 h1 hW1
  go_enter Tryd.func16, Tryd.ntmps16
  go_wp2
  refine wp_loop_rounds 4 ?_
  rw [rounds_succ]
  go_wp2_with ((go_at_call 23; ((with_reducible refine cRw.mono ?_); rintro e w1 ⟨rfl, rfl⟩)))
  have h63 : 0 + 1 ≤ maxLen := by decide
  have hby : (0 + 1) * 16 ≤ 140737488355328 := by decide
  have hsz1 : w.heap.size ≤ (w1.alloc (.cells #[.string s] 9)).heap.size := by have := B1.size; simp; omega
  have B2 := B1.alloc B1.size (.cells #[.string s] 9)
  have kk : ∀ w2, Below w.heap.size w w2 → w2.cell? ⟨b, 1, none⟩ = some (.iface T v) := fun w2 h => (h.cell (p := ⟨b, 1, none⟩) hb).trans ((B1.cell (p := ⟨b, 1, none⟩) hb).symm.trans k1)
  have KK := Lib.hid kk
  clear kk
  rw [rounds_succ]
  go_wp2_with (first
    | (at_builtin; ((refine wpList_append_own_at _ rfl (.tmp 14) (.tmp 19) 36 rfl w.heap.size 9 i0 _ 1 16 Tryd.underlying36 hi hz0 hz1 hz2 rfl (by decide) (.slice none 0 0) 0 [] rfl (World.ownsRow_nil _ _ _ _) ⟨w1.heap.size, 0, none⟩ 1 1 [.string s] rfl rfl (str_new _ _ _) (str_one _) h63 hby hsz1 ?_); intro v' w2 hown' hgrow hnil hat; have B3 := B2.grown hgrow hsz1 (fun k hk => by cases hk); obtain ⟨pa, pc, rfl⟩ := own_len hown' (by decide); have cW := wrapped_of (un_W b _ w2 (KK.out w2 B3)); clear hown' hgrow hnil hat))
    | (go_at_call 23; ((with_reducible refine cW.mono ?_); rintro e w3 ⟨rfl, rfl⟩)))
  rw [rounds_succ]
  go_wp2_with ((go_at_call 23; ((with_reducible refine (cB _).mono ?_); rintro e w4 ⟨rfl, rfl⟩)))
  rw [rounds_succ]
  go_wp2
  go_ret
  exact ⟨⟨_, _, rfl⟩, B3⟩
end Go.Proofs.YthhdhhebelmimaaDoor.Flt
