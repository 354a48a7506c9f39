/-
  What is proved: a scope and a claim in blocks; one part and two parts of a claim; a variable's text; the library's Clip; the texts of the plainest claims.
-/
import Derived.Test.YtcigeclnbhcohaaGreatDoorZShTd
import Derived.Test.YtcigeclnbhcohaaGreatDoorZShFs
import Derived.Test.YtcigeclnbhcohaaGreatDoorBC
import Derived.Deep.RegionLawGrows
namespace Go.Proofs.YtcigeclnbhcohaaGreatDoor.Sh
open Go.RowKit L T C
set_option linter.unusedVariables false
set_option linter.unusedSimpArgs false
set_option maxRecDepth 100000

theorem scbox (w : World) (a : Option Addr) (n c : Nat) (b : Option Addr) (m d : Nat) (o : Int) (s so : ByteArray) (ks : SS) (x : Option Addr) (xn xc : Nat) :
    ∃ W, (w.alloc (.cells #[.slice a n c, .slice b m d] 59)).alloc (.cells #[.int .i64 o, .string s, .string so, .slice ks.a ks.n ks.c, .slice x xn xc] 33) = W ∧ Below w.heap.size w W ∧ W.heap.size = w.heap.size + 2 ∧ ScB W w.heap.size a n c b m d ∧ CBox W (w.heap.size + 1) o s so ks x xn xc := by
  refine ⟨_, rfl, bel_alloc (bel_alloc (Below.refl _ _) _) _, by simp, Blk.alloc (ScB.new w a n c b m d) _, ?_⟩
  have := CBox.new (w.alloc (.cells #[.slice a n c, .slice b m d] 59)) o s so ks x xn xc
  rwa [World.size_alloc] at this
def Five (w : World) (bb o : Nat) (x : Cl) (k : SS) (a : Option Addr) (n c : Nat) : Prop :=
  w.cell? ⟨bb, o, none⟩ = some (.int .i64 (opC x)) ∧ w.cell? ⟨bb, o + 1, none⟩ = some (.string (nmC x)) ∧ w.cell? ⟨bb, o + 1 + 1, none⟩ = some (.string (soC x)) ∧ w.cell? ⟨bb, o + 1 + 1 + 1, none⟩ = some (.slice k.a k.n k.c) ∧ w.cell? ⟨bb, o + 1 + 1 + 1 + 1, none⟩ = some (.slice a n c)
theorem subs1 {w : World} {x : Cl} {a : Option Addr} {n c : Nat} (h : CsW w a n c [x]) : ∃ bb o k a' n' c', a = some ⟨bb, o, none⟩ ∧ n = 1 ∧ bb < w.heap.size ∧ Five w bb o x k a' n' c' ∧ ArWC w x k a' n' c' := by
  have hn : n = 1 := h.1
  obtain ⟨bb, o, t, k, a', n', c', rfl, hb, y0, y1, y2, y3, y4, ht, hA⟩ := h.at (i := 0) (by omega)
  simp only [List.getElem?_cons_zero, Option.some.injEq] at ht
  subst ht
  rw [Nat.zero_mul, Nat.add_zero] at y0 y1 y2 y3 y4
  exact ⟨bb, o, k, a', n', c', rfl, hn, hb, ⟨y0, y1, y2, y3, y4⟩, hA⟩
theorem subs2 {w : World} {x y : Cl} {a : Option Addr} {n c : Nat} (h : CsW w a n c [x, y]) : ∃ bb o k a' n' c' k2 a2 n2 c2, a = some ⟨bb, o, none⟩ ∧ n = 2 ∧ bb < w.heap.size ∧ (Five w bb o x k a' n' c' ∧ ArWC w x k a' n' c') ∧ (Five w bb (o + 5) y k2 a2 n2 c2 ∧ ArWC w y k2 a2 n2 c2) := by
  have hn : n = 2 := h.1
  obtain ⟨bb, o, t, k, a', n', c', hA1, hb, y0, y1, y2, y3, y4, ht, hA⟩ := h.at (i := 0) (by omega)
  obtain ⟨bb2, o2, t2, k2, a2, n2, c2, hA2, hb2, x0, x1, x2, x3, x4, ht2, hA3⟩ := h.at (i := 1) (by omega)
  rw [hA1] at hA2
  injection hA2 with hA2; injection hA2 with e1 e2
  subst e1 e2
  simp only [List.getElem?_cons_zero, Option.some.injEq] at ht
  simp only [List.getElem?_cons_succ, List.getElem?_cons_zero, Option.some.injEq] at ht2
  subst ht ht2
  rw [Nat.zero_mul, Nat.add_zero] at y0 y1 y2 y3 y4
  rw [Nat.one_mul] at x0 x1 x2 x3 x4
  exact ⟨bb, o, k, a', n', c', k2, a2, n2, c2, hA1, hn, hb, ⟨⟨y0, y1, y2, y3, y4⟩, hA⟩, ⟨⟨x0, x1, x2, x3, x4⟩, hA3⟩⟩

theorem Clip_any (a : Option Addr) (n c : Nat) (w : World) (hc : n ≤ c) (ha : a = none → c = 0) :
    Calls Tryz.prog 76 #[.slice a n c] w fun e w' => e = .returned (.slice a n n) ∧ w = w' := by
  have h1 : (0 : Int) ≤ (n : Int) := by omega
  have h2 : (n : Int) ≤ (c : Int) := by omega
  have h3 : (n : Int) ≤ (n : Int) := by omega
  cases a with
  | none =>
    obtain rfl : c = 0 := ha rfl
    obtain rfl : n = 0 := by omega
    go_enter Tryz.func76, Tryz.ntmps76
    go_wp2
    go_ret
    exact ⟨rfl, rfl⟩
  | some ad =>
    clear ha
    go_enter Tryz.func76, Tryz.ntmps76
    go_wp2
    go_ret
    exact ⟨by first | rfl | simp, rfl⟩
/-- a text behind a clipped row of texts, as a step of a region that draws -/
theorem push_step {ops : Array Oper} {o : Oper} {a : Act} {w : World} {K : Act → World → Prop} {Q : Exit → Act → World → Prop} {Z : Prop}
    (hg : o.guard = none) (s x : Operand) (hop : o.op = Op.call { callee := Callee.builtin Builtin.append, args := #[s, x], argTypes := #[48, 48] })
    (A : Option Addr) (n : Nat) (B : List ByteArray) (so : ByteArray) (g : Nat) (hs : a.eval s = .slice A n n) (hB : IsS w A n B) (hA : A = none → n = 0) (hn : n ≤ 1000000) (hx : a.eval x = .slice (some ⟨g, 0, none⟩) 1 1) (hc : w.cell? ⟨g, 0, none⟩ = some (.string so))
    (hK : ∀ A' C' w', OwnS w' w.heap.size (.slice A' (n + 1) C') (B ++ [so]) → C' ≤ maxLen → Below w.heap.size w w' → K (a.put o.dst (.slice A' (n + 1) C')) w') :
    if Region.wanted o (yielded ops a.tmps) = true then Oper.wp Tryz.prog o a w K Q else Z := by
  obtain ⟨i0, hi, hz0, hz1, hz2⟩ := info_parts strI
  have hold : ∀ b, A = some b → ∀ j u, (vsS B)[j]? = some u → w.cell? (b.add j) = some u := fun b hb j u hj => by
    obtain ⟨hj2, hu⟩ := List.getElem?_eq_some_iff.1 hj
    rw [vsS_len] at hj2
    obtain ⟨b', o', ha, _, hr⟩ := hB.2 (by rw [hB.1]; omega)
    rw [hb] at ha
    injection ha with ha
    subst ha
    rw [Addr.add_lit, hr j hj2, ← hu]
    simp [vsS]
  refine step_append_grows hg s x 48 hop 9 i0 _ 1 _ Tryz.underlying48 hi hz0 hz1 rfl rfl (by decide) A n n (vsS B) hs (fun e => ⟨hA e, hA e⟩) (by rw [vsS_len, ← hB.1, Nat.mul_one]) hold ⟨g, 0, none⟩ 1 1 [.string so] hx rfl
    (fun j u hj => by match j, hj with | 0, hj => rw [Addr.add_lit]; simp at hj; rw [← hj]; exact hc) (fun u hu => by simp at hu; rw [hu]; rfl) (by omega) (by unfold maxLen; omega) (by rw [hz2]; omega) fun v' w' h1 h2 => ?_
  have e1 : vsS B ++ [.string so] = vsS (B ++ [so]) := by simp [vsS]
  have e2 : n + 1 = (B ++ [so]).length := by rw [List.length_append, ← hB.1]; rfl
  rw [e1, e2] at h1
  have hO : OwnS w' w.heap.size v' (B ++ [so]) := h1
  have hcap : ∀ A' C', v' = .slice A' (B ++ [so]).length C' → C' ≤ maxLen := fun A' C' hv => by
    rcases hO.2 with ⟨h, hn0⟩ | ⟨g0, cap, cur, h, _, _, _, hcm, _⟩
    · rw [hv] at h; injection h with _ _ h; rw [h]; unfold maxLen; omega
    · rw [hv] at h; injection h with _ _ h; rw [h]; exact hcm
  obtain ⟨A', C', rfl, hS⟩ := hO.slS
  have hc2 := hcap A' C' rfl
  rw [← e2] at hS hO ⊢
  exact hK A' C' w' hO hc2 ((Below.refl _ _).grown h2 (Nat.le_refl _) (fun k hk => by cases hk))

theorem blkAt {w : World} {g : Nat} (h : w.heap.size = g) (cs : Array Value) (t : TypeId) : Blk (w.alloc (.cells cs t)) g cs t := h ▸ Blk.new w cs t
theorem own_slS {w : World} {base : Nat} {A : Option Addr} {n c : Nat} {X : List ByteArray} (h : OwnS w base (.slice A n c) X) : SlS w A n c X := by
  obtain ⟨A', c', hv, hS⟩ := h.slS
  injection hv with e1 e2 e3
  subst e1 e2 e3
  exact hS
/-- the inner scope's block, stored behind the append of a name -/
theorem inner_a {w4 w8 w9 : World} {P : Nat} {za : Option Addr} {zn zc : Nat} {A9 : Option Addr} {n C9 : Nat} {L : List ByteArray} {u v : Value} (hb8 : Below w4.heap.size w4 w8) (hp : Blk w8 P #[u, v] 59) (hP : w4.heap.size ≤ P) (hb9 : Below w8.heap.size w8 w9) (hO : OwnS w9 w8.heap.size (.slice A9 n C9) L) :
    ScB ((w9.setCell ⟨P, 0, none⟩ (.slice za zn zc)).setCell ⟨P, 1, none⟩ (.slice A9 n C9)) P za zn zc A9 n C9 ∧ Below w4.heap.size w4 ((w9.setCell ⟨P, 0, none⟩ (.slice za zn zc)).setCell ⟨P, 1, none⟩ (.slice A9 n C9)) ∧ SlS ((w9.setCell ⟨P, 0, none⟩ (.slice za zn zc)).setCell ⟨P, 1, none⟩ (.slice A9 n C9)) A9 n C9 L := by
  have hp9 := Blk.below hp hb9
  have hlt := Blk.lt hp
  refine ⟨?_, ((bel_trans hb8 hb9).setCell (p := ⟨P, 0, none⟩) hP _).setCell (p := ⟨P, 1, none⟩) hP _, own_slS (base := w8.heap.size) (row_far (row_far hO hlt _ _) hlt _ _)⟩
  have h2 := Blk.set (Blk.set hp9 0 (.slice za zn zc)) 1 (.slice A9 n C9)
  exact h2
theorem inner_b {w4 w9 : World} {za : Option Addr} {zn zc : Nat} {A9 : Option Addr} {n C9 base : Nat} {L : List ByteArray} (hb9 : Below w4.heap.size w4 w9) (hO : OwnS w9 base (.slice A9 n C9) L) :
    ScB (w9.alloc (.cells #[.slice za zn zc, .slice A9 n C9] 59)) w9.heap.size za zn zc A9 n C9 ∧ Below w4.heap.size w4 (w9.alloc (.cells #[.slice za zn zc, .slice A9 n C9] 59)) ∧ SlS (w9.alloc (.cells #[.slice za zn zc, .slice A9 n C9] 59)) A9 n C9 L :=
  ⟨Blk.new _ _ _, bel_alloc hb9 _, (own_slS hO).below (bel_alloc (Below.refl _ _) _)⟩
theorem Var_any (s so : ByteArray) (hs : s.size ≤ 1000) (hso : so.size ≤ 1000) (w : World) :
    Calls Tryz.prog 18 #[.agg #[.string s, .string so]] w fun e w' => e = .returned (.string (s ++ (⟨#[58, 32]⟩ ++ so))) ∧ Below w.heap.size w w' := by
  obtain ⟨W1, hW1, hB1, p0, p1⟩ : ∃ W, w.alloc (.cells #[.string s, .string so] 42) = W ∧ Below w.heap.size w W ∧ W.cell? ⟨w.heap.size, 0, none⟩ = some (.string s) ∧ W.cell? ⟨w.heap.size, 1, none⟩ = some (.string so) :=
    ⟨_, rfl, bel_alloc (Below.refl _ _) _, Blk.cell (Blk.new w _ _) 0, Blk.cell (Blk.new w _ _) 1⟩
  have hsp : (⟨#[58, 32]⟩ : ByteArray).size = 2 := rfl
  obtain ⟨X1, e1⟩ : ∃ v, s ++ (⟨#[58, 32]⟩ : ByteArray) = v := ⟨_, rfl⟩
  have z1 : X1.size ≤ 1002 := by rw [← e1, ByteArray.size_append, hsp]; omega
  have e2 : X1 ++ so = s ++ (⟨#[58, 32]⟩ ++ so) := by rw [← e1, ByteArray.append_assoc]
  have r1 : ∀ w, (Op.stringOp .add s ⟨#[58, 32]⟩).run Tryz.prog w = .ok (.string X1) w := fun w => by rw [run_string_add_sum w _ _ (by omega), e1]
  have r2 : ∀ w, (Op.stringOp .add X1 so).run Tryz.prog w = .ok (.string (s ++ (⟨#[58, 32]⟩ ++ so))) w := fun w => by rw [run_string_add_sum w _ _ (by omega), e2]
  clear e1 e2 z1 hsp
  generalize (s ++ (⟨#[58, 32]⟩ ++ so)) = R at *
  go_enter Tryz.func18, Tryz.ntmps18
  go_wp2
  go_ret
  exact ⟨rfl, hB1⟩
end Go.Proofs.YtcigeclnbhcohaaGreatDoor.Sh
