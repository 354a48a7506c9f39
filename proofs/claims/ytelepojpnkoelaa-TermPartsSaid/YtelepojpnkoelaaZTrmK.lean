/-
  What is proved: what package term's Copy returns: the same term in new memory.
-/
import Derived.Test.YtelepojpnkoelaaZTrmW
import Derived.Test.YtelepojpnkoelaaZLibF
import Derived.Laws.MakeOwn
namespace Go.Proofs.Ytelepojpnkoelaa.T
open Go.RowKit L
set_option linter.unusedVariables false
set_option linter.unusedSimpArgs false

theorem make_terms (n : Nat) (hn : n ≤ 1000000) (w : World) :
    (Instr.makeSlice 22 (.int .i64 (n : Int)) (.int .i64 (n : Int))).run Try.prog w = .ok (.slice (some ⟨w.heap.size, 0, none⟩) n n) (w.alloc (.cells (madeCells #[.int .i64 0, .string ⟨#[]⟩, .int .i64 0, .slice none 0 0] (n * 4)) 24)) := by
  obtain ⟨i0, hi, hz0, hz1, hz2⟩ := info_parts termI
  have hr := run_make (P := Try.prog) w 22 24 i0 _ Try.underlying22 hi hz0 .i64 .i64 n n (by omega) (Int.le_refl _) (by rw [hz2]; omega) (by omega)
  simp only [Int.toNat_natCast, hz1] at hr
  exact hr
theorem made_terms (n : Nat) (hn : n ≤ 1000000) (w : World) : OwnT (w.alloc (.cells (madeCells #[.int .i64 0, .string ⟨#[]⟩, .int .i64 0, .slice none 0 0] (n * 4)) 24)) w.heap.size (.slice (some ⟨w.heap.size, 0, none⟩) n n) (List.replicate n Hd.zero) := by
  refine ⟨by rw [flat_len], .inr ⟨w.heap.size, n, _, by rw [List.length_replicate], Nat.le_refl _, heap_alloc_new w _, by rw [List.length_replicate]; exact Nat.le_refl _, by unfold maxLen; omega, by rw [size_madeCells], ?_⟩⟩
  show List.take ((List.replicate n Hd.zero).length * 4) _ = _
  refine flat_ext (by simp [size_madeCells]) fun k hk j hj => ?_
  rw [List.length_replicate] at hk
  rw [List.getElem_replicate, Array.getElem?_toList]
  unfold madeCells
  rw [Array.getElem?_map, Array.getElem?_range, if_pos (by omega)]
  have hm : (k * 4 + j) % 4 = j := by omega
  have hc : j = 0 ∨ j = 1 ∨ j = 2 ∨ j = 3 := by omega
  simp only [Option.map_some]
  show some (#[Value.int IntKind.i64 0, .string ⟨#[]⟩, .int .i64 0, .slice none 0 0][(k * 4 + j) % 4]!) = _
  rw [hm]
  rcases hc with rfl | rfl | rfl | rfl <;> rfl
theorem list_step {α : Type} (hs : List α) (h z : α) (r : Nat) : (hs ++ List.replicate (r + 1) z).set hs.length h = (hs ++ [h]) ++ List.replicate r z := by
  rw [List.set_append_right _ _ (Nat.le_refl _), Nat.sub_self, List.replicate_succ, List.set_cons_zero, List.append_assoc]; rfl
/-- a term in new memory is returned -/
def NewT (t : Tm) (w : World) (e : Ending) (w' : World) : Prop := ∃ h : Hd, e = .returned (.agg #[.int .i64 h.op, .string h.nm, .int .i64 h.nu, .slice h.a h.n h.c]) ∧ Fr w' t w.heap.size w'.heap.size h ∧ Below w.heap.size w w'
/-- the copy, at this term -/
def CopyOk (t : Tm) : Prop := ∀ (a : Option Addr) (m c : Nat) (w : World), size t ≤ 1000000 → ArW w t a m c →
  Calls Try.prog 27 #[.agg #[.int .i64 (opT t), .string (nameT t), .int .i64 (numT t), .slice a m c]] w fun e w' => NewT t w e w'
/-- what has been copied so far -/
def Part (w0 : World) (g : Nat) (la : List Tm) (m k : Nat) (wr : World) : Prop :=
  ∃ hs, hs.length = k ∧ OwnT wr w0.heap.size (.slice (some ⟨g, 0, none⟩) m m) (hs ++ List.replicate (m - k) Hd.zero) ∧ FrL wr (la.take k) (g + 1) wr.heap.size hs
theorem Part.cells {w0 wr : World} {g : Nat} {la : List Tm} {m k : Nat} (h : Part w0 g la m k wr) (hk : k < m) :
    (wr.cell? ⟨g, k * 4, none⟩ = some (.int .i64 0) ∧ wr.cell? ⟨g, k * 4 + 1, none⟩ = some (.string ⟨#[]⟩) ∧ wr.cell? ⟨g, k * 4 + 2, none⟩ = some (.int .i64 0) ∧ wr.cell? ⟨g, k * 4 + 3, none⟩ = some (.slice none 0 0)) ∧ ∀ j, wr.frozen? ⟨g, j, none⟩ = false := by
  obtain ⟨hs, hl, ho, _⟩ := h
  have hlt : k < (hs ++ List.replicate (m - k) Hd.zero).length := by rw [List.length_append, List.length_replicate]; omega
  obtain ⟨c0, c1, c2, c3⟩ := ho.at hlt
  have e : (hs ++ List.replicate (m - k) Hd.zero)[k] = Hd.zero := by
    rw [List.getElem_append_right (by omega), List.getElem_replicate]
  rw [e] at c0 c1 c2 c3
  exact ⟨⟨c0, c1, c2, c3⟩, fun j => ho.row.free j⟩
/-- a copy more: made in between, then stored -/
theorem Part.step {w0 wr w4 w5 : World} {g : Nat} {la : List Tm} {x : Tm} {m k : Nat} {h : Hd} (hp : Part w0 g la m k wr) (hk : k < m) (hx : la[k]? = some x) (h4 : Below wr.heap.size wr w4) (h5 : Below w4.heap.size w4 w5) (hf : Fr w5 x w4.heap.size w5.heap.size h) : Part w0 g la m (k + 1) (set4 w5 g k h) := by
  obtain ⟨hs, hl, ho, hfr⟩ := hp
  have b5 := bel_trans h4 h5
  have ho5 := (ho.below b5).set k h (by rw [List.length_append, List.length_replicate]; omega)
  have hgl : g < wr.heap.size := ho.row.lt
  refine ⟨hs ++ [h], by simp [hl], ?_, ?_⟩
  · rw [show m - k = m - (k + 1) + 1 by omega, ← hl, list_step, hl] at ho5
    exact ho5
  · rw [take_t hx, set4_size]
    have h1 := FrL.le hfr
    have hfr5 : FrL w5 (la.take k) (g + 1) w4.heap.size hs := FrL.upL h4.size (FrL.same _ (fun b _ hu => b5.block b hu) hfr)
    have h2 := FrL.snoc hf hfr5
    exact FrL.same _ (fun b hl2 hu => set4_other w5 g k b h (by omega)) h2
/-- all that a round's store wants, and what it makes -/
theorem Part.go {w0 wr w4 w5 : World} {g : Nat} {la : List Tm} {x : Tm} {m k : Nat} {h : Hd} (hp : Part w0 g la m k wr) (hk : k < m) (hx : la[k]? = some x) (h4 : Below wr.heap.size wr w4) (h5 : Below w4.heap.size w4 w5) (hf : Fr w5 x w4.heap.size w5.heap.size h) :
    (w5.cell? ⟨g, k * 4, none⟩ = some (.int .i64 0) ∧ w5.cell? ⟨g, k * 4 + 1, none⟩ = some (.string ⟨#[]⟩) ∧ w5.cell? ⟨g, k * 4 + 2, none⟩ = some (.int .i64 0) ∧ w5.cell? ⟨g, k * 4 + 3, none⟩ = some (.slice none 0 0)) ∧ (w5.frozen? ⟨g, k * 4, none⟩ = false ∧ w5.frozen? ⟨g, k * 4 + 1, none⟩ = false ∧ w5.frozen? ⟨g, k * 4 + 2, none⟩ = false ∧ w5.frozen? ⟨g, k * 4 + 3, none⟩ = false) ∧ Hid (Part w0 g la m (k + 1) (set4 w5 g k h)) := by
  have b5 := bel_trans h4 h5
  have hn := Part.step hp hk hx h4 h5 hf
  obtain ⟨⟨z0, z1, z2, z3⟩, hz⟩ := Part.cells hp hk
  obtain ⟨hs, _, ho, _⟩ := hp
  have hg : g < wr.heap.size := ho.row.lt
  exact ⟨⟨(b5.cell (p := ⟨g, _, none⟩) hg).trans z0, (b5.cell (p := ⟨g, _, none⟩) hg).trans z1, (b5.cell (p := ⟨g, _, none⟩) hg).trans z2, (b5.cell (p := ⟨g, _, none⟩) hg).trans z3⟩, ⟨(b5.frozen (p := ⟨g, _, none⟩) hg).trans (hz _), (b5.frozen (p := ⟨g, _, none⟩) hg).trans (hz _), (b5.frozen (p := ⟨g, _, none⟩) hg).trans (hz _), (b5.frozen (p := ⟨g, _, none⟩) hg).trans (hz _)⟩, Lib.hid hn⟩
theorem Part.done {w0 wr : World} {g : Nat} {la : List Tm} {m : Nat} (hp : Part w0 g la m m wr) (hm : la.length = m) : ∃ hs, Row wr g hs ∧ FrL wr la (g + 1) wr.heap.size hs := by
  obtain ⟨hs, hl, ho, hfr⟩ := hp
  rw [Nat.sub_self, List.replicate_zero, List.append_nil] at ho
  rw [List.take_of_length_le (by omega)] at hfr
  exact ⟨hs, ho.row, hfr⟩

set_option maxRecDepth 100000 in
set_option maxHeartbeats 4000000 in
theorem mapCopy_of (l : List Tm) (hok : ∀ t ∈ l, CopyOk t) (hsz : sizes l ≤ 1000000) (b : Option Addr) (m d : Nat) (w : World) (hG : TsW w b m d l) :
    Calls Try.prog 23 #[.slice b m d, .func (.func 27) #[] #[]] w fun e w' => ∃ A C, e = .returned (.slice A m C) ∧ (m ≤ C ∧ C ≤ maxLen ∧ (A = none → C = 0)) ∧ (0 < m → ∃ g hs, A = some ⟨g, 0, none⟩ ∧ w.heap.size ≤ g ∧ Row w' g hs ∧ FrL w' l (g + 1) w'.heap.size hs) ∧ Below w.heap.size w w' := by
  have hlen : l.length ≤ sizes l := by
    have : ∀ l : List Tm, l.length ≤ sizes l := fun l => by
      induction l with
      | nil => exact Nat.le_refl _
      | cons t l ih => rw [List.length_cons, sizes]; have := size_pos t; omega
    exact this l
  have hm : m ≤ 1000000 := by have := hG.1; omega
  by_cases hm0 : m = 0
  · subst hm0
    clear hG hok hsz
    go_enter Try.func23, Try.ntmps23
    go_wp2
    go_ret
    exact ⟨_, _, rfl, ⟨Nat.zero_le _, Nat.zero_le _, fun _ => rfl⟩, fun h => absurd h (by omega), Below.refl _ _⟩
  · have hmk := make_terms m hm w
    have hmd := made_terms m hm w
    obtain ⟨W1, hW1⟩ : ∃ W1, w.alloc (.cells (madeCells #[.int .i64 0, .string ⟨#[]⟩, .int .i64 0, .slice none 0 0] (m * 4)) 24) = W1 := ⟨_, rfl⟩
    rw [hW1] at hmk hmd
    have hB1 : Below w.heap.size w W1 := by rw [← hW1]; exact bel_alloc (Below.refl _ _) _
    have hs1 : W1.heap.size = w.heap.size + 1 := by rw [← hW1]; simp
    have hm1 : ((m : Int) == 0) = false := by simp; omega
    have P0 : Part w w.heap.size l m 0 W1 := ⟨[], rfl, by simpa using hmd, by rw [List.take_zero, FrL]; exact ⟨by omega, rfl⟩⟩
    have HT := Lib.hid hG
    have HK := Lib.hid (show ∀ k x, l[k]? = some x → CopyOk x ∧ size x ≤ 1000000 from fun k x h => ⟨hok x (List.mem_of_getElem? h), by have := alls_lt h; omega⟩)
    have HP0 := Lib.hid P0
    clear hG hok hmd P0 hW1
    go_enter Try.func23, Try.ntmps23
    go_wp2
    go_loopw [16] (fun i wr0 => ∃ (wr : World) (k : Nat), wr = wr0 ∧ k ≤ m ∧ i = .int .i64 k ∧ Below w.heap.size w wr ∧ Hid (Part w w.heap.size l m k wr)) (fun i _ => m - (intOf i).toNat)
    case atStart => exact ⟨_, 0, rfl, by omega, rfl, hB1, HP0⟩
    case round =>
      obtain ⟨wr, k, rfl, hk, rfl, hB, hR⟩ := hrel
      by_cases hlt : k < m
      · obtain ⟨bb, o, x, A, M, Cc, rfl, hb, y0, y1, y2, y3, hx, hok⟩ := (TsW.b HT.out hB).at hlt
        obtain ⟨W4, hW4, hB4, hs4, S4⟩ := box1 wr (opT x) (nameT x) (numT x) A M Cc
        obtain ⟨hck, hsx⟩ := HK.out k x hx
        have cc := hck A M Cc W4 hsx (ArW.b hok hB4)
        obtain ⟨f0, f1, f2, f3⟩ := S4.four
        have B4 := bel_trans hB hB4
        have Hx := Lib.hid hx
        clear hx hok HK S4 hck
        generalize opT x = op' at *
        generalize nameT x = nm' at *
        generalize numT x = nu' at *
        have hk0 : 0 ≤ (k : Int) := by omega
        have hk1 : (k : Int) < (m : Int) := by omega
        go_wp2_with (go_at_call 27; ((with_reducible refine cc.mono ?_); rintro e w5 ⟨h, rfl, hF, hb5⟩; obtain ⟨⟨q0, q1, q2, q3⟩, ⟨g0, g1, g2, g3⟩, Hn⟩ := Part.go hR.out hlt Hx.out hB4 hb5 hF; clear hF))
        go_roundw
        case rel => exact ⟨_, k + 1, rfl, by omega, by go_num, set4_below (bel_trans B4 hb5) (Nat.le_refl _) k _, Hn⟩
        case measure => simp [intOf]; omega
      · obtain rfl : k = m := by omega
        have Hd := Lib.hid (Part.done hR.out HT.out.1.symm)
        have hcap : k ≤ maxLen := by unfold maxLen; omega
        have Hc := Lib.hid hcap
        clear hR hcap
        go_wp2
        go_ret
        refine ⟨_, _, rfl, ⟨Nat.le_refl _, Hc.out, fun h => by cases h⟩, fun _ => ?_, hB⟩
        obtain ⟨hs, h1, h2⟩ := Hd.out
        exact ⟨w.heap.size, hs, rfl, Nat.le_refl _, h1, h2⟩
/-- a term put into a block, and a cell for the result -/
theorem box_res (w : World) (o : Int) (s : ByteArray) (z : Int) (a : Option Addr) (n c : Nat) :
    ∃ W, (w.alloc (.cells #[.int .i64 o, .string s, .int .i64 z, .slice a n c] 24)).alloc (.cells #[.int .i64 0, .string ⟨#[]⟩, .int .i64 0, .slice none 0 0] 24) = W ∧ Below w.heap.size w W ∧ W.heap.size = w.heap.size + 2 ∧ TBox W w.heap.size o s z a n c ∧ TBox W (w.heap.size + 1) 0 ⟨#[]⟩ 0 none 0 0 := box2 w o s z a n c 0 ⟨#[]⟩ 0 none 0 0

set_option maxRecDepth 100000 in
set_option maxHeartbeats 4000000 in
theorem Copy_step (t : Tm) (hok : ∀ x ∈ argsT t, CopyOk x) : CopyOk t := by
  intro a m c w hsz hA
  obtain ⟨W2, hW2, hB2, hs2, S2, R2⟩ := box_res w (opT t) (nameT t) (numT t) a m c
  have hsl : sizes (argsT t) ≤ 1000000 := by
    have : size t = 1 + sizes (argsT t) := by cases t; rw [size]; rfl
    omega
  have cM := mapCopy_of (argsT t) hok hsl a m c W2 (TsW.b (ArW.args hA) hB2)
  obtain ⟨s0, s1, s2, s3⟩ := S2.four
  have hm : m = (argsT t).length := (ArW.args hA).1
  have HFin := Lib.hid (show ∀ (w3 w5 : World) (A : Option Addr) (C : Nat), (m ≤ C ∧ C ≤ maxLen ∧ (A = none → C = 0)) → (0 < m → ∃ g hs, A = some ⟨g, 0, none⟩ ∧ W2.heap.size ≤ g ∧ Row w3 g hs ∧ FrL w3 (argsT t) (g + 1) w3.heap.size hs) → w.heap.size + 2 ≤ w5.heap.size → w5.heap.size = w3.heap.size → (∀ b, w.heap.size + 2 ≤ b → w5.heap[b]? = w3.heap[b]?) → Fr w5 t w.heap.size w5.heap.size ⟨opT t, nameT t, numT t, A, m, C⟩ from fun w3 w5 A C h1 h2 h3 h4 h5 => by
    cases t with
    | mk o s z l =>
      rw [Fr]
      refine ⟨⟨rfl, rfl, rfl⟩, ⟨hm, h1⟩, by omega, fun hn => ?_⟩
      obtain ⟨g, hs, e1, e2, e3, e4⟩ := h2 hn
      exact ⟨g, hs, e1, by omega, e3.of_block (h5 g (by omega)), by rw [h4]; exact FrL.same _ (fun b hl hu => h5 b (by omega)) e4⟩)
  have HS := Lib.hid S2
  have HR := Lib.hid R2
  clear hA hok S2 R2 hm hsz hsl
  generalize argsT t = la at *
  generalize opT t = op at *
  generalize nameT t = nm at *
  generalize numT t = nu at *
  go_enter Try.func27, Try.ntmps27
  go_wp2_with (go_at_call 23; ((with_reducible refine cM.mono ?_); rintro e w3 ⟨A, C, rfl, hc, hr, hb3⟩; have Hc := Lib.hid hc; have Hr := Lib.hid hr; clear hc hr; have S3 := TBox.b HS.out hb3; have R3 := TBox.b HR.out hb3; obtain ⟨u0, u1, u2, u3⟩ := S3.four; obtain ⟨v0, v1, v2, v3⟩ := R3.four; obtain ⟨p0, p1, p2, p3⟩ := S3.free; obtain ⟨r0, r1, r2, r3⟩ := R3.free; have F3 := TBox.put (TBox.far R3 (show w.heap.size ≠ w.heap.size + 1 by omega) 3 (.slice A m C)) op nm nu A m C; obtain ⟨x0, x1, x2, x3⟩ := F3.four))
  simp [bodyPost, results, Try.results27, go_sem, x0, x1, x2, x3]
  have hs3 : w.heap.size + 2 ≤ w3.heap.size := by have := hb3.size; omega
  refine ⟨⟨op, nm, nu, A, m, C⟩, rfl, HFin.out w3 _ A C Hc.out Hr.out ?_ ?_ (fun b hb => ?_), put_below (below_set (bel_trans hB2 hb3) (Nat.le_refl _) _ _) (by omega) _ _ _ _⟩
  · rw [put_size]; simp [World.setCell]; omega
  · rw [put_size]; simp [World.setCell]
  · rw [put_other _ _ _ _ _ _ _ (by omega)]; exact heap_setCell_other w3 ⟨w.heap.size, 3, none⟩ b _ (by show b ≠ w.heap.size; omega)
theorem Copy_any (t : Tm) : CopyOk t := Tm.ind Copy_step t
end Go.Proofs.Ytelepojpnkoelaa.T
