/-
  What is proved: what package claim's Copy returns: the same claim in new memory.
-/
import Derived.Test.YtokkafekdaniaaaClmC
import Derived.Test.YtokkafekdaniaaaTrmK
namespace Go.Proofs.Ytokkafekdaniaaa.C
open Go.RowKit L T
set_option linter.unusedVariables false
set_option linter.unusedSimpArgs false

theorem make_claims (n : Nat) (hn : n ≤ 1000000) (w : World) :
    (Instr.makeSlice 41 (.int .i64 (n : Int)) (.int .i64 (n : Int))).run Try.prog w = .ok (.slice (some ⟨w.heap.size, 0, none⟩) n n) (w.alloc (.cells (madeCells #[.int .i64 0, .string ⟨#[]⟩, .string ⟨#[]⟩, .slice none 0 0, .slice none 0 0] (n * 5)) 43)) := by
  obtain ⟨i0, hi, hz0, hz1, hz2⟩ := info_parts claimI
  have hr := run_make (P := Try.prog) w 41 43 i0 _ Try.underlying41 hi hz0 .i64 .i64 n n (by omega) (Int.le_refl _) (by rw [hz2]; omega) (by omega)
  simp only [Int.toNat_natCast, hz1] at hr
  exact hr
theorem made_claims (n : Nat) (hn : n ≤ 1000000) (w : World) : OwnC (w.alloc (.cells (madeCells #[.int .i64 0, .string ⟨#[]⟩, .string ⟨#[]⟩, .slice none 0 0, .slice none 0 0] (n * 5)) 43)) w.heap.size (.slice (some ⟨w.heap.size, 0, none⟩) n n) (List.replicate n Hc.zero) := by
  refine ⟨by rw [flatC_len], .inr ⟨w.heap.size, n, _, by rw [List.length_replicate], Nat.le_refl _, heap_alloc_new w _, by rw [List.length_replicate]; exact Nat.le_refl _, by unfold maxLen; omega, by rw [size_madeCells], ?_⟩⟩
  show List.take ((List.replicate n Hc.zero).length * 5) _ = _
  refine flatC_ext (by simp [size_madeCells]) fun k hk j hj => ?_
  rw [List.length_replicate] at hk
  rw [List.getElem_replicate, Array.getElem?_toList]
  unfold madeCells
  rw [Array.getElem?_map, Array.getElem?_range, if_pos (by omega)]
  have hm : (k * 5 + j) % 5 = j := by omega
  have hc : j = 0 ∨ j = 1 ∨ j = 2 ∨ j = 3 ∨ j = 4 := by omega
  simp only [Option.map_some]
  show some (#[Value.int IntKind.i64 0, .string ⟨#[]⟩, .string ⟨#[]⟩, .slice none 0 0, .slice none 0 0][(k * 5 + j) % 5]!) = _
  rw [hm]
  rcases hc with rfl | rfl | rfl | rfl | rfl <;> rfl
/-- a claim in new memory is returned -/
def NewC (t : Cl) (w : World) (e : Ending) (w' : World) : Prop := ∃ h : Hc, e = .returned (.agg #[.int .i64 h.op, .string h.nm, .string h.so, .slice h.k.a h.k.n h.k.c, .slice h.a h.n h.c]) ∧ FrC w' t w.heap.size w'.heap.size h ∧ Below w.heap.size w w'
/-- the copy, at this claim -/
def CopyOkC (t : Cl) : Prop := ∀ (k : SS) (a : Option Addr) (m c : Nat) (w : World), wt t ≤ 1000000 → ArWC w t k a m c →
  Calls Try.prog 96 #[.agg #[.int .i64 (opC t), .string (nmC t), .string (soC t), .slice k.a k.n k.c, .slice a m c]] w fun e w' => NewC t w e w'
/-- what has been copied so far -/
def PartC (w0 : World) (g : Nat) (la : List Cl) (m k : Nat) (wr : World) : Prop :=
  ∃ hs, hs.length = k ∧ OwnC wr w0.heap.size (.slice (some ⟨g, 0, none⟩) m m) (hs ++ List.replicate (m - k) Hc.zero) ∧ FrCL wr (la.take k) (g + 1) wr.heap.size hs
theorem PartC.go {w0 wr w4 w5 : World} {g : Nat} {la : List Cl} {x : Cl} {m k : Nat} {h : Hc} (hp : PartC w0 g la m k wr) (hk : k < m) (hx : la[k]? = some x) (h4 : Below wr.heap.size wr w4) (h5 : Below w4.heap.size w4 w5) (hf : FrC w5 x w4.heap.size w5.heap.size h) :
    (w5.cell? ⟨g, k * 5, none⟩ = some (.int .i64 0) ∧ w5.cell? ⟨g, k * 5 + 1, none⟩ = some (.string ⟨#[]⟩) ∧ w5.cell? ⟨g, k * 5 + 2, none⟩ = some (.string ⟨#[]⟩) ∧ w5.cell? ⟨g, k * 5 + 3, none⟩ = some (.slice none 0 0) ∧ w5.cell? ⟨g, k * 5 + 4, none⟩ = some (.slice none 0 0)) ∧ (w5.frozen? ⟨g, k * 5, none⟩ = false ∧ w5.frozen? ⟨g, k * 5 + 1, none⟩ = false ∧ w5.frozen? ⟨g, k * 5 + 2, none⟩ = false ∧ w5.frozen? ⟨g, k * 5 + 3, none⟩ = false ∧ w5.frozen? ⟨g, k * 5 + 4, none⟩ = false) ∧ Hid (PartC w0 g la m (k + 1) (set5 w5 g k h)) := by
  have b5 := bel_trans h4 h5
  obtain ⟨hs, hl, ho, hfr⟩ := hp
  have hgl : g < wr.heap.size := ho.row.lt
  have hlt : k < (hs ++ List.replicate (m - k) Hc.zero).length := by rw [List.length_append, List.length_replicate]; omega
  obtain ⟨c0, c1, c2, c3, c4⟩ := ho.at hlt
  have e : (hs ++ List.replicate (m - k) Hc.zero)[k] = Hc.zero := by
    rw [List.getElem_append_right (by omega), List.getElem_replicate]
  rw [e] at c0 c1 c2 c3 c4
  have hz : ∀ j, wr.frozen? ⟨g, j, none⟩ = false := fun j => ho.row.free j
  have ho5 := (ho.below b5).set k h hlt
  rw [show m - k = m - (k + 1) + 1 by omega, ← hl, list_step, hl] at ho5
  refine ⟨⟨(b5.cell (p := ⟨g, _, none⟩) hgl).trans c0, (b5.cell (p := ⟨g, _, none⟩) hgl).trans c1, (b5.cell (p := ⟨g, _, none⟩) hgl).trans c2, (b5.cell (p := ⟨g, _, none⟩) hgl).trans c3, (b5.cell (p := ⟨g, _, none⟩) hgl).trans c4⟩, ⟨(b5.frozen (p := ⟨g, _, none⟩) hgl).trans (hz _), (b5.frozen (p := ⟨g, _, none⟩) hgl).trans (hz _), (b5.frozen (p := ⟨g, _, none⟩) hgl).trans (hz _), (b5.frozen (p := ⟨g, _, none⟩) hgl).trans (hz _), (b5.frozen (p := ⟨g, _, none⟩) hgl).trans (hz _)⟩, Lib.hid ⟨hs ++ [h], by simp [hl], ho5, ?_⟩⟩
  rw [take_c hx, set5_size]
  have h1 := FrCL.le hfr
  have hfr5 : FrCL w5 (la.take k) (g + 1) w4.heap.size hs := FrCL.up h4.size (FrCL.same _ (fun b _ hu => b5.block b hu) hfr)
  have h2 := FrCL.snoc hf hfr5
  exact FrCL.same _ (fun b hl2 hu => set5_other w5 g k b h (by omega)) h2
theorem PartC.done {w0 wr : World} {g : Nat} {la : List Cl} {m : Nat} (hp : PartC w0 g la m m wr) (hm : la.length = m) : ∃ hs, RowC wr g hs ∧ FrCL wr la (g + 1) wr.heap.size hs := by
  obtain ⟨hs, hl, ho, hfr⟩ := hp
  rw [Nat.sub_self, List.replicate_zero, List.append_nil] at ho
  rw [List.take_of_length_le (by omega)] at hfr
  exact ⟨hs, ho.row, hfr⟩
/-- a new list of claims is returned -/
def NewCs (l : List Cl) (w : World) (e : Ending) (w' : World) : Prop := ∃ A m C, e = .returned (.slice A m C) ∧ m = l.length ∧ (m ≤ C ∧ C ≤ maxLen ∧ (A = none → C = 0)) ∧ (0 < m → ∃ g hs, A = some ⟨g, 0, none⟩ ∧ w.heap.size ≤ g ∧ RowC w' g hs ∧ FrCL w' l (g + 1) w'.heap.size hs) ∧ Below w.heap.size w w'

set_option maxRecDepth 100000 in
set_option maxHeartbeats 4000000 in
theorem mapCopyC_of (l : List Cl) (hok : ∀ t ∈ l, CopyOkC t) (hsz : wts l ≤ 1000000) (b : Option Addr) (m d : Nat) (w : World) (hG : CsW w b m d l) :
    Calls Try.prog 99 #[.slice b m d, .func (.func 96) #[] #[]] w fun e w' => ∃ A C, e = .returned (.slice A m C) ∧ (m ≤ C ∧ C ≤ maxLen ∧ (A = none → C = 0)) ∧ (0 < m → ∃ g hs, A = some ⟨g, 0, none⟩ ∧ w.heap.size ≤ g ∧ RowC w' g hs ∧ FrCL w' l (g + 1) w'.heap.size hs) ∧ Below w.heap.size w w' := by
  have hlen := wts_len l
  have hm : m ≤ 1000000 := by have := hG.1; omega
  by_cases hm0 : m = 0
  · subst hm0
    clear hG hok hsz
    go_enter Try.func99, Try.ntmps99
    go_wp2
    go_ret
    exact ⟨_, _, rfl, ⟨Nat.zero_le _, Nat.zero_le _, fun _ => rfl⟩, fun h => absurd h (by omega), Below.refl _ _⟩
  · have hmk := make_claims m hm w
    have hmd := made_claims m hm w
    obtain ⟨W1, hW1⟩ : ∃ W1, w.alloc (.cells (madeCells #[.int .i64 0, .string ⟨#[]⟩, .string ⟨#[]⟩, .slice none 0 0, .slice none 0 0] (m * 5)) 43) = W1 := ⟨_, rfl⟩
    rw [hW1] at hmk hmd
    have hB1 : Below w.heap.size w W1 := by rw [← hW1]; exact bel_alloc (Below.refl _ _) _
    have hs1 : W1.heap.size = w.heap.size + 1 := by rw [← hW1]; simp
    have hm1 : ((m : Int) == 0) = false := by simp; omega
    have P0 : PartC w w.heap.size l m 0 W1 := ⟨[], rfl, by simpa using hmd, by rw [List.take_zero, FrCL]; exact ⟨by omega, rfl⟩⟩
    have HT := Lib.hid hG
    have HK := Lib.hid (show ∀ k x, l[k]? = some x → CopyOkC x ∧ wt x ≤ 1000000 from fun k x h => ⟨hok x (List.mem_of_getElem? h), by have := wts_mem (List.mem_of_getElem? h); omega⟩)
    have HP0 := Lib.hid P0
    clear hG hok hmd P0 hW1
    go_enter Try.func99, Try.ntmps99
    go_wp2
    go_loopw [16] (fun i wr0 => ∃ (wr : World) (k : Nat), wr = wr0 ∧ k ≤ m ∧ i = .int .i64 k ∧ Below w.heap.size w wr ∧ Hid (PartC w w.heap.size l m k wr)) (fun i _ => m - (intOf i).toNat)
    case atStart => exact ⟨_, 0, rfl, by omega, rfl, hB1, HP0⟩
    case round =>
      obtain ⟨wr, k, rfl, hk, rfl, hB, hR⟩ := hrel
      by_cases hlt : k < m
      · obtain ⟨bb, o, x, kk, A, M, Cc, rfl, hb, y0, y1, y2, y3, y4, hx, hok⟩ := (CsW.b HT.out hB).at hlt
        obtain ⟨W4, hW4, hB4, hs4, S4⟩ := cbox1 wr (opC x) (nmC x) (soC x) kk A M Cc
        obtain ⟨hck, hsx⟩ := HK.out k x hx
        have cc := hck kk A M Cc W4 hsx (ArWC.b hok hB4)
        obtain ⟨f0, f1, f2, f3, f4⟩ := S4.five
        have B4 := bel_trans hB hB4
        have Hx := Lib.hid hx
        clear hx hok HK S4 hck
        generalize opC x = op' at *
        generalize nmC x = nm' at *
        generalize soC x = nu' at *
        have hk0 : 0 ≤ (k : Int) := by omega
        have hk1 : (k : Int) < (m : Int) := by omega
        go_wp2_with (go_at_call 96; ((with_reducible refine cc.mono ?_); rintro e w5 ⟨h, rfl, hF, hb5⟩; obtain ⟨⟨q0, q1, q2, q3, q4⟩, ⟨g0, g1, g2, g3, g4⟩, Hn⟩ := PartC.go hR.out hlt Hx.out hB4 hb5 hF; clear hF))
        go_roundw
        case rel => exact ⟨_, k + 1, rfl, by omega, by go_num, set5_below (bel_trans B4 hb5) (Nat.le_refl _) k _, Hn⟩
        case measure => simp [intOf]; omega
      · obtain rfl : k = m := by omega
        have Hd := Lib.hid (PartC.done hR.out HT.out.1.symm)
        have hcap : k ≤ maxLen := by unfold maxLen; omega
        have Hc := Lib.hid hcap
        clear hR hcap
        go_wp2
        go_ret
        refine ⟨_, _, rfl, ⟨Nat.le_refl _, Hc.out, fun h => by cases h⟩, fun _ => ?_, hB⟩
        obtain ⟨hs, h1, h2⟩ := Hd.out
        exact ⟨w.heap.size, hs, rfl, Nat.le_refl _, h1, h2⟩

set_option maxRecDepth 100000 in
set_option maxHeartbeats 4000000 in
theorem CopyC_step (t : Cl) (hok : ∀ x ∈ subC t, CopyOkC x) : CopyOkC t := by
  intro k a m c w hsz hA
  obtain ⟨W2, hW2, hB2, hs2, S2, R2⟩ := cbox2 w (opC t) (nmC t) (soC t) k a m c 0 ⟨#[]⟩ ⟨#[]⟩ SS.nil none 0 0
  dsimp only [SS.nil] at hW2
  have hsl := wt_mk t
  have hT := ArWC.terms (ArWC.b hA hB2)
  have cT := mapCopy_of (tsC t) (fun x _ => Copy_any x) (by omega) k.a k.n k.c W2 hT
  have cM := fun (w' : World) (hb : Below w.heap.size w w') => mapCopyC_of (subC t) hok (by omega) a m c w' (CsW.b (ArWC.subs hA) hb)
  obtain ⟨s0, s1, s2, s3, s4⟩ := S2.five
  have hm : m = (subC t).length := (ArWC.subs hA).1
  have hn : k.n = (tsC t).length := hT.1
  have HFin := Lib.hid (show ∀ (w3 w3' w4 w5 : World) (A : Option Addr) (C : Nat) (A4 : Option Addr) (C4 : Nat), (k.n ≤ C ∧ C ≤ maxLen ∧ (A = none → C = 0)) → (0 < k.n → ∃ g hs, A = some ⟨g, 0, none⟩ ∧ W2.heap.size ≤ g ∧ Row w3 g hs ∧ FrL w3 (tsC t) (g + 1) w3.heap.size hs) →
      (m ≤ C4 ∧ C4 ≤ maxLen ∧ (A4 = none → C4 = 0)) → (0 < m → ∃ g hs, A4 = some ⟨g, 0, none⟩ ∧ w3'.heap.size ≤ g ∧ RowC w4 g hs ∧ FrCL w4 (subC t) (g + 1) w4.heap.size hs) →
      w.heap.size + 2 ≤ w3.heap.size → w3'.heap.size = w3.heap.size → Below w3'.heap.size w3' w4 → (∀ b, w.heap.size + 2 ≤ b → w3'.heap[b]? = w3.heap[b]?) → w5.heap.size = w4.heap.size → (∀ b, w.heap.size + 2 ≤ b → w5.heap[b]? = w4.heap[b]?) → FrC w5 t w.heap.size w5.heap.size ⟨opC t, nmC t, soC t, ⟨A, k.n, C⟩, A4, m, C4⟩ from fun w3 w3' w4 w5 A C A4 C4 h1 h2 h3 h4 q1 q2 q3 q4 q5 q6 => by
    have q7 := q3.size
    cases t with
    | mk o s z ts l =>
      rw [FrC]
      refine ⟨⟨rfl, rfl, rfl⟩, w3.heap.size, ?_, ⟨hm, h3⟩, by omega, fun hn => ?_⟩
      · unfold FrK
        rw [Fr]
        refine ⟨⟨rfl, rfl, rfl⟩, ⟨hn, h1⟩, by omega, fun hn0 => ?_⟩
        obtain ⟨g, hs, e1, e2, e3, e4⟩ := h2 hn0
        have hsame : ∀ b, w.heap.size + 2 ≤ b → b < w3.heap.size → w5.heap[b]? = w3.heap[b]? := fun b x y => (q6 b x).trans ((q3.block b (by omega)).trans (q4 b x))
        have hlt := e3.lt
        exact ⟨g, hs, e1, by omega, e3.of_block (hsame g (by omega) hlt), FrL.same _ (fun b hl hu => hsame b (by omega) hu) e4⟩
      · obtain ⟨g, hs, e1, e2, e3, e4⟩ := h4 hn
        exact ⟨g, hs, e1, by omega, e3.of_block (q6 g (by omega)), by rw [q5]; exact FrCL.same _ (fun b hl hu => q6 b (by omega)) e4⟩)
  have HS := Lib.hid S2
  have HR := Lib.hid R2
  clear hA hok S2 R2 hm hsz hsl hT hn
  generalize tsC t = ta at *
  generalize subC t = la at *
  generalize opC t = op at *
  generalize nmC t = nm at *
  generalize soC t = so at *
  go_enter Try.func96, Try.ntmps96
  go_wp2_with (first
    | (go_at_call 86; ((with_reducible refine cT.mono ?_); rintro e w3 ⟨A, C, rfl, hc, hr, hb3⟩; have Hc := Lib.hid hc; have Hr := Lib.hid hr; clear hc hr; have S3 := CBox.b HS.out hb3; have R3 := CBox.b HR.out hb3; obtain ⟨u0, u1, u2, u3, u4⟩ := S3.five; obtain ⟨p0, p1, p2, p3, p4⟩ := S3.free; have S3' : CBox (w3.setCell ⟨w.heap.size, 3, none⟩ (.slice A k.n C)) w.heap.size op nm so ⟨A, k.n, C⟩ a m c := (by have := Blk.set S3 3 (.slice A k.n C); simpa [CBox] using this); have R3' := CBox.far R3 (show w.heap.size ≠ w.heap.size + 1 by omega) 3 (.slice A k.n C); obtain ⟨z0, z1, z2, z3, z4⟩ := S3'.five; have hs3 : w.heap.size + 2 ≤ w3.heap.size := (by have := hb3.size; omega); have hB3' : Below w.heap.size w (w3.setCell ⟨w.heap.size, 3, none⟩ (.slice A k.n C)) := below_set (bel_trans hB2 hb3) (Nat.le_refl _) _ _))
    | (go_at_call 99; ((with_reducible refine (cM _ hB3').mono ?_); rintro e w4 ⟨A4, C4, rfl, hc4, hr4, hb4⟩; have Hc4 := Lib.hid hc4; have Hr4 := Lib.hid hr4; have Hb4 := Lib.hid hb4; have hB4' := bel_trans hB3' hb4; have S4 := CBox.b S3' hb4; have R4 := CBox.b R3' hb4; clear hc4 hr4 hb4; obtain ⟨v0, v1, v2, v3, v4⟩ := S4.five; obtain ⟨f0, f1, f2, f3, f4⟩ := S4.free; have S5 : CBox (w4.setCell ⟨w.heap.size, 4, none⟩ (.slice A4 m C4)) w.heap.size op nm so ⟨A, k.n, C⟩ A4 m C4 := (by have := Blk.set S4 4 (.slice A4 m C4); simpa [CBox] using this); have R5 := CBox.far R4 (show w.heap.size ≠ w.heap.size + 1 by omega) 4 (.slice A4 m C4); obtain ⟨y0, y1, y2, y3, y4⟩ := S5.five; obtain ⟨r0, r1, r2, r3, r4⟩ := R5.free; obtain ⟨t0, t1, t2, t3, t4⟩ := R5.five; have F5 := CBox.put R5 op nm so ⟨A, k.n, C⟩ A4 m C4; unfold put5 at F5; obtain ⟨x0, x1, x2, x3, x4⟩ := F5.five)))
  simp [bodyPost, results, Try.results96, go_sem, x0, x1, x2, x3, x4]
  have hs4 : w.heap.size + 2 ≤ w4.heap.size := by have h0 := Hb4.out.size; simp [World.setCell] at h0; omega
  refine ⟨⟨op, nm, so, ⟨A, k.n, C⟩, A4, m, C4⟩, rfl, HFin.out w3 (w3.setCell ⟨w.heap.size, 3, none⟩ (.slice A k.n C)) w4 _ A C A4 C4 Hc.out Hr.out Hc4.out Hr4.out hs3 (by simp [World.setCell]) Hb4.out (fun b hb => heap_setCell_other w3 ⟨w.heap.size, 3, none⟩ b _ (by show b ≠ w.heap.size; omega)) ?_ (fun b hb => ?_), ?_⟩
  · simp [World.setCell]
  · refine (put5_other _ (w.heap.size + 1) b _ _ _ _ _ (by omega)).trans ?_
    exact heap_setCell_other w4 ⟨w.heap.size, 4, none⟩ b _ (by show b ≠ w.heap.size; omega)
  · exact put5_below (below_set hB4' (Nat.le_refl _) _ _) (by omega) _ _ _ _ _
theorem CopyC_any (t : Cl) : CopyOkC t := Cl.ind CopyC_step t
end Go.Proofs.Ytokkafekdaniaaa.C
