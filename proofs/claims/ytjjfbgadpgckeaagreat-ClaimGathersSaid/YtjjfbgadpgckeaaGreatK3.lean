/-
  What is proved: append of one term to a row of the call's own, for the walk: where the new row lies.
  What is proved: the document's terms of a claim, each where it first stands.
-/
import Derived.Test.YtjjfbgadpgckeaaGreatBL
import Derived.Deep.AppendLies
import Derived.Test.YtjjfbgadpgckeaaGreatZClmYr
import Derived.Test.YtjjfbgadpgckeaaGreatD2
namespace Go.Proofs.YtjjfbgadpgckeaaGreat.T
open Go.RowKit L
set_option linter.unusedVariables false
set_option linter.unusedSimpArgs false

theorem app_oneP {w : World} {ops : Array Oper} {rest : List Oper} {o : Oper} {a : Act} {Q : Exit → Act → World → Prop} (hgd : o.guard = none) (s x : Operand)
    (ho : o.op = .call { callee := .builtin .append, args := #[s, x], argTypes := #[22, 22] })
    (base : Nat) (v : Value) (Y : List Hd) (hs : a.eval s = v) (hown : OwnT w base v Y) (z : Nat) (h : Hd) (hx : a.eval x = .slice (some ⟨z, 0, none⟩) 1 1) (hz : Blk w z #[.int .i64 h.op, .string h.nm, .int .i64 h.nu, .slice h.a h.n h.c] 53)
    (hn : Y.length + 1 ≤ 1000000000) (hbase : base ≤ w.heap.size)
    (hK : ∀ g cap w', OwnT w' base (.slice (some ⟨g, 0, none⟩) (Y.length + 1) cap) (Y ++ [h]) → w.grownBy w' v.ownBlock → (v.ownBlock = some g ∨ g = w.heap.size) → wpList Tryz.prog ops Q rest (a.put o.dst (.slice (some ⟨g, 0, none⟩) (Y.length + 1) cap)) w') : wpList Tryz.prog ops Q (o :: rest) a w := by
  obtain ⟨i0, hi, hz0, hz1, hz2⟩ := info_parts termI
  refine wpList_append_lies w hgd s x 22 ho base 53 i0 _ 4 56 Tryz.underlying22 hi hz0 hz1 hz2 rfl (by decide) v Y.length (flatH Y) hs hown ⟨z, 0, none⟩ 1 1 (flatH [h]) hx (by rw [flat_len]; rfl) (fun j u hj => by rw [show flatH [h] = h.cells ++ [] from rfl] at hj; exact World.news_of_block hz j u (by simpa [Hd.cells] using hj)) (hd_one _) (by omega) (by unfold maxLen; omega) (by omega) hbase _ rfl fun g cap w' h1 h2 h3 _ => hK g cap w' ?_ h2 h3
  unfold OwnT
  rw [List.length_append, flat_app]
  exact h1
end Go.Proofs.YtjjfbgadpgckeaaGreat.T
namespace Go.Proofs.YtjjfbgadpgckeaaGreat.K
open Go.RowKit L T
open C (Cl atC cmpC eqC CsW wt wt_mk wts wts_mem wts_len opC nmC soC tsC subC SS OwnC Hc CBox cbox1 ArC ArWC take_c wts_app)
open U (HdsT tsAll tsAlls)
set_option linter.unusedVariables false
set_option linter.unusedSimpArgs false

theorem take_t {x : Tm} {l : List Tm} {k : Nat} (h : l[k]? = some x) : l.take (k + 1) = l.take k ++ [x] := by rw [List.take_add_one, h]; rfl
theorem uq_appT : ∀ (r s out : List Tm), uq out (r ++ s) = uq (uq out r) s
  | [], s, out => by rw [List.nil_append, uq]
  | y :: r, s, out => by
    rw [List.cons_append, uq, uq]
    split
    · exact uq_appT r s out
    · exact uq_appT r s (out ++ [y])
theorem uq_lenT : ∀ (l out : List Tm), (uq out l).length ≤ out.length + l.length
  | [], out => by rw [uq]; simp
  | x :: l, out => by
    rw [uq]
    split
    · have := uq_lenT l out; simp; omega
    · have := uq_lenT l (out ++ [x]); simp at this ⊢; omega
theorem uq_szT : ∀ (l out : List Tm), sizes (uq out l) ≤ sizes out + sizes l
  | [], out => by rw [uq]; simp [sizes]
  | x :: l, out => by
    rw [uq]
    split
    · have := uq_szT l out; simp only [sizes]; omega
    · have := uq_szT l (out ++ [x]); rw [sizes_app] at this; simp only [sizes] at this ⊢; omega
theorem tsAll_mk (t : Cl) : tsAll t = tsC t ++ tsAlls (subC t) := by cases t; rw [tsAll]; rfl
theorem tsAlls_snoc (l : List Cl) (x : Cl) : tsAlls (l ++ [x]) = tsAlls l ++ tsAll x := by
  induction l with
  | nil => rw [List.nil_append, tsAlls, tsAlls, tsAlls]; simp
  | cons y l ih => rw [List.cons_append, tsAlls, ih, tsAlls, List.append_assoc]
theorem tsAlls_len (l : List Cl) : (tsAlls l).length ≤ wts l := Nat.le_trans (U.len_sizes _) (U.tsAlls_size l)
/-- the terms so far, in a row of the call's own -/
def TrR (w0 wr : World) (A : Option Addr) (n c : Nat) (X : List Tm) : Prop := ∃ hs, OwnT wr w0.heap.size (.slice A n c) hs ∧ n = hs.length ∧ HdsT w0.heap.size w0 hs X ∧ Below w0.heap.size w0 wr
theorem TrR.b {w0 wr w' : World} {A : Option Addr} {n c : Nat} {X : List Tm} (h : TrR w0 wr A n c X) (hb : Below wr.heap.size wr w') : TrR w0 w' A n c X := by
  obtain ⟨hs, h1, h2, h3, h4⟩ := h
  exact ⟨hs, OwnT.below h1 hb, h2, h3, bel_trans h4 hb⟩
theorem TrR.len {w0 wr : World} {A : Option Addr} {n c : Nat} {X : List Tm} (h : TrR w0 wr A n c X) : n = X.length := by
  obtain ⟨hs, h1, h2, h3, h4⟩ := h
  rw [h2, h3.1]
/-- the k-th term of the row -/
theorem TrR.at {w0 wr : World} {A : Option Addr} {n c k : Nat} {X : List Tm} (h : TrR w0 wr A n c X) (hk : k < n) :
    ∃ g y a' n' c', A = some ⟨g, 0, none⟩ ∧ g < wr.heap.size ∧ X[k]? = some y ∧ (wr.cell? ⟨g, k * 4, none⟩ = some (.int .i64 (opT y)) ∧ wr.cell? ⟨g, k * 4 + 1, none⟩ = some (.string (nameT y)) ∧ wr.cell? ⟨g, k * 4 + 1 + 1, none⟩ = some (.int .i64 (numT y)) ∧ wr.cell? ⟨g, k * 4 + 1 + 1 + 1, none⟩ = some (.slice a' n' c')) ∧ Ar w0.heap.size w0 y a' n' c' := by
  obtain ⟨hs, h1, h2, h3, h4⟩ := h
  obtain ⟨A', C', e1, -, -, -, e2⟩ := OwnT.slice h1
  injection e1 with e1 e1' e1''
  obtain ⟨g, hg, -, hgl⟩ := e2 (by omega)
  rw [hg] at e1
  subst e1
  have hk5 : k < hs.length := by omega
  have hkX : k < X.length := by rw [← h3.1]; exact hk5
  obtain ⟨y0, y1, y2, y3⟩ := OwnT.at h1 hk5
  obtain ⟨p1, p2, p3, p4⟩ := h3.2 k hs[k] X[k] (List.getElem?_eq_getElem hk5) (List.getElem?_eq_getElem hkX)
  rw [p1] at y0
  rw [p2] at y1
  rw [p3] at y2
  exact ⟨g, X[k], _, _, _, rfl, hgl, List.getElem?_eq_getElem hkX, ⟨y0, y1, y2, y3⟩, ArP.ar (fun b hb => hb) _ p4⟩
theorem inT_step {l : List Tm} {x y : Tm} {k : Nat} (h : l[k]? = some y) : inT (l.take (k + 1)) x = (inT (l.take k) x || eqT y x) := by
  rw [take_t h]; unfold inT; rw [List.any_append]; simp
/-- a call's row grown by one term -/
theorem TrR.app {w0 wr W1 u1 : World} {A : Option Addr} {n c : Nat} {X : List Tm} {y : Tm} {a' : Option Addr} {n' c' g cap : Nat} {hs : List Hd} (hB0 : Below w0.heap.size w0 wr) (ho : OwnT wr w0.heap.size (.slice A n c) hs) (hX : HdsT w0.heap.size w0 hs X) (hy : Ar w0.heap.size w0 y a' n' c') (hV : Below wr.heap.size wr W1)
    (h1 : OwnT u1 w0.heap.size (.slice (some ⟨g, 0, none⟩) (hs.length + 1) cap) (hs ++ [⟨opT y, nameT y, numT y, a', n', c'⟩])) (h2 : W1.grownBy u1 (Value.slice A n c).ownBlock) (h3 : (Value.slice A n c).ownBlock = some g ∨ g = W1.heap.size) :
    TrR w0 u1 (some ⟨g, 0, none⟩) (hs.length + 1) cap (X ++ [y]) ∧ Kp wr u1 (.slice A n c) (.slice (some ⟨g, 0, none⟩) (hs.length + 1) cap) := by
  refine ⟨⟨_, h1, by simp, hX.app ⟨rfl, fun i h' x e1 e2 => ?_⟩, ?_⟩, Kp.grown hV h2 h3⟩
  · cases i with
    | zero => injection e1 with e1; injection e2 with e2; subst e1 e2; exact ⟨rfl, rfl, rfl, Ar.p _ hy⟩
    | succ i => simp at e1
  · exact (bel_trans hB0 hV).grown h2 (Nat.le_trans hB0.size hV.size) (fun q hq => (World.ownsRow.lt ho q hq).1)
def RtOk (w0 : World) (t : Cl) : Prop := ∀ (X : List Tm) (A : Option Addr) (n c : Nat) (k : SS) (a : Option Addr) (m d : Nat) (w : World), TrR w0 w A n c X → ArC w0.heap.size w0 t k a m d → X.length + wt t ≤ 900000 →
  Calls Tryz.prog 45 #[.slice A n c, .agg #[.int .i64 (opC t), .string (nmC t), .string (soC t), .slice k.a k.n k.c, .slice a m d]] w fun e w' => ∃ A' n' c', e = .returned (.slice A' n' c') ∧ TrR w0 w' A' n' c' (uq X (tsAll t)) ∧ Kp w w' (.slice A n c) (.slice A' n' c')
set_option maxRecDepth 100000 in
set_option maxHeartbeats 16000000 in
theorem terms8_step (w0 : World) (t : Cl) (hok : ∀ x ∈ subC t, RtOk w0 x) : RtOk w0 t := by
  intro X A n c kk a m d w hX hA hl
  obtain ⟨ka, kn, kc⟩ := kk
  obtain ⟨W, hW, hB, hs, S⟩ := cbox1 w (opC t) (nmC t) (soC t) ⟨ka, kn, kc⟩ a m d
  dsimp only at hW S
  have hb0 : Below w0.heap.size w0 w := by obtain ⟨_, _, _, _, h⟩ := hX; exact h
  have hC := (C.ar_isC.1 hA).2
  have hT : IsT w0.heap.size w0 ka kn kc (tsC t) := (C.ar_isC.1 hA).1
  have hm : m ≤ 9223372036854775807 := by have h1 := hC.2.1; have h2 := hC.2.2.1; unfold maxLen at h2; omega
  have hkn : kn ≤ 9223372036854775807 := by have h1 := hT.2.1; have h2 := hT.2.2.1; unfold maxLen at h2; omega
  have hsz := wt_mk t
  have hXW := hX.b hB
  have hK0 : Kp w W (.slice A n c) (.slice A n c) := Kp.of_below _ hB
  rw [tsAll_mk, uq_appT]
  have hlt1 := U.len_sizes (tsC t)
  have HLt := Lib.hid (show ∀ j, (uq X ((tsC t).take j)).length ≤ 900000 from fun j => by
    have h1 := uq_lenT ((tsC t).take j) X
    have h2 : ((tsC t).take j).length ≤ (tsC t).length := by rw [List.length_take]; omega
    omega)
  have HK := Lib.hid (show ∀ i x, (subC t)[i]? = some x → RtOk w0 x from fun i x h => hok x (List.mem_of_getElem? h))
  have HLen := Lib.hid (show ∀ i x, (subC t)[i]? = some x → (uq (uq X (tsC t)) (tsAlls ((subC t).take i))).length + wt x ≤ 900000 from fun i x hx => by
    have h1 := uq_lenT (tsAlls ((subC t).take i)) (uq X (tsC t))
    have h4 := uq_lenT (tsC t) X
    have h5 := tsAlls_len ((subC t).take i)
    have h3 := wts_app ((subC t).take (i + 1)) ((subC t).drop (i + 1))
    rw [List.take_append_drop, take_c hx, wts_app] at h3
    simp only [wts] at h3
    omega)
  have hown : ∀ q, (Value.slice A n c).ownBlock = some q → q < w.heap.size := fun q hq => by obtain ⟨hs', e1, -⟩ := hX; exact (World.ownsRow.lt e1 q hq).2
  have HBx := Lib.hid (show ∀ (wr : World) (v' : Value), Kp W wr (.slice A n c) v' → CBox wr w.heap.size (opC t) (nmC t) (soC t) ⟨ka, kn, kc⟩ a m d from fun wr v' h => (h.2.1 w.heap.size (by omega) (fun e => by have := hown _ e; omega)).trans S)
  have H0 : Hid (TrR w0 W A n c (uq X ((tsC t).take 0)) ∧ Kp W W (.slice A n c) (.slice A n c)) := Lib.hid ⟨by rw [List.take_zero]; exact hXW, Kp.refl _ _⟩
  have HC := Lib.hid hC
  have HT := Lib.hid hT
  have HK0 := Lib.hid hK0
  have HSt := Lib.hid (show ∀ j x, (subC t)[j]? = some x → uq (uq X (tsC t)) (tsAlls ((subC t).take (j + 1))) = uq (uq (uq X (tsC t)) (tsAlls ((subC t).take j))) (tsAll x) from fun j x h => by rw [take_c h, tsAlls_snoc, uq_appT])
  have HTt := Lib.hid (show ∀ j x, (tsC t)[j]? = some x → uq X ((tsC t).take (j + 1)) = if inT (uq X ((tsC t).take j)) x then uq X ((tsC t).take j) else uq X ((tsC t).take j) ++ [x] from fun j x h => by rw [take_t h, uq_snoc])
  have HEndT := Lib.hid (show ∀ j, kn ≤ j → (tsC t).take j = tsC t from fun j h => List.take_of_length_le (by have := hT.1; omega))
  have HEnd := Lib.hid (show ∀ j, m ≤ j → (subC t).take j = subC t from fun j h => List.take_of_length_le (by have := hC.1; omega))
  obtain ⟨s0, s1, s2, s3, s4⟩ := S.five
  clear hX hA hXW hK0 hok hsz hl hown hC hT S hs hlt1
  generalize subC t = l at *
  generalize tsC t = lt at *
  generalize opC t = op at *
  generalize nmC t = nm at *
  generalize soC t = so at *
  go_enter Tryz.func45, Tryz.ntmps45
  go_wp2
  go_loopw [0, 5] (fun v i wr0 => ∃ (wr : World) (j : Nat) (A' : Option Addr) (n' c' : Nat), wr = wr0 ∧ j ≤ kn ∧ .slice A' n' c' = v ∧ i = .int .i64 j ∧ Hid (TrR w0 wr A' n' c' (uq X (lt.take j)) ∧ Kp W wr (.slice A n c) (.slice A' n' c'))) (fun _ i _ => kn - (intOf i).toNat)
  case atStart => exact ⟨_, 0, _, _, _, rfl, by omega, rfl, rfl, H0⟩
  case round =>
    clear s0 s1 s2 s3 s4 H0
    obtain ⟨wr, j, A', n', c', rfl, hj, rfl, rfl, hN⟩ := hrel
    obtain ⟨e0, e1, e2, e3, e4⟩ := (HBx.out wr _ hN.out.2).five
    dsimp only at e3
    have hbr : Below w0.heap.size w0 wr := by obtain ⟨⟨_, _, _, _, h⟩, _⟩ := hN.out; exact h
    by_cases hlt : j < kn
    · obtain ⟨bb, o, x, AA, M, Cc, rfl, hbb, z0, z1, z2, z3, hx, hax⟩ := IsT.at HT.out hlt
      have HTx := Lib.hid (HTt.out j x hx)
      have HN := Lib.hid hN.out.1
      have HKw := Lib.hid hN.out.2
      have HAx := Lib.hid hax
      have hn' : n' ≤ 900000 := by rw [hN.out.1.len]; exact HLt.out j
      have hbl := (HBx.out wr _ hN.out.2)
      have HBl := Lib.hid hbl
      have hj0 : 0 ≤ (j : Int) := by omega
      have hj1 : (j : Int) < (kn : Int) := by omega
      have hlen0 : n' = (uq X (lt.take j)).length := hN.out.1.len
      have HLn := Lib.hid hlen0
      clear hN hx hax hbl hlen0
      generalize uq X (lt.take j) = XJ at *
      go_wp2
      go_loopw [6, 7] (fun th i wr0 => ∃ (w1 : World) (k : Nat), w1 = wr0 ∧ k ≤ n' ∧ th = .bool (inT (XJ.take k) x) ∧ i = .int .i64 k ∧ Hid (Below wr.heap.size wr w1)) (fun _ i _ => n' - (intOf i).toNat)
      case atStart => exact ⟨_, 0, rfl, by omega, rfl, rfl, Lib.hid (Below.refl _ _)⟩
      case round =>
        clear e0 e1 e2 e3 e4
        obtain ⟨w1, k, rfl, hk, rfl, rfl, hR⟩ := hrel
        obtain ⟨e0, e1, e2, e3, e4⟩ := (C.CBox.b HBl.out hR.out).five
        dsimp only at e3
        by_cases hltk : k < n'
        · obtain ⟨g, y, a', m', d', rfl, hgl, hy, ⟨y0, y1, y2, y3⟩, hay⟩ := (HN.out.b hR.out).at hltk
          have hb1 : Below w0.heap.size w0 w1 := by obtain ⟨_, _, _, _, h⟩ := HN.out.b hR.out; exact h
          have x0 := (hb1.cell (p := ⟨bb, _, none⟩) hbb).trans z0
          have x1 := (hb1.cell (p := ⟨bb, _, none⟩) hbb).trans z1
          have x2 := (hb1.cell (p := ⟨bb, _, none⟩) hbb).trans z2
          have x3 := (hb1.cell (p := ⟨bb, _, none⟩) hbb).trans z3
          have hbb1 : bb < w1.heap.size := Nat.lt_of_lt_of_le hbb hb1.size
          have hst := inT_step (x := x) hy
          have hBd : Below w1.heap.size w1 w1.drew := (Below.refl _ _).drew
          have hbd : Below w0.heap.size w0 w1.drew := hb1.drew
          have cs := Term_any y x a' m' d' AA M Cc w1.drew (Ar.mono hbd.size _ (Ar.bel hbd _ hay)) (Ar.mono hbd.size _ (Ar.bel hbd _ HAx.out))
          have lS := Blk.lt (C.CBox.b HBl.out hR.out)
          have k0 : 0 ≤ (k : Int) := by omega
          have k1 : (k : Int) < (n' : Int) := by omega
          have hRs := hR.out.size
          clear hay hy
          cases hth : inT (XJ.take k) x with
          | true =>
            rw [hth] at hst
            have Hst := Lib.hid hst
            clear hst hth cs
            go_wp2
            go_quiet (fail)
            go_wp2
            go_roundw
            case rel => exact ⟨_, k + 1, rfl, by omega, by rw [Hst.out]; rfl, by go_num, Lib.hid (below_drewN hR.out _)⟩
            case measure => simp [intOf]; omega
          | false =>
            rw [hth, Bool.false_or] at hst
            have Hst := Lib.hid hst
            clear hst hth
            generalize eqT y x = R at *
            generalize opT y = oy at *
            generalize nameT y = ny at *
            generalize numT y = uy at *
            generalize opT x = ox at *
            generalize nameT x = nx at *
            generalize numT x = ux at *
            go_wp2_with fail
            go_region_held3 (fun w' => w'.cell? ⟨g, k * 4, none⟩ = some (.int .i64 oy) ∧ w'.cell? ⟨g, k * 4 + 1, none⟩ = some (.string ny) ∧ w'.cell? ⟨g, k * 4 + 1 + 1, none⟩ = some (.int .i64 uy) ∧ w'.cell? ⟨g, k * 4 + 1 + 1 + 1, none⟩ = some (.slice a' m' d') ∧ w'.cell? ⟨bb, o + j * 4, none⟩ = some (.int .i64 ox) ∧ w'.cell? ⟨bb, o + j * 4 + 1, none⟩ = some (.string nx) ∧ w'.cell? ⟨bb, o + j * 4 + 1 + 1, none⟩ = some (.int .i64 ux) ∧ w'.cell? ⟨bb, o + j * 4 + 1 + 1 + 1, none⟩ = some (.slice AA M Cc) ∧ w'.cell? ⟨w.heap.size, 3, none⟩ = some (.slice (some ⟨bb, o, none⟩) kn kc))
              (first | go_keep | (exact ⟨(B4.cell hgl).trans y0, (B4.cell hgl).trans y1, (B4.cell hgl).trans y2, (B4.cell hgl).trans y3, (B4.cell hbb1).trans x0, (B4.cell hbb1).trans x1, (B4.cell hbb1).trans x2, (B4.cell hbb1).trans x3, (B4.cell lS).trans e3⟩))
              (first | (go_at_call 39; ((with_reducible refine cs.mono ?_); rintro e w4 ⟨rfl, hb4⟩; have B4 := bel_trans hBd hb4)))
            go_wp2
            go_roundw
            case rel => exact ⟨_, k + 1, rfl, by omega, by rw [Hst.out], by go_num, Lib.hid (bel_trans hR.out B4)⟩
            case measure => simp [intOf]; omega
        · obtain rfl : k = n' := by omega
          have hfull : XJ.take k = XJ := List.take_of_length_le (by rw [← HLn.out]; exact Nat.le_refl _)
          rw [hfull]
          have hb1 : Below w0.heap.size w0 w1 := by obtain ⟨_, _, _, _, h⟩ := HN.out.b hR.out; exact h
          have x0 := (hb1.cell (p := ⟨bb, _, none⟩) hbb).trans z0
          have x1 := (hb1.cell (p := ⟨bb, _, none⟩) hbb).trans z1
          have x2 := (hb1.cell (p := ⟨bb, _, none⟩) hbb).trans z2
          have x3 := (hb1.cell (p := ⟨bb, _, none⟩) hbb).trans z3
          cases hth : inT XJ x with
          | true =>
            have hq := HTx.out
            rw [hth, if_pos rfl] at hq
            have Hq := Lib.hid hq
            have HF := Lib.hid (show TrR w0 w1 A' k c' XJ ∧ Kp W w1 (.slice A n c) (.slice A' k c') from ⟨HN.out.b hR.out, HKw.out.trans (Kp.of_below _ hR.out)⟩)
            clear hth hq hR
            go_wp2
            go_roundw
            case rel => exact ⟨_, j + 1, _, _, _, rfl, by omega, rfl, by go_num, Lib.hid ⟨by rw [Hq.out]; exact HF.out.1, HF.out.2⟩⟩
            case measure => simp [intOf]; omega
          | false =>
            have hq := HTx.out
            rw [hth, if_neg (by simp)] at hq
            have Hq := Lib.hid hq
            obtain ⟨hs, q1, q2, q3, q4⟩ := HN.out.b hR.out
            have HQ1 := Lib.hid q1
            have Hk := Lib.hid q2
            have HFi := Lib.hid (show ∀ (g cap : Nat) (u1 : World), OwnT u1 w0.heap.size (.slice (some ⟨g, 0, none⟩) (hs.length + 1) cap) (hs ++ [⟨opT x, nameT x, numT x, AA, M, Cc⟩]) → (w1.alloc (.cells #[.int .i64 (opT x), .string (nameT x), .int .i64 (numT x), .slice AA M Cc] 53)).grownBy u1 (Value.slice A' k c').ownBlock → ((Value.slice A' k c').ownBlock = some g ∨ g = (w1.alloc (.cells #[.int .i64 (opT x), .string (nameT x), .int .i64 (numT x), .slice AA M Cc] 53)).heap.size) → TrR w0 u1 (some ⟨g, 0, none⟩) (hs.length + 1) cap (XJ ++ [x]) ∧ Kp W u1 (.slice A n c) (.slice (some ⟨g, 0, none⟩) (hs.length + 1) cap) from fun g cap u1 r1 r2 r3 => by
              obtain ⟨t1, t2⟩ := TrR.app q4 q1 q3 HAx.out (bel_alloc (Below.refl _ _) _) r1 r2 r3
              exact ⟨t1, (HKw.out.trans (Kp.of_below _ hR.out)).trans t2⟩)
            have K1 := Lib.hid (Blk.new w1 #[.int .i64 (opT x), .string (nameT x), .int .i64 (numT x), .slice AA M Cc] 53)
            have hl1 : hs.length + 1 ≤ 1000000000 := by omega
            have hq0 := q4.size
            clear hth hq hR q1 q2 q3 q4
            generalize opT x = ox at *
            generalize nameT x = nx at *
            generalize numT x = ux at *
            go_wp2_with (at_builtin; ((refine app_oneP rfl (.tmp 37) (.tmp 43) rfl w0.heap.size (.slice A' k c') hs rfl (OwnT.below HQ1.out (bel_alloc (Below.refl _ _) _)) w1.heap.size ⟨ox, nx, ux, AA, M, Cc⟩ rfl K1.out hl1 (by simp; omega) ?_); intro gg cap u1 ho1 hg1 hl1; have HFn := Lib.hid (HFi.out gg cap u1 ho1 hg1 hl1); clear ho1 hg1 hl1))
            go_roundw
            case rel => exact ⟨_, j + 1, _, _, _, rfl, by omega, rfl, by go_num, Lib.hid ⟨by rw [Hq.out]; exact HFn.out.1, HFn.out.2⟩⟩
            case measure => simp [intOf]; omega
    · have hjm : j = kn := by omega
      have H1 : Hid (TrR w0 wr A' n' c' (uq (uq X lt) (tsAlls (l.take 0))) ∧ Kp W wr (.slice A n c) (.slice A' n' c')) := Lib.hid ⟨by have h := hN.out.1; rw [HEndT.out j (by omega)] at h; exact h, hN.out.2⟩
      clear hN HT HLt HTt
      go_wp2
      clear hjm hlt hj
      go_loopw [0, 8] (fun v i wr0 => ∃ (wr : World) (j : Nat) (A' : Option Addr) (n' c' : Nat), wr = wr0 ∧ j ≤ m ∧ .slice A' n' c' = v ∧ i = .int .i64 j ∧ Hid (TrR w0 wr A' n' c' (uq (uq X lt) (tsAlls (l.take j))) ∧ Kp W wr (.slice A n c) (.slice A' n' c'))) (fun _ i _ => m - (intOf i).toNat)
      case atStart => exact ⟨_, 0, _, _, _, rfl, by omega, rfl, rfl, H1⟩
      case round =>
        clear H1 e0 e1 e2 e3 e4
        obtain ⟨wr', i, A', n', c', rfl, hi, rfl, rfl, hN⟩ := hrel
        obtain ⟨e0, e1, e2, e3, e4⟩ := (HBx.out wr' _ hN.out.2).five
        have hbr' : Below w0.heap.size w0 wr' := by obtain ⟨⟨_, _, _, _, h⟩, _⟩ := hN.out; exact h
        by_cases hlt' : i < m
        · obtain ⟨bb, o, x, xk, AA, M, Cc, rfl, hbb, z0, z1, z2, z3, z4, hx, hax⟩ := HC.out.at hlt'
          have y0 := (hbr'.cell (p := ⟨bb, _, none⟩) hbb).trans z0
          have y1 := (hbr'.cell (p := ⟨bb, _, none⟩) hbb).trans z1
          have y2 := (hbr'.cell (p := ⟨bb, _, none⟩) hbb).trans z2
          have y3 := (hbr'.cell (p := ⟨bb, _, none⟩) hbb).trans z3
          have y4 := (hbr'.cell (p := ⟨bb, _, none⟩) hbb).trans z4
          have cV := HK.out i x hx _ A' n' c' xk AA M Cc wr' hN.out.1 hax (HLen.out i x hx)
          have Hst := Lib.hid (HSt.out i x hx)
          have HKp := Lib.hid hN.out.2
          clear z0 z1 z2 z3 z4 hax HK hx HC hN
          generalize opC x = op' at *
          generalize nmC x = nm' at *
          generalize soC x = so' at *
          have hi0 : 0 ≤ (i : Int) := by omega
          have hi1 : (i : Int) < (m : Int) := by omega
          go_wp2_with (go_at_call 45; ((with_reducible refine cV.mono ?_); rintro e w5 ⟨A5, n5, c5, rfl, hN5, hk5⟩; have HN5 := Lib.hid hN5; have HK5 := Lib.hid (HKp.out.trans hk5); clear hN5 hk5))
          go_roundw
          case rel => exact ⟨_, i + 1, _, _, _, rfl, by omega, rfl, by go_num, Lib.hid ⟨by rw [Hst.out]; exact HN5.out, HK5.out⟩⟩
          case measure => simp [intOf]; omega
        · have him : i = m := by omega
          have Hfin := Lib.hid (show TrR w0 wr' A' n' c' (uq (uq X lt) (tsAlls l)) ∧ Kp w wr' (.slice A n c) (.slice A' n' c') from ⟨by have h := hN.out.1; rw [HEnd.out i (by omega)] at h; exact h, HK0.out.trans hN.out.2⟩)
          clear hN HC him
          go_wp2
          go_ret
          exact ⟨_, _, _, rfl, Hfin.out.1, Hfin.out.2⟩
theorem terms8_any (w0 : World) (t : Cl) : RtOk w0 t := Cl.ind (terms8_step w0) t
end Go.Proofs.YtjjfbgadpgckeaaGreat.K
