/-
  What is proved: the atoms of any claims, each where it first stands, as package claim tells them.
-/
import Derived.Test.YtjjfbgadpgckeaaGreatC4
import Derived.Test.YtjjfbgadpgckeaaGreatZClmEg
import Derived.Test.YtjjfbgadpgckeaaGreatD0
import Derived.Deep.AppendLies
namespace Go.Proofs.YtjjfbgadpgckeaaGreat.K
open Go.RowKit L T
open C (Cl atC cmpC eqC CsW wt wts wts_mem wts_len opC nmC soC tsC subC SS OwnC HdL endsL endsLs endsLs_cons endsL_wt endsLs_app wts_app conP Hc flatC CBox cbox1 hcOf ArC ArWC FrCL RowC take_c)
set_option linter.unusedVariables false
set_option linter.unusedSimpArgs false

/-- append(l, c) for the walk: l a row of the call's own; where the new row lies -/
theorem app_claim2 {w : World} {ops : Array Oper} {rest : List Oper} {o : Oper} {a : Act} {Q : Exit → Act → World → Prop} (hgd : o.guard = none) (s x : Operand)
    (ho : o.op = .call { callee := .builtin .append, args := #[s, x], argTypes := #[23, 23] })
    (base : Nat) (v : Value) (hs : List Hc) (hv : a.eval s = v) (hown : OwnC w base v hs) (z : Nat) (h : Hc) (hx : a.eval x = .slice (some ⟨z, 0, none⟩) 1 1) (hz : CBox w z h.op h.nm h.so h.k h.a h.n h.c)
    (hn : hs.length < 1000000) (hbase : base ≤ w.heap.size)
    (hK : ∀ g cap w', OwnC w' base (.slice (some ⟨g, 0, none⟩) (hs.length + 1) cap) (hs ++ [h]) → w.grownBy w' v.ownBlock → (v.ownBlock = some g ∨ g = w.heap.size) → wpList Tryz.prog ops Q rest (a.put o.dst (.slice (some ⟨g, 0, none⟩) (hs.length + 1) cap)) w') : wpList Tryz.prog ops Q (o :: rest) a w := by
  obtain ⟨i0, hi, hz0, hz1, hz2⟩ := info_parts C.claimI
  refine wpList_append_lies w hgd s x 23 ho base 25 i0 _ 5 88 Tryz.underlying23 hi hz0 hz1 hz2 rfl (by decide) v hs.length (flatC hs) hv hown ⟨z, 0, none⟩ 1 1 (flatC [h]) hx (by rw [C.flatC_len]; rfl) (fun j u hj => ?_) (C.hc_one _) (by omega) (by unfold maxLen; omega) (by omega) hbase _ rfl fun g cap w' h1 h2 h3 _ => hK g cap w' ?_ h2 h3
  · rw [Addr.add_lit, Nat.zero_add, Blk.cell hz j, ← hj]
    have : (flatC [h]).toArray = #[.int .i64 h.op, .string h.nm, .string h.so, .slice h.k.a h.k.n h.k.c, .slice h.a h.n h.c] := rfl
    rw [← this]; simp
  · unfold OwnC
    rw [List.length_append, C.flatC_app]
    exact h1

/-- an atom: neither true nor false -/
def naC (x : Cl) : Bool := (opC x != 1) && (opC x != 2)
def atomsL (l : List Cl) : List Cl := (endsLs conP l).filter naC
def atomsT (x : Cl) (j : Nat) : List Cl := ((endsL conP x).take j).filter naC
theorem atomsL_step {l : List Cl} {x : Cl} {k : Nat} (h : l[k]? = some x) : atomsL (l.take (k + 1)) = atomsL (l.take k) ++ (endsL conP x).filter naC := by
  unfold atomsL
  rw [take_c h, endsLs_app, List.filter_append, endsLs_cons]
  show _ ++ List.filter naC (endsL conP x ++ []) = _
  rw [List.append_nil]
theorem atomsT_step {x y : Cl} {j : Nat} (h : (endsL conP x)[j]? = some y) : atomsT x (j + 1) = atomsT x j ++ (if naC y then [y] else []) := by
  unfold atomsT
  rw [take_c h, List.filter_append, List.filter_cons, List.filter_nil]
theorem atoms_wt (l : List Cl) : wts (atomsL l) ≤ wts l := by
  have h1 := C.endsLs_wt conP l (fun t _ => endsL_wt conP t)
  have h2 : ∀ m : List Cl, wts (m.filter naC) ≤ wts m := fun m => by
    induction m with
    | nil => exact Nat.le_refl _
    | cons x m ih => rw [List.filter_cons]; split <;> simp only [wts] <;> omega
  exact Nat.le_trans (h2 _) h1
theorem uqC_wt : ∀ (l out : List Cl), wts (uqC out l) ≤ wts out + wts l
  | [], out => by rw [uqC]; simp [wts]
  | x :: l, out => by
    rw [uqC]
    split
    · have := uqC_wt l out; simp only [wts]; omega
    · have := uqC_wt l (out ++ [x]); rw [wts_app] at this; simp only [wts] at this ⊢; omega
/-- the atoms so far, in a row of the call's own -/
def AtR (w0 wr : World) (A : Option Addr) (n c : Nat) (X : List Cl) : Prop := ∃ hs, OwnC wr w0.heap.size (.slice A n c) hs ∧ n = hs.length ∧ HdL w0 hs X ∧ Below w0.heap.size w0 wr
theorem AtR.b {w0 wr w' : World} {A : Option Addr} {n c : Nat} {X : List Cl} (h : AtR w0 wr A n c X) (hb : Below wr.heap.size wr w') : AtR w0 w' A n c X := by
  obtain ⟨hs, h1, h2, h3, h4⟩ := h
  exact ⟨hs, C.OwnC.below h1 hb, h2, h3, bel_trans h4 hb⟩
/-- within a round: also the row that is gone through, in another block -/
def AtI (w0 W3 wr : World) (A : Option Addr) (n c : Nat) (X : List Cl) (v5 : Value) (hs5 : List Hc) : Prop := AtR w0 wr A n c X ∧ OwnC wr W3.heap.size v5 hs5 ∧ ∀ q, (Value.slice A n c).ownBlock = some q → v5.ownBlock ≠ some q
theorem AtI.b {w0 W3 wr w' : World} {A : Option Addr} {n c : Nat} {X : List Cl} {v5 : Value} {hs5 : List Hc} (h : AtI w0 W3 wr A n c X v5 hs5) (hb : Below wr.heap.size wr w') : AtI w0 W3 w' A n c X v5 hs5 :=
  ⟨h.1.b hb, C.OwnC.below h.2.1 hb, h.2.2⟩
theorem AtI.app {w0 W3 wr V w' : World} {A : Option Addr} {n c : Nat} {X : List Cl} {v5 : Value} {hs5 hs : List Hc} {h : Hc} {y : Cl} {g cap : Nat}
    (h0 : AtI w0 W3 wr A n c X v5 hs5) (ho : OwnC wr w0.heap.size (.slice A n c) hs) (hn : n = hs.length) (hX : HdL w0 hs X) (hB0 : Below w0.heap.size w0 wr) (hV : Below wr.heap.size wr V) (hy : (h.op = opC y ∧ h.nm = nmC y ∧ h.so = soC y) ∧ ArC w0.heap.size w0 y h.k h.a h.n h.c)
    (h1 : OwnC w' w0.heap.size (.slice (some ⟨g, 0, none⟩) (hs.length + 1) cap) (hs ++ [h])) (h2 : V.grownBy w' (Value.slice A n c).ownBlock) (h3 : (Value.slice A n c).ownBlock = some g ∨ g = V.heap.size) :
    AtI w0 W3 w' (some ⟨g, 0, none⟩) (n + 1) cap (X ++ [y]) v5 hs5 := by
  subst hn
  have hv5 := C.OwnC.below h0.2.1 hV
  refine ⟨⟨hs ++ [h], h1, by simp, hX.app ⟨rfl, fun i h' x e1 e2 => ?_⟩, ?_⟩, ?_, fun q hq => ?_⟩
  · cases i with
    | zero => injection e1 with e1; injection e2 with e2; subst e1 e2; exact hy
    | succ i => simp at e1
  · exact (bel_trans hB0 hV).grown h2 (Nat.le_trans hB0.size hV.size) (fun q hq => (World.ownsRow.lt ho q hq).1)
  · refine World.ownsRow.kept hv5 h2 ?_
    cases hq : (Value.slice A hs.length c).ownBlock with
    | none =>
      cases h5 : v5.ownBlock with
      | none => exact .inl rfl
      | some r => exact .inr (by simp)
    | some r => exact .inr (h0.2.2 r hq)
  · have hq' : q = g := by simpa [Value.ownBlock] using hq.symm
    subst hq'
    rcases h3 with h3 | h3
    · exact h0.2.2 _ h3
    · intro e
      have := (World.ownsRow.lt h0.2.1 _ e).2
      have := hV.size
      omega
set_option maxRecDepth 100000 in
set_option maxHeartbeats 8000000 in
theorem Atoms_any (l : List Cl) (A : Option Addr) (N c : Nat) (w : World) (hG : CsW w A N c l) (hl : wts l ≤ 100000) :
    Calls Tryz.prog 22 #[.slice A N c] w fun e w' => ∃ A' n' C', e = .returned (.slice A' n' C') ∧ CsW w' A' n' C' (uqC [] (atomsL l)) ∧ Below w.heap.size w w' := by
  have hN : N = l.length := hG.1
  have hn63 : N ≤ 9223372036854775807 := by have := wts_len l; omega
  have HC := Lib.hid hG
  have HL := Lib.hid (show ∀ k, (atomsL (l.take k)).length ≤ 100000 from fun k => by
    have h1 := wts_len (atomsL (l.take k))
    have h2 := atoms_wt (l.take k)
    have h3 := C.wts_takeF l k
    omega)
  have HW := Lib.hid (show ∀ k x, l[k]? = some x → wt x ≤ 1000000 ∧ (endsL conP x).length ≤ 100000 from fun k x h => by
    have h1 := wts_mem (List.mem_of_getElem? h)
    have h2 := C.ends_len conP x
    omega)
  have HE := Lib.hid (show ∀ k, N ≤ k → atomsL (l.take k) = atomsL l from fun k h => by rw [List.take_of_length_le (by omega)])
  have HSt := Lib.hid (show ∀ k x, l[k]? = some x → atomsL (l.take (k + 1)) = atomsL (l.take k) ++ atomsT x (endsL conP x).length from fun k x h => by rw [atomsL_step h, atomsT, List.take_length])
  have H0 : Hid (AtR w w none 0 0 (atomsL (l.take 0))) := Lib.hid ⟨[], C.OwnC.nil _ _, rfl, by rw [List.take_zero]; exact C.HdL.nil _, Below.refl _ _⟩
  have HM := Lib.hid (show ∀ (W : World) (A' : Option Addr) (m C' : Nat), CsW W A' m C' (uqC [] (atomsL l)) → Calls Tryz.prog 51 #[.slice A' m C', .func (.func 54) #[] #[]] W fun e w' => ∃ A2 n2 C2, e = .returned (.slice A2 n2 C2) ∧ CsW w' A2 n2 C2 (uqC [] (atomsL l)) ∧ Below W.heap.size W w' from fun W A' m C' hT =>
    (C.mapCopyC_of _ (fun x _ => C.CopyC_any x) (by have h1 := uqC_wt (atomsL l) []; have h2 := atoms_wt l; have h3 : wts [] = 0 := rfl; omega) A' m C' W hT).mono fun e w' ⟨A2, C2, h1, h2, h3, h4⟩ => ⟨A2, _, C2, h1, C.newCs_read (w := W) hT.1 h2 h3, h4⟩)
  clear hG hN hl
  go_enter Tryz.func22, Tryz.ntmps22
  go_wp2
  go_loopw [3, 10] (fun v i wr0 => ∃ (wr : World) (k : Nat) (A1 : Option Addr) (n1 c1 : Nat), wr = wr0 ∧ k ≤ N ∧ .slice A1 n1 c1 = v ∧ i = .int .i64 k ∧ Hid (AtR w wr A1 n1 c1 (atomsL (l.take k)))) (fun v i _ => N - (intOf i).toNat)
  case atStart => exact ⟨_, 0, _, _, _, rfl, by omega, rfl, rfl, H0⟩
  case round =>
    clear H0
    obtain ⟨wr, k, A1, n1, c1, rfl, hk, rfl, rfl, hR⟩ := hrel
    have hbr : Below w.heap.size w wr := by obtain ⟨hs, _, _, _, h⟩ := hR.out; exact h
    by_cases hlt : k < N
    · obtain ⟨bb, o, x, ⟨xa, xn, xc⟩, AA, M, Cc, rfl, hbb, z0, z1, z2, z3, z4, hx, hax⟩ := HC.out.at hlt
      dsimp only at z3
      have y0 := (hbr.cell (p := ⟨bb, _, none⟩) hbb).trans z0
      have y1 := (hbr.cell (p := ⟨bb, _, none⟩) hbb).trans z1
      have y2 := (hbr.cell (p := ⟨bb, _, none⟩) hbb).trans z2
      have y3 := (hbr.cell (p := ⟨bb, _, none⟩) hbb).trans z3
      have y4 := (hbr.cell (p := ⟨bb, _, none⟩) hbb).trans z4
      obtain ⟨W3, hW3, hB3, hs3, S3⟩ := cbox1 wr (opC x) (nmC x) (soC x) ⟨xa, xn, xc⟩ AA M Cc
      dsimp only at hW3 S3
      obtain ⟨f0, f1, f2, f3, f4⟩ := S3.five
      obtain ⟨hw1, hw2⟩ := HW.out k x hx
      have hbr3 := hbr.trans (hB3.mono hbr.size)
      have cE := C.endsC_g x ⟨xa, xn, xc⟩ AA M Cc w W3 hbr3 hw1 hax
      have Hst := Lib.hid (HSt.out k x hx)
      have HI := Lib.hid (show ∀ (w5 : World) (v5 : Value) (hs5 : List Hc), OwnC w5 W3.heap.size v5 hs5 → HdL w hs5 (endsL conP x) → Below W3.heap.size W3 w5 → ∃ A5 C5, v5 = .slice A5 hs5.length C5 ∧ hs5.length = (endsL conP x).length ∧ AtI w W3 w5 A1 n1 c1 (atomsL (l.take k) ++ atomsT x 0) v5 hs5 from fun w5 v5 hs5 q1 q2 q3 => by
        obtain ⟨A5, C5, hv5, -⟩ := q1.slice
        obtain ⟨hs, e1, e2, e3, e4⟩ := hR.out
        have e5 : AtR w w5 A1 n1 c1 (atomsL (l.take k)) := (hR.out.b hB3).b q3
        refine ⟨A5, C5, hv5, q2.1, by unfold atomsT; rw [List.take_zero, List.filter_nil, List.append_nil]; exact e5, q1, fun q hq he => ?_⟩
        have h1 := (World.ownsRow.lt e1 q hq).2
        have h2 := (World.ownsRow.lt q1 q he).1
        have h3 := hB3.size
        omega)
      clear z0 z1 z2 z3 z4 hax hx S3 hs3 hR
      generalize opC x = op' at *
      generalize nmC x = nm' at *
      generalize soC x = so' at *
      have hk0 : 0 ≤ (k : Int) := by omega
      have hk1 : (k : Int) < (N : Int) := by omega
      go_wp2_with (go_at_call 49; ((with_reducible refine cE.mono ?_); rintro e w5 ⟨v5, hs5, rfl, ho5, hd5, hb5⟩; obtain ⟨A5, C5, hv5, hl5, hI5⟩ := HI.out w5 v5 hs5 ho5 hd5 hb5; subst hv5; have HI5 := Lib.hid hI5; have HD5 := Lib.hid hd5; have HL5 := Lib.hid hl5; clear hl5 hI5 hd5 ho5))
      clear HI
      have hB5 : Below w.heap.size w w5 := hbr3.trans (hb5.mono hbr3.size)
      have h5le : hs5.length ≤ 100000 := by rw [HL5.out]; exact hw2
      obtain ⟨n5, hn5⟩ : ∃ n5, hs5.length = n5 := ⟨_, rfl⟩
      rw [hn5] at h5le ⊢
      rw [hn5] at HI5
      have HN5 := Lib.hid hn5
      clear hn5
      go_loopw [3, 17] (fun v i wr0 => ∃ (wr : World) (j : Nat) (A1 : Option Addr) (n1 c1 : Nat), wr = wr0 ∧ j ≤ n5 ∧ .slice A1 n1 c1 = v ∧ i = .int .i64 j ∧ Hid (AtI w W3 wr A1 n1 c1 (atomsL (l.take k) ++ atomsT x j) (.slice A5 n5 C5) hs5)) (fun v i _ => n5 - (intOf i).toNat)
      case atStart => exact ⟨_, 0, _, _, _, rfl, by omega, rfl, rfl, HI5⟩
      case round =>
        clear HI5
        obtain ⟨wr, j, A1, n1, c1, rfl, hj, rfl, rfl, hR⟩ := hrel
        by_cases hltj : j < n5
        · obtain ⟨hs, q1, q2, q3, q4⟩ := hR.out.1
          obtain ⟨g5, hg5⟩ : ∃ g5, A5 = some ⟨g5, 0, none⟩ := by
            obtain ⟨A', C', e1, -, -, -, e2⟩ := C.OwnC.slice hR.out.2.1
            injection e1 with e1 e1' e1''
            obtain ⟨g, hg, -⟩ := e2 (by rw [HN5.out]; omega)
            exact ⟨g, by rw [e1, hg]⟩
          subst hg5
          have hj5 : j < hs5.length := by rw [HN5.out]; exact hltj
          obtain ⟨y, hy⟩ : ∃ y, (endsL conP x)[j]? = some y := ⟨_, List.getElem?_eq_getElem (by rw [← HL5.out]; exact hj5)⟩
          obtain ⟨h, hh⟩ : ∃ h, hs5[j] = h := ⟨_, rfl⟩
          obtain ⟨c0, c1', c2, c3, c4⟩ := C.OwnC.at hR.out.2.1 hj5
          rw [hh] at c0 c1' c2 c3 c4
          have hyy := HD5.out.2 j h y (by rw [List.getElem?_eq_getElem hj5, hh]) hy
          have HY := Lib.hid hyy
          have hT := atomsT_step hy
          have hnn : n1 ≤ 1000000 := by
            have h1 := HL.out k
            have h2 : (atomsT x j).length ≤ (endsL conP x).length := by
              unfold atomsT
              exact Nat.le_trans (List.length_filter_le _ _) (by rw [List.length_take]; omega)
            have h3 := q3.1
            rw [List.length_append] at h3
            omega
          have hsn : hs.length < 1000000 := by
            have h1 := HL.out k
            have h2 : (atomsT x j).length ≤ (endsL conP x).length := by
              unfold atomsT
              exact Nat.le_trans (List.length_filter_le _ _) (by rw [List.length_take]; omega)
            have h3 := q3.1
            rw [List.length_append] at h3
            omega
          obtain ⟨V1, hV1, hBV1, hsV1, SV1⟩ := cbox1 wr h.op h.nm h.so h.k h.a h.n h.c
          obtain ⟨d0, d1, d2, d3, d4⟩ := SV1.five
          have K1 := CBox.new V1 h.op h.nm h.so h.k h.a h.n h.c
          rw [hsV1] at K1
          have HK1 := Lib.hid K1
          have HR := Lib.hid hR.out
          have HO := Lib.hid q1
          have HQ := Lib.hid (show n1 = hs.length ∧ HdL w hs (atomsL (l.take k) ++ atomsT x j) ∧ Below w.heap.size w wr from ⟨q2, q3, q4⟩)
          have Hsn := Lib.hid hsn
          have hna : naC y = ((h.op != 1) && (h.op != 2)) := by rw [hyy.1.1]; rfl
          rw [hna] at hT
          have hwr0 := q4.size
          clear K1 hyy hna hy hh q1 q2 q3 q4 hsn SV1 hR
          obtain ⟨hop, hnm, hso, ⟨hka, hkn, hkc⟩, ha, hn, hc⟩ := h
          dsimp only at *
          have hj0 : 0 ≤ (j : Int) := by omega
          have hj1 : (j : Int) < (n5 : Int) := by omega
          by_cases e1 : hop = 1
          · subst e1
            have HT := Lib.hid (show atomsT x (j + 1) = atomsT x j from by rw [hT]; simp)
            clear hT
            go_wp2
            go_roundw
            case rel => exact ⟨_, j + 1, _, _, _, rfl, by omega, rfl, by go_num, Lib.hid (by rw [HT.out]; exact HR.out.b hBV1)⟩
            case measure => simp [intOf]; omega
          · by_cases e2 : hop = 2
            · subst e2
              have HT := Lib.hid (show atomsT x (j + 1) = atomsT x j from by rw [hT]; simp)
              clear hT e1
              go_wp2
              go_roundw
              case rel => exact ⟨_, j + 1, _, _, _, rfl, by omega, rfl, by go_num, Lib.hid (by rw [HT.out]; exact HR.out.b hBV1)⟩
              case measure => simp [intOf]; omega
            · have b1 : (hop != 1) = true := by simpa using e1
              have b2 : (hop != 2) = true := by simpa using e2
              have HT := Lib.hid (show atomsT x (j + 1) = atomsT x j ++ [y] from by rw [hT, b1, b2]; rfl)
              clear hT e1 e2
              go_wp2_with (at_builtin; ((refine app_claim2 rfl (.tmp 29) (.tmp 31) rfl w.heap.size (.slice A1 n1 c1) hs rfl (C.OwnC.below HO.out (bel_alloc hBV1 _)) (wr.heap.size + 1) ⟨hop, hnm, hso, ⟨hka, hkn, hkc⟩, ha, hn, hc⟩ rfl HK1.out Hsn.out (by have := hBV1.size; simp; omega) ?_); intro gg cap u1 ho1 hg1 hl1; have HN := Lib.hid (AtI.app HR.out HO.out HQ.out.1 HQ.out.2.1 HQ.out.2.2 (bel_alloc hBV1 _) HY.out ho1 hg1 hl1); rw [← HQ.out.1]; clear ho1 hg1 hl1))
              go_roundw
              case rel => exact ⟨_, j + 1, _, _, _, rfl, by omega, rfl, by go_num, Lib.hid (by rw [HT.out, ← List.append_assoc]; exact HN.out)⟩
              case measure => simp [intOf]; omega
        · obtain rfl : j = n5 := by omega
          have HF := Lib.hid (show AtR w wr A1 n1 c1 (atomsL (l.take (k + 1))) from by
            rw [Hst.out, ← HL5.out, HN5.out]
            exact hR.out.1)
          clear hR
          go_wp2
          go_roundw
          case rel => exact ⟨_, k + 1, _, _, _, rfl, by omega, rfl, by go_num, HF⟩
          case measure => simp [intOf]; omega
    · obtain rfl : k = N := by omega
      obtain ⟨hs, q1, q2, q3, q4⟩ := hR.out
      rw [HE.out k (Nat.le_refl _)] at q3
      obtain ⟨A7, n7, C7, hv7, hT7⟩ := C.HdL.csW q3 q1 q4
      injection hv7 with a1 a2 a3
      subst a1 a2 a3
      have hn1 : n1 ≤ 1000000 := by
        have h1 := HL.out k
        rw [HE.out k (Nat.le_refl _)] at h1
        have := q3.1
        omega
      have cF := firsts_anyC A1 n1 c1 (atomsL l) wr hT7 hn1
      clear hR q1 q2 q3 hT7 HE HL HW HSt HC
      go_wp2_with (first
        | (go_at_call 52; ((with_reducible refine cF.mono ?_); rintro e w7 ⟨A8, m8, C8, rfl, -, hT8, hb7⟩; have cM := HM.out w7 A8 m8 C8 hT8; clear hT8))
        | (go_at_call 51; ((with_reducible refine cM.mono ?_); rintro e w8 ⟨A9, n9, C9, rfl, hT9, hb8⟩; have H9 := Lib.hid hT9; clear hT9)))
      go_ret
      exact ⟨_, _, _, rfl, H9.out, bel_trans q4 (bel_trans hb7 hb8)⟩
end Go.Proofs.YtjjfbgadpgckeaaGreat.K
