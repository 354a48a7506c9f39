/-
  What is proved: the document's text of any right claim.
-/
import Derived.Test.YtcigeclnbhcohaaGreatDoorZShRc
import Derived.Test.YtcigeclnbhcohaaGreatDoorZShCe
namespace Go.Proofs.YtcigeclnbhcohaaGreatDoor.Sh
open Go.RowKit L T C
set_option linter.unusedVariables false
set_option linter.unusedSimpArgs false
set_option maxRecDepth 100000

theorem loC_le (o : Int) : loC o ≤ 4 := by unfold loC; split <;> (try split) <;> (try split) <;> (try split) <;> omega
/-- a claim's text at the sum's level stands without brackets, whatever its level says -/
theorem nd_four (t : Cl) (fol : Bool) : nd t 4 fol = nd t 5 fol := by
  obtain ⟨o, s, so, ts, l⟩ := t
  have := loC_le o
  rw [nd_mk, nd_mk, show decide ((5 : Int) < loC o) = false from decide_eq_false (by omega), show decide ((4 : Int) < loC o) = false from decide_eq_false (by omega)]
theorem cT_four (fr : List ByteArray) (t : Cl) (bs : List ByteArray) (fol : Bool) : cT fr t bs 4 fol = cT fr t bs 5 fol := by
  unfold cT cP; rw [nd_four]
set_option maxHeartbeats 4000000 in
theorem rclaim_core {fr : List ByteArray} (hfl : fr.length ≤ 800000) (t : Cl) (hk : okC t) (ih : ∀ x ∈ subC t, RClaimOk fr x) {bs : List ByteArray} (hb : shB bs) (hl : bs.length + wt t ≤ 10000)
    (m : Int) (last : Bool) (fa : Option Addr) (fn fc : Nat) (ba : Option Addr) (bm bd : Nat) (ks : SS) (a : Option Addr) (n c : Nat) (w : World) (hF : SlS w fa fn fc fr) (hB : SlS w ba bm bd bs) (hS : CsW w a n c (subC t)) (hK : KsW w ks (tsC t)) (m5 : m ≤ 5) (hnd : nd t (5 - m) (!last) = false) :
    Calls Tryz.prog 40 #[.agg #[.int .i64 (opC t), .string (nmC t), .string (soC t), .slice ks.a ks.n ks.c, .slice a n c], .slice fa fn fc, .slice ba bm bd, .int .i64 m, .bool last] w fun e w' => e = .returned (.string (cX fr t bs (!last))) ∧ Below w.heap.size w w' := by
  obtain ⟨o, s, so, ts, l⟩ := t
  have hk2 := hk
  rw [okC] at hk
  obtain ⟨har, hs, hso, hts, hcs⟩ := hk
  rw [wt] at hl
  rw [nd_mk, Bool.or_eq_false_iff] at hnd
  obtain ⟨hd, hbf⟩ := hnd
  have hd0 : ∀ k : Int, loC o = k → ∀ j : Int, 5 - k = j → decide (j < m) = false := fun k h j hj => decide_eq_false (by have := of_decide_eq_false hd; omega)
  have hS : CsW w a n c l := hS
  have hK : KsW w ks ts := hK
  have ih : ∀ x ∈ l, RClaimOk fr x := ih
  have hTk : ∀ x ∈ ts, RTermOk bs x ∧ okT x ∧ size x ≤ 10000 := fun x hx => by
    have h1 := okTs_mem hts hx
    have h2 := sizes_le hx
    exact ⟨rterm_any hb x h1 (by omega), h1, by omega⟩
  have hX : ∀ x ∈ ts, (tX bs x).size ≤ 1000000000 := fun x hx => by
    have h1 := tX_size hb x (hTk x hx).2.1
    have h2 := (hTk x hx).2.2
    omega
  have hfbl : (fr ++ bs).length ≤ 900000 := by rw [List.length_append]; omega
  have hwm : ∀ x ∈ l, wt x ≤ wts l := fun x hx => wts_mem hx
  show Calls _ _ #[.agg #[.int .i64 o, .string s, .string so, .slice ks.a ks.n ks.c, .slice a n c], .slice fa fn fc, .slice ba bm bd, .int .i64 m, .bool last] w _
  rcases har with ⟨ho, hnt, hns⟩ | ⟨rfl, hns⟩ | ⟨ho, hnt, hns⟩ | ⟨ho, hnt, hns⟩ | ⟨ho, hnt, hns⟩
  · rcases ho with rfl | rfl
    · rw [cX_true]; exact rclaim_true s so m last fa fn fc ba bm bd ks a n c w hF hB
    · rw [cX_false]; exact rclaim_false s so m last fa fn fc ba bm bd ks a n c w hF hB
  · rw [cX_pred]
    exact rclaim_pred ts s so m last fa fn fc ba bm bd ks a n c w hF hB (rterm_any hb (.mk 3 s 0 ts) (by rw [okT]; exact ⟨.inr (.inr (.inl rfl)), hs, ⟨by omega, by omega⟩, hts⟩) (by rw [size]; omega)) hK
  · match ts, hnt with
    | [x, y], _ =>
      have hx := hTk x (by simp)
      have hy := hTk y (by simp)
      rcases ho with rfl | rfl
      · rw [cX_eq]; exact rclaim_eq x y hx.1 hy.1 (hX x (by simp)) (hX y (by simp)) s so m last fa fn fc ba bm bd ks a n c w hF hB hK
      · rw [cX_le]; exact rclaim_le x y hx.1 hy.1 (hX x (by simp)) (hX y (by simp)) s so m last fa fn fc ba bm bd ks a n c w hF hB hK
  · match l, hns with
    | [x], _ =>
      rw [okCs] at hcs
      rw [wts_one] at hl
      have hx := ih x (by simp)
      rcases ho with rfl | rfl | rfl
      · rw [cX_not]
        exact rclaim_not hb x hx (by omega) s so m last fa fn fc ba bm bd ks a n c w hF hB hS (cT_size (by omega) hcs.1 hb (by omega) _ _)
      · have hfo : last = true := by simpa using hbf
        subst hfo
        rw [show (!true) = false from rfl, cX_bind fr 11 (Or.inl rfl), ← cT_four]
        have hN : (bname (fr ++ bs) s).size ≤ 32 := bname_size (by omega) s
        exact rclaim_bind11 hb hfbl x hx (by omega) s so m fa fn fc ba bm bd ks a n c w hF hB hs hso hS (cT_size (by omega) hcs.1 (shB_snoc (K := 0) hb (by omega) (by omega)) (by rw [List.length_append, List.length_singleton]; omega) _ _)
      · have hfo : last = true := by simpa using hbf
        subst hfo
        rw [show (!true) = false from rfl, cX_bind fr 12 (Or.inr rfl), ← cT_four]
        have hN : (bname (fr ++ bs) s).size ≤ 32 := bname_size (by omega) s
        exact rclaim_bind12 hb hfbl x hx (by omega) s so m fa fn fc ba bm bd ks a n c w hF hB hs hso hS (cT_size (by omega) hcs.1 (shB_snoc (K := 0) hb (by omega) (by omega)) (by rw [List.length_append, List.length_singleton]; omega) _ _)
  · match l, hns with
    | [x, y], _ =>
      rw [okCs, okCs] at hcs
      have hw2 : wts [x, y] = wt x + wt y := by rw [wts, wts, wts]; omega
      rw [hw2] at hl
      have hx := ih x (by simp)
      have hy := ih y (by simp)
      rw [cX_two fr o ho]
      have ho4 : o = 7 ∨ o = 8 ∨ o = 9 ∨ o = 10 := by omega
      rcases ho4 with rfl | rfl | rfl | rfl
      · exact rclaim_two7 hb x y hx hy (by omega) (by omega) s so m last fa fn fc ba bm bd ks a n c w hF hB hS (cT_size (by omega) hcs.1 hb (by omega) _ _) (cT_size (by omega) hcs.2.1 hb (by omega) _ _) (hd0 1 rfl _ rfl)
      · exact rclaim_two8 hb x y hx hy (by omega) (by omega) s so m last fa fn fc ba bm bd ks a n c w hF hB hS (cT_size (by omega) hcs.1 hb (by omega) _ _) (cT_size (by omega) hcs.2.1 hb (by omega) _ _) (hd0 2 rfl _ rfl)
      · exact rclaim_two9 hb x y hx hy (by omega) (by omega) s so m last fa fn fc ba bm bd ks a n c w hF hB hS (cT_size (by omega) hcs.1 hb (by omega) _ _) (cT_size (by omega) hcs.2.1 hb (by omega) _ _) (hd0 3 rfl _ rfl)
      · exact rclaim_two10 hb x y hx hy (by omega) (by omega) s so m last fa fn fc ba bm bd ks a n c w hF hB hS (cT_size (by omega) hcs.1 hb (by omega) _ _) (cT_size (by omega) hcs.2.1 hb (by omega) _ _) (hd0 4 rfl _ rfl)
theorem rclaim_any {fr : List ByteArray} (hfl : fr.length ≤ 800000) : ∀ t : Cl, okC t → RClaimOk fr t := by
  intro t
  refine Cl.ind (P := fun t => okC t → RClaimOk fr t) ?_ t
  intro t ih hk bs m last fa fn fc ba bm bd ks a n c w hF hB hb hl hA m0 m5
  have ih' : ∀ x ∈ subC t, RClaimOk fr x := fun x hx => ih x hx (okCs_mem (okC_mk hk).2.2.2.2 hx)
  have hS := ArWC.subs hA
  have hK := ArWC.terms hA
  cases hnd : nd t (5 - m) (!last) with
  | false =>
    rw [cT_no hnd]
    exact rclaim_core hfl t hk ih' hb hl m last fa fn fc ba bm bd ks a n c w hF hB hS hK m5 hnd
  | true =>
    rw [cT_yes hnd]
    have hsz := cX_size2 (fr := fr) (by omega) hk hb (by omega) false
    have hcore := fun (w' : World) (h1 : SlS w' fa fn fc fr) (h2 : SlS w' ba bm bd bs) (h3 : CsW w' a n c (subC t)) (h4 : KsW w' ks (tsC t)) =>
      rclaim_core hfl t hk ih' hb hl 1 true fa fn fc ba bm bd ks a n c w' h1 h2 h3 h4 (by omega) (by
        obtain ⟨o, s, so, ts, l⟩ := t
        rw [nd_mk, show decide ((5 : Int) - 1 < loC o) = false from decide_eq_false (by have := loC_le o; omega)]; simp)
    rw [show (!true) = false from rfl] at hcore
    generalize cX fr t bs false = R at *
    obtain ⟨o, s, so, ts, l⟩ := t
    rw [okC] at hk
    obtain ⟨har, -⟩ := hk
    rw [nd_mk, Bool.or_eq_true] at hnd
    have hcases : ((5 - m < loC o) ∧ (o = 7 ∨ o = 8 ∨ o = 9 ∨ o = 10)) ∨ (last = false ∧ (o = 11 ∨ o = 12)) := by
      rcases hnd with h | h
      · have h2 : 5 - m < loC o := of_decide_eq_true h
        refine .inl ⟨h2, ?_⟩
        unfold loC at h2
        split at h2
        · omega
        · split at h2
          · omega
          · split at h2
            · omega
            · split at h2 <;> omega
      · rw [Bool.and_eq_true, Bool.or_eq_true, beq_iff_eq, beq_iff_eq] at h
        exact .inr ⟨by simpa using h.2, h.1⟩
    rcases hcases with ⟨hd, rfl | rfl | rfl | rfl⟩ | ⟨rfl, rfl | rfl⟩
    · exact rclaim_wrap7 (fr := fr) (bs := bs) l ts R hsz s so m last fa fn fc ba bm bd ks a n c w hF hB hcore (decide_eq_true (by have : loC 7 = 1 := rfl; omega)) hS hK
    · exact rclaim_wrap8 (fr := fr) (bs := bs) l ts R hsz s so m last fa fn fc ba bm bd ks a n c w hF hB hcore (decide_eq_true (by have : loC 8 = 2 := rfl; omega)) hS hK
    · exact rclaim_wrap9 (fr := fr) (bs := bs) l ts R hsz s so m last fa fn fc ba bm bd ks a n c w hF hB hcore (decide_eq_true (by have : loC 9 = 3 := rfl; omega)) hS hK
    · exact rclaim_wrap10 (fr := fr) (bs := bs) l ts R hsz s so m last fa fn fc ba bm bd ks a n c w hF hB hcore (decide_eq_true (by have : loC 10 = 4 := rfl; omega)) hS hK
    · exact rclaim_wrap11 (fr := fr) (bs := bs) l ts R hsz s so m fa fn fc ba bm bd ks a n c w hF hB hcore hS hK
    · exact rclaim_wrap12 (fr := fr) (bs := bs) l ts R hsz s so m fa fn fc ba bm bd ks a n c w hF hB hcore hS hK
end Go.Proofs.YtcigeclnbhcohaaGreatDoor.Sh
