/-
  What is proved: the text of any right claim, by a scope.
-/
import Derived.Test.YtcigeclnbhcohaaGreatDoorCA
import Derived.Test.YtcigeclnbhcohaaGreatDoorZShCd
namespace Go.Proofs.YtcigeclnbhcohaaGreatDoor.Sh
open Go.RowKit L T C
set_option linter.unusedVariables false
set_option linter.unusedSimpArgs false
set_option maxRecDepth 100000

theorem cT_size {fr : List ByteArray} (hf : fr.length ≤ 900000) {t : Cl} (hk : okC t) {bs : List ByteArray} (hb : shB bs) (hl : bs.length + wt t ≤ 100000) (m : Int) (fol : Bool) : (cT fr t bs m fol).size ≤ 1000000000 := by
  have := cP_size t (cX fr t) bs m fol (400 * wt t) fun f => by
    have := cX_size (fr := fr) (by omega) (wt t) t (Nat.le_refl _) hk bs hb (by omega) f
    omega
  unfold cT; omega
theorem cX_size2 {fr : List ByteArray} (hf : fr.length ≤ 900000) {t : Cl} (hk : okC t) {bs : List ByteArray} (hb : shB bs) (hl : bs.length + wt t ≤ 100000) (fol : Bool) : (cX fr t bs fol).size ≤ 1000000000 := by
  have := cX_size (fr := fr) (by omega) (wt t) t (Nat.le_refl _) hk bs hb (by omega) fol
  omega
theorem wts_one (x : Cl) : wts [x] = wt x := by rw [wts, wts]; omega
theorem cT_no {fr : List ByteArray} {t : Cl} {bs : List ByteArray} {m : Int} {fol : Bool} (h : nd t m fol = false) : cT fr t bs m fol = cX fr t bs fol := by
  unfold cT cP; rw [h]; rfl
theorem cT_yes {fr : List ByteArray} {t : Cl} {bs : List ByteArray} {m : Int} {fol : Bool} (h : nd t m fol = true) : cT fr t bs m fol = par true (cX fr t bs false) := by
  unfold cT cP; rw [h]; rfl
theorem nd_mk (o : Int) (s so : ByteArray) (ts : List Tm) (l : List Cl) (m : Int) (fol : Bool) : nd (.mk o s so ts l) m fol = (decide (m < loC o) || (((o == 11) || (o == 12)) && fol)) := rfl
set_option maxHeartbeats 4000000 in
theorem claim_core {W : World} (E : Env W) {fr : List ByteArray} (hf : ∀ x ∈ fr, x.size ≤ 1000) (hfl : fr.length ≤ 900000) (t : Cl) (hk : okC t) (ih : ∀ x ∈ subC t, ClaimOk W fr x) {bs : List ByteArray} (hb : shB bs) (hl : bs.length + wt t ≤ 10000)
    (z : Sv) (m : Int) (fol : Bool) (ks : SS) (a : Option Addr) (n c : Nat) (w : World) (hw : Below W.heap.size W w) (hz : z.ok w fr bs) (hS : CsW w a n c (subC t)) (hK : KsW w ks (tsC t)) (m0 : 0 ≤ m) (hnd : nd t m fol = false) :
    Calls Tryz.prog 39 #[z.val, .agg #[.int .i64 (opC t), .string (nmC t), .string (soC t), .slice ks.a ks.n ks.c, .slice a n c], .int .i64 m, .bool fol] w fun e w' => e = .returned (.string (cX fr t bs fol)) ∧ Below w.heap.size w w' := by
  obtain ⟨o, s, so, ts, l⟩ := t
  have hk2 := hk
  rw [okC] at hk
  obtain ⟨har, hs, hso, hts, hcs⟩ := hk
  rw [wt] at hl
  rw [nd_mk, Bool.or_eq_false_iff] at hnd
  obtain ⟨hd, hbf⟩ := hnd
  have hd0 : ∀ k : Int, loC o = k → decide (k > m) = false := fun k h => by rw [← h]; exact hd
  have hS : CsW w a n c l := hS
  have hK : KsW w ks ts := hK
  have ih : ∀ x ∈ l, ClaimOk W fr x := ih
  have hTk : ∀ x ∈ ts, TermOk W bs x ∧ okT x ∧ size x ≤ 10000 := fun x hx => by
    have h1 := okTs_mem hts hx
    have h2 := sizes_le hx
    exact ⟨term_any E hb x h1 (by omega), h1, by omega⟩
  have hX : ∀ x ∈ ts, (tX bs x).size ≤ 1000000000 := fun x hx => by
    have h1 := tX_size hb x (hTk x hx).2.1
    have h2 := (hTk x hx).2.2
    omega
  have hfb : ∀ x ∈ fr ++ bs, x.size ≤ maxLen := fun x hx => by
    unfold maxLen
    rcases List.mem_append.1 hx with h | h
    · have := hf x h; omega
    · have := hb.2 x h; omega
  have hfbl : (fr ++ bs).length ≤ 1000000 := by rw [List.length_append]; omega
  have hwm : ∀ x ∈ l, wt x ≤ wts l := fun x hx => wts_mem hx
  show Calls _ _ #[z.val, .agg #[.int .i64 o, .string s, .string so, .slice ks.a ks.n ks.c, .slice a n c], .int .i64 m, .bool fol] w _
  rcases har with ⟨ho, hnt, hns⟩ | ⟨rfl, hns⟩ | ⟨ho, hnt, hns⟩ | ⟨ho, hnt, hns⟩ | ⟨ho, hnt, hns⟩
  · rcases ho with rfl | rfl
    · rw [cX_true]; exact claim_true E s so z m fol ks a n c w hw hz (hd0 0 rfl)
    · rw [cX_false]; exact claim_false E s so z m fol ks a n c w hw hz (hd0 0 rfl)
  · rw [cX_pred]
    have h1 := tXs_size hb ts hts
    have hlt : ∀ l : List Tm, l.length ≤ sizes l := fun l => by
      induction l with
      | nil => exact Nat.le_refl _
      | cons t l ih => rw [List.length_cons, sizes]; have := size_pos t; omega
    have h2 := hlt ts
    have hkn : ks.n = ts.length := hK.1
    exact claim_pred E ts (fun x hx => (hTk x hx).1) (by omega) s so z m fol ks a n c w hw hz hs hK (by omega) (hd0 0 rfl)
  · match ts, hnt with
    | [x, y], _ =>
      have hx := hTk x (by simp)
      have hy := hTk y (by simp)
      rcases ho with rfl | rfl
      · rw [cX_eq]; exact claim_eq E x y hx.1 hy.1 (hX x (by simp)) (hX y (by simp)) s so z m fol ks a n c w hw hz hK (hd0 0 rfl)
      · rw [cX_le]; exact claim_le E x y hx.1 hy.1 (hX x (by simp)) (hX y (by simp)) s so z m fol ks a n c w hw hz hK (hd0 0 rfl)
  · match l, hns with
    | [x], _ =>
      rw [okCs] at hcs
      rw [wts_one] at hl
      have hx := ih x (by simp)
      rcases ho with rfl | rfl | rfl
      · rw [cX_not]
        exact claim_not E hb x hx (by omega) s so z m fol ks a n c w hw hz hS (cT_size hfl hcs.1 hb (by omega) _ _) (hd0 0 rfl)
      · have hfo : fol = false := by simpa using hbf
        subst hfo
        rw [cX_bind fr 11 (Or.inl rfl)]
        have hN : (bname (fr ++ bs) s).size ≤ 32 := bname_size (by omega) s
        exact claim_bind11 E hb hfb hfbl x hx (by omega) s so z m ks a n c w hw hz hs hso hS (cT_size hfl hcs.1 (shB_snoc (K := 0) hb (by omega) (by omega)) (by rw [List.length_append, List.length_singleton]; omega) _ _) (hd0 0 rfl)
      · have hfo : fol = false := by simpa using hbf
        subst hfo
        rw [cX_bind fr 12 (Or.inr rfl)]
        have hN : (bname (fr ++ bs) s).size ≤ 32 := bname_size (by omega) s
        exact claim_bind12 E hb hfb hfbl x hx (by omega) s so z m ks a n c w hw hz hs hso hS (cT_size hfl hcs.1 (shB_snoc (K := 0) hb (by omega) (by omega)) (by rw [List.length_append, List.length_singleton]; omega) _ _) (hd0 0 rfl)
  · match l, hns with
    | [x, y], _ =>
      rw [okCs, okCs] at hcs
      have hw2 : wts [x, y] = wt x + wt y := by rw [wts, wts, wts]; omega
      rw [hw2] at hl
      have hx := ih x (by simp)
      have hy := ih y (by simp)
      rw [cX_two fr o ho]
      have ho4 : o = 7 ∨ o = 8 ∨ o = 9 ∨ o = 10 := by omega
      rcases ho4 with rfl | rfl | rfl | rfl
      · exact claim_two7 E hb x y hx hy (by omega) (by omega) s so z m fol ks a n c w hw hz hS (cT_size hfl hcs.1 hb (by omega) _ _) (cT_size hfl hcs.2.1 hb (by omega) _ _) (hd0 1 rfl)
      · exact claim_two8 E hb x y hx hy (by omega) (by omega) s so z m fol ks a n c w hw hz hS (cT_size hfl hcs.1 hb (by omega) _ _) (cT_size hfl hcs.2.1 hb (by omega) _ _) (hd0 2 rfl)
      · exact claim_two9 E hb x y hx hy (by omega) (by omega) s so z m fol ks a n c w hw hz hS (cT_size hfl hcs.1 hb (by omega) _ _) (cT_size hfl hcs.2.1 hb (by omega) _ _) (hd0 3 rfl)
      · exact claim_two10 E hb x y hx hy (by omega) (by omega) s so z m fol ks a n c w hw hz hS (cT_size hfl hcs.1 hb (by omega) _ _) (cT_size hfl hcs.2.1 hb (by omega) _ _) (hd0 4 rfl)
theorem claim_any {W : World} (E : Env W) {fr : List ByteArray} (hf : ∀ x ∈ fr, x.size ≤ 1000) (hfl : fr.length ≤ 900000) : ∀ t : Cl, okC t → ClaimOk W fr t := by
  intro t
  refine Cl.ind (P := fun t => okC t → ClaimOk W fr t) ?_ t
  intro t ih hk z bs m fol ks a n c w hw hz hb hl hA m0 m5
  have ih' : ∀ x ∈ subC t, ClaimOk W fr x := fun x hx => ih x hx (okCs_mem (okC_mk hk).2.2.2.2 hx)
  have hS := ArWC.subs hA
  have hK := ArWC.terms hA
  cases hnd : nd t m fol with
  | false =>
    rw [cT_no hnd]
    exact claim_core E hf hfl t hk ih' hb hl z m fol ks a n c w hw hz hS hK m0 hnd
  | true =>
    rw [cT_yes hnd]
    have hsz := cX_size2 hfl hk hb (by omega) false
    have hlo : ∀ o : Int, loC o ≤ 4 := fun o => by unfold loC; split <;> (try split) <;> (try split) <;> (try split) <;> omega
    have hcore := fun (w' : World) (h1 : Below W.heap.size W w') (h2 : z.ok w' fr bs) (h3 : CsW w' a n c (subC t)) (h4 : KsW w' ks (tsC t)) =>
      claim_core E hf hfl t hk ih' hb hl z 5 false ks a n c w' h1 h2 h3 h4 (by omega) (by
        obtain ⟨o, s, so, ts, l⟩ := t
        rw [nd_mk, show decide ((5 : Int) < loC o) = false from decide_eq_false (by have := hlo o; omega)]; simp)
    generalize cX fr t bs false = R at *
    obtain ⟨o, s, so, ts, l⟩ := t
    rw [okC] at hk
    obtain ⟨har, -⟩ := hk
    rw [nd_mk, Bool.or_eq_true] at hnd
    have hcases : (decide (loC o > m) = true ∧ (o = 7 ∨ o = 8 ∨ o = 9 ∨ o = 10)) ∨ (fol = true ∧ (o = 11 ∨ o = 12)) := by
      rcases hnd with h | h
      · refine .inl ⟨h, ?_⟩
        have h2 : m < loC o := of_decide_eq_true h
        unfold loC at h2
        split at h2
        · omega
        · split at h2
          · omega
          · split at h2
            · omega
            · split at h2 <;> omega
      · rw [Bool.and_eq_true, Bool.or_eq_true, beq_iff_eq, beq_iff_eq] at h
        exact .inr ⟨h.2, h.1⟩
    have hm0 : decide ((0 : Int) > m) = false := decide_eq_false (by omega)
    rcases hcases with ⟨hd, rfl | rfl | rfl | rfl⟩ | ⟨rfl, rfl | rfl⟩
    · exact claim_wrap7 E (bs := bs) l ts R hsz s so z m fol ks a n c w hw hz hcore hd hS hK
    · exact claim_wrap8 E (bs := bs) l ts R hsz s so z m fol ks a n c w hw hz hcore hd hS hK
    · exact claim_wrap9 E (bs := bs) l ts R hsz s so z m fol ks a n c w hw hz hcore hd hS hK
    · exact claim_wrap10 E (bs := bs) l ts R hsz s so z m fol ks a n c w hw hz hcore hd hS hK
    · exact claim_wrap11 E (bs := bs) l ts R hsz s so z m ks a n c w hw hz hcore hm0 hS hK
    · exact claim_wrap12 E (bs := bs) l ts R hsz s so z m ks a n c w hw hz hcore hm0 hS hK
end Go.Proofs.YtcigeclnbhcohaaGreatDoor.Sh
