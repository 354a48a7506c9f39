/-
  What is proved: what the document's Claim does to a claim, with any work on its terms.
-/
import Derived.Test.YtceijoggoniaoaaBndT1
import Derived.Test.YtceijoggoniaoaaClmRp
import Derived.Deep.RegionHeld3
namespace Go.Proofs.Ytceijoggoniaoaa.B
open Go.RowKit L T C Go.Deep
set_option linter.unusedVariables false
set_option linter.unusedSimpArgs false

theorem newB_le {B lo lo' hi b : Nat} (h : lo' ≤ lo) (hb : NewB B lo hi b) : NewB B lo' hi b := ⟨hb.1, hb.2.imp id (fun h2 => by omega)⟩
def MixWC (t : Cl) (w : World) (e : Ending) (w' : World) : Prop := ∃ (K : SS) (A : Option Addr) (N C : Nat), e = .returned (.agg #[.int .i64 (opC t), .string (nmC t), .string (soC t), .slice K.a K.n K.c, .slice A N C]) ∧ ArCP (NewB 0 w.heap.size w'.heap.size) w' t K A N C ∧ Below w.heap.size w w'
theorem rowQC_far {B lo : Nat} {w w' : World} {v : Value} {lr : List Cl} {k : Nat} (h : RowQC B lo w v lr k) (hs' : w'.heap.size = w.heap.size) (hb : ∀ b, b < B ∨ lo ≤ b → w'.heap[b]? = w.heap[b]?) : RowQC B lo w' v lr k := by
  obtain ⟨hs, h1, h2, h3⟩ := h
  refine ⟨hs, h1, ?_, fun j h t e1 e2 => ?_⟩
  · refine ⟨h2.1, ?_⟩
    rcases h2.2 with hn | ⟨g, cap, cur, rfl, g1, hg, rest⟩
    · exact .inl hn
    · exact .inr ⟨g, cap, cur, rfl, g1, by rw [hb g (.inr g1)]; exact hg, rest⟩
  · obtain ⟨q1, q2, q3, q4⟩ := h3 j h t e1 e2
    exact ⟨q1, q2, q3, ArCP.to (fun b hq => hb b hq.1.2) (fun b hq => ⟨⟨by rw [hs']; exact hq.1.1, hq.1.2⟩, hq.2⟩) t q4⟩
theorem cbox_set3 {w : World} {g : Nat} {o : Int} {s z : ByteArray} {k : SS} {a : Option Addr} {n c : Nat} (h : CBox w g o s z k a n c) (a' : Option Addr) (n' c' : Nat) : CBox (w.setCell ⟨g, 3, none⟩ (.slice a' n' c')) g o s z ⟨a', n', c'⟩ a n c := by
  have := Blk.set h 3 (.slice a' n' c'); simpa [CBox] using this
theorem cbox_set4 {w : World} {g : Nat} {o : Int} {s z : ByteArray} {k : SS} {a : Option Addr} {n c : Nat} (h : CBox w g o s z k a n c) (a' : Option Addr) (n' c' : Nat) : CBox (w.setCell ⟨g, 4, none⟩ (.slice a' n' c')) g o s z k a' n' c' := by
  have := Blk.set h 4 (.slice a' n' c'); simpa [CBox] using this
theorem claimBoxes (w : World) (cs : Array Value) (o : Int) (s z : ByteArray) (k : SS) (a : Option Addr) (n c : Nat) :
    ∃ W, (((w.alloc (.cells cs 69)).alloc (.cells #[.int .i64 o, .string s, .string z, .slice k.a k.n k.c, .slice a n c] 25)).alloc (.cells #[.int .i64 0, .string ⟨#[]⟩, .string ⟨#[]⟩, .slice none 0 0, .slice none 0 0] 25)).alloc (.cells #[.int .i64 o, .string s, .string z, .slice none 0 0, .slice none 0 0] 25) = W ∧ Below w.heap.size w W ∧ W.heap.size = w.heap.size + 4 ∧ Blk W w.heap.size cs 69 ∧ CBox W (w.heap.size + 1) o s z k a n c ∧ CBox W (w.heap.size + 1 + 1) 0 ⟨#[]⟩ ⟨#[]⟩ SS.nil none 0 0 ∧ CBox W (w.heap.size + 1 + 1 + 1) o s z SS.nil none 0 0 := by
  have b1 := Blk.new w cs 69
  have b2 := CBox.new (w.alloc (.cells cs 69)) o s z k a n c
  have b3 := CBox.new ((w.alloc (.cells cs 69)).alloc (.cells #[.int .i64 o, .string s, .string z, .slice k.a k.n k.c, .slice a n c] 25)) 0 ⟨#[]⟩ ⟨#[]⟩ SS.nil none 0 0
  have b4 := CBox.new (((w.alloc (.cells cs 69)).alloc (.cells #[.int .i64 o, .string s, .string z, .slice k.a k.n k.c, .slice a n c] 25)).alloc (.cells #[.int .i64 0, .string ⟨#[]⟩, .string ⟨#[]⟩, .slice none 0 0, .slice none 0 0] 25)) o s z SS.nil none 0 0
  simp only [World.size_alloc] at b2 b3 b4
  exact ⟨_, rfl, bel_alloc (bel_alloc (bel_alloc (bel_alloc (Below.refl _ _) _) _) _) _, by simp, Blk.alloc (Blk.alloc (Blk.alloc b1 _) _) _, Blk.alloc (Blk.alloc b2 _) _, Blk.alloc b3 _, b4⟩
theorem sizes_memT {x : Tm} : ∀ {l : List Tm}, x ∈ l → size x ≤ sizes l
  | [], h => by cases h
  | d :: l, h => by
    rw [sizes]
    rcases List.mem_cons.1 h with rfl | h
    · omega
    · have := sizes_memT h; omega
/-- the document's Term, with one work -/
def TWOk (kd by_ fr tO : Int) (tS : ByteArray) (tZ : Int) (tA : Option Addr) (tN tC : Nat) (wn : ByteArray) (f : Fn) (H : World → Prop) : Prop := ∀ (t : Tm) (a : Option Addr) (m c : Nat) (k : Int) (w : World), size t ≤ 1000000 → ArW w t a m c → H w →
  Calls Try.prog 49 #[.agg #[.int .i64 kd, .int .i64 by_, .int .i64 fr, .int .i64 tO, .string tS, .int .i64 tZ, .slice tA tN tC, .string wn], .agg #[.int .i64 (opT t), .string (nameT t), .int .i64 (numT t), .slice a m c], .int .i64 k] w fun e w' => MixW (wk f k t) w e w'
def CWOk (kd by_ fr tO : Int) (tS : ByteArray) (tZ : Int) (tA : Option Addr) (tN tC : Nat) (wn : ByteArray) (f : Fn) (H : World → Prop) (t : Cl) : Prop := ∀ (kk : SS) (a : Option Addr) (m c : Nat) (k : Int) (w : World), wt t ≤ 1000000 → ArWC w t kk a m c → H w → 0 ≤ k → k + wt t ≤ 2000000 →
  Calls Try.prog 48 #[.agg #[.int .i64 kd, .int .i64 by_, .int .i64 fr, .int .i64 tO, .string tS, .int .i64 tZ, .slice tA tN tC, .string wn], .agg #[.int .i64 (opC t), .string (nmC t), .string (soC t), .slice kk.a kk.n kk.c, .slice a m c], .int .i64 k] w fun e w' => MixWC (wkC f k t) w e w'
set_option maxRecDepth 100000 in
set_option maxHeartbeats 32000000 in
theorem claimW_step (kd by_ fr tO : Int) (tS : ByteArray) (tZ : Int) (tA : Option Addr) (tN tC : Nat) (wn : ByteArray) (f : Fn) (H : World → Prop) (hH : ∀ w w', Below w.heap.size w w' → H w → H w') (hT : TWOk kd by_ fr tO tS tZ tA tN tC wn f H) (t : Cl) (hok : ∀ x ∈ subC t, CWOk kd by_ fr tO tS tZ tA tN tC wn f H x) : CWOk kd by_ fr tO tS tZ tA tN tC wn f H t := by
  intro kk a m c k w hsz hA hw0 hk0 hkK
  obtain ⟨ka, kn, kc⟩ := kk
  dsimp only
  have hTm : TsW w ka kn kc (tsC t) := ArWC.terms hA
  have hCs : CsW w a m c (subC t) := ArWC.subs hA
  have hkn : kn = (tsC t).length := hTm.1
  have hm : m = (subC t).length := hCs.1
  have e1 := wt_mk t
  have e2 := wts_len (subC t)
  have hml : m ≤ 1000000 := by omega
  have hmc : m ≤ c := hCs.2.1
  have hkc : kn ≤ kc := hTm.2.1
  have hkl : kn ≤ 1000000 := by
    have e2 : ∀ l : List Tm, l.length ≤ sizes l := fun l => by
      induction l with
      | nil => exact Nat.le_refl _
      | cons t l ih => rw [List.length_cons, sizes]; have := size_pos t; omega
    have := e2 (tsC t)
    omega
  obtain ⟨ka1, ka2⟩ := kin_le (opC t) k
  have hszT : ∀ i x, (tsC t)[i]? = some x → size x ≤ 1000000 := fun i x h => by have := sizes_memT (List.mem_of_getElem? h); omega
  have HFin := Lib.hid (show ∀ (WL w3 w5 : World) (Av : Option Addr) (cv : Nat) (A : Option Addr) (C : Nat), RowP 0 (w.heap.size + 4) WL (.slice Av kn cv) ((tsC t).map (wk f k)) kn → RowQC 0 WL.heap.size w3 (.slice A m C) ((subC t).map (wkC f (kin (opC t) k))) m → (∀ b, w.heap.size + 4 ≤ b → b < WL.heap.size → w3.heap[b]? = WL.heap[b]?) → w.heap.size + 4 ≤ WL.heap.size → WL.heap.size ≤ w3.heap.size → w5.heap.size = w3.heap.size → (∀ b, w.heap.size + 4 ≤ b → w5.heap[b]? = w3.heap[b]?) → Below w.heap.size w w5 → MixWC (wkC f k t) w (.returned (.agg #[.int .i64 (opC t), .string (nmC t), .string (soC t), .slice Av kn cv, .slice A m C])) w5 from fun WL w3 w5 Av cv A C g1 g2 g3 g4 g5 g6 g7 g8 => by
    have gT := RowP.arP (o := 0) (s := ⟨#[]⟩) (z := 0) (lo' := w.heap.size + 4) (w' := WL) g1 (by rw [List.length_map]; exact hkn.symm) (Nat.le_refl _) rfl (fun _ _ => rfl)
    have gT5 : IsTP (NewB 0 w.heap.size w5.heap.size) w5 ⟨Av, kn, cv⟩ (wks f k (tsC t)) := by
      rw [wks_map]
      exact ArP.to (fun b hq => by
        have h1 := hq.1
        have h2 : w.heap.size + 4 ≤ b := by rcases hq.2 with h | h <;> omega
        exact (g7 b h2).trans (g3 b h2 h1)) (fun b hq => ⟨by have := hq.1; omega, .inr (by rcases hq.2 with h | h <;> omega)⟩) _ gT
    rw [wkC_mk]
    refine ⟨⟨Av, kn, cv⟩, A, m, C, rfl, ?_, g8⟩
    rw [wkCs_map]
    exact RowQC.arP (o := opC t) (s := nmC t) (z := soC t) (ts := wks f k (tsC t)) (K := ⟨Av, kn, cv⟩) (lo' := w.heap.size) (w' := w5) gT5 g2 (by rw [List.length_map]; exact hm.symm) (by omega) g6 (fun b hb => g7 b (by rcases hb with h | h <;> omega)))
  have HKt := Lib.hid (show ∀ i x, (tsC t)[i]? = some x → size x ≤ 1000000 from hszT)
  have HKc := Lib.hid (show ∀ i x, (subC t)[i]? = some x → CWOk kd by_ fr tO tS tZ tA tN tC wn f H x ∧ wt x ≤ 1000000 ∧ 0 ≤ kin (opC t) k ∧ kin (opC t) k + wt x ≤ 2000000 from fun i x h => ⟨hok x (List.mem_of_getElem? h), by have := wts_mem (List.mem_of_getElem? h); omega, by omega, by have := wts_mem (List.mem_of_getElem? h); omega⟩)
  have HHT := Lib.hid hT
  have HH0 := Lib.hid (fun (w' : World) (hb : Below w.heap.size w w') => hH w w' hb hw0)
  have cW := fun (w' : World) => within_any (opC t) (nmC t) (soC t) ⟨ka, kn, kc⟩ a m c k hk0 (by omega) w'
  dsimp only at cW
  have HT0 := Lib.hid hTm
  have HC0 := Lib.hid hCs
  obtain ⟨i0, hi0, hz0, hz1, hz2⟩ := info_parts termI
  obtain ⟨j0, hj0, hy0, hy1, hy2⟩ := info_parts claimI
  unfold CWOk at HKc
  unfold TWOk at HHT
  clear hA hok hm hkn hsz e1 e2 hTm hCs hT hH hw0 hszT ka1 ka2 hkK hk0
  generalize hrr : wkC f k t = rr at *
  clear hrr
  generalize kin (opC t) k = k2 at *
  generalize tsC t = lt at *
  generalize subC t = la at *
  generalize opC t = op at *
  generalize nmC t = nm at *
  generalize soC t = nu at *
  generalize MixWC rr w = Post at *
  go_enter Try.func48, Try.ntmps48
  go_wp2_with fail
  go_loopw [8] (fun i wr0 => ∃ (wr : World) (j : Nat) (Av : Option Addr) (cv : Nat), wr = wr0 ∧ j ≤ kn ∧ i = .int .i64 j ∧ Below w.heap.size w wr ∧ w.heap.size + 4 ≤ wr.heap.size ∧ Hid (Blk wr w.heap.size #[.int .i64 kd, .int .i64 by_, .int .i64 fr, .int .i64 tO, .string tS, .int .i64 tZ, .slice tA tN tC, .string wn] 69) ∧ Hid (CBox wr (w.heap.size + 1) op nm nu ⟨ka, kn, kc⟩ a m c) ∧ Hid (CBox wr (w.heap.size + 1 + 1) 0 ⟨#[]⟩ ⟨#[]⟩ SS.nil none 0 0) ∧ Hid (CBox wr (w.heap.size + 1 + 1 + 1) op nm nu ⟨Av, j, cv⟩ none 0 0) ∧ Hid (TsW wr ka kn kc lt) ∧ Hid (RowP 0 (w.heap.size + 4) wr (.slice Av j cv) (lt.map (wk f k)) j)) (fun i _ => kn - (intOf i).toNat)
  case atStart =>
    obtain ⟨W2, hW2, hB2, hs2, K2, S2, R2, O2⟩ := claimBoxes w #[.int .i64 kd, .int .i64 by_, .int .i64 fr, .int .i64 tO, .string tS, .int .i64 tZ, .slice tA tN tC, .string wn] op nm nu ⟨ka, kn, kc⟩ a m c
    dsimp only at hW2
    rw [hW2]
    exact ⟨_, 0, none, 0, rfl, by omega, rfl, hB2, by omega, Lib.hid K2, Lib.hid S2, Lib.hid R2, Lib.hid O2, Lib.hid (TsW.b HT0.out hB2), Lib.hid (RowP.nil _ _ _ _)⟩
  case round =>
    obtain ⟨wr, j, Av, cv, rfl, hj, rfl, hB, hWr, hK, hS, hRr, hO, hTs, hR⟩ := hrel
    obtain ⟨e0, e1, e2, e3, e4⟩ := hS.out.five
    obtain ⟨o0, o1, o2, o3, o4⟩ := hO.out.five
    obtain ⟨w0, w1, w2, w3, w4, w5, w6, w7⟩ := blk8 hK.out
    by_cases hlt : j < kn
    · obtain ⟨bb, o, x, A, M, Cc, rfl, hb, y0, y1, y2, y3, hx, hxA⟩ := IsT.at hTs.out hlt
      have hsx := HKt.out j x hx
      have cc := fun (w' : World) (h : Below wr.heap.size wr w') (hh : H w') => HHT.out x A M Cc k w' hsx (ArW.b hxA h) hh
      have HHw := Lib.hid (fun (w' : World) (h : Below wr.heap.size wr w') => HH0.out w' (bel_trans hB h))
      obtain ⟨hs, hH⟩ := hR.out
      have HH := Lib.hid hH
      obtain ⟨Av', cv', hv, hown⟩ := hH.slice
      have Hmore := Lib.hid (fun (w6 : World) (g cap : Nat) (A : Option Addr) (N C : Nat) => RowH.more (w := w6) (lo := w.heap.size + 4) (g := g) (cap := cap) hH.1 (wk f k x) A N C)
      have Hx := Lib.hid (show (lt.map (wk f k))[j]? = some (wk f k x) by rw [List.getElem?_map, hx]; rfl)
      have hBd : Below wr.heap.size wr wr.drew := (Below.refl _ _).drew
      clear hx hxA HKt HKc hH hR hv cW
      generalize flatH hs = XS at *
      unfold MixW at cc
      generalize wk f k x = x' at *
      generalize opT x = op' at *
      generalize nameT x = nm' at *
      generalize numT x = nu' at *
      have hj0' : 0 ≤ (j : Int) := by omega
      have hj1' : (j : Int) < (kn : Int) := by omega
      have hone : ∀ (A : Option Addr) (N C : Nat), ∀ u ∈ [Value.int .i64 (opT x'), .string (nameT x'), .int .i64 (numT x'), .slice A N C], u.oneCell' = true := fun A N C u hu => by simp at hu; rcases hu with rfl | rfl | rfl | rfl <;> rfl
      go_wp2_with fail
      go_region_law (first | ((refine step_append_lies _ (by rfl) _ _ _ (by rfl) (w.heap.size + 4) 27 i0 _ 4 56 Try.underlying22 hi0 hz0 hz1 hz2 rfl (by omega) (.slice Av j cv) j XS (by rfl) hown5 ⟨w4.heap.size, 0, none⟩ 1 1 [.int .i64 (opT x'), .string (nameT x'), .int .i64 (numT x'), .slice A4 N4 C4] (by rfl) (by rfl) (World.news_of_block (cs := #[.int .i64 (opT x'), .string (nameT x'), .int .i64 (numT x'), .slice A4 N4 C4]) (t := 27) (fr := (0, 0)) X5) (hone A4 N4 C4) (by omega) (by unfold maxLen; omega) (by omega) (by omega) W5.heap.size rfl ?_); intro gn cn w6 hown6 hgrow hat hlt6; have Hown6 := Lib.hid hown6; clear hown6; have S6 : CBox w6 (w.heap.size + 1 + 1 + 1) op nm nu ⟨Av, j, cv⟩ none 0 0 := Blk.grown O5 hgrow (fun e => by have := (World.ownsRow.lt hown5 _ e.symm).1; omega); obtain ⟨p0, p1, p2, p3, p4⟩ := S6.five; obtain ⟨f0, f1, f2, f3, f4⟩ := S6.free; have HS6 := Lib.hid S6; clear S6) | (go_simp; go_at_call 49; ((with_reducible refine (cc _ (by assumption) (HHw.out _ (by assumption))).mono ?_); rintro e w4 ⟨A4, N4, C4, rfl, hA4', hb4'⟩; have hb4 : Below wr.heap.size wr w4 := bel_trans hBd hb4'; have hA4 := Lib.hid hA4'; clear hA4'; have hq4 := hb4.size; obtain ⟨W5, hW5, hb5, hs5, X5⟩ := box1 w4 (opT x') (nameT x') (numT x') A4 N4 C4; have hq5 := hb5.size; clear hs5; have b45 := bel_trans hb4 hb5; have O4 := CBox.b hO.out hb4; have O5 := CBox.b O4 hb5; obtain ⟨z0, z1, z2, z3, z4⟩ := O4.five; obtain ⟨t0, t1, t2, t3, t4⟩ := O5.five; have hown5 := ownsRow_below hown b45)))
      all_goals
        have Hn := Lib.hid (HH.out.step (by omega) (by omega) hb4 hA4.out hb5 Hx.out (Hmore.out w6 gn cn A4 N4 C4 Hown6.out) hgrow rfl hat)
        have hB5 : Below w.heap.size w W5 := bel_trans hB b45
        have B6 : Below w.heap.size w w6 := hB5.grown hgrow hB5.size (fun q hq => by have := (World.ownsRow.lt hown5 q hq).1; omega)
        have hw6 : w.heap.size + 4 ≤ w6.heap.size := by have := hgrow.size; omega
        have nbw : ∀ q, q < w.heap.size + 4 → some q ≠ (Value.slice Av j cv).ownBlock := fun q hq e => by have := (World.ownsRow.lt hown5 q e.symm).1; omega
        have HK7 := Lib.hid (Blk.far (Blk.grown (Blk.below hK.out b45) hgrow (nbw _ (by omega)) : Blk w6 w.heap.size #[.int .i64 kd, .int .i64 by_, .int .i64 fr, .int .i64 tO, .string tS, .int .i64 tZ, .slice tA tN tC, .string wn] 69) (show w.heap.size + 1 + 1 + 1 ≠ w.heap.size by omega) 3 (.slice (some ⟨gn, 0, none⟩) (j + 1) cn))
        have HS7 := Lib.hid (CBox.far (Blk.grown (CBox.b hS.out b45) hgrow (nbw _ (by omega)) : CBox w6 (w.heap.size + 1) op nm nu ⟨some ⟨bb, o, none⟩, kn, kc⟩ a m c) (show w.heap.size + 1 + 1 + 1 ≠ w.heap.size + 1 by omega) 3 (.slice (some ⟨gn, 0, none⟩) (j + 1) cn))
        have HR7 := Lib.hid (CBox.far (Blk.grown (CBox.b hRr.out b45) hgrow (nbw _ (by omega)) : CBox w6 (w.heap.size + 1 + 1) 0 ⟨#[]⟩ ⟨#[]⟩ SS.nil none 0 0) (show w.heap.size + 1 + 1 + 1 ≠ w.heap.size + 1 + 1 by omega) 3 (.slice (some ⟨gn, 0, none⟩) (j + 1) cn))
        have HO7 := Lib.hid (cbox_set3 HS6.out (some ⟨gn, 0, none⟩) (j + 1) cn)
        have B7 : Below w.heap.size w (w6.setCell ⟨w.heap.size + 1 + 1 + 1, 3, none⟩ (.slice (some ⟨gn, 0, none⟩) (j + 1) cn)) := below_set B6 (by omega) _ _
        have HT7 := Lib.hid (TsW.b HT0.out B7)
        have HN7 := Lib.hid (rowP_far Hn.out (w' := w6.setCell ⟨w.heap.size + 1 + 1 + 1, 3, none⟩ (.slice (some ⟨gn, 0, none⟩) (j + 1) cn)) (by simp [World.setCell]) (fun b hb => heap_setCell_other w6 ⟨w.heap.size + 1 + 1 + 1, 3, none⟩ b _ (by show b ≠ w.heap.size + 1 + 1 + 1; omega)))
        have hw7 : w.heap.size + 4 ≤ (w6.setCell ⟨w.heap.size + 1 + 1 + 1, 3, none⟩ (.slice (some ⟨gn, 0, none⟩) (j + 1) cn)).heap.size := by simp [World.setCell]; exact hw6
        clear nbw hat hgrow hlt6 Hn
        go_wp2
        go_roundw
        case rel => exact ⟨_, j + 1, some ⟨gn, 0, none⟩, cn, rfl, by omega, by go_num, B7, hw7, HK7, HS7, HR7, HO7, HT7, HN7⟩
        case measure => simp [intOf]; omega
    · obtain rfl : j = kn := by omega
      obtain ⟨WL, hWL⟩ : ∃ WL, WL = wr := ⟨_, rfl⟩
      have HL0 := Lib.hid (show ∀ b, w.heap.size + 4 ≤ b → b < WL.heap.size → wr.heap[b]? = WL.heap[b]? from fun b _ _ => by rw [hWL])
      have HL1 := Lib.hid (show RowP 0 (w.heap.size + 4) WL (.slice Av j cv) (lt.map (wk f k)) j by rw [hWL]; exact hR.out)
      have HL2 := Lib.hid (show WL.heap.size ≤ wr.heap.size by rw [hWL]; exact Nat.le_refl _)
      have HL3 := Lib.hid (show w.heap.size + 4 ≤ WL.heap.size by rw [hWL]; exact hWr)
      have HCs := Lib.hid (CsW.b HC0.out hB)
      have HB1 := Lib.hid hB
      clear hWL hTs hR HT0 HKt hB HHT
      go_wp2
      go_loopw [9] (fun i wr0 => ∃ (wr : World) (q : Nat) (Aq : Option Addr) (cq : Nat), wr = wr0 ∧ q ≤ m ∧ i = .int .i64 q ∧ Below w.heap.size w wr ∧ Hid (WL.heap.size ≤ wr.heap.size) ∧ Hid (Blk wr w.heap.size #[.int .i64 kd, .int .i64 by_, .int .i64 fr, .int .i64 tO, .string tS, .int .i64 tZ, .slice tA tN tC, .string wn] 69) ∧ Hid (CBox wr (w.heap.size + 1) op nm nu ⟨ka, j, kc⟩ a m c) ∧ Hid (CBox wr (w.heap.size + 1 + 1) 0 ⟨#[]⟩ ⟨#[]⟩ SS.nil none 0 0) ∧ Hid (CBox wr (w.heap.size + 1 + 1 + 1) op nm nu ⟨Av, j, cv⟩ Aq q cq) ∧ Hid (CsW wr a m c la) ∧ Hid (∀ b, w.heap.size + 4 ≤ b → b < WL.heap.size → wr.heap[b]? = WL.heap[b]?) ∧ Hid (RowQC 0 WL.heap.size wr (.slice Aq q cq) (la.map (wkC f k2)) q)) (fun i _ => m - (intOf i).toNat)
      case atStart => exact ⟨_, 0, none, 0, rfl, by omega, rfl, HB1.out, HL2, hK, hS, hRr, hO, HCs, HL0, Lib.hid (RowQC.nil _ _ _ _)⟩
      case round =>
        clear e0 e1 e2 e3 e4 o0 o1 o2 o3 o4 w0 w1 w2 w3 w4 w5 w6 w7 hK hS hRr hO HL0 HL2 HCs HB1 hWr
        obtain ⟨wr2, q, Aq, cq, rfl, hq, rfl, hB, hWrH, hK, hS, hRr, hO, hCs, hL, hR⟩ := hrel
        obtain ⟨e0, e1, e2, e3, e4⟩ := hS.out.five
        obtain ⟨o0, o1, o2, o3, o4⟩ := hO.out.five
        obtain ⟨w0, w1, w2, w3, w4, w5, w6, w7⟩ := blk8 hK.out
        by_cases hlt2 : q < m
        · obtain ⟨bb, o, x, kk, A, M, Cc, rfl, hbw0, zz0, zz1, zz2, zz3, zz4, hx, hxA0⟩ := HC0.out.at hlt2
          have hbw : bb < wr2.heap.size := Nat.lt_of_lt_of_le hbw0 hB.size
          have y0 := (hB.cell (p := ⟨bb, _, none⟩) hbw0).trans zz0
          have y1 := (hB.cell (p := ⟨bb, _, none⟩) hbw0).trans zz1
          have y2 := (hB.cell (p := ⟨bb, _, none⟩) hbw0).trans zz2
          have y3 := (hB.cell (p := ⟨bb, _, none⟩) hbw0).trans zz3
          have y4 := (hB.cell (p := ⟨bb, _, none⟩) hbw0).trans zz4
          have hxA := ArWC.b hxA0 hB
          clear zz0 zz1 zz2 zz3 zz4 hxA0
          obtain ⟨hck, hsx, hk20, hk2K⟩ := HKc.out q x hx
          have cc := fun (w' : World) (h : Below wr2.heap.size wr2 w') (hh : H w') => hck kk A M Cc k2 w' hsx (ArWC.b hxA h) hh hk20 hk2K
          have HHw := Lib.hid (fun (w' : World) (h : Below wr2.heap.size wr2 w') => HH0.out w' (bel_trans hB h))
          obtain ⟨hs, hH⟩ := hR.out
          have HH := Lib.hid hH
          obtain ⟨Av', cv', hv, hown⟩ := hH.slice
          have Hmore := Lib.hid (fun (w6 : World) (g cap : Nat) (K : SS) (A : Option Addr) (N C : Nat) => RowHC.more (w := w6) (lo := WL.heap.size) (g := g) (cap := cap) hH.1 (wkC f k2 x) K A N C)
          have Hx := Lib.hid (show (la.map (wkC f k2))[q]? = some (wkC f k2 x) by rw [List.getElem?_map, hx]; rfl)
          have hBd : Below wr2.heap.size wr2 wr2.drew := (Below.refl _ _).drew
          clear hx hxA HKc hck hH hR hv hk20 hk2K
          generalize flatC hs = XS at *
          unfold MixWC at cc
          generalize wkC f k2 x = x' at *
          generalize opC x = op' at *
          generalize nmC x = nm' at *
          generalize soC x = nu' at *
          obtain ⟨kka, kkn, kkc⟩ := kk
          dsimp only at y3 cc
          have hk0 : 0 ≤ (q : Int) := by omega
          have hk1 : (q : Int) < (m : Int) := by omega
          have hone : ∀ (K0 : Option Addr) (K1 K2 : Nat) (A : Option Addr) (N C : Nat), ∀ u ∈ [Value.int .i64 (opC x'), .string (nmC x'), .string (soC x'), .slice K0 K1 K2, .slice A N C], u.oneCell' = true := fun K0 K1 K2 A N C u hu => by simp at hu; rcases hu with rfl | rfl | rfl | rfl | rfl <;> rfl
          have hWr := hWrH.out
          have HW4 := Lib.hid HL3.out
          have hWL4 : w.heap.size + 1 + 1 + 1 < WL.heap.size := by have := HW4.out; omega
          have hbw2 : bb < WL.heap.size := by omega
          have HQ := Lib.hid (show ∀ (W' : World), Blk W' w.heap.size #[.int .i64 kd, .int .i64 by_, .int .i64 fr, .int .i64 tO, .string tS, .int .i64 tZ, .slice tA tN tC, .string wn] 69 → CBox W' (w.heap.size + 1) op nm nu ⟨ka, j, kc⟩ (some ⟨bb, o, none⟩) m c → (∀ oo v, wr2.cell? ⟨bb, oo, none⟩ = some v → W'.cell? ⟨bb, oo, none⟩ = some v) → W'.cell? ⟨w.heap.size, 0, none⟩ = some (.int .i64 kd) ∧ W'.cell? ⟨w.heap.size, 1, none⟩ = some (.int .i64 by_) ∧ W'.cell? ⟨w.heap.size, 2, none⟩ = some (.int .i64 fr) ∧ W'.cell? ⟨w.heap.size, 3, none⟩ = some (.int .i64 tO) ∧ W'.cell? ⟨w.heap.size, 4, none⟩ = some (.string tS) ∧ W'.cell? ⟨w.heap.size, 5, none⟩ = some (.int .i64 tZ) ∧ W'.cell? ⟨w.heap.size, 6, none⟩ = some (.slice tA tN tC) ∧ W'.cell? ⟨w.heap.size, 7, none⟩ = some (.string wn) ∧ W'.cell? ⟨w.heap.size + 1, 0, none⟩ = some (.int .i64 op) ∧ W'.cell? ⟨w.heap.size + 1, 1, none⟩ = some (.string nm) ∧ W'.cell? ⟨w.heap.size + 1, 2, none⟩ = some (.string nu) ∧ W'.cell? ⟨w.heap.size + 1, 3, none⟩ = some (.slice ka j kc) ∧ W'.cell? ⟨w.heap.size + 1, 4, none⟩ = some (.slice (some ⟨bb, o, none⟩) m c) ∧ W'.cell? ⟨bb, o + q * 5, none⟩ = some (.int .i64 op') ∧ W'.cell? ⟨bb, o + q * 5 + 1, none⟩ = some (.string nm') ∧ W'.cell? ⟨bb, o + q * 5 + 1 + 1, none⟩ = some (.string nu') ∧ W'.cell? ⟨bb, o + q * 5 + 1 + 1 + 1, none⟩ = some (.slice kka kkn kkc) ∧ W'.cell? ⟨bb, o + q * 5 + 1 + 1 + 1 + 1, none⟩ = some (.slice A M Cc) from fun W' hk hs he => by
            obtain ⟨m0, m1, m2, m3, m4, m5, m6, m7⟩ := blk8 hk
            obtain ⟨n0, n1, n2, n3, n4⟩ := hs.five
            exact ⟨m0, m1, m2, m3, m4, m5, m6, m7, n0, n1, n2, n3, n4, he _ _ y0, he _ _ y1, he _ _ y2, he _ _ y3, he _ _ y4⟩)
          have Q0 := Lib.hid (HQ.out wr2 hK.out hS.out (fun oo v h => h))
          go_wp2_with fail
          refine wp_region_noPanic ?_
          refine wp_region_held_drew (S := fun w' => w'.cell? ⟨w.heap.size, 0, none⟩ = some (.int .i64 kd) ∧ w'.cell? ⟨w.heap.size, 1, none⟩ = some (.int .i64 by_) ∧ w'.cell? ⟨w.heap.size, 2, none⟩ = some (.int .i64 fr) ∧ w'.cell? ⟨w.heap.size, 3, none⟩ = some (.int .i64 tO) ∧ w'.cell? ⟨w.heap.size, 4, none⟩ = some (.string tS) ∧ w'.cell? ⟨w.heap.size, 5, none⟩ = some (.int .i64 tZ) ∧ w'.cell? ⟨w.heap.size, 6, none⟩ = some (.slice tA tN tC) ∧ w'.cell? ⟨w.heap.size, 7, none⟩ = some (.string wn) ∧ w'.cell? ⟨w.heap.size + 1, 0, none⟩ = some (.int .i64 op) ∧ w'.cell? ⟨w.heap.size + 1, 1, none⟩ = some (.string nm) ∧ w'.cell? ⟨w.heap.size + 1, 2, none⟩ = some (.string nu) ∧ w'.cell? ⟨w.heap.size + 1, 3, none⟩ = some (.slice ka j kc) ∧ w'.cell? ⟨w.heap.size + 1, 4, none⟩ = some (.slice (some ⟨bb, o, none⟩) m c) ∧ w'.cell? ⟨bb, o + q * 5, none⟩ = some (.int .i64 op') ∧ w'.cell? ⟨bb, o + q * 5 + 1, none⟩ = some (.string nm') ∧ w'.cell? ⟨bb, o + q * 5 + 1 + 1, none⟩ = some (.string nu') ∧ w'.cell? ⟨bb, o + q * 5 + 1 + 1 + 1, none⟩ = some (.slice kka kkn kkc) ∧ w'.cell? ⟨bb, o + q * 5 + 1 + 1 + 1 + 1, none⟩ = some (.slice A M Cc)) (by kernel_rfl) (by exact Q0.out) (fun hHeld => ?_)
          refine wpAnyH_take (i := 0) (v := ?_) rfl (by kernel_rfl) (by kernel_rfl) (by kernel_rfl) (fun _ _ _ h => h) (Or.inl ⟨by rfl, ?hy⟩) (by assumption) ?_
          case hy => (intro w hSw; (try dsimp only at hSw); go_simp; try (with_reducible rfl))
          (try simp only [Act.put, List.setIfInBounds_toArray, List.set_cons_zero, List.set_cons_succ])
          refine wpAnyH_take (i := 2) (v := ?_) rfl (by kernel_rfl) (by kernel_rfl) (by kernel_rfl) (fun _ _ _ h => h) (Or.inl ⟨by rfl, ?hy⟩) (by assumption) ?_
          case hy => (intro w hSw; (try dsimp only at hSw); go_simp; try (with_reducible rfl))
          (try simp only [Act.put, List.setIfInBounds_toArray, List.set_cons_zero, List.set_cons_succ])
          refine wpAnyH_take (i := 3) (v := ?_) rfl (by kernel_rfl) (by kernel_rfl) (by kernel_rfl) (fun _ _ _ h => h) (Or.inl ⟨by rfl, ?hy⟩) (by assumption) ?_
          case hy => (intro w hSw; (try dsimp only at hSw); go_simp; try (with_reducible rfl))
          (try simp only [Act.put, List.setIfInBounds_toArray, List.set_cons_zero, List.set_cons_succ])
          refine wpAnyH_take (i := 4) (v := ?_) rfl (by kernel_rfl) (by kernel_rfl) (by kernel_rfl) (fun _ _ _ h => h) (Or.inl ⟨by rfl, ?hy⟩) (by assumption) ?_
          case hy => (intro w hSw; (try dsimp only at hSw); go_simp; try (with_reducible rfl))
          (try simp only [Act.put, List.setIfInBounds_toArray, List.set_cons_zero, List.set_cons_succ])
          refine wpAnyH_take (i := 5) (v := ?_) rfl (by kernel_rfl) (by kernel_rfl) (by kernel_rfl) (fun _ _ _ h => h) (Or.inl ⟨by rfl, ?hy⟩) (by assumption) ?_
          case hy => (intro w hSw; (try dsimp only at hSw); go_simp; try (with_reducible rfl))
          (try simp only [Act.put, List.setIfInBounds_toArray, List.set_cons_zero, List.set_cons_succ])
          refine wpAnyH_take (i := 6) (v := ?_) rfl (by kernel_rfl) (by kernel_rfl) (by kernel_rfl) (fun _ _ _ h => h) (Or.inl ⟨by rfl, ?hy⟩) (by assumption) ?_
          case hy => (intro w hSw; (try dsimp only at hSw); go_simp; try (with_reducible rfl))
          (try simp only [Act.put, List.setIfInBounds_toArray, List.set_cons_zero, List.set_cons_succ])
          refine wpAnyH_take (i := 7) (v := ?_) rfl (by kernel_rfl) (by kernel_rfl) (by kernel_rfl) (fun _ _ _ h => h) (Or.inl ⟨by rfl, ?hy⟩) (by assumption) ?_
          case hy => (intro w hSw; (try dsimp only at hSw); go_simp; try (with_reducible rfl))
          (try simp only [Act.put, List.setIfInBounds_toArray, List.set_cons_zero, List.set_cons_succ])
          refine wpAnyH_take (i := 8) (v := ?_) rfl (by kernel_rfl) (by kernel_rfl) (by kernel_rfl) (fun _ _ _ h => h) (Or.inl ⟨by rfl, ?hy⟩) (by assumption) ?_
          case hy => (intro w hSw; (try dsimp only at hSw); go_simp; try (with_reducible rfl))
          (try simp only [Act.put, List.setIfInBounds_toArray, List.set_cons_zero, List.set_cons_succ])
          refine wpAnyH_take (i := 9) (v := ?_) rfl (by kernel_rfl) (by kernel_rfl) (by kernel_rfl) (fun _ _ _ h => h) (Or.inl ⟨by rfl, ?hy⟩) (by assumption) ?_
          case hy => (intro w hSw; (try dsimp only at hSw); go_simp; try (with_reducible rfl))
          (try simp only [Act.put, List.setIfInBounds_toArray, List.set_cons_zero, List.set_cons_succ])
          refine wpAnyH_ready (rs := [1, 10]) (by kernel_rfl) (by simp) ?_
          refine AllReadyH.cons rfl (fun KK hKK => ?_) ?_
          · go_simp
            refine hKK.out _ _ (by exact Q0.out) (fun hHeld => ?_)
            clear hKK KK
            (try simp only [Act.put, List.setIfInBounds_toArray, List.set_cons_zero, List.set_cons_succ])
            refine wpAnyH_ready (rs := [10]) (by kernel_rfl) (by simp) ?_
            refine AllReadyH.cons rfl (fun KK hKK => ?_) ?_
            · go_simp
              (go_at_call 59; ((with_reducible refine (cW _).mono ?_); rintro e w3 ⟨rfl, hb3'⟩; have hb3 : Below wr2.heap.size wr2 w3 := bel_trans (by first | exact hBd | exact Below.refl _ _) hb3'; have Q3 := Lib.hid (HQ.out w3 (Blk.below hK.out hb3) (CBox.b hS.out hb3) (fun oo v h => (hb3.cell (p := ⟨bb, oo, none⟩) hbw).trans h)); obtain ⟨l0, l1, l2, l3, l4⟩ := (CBox.b hO.out hb3).five))
              refine hKK.out _ _ (by exact Q3.out) (fun hHeld => ?_)
              clear hKK KK
              (try simp only [Act.put, List.setIfInBounds_toArray, List.set_cons_zero, List.set_cons_succ])
              refine wpAnyH_ready (rs := [11]) (by kernel_rfl) (by simp) ?_
              refine AllReadyH.cons rfl (fun KK hKK => ?_) ?_
              · go_simp
                (go_at_call 48; ((with_reducible refine (cc _ (by first | assumption | exact Below.drew (by assumption)) (HHw.out _ (by first | assumption | exact Below.drew (by assumption)))).mono ?_); rintro e w4 ⟨⟨K0, K1, K2⟩, A4, N4, C4, rfl, hA4', hb4'⟩; have hb4 : Below wr2.heap.size wr2 w4 := bel_trans (by first | exact hb3 | exact hb3.drew) hb4'; have hA4 := Lib.hid (ArCP.to (fun _ _ => rfl) (fun b hb => newB_le (lo' := wr2.heap.size) hb3.size hb) _ hA4'); clear hA4'; have hq4 := hb4.size; obtain ⟨W5, hW5, hb5, hs5, X5⟩ := cbox1 w4 (opC x') (nmC x') (soC x') ⟨K0, K1, K2⟩ A4 N4 C4; dsimp only at hW5; have hq5 := hb5.size; clear hs5; have b45 := bel_trans hb4 hb5; have O4 := CBox.b hO.out hb4; have O5 := CBox.b O4 hb5; obtain ⟨z0, z1, z2, z3, z4⟩ := O4.five; obtain ⟨t0, t1, t2, t3, t4⟩ := O5.five; have hown5 := ownsRow_belowC hown b45; have K5 := Blk.below hK.out b45; have S5 := CBox.b hS.out b45; have Q4 := Lib.hid (HQ.out w4 (Blk.below hK.out hb4) (CBox.b hS.out hb4) (fun oo v h => (hb4.cell (p := ⟨bb, oo, none⟩) hbw).trans h)); have Q5 := Lib.hid (HQ.out W5 K5 S5 (fun oo v h => (b45.cell (p := ⟨bb, oo, none⟩) hbw).trans h))))
                refine hKK.out _ _ (by exact Q4.out) (fun hHeld => ?_)
                clear hKK KK
                (try simp only [Act.put, List.setIfInBounds_toArray, List.set_cons_zero, List.set_cons_succ])
                refine wpAnyH_ready (rs := [12]) (by kernel_rfl) (by simp) ?_
                refine AllReadyH.cons rfl (fun KK hKK => ?_) ?_
                · go_simp
                  refine hKK.out _ _ (by exact Q5.out) (fun hHeld => ?_)
                  clear hKK KK
                  (try simp only [Act.put, List.setIfInBounds_toArray, List.set_cons_zero, List.set_cons_succ])
                  refine wpAnyH_ready (rs := [13]) (by kernel_rfl) (by simp) ?_
                  refine AllReadyH.cons rfl (fun KK hKK => ?_) ?_
                  · ((refine step_append_lies _ (by rfl) _ _ _ (by rfl) WL.heap.size 25 j0 _ 5 88 Try.underlying23 hj0 hy0 hy1 hy2 rfl (by omega) (.slice Aq q cq) q XS (by rfl) hown5 ⟨w4.heap.size, 0, none⟩ 1 1 [.int .i64 (opC x'), .string (nmC x'), .string (soC x'), .slice K0 K1 K2, .slice A4 N4 C4] (by rfl) (by rfl) (World.news_of_block (cs := #[.int .i64 (opC x'), .string (nmC x'), .string (soC x'), .slice K0 K1 K2, .slice A4 N4 C4]) (t := 25) (fr := (0, 0)) X5) (hone K0 K1 K2 A4 N4 C4) (by omega) (by unfold maxLen; omega) (by omega) (by omega) W5.heap.size rfl ?_); intro gn cn w6 hown6 hgrow hat hlt6; have Hown6 := Lib.hid hown6; clear hown6; have nb6 : ∀ b, b < WL.heap.size → some b ≠ (Value.slice Aq q cq).ownBlock := (fun b hb e => by have := (World.ownsRow.lt hown5 b e.symm).1; omega); have S6 : CBox w6 (w.heap.size + 1 + 1 + 1) op nm nu ⟨Av, j, cv⟩ Aq q cq := Blk.grown O5 hgrow (nb6 _ hWL4); have K6 : Blk w6 w.heap.size #[.int .i64 kd, .int .i64 by_, .int .i64 fr, .int .i64 tO, .string tS, .int .i64 tZ, .slice tA tN tC, .string wn] 69 := Blk.grown K5 hgrow (nb6 _ (by omega)); have C6 : CBox w6 (w.heap.size + 1) op nm nu ⟨ka, j, kc⟩ (some ⟨bb, o, none⟩) m c := Blk.grown S5 hgrow (nb6 _ (by omega)); have E6 : ∀ oo v, wr2.cell? ⟨bb, oo, none⟩ = some v → w6.cell? ⟨bb, oo, none⟩ = some v := (fun oo v h => (World.cell?_of_block (a := ⟨bb, oo, none⟩) (hgrow.block bb (by omega) (nb6 bb (by omega)))).trans ((b45.cell (p := ⟨bb, oo, none⟩) hbw).trans h)); have Q6 := Lib.hid (HQ.out w6 K6 C6 E6); have Q7 := Lib.hid (fun v => HQ.out (w6.setCell ⟨w.heap.size + 1 + 1 + 1, 4, none⟩ v) (Blk.far K6 (show w.heap.size + 1 + 1 + 1 ≠ w.heap.size by omega) 4 v) (CBox.far C6 (show w.heap.size + 1 + 1 + 1 ≠ w.heap.size + 1 by omega) 4 v) (fun oo v' h => (World.cell?_setCell_far w6 ⟨w.heap.size + 1 + 1 + 1, 4, none⟩ ⟨bb, oo, none⟩ v (show w.heap.size + 1 + 1 + 1 ≠ bb by omega)).trans (E6 oo v' h))); obtain ⟨p0, p1, p2, p3, p4⟩ := S6.five; obtain ⟨f0, f1, f2, f3, f4⟩ := S6.free; have HS6 := Lib.hid S6; clear S6 K6 C6)
                    refine hKK.out _ _ (by exact Q6.out) (fun hHeld => ?_)
                    clear hKK KK
                    (try simp only [Act.put, List.setIfInBounds_toArray, List.set_cons_zero, List.set_cons_succ])
                    refine wpAnyH_take (i := 14) (v := ?_) rfl (by kernel_rfl) (by kernel_rfl) (by kernel_rfl) (fun _ _ _ h => h) (Or.inl ⟨by rfl, ?hy⟩) (by assumption) ?_
                    case hy => (intro w hSw; (try dsimp only at hSw); go_simp; try (with_reducible rfl))
                    (try simp only [Act.put, List.setIfInBounds_toArray, List.set_cons_zero, List.set_cons_succ])
                    refine wpAnyH_ready (rs := [15]) (by kernel_rfl) (by simp) ?_
                    refine AllReadyH.cons rfl (fun KK hKK => ?_) ?_
                    · go_simp
                      refine hKK.out _ _ (by exact Q7.out _) (fun hHeld => ?_)
                      clear hKK KK
                      (try simp only [Act.put, List.setIfInBounds_toArray, List.set_cons_zero, List.set_cons_succ])
                      refine wpAnyH_done (by kernel_rfl) ?_ _
                      refine NoPanic.normal ?_
                      skip
                      have Hn := Lib.hid (HH.out.step (by omega) (by omega) hb4 hA4.out hb5 Hx.out (Hmore.out w6 gn cn ⟨K0, K1, K2⟩ A4 N4 C4 Hown6.out) hgrow rfl hat)
                      have hB5 : Below w.heap.size w W5 := bel_trans hB b45
                      have B6 : Below w.heap.size w w6 := hB5.grown hgrow hB5.size (fun q hq => by have := (World.ownsRow.lt hown5 q hq).1; omega)
                      have hw6 : WL.heap.size ≤ w6.heap.size := by have := hgrow.size; omega
                      have hz4 := HW4.out
                      have nbw : ∀ b, b < WL.heap.size → some b ≠ (Value.slice Aq q cq).ownBlock := fun b hb e => by have := (World.ownsRow.lt hown5 b e.symm).1; omega
                      have HK7 := Lib.hid (Blk.far (Blk.grown (Blk.below hK.out b45) hgrow (nbw _ (by omega)) : Blk w6 w.heap.size #[.int .i64 kd, .int .i64 by_, .int .i64 fr, .int .i64 tO, .string tS, .int .i64 tZ, .slice tA tN tC, .string wn] 69) (show w.heap.size + 1 + 1 + 1 ≠ w.heap.size by omega) 4 (.slice (some ⟨gn, 0, none⟩) (q + 1) cn))
                      have HS7 := Lib.hid (CBox.far (Blk.grown (CBox.b hS.out b45) hgrow (nbw _ (by omega)) : CBox w6 (w.heap.size + 1) op nm nu ⟨ka, j, kc⟩ (some ⟨bb, o, none⟩) m c) (show w.heap.size + 1 + 1 + 1 ≠ w.heap.size + 1 by omega) 4 (.slice (some ⟨gn, 0, none⟩) (q + 1) cn))
                      have HR7 := Lib.hid (CBox.far (Blk.grown (CBox.b hRr.out b45) hgrow (nbw _ (by omega)) : CBox w6 (w.heap.size + 1 + 1) 0 ⟨#[]⟩ ⟨#[]⟩ SS.nil none 0 0) (show w.heap.size + 1 + 1 + 1 ≠ w.heap.size + 1 + 1 by omega) 4 (.slice (some ⟨gn, 0, none⟩) (q + 1) cn))
                      have HO7 := Lib.hid (cbox_set4 HS6.out (some ⟨gn, 0, none⟩) (q + 1) cn)
                      have B7 : Below w.heap.size w (w6.setCell ⟨w.heap.size + 1 + 1 + 1, 4, none⟩ (.slice (some ⟨gn, 0, none⟩) (q + 1) cn)) := below_set B6 (by omega) _ _
                      have HC7 := Lib.hid (CsW.b HC0.out B7)
                      have HN7 := Lib.hid (rowQC_far Hn.out (w' := w6.setCell ⟨w.heap.size + 1 + 1 + 1, 4, none⟩ (.slice (some ⟨gn, 0, none⟩) (q + 1) cn)) (by simp [World.setCell]) (fun b hb => heap_setCell_other w6 ⟨w.heap.size + 1 + 1 + 1, 4, none⟩ b _ (by show b ≠ w.heap.size + 1 + 1 + 1; omega)))
                      have hw7 := Lib.hid (show WL.heap.size ≤ (w6.setCell ⟨w.heap.size + 1 + 1 + 1, 4, none⟩ (.slice (some ⟨gn, 0, none⟩) (q + 1) cn)).heap.size by simp [World.setCell]; exact hw6)
                      have HL7 := Lib.hid (show ∀ b, w.heap.size + 4 ≤ b → b < WL.heap.size → (w6.setCell ⟨w.heap.size + 1 + 1 + 1, 4, none⟩ (.slice (some ⟨gn, 0, none⟩) (q + 1) cn)).heap[b]? = WL.heap[b]? from fun b hb hb2 => (heap_setCell_other w6 ⟨w.heap.size + 1 + 1 + 1, 4, none⟩ b _ (by show b ≠ w.heap.size + 1 + 1 + 1; omega)).trans ((hgrow.block b (by omega) (nbw b hb2)).trans ((b45.block b (by omega)).trans (hL.out b hb hb2))))
                      clear hz4 nbw hat hgrow hlt6 Hn
                      go_wp2
                      go_roundw
                      case rel => exact ⟨_, q + 1, some ⟨gn, 0, none⟩, cn, rfl, by omega, by go_num, B7, hw7, HK7, HS7, HR7, HO7, HC7, HL7, HN7⟩
                      case measure => simp [intOf]; omega
                    exact AllReadyH.nil
                  exact AllReadyH.nil
                exact AllReadyH.nil
              exact AllReadyH.nil
            exact AllReadyH.nil
          refine AllReadyH.cons rfl (fun KK hKK => ?_) ?_
          · go_simp
            (go_at_call 59; ((with_reducible refine (cW _).mono ?_); rintro e w3 ⟨rfl, hb3'⟩; have hb3 : Below wr2.heap.size wr2 w3 := bel_trans (by first | exact hBd | exact Below.refl _ _) hb3'; have Q3 := Lib.hid (HQ.out w3 (Blk.below hK.out hb3) (CBox.b hS.out hb3) (fun oo v h => (hb3.cell (p := ⟨bb, oo, none⟩) hbw).trans h)); obtain ⟨l0, l1, l2, l3, l4⟩ := (CBox.b hO.out hb3).five))
            refine hKK.out _ _ (by exact Q3.out) (fun hHeld => ?_)
            clear hKK KK
            (try simp only [Act.put, List.setIfInBounds_toArray, List.set_cons_zero, List.set_cons_succ])
            refine wpAnyH_ready (rs := [1, 11]) (by kernel_rfl) (by simp) ?_
            refine AllReadyH.cons rfl (fun KK hKK => ?_) ?_
            · go_simp
              refine hKK.out _ _ (by exact Q3.out) (fun hHeld => ?_)
              clear hKK KK
              (try simp only [Act.put, List.setIfInBounds_toArray, List.set_cons_zero, List.set_cons_succ])
              refine wpAnyH_ready (rs := [11]) (by kernel_rfl) (by simp) ?_
              refine AllReadyH.cons rfl (fun KK hKK => ?_) ?_
              · go_simp
                (go_at_call 48; ((with_reducible refine (cc _ (by first | assumption | exact Below.drew (by assumption)) (HHw.out _ (by first | assumption | exact Below.drew (by assumption)))).mono ?_); rintro e w4 ⟨⟨K0, K1, K2⟩, A4, N4, C4, rfl, hA4', hb4'⟩; have hb4 : Below wr2.heap.size wr2 w4 := bel_trans (by first | exact hb3 | exact hb3.drew) hb4'; have hA4 := Lib.hid (ArCP.to (fun _ _ => rfl) (fun b hb => newB_le (lo' := wr2.heap.size) hb3.size hb) _ hA4'); clear hA4'; have hq4 := hb4.size; obtain ⟨W5, hW5, hb5, hs5, X5⟩ := cbox1 w4 (opC x') (nmC x') (soC x') ⟨K0, K1, K2⟩ A4 N4 C4; dsimp only at hW5; have hq5 := hb5.size; clear hs5; have b45 := bel_trans hb4 hb5; have O4 := CBox.b hO.out hb4; have O5 := CBox.b O4 hb5; obtain ⟨z0, z1, z2, z3, z4⟩ := O4.five; obtain ⟨t0, t1, t2, t3, t4⟩ := O5.five; have hown5 := ownsRow_belowC hown b45; have K5 := Blk.below hK.out b45; have S5 := CBox.b hS.out b45; have Q4 := Lib.hid (HQ.out w4 (Blk.below hK.out hb4) (CBox.b hS.out hb4) (fun oo v h => (hb4.cell (p := ⟨bb, oo, none⟩) hbw).trans h)); have Q5 := Lib.hid (HQ.out W5 K5 S5 (fun oo v h => (b45.cell (p := ⟨bb, oo, none⟩) hbw).trans h))))
                refine hKK.out _ _ (by exact Q4.out) (fun hHeld => ?_)
                clear hKK KK
                (try simp only [Act.put, List.setIfInBounds_toArray, List.set_cons_zero, List.set_cons_succ])
                refine wpAnyH_ready (rs := [12]) (by kernel_rfl) (by simp) ?_
                refine AllReadyH.cons rfl (fun KK hKK => ?_) ?_
                · go_simp
                  refine hKK.out _ _ (by exact Q5.out) (fun hHeld => ?_)
                  clear hKK KK
                  (try simp only [Act.put, List.setIfInBounds_toArray, List.set_cons_zero, List.set_cons_succ])
                  refine wpAnyH_ready (rs := [13]) (by kernel_rfl) (by simp) ?_
                  refine AllReadyH.cons rfl (fun KK hKK => ?_) ?_
                  · ((refine step_append_lies _ (by rfl) _ _ _ (by rfl) WL.heap.size 25 j0 _ 5 88 Try.underlying23 hj0 hy0 hy1 hy2 rfl (by omega) (.slice Aq q cq) q XS (by rfl) hown5 ⟨w4.heap.size, 0, none⟩ 1 1 [.int .i64 (opC x'), .string (nmC x'), .string (soC x'), .slice K0 K1 K2, .slice A4 N4 C4] (by rfl) (by rfl) (World.news_of_block (cs := #[.int .i64 (opC x'), .string (nmC x'), .string (soC x'), .slice K0 K1 K2, .slice A4 N4 C4]) (t := 25) (fr := (0, 0)) X5) (hone K0 K1 K2 A4 N4 C4) (by omega) (by unfold maxLen; omega) (by omega) (by omega) W5.heap.size rfl ?_); intro gn cn w6 hown6 hgrow hat hlt6; have Hown6 := Lib.hid hown6; clear hown6; have nb6 : ∀ b, b < WL.heap.size → some b ≠ (Value.slice Aq q cq).ownBlock := (fun b hb e => by have := (World.ownsRow.lt hown5 b e.symm).1; omega); have S6 : CBox w6 (w.heap.size + 1 + 1 + 1) op nm nu ⟨Av, j, cv⟩ Aq q cq := Blk.grown O5 hgrow (nb6 _ hWL4); have K6 : Blk w6 w.heap.size #[.int .i64 kd, .int .i64 by_, .int .i64 fr, .int .i64 tO, .string tS, .int .i64 tZ, .slice tA tN tC, .string wn] 69 := Blk.grown K5 hgrow (nb6 _ (by omega)); have C6 : CBox w6 (w.heap.size + 1) op nm nu ⟨ka, j, kc⟩ (some ⟨bb, o, none⟩) m c := Blk.grown S5 hgrow (nb6 _ (by omega)); have E6 : ∀ oo v, wr2.cell? ⟨bb, oo, none⟩ = some v → w6.cell? ⟨bb, oo, none⟩ = some v := (fun oo v h => (World.cell?_of_block (a := ⟨bb, oo, none⟩) (hgrow.block bb (by omega) (nb6 bb (by omega)))).trans ((b45.cell (p := ⟨bb, oo, none⟩) hbw).trans h)); have Q6 := Lib.hid (HQ.out w6 K6 C6 E6); have Q7 := Lib.hid (fun v => HQ.out (w6.setCell ⟨w.heap.size + 1 + 1 + 1, 4, none⟩ v) (Blk.far K6 (show w.heap.size + 1 + 1 + 1 ≠ w.heap.size by omega) 4 v) (CBox.far C6 (show w.heap.size + 1 + 1 + 1 ≠ w.heap.size + 1 by omega) 4 v) (fun oo v' h => (World.cell?_setCell_far w6 ⟨w.heap.size + 1 + 1 + 1, 4, none⟩ ⟨bb, oo, none⟩ v (show w.heap.size + 1 + 1 + 1 ≠ bb by omega)).trans (E6 oo v' h))); obtain ⟨p0, p1, p2, p3, p4⟩ := S6.five; obtain ⟨f0, f1, f2, f3, f4⟩ := S6.free; have HS6 := Lib.hid S6; clear S6 K6 C6)
                    refine hKK.out _ _ (by exact Q6.out) (fun hHeld => ?_)
                    clear hKK KK
                    (try simp only [Act.put, List.setIfInBounds_toArray, List.set_cons_zero, List.set_cons_succ])
                    refine wpAnyH_take (i := 14) (v := ?_) rfl (by kernel_rfl) (by kernel_rfl) (by kernel_rfl) (fun _ _ _ h => h) (Or.inl ⟨by rfl, ?hy⟩) (by assumption) ?_
                    case hy => (intro w hSw; (try dsimp only at hSw); go_simp; try (with_reducible rfl))
                    (try simp only [Act.put, List.setIfInBounds_toArray, List.set_cons_zero, List.set_cons_succ])
                    refine wpAnyH_ready (rs := [15]) (by kernel_rfl) (by simp) ?_
                    refine AllReadyH.cons rfl (fun KK hKK => ?_) ?_
                    · go_simp
                      refine hKK.out _ _ (by exact Q7.out _) (fun hHeld => ?_)
                      clear hKK KK
                      (try simp only [Act.put, List.setIfInBounds_toArray, List.set_cons_zero, List.set_cons_succ])
                      refine wpAnyH_done (by kernel_rfl) ?_ _
                      refine NoPanic.normal ?_
                      skip
                      have Hn := Lib.hid (HH.out.step (by omega) (by omega) hb4 hA4.out hb5 Hx.out (Hmore.out w6 gn cn ⟨K0, K1, K2⟩ A4 N4 C4 Hown6.out) hgrow rfl hat)
                      have hB5 : Below w.heap.size w W5 := bel_trans hB b45
                      have B6 : Below w.heap.size w w6 := hB5.grown hgrow hB5.size (fun q hq => by have := (World.ownsRow.lt hown5 q hq).1; omega)
                      have hw6 : WL.heap.size ≤ w6.heap.size := by have := hgrow.size; omega
                      have hz4 := HW4.out
                      have nbw : ∀ b, b < WL.heap.size → some b ≠ (Value.slice Aq q cq).ownBlock := fun b hb e => by have := (World.ownsRow.lt hown5 b e.symm).1; omega
                      have HK7 := Lib.hid (Blk.far (Blk.grown (Blk.below hK.out b45) hgrow (nbw _ (by omega)) : Blk w6 w.heap.size #[.int .i64 kd, .int .i64 by_, .int .i64 fr, .int .i64 tO, .string tS, .int .i64 tZ, .slice tA tN tC, .string wn] 69) (show w.heap.size + 1 + 1 + 1 ≠ w.heap.size by omega) 4 (.slice (some ⟨gn, 0, none⟩) (q + 1) cn))
                      have HS7 := Lib.hid (CBox.far (Blk.grown (CBox.b hS.out b45) hgrow (nbw _ (by omega)) : CBox w6 (w.heap.size + 1) op nm nu ⟨ka, j, kc⟩ (some ⟨bb, o, none⟩) m c) (show w.heap.size + 1 + 1 + 1 ≠ w.heap.size + 1 by omega) 4 (.slice (some ⟨gn, 0, none⟩) (q + 1) cn))
                      have HR7 := Lib.hid (CBox.far (Blk.grown (CBox.b hRr.out b45) hgrow (nbw _ (by omega)) : CBox w6 (w.heap.size + 1 + 1) 0 ⟨#[]⟩ ⟨#[]⟩ SS.nil none 0 0) (show w.heap.size + 1 + 1 + 1 ≠ w.heap.size + 1 + 1 by omega) 4 (.slice (some ⟨gn, 0, none⟩) (q + 1) cn))
                      have HO7 := Lib.hid (cbox_set4 HS6.out (some ⟨gn, 0, none⟩) (q + 1) cn)
                      have B7 : Below w.heap.size w (w6.setCell ⟨w.heap.size + 1 + 1 + 1, 4, none⟩ (.slice (some ⟨gn, 0, none⟩) (q + 1) cn)) := below_set B6 (by omega) _ _
                      have HC7 := Lib.hid (CsW.b HC0.out B7)
                      have HN7 := Lib.hid (rowQC_far Hn.out (w' := w6.setCell ⟨w.heap.size + 1 + 1 + 1, 4, none⟩ (.slice (some ⟨gn, 0, none⟩) (q + 1) cn)) (by simp [World.setCell]) (fun b hb => heap_setCell_other w6 ⟨w.heap.size + 1 + 1 + 1, 4, none⟩ b _ (by show b ≠ w.heap.size + 1 + 1 + 1; omega)))
                      have hw7 := Lib.hid (show WL.heap.size ≤ (w6.setCell ⟨w.heap.size + 1 + 1 + 1, 4, none⟩ (.slice (some ⟨gn, 0, none⟩) (q + 1) cn)).heap.size by simp [World.setCell]; exact hw6)
                      have HL7 := Lib.hid (show ∀ b, w.heap.size + 4 ≤ b → b < WL.heap.size → (w6.setCell ⟨w.heap.size + 1 + 1 + 1, 4, none⟩ (.slice (some ⟨gn, 0, none⟩) (q + 1) cn)).heap[b]? = WL.heap[b]? from fun b hb hb2 => (heap_setCell_other w6 ⟨w.heap.size + 1 + 1 + 1, 4, none⟩ b _ (by show b ≠ w.heap.size + 1 + 1 + 1; omega)).trans ((hgrow.block b (by omega) (nbw b hb2)).trans ((b45.block b (by omega)).trans (hL.out b hb hb2))))
                      clear hz4 nbw hat hgrow hlt6 Hn
                      go_wp2
                      go_roundw
                      case rel => exact ⟨_, q + 1, some ⟨gn, 0, none⟩, cn, rfl, by omega, by go_num, B7, hw7, HK7, HS7, HR7, HO7, HC7, HL7, HN7⟩
                      case measure => simp [intOf]; omega
                    exact AllReadyH.nil
                  exact AllReadyH.nil
                exact AllReadyH.nil
              exact AllReadyH.nil
            refine AllReadyH.cons rfl (fun KK hKK => ?_) ?_
            · go_simp
              (go_at_call 48; ((with_reducible refine (cc _ (by first | assumption | exact Below.drew (by assumption)) (HHw.out _ (by first | assumption | exact Below.drew (by assumption)))).mono ?_); rintro e w4 ⟨⟨K0, K1, K2⟩, A4, N4, C4, rfl, hA4', hb4'⟩; have hb4 : Below wr2.heap.size wr2 w4 := bel_trans (by first | exact hb3 | exact hb3.drew) hb4'; have hA4 := Lib.hid (ArCP.to (fun _ _ => rfl) (fun b hb => newB_le (lo' := wr2.heap.size) hb3.size hb) _ hA4'); clear hA4'; have hq4 := hb4.size; obtain ⟨W5, hW5, hb5, hs5, X5⟩ := cbox1 w4 (opC x') (nmC x') (soC x') ⟨K0, K1, K2⟩ A4 N4 C4; dsimp only at hW5; have hq5 := hb5.size; clear hs5; have b45 := bel_trans hb4 hb5; have O4 := CBox.b hO.out hb4; have O5 := CBox.b O4 hb5; obtain ⟨z0, z1, z2, z3, z4⟩ := O4.five; obtain ⟨t0, t1, t2, t3, t4⟩ := O5.five; have hown5 := ownsRow_belowC hown b45; have K5 := Blk.below hK.out b45; have S5 := CBox.b hS.out b45; have Q4 := Lib.hid (HQ.out w4 (Blk.below hK.out hb4) (CBox.b hS.out hb4) (fun oo v h => (hb4.cell (p := ⟨bb, oo, none⟩) hbw).trans h)); have Q5 := Lib.hid (HQ.out W5 K5 S5 (fun oo v h => (b45.cell (p := ⟨bb, oo, none⟩) hbw).trans h))))
              refine hKK.out _ _ (by exact Q4.out) (fun hHeld => ?_)
              clear hKK KK
              (try simp only [Act.put, List.setIfInBounds_toArray, List.set_cons_zero, List.set_cons_succ])
              refine wpAnyH_ready (rs := [1, 12]) (by kernel_rfl) (by simp) ?_
              refine AllReadyH.cons rfl (fun KK hKK => ?_) ?_
              · go_simp
                refine hKK.out _ _ (by exact Q4.out) (fun hHeld => ?_)
                clear hKK KK
                (try simp only [Act.put, List.setIfInBounds_toArray, List.set_cons_zero, List.set_cons_succ])
                refine wpAnyH_ready (rs := [12]) (by kernel_rfl) (by simp) ?_
                refine AllReadyH.cons rfl (fun KK hKK => ?_) ?_
                · go_simp
                  refine hKK.out _ _ (by exact Q5.out) (fun hHeld => ?_)
                  clear hKK KK
                  (try simp only [Act.put, List.setIfInBounds_toArray, List.set_cons_zero, List.set_cons_succ])
                  refine wpAnyH_ready (rs := [13]) (by kernel_rfl) (by simp) ?_
                  refine AllReadyH.cons rfl (fun KK hKK => ?_) ?_
                  · ((refine step_append_lies _ (by rfl) _ _ _ (by rfl) WL.heap.size 25 j0 _ 5 88 Try.underlying23 hj0 hy0 hy1 hy2 rfl (by omega) (.slice Aq q cq) q XS (by rfl) hown5 ⟨w4.heap.size, 0, none⟩ 1 1 [.int .i64 (opC x'), .string (nmC x'), .string (soC x'), .slice K0 K1 K2, .slice A4 N4 C4] (by rfl) (by rfl) (World.news_of_block (cs := #[.int .i64 (opC x'), .string (nmC x'), .string (soC x'), .slice K0 K1 K2, .slice A4 N4 C4]) (t := 25) (fr := (0, 0)) X5) (hone K0 K1 K2 A4 N4 C4) (by omega) (by unfold maxLen; omega) (by omega) (by omega) W5.heap.size rfl ?_); intro gn cn w6 hown6 hgrow hat hlt6; have Hown6 := Lib.hid hown6; clear hown6; have nb6 : ∀ b, b < WL.heap.size → some b ≠ (Value.slice Aq q cq).ownBlock := (fun b hb e => by have := (World.ownsRow.lt hown5 b e.symm).1; omega); have S6 : CBox w6 (w.heap.size + 1 + 1 + 1) op nm nu ⟨Av, j, cv⟩ Aq q cq := Blk.grown O5 hgrow (nb6 _ hWL4); have K6 : Blk w6 w.heap.size #[.int .i64 kd, .int .i64 by_, .int .i64 fr, .int .i64 tO, .string tS, .int .i64 tZ, .slice tA tN tC, .string wn] 69 := Blk.grown K5 hgrow (nb6 _ (by omega)); have C6 : CBox w6 (w.heap.size + 1) op nm nu ⟨ka, j, kc⟩ (some ⟨bb, o, none⟩) m c := Blk.grown S5 hgrow (nb6 _ (by omega)); have E6 : ∀ oo v, wr2.cell? ⟨bb, oo, none⟩ = some v → w6.cell? ⟨bb, oo, none⟩ = some v := (fun oo v h => (World.cell?_of_block (a := ⟨bb, oo, none⟩) (hgrow.block bb (by omega) (nb6 bb (by omega)))).trans ((b45.cell (p := ⟨bb, oo, none⟩) hbw).trans h)); have Q6 := Lib.hid (HQ.out w6 K6 C6 E6); have Q7 := Lib.hid (fun v => HQ.out (w6.setCell ⟨w.heap.size + 1 + 1 + 1, 4, none⟩ v) (Blk.far K6 (show w.heap.size + 1 + 1 + 1 ≠ w.heap.size by omega) 4 v) (CBox.far C6 (show w.heap.size + 1 + 1 + 1 ≠ w.heap.size + 1 by omega) 4 v) (fun oo v' h => (World.cell?_setCell_far w6 ⟨w.heap.size + 1 + 1 + 1, 4, none⟩ ⟨bb, oo, none⟩ v (show w.heap.size + 1 + 1 + 1 ≠ bb by omega)).trans (E6 oo v' h))); obtain ⟨p0, p1, p2, p3, p4⟩ := S6.five; obtain ⟨f0, f1, f2, f3, f4⟩ := S6.free; have HS6 := Lib.hid S6; clear S6 K6 C6)
                    refine hKK.out _ _ (by exact Q6.out) (fun hHeld => ?_)
                    clear hKK KK
                    (try simp only [Act.put, List.setIfInBounds_toArray, List.set_cons_zero, List.set_cons_succ])
                    refine wpAnyH_take (i := 14) (v := ?_) rfl (by kernel_rfl) (by kernel_rfl) (by kernel_rfl) (fun _ _ _ h => h) (Or.inl ⟨by rfl, ?hy⟩) (by assumption) ?_
                    case hy => (intro w hSw; (try dsimp only at hSw); go_simp; try (with_reducible rfl))
                    (try simp only [Act.put, List.setIfInBounds_toArray, List.set_cons_zero, List.set_cons_succ])
                    refine wpAnyH_ready (rs := [15]) (by kernel_rfl) (by simp) ?_
                    refine AllReadyH.cons rfl (fun KK hKK => ?_) ?_
                    · go_simp
                      refine hKK.out _ _ (by exact Q7.out _) (fun hHeld => ?_)
                      clear hKK KK
                      (try simp only [Act.put, List.setIfInBounds_toArray, List.set_cons_zero, List.set_cons_succ])
                      refine wpAnyH_done (by kernel_rfl) ?_ _
                      refine NoPanic.normal ?_
                      skip
                      have Hn := Lib.hid (HH.out.step (by omega) (by omega) hb4 hA4.out hb5 Hx.out (Hmore.out w6 gn cn ⟨K0, K1, K2⟩ A4 N4 C4 Hown6.out) hgrow rfl hat)
                      have hB5 : Below w.heap.size w W5 := bel_trans hB b45
                      have B6 : Below w.heap.size w w6 := hB5.grown hgrow hB5.size (fun q hq => by have := (World.ownsRow.lt hown5 q hq).1; omega)
                      have hw6 : WL.heap.size ≤ w6.heap.size := by have := hgrow.size; omega
                      have hz4 := HW4.out
                      have nbw : ∀ b, b < WL.heap.size → some b ≠ (Value.slice Aq q cq).ownBlock := fun b hb e => by have := (World.ownsRow.lt hown5 b e.symm).1; omega
                      have HK7 := Lib.hid (Blk.far (Blk.grown (Blk.below hK.out b45) hgrow (nbw _ (by omega)) : Blk w6 w.heap.size #[.int .i64 kd, .int .i64 by_, .int .i64 fr, .int .i64 tO, .string tS, .int .i64 tZ, .slice tA tN tC, .string wn] 69) (show w.heap.size + 1 + 1 + 1 ≠ w.heap.size by omega) 4 (.slice (some ⟨gn, 0, none⟩) (q + 1) cn))
                      have HS7 := Lib.hid (CBox.far (Blk.grown (CBox.b hS.out b45) hgrow (nbw _ (by omega)) : CBox w6 (w.heap.size + 1) op nm nu ⟨ka, j, kc⟩ (some ⟨bb, o, none⟩) m c) (show w.heap.size + 1 + 1 + 1 ≠ w.heap.size + 1 by omega) 4 (.slice (some ⟨gn, 0, none⟩) (q + 1) cn))
                      have HR7 := Lib.hid (CBox.far (Blk.grown (CBox.b hRr.out b45) hgrow (nbw _ (by omega)) : CBox w6 (w.heap.size + 1 + 1) 0 ⟨#[]⟩ ⟨#[]⟩ SS.nil none 0 0) (show w.heap.size + 1 + 1 + 1 ≠ w.heap.size + 1 + 1 by omega) 4 (.slice (some ⟨gn, 0, none⟩) (q + 1) cn))
                      have HO7 := Lib.hid (cbox_set4 HS6.out (some ⟨gn, 0, none⟩) (q + 1) cn)
                      have B7 : Below w.heap.size w (w6.setCell ⟨w.heap.size + 1 + 1 + 1, 4, none⟩ (.slice (some ⟨gn, 0, none⟩) (q + 1) cn)) := below_set B6 (by omega) _ _
                      have HC7 := Lib.hid (CsW.b HC0.out B7)
                      have HN7 := Lib.hid (rowQC_far Hn.out (w' := w6.setCell ⟨w.heap.size + 1 + 1 + 1, 4, none⟩ (.slice (some ⟨gn, 0, none⟩) (q + 1) cn)) (by simp [World.setCell]) (fun b hb => heap_setCell_other w6 ⟨w.heap.size + 1 + 1 + 1, 4, none⟩ b _ (by show b ≠ w.heap.size + 1 + 1 + 1; omega)))
                      have hw7 := Lib.hid (show WL.heap.size ≤ (w6.setCell ⟨w.heap.size + 1 + 1 + 1, 4, none⟩ (.slice (some ⟨gn, 0, none⟩) (q + 1) cn)).heap.size by simp [World.setCell]; exact hw6)
                      have HL7 := Lib.hid (show ∀ b, w.heap.size + 4 ≤ b → b < WL.heap.size → (w6.setCell ⟨w.heap.size + 1 + 1 + 1, 4, none⟩ (.slice (some ⟨gn, 0, none⟩) (q + 1) cn)).heap[b]? = WL.heap[b]? from fun b hb hb2 => (heap_setCell_other w6 ⟨w.heap.size + 1 + 1 + 1, 4, none⟩ b _ (by show b ≠ w.heap.size + 1 + 1 + 1; omega)).trans ((hgrow.block b (by omega) (nbw b hb2)).trans ((b45.block b (by omega)).trans (hL.out b hb hb2))))
                      clear hz4 nbw hat hgrow hlt6 Hn
                      go_wp2
                      go_roundw
                      case rel => exact ⟨_, q + 1, some ⟨gn, 0, none⟩, cn, rfl, by omega, by go_num, B7, hw7, HK7, HS7, HR7, HO7, HC7, HL7, HN7⟩
                      case measure => simp [intOf]; omega
                    exact AllReadyH.nil
                  exact AllReadyH.nil
                exact AllReadyH.nil
              refine AllReadyH.cons rfl (fun KK hKK => ?_) ?_
              · go_simp
                refine hKK.out _ _ (by exact Q5.out) (fun hHeld => ?_)
                clear hKK KK
                (try simp only [Act.put, List.setIfInBounds_toArray, List.set_cons_zero, List.set_cons_succ])
                refine wpAnyH_ready (rs := [1]) (by kernel_rfl) (by simp) ?_
                refine AllReadyH.cons rfl (fun KK hKK => ?_) ?_
                · go_simp
                  refine hKK.out _ _ (by exact Q5.out) (fun hHeld => ?_)
                  clear hKK KK
                  (try simp only [Act.put, List.setIfInBounds_toArray, List.set_cons_zero, List.set_cons_succ])
                  refine wpAnyH_ready (rs := [13]) (by kernel_rfl) (by simp) ?_
                  refine AllReadyH.cons rfl (fun KK hKK => ?_) ?_
                  · ((refine step_append_lies _ (by rfl) _ _ _ (by rfl) WL.heap.size 25 j0 _ 5 88 Try.underlying23 hj0 hy0 hy1 hy2 rfl (by omega) (.slice Aq q cq) q XS (by rfl) hown5 ⟨w4.heap.size, 0, none⟩ 1 1 [.int .i64 (opC x'), .string (nmC x'), .string (soC x'), .slice K0 K1 K2, .slice A4 N4 C4] (by rfl) (by rfl) (World.news_of_block (cs := #[.int .i64 (opC x'), .string (nmC x'), .string (soC x'), .slice K0 K1 K2, .slice A4 N4 C4]) (t := 25) (fr := (0, 0)) X5) (hone K0 K1 K2 A4 N4 C4) (by omega) (by unfold maxLen; omega) (by omega) (by omega) W5.heap.size rfl ?_); intro gn cn w6 hown6 hgrow hat hlt6; have Hown6 := Lib.hid hown6; clear hown6; have nb6 : ∀ b, b < WL.heap.size → some b ≠ (Value.slice Aq q cq).ownBlock := (fun b hb e => by have := (World.ownsRow.lt hown5 b e.symm).1; omega); have S6 : CBox w6 (w.heap.size + 1 + 1 + 1) op nm nu ⟨Av, j, cv⟩ Aq q cq := Blk.grown O5 hgrow (nb6 _ hWL4); have K6 : Blk w6 w.heap.size #[.int .i64 kd, .int .i64 by_, .int .i64 fr, .int .i64 tO, .string tS, .int .i64 tZ, .slice tA tN tC, .string wn] 69 := Blk.grown K5 hgrow (nb6 _ (by omega)); have C6 : CBox w6 (w.heap.size + 1) op nm nu ⟨ka, j, kc⟩ (some ⟨bb, o, none⟩) m c := Blk.grown S5 hgrow (nb6 _ (by omega)); have E6 : ∀ oo v, wr2.cell? ⟨bb, oo, none⟩ = some v → w6.cell? ⟨bb, oo, none⟩ = some v := (fun oo v h => (World.cell?_of_block (a := ⟨bb, oo, none⟩) (hgrow.block bb (by omega) (nb6 bb (by omega)))).trans ((b45.cell (p := ⟨bb, oo, none⟩) hbw).trans h)); have Q6 := Lib.hid (HQ.out w6 K6 C6 E6); have Q7 := Lib.hid (fun v => HQ.out (w6.setCell ⟨w.heap.size + 1 + 1 + 1, 4, none⟩ v) (Blk.far K6 (show w.heap.size + 1 + 1 + 1 ≠ w.heap.size by omega) 4 v) (CBox.far C6 (show w.heap.size + 1 + 1 + 1 ≠ w.heap.size + 1 by omega) 4 v) (fun oo v' h => (World.cell?_setCell_far w6 ⟨w.heap.size + 1 + 1 + 1, 4, none⟩ ⟨bb, oo, none⟩ v (show w.heap.size + 1 + 1 + 1 ≠ bb by omega)).trans (E6 oo v' h))); obtain ⟨p0, p1, p2, p3, p4⟩ := S6.five; obtain ⟨f0, f1, f2, f3, f4⟩ := S6.free; have HS6 := Lib.hid S6; clear S6 K6 C6)
                    refine hKK.out _ _ (by exact Q6.out) (fun hHeld => ?_)
                    clear hKK KK
                    (try simp only [Act.put, List.setIfInBounds_toArray, List.set_cons_zero, List.set_cons_succ])
                    refine wpAnyH_take (i := 14) (v := ?_) rfl (by kernel_rfl) (by kernel_rfl) (by kernel_rfl) (fun _ _ _ h => h) (Or.inl ⟨by rfl, ?hy⟩) (by assumption) ?_
                    case hy => (intro w hSw; (try dsimp only at hSw); go_simp; try (with_reducible rfl))
                    (try simp only [Act.put, List.setIfInBounds_toArray, List.set_cons_zero, List.set_cons_succ])
                    refine wpAnyH_ready (rs := [15]) (by kernel_rfl) (by simp) ?_
                    refine AllReadyH.cons rfl (fun KK hKK => ?_) ?_
                    · go_simp
                      refine hKK.out _ _ (by exact Q7.out _) (fun hHeld => ?_)
                      clear hKK KK
                      (try simp only [Act.put, List.setIfInBounds_toArray, List.set_cons_zero, List.set_cons_succ])
                      refine wpAnyH_done (by kernel_rfl) ?_ _
                      refine NoPanic.normal ?_
                      skip
                      have Hn := Lib.hid (HH.out.step (by omega) (by omega) hb4 hA4.out hb5 Hx.out (Hmore.out w6 gn cn ⟨K0, K1, K2⟩ A4 N4 C4 Hown6.out) hgrow rfl hat)
                      have hB5 : Below w.heap.size w W5 := bel_trans hB b45
                      have B6 : Below w.heap.size w w6 := hB5.grown hgrow hB5.size (fun q hq => by have := (World.ownsRow.lt hown5 q hq).1; omega)
                      have hw6 : WL.heap.size ≤ w6.heap.size := by have := hgrow.size; omega
                      have hz4 := HW4.out
                      have nbw : ∀ b, b < WL.heap.size → some b ≠ (Value.slice Aq q cq).ownBlock := fun b hb e => by have := (World.ownsRow.lt hown5 b e.symm).1; omega
                      have HK7 := Lib.hid (Blk.far (Blk.grown (Blk.below hK.out b45) hgrow (nbw _ (by omega)) : Blk w6 w.heap.size #[.int .i64 kd, .int .i64 by_, .int .i64 fr, .int .i64 tO, .string tS, .int .i64 tZ, .slice tA tN tC, .string wn] 69) (show w.heap.size + 1 + 1 + 1 ≠ w.heap.size by omega) 4 (.slice (some ⟨gn, 0, none⟩) (q + 1) cn))
                      have HS7 := Lib.hid (CBox.far (Blk.grown (CBox.b hS.out b45) hgrow (nbw _ (by omega)) : CBox w6 (w.heap.size + 1) op nm nu ⟨ka, j, kc⟩ (some ⟨bb, o, none⟩) m c) (show w.heap.size + 1 + 1 + 1 ≠ w.heap.size + 1 by omega) 4 (.slice (some ⟨gn, 0, none⟩) (q + 1) cn))
                      have HR7 := Lib.hid (CBox.far (Blk.grown (CBox.b hRr.out b45) hgrow (nbw _ (by omega)) : CBox w6 (w.heap.size + 1 + 1) 0 ⟨#[]⟩ ⟨#[]⟩ SS.nil none 0 0) (show w.heap.size + 1 + 1 + 1 ≠ w.heap.size + 1 + 1 by omega) 4 (.slice (some ⟨gn, 0, none⟩) (q + 1) cn))
                      have HO7 := Lib.hid (cbox_set4 HS6.out (some ⟨gn, 0, none⟩) (q + 1) cn)
                      have B7 : Below w.heap.size w (w6.setCell ⟨w.heap.size + 1 + 1 + 1, 4, none⟩ (.slice (some ⟨gn, 0, none⟩) (q + 1) cn)) := below_set B6 (by omega) _ _
                      have HC7 := Lib.hid (CsW.b HC0.out B7)
                      have HN7 := Lib.hid (rowQC_far Hn.out (w' := w6.setCell ⟨w.heap.size + 1 + 1 + 1, 4, none⟩ (.slice (some ⟨gn, 0, none⟩) (q + 1) cn)) (by simp [World.setCell]) (fun b hb => heap_setCell_other w6 ⟨w.heap.size + 1 + 1 + 1, 4, none⟩ b _ (by show b ≠ w.heap.size + 1 + 1 + 1; omega)))
                      have hw7 := Lib.hid (show WL.heap.size ≤ (w6.setCell ⟨w.heap.size + 1 + 1 + 1, 4, none⟩ (.slice (some ⟨gn, 0, none⟩) (q + 1) cn)).heap.size by simp [World.setCell]; exact hw6)
                      have HL7 := Lib.hid (show ∀ b, w.heap.size + 4 ≤ b → b < WL.heap.size → (w6.setCell ⟨w.heap.size + 1 + 1 + 1, 4, none⟩ (.slice (some ⟨gn, 0, none⟩) (q + 1) cn)).heap[b]? = WL.heap[b]? from fun b hb hb2 => (heap_setCell_other w6 ⟨w.heap.size + 1 + 1 + 1, 4, none⟩ b _ (by show b ≠ w.heap.size + 1 + 1 + 1; omega)).trans ((hgrow.block b (by omega) (nbw b hb2)).trans ((b45.block b (by omega)).trans (hL.out b hb hb2))))
                      clear hz4 nbw hat hgrow hlt6 Hn
                      go_wp2
                      go_roundw
                      case rel => exact ⟨_, q + 1, some ⟨gn, 0, none⟩, cn, rfl, by omega, by go_num, B7, hw7, HK7, HS7, HR7, HO7, HC7, HL7, HN7⟩
                      case measure => simp [intOf]; omega
                    exact AllReadyH.nil
                  exact AllReadyH.nil
                exact AllReadyH.nil
              exact AllReadyH.nil
            exact AllReadyH.nil
          exact AllReadyH.nil
        · obtain rfl : q = m := by omega
          obtain ⟨v0, v1, v2, v3, v4⟩ := hRr.out.five
          obtain ⟨r0, r1, r2, r3, r4⟩ := hRr.out.free
          have F3 := CBox.put hRr.out op nm nu ⟨Av, j, cv⟩ Aq q cq
          have HF5 := Lib.hid (HFin.out WL wr2 _ Av cv Aq cq HL1.out hR.out hL.out HL3.out hWrH.out (put5_size wr2 (w.heap.size + 1 + 1) (.int .i64 op) (.string nm) (.string nu) (.slice Av j cv) (.slice Aq q cq)) (fun b hb => put5_other _ _ _ _ _ _ _ _ (by omega)) (put5_below hB (by omega) _ _ _ _ _))
          unfold put5 at F3 HF5
          obtain ⟨x0, x1, x2, x3, x4⟩ := F3.five
          clear F3 HKc hS hRr hO hCs hL hR HC0 HFin
          go_wp2
          simp [bodyPost, results, Try.results48, go_sem, x0, x1, x2, x3, x4]
          exact HF5.out
theorem claimW_any (kd by_ fr tO : Int) (tS : ByteArray) (tZ : Int) (tA : Option Addr) (tN tC : Nat) (wn : ByteArray) (f : Fn) (H : World → Prop) (hH : ∀ w w', Below w.heap.size w w' → H w → H w') (hT : TWOk kd by_ fr tO tS tZ tA tN tC wn f H) (t : Cl) : CWOk kd by_ fr tO tS tZ tA tN tC wn f H t := Cl.ind (claimW_step kd by_ fr tO tS tZ tA tN tC wn f H hH hT) t
end Go.Proofs.Ytceijoggoniaoaa.B
