/-
  What is proved: what the document's claim makes of a claim: a substitution applied.
-/
import Derived.Test.YtnhemglpbhnmdaaGreatG5
import Derived.Test.YtnhemglpbhnmdaaGreatZSbJ
import Derived.Test.YtnhemglpbhnmdaaGreatZClmRp
namespace Go.Proofs.YtnhemglpbhnmdaaGreat.U
open Go.RowKit L T C B Go.Deep
set_option linter.unusedVariables false
set_option linter.unusedSimpArgs false

mutual
def sbRl (l : List Pr) (K : Int) : Cl → Cl
  | .mk o s z ts cs => .mk o s z (ts.map (sbT (getL l K))) (sbRls l (if o = 11 ∨ o = 12 then K + 1 else K) cs)
def sbRls (l : List Pr) (K : Int) : List Cl → List Cl
  | [] => []
  | c :: cs => sbRl l K c :: sbRls l K cs
end
theorem sbRls_map (l : List Pr) (K : Int) : ∀ cs : List Cl, sbRls l K cs = cs.map (sbRl l K)
  | [] => by rw [sbRls]; rfl
  | c :: cs => by rw [sbRls, sbRls_map l K cs]; rfl
theorem sbRl_mk (l : List Pr) (K : Int) (t : Cl) : sbRl l K t = .mk (opC t) (nmC t) (soC t) ((tsC t).map (sbT (getL l K))) ((subC t).map (sbRl l (if opC t = 11 ∨ opC t = 12 then K + 1 else K))) := by
  cases t with | mk o s z ts cs => rw [sbRl, sbRls_map]; rfl
theorem rowP_far {B lo : Nat} {w w' : World} {v : Value} {lr : List Tm} {k : Nat} (h : RowP B lo w v lr k) (hs' : w'.heap.size = w.heap.size) (hb : ∀ b, b < B ∨ lo ≤ b → w'.heap[b]? = w.heap[b]?) : RowP B lo w' v lr k := by
  obtain ⟨hs, h1, h2, h3⟩ := h
  refine ⟨hs, h1, ?_, fun j h t e1 e2 => ?_⟩
  · refine ⟨h2.1, ?_⟩
    rcases h2.2 with hn | ⟨g, cap, cur, rfl, g1, hg, rest⟩
    · exact .inl hn
    · exact .inr ⟨g, cap, cur, rfl, g1, by rw [hb g (.inr g1)]; exact hg, rest⟩
  · obtain ⟨q1, q2, q3, q4⟩ := h3 j h t e1 e2
    exact ⟨q1, q2, q3, ArP.to (fun b hq => hb b hq.1.2) (fun b hq => ⟨⟨by rw [hs']; exact hq.1.1, hq.1.2⟩, hq.2⟩) t q4⟩
theorem cbox3u (w : World) (o : Int) (s z : ByteArray) (k : SS) (a : Option Addr) (n c : Nat) (o' : Int) (s' z' : ByteArray) (k' : SS) (a' : Option Addr) (n' c' : Nat) (o2 : Int) (s2 z2 : ByteArray) (k2 : SS) (a2 : Option Addr) (n2 c2 : Nat) :
    ∃ W, ((w.alloc (.cells #[.int .i64 o, .string s, .string z, .slice k.a k.n k.c, .slice a n c] 25)).alloc (.cells #[.int .i64 o', .string s', .string z', .slice k'.a k'.n k'.c, .slice a' n' c'] 25)).alloc (.cells #[.int .i64 o2, .string s2, .string z2, .slice k2.a k2.n k2.c, .slice a2 n2 c2] 25) = W ∧ Below w.heap.size w W ∧ W.heap.size = w.heap.size + 3 ∧ CBox W w.heap.size o s z k a n c ∧ CBox W (w.heap.size + 1) o' s' z' k' a' n' c' ∧ CBox W (w.heap.size + 1 + 1) o2 s2 z2 k2 a2 n2 c2 := by
  obtain ⟨W2, h2, hb, hs, t1, t2⟩ := cbox2 w o s z k a n c o' s' z' k' a' n' c'
  rw [h2]
  refine ⟨_, rfl, bel_alloc hb _, by simp [hs], Blk.alloc t1 _, Blk.alloc t2 _, ?_⟩
  have := CBox.new W2 o2 s2 z2 k2 a2 n2 c2
  rwa [hs] at this
theorem rowQC_far {B lo : Nat} {w w' : World} {v : Value} {lr : List Cl} {k : Nat} (h : RowQC B lo w v lr k) (hs' : w'.heap.size = w.heap.size) (hb : ∀ b, b < B ∨ lo ≤ b → w'.heap[b]? = w.heap[b]?) : RowQC B lo w' v lr k := by
  obtain ⟨hs, h1, h2, h3⟩ := h
  refine ⟨hs, h1, ?_, fun j h t e1 e2 => ?_⟩
  · refine ⟨h2.1, ?_⟩
    rcases h2.2 with hn | ⟨g, cap, cur, rfl, g1, hg, rest⟩
    · exact .inl hn
    · exact .inr ⟨g, cap, cur, rfl, g1, by rw [hb g (.inr g1)]; exact hg, rest⟩
  · obtain ⟨q1, q2, q3, q4⟩ := h3 j h t e1 e2
    exact ⟨q1, q2, q3, ArCP.to (fun b hq => hb b hq.1.2) (fun b hq => ⟨⟨by rw [hs']; exact hq.1.1, hq.1.2⟩, hq.2⟩) t q4⟩
/-- a claim made of what was there and of what is new is returned -/
def MixCU (B : Nat) (t : Cl) (w : World) (e : Ending) (w' : World) : Prop := ∃ (K : SS) (A : Option Addr) (N C : Nat), e = .returned (.agg #[.int .i64 (opC t), .string (nmC t), .string (soC t), .slice K.a K.n K.c, .slice A N C]) ∧ ArCP (NewB B w.heap.size w'.heap.size) w' t K A N C ∧ Below w.heap.size w w'
def RefClOk (l : List Pr) (t : Cl) : Prop := ∀ (D : Int) (B : Nat) (A0 : Option Addr) (m0 d0 : Nat) (k : SS) (a : Option Addr) (m c : Nat) (w : World), 0 ≤ D → D + (wt t : Int) ≤ 1000000000 → B ≤ w.heap.size → wt t ≤ 1000000 → IsU B w A0 m0 d0 l → ArC B w t k a m c →
  Calls Tryz.prog 37 #[.slice A0 m0 d0, .agg #[.int .i64 (opC t), .string (nmC t), .string (soC t), .slice k.a k.n k.c, .slice a m c], .int .i64 D] w fun e w' => MixCU B (sbRl l D t) w e w'
set_option maxRecDepth 100000 in
set_option maxHeartbeats 16000000 in
theorem RefCl_step (l : List Pr) (hls : ∀ p ∈ l, size p.t ≤ 1000000) (t : Cl) (hok : ∀ x ∈ subC t, RefClOk l x) : RefClOk l t := by
  intro D B A0 m0 d0 k0 a m c w hD0 hD1 hBw hsz hU hA
  obtain ⟨ka, kn, kc⟩ := k0
  obtain ⟨W2, hW2, hB2, hs2, S2, R2, O2⟩ := cbox3u w (opC t) (nmC t) (soC t) ⟨ka, kn, kc⟩ a m c 0 ⟨#[]⟩ ⟨#[]⟩ SS.nil none 0 0 (opC t) (nmC t) (soC t) SS.nil none 0 0
  dsimp only [SS.nil] at hW2 ⊢
  obtain ⟨Ws, hWs⟩ : ∃ Ws, (W2.setCell ⟨w.heap.size + 1 + 1, 3, none⟩ (.slice none 0 0)).setCell ⟨w.heap.size + 1 + 1, 4, none⟩ (.slice none 0 0) = Ws := ⟨_, rfl⟩
  have hBs : Below w.heap.size w Ws := by rw [← hWs]; exact below_set (below_set hB2 (by omega) _ _) (by omega) _ _
  have hs0 : W2.heap.size ≤ Ws.heap.size := by rw [← hWs]; simp [World.setCell]
  have SS0 : CBox Ws w.heap.size (opC t) (nmC t) (soC t) ⟨ka, kn, kc⟩ a m c := by rw [← hWs]; exact CBox.far (CBox.far S2 (show w.heap.size + 1 + 1 ≠ w.heap.size by omega) 3 _) (show w.heap.size + 1 + 1 ≠ w.heap.size by omega) 4 _
  have RR0 : CBox Ws (w.heap.size + 1) 0 ⟨#[]⟩ ⟨#[]⟩ SS.nil none 0 0 := by rw [← hWs]; exact CBox.far (CBox.far R2 (show w.heap.size + 1 + 1 ≠ w.heap.size + 1 by omega) 3 _) (show w.heap.size + 1 + 1 ≠ w.heap.size + 1 by omega) 4 _
  have OO0 : CBox Ws (w.heap.size + 1 + 1) (opC t) (nmC t) (soC t) ⟨none, 0, 0⟩ none 0 0 := by rw [← hWs]; exact CBox.su (CBox.ts O2 none 0 0) none 0 0
  have hTm : IsT B w ka kn kc (tsC t) := (ar_isC.1 hA).1
  have hCs : IsC B w a m c (subC t) := (ar_isC.1 hA).2
  have hkn : kn = (tsC t).length := hTm.1
  have hm : m = (subC t).length := hCs.1
  have e1 := wt_mk t
  have e2 := wts_len (subC t)
  have hml : m ≤ 1000000 := by omega
  have hkl : kn ≤ 1000000 := by
    have e2 : ∀ l : List Tm, l.length ≤ sizes l := fun l => by
      induction l with
      | nil => exact Nat.le_refl _
      | cons t l ih => rw [List.length_cons, sizes]; have := size_pos t; omega
    have := e2 (tsC t)
    omega
  have HFin := Lib.hid (show ∀ (WL w3 w5 : World) (Av : Option Addr) (cv : Nat) (A : Option Addr) (C : Nat), RowP B W2.heap.size WL (.slice Av kn cv) ((tsC t).map (sbT (getL l D))) kn → RowQC B WL.heap.size w3 (.slice A m C) ((subC t).map (sbRl l (if opC t = 11 ∨ opC t = 12 then D + 1 else D))) m → (∀ b, (b < B ∨ W2.heap.size ≤ b) → b < WL.heap.size → w3.heap[b]? = WL.heap[b]?) → W2.heap.size ≤ WL.heap.size → WL.heap.size ≤ w3.heap.size → w5.heap.size = w3.heap.size → (∀ b, (b < B ∨ W2.heap.size ≤ b) → w5.heap[b]? = w3.heap[b]?) → Below w.heap.size w w5 → MixCU B (sbRl l D t) w (.returned (.agg #[.int .i64 (opC t), .string (nmC t), .string (soC t), .slice Av kn cv, .slice A m C])) w5 from fun WL w3 w5 Av cv A C g1 g2 g3 g4 g5 g6 g7 g8 => by
    have gT := RowP.arP (o := 0) (s := ⟨#[]⟩) (z := 0) (lo' := W2.heap.size) (w' := WL) g1 (by rw [List.length_map]; exact hkn.symm) (Nat.le_refl _) rfl (fun _ _ => rfl)
    have gT5 : IsTP (NewB B w.heap.size w5.heap.size) w5 ⟨Av, kn, cv⟩ ((tsC t).map (sbT (getL l D))) := ArP.to (fun b hq => by
      have h1 := hq.1
      exact (g7 b hq.2).trans (g3 b hq.2 h1)) (fun b hq => ⟨by have := hq.1; omega, hq.2.imp id (fun h => by omega)⟩) _ gT
    rw [sbRl_mk]
    refine ⟨⟨Av, kn, cv⟩, A, m, C, rfl, ?_, g8⟩
    have := RowQC.arP (o := opC t) (s := nmC t) (z := soC t) (ts := (tsC t).map (sbT (getL l D))) (K := ⟨Av, kn, cv⟩) (lo' := w.heap.size) (w' := w5) gT5 g2 (by rw [List.length_map]; exact hm.symm) (by omega) g6 (fun b hb => g7 b (by rcases hb with h | h <;> omega))
    exact this)
  have HKt := Lib.hid (show ∀ k x, (tsC t)[k]? = some x → (∀ (A : Option Addr) (m0 d : Nat) (a : Option Addr) (m c : Nat) (w : World), B ≤ w.heap.size → size x ≤ 1000000 → IsU B w A m0 d l → Ar B w x a m c → Calls Tryz.prog 66 #[.slice A m0 d, .agg #[.int .i64 (opT x), .string (nameT x), .int .i64 (numT x), .slice a m c], .int .i64 D] w fun e w' => MixU B (sbT (getL l D) x) w e w') ∧ size x ≤ 1000000 ∧ ((tsC t).map (sbT (getL l D)))[k]? = some (sbT (getL l D) x) from fun k x h => ⟨RefAp_any l D hls x B, by have := alls_lt h; omega, by rw [List.getElem?_map, h]; rfl⟩)
  obtain ⟨Q, hQ⟩ : ∃ Q : Int, (if opC t = 11 ∨ opC t = 12 then D + 1 else D) = Q := ⟨_, rfl⟩
  have hQ0 : 0 ≤ Q ∧ Q ≤ D + 1 := by rw [← hQ]; by_cases h : opC t = 11 ∨ opC t = 12 <;> simp only [h, if_true, if_false] <;> omega
  rw [hQ] at HFin
  have HKc := Lib.hid (show ∀ k x, (subC t)[k]? = some x → (∀ (A0 : Option Addr) (m0 d0 : Nat) (k : SS) (a : Option Addr) (m c : Nat) (w : World), B ≤ w.heap.size → IsU B w A0 m0 d0 l → ArC B w x k a m c → Calls Tryz.prog 37 #[.slice A0 m0 d0, .agg #[.int .i64 (opC x), .string (nmC x), .string (soC x), .slice k.a k.n k.c, .slice a m c], .int .i64 Q] w fun e w' => MixCU B (sbRl l Q x) w e w') ∧ ((subC t).map (sbRl l Q))[k]? = some (sbRl l Q x) from fun k x h => ⟨fun A0 m0 d0 k a m c w h1 h2 h3 => hok x (List.mem_of_getElem? h) Q B A0 m0 d0 k a m c w hQ0.1 (by have := wts_mem (List.mem_of_getElem? h); omega) h1 (by have := wts_mem (List.mem_of_getElem? h); omega) h2 h3, by rw [List.getElem?_map, h]; rfl⟩)
  have hWQ : IntKind.i64.wrap (D + 1) = D + 1 := by rw [IntKind.wrap_i64]; omega
  have hBb := hBs.mono hBw
  have HU0 := Lib.hid hU
  obtain ⟨s0, s1, s2, s3, s4⟩ := S2.five
  obtain ⟨fo0, fo1, fo2, fo3, fo4⟩ := O2.free
  obtain ⟨co0, co1, co2, co3, co4⟩ := O2.five
  have HS := Lib.hid SS0
  have HR := Lib.hid RR0
  have HO := Lib.hid OO0
  have HBs := Lib.hid hBs
  have HT0 := Lib.hid hTm
  have HC0 := Lib.hid hCs
  have HTs := Lib.hid (hTm.bel hBb)
  have HWs := Lib.hid hs0
  have HW := Lib.hid hs2
  have lO := Blk.lt O2
  obtain ⟨i0, hi0, hz0, hz1, hz2⟩ := info_parts termI
  obtain ⟨j0, hj0, hy0, hy1, hy2⟩ := info_parts claimI
  clear hA hok S2 R2 O2 hm hkn hsz hs2 e1 e2 hBs hs0 SS0 RR0 OO0 hTm hCs hU hls hQ0 hD1 hBb
  generalize tsC t = lt at *
  generalize subC t = la at *
  generalize hltr : lt.map (sbT (getL l D)) = ltr at *
  generalize hlar : la.map (sbRl l Q) = lar at *
  clear hltr hlar
  generalize opC t = op at *
  generalize nmC t = nm at *
  generalize soC t = nu at *
  generalize MixCU B (sbRl l D t) w = Post at *
  go_enter Tryz.func37, Tryz.ntmps37
  go_wp2_with fail
  clear hWs s0 s1 s2 s3 s4 fo0 fo1 fo2 fo3 fo4 co0 co1 co2 co3 co4
  go_loopw [8] (fun i wr0 => ∃ (wr : World) (k : Nat) (Av : Option Addr) (cv : Nat), wr = wr0 ∧ k ≤ kn ∧ i = .int .i64 k ∧ Below w.heap.size w wr ∧ W2.heap.size ≤ wr.heap.size ∧ Hid (CBox wr w.heap.size op nm nu ⟨ka, kn, kc⟩ a m c) ∧ Hid (CBox wr (w.heap.size + 1) 0 ⟨#[]⟩ ⟨#[]⟩ SS.nil none 0 0) ∧ Hid (CBox wr (w.heap.size + 1 + 1) op nm nu ⟨Av, k, cv⟩ none 0 0) ∧ Hid (IsT B wr ka kn kc lt) ∧ Hid (RowP B W2.heap.size wr (.slice Av k cv) ltr k)) (fun i _ => kn - (intOf i).toNat)
  case atStart => exact ⟨_, 0, none, 0, rfl, by omega, rfl, HBs.out, HWs.out, HS, HR, HO, HTs, Lib.hid (RowP.nil _ _ _ _)⟩
  case round =>
    obtain ⟨wr, k, Av, cv, rfl, hk, rfl, hB, hWr, hS, hRr, hO, hTs, hR⟩ := hrel
    obtain ⟨e0, e1, e2, e3, e4⟩ := hS.out.five
    obtain ⟨o0, o1, o2, o3, o4⟩ := hO.out.five
    by_cases hlt : k < kn
    · obtain ⟨bb, o, x, A, M, Cc, rfl, hb, y0, y1, y2, y3, hx, hxA⟩ := IsT.at hTs.out hlt
      obtain ⟨hck, hsx, hxr⟩ := HKt.out k x hx
      have hUr := HU0.out.bel (hB.mono hBw)
      have cc := fun (w' : World) (h : Below wr.heap.size wr w') => hck A0 m0 d0 A M Cc w' (by have := h.size; omega) hsx (hUr.bel (h.mono (by omega))) (Ar.bel (h.mono (by omega)) x hxA)
      obtain ⟨hs, hH⟩ := hR.out
      have HH := Lib.hid hH
      obtain ⟨Av', cv', hv, hown⟩ := hH.slice
      have Hmore := Lib.hid (fun (w6 : World) (g cap : Nat) (A : Option Addr) (N C : Nat) => RowH.more (w := w6) (lo := W2.heap.size) (g := g) (cap := cap) hH.1 (sbT (getL l D) x) A N C)
      have Hx := Lib.hid hxr
      have hBd : Below wr.heap.size wr wr.drew := (Below.refl _ _).drew
      clear hx hxr hxA HKt HKc hck hH hR HS HR HO HTs hv hUr
      generalize flatH hs = XS at *
      unfold MixU at cc
      generalize sbT (getL l D) x = xr at *
      generalize opT xr = opx at *
      generalize nameT xr = nmx at *
      generalize numT xr = nux at *
      generalize opT x = op' at *
      generalize nameT x = nm' at *
      generalize numT x = nu' at *
      have hk0 : 0 ≤ (k : Int) := by omega
      have hk1 : (k : Int) < (kn : Int) := by omega
      have hone : ∀ (A : Option Addr) (N C : Nat), ∀ u ∈ [Value.int .i64 opx, .string nmx, .int .i64 nux, .slice A N C], u.oneCell' = true := fun A N C u hu => by simp at hu; rcases hu with rfl | rfl | rfl | rfl <;> rfl
      have hW := HW.out
      have hlo2 : W2.heap.size = w.heap.size + 3 := hW
      have HW3 := Lib.hid hlo2
      clear hW hlo2
      go_wp2_with fail
      go_region_law (first | ((refine step_append_lies _ (by rfl) _ _ _ (by rfl) W2.heap.size 31 i0 _ 4 56 Tryz.underlying22 hi0 hz0 hz1 hz2 rfl (by omega) (.slice Av k cv) k XS (by rfl) hown5 ⟨w4.heap.size, 0, none⟩ 1 1 [.int .i64 opx, .string nmx, .int .i64 nux, .slice A4 N4 C4] (by rfl) (by rfl) (World.news_of_block (cs := #[.int .i64 opx, .string nmx, .int .i64 nux, .slice A4 N4 C4]) (t := 31) (fr := (0, 0)) X5) (hone A4 N4 C4) (by omega) (by unfold maxLen; omega) (by omega) (by omega) W5.heap.size rfl ?_); intro gn cn w6 hown6 hgrow hat hlt6; have Hown6 := Lib.hid hown6; clear hown6; have S6 : CBox w6 (w.heap.size + 1 + 1) op nm nu ⟨Av, k, cv⟩ none 0 0 := Blk.grown O5 hgrow (fun e => by have := (World.ownsRow.lt hown5 _ e.symm).1; omega); obtain ⟨p0, p1, p2, p3, p4⟩ := S6.five; obtain ⟨f0, f1, f2, f3, f4⟩ := S6.free; have HS6 := Lib.hid S6; clear S6) | (go_simp; go_at_call 66; ((with_reducible refine (cc _ (by assumption)).mono ?_); rintro e w4 ⟨A4, N4, C4, rfl, hA4', hb4'⟩; have hb4 : Below wr.heap.size wr w4 := bel_trans hBd hb4'; have hA4 := Lib.hid hA4'; clear hA4'; have hq4 := hb4.size; obtain ⟨W5, hW5, hb5, hs5, X5⟩ := box1 w4 opx nmx nux A4 N4 C4; have hq5 := hb5.size; clear hs5; have b45 := bel_trans hb4 hb5; have O4 := CBox.b hO.out hb4; have O5 := CBox.b O4 hb5; obtain ⟨z0, z1, z2, z3, z4⟩ := O4.five; obtain ⟨t0, t1, t2, t3, t4⟩ := O5.five; have hown5 := ownsRow_below hown b45)))
      all_goals
        have Hn := Lib.hid (HH.out.step (by omega) (by omega) hb4 hA4.out hb5 Hx.out (Hmore.out w6 gn cn A4 N4 C4 Hown6.out) hgrow rfl hat)
        have hB5 : Below w.heap.size w W5 := bel_trans hB b45
        have hBw6 : Below wr.heap.size wr W5 := b45
        have B6 : Below w.heap.size w w6 := hB5.grown hgrow hB5.size (fun q hq => by have := (World.ownsRow.lt hown5 q hq).1; omega)
        have hw6 : W2.heap.size ≤ w6.heap.size := by have := hgrow.size; omega
        have hz := HW3.out
        have nbw : ∀ q, q < W2.heap.size → some q ≠ (Value.slice Av k cv).ownBlock := fun q hq e => by have := (World.ownsRow.lt hown5 q e.symm).1; omega
        have HS7 := Lib.hid (CBox.far (Blk.grown (CBox.b hS.out b45) hgrow (nbw _ (by omega)) : CBox w6 w.heap.size op nm nu ⟨some ⟨bb, o, none⟩, kn, kc⟩ a m c) (show w.heap.size + 1 + 1 ≠ w.heap.size by omega) 3 (.slice (some ⟨gn, 0, none⟩) (k + 1) cn))
        have HR7 := Lib.hid (CBox.far (Blk.grown (CBox.b hRr.out b45) hgrow (nbw _ (by omega)) : CBox w6 (w.heap.size + 1) 0 ⟨#[]⟩ ⟨#[]⟩ SS.nil none 0 0) (show w.heap.size + 1 + 1 ≠ w.heap.size + 1 by omega) 3 (.slice (some ⟨gn, 0, none⟩) (k + 1) cn))
        have HO7 := Lib.hid (CBox.ts HS6.out (some ⟨gn, 0, none⟩) (k + 1) cn)
        have B7 : Below w.heap.size w (w6.setCell ⟨w.heap.size + 1 + 1, 3, none⟩ (.slice (some ⟨gn, 0, none⟩) (k + 1) cn)) := below_set B6 (by omega) _ _
        have HT7 := Lib.hid (HT0.out.bel (B7.mono hBw))
        have HN7 := Lib.hid (rowP_far Hn.out (w' := w6.setCell ⟨w.heap.size + 1 + 1, 3, none⟩ (.slice (some ⟨gn, 0, none⟩) (k + 1) cn)) (by simp [World.setCell]) (fun b hb => heap_setCell_other w6 ⟨w.heap.size + 1 + 1, 3, none⟩ b _ (by show b ≠ w.heap.size + 1 + 1; omega)))
        have hw7 : W2.heap.size ≤ (w6.setCell ⟨w.heap.size + 1 + 1, 3, none⟩ (.slice (some ⟨gn, 0, none⟩) (k + 1) cn)).heap.size := by simp [World.setCell]; exact hw6
        clear hz nbw hat hgrow hlt6 Hn
        go_wp2
        go_roundw
        case rel => exact ⟨_, k + 1, some ⟨gn, 0, none⟩, cn, rfl, by omega, by go_num, B7, hw7, HS7, HR7, HO7, HT7, HN7⟩
        case measure => simp [intOf]; omega
    · obtain rfl : k = kn := by omega
      obtain ⟨WL, hWL⟩ : ∃ WL, WL = wr := ⟨_, rfl⟩
      have HL0 := Lib.hid (show ∀ b, (b < B ∨ W2.heap.size ≤ b) → b < WL.heap.size → wr.heap[b]? = WL.heap[b]? from fun b _ _ => by rw [hWL])
      have HL1 := Lib.hid (show RowP B W2.heap.size WL (.slice Av k cv) ltr k by rw [hWL]; exact hR.out)
      have HL2 := Lib.hid (show WL.heap.size ≤ wr.heap.size by rw [hWL]; exact Nat.le_refl _)
      have HL3 := Lib.hid (show W2.heap.size ≤ WL.heap.size by rw [hWL]; exact hWr)
      have HCs := Lib.hid (HC0.out.bel (hB.mono hBw))
      have HB1 := Lib.hid hB
      clear hWL HS HR HO HTs hTs hR HBs HWs HT0 HKt hB
      by_cases h11 : op = 11
      · have hb1 : (op == 11) = true := by rw [h11]; rfl
        have hWQ2 : IntKind.i64.wrap (D + 1) = Q := hWQ.trans (by rw [← hQ, if_pos (.inl h11)])
        clear hQ h11 hWQ
        go_wp2
        go_loopw [9] (fun i wr0 => ∃ (wr : World) (q : Nat) (Aq : Option Addr) (cq : Nat), wr = wr0 ∧ q ≤ m ∧ i = .int .i64 q ∧ Below w.heap.size w wr ∧ Hid (WL.heap.size ≤ wr.heap.size) ∧ Hid (CBox wr w.heap.size op nm nu ⟨ka, k, kc⟩ a m c) ∧ Hid (CBox wr (w.heap.size + 1) 0 ⟨#[]⟩ ⟨#[]⟩ SS.nil none 0 0) ∧ Hid (CBox wr (w.heap.size + 1 + 1) op nm nu ⟨Av, k, cv⟩ Aq q cq) ∧ Hid (IsC B wr a m c la) ∧ Hid (∀ b, (b < B ∨ W2.heap.size ≤ b) → b < WL.heap.size → wr.heap[b]? = WL.heap[b]?) ∧ Hid (RowQC B WL.heap.size wr (.slice Aq q cq) lar q)) (fun i _ => m - (intOf i).toNat)
        case atStart => exact ⟨_, 0, none, 0, rfl, by omega, rfl, HB1.out, HL2, hS, hRr, hO, HCs, HL0, Lib.hid (RowQC.nil _ _ _ _)⟩
        case round =>
          clear e0 e1 e2 e3 e4 o0 o1 o2 o3 o4 hS hRr hO HL0 HL2 HCs HB1 hWr
          obtain ⟨wr2, q, Aq, cq, rfl, hq, rfl, hB, hWrH, hS, hRr, hO, hCs, hL, hR⟩ := hrel
          obtain ⟨e0, e1, e2, e3, e4⟩ := hS.out.five
          obtain ⟨o0, o1, o2, o3, o4⟩ := hO.out.five
          by_cases hlt2 : q < m
          · obtain ⟨bb, o, x, kk, A, M, Cc, rfl, hb, y0, y1, y2, y3, y4, hx, hxA⟩ := hCs.out.at hlt2
            obtain ⟨hck, hxr⟩ := HKc.out q x hx
            have hUr := HU0.out.bel (hB.mono hBw)
            have hBr2 : B ≤ wr2.heap.size := by have := hB.size; omega
            have cc := fun (w' : World) (h : Below wr2.heap.size wr2 w') => hck A0 m0 d0 kk A M Cc w' (by have := h.size; omega) (hUr.bel (h.mono hBr2)) (ArC.bel (h.mono hBr2) x hxA)
            obtain ⟨hs, hH⟩ := hR.out
            have HH := Lib.hid hH
            obtain ⟨Av', cv', hv, hown⟩ := hH.slice
            have Hmore := Lib.hid (fun (w6 : World) (g cap : Nat) (K : SS) (A : Option Addr) (N C : Nat) => RowHC.more (w := w6) (lo := WL.heap.size) (g := g) (cap := cap) hH.1 (sbRl l Q x) K A N C)
            have Hx := Lib.hid hxr
            have hBd : Below wr2.heap.size wr2 wr2.drew := (Below.refl _ _).drew
            clear hx hxr hxA HKc hck hH hR hv hUr
            generalize flatC hs = XS at *
            unfold MixCU at cc
            generalize sbRl l Q x = xr at *
            generalize opC xr = opx at *
            generalize nmC xr = nmx at *
            generalize soC xr = nux at *
            generalize opC x = op' at *
            generalize nmC x = nm' at *
            generalize soC x = nu' at *
            obtain ⟨kka, kkn, kkc⟩ := kk
            dsimp only at y3 cc
            have hk0 : 0 ≤ (q : Int) := by omega
            have hk1 : (q : Int) < (m : Int) := by omega
            have hone : ∀ (K0 : Option Addr) (K1 K2 : Nat) (A : Option Addr) (N C : Nat), ∀ u ∈ [Value.int .i64 opx, .string nmx, .string nux, .slice K0 K1 K2, .slice A N C], u.oneCell' = true := fun K0 K1 K2 A N C u hu => by simp at hu; rcases hu with rfl | rfl | rfl | rfl | rfl <;> rfl
            have hlo2 : W2.heap.size = w.heap.size + 3 := HW.out
            have HW3 := Lib.hid hlo2
            have hWr := hWrH.out
            have hLL := HL3.out
            have HW4 := Lib.hid (show w.heap.size + 3 ≤ WL.heap.size by omega)
            clear hlo2 hLL
            have hWL4 : w.heap.size + 1 + 1 < WL.heap.size := by have := HW4.out; omega
            go_wp2_with fail
            go_region_law (first | ((refine step_append_lies _ (by rfl) _ _ _ (by rfl) WL.heap.size 25 j0 _ 5 88 Tryz.underlying23 hj0 hy0 hy1 hy2 rfl (by omega) (.slice Aq q cq) q XS (by rfl) hown5 ⟨w4.heap.size, 0, none⟩ 1 1 [.int .i64 opx, .string nmx, .string nux, .slice K0 K1 K2, .slice A4 N4 C4] (by rfl) (by rfl) (World.news_of_block (cs := #[.int .i64 opx, .string nmx, .string nux, .slice K0 K1 K2, .slice A4 N4 C4]) (t := 25) (fr := (0, 0)) X5) (hone K0 K1 K2 A4 N4 C4) (by omega) (by unfold maxLen; omega) (by omega) (by omega) W5.heap.size rfl ?_); intro gn cn w6 hown6 hgrow hat hlt6; have Hown6 := Lib.hid hown6; clear hown6; have S6 : CBox w6 (w.heap.size + 1 + 1) op nm nu ⟨Av, k, cv⟩ Aq q cq := Blk.grown O5 hgrow (fun e => by have := (World.ownsRow.lt hown5 _ e.symm).1; omega); obtain ⟨p0, p1, p2, p3, p4⟩ := S6.five; obtain ⟨f0, f1, f2, f3, f4⟩ := S6.free; have HS6 := Lib.hid S6; clear S6) | (go_simp; go_at_call 37; ((with_reducible refine (cc _ (by assumption)).mono ?_); rintro e w4 ⟨⟨K0, K1, K2⟩, A4, N4, C4, rfl, hA4', hb4'⟩; have hb4 : Below wr2.heap.size wr2 w4 := bel_trans hBd hb4'; have hA4 := Lib.hid hA4'; clear hA4'; have hq4 := hb4.size; obtain ⟨W5, hW5, hb5, hs5, X5⟩ := cbox1 w4 opx nmx nux ⟨K0, K1, K2⟩ A4 N4 C4; dsimp only at hW5; have hq5 := hb5.size; clear hs5; have b45 := bel_trans hb4 hb5; have O4 := CBox.b hO.out hb4; have O5 := CBox.b O4 hb5; obtain ⟨z0, z1, z2, z3, z4⟩ := O4.five; obtain ⟨t0, t1, t2, t3, t4⟩ := O5.five; have hown5 := ownsRow_belowC hown b45)))
            all_goals
              have Hn := Lib.hid (HH.out.step (by omega) (by omega) hb4 hA4.out hb5 Hx.out (Hmore.out w6 gn cn ⟨K0, K1, K2⟩ A4 N4 C4 Hown6.out) hgrow rfl hat)
              have hB5 : Below w.heap.size w W5 := bel_trans hB b45
              have B6 : Below w.heap.size w w6 := hB5.grown hgrow hB5.size (fun q hq => by have := (World.ownsRow.lt hown5 q hq).1; omega)
              have hw6 : WL.heap.size ≤ w6.heap.size := by have := hgrow.size; omega
              have hz := HW3.out
              have hz4 := HW4.out
              have nbw : ∀ b, b < WL.heap.size → some b ≠ (Value.slice Aq q cq).ownBlock := fun b hb e => by have := (World.ownsRow.lt hown5 b e.symm).1; omega
              have HS7 := Lib.hid (CBox.far (Blk.grown (CBox.b hS.out b45) hgrow (nbw _ (by omega)) : CBox w6 w.heap.size op nm nu ⟨ka, k, kc⟩ (some ⟨bb, o, none⟩) m c) (show w.heap.size + 1 + 1 ≠ w.heap.size by omega) 4 (.slice (some ⟨gn, 0, none⟩) (q + 1) cn))
              have HR7 := Lib.hid (CBox.far (Blk.grown (CBox.b hRr.out b45) hgrow (nbw _ (by omega)) : CBox w6 (w.heap.size + 1) 0 ⟨#[]⟩ ⟨#[]⟩ SS.nil none 0 0) (show w.heap.size + 1 + 1 ≠ w.heap.size + 1 by omega) 4 (.slice (some ⟨gn, 0, none⟩) (q + 1) cn))
              have HO7 := Lib.hid (CBox.su HS6.out (some ⟨gn, 0, none⟩) (q + 1) cn)
              have B7 : Below w.heap.size w (w6.setCell ⟨w.heap.size + 1 + 1, 4, none⟩ (.slice (some ⟨gn, 0, none⟩) (q + 1) cn)) := below_set B6 (by omega) _ _
              have HC7 := Lib.hid (HC0.out.bel (B7.mono hBw))
              have HN7 := Lib.hid (rowQC_far Hn.out (w' := w6.setCell ⟨w.heap.size + 1 + 1, 4, none⟩ (.slice (some ⟨gn, 0, none⟩) (q + 1) cn)) (by simp [World.setCell]) (fun b hb => heap_setCell_other w6 ⟨w.heap.size + 1 + 1, 4, none⟩ b _ (by show b ≠ w.heap.size + 1 + 1; omega)))
              have hw7 := Lib.hid (show WL.heap.size ≤ (w6.setCell ⟨w.heap.size + 1 + 1, 4, none⟩ (.slice (some ⟨gn, 0, none⟩) (q + 1) cn)).heap.size by simp [World.setCell]; exact hw6)
              have HL7 := Lib.hid (show ∀ b, (b < B ∨ W2.heap.size ≤ b) → b < WL.heap.size → (w6.setCell ⟨w.heap.size + 1 + 1, 4, none⟩ (.slice (some ⟨gn, 0, none⟩) (q + 1) cn)).heap[b]? = WL.heap[b]? from fun b hb hb2 => (heap_setCell_other w6 ⟨w.heap.size + 1 + 1, 4, none⟩ b _ (by show b ≠ w.heap.size + 1 + 1; omega)).trans ((hgrow.block b (by omega) (nbw b hb2)).trans ((b45.block b (by omega)).trans (hL.out b hb hb2))))
              clear hz hz4 nbw hat hgrow hlt6 Hn
              go_wp2
              go_roundw
              case rel => exact ⟨_, q + 1, some ⟨gn, 0, none⟩, cn, rfl, by omega, by go_num, B7, hw7, HS7, HR7, HO7, HC7, HL7, HN7⟩
              case measure => simp [intOf]; omega
          · obtain rfl : q = m := by omega
            have hz := Lib.hid HW.out
            obtain ⟨v0, v1, v2, v3, v4⟩ := hRr.out.five
            obtain ⟨r0, r1, r2, r3, r4⟩ := hRr.out.free
            have F3 := CBox.put hRr.out op nm nu ⟨Av, k, cv⟩ Aq q cq
            have HF5 := Lib.hid (HFin.out WL wr2 _ Av cv Aq cq HL1.out hR.out hL.out HL3.out hWrH.out (put5_size wr2 (w.heap.size + 1) (.int .i64 op) (.string nm) (.string nu) (.slice Av k cv) (.slice Aq q cq)) (fun b hb => put5_other _ _ _ _ _ _ _ _ (by have := hz.out; omega)) (put5_below hB (by omega) _ _ _ _ _))
            unfold put5 at F3 HF5
            obtain ⟨x0, x1, x2, x3, x4⟩ := F3.five
            clear F3 HKc hS hRr hO hCs hL hR HC0 HFin
            go_wp2
            simp [bodyPost, results, Tryz.results37, go_sem, x0, x1, x2, x3, x4]
            exact HF5.out
      · by_cases h12 : op = 12
        · have hb1 : (op == 11) = false := beq_no' h11
          have hb2 : (op == 12) = true := by rw [h12]; rfl
          have hWQ2 : IntKind.i64.wrap (D + 1) = Q := hWQ.trans (by rw [← hQ, if_pos (.inr h12)])
          clear hQ h12 h11 hWQ
          go_wp2
          go_loopw [9] (fun i wr0 => ∃ (wr : World) (q : Nat) (Aq : Option Addr) (cq : Nat), wr = wr0 ∧ q ≤ m ∧ i = .int .i64 q ∧ Below w.heap.size w wr ∧ Hid (WL.heap.size ≤ wr.heap.size) ∧ Hid (CBox wr w.heap.size op nm nu ⟨ka, k, kc⟩ a m c) ∧ Hid (CBox wr (w.heap.size + 1) 0 ⟨#[]⟩ ⟨#[]⟩ SS.nil none 0 0) ∧ Hid (CBox wr (w.heap.size + 1 + 1) op nm nu ⟨Av, k, cv⟩ Aq q cq) ∧ Hid (IsC B wr a m c la) ∧ Hid (∀ b, (b < B ∨ W2.heap.size ≤ b) → b < WL.heap.size → wr.heap[b]? = WL.heap[b]?) ∧ Hid (RowQC B WL.heap.size wr (.slice Aq q cq) lar q)) (fun i _ => m - (intOf i).toNat)
          case atStart => exact ⟨_, 0, none, 0, rfl, by omega, rfl, HB1.out, HL2, hS, hRr, hO, HCs, HL0, Lib.hid (RowQC.nil _ _ _ _)⟩
          case round =>
            clear e0 e1 e2 e3 e4 o0 o1 o2 o3 o4 hS hRr hO HL0 HL2 HCs HB1 hWr
            obtain ⟨wr2, q, Aq, cq, rfl, hq, rfl, hB, hWrH, hS, hRr, hO, hCs, hL, hR⟩ := hrel
            obtain ⟨e0, e1, e2, e3, e4⟩ := hS.out.five
            obtain ⟨o0, o1, o2, o3, o4⟩ := hO.out.five
            by_cases hlt2 : q < m
            · obtain ⟨bb, o, x, kk, A, M, Cc, rfl, hb, y0, y1, y2, y3, y4, hx, hxA⟩ := hCs.out.at hlt2
              obtain ⟨hck, hxr⟩ := HKc.out q x hx
              have hUr := HU0.out.bel (hB.mono hBw)
              have hBr2 : B ≤ wr2.heap.size := by have := hB.size; omega
              have cc := fun (w' : World) (h : Below wr2.heap.size wr2 w') => hck A0 m0 d0 kk A M Cc w' (by have := h.size; omega) (hUr.bel (h.mono hBr2)) (ArC.bel (h.mono hBr2) x hxA)
              obtain ⟨hs, hH⟩ := hR.out
              have HH := Lib.hid hH
              obtain ⟨Av', cv', hv, hown⟩ := hH.slice
              have Hmore := Lib.hid (fun (w6 : World) (g cap : Nat) (K : SS) (A : Option Addr) (N C : Nat) => RowHC.more (w := w6) (lo := WL.heap.size) (g := g) (cap := cap) hH.1 (sbRl l Q x) K A N C)
              have Hx := Lib.hid hxr
              have hBd : Below wr2.heap.size wr2 wr2.drew := (Below.refl _ _).drew
              clear hx hxr hxA HKc hck hH hR hv hUr
              generalize flatC hs = XS at *
              unfold MixCU at cc
              generalize sbRl l Q x = xr at *
              generalize opC xr = opx at *
              generalize nmC xr = nmx at *
              generalize soC xr = nux at *
              generalize opC x = op' at *
              generalize nmC x = nm' at *
              generalize soC x = nu' at *
              obtain ⟨kka, kkn, kkc⟩ := kk
              dsimp only at y3 cc
              have hk0 : 0 ≤ (q : Int) := by omega
              have hk1 : (q : Int) < (m : Int) := by omega
              have hone : ∀ (K0 : Option Addr) (K1 K2 : Nat) (A : Option Addr) (N C : Nat), ∀ u ∈ [Value.int .i64 opx, .string nmx, .string nux, .slice K0 K1 K2, .slice A N C], u.oneCell' = true := fun K0 K1 K2 A N C u hu => by simp at hu; rcases hu with rfl | rfl | rfl | rfl | rfl <;> rfl
              have hlo2 : W2.heap.size = w.heap.size + 3 := HW.out
              have HW3 := Lib.hid hlo2
              have hWr := hWrH.out
              have hLL := HL3.out
              have HW4 := Lib.hid (show w.heap.size + 3 ≤ WL.heap.size by omega)
              clear hlo2 hLL
              have hWL4 : w.heap.size + 1 + 1 < WL.heap.size := by have := HW4.out; omega
              go_wp2_with fail
              go_region_law (first | ((refine step_append_lies _ (by rfl) _ _ _ (by rfl) WL.heap.size 25 j0 _ 5 88 Tryz.underlying23 hj0 hy0 hy1 hy2 rfl (by omega) (.slice Aq q cq) q XS (by rfl) hown5 ⟨w4.heap.size, 0, none⟩ 1 1 [.int .i64 opx, .string nmx, .string nux, .slice K0 K1 K2, .slice A4 N4 C4] (by rfl) (by rfl) (World.news_of_block (cs := #[.int .i64 opx, .string nmx, .string nux, .slice K0 K1 K2, .slice A4 N4 C4]) (t := 25) (fr := (0, 0)) X5) (hone K0 K1 K2 A4 N4 C4) (by omega) (by unfold maxLen; omega) (by omega) (by omega) W5.heap.size rfl ?_); intro gn cn w6 hown6 hgrow hat hlt6; have Hown6 := Lib.hid hown6; clear hown6; have S6 : CBox w6 (w.heap.size + 1 + 1) op nm nu ⟨Av, k, cv⟩ Aq q cq := Blk.grown O5 hgrow (fun e => by have := (World.ownsRow.lt hown5 _ e.symm).1; omega); obtain ⟨p0, p1, p2, p3, p4⟩ := S6.five; obtain ⟨f0, f1, f2, f3, f4⟩ := S6.free; have HS6 := Lib.hid S6; clear S6) | (go_simp; go_at_call 37; ((with_reducible refine (cc _ (by assumption)).mono ?_); rintro e w4 ⟨⟨K0, K1, K2⟩, A4, N4, C4, rfl, hA4', hb4'⟩; have hb4 : Below wr2.heap.size wr2 w4 := bel_trans hBd hb4'; have hA4 := Lib.hid hA4'; clear hA4'; have hq4 := hb4.size; obtain ⟨W5, hW5, hb5, hs5, X5⟩ := cbox1 w4 opx nmx nux ⟨K0, K1, K2⟩ A4 N4 C4; dsimp only at hW5; have hq5 := hb5.size; clear hs5; have b45 := bel_trans hb4 hb5; have O4 := CBox.b hO.out hb4; have O5 := CBox.b O4 hb5; obtain ⟨z0, z1, z2, z3, z4⟩ := O4.five; obtain ⟨t0, t1, t2, t3, t4⟩ := O5.five; have hown5 := ownsRow_belowC hown b45)))
              all_goals
                have Hn := Lib.hid (HH.out.step (by omega) (by omega) hb4 hA4.out hb5 Hx.out (Hmore.out w6 gn cn ⟨K0, K1, K2⟩ A4 N4 C4 Hown6.out) hgrow rfl hat)
                have hB5 : Below w.heap.size w W5 := bel_trans hB b45
                have B6 : Below w.heap.size w w6 := hB5.grown hgrow hB5.size (fun q hq => by have := (World.ownsRow.lt hown5 q hq).1; omega)
                have hw6 : WL.heap.size ≤ w6.heap.size := by have := hgrow.size; omega
                have hz := HW3.out
                have hz4 := HW4.out
                have nbw : ∀ b, b < WL.heap.size → some b ≠ (Value.slice Aq q cq).ownBlock := fun b hb e => by have := (World.ownsRow.lt hown5 b e.symm).1; omega
                have HS7 := Lib.hid (CBox.far (Blk.grown (CBox.b hS.out b45) hgrow (nbw _ (by omega)) : CBox w6 w.heap.size op nm nu ⟨ka, k, kc⟩ (some ⟨bb, o, none⟩) m c) (show w.heap.size + 1 + 1 ≠ w.heap.size by omega) 4 (.slice (some ⟨gn, 0, none⟩) (q + 1) cn))
                have HR7 := Lib.hid (CBox.far (Blk.grown (CBox.b hRr.out b45) hgrow (nbw _ (by omega)) : CBox w6 (w.heap.size + 1) 0 ⟨#[]⟩ ⟨#[]⟩ SS.nil none 0 0) (show w.heap.size + 1 + 1 ≠ w.heap.size + 1 by omega) 4 (.slice (some ⟨gn, 0, none⟩) (q + 1) cn))
                have HO7 := Lib.hid (CBox.su HS6.out (some ⟨gn, 0, none⟩) (q + 1) cn)
                have B7 : Below w.heap.size w (w6.setCell ⟨w.heap.size + 1 + 1, 4, none⟩ (.slice (some ⟨gn, 0, none⟩) (q + 1) cn)) := below_set B6 (by omega) _ _
                have HC7 := Lib.hid (HC0.out.bel (B7.mono hBw))
                have HN7 := Lib.hid (rowQC_far Hn.out (w' := w6.setCell ⟨w.heap.size + 1 + 1, 4, none⟩ (.slice (some ⟨gn, 0, none⟩) (q + 1) cn)) (by simp [World.setCell]) (fun b hb => heap_setCell_other w6 ⟨w.heap.size + 1 + 1, 4, none⟩ b _ (by show b ≠ w.heap.size + 1 + 1; omega)))
                have hw7 := Lib.hid (show WL.heap.size ≤ (w6.setCell ⟨w.heap.size + 1 + 1, 4, none⟩ (.slice (some ⟨gn, 0, none⟩) (q + 1) cn)).heap.size by simp [World.setCell]; exact hw6)
                have HL7 := Lib.hid (show ∀ b, (b < B ∨ W2.heap.size ≤ b) → b < WL.heap.size → (w6.setCell ⟨w.heap.size + 1 + 1, 4, none⟩ (.slice (some ⟨gn, 0, none⟩) (q + 1) cn)).heap[b]? = WL.heap[b]? from fun b hb hb2 => (heap_setCell_other w6 ⟨w.heap.size + 1 + 1, 4, none⟩ b _ (by show b ≠ w.heap.size + 1 + 1; omega)).trans ((hgrow.block b (by omega) (nbw b hb2)).trans ((b45.block b (by omega)).trans (hL.out b hb hb2))))
                clear hz hz4 nbw hat hgrow hlt6 Hn
                go_wp2
                go_roundw
                case rel => exact ⟨_, q + 1, some ⟨gn, 0, none⟩, cn, rfl, by omega, by go_num, B7, hw7, HS7, HR7, HO7, HC7, HL7, HN7⟩
                case measure => simp [intOf]; omega
            · obtain rfl : q = m := by omega
              have hz := Lib.hid HW.out
              obtain ⟨v0, v1, v2, v3, v4⟩ := hRr.out.five
              obtain ⟨r0, r1, r2, r3, r4⟩ := hRr.out.free
              have F3 := CBox.put hRr.out op nm nu ⟨Av, k, cv⟩ Aq q cq
              have HF5 := Lib.hid (HFin.out WL wr2 _ Av cv Aq cq HL1.out hR.out hL.out HL3.out hWrH.out (put5_size wr2 (w.heap.size + 1) (.int .i64 op) (.string nm) (.string nu) (.slice Av k cv) (.slice Aq q cq)) (fun b hb => put5_other _ _ _ _ _ _ _ _ (by have := hz.out; omega)) (put5_below hB (by omega) _ _ _ _ _))
              unfold put5 at F3 HF5
              obtain ⟨x0, x1, x2, x3, x4⟩ := F3.five
              clear F3 HKc hS hRr hO hCs hL hR HC0 HFin
              go_wp2
              simp [bodyPost, results, Tryz.results37, go_sem, x0, x1, x2, x3, x4]
              exact HF5.out
        · have hb1 : (op == 11) = false := beq_no' h11
          have hb2 : (op == 12) = false := beq_no' h12
          obtain rfl : Q = D := by rw [← hQ, if_neg (by rintro (h | h) <;> contradiction)]
          clear hQ h12 h11 hWQ
          go_wp2
          go_loopw [9] (fun i wr0 => ∃ (wr : World) (q : Nat) (Aq : Option Addr) (cq : Nat), wr = wr0 ∧ q ≤ m ∧ i = .int .i64 q ∧ Below w.heap.size w wr ∧ Hid (WL.heap.size ≤ wr.heap.size) ∧ Hid (CBox wr w.heap.size op nm nu ⟨ka, k, kc⟩ a m c) ∧ Hid (CBox wr (w.heap.size + 1) 0 ⟨#[]⟩ ⟨#[]⟩ SS.nil none 0 0) ∧ Hid (CBox wr (w.heap.size + 1 + 1) op nm nu ⟨Av, k, cv⟩ Aq q cq) ∧ Hid (IsC B wr a m c la) ∧ Hid (∀ b, (b < B ∨ W2.heap.size ≤ b) → b < WL.heap.size → wr.heap[b]? = WL.heap[b]?) ∧ Hid (RowQC B WL.heap.size wr (.slice Aq q cq) lar q)) (fun i _ => m - (intOf i).toNat)
          case atStart => exact ⟨_, 0, none, 0, rfl, by omega, rfl, HB1.out, HL2, hS, hRr, hO, HCs, HL0, Lib.hid (RowQC.nil _ _ _ _)⟩
          case round =>
            clear e0 e1 e2 e3 e4 o0 o1 o2 o3 o4 hS hRr hO HL0 HL2 HCs HB1 hWr
            obtain ⟨wr2, q, Aq, cq, rfl, hq, rfl, hB, hWrH, hS, hRr, hO, hCs, hL, hR⟩ := hrel
            obtain ⟨e0, e1, e2, e3, e4⟩ := hS.out.five
            obtain ⟨o0, o1, o2, o3, o4⟩ := hO.out.five
            by_cases hlt2 : q < m
            · obtain ⟨bb, o, x, kk, A, M, Cc, rfl, hb, y0, y1, y2, y3, y4, hx, hxA⟩ := hCs.out.at hlt2
              obtain ⟨hck, hxr⟩ := HKc.out q x hx
              have hUr := HU0.out.bel (hB.mono hBw)
              have hBr2 : B ≤ wr2.heap.size := by have := hB.size; omega
              have cc := fun (w' : World) (h : Below wr2.heap.size wr2 w') => hck A0 m0 d0 kk A M Cc w' (by have := h.size; omega) (hUr.bel (h.mono hBr2)) (ArC.bel (h.mono hBr2) x hxA)
              obtain ⟨hs, hH⟩ := hR.out
              have HH := Lib.hid hH
              obtain ⟨Av', cv', hv, hown⟩ := hH.slice
              have Hmore := Lib.hid (fun (w6 : World) (g cap : Nat) (K : SS) (A : Option Addr) (N C : Nat) => RowHC.more (w := w6) (lo := WL.heap.size) (g := g) (cap := cap) hH.1 (sbRl l Q x) K A N C)
              have Hx := Lib.hid hxr
              have hBd : Below wr2.heap.size wr2 wr2.drew := (Below.refl _ _).drew
              clear hx hxr hxA HKc hck hH hR hv hUr
              generalize flatC hs = XS at *
              unfold MixCU at cc
              generalize sbRl l Q x = xr at *
              generalize opC xr = opx at *
              generalize nmC xr = nmx at *
              generalize soC xr = nux at *
              generalize opC x = op' at *
              generalize nmC x = nm' at *
              generalize soC x = nu' at *
              obtain ⟨kka, kkn, kkc⟩ := kk
              dsimp only at y3 cc
              have hk0 : 0 ≤ (q : Int) := by omega
              have hk1 : (q : Int) < (m : Int) := by omega
              have hone : ∀ (K0 : Option Addr) (K1 K2 : Nat) (A : Option Addr) (N C : Nat), ∀ u ∈ [Value.int .i64 opx, .string nmx, .string nux, .slice K0 K1 K2, .slice A N C], u.oneCell' = true := fun K0 K1 K2 A N C u hu => by simp at hu; rcases hu with rfl | rfl | rfl | rfl | rfl <;> rfl
              have hlo2 : W2.heap.size = w.heap.size + 3 := HW.out
              have HW3 := Lib.hid hlo2
              have hWr := hWrH.out
              have hLL := HL3.out
              have HW4 := Lib.hid (show w.heap.size + 3 ≤ WL.heap.size by omega)
              clear hlo2 hLL
              have hWL4 : w.heap.size + 1 + 1 < WL.heap.size := by have := HW4.out; omega
              go_wp2_with fail
              go_region_law (first | ((refine step_append_lies _ (by rfl) _ _ _ (by rfl) WL.heap.size 25 j0 _ 5 88 Tryz.underlying23 hj0 hy0 hy1 hy2 rfl (by omega) (.slice Aq q cq) q XS (by rfl) hown5 ⟨w4.heap.size, 0, none⟩ 1 1 [.int .i64 opx, .string nmx, .string nux, .slice K0 K1 K2, .slice A4 N4 C4] (by rfl) (by rfl) (World.news_of_block (cs := #[.int .i64 opx, .string nmx, .string nux, .slice K0 K1 K2, .slice A4 N4 C4]) (t := 25) (fr := (0, 0)) X5) (hone K0 K1 K2 A4 N4 C4) (by omega) (by unfold maxLen; omega) (by omega) (by omega) W5.heap.size rfl ?_); intro gn cn w6 hown6 hgrow hat hlt6; have Hown6 := Lib.hid hown6; clear hown6; have S6 : CBox w6 (w.heap.size + 1 + 1) op nm nu ⟨Av, k, cv⟩ Aq q cq := Blk.grown O5 hgrow (fun e => by have := (World.ownsRow.lt hown5 _ e.symm).1; omega); obtain ⟨p0, p1, p2, p3, p4⟩ := S6.five; obtain ⟨f0, f1, f2, f3, f4⟩ := S6.free; have HS6 := Lib.hid S6; clear S6) | (go_simp; go_at_call 37; ((with_reducible refine (cc _ (by assumption)).mono ?_); rintro e w4 ⟨⟨K0, K1, K2⟩, A4, N4, C4, rfl, hA4', hb4'⟩; have hb4 : Below wr2.heap.size wr2 w4 := bel_trans hBd hb4'; have hA4 := Lib.hid hA4'; clear hA4'; have hq4 := hb4.size; obtain ⟨W5, hW5, hb5, hs5, X5⟩ := cbox1 w4 opx nmx nux ⟨K0, K1, K2⟩ A4 N4 C4; dsimp only at hW5; have hq5 := hb5.size; clear hs5; have b45 := bel_trans hb4 hb5; have O4 := CBox.b hO.out hb4; have O5 := CBox.b O4 hb5; obtain ⟨z0, z1, z2, z3, z4⟩ := O4.five; obtain ⟨t0, t1, t2, t3, t4⟩ := O5.five; have hown5 := ownsRow_belowC hown b45)))
              all_goals
                have Hn := Lib.hid (HH.out.step (by omega) (by omega) hb4 hA4.out hb5 Hx.out (Hmore.out w6 gn cn ⟨K0, K1, K2⟩ A4 N4 C4 Hown6.out) hgrow rfl hat)
                have hB5 : Below w.heap.size w W5 := bel_trans hB b45
                have B6 : Below w.heap.size w w6 := hB5.grown hgrow hB5.size (fun q hq => by have := (World.ownsRow.lt hown5 q hq).1; omega)
                have hw6 : WL.heap.size ≤ w6.heap.size := by have := hgrow.size; omega
                have hz := HW3.out
                have hz4 := HW4.out
                have nbw : ∀ b, b < WL.heap.size → some b ≠ (Value.slice Aq q cq).ownBlock := fun b hb e => by have := (World.ownsRow.lt hown5 b e.symm).1; omega
                have HS7 := Lib.hid (CBox.far (Blk.grown (CBox.b hS.out b45) hgrow (nbw _ (by omega)) : CBox w6 w.heap.size op nm nu ⟨ka, k, kc⟩ (some ⟨bb, o, none⟩) m c) (show w.heap.size + 1 + 1 ≠ w.heap.size by omega) 4 (.slice (some ⟨gn, 0, none⟩) (q + 1) cn))
                have HR7 := Lib.hid (CBox.far (Blk.grown (CBox.b hRr.out b45) hgrow (nbw _ (by omega)) : CBox w6 (w.heap.size + 1) 0 ⟨#[]⟩ ⟨#[]⟩ SS.nil none 0 0) (show w.heap.size + 1 + 1 ≠ w.heap.size + 1 by omega) 4 (.slice (some ⟨gn, 0, none⟩) (q + 1) cn))
                have HO7 := Lib.hid (CBox.su HS6.out (some ⟨gn, 0, none⟩) (q + 1) cn)
                have B7 : Below w.heap.size w (w6.setCell ⟨w.heap.size + 1 + 1, 4, none⟩ (.slice (some ⟨gn, 0, none⟩) (q + 1) cn)) := below_set B6 (by omega) _ _
                have HC7 := Lib.hid (HC0.out.bel (B7.mono hBw))
                have HN7 := Lib.hid (rowQC_far Hn.out (w' := w6.setCell ⟨w.heap.size + 1 + 1, 4, none⟩ (.slice (some ⟨gn, 0, none⟩) (q + 1) cn)) (by simp [World.setCell]) (fun b hb => heap_setCell_other w6 ⟨w.heap.size + 1 + 1, 4, none⟩ b _ (by show b ≠ w.heap.size + 1 + 1; omega)))
                have hw7 := Lib.hid (show WL.heap.size ≤ (w6.setCell ⟨w.heap.size + 1 + 1, 4, none⟩ (.slice (some ⟨gn, 0, none⟩) (q + 1) cn)).heap.size by simp [World.setCell]; exact hw6)
                have HL7 := Lib.hid (show ∀ b, (b < B ∨ W2.heap.size ≤ b) → b < WL.heap.size → (w6.setCell ⟨w.heap.size + 1 + 1, 4, none⟩ (.slice (some ⟨gn, 0, none⟩) (q + 1) cn)).heap[b]? = WL.heap[b]? from fun b hb hb2 => (heap_setCell_other w6 ⟨w.heap.size + 1 + 1, 4, none⟩ b _ (by show b ≠ w.heap.size + 1 + 1; omega)).trans ((hgrow.block b (by omega) (nbw b hb2)).trans ((b45.block b (by omega)).trans (hL.out b hb hb2))))
                clear hz hz4 nbw hat hgrow hlt6 Hn
                go_wp2
                go_roundw
                case rel => exact ⟨_, q + 1, some ⟨gn, 0, none⟩, cn, rfl, by omega, by go_num, B7, hw7, HS7, HR7, HO7, HC7, HL7, HN7⟩
                case measure => simp [intOf]; omega
            · obtain rfl : q = m := by omega
              have hz := Lib.hid HW.out
              obtain ⟨v0, v1, v2, v3, v4⟩ := hRr.out.five
              obtain ⟨r0, r1, r2, r3, r4⟩ := hRr.out.free
              have F3 := CBox.put hRr.out op nm nu ⟨Av, k, cv⟩ Aq q cq
              have HF5 := Lib.hid (HFin.out WL wr2 _ Av cv Aq cq HL1.out hR.out hL.out HL3.out hWrH.out (put5_size wr2 (w.heap.size + 1) (.int .i64 op) (.string nm) (.string nu) (.slice Av k cv) (.slice Aq q cq)) (fun b hb => put5_other _ _ _ _ _ _ _ _ (by have := hz.out; omega)) (put5_below hB (by omega) _ _ _ _ _))
              unfold put5 at F3 HF5
              obtain ⟨x0, x1, x2, x3, x4⟩ := F3.five
              clear F3 HKc hS hRr hO hCs hL hR HC0 HFin
              go_wp2
              simp [bodyPost, results, Tryz.results37, go_sem, x0, x1, x2, x3, x4]
              exact HF5.out
theorem RefCl_any (l : List Pr) (hls : ∀ p ∈ l, size p.t ≤ 1000000) (t : Cl) : RefClOk l t := Cl.ind (RefCl_step l hls) t
end Go.Proofs.YtnhemglpbhnmdaaGreat.U
