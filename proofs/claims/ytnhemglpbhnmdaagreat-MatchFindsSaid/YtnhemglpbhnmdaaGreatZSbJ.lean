/-
  What is proved: a claim with the terms of a substitution in place of its variables, as package subst makes it.
-/
import Derived.Test.YtnhemglpbhnmdaaGreatZSbMc
import Derived.Test.YtnhemglpbhnmdaaGreatBM
import Derived.Test.YtnhemglpbhnmdaaGreatBB
namespace Go.Proofs.YtnhemglpbhnmdaaGreat.U
open Go.RowKit L T C B
set_option linter.unusedVariables false
set_option linter.unusedSimpArgs false

mutual
def sbCl (l : List Pr) (K : Int) : Cl → Cl
  | .mk o s z ts cs => .mk o s z (ts.map (sbT (getK l K))) (sbCls l (if o = 11 ∨ o = 12 then K + 1 else K) cs)
def sbCls (l : List Pr) (K : Int) : List Cl → List Cl
  | [] => []
  | c :: cs => sbCl l K c :: sbCls l K cs
end
theorem sbCls_map (l : List Pr) (K : Int) : ∀ cs : List Cl, sbCls l K cs = cs.map (sbCl l K)
  | [] => by rw [sbCls]; rfl
  | c :: cs => by rw [sbCls, sbCls_map l K cs]; rfl
theorem sbCl_mk (l : List Pr) (K : Int) (t : Cl) : sbCl l K t = .mk (opC t) (nmC t) (soC t) ((tsC t).map (sbT (getK l K))) ((subC t).map (sbCl l (if opC t = 11 ∨ opC t = 12 then K + 1 else K))) := by
  cases t with | mk o s z ts cs => rw [sbCl, sbCls_map]; rfl
/-! names of a size that texts have, in all terms of a claim -/
mutual
def smC : Cl → Prop
  | .mk _ _ _ ts l => smTs ts ∧ smCs l
def smCs : List Cl → Prop
  | [] => True
  | t :: l => smC t ∧ smCs l
end
theorem smCs_of : ∀ {l : List Cl}, (∀ k (h : k < l.length), smC l[k]) → smCs l
  | [], _ => by rw [smCs]; trivial
  | t :: l, h => by
    rw [smCs]
    exact ⟨h 0 (by simp), smCs_of fun k hk => h (k + 1) (by simpa using hk)⟩
theorem smCs_at : ∀ {l : List Cl} {k : Nat} {t : Cl}, smCs l → l[k]? = some t → smC t
  | [], k, t, _, h => by simp at h
  | u :: l, 0, t, h, e => by rw [smCs] at h; simp at e; rw [← e]; exact h.1
  | u :: l, k + 1, t, h, e => by rw [smCs] at h; exact smCs_at h.2 (by simpa using e)
theorem smC_parts {t : Cl} (h : smC t) : smTs (tsC t) ∧ smCs (subC t) := by cases t; rw [smC] at h; exact h
def IncCOk (l : List Pr) (K : Int) (t : Tm) : Prop := ∀ (B g p q : Nat) (a : Option Addr) (m c : Nat) (w : World), MapU B w g l → B ≤ w.heap.size → smT t → size t ≤ 1000000 → ArW w t a m c → Blk w p #[.map (some g)] 74 → Blk w q #[.int .i64 K] 3 →
  Calls Tryz.prog 92 #[.agg #[.int .i64 (opT t), .string (nameT t), .int .i64 (numT t), .slice a m c], .pointer (some ⟨p, 0, none⟩), .pointer (some ⟨q, 0, none⟩)] w fun e w' => RtT (sbT (getK l K) t) w e w'
set_option maxRecDepth 100000 in
set_option maxHeartbeats 4000000 in
theorem inC1_of {l : List Pr} {K : Int} {t : Tm} (ht : InOk l K t) : IncCOk l K t := by
  intro B g p q a m c w hM hBw hsm hsz hA hp hq
  obtain ⟨W2, hW2, hB2, hs, S2, R2⟩ := box_res w (opT t) (nameT t) (numT t) a m c
  have cc := ht B g a m c W2 (hM.b hBw hB2) (Nat.le_trans hBw hB2.size) hsm hsz (ArW.b hA hB2)
  obtain ⟨s0, s1, s2, s3⟩ := S2.four
  have p0 := Blk.cell (Blk.below hp hB2) 0
  have q0 := Blk.cell (Blk.below hq hB2) 0
  have HR := Lib.hid R2
  have HFin := Lib.hid (show ∀ (r : Tm) (w3 : World) (a3 : Option Addr) (n3 c3 : Nat), ArP (Nw 0 0 W2.heap.size w3.heap.size) w3 r a3 n3 c3 → Below W2.heap.size W2 w3 → ∀ v0 v1 v2 v3, RtT r w (.returned (.agg #[.int .i64 (opT r), .string (nameT r), .int .i64 (numT r), .slice a3 n3 c3])) ((((w3.setCell ⟨w.heap.size + 1, 0, none⟩ v0).setCell ⟨w.heap.size + 1, 1, none⟩ v1).setCell ⟨w.heap.size + 1, 2, none⟩ v2).setCell ⟨w.heap.size + 1, 3, none⟩ v3) from fun r w3 a3 n3 c3 h1 h2 v0 v1 v2 v3 => rt_put hB2 (by omega) (by omega) h1 h2 v0 v1 v2 v3)
  clear hA hM S2 R2 ht hsz hp hq hsm
  unfold RtT at cc
  generalize opT t = op at *
  generalize nameT t = nm at *
  generalize numT t = nu at *
  generalize sbT (getK l K) t = r at *
  go_enter Tryz.func92, Tryz.ntmps92
  go_wp2_with (go_at_call 46; ((with_reducible refine cc.mono ?_); rintro e w3 ⟨a3, n3, c3, rfl, hF, hb3⟩; have Hn := Lib.hid (HFin.out r w3 a3 n3 c3 hF hb3); clear hF; have R3 := TBox.b HR.out hb3; obtain ⟨r0, r1, r2, r3⟩ := R3.free; obtain ⟨v0, v1, v2, v3⟩ := R3.four; have F3 := TBox.put R3 (opT r) (nameT r) (numT r) a3 n3 c3; obtain ⟨x0, x1, x2, x3⟩ := F3.four))
  simp [bodyPost, results, Tryz.results92, go_sem, x0, x1, x2, x3]
  exact Hn.out _ _ _ _

def InCOk (l : List Pr) (t : Cl) : Prop := ∀ (K : Int) (B g : Nat) (ks : SS) (a : Option Addr) (m c : Nat) (w : World), 0 ≤ K → K + (wt t : Int) ≤ 1000000000 → MapU B w g l → B ≤ w.heap.size → smC t → wt t ≤ 1000000 → ArWC w t ks a m c →
  Calls Tryz.prog 52 #[.map (some g), .agg #[.int .i64 (opC t), .string (nmC t), .string (soC t), .slice ks.a ks.n ks.c, .slice a m c], .int .i64 K] w fun e w' => RtC (sbCl l K t) w e w'
theorem cbox_res (w : World) (o : Int) (s z : ByteArray) (k : SS) (a : Option Addr) (n c : Nat) :
    ∃ W, (w.alloc (.cells #[.int .i64 o, .string s, .string z, .slice k.a k.n k.c, .slice a n c] 25)).alloc (.cells #[.int .i64 0, .string ⟨#[]⟩, .string ⟨#[]⟩, .slice none 0 0, .slice none 0 0] 25) = W ∧ Below w.heap.size w W ∧ W.heap.size = w.heap.size + 2 ∧ CBox W w.heap.size o s z k a n c ∧ CBox W (w.heap.size + 1) 0 ⟨#[]⟩ ⟨#[]⟩ SS.nil none 0 0 := cbox2 w o s z k a n c 0 ⟨#[]⟩ ⟨#[]⟩ SS.nil none 0 0
set_option maxRecDepth 100000 in
set_option maxHeartbeats 4000000 in
theorem inC2_of {l : List Pr} {t : Cl} (ht : InCOk l t) (K : Int) (hK : 0 ≤ K) (hK2 : K + (wt t : Int) ≤ 1000000000) (B g p q : Nat) (ks : SS) (a : Option Addr) (m c : Nat) (w : World) (hM : MapU B w g l) (hBw : B ≤ w.heap.size) (hsm : smC t) (hsz : wt t ≤ 1000000) (hA : ArWC w t ks a m c) (hp : Blk w p #[.map (some g)] 74) (hq : Blk w q #[.int .i64 K] 3) :
    Calls Tryz.prog 94 #[.agg #[.int .i64 (opC t), .string (nmC t), .string (soC t), .slice ks.a ks.n ks.c, .slice a m c], .pointer (some ⟨p, 0, none⟩), .pointer (some ⟨q, 0, none⟩)] w fun e w' => RtC (sbCl l K t) w e w' := by
  obtain ⟨W2, hW2, hB2, hs, S2, R2⟩ := cbox_res w (opC t) (nmC t) (soC t) ks a m c
  have cc := ht K B g ks a m c W2 hK hK2 (hM.b hBw hB2) (Nat.le_trans hBw hB2.size) hsm hsz (ArWC.b hA hB2)
  obtain ⟨s0, s1, s2, s3, s4⟩ := S2.five
  have p0 := Blk.cell (Blk.below hp hB2) 0
  have q0 := Blk.cell (Blk.below hq hB2) 0
  have HR := Lib.hid R2
  have HFin := Lib.hid (show ∀ (e : Ending) (w3 : World), RtC (sbCl l K t) W2 e w3 → ∀ v0 v1 v2 v3 v4, RtC (sbCl l K t) w e (put5 w3 (w.heap.size + 1) v0 v1 v2 v3 v4) from fun e w3 h v0 v1 v2 v3 v4 => rtC_put h hB2 (by omega) (by omega) v0 v1 v2 v3 v4)
  obtain ⟨KA, KN, KC⟩ := ks
  dsimp only at *
  clear hA hM S2 R2 ht hsz hp hq hsm hs hK hK2
  unfold put5 at HFin
  generalize hr : sbCl l K t = r at *
  clear hr
  have HC := Lib.hid (show ∀ (e : Ending) (w3 : World), RtC r W2 e w3 → RtC r W2 e w3 from fun _ _ h => h)
  generalize opC t = op at *
  generalize nmC t = nm at *
  generalize soC t = nu at *
  go_enter Tryz.func94, Tryz.ntmps94
  go_wp2_with (go_at_call 52; ((with_reducible refine cc.mono ?_); rintro e w3 hF; have hfin := HFin.out e w3 hF; obtain ⟨K0, K1, K2, a3, n3, c3, rfl, hA3, hb3⟩ := hF; have Hn := Lib.hid hfin; clear hfin hA3; have R3 := CBox.b HR.out hb3; obtain ⟨r0, r1, r2, r3, r4⟩ := R3.free; obtain ⟨v0, v1, v2, v3, v4⟩ := R3.five; have F3 := CBox.put R3 (opC r) (nmC r) (soC r) ⟨K0, K1, K2⟩ a3 n3 c3; unfold put5 at F3; obtain ⟨x0, x1, x2, x3, x4⟩ := F3.five))
  simp [bodyPost, results, Tryz.results94, go_sem, x0, x1, x2, x3, x4]
  exact Hn.out _ _ _ _ _
theorem inCBoxes (w : World) (g : Nat) (o : Int) (s z : ByteArray) (k : SS) (a : Option Addr) (n c : Nat) (K : Int) :
    ∃ W, (((w.alloc (.cells #[.map (some g)] 74)).alloc (.cells #[.int .i64 o, .string s, .string z, .slice k.a k.n k.c, .slice a n c] 25)).alloc (.cells #[.int .i64 K] 3)).alloc (.cells #[.int .i64 0, .string ⟨#[]⟩, .string ⟨#[]⟩, .slice none 0 0, .slice none 0 0] 25) = W ∧ Below w.heap.size w W ∧ W.heap.size = w.heap.size + 4 ∧
      Blk W w.heap.size #[.map (some g)] 74 ∧ CBox W (w.heap.size + 1) o s z k a n c ∧ Blk W (w.heap.size + 1 + 1) #[.int .i64 K] 3 ∧ CBox W (w.heap.size + 1 + 1 + 1) 0 ⟨#[]⟩ ⟨#[]⟩ SS.nil none 0 0 := by
  have b0 := Blk.new w #[.map (some g)] 74
  have b1 := CBox.new (w.alloc (.cells #[.map (some g)] 74)) o s z k a n c
  have b2 := Blk.new ((w.alloc (.cells #[.map (some g)] 74)).alloc (.cells #[.int .i64 o, .string s, .string z, .slice k.a k.n k.c, .slice a n c] 25)) #[.int .i64 K] 3
  have b3 := CBox.new (((w.alloc (.cells #[.map (some g)] 74)).alloc (.cells #[.int .i64 o, .string s, .string z, .slice k.a k.n k.c, .slice a n c] 25)).alloc (.cells #[.int .i64 K] 3)) 0 ⟨#[]⟩ ⟨#[]⟩ SS.nil none 0 0
  simp only [World.size_alloc] at b1 b2 b3
  exact ⟨_, rfl, bel_alloc (bel_alloc (bel_alloc (bel_alloc (Below.refl _ _) _) _) _) _, by simp, Blk.alloc (Blk.alloc (Blk.alloc b0 _) _) _, Blk.alloc (Blk.alloc b1 _) _, Blk.alloc b2 _, b3⟩
theorem CBox.ts {w : World} {g : Nat} {o : Int} {s z : ByteArray} {k : SS} {a : Option Addr} {n c : Nat} (h : CBox w g o s z k a n c) (a' : Option Addr) (n' c' : Nat) : CBox (w.setCell ⟨g, 3, none⟩ (.slice a' n' c')) g o s z ⟨a', n', c'⟩ a n c := by
  have := Blk.set h 3 (.slice a' n' c')
  unfold CBox
  simpa using this
theorem CBox.su {w : World} {g : Nat} {o : Int} {s z : ByteArray} {k : SS} {a : Option Addr} {n c : Nat} (h : CBox w g o s z k a n c) (a' : Option Addr) (n' c' : Nat) : CBox (w.setCell ⟨g, 4, none⟩ (.slice a' n' c')) g o s z k a' n' c' := by
  have := Blk.set h 4 (.slice a' n' c')
  unfold CBox
  simpa using this
theorem CsP.to {P Q : Nat → Prop} {w w' : World} {A : Option Addr} {n c : Nat} {l : List Cl} (h : CsP P w A n c l) (hb : ∀ b, P b → w'.heap[b]? = w.heap[b]?) (hq : ∀ b, P b → Q b) : CsP Q w' A n c l := by
  refine ⟨h.1, h.2.1, h.2.2.1, h.2.2.2.1, fun hn => ?_⟩
  obtain ⟨b, o, ha, hp, hr⟩ := h.2.2.2.2 hn
  exact ⟨b, o, ha, hq b hp, RwCP.to hb hq hp l hr⟩
/-- what is known at the end -/
theorem inC_fin {w W w3 X4 w5 : World} {op : Int} {nm so : ByteArray} {ts' : List Tm} {cs' : List Cl} {A A2 : Option Addr} {kn C m C2 : Nat} (hW : Below w.heap.size w W) (hWs : W.heap.size = w.heap.size + 4)
    (h3 : Below W.heap.size W w3) (hA : ArP (Nw 0 0 W.heap.size w3.heap.size) w3 (.mk 0 ⟨#[]⟩ 0 ts') A kn C) (hXs : X4.heap.size = w3.heap.size) (hXo : ∀ b, W.heap.size ≤ b → X4.heap[b]? = w3.heap[b]?) (hXb : Below w.heap.size w X4)
    (h5 : Below X4.heap.size X4 w5) (hC : CsP (Nw 0 0 X4.heap.size w5.heap.size) w5 A2 m C2 cs') (u v0 v1 v2 v3 v4 : Value) :
    RtC (.mk op nm so ts' cs') w (.returned (.agg #[.int .i64 op, .string nm, .string so, .slice A kn C, .slice A2 m C2])) (put5 (w5.setCell ⟨w.heap.size + 1, 4, none⟩ u) (w.heap.size + 1 + 1 + 1) v0 v1 v2 v3 v4) := by
  have q3 := h3.size
  have q5 := h5.size
  have hz : (w5.setCell ⟨w.heap.size + 1, 4, none⟩ u).heap.size = w5.heap.size := by simp [World.setCell]
  have hput : ∀ b, w.heap.size + 4 ≤ b → (put5 (w5.setCell ⟨w.heap.size + 1, 4, none⟩ u) (w.heap.size + 1 + 1 + 1) v0 v1 v2 v3 v4).heap[b]? = w5.heap[b]? := fun b hb => by
    rw [put5_other _ _ b _ _ _ _ _ (by omega)]
    exact heap_setCell_other w5 ⟨w.heap.size + 1, 4, none⟩ b u (by show b ≠ w.heap.size + 1; omega)
  refine ⟨A, kn, C, A2, m, C2, rfl, ?_, put5_below (below_set (hXb.trans (h5.mono (by omega))) (by omega) _ _) (by omega) _ _ _ _ _⟩
  rw [ArCP]
  have hsz : (put5 (w5.setCell ⟨w.heap.size + 1, 4, none⟩ u) (w.heap.size + 1 + 1 + 1) v0 v1 v2 v3 v4).heap.size = w5.heap.size := by rw [put5_size, hz]
  refine ⟨?_, ?_⟩
  · unfold IsTP
    refine ArP.to (fun b hb => ?_) (fun b hb => ?_) _ hA
    · unfold Nw at hb
      rw [hput b (by omega), h5.block b (by omega)]
      exact hXo b (by omega)
    · rw [hsz]; unfold Nw at hb ⊢; omega
  · exact CsP.to hC (fun b hb => hput b (by unfold Nw at hb; omega)) (fun b hb => by rw [hsz]; unfold Nw at hb ⊢; omega)

set_option maxRecDepth 100000 in
set_option maxHeartbeats 8000000 in
theorem inC_step (l : List Pr) (hu : ∀ p ∈ l, 1 + size p.t ≤ 1000000) (t : Cl) (hok : ∀ x ∈ subC t, InCOk l x) : InCOk l t := by
  intro K B g ks a m c w hK0 hK1 hM hBw hsm hsz hA
  obtain ⟨KA, kn, kc⟩ := ks
  obtain ⟨W, hW, hB, hs, P0, S2, Q0, R2⟩ := inCBoxes w g (opC t) (nmC t) (soC t) ⟨KA, kn, kc⟩ a m c K
  have hwm := wt_mk t
  have hgl := hM.lt
  have hMW := hM.b hBw hB
  have hAW := ArWC.b hA hB
  have hlenT : ∀ l : List Tm, l.length ≤ sizes l := fun l => by
    induction l with
    | nil => exact Nat.le_refl _
    | cons t l ih => rw [List.length_cons, sizes]; have := size_pos t; omega
  have hkn : kn ≤ 1000000 := by have h1 := (ArWC.terms hA).1; have := hlenT (tsC t); dsimp only at h1; omega
  have hmm : m ≤ 1000000 := by have h1 := (ArWC.subs hA).1; have := wts_len (subC t); omega
  obtain ⟨smt, sms⟩ := smC_parts hsm
  -- the two closures
  have hclos : MapClos 92 #[.pointer (some ⟨w.heap.size, 0, none⟩), .pointer (some ⟨w.heap.size + 1 + 1, 0, none⟩)] (sbT (getK l K)) (tsC t) W := fun x hx a' n' c' w' hb' hA' =>
    inC1_of (inTerm_any l hu K x) B g w.heap.size (w.heap.size + 1 + 1) a' n' c' w' (hMW.b (Nat.le_trans hBw hB.size) hb') (Nat.le_trans hBw (Nat.le_trans hB.size hb'.size)) (by obtain ⟨k, hk, rfl⟩ := List.getElem_of_mem hx; exact smTs_at smt (List.getElem?_eq_getElem hk)) (by obtain ⟨k, hk, rfl⟩ := List.getElem_of_mem hx; have := alls_lt (List.getElem?_eq_getElem hk); omega) hA' (Blk.below P0 hb') (Blk.below Q0 hb')
  have cM := mapped_any 92 #[.pointer (some ⟨w.heap.size, 0, none⟩), .pointer (some ⟨w.heap.size + 1 + 1, 0, none⟩)] (fun _ _ => rfl) (sbT (getK l K)) (tsC t) KA kn kc W hclos hkn (ArWC.terms hAW)
  have HM2 := Lib.hid (show ∀ (K' : Int) (w3 X4 : World), 0 ≤ K' → K' + ((wt t - 1 : Nat) : Int) ≤ 1000000000 → Below W.heap.size W w3 → X4.heap.size = w3.heap.size → (∀ b, b ≠ w.heap.size + 1 → b ≠ w.heap.size + 1 + 1 → X4.heap[b]? = w3.heap[b]?) → Below w.heap.size W X4 → Blk X4 (w.heap.size + 1 + 1) #[.int .i64 K'] 3 →
      Calls Tryz.prog 93 #[.slice a m c, .func (.func 94) #[] #[.pointer (some ⟨w.heap.size, 0, none⟩), .pointer (some ⟨w.heap.size + 1 + 1, 0, none⟩)]] X4 fun e w' => ∃ A C, e = .returned (.slice A m C) ∧ CsP (Nw 0 0 X4.heap.size w'.heap.size) w' A m C ((subC t).map (sbCl l K')) ∧ Below X4.heap.size X4 w' from fun K' w3 X4 hK' hK2 h3 hXs hXo hXb hXq => by
    have q3 := h3.size
    have hX3 : ∀ b, b < W.heap.size → b ≠ w.heap.size + 1 → b ≠ w.heap.size + 1 + 1 → X4.heap[b]? = W.heap[b]? := fun b h1 h2 h4 => (hXo b h2 h4).trans (h3.block b h1)
    have hMX : MapU B X4 g l := hMW.keep (hX3 g (by omega) (by omega) (by omega)) (hXb.mono hBw)
    have hAX : CsW X4 a m c (subC t) := ((ArWC.subs hA).bel (hB.trans hXb)).mono (by have := hB.size; omega)
    have hPX : Blk X4 w.heap.size #[.map (some g)] 74 := (hX3 w.heap.size (by omega) (by omega) (by omega)).trans P0
    exact mappedC_any 94 #[.pointer (some ⟨w.heap.size, 0, none⟩), .pointer (some ⟨w.heap.size + 1 + 1, 0, none⟩)] (fun _ _ => rfl) (sbCl l K') (subC t) a m c X4 (fun x hx k a' n' c' w' hb' hA' =>
      inC2_of (hok x hx) K' hK' (by have := wts_mem hx; omega) B g w.heap.size (w.heap.size + 1 + 1) k a' n' c' w' (hMX.b (by have := hB.size; omega) hb') (by have := hb'.size; have := hB.size; omega) (by obtain ⟨i, hi, rfl⟩ := List.getElem_of_mem hx; exact smCs_at sms (List.getElem?_eq_getElem hi)) (by have := wts_mem hx; omega) hA' (Blk.below hPX hb') (Blk.below hXq hb')) hmm hAX)
  have HFin := Lib.hid (show ∀ (K' : Int), (if opC t = 11 ∨ opC t = 12 then K + 1 else K) = K' → ∀ (w3 X4 w5 : World) (A A2 : Option Addr) (C C2 : Nat), Below W.heap.size W w3 → ArP (Nw 0 0 W.heap.size w3.heap.size) w3 (.mk 0 ⟨#[]⟩ 0 ((tsC t).map (sbT (getK l K)))) A kn C → X4.heap.size = w3.heap.size → (∀ b, b ≠ w.heap.size + 1 → b ≠ w.heap.size + 1 + 1 → X4.heap[b]? = w3.heap[b]?) → Below w.heap.size W X4 → Below X4.heap.size X4 w5 → CsP (Nw 0 0 X4.heap.size w5.heap.size) w5 A2 m C2 ((subC t).map (sbCl l K')) → ∀ u v0 v1 v2 v3 v4,
      RtC (sbCl l K t) w (.returned (.agg #[.int .i64 (opC t), .string (nmC t), .string (soC t), .slice A kn C, .slice A2 m C2])) (put5 (w5.setCell ⟨w.heap.size + 1, 4, none⟩ u) (w.heap.size + 1 + 1 + 1) v0 v1 v2 v3 v4) from fun K' hK' w3 X4 w5 A A2 C C2 h3 hA3 hXs hXo hXb h5 hC u v0 v1 v2 v3 v4 => by
    rw [sbCl_mk, hK']
    exact inC_fin hB hs h3 hA3 hXs (fun b hb => hXo b (by omega) (by omega)) (hB.trans hXb) h5 hC u v0 v1 v2 v3 v4)
  unfold put5 at HFin
  have HS := Lib.hid S2
  have HQ := Lib.hid Q0
  have HR := Lib.hid R2
  have HP := Lib.hid P0
  obtain ⟨s0, s1, s2, s3, s4⟩ := S2.five
  have q0 := Blk.cell Q0 0
  have hKm : K + ((wt t - 1 : Nat) : Int) + 1 ≤ 1000000000 := by omega
  have hne : w.heap.size + 1 ≠ w.heap.size + 1 + 1 + 1 := by omega
  have hwW : w.heap.size ≤ W.heap.size := hB.size
  have hKa : 0 ≤ K + 1 := by omega
  have hKb : K + 1 + ((wt t - 1 : Nat) : Int) ≤ 1000000000 := by omega
  have hKc : K + ((wt t - 1 : Nat) : Int) ≤ 1000000000 := by omega
  have hw1 : w.heap.size ≤ w.heap.size + 1 := by omega
  have hw2 : w.heap.size ≤ w.heap.size + 1 + 1 := by omega
  clear hA hAW hM hMW hsm smt sms hclos hok hu hsz hlenT hwm hgl hkn hmm S2 Q0 R2 P0 hK1
  generalize hts : (tsC t).map (sbT (getK l K)) = lt at *
  clear hts
  have hwrap : IntKind.i64.wrap (K + 1) = K + 1 := by rw [IntKind.wrap_i64]; omega
  generalize hop : opC t = op at *
  generalize nmC t = nm at *
  generalize soC t = nu at *
  dsimp only at *
  by_cases h11 : op = 11
  · have p1 : (op == 11) = true := by rw [h11]; rfl
    have hif : (if op = 11 ∨ op = 12 then K + 1 else K) = K + 1 := if_pos (.inl h11)
    rw [hif] at HFin
    clear h11 hop hif
    go_enter Tryz.func52, Tryz.ntmps52
    go_wp2_with (first
      | (go_at_call 84; ((with_reducible refine cM.mono ?_); rintro e w3 ⟨A, C, rfl, hF3, hb3⟩; have HA3 := Lib.hid hF3; clear hF3; have S3 := CBox.b HS.out hb3; obtain ⟨j0, j1, j2, j3, j4⟩ := S3.free; obtain ⟨u0, u1, u2, u3, u4⟩ := S3.five; have S4 := CBox.ts S3 A kn C; obtain ⟨x0, x1, x2, x3, x4⟩ := S4.five; have Q3 := Blk.far (Blk.below HQ.out hb3) (show w.heap.size + 1 ≠ w.heap.size + 1 + 1 by omega) 3 (.slice A kn C); have k0 := Blk.cell Q3 0; have kf := Blk.free Q3 0; have Q4 := blk_cell_set Q3 (.int .i64 (K + 1)); have S5 := CBox.far S4 (show w.heap.size + 1 + 1 ≠ w.heap.size + 1 by omega) 0 (.int .i64 (K + 1)); obtain ⟨z0, z1, z2, z3, z4⟩ := S5.five; have hXs : ((w3.setCell ⟨w.heap.size + 1, 3, none⟩ (.slice A kn C)).setCell ⟨w.heap.size + 1 + 1, 0, none⟩ (.int .i64 (K + 1))).heap.size = w3.heap.size := (by simp [World.setCell]); have HX := Lib.hid (show (∀ b, b ≠ w.heap.size + 1 → b ≠ w.heap.size + 1 + 1 → ((w3.setCell ⟨w.heap.size + 1, 3, none⟩ (.slice A kn C)).setCell ⟨w.heap.size + 1 + 1, 0, none⟩ (.int .i64 (K + 1))).heap[b]? = w3.heap[b]?) ∧ Below w.heap.size W ((w3.setCell ⟨w.heap.size + 1, 3, none⟩ (.slice A kn C)).setCell ⟨w.heap.size + 1 + 1, 0, none⟩ (.int .i64 (K + 1))) from ⟨(fun b h1 h2 => (heap_setCell_other _ ⟨w.heap.size + 1 + 1, 0, none⟩ b _ h2).trans (heap_setCell_other w3 ⟨w.heap.size + 1, 3, none⟩ b _ h1)), (below_set (below_set (hb3.mono hwW) hw1 _ _) hw2 _ _)⟩); have cM2 := HM2.out (K + 1) w3 ((w3.setCell ⟨w.heap.size + 1, 3, none⟩ (.slice A kn C)).setCell ⟨w.heap.size + 1 + 1, 0, none⟩ (.int .i64 (K + 1))) hKa hKb hb3 hXs HX.out.1 HX.out.2 Q4; have HS5 := Lib.hid S5; clear S3 S4 S5 Q3 Q4))
      | (go_at_call 93; ((with_reducible refine cM2.mono ?_); rintro e w5 ⟨A2, C2, rfl, hF5, hb5⟩; have hfin := HFin.out (K + 1) (by first | rfl | (simp; done) | simp [*]) w3 ((w3.setCell ⟨w.heap.size + 1, 3, none⟩ (.slice A kn C)).setCell ⟨w.heap.size + 1 + 1, 0, none⟩ (.int .i64 (K + 1))) w5 A A2 C C2 hb3 HA3.out hXs HX.out.1 HX.out.2 hb5 hF5; have Hn := Lib.hid hfin; clear hfin hF5; have S6 := CBox.b HS5.out hb5; obtain ⟨o0, o1, o2, o3, o4⟩ := S6.free; obtain ⟨p0, p1, p2, p3, p4⟩ := S6.five; have S7 := CBox.su S6 A2 m C2; obtain ⟨y0, y1, y2, y3, y4⟩ := S7.five; have R5 := CBox.far (CBox.b (CBox.far (CBox.far (CBox.b HR.out hb3) hne 3 (.slice A kn C)) (show w.heap.size + 1 + 1 ≠ w.heap.size + 1 + 1 + 1 by omega) 0 (.int .i64 (K + 1))) hb5) hne 4 (.slice A2 m C2); obtain ⟨r0, r1, r2, r3, r4⟩ := R5.free; obtain ⟨v0, v1, v2, v3, v4⟩ := R5.five; have F3 := CBox.put R5 op nm nu ⟨A, kn, C⟩ A2 m C2; unfold put5 at F3; obtain ⟨f0, f1, f2, f3, f4⟩ := F3.five)))
    simp [bodyPost, results, Tryz.results52, go_sem, f0, f1, f2, f3, f4]
    exact Hn.out _ _ _ _ _ _
  · have p1 : (op == 11) = false := beq_no' h11
    by_cases h12 : op = 12
    · have p2 : (op == 12) = true := by rw [h12]; rfl
      have hif : (if op = 11 ∨ op = 12 then K + 1 else K) = K + 1 := if_pos (.inr h12)
      rw [hif] at HFin
      clear h11 h12 hop hif
      go_enter Tryz.func52, Tryz.ntmps52
      go_wp2_with (first
        | (go_at_call 84; ((with_reducible refine cM.mono ?_); rintro e w3 ⟨A, C, rfl, hF3, hb3⟩; have HA3 := Lib.hid hF3; clear hF3; have S3 := CBox.b HS.out hb3; obtain ⟨j0, j1, j2, j3, j4⟩ := S3.free; obtain ⟨u0, u1, u2, u3, u4⟩ := S3.five; have S4 := CBox.ts S3 A kn C; obtain ⟨x0, x1, x2, x3, x4⟩ := S4.five; have Q3 := Blk.far (Blk.below HQ.out hb3) (show w.heap.size + 1 ≠ w.heap.size + 1 + 1 by omega) 3 (.slice A kn C); have k0 := Blk.cell Q3 0; have kf := Blk.free Q3 0; have Q4 := blk_cell_set Q3 (.int .i64 (K + 1)); have S5 := CBox.far S4 (show w.heap.size + 1 + 1 ≠ w.heap.size + 1 by omega) 0 (.int .i64 (K + 1)); obtain ⟨z0, z1, z2, z3, z4⟩ := S5.five; have hXs : ((w3.setCell ⟨w.heap.size + 1, 3, none⟩ (.slice A kn C)).setCell ⟨w.heap.size + 1 + 1, 0, none⟩ (.int .i64 (K + 1))).heap.size = w3.heap.size := (by simp [World.setCell]); have HX := Lib.hid (show (∀ b, b ≠ w.heap.size + 1 → b ≠ w.heap.size + 1 + 1 → ((w3.setCell ⟨w.heap.size + 1, 3, none⟩ (.slice A kn C)).setCell ⟨w.heap.size + 1 + 1, 0, none⟩ (.int .i64 (K + 1))).heap[b]? = w3.heap[b]?) ∧ Below w.heap.size W ((w3.setCell ⟨w.heap.size + 1, 3, none⟩ (.slice A kn C)).setCell ⟨w.heap.size + 1 + 1, 0, none⟩ (.int .i64 (K + 1))) from ⟨(fun b h1 h2 => (heap_setCell_other _ ⟨w.heap.size + 1 + 1, 0, none⟩ b _ h2).trans (heap_setCell_other w3 ⟨w.heap.size + 1, 3, none⟩ b _ h1)), (below_set (below_set (hb3.mono hwW) hw1 _ _) hw2 _ _)⟩); have cM2 := HM2.out (K + 1) w3 ((w3.setCell ⟨w.heap.size + 1, 3, none⟩ (.slice A kn C)).setCell ⟨w.heap.size + 1 + 1, 0, none⟩ (.int .i64 (K + 1))) hKa hKb hb3 hXs HX.out.1 HX.out.2 Q4; have HS5 := Lib.hid S5; clear S3 S4 S5 Q3 Q4))
        | (go_at_call 93; ((with_reducible refine cM2.mono ?_); rintro e w5 ⟨A2, C2, rfl, hF5, hb5⟩; have hfin := HFin.out (K + 1) (by first | rfl | (simp; done) | simp [*]) w3 ((w3.setCell ⟨w.heap.size + 1, 3, none⟩ (.slice A kn C)).setCell ⟨w.heap.size + 1 + 1, 0, none⟩ (.int .i64 (K + 1))) w5 A A2 C C2 hb3 HA3.out hXs HX.out.1 HX.out.2 hb5 hF5; have Hn := Lib.hid hfin; clear hfin hF5; have S6 := CBox.b HS5.out hb5; obtain ⟨o0, o1, o2, o3, o4⟩ := S6.free; obtain ⟨p0, p1, p2, p3, p4⟩ := S6.five; have S7 := CBox.su S6 A2 m C2; obtain ⟨y0, y1, y2, y3, y4⟩ := S7.five; have R5 := CBox.far (CBox.b (CBox.far (CBox.far (CBox.b HR.out hb3) hne 3 (.slice A kn C)) (show w.heap.size + 1 + 1 ≠ w.heap.size + 1 + 1 + 1 by omega) 0 (.int .i64 (K + 1))) hb5) hne 4 (.slice A2 m C2); obtain ⟨r0, r1, r2, r3, r4⟩ := R5.free; obtain ⟨v0, v1, v2, v3, v4⟩ := R5.five; have F3 := CBox.put R5 op nm nu ⟨A, kn, C⟩ A2 m C2; unfold put5 at F3; obtain ⟨f0, f1, f2, f3, f4⟩ := F3.five)))
      simp [bodyPost, results, Tryz.results52, go_sem, f0, f1, f2, f3, f4]
      exact Hn.out _ _ _ _ _ _
    · have p2 : (op == 12) = false := beq_no' h12
      have hif : (if op = 11 ∨ op = 12 then K + 1 else K) = K := if_neg (by omega)
      rw [hif] at HFin
      clear h11 h12 hop hif
      go_enter Tryz.func52, Tryz.ntmps52
      go_wp2_with (first
        | (go_at_call 84; ((with_reducible refine cM.mono ?_); rintro e w3 ⟨A, C, rfl, hF3, hb3⟩; have HA3 := Lib.hid hF3; clear hF3; have S3 := CBox.b HS.out hb3; obtain ⟨j0, j1, j2, j3, j4⟩ := S3.free; obtain ⟨u0, u1, u2, u3, u4⟩ := S3.five; have S4 := CBox.ts S3 A kn C; obtain ⟨x0, x1, x2, x3, x4⟩ := S4.five; have Q3 := Blk.far (Blk.below HQ.out hb3) (show w.heap.size + 1 ≠ w.heap.size + 1 + 1 by omega) 3 (.slice A kn C); have k0 := Blk.cell Q3 0; have kf := Blk.free Q3 0; have Q4 := Q3; have S5 := S4; have hXs : (w3.setCell ⟨w.heap.size + 1, 3, none⟩ (.slice A kn C)).heap.size = w3.heap.size := (by simp [World.setCell]); have HX := Lib.hid (show (∀ b, b ≠ w.heap.size + 1 → b ≠ w.heap.size + 1 + 1 → (w3.setCell ⟨w.heap.size + 1, 3, none⟩ (.slice A kn C)).heap[b]? = w3.heap[b]?) ∧ Below w.heap.size W (w3.setCell ⟨w.heap.size + 1, 3, none⟩ (.slice A kn C)) from ⟨(fun b h1 h2 => heap_setCell_other w3 ⟨w.heap.size + 1, 3, none⟩ b _ h1), (below_set (hb3.mono hwW) hw1 _ _)⟩); have cM2 := HM2.out (K) w3 (w3.setCell ⟨w.heap.size + 1, 3, none⟩ (.slice A kn C)) hK0 hKc hb3 hXs HX.out.1 HX.out.2 Q4; have HS5 := Lib.hid S5; clear S3 S4 S5 Q3 Q4))
        | (go_at_call 93; ((with_reducible refine cM2.mono ?_); rintro e w5 ⟨A2, C2, rfl, hF5, hb5⟩; have hfin := HFin.out (K) (by first | rfl | (simp; done) | simp [*]) w3 (w3.setCell ⟨w.heap.size + 1, 3, none⟩ (.slice A kn C)) w5 A A2 C C2 hb3 HA3.out hXs HX.out.1 HX.out.2 hb5 hF5; have Hn := Lib.hid hfin; clear hfin hF5; have S6 := CBox.b HS5.out hb5; obtain ⟨o0, o1, o2, o3, o4⟩ := S6.free; obtain ⟨p0, p1, p2, p3, p4⟩ := S6.five; have S7 := CBox.su S6 A2 m C2; obtain ⟨y0, y1, y2, y3, y4⟩ := S7.five; have R5 := CBox.far (CBox.b (CBox.far (CBox.b HR.out hb3) hne 3 (.slice A kn C)) hb5) hne 4 (.slice A2 m C2); obtain ⟨r0, r1, r2, r3, r4⟩ := R5.free; obtain ⟨v0, v1, v2, v3, v4⟩ := R5.five; have F3 := CBox.put R5 op nm nu ⟨A, kn, C⟩ A2 m C2; unfold put5 at F3; obtain ⟨f0, f1, f2, f3, f4⟩ := F3.five)))
      simp [bodyPost, results, Tryz.results52, go_sem, f0, f1, f2, f3, f4]
      exact Hn.out _ _ _ _ _ _
theorem inClaim_any (l : List Pr) (hu : ∀ p ∈ l, 1 + size p.t ≤ 1000000) (t : Cl) : InCOk l t := Cl.ind (inC_step l hu) t
end Go.Proofs.YtnhemglpbhnmdaaGreat.U
