/-
  What is proved: which functions, lists of functions, signatures are told to be equal, by package sign.
-/
import Derived.Test.YtakcbpmdjdadnaaSgnA
import Derived.Laws.StructEq
namespace Go.Proofs.Ytakcbpmdjdadnaa.Sgn
open Go.RowKit L Srt
set_option linter.unusedVariables false
set_option linter.unusedSimpArgs false

set_option maxHeartbeats 2000000 in
theorem Equal_any (a a' : Option Addr) (n n' c c' : Nat) (X Y : List ByteArray) (w : World) (hX : IsS w a n X) (hY : IsS w a' n' Y) (hn : n ≤ 1000000000) (hn' : n' ≤ 1000000000) :
    Calls Try.prog 46 #[.slice a n c, .slice a' n' c'] w fun e w' => e = .returned (.bool (eqL X Y)) ∧ Below w.heap.size w w' := by
  by_cases hlen : n = n'
  · subst hlen
    have hst : ∀ k x y, X[k]? = some x → Y[k]? = some y → eqL (X.drop k) (Y.drop k) = ((x.toList == y.toList) && eqL (X.drop (k + 1)) (Y.drop (k + 1))) := fun k x y h g => by
      obtain ⟨hk, rfl⟩ := List.getElem?_eq_some_iff.1 h
      obtain ⟨gk, rfl⟩ := List.getElem?_eq_some_iff.1 g
      rw [List.drop_eq_getElem_cons hk, List.drop_eq_getElem_cons gk, eqL]
    have he : ∀ k, n ≤ k → eqL (X.drop k) (Y.drop k) = true := fun k h => by
      rw [List.drop_eq_nil_of_le (by rw [← hX.1]; exact h), List.drop_eq_nil_of_le (by rw [← hY.1]; exact h)]; rfl
    have h0 : eqL X Y = eqL (X.drop 0) (Y.drop 0) := rfl
    rw [h0]
    obtain ⟨F, hF⟩ : ∃ F : Nat → Bool, ∀ k, eqL (X.drop k) (Y.drop k) = F k := ⟨_, fun _ => rfl⟩
    simp only [hF] at hst he ⊢
    clear hF h0
    have H1 := Lib.hid hX
    have H2 := Lib.hid hY
    have Hst := Lib.hid hst
    have He := Lib.hid he
    clear hX hY hst he
    go_enter Try.func46, Try.ntmps46
    go_wp2
    go_loopw [13] (fun i wr0 => ∃ (k d : Nat), wr0 = w.drewN d ∧ k ≤ n ∧ i = .int .i64 k ∧ Hid (F k = F 0)) (fun i _ => n - (intOf i).toNat)
    case atStart => exact ⟨0, 0, rfl, by omega, rfl, Lib.hid rfl⟩
    case round =>
      obtain ⟨k, d, rfl, hk, rfl, hR⟩ := hrel
      by_cases hlt : k < n
      · obtain ⟨b, o, x, rfl, _, y1, hx, _⟩ := H1.out.at hlt
        obtain ⟨b', o', y, rfl, _, z1, hy, _⟩ := H2.out.at hlt
        have hs1 := Lib.hid (Hst.out k x y hx hy)
        clear hx hy H1 H2
        have hk0 : 0 ≤ (k : Int) := by omega
        have hk1 : (k : Int) < (n : Int) := by omega
        cases hb : x.toList == y.toList with
        | true =>
          have hnew : Hid (F (k + 1) = F 0) := by show _ = _; rw [← hR.out, hs1.out, hb]; rfl
          have hb2 : (x.toList = y.toList) = True := by simpa using hb
          clear hR hs1
          go_wp2
          go_quiet (fail)
          go_wp2
          go_roundw
          case rel => exact ⟨k + 1, _, rfl, by omega, by go_num, hnew⟩
          case measure => simp [intOf]; omega
        | false =>
          have hnew : Hid (false = F 0) := by show _ = _; rw [← hR.out, hs1.out, hb]; rfl
          have hb2 : (x.toList = y.toList) = False := by simpa using hb
          clear hR hs1
          go_wp2
          go_quiet (fail)
          go_wp2
          go_ret
          exact ⟨oneB hnew.out, below_drewN (below_drewN (Below.refl _ _) d) _⟩
      · have hnew : Hid (true = F 0) := by show _ = _; rw [← hR.out, He.out k (by omega)]
        clear hR
        go_wp2
        go_ret
        exact ⟨oneB hnew.out, below_drewN (Below.refl _ _) d⟩
  · have hf : Hid (false = eqL X Y) := (eqL_len (by rw [← hX.1, ← hY.1]; exact hlen)).symm
    have n1 : ((n : Int) != (n' : Int)) = true := by simp; omega
    clear hX hY hlen
    go_enter Try.func46, Try.ntmps46
    go_wp2
    go_ret
    exact ⟨oneB hf.out, Below.refl _ _⟩


/-- two functions put into blocks -/
theorem boxes2 (w : World) (s : ByteArray) (a : Option Addr) (m c : Nat) (r : ByteArray) (s' : ByteArray) (a' : Option Addr) (m' c' : Nat) (r' : ByteArray) :
    ∃ W, (w.alloc (.cells #[.string s, .slice a m c, .string r] 27)).alloc (.cells #[.string s', .slice a' m' c', .string r'] 27) = W ∧ Below w.heap.size w W ∧ FBox W w.heap.size s a m c r ∧ FBox W (w.heap.size + 1) s' a' m' c' r' := by
  refine ⟨_, rfl, bel_alloc (bel_alloc (Below.refl _ _) _) _, Blk.alloc (FBox.new w s a m c r) _, ?_⟩
  have := FBox.new (w.alloc (.cells #[.string s, .slice a m c, .string r] 27)) s' a' m' c' r'
  rwa [show (w.alloc (.cells #[.string s, .slice a m c, .string r] 27)).heap.size = w.heap.size + 1 by simp] at this
/-- two signatures put into blocks -/
theorem boxesS (w : World) (a : Option Addr) (n c : Nat) (b : Option Addr) (m d : Nat) (a' : Option Addr) (n' c' : Nat) (b' : Option Addr) (m' d' : Nat) :
    ∃ W, (w.alloc (.cells #[.slice a n c, .slice b m d] 25)).alloc (.cells #[.slice a' n' c', .slice b' m' d'] 25) = W ∧ Below w.heap.size w W ∧ SBox W w.heap.size a n c b m d ∧ SBox W (w.heap.size + 1) a' n' c' b' m' d' := by
  refine ⟨_, rfl, bel_alloc (bel_alloc (Below.refl _ _) _) _, Blk.alloc (SBox.new w a n c b m d) _, ?_⟩
  have := SBox.new (w.alloc (.cells #[.slice a n c, .slice b m d] 25)) a' n' c' b' m' d'
  rwa [show (w.alloc (.cells #[.slice a n c, .slice b m d] 25)).heap.size = w.heap.size + 1 by simp] at this
theorem eqC_split (f g : Fm) : eqC f.core g.core = ((f.name.toList == g.name.toList) && ((f.res.toList == g.res.toList) && eqL f.X g.X)) := rfl
theorem eqK_step {K L : List Core} {k : Nat} {C D : Core} (h : K[k]? = some C) (g : L[k]? = some D) : eqK (K.drop k) (L.drop k) = (eqC C D && eqK (K.drop (k + 1)) (L.drop (k + 1))) := by
  obtain ⟨hk, rfl⟩ := List.getElem?_eq_some_iff.1 h
  obtain ⟨gk, rfl⟩ := List.getElem?_eq_some_iff.1 g
  rw [List.drop_eq_getElem_cons hk, List.drop_eq_getElem_cons gk, eqK]
theorem eqK_end {K L : List Core} {k : Nat} (h : K.length ≤ k) (g : L.length ≤ k) : eqK (K.drop k) (L.drop k) = true := by
  rw [List.drop_eq_nil_of_le h, List.drop_eq_nil_of_le g]; rfl

set_option maxHeartbeats 4000000 in
theorem sameFun_any (f g : Fm) (w : World) (hf : f.ok w) (hg : g.ok w) (hm : f.m ≤ 1000000000) (hm2 : g.m ≤ 1000000000) :
    Calls Try.prog 48 #[.agg #[.string f.name, .slice f.a f.m f.c, .string f.res], .agg #[.string g.name, .slice g.a g.m g.c, .string g.res]] w fun e w' => e = .returned (.bool (eqC f.core g.core)) ∧ Below w.heap.size w w' := by
  obtain ⟨W2, hW2, hB2, F2, H2⟩ := boxes2 w f.name f.a f.m f.c f.res g.name g.a g.m g.c g.res
  have cE := Equal_any f.a g.a f.m g.m f.c g.c f.X g.X W2 (hf.below hB2).1 (hg.below hB2).1 hm hm2
  rw [eqC_split]
  obtain ⟨f0, f1, f2⟩ := F2.three
  obtain ⟨h0, h1, h2⟩ := H2.three
  clear hf hg hm hm2
  generalize eqL f.X g.X = Q at *
  generalize f.name = nm at *
  generalize f.a = A at *
  generalize f.m = M at *
  generalize f.c = Cc at *
  generalize f.res = rs at *
  generalize g.name = nm' at *
  generalize g.a = A' at *
  generalize g.m = M' at *
  generalize g.c = Cc' at *
  generalize g.res = rs' at *
  cases e1 : nm.toList == nm'.toList <;> cases e2 : rs.toList == rs'.toList <;> cases Q
  all_goals
    first | (have g1 : (nm.toList = nm'.toList) = False := by simpa using e1) | (have g1 : (nm.toList = nm'.toList) = True := by simpa using e1)
    first | (have g2 : (rs.toList = rs'.toList) = False := by simpa using e2) | (have g2 : (rs.toList = rs'.toList) = True := by simpa using e2)
    go_enter Try.func48, Try.ntmps48
    go_wp2_with (go_at_call 46; ((with_reducible refine cE.mono ?_); rintro e w3 ⟨rfl, hb3⟩; have B3 := bel_trans hB2 hb3; obtain ⟨f30, f31, f32⟩ := (F2.b hb3).three; obtain ⟨h30, h31, h32⟩ := (H2.b hb3).three))
    go_ret
    first | exact ⟨rfl, B3⟩ | exact ⟨rfl, hB2⟩

set_option maxHeartbeats 4000000 in
theorem baseFun_any (f g : Fm) (w : World) (hf : f.ok w) (hg : g.ok w) (hm : f.m ≤ 1000000000) (hm2 : g.m ≤ 1000000000) :
    Calls Try.prog 22 #[.agg #[.string f.name, .slice f.a f.m f.c, .string f.res], .agg #[.string g.name, .slice g.a g.m g.c, .string g.res]] w fun e w' => e = .returned (.bool (eqC f.core g.core)) ∧ Below w.heap.size w w' := by
  obtain ⟨W2, hW2, hB2, F2, H2⟩ := boxes2 w f.name f.a f.m f.c f.res g.name g.a g.m g.c g.res
  have cE := Strings_any f.a g.a f.m g.m f.c g.c f.X g.X W2 (hf.below hB2).1 (hg.below hB2).1 hm hm2
  rw [eqC_split]
  obtain ⟨f0, f1, f2⟩ := F2.three
  obtain ⟨h0, h1, h2⟩ := H2.three
  clear hf hg hm hm2
  generalize eqL f.X g.X = Q at *
  generalize f.name = nm at *
  generalize f.a = A at *
  generalize f.m = M at *
  generalize f.c = Cc at *
  generalize f.res = rs at *
  generalize g.name = nm' at *
  generalize g.a = A' at *
  generalize g.m = M' at *
  generalize g.c = Cc' at *
  generalize g.res = rs' at *
  cases e1 : nm.toList == nm'.toList <;> cases e2 : rs.toList == rs'.toList <;> cases Q
  all_goals
    first | (have g1 : (nm.toList = nm'.toList) = False := by simpa using e1) | (have g1 : (nm.toList = nm'.toList) = True := by simpa using e1)
    first | (have g2 : (rs.toList = rs'.toList) = False := by simpa using e2) | (have g2 : (rs.toList = rs'.toList) = True := by simpa using e2)
    go_enter Try.func22, Try.ntmps22
    go_wp2_with (go_at_call 23; ((with_reducible refine cE.mono ?_); rintro e w3 ⟨rfl, hb3⟩; have B3 := bel_trans hB2 hb3))
    go_ret
    first | exact ⟨rfl, B3⟩ | exact ⟨rfl, hB2⟩

set_option maxHeartbeats 4000000 in
theorem EqualFunc_any (b : Option Addr) (m d : Nat) (G : List Fm) (b' : Option Addr) (m' d' : Nat) (G' : List Fm) (w : World) (hG : IsG w b m G) (hG' : IsG w b' m' G') (hm : m ≤ 1000000) (hm' : m' ≤ 1000000) (hK : okK (cores G)) (hK' : okK (cores G')) :
    Calls Try.prog 47 #[.slice b m d, .slice b' m' d', .func (.func 48) #[] #[]] w fun e w' => e = .returned (.bool (eqK (cores G) (cores G'))) ∧ Below w.heap.size w w' := by
  have hl : (cores G).length = m := by rw [cores_len]; exact hG.1.symm
  have hl' : (cores G').length = m' := by rw [cores_len]; exact hG'.1.symm
  by_cases hmm : m = m'
  · subst hmm
    have hst : ∀ k (f g : Fm), G[k]? = some f → G'[k]? = some g → eqK ((cores G).drop k) ((cores G').drop k) = (eqC f.core g.core && eqK ((cores G).drop (k + 1)) ((cores G').drop (k + 1))) := fun k f g h h2 => eqK_step (cores_at h) (cores_at h2)
    have he : ∀ k, m ≤ k → eqK ((cores G).drop k) ((cores G').drop k) = true := fun k h => eqK_end (by omega) (by omega)
    have h0 : eqK (cores G) (cores G') = eqK ((cores G).drop 0) ((cores G').drop 0) := rfl
    rw [h0]
    have hM : ∀ (k : Nat) (f : Fm) (w' : World), G[k]? = some f → f.ok w' → f.m ≤ 1000000000 := fun k f w' h h2 => by
      have h3 : f.core.2.1.length ≤ 1000000 := (hK.at (cores_at h)).2.2.1
      have h4 : f.m = f.X.length := h2.1.1
      have h5 : f.X.length ≤ 1000000 := h3
      omega
    have hM' : ∀ (k : Nat) (f : Fm) (w' : World), G'[k]? = some f → f.ok w' → f.m ≤ 1000000000 := fun k f w' h h2 => by
      have h3 : f.core.2.1.length ≤ 1000000 := (hK'.at (cores_at h)).2.2.1
      have h4 : f.m = f.X.length := h2.1.1
      have h5 : f.X.length ≤ 1000000 := h3
      omega
    obtain ⟨F, hF⟩ : ∃ F : Nat → Bool, ∀ k, eqK ((cores G).drop k) ((cores G').drop k) = F k := ⟨_, fun _ => rfl⟩
    simp only [hF] at hst he ⊢
    clear hF h0 hK hK' hl hl'
    have H1 := Lib.hid hG
    have H2 := Lib.hid hG'
    have Hst := Lib.hid hst
    have He := Lib.hid he
    have HM := Lib.hid hM
    have HM' := Lib.hid hM'
    clear hG hG' hst he hM hM'
    go_enter Try.func47, Try.ntmps47
    go_wp2
    go_loopw [17] (fun i wr0 => ∃ (wr : World) (k : Nat), wr = wr0 ∧ k ≤ m ∧ i = .int .i64 k ∧ Below w.heap.size w wr ∧ Hid (F k = F 0)) (fun i _ => m - (intOf i).toNat)
    case atStart => exact ⟨_, 0, rfl, by omega, rfl, Below.refl _ _, Lib.hid rfl⟩
    case round =>
      obtain ⟨wr, k, rfl, hk, rfl, hB, hR⟩ := hrel
      by_cases hlt : k < m
      · obtain ⟨bb, o, f, rfl, hb, y1, y2, y3, hx, hok⟩ := (H1.out.below hB).at hlt
        obtain ⟨bb', o', g, rfl, hb', z1, z2, z3, hx', hok'⟩ := (H2.out.below hB).at hlt
        have hs1 := Hst.out k f g hx hx'
        have hk0 : 0 ≤ (k : Int) := by omega
        have hk1 : (k : Int) < (m : Int) := by omega
        obtain ⟨W3, hW3, hB3, F3, G3⟩ := boxes2 wr f.name f.a f.m f.c f.res g.name g.a g.m g.c g.res
        have cs := sameFun_any f g W3 (hok.below hB3) (hok'.below hB3) (HM.out k f wr hx hok) (HM'.out k g wr hx' hok')
        have B3 := bel_trans hB hB3
        obtain ⟨f0, f1, f2⟩ := F3.three
        obtain ⟨h0, h1, h2⟩ := G3.three
        have hA : Below wr.heap.size wr (wr.alloc (.cells #[.string f.name, .slice f.a f.m f.c, .string f.res] 27)) := bel_alloc (Below.refl _ _) _
        have v1 := (hA.cell hb').trans z1
        have v2 := (hA.cell hb').trans z2
        have v3 := (hA.cell hb').trans z3
        clear hx hx' hok hok' H1 H2 Hst HM HM' hA
        generalize eqC f.core g.core = Q at *
        generalize f.name = nm at *
        generalize f.a = A at *
        generalize f.m = M at *
        generalize f.c = Cc at *
        generalize f.res = rs at *
        generalize g.name = nm' at *
        generalize g.a = A' at *
        generalize g.m = M' at *
        generalize g.c = Cc' at *
        generalize g.res = rs' at *
        cases Q with
        | true =>
          have hnew : Hid (F (k + 1) = F 0) := by show _ = _; rw [← hR.out, hs1]; rfl
          clear hR hs1
          go_wp2_with (go_at_call 48; ((with_reducible refine cs.mono ?_); rintro e w4 ⟨rfl, hb4⟩))
          go_roundw
          case rel => exact ⟨_, k + 1, rfl, by omega, by go_num, bel_trans B3 hb4, hnew⟩
          case measure => simp [intOf]; omega
        | false =>
          have hnew : Hid (false = F 0) := by show _ = _; rw [← hR.out, hs1]; rfl
          clear hR hs1
          go_wp2_with (go_at_call 48; ((with_reducible refine cs.mono ?_); rintro e w4 ⟨rfl, hb4⟩))
          go_ret
          exact ⟨oneB hnew.out, bel_trans B3 hb4⟩
      · have hnew : Hid (true = F 0) := by show _ = _; rw [← hR.out, He.out k (by omega)]
        clear hR
        go_wp2
        go_ret
        exact ⟨oneB hnew.out, hB⟩
  · have hf : Hid (false = eqK (cores G) (cores G')) := (eqK_len (by rw [hl, hl']; exact hmm)).symm
    have n1 : ((m : Int) != (m' : Int)) = true := by simp; omega
    clear hG hG' hmm hl hl' hK hK'
    go_enter Try.func47, Try.ntmps47
    go_wp2
    go_ret
    exact ⟨oneB hf.out, Below.refl _ _⟩
end Go.Proofs.Ytakcbpmdjdadnaa.Sgn
