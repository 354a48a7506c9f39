/-
  What is proved: package bind's visitTerms, with any function that changes one part: every part is changed so, in place; nothing else is.
-/
import Derived.Test.YtokkafekdaniaaaBndA
namespace Go.Proofs.Ytokkafekdaniaaa.B
open Go.RowKit L T C
set_option linter.unusedVariables false
set_option linter.unusedSimpArgs false

/-- only blocks from lo on and below hi are changed, and new ones made -/
def Ch (w w' : World) (lo hi : Nat) : Prop := Below lo w w' ∧ ∀ b, hi ≤ b → b < w.heap.size → w'.heap[b]? = w.heap[b]?
/-- blocks from lo on below hi, or from s on below s' -/
def Nw (lo hi s s' : Nat) (b : Nat) : Prop := (lo ≤ b ∧ b < hi) ∨ (s ≤ b ∧ b < s')
def nuw (h : Hd) (z : Int) : Hd := ⟨h.op, h.nm, z, h.a, h.n, h.c⟩
/-- what a call of the function leaves, at one part -/
def NodeOk (f : Fn) (k : Int) (w : World) (g : Nat) (hs : List Hd) (i : Nat) (h : Hd) (e : Ending) (w' : World) : Prop :=
  Ch w w' g (g + 1) ∧ ((∃ z', f k h.op h.nm h.nu = .go z' ∧ e = .returned (.bool true) ∧ Row w' g (hs.set i (nuw h z'))) ∨ (∃ o' s' z', f k h.op h.nm h.nu = .leaf o' s' z' ∧ e = .returned (.bool true) ∧ Row w' g (hs.set i ⟨o', s', z', none, 0, 0⟩)) ∨ (∃ t h', f k h.op h.nm h.nu = .put t ∧ e = .returned (.bool false) ∧ Row w' g (hs.set i h') ∧ HdP (Nw 0 0 w.heap.size w'.heap.size) w' h' t))
def ClosOk (F : Nat) (caps : Array Value) (f : Fn) (K : Int) (B0 : Nat) (w0 : World) : Prop :=
  ∀ (w : World) (g : Nat) (hs : List Hd) (i : Nat) (h : Hd) (k : Int), Below B0 w0 w → B0 ≤ g → Row w g hs → hs[i]? = some h → 0 ≤ k → k ≤ K →
    Calls Try.prog F (#[.pointer (some ⟨g, i * 4, none⟩), .int .i64 k] ++ caps) w fun e w' => NodeOk f k w g hs i h e w'
theorem Ch.refl (w : World) (lo hi : Nat) : Ch w w lo hi := ⟨Below.refl _ _, fun _ _ _ => rfl⟩
theorem Ch.trans {a b c : World} {lo hi lo' hi' : Nat} (h : Ch a b lo hi) (k : Ch b c lo' hi') (h1 : lo ≤ lo') (h2 : hi' ≤ hi) : Ch a c lo hi :=
  ⟨h.1.trans (k.1.mono h1), fun x hx hx2 => (k.2 x (by omega) (by have := h.1.size; omega)).trans (h.2 x hx hx2)⟩
theorem Ch.wide {a b : World} {lo hi lo' hi' : Nat} (h : Ch a b lo hi) (h1 : lo' ≤ lo) (h2 : hi ≤ hi') : Ch a b lo' hi' :=
  ⟨h.1.mono h1, fun x hx hx2 => h.2 x (by omega) hx2⟩
theorem Ch.of_below {a b : World} {lo hi : Nat} (h : Below a.heap.size a b) (hl : lo ≤ a.heap.size) : Ch a b lo hi := ⟨h.mono hl, fun x _ hx => h.block x hx⟩
theorem Ch.out {a b : World} {lo hi x : Nat} (h : Ch a b lo hi) (hx : x < a.heap.size) (ho : x < lo ∨ hi ≤ x) : b.heap[x]? = a.heap[x]? := by
  rcases ho with ho | ho
  · exact h.1.block x ho
  · exact h.2 x ho hx
theorem hdP_to {P Q : Nat → Prop} {w w' : World} {h : Hd} {t : Tm} (hh : HdP P w h t) (hb : ∀ b, P b → w'.heap[b]? = w.heap[b]?) (hq : ∀ b, P b → Q b) : HdP Q w' h t :=
  ⟨hh.1, hh.2.1, hh.2.2.1, ArP.to hb hq t hh.2.2.2⟩
/-- how far the loop has come -/
def VI (f : Fn) (k : Int) (w wr : World) (g lo hi : Nat) (l : List Tm) (n i : Nat) : Prop :=
  Ch w wr lo hi ∧ ∃ hs mid, hs.length = n ∧ Row wr g hs ∧ g + 1 ≤ mid ∧ mid ≤ hi ∧ FrL wr (l.drop i) mid hi (hs.drop i) ∧ ∀ j x h, j < i → l[j]? = some x → hs[j]? = some h → HdP (Nw (g + 1) mid w.heap.size wr.heap.size) wr h (wk f k x)
/-- what a round meets -/
def VGo (f : Fn) (k : Int) (w wr : World) (g lo hi : Nat) (l : List Tm) (n i B0 : Nat) (w0 : World) (hs : List Hd) (x : Tm) (hx : Hd) : Prop :=
  ∃ mid mid', mid' ≤ wr.heap.size ∧ (∀ w3 t h', Ch wr w3 g (g + 1) → f k hx.op hx.nm hx.nu = .put t → Row w3 g (hs.set i h') → HdP (Nw 0 0 wr.heap.size w3.heap.size) w3 h' t → VI f k w w3 g lo hi l n (i + 1)) ∧
    (∀ w3 o' s' z', Ch wr w3 g (g + 1) → f k hx.op hx.nm hx.nu = .leaf o' s' z' → Row w3 g (hs.set i ⟨o', s', z', none, 0, 0⟩) → w3.cell? ⟨g, i * 4 + 3, none⟩ = some (.slice none 0 0) ∧ FrK w3 [] mid mid' SS.nil ∧ mid' ≤ w3.heap.size ∧ B0 ≤ mid ∧ Below B0 w0 w3 ∧ ∀ w4, Ch w3 w4 mid mid' → VI f k w w4 g lo hi l n (i + 1)) ∧
    (∀ w3 z', Ch wr w3 g (g + 1) → f k hx.op hx.nm hx.nu = .go z' → Row w3 g (hs.set i (nuw hx z')) → w3.cell? ⟨g, i * 4 + 3, none⟩ = some (.slice hx.a hx.n hx.c) ∧ FrK w3 (argsT x) mid mid' ⟨hx.a, hx.n, hx.c⟩ ∧ mid' ≤ w3.heap.size ∧ B0 ≤ mid ∧ Below B0 w0 w3 ∧
      ∀ w4, Ch w3 w4 mid mid' → ArP (Nw mid mid' w3.heap.size w4.heap.size) w4 (.mk 0 ⟨#[]⟩ 0 (wks f k (argsT x))) hx.a hx.n hx.c → VI f k w w4 g lo hi l n (i + 1))
theorem VI.next {f : Fn} {k : Int} {w wr : World} {g lo hi : Nat} {l : List Tm} {n i B0 : Nat} {w0 : World} (h : VI f k w wr g lo hi l n i) (hl : l.length = n) (hi0 : i < n) (hlg : lo ≤ g) (hgw : g < w.heap.size) (hhi : hi ≤ w.heap.size) (hB : B0 ≤ lo) (hb0 : Below B0 w0 w) :
    ∃ hs x hx, Row wr g hs ∧ hs[i]? = some hx ∧ l[i]? = some x ∧ Below B0 w0 wr ∧ VGo f k w wr g lo hi l n i B0 w0 hs x hx := by
  obtain ⟨hC, hs, mid, h1, h2, h3, h3b, h4, h5⟩ := h
  have hkl : i < l.length := by omega
  have hks : i < hs.length := by omega
  rw [List.drop_eq_getElem_cons hkl, List.drop_eq_getElem_cons hks, FrL] at h4
  obtain ⟨hx, hsr, mid', e, hF, hL⟩ := h4
  simp only [List.cons.injEq] at e
  obtain ⟨rfl, rfl⟩ := e
  have q1 := hF.le
  have q2 := hL.le
  have q3 := hC.1.size
  have hxx : l[i]? = some l[i] := List.getElem?_eq_getElem hkl
  have hhx : hs[i]? = some hs[i] := List.getElem?_eq_getElem hks
  obtain ⟨e1, e2, e3⟩ := hF.hd
  refine ⟨hs, l[i], hs[i], h2, hhx, hxx, hb0.trans (hC.1.mono hB), mid, mid', by omega, ?_, ?_, ?_⟩
  · intro w3 t h' c3 hf hr hh
    have q4 := c3.1.size
    refine ⟨hC.trans c3 hlg (by omega), hs.set i h', mid', by simp [h1], hr, by omega, q2, ?_, fun j y hy hj hy1 hy2 => ?_⟩
    · rw [List.drop_set_of_lt (by omega)]
      exact FrL.same _ (fun b u v => c3.out (by omega) (Or.inr (by omega))) hL
    · by_cases ej : j = i
      · subst ej
        rw [List.getElem?_set_self hks] at hy2
        rw [hxx] at hy1
        injection hy1 with hy1
        injection hy2 with hy2
        subst hy1 hy2
        rw [wk_mk, ← e1, ← e2, ← e3, hf]
        exact hdP_to hh (fun _ _ => rfl) (fun b hb => by unfold Nw at hb ⊢; omega)
      · rw [List.getElem?_set_ne (fun x => ej x.symm)] at hy2
        exact hdP_to (h5 j y hy (by omega) hy1 hy2) (fun b hb => c3.out (by unfold Nw at hb; omega) (Or.inr (by unfold Nw at hb; omega))) (fun b hb => by unfold Nw at hb ⊢; omega)
  · intro w3 o' s' z' c3 hf hr
    have q4 := c3.1.size
    have hks2 : i < (hs.set i (⟨o', s', z', none, 0, 0⟩ : Hd)).length := by simpa using hks
    have hc3 := (hr.at hks2).2.2.2
    rw [List.getElem_set_self] at hc3
    refine ⟨hc3, ?_, by omega, by omega, (hb0.trans (hC.1.mono hB)).trans (c3.1.mono (by omega)), ?_⟩
    · unfold FrK SS.nil
      rw [Fr]
      exact ⟨⟨rfl, rfl, rfl⟩, ⟨rfl, Nat.le_refl _, Nat.zero_le _, fun _ => rfl⟩, q1, fun h => absurd h (by simp)⟩
    intro w4 c4
    have q5 := c4.1.size
    refine ⟨(hC.trans c3 hlg (by omega)).trans c4 (by omega) q2, hs.set i ⟨o', s', z', none, 0, 0⟩, mid', by simp [h1], hr.of_block (c4.out (by omega) (Or.inl (by omega))), by omega, q2, ?_, fun j y hy hj hy1 hy2 => ?_⟩
    · rw [List.drop_set_of_lt (by omega)]
      exact FrL.same _ (fun b u v => (c4.out (by omega) (Or.inr (by omega))).trans (c3.out (by omega) (Or.inr (by omega)))) hL
    · by_cases ej : j = i
      · subst ej
        rw [List.getElem?_set_self hks] at hy2
        rw [hxx] at hy1
        injection hy1 with hy1
        injection hy2 with hy2
        subst hy1 hy2
        rw [wk_mk, ← e1, ← e2, ← e3, hf]
        refine ⟨rfl, rfl, rfl, ?_⟩
        rw [ArP]
        exact ⟨rfl, Nat.le_refl _, Nat.zero_le _, fun _ => rfl, fun h => absurd h (by simp)⟩
      · rw [List.getElem?_set_ne (fun x => ej x.symm)] at hy2
        exact hdP_to (h5 j y hy (by omega) hy1 hy2) (fun b hb => (c4.out (by unfold Nw at hb; omega) (by unfold Nw at hb; omega)).trans (c3.out (by unfold Nw at hb; omega) (Or.inr (by unfold Nw at hb; omega)))) (fun b hb => by unfold Nw at hb ⊢; omega)
  · intro w3 z' c3 hf hr
    have q4 := c3.1.size
    have hFK : FrK wr (argsT l[i]) mid mid' ⟨hs[i].a, hs[i].n, hs[i].c⟩ := by
      unfold FrK
      cases hxe : l[i] with
      | mk o s z la =>
        rw [hxe, Fr] at hF
        rw [Fr]
        exact ⟨⟨rfl, rfl, rfl⟩, hF.2.1, hF.2.2.1, hF.2.2.2⟩
    have hks2 : i < (hs.set i (nuw hs[i] z')).length := by simpa using hks
    have hc3 := (hr.at hks2).2.2.2
    rw [List.getElem_set_self] at hc3
    refine ⟨hc3, hFK.same (fun b u v => c3.out (by omega) (Or.inr (by omega))), by omega, by omega, (hb0.trans (hC.1.mono hB)).trans (c3.1.mono (by omega)), ?_⟩
    intro w4 c4 hA
    have q5 := c4.1.size
    refine ⟨(hC.trans c3 hlg (by omega)).trans c4 (by omega) q2, hs.set i (nuw hs[i] z'), mid', by simp [h1], hr.of_block (c4.out (by omega) (Or.inl (by omega))), by omega, q2, ?_, fun j y hy hj hy1 hy2 => ?_⟩
    · rw [List.drop_set_of_lt (by omega)]
      exact FrL.same _ (fun b u v => (c4.out (by omega) (Or.inr (by omega))).trans (c3.out (by omega) (Or.inr (by omega)))) hL
    · by_cases ej : j = i
      · subst ej
        rw [List.getElem?_set_self hks] at hy2
        rw [hxx] at hy1
        injection hy1 with hy1
        injection hy2 with hy2
        subst hy1 hy2
        rw [wk_mk, ← e1, ← e2, ← e3, hf]
        refine ⟨rfl, rfl, rfl, ?_⟩
        rw [ArP] at hA ⊢
        refine ⟨hA.1, hA.2.1, hA.2.2.1, hA.2.2.2.1, fun hn => ?_⟩
        obtain ⟨b, o, a1, a2, a3⟩ := hA.2.2.2.2 hn
        have hq : ∀ b, Nw mid mid' w3.heap.size w4.heap.size b → Nw (g + 1) mid' w.heap.size w4.heap.size b := fun b hb => by unfold Nw at hb ⊢; omega
        exact ⟨b, o, a1, hq b a2, RwP.to (fun _ _ => rfl) hq a2 _ a3⟩
      · rw [List.getElem?_set_ne (fun x => ej x.symm)] at hy2
        exact hdP_to (h5 j y hy (by omega) hy1 hy2) (fun b hb => (c4.out (by unfold Nw at hb; omega) (by unfold Nw at hb; omega)).trans (c3.out (by unfold Nw at hb; omega) (Or.inr (by unfold Nw at hb; omega)))) (fun b hb => by unfold Nw at hb ⊢; omega)
theorem VI.done {f : Fn} {k : Int} {w wr : World} {g lo hi : Nat} {l : List Tm} {n c : Nat} (h : VI f k w wr g lo hi l n n) (hl : l.length = n) (hc : n ≤ c ∧ c ≤ maxLen) (hlg : lo ≤ g) (hgw : g < hi) :
    Ch w wr lo hi ∧ ArP (Nw lo hi w.heap.size wr.heap.size) wr (.mk 0 ⟨#[]⟩ 0 (wks f k l)) (some ⟨g, 0, none⟩) n c := by
  obtain ⟨hC, hs, mid, h1, h2, h3, h3b, h4, h5⟩ := h
  refine ⟨hC, ?_⟩
  rw [ArP]
  refine ⟨by rw [wks_map, List.length_map, hl], hc.1, hc.2, (fun h => by cases h), fun _ => ⟨g, 0, rfl, Or.inl ⟨hlg, hgw⟩, ?_⟩⟩
  refine Row.rwP h2 (by rw [wks_map, List.length_map]; omega) fun j hj hj2 => ?_
  have hjl : j < l.length := by rw [wks_map, List.length_map] at hj; exact hj
  have := h5 j l[j] hs[j] (by omega) (List.getElem?_eq_getElem hjl) (List.getElem?_eq_getElem hj2)
  have e : (wks f k l)[j] = wk f k l[j] := by simp [wks_map]
  rw [e]
  have t := hdP_to this (Q := Nw lo hi w.heap.size wr.heap.size) (fun _ _ => rfl) (fun b hb => by unfold Nw at hb ⊢; omega)
  exact ⟨⟨t.1, t.2.1, t.2.2.1⟩, t.2.2.2⟩
/-- the walk over a list of terms -/
def VtOk (F : Nat) (caps : Array Value) (f : Fn) (K : Int) (B0 : Nat) (w0 : World) (l : List Tm) : Prop :=
  ∀ (ks : SS) (lo hi : Nat) (w : World) (k : Int), FrK w l lo hi ks → hi ≤ w.heap.size → B0 ≤ lo → Below B0 w0 w → 0 ≤ k → k ≤ K →
    Calls Try.prog 174 #[.slice ks.a ks.n ks.c, .int .i64 k, .func (.func F) #[] caps] w fun e w' => e = .returned (.tuple #[]) ∧ Ch w w' lo hi ∧ ArP (Nw lo hi w.heap.size w'.heap.size) w' (.mk 0 ⟨#[]⟩ 0 (wks f k l)) ks.a ks.n ks.c
set_option maxRecDepth 100000 in
theorem vt_nil (F : Nat) (caps : Array Value) (f : Fn) (K : Int) (B0 : Nat) (w0 : World) : VtOk F caps f K B0 w0 [] := by
  intro ks lo hi w k hFr hhi hB hb hk0 hkK
  obtain ⟨a, n, c⟩ := ks
  dsimp only
  unfold FrK at hFr
  rw [Fr] at hFr
  obtain ⟨_, ⟨hn, hc1, hc2, hc3⟩, hlh, hg⟩ := hFr
  dsimp only at hn hc1 hc2 hc3 hg
  obtain rfl : n = 0 := hn
  clear hg hkK hk0 hb
  go_enter Try.func174, Try.ntmps174
  go_wp2
  go_loopw [9] (fun i wr0 => wr0 = w ∧ i = .int .i64 0) (fun i _ => 0)
  case atStart => exact ⟨rfl, rfl⟩
  case round =>
    obtain ⟨rfl, rfl⟩ := hrel
    go_wp2
    simp [bodyPost, results, Try.results174, go_sem]
    refine ⟨Ch.refl _ _ _, ?_⟩
    rw [ArP]
    exact ⟨by rw [wks]; rfl, Nat.zero_le _, hc2, hc3, fun h => absurd h (by omega)⟩
set_option maxRecDepth 100000 in
set_option maxHeartbeats 4000000 in
theorem vt_step (F : Nat) (caps : Array Value) (hE : ∀ (args : Array Value) (w : World), (callFunc F args).run Try.prog w = .ok (.enter F args) w) (f : Fn) (K : Int) (B0 : Nat) (w0 : World) (hF : ClosOk F caps f K B0 w0) (l : List Tm) (hok : ∀ x ∈ l, VtOk F caps f K B0 w0 (argsT x)) : VtOk F caps f K B0 w0 l := by
  intro ks lo hi w k hFr hhi hB hb hk0 hkK
  obtain ⟨a, n, c⟩ := ks
  dsimp only
  have hFr2 := hFr
  unfold FrK at hFr2
  rw [Fr] at hFr2
  obtain ⟨_, ⟨hn, hc1, hc2, hc3⟩, hlh, hg⟩ := hFr2
  dsimp only at hn hc1 hc2 hc3 hg
  have hnm : n ≤ 9223372036854775807 := by unfold maxLen at hc2; omega
  have HK := Lib.hid (show ∀ i x, l[i]? = some x → VtOk F caps f K B0 w0 (argsT x) from fun i x hx => hok x (List.mem_of_getElem? hx))
  have HF := Lib.hid hF
  have Hk1 := Lib.hid hkK
  have Hk0 := Lib.hid hk0
  by_cases hn0 : n = 0
  · subst hn0
    have hl0 : l = [] := List.length_eq_zero_iff.1 hn.symm
    subst hl0
    exact vt_nil F caps f K B0 w0 ⟨a, 0, c⟩ lo hi w k hFr hhi hB hb hk0 hkK
  · obtain ⟨g, hs, rfl, hg1, hrow, hL⟩ := hg (by omega)
    have hgl := hrow.lt
    have hgh : g < hi := by have := hL.le; omega
    have P0 : VI f k w w g lo hi l n 0 := ⟨Ch.refl _ _ _, hs, g + 1, by rw [hL.len, hn], hrow, Nat.le_refl _, by omega, by rw [List.drop_zero, List.drop_zero]; exact hL, fun j x h hj => absurd hj (by omega)⟩
    have HP0 := Lib.hid P0
    have Hn := Lib.hid hn
    have Hcc := Lib.hid (And.intro hc1 hc2)
    have Hb := Lib.hid hb
    clear hFr hok hF hg hrow hL P0 hn hkK hk0 hb hc2
    go_enter Try.func174, Try.ntmps174
    go_wp2
    go_loopw [9] (fun i wr0 => ∃ (wr : World) (j : Nat), wr = wr0 ∧ j ≤ n ∧ i = .int .i64 j ∧ Hid (VI f k w wr g lo hi l n j)) (fun i _ => n - (intOf i).toNat)
    case atStart => exact ⟨_, 0, rfl, by omega, rfl, HP0⟩
    case round =>
      obtain ⟨wr, i, rfl, hi0, rfl, hR⟩ := hrel
      by_cases hlt : i < n
      · obtain ⟨hs, x, hx, hrow, hhx, hxl, hbr, hGo⟩ := hR.out.next Hn.out.symm hlt hg1 hgl hhi hB Hb.out
        have cF := HF.out wr g hs i hx k hbr (by omega) hrow hhx Hk0.out Hk1.out
        have cV := HK.out i x hxl
        obtain ⟨mid, mid', hmw, hP, hLf, hG⟩ := hGo
        have HL := Lib.hid hLf
        clear hLf
        clear hxl hhx hrow hR HK HF hbr
        unfold NodeOk at cF
        unfold VtOk at cV
        have HP := Lib.hid hP
        have HG := Lib.hid hG
        have HV := Lib.hid cV
        clear hP hG cV
        have hj0 : 0 ≤ (i : Int) := by omega
        have hj1 : (i : Int) < (n : Int) := by omega
        go_wp2_with (first
          | ((with_reducible refine cF.mono ?_); rintro e w3 ⟨c3, ⟨z', hf, rfl, hr3⟩ | ⟨o', s', z', hf, rfl, hr3⟩ | ⟨t, h', hf, rfl, hr3, hh3⟩⟩; all_goals (first | (have hgo := HL.out w3 o' s' z' c3 hf hr3; obtain ⟨hcell, hFK, hm3, hBm, hb3, hNext⟩ := hgo; have cV2 := vt_nil F caps f K B0 w0 ⟨none, 0, 0⟩ mid mid' w3 k hFK hm3 hBm hb3 Hk0.out Hk1.out; have HNx := Lib.hid (fun w4 c4 (_ : ArP (Nw mid mid' w3.heap.size w4.heap.size) w4 (.mk 0 ⟨#[]⟩ 0 (wks f k [])) none 0 0) => hNext w4 c4); clear hNext hFK hr3 hf) | (have hgo := HG.out w3 z' c3 hf hr3; obtain ⟨hcell, hFK, hm3, hBm, hb3, hNext⟩ := hgo; have cV2 := HV.out ⟨hx.a, hx.n, hx.c⟩ mid mid' w3 k hFK hm3 hBm hb3 Hk0.out Hk1.out; have HNx := Lib.hid hNext; clear hNext hFK hr3 hf) | (have HN := Lib.hid (HP.out w3 t h' c3 hf hr3 hh3); clear hf hr3 hh3)))
          | (go_at_call 174; ((with_reducible refine cV2.mono ?_); rintro e w4 ⟨rfl, c4, hA4⟩; have HN := Lib.hid (HNx.out w4 c4 hA4); clear hA4)))
        all_goals go_roundw
        case rel => exact ⟨_, i + 1, rfl, by omega, by go_num, HN⟩
        case measure => simp [intOf]; omega
        case rel => exact ⟨_, i + 1, rfl, by omega, by go_num, HN⟩
        case measure => simp [intOf]; omega
        case rel => exact ⟨_, i + 1, rfl, by omega, by go_num, HN⟩
        case measure => simp [intOf]; omega
      · obtain rfl : i = n := by omega
        have Hfin := Lib.hid (VI.done hR.out Hn.out.symm Hcc.out hg1 hgh)
        clear hR
        go_wp2
        simp [bodyPost, results, Try.results174, go_sem]
        exact Hfin.out
theorem vt_any (F : Nat) (caps : Array Value) (hE : ∀ (args : Array Value) (w : World), (callFunc F args).run Try.prog w = .ok (.enter F args) w) (f : Fn) (K : Int) (B0 : Nat) (w0 : World) (hF : ClosOk F caps f K B0 w0) (l : List Tm) : VtOk F caps f K B0 w0 l :=
  vt_step F caps hE f K B0 w0 hF l fun x _ => Tm.ind (P := fun x => VtOk F caps f K B0 w0 (argsT x)) (fun x h => vt_step F caps hE f K B0 w0 hF (argsT x) h) x
end Go.Proofs.Ytokkafekdaniaaa.B
