/-
  What is proved: the first error of a right claim, by package well's checker.
-/
import Derived.Test.YtacncbkcnhlpcaaZWlCa
import Derived.Test.YtacncbkcnhlpcaaZClmP
import Derived.Deep.RegionHeld3
import Derived.Deep.RegionLawGrows
import Derived.Deep.Cut
import Derived.Deep.CutRange
namespace Go.Proofs.Ytacncbkcnhlpcaa.Wl
open Go.RowKit L T C
open Sgn (SlG Fm Core cores hasN findC SlS.nul FBox FBox.new)
set_option linter.unusedVariables false
set_option linter.unusedSimpArgs false
set_option maxRecDepth 100000

def qE : Option Nat → Int | none => 0 | some _ => 11
def qX (X : List Int) : Option Nat → List Int | none => [] | some i => X ++ [(i : Int)]
theorem unP_form {X : List Int} {q : Option Nat} {w : World} {e : Ending} {w' : World} (h : UnP X q w e w') : ∃ A N C, e = .returned (.tuple #[.slice A N C, .int .i64 (qE q)]) ∧ SlI w' A N C (qX X q) ∧ Below w.heap.size w w' := by
  obtain ⟨hb, h⟩ := h
  cases q with
  | none => exact ⟨none, 0, 0, h, SlI.nil _, hb⟩
  | some i =>
    obtain ⟨A, C, h1, h2⟩ := h
    exact ⟨A, _, C, h1, h2, hb⟩
/-- what a check of a claim answers, below a path -/
def ClP (R : Wr) (X : List Int) (w : World) (e : Ending) (w' : World) : Prop :=
  ∃ A N C, e = .returned (.tuple #[.slice A N C, .int .i64 R.e]) ∧ SlI w' A N C (if R.e = 0 then [] else X ++ R.way) ∧ Below w.heap.size w w'
theorem ask_form {got want : List ByteArray} {z : ByteArray} {X : List Int} {w w' : World} {A : Option Addr} {N C : Nat} (h : SlI w' A N C (qX X (diff got want))) (hb : Below w.heap.size w w') : ClP (askW got want z) X w (.returned (.tuple #[.slice A N C, .int .i64 (qE (diff got want))])) w' := by
  unfold askW
  cases hq : diff got want with
  | none => rw [hq] at h; exact ⟨A, N, C, rfl, h, hb⟩
  | some i => rw [hq] at h; exact ⟨A, N, C, rfl, by show SlI w' A N C (if (11 : Int) = 0 then [] else X ++ [(i : Int)]); rw [if_neg (by decide)]; exact h, hb⟩
theorem len_wts : ∀ l : List Cl, l.length ≤ wts l
  | [] => Nat.zero_le _
  | c :: l => by have := len_wts l; rw [wts, List.length_cons, wt_mk]; omega
def ClmOk (c : Cl) : Prop := ∀ (S : List ByteArray) (E : Ev) (pa : Option Addr) (pn pc : Nat) (X : List Int) (ks : SS) (a : Option Addr) (n c' : Nat) (w : World), E.ok w → IsS w E.a E.n S → E.n ≤ 1000000 → cpartE c = 0 → pn + wt c ≤ 1000000 → E.q + wt c ≤ 1000000 → E.q ≤ E.e → (E.p = none → E.e = 0) → SlI w pa pn pc X → ArWC w c ks a n c' →
  Calls Try.prog 34 #[E.val, .agg #[.int .i64 (opC c), .string (nmC c), .string (soC c), .slice ks.a ks.n ks.c, .slice a n c'], .slice pa pn pc] w (ClP (wlC S E.K E.V E.B c) X w)
/-- a text behind a clipped row of texts, as a step of a region that draws -/
theorem push_step {ops : Array Oper} {o : Oper} {a : Act} {w : World} {K : Act → World → Prop} {Q : Exit → Act → World → Prop} {Z : Prop}
    (hg : o.guard = none) (s x : Operand) (hop : o.op = Op.call { callee := Callee.builtin Builtin.append, args := #[s, x], argTypes := #[22, 22] })
    (A : Option Addr) (n : Nat) (B : List ByteArray) (so : ByteArray) (g : Nat) (hs : a.eval s = .slice A n n) (hB : IsS w A n B) (hA : A = none → n = 0) (hn : n ≤ 1000000) (hx : a.eval x = .slice (some ⟨g, 0, none⟩) 1 1) (hc : w.cell? ⟨g, 0, none⟩ = some (.string so))
    (hK : ∀ A' C' w', SlS w' A' (n + 1) C' (B ++ [so]) → Below w.heap.size w w' → (∀ g, g < w.heap.size → Sgn.Off g A' (n + 1)) → K (a.put o.dst (.slice A' (n + 1) C')) w') :
    if Region.wanted o (yielded ops a.tmps) = true then Oper.wp Try.prog o a w K Q else Z := by
  obtain ⟨i0, hi, hz0, hz1, hz2⟩ := info_parts strI
  have hold : ∀ b, A = some b → ∀ j u, (vsS B)[j]? = some u → w.cell? (b.add j) = some u := fun b hb j u hj => by
    obtain ⟨hj2, hu⟩ := List.getElem?_eq_some_iff.1 hj
    rw [vsS_len] at hj2
    obtain ⟨b', o', ha, _, hr⟩ := hB.2 (by rw [hB.1]; omega)
    rw [hb] at ha
    injection ha with ha
    subst ha
    rw [Addr.add_lit, hr j hj2, ← hu]
    simp [vsS]
  refine step_append_grows hg s x 22 hop 9 i0 _ 1 _ Try.underlying22 hi hz0 hz1 rfl rfl (by decide) A n n (vsS B) hs (fun e => ⟨hA e, hA e⟩) (by rw [vsS_len, ← hB.1, Nat.mul_one]) hold ⟨g, 0, none⟩ 1 1 [.string so] hx rfl
    (fun j u hj => by match j, hj with | 0, hj => rw [Addr.add_lit]; simp at hj; rw [← hj]; exact hc) (fun u hu => by simp at hu; rw [hu]; rfl) (by omega) (by unfold maxLen; omega) (by rw [hz2]; omega) fun v' w' h1 h2 => ?_
  have e1 : vsS B ++ [.string so] = vsS (B ++ [so]) := by simp [vsS]
  have e2 : n + 1 = (B ++ [so]).length := by rw [List.length_append, ← hB.1]; rfl
  rw [e1, e2] at h1
  have hO : OwnS w' w.heap.size v' (B ++ [so]) := h1
  obtain ⟨A', C', rfl, hS⟩ := hO.slS
  rw [← e2] at hS hO ⊢
  exact hK A' C' w' hS ((Below.refl _ _).grown h2 (Nat.le_refl _) (fun k hk => by cases hk)) fun g hg => Sgn.off_own hO hg

set_option maxHeartbeats 32000000 in
theorem claim_step (t : Cl) (hok : ∀ x ∈ subC t, ClmOk x) : ClmOk t := by
  intro S E pa pn pc X ks a n c' w hE hS hSn hp hs hq hqe hqn hX hA
  obtain ⟨h45, h0, h8, hpt, hps⟩ := cpart_parts hp
  obtain ⟨KA, kn, kc⟩ := ks
  have hT := ArWC.terms hA
  have hSub := ArWC.subs hA
  have hkn : kn = (tsC t).length := hT.1
  have hnl : n = (subC t).length := hSub.1
  obtain ⟨W2, hW2, hB2, C2, T2, hs2⟩ := boxesCC w E (opC t) (nmC t) (soC t) ⟨KA, kn, kc⟩ a n c'
  have hsz := wt_mk t
  have hlw := len_wts (subC t)
  have cTs := terms_any (tsC t) (fun x _ => term_any x) E pa pn pc X KA kn kc W2 (hE.b hB2) (fun x hx => right_partT (hpt x hx)) (by omega) (hX.below hB2) (TsW.b hT hB2) (by omega)
  have hlen := wlTs_len (K := E.K) (V := E.V) (B := E.B) (l := tsC t) 0
  have hR := wlC_mk S E.K E.V E.B t
  have hAl := fun (got : List ByteArray) (h : got.length = (tsC t).length) => wantA_len (K := E.K) hp h
  generalize hBB : (if (opC t == 11 || opC t == 12) = true then E.B ++ [soC t] else E.B) = BB at *
  generalize wlTs E.K E.V E.B 0 (tsC t) = R1 at *
  obtain ⟨r1, rw1, D⟩ := R1
  simp only at hlen hR
  unfold TsP at cTs
  simp only at cTs
  rw [← hkn] at hlen hR
  -- what each way out answers
  have hPt : r1 ≠ 0 → ∀ A N C w', SlI w' A N C (X ++ rw1) → Below w.heap.size w w' → ClP (wlC S E.K E.V E.B t) X w (.returned (.tuple #[.slice A N C, .int .i64 r1])) w' := fun h A N C w' h1 h2 => by
    rw [hR, if_pos h]
    exact ⟨A, N, C, rfl, by show SlI w' A N C (if r1 = 0 then [] else X ++ rw1); rw [if_neg h]; exact h1, h2⟩
  have hPr : r1 = 0 → ((opC t == 11 || opC t == 12) && !rangeB S (soC t)) = true → ∀ w', SlI w' pa pn pc X → Below w.heap.size w w' → ClP (wlC S E.K E.V E.B t) X w (.returned (.tuple #[.slice pa pn pc, .int .i64 11])) w' := fun h hb w' h1 h2 => by
    rw [hR, if_neg (by rw [h]; simp), if_pos hb]
    exact ⟨pa, pn, pc, rfl, by show SlI w' pa pn pc (if (11 : Int) = 0 then [] else X ++ []); rw [if_neg (by decide), List.append_nil]; exact h1, h2⟩
  have hPs : r1 = 0 → ((opC t == 11 || opC t == 12) && !rangeB S (soC t)) = false → ∀ (k : Nat) (x : Cl) A N C w', (subC t)[k]? = some x → (wlC S E.K E.V BB x).e ≠ 0 → (∀ j y, j < k → (subC t)[j]? = some y → (wlC S E.K E.V BB y).e = 0) → SlI w' A N C ((X ++ [(kn : Int) + (k : Int)]) ++ (wlC S E.K E.V BB x).way) → Below w.heap.size w w' → ClP (wlC S E.K E.V E.B t) X w (.returned (.tuple #[.slice A N C, .int .i64 (wlC S E.K E.V BB x).e])) w' := fun h hb k x A N C w' hk he ha h1 h2 => by
    have e1 := wlCs_bad (S := S) (K := E.K) (V := E.V) (B := BB) kn k hk he ha
    rw [hR, if_neg (by rw [h]; simp), if_neg (by rw [hb]; simp), e1, if_pos he]
    refine ⟨A, N, C, rfl, ?_, h2⟩
    show SlI w' A N C (if (wlC S E.K E.V BB x).e = 0 then [] else X ++ (((kn + k : Nat) : Int) :: (wlC S E.K E.V BB x).way))
    rw [if_neg he]
    rw [List.append_assoc] at h1
    exact h1
  have hPa : r1 = 0 → ((opC t == 11 || opC t == 12) && !rangeB S (soC t)) = false → (∀ x ∈ subC t, (wlC S E.K E.V BB x).e = 0) → wlC S E.K E.V E.B t = wantC E.K (opC t) (nmC t) D := fun h hb ha => by
    rw [hR, if_neg (by rw [h]; simp), if_neg (by rw [hb]; simp), wlCs_all kn ha]
    simp
  have hPw : r1 = 0 → ((opC t == 11 || opC t == 12) && !rangeB S (soC t)) = false → (∀ x ∈ subC t, (wlC S E.K E.V BB x).e = 0) → (wantA E.K (opC t) (nmC t) D).2 ≠ 0 → ∀ w', SlI w' pa pn pc X → Below w.heap.size w w' → ClP (wlC S E.K E.V E.B t) X w (.returned (.tuple #[.slice pa pn pc, .int .i64 (wantA E.K (opC t) (nmC t) D).2])) w' := fun h hb ha hw w' h1 h2 => by
    rw [hPa h hb ha, wantC_eq, if_pos hw]
    exact ⟨pa, pn, pc, rfl, by show SlI w' pa pn pc (if (wantA E.K (opC t) (nmC t) D).2 = 0 then [] else X ++ []); rw [if_neg hw, List.append_nil]; exact h1, h2⟩
  have hPu : r1 = 0 → ((opC t == 11 || opC t == 12) && !rangeB S (soC t)) = false → (∀ x ∈ subC t, (wlC S E.K E.V BB x).e = 0) → (wantA E.K (opC t) (nmC t) D).2 = 0 → ∀ A N C w', SlI w' A N C (qX X (diff D (wantA E.K (opC t) (nmC t) D).1)) → Below w.heap.size w w' → ClP (wlC S E.K E.V E.B t) X w (.returned (.tuple #[.slice A N C, .int .i64 (qE (diff D (wantA E.K (opC t) (nmC t) D).1))])) w' := fun h hb ha hw A N C w' h1 h2 => by
    rw [hPa h hb ha, wantC_eq, if_neg (by rw [hw]; simp)]
    exact ask_form h1 h2
  have hall : ∀ k, k = n → (∀ j x, j < k → (subC t)[j]? = some x → (wlC S E.K E.V BB x).e = 0) → ∀ x ∈ subC t, (wlC S E.K E.V BB x).e = 0 := fun k h1 h2 x hx => by
    obtain ⟨j, hj, rfl⟩ := List.mem_iff_getElem.1 hx
    exact h2 j _ (by omega) (List.getElem?_eq_getElem hj)
  clear hR hPa
  generalize ClP (wlC S E.K E.V E.B t) X w = PP at *
  -- the calls
  have cR : ∀ w', Below w.heap.size w w' → _ := fun w' h => ranges_any E.a E.n E.c S E.b E.m E.d (soC t) w' (hS.below h) (by omega)
  have cB : ∀ (k : Nat) w', Below w.heap.size w w' → _ := fun k w' h => below_any pa pn pc X ((kn : Int) + (k : Int)) w' (hX.below h) (by omega)
  have cC : ∀ (E2 : Ev) (k : Nat) (x : Cl), (subC t)[k]? = some x → E2.a = E.a → E2.n = E.n → E2.c = E.c → E2.b = E.b → E2.m = E.m → E2.d = E.d → E2.g = E.g → E2.G = E.G → E2.V = E.V → E2.B = BB → E2.q ≤ E.q + 1 → E2.q ≤ E2.e → (E2.p = none → E2.e = 0) → ∀ A C k2 a2 n2 c2 w', Below w.heap.size w w' → E2.ok w' → SlI w' A (pn + 1) C (X ++ [(kn : Int) + (k : Int)]) → ArWC w' x k2 a2 n2 c2 →
      Calls Try.prog 34 #[.agg #[.slice E.a E.n E.c, .slice E.b E.m E.d, fnV E.g, .slice E2.p E2.q E2.e], .agg #[.int .i64 (opC x), .string (nmC x), .string (soC x), .slice k2.a k2.n k2.c, .slice a2 n2 c2], .slice A (pn + 1) C] w' (ClP (wlC S E.K E.V BB x) (X ++ [(kn : Int) + (k : Int)]) w') := fun E2 k x hk i1 i2 i3 i4 i5 i6 i7 i8 i9 i10 i11 i12 i13 A C k2 a2 n2 c2 w' hb h1 h2 h3 => by
    have hm := wts_mem (List.mem_of_getElem? hk)
    have := hok x (List.mem_of_getElem? hk) S E2 A (pn + 1) C _ k2 a2 n2 c2 w' h1 (by rw [i1, i2]; exact hS.below hb) (by omega) (hps x (List.mem_of_getElem? hk)) (by omega) (by omega) i12 i13 h2 h3
    unfold Ev.val Ev.K at this
    rw [i1, i2, i3, i4, i5, i6, i7, i8, i9, i10] at this
    exact this
  have cW : ∀ (E2 : Ev) , E2.a = E.a → E2.n = E.n → E2.c = E.c → E2.b = E.b → E2.m = E.m → E2.d = E.d → E2.g = E.g → E2.G = E.G → ∀ A3 n3 c3 w', E2.ok w' → SlS w' A3 n3 c3 D → r1 = 0 →
      Calls Try.prog 66 #[.agg #[.slice E.a E.n E.c, .slice E.b E.m E.d, fnV E.g, .slice E2.p E2.q E2.e], .agg #[.int .i64 (opC t), .string (nmC t), .string (soC t), .slice KA kn kc, .slice a n c'], .slice A3 n3 c3] w' (WtP (wantA E.K (opC t) (nmC t) D) w') := fun E2 i1 i2 i3 i4 i5 i6 i7 i8 A3 n3 c3 w' h1 h2 hr => by
    have h3 : n3 = kn := by rw [h2.1.1]; exact hlen hr
    have := wanted_any E2 (opC t) (nmC t) (soC t) ⟨KA, kn, kc⟩ a n c' A3 n3 c3 D w' h1 h2 (by omega) (fun h => by have := h45 (.inl h); omega)
    unfold Ev.val Ev.K at this
    rw [i1, i2, i3, i4, i5, i6, i7, i8] at this
    exact this
  have cU : ∀ A3 n3 c3 A4 n4 c4 w', SlS w' A3 n3 c3 D → SlS w' A4 n4 c4 (wantA E.K (opC t) (nmC t) D).1 → (wantA E.K (opC t) (nmC t) D).2 = 0 → r1 = 0 → SlI w' pa pn pc X →
      Calls Try.prog 54 #[.slice A3 n3 c3, .slice A4 n4 c4, .slice pa pn pc] w' fun e w1 => ∃ A N C, e = .returned (.tuple #[.slice A N C, .int .i64 (qE (diff D (wantA E.K (opC t) (nmC t) D).1))]) ∧ SlI w1 A N C (qX X (diff D (wantA E.K (opC t) (nmC t) D).1)) ∧ Below w'.heap.size w' w1 := fun A3 n3 c3 A4 n4 c4 w' h1 h2 h3 hr h4 => by
    have h5 : D.length = (tsC t).length := by rw [← hkn]; exact hlen hr
    have h6 := hAl D h5 h3
    exact (unlike_two A3 n3 c3 D A4 n4 c4 _ pa pn pc X w' h1.1 h2.1 (by rw [h2.1.1, h1.1.1, h6]) (by rw [h1.1.1]; omega) h4 (by omega)).mono fun e w1 h => unP_form h
  have hXb : ∀ w', Below w.heap.size w w' → SlI w' pa pn pc X := fun w' h => hX.below h
  have hEb : ∀ w', Below w.heap.size w w' → E.ok w' := fun w' h => hE.b h
  have hSb : ∀ w', Below w.heap.size w w' → CsW w' a n c' (subC t) := fun w' h => CsW.b hSub h
  have hE2 : ∀ w' (A : Option Addr) (C : Nat), Below w.heap.size w w' → SlS w' A (E.q + 1) C (E.B ++ [soC t]) → (⟨E.a, E.n, E.c, E.b, E.m, E.d, E.g, E.vp, E.vn, E.vc, A, E.q + 1, C, E.G, E.V, E.B ++ [soC t]⟩ : Ev).ok w' := fun w' A C h1 h2 => by
    obtain ⟨e1, e2, e3, e4, e5, e6, e7, e8, e9⟩ := hE.b h1
    exact ⟨e1, e2, e3, e4, e5, e6, e7, h2.1, by show E.q + 1 ≤ 1000000; omega⟩
  obtain ⟨k0, k1, k2, k3⟩ := C2.four
  obtain ⟨t0, t1, t2, t3, t4⟩ := T2.five
  dsimp only at *
  have HB2 := Lib.hid hB2
  have HC2 := Lib.hid C2
  have HT2 := Lib.hid T2
  have HPt := Lib.hid hPt
  have HPr := Lib.hid hPr
  have HPs := Lib.hid hPs
  have HPw := Lib.hid hPw
  have HPu := Lib.hid hPu
  have Hall := Lib.hid hall
  have HR := Lib.hid cR
  have HB := Lib.hid cB
  have HC := Lib.hid cC
  have HW := Lib.hid cW
  have HU := Lib.hid cU
  have HXb := Lib.hid hXb
  have HEb := Lib.hid hEb
  have HSb := Lib.hid hSb
  have HE2 := Lib.hid hE2
  have Hlen := Lib.hid hlen
  have HBB := Lib.hid hBB
  have Hqe := Lib.hid hqe
  have Hqn := Lib.hid hqn
  have Hq1 : Hid (E.q ≤ 1000000) := Lib.hid (by omega)
  have Hn : n ≤ 1000000 := by omega
  have Hkn : kn ≤ 8 := by omega
  have Hs2 := Lib.hid hs2
  have H0 := Lib.hid (show (opC t == 11 || opC t == 12) = true → kn = 0 from fun h => by rw [hkn]; simp at h; exact h0 (by omega) (by omega) (by omega))
  clear hok hE hS hSn hp hs hq hqe hqn hX hA h45 h0 h8 hpt hps hT hSub hkn hnl hB2 C2 T2 hsz hlw hlen hAl hBB hPt hPr hPs hPw hPu hall cR cB cC cW cU hXb hEb hSb hE2 hs2
  generalize hWA : wantA E.K (opC t) (nmC t) D = WA at *
  generalize hWL : wlC S E.K E.V BB = WL at *
  obtain ⟨Wn, We⟩ := WA
  dsimp only at *
  clear hWA hWL
  unfold Ev.val
  by_cases hr : r1 = 0
  · subst hr
    simp only [if_true] at cTs
    by_cases hb : (opC t == 11 || opC t == 12) = true
    · cases hrg : rangeB S (soC t) with
      | true =>
        have hbad : ((opC t == 11 || opC t == 12) && !rangeB S (soC t)) = false := by rw [hb, hrg]; rfl
        have g1 : (opC t == 11) = true ∨ ((opC t == 11) = false ∧ (opC t == 12) = true) := by
          cases h : opC t == 11
          · rw [h] at hb; exact .inr ⟨rfl, by simpa using hb⟩
          · exact .inl rfl
        have hb' := Lib.hid hb
        have hq0 : E.p = none → E.q = 0 := fun e => by have := Hqn.out e; have := Hqe.out; omega
        rw [hrg] at HR
        rcases g1 with g11 | ⟨g11, g12⟩
        all_goals
          first | (have i11 : (opC t = 11) = True := by simpa using g11) | (have i11 : (opC t = 11) = False := by simpa using g11)
          (try (have i12 : (opC t = 12) = True := by simpa using g12))
          clear hrg hb
          have hb := hb'.out
          go_enter Try.func34, Try.ntmps34
          go_upto_region 7 with (first
            | (go_at_call 52; ((with_reducible refine cTs.mono ?_); rintro e w3 ⟨A3, n3, c3, A4, N4, C4, rfl, hI3, hS3, hb3⟩; obtain ⟨u0, u1, u2, u3⟩ := (CK.b HC2.out hb3).four; obtain ⟨v0, v1, v2, v3, v4⟩ := (CBox.b HT2.out hb3).five; have hS4 : SlS w3 A3 n3 c3 D := (by first | exact hS3 rfl | exact hS3 True.intro)))
            | (go_at_call 41; ((with_reducible refine (HR.out w3 (bel_trans HB2.out hb3)).mono ?_); rintro e w4 ⟨rfl, hb4⟩; have hB4 := bel_trans hb3 hb4; have c4 := CK.b HC2.out hB4; have d4 := CBox.b HT2.out hB4; have zc := c4.four; obtain ⟨u0, u1, u2, u3⟩ := zc; have zd := d4.five; obtain ⟨v0, v1, v2, v3, v4⟩ := zd)))
          have HB4 := Lib.hid (bel_trans HB2.out hB4)
          have cG := CK.b c4 (bel_alloc (Below.refl _ _) (.cells #[.string (soC t)] 9))
          have dG := CBox.b d4 (bel_alloc (Below.refl _ _) (.cells #[.string (soC t)] 9))
          obtain ⟨x0, x1, x2, x3⟩ := cG.four
          obtain ⟨y0, y1, y2, y3, y4⟩ := dG.five
          have sG : (w4.alloc (.cells #[.string (soC t)] 9)).drew.cell? ⟨w4.heap.size, 0, none⟩ = some (.string (soC t)) := Sgn.Blk.cell (Sgn.Blk.new w4 #[.string (soC t)] 9) 0
          have iG : IsS (w4.alloc (.cells #[.string (soC t)] 9)).drew E.p E.q E.B := (HEb.out _ (bel_trans HB4.out (bel_alloc (Below.refl _ _) _).drew)).2.2.2.2.2.2.2.1
          clear u0 u1 u2 x0 x1 x2
          go_cut [45] from 44 to 51 (fun v wc => v = .slice E.p E.q E.e ∧ Hid (∃ A9 C9, CK wc w.heap.size E.a E.n E.c E.b E.m E.d (fnV E.g) A9 (E.q + 1) C9 ∧ CBox wc (w.heap.size + 1) (opC t) (nmC t) (soC t) ⟨KA, kn, kc⟩ a n c' ∧ Below w.heap.size w wc ∧ SlS wc A9 (E.q + 1) C9 (E.B ++ [soC t])))
          case first =>
            refine wp_region_noPanic ?_
            refine wp_region_held_drew (S := fun w' => w'.cell? ⟨w.heap.size + 1, 2, none⟩ = some (.string (soC t))) (by kernel_rfl) (by exact v2) (fun hHeld => ?_)
            refine wpAnyH_take (i := 0) (v := ?_) rfl (by kernel_rfl) (by kernel_rfl) (by kernel_rfl) (fun _ _ _ h => h) (Or.inl ⟨by rfl, ?hy⟩) (by assumption) ?_
            case hy => (intro w hSw; (try dsimp only at hSw); go_simp; try (with_reducible rfl))
            (try simp only [List.getElem_toArray, List.getElem_cons_succ, List.getElem_cons_zero, Act.put, List.setIfInBounds_toArray, List.set_cons_zero, List.set_cons_succ])
            refine wpAnyH_take (i := 3) (v := ?_) rfl (by kernel_rfl) (by kernel_rfl) (by kernel_rfl) (fun _ _ _ h => h) (Or.inl ⟨by rfl, ?hy⟩) (by assumption) ?_
            case hy => (intro w hSw; (try dsimp only at hSw); go_simp; try (with_reducible rfl))
            (try simp only [List.getElem_toArray, List.getElem_cons_succ, List.getElem_cons_zero, Act.put, List.setIfInBounds_toArray, List.set_cons_zero, List.set_cons_succ])
            refine wpAnyH_take (i := 4) (v := ?_) rfl (by kernel_rfl) (by kernel_rfl) (by kernel_rfl) (fun _ _ _ h => h) (Or.inl ⟨by rfl, ?hy⟩) (by assumption) ?_
            case hy => (intro w hSw; (try dsimp only at hSw); go_simp; try (with_reducible rfl))
            (try simp only [List.getElem_toArray, List.getElem_cons_succ, List.getElem_cons_zero, Act.put, List.setIfInBounds_toArray, List.set_cons_zero, List.set_cons_succ])
            refine wpAnyH_ready (rs := [1, 5]) (by kernel_rfl) (by simp) ?_
            refine AllReadyH.cons rfl (fun KK hKK => ?_) (AllReadyH.cons rfl (fun KK hKK => ?_) (AllReadyH.nil))
            · go_simp
              refine hKK.out _ _ (by exact v2) (fun hHeld => ?_)
              clear hKK KK
              (try simp only [List.getElem_toArray, List.getElem_cons_succ, List.getElem_cons_zero, Act.put, List.setIfInBounds_toArray, List.set_cons_zero, List.set_cons_succ])
              refine wpAnyH_ready (rs := [2, 5]) (by kernel_rfl) (by simp) ?_
              refine AllReadyH.cons rfl (fun KK hKK => ?_) (AllReadyH.cons rfl (fun KK hKK => ?_) (AllReadyH.nil))
              · go_simp
                (go_at_call 64; ((with_reducible refine (Clip_any E.p E.q E.e _ Hqe.out Hqn.out).mono ?_); rintro e wK ⟨rfl, hwK⟩; subst hwK))
                refine hKK.out _ _ (by exact v2) (fun hHeld => ?_)
                clear hKK KK
                (try simp only [List.getElem_toArray, List.getElem_cons_succ, List.getElem_cons_zero, Act.put, List.setIfInBounds_toArray, List.set_cons_zero, List.set_cons_succ])
                refine wpAnyH_ready (rs := [5]) (by kernel_rfl) (by simp) ?_
                refine AllReadyH.cons rfl (fun KK hKK => ?_) (AllReadyH.nil)
                go_simp
                refine hKK.out _ _ (by exact y2) (fun hHeld => ?_)
                clear hKK KK
                (try simp only [List.getElem_toArray, List.getElem_cons_succ, List.getElem_cons_zero, Act.put, List.setIfInBounds_toArray, List.set_cons_zero, List.set_cons_succ])
                refine wpAnyH_ready (rs := [6]) (by kernel_rfl) (by simp) ?_
                refine AllReadyH.cons rfl (fun KK hKK => ?_) (AllReadyH.nil)
                (refine push_step rfl (.tmp 46) (.tmp 49) rfl E.p E.q E.B (soC t) w4.heap.size rfl iG hq0 Hq1.out rfl sG ?_; intro A9 C9 w9 hS9 hb9 hoff9; have c9 := CK.b (CK.b cG (Below.refl _ _).drew) hb9; have d9 := CBox.b (CBox.b dG (Below.refl _ _).drew) hb9; have p3 := c9.four.2.2.2; have q3 := Sgn.Blk.free c9 3)
                refine hKK.out _ _ (by exact d9.five.2.2.1) (fun hHeld => ?_)
                clear hKK KK
                (try simp only [List.getElem_toArray, List.getElem_cons_succ, List.getElem_cons_zero, Act.put, List.setIfInBounds_toArray, List.set_cons_zero, List.set_cons_succ])
                refine wpAnyH_take (i := 7) (v := ?_) rfl (by kernel_rfl) (by kernel_rfl) (by kernel_rfl) (fun _ _ _ h => h) (Or.inl ⟨by rfl, ?hy⟩) (by assumption) ?_
                case hy => (intro w hSw; (try dsimp only at hSw); go_simp; try (with_reducible rfl))
                (try simp only [List.getElem_toArray, List.getElem_cons_succ, List.getElem_cons_zero, Act.put, List.setIfInBounds_toArray, List.set_cons_zero, List.set_cons_succ])
                refine wpAnyH_ready (rs := [8]) (by kernel_rfl) (by simp) ?_
                refine AllReadyH.cons rfl (fun KK hKK => ?_) (AllReadyH.nil)
                go_simp
                refine hKK.out _ _ (by exact (CBox.far d9 (show w.heap.size ≠ w.heap.size + 1 by omega) 3 _).five.2.2.1) (fun hHeld => ?_)
                clear hKK KK
                (try simp only [List.getElem_toArray, List.getElem_cons_succ, List.getElem_cons_zero, Act.put, List.setIfInBounds_toArray, List.set_cons_zero, List.set_cons_succ])
                refine wpAnyH_done (by kernel_rfl) ?_ _
                refine NoPanic.normal ?_
                all_goals (try go_wp2_with fail)
                go_meet
                refine ⟨rfl, Lib.hid ⟨A9, C9, Sgn.Blk.set c9 3 _, CBox.far d9 (show w.heap.size ≠ w.heap.size + 1 by omega) 3 (.slice A9 (E.q + 1) C9), ?_, ?_⟩⟩
                · exact (bel_trans HB4.out (bel_trans (bel_trans (bel_alloc (Below.refl _ _) _) (Below.refl _ _).drew) hb9)).setCell (p := ⟨w.heap.size, 3, none⟩) (Nat.le_refl _) _
                · exact Sgn.SlS.far hS9 (hoff9 _ (by have := Hs2.out; have := hB4.size; show w.heap.size < (w4.alloc _).heap.size; simp; omega)) 3 _
              · go_simp
                refine hKK.out _ _ (by exact y2) (fun hHeld => ?_)
                clear hKK KK
                (try simp only [List.getElem_toArray, List.getElem_cons_succ, List.getElem_cons_zero, Act.put, List.setIfInBounds_toArray, List.set_cons_zero, List.set_cons_succ])
                refine wpAnyH_ready (rs := [2]) (by kernel_rfl) (by simp) ?_
                refine AllReadyH.cons rfl (fun KK hKK => ?_) (AllReadyH.nil)
                go_simp
                (go_at_call 64; ((with_reducible refine (Clip_any E.p E.q E.e _ Hqe.out Hqn.out).mono ?_); rintro e wK ⟨rfl, hwK⟩; subst hwK))
                refine hKK.out _ _ (by exact y2) (fun hHeld => ?_)
                clear hKK KK
                (try simp only [List.getElem_toArray, List.getElem_cons_succ, List.getElem_cons_zero, Act.put, List.setIfInBounds_toArray, List.set_cons_zero, List.set_cons_succ])
                refine wpAnyH_ready (rs := [6]) (by kernel_rfl) (by simp) ?_
                refine AllReadyH.cons rfl (fun KK hKK => ?_) (AllReadyH.nil)
                (refine push_step rfl (.tmp 46) (.tmp 49) rfl E.p E.q E.B (soC t) w4.heap.size rfl iG hq0 Hq1.out rfl sG ?_; intro A9 C9 w9 hS9 hb9 hoff9; have c9 := CK.b (CK.b cG (Below.refl _ _).drew) hb9; have d9 := CBox.b (CBox.b dG (Below.refl _ _).drew) hb9; have p3 := c9.four.2.2.2; have q3 := Sgn.Blk.free c9 3)
                refine hKK.out _ _ (by exact d9.five.2.2.1) (fun hHeld => ?_)
                clear hKK KK
                (try simp only [List.getElem_toArray, List.getElem_cons_succ, List.getElem_cons_zero, Act.put, List.setIfInBounds_toArray, List.set_cons_zero, List.set_cons_succ])
                refine wpAnyH_take (i := 7) (v := ?_) rfl (by kernel_rfl) (by kernel_rfl) (by kernel_rfl) (fun _ _ _ h => h) (Or.inl ⟨by rfl, ?hy⟩) (by assumption) ?_
                case hy => (intro w hSw; (try dsimp only at hSw); go_simp; try (with_reducible rfl))
                (try simp only [List.getElem_toArray, List.getElem_cons_succ, List.getElem_cons_zero, Act.put, List.setIfInBounds_toArray, List.set_cons_zero, List.set_cons_succ])
                refine wpAnyH_ready (rs := [8]) (by kernel_rfl) (by simp) ?_
                refine AllReadyH.cons rfl (fun KK hKK => ?_) (AllReadyH.nil)
                go_simp
                refine hKK.out _ _ (by exact (CBox.far d9 (show w.heap.size ≠ w.heap.size + 1 by omega) 3 _).five.2.2.1) (fun hHeld => ?_)
                clear hKK KK
                (try simp only [List.getElem_toArray, List.getElem_cons_succ, List.getElem_cons_zero, Act.put, List.setIfInBounds_toArray, List.set_cons_zero, List.set_cons_succ])
                refine wpAnyH_done (by kernel_rfl) ?_ _
                refine NoPanic.normal ?_
                all_goals (try go_wp2_with fail)
                go_meet
                refine ⟨rfl, Lib.hid ⟨A9, C9, Sgn.Blk.set c9 3 _, CBox.far d9 (show w.heap.size ≠ w.heap.size + 1 by omega) 3 (.slice A9 (E.q + 1) C9), ?_, ?_⟩⟩
                · exact (bel_trans HB4.out (bel_trans (bel_trans (bel_alloc (Below.refl _ _) _) (Below.refl _ _).drew) hb9)).setCell (p := ⟨w.heap.size, 3, none⟩) (Nat.le_refl _) _
                · exact Sgn.SlS.far hS9 (hoff9 _ (by have := Hs2.out; have := hB4.size; show w.heap.size < (w4.alloc _).heap.size; simp; omega)) 3 _
            · go_simp
              refine hKK.out _ _ (by exact y2) (fun hHeld => ?_)
              clear hKK KK
              (try simp only [List.getElem_toArray, List.getElem_cons_succ, List.getElem_cons_zero, Act.put, List.setIfInBounds_toArray, List.set_cons_zero, List.set_cons_succ])
              refine wpAnyH_ready (rs := [1]) (by kernel_rfl) (by simp) ?_
              refine AllReadyH.cons rfl (fun KK hKK => ?_) (AllReadyH.nil)
              go_simp
              refine hKK.out _ _ (by exact y2) (fun hHeld => ?_)
              clear hKK KK
              (try simp only [List.getElem_toArray, List.getElem_cons_succ, List.getElem_cons_zero, Act.put, List.setIfInBounds_toArray, List.set_cons_zero, List.set_cons_succ])
              refine wpAnyH_ready (rs := [2]) (by kernel_rfl) (by simp) ?_
              refine AllReadyH.cons rfl (fun KK hKK => ?_) (AllReadyH.nil)
              go_simp
              (go_at_call 64; ((with_reducible refine (Clip_any E.p E.q E.e _ Hqe.out Hqn.out).mono ?_); rintro e wK ⟨rfl, hwK⟩; subst hwK))
              refine hKK.out _ _ (by exact y2) (fun hHeld => ?_)
              clear hKK KK
              (try simp only [List.getElem_toArray, List.getElem_cons_succ, List.getElem_cons_zero, Act.put, List.setIfInBounds_toArray, List.set_cons_zero, List.set_cons_succ])
              refine wpAnyH_ready (rs := [6]) (by kernel_rfl) (by simp) ?_
              refine AllReadyH.cons rfl (fun KK hKK => ?_) (AllReadyH.nil)
              (refine push_step rfl (.tmp 46) (.tmp 49) rfl E.p E.q E.B (soC t) w4.heap.size rfl iG hq0 Hq1.out rfl sG ?_; intro A9 C9 w9 hS9 hb9 hoff9; have c9 := CK.b (CK.b cG (Below.refl _ _).drew) hb9; have d9 := CBox.b (CBox.b dG (Below.refl _ _).drew) hb9; have p3 := c9.four.2.2.2; have q3 := Sgn.Blk.free c9 3)
              refine hKK.out _ _ (by exact d9.five.2.2.1) (fun hHeld => ?_)
              clear hKK KK
              (try simp only [List.getElem_toArray, List.getElem_cons_succ, List.getElem_cons_zero, Act.put, List.setIfInBounds_toArray, List.set_cons_zero, List.set_cons_succ])
              refine wpAnyH_take (i := 7) (v := ?_) rfl (by kernel_rfl) (by kernel_rfl) (by kernel_rfl) (fun _ _ _ h => h) (Or.inl ⟨by rfl, ?hy⟩) (by assumption) ?_
              case hy => (intro w hSw; (try dsimp only at hSw); go_simp; try (with_reducible rfl))
              (try simp only [List.getElem_toArray, List.getElem_cons_succ, List.getElem_cons_zero, Act.put, List.setIfInBounds_toArray, List.set_cons_zero, List.set_cons_succ])
              refine wpAnyH_ready (rs := [8]) (by kernel_rfl) (by simp) ?_
              refine AllReadyH.cons rfl (fun KK hKK => ?_) (AllReadyH.nil)
              go_simp
              refine hKK.out _ _ (by exact (CBox.far d9 (show w.heap.size ≠ w.heap.size + 1 by omega) 3 _).five.2.2.1) (fun hHeld => ?_)
              clear hKK KK
              (try simp only [List.getElem_toArray, List.getElem_cons_succ, List.getElem_cons_zero, Act.put, List.setIfInBounds_toArray, List.set_cons_zero, List.set_cons_succ])
              refine wpAnyH_done (by kernel_rfl) ?_ _
              refine NoPanic.normal ?_
              all_goals (try go_wp2_with fail)
              go_meet
              refine ⟨rfl, Lib.hid ⟨A9, C9, Sgn.Blk.set c9 3 _, CBox.far d9 (show w.heap.size ≠ w.heap.size + 1 by omega) 3 (.slice A9 (E.q + 1) C9), ?_, ?_⟩⟩
              · exact (bel_trans HB4.out (bel_trans (bel_trans (bel_alloc (Below.refl _ _) _) (Below.refl _ _).drew) hb9)).setCell (p := ⟨w.heap.size, 3, none⟩) (Nat.le_refl _) _
              · exact Sgn.SlS.far hS9 (hoff9 _ (by have := Hs2.out; have := hB4.size; show w.heap.size < (w4.alloc _).heap.size; simp; omega)) 3 _
          case rest =>
            obtain ⟨rfl, hcut⟩ := hcut
            obtain ⟨A9, C9, cc, dd, bb, ss⟩ := hcut.out
            have hn0 : n3 = 0 := by rw [hS4.1.1, Hlen.out (by first | exact rfl | exact True.intro)]; exact H0.out hb
            have hD0 : D = [] := List.eq_nil_of_length_eq_zero (by rw [← hS4.1.1]; exact hn0)
            subst hn0 hD0
            have HS4 : Hid (SlS wc A3 0 c3 []) := Lib.hid ⟨IsS.nil _ _, hS4.2.1, hS4.2.2⟩
            have HBc := Lib.hid bb
            have HCKc := Lib.hid cc
            have HCBc := Lib.hid dd
            have Hss := Lib.hid ss
            have HOk : Hid (∀ w', Below wc.heap.size wc w' → (⟨E.a, E.n, E.c, E.b, E.m, E.d, E.g, E.vp, E.vn, E.vc, A9, E.q + 1, C9, E.G, E.V, E.B ++ [soC t]⟩ : Ev).ok w') := Lib.hid fun w' h => HE2.out w' A9 C9 (bel_trans HBc.out h) (Hss.out.below h)
            have HBB2 : Hid (E.B ++ [soC t] = BB) := Lib.hid (by rw [← HBB.out, if_pos hb])
            have Hq2 : Hid (E.q + 1 ≤ E.q + 1) := Lib.hid (Nat.le_refl _)
            have Hq3 : Hid (E.q + 1 ≤ C9) := Lib.hid ss.2.1
            have Hq4 : Hid (A9 = none → C9 = 0) := Lib.hid ss.2.2
            obtain ⟨u0, u1, u2, u3⟩ := cc.four
            obtain ⟨v0, v1, v2, v3, v4⟩ := dd.five
            clear cc dd bb ss cG dG iG sG x3 y0 y1 y2 y3 y4 hS4 c4 d4 hB4 hb3 hb4 hI3 hS3 HPr HPt HR HE2 hq0 hcut
            go_wp2
            go_loopw [55] (fun i wr0 => ∃ (wr : World) (k : Nat), wr = wr0 ∧ k ≤ n ∧ i = .int .i64 k ∧ Below wc.heap.size wc wr ∧ Hid (∀ j x, j < k → (subC t)[j]? = some x → (WL x).e = 0)) (fun i _ => n - (intOf i).toNat)
            case atStart => exact ⟨_, 0, rfl, by omega, rfl, Below.refl _ _, Lib.hid (fun j x h => absurd h (by omega))⟩
            case round =>
              obtain ⟨wr, k, rfl, hk, rfl, hB, hprev⟩ := hrel
              have hBw : Below w.heap.size w wr := bel_trans HBc.out hB
              by_cases hlt : k < n
              · obtain ⟨bb, o, x, k5, a5, n5, c5, rfl, hb, y0, y1, y2, y3, y4, hx, hA⟩ := IsC.at (HSb.out wr hBw) hlt
                obtain ⟨W5, hW5, hB5, hs5, T5⟩ := cbox1 wr (opC x) (nmC x) (soC x) k5 a5 n5 c5
                obtain ⟨z0, z1, z2, z3, z4⟩ := T5.five
                have HT5 := Lib.hid T5
                have hAr : ∀ w', Below W5.heap.size W5 w' → ArWC w' x k5 a5 n5 c5 := fun w' h => ArWC.b hA (bel_trans hB5 h)
                have hBw5 : Below w.heap.size w W5 := bel_trans hBw hB5
                have hBc5 : Below wc.heap.size wc W5 := bel_trans hB hB5
                have HS5 : ∀ w', Below W5.heap.size W5 w' → w'.cell? ⟨w.heap.size, 0, none⟩ = some (.slice E.a E.n E.c) ∧ w'.cell? ⟨w.heap.size, 1, none⟩ = some (.slice E.b E.m E.d) ∧ w'.cell? ⟨w.heap.size, 2, none⟩ = some (fnV E.g) ∧ w'.cell? ⟨w.heap.size, 3, none⟩ = some (.slice A9 (E.q + 1) C9) ∧ w'.cell? ⟨w.heap.size + 1, 3, none⟩ = some (.slice KA kn kc) ∧ w'.cell? ⟨wr.heap.size, 0, none⟩ = some (.int .i64 (opC x)) ∧ w'.cell? ⟨wr.heap.size, 1, none⟩ = some (.string (nmC x)) ∧ w'.cell? ⟨wr.heap.size, 2, none⟩ = some (.string (soC x)) ∧ w'.cell? ⟨wr.heap.size, 3, none⟩ = some (.slice k5.a k5.n k5.c) ∧ w'.cell? ⟨wr.heap.size, 4, none⟩ = some (.slice a5 n5 c5) := fun w' h => by
                  obtain ⟨p0, p1, p2, p3⟩ := (CK.b HCKc.out (bel_trans hBc5 h)).four
                  obtain ⟨r0, r1, r2, r3, r4⟩ := (CBox.b HCBc.out (bel_trans hBc5 h)).five
                  obtain ⟨s0, s1, s2, s3, s4⟩ := (CBox.b HT5.out h).five
                  exact ⟨p0, p1, p2, p3, r3, s0, s1, s2, s3, s4⟩
                have B5d : Below W5.heap.size W5 W5.drew := (Below.refl _ _).drew
                have cb := HB.out k W5.drew hBw5.drew
                have ct : ∀ A6 C6 w6, Below W5.heap.size W5 w6 → SlI w6 A6 (pn + 1) C6 (X ++ [(kn : Int) + (k : Int)]) → _ := fun A6 C6 w6 hb6 h6 => HC.out (⟨E.a, E.n, E.c, E.b, E.m, E.d, E.g, E.vp, E.vn, E.vc, A9, E.q + 1, C9, E.G, E.V, E.B ++ [soC t]⟩ : Ev) k x hx rfl rfl rfl rfl rfl rfl rfl rfl rfl HBB2.out Hq2.out Hq3.out Hq4.out A6 C6 k5 a5 n5 c5 w6 (bel_trans hBw5 hb6) (HOk.out w6 (bel_trans hBc5 hb6)) h6 (hAr w6 hb6)
                have hk0 : 0 ≤ (k : Int) := by omega
                have hk1 : (k : Int) < (n : Int) := by omega
                have hw1 : wrap64 ((kn : Int) + (k : Int)) = (kn : Int) + (k : Int) := by unfold wrap64; omega
                have hw2 : IntKind.i64.wrap ((kn : Int) + (k : Int)) = (kn : Int) + (k : Int) := by rw [← hw1]; simp [wrap64, IntKind.wrap, IntKind.bits, IntKind.signed]; omega
                obtain ⟨a0, a1, a2, a3, a4, -⟩ := HS5 _ (Below.refl _ _)
                have Hhx := Lib.hid hx
                clear hx hA T5 hs5
                by_cases he : (WL x).e = 0
                · have h1 : ((WL x).e != 0) = false := by simp [he]
                  go_wp2
                  go_region_held3 (fun w' => w'.cell? ⟨w.heap.size, 0, none⟩ = some (.slice E.a E.n E.c) ∧ w'.cell? ⟨w.heap.size, 1, none⟩ = some (.slice E.b E.m E.d) ∧ w'.cell? ⟨w.heap.size, 2, none⟩ = some (fnV E.g) ∧ w'.cell? ⟨w.heap.size, 3, none⟩ = some (.slice A9 (E.q + 1) C9) ∧ w'.cell? ⟨w.heap.size + 1, 3, none⟩ = some (.slice KA kn kc) ∧ w'.cell? ⟨wr.heap.size, 0, none⟩ = some (.int .i64 (opC x)) ∧ w'.cell? ⟨wr.heap.size, 1, none⟩ = some (.string (nmC x)) ∧ w'.cell? ⟨wr.heap.size, 2, none⟩ = some (.string (soC x)) ∧ w'.cell? ⟨wr.heap.size, 3, none⟩ = some (.slice k5.a k5.n k5.c) ∧ w'.cell? ⟨wr.heap.size, 4, none⟩ = some (.slice a5 n5 c5))
                    (first | (exact HS5 _ B7) | (exact HS5 _ B6) | (exact HS5 _ B5d) | go_keep)
                    (first
                      | (go_at_call 65; ((with_reducible refine cb.mono ?_); rintro e w6 ⟨A6, C6, rfl, hI6, hb6⟩; have B6 := bel_trans B5d hb6))
                      | (go_at_call 34; ((with_reducible refine (ct A6 C6 w6 B6 hI6).mono ?_); rintro e w7 ⟨A7, N7, C7, rfl, hI7, hb7⟩; have B7 := bel_trans B6 hb7)))
                  have hb7w := bel_trans hB5 B7
                  have hpr2 : Hid (∀ j y, j < k + 1 → (subC t)[j]? = some y → (WL y).e = 0) := by
                    intro j y hj hy
                    by_cases hjk : j < k
                    · exact hprev.out j y hjk hy
                    · obtain rfl : j = k := by omega
                      rw [Hhx.out] at hy
                      rw [← Option.some.inj hy]; exact he
                  have HB8 := Lib.hid (bel_trans hB hb7w)
                  clear hprev hI7 hI6 hb6 hb7 hw1 hw2
                  go_wp2
                  go_roundw
                  case rel => exact ⟨_, k + 1, rfl, by omega, by go_num, HB8.out, hpr2⟩
                  case measure => simp [intOf]; omega
                · have h1 : ((WL x).e != 0) = true := by simp [he]
                  go_wp2
                  go_region_held3 (fun w' => w'.cell? ⟨w.heap.size, 0, none⟩ = some (.slice E.a E.n E.c) ∧ w'.cell? ⟨w.heap.size, 1, none⟩ = some (.slice E.b E.m E.d) ∧ w'.cell? ⟨w.heap.size, 2, none⟩ = some (fnV E.g) ∧ w'.cell? ⟨w.heap.size, 3, none⟩ = some (.slice A9 (E.q + 1) C9) ∧ w'.cell? ⟨w.heap.size + 1, 3, none⟩ = some (.slice KA kn kc) ∧ w'.cell? ⟨wr.heap.size, 0, none⟩ = some (.int .i64 (opC x)) ∧ w'.cell? ⟨wr.heap.size, 1, none⟩ = some (.string (nmC x)) ∧ w'.cell? ⟨wr.heap.size, 2, none⟩ = some (.string (soC x)) ∧ w'.cell? ⟨wr.heap.size, 3, none⟩ = some (.slice k5.a k5.n k5.c) ∧ w'.cell? ⟨wr.heap.size, 4, none⟩ = some (.slice a5 n5 c5))
                    (first | (exact HS5 _ B7) | (exact HS5 _ B6) | (exact HS5 _ B5d) | go_keep)
                    (first
                      | (go_at_call 65; ((with_reducible refine cb.mono ?_); rintro e w6 ⟨A6, C6, rfl, hI6, hb6⟩; have B6 := bel_trans B5d hb6))
                      | (go_at_call 34; ((with_reducible refine (ct A6 C6 w6 B6 hI6).mono ?_); rintro e w7 ⟨A7, N7, C7, rfl, hI7, hb7⟩; have B7 := bel_trans B6 hb7)))
                  rw [if_neg he] at hI7
                  have HZ := Lib.hid (HPs.out (by first | exact rfl | exact True.intro) hbad k x A7 N7 C7 w7 Hhx.out he hprev.out hI7 (bel_trans hBw5 B7))
                  clear hI7 hI6 hb6 hb7
                  go_wp2
                  first | exact HZ.out | (simp [bodyPost, results, Try.results34, go_sem]; exact HZ.out)
              · obtain rfl : k = n := by omega
                have hk0 : ¬ (k : Int) < (k : Int) := by omega
                have hal := Lib.hid (Hall.out k rfl hprev.out)
                obtain ⟨u0, u1, u2, u3⟩ := (CK.b HCKc.out hB).four
                obtain ⟨v0, v1, v2, v3, v4⟩ := (CBox.b HCBc.out hB).five
                have hW := HW.out (⟨E.a, E.n, E.c, E.b, E.m, E.d, E.g, E.vp, E.vn, E.vc, A9, E.q + 1, C9, E.G, E.V, E.B ++ [soC t]⟩ : Ev) rfl rfl rfl rfl rfl rfl rfl rfl A3 _ c3 wr (HOk.out wr hB) (HS4.out.below hB) (by first | exact rfl | exact True.intro)
                unfold WtP at hW
                dsimp only at hW
                by_cases hwe : We = 0
                · subst hwe
                  go_wp2_with (first
                    | (go_at_call 66; ((with_reducible refine hW.mono ?_); rintro e w8 ⟨A8, n8, c8, rfl, hS8, hb8⟩; have hS9 : SlS w8 A8 n8 c8 Wn := (by first | exact hS8 rfl | exact hS8 True.intro); have cU8 := HU.out A3 _ c3 A8 n8 c8 w8 (HS4.out.below (bel_trans hB hb8)) hS9 (by first | exact rfl | exact True.intro) (by first | exact rfl | exact True.intro) (HXb.out w8 (bel_trans hBw hb8))))
                    | (go_at_call 54; ((with_reducible refine cU8.mono ?_); rintro e w9 ⟨A9, N9, C9, rfl, hI9, hb9⟩)))
                  have HZ := Lib.hid (HPu.out (by first | exact rfl | exact True.intro) hbad hal.out (by first | exact rfl | exact True.intro) _ _ _ _ hI9 (bel_trans hBw (bel_trans hb8 hb9)))
                  first | exact HZ.out | (simp [bodyPost, results, Try.results34, go_sem]; exact HZ.out)
                · have h1 : (We != 0) = true := by simp [hwe]
                  go_wp2_with (go_at_call 66; ((with_reducible refine hW.mono ?_); rintro e w8 ⟨A8, n8, c8, rfl, hS8, hb8⟩))
                  have HZ := Lib.hid (HPw.out (by first | exact rfl | exact True.intro) hbad hal.out hwe _ (HXb.out w8 (bel_trans hBw hb8)) (bel_trans hBw hb8))
                  first | exact HZ.out | (simp [bodyPost, results, Try.results34, go_sem]; exact HZ.out)
      | false =>
        have hbad : ((opC t == 11 || opC t == 12) && !rangeB S (soC t)) = true := by rw [hb, hrg]; rfl
        have g1 : (opC t == 11) = true ∨ ((opC t == 11) = false ∧ (opC t == 12) = true) := by
          cases h : opC t == 11
          · rw [h] at hb; exact .inr ⟨rfl, by simpa using hb⟩
          · exact .inl rfl
        rcases g1 with g11 | ⟨g11, g12⟩
        all_goals
          first | (have i11 : (opC t = 11) = True := by simpa using g11) | (have i11 : (opC t = 11) = False := by simpa using g11)
          (try (have i12 : (opC t = 12) = True := by simpa using g12))
          go_enter Try.func34, Try.ntmps34
          go_wp2_with (first
            | (go_at_call 52; ((with_reducible refine cTs.mono ?_); rintro e w3 ⟨A3, n3, c3, A4, N4, C4, rfl, hI3, hS3, hb3⟩; obtain ⟨u0, u1, u2, u3⟩ := (CK.b HC2.out hb3).four; obtain ⟨v0, v1, v2, v3, v4⟩ := (CBox.b HT2.out hb3).five; have hS4 : SlS w3 A3 n3 c3 D := (by first | exact hS3 rfl | exact hS3 True.intro)))
            | (go_at_call 41; ((with_reducible refine (HR.out w3 (bel_trans HB2.out hb3)).mono ?_); rintro e w4 ⟨rfl, hb4⟩)))
          have HZ := Lib.hid (HPr.out (by first | exact rfl | exact True.intro) hbad w4 (HXb.out w4 (bel_trans HB2.out (bel_trans hb3 hb4))) (bel_trans HB2.out (bel_trans hb3 hb4)))
          first | exact HZ.out | (simp [bodyPost, results, Try.results34, go_sem]; exact HZ.out)
    · have hb : (opC t == 11 || opC t == 12) = false := by simpa using hb
      have hbad : ((opC t == 11 || opC t == 12) && !rangeB S (soC t)) = false := by rw [hb]; rfl
      have g11 : (opC t == 11) = false := by have := hb; simp at this; simp [this.1]
      have g12 : (opC t == 12) = false := by have := hb; simp at this; simp [this.2]
      have i11 : (opC t = 11) = False := by have := hb; simp at this; simp [this.1]
      have i12 : (opC t = 12) = False := by have := hb; simp at this; simp [this.2]
      clear hb
      go_enter Try.func34, Try.ntmps34
      go_wp2_with (go_at_call 52; ((with_reducible refine cTs.mono ?_); rintro e w3 ⟨A3, n3, c3, A4, N4, C4, rfl, hI3, hS3, hb3⟩; obtain ⟨u0, u1, u2, u3⟩ := (CK.b HC2.out hb3).four; obtain ⟨v0, v1, v2, v3, v4⟩ := (CBox.b HT2.out hb3).five; have hS4 : SlS w3 A3 n3 c3 D := (by first | exact hS3 rfl | exact hS3 True.intro)))
      have HBc := Lib.hid (bel_trans HB2.out hb3)
      have HCKc := Lib.hid (CK.b HC2.out hb3)
      have HCBc := Lib.hid (CBox.b HT2.out hb3)
      have HOk : Hid (∀ w', Below w3.heap.size w3 w' → E.ok w') := Lib.hid fun w' h => HEb.out w' (bel_trans HBc.out h)
      have HS4 := Lib.hid hS4
      have HBB2 : Hid (E.B = BB) := Lib.hid (by rw [← HBB.out, if_neg (by rw [g11, g12]; simp)])
      have Hq2 : Hid (E.q ≤ E.q + 1) := Lib.hid (Nat.le_succ _)
      have Hq3 := Hqe
      have Hq4 := Hqn
      clear hI3 hS3 hS4 hb3 HPr HPt HR HE2
      go_loopw [55] (fun i wr0 => ∃ (wr : World) (k : Nat), wr = wr0 ∧ k ≤ n ∧ i = .int .i64 k ∧ Below w3.heap.size w3 wr ∧ Hid (∀ j x, j < k → (subC t)[j]? = some x → (WL x).e = 0)) (fun i _ => n - (intOf i).toNat)
      case atStart => exact ⟨_, 0, rfl, by omega, rfl, Below.refl _ _, Lib.hid (fun j x h => absurd h (by omega))⟩
      case round =>
        obtain ⟨wr, k, rfl, hk, rfl, hB, hprev⟩ := hrel
        have hBw : Below w.heap.size w wr := bel_trans HBc.out hB
        by_cases hlt : k < n
        · obtain ⟨bb, o, x, k5, a5, n5, c5, rfl, hb, y0, y1, y2, y3, y4, hx, hA⟩ := IsC.at (HSb.out wr hBw) hlt
          obtain ⟨W5, hW5, hB5, hs5, T5⟩ := cbox1 wr (opC x) (nmC x) (soC x) k5 a5 n5 c5
          obtain ⟨z0, z1, z2, z3, z4⟩ := T5.five
          have HT5 := Lib.hid T5
          have hAr : ∀ w', Below W5.heap.size W5 w' → ArWC w' x k5 a5 n5 c5 := fun w' h => ArWC.b hA (bel_trans hB5 h)
          have hBw5 : Below w.heap.size w W5 := bel_trans hBw hB5
          have hBc5 : Below w3.heap.size w3 W5 := bel_trans hB hB5
          have HS5 : ∀ w', Below W5.heap.size W5 w' → w'.cell? ⟨w.heap.size, 0, none⟩ = some (.slice E.a E.n E.c) ∧ w'.cell? ⟨w.heap.size, 1, none⟩ = some (.slice E.b E.m E.d) ∧ w'.cell? ⟨w.heap.size, 2, none⟩ = some (fnV E.g) ∧ w'.cell? ⟨w.heap.size, 3, none⟩ = some (.slice E.p E.q E.e) ∧ w'.cell? ⟨w.heap.size + 1, 3, none⟩ = some (.slice KA kn kc) ∧ w'.cell? ⟨wr.heap.size, 0, none⟩ = some (.int .i64 (opC x)) ∧ w'.cell? ⟨wr.heap.size, 1, none⟩ = some (.string (nmC x)) ∧ w'.cell? ⟨wr.heap.size, 2, none⟩ = some (.string (soC x)) ∧ w'.cell? ⟨wr.heap.size, 3, none⟩ = some (.slice k5.a k5.n k5.c) ∧ w'.cell? ⟨wr.heap.size, 4, none⟩ = some (.slice a5 n5 c5) := fun w' h => by
            obtain ⟨p0, p1, p2, p3⟩ := (CK.b HCKc.out (bel_trans hBc5 h)).four
            obtain ⟨r0, r1, r2, r3, r4⟩ := (CBox.b HCBc.out (bel_trans hBc5 h)).five
            obtain ⟨s0, s1, s2, s3, s4⟩ := (CBox.b HT5.out h).five
            exact ⟨p0, p1, p2, p3, r3, s0, s1, s2, s3, s4⟩
          have B5d : Below W5.heap.size W5 W5.drew := (Below.refl _ _).drew
          have cb := HB.out k W5.drew hBw5.drew
          have ct : ∀ A6 C6 w6, Below W5.heap.size W5 w6 → SlI w6 A6 (pn + 1) C6 (X ++ [(kn : Int) + (k : Int)]) → _ := fun A6 C6 w6 hb6 h6 => HC.out E k x hx rfl rfl rfl rfl rfl rfl rfl rfl rfl HBB2.out Hq2.out Hq3.out Hq4.out A6 C6 k5 a5 n5 c5 w6 (bel_trans hBw5 hb6) (HOk.out w6 (bel_trans hBc5 hb6)) h6 (hAr w6 hb6)
          have hk0 : 0 ≤ (k : Int) := by omega
          have hk1 : (k : Int) < (n : Int) := by omega
          have hw1 : wrap64 ((kn : Int) + (k : Int)) = (kn : Int) + (k : Int) := by unfold wrap64; omega
          have hw2 : IntKind.i64.wrap ((kn : Int) + (k : Int)) = (kn : Int) + (k : Int) := by rw [← hw1]; simp [wrap64, IntKind.wrap, IntKind.bits, IntKind.signed]; omega
          obtain ⟨a0, a1, a2, a3, a4, -⟩ := HS5 _ (Below.refl _ _)
          have Hhx := Lib.hid hx
          clear hx hA T5 hs5
          by_cases he : (WL x).e = 0
          · have h1 : ((WL x).e != 0) = false := by simp [he]
            go_wp2
            go_region_held3 (fun w' => w'.cell? ⟨w.heap.size, 0, none⟩ = some (.slice E.a E.n E.c) ∧ w'.cell? ⟨w.heap.size, 1, none⟩ = some (.slice E.b E.m E.d) ∧ w'.cell? ⟨w.heap.size, 2, none⟩ = some (fnV E.g) ∧ w'.cell? ⟨w.heap.size, 3, none⟩ = some (.slice E.p E.q E.e) ∧ w'.cell? ⟨w.heap.size + 1, 3, none⟩ = some (.slice KA kn kc) ∧ w'.cell? ⟨wr.heap.size, 0, none⟩ = some (.int .i64 (opC x)) ∧ w'.cell? ⟨wr.heap.size, 1, none⟩ = some (.string (nmC x)) ∧ w'.cell? ⟨wr.heap.size, 2, none⟩ = some (.string (soC x)) ∧ w'.cell? ⟨wr.heap.size, 3, none⟩ = some (.slice k5.a k5.n k5.c) ∧ w'.cell? ⟨wr.heap.size, 4, none⟩ = some (.slice a5 n5 c5))
              (first | (exact HS5 _ B7) | (exact HS5 _ B6) | (exact HS5 _ B5d) | go_keep)
              (first
                | (go_at_call 65; ((with_reducible refine cb.mono ?_); rintro e w6 ⟨A6, C6, rfl, hI6, hb6⟩; have B6 := bel_trans B5d hb6))
                | (go_at_call 34; ((with_reducible refine (ct A6 C6 w6 B6 hI6).mono ?_); rintro e w7 ⟨A7, N7, C7, rfl, hI7, hb7⟩; have B7 := bel_trans B6 hb7)))
            have hb7w := bel_trans hB5 B7
            have hpr2 : Hid (∀ j y, j < k + 1 → (subC t)[j]? = some y → (WL y).e = 0) := by
              intro j y hj hy
              by_cases hjk : j < k
              · exact hprev.out j y hjk hy
              · obtain rfl : j = k := by omega
                rw [Hhx.out] at hy
                rw [← Option.some.inj hy]; exact he
            have HB8 := Lib.hid (bel_trans hB hb7w)
            clear hprev hI7 hI6 hb6 hb7 hw1 hw2
            go_wp2
            go_roundw
            case rel => exact ⟨_, k + 1, rfl, by omega, by go_num, HB8.out, hpr2⟩
            case measure => simp [intOf]; omega
          · have h1 : ((WL x).e != 0) = true := by simp [he]
            go_wp2
            go_region_held3 (fun w' => w'.cell? ⟨w.heap.size, 0, none⟩ = some (.slice E.a E.n E.c) ∧ w'.cell? ⟨w.heap.size, 1, none⟩ = some (.slice E.b E.m E.d) ∧ w'.cell? ⟨w.heap.size, 2, none⟩ = some (fnV E.g) ∧ w'.cell? ⟨w.heap.size, 3, none⟩ = some (.slice E.p E.q E.e) ∧ w'.cell? ⟨w.heap.size + 1, 3, none⟩ = some (.slice KA kn kc) ∧ w'.cell? ⟨wr.heap.size, 0, none⟩ = some (.int .i64 (opC x)) ∧ w'.cell? ⟨wr.heap.size, 1, none⟩ = some (.string (nmC x)) ∧ w'.cell? ⟨wr.heap.size, 2, none⟩ = some (.string (soC x)) ∧ w'.cell? ⟨wr.heap.size, 3, none⟩ = some (.slice k5.a k5.n k5.c) ∧ w'.cell? ⟨wr.heap.size, 4, none⟩ = some (.slice a5 n5 c5))
              (first | (exact HS5 _ B7) | (exact HS5 _ B6) | (exact HS5 _ B5d) | go_keep)
              (first
                | (go_at_call 65; ((with_reducible refine cb.mono ?_); rintro e w6 ⟨A6, C6, rfl, hI6, hb6⟩; have B6 := bel_trans B5d hb6))
                | (go_at_call 34; ((with_reducible refine (ct A6 C6 w6 B6 hI6).mono ?_); rintro e w7 ⟨A7, N7, C7, rfl, hI7, hb7⟩; have B7 := bel_trans B6 hb7)))
            rw [if_neg he] at hI7
            have HZ := Lib.hid (HPs.out (by first | exact rfl | exact True.intro) hbad k x A7 N7 C7 w7 Hhx.out he hprev.out hI7 (bel_trans hBw5 B7))
            clear hI7 hI6 hb6 hb7
            go_wp2
            first | exact HZ.out | (simp [bodyPost, results, Try.results34, go_sem]; exact HZ.out)
        · obtain rfl : k = n := by omega
          have hk0 : ¬ (k : Int) < (k : Int) := by omega
          have hal := Lib.hid (Hall.out k rfl hprev.out)
          obtain ⟨u0, u1, u2, u3⟩ := (CK.b HCKc.out hB).four
          obtain ⟨v0, v1, v2, v3, v4⟩ := (CBox.b HCBc.out hB).five
          have hW := HW.out E rfl rfl rfl rfl rfl rfl rfl rfl A3 _ c3 wr (HOk.out wr hB) (HS4.out.below hB) (by first | exact rfl | exact True.intro)
          unfold WtP at hW
          dsimp only at hW
          by_cases hwe : We = 0
          · subst hwe
            go_wp2_with (first
              | (go_at_call 66; ((with_reducible refine hW.mono ?_); rintro e w8 ⟨A8, n8, c8, rfl, hS8, hb8⟩; have hS9 : SlS w8 A8 n8 c8 Wn := (by first | exact hS8 rfl | exact hS8 True.intro); have cU8 := HU.out A3 _ c3 A8 n8 c8 w8 (HS4.out.below (bel_trans hB hb8)) hS9 (by first | exact rfl | exact True.intro) (by first | exact rfl | exact True.intro) (HXb.out w8 (bel_trans hBw hb8))))
              | (go_at_call 54; ((with_reducible refine cU8.mono ?_); rintro e w9 ⟨A9, N9, C9, rfl, hI9, hb9⟩)))
            have HZ := Lib.hid (HPu.out (by first | exact rfl | exact True.intro) hbad hal.out (by first | exact rfl | exact True.intro) _ _ _ _ hI9 (bel_trans hBw (bel_trans hb8 hb9)))
            first | exact HZ.out | (simp [bodyPost, results, Try.results34, go_sem]; exact HZ.out)
          · have h1 : (We != 0) = true := by simp [hwe]
            go_wp2_with (go_at_call 66; ((with_reducible refine hW.mono ?_); rintro e w8 ⟨A8, n8, c8, rfl, hS8, hb8⟩))
            have HZ := Lib.hid (HPw.out (by first | exact rfl | exact True.intro) hbad hal.out hwe _ (HXb.out w8 (bel_trans hBw hb8)) (bel_trans hBw hb8))
            first | exact HZ.out | (simp [bodyPost, results, Try.results34, go_sem]; exact HZ.out)
  · have h1 : (r1 != 0) = true := by simp [hr]
    simp only [if_neg hr] at cTs
    go_enter Try.func34, Try.ntmps34
    go_wp2_with (go_at_call 52; ((with_reducible refine cTs.mono ?_); rintro e w3 ⟨A3, n3, c3, A4, N4, C4, rfl, hI3, hS3, hb3⟩))
    have HZ := Lib.hid (HPt.out hr _ _ _ _ hI3 (bel_trans HB2.out hb3))
    first | exact HZ.out | (simp [bodyPost, results, Try.results34, go_sem]; exact HZ.out)
theorem claim_any (t : Cl) : ClmOk t := Cl.ind claim_step t
end Go.Proofs.Ytacncbkcnhlpcaa.Wl
