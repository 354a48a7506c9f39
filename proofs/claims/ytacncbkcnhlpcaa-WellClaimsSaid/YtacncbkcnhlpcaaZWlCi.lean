/-
  What is proved: what is wrong with the sorts of a right claim, by the document's answer of layer 13.
-/
import Derived.Test.YtacncbkcnhlpcaaZWlWi
import Derived.Test.YtacncbkcnhlpcaaZWlCl
import Derived.Deep.RegionHeld3
import Derived.Deep.Cut
import Derived.Deep.CutRange
namespace Go.Proofs.Ytacncbkcnhlpcaa.Wl
open Go.RowKit L T C
open Sgn (SlG Fm Core cores hasN findC FindPost FBox FBox.new SlS.nul knownB)
set_option linter.unusedVariables false
set_option linter.unusedSimpArgs false
set_option maxRecDepth 100000

def CinOk (t : Cl) : Prop := ∀ (E : Ev) (S : List ByteArray) (ks : SS) (sa : Option Addr) (sn sc : Nat) (w : World), E.okR w → IsS w E.a E.n S → E.n ≤ 1000000 → cpartE t = 0 → wt t ≤ 1000000 → E.q + wt t ≤ 1000000 → E.q ≤ E.e → (E.p = none → E.e = 0) → ArWC w t ks sa sn sc →
  Calls Try.prog 36 #[.agg #[.slice E.a E.n E.c, .slice E.b E.m E.d], .slice E.vp E.vn E.vc, .slice E.p E.q E.e, .agg #[.int .i64 (opC t), .string (nmC t), .string (soC t), .slice ks.a ks.n ks.c, .slice sa sn sc]] w (GtP (wlC S E.K E.V E.B t) w)
theorem boxesGC (w : World) (a : Option Addr) (n c : Nat) (b : Option Addr) (m d : Nat) (o : Int) (s z : ByteArray) (ks : SS) (ta : Option Addr) (tn tc : Nat) :
    ∃ W, ((w.alloc (.cells #[.slice a n c, .slice b m d] 25)).alloc (.cells #[.int .i64 o, .string s, .string z, .slice ks.a ks.n ks.c, .slice ta tn tc] 46)).alloc (.cells #[.string ⟨#[]⟩, .slice none 0 0, .int .i64 0] 40) = W ∧ Below w.heap.size w W ∧ Sgn.SBox W w.heap.size a n c b m d ∧ CBox W (w.heap.size + 1) o s z ks ta tn tc ∧ GBox W (w.heap.size + 2) ⟨#[]⟩ none 0 0 0 ∧ W.heap.size = w.heap.size + 3 := by
  refine ⟨_, rfl, bel_alloc (bel_alloc (bel_alloc (Below.refl _ _) _) _) _, Sgn.Blk.alloc (Sgn.Blk.alloc (Sgn.Blk.new w _ _) _) _, ?_, ?_, by simp⟩
  · have h := CBox.new (w.alloc (.cells #[.slice a n c, .slice b m d] 25)) o s z ks ta tn tc
    rw [show (w.alloc (.cells #[.slice a n c, .slice b m d] 25)).heap.size = w.heap.size + 1 by simp] at h
    exact CBox.b h (bel_alloc (Below.refl _ _) _)
  · have h := GBox.new ((w.alloc (.cells #[.slice a n c, .slice b m d] 25)).alloc (.cells #[.int .i64 o, .string s, .string z, .slice ks.a ks.n ks.c, .slice ta tn tc] 46)) ⟨#[]⟩ none 0 0 0
    rwa [show ((w.alloc (.cells #[.slice a n c, .slice b m d] 25)).alloc (.cells #[.int .i64 o, .string s, .string z, .slice ks.a ks.n ks.c, .slice ta tn tc] 46)).heap.size = w.heap.size + 2 by simp] at h
theorem step_app_strs {ops : Array Oper} {o : Oper} {a : Act} {w : World} {K : Act → World → Prop} {Q : Exit → Act → World → Prop} {Z : Prop} (hg : o.guard = none) (s x : Operand)
    (ho : o.op = Op.call { callee := Callee.builtin Builtin.append, args := #[s, x], argTypes := #[22, 22] })
    (base : Nat) (v : Value) (Y : List ByteArray) (hs : a.eval s = v) (hown : OwnS w base v Y) (A : Option Addr) (m c : Nat) (X : List ByteArray) (hx : a.eval x = .slice A m c) (hX : SlS w A m c X) (hn : Y.length + m ≤ 1000000000) (hbase : base ≤ w.heap.size)
    (hK : ∀ v' w', OwnS w' base v' (Y ++ X) → w.grownBy w' v.ownBlock → K (a.put o.dst v') w') : if Region.wanted o (yielded ops a.tmps) = true then Oper.wp Try.prog o a w K Q else Z := by
  have hw : Region.wanted o (yielded ops a.tmps) = true := by simp [Region.wanted, hg]
  rw [if_pos hw]
  obtain ⟨i0, hi, hz0, hz1, hz2⟩ := info_parts strI
  have hm : m = X.length := hX.1.1
  have hl : Y.length + m ≤ maxLen := by unfold maxLen; omega
  cases A with
  | none =>
    have hc : c = 0 := hX.2.2 rfl
    have hm0 : m = 0 := by have := hX.2.1; omega
    have hX0 : X = [] := List.eq_nil_of_length_eq_zero (by omega)
    subst hX0 hc hm0
    have hrun := run_append_owned_none (P := Try.prog) (w := w) base 22 o.type 9 i0 1 Try.underlying22 hi v Y.length (vsS Y) hown
    unfold Oper.wp
    simp [execOp, ho, resolve, invoke, builtin, hs, hx, hrun, Result.andThen]
    exact hK v w (by rw [List.append_nil]; exact hown) ⟨rfl, rfl, rfl, Nat.le_refl _, fun _ _ _ => rfl⟩
  | some ad =>
    obtain ⟨v', w', hrun, h1, h2, _⟩ := run_append_own (P := Try.prog) w base 22 o.type 9 i0 _ 1 16 Try.underlying22 hi hz0 hz1 hz2 rfl (by decide) v Y.length (vsS Y) hown ad m c (vsS X) (by rw [vsS_len, hm, Nat.mul_one]) (news_at hX.1) (vsS_one X) hl (by omega) hbase
    unfold Oper.wp
    simp [execOp, ho, resolve, invoke, builtin, hs, hx, hrun, Result.andThen]
    refine hK v' w' ?_ h2
    unfold OwnS
    rw [List.length_append, vsS_app, ← hm]
    exact h1
theorem own_none (w : World) : OwnS (w.alloc (.cells #[] 9)) w.heap.size (.slice (some ⟨w.heap.size, 0, none⟩) 0 0) [] :=
  ⟨rfl, .inr ⟨w.heap.size, 0, #[], rfl, Nat.le_refl _, heap_alloc_new w _, Nat.le_refl _, Nat.zero_le _, rfl, rfl⟩⟩
theorem one_at {w : World} {b : Nat} {so : ByteArray} (hb : b < w.heap.size) (hc : w.cell? ⟨b, 0, none⟩ = some (.string so)) : SlS w (some ⟨b, 0, none⟩) 1 1 [so] :=
  ⟨⟨rfl, fun _ => ⟨b, 0, rfl, hb, fun i hi => by
    match i, hi with
    | 0, _ => exact hc⟩⟩, Nat.le_refl _, fun h => by cases h⟩
theorem own_blk {g n c k : Nat} (h : (Value.slice (some ⟨g, 0, none⟩) n c).ownBlock = some k) : k = g := by simp [Value.ownBlock] at h; exact h.symm
theorem asked_all (g : Option Addr) (n c : Nat) (G : List ByteArray) (d : Option Addr) (m c' : Nat) (D : List ByteArray) (w : World) (hG : IsS w g n G) (hD : IsS w d m D) (hnm : n ≤ m) (hn : n ≤ 1000000) :
    Calls Try.prog 59 #[.slice g n c, .slice d m c'] w fun e w' => ∃ A N C, e = .returned (.agg #[.string ⟨#[]⟩, .slice A N C, .int .i64 (askW G D ⟨#[]⟩).e]) ∧ SlI w' A N C (askW G D ⟨#[]⟩).way ∧ Below w.heap.size w w' ∧ ∀ g, g < w.heap.size → ∀ b o, A = some ⟨b, o, none⟩ → 0 < N → b ≠ g :=
  (asked_any g n c G d m c' D w hG hD hnm hn).mono fun e w' ⟨A, N, C, h1, h2, h3, h4⟩ => ⟨A, N, C, by rw [h1]; unfold askW; split <;> rfl, h2, h3, h4⟩
theorem askW_eq (G D : List ByteArray) : askW G D ⟨#[]⟩ = ⟨(askW G D ⟨#[]⟩).e, (askW G D ⟨#[]⟩).way, ⟨#[]⟩⟩ := by unfold askW; split <;> rfl
theorem wantC_len (K : List Core) (o : Int) (s : ByteArray) (got : List ByteArray) : (wantC K o s got).way.length ≤ 1 := by
  unfold wantC
  split
  · split
    · exact Nat.zero_le _
    · split
      · exact Nat.zero_le _
      · exact askW_len _ _ _
  · split
    · exact askW_len _ _ _
    · split
      · exact askW_len _ _ _
      · exact Nat.zero_le _
mutual
theorem wayC_len (S : List ByteArray) (K : List Core) (V : List Vr) : ∀ (B : List ByteArray) (c : Cl), (wlC S K V B c).way.length ≤ wt c
  | B, .mk o s z ts l => by
    rw [wlC, wt]
    have h1 := ways_len K V B 0 ts
    have h2 := waysC_len S K V (if (o == 11 || o == 12) = true then B ++ [z] else B) ts.length l
    split
    · show (wlTs K V B 0 ts).2.1.length ≤ _; omega
    · split
      · exact Nat.zero_le _
      · generalize wlCs S K V (if (o == 11 || o == 12) = true then B ++ [z] else B) ts.length l = R at *
        split
        · show R.2.length ≤ _; omega
        · have := wantC_len K o s (wlTs K V B 0 ts).2.2; omega
theorem waysC_len (S : List ByteArray) (K : List Core) (V : List Vr) : ∀ (B : List ByteArray) (k : Nat) (l : List Cl), (wlCs S K V B k l).2.length ≤ 1 + wts l
  | B, k, [] => by rw [wlCs]; exact Nat.zero_le _
  | B, k, c :: l => by
    rw [wlCs, wts]
    have h1 := wayC_len S K V B c
    have h2 := waysC_len S K V B (k + 1) l
    split
    · show ((k : Int) :: (wlC S K V B c).way).length ≤ _; simp; omega
    · omega
end
set_option maxHeartbeats 64000000 in
theorem cin_step (t : Cl) (hok : ∀ x ∈ subC t, CinOk x) : CinOk t := by
  intro E S ks sa sn sc w hE hS hEn hp hs hq hqe hpe hA
  obtain ⟨ta, tn, tc⟩ := ks
  obtain ⟨h45, h0t, h8, hrt, hcp⟩ := cpart_parts hp
  have hT : TsW w ta tn tc (tsC t) := ArWC.terms hA
  have hC := ArWC.subs hA
  have htn : tn = (tsC t).length := hT.1
  have hsn : sn = (subC t).length := hC.1
  obtain ⟨W3, hW3, hB3, S3, T3, R3, hs3⟩ := boxesGC w E.a E.n E.c E.b E.m E.d (opC t) (nmC t) (soC t) ⟨ta, tn, tc⟩ sa sn sc
  dsimp only at hW3
  have hsz := wt_mk t
  have hW := wlC_mk S E.K E.V E.B t
  have hPe : ∀ (k : Nat) (x : Tm) A N C w', (tsC t)[k]? = some x → (wlT E.K E.V E.B x).e ≠ 0 → (∀ j y, j < k → (tsC t)[j]? = some y → (wlT E.K E.V E.B y).e = 0) → SlI w' A N C ((k : Int) :: (wlT E.K E.V E.B x).way) → Below w.heap.size w w' → (∀ g, g < w.heap.size → ∀ b o, A = some ⟨b, o, none⟩ → 0 < N → b ≠ g) → GtP (wlC S E.K E.V E.B t) w (.returned (.agg #[.string ⟨#[]⟩, .slice A N C, .int .i64 (wlT E.K E.V E.B x).e])) w' := fun k x A N C w' h1 h2 h3 h4 h5 h6 => by
    have e1 := wlTs_bad (K := E.K) (V := E.V) (B := E.B) 0 k h1 h2 h3
    rw [Nat.zero_add] at e1
    rw [hW, e1, if_pos h2]
    exact ⟨A, N, C, rfl, h4, h5, h6⟩
  have hPo : (∀ x ∈ tsC t, (wlT E.K E.V E.B x).e = 0) → wlC S E.K E.V E.B t = if ((opC t == 11 || opC t == 12) && !rangeB S (soC t)) = true then .bad 11 [] else
      if (wlCs S E.K E.V (if (opC t == 11 || opC t == 12) = true then E.B ++ [soC t] else E.B) tn (subC t)).1 ≠ 0 then .bad (wlCs S E.K E.V (if (opC t == 11 || opC t == 12) = true then E.B ++ [soC t] else E.B) tn (subC t)).1 (wlCs S E.K E.V (if (opC t == 11 || opC t == 12) = true then E.B ++ [soC t] else E.B) tn (subC t)).2
      else wantC E.K (opC t) (nmC t) (sosT E.K E.V E.B (tsC t)) := fun h => by
    rw [hW, wlTs_all 0 h, if_neg (by simp), htn]
  have hPi : ∀ (R : Wr) (X : List Int) (Er : Int) A N C w', wlC S E.K E.V E.B t = R → R = ⟨Er, X, ⟨#[]⟩⟩ → SlI w' A N C X → Below w.heap.size w w' → (∀ g, g < w.heap.size → ∀ b o, A = some ⟨b, o, none⟩ → 0 < N → b ≠ g) → GtP (wlC S E.K E.V E.B t) w (.returned (.agg #[.string ⟨#[]⟩, .slice A N C, .int .i64 Er])) w' := fun R X Er A N C w' h1 h2 h3 h4 h5 => by
    rw [h1, h2]
    exact ⟨A, N, C, rfl, h3, h4, h5⟩
  have hPz : ∀ (R : Wr) (so : ByteArray) (Er : Int) A C w', wlC S E.K E.V E.B t = R → R = ⟨Er, [], so⟩ → (A = none → C = 0) → Below w.heap.size w w' → GtP (wlC S E.K E.V E.B t) w (.returned (.agg #[.string so, .slice A 0 C, .int .i64 Er])) w' := fun R so Er A C w' h1 h2 h3 h4 => by
    rw [h1, h2]
    exact ⟨A, 0, C, rfl, ⟨rfl, Nat.zero_le _, h3, fun h => absurd h (by omega)⟩, h4, fun g _ b o _ h => absurd h (by omega)⟩
  have hsos : ∀ (k : Nat) (x : Tm), (tsC t)[k]? = some x → sosT E.K E.V E.B ((tsC t).take (k + 1)) = sosT E.K E.V E.B ((tsC t).take k) ++ [(wlT E.K E.V E.B x).so] := fun k x h => sosT_take h
  have hsl : ∀ k, k ≤ tn → (sosT E.K E.V E.B ((tsC t).take k)).length = k := fun k h => by simp [sosT]; omega
  have hall : (∀ j x, j < tn → (tsC t)[j]? = some x → (wlT E.K E.V E.B x).e = 0) → ∀ x ∈ tsC t, (wlT E.K E.V E.B x).e = 0 := fun h2 x hx => by
    obtain ⟨j, hj, rfl⟩ := List.mem_iff_getElem.1 hx
    exact h2 j _ (by omega) (List.getElem?_eq_getElem hj)
  have cT : ∀ (k : Nat) (x : Tm), (tsC t)[k]? = some x → ∀ ta' tn' tc' w', Below W3.heap.size W3 w' → ArW w' x ta' tn' tc' → _ := fun k x hk ta' tn' tc' w' h1 h3 =>
    tin_any x E ta' tn' tc' w' (hE.b (bel_trans hB3 h1)) (right_partT (hrt x (List.mem_of_getElem? hk))) (by have := sizes_mem (List.mem_of_getElem? hk); omega) h3
  have cKn : ∀ w', Below W3.heap.size W3 w' → _ := fun w' h => Known13_any E.a E.n E.c S E.b E.m E.d (soC t) w' (hS.below (bel_trans hB3 h)) (by omega)
  have cFi : ∀ w', Below W3.heap.size W3 w' → Calls Try.prog 24 #[.agg #[.slice E.a E.n E.c, .slice E.b E.m E.d], .string (nmC t)] w' fun e w1 => ∃ A C, e = .returned (.tuple #[.agg #[.string (findC E.K (nmC t)).1, .slice A (findC E.K (nmC t)).2.1.length C, .string (findC E.K (nmC t)).2.2], .bool (hasN E.K (nmC t))]) ∧ SlS w1 A (findC E.K (nmC t)).2.1.length C (findC E.K (nmC t)).2.1 ∧ Below w'.heap.size w' w1 := fun w' h =>
    (Find13_any E.a E.n E.c E.b E.m E.d E.G (nmC t) w' ((hE.b (bel_trans hB3 h)).1) hE.2.1).mono fun e w1 ⟨f, h1, h2, h3, h4⟩ => by
      have h3' : f.core = findC E.K (nmC t) := h3
      rw [← h3']
      have hm : f.m = f.X.length := h2.1.1
      refine ⟨f.a, f.c, by rw [h1, hm]; rfl, ?_, h4⟩
      show SlS w1 f.a f.X.length f.c f.X
      rw [← hm]; exact h2
  have hWay : ∀ (k : Nat) (x : Tm), (tsC t)[k]? = some x → (wlT E.K E.V E.B x).way.length ≤ 1000000 := fun k x h => by
    have h1 := way_len E.K E.V E.B x
    have h2 := sizes_mem (List.mem_of_getElem? h)
    omega
  generalize hD : sosT E.K E.V E.B = SOS at *
  generalize hWL : wlT E.K E.V E.B = WL at *
  generalize GtP (wlC S E.K E.V E.B t) w = PP at *
  have HWay := Lib.hid hWay
  have HPe := Lib.hid hPe
  have HPo := Lib.hid hPo
  have HPz := Lib.hid hPz
  have HPi := Lib.hid hPi
  have Hsos := Lib.hid hsos
  have Hsl := Lib.hid hsl
  have Hall := Lib.hid hall
  have HT := Lib.hid cT
  have HKn := Lib.hid cKn
  have HFi := Lib.hid cFi
  have HOk := Lib.hid hok
  have HE := Lib.hid hE
  have HSs := Lib.hid hS
  have HEn := Lib.hid hEn
  have Hcp := Lib.hid hcp
  have Hs := Lib.hid hs
  have Hq := Lib.hid hq
  have Hqe := Lib.hid hqe
  have Hpe := Lib.hid hpe
  have Hsz := Lib.hid hsz
  have H45 := Lib.hid h45
  have H0t := Lib.hid h0t
  have HTs := Lib.hid (TsW.b hT hB3)
  have HCs := Lib.hid (CsW.b hC hB3)
  have HB3 := Lib.hid hB3
  have HS3 := Lib.hid S3
  have HT3 := Lib.hid T3
  have HR3 := Lib.hid R3
  have Hs3 := Lib.hid hs3
  have htn8 : tn ≤ 8 := by omega
  have Hen : Hid (SOS ((tsC t).take tn) = SOS (tsC t)) := Lib.hid (by rw [List.take_of_length_le (by omega)])
  have Htn := Lib.hid htn
  have Hsn := Lib.hid hsn
  have HO0 : Hid (OwnS W3 W3.heap.size (.slice none 0 0) (SOS ((tsC t).take 0))) := Lib.hid (by
    have : SOS ((tsC t).take 0) = [] := by rw [← hD]; rfl
    rw [this]; exact OwnS.nil _ _)
  have HQ := Lib.hid (show ∀ w', Below W3.heap.size W3 w' → (w'.cell? ⟨w.heap.size, 0, none⟩ = some (.slice E.a E.n E.c) ∧ w'.cell? ⟨w.heap.size, 1, none⟩ = some (.slice E.b E.m E.d) ∧ w'.cell? ⟨w.heap.size + 1, 0, none⟩ = some (.int .i64 (opC t)) ∧ w'.cell? ⟨w.heap.size + 1, 1, none⟩ = some (.string (nmC t)) ∧ w'.cell? ⟨w.heap.size + 1, 2, none⟩ = some (.string (soC t)) ∧ w'.cell? ⟨w.heap.size + 1, 3, none⟩ = some (.slice ta tn tc) ∧ w'.cell? ⟨w.heap.size + 1, 4, none⟩ = some (.slice sa sn sc)) ∧
      (w'.cell? ⟨w.heap.size + 2, 0, none⟩ = some (.string ⟨#[]⟩) ∧ w'.cell? ⟨w.heap.size + 2, 1, none⟩ = some (.slice none 0 0) ∧ w'.cell? ⟨w.heap.size + 2, 2, none⟩ = some (.int .i64 0)) ∧ (w'.frozen? ⟨w.heap.size + 2, 0, none⟩ = false ∧ w'.frozen? ⟨w.heap.size + 2, 1, none⟩ = false ∧ w'.frozen? ⟨w.heap.size + 2, 2, none⟩ = false) ∧ GBox w' (w.heap.size + 2) ⟨#[]⟩ none 0 0 0 from fun w' h => by
    obtain ⟨t0, t1, t2, t3, t4⟩ := (CBox.b HT3.out h).five
    obtain ⟨s0, s1⟩ := (HS3.out.b h).two
    exact ⟨⟨s0, s1, t0, t1, t2, t3, t4⟩, (GBox.b HR3.out h).three, (GBox.b HR3.out h).free, GBox.b HR3.out h⟩)
  obtain ⟨⟨s0, s1, t0, t1, t2, t3, t4⟩, ⟨r0, r1, r2⟩, ⟨q0, q1, q2⟩, -⟩ := HQ.out W3 (Below.refl _ _)
  clear hWay hok hE hS hEn hp hs hq hqe hpe hA hT hC hPe hPo hPz hPi hsos hsl hall cT cKn cFi hD hWL hW htn hsn hB3 S3 T3 R3 hs3 hsz h45 h0t h8 hrt hcp
  go_enter Try.func36, Try.ntmps36
  go_wp2
  go_loopw [9, 10] (fun v i wr0 => ∃ (wr : World) (k : Nat) (v' : Value), wr = wr0 ∧ k ≤ tn ∧ v' = v ∧ i = .int .i64 k ∧ Below W3.heap.size W3 wr ∧ Hid (OwnS wr W3.heap.size v' (SOS ((tsC t).take k))) ∧ Hid (∀ j x, j < k → (tsC t)[j]? = some x → (WL x).e = 0)) (fun _ i _ => tn - (intOf i).toNat)
  case atStart => exact ⟨_, 0, _, rfl, by omega, rfl, rfl, Below.refl _ _, HO0, Lib.hid (fun j x h => absurd h (by omega))⟩
  case round =>
    obtain ⟨wr, k, v, rfl, hk, rfl, rfl, hB, hOw, hprev⟩ := hrel
    have zz := HQ.out wr hB
    obtain ⟨⟨s0, s1, t0, t1, t2, t3, t4⟩, ⟨r0, r1, r2⟩, ⟨q0, q1, q2⟩, HG⟩ := zz
    by_cases hlt : k < tn
    · obtain ⟨bb, o, x, ta', tn', tc', rfl, hb, y0', y1', y2', y3', hx, hA⟩ := HTs.out.at hlt
      have HY := Lib.hid (show ∀ w', Below W3.heap.size W3 w' → w'.cell? ⟨bb, o + k * 4, none⟩ = some (.int .i64 (opT x)) ∧ w'.cell? ⟨bb, o + k * 4 + 1, none⟩ = some (.string (nameT x)) ∧ w'.cell? ⟨bb, o + k * 4 + 1 + 1, none⟩ = some (.int .i64 (numT x)) ∧ w'.cell? ⟨bb, o + k * 4 + 1 + 1 + 1, none⟩ = some (.slice ta' tn' tc') from fun w' h =>
        ⟨(h.cell (p := ⟨bb, _, none⟩) hb).trans y0', (h.cell (p := ⟨bb, _, none⟩) hb).trans y1', (h.cell (p := ⟨bb, _, none⟩) hb).trans y2', (h.cell (p := ⟨bb, _, none⟩) hb).trans y3'⟩)
      have hBd : Below wr.heap.size wr wr.drew := (Below.refl _ _).drew
      have hBt := bel_trans hB hBd
      have hBd2 : Below wr.heap.size wr (wr.alloc (.cells #[.string ⟨#[]⟩, .slice none 0 0, .int .i64 0] 40)).drew := (bel_alloc (Below.refl _ _) _).drew
      have hBt2 := bel_trans hB hBd2
      have ct := fun (w' : World) (h : Below W3.heap.size W3 w') => HT.out k x hx ta' tn' tc' w' h (ArW.b hA h)
      unfold GtP at ct
      have hk0 : 0 ≤ (k : Int) := by omega
      have hk1 : (k : Int) < (tn : Int) := by omega
      have Hhx := Lib.hid hx
      have zz := HY.out wr hB
      obtain ⟨y0, y1, y2, y3⟩ := zz
      clear hx hA y0' y1' y2' y3' HT HKn HFi HPz HPi HPo HTs HOk HE HSs HCs
      go_wp2
      refine wp_region_noPanic ?_
      refine wp_region_held_drew (S := fun w' => w'.cell? ⟨w.heap.size, 0, none⟩ = some (.slice E.a E.n E.c) ∧ w'.cell? ⟨w.heap.size, 1, none⟩ = some (.slice E.b E.m E.d) ∧ w'.cell? ⟨w.heap.size + 1, 3, none⟩ = some (.slice (some ⟨bb, o, none⟩) tn tc) ∧ w'.cell? ⟨bb, o + k * 4, none⟩ = some (.int .i64 (opT x)) ∧ w'.cell? ⟨bb, o + k * 4 + 1, none⟩ = some (.string (nameT x)) ∧ w'.cell? ⟨bb, o + k * 4 + 1 + 1, none⟩ = some (.int .i64 (numT x)) ∧ w'.cell? ⟨bb, o + k * 4 + 1 + 1 + 1, none⟩ = some (.slice ta' tn' tc')) (by kernel_rfl) (by exact ⟨(HQ.out _ hBt).1.1, (HQ.out _ hBt).1.2.1, (HQ.out _ hBt).1.2.2.2.2.2.1, HY.out _ hBt⟩) (fun hHeld => ?_)
      refine wpAnyH_take (i := 0) (v := ?_) rfl (by kernel_rfl) (by kernel_rfl) (by kernel_rfl) (fun _ _ _ h => h) (Or.inl ⟨by rfl, ?hy⟩) (by assumption) ?_
      case hy => (intro w hSw; (try dsimp only at hSw); go_simp; try (with_reducible rfl))
      (try simp only [List.getElem_toArray, List.getElem_cons_succ, List.getElem_cons_zero, Act.put, List.setIfInBounds_toArray, List.set_cons_zero, List.set_cons_succ])
      refine wpAnyH_take (i := 1) (v := ?_) rfl (by kernel_rfl) (by kernel_rfl) (by kernel_rfl) (fun _ _ _ h => h) (Or.inl ⟨by rfl, ?hy⟩) (by assumption) ?_
      case hy => (intro w hSw; (try dsimp only at hSw); go_simp; try (with_reducible rfl))
      (try simp only [List.getElem_toArray, List.getElem_cons_succ, List.getElem_cons_zero, Act.put, List.setIfInBounds_toArray, List.set_cons_zero, List.set_cons_succ])
      refine wpAnyH_take (i := 2) (v := ?_) rfl (by kernel_rfl) (by kernel_rfl) (by kernel_rfl) (fun _ _ _ h => h) (Or.inl ⟨by rfl, ?hy⟩) (by assumption) ?_
      case hy => (intro w hSw; (try dsimp only at hSw); go_simp; try (with_reducible rfl))
      (try simp only [List.getElem_toArray, List.getElem_cons_succ, List.getElem_cons_zero, Act.put, List.setIfInBounds_toArray, List.set_cons_zero, List.set_cons_succ])
      refine wpAnyH_take (i := 3) (v := ?_) rfl (by kernel_rfl) (by kernel_rfl) (by kernel_rfl) (fun _ _ _ h => h) (Or.inl ⟨by rfl, ?hy⟩) (by assumption) ?_
      case hy => (intro w hSw; (try dsimp only at hSw); go_simp; try (with_reducible rfl))
      (try simp only [List.getElem_toArray, List.getElem_cons_succ, List.getElem_cons_zero, Act.put, List.setIfInBounds_toArray, List.set_cons_zero, List.set_cons_succ])
      refine wpAnyH_take (i := 4) (v := ?_) rfl (by kernel_rfl) (by kernel_rfl) (by kernel_rfl) (fun _ _ _ h => h) (Or.inl ⟨by rfl, ?hy⟩) (by assumption) ?_
      case hy => (intro w hSw; (try dsimp only at hSw); go_simp; try (with_reducible rfl))
      (try simp only [List.getElem_toArray, List.getElem_cons_succ, List.getElem_cons_zero, Act.put, List.setIfInBounds_toArray, List.set_cons_zero, List.set_cons_succ])
      refine wpAnyH_take (i := 5) (v := ?_) rfl (by kernel_rfl) (by kernel_rfl) (by kernel_rfl) (fun _ _ _ h => h) (Or.inl ⟨by rfl, ?hy⟩) (by assumption) ?_
      case hy => (intro w hSw; (try dsimp only at hSw); go_simp; try (with_reducible rfl))
      (try simp only [List.getElem_toArray, List.getElem_cons_succ, List.getElem_cons_zero, Act.put, List.setIfInBounds_toArray, List.set_cons_zero, List.set_cons_succ])
      refine wpAnyH_take (i := 6) (v := ?_) rfl (by kernel_rfl) (by kernel_rfl) (by kernel_rfl) (fun _ _ _ h => h) (Or.inl ⟨by rfl, ?hy⟩) (by assumption) ?_
      case hy => (intro w hSw; (try dsimp only at hSw); go_simp; try (with_reducible rfl))
      (try simp only [List.getElem_toArray, List.getElem_cons_succ, List.getElem_cons_zero, Act.put, List.setIfInBounds_toArray, List.set_cons_zero, List.set_cons_succ])
      refine wpAnyH_take (i := 7) (v := ?_) rfl (by kernel_rfl) (by kernel_rfl) (by kernel_rfl) (fun _ _ _ h => h) (Or.inl ⟨by rfl, ?hy⟩) (by assumption) ?_
      case hy => (intro w hSw; (try dsimp only at hSw); go_simp; try (with_reducible rfl))
      (try simp only [List.getElem_toArray, List.getElem_cons_succ, List.getElem_cons_zero, Act.put, List.setIfInBounds_toArray, List.set_cons_zero, List.set_cons_succ])
      refine wpAnyH_ready (rs := [8, 9]) (by kernel_rfl) (by simp) ?_
      refine AllReadyH.cons rfl (fun KK hKK => ?_) (AllReadyH.cons rfl (fun KK hKK => ?_) (AllReadyH.nil))
      · go_simp
        (go_at_call 31; ((with_reducible refine (ct _ hBt).mono ?_); rintro e w7 ⟨A7, N7, C7, rfl, hI7, hb7, ho7⟩; have B7 : Below W3.heap.size W3 w7 := bel_trans hBt hb7))
        refine hKK.out _ _ (by exact ⟨(HQ.out _ B7).1.1, (HQ.out _ B7).1.2.1, (HQ.out _ B7).1.2.2.2.2.2.1, HY.out _ B7⟩) (fun hHeld => ?_)
        clear hKK KK
        (try simp only [List.getElem_toArray, List.getElem_cons_succ, List.getElem_cons_zero, Act.put, List.setIfInBounds_toArray, List.set_cons_zero, List.set_cons_succ])
        refine wpAnyH_ready (rs := [9]) (by kernel_rfl) (by simp) ?_
        refine AllReadyH.cons rfl (fun KK hKK => ?_) (AllReadyH.nil)
        have GX := GBox.new w7 ⟨#[]⟩ none 0 0 0
        go_simp
        refine hKK.out _ _ (by exact ⟨(HQ.out _ (bel_alloc B7 _)).1.1, (HQ.out _ (bel_alloc B7 _)).1.2.1, (HQ.out _ (bel_alloc B7 _)).1.2.2.2.2.2.1, HY.out _ (bel_alloc B7 _)⟩) (fun hHeld => ?_)
        clear hKK KK
        (try simp only [List.getElem_toArray, List.getElem_cons_succ, List.getElem_cons_zero, Act.put, List.setIfInBounds_toArray, List.set_cons_zero, List.set_cons_succ])
        have gx0 := GX.three.1; have gx1 := GX.three.2.1; have gx2 := GX.three.2.2; have gf0 := GX.free.1; have gf1 := GX.free.2.1; have gf2 := GX.free.2.2
        refine wpAnyH_ready (rs := [10]) (by kernel_rfl) (by simp) ?_
        refine AllReadyH.cons rfl (fun KK hKK => ?_) (AllReadyH.nil)
        go_simp
        refine hKK.out _ _ (by exact ⟨(HQ.out _ (bel_alloc B7 _)).1.1, (HQ.out _ (bel_alloc B7 _)).1.2.1, (HQ.out _ (bel_alloc B7 _)).1.2.2.2.2.2.1, HY.out _ (bel_alloc B7 _)⟩) (fun hHeld => ?_)
        clear hKK KK
        (try simp only [List.getElem_toArray, List.getElem_cons_succ, List.getElem_cons_zero, Act.put, List.setIfInBounds_toArray, List.set_cons_zero, List.set_cons_succ])
        refine wpAnyH_done (by kernel_rfl) ?_ _
        refine NoPanic.normal ?_
        have GP : GBox (w7.alloc (.cells #[.string (WL x).so, .slice A7 N7 C7, .int .i64 (WL x).e] 40)) w7.heap.size (WL x).so A7 N7 C7 (WL x).e := GBox.new _ _ _ _ _ _
        have BW : Below wr.heap.size wr (w7.alloc (.cells #[.string (WL x).so, .slice A7 N7 C7, .int .i64 (WL x).e] 40)) := bel_alloc (bel_trans hBd hb7) _
        have IC : SlI (w7.alloc (.cells #[.string (WL x).so, .slice A7 N7 C7, .int .i64 (WL x).e] 40)) A7 N7 C7 (WL x).way := (SlI.below hI7 (bel_alloc (Below.refl _ _) _))
        have hgx : W3.heap.size ≤ w7.heap.size := Nat.le_trans B7.size (Nat.le_refl _)
        generalize hWc : (w7.alloc (.cells #[.string (WL x).so, .slice A7 N7 C7, .int .i64 (WL x).e] 40)) = Wc at *
        generalize hgg : w7.heap.size = gx at *
        clear hWc hgg GX hI7 ho7 gx0 gx1 gx2 gf0 gf1 gf2 hHeld hb7 B7
        try clear B8
        try clear b6
        have OC := Lib.hid (OwnS.below hOw.out BW)
        have BC : Below W3.heap.size W3 Wc := bel_trans hB BW
        have HIC := Lib.hid IC
        have HBC := Lib.hid BC
        obtain ⟨p0, p1, p2⟩ := GP.three
        have HGP := Lib.hid GP
        have Hgx := Lib.hid hgx
        clear hOw BW hBd hBd2 hBt hBt2 y0 y1 y2 y3 s0 s1 t0 t1 t2 t3 r0 r1 r2 q0 q1 q2 HG ct IC GP hgx HY
        by_cases he : (WL x).e = 0
        · have h1 : ((WL x).e != 0) = false := by simp [he]
          have B9 := bel_alloc BC (.cells #[.string (WL x).so] 9)
          have b9 : Below Wc.heap.size Wc (Wc.alloc (.cells #[.string (WL x).so] 9)) := bel_alloc (Below.refl _ _) _
          have O9 := Lib.hid (OwnS.below OC.out b9)
          have hOne : SlS (Wc.alloc (.cells #[.string (WL x).so] 9)) (some ⟨Wc.heap.size, 0, none⟩) 1 1 [(WL x).so] := ⟨⟨rfl, fun _ => ⟨Wc.heap.size, 0, rfl, by simp, fun i hi => by
            match i, hi with
            | 0, _ => exact Sgn.Blk.cell (Sgn.Blk.new Wc #[.string (WL x).so] 9) 0⟩⟩, Nat.le_refl _, fun h => by cases h⟩
          have HOne := Lib.hid hOne
          have hD := Hsl.out k hk
          have HDl := Lib.hid hD
          clear b9 hOne hD
          go_wp2_with (at_builtin; ((refine app_strs rfl (.tmp 42) (.tmp 45) rfl W3.heap.size v (SOS ((tsC t).take k)) rfl O9.out _ _ _ [(WL x).so] rfl HOne.out (by rw [HDl.out]; omega) (by have := B9.size; exact this) ?_); intro v1 w1 ho1 hg1))
          rw [← Hsos.out k x Hhx.out] at ho1
          have HO1 := Lib.hid ho1
          have HB1 := Lib.hid (B9.grown hg1 B9.size (fun q hq => (World.ownsRow.lt O9.out q hq).1))
          have hpr2 : Hid (∀ j y, j < k + 1 → (tsC t)[j]? = some y → (WL y).e = 0) := by
            intro j y hj hy
            by_cases hjk : j < k
            · exact hprev.out j y hjk hy
            · obtain rfl : j = k := by omega
              rw [Hhx.out] at hy
              rw [← Option.some.inj hy]; exact he
          clear ho1 hg1 OC O9 HOne hprev HIC HGP B9 BC p0 p1 p2
          go_roundw
          case rel => exact ⟨_, k + 1, v1, rfl, by omega, rfl, by go_num, HB1.out, HO1, hpr2⟩
          case measure => simp [intOf]; omega
        · have h1 : ((WL x).e != 0) = true := by simp [he]
          have hNw : N7 ≤ 1000000 := by rw [HIC.out.1]; exact HWay.out k x Hhx.out
          have ca := ahead_any (k : Int) A7 N7 C7 (WL x).way Wc.drew (HIC.out.below (Below.refl _ _).drew) hNw
          have hne2 : w.heap.size + 2 < gx := by have := Hgx.out; have := Hs3.out; omega
          have BCd : Below Wc.heap.size Wc Wc.drew := (Below.refl _ _).drew
          have HK := Lib.hid (show ∀ w', Below Wc.heap.size Wc w' → w'.cell? ⟨gx, 1, none⟩ = some (.slice A7 N7 C7) ∧ w'.cell? ⟨gx, 2, none⟩ = some (.int .i64 (WL x).e) from fun w' h => (GBox.b HGP.out h).three.2)
          go_wp2
          refine wp_region_noPanic ?_
          refine wp_region_held_drew (S := fun w' => w'.cell? ⟨gx, 1, none⟩ = some (.slice A7 N7 C7) ∧ w'.cell? ⟨gx, 2, none⟩ = some (.int .i64 (WL x).e)) (by kernel_rfl) (by exact HK.out _ BCd) (fun hHeld => ?_)
          refine wpAnyH_take (i := 0) (v := ?_) rfl (by kernel_rfl) (by kernel_rfl) (by kernel_rfl) (fun _ _ _ h => h) (Or.inl ⟨by rfl, ?hy⟩) (by assumption) ?_
          case hy => (intro w hSw; (try dsimp only at hSw); go_simp; try (with_reducible rfl))
          (try simp only [List.getElem_toArray, List.getElem_cons_succ, List.getElem_cons_zero, Act.put, List.setIfInBounds_toArray, List.set_cons_zero, List.set_cons_succ])
          refine wpAnyH_take (i := 1) (v := ?_) rfl (by kernel_rfl) (by kernel_rfl) (by kernel_rfl) (fun _ _ _ h => h) (Or.inl ⟨by rfl, ?hy⟩) (by assumption) ?_
          case hy => (intro w hSw; (try dsimp only at hSw); go_simp; try (with_reducible rfl))
          (try simp only [List.getElem_toArray, List.getElem_cons_succ, List.getElem_cons_zero, Act.put, List.setIfInBounds_toArray, List.set_cons_zero, List.set_cons_succ])
          refine wpAnyH_take (i := 2) (v := ?_) rfl (by kernel_rfl) (by kernel_rfl) (by kernel_rfl) (fun _ _ _ h => h) (Or.inl ⟨by rfl, ?hy⟩) (by assumption) ?_
          case hy => (intro w hSw; (try dsimp only at hSw); go_simp; try (with_reducible rfl))
          (try simp only [List.getElem_toArray, List.getElem_cons_succ, List.getElem_cons_zero, Act.put, List.setIfInBounds_toArray, List.set_cons_zero, List.set_cons_succ])
          refine wpAnyH_take (i := 4) (v := ?_) rfl (by kernel_rfl) (by kernel_rfl) (by kernel_rfl) (fun _ _ _ h => h) (Or.inl ⟨by rfl, ?hy⟩) (by assumption) ?_
          case hy => (intro w hSw; (try dsimp only at hSw); go_simp; try (with_reducible rfl))
          (try simp only [List.getElem_toArray, List.getElem_cons_succ, List.getElem_cons_zero, Act.put, List.setIfInBounds_toArray, List.set_cons_zero, List.set_cons_succ])
          refine wpAnyH_take (i := 5) (v := ?_) rfl (by kernel_rfl) (by kernel_rfl) (by kernel_rfl) (fun _ _ _ h => h) (Or.inl ⟨by rfl, ?hy⟩) (by assumption) ?_
          case hy => (intro w hSw; (try dsimp only at hSw); go_simp; try (with_reducible rfl))
          (try simp only [List.getElem_toArray, List.getElem_cons_succ, List.getElem_cons_zero, Act.put, List.setIfInBounds_toArray, List.set_cons_zero, List.set_cons_succ])
          refine wpAnyH_ready (rs := [3]) (by kernel_rfl) (by simp) ?_
          refine AllReadyH.cons rfl (fun KK hKK => ?_) AllReadyH.nil
          go_simp
          (go_at_call 58; ((with_reducible refine ca.mono ?_); rintro e w8 ⟨A8, C8, rfl, hI8, hb8, ho8⟩; have b8 := bel_trans BCd hb8; have B8 := bel_trans HBC.out b8; have zz := HQ.out _ B8; obtain ⟨-, ⟨r0, r1, r2⟩, ⟨q0, q1, q2⟩, HG8⟩ := zz))
          refine hKK.out _ _ (by exact HK.out _ b8) (fun hHeld => ?_)
          clear hKK KK
          (try simp only [List.getElem_toArray, List.getElem_cons_succ, List.getElem_cons_zero, Act.put, List.setIfInBounds_toArray, List.set_cons_zero, List.set_cons_succ])
          refine wpAnyH_take (i := 6) (v := ?_) rfl (by kernel_rfl) (by kernel_rfl) (by kernel_rfl) (fun _ _ _ h => h) (Or.inl ⟨by rfl, ?hy⟩) (by assumption) ?_
          case hy => (intro w hSw; (try dsimp only at hSw); go_simp; try (with_reducible rfl))
          (try simp only [List.getElem_toArray, List.getElem_cons_succ, List.getElem_cons_zero, Act.put, List.setIfInBounds_toArray, List.set_cons_zero, List.set_cons_succ])
          refine wpAnyH_ready (rs := [7]) (by kernel_rfl) (by simp) ?_
          refine AllReadyH.cons rfl (fun KK hKK => ?_) (AllReadyH.nil)
          go_simp
          refine hKK.out _ _ (by exact ⟨far3c (HK.out _ b8).1 (Nat.ne_of_lt hne2), far3c (HK.out _ b8).2 (Nat.ne_of_lt hne2)⟩) (fun hHeld => ?_)
          clear hKK KK
          (try simp only [List.getElem_toArray, List.getElem_cons_succ, List.getElem_cons_zero, Act.put, List.setIfInBounds_toArray, List.set_cons_zero, List.set_cons_succ])
          refine wpAnyH_done (by kernel_rfl) ?_ _
          refine NoPanic.normal ?_
          have R6 := HG8.put ⟨#[]⟩ A8 (N7 + 1) C8 (WL x).e
          obtain ⟨x0, x1, x2⟩ := R6.three
          have hfar : ∀ b o, A8 = some ⟨b, o, none⟩ → 0 < N7 + 1 → b ≠ w.heap.size + 2 := ho8 _ (by show w.heap.size + 2 < Wc.heap.size; have := HBC.out.size; have := Hs3.out; omega)
          have HZ := Lib.hid (HPe.out k x A8 (N7 + 1) C8 _ Hhx.out he hprev.out (((hI8.far hfar (.string ⟨#[]⟩)).far hfar (.slice A8 (N7 + 1) C8)).far hfar (.int .i64 (WL x).e)) (Sgn.below_set3 (bel_trans HB3.out B8) (show w.heap.size ≤ w.heap.size + 2 by omega) _ _ _) (fun g hg => ho8 g (by show g < Wc.heap.size; have := HBC.out.size; have := Hs3.out; omega)))
          go_wp2
          try (simp [bodyPost, results, Try.results36, go_sem, x0, x1, x2])
          exact HZ.out
      · go_simp
        refine hKK.out _ _ (by exact ⟨(HQ.out _ hBt2).1.1, (HQ.out _ hBt2).1.2.1, (HQ.out _ hBt2).1.2.2.2.2.2.1, HY.out _ hBt2⟩) (fun hHeld => ?_)
        clear hKK KK
        (try simp only [List.getElem_toArray, List.getElem_cons_succ, List.getElem_cons_zero, Act.put, List.setIfInBounds_toArray, List.set_cons_zero, List.set_cons_succ])
        refine wpAnyH_ready (rs := [8]) (by kernel_rfl) (by simp) ?_
        refine AllReadyH.cons rfl (fun KK hKK => ?_) (AllReadyH.nil)
        go_simp
        (go_at_call 31; ((with_reducible refine (ct _ hBt2).mono ?_); rintro e w7 ⟨A7, N7, C7, rfl, hI7, hb7, ho7⟩; have B7 : Below W3.heap.size W3 w7 := bel_trans hBt2 hb7))
        refine hKK.out _ _ (by exact ⟨(HQ.out _ B7).1.1, (HQ.out _ B7).1.2.1, (HQ.out _ B7).1.2.2.2.2.2.1, HY.out _ B7⟩) (fun hHeld => ?_)
        clear hKK KK
        (try simp only [List.getElem_toArray, List.getElem_cons_succ, List.getElem_cons_zero, Act.put, List.setIfInBounds_toArray, List.set_cons_zero, List.set_cons_succ])
        have GX := GBox.b (GBox.b (GBox.new wr ⟨#[]⟩ none 0 0 0) (Below.refl _ _).drew) hb7
        have gx0 := GX.three.1; have gx1 := GX.three.2.1; have gx2 := GX.three.2.2; have gf0 := GX.free.1; have gf1 := GX.free.2.1; have gf2 := GX.free.2.2
        refine wpAnyH_ready (rs := [10]) (by kernel_rfl) (by simp) ?_
        refine AllReadyH.cons rfl (fun KK hKK => ?_) (AllReadyH.nil)
        go_simp
        refine hKK.out _ _ (by exact ⟨(HQ.out _ (Sgn.below_set3 B7 hB.size _ _ _)).1.1, (HQ.out _ (Sgn.below_set3 B7 hB.size _ _ _)).1.2.1, (HQ.out _ (Sgn.below_set3 B7 hB.size _ _ _)).1.2.2.2.2.2.1, HY.out _ (Sgn.below_set3 B7 hB.size _ _ _)⟩) (fun hHeld => ?_)
        clear hKK KK
        (try simp only [List.getElem_toArray, List.getElem_cons_succ, List.getElem_cons_zero, Act.put, List.setIfInBounds_toArray, List.set_cons_zero, List.set_cons_succ])
        refine wpAnyH_done (by kernel_rfl) ?_ _
        refine NoPanic.normal ?_
        have GP : GBox (((w7.setCell ⟨wr.heap.size, 0, none⟩ (.string (WL x).so)).setCell ⟨wr.heap.size, 1, none⟩ (.slice A7 N7 C7)).setCell ⟨wr.heap.size, 2, none⟩ (.int .i64 (WL x).e)) wr.heap.size (WL x).so A7 N7 C7 (WL x).e := GX.put _ _ _ _ _
        have BW : Below wr.heap.size wr (((w7.setCell ⟨wr.heap.size, 0, none⟩ (.string (WL x).so)).setCell ⟨wr.heap.size, 1, none⟩ (.slice A7 N7 C7)).setCell ⟨wr.heap.size, 2, none⟩ (.int .i64 (WL x).e)) := Sgn.below_set3 (bel_trans hBd2 hb7) (Nat.le_refl _) _ _ _
        have IC : SlI (((w7.setCell ⟨wr.heap.size, 0, none⟩ (.string (WL x).so)).setCell ⟨wr.heap.size, 1, none⟩ (.slice A7 N7 C7)).setCell ⟨wr.heap.size, 2, none⟩ (.int .i64 (WL x).e)) A7 N7 C7 (WL x).way := ((SlI.far hI7 (ho7 _ (by simp)) _).far (ho7 _ (by simp)) _).far (ho7 _ (by simp)) _
        have hgx : W3.heap.size ≤ wr.heap.size := hB.size
        generalize hWc : (((w7.setCell ⟨wr.heap.size, 0, none⟩ (.string (WL x).so)).setCell ⟨wr.heap.size, 1, none⟩ (.slice A7 N7 C7)).setCell ⟨wr.heap.size, 2, none⟩ (.int .i64 (WL x).e)) = Wc at *
        have hgg := True.intro
        clear hWc hgg GX hI7 ho7 gx0 gx1 gx2 gf0 gf1 gf2 hHeld hb7 B7
        try clear B8
        try clear b6
        have OC := Lib.hid (OwnS.below hOw.out BW)
        have BC : Below W3.heap.size W3 Wc := bel_trans hB BW
        have HIC := Lib.hid IC
        have HBC := Lib.hid BC
        obtain ⟨p0, p1, p2⟩ := GP.three
        have HGP := Lib.hid GP
        have Hgx := Lib.hid hgx
        clear hOw BW hBd hBd2 hBt hBt2 y0 y1 y2 y3 s0 s1 t0 t1 t2 t3 r0 r1 r2 q0 q1 q2 HG ct IC GP hgx HY
        by_cases he : (WL x).e = 0
        · have h1 : ((WL x).e != 0) = false := by simp [he]
          have B9 := bel_alloc BC (.cells #[.string (WL x).so] 9)
          have b9 : Below Wc.heap.size Wc (Wc.alloc (.cells #[.string (WL x).so] 9)) := bel_alloc (Below.refl _ _) _
          have O9 := Lib.hid (OwnS.below OC.out b9)
          have hOne : SlS (Wc.alloc (.cells #[.string (WL x).so] 9)) (some ⟨Wc.heap.size, 0, none⟩) 1 1 [(WL x).so] := ⟨⟨rfl, fun _ => ⟨Wc.heap.size, 0, rfl, by simp, fun i hi => by
            match i, hi with
            | 0, _ => exact Sgn.Blk.cell (Sgn.Blk.new Wc #[.string (WL x).so] 9) 0⟩⟩, Nat.le_refl _, fun h => by cases h⟩
          have HOne := Lib.hid hOne
          have hD := Hsl.out k hk
          have HDl := Lib.hid hD
          clear b9 hOne hD
          go_wp2_with (at_builtin; ((refine app_strs rfl (.tmp 42) (.tmp 45) rfl W3.heap.size v (SOS ((tsC t).take k)) rfl O9.out _ _ _ [(WL x).so] rfl HOne.out (by rw [HDl.out]; omega) (by have := B9.size; exact this) ?_); intro v1 w1 ho1 hg1))
          rw [← Hsos.out k x Hhx.out] at ho1
          have HO1 := Lib.hid ho1
          have HB1 := Lib.hid (B9.grown hg1 B9.size (fun q hq => (World.ownsRow.lt O9.out q hq).1))
          have hpr2 : Hid (∀ j y, j < k + 1 → (tsC t)[j]? = some y → (WL y).e = 0) := by
            intro j y hj hy
            by_cases hjk : j < k
            · exact hprev.out j y hjk hy
            · obtain rfl : j = k := by omega
              rw [Hhx.out] at hy
              rw [← Option.some.inj hy]; exact he
          clear ho1 hg1 OC O9 HOne hprev HIC HGP B9 BC p0 p1 p2
          go_roundw
          case rel => exact ⟨_, k + 1, v1, rfl, by omega, rfl, by go_num, HB1.out, HO1, hpr2⟩
          case measure => simp [intOf]; omega
        · have h1 : ((WL x).e != 0) = true := by simp [he]
          have hNw : N7 ≤ 1000000 := by rw [HIC.out.1]; exact HWay.out k x Hhx.out
          have ca := ahead_any (k : Int) A7 N7 C7 (WL x).way Wc.drew (HIC.out.below (Below.refl _ _).drew) hNw
          have hne2 : w.heap.size + 2 < wr.heap.size := by have := Hgx.out; have := Hs3.out; omega
          have BCd : Below Wc.heap.size Wc Wc.drew := (Below.refl _ _).drew
          have HK := Lib.hid (show ∀ w', Below Wc.heap.size Wc w' → w'.cell? ⟨wr.heap.size, 1, none⟩ = some (.slice A7 N7 C7) ∧ w'.cell? ⟨wr.heap.size, 2, none⟩ = some (.int .i64 (WL x).e) from fun w' h => (GBox.b HGP.out h).three.2)
          go_wp2
          refine wp_region_noPanic ?_
          refine wp_region_held_drew (S := fun w' => w'.cell? ⟨wr.heap.size, 1, none⟩ = some (.slice A7 N7 C7) ∧ w'.cell? ⟨wr.heap.size, 2, none⟩ = some (.int .i64 (WL x).e)) (by kernel_rfl) (by exact HK.out _ BCd) (fun hHeld => ?_)
          refine wpAnyH_take (i := 0) (v := ?_) rfl (by kernel_rfl) (by kernel_rfl) (by kernel_rfl) (fun _ _ _ h => h) (Or.inl ⟨by rfl, ?hy⟩) (by assumption) ?_
          case hy => (intro w hSw; (try dsimp only at hSw); go_simp; try (with_reducible rfl))
          (try simp only [List.getElem_toArray, List.getElem_cons_succ, List.getElem_cons_zero, Act.put, List.setIfInBounds_toArray, List.set_cons_zero, List.set_cons_succ])
          refine wpAnyH_take (i := 1) (v := ?_) rfl (by kernel_rfl) (by kernel_rfl) (by kernel_rfl) (fun _ _ _ h => h) (Or.inl ⟨by rfl, ?hy⟩) (by assumption) ?_
          case hy => (intro w hSw; (try dsimp only at hSw); go_simp; try (with_reducible rfl))
          (try simp only [List.getElem_toArray, List.getElem_cons_succ, List.getElem_cons_zero, Act.put, List.setIfInBounds_toArray, List.set_cons_zero, List.set_cons_succ])
          refine wpAnyH_take (i := 2) (v := ?_) rfl (by kernel_rfl) (by kernel_rfl) (by kernel_rfl) (fun _ _ _ h => h) (Or.inl ⟨by rfl, ?hy⟩) (by assumption) ?_
          case hy => (intro w hSw; (try dsimp only at hSw); go_simp; try (with_reducible rfl))
          (try simp only [List.getElem_toArray, List.getElem_cons_succ, List.getElem_cons_zero, Act.put, List.setIfInBounds_toArray, List.set_cons_zero, List.set_cons_succ])
          refine wpAnyH_take (i := 4) (v := ?_) rfl (by kernel_rfl) (by kernel_rfl) (by kernel_rfl) (fun _ _ _ h => h) (Or.inl ⟨by rfl, ?hy⟩) (by assumption) ?_
          case hy => (intro w hSw; (try dsimp only at hSw); go_simp; try (with_reducible rfl))
          (try simp only [List.getElem_toArray, List.getElem_cons_succ, List.getElem_cons_zero, Act.put, List.setIfInBounds_toArray, List.set_cons_zero, List.set_cons_succ])
          refine wpAnyH_take (i := 5) (v := ?_) rfl (by kernel_rfl) (by kernel_rfl) (by kernel_rfl) (fun _ _ _ h => h) (Or.inl ⟨by rfl, ?hy⟩) (by assumption) ?_
          case hy => (intro w hSw; (try dsimp only at hSw); go_simp; try (with_reducible rfl))
          (try simp only [List.getElem_toArray, List.getElem_cons_succ, List.getElem_cons_zero, Act.put, List.setIfInBounds_toArray, List.set_cons_zero, List.set_cons_succ])
          refine wpAnyH_ready (rs := [3]) (by kernel_rfl) (by simp) ?_
          refine AllReadyH.cons rfl (fun KK hKK => ?_) AllReadyH.nil
          go_simp
          (go_at_call 58; ((with_reducible refine ca.mono ?_); rintro e w8 ⟨A8, C8, rfl, hI8, hb8, ho8⟩; have b8 := bel_trans BCd hb8; have B8 := bel_trans HBC.out b8; have zz := HQ.out _ B8; obtain ⟨-, ⟨r0, r1, r2⟩, ⟨q0, q1, q2⟩, HG8⟩ := zz))
          refine hKK.out _ _ (by exact HK.out _ b8) (fun hHeld => ?_)
          clear hKK KK
          (try simp only [List.getElem_toArray, List.getElem_cons_succ, List.getElem_cons_zero, Act.put, List.setIfInBounds_toArray, List.set_cons_zero, List.set_cons_succ])
          refine wpAnyH_take (i := 6) (v := ?_) rfl (by kernel_rfl) (by kernel_rfl) (by kernel_rfl) (fun _ _ _ h => h) (Or.inl ⟨by rfl, ?hy⟩) (by assumption) ?_
          case hy => (intro w hSw; (try dsimp only at hSw); go_simp; try (with_reducible rfl))
          (try simp only [List.getElem_toArray, List.getElem_cons_succ, List.getElem_cons_zero, Act.put, List.setIfInBounds_toArray, List.set_cons_zero, List.set_cons_succ])
          refine wpAnyH_ready (rs := [7]) (by kernel_rfl) (by simp) ?_
          refine AllReadyH.cons rfl (fun KK hKK => ?_) (AllReadyH.nil)
          go_simp
          refine hKK.out _ _ (by exact ⟨far3c (HK.out _ b8).1 (Nat.ne_of_lt hne2), far3c (HK.out _ b8).2 (Nat.ne_of_lt hne2)⟩) (fun hHeld => ?_)
          clear hKK KK
          (try simp only [List.getElem_toArray, List.getElem_cons_succ, List.getElem_cons_zero, Act.put, List.setIfInBounds_toArray, List.set_cons_zero, List.set_cons_succ])
          refine wpAnyH_done (by kernel_rfl) ?_ _
          refine NoPanic.normal ?_
          have R6 := HG8.put ⟨#[]⟩ A8 (N7 + 1) C8 (WL x).e
          obtain ⟨x0, x1, x2⟩ := R6.three
          have hfar : ∀ b o, A8 = some ⟨b, o, none⟩ → 0 < N7 + 1 → b ≠ w.heap.size + 2 := ho8 _ (by show w.heap.size + 2 < Wc.heap.size; have := HBC.out.size; have := Hs3.out; omega)
          have HZ := Lib.hid (HPe.out k x A8 (N7 + 1) C8 _ Hhx.out he hprev.out (((hI8.far hfar (.string ⟨#[]⟩)).far hfar (.slice A8 (N7 + 1) C8)).far hfar (.int .i64 (WL x).e)) (Sgn.below_set3 (bel_trans HB3.out B8) (show w.heap.size ≤ w.heap.size + 2 by omega) _ _ _) (fun g hg => ho8 g (by show g < Wc.heap.size; have := HBC.out.size; have := Hs3.out; omega)))
          go_wp2
          try (simp [bodyPost, results, Try.results36, go_sem, x0, x1, x2])
          exact HZ.out
    · obtain rfl : k = tn := by omega
      have hk0 : ¬ (k : Int) < (k : Int) := by omega
      have hoW := HPo.out (Hall.out hprev.out)
      have hOwn := hOw.out
      rw [Hen.out] at hOwn
      obtain ⟨GA, GC, rfl, hGS⟩ := hOwn.slS
      have HGb := Lib.hid (show ∀ b o, GA = some ⟨b, o, none⟩ → W3.heap.size ≤ b from fun b o e => (World.ownsRow.lt hOwn b (by rw [e]; rfl)).1)
      have hGl : (SOS (tsC t)).length = k := by rw [← Hen.out]; exact Hsl.out k (Nat.le_refl _)
      rw [hGl] at hGS
      have HGS := Lib.hid hGS
      have HGI := Lib.hid (show IsS wr GA k (SOS (tsC t)) from hGS.1)
      have HBr := Lib.hid (bel_trans HB3.out hB)
      have HGl := Lib.hid hGl
      clear HT HPe hOw hprev Hall Hsos Hsl HO0 hOwn hGS HPo
      generalize SOS (tsC t) = D at *
      clear Hen
      generalize hcs : subC t = lc at *
      generalize opC t = op at *
      generalize nmC t = nm at *
      generalize soC t = so at *
      generalize hWC : wlC S E.K E.V E.B t = WC at *
      clear hWC hcs
      have ⟨Wb, hWb⟩ : ∃ Wb, Wb = wr := ⟨_, rfl⟩
      subst hWb
      by_cases hbin : op = 11 ∨ op = 12
      · rcases hbin with hp11 | hp12
        · subst hp11
          have cK := HKn.out
          cases hkn : knownB S so with
          | false =>
            simp only [hkn] at cK
            have HoW := Lib.hid (hoW.trans (if_pos (show (((11 : Int) == 11 || (11 : Int) == 12) && !rangeB S so) = true by unfold rangeB; rw [hkn]; rfl)))
            clear hoW s0 s1 t0 t1 t2 t3 t4 r0 r1 r2 q0 q1 q2 HG
            obtain ⟨⟨s0, s1, t0, t1, t2, t3, t4⟩, -⟩ := HQ.out Wb hB
            go_wp2_with (go_at_call 26; ((with_reducible refine (cK _ hB).mono ?_); rintro e w3 ⟨rfl, hb3⟩; have B3 := bel_trans hB hb3; have zz := HQ.out _ B3; obtain ⟨⟨s0, s1, t0, t1, t2, t3, t4⟩, ⟨r0, r1, r2⟩, ⟨q0, q1, q2⟩, HG9⟩ := zz))
            have R6 := HG9.put ⟨#[]⟩ none 0 0 11
            obtain ⟨x0, x1, x2⟩ := R6.three
            have HZ := Lib.hid (HPz.out (Wr.bad 11 []) ⟨#[]⟩ 11 none 0 _ (HoW.out) rfl (fun _ => rfl) (Sgn.below_set3 (bel_trans HB3.out B3) (show w.heap.size ≤ w.heap.size + 2 by omega) (.string ⟨#[]⟩) (.slice none 0 0) (.int .i64 11)))
            first | exact HZ.out | (simp [bodyPost, results, Try.results36, go_sem, x0, x1, x2]; exact HZ.out)
          | true =>
            simp only [hkn] at cK
            cases hbo : so.toList == [66, 111, 111, 108] with
            | true =>
              have hbo2 : (so.toList = [66, 111, 111, 108]) = True := by simpa using hbo
              have HoW := Lib.hid (hoW.trans (if_pos (show (((11 : Int) == 11 || (11 : Int) == 12) && !rangeB S so) = true by unfold rangeB; rw [hkn, sBool_l, hbo]; rfl)))
              clear hoW s0 s1 t0 t1 t2 t3 t4 r0 r1 r2 q0 q1 q2 HG
              obtain ⟨⟨s0, s1, t0, t1, t2, t3, t4⟩, -⟩ := HQ.out Wb hB
              go_wp2_with (go_at_call 26; ((with_reducible refine (cK _ hB).mono ?_); rintro e w3 ⟨rfl, hb3⟩; have B3 := bel_trans hB hb3; have zz := HQ.out _ B3; obtain ⟨⟨s0, s1, t0, t1, t2, t3, t4⟩, ⟨r0, r1, r2⟩, ⟨q0, q1, q2⟩, HG9⟩ := zz))
              have R6 := HG9.put ⟨#[]⟩ none 0 0 11
              obtain ⟨x0, x1, x2⟩ := R6.three
              have HZ := Lib.hid (HPz.out (Wr.bad 11 []) ⟨#[]⟩ 11 none 0 _ (HoW.out) rfl (fun _ => rfl) (Sgn.below_set3 (bel_trans HB3.out B3) (show w.heap.size ≤ w.heap.size + 2 by omega) (.string ⟨#[]⟩) (.slice none 0 0) (.int .i64 11)))
              first | exact HZ.out | (simp [bodyPost, results, Try.results36, go_sem, x0, x1, x2]; exact HZ.out)
            | false =>
              have hbo2 : (so.toList = [66, 111, 111, 108]) = False := by simpa using hbo
              have hrg : rangeB S so = true := by unfold rangeB; rw [hkn, sBool_l, hbo]; rfl
              have hoB := hoW.trans (if_neg (show ¬ (((11 : Int) == 11 || (11 : Int) == 12) && !rangeB S so) = true by rw [hrg]; decide))
              rw [show (if ((11 : Int) == 11 || (11 : Int) == 12) = true then E.B ++ [so] else E.B) = E.B ++ [so] from if_pos (by decide)] at hoB
              have HoB := Lib.hid hoB
              clear hoW hoB s0 s1 t0 t1 t2 t3 t4 r0 r1 r2 q0 q1 q2 HG
              obtain ⟨⟨s0, s1, t0, t1, t2, t3, t4⟩, -⟩ := HQ.out Wb hB
              have HSl := Lib.hid (show ∀ w', Below W3.heap.size W3 w' → SlS w' E.p E.q E.e E.B from fun w' h => ⟨(HE.out.b (bel_trans HB3.out h)).2.2.2.2.1, Hqe.out, Hpe.out⟩)
              have hq6 : E.q ≤ 1000000 := HE.out.2.2.2.2.2
              have hqB : E.q = E.B.length := HE.out.2.2.2.2.1.1
              have HqB := Lib.hid hqB
              clear hqB
              have HBW := Lib.hid hB
              go_upto_region 12 with (go_at_call 26; ((with_reducible refine (cK _ hB).mono ?_); rintro e w3 ⟨rfl, hb3⟩; have B3 := bel_trans hB hb3; have zz := HQ.out _ B3; obtain ⟨⟨s0, s1, t0, t1, t2, t3, t4⟩, ⟨r0, r1, r2⟩, ⟨q0, q1, q2⟩, HG9⟩ := zz))
              clear r0 r1 r2 q0 q1 q2 HG9 cK
              go_cut [2] from 66 to 72 (fun v wc => (∃ A C, v = .slice A (E.q + 1) C ∧ Hid (SlS wc A (E.q + 1) C (E.B ++ [so]))) ∧ Hid (Below Wb.heap.size Wb wc))
              case first =>
                have HB3w := Lib.hid B3
                have Hb3 := Lib.hid hb3
                have hfin : ∀ v w5, OwnS w5 w3.heap.size v (E.B ++ [so]) → Below w3.heap.size w3 w5 → (∃ A C, v = .slice A (E.q + 1) C ∧ Hid (SlS w5 A (E.q + 1) C (E.B ++ [so]))) ∧ Hid (Below Wb.heap.size Wb w5) := fun v w5 h1 h2 => by
                  obtain ⟨A, C, rfl, h3⟩ := h1.slS
                  have e1 : (E.B ++ [so]).length = E.q + 1 := by rw [List.length_append, ← HqB.out]; rfl
                  rw [e1] at h3 ⊢
                  exact ⟨⟨A, C, rfl, Lib.hid h3⟩, Lib.hid (bel_trans Hb3.out h2)⟩
                have HF := Lib.hid hfin
                clear hfin
                have X0 : Below w3.heap.size w3 (w3.alloc (.cells #[] 9)).drew := (bel_alloc (Below.refl _ _) _).drew
                have XS : Below w3.heap.size w3 (w3.alloc (.cells #[.string so] 9)).drew := (bel_alloc (Below.refl _ _) _).drew
                have X0S : Below w3.heap.size w3 ((w3.alloc (.cells #[] 9)).alloc (.cells #[.string so] 9)).drew := (bel_alloc (bel_alloc (Below.refl _ _) _) _).drew
                have XS0 : Below w3.heap.size w3 ((w3.alloc (.cells #[.string so] 9)).alloc (.cells #[] 9)).drew := (bel_alloc (bel_alloc (Below.refl _ _) _) _).drew
                have X3 : Below w3.heap.size w3 w3.drew := (Below.refl _ _).drew
                have O0 : OwnS (w3.alloc (.cells #[] 9)).drew w3.heap.size (.slice (some ⟨w3.heap.size, 0, none⟩) 0 0) [] := own_none w3
                have O0S : OwnS ((w3.alloc (.cells #[] 9)).alloc (.cells #[.string so] 9)).drew w3.heap.size (.slice (some ⟨w3.heap.size, 0, none⟩) 0 0) [] := OwnS.below (own_none w3) (bel_alloc (Below.refl _ _) _).drew
                have OS0 : OwnS ((w3.alloc (.cells #[.string so] 9)).alloc (.cells #[] 9)).drew w3.heap.size (.slice (some ⟨w3.heap.size + 1, 0, none⟩) 0 0) [] := by have h := own_none (w3.alloc (.cells #[.string so] 9)); rw [show (w3.alloc (.cells #[.string so] 9)).heap.size = w3.heap.size + 1 by simp] at h; exact OwnS.base h (by omega)
                have c0 : ((w3.alloc (.cells #[] 9)).alloc (.cells #[.string so] 9)).drew.cell? ⟨w3.heap.size + 1, 0, none⟩ = some (.string so) := by have h := Sgn.Blk.cell (Sgn.Blk.new (w3.alloc (.cells #[] 9)) #[.string so] 9) 0; rw [show (w3.alloc (.cells #[] 9)).heap.size = w3.heap.size + 1 by simp] at h; exact h
                have c1 : ((w3.alloc (.cells #[.string so] 9)).alloc (.cells #[] 9)).drew.cell? ⟨w3.heap.size, 0, none⟩ = some (.string so) := Sgn.Blk.cell (Sgn.Blk.alloc (Sgn.Blk.new w3 #[.string so] 9) _) 0
                refine wp_region_noPanic ?_
                refine wp_region_held_drew (S := fun w' => w'.cell? ⟨w.heap.size + 1, 2, none⟩ = some (.string so)) (by kernel_rfl) (by exact (HQ.out _ (bel_trans HB3w.out X3)).1.2.2.2.2.1) (fun hHeld => ?_)
                refine wpAnyH_take (i := 1) (v := ?_) rfl (by kernel_rfl) (by kernel_rfl) (by kernel_rfl) (fun _ _ _ h => h) (Or.inl ⟨by rfl, ?hy⟩) (by assumption) ?_
                case hy => (intro w hSw; (try dsimp only at hSw); go_simp; try (with_reducible rfl))
                (try simp only [List.getElem_toArray, List.getElem_cons_succ, List.getElem_cons_zero, Act.put, List.setIfInBounds_toArray, List.set_cons_zero, List.set_cons_succ])
                refine wpAnyH_take (i := 3) (v := ?_) rfl (by kernel_rfl) (by kernel_rfl) (by kernel_rfl) (fun _ _ _ h => h) (Or.inl ⟨by rfl, ?hy⟩) (by assumption) ?_
                case hy => (intro w hSw; (try dsimp only at hSw); go_simp; try (with_reducible rfl))
                (try simp only [List.getElem_toArray, List.getElem_cons_succ, List.getElem_cons_zero, Act.put, List.setIfInBounds_toArray, List.set_cons_zero, List.set_cons_succ])
                refine wpAnyH_take (i := 4) (v := ?_) rfl (by kernel_rfl) (by kernel_rfl) (by kernel_rfl) (fun _ _ _ h => h) (Or.inl ⟨by rfl, ?hy⟩) (by assumption) ?_
                case hy => (intro w hSw; (try dsimp only at hSw); go_simp; try (with_reducible rfl))
                (try simp only [List.getElem_toArray, List.getElem_cons_succ, List.getElem_cons_zero, Act.put, List.setIfInBounds_toArray, List.set_cons_zero, List.set_cons_succ])
                refine wpAnyH_ready (rs := [0, 5]) (by kernel_rfl) (by simp) ?_
                refine AllReadyH.cons rfl (fun KK hKK => ?_) (AllReadyH.cons rfl (fun KK hKK => ?_) (AllReadyH.nil))
                · go_simp
                  refine hKK.out _ _ (by exact (HQ.out _ (bel_trans HB3w.out X0)).1.2.2.2.2.1) (fun hHeld => ?_)
                  clear hKK KK
                  (try simp only [List.getElem_toArray, List.getElem_cons_succ, List.getElem_cons_zero, Act.put, List.setIfInBounds_toArray, List.set_cons_zero, List.set_cons_succ])
                  refine wpAnyH_ready (rs := [2, 5]) (by kernel_rfl) (by simp) ?_
                  refine AllReadyH.cons rfl (fun KK hKK => ?_) (AllReadyH.cons rfl (fun KK hKK => ?_) (AllReadyH.nil))
                  · (refine step_app_strs rfl (.tmp 66) (.tmp 67) rfl w3.heap.size _ [] rfl O0 E.p E.q E.e E.B rfl (HSl.out _ (bel_trans HB3w.out X0)) (by simp; omega) (by simp <;> omega) ?_; intro v1 w4 ho1 hg1; rw [List.nil_append] at ho1; have X4 : Below w3.heap.size w3 w4 := X0.grown hg1 (by simp <;> omega) (fun k hk => (by have h1 := own_blk hk; omega)))
                    refine hKK.out _ _ (by exact (HQ.out _ (bel_trans HB3w.out X4)).1.2.2.2.2.1) (fun hHeld => ?_)
                    clear hKK KK
                    (try simp only [List.getElem_toArray, List.getElem_cons_succ, List.getElem_cons_zero, Act.put, List.setIfInBounds_toArray, List.set_cons_zero, List.set_cons_succ])
                    refine wpAnyH_ready (rs := [5]) (by kernel_rfl) (by simp) ?_
                    refine AllReadyH.cons rfl (fun KK hKK => ?_) (AllReadyH.nil)
                    go_simp
                    refine hKK.out _ _ (by exact (HQ.out _ (bel_trans HB3w.out (bel_alloc X4 _))).1.2.2.2.2.1) (fun hHeld => ?_)
                    clear hKK KK
                    (try simp only [List.getElem_toArray, List.getElem_cons_succ, List.getElem_cons_zero, Act.put, List.setIfInBounds_toArray, List.set_cons_zero, List.set_cons_succ])
                    refine wpAnyH_ready (rs := [6]) (by kernel_rfl) (by simp) ?_
                    refine AllReadyH.cons rfl (fun KK hKK => ?_) (AllReadyH.nil)
                    (refine step_app_strs rfl (.tmp 68) (.tmp 71) rfl w3.heap.size v1 E.B rfl (OwnS.below ho1 (bel_alloc (Below.refl _ _) _)) _ 1 1 [so] rfl (one_at (by simp) (Sgn.Blk.cell (Sgn.Blk.new w4 #[.string so] 9) 0)) (by rw [← HqB.out]; omega) (by have h := X4.size; first | omega | (simp; omega)) ?_; intro v2 w5 ho2 hg2; have X5 : Below w3.heap.size w3 w5 := (bel_alloc X4 (.cells #[.string so] 9)).grown hg2 (by have h := X4.size; first | omega | (simp; omega)) (fun k hk => (World.ownsRow.lt ho1 k hk).1))
                    refine hKK.out _ _ (by exact (HQ.out _ (bel_trans HB3w.out X5)).1.2.2.2.2.1) (fun hHeld => ?_)
                    clear hKK KK
                    (try simp only [List.getElem_toArray, List.getElem_cons_succ, List.getElem_cons_zero, Act.put, List.setIfInBounds_toArray, List.set_cons_zero, List.set_cons_succ])
                    refine wpAnyH_take (i := 7) (v := ?_) rfl (by kernel_rfl) (by kernel_rfl) (by kernel_rfl) (fun _ _ _ h => h) (Or.inl ⟨by rfl, ?hy⟩) (by assumption) ?_
                    case hy => (intro w hSw; (try dsimp only at hSw); go_simp; try (with_reducible rfl))
                    (try simp only [List.getElem_toArray, List.getElem_cons_succ, List.getElem_cons_zero, Act.put, List.setIfInBounds_toArray, List.set_cons_zero, List.set_cons_succ])
                    refine wpAnyH_done (by kernel_rfl) ?_ _
                    refine NoPanic.normal ?_
                    all_goals (try go_wp2_with fail)
                    go_meet
                    exact HF.out _ _ ho2 X5
                  · go_simp
                    refine hKK.out _ _ (by exact (HQ.out _ (bel_trans HB3w.out X0S)).1.2.2.2.2.1) (fun hHeld => ?_)
                    clear hKK KK
                    (try simp only [List.getElem_toArray, List.getElem_cons_succ, List.getElem_cons_zero, Act.put, List.setIfInBounds_toArray, List.set_cons_zero, List.set_cons_succ])
                    refine wpAnyH_ready (rs := [2]) (by kernel_rfl) (by simp) ?_
                    refine AllReadyH.cons rfl (fun KK hKK => ?_) (AllReadyH.nil)
                    (refine step_app_strs rfl (.tmp 66) (.tmp 67) rfl w3.heap.size _ [] rfl O0S E.p E.q E.e E.B rfl (HSl.out _ (bel_trans HB3w.out X0S)) (by simp; omega) (by simp <;> omega) ?_; intro v1 w4 ho1 hg1; rw [List.nil_append] at ho1; have X4 : Below w3.heap.size w3 w4 := X0S.grown hg1 (by simp <;> omega) (fun k hk => (by have h1 := own_blk hk; omega)); have l4 : w3.heap.size + 2 ≤ w4.heap.size := (by have h := hg1.size; simp at h; omega); have cs4 : w4.cell? ⟨w3.heap.size + 1, 0, none⟩ = some (.string so) := (World.cell?_of_block (hg1.block _ (by simp <;> omega) (fun e => (by have h9 := own_blk e.symm; simp at h9)))).trans c0)
                    refine hKK.out _ _ (by exact (HQ.out _ (bel_trans HB3w.out X4)).1.2.2.2.2.1) (fun hHeld => ?_)
                    clear hKK KK
                    (try simp only [List.getElem_toArray, List.getElem_cons_succ, List.getElem_cons_zero, Act.put, List.setIfInBounds_toArray, List.set_cons_zero, List.set_cons_succ])
                    refine wpAnyH_ready (rs := [6]) (by kernel_rfl) (by simp) ?_
                    refine AllReadyH.cons rfl (fun KK hKK => ?_) (AllReadyH.nil)
                    (refine step_app_strs rfl (.tmp 68) (.tmp 71) rfl w3.heap.size v1 E.B rfl ho1 _ 1 1 [so] rfl (one_at (by omega) cs4) (by rw [← HqB.out]; omega) (by have h := X4.size; first | omega | (simp; omega)) ?_; intro v2 w5 ho2 hg2; have X5 : Below w3.heap.size w3 w5 := X4.grown hg2 (by have h := X4.size; first | omega | (simp; omega)) (fun k hk => (World.ownsRow.lt ho1 k hk).1))
                    refine hKK.out _ _ (by exact (HQ.out _ (bel_trans HB3w.out X5)).1.2.2.2.2.1) (fun hHeld => ?_)
                    clear hKK KK
                    (try simp only [List.getElem_toArray, List.getElem_cons_succ, List.getElem_cons_zero, Act.put, List.setIfInBounds_toArray, List.set_cons_zero, List.set_cons_succ])
                    refine wpAnyH_take (i := 7) (v := ?_) rfl (by kernel_rfl) (by kernel_rfl) (by kernel_rfl) (fun _ _ _ h => h) (Or.inl ⟨by rfl, ?hy⟩) (by assumption) ?_
                    case hy => (intro w hSw; (try dsimp only at hSw); go_simp; try (with_reducible rfl))
                    (try simp only [List.getElem_toArray, List.getElem_cons_succ, List.getElem_cons_zero, Act.put, List.setIfInBounds_toArray, List.set_cons_zero, List.set_cons_succ])
                    refine wpAnyH_done (by kernel_rfl) ?_ _
                    refine NoPanic.normal ?_
                    all_goals (try go_wp2_with fail)
                    go_meet
                    exact HF.out _ _ ho2 X5
                · go_simp
                  refine hKK.out _ _ (by exact (HQ.out _ (bel_trans HB3w.out XS)).1.2.2.2.2.1) (fun hHeld => ?_)
                  clear hKK KK
                  (try simp only [List.getElem_toArray, List.getElem_cons_succ, List.getElem_cons_zero, Act.put, List.setIfInBounds_toArray, List.set_cons_zero, List.set_cons_succ])
                  refine wpAnyH_ready (rs := [0]) (by kernel_rfl) (by simp) ?_
                  refine AllReadyH.cons rfl (fun KK hKK => ?_) (AllReadyH.nil)
                  go_simp
                  refine hKK.out _ _ (by exact (HQ.out _ (bel_trans HB3w.out XS0)).1.2.2.2.2.1) (fun hHeld => ?_)
                  clear hKK KK
                  (try simp only [List.getElem_toArray, List.getElem_cons_succ, List.getElem_cons_zero, Act.put, List.setIfInBounds_toArray, List.set_cons_zero, List.set_cons_succ])
                  refine wpAnyH_ready (rs := [2]) (by kernel_rfl) (by simp) ?_
                  refine AllReadyH.cons rfl (fun KK hKK => ?_) (AllReadyH.nil)
                  (refine step_app_strs rfl (.tmp 66) (.tmp 67) rfl w3.heap.size _ [] rfl OS0 E.p E.q E.e E.B rfl (HSl.out _ (bel_trans HB3w.out XS0)) (by simp; omega) (by simp <;> omega) ?_; intro v1 w4 ho1 hg1; rw [List.nil_append] at ho1; have X4 : Below w3.heap.size w3 w4 := XS0.grown hg1 (by simp <;> omega) (fun k hk => (by have h1 := own_blk hk; omega)); have l4 : w3.heap.size + 2 ≤ w4.heap.size := (by have h := hg1.size; simp at h; omega); have cs4 : w4.cell? ⟨w3.heap.size, 0, none⟩ = some (.string so) := (World.cell?_of_block (hg1.block _ (by simp <;> omega) (fun e => (by have h9 := own_blk e.symm; simp at h9)))).trans c1)
                  refine hKK.out _ _ (by exact (HQ.out _ (bel_trans HB3w.out X4)).1.2.2.2.2.1) (fun hHeld => ?_)
                  clear hKK KK
                  (try simp only [List.getElem_toArray, List.getElem_cons_succ, List.getElem_cons_zero, Act.put, List.setIfInBounds_toArray, List.set_cons_zero, List.set_cons_succ])
                  refine wpAnyH_ready (rs := [6]) (by kernel_rfl) (by simp) ?_
                  refine AllReadyH.cons rfl (fun KK hKK => ?_) (AllReadyH.nil)
                  (refine step_app_strs rfl (.tmp 68) (.tmp 71) rfl w3.heap.size v1 E.B rfl ho1 _ 1 1 [so] rfl (one_at (by omega) cs4) (by rw [← HqB.out]; omega) (by have h := X4.size; first | omega | (simp; omega)) ?_; intro v2 w5 ho2 hg2; have X5 : Below w3.heap.size w3 w5 := X4.grown hg2 (by have h := X4.size; first | omega | (simp; omega)) (fun k hk => (World.ownsRow.lt ho1 k hk).1))
                  refine hKK.out _ _ (by exact (HQ.out _ (bel_trans HB3w.out X5)).1.2.2.2.2.1) (fun hHeld => ?_)
                  clear hKK KK
                  (try simp only [List.getElem_toArray, List.getElem_cons_succ, List.getElem_cons_zero, Act.put, List.setIfInBounds_toArray, List.set_cons_zero, List.set_cons_succ])
                  refine wpAnyH_take (i := 7) (v := ?_) rfl (by kernel_rfl) (by kernel_rfl) (by kernel_rfl) (fun _ _ _ h => h) (Or.inl ⟨by rfl, ?hy⟩) (by assumption) ?_
                  case hy => (intro w hSw; (try dsimp only at hSw); go_simp; try (with_reducible rfl))
                  (try simp only [List.getElem_toArray, List.getElem_cons_succ, List.getElem_cons_zero, Act.put, List.setIfInBounds_toArray, List.set_cons_zero, List.set_cons_succ])
                  refine wpAnyH_done (by kernel_rfl) ?_ _
                  refine NoPanic.normal ?_
                  all_goals (try go_wp2_with fail)
                  go_meet
                  exact HF.out _ _ ho2 X5
              case rest =>
                obtain ⟨⟨A2, C2, rfl, hS2⟩, hW2'⟩ := hcut
                have hB2' := bel_trans HBW.out hW2'.out
                have hIw : IsS wc A2 (E.q + 1) (E.B ++ [so]) := hS2.out.1
                have hQe : E.q + 1 ≤ C2 := hS2.out.2.1
                have hPe0 : A2 = none → C2 = 0 := hS2.out.2.2
                have hQw : E.q + 1 ≤ 1000000 := by have := Hq.out; have := Hsz.out; omega
                have HGI2 := Lib.hid (IsS.below HGI.out hW2'.out)
                have zz := HQ.out wc hB2'
                clear s0 s1 t0 t1 t2 t3 t4
                obtain ⟨⟨s0, s1, t0, t1, t2, t3, t4⟩, -⟩ := zz
                have hoB := HoB.out
                have hBw := hB2'
                clear hB B3 hb3 HoB HGI HGS HBr hB2' HSl
                have HGI := HGI2
                have ⟨Wv, hWv⟩ : ∃ Wv, Wv = Wb := ⟨_, rfl⟩
                subst hWv
                have ⟨Wb, hWb⟩ : ∃ Wb, Wb = wc := ⟨_, rfl⟩
                subst hWb
                go_wp2
                have HIw := Lib.hid hIw
                have HBw := Lib.hid hBw
                have HCall := Lib.hid (show ∀ (i : Nat) (x : Cl), lc[i]? = some x → ∀ (xk : SS) (xa : Option Addr) (xn xc : Nat) (w' : World), Below Wb.heap.size Wb w' → ArWC w' x xk xa xn xc → Calls Try.prog 36 #[.agg #[.slice E.a E.n E.c, .slice E.b E.m E.d], .slice E.vp E.vn E.vc, .slice A2 (E.q + 1) C2, .agg #[.int .i64 (opC x), .string (nmC x), .string (soC x), .slice xk.a xk.n xk.c, .slice xa xn xc]] w' (GtP (wlC S E.K E.V (E.B ++ [so]) x) w') from fun i x hx xk xa xn xc w' h1 h3 => by
                  have hm := List.mem_of_getElem? hx
                  have hw := wts_mem hm
                  have hE9 := HE.out.b (bel_trans HB3.out (bel_trans HBw.out h1))
                  exact HOk.out x hm ⟨E.a, E.n, E.c, E.b, E.m, E.d, E.g, E.vp, E.vn, E.vc, A2, (E.q + 1), C2, E.G, E.V, (E.B ++ [so])⟩ S xk xa xn xc w' ⟨hE9.1, hE9.2.1, hE9.2.2.1, hE9.2.2.2.1, HIw.out.below h1, hQw⟩ (HSs.out.below (bel_trans HB3.out (bel_trans HBw.out h1))) HEn.out (Hcp.out x hm) (by have := Hs.out; have := Hsz.out; omega) (by show (E.q + 1) + wt x ≤ 1000000; have := Hq.out; have := Hsz.out; omega) hQe hPe0 h3)
                have HPs := Lib.hid (show ∀ (i : Nat) (x : Cl) A N C w', lc[i]? = some x → (wlC S E.K E.V (E.B ++ [so]) x).e ≠ 0 → (∀ j y, j < i → lc[j]? = some y → (wlC S E.K E.V (E.B ++ [so]) y).e = 0) → SlI w' A N C (((k : Int) + (i : Int)) :: (wlC S E.K E.V (E.B ++ [so]) x).way) → Below w.heap.size w w' → (∀ g, g < w.heap.size → ∀ b o, A = some ⟨b, o, none⟩ → 0 < N → b ≠ g) → PP (.returned (.agg #[.string ⟨#[]⟩, .slice A N C, .int .i64 (wlC S E.K E.V (E.B ++ [so]) x).e])) w' from fun i x A N C w' h1 h2 h3 h4 h5 h6 => by
                  have e1 := wlCs_bad (S := S) (K := E.K) (V := E.V) (B := (E.B ++ [so])) k i h1 h2 h3
                  refine HPi.out (.bad (wlC S E.K E.V (E.B ++ [so]) x).e (((k : Int) + (i : Int)) :: (wlC S E.K E.V (E.B ++ [so]) x).way)) _ _ A N C w' (hoB.trans ?_) rfl h4 h5 h6
                  rw [e1, if_pos h2]
                  simp)
                have HPa := Lib.hid (show (∀ j y, j < sn → lc[j]? = some y → (wlC S E.K E.V (E.B ++ [so]) y).e = 0) → WC = wantC E.K 11 nm D from fun h => hoB.trans (by
                  rw [wlCs_all (S := S) (K := E.K) (V := E.V) (B := (E.B ++ [so])) k (fun x hx => by
                    obtain ⟨j, hj, rfl⟩ := List.mem_iff_getElem.1 hx
                    exact h j _ (by have := Hsn.out; omega) (List.getElem?_eq_getElem hj)), if_neg (by simp)]))
                have HWayC := Lib.hid (show ∀ (i : Nat) (x : Cl), lc[i]? = some x → (wlC S E.K E.V (E.B ++ [so]) x).way.length ≤ 1000000 from fun i x h => by
                  have h1 := wayC_len S E.K E.V (E.B ++ [so]) x
                  have h2 := wts_mem (List.mem_of_getElem? h)
                  have := Hs.out; have := Hsz.out
                  omega)
                have hsnb : sn ≤ 1000000 := by have := Hs.out; have := Hsz.out; have := Hsn.out; have := len_wts lc; omega
                clear hoB hQw hQe hPe0 hIw hBw
                generalize hCL : wlC S E.K E.V (E.B ++ [so]) = CL at *
                clear hCL
                have Hk8 := Lib.hid htn8
                go_loopw [12] (fun i wr0 => ∃ (wr : World) (j : Nat), wr = wr0 ∧ j ≤ sn ∧ i = .int .i64 j ∧ Below Wb.heap.size Wb wr ∧ Hid (∀ i y, i < j → lc[i]? = some y → (CL y).e = 0)) (fun i _ => sn - (intOf i).toNat)
                case atStart => exact ⟨_, 0, rfl, by omega, rfl, Below.refl _ _, Lib.hid (fun i x h => absurd h (by omega))⟩
                case round =>
                  obtain ⟨wr, j, rfl, hj, rfl, hBb, hprev⟩ := hrel
                  have hB := bel_trans HBw.out hBb
                  have zz := HQ.out wr hB
                  obtain ⟨⟨s0, s1, t0, t1, t2, t3, t4⟩, ⟨r0, r1, r2⟩, ⟨q0, q1, q2⟩, HG⟩ := zz
                  by_cases hlt : j < sn
                  · obtain ⟨bb, o, x, xk, xa, xn, xc, rfl, hb, y0', y1', y2', y3', y4', hx, hA⟩ := HCs.out.at hlt
                    have HY := Lib.hid (show ∀ w', Below W3.heap.size W3 w' → w'.cell? ⟨bb, o + j * 5, none⟩ = some (.int .i64 (opC x)) ∧ w'.cell? ⟨bb, o + j * 5 + 1, none⟩ = some (.string (nmC x)) ∧ w'.cell? ⟨bb, o + j * 5 + 1 + 1, none⟩ = some (.string (soC x)) ∧ w'.cell? ⟨bb, o + j * 5 + 1 + 1 + 1, none⟩ = some (.slice xk.a xk.n xk.c) ∧ w'.cell? ⟨bb, o + j * 5 + 1 + 1 + 1 + 1, none⟩ = some (.slice xa xn xc) from fun w' h =>
                      ⟨(h.cell (p := ⟨bb, _, none⟩) hb).trans y0', (h.cell (p := ⟨bb, _, none⟩) hb).trans y1', (h.cell (p := ⟨bb, _, none⟩) hb).trans y2', (h.cell (p := ⟨bb, _, none⟩) hb).trans y3', (h.cell (p := ⟨bb, _, none⟩) hb).trans y4'⟩)
                    have hBd : Below wr.heap.size wr wr.drew := (Below.refl _ _).drew
                    have hBt := bel_trans hB hBd
                    have hBd2 : Below wr.heap.size wr (wr.alloc (.cells #[.string ⟨#[]⟩, .slice none 0 0, .int .i64 0] 40)).drew := (bel_alloc (Below.refl _ _) _).drew
                    have hBt2 := bel_trans hB hBd2
                    have HBw' := HBw.out
                    have ct := fun (w' : World) (h : Below W3.heap.size W3 w') (h9 : Below Wb.heap.size Wb w') => HCall.out j x hx xk xa xn xc w' h9 (ArWC.b (show ArWC W3 x xk xa xn xc from hA) h)
                    unfold GtP at ct
                    have hk0 : 0 ≤ (j : Int) := by omega
                    have hk1 : (j : Int) < (sn : Int) := by omega
                    have hkj : IntKind.i64.wrap ((k : Int) + (j : Int)) = (k : Int) + (j : Int) := by have := Hk8.out; have := Hs.out; have := Hsz.out; have := Hsn.out; have h9 := len_wts lc; unfold IntKind.wrap; simp [IntKind.bits]; omega
                    have Hhx := Lib.hid hx
                    have zz := HY.out wr hB
                    obtain ⟨y0, y1, y2, y3, y4⟩ := zz
                    clear hx hA y0' y1' y2' y3' y4' HCall HKn HFi HPz HPa HOk HE HSs HCs
                    go_wp2
                    refine wp_region_noPanic ?_
                    refine wp_region_held_drew (S := fun w' => w'.cell? ⟨w.heap.size, 0, none⟩ = some (.slice E.a E.n E.c) ∧ w'.cell? ⟨w.heap.size, 1, none⟩ = some (.slice E.b E.m E.d) ∧ w'.cell? ⟨w.heap.size + 1, 4, none⟩ = some (.slice (some ⟨bb, o, none⟩) sn sc) ∧ w'.cell? ⟨bb, o + j * 5, none⟩ = some (.int .i64 (opC x)) ∧ w'.cell? ⟨bb, o + j * 5 + 1, none⟩ = some (.string (nmC x)) ∧ w'.cell? ⟨bb, o + j * 5 + 1 + 1, none⟩ = some (.string (soC x)) ∧ w'.cell? ⟨bb, o + j * 5 + 1 + 1 + 1, none⟩ = some (.slice xk.a xk.n xk.c) ∧ w'.cell? ⟨bb, o + j * 5 + 1 + 1 + 1 + 1, none⟩ = some (.slice xa xn xc)) (by kernel_rfl) (by exact ⟨(HQ.out _ hBt).1.1, (HQ.out _ hBt).1.2.1, (HQ.out _ hBt).1.2.2.2.2.2.2, HY.out _ hBt⟩) (fun hHeld => ?_)
                    refine wpAnyH_take (i := 0) (v := ?_) rfl (by kernel_rfl) (by kernel_rfl) (by kernel_rfl) (fun _ _ _ h => h) (Or.inl ⟨by rfl, ?hy⟩) (by assumption) ?_
                    case hy => (intro w hSw; (try dsimp only at hSw); go_simp; try (with_reducible rfl))
                    (try simp only [List.getElem_toArray, List.getElem_cons_succ, List.getElem_cons_zero, Act.put, List.setIfInBounds_toArray, List.set_cons_zero, List.set_cons_succ])
                    refine wpAnyH_take (i := 1) (v := ?_) rfl (by kernel_rfl) (by kernel_rfl) (by kernel_rfl) (fun _ _ _ h => h) (Or.inl ⟨by rfl, ?hy⟩) (by assumption) ?_
                    case hy => (intro w hSw; (try dsimp only at hSw); go_simp; try (with_reducible rfl))
                    (try simp only [List.getElem_toArray, List.getElem_cons_succ, List.getElem_cons_zero, Act.put, List.setIfInBounds_toArray, List.set_cons_zero, List.set_cons_succ])
                    refine wpAnyH_take (i := 2) (v := ?_) rfl (by kernel_rfl) (by kernel_rfl) (by kernel_rfl) (fun _ _ _ h => h) (Or.inl ⟨by rfl, ?hy⟩) (by assumption) ?_
                    case hy => (intro w hSw; (try dsimp only at hSw); go_simp; try (with_reducible rfl))
                    (try simp only [List.getElem_toArray, List.getElem_cons_succ, List.getElem_cons_zero, Act.put, List.setIfInBounds_toArray, List.set_cons_zero, List.set_cons_succ])
                    refine wpAnyH_take (i := 3) (v := ?_) rfl (by kernel_rfl) (by kernel_rfl) (by kernel_rfl) (fun _ _ _ h => h) (Or.inl ⟨by rfl, ?hy⟩) (by assumption) ?_
                    case hy => (intro w hSw; (try dsimp only at hSw); go_simp; try (with_reducible rfl))
                    (try simp only [List.getElem_toArray, List.getElem_cons_succ, List.getElem_cons_zero, Act.put, List.setIfInBounds_toArray, List.set_cons_zero, List.set_cons_succ])
                    refine wpAnyH_take (i := 4) (v := ?_) rfl (by kernel_rfl) (by kernel_rfl) (by kernel_rfl) (fun _ _ _ h => h) (Or.inl ⟨by rfl, ?hy⟩) (by assumption) ?_
                    case hy => (intro w hSw; (try dsimp only at hSw); go_simp; try (with_reducible rfl))
                    (try simp only [List.getElem_toArray, List.getElem_cons_succ, List.getElem_cons_zero, Act.put, List.setIfInBounds_toArray, List.set_cons_zero, List.set_cons_succ])
                    refine wpAnyH_take (i := 5) (v := ?_) rfl (by kernel_rfl) (by kernel_rfl) (by kernel_rfl) (fun _ _ _ h => h) (Or.inl ⟨by rfl, ?hy⟩) (by assumption) ?_
                    case hy => (intro w hSw; (try dsimp only at hSw); go_simp; try (with_reducible rfl))
                    (try simp only [List.getElem_toArray, List.getElem_cons_succ, List.getElem_cons_zero, Act.put, List.setIfInBounds_toArray, List.set_cons_zero, List.set_cons_succ])
                    refine wpAnyH_take (i := 6) (v := ?_) rfl (by kernel_rfl) (by kernel_rfl) (by kernel_rfl) (fun _ _ _ h => h) (Or.inl ⟨by rfl, ?hy⟩) (by assumption) ?_
                    case hy => (intro w hSw; (try dsimp only at hSw); go_simp; try (with_reducible rfl))
                    (try simp only [List.getElem_toArray, List.getElem_cons_succ, List.getElem_cons_zero, Act.put, List.setIfInBounds_toArray, List.set_cons_zero, List.set_cons_succ])
                    refine wpAnyH_take (i := 7) (v := ?_) rfl (by kernel_rfl) (by kernel_rfl) (by kernel_rfl) (fun _ _ _ h => h) (Or.inl ⟨by rfl, ?hy⟩) (by assumption) ?_
                    case hy => (intro w hSw; (try dsimp only at hSw); go_simp; try (with_reducible rfl))
                    (try simp only [List.getElem_toArray, List.getElem_cons_succ, List.getElem_cons_zero, Act.put, List.setIfInBounds_toArray, List.set_cons_zero, List.set_cons_succ])
                    refine wpAnyH_ready (rs := [8, 9]) (by kernel_rfl) (by simp) ?_
                    refine AllReadyH.cons rfl (fun KK hKK => ?_) (AllReadyH.cons rfl (fun KK hKK => ?_) (AllReadyH.nil))
                    · go_simp
                      (go_at_call 36; ((with_reducible refine (ct _ hBt (bel_trans hBb hBd)).mono ?_); rintro e w7 ⟨A7, N7, C7, rfl, hI7, hb7, ho7⟩; have B7 : Below W3.heap.size W3 w7 := bel_trans hBt hb7))
                      refine hKK.out _ _ (by exact ⟨(HQ.out _ B7).1.1, (HQ.out _ B7).1.2.1, (HQ.out _ B7).1.2.2.2.2.2.2, HY.out _ B7⟩) (fun hHeld => ?_)
                      clear hKK KK
                      (try simp only [List.getElem_toArray, List.getElem_cons_succ, List.getElem_cons_zero, Act.put, List.setIfInBounds_toArray, List.set_cons_zero, List.set_cons_succ])
                      refine wpAnyH_ready (rs := [9]) (by kernel_rfl) (by simp) ?_
                      refine AllReadyH.cons rfl (fun KK hKK => ?_) (AllReadyH.nil)
                      have GX := GBox.new w7 ⟨#[]⟩ none 0 0 0
                      go_simp
                      refine hKK.out _ _ (by exact ⟨(HQ.out _ (bel_alloc B7 _)).1.1, (HQ.out _ (bel_alloc B7 _)).1.2.1, (HQ.out _ (bel_alloc B7 _)).1.2.2.2.2.2.2, HY.out _ (bel_alloc B7 _)⟩) (fun hHeld => ?_)
                      clear hKK KK
                      (try simp only [List.getElem_toArray, List.getElem_cons_succ, List.getElem_cons_zero, Act.put, List.setIfInBounds_toArray, List.set_cons_zero, List.set_cons_succ])
                      have gx0 := GX.three.1; have gx1 := GX.three.2.1; have gx2 := GX.three.2.2; have gf0 := GX.free.1; have gf1 := GX.free.2.1; have gf2 := GX.free.2.2
                      refine wpAnyH_ready (rs := [10]) (by kernel_rfl) (by simp) ?_
                      refine AllReadyH.cons rfl (fun KK hKK => ?_) (AllReadyH.nil)
                      go_simp
                      refine hKK.out _ _ (by exact ⟨(HQ.out _ (bel_alloc B7 _)).1.1, (HQ.out _ (bel_alloc B7 _)).1.2.1, (HQ.out _ (bel_alloc B7 _)).1.2.2.2.2.2.2, HY.out _ (bel_alloc B7 _)⟩) (fun hHeld => ?_)
                      clear hKK KK
                      (try simp only [List.getElem_toArray, List.getElem_cons_succ, List.getElem_cons_zero, Act.put, List.setIfInBounds_toArray, List.set_cons_zero, List.set_cons_succ])
                      refine wpAnyH_done (by kernel_rfl) ?_ _
                      refine NoPanic.normal ?_
                      have GP : GBox (w7.alloc (.cells #[.string (CL x).so, .slice A7 N7 C7, .int .i64 (CL x).e] 40)) w7.heap.size (CL x).so A7 N7 C7 (CL x).e := GBox.new _ _ _ _ _ _
                      have BW : Below wr.heap.size wr (w7.alloc (.cells #[.string (CL x).so, .slice A7 N7 C7, .int .i64 (CL x).e] 40)) := bel_alloc (bel_trans hBd hb7) _
                      have IC : SlI (w7.alloc (.cells #[.string (CL x).so, .slice A7 N7 C7, .int .i64 (CL x).e] 40)) A7 N7 C7 (CL x).way := (SlI.below hI7 (bel_alloc (Below.refl _ _) _))
                      have hgx : W3.heap.size ≤ w7.heap.size := Nat.le_trans B7.size (Nat.le_refl _)
                      generalize hWc : (w7.alloc (.cells #[.string (CL x).so, .slice A7 N7 C7, .int .i64 (CL x).e] 40)) = Wc at *
                      generalize hgg : w7.heap.size = gx at *
                      clear hWc hgg GX hI7 ho7 gx0 gx1 gx2 gf0 gf1 gf2 hHeld hb7 B7
                      try clear B8
                      try clear b6
                      have BC : Below W3.heap.size W3 Wc := bel_trans hB BW
                      have BQ : Below Wb.heap.size Wb Wc := bel_trans hBb BW
                      have HIC := Lib.hid IC
                      have HBC := Lib.hid BC
                      have HBQ := Lib.hid BQ
                      obtain ⟨p0, p1, p2⟩ := GP.three
                      have HGP := Lib.hid GP
                      have Hgx := Lib.hid hgx
                      clear BW hBd hBd2 hBt hBt2 y0 y1 y2 y3 y4 s0 s1 t0 t1 t2 t3 t4 r0 r1 r2 q0 q1 q2 HG ct IC GP hgx HY
                      by_cases he : (CL x).e = 0
                      · have h1 : ((CL x).e != 0) = false := by simp [he]
                        have hpr2 : Hid (∀ i y, i < j + 1 → lc[i]? = some y → (CL y).e = 0) := by
                          intro i y hi hy
                          by_cases hij : i < j
                          · exact hprev.out i y hij hy
                          · obtain rfl : i = j := by omega
                            rw [Hhx.out] at hy
                            rw [← Option.some.inj hy]; exact he
                        clear hprev HIC HGP BC p1
                        go_wp2
                        go_roundw
                        case rel => exact ⟨_, j + 1, rfl, by omega, by go_num, HBQ.out, hpr2⟩
                        case measure => simp [intOf]; omega
                      · have h1 : ((CL x).e != 0) = true := by simp [he]
                        have hNw : N7 ≤ 1000000 := by rw [HIC.out.1]; exact HWayC.out j x Hhx.out
                        have ca := ahead_any ((k : Int) + (j : Int)) A7 N7 C7 (CL x).way Wc.drew (HIC.out.below (Below.refl _ _).drew) hNw
                        have hne2 : w.heap.size + 2 < gx := by have := Hgx.out; have := Hs3.out; omega
                        have BCd : Below Wc.heap.size Wc Wc.drew := (Below.refl _ _).drew
                        have HK := Lib.hid (show ∀ w', Below Wc.heap.size Wc w' → w'.cell? ⟨gx, 1, none⟩ = some (.slice A7 N7 C7) ∧ w'.cell? ⟨gx, 2, none⟩ = some (.int .i64 (CL x).e) from fun w' h => (GBox.b HGP.out h).three.2)
                        go_wp2
                        refine wp_region_noPanic ?_
                        refine wp_region_held_drew (S := fun w' => w'.cell? ⟨gx, 1, none⟩ = some (.slice A7 N7 C7) ∧ w'.cell? ⟨gx, 2, none⟩ = some (.int .i64 (CL x).e)) (by kernel_rfl) (by exact HK.out _ BCd) (fun hHeld => ?_)
                        refine wpAnyH_take (i := 0) (v := ?_) rfl (by kernel_rfl) (by kernel_rfl) (by kernel_rfl) (fun _ _ _ h => h) (Or.inl ⟨by rfl, ?hy⟩) (by assumption) ?_
                        case hy => (intro w hSw; (try dsimp only at hSw); go_simp; try (with_reducible rfl))
                        (try simp only [List.getElem_toArray, List.getElem_cons_succ, List.getElem_cons_zero, Act.put, List.setIfInBounds_toArray, List.set_cons_zero, List.set_cons_succ])
                        refine wpAnyH_take (i := 1) (v := ?_) rfl (by kernel_rfl) (by kernel_rfl) (by kernel_rfl) (fun _ _ _ h => h) (Or.inl ⟨by rfl, ?hy⟩) (by assumption) ?_
                        case hy => (intro w hSw; (try dsimp only at hSw); go_simp; try (with_reducible rfl))
                        (try simp only [List.getElem_toArray, List.getElem_cons_succ, List.getElem_cons_zero, Act.put, List.setIfInBounds_toArray, List.set_cons_zero, List.set_cons_succ])
                        refine wpAnyH_take (i := 2) (v := ?_) rfl (by kernel_rfl) (by kernel_rfl) (by kernel_rfl) (fun _ _ _ h => h) (Or.inl ⟨by rfl, ?hy⟩) (by assumption) ?_
                        case hy => (intro w hSw; (try dsimp only at hSw); go_simp; try (with_reducible rfl))
                        (try simp only [List.getElem_toArray, List.getElem_cons_succ, List.getElem_cons_zero, Act.put, List.setIfInBounds_toArray, List.set_cons_zero, List.set_cons_succ])
                        refine wpAnyH_take (i := 3) (v := ?_) rfl (by kernel_rfl) (by kernel_rfl) (by kernel_rfl) (fun _ _ _ h => h) (Or.inl ⟨by rfl, ?hy⟩) (by assumption) ?_
                        case hy => (intro w hSw; (try dsimp only at hSw); go_simp; try (with_reducible rfl))
                        (try simp only [List.getElem_toArray, List.getElem_cons_succ, List.getElem_cons_zero, Act.put, List.setIfInBounds_toArray, List.set_cons_zero, List.set_cons_succ])
                        refine wpAnyH_take (i := 4) (v := ?_) rfl (by kernel_rfl) (by kernel_rfl) (by kernel_rfl) (fun _ _ _ h => h) (Or.inl ⟨by rfl, ?hy⟩) (by assumption) ?_
                        case hy => (intro w hSw; (try dsimp only at hSw); go_simp; try (with_reducible rfl))
                        (try simp only [List.getElem_toArray, List.getElem_cons_succ, List.getElem_cons_zero, Act.put, List.setIfInBounds_toArray, List.set_cons_zero, List.set_cons_succ])
                        refine wpAnyH_take (i := 5) (v := ?_) rfl (by kernel_rfl) (by kernel_rfl) (by kernel_rfl) (fun _ _ _ h => h) (Or.inl ⟨by rfl, ?hy⟩) (by assumption) ?_
                        case hy => (intro w hSw; (try dsimp only at hSw); go_simp; try (with_reducible rfl))
                        (try simp only [List.getElem_toArray, List.getElem_cons_succ, List.getElem_cons_zero, Act.put, List.setIfInBounds_toArray, List.set_cons_zero, List.set_cons_succ])
                        refine wpAnyH_take (i := 7) (v := ?_) rfl (by kernel_rfl) (by kernel_rfl) (by kernel_rfl) (fun _ _ _ h => h) (Or.inl ⟨by rfl, ?hy⟩) (by assumption) ?_
                        case hy => (intro w hSw; (try dsimp only at hSw); go_simp; try (with_reducible rfl))
                        (try simp only [List.getElem_toArray, List.getElem_cons_succ, List.getElem_cons_zero, Act.put, List.setIfInBounds_toArray, List.set_cons_zero, List.set_cons_succ])
                        refine wpAnyH_take (i := 8) (v := ?_) rfl (by kernel_rfl) (by kernel_rfl) (by kernel_rfl) (fun _ _ _ h => h) (Or.inl ⟨by rfl, ?hy⟩) (by assumption) ?_
                        case hy => (intro w hSw; (try dsimp only at hSw); go_simp; try (with_reducible rfl))
                        (try simp only [List.getElem_toArray, List.getElem_cons_succ, List.getElem_cons_zero, Act.put, List.setIfInBounds_toArray, List.set_cons_zero, List.set_cons_succ])
                        refine wpAnyH_ready (rs := [6]) (by kernel_rfl) (by simp) ?_
                        refine AllReadyH.cons rfl (fun KK hKK => ?_) AllReadyH.nil
                        go_simp
                        (go_at_call 58; ((with_reducible refine ca.mono ?_); rintro e w8 ⟨A8, C8, rfl, hI8, hb8, ho8⟩; have b8 := bel_trans BCd hb8; have B8 := bel_trans HBC.out b8; have zz := HQ.out _ B8; obtain ⟨-, ⟨r0, r1, r2⟩, ⟨q0, q1, q2⟩, HG8⟩ := zz))
                        refine hKK.out _ _ (by exact HK.out _ b8) (fun hHeld => ?_)
                        clear hKK KK
                        (try simp only [List.getElem_toArray, List.getElem_cons_succ, List.getElem_cons_zero, Act.put, List.setIfInBounds_toArray, List.set_cons_zero, List.set_cons_succ])
                        refine wpAnyH_take (i := 9) (v := ?_) rfl (by kernel_rfl) (by kernel_rfl) (by kernel_rfl) (fun _ _ _ h => h) (Or.inl ⟨by rfl, ?hy⟩) (by assumption) ?_
                        case hy => (intro w hSw; (try dsimp only at hSw); go_simp; try (with_reducible rfl))
                        (try simp only [List.getElem_toArray, List.getElem_cons_succ, List.getElem_cons_zero, Act.put, List.setIfInBounds_toArray, List.set_cons_zero, List.set_cons_succ])
                        refine wpAnyH_ready (rs := [10]) (by kernel_rfl) (by simp) ?_
                        refine AllReadyH.cons rfl (fun KK hKK => ?_) (AllReadyH.nil)
                        go_simp
                        refine hKK.out _ _ (by exact ⟨far3c (HK.out _ b8).1 (Nat.ne_of_lt hne2), far3c (HK.out _ b8).2 (Nat.ne_of_lt hne2)⟩) (fun hHeld => ?_)
                        clear hKK KK
                        (try simp only [List.getElem_toArray, List.getElem_cons_succ, List.getElem_cons_zero, Act.put, List.setIfInBounds_toArray, List.set_cons_zero, List.set_cons_succ])
                        refine wpAnyH_done (by kernel_rfl) ?_ _
                        refine NoPanic.normal ?_
                        have R6 := HG8.put ⟨#[]⟩ A8 (N7 + 1) C8 (CL x).e
                        obtain ⟨x0, x1, x2⟩ := R6.three
                        have hfar : ∀ b o, A8 = some ⟨b, o, none⟩ → 0 < N7 + 1 → b ≠ w.heap.size + 2 := ho8 _ (by show w.heap.size + 2 < Wc.heap.size; have := HBC.out.size; have := Hs3.out; omega)
                        have HZ := Lib.hid (HPs.out j x A8 (N7 + 1) C8 _ Hhx.out he hprev.out (((hI8.far hfar (.string ⟨#[]⟩)).far hfar (.slice A8 (N7 + 1) C8)).far hfar (.int .i64 (CL x).e)) (Sgn.below_set3 (bel_trans HB3.out B8) (show w.heap.size ≤ w.heap.size + 2 by omega) _ _ _) (fun g hg => ho8 g (by show g < Wc.heap.size; have := HBC.out.size; have := Hs3.out; omega)))
                        go_wp2
                        try (simp [bodyPost, results, Try.results36, go_sem, x0, x1, x2])
                        exact HZ.out
                    · go_simp
                      refine hKK.out _ _ (by exact ⟨(HQ.out _ hBt2).1.1, (HQ.out _ hBt2).1.2.1, (HQ.out _ hBt2).1.2.2.2.2.2.2, HY.out _ hBt2⟩) (fun hHeld => ?_)
                      clear hKK KK
                      (try simp only [List.getElem_toArray, List.getElem_cons_succ, List.getElem_cons_zero, Act.put, List.setIfInBounds_toArray, List.set_cons_zero, List.set_cons_succ])
                      refine wpAnyH_ready (rs := [8]) (by kernel_rfl) (by simp) ?_
                      refine AllReadyH.cons rfl (fun KK hKK => ?_) (AllReadyH.nil)
                      go_simp
                      (go_at_call 36; ((with_reducible refine (ct _ hBt2 (bel_trans hBb hBd2)).mono ?_); rintro e w7 ⟨A7, N7, C7, rfl, hI7, hb7, ho7⟩; have B7 : Below W3.heap.size W3 w7 := bel_trans hBt2 hb7))
                      refine hKK.out _ _ (by exact ⟨(HQ.out _ B7).1.1, (HQ.out _ B7).1.2.1, (HQ.out _ B7).1.2.2.2.2.2.2, HY.out _ B7⟩) (fun hHeld => ?_)
                      clear hKK KK
                      (try simp only [List.getElem_toArray, List.getElem_cons_succ, List.getElem_cons_zero, Act.put, List.setIfInBounds_toArray, List.set_cons_zero, List.set_cons_succ])
                      have GX := GBox.b (GBox.b (GBox.new wr ⟨#[]⟩ none 0 0 0) (Below.refl _ _).drew) hb7
                      have gx0 := GX.three.1; have gx1 := GX.three.2.1; have gx2 := GX.three.2.2; have gf0 := GX.free.1; have gf1 := GX.free.2.1; have gf2 := GX.free.2.2
                      refine wpAnyH_ready (rs := [10]) (by kernel_rfl) (by simp) ?_
                      refine AllReadyH.cons rfl (fun KK hKK => ?_) (AllReadyH.nil)
                      go_simp
                      refine hKK.out _ _ (by exact ⟨(HQ.out _ (Sgn.below_set3 B7 hB.size _ _ _)).1.1, (HQ.out _ (Sgn.below_set3 B7 hB.size _ _ _)).1.2.1, (HQ.out _ (Sgn.below_set3 B7 hB.size _ _ _)).1.2.2.2.2.2.2, HY.out _ (Sgn.below_set3 B7 hB.size _ _ _)⟩) (fun hHeld => ?_)
                      clear hKK KK
                      (try simp only [List.getElem_toArray, List.getElem_cons_succ, List.getElem_cons_zero, Act.put, List.setIfInBounds_toArray, List.set_cons_zero, List.set_cons_succ])
                      refine wpAnyH_done (by kernel_rfl) ?_ _
                      refine NoPanic.normal ?_
                      have GP : GBox (((w7.setCell ⟨wr.heap.size, 0, none⟩ (.string (CL x).so)).setCell ⟨wr.heap.size, 1, none⟩ (.slice A7 N7 C7)).setCell ⟨wr.heap.size, 2, none⟩ (.int .i64 (CL x).e)) wr.heap.size (CL x).so A7 N7 C7 (CL x).e := GX.put _ _ _ _ _
                      have BW : Below wr.heap.size wr (((w7.setCell ⟨wr.heap.size, 0, none⟩ (.string (CL x).so)).setCell ⟨wr.heap.size, 1, none⟩ (.slice A7 N7 C7)).setCell ⟨wr.heap.size, 2, none⟩ (.int .i64 (CL x).e)) := Sgn.below_set3 (bel_trans hBd2 hb7) (Nat.le_refl _) _ _ _
                      have IC : SlI (((w7.setCell ⟨wr.heap.size, 0, none⟩ (.string (CL x).so)).setCell ⟨wr.heap.size, 1, none⟩ (.slice A7 N7 C7)).setCell ⟨wr.heap.size, 2, none⟩ (.int .i64 (CL x).e)) A7 N7 C7 (CL x).way := ((SlI.far hI7 (ho7 _ (by simp)) _).far (ho7 _ (by simp)) _).far (ho7 _ (by simp)) _
                      have hgx : W3.heap.size ≤ wr.heap.size := hB.size
                      generalize hWc : (((w7.setCell ⟨wr.heap.size, 0, none⟩ (.string (CL x).so)).setCell ⟨wr.heap.size, 1, none⟩ (.slice A7 N7 C7)).setCell ⟨wr.heap.size, 2, none⟩ (.int .i64 (CL x).e)) = Wc at *
                      have hgg := True.intro
                      clear hWc hgg GX hI7 ho7 gx0 gx1 gx2 gf0 gf1 gf2 hHeld hb7 B7
                      try clear B8
                      try clear b6
                      have BC : Below W3.heap.size W3 Wc := bel_trans hB BW
                      have BQ : Below Wb.heap.size Wb Wc := bel_trans hBb BW
                      have HIC := Lib.hid IC
                      have HBC := Lib.hid BC
                      have HBQ := Lib.hid BQ
                      obtain ⟨p0, p1, p2⟩ := GP.three
                      have HGP := Lib.hid GP
                      have Hgx := Lib.hid hgx
                      clear BW hBd hBd2 hBt hBt2 y0 y1 y2 y3 y4 s0 s1 t0 t1 t2 t3 t4 r0 r1 r2 q0 q1 q2 HG ct IC GP hgx HY
                      by_cases he : (CL x).e = 0
                      · have h1 : ((CL x).e != 0) = false := by simp [he]
                        have hpr2 : Hid (∀ i y, i < j + 1 → lc[i]? = some y → (CL y).e = 0) := by
                          intro i y hi hy
                          by_cases hij : i < j
                          · exact hprev.out i y hij hy
                          · obtain rfl : i = j := by omega
                            rw [Hhx.out] at hy
                            rw [← Option.some.inj hy]; exact he
                        clear hprev HIC HGP BC p1
                        go_wp2
                        go_roundw
                        case rel => exact ⟨_, j + 1, rfl, by omega, by go_num, HBQ.out, hpr2⟩
                        case measure => simp [intOf]; omega
                      · have h1 : ((CL x).e != 0) = true := by simp [he]
                        have hNw : N7 ≤ 1000000 := by rw [HIC.out.1]; exact HWayC.out j x Hhx.out
                        have ca := ahead_any ((k : Int) + (j : Int)) A7 N7 C7 (CL x).way Wc.drew (HIC.out.below (Below.refl _ _).drew) hNw
                        have hne2 : w.heap.size + 2 < wr.heap.size := by have := Hgx.out; have := Hs3.out; omega
                        have BCd : Below Wc.heap.size Wc Wc.drew := (Below.refl _ _).drew
                        have HK := Lib.hid (show ∀ w', Below Wc.heap.size Wc w' → w'.cell? ⟨wr.heap.size, 1, none⟩ = some (.slice A7 N7 C7) ∧ w'.cell? ⟨wr.heap.size, 2, none⟩ = some (.int .i64 (CL x).e) from fun w' h => (GBox.b HGP.out h).three.2)
                        go_wp2
                        refine wp_region_noPanic ?_
                        refine wp_region_held_drew (S := fun w' => w'.cell? ⟨wr.heap.size, 1, none⟩ = some (.slice A7 N7 C7) ∧ w'.cell? ⟨wr.heap.size, 2, none⟩ = some (.int .i64 (CL x).e)) (by kernel_rfl) (by exact HK.out _ BCd) (fun hHeld => ?_)
                        refine wpAnyH_take (i := 0) (v := ?_) rfl (by kernel_rfl) (by kernel_rfl) (by kernel_rfl) (fun _ _ _ h => h) (Or.inl ⟨by rfl, ?hy⟩) (by assumption) ?_
                        case hy => (intro w hSw; (try dsimp only at hSw); go_simp; try (with_reducible rfl))
                        (try simp only [List.getElem_toArray, List.getElem_cons_succ, List.getElem_cons_zero, Act.put, List.setIfInBounds_toArray, List.set_cons_zero, List.set_cons_succ])
                        refine wpAnyH_take (i := 1) (v := ?_) rfl (by kernel_rfl) (by kernel_rfl) (by kernel_rfl) (fun _ _ _ h => h) (Or.inl ⟨by rfl, ?hy⟩) (by assumption) ?_
                        case hy => (intro w hSw; (try dsimp only at hSw); go_simp; try (with_reducible rfl))
                        (try simp only [List.getElem_toArray, List.getElem_cons_succ, List.getElem_cons_zero, Act.put, List.setIfInBounds_toArray, List.set_cons_zero, List.set_cons_succ])
                        refine wpAnyH_take (i := 2) (v := ?_) rfl (by kernel_rfl) (by kernel_rfl) (by kernel_rfl) (fun _ _ _ h => h) (Or.inl ⟨by rfl, ?hy⟩) (by assumption) ?_
                        case hy => (intro w hSw; (try dsimp only at hSw); go_simp; try (with_reducible rfl))
                        (try simp only [List.getElem_toArray, List.getElem_cons_succ, List.getElem_cons_zero, Act.put, List.setIfInBounds_toArray, List.set_cons_zero, List.set_cons_succ])
                        refine wpAnyH_take (i := 3) (v := ?_) rfl (by kernel_rfl) (by kernel_rfl) (by kernel_rfl) (fun _ _ _ h => h) (Or.inl ⟨by rfl, ?hy⟩) (by assumption) ?_
                        case hy => (intro w hSw; (try dsimp only at hSw); go_simp; try (with_reducible rfl))
                        (try simp only [List.getElem_toArray, List.getElem_cons_succ, List.getElem_cons_zero, Act.put, List.setIfInBounds_toArray, List.set_cons_zero, List.set_cons_succ])
                        refine wpAnyH_take (i := 4) (v := ?_) rfl (by kernel_rfl) (by kernel_rfl) (by kernel_rfl) (fun _ _ _ h => h) (Or.inl ⟨by rfl, ?hy⟩) (by assumption) ?_
                        case hy => (intro w hSw; (try dsimp only at hSw); go_simp; try (with_reducible rfl))
                        (try simp only [List.getElem_toArray, List.getElem_cons_succ, List.getElem_cons_zero, Act.put, List.setIfInBounds_toArray, List.set_cons_zero, List.set_cons_succ])
                        refine wpAnyH_take (i := 5) (v := ?_) rfl (by kernel_rfl) (by kernel_rfl) (by kernel_rfl) (fun _ _ _ h => h) (Or.inl ⟨by rfl, ?hy⟩) (by assumption) ?_
                        case hy => (intro w hSw; (try dsimp only at hSw); go_simp; try (with_reducible rfl))
                        (try simp only [List.getElem_toArray, List.getElem_cons_succ, List.getElem_cons_zero, Act.put, List.setIfInBounds_toArray, List.set_cons_zero, List.set_cons_succ])
                        refine wpAnyH_take (i := 7) (v := ?_) rfl (by kernel_rfl) (by kernel_rfl) (by kernel_rfl) (fun _ _ _ h => h) (Or.inl ⟨by rfl, ?hy⟩) (by assumption) ?_
                        case hy => (intro w hSw; (try dsimp only at hSw); go_simp; try (with_reducible rfl))
                        (try simp only [List.getElem_toArray, List.getElem_cons_succ, List.getElem_cons_zero, Act.put, List.setIfInBounds_toArray, List.set_cons_zero, List.set_cons_succ])
                        refine wpAnyH_take (i := 8) (v := ?_) rfl (by kernel_rfl) (by kernel_rfl) (by kernel_rfl) (fun _ _ _ h => h) (Or.inl ⟨by rfl, ?hy⟩) (by assumption) ?_
                        case hy => (intro w hSw; (try dsimp only at hSw); go_simp; try (with_reducible rfl))
                        (try simp only [List.getElem_toArray, List.getElem_cons_succ, List.getElem_cons_zero, Act.put, List.setIfInBounds_toArray, List.set_cons_zero, List.set_cons_succ])
                        refine wpAnyH_ready (rs := [6]) (by kernel_rfl) (by simp) ?_
                        refine AllReadyH.cons rfl (fun KK hKK => ?_) AllReadyH.nil
                        go_simp
                        (go_at_call 58; ((with_reducible refine ca.mono ?_); rintro e w8 ⟨A8, C8, rfl, hI8, hb8, ho8⟩; have b8 := bel_trans BCd hb8; have B8 := bel_trans HBC.out b8; have zz := HQ.out _ B8; obtain ⟨-, ⟨r0, r1, r2⟩, ⟨q0, q1, q2⟩, HG8⟩ := zz))
                        refine hKK.out _ _ (by exact HK.out _ b8) (fun hHeld => ?_)
                        clear hKK KK
                        (try simp only [List.getElem_toArray, List.getElem_cons_succ, List.getElem_cons_zero, Act.put, List.setIfInBounds_toArray, List.set_cons_zero, List.set_cons_succ])
                        refine wpAnyH_take (i := 9) (v := ?_) rfl (by kernel_rfl) (by kernel_rfl) (by kernel_rfl) (fun _ _ _ h => h) (Or.inl ⟨by rfl, ?hy⟩) (by assumption) ?_
                        case hy => (intro w hSw; (try dsimp only at hSw); go_simp; try (with_reducible rfl))
                        (try simp only [List.getElem_toArray, List.getElem_cons_succ, List.getElem_cons_zero, Act.put, List.setIfInBounds_toArray, List.set_cons_zero, List.set_cons_succ])
                        refine wpAnyH_ready (rs := [10]) (by kernel_rfl) (by simp) ?_
                        refine AllReadyH.cons rfl (fun KK hKK => ?_) (AllReadyH.nil)
                        go_simp
                        refine hKK.out _ _ (by exact ⟨far3c (HK.out _ b8).1 (Nat.ne_of_lt hne2), far3c (HK.out _ b8).2 (Nat.ne_of_lt hne2)⟩) (fun hHeld => ?_)
                        clear hKK KK
                        (try simp only [List.getElem_toArray, List.getElem_cons_succ, List.getElem_cons_zero, Act.put, List.setIfInBounds_toArray, List.set_cons_zero, List.set_cons_succ])
                        refine wpAnyH_done (by kernel_rfl) ?_ _
                        refine NoPanic.normal ?_
                        have R6 := HG8.put ⟨#[]⟩ A8 (N7 + 1) C8 (CL x).e
                        obtain ⟨x0, x1, x2⟩ := R6.three
                        have hfar : ∀ b o, A8 = some ⟨b, o, none⟩ → 0 < N7 + 1 → b ≠ w.heap.size + 2 := ho8 _ (by show w.heap.size + 2 < Wc.heap.size; have := HBC.out.size; have := Hs3.out; omega)
                        have HZ := Lib.hid (HPs.out j x A8 (N7 + 1) C8 _ Hhx.out he hprev.out (((hI8.far hfar (.string ⟨#[]⟩)).far hfar (.slice A8 (N7 + 1) C8)).far hfar (.int .i64 (CL x).e)) (Sgn.below_set3 (bel_trans HB3.out B8) (show w.heap.size ≤ w.heap.size + 2 by omega) _ _ _) (fun g hg => ho8 g (by show g < Wc.heap.size; have := HBC.out.size; have := Hs3.out; omega)))
                        go_wp2
                        try (simp [bodyPost, results, Try.results36, go_sem, x0, x1, x2])
                        exact HZ.out
                  · obtain rfl : j = sn := by omega
                    have hj0 : ¬ (j : Int) < (j : Int) := by omega
                    have hoW := HPa.out hprev.out
                    clear HPa HPs HCall hprev HWayC
                    have HBr2 := Lib.hid (bel_trans HB3.out hB)
                    have HGw := Lib.hid HG
                    have HoW := Lib.hid hoW
                    clear HBw HCs HS3 HT3 HR3 HFi hoW
                    go_wp2
                    have R6 := HGw.out.put ⟨#[]⟩ none 0 0 0
                    obtain ⟨x0, x1, x2⟩ := R6.three
                    have HZ := Lib.hid (HPz.out (Wr.ok ⟨#[]⟩) ⟨#[]⟩ 0 none 0 _ (HoW.out.trans (by unfold wantC; rw [if_neg (by decide), if_neg (by decide), if_neg (by decide)])) rfl (fun _ => rfl) (Sgn.below_set3 HBr2.out (show w.heap.size ≤ w.heap.size + 2 by omega) (.string ⟨#[]⟩) (.slice none 0 0) (.int .i64 0)))
                    first | exact HZ.out | (simp [bodyPost, results, Try.results36, go_sem, x0, x1, x2]; exact HZ.out)
        · subst hp12
          have cK := HKn.out
          cases hkn : knownB S so with
          | false =>
            simp only [hkn] at cK
            have HoW := Lib.hid (hoW.trans (if_pos (show (((12 : Int) == 11 || (12 : Int) == 12) && !rangeB S so) = true by unfold rangeB; rw [hkn]; rfl)))
            clear hoW s0 s1 t0 t1 t2 t3 t4 r0 r1 r2 q0 q1 q2 HG
            obtain ⟨⟨s0, s1, t0, t1, t2, t3, t4⟩, -⟩ := HQ.out Wb hB
            go_wp2_with (go_at_call 26; ((with_reducible refine (cK _ hB).mono ?_); rintro e w3 ⟨rfl, hb3⟩; have B3 := bel_trans hB hb3; have zz := HQ.out _ B3; obtain ⟨⟨s0, s1, t0, t1, t2, t3, t4⟩, ⟨r0, r1, r2⟩, ⟨q0, q1, q2⟩, HG9⟩ := zz))
            have R6 := HG9.put ⟨#[]⟩ none 0 0 11
            obtain ⟨x0, x1, x2⟩ := R6.three
            have HZ := Lib.hid (HPz.out (Wr.bad 11 []) ⟨#[]⟩ 11 none 0 _ (HoW.out) rfl (fun _ => rfl) (Sgn.below_set3 (bel_trans HB3.out B3) (show w.heap.size ≤ w.heap.size + 2 by omega) (.string ⟨#[]⟩) (.slice none 0 0) (.int .i64 11)))
            first | exact HZ.out | (simp [bodyPost, results, Try.results36, go_sem, x0, x1, x2]; exact HZ.out)
          | true =>
            simp only [hkn] at cK
            cases hbo : so.toList == [66, 111, 111, 108] with
            | true =>
              have hbo2 : (so.toList = [66, 111, 111, 108]) = True := by simpa using hbo
              have HoW := Lib.hid (hoW.trans (if_pos (show (((12 : Int) == 11 || (12 : Int) == 12) && !rangeB S so) = true by unfold rangeB; rw [hkn, sBool_l, hbo]; rfl)))
              clear hoW s0 s1 t0 t1 t2 t3 t4 r0 r1 r2 q0 q1 q2 HG
              obtain ⟨⟨s0, s1, t0, t1, t2, t3, t4⟩, -⟩ := HQ.out Wb hB
              go_wp2_with (go_at_call 26; ((with_reducible refine (cK _ hB).mono ?_); rintro e w3 ⟨rfl, hb3⟩; have B3 := bel_trans hB hb3; have zz := HQ.out _ B3; obtain ⟨⟨s0, s1, t0, t1, t2, t3, t4⟩, ⟨r0, r1, r2⟩, ⟨q0, q1, q2⟩, HG9⟩ := zz))
              have R6 := HG9.put ⟨#[]⟩ none 0 0 11
              obtain ⟨x0, x1, x2⟩ := R6.three
              have HZ := Lib.hid (HPz.out (Wr.bad 11 []) ⟨#[]⟩ 11 none 0 _ (HoW.out) rfl (fun _ => rfl) (Sgn.below_set3 (bel_trans HB3.out B3) (show w.heap.size ≤ w.heap.size + 2 by omega) (.string ⟨#[]⟩) (.slice none 0 0) (.int .i64 11)))
              first | exact HZ.out | (simp [bodyPost, results, Try.results36, go_sem, x0, x1, x2]; exact HZ.out)
            | false =>
              have hbo2 : (so.toList = [66, 111, 111, 108]) = False := by simpa using hbo
              have hrg : rangeB S so = true := by unfold rangeB; rw [hkn, sBool_l, hbo]; rfl
              have hoB := hoW.trans (if_neg (show ¬ (((12 : Int) == 11 || (12 : Int) == 12) && !rangeB S so) = true by rw [hrg]; decide))
              rw [show (if ((12 : Int) == 11 || (12 : Int) == 12) = true then E.B ++ [so] else E.B) = E.B ++ [so] from if_pos (by decide)] at hoB
              have HoB := Lib.hid hoB
              clear hoW hoB s0 s1 t0 t1 t2 t3 t4 r0 r1 r2 q0 q1 q2 HG
              obtain ⟨⟨s0, s1, t0, t1, t2, t3, t4⟩, -⟩ := HQ.out Wb hB
              have HSl := Lib.hid (show ∀ w', Below W3.heap.size W3 w' → SlS w' E.p E.q E.e E.B from fun w' h => ⟨(HE.out.b (bel_trans HB3.out h)).2.2.2.2.1, Hqe.out, Hpe.out⟩)
              have hq6 : E.q ≤ 1000000 := HE.out.2.2.2.2.2
              have hqB : E.q = E.B.length := HE.out.2.2.2.2.1.1
              have HqB := Lib.hid hqB
              clear hqB
              have HBW := Lib.hid hB
              go_upto_region 12 with (go_at_call 26; ((with_reducible refine (cK _ hB).mono ?_); rintro e w3 ⟨rfl, hb3⟩; have B3 := bel_trans hB hb3; have zz := HQ.out _ B3; obtain ⟨⟨s0, s1, t0, t1, t2, t3, t4⟩, ⟨r0, r1, r2⟩, ⟨q0, q1, q2⟩, HG9⟩ := zz))
              clear r0 r1 r2 q0 q1 q2 HG9 cK
              go_cut [2] from 66 to 72 (fun v wc => (∃ A C, v = .slice A (E.q + 1) C ∧ Hid (SlS wc A (E.q + 1) C (E.B ++ [so]))) ∧ Hid (Below Wb.heap.size Wb wc))
              case first =>
                have HB3w := Lib.hid B3
                have Hb3 := Lib.hid hb3
                have hfin : ∀ v w5, OwnS w5 w3.heap.size v (E.B ++ [so]) → Below w3.heap.size w3 w5 → (∃ A C, v = .slice A (E.q + 1) C ∧ Hid (SlS w5 A (E.q + 1) C (E.B ++ [so]))) ∧ Hid (Below Wb.heap.size Wb w5) := fun v w5 h1 h2 => by
                  obtain ⟨A, C, rfl, h3⟩ := h1.slS
                  have e1 : (E.B ++ [so]).length = E.q + 1 := by rw [List.length_append, ← HqB.out]; rfl
                  rw [e1] at h3 ⊢
                  exact ⟨⟨A, C, rfl, Lib.hid h3⟩, Lib.hid (bel_trans Hb3.out h2)⟩
                have HF := Lib.hid hfin
                clear hfin
                have X0 : Below w3.heap.size w3 (w3.alloc (.cells #[] 9)).drew := (bel_alloc (Below.refl _ _) _).drew
                have XS : Below w3.heap.size w3 (w3.alloc (.cells #[.string so] 9)).drew := (bel_alloc (Below.refl _ _) _).drew
                have X0S : Below w3.heap.size w3 ((w3.alloc (.cells #[] 9)).alloc (.cells #[.string so] 9)).drew := (bel_alloc (bel_alloc (Below.refl _ _) _) _).drew
                have XS0 : Below w3.heap.size w3 ((w3.alloc (.cells #[.string so] 9)).alloc (.cells #[] 9)).drew := (bel_alloc (bel_alloc (Below.refl _ _) _) _).drew
                have X3 : Below w3.heap.size w3 w3.drew := (Below.refl _ _).drew
                have O0 : OwnS (w3.alloc (.cells #[] 9)).drew w3.heap.size (.slice (some ⟨w3.heap.size, 0, none⟩) 0 0) [] := own_none w3
                have O0S : OwnS ((w3.alloc (.cells #[] 9)).alloc (.cells #[.string so] 9)).drew w3.heap.size (.slice (some ⟨w3.heap.size, 0, none⟩) 0 0) [] := OwnS.below (own_none w3) (bel_alloc (Below.refl _ _) _).drew
                have OS0 : OwnS ((w3.alloc (.cells #[.string so] 9)).alloc (.cells #[] 9)).drew w3.heap.size (.slice (some ⟨w3.heap.size + 1, 0, none⟩) 0 0) [] := by have h := own_none (w3.alloc (.cells #[.string so] 9)); rw [show (w3.alloc (.cells #[.string so] 9)).heap.size = w3.heap.size + 1 by simp] at h; exact OwnS.base h (by omega)
                have c0 : ((w3.alloc (.cells #[] 9)).alloc (.cells #[.string so] 9)).drew.cell? ⟨w3.heap.size + 1, 0, none⟩ = some (.string so) := by have h := Sgn.Blk.cell (Sgn.Blk.new (w3.alloc (.cells #[] 9)) #[.string so] 9) 0; rw [show (w3.alloc (.cells #[] 9)).heap.size = w3.heap.size + 1 by simp] at h; exact h
                have c1 : ((w3.alloc (.cells #[.string so] 9)).alloc (.cells #[] 9)).drew.cell? ⟨w3.heap.size, 0, none⟩ = some (.string so) := Sgn.Blk.cell (Sgn.Blk.alloc (Sgn.Blk.new w3 #[.string so] 9) _) 0
                refine wp_region_noPanic ?_
                refine wp_region_held_drew (S := fun w' => w'.cell? ⟨w.heap.size + 1, 2, none⟩ = some (.string so)) (by kernel_rfl) (by exact (HQ.out _ (bel_trans HB3w.out X3)).1.2.2.2.2.1) (fun hHeld => ?_)
                refine wpAnyH_take (i := 1) (v := ?_) rfl (by kernel_rfl) (by kernel_rfl) (by kernel_rfl) (fun _ _ _ h => h) (Or.inl ⟨by rfl, ?hy⟩) (by assumption) ?_
                case hy => (intro w hSw; (try dsimp only at hSw); go_simp; try (with_reducible rfl))
                (try simp only [List.getElem_toArray, List.getElem_cons_succ, List.getElem_cons_zero, Act.put, List.setIfInBounds_toArray, List.set_cons_zero, List.set_cons_succ])
                refine wpAnyH_take (i := 3) (v := ?_) rfl (by kernel_rfl) (by kernel_rfl) (by kernel_rfl) (fun _ _ _ h => h) (Or.inl ⟨by rfl, ?hy⟩) (by assumption) ?_
                case hy => (intro w hSw; (try dsimp only at hSw); go_simp; try (with_reducible rfl))
                (try simp only [List.getElem_toArray, List.getElem_cons_succ, List.getElem_cons_zero, Act.put, List.setIfInBounds_toArray, List.set_cons_zero, List.set_cons_succ])
                refine wpAnyH_take (i := 4) (v := ?_) rfl (by kernel_rfl) (by kernel_rfl) (by kernel_rfl) (fun _ _ _ h => h) (Or.inl ⟨by rfl, ?hy⟩) (by assumption) ?_
                case hy => (intro w hSw; (try dsimp only at hSw); go_simp; try (with_reducible rfl))
                (try simp only [List.getElem_toArray, List.getElem_cons_succ, List.getElem_cons_zero, Act.put, List.setIfInBounds_toArray, List.set_cons_zero, List.set_cons_succ])
                refine wpAnyH_ready (rs := [0, 5]) (by kernel_rfl) (by simp) ?_
                refine AllReadyH.cons rfl (fun KK hKK => ?_) (AllReadyH.cons rfl (fun KK hKK => ?_) (AllReadyH.nil))
                · go_simp
                  refine hKK.out _ _ (by exact (HQ.out _ (bel_trans HB3w.out X0)).1.2.2.2.2.1) (fun hHeld => ?_)
                  clear hKK KK
                  (try simp only [List.getElem_toArray, List.getElem_cons_succ, List.getElem_cons_zero, Act.put, List.setIfInBounds_toArray, List.set_cons_zero, List.set_cons_succ])
                  refine wpAnyH_ready (rs := [2, 5]) (by kernel_rfl) (by simp) ?_
                  refine AllReadyH.cons rfl (fun KK hKK => ?_) (AllReadyH.cons rfl (fun KK hKK => ?_) (AllReadyH.nil))
                  · (refine step_app_strs rfl (.tmp 66) (.tmp 67) rfl w3.heap.size _ [] rfl O0 E.p E.q E.e E.B rfl (HSl.out _ (bel_trans HB3w.out X0)) (by simp; omega) (by simp <;> omega) ?_; intro v1 w4 ho1 hg1; rw [List.nil_append] at ho1; have X4 : Below w3.heap.size w3 w4 := X0.grown hg1 (by simp <;> omega) (fun k hk => (by have h1 := own_blk hk; omega)))
                    refine hKK.out _ _ (by exact (HQ.out _ (bel_trans HB3w.out X4)).1.2.2.2.2.1) (fun hHeld => ?_)
                    clear hKK KK
                    (try simp only [List.getElem_toArray, List.getElem_cons_succ, List.getElem_cons_zero, Act.put, List.setIfInBounds_toArray, List.set_cons_zero, List.set_cons_succ])
                    refine wpAnyH_ready (rs := [5]) (by kernel_rfl) (by simp) ?_
                    refine AllReadyH.cons rfl (fun KK hKK => ?_) (AllReadyH.nil)
                    go_simp
                    refine hKK.out _ _ (by exact (HQ.out _ (bel_trans HB3w.out (bel_alloc X4 _))).1.2.2.2.2.1) (fun hHeld => ?_)
                    clear hKK KK
                    (try simp only [List.getElem_toArray, List.getElem_cons_succ, List.getElem_cons_zero, Act.put, List.setIfInBounds_toArray, List.set_cons_zero, List.set_cons_succ])
                    refine wpAnyH_ready (rs := [6]) (by kernel_rfl) (by simp) ?_
                    refine AllReadyH.cons rfl (fun KK hKK => ?_) (AllReadyH.nil)
                    (refine step_app_strs rfl (.tmp 68) (.tmp 71) rfl w3.heap.size v1 E.B rfl (OwnS.below ho1 (bel_alloc (Below.refl _ _) _)) _ 1 1 [so] rfl (one_at (by simp) (Sgn.Blk.cell (Sgn.Blk.new w4 #[.string so] 9) 0)) (by rw [← HqB.out]; omega) (by have h := X4.size; first | omega | (simp; omega)) ?_; intro v2 w5 ho2 hg2; have X5 : Below w3.heap.size w3 w5 := (bel_alloc X4 (.cells #[.string so] 9)).grown hg2 (by have h := X4.size; first | omega | (simp; omega)) (fun k hk => (World.ownsRow.lt ho1 k hk).1))
                    refine hKK.out _ _ (by exact (HQ.out _ (bel_trans HB3w.out X5)).1.2.2.2.2.1) (fun hHeld => ?_)
                    clear hKK KK
                    (try simp only [List.getElem_toArray, List.getElem_cons_succ, List.getElem_cons_zero, Act.put, List.setIfInBounds_toArray, List.set_cons_zero, List.set_cons_succ])
                    refine wpAnyH_take (i := 7) (v := ?_) rfl (by kernel_rfl) (by kernel_rfl) (by kernel_rfl) (fun _ _ _ h => h) (Or.inl ⟨by rfl, ?hy⟩) (by assumption) ?_
                    case hy => (intro w hSw; (try dsimp only at hSw); go_simp; try (with_reducible rfl))
                    (try simp only [List.getElem_toArray, List.getElem_cons_succ, List.getElem_cons_zero, Act.put, List.setIfInBounds_toArray, List.set_cons_zero, List.set_cons_succ])
                    refine wpAnyH_done (by kernel_rfl) ?_ _
                    refine NoPanic.normal ?_
                    all_goals (try go_wp2_with fail)
                    go_meet
                    exact HF.out _ _ ho2 X5
                  · go_simp
                    refine hKK.out _ _ (by exact (HQ.out _ (bel_trans HB3w.out X0S)).1.2.2.2.2.1) (fun hHeld => ?_)
                    clear hKK KK
                    (try simp only [List.getElem_toArray, List.getElem_cons_succ, List.getElem_cons_zero, Act.put, List.setIfInBounds_toArray, List.set_cons_zero, List.set_cons_succ])
                    refine wpAnyH_ready (rs := [2]) (by kernel_rfl) (by simp) ?_
                    refine AllReadyH.cons rfl (fun KK hKK => ?_) (AllReadyH.nil)
                    (refine step_app_strs rfl (.tmp 66) (.tmp 67) rfl w3.heap.size _ [] rfl O0S E.p E.q E.e E.B rfl (HSl.out _ (bel_trans HB3w.out X0S)) (by simp; omega) (by simp <;> omega) ?_; intro v1 w4 ho1 hg1; rw [List.nil_append] at ho1; have X4 : Below w3.heap.size w3 w4 := X0S.grown hg1 (by simp <;> omega) (fun k hk => (by have h1 := own_blk hk; omega)); have l4 : w3.heap.size + 2 ≤ w4.heap.size := (by have h := hg1.size; simp at h; omega); have cs4 : w4.cell? ⟨w3.heap.size + 1, 0, none⟩ = some (.string so) := (World.cell?_of_block (hg1.block _ (by simp <;> omega) (fun e => (by have h9 := own_blk e.symm; simp at h9)))).trans c0)
                    refine hKK.out _ _ (by exact (HQ.out _ (bel_trans HB3w.out X4)).1.2.2.2.2.1) (fun hHeld => ?_)
                    clear hKK KK
                    (try simp only [List.getElem_toArray, List.getElem_cons_succ, List.getElem_cons_zero, Act.put, List.setIfInBounds_toArray, List.set_cons_zero, List.set_cons_succ])
                    refine wpAnyH_ready (rs := [6]) (by kernel_rfl) (by simp) ?_
                    refine AllReadyH.cons rfl (fun KK hKK => ?_) (AllReadyH.nil)
                    (refine step_app_strs rfl (.tmp 68) (.tmp 71) rfl w3.heap.size v1 E.B rfl ho1 _ 1 1 [so] rfl (one_at (by omega) cs4) (by rw [← HqB.out]; omega) (by have h := X4.size; first | omega | (simp; omega)) ?_; intro v2 w5 ho2 hg2; have X5 : Below w3.heap.size w3 w5 := X4.grown hg2 (by have h := X4.size; first | omega | (simp; omega)) (fun k hk => (World.ownsRow.lt ho1 k hk).1))
                    refine hKK.out _ _ (by exact (HQ.out _ (bel_trans HB3w.out X5)).1.2.2.2.2.1) (fun hHeld => ?_)
                    clear hKK KK
                    (try simp only [List.getElem_toArray, List.getElem_cons_succ, List.getElem_cons_zero, Act.put, List.setIfInBounds_toArray, List.set_cons_zero, List.set_cons_succ])
                    refine wpAnyH_take (i := 7) (v := ?_) rfl (by kernel_rfl) (by kernel_rfl) (by kernel_rfl) (fun _ _ _ h => h) (Or.inl ⟨by rfl, ?hy⟩) (by assumption) ?_
                    case hy => (intro w hSw; (try dsimp only at hSw); go_simp; try (with_reducible rfl))
                    (try simp only [List.getElem_toArray, List.getElem_cons_succ, List.getElem_cons_zero, Act.put, List.setIfInBounds_toArray, List.set_cons_zero, List.set_cons_succ])
                    refine wpAnyH_done (by kernel_rfl) ?_ _
                    refine NoPanic.normal ?_
                    all_goals (try go_wp2_with fail)
                    go_meet
                    exact HF.out _ _ ho2 X5
                · go_simp
                  refine hKK.out _ _ (by exact (HQ.out _ (bel_trans HB3w.out XS)).1.2.2.2.2.1) (fun hHeld => ?_)
                  clear hKK KK
                  (try simp only [List.getElem_toArray, List.getElem_cons_succ, List.getElem_cons_zero, Act.put, List.setIfInBounds_toArray, List.set_cons_zero, List.set_cons_succ])
                  refine wpAnyH_ready (rs := [0]) (by kernel_rfl) (by simp) ?_
                  refine AllReadyH.cons rfl (fun KK hKK => ?_) (AllReadyH.nil)
                  go_simp
                  refine hKK.out _ _ (by exact (HQ.out _ (bel_trans HB3w.out XS0)).1.2.2.2.2.1) (fun hHeld => ?_)
                  clear hKK KK
                  (try simp only [List.getElem_toArray, List.getElem_cons_succ, List.getElem_cons_zero, Act.put, List.setIfInBounds_toArray, List.set_cons_zero, List.set_cons_succ])
                  refine wpAnyH_ready (rs := [2]) (by kernel_rfl) (by simp) ?_
                  refine AllReadyH.cons rfl (fun KK hKK => ?_) (AllReadyH.nil)
                  (refine step_app_strs rfl (.tmp 66) (.tmp 67) rfl w3.heap.size _ [] rfl OS0 E.p E.q E.e E.B rfl (HSl.out _ (bel_trans HB3w.out XS0)) (by simp; omega) (by simp <;> omega) ?_; intro v1 w4 ho1 hg1; rw [List.nil_append] at ho1; have X4 : Below w3.heap.size w3 w4 := XS0.grown hg1 (by simp <;> omega) (fun k hk => (by have h1 := own_blk hk; omega)); have l4 : w3.heap.size + 2 ≤ w4.heap.size := (by have h := hg1.size; simp at h; omega); have cs4 : w4.cell? ⟨w3.heap.size, 0, none⟩ = some (.string so) := (World.cell?_of_block (hg1.block _ (by simp <;> omega) (fun e => (by have h9 := own_blk e.symm; simp at h9)))).trans c1)
                  refine hKK.out _ _ (by exact (HQ.out _ (bel_trans HB3w.out X4)).1.2.2.2.2.1) (fun hHeld => ?_)
                  clear hKK KK
                  (try simp only [List.getElem_toArray, List.getElem_cons_succ, List.getElem_cons_zero, Act.put, List.setIfInBounds_toArray, List.set_cons_zero, List.set_cons_succ])
                  refine wpAnyH_ready (rs := [6]) (by kernel_rfl) (by simp) ?_
                  refine AllReadyH.cons rfl (fun KK hKK => ?_) (AllReadyH.nil)
                  (refine step_app_strs rfl (.tmp 68) (.tmp 71) rfl w3.heap.size v1 E.B rfl ho1 _ 1 1 [so] rfl (one_at (by omega) cs4) (by rw [← HqB.out]; omega) (by have h := X4.size; first | omega | (simp; omega)) ?_; intro v2 w5 ho2 hg2; have X5 : Below w3.heap.size w3 w5 := X4.grown hg2 (by have h := X4.size; first | omega | (simp; omega)) (fun k hk => (World.ownsRow.lt ho1 k hk).1))
                  refine hKK.out _ _ (by exact (HQ.out _ (bel_trans HB3w.out X5)).1.2.2.2.2.1) (fun hHeld => ?_)
                  clear hKK KK
                  (try simp only [List.getElem_toArray, List.getElem_cons_succ, List.getElem_cons_zero, Act.put, List.setIfInBounds_toArray, List.set_cons_zero, List.set_cons_succ])
                  refine wpAnyH_take (i := 7) (v := ?_) rfl (by kernel_rfl) (by kernel_rfl) (by kernel_rfl) (fun _ _ _ h => h) (Or.inl ⟨by rfl, ?hy⟩) (by assumption) ?_
                  case hy => (intro w hSw; (try dsimp only at hSw); go_simp; try (with_reducible rfl))
                  (try simp only [List.getElem_toArray, List.getElem_cons_succ, List.getElem_cons_zero, Act.put, List.setIfInBounds_toArray, List.set_cons_zero, List.set_cons_succ])
                  refine wpAnyH_done (by kernel_rfl) ?_ _
                  refine NoPanic.normal ?_
                  all_goals (try go_wp2_with fail)
                  go_meet
                  exact HF.out _ _ ho2 X5
              case rest =>
                obtain ⟨⟨A2, C2, rfl, hS2⟩, hW2'⟩ := hcut
                have hB2' := bel_trans HBW.out hW2'.out
                have hIw : IsS wc A2 (E.q + 1) (E.B ++ [so]) := hS2.out.1
                have hQe : E.q + 1 ≤ C2 := hS2.out.2.1
                have hPe0 : A2 = none → C2 = 0 := hS2.out.2.2
                have hQw : E.q + 1 ≤ 1000000 := by have := Hq.out; have := Hsz.out; omega
                have HGI2 := Lib.hid (IsS.below HGI.out hW2'.out)
                have zz := HQ.out wc hB2'
                clear s0 s1 t0 t1 t2 t3 t4
                obtain ⟨⟨s0, s1, t0, t1, t2, t3, t4⟩, -⟩ := zz
                have hoB := HoB.out
                have hBw := hB2'
                clear hB B3 hb3 HoB HGI HGS HBr hB2' HSl
                have HGI := HGI2
                have ⟨Wv, hWv⟩ : ∃ Wv, Wv = Wb := ⟨_, rfl⟩
                subst hWv
                have ⟨Wb, hWb⟩ : ∃ Wb, Wb = wc := ⟨_, rfl⟩
                subst hWb
                go_wp2
                have HIw := Lib.hid hIw
                have HBw := Lib.hid hBw
                have HCall := Lib.hid (show ∀ (i : Nat) (x : Cl), lc[i]? = some x → ∀ (xk : SS) (xa : Option Addr) (xn xc : Nat) (w' : World), Below Wb.heap.size Wb w' → ArWC w' x xk xa xn xc → Calls Try.prog 36 #[.agg #[.slice E.a E.n E.c, .slice E.b E.m E.d], .slice E.vp E.vn E.vc, .slice A2 (E.q + 1) C2, .agg #[.int .i64 (opC x), .string (nmC x), .string (soC x), .slice xk.a xk.n xk.c, .slice xa xn xc]] w' (GtP (wlC S E.K E.V (E.B ++ [so]) x) w') from fun i x hx xk xa xn xc w' h1 h3 => by
                  have hm := List.mem_of_getElem? hx
                  have hw := wts_mem hm
                  have hE9 := HE.out.b (bel_trans HB3.out (bel_trans HBw.out h1))
                  exact HOk.out x hm ⟨E.a, E.n, E.c, E.b, E.m, E.d, E.g, E.vp, E.vn, E.vc, A2, (E.q + 1), C2, E.G, E.V, (E.B ++ [so])⟩ S xk xa xn xc w' ⟨hE9.1, hE9.2.1, hE9.2.2.1, hE9.2.2.2.1, HIw.out.below h1, hQw⟩ (HSs.out.below (bel_trans HB3.out (bel_trans HBw.out h1))) HEn.out (Hcp.out x hm) (by have := Hs.out; have := Hsz.out; omega) (by show (E.q + 1) + wt x ≤ 1000000; have := Hq.out; have := Hsz.out; omega) hQe hPe0 h3)
                have HPs := Lib.hid (show ∀ (i : Nat) (x : Cl) A N C w', lc[i]? = some x → (wlC S E.K E.V (E.B ++ [so]) x).e ≠ 0 → (∀ j y, j < i → lc[j]? = some y → (wlC S E.K E.V (E.B ++ [so]) y).e = 0) → SlI w' A N C (((k : Int) + (i : Int)) :: (wlC S E.K E.V (E.B ++ [so]) x).way) → Below w.heap.size w w' → (∀ g, g < w.heap.size → ∀ b o, A = some ⟨b, o, none⟩ → 0 < N → b ≠ g) → PP (.returned (.agg #[.string ⟨#[]⟩, .slice A N C, .int .i64 (wlC S E.K E.V (E.B ++ [so]) x).e])) w' from fun i x A N C w' h1 h2 h3 h4 h5 h6 => by
                  have e1 := wlCs_bad (S := S) (K := E.K) (V := E.V) (B := (E.B ++ [so])) k i h1 h2 h3
                  refine HPi.out (.bad (wlC S E.K E.V (E.B ++ [so]) x).e (((k : Int) + (i : Int)) :: (wlC S E.K E.V (E.B ++ [so]) x).way)) _ _ A N C w' (hoB.trans ?_) rfl h4 h5 h6
                  rw [e1, if_pos h2]
                  simp)
                have HPa := Lib.hid (show (∀ j y, j < sn → lc[j]? = some y → (wlC S E.K E.V (E.B ++ [so]) y).e = 0) → WC = wantC E.K 12 nm D from fun h => hoB.trans (by
                  rw [wlCs_all (S := S) (K := E.K) (V := E.V) (B := (E.B ++ [so])) k (fun x hx => by
                    obtain ⟨j, hj, rfl⟩ := List.mem_iff_getElem.1 hx
                    exact h j _ (by have := Hsn.out; omega) (List.getElem?_eq_getElem hj)), if_neg (by simp)]))
                have HWayC := Lib.hid (show ∀ (i : Nat) (x : Cl), lc[i]? = some x → (wlC S E.K E.V (E.B ++ [so]) x).way.length ≤ 1000000 from fun i x h => by
                  have h1 := wayC_len S E.K E.V (E.B ++ [so]) x
                  have h2 := wts_mem (List.mem_of_getElem? h)
                  have := Hs.out; have := Hsz.out
                  omega)
                have hsnb : sn ≤ 1000000 := by have := Hs.out; have := Hsz.out; have := Hsn.out; have := len_wts lc; omega
                clear hoB hQw hQe hPe0 hIw hBw
                generalize hCL : wlC S E.K E.V (E.B ++ [so]) = CL at *
                clear hCL
                have Hk8 := Lib.hid htn8
                go_loopw [12] (fun i wr0 => ∃ (wr : World) (j : Nat), wr = wr0 ∧ j ≤ sn ∧ i = .int .i64 j ∧ Below Wb.heap.size Wb wr ∧ Hid (∀ i y, i < j → lc[i]? = some y → (CL y).e = 0)) (fun i _ => sn - (intOf i).toNat)
                case atStart => exact ⟨_, 0, rfl, by omega, rfl, Below.refl _ _, Lib.hid (fun i x h => absurd h (by omega))⟩
                case round =>
                  obtain ⟨wr, j, rfl, hj, rfl, hBb, hprev⟩ := hrel
                  have hB := bel_trans HBw.out hBb
                  have zz := HQ.out wr hB
                  obtain ⟨⟨s0, s1, t0, t1, t2, t3, t4⟩, ⟨r0, r1, r2⟩, ⟨q0, q1, q2⟩, HG⟩ := zz
                  by_cases hlt : j < sn
                  · obtain ⟨bb, o, x, xk, xa, xn, xc, rfl, hb, y0', y1', y2', y3', y4', hx, hA⟩ := HCs.out.at hlt
                    have HY := Lib.hid (show ∀ w', Below W3.heap.size W3 w' → w'.cell? ⟨bb, o + j * 5, none⟩ = some (.int .i64 (opC x)) ∧ w'.cell? ⟨bb, o + j * 5 + 1, none⟩ = some (.string (nmC x)) ∧ w'.cell? ⟨bb, o + j * 5 + 1 + 1, none⟩ = some (.string (soC x)) ∧ w'.cell? ⟨bb, o + j * 5 + 1 + 1 + 1, none⟩ = some (.slice xk.a xk.n xk.c) ∧ w'.cell? ⟨bb, o + j * 5 + 1 + 1 + 1 + 1, none⟩ = some (.slice xa xn xc) from fun w' h =>
                      ⟨(h.cell (p := ⟨bb, _, none⟩) hb).trans y0', (h.cell (p := ⟨bb, _, none⟩) hb).trans y1', (h.cell (p := ⟨bb, _, none⟩) hb).trans y2', (h.cell (p := ⟨bb, _, none⟩) hb).trans y3', (h.cell (p := ⟨bb, _, none⟩) hb).trans y4'⟩)
                    have hBd : Below wr.heap.size wr wr.drew := (Below.refl _ _).drew
                    have hBt := bel_trans hB hBd
                    have hBd2 : Below wr.heap.size wr (wr.alloc (.cells #[.string ⟨#[]⟩, .slice none 0 0, .int .i64 0] 40)).drew := (bel_alloc (Below.refl _ _) _).drew
                    have hBt2 := bel_trans hB hBd2
                    have HBw' := HBw.out
                    have ct := fun (w' : World) (h : Below W3.heap.size W3 w') (h9 : Below Wb.heap.size Wb w') => HCall.out j x hx xk xa xn xc w' h9 (ArWC.b (show ArWC W3 x xk xa xn xc from hA) h)
                    unfold GtP at ct
                    have hk0 : 0 ≤ (j : Int) := by omega
                    have hk1 : (j : Int) < (sn : Int) := by omega
                    have hkj : IntKind.i64.wrap ((k : Int) + (j : Int)) = (k : Int) + (j : Int) := by have := Hk8.out; have := Hs.out; have := Hsz.out; have := Hsn.out; have h9 := len_wts lc; unfold IntKind.wrap; simp [IntKind.bits]; omega
                    have Hhx := Lib.hid hx
                    have zz := HY.out wr hB
                    obtain ⟨y0, y1, y2, y3, y4⟩ := zz
                    clear hx hA y0' y1' y2' y3' y4' HCall HKn HFi HPz HPa HOk HE HSs HCs
                    go_wp2
                    refine wp_region_noPanic ?_
                    refine wp_region_held_drew (S := fun w' => w'.cell? ⟨w.heap.size, 0, none⟩ = some (.slice E.a E.n E.c) ∧ w'.cell? ⟨w.heap.size, 1, none⟩ = some (.slice E.b E.m E.d) ∧ w'.cell? ⟨w.heap.size + 1, 4, none⟩ = some (.slice (some ⟨bb, o, none⟩) sn sc) ∧ w'.cell? ⟨bb, o + j * 5, none⟩ = some (.int .i64 (opC x)) ∧ w'.cell? ⟨bb, o + j * 5 + 1, none⟩ = some (.string (nmC x)) ∧ w'.cell? ⟨bb, o + j * 5 + 1 + 1, none⟩ = some (.string (soC x)) ∧ w'.cell? ⟨bb, o + j * 5 + 1 + 1 + 1, none⟩ = some (.slice xk.a xk.n xk.c) ∧ w'.cell? ⟨bb, o + j * 5 + 1 + 1 + 1 + 1, none⟩ = some (.slice xa xn xc)) (by kernel_rfl) (by exact ⟨(HQ.out _ hBt).1.1, (HQ.out _ hBt).1.2.1, (HQ.out _ hBt).1.2.2.2.2.2.2, HY.out _ hBt⟩) (fun hHeld => ?_)
                    refine wpAnyH_take (i := 0) (v := ?_) rfl (by kernel_rfl) (by kernel_rfl) (by kernel_rfl) (fun _ _ _ h => h) (Or.inl ⟨by rfl, ?hy⟩) (by assumption) ?_
                    case hy => (intro w hSw; (try dsimp only at hSw); go_simp; try (with_reducible rfl))
                    (try simp only [List.getElem_toArray, List.getElem_cons_succ, List.getElem_cons_zero, Act.put, List.setIfInBounds_toArray, List.set_cons_zero, List.set_cons_succ])
                    refine wpAnyH_take (i := 1) (v := ?_) rfl (by kernel_rfl) (by kernel_rfl) (by kernel_rfl) (fun _ _ _ h => h) (Or.inl ⟨by rfl, ?hy⟩) (by assumption) ?_
                    case hy => (intro w hSw; (try dsimp only at hSw); go_simp; try (with_reducible rfl))
                    (try simp only [List.getElem_toArray, List.getElem_cons_succ, List.getElem_cons_zero, Act.put, List.setIfInBounds_toArray, List.set_cons_zero, List.set_cons_succ])
                    refine wpAnyH_take (i := 2) (v := ?_) rfl (by kernel_rfl) (by kernel_rfl) (by kernel_rfl) (fun _ _ _ h => h) (Or.inl ⟨by rfl, ?hy⟩) (by assumption) ?_
                    case hy => (intro w hSw; (try dsimp only at hSw); go_simp; try (with_reducible rfl))
                    (try simp only [List.getElem_toArray, List.getElem_cons_succ, List.getElem_cons_zero, Act.put, List.setIfInBounds_toArray, List.set_cons_zero, List.set_cons_succ])
                    refine wpAnyH_take (i := 3) (v := ?_) rfl (by kernel_rfl) (by kernel_rfl) (by kernel_rfl) (fun _ _ _ h => h) (Or.inl ⟨by rfl, ?hy⟩) (by assumption) ?_
                    case hy => (intro w hSw; (try dsimp only at hSw); go_simp; try (with_reducible rfl))
                    (try simp only [List.getElem_toArray, List.getElem_cons_succ, List.getElem_cons_zero, Act.put, List.setIfInBounds_toArray, List.set_cons_zero, List.set_cons_succ])
                    refine wpAnyH_take (i := 4) (v := ?_) rfl (by kernel_rfl) (by kernel_rfl) (by kernel_rfl) (fun _ _ _ h => h) (Or.inl ⟨by rfl, ?hy⟩) (by assumption) ?_
                    case hy => (intro w hSw; (try dsimp only at hSw); go_simp; try (with_reducible rfl))
                    (try simp only [List.getElem_toArray, List.getElem_cons_succ, List.getElem_cons_zero, Act.put, List.setIfInBounds_toArray, List.set_cons_zero, List.set_cons_succ])
                    refine wpAnyH_take (i := 5) (v := ?_) rfl (by kernel_rfl) (by kernel_rfl) (by kernel_rfl) (fun _ _ _ h => h) (Or.inl ⟨by rfl, ?hy⟩) (by assumption) ?_
                    case hy => (intro w hSw; (try dsimp only at hSw); go_simp; try (with_reducible rfl))
                    (try simp only [List.getElem_toArray, List.getElem_cons_succ, List.getElem_cons_zero, Act.put, List.setIfInBounds_toArray, List.set_cons_zero, List.set_cons_succ])
                    refine wpAnyH_take (i := 6) (v := ?_) rfl (by kernel_rfl) (by kernel_rfl) (by kernel_rfl) (fun _ _ _ h => h) (Or.inl ⟨by rfl, ?hy⟩) (by assumption) ?_
                    case hy => (intro w hSw; (try dsimp only at hSw); go_simp; try (with_reducible rfl))
                    (try simp only [List.getElem_toArray, List.getElem_cons_succ, List.getElem_cons_zero, Act.put, List.setIfInBounds_toArray, List.set_cons_zero, List.set_cons_succ])
                    refine wpAnyH_take (i := 7) (v := ?_) rfl (by kernel_rfl) (by kernel_rfl) (by kernel_rfl) (fun _ _ _ h => h) (Or.inl ⟨by rfl, ?hy⟩) (by assumption) ?_
                    case hy => (intro w hSw; (try dsimp only at hSw); go_simp; try (with_reducible rfl))
                    (try simp only [List.getElem_toArray, List.getElem_cons_succ, List.getElem_cons_zero, Act.put, List.setIfInBounds_toArray, List.set_cons_zero, List.set_cons_succ])
                    refine wpAnyH_ready (rs := [8, 9]) (by kernel_rfl) (by simp) ?_
                    refine AllReadyH.cons rfl (fun KK hKK => ?_) (AllReadyH.cons rfl (fun KK hKK => ?_) (AllReadyH.nil))
                    · go_simp
                      (go_at_call 36; ((with_reducible refine (ct _ hBt (bel_trans hBb hBd)).mono ?_); rintro e w7 ⟨A7, N7, C7, rfl, hI7, hb7, ho7⟩; have B7 : Below W3.heap.size W3 w7 := bel_trans hBt hb7))
                      refine hKK.out _ _ (by exact ⟨(HQ.out _ B7).1.1, (HQ.out _ B7).1.2.1, (HQ.out _ B7).1.2.2.2.2.2.2, HY.out _ B7⟩) (fun hHeld => ?_)
                      clear hKK KK
                      (try simp only [List.getElem_toArray, List.getElem_cons_succ, List.getElem_cons_zero, Act.put, List.setIfInBounds_toArray, List.set_cons_zero, List.set_cons_succ])
                      refine wpAnyH_ready (rs := [9]) (by kernel_rfl) (by simp) ?_
                      refine AllReadyH.cons rfl (fun KK hKK => ?_) (AllReadyH.nil)
                      have GX := GBox.new w7 ⟨#[]⟩ none 0 0 0
                      go_simp
                      refine hKK.out _ _ (by exact ⟨(HQ.out _ (bel_alloc B7 _)).1.1, (HQ.out _ (bel_alloc B7 _)).1.2.1, (HQ.out _ (bel_alloc B7 _)).1.2.2.2.2.2.2, HY.out _ (bel_alloc B7 _)⟩) (fun hHeld => ?_)
                      clear hKK KK
                      (try simp only [List.getElem_toArray, List.getElem_cons_succ, List.getElem_cons_zero, Act.put, List.setIfInBounds_toArray, List.set_cons_zero, List.set_cons_succ])
                      have gx0 := GX.three.1; have gx1 := GX.three.2.1; have gx2 := GX.three.2.2; have gf0 := GX.free.1; have gf1 := GX.free.2.1; have gf2 := GX.free.2.2
                      refine wpAnyH_ready (rs := [10]) (by kernel_rfl) (by simp) ?_
                      refine AllReadyH.cons rfl (fun KK hKK => ?_) (AllReadyH.nil)
                      go_simp
                      refine hKK.out _ _ (by exact ⟨(HQ.out _ (bel_alloc B7 _)).1.1, (HQ.out _ (bel_alloc B7 _)).1.2.1, (HQ.out _ (bel_alloc B7 _)).1.2.2.2.2.2.2, HY.out _ (bel_alloc B7 _)⟩) (fun hHeld => ?_)
                      clear hKK KK
                      (try simp only [List.getElem_toArray, List.getElem_cons_succ, List.getElem_cons_zero, Act.put, List.setIfInBounds_toArray, List.set_cons_zero, List.set_cons_succ])
                      refine wpAnyH_done (by kernel_rfl) ?_ _
                      refine NoPanic.normal ?_
                      have GP : GBox (w7.alloc (.cells #[.string (CL x).so, .slice A7 N7 C7, .int .i64 (CL x).e] 40)) w7.heap.size (CL x).so A7 N7 C7 (CL x).e := GBox.new _ _ _ _ _ _
                      have BW : Below wr.heap.size wr (w7.alloc (.cells #[.string (CL x).so, .slice A7 N7 C7, .int .i64 (CL x).e] 40)) := bel_alloc (bel_trans hBd hb7) _
                      have IC : SlI (w7.alloc (.cells #[.string (CL x).so, .slice A7 N7 C7, .int .i64 (CL x).e] 40)) A7 N7 C7 (CL x).way := (SlI.below hI7 (bel_alloc (Below.refl _ _) _))
                      have hgx : W3.heap.size ≤ w7.heap.size := Nat.le_trans B7.size (Nat.le_refl _)
                      generalize hWc : (w7.alloc (.cells #[.string (CL x).so, .slice A7 N7 C7, .int .i64 (CL x).e] 40)) = Wc at *
                      generalize hgg : w7.heap.size = gx at *
                      clear hWc hgg GX hI7 ho7 gx0 gx1 gx2 gf0 gf1 gf2 hHeld hb7 B7
                      try clear B8
                      try clear b6
                      have BC : Below W3.heap.size W3 Wc := bel_trans hB BW
                      have BQ : Below Wb.heap.size Wb Wc := bel_trans hBb BW
                      have HIC := Lib.hid IC
                      have HBC := Lib.hid BC
                      have HBQ := Lib.hid BQ
                      obtain ⟨p0, p1, p2⟩ := GP.three
                      have HGP := Lib.hid GP
                      have Hgx := Lib.hid hgx
                      clear BW hBd hBd2 hBt hBt2 y0 y1 y2 y3 y4 s0 s1 t0 t1 t2 t3 t4 r0 r1 r2 q0 q1 q2 HG ct IC GP hgx HY
                      by_cases he : (CL x).e = 0
                      · have h1 : ((CL x).e != 0) = false := by simp [he]
                        have hpr2 : Hid (∀ i y, i < j + 1 → lc[i]? = some y → (CL y).e = 0) := by
                          intro i y hi hy
                          by_cases hij : i < j
                          · exact hprev.out i y hij hy
                          · obtain rfl : i = j := by omega
                            rw [Hhx.out] at hy
                            rw [← Option.some.inj hy]; exact he
                        clear hprev HIC HGP BC p1
                        go_wp2
                        go_roundw
                        case rel => exact ⟨_, j + 1, rfl, by omega, by go_num, HBQ.out, hpr2⟩
                        case measure => simp [intOf]; omega
                      · have h1 : ((CL x).e != 0) = true := by simp [he]
                        have hNw : N7 ≤ 1000000 := by rw [HIC.out.1]; exact HWayC.out j x Hhx.out
                        have ca := ahead_any ((k : Int) + (j : Int)) A7 N7 C7 (CL x).way Wc.drew (HIC.out.below (Below.refl _ _).drew) hNw
                        have hne2 : w.heap.size + 2 < gx := by have := Hgx.out; have := Hs3.out; omega
                        have BCd : Below Wc.heap.size Wc Wc.drew := (Below.refl _ _).drew
                        have HK := Lib.hid (show ∀ w', Below Wc.heap.size Wc w' → w'.cell? ⟨gx, 1, none⟩ = some (.slice A7 N7 C7) ∧ w'.cell? ⟨gx, 2, none⟩ = some (.int .i64 (CL x).e) from fun w' h => (GBox.b HGP.out h).three.2)
                        go_wp2
                        refine wp_region_noPanic ?_
                        refine wp_region_held_drew (S := fun w' => w'.cell? ⟨gx, 1, none⟩ = some (.slice A7 N7 C7) ∧ w'.cell? ⟨gx, 2, none⟩ = some (.int .i64 (CL x).e)) (by kernel_rfl) (by exact HK.out _ BCd) (fun hHeld => ?_)
                        refine wpAnyH_take (i := 0) (v := ?_) rfl (by kernel_rfl) (by kernel_rfl) (by kernel_rfl) (fun _ _ _ h => h) (Or.inl ⟨by rfl, ?hy⟩) (by assumption) ?_
                        case hy => (intro w hSw; (try dsimp only at hSw); go_simp; try (with_reducible rfl))
                        (try simp only [List.getElem_toArray, List.getElem_cons_succ, List.getElem_cons_zero, Act.put, List.setIfInBounds_toArray, List.set_cons_zero, List.set_cons_succ])
                        refine wpAnyH_take (i := 1) (v := ?_) rfl (by kernel_rfl) (by kernel_rfl) (by kernel_rfl) (fun _ _ _ h => h) (Or.inl ⟨by rfl, ?hy⟩) (by assumption) ?_
                        case hy => (intro w hSw; (try dsimp only at hSw); go_simp; try (with_reducible rfl))
                        (try simp only [List.getElem_toArray, List.getElem_cons_succ, List.getElem_cons_zero, Act.put, List.setIfInBounds_toArray, List.set_cons_zero, List.set_cons_succ])
                        refine wpAnyH_take (i := 2) (v := ?_) rfl (by kernel_rfl) (by kernel_rfl) (by kernel_rfl) (fun _ _ _ h => h) (Or.inl ⟨by rfl, ?hy⟩) (by assumption) ?_
                        case hy => (intro w hSw; (try dsimp only at hSw); go_simp; try (with_reducible rfl))
                        (try simp only [List.getElem_toArray, List.getElem_cons_succ, List.getElem_cons_zero, Act.put, List.setIfInBounds_toArray, List.set_cons_zero, List.set_cons_succ])
                        refine wpAnyH_take (i := 3) (v := ?_) rfl (by kernel_rfl) (by kernel_rfl) (by kernel_rfl) (fun _ _ _ h => h) (Or.inl ⟨by rfl, ?hy⟩) (by assumption) ?_
                        case hy => (intro w hSw; (try dsimp only at hSw); go_simp; try (with_reducible rfl))
                        (try simp only [List.getElem_toArray, List.getElem_cons_succ, List.getElem_cons_zero, Act.put, List.setIfInBounds_toArray, List.set_cons_zero, List.set_cons_succ])
                        refine wpAnyH_take (i := 4) (v := ?_) rfl (by kernel_rfl) (by kernel_rfl) (by kernel_rfl) (fun _ _ _ h => h) (Or.inl ⟨by rfl, ?hy⟩) (by assumption) ?_
                        case hy => (intro w hSw; (try dsimp only at hSw); go_simp; try (with_reducible rfl))
                        (try simp only [List.getElem_toArray, List.getElem_cons_succ, List.getElem_cons_zero, Act.put, List.setIfInBounds_toArray, List.set_cons_zero, List.set_cons_succ])
                        refine wpAnyH_take (i := 5) (v := ?_) rfl (by kernel_rfl) (by kernel_rfl) (by kernel_rfl) (fun _ _ _ h => h) (Or.inl ⟨by rfl, ?hy⟩) (by assumption) ?_
                        case hy => (intro w hSw; (try dsimp only at hSw); go_simp; try (with_reducible rfl))
                        (try simp only [List.getElem_toArray, List.getElem_cons_succ, List.getElem_cons_zero, Act.put, List.setIfInBounds_toArray, List.set_cons_zero, List.set_cons_succ])
                        refine wpAnyH_take (i := 7) (v := ?_) rfl (by kernel_rfl) (by kernel_rfl) (by kernel_rfl) (fun _ _ _ h => h) (Or.inl ⟨by rfl, ?hy⟩) (by assumption) ?_
                        case hy => (intro w hSw; (try dsimp only at hSw); go_simp; try (with_reducible rfl))
                        (try simp only [List.getElem_toArray, List.getElem_cons_succ, List.getElem_cons_zero, Act.put, List.setIfInBounds_toArray, List.set_cons_zero, List.set_cons_succ])
                        refine wpAnyH_take (i := 8) (v := ?_) rfl (by kernel_rfl) (by kernel_rfl) (by kernel_rfl) (fun _ _ _ h => h) (Or.inl ⟨by rfl, ?hy⟩) (by assumption) ?_
                        case hy => (intro w hSw; (try dsimp only at hSw); go_simp; try (with_reducible rfl))
                        (try simp only [List.getElem_toArray, List.getElem_cons_succ, List.getElem_cons_zero, Act.put, List.setIfInBounds_toArray, List.set_cons_zero, List.set_cons_succ])
                        refine wpAnyH_ready (rs := [6]) (by kernel_rfl) (by simp) ?_
                        refine AllReadyH.cons rfl (fun KK hKK => ?_) AllReadyH.nil
                        go_simp
                        (go_at_call 58; ((with_reducible refine ca.mono ?_); rintro e w8 ⟨A8, C8, rfl, hI8, hb8, ho8⟩; have b8 := bel_trans BCd hb8; have B8 := bel_trans HBC.out b8; have zz := HQ.out _ B8; obtain ⟨-, ⟨r0, r1, r2⟩, ⟨q0, q1, q2⟩, HG8⟩ := zz))
                        refine hKK.out _ _ (by exact HK.out _ b8) (fun hHeld => ?_)
                        clear hKK KK
                        (try simp only [List.getElem_toArray, List.getElem_cons_succ, List.getElem_cons_zero, Act.put, List.setIfInBounds_toArray, List.set_cons_zero, List.set_cons_succ])
                        refine wpAnyH_take (i := 9) (v := ?_) rfl (by kernel_rfl) (by kernel_rfl) (by kernel_rfl) (fun _ _ _ h => h) (Or.inl ⟨by rfl, ?hy⟩) (by assumption) ?_
                        case hy => (intro w hSw; (try dsimp only at hSw); go_simp; try (with_reducible rfl))
                        (try simp only [List.getElem_toArray, List.getElem_cons_succ, List.getElem_cons_zero, Act.put, List.setIfInBounds_toArray, List.set_cons_zero, List.set_cons_succ])
                        refine wpAnyH_ready (rs := [10]) (by kernel_rfl) (by simp) ?_
                        refine AllReadyH.cons rfl (fun KK hKK => ?_) (AllReadyH.nil)
                        go_simp
                        refine hKK.out _ _ (by exact ⟨far3c (HK.out _ b8).1 (Nat.ne_of_lt hne2), far3c (HK.out _ b8).2 (Nat.ne_of_lt hne2)⟩) (fun hHeld => ?_)
                        clear hKK KK
                        (try simp only [List.getElem_toArray, List.getElem_cons_succ, List.getElem_cons_zero, Act.put, List.setIfInBounds_toArray, List.set_cons_zero, List.set_cons_succ])
                        refine wpAnyH_done (by kernel_rfl) ?_ _
                        refine NoPanic.normal ?_
                        have R6 := HG8.put ⟨#[]⟩ A8 (N7 + 1) C8 (CL x).e
                        obtain ⟨x0, x1, x2⟩ := R6.three
                        have hfar : ∀ b o, A8 = some ⟨b, o, none⟩ → 0 < N7 + 1 → b ≠ w.heap.size + 2 := ho8 _ (by show w.heap.size + 2 < Wc.heap.size; have := HBC.out.size; have := Hs3.out; omega)
                        have HZ := Lib.hid (HPs.out j x A8 (N7 + 1) C8 _ Hhx.out he hprev.out (((hI8.far hfar (.string ⟨#[]⟩)).far hfar (.slice A8 (N7 + 1) C8)).far hfar (.int .i64 (CL x).e)) (Sgn.below_set3 (bel_trans HB3.out B8) (show w.heap.size ≤ w.heap.size + 2 by omega) _ _ _) (fun g hg => ho8 g (by show g < Wc.heap.size; have := HBC.out.size; have := Hs3.out; omega)))
                        go_wp2
                        try (simp [bodyPost, results, Try.results36, go_sem, x0, x1, x2])
                        exact HZ.out
                    · go_simp
                      refine hKK.out _ _ (by exact ⟨(HQ.out _ hBt2).1.1, (HQ.out _ hBt2).1.2.1, (HQ.out _ hBt2).1.2.2.2.2.2.2, HY.out _ hBt2⟩) (fun hHeld => ?_)
                      clear hKK KK
                      (try simp only [List.getElem_toArray, List.getElem_cons_succ, List.getElem_cons_zero, Act.put, List.setIfInBounds_toArray, List.set_cons_zero, List.set_cons_succ])
                      refine wpAnyH_ready (rs := [8]) (by kernel_rfl) (by simp) ?_
                      refine AllReadyH.cons rfl (fun KK hKK => ?_) (AllReadyH.nil)
                      go_simp
                      (go_at_call 36; ((with_reducible refine (ct _ hBt2 (bel_trans hBb hBd2)).mono ?_); rintro e w7 ⟨A7, N7, C7, rfl, hI7, hb7, ho7⟩; have B7 : Below W3.heap.size W3 w7 := bel_trans hBt2 hb7))
                      refine hKK.out _ _ (by exact ⟨(HQ.out _ B7).1.1, (HQ.out _ B7).1.2.1, (HQ.out _ B7).1.2.2.2.2.2.2, HY.out _ B7⟩) (fun hHeld => ?_)
                      clear hKK KK
                      (try simp only [List.getElem_toArray, List.getElem_cons_succ, List.getElem_cons_zero, Act.put, List.setIfInBounds_toArray, List.set_cons_zero, List.set_cons_succ])
                      have GX := GBox.b (GBox.b (GBox.new wr ⟨#[]⟩ none 0 0 0) (Below.refl _ _).drew) hb7
                      have gx0 := GX.three.1; have gx1 := GX.three.2.1; have gx2 := GX.three.2.2; have gf0 := GX.free.1; have gf1 := GX.free.2.1; have gf2 := GX.free.2.2
                      refine wpAnyH_ready (rs := [10]) (by kernel_rfl) (by simp) ?_
                      refine AllReadyH.cons rfl (fun KK hKK => ?_) (AllReadyH.nil)
                      go_simp
                      refine hKK.out _ _ (by exact ⟨(HQ.out _ (Sgn.below_set3 B7 hB.size _ _ _)).1.1, (HQ.out _ (Sgn.below_set3 B7 hB.size _ _ _)).1.2.1, (HQ.out _ (Sgn.below_set3 B7 hB.size _ _ _)).1.2.2.2.2.2.2, HY.out _ (Sgn.below_set3 B7 hB.size _ _ _)⟩) (fun hHeld => ?_)
                      clear hKK KK
                      (try simp only [List.getElem_toArray, List.getElem_cons_succ, List.getElem_cons_zero, Act.put, List.setIfInBounds_toArray, List.set_cons_zero, List.set_cons_succ])
                      refine wpAnyH_done (by kernel_rfl) ?_ _
                      refine NoPanic.normal ?_
                      have GP : GBox (((w7.setCell ⟨wr.heap.size, 0, none⟩ (.string (CL x).so)).setCell ⟨wr.heap.size, 1, none⟩ (.slice A7 N7 C7)).setCell ⟨wr.heap.size, 2, none⟩ (.int .i64 (CL x).e)) wr.heap.size (CL x).so A7 N7 C7 (CL x).e := GX.put _ _ _ _ _
                      have BW : Below wr.heap.size wr (((w7.setCell ⟨wr.heap.size, 0, none⟩ (.string (CL x).so)).setCell ⟨wr.heap.size, 1, none⟩ (.slice A7 N7 C7)).setCell ⟨wr.heap.size, 2, none⟩ (.int .i64 (CL x).e)) := Sgn.below_set3 (bel_trans hBd2 hb7) (Nat.le_refl _) _ _ _
                      have IC : SlI (((w7.setCell ⟨wr.heap.size, 0, none⟩ (.string (CL x).so)).setCell ⟨wr.heap.size, 1, none⟩ (.slice A7 N7 C7)).setCell ⟨wr.heap.size, 2, none⟩ (.int .i64 (CL x).e)) A7 N7 C7 (CL x).way := ((SlI.far hI7 (ho7 _ (by simp)) _).far (ho7 _ (by simp)) _).far (ho7 _ (by simp)) _
                      have hgx : W3.heap.size ≤ wr.heap.size := hB.size
                      generalize hWc : (((w7.setCell ⟨wr.heap.size, 0, none⟩ (.string (CL x).so)).setCell ⟨wr.heap.size, 1, none⟩ (.slice A7 N7 C7)).setCell ⟨wr.heap.size, 2, none⟩ (.int .i64 (CL x).e)) = Wc at *
                      have hgg := True.intro
                      clear hWc hgg GX hI7 ho7 gx0 gx1 gx2 gf0 gf1 gf2 hHeld hb7 B7
                      try clear B8
                      try clear b6
                      have BC : Below W3.heap.size W3 Wc := bel_trans hB BW
                      have BQ : Below Wb.heap.size Wb Wc := bel_trans hBb BW
                      have HIC := Lib.hid IC
                      have HBC := Lib.hid BC
                      have HBQ := Lib.hid BQ
                      obtain ⟨p0, p1, p2⟩ := GP.three
                      have HGP := Lib.hid GP
                      have Hgx := Lib.hid hgx
                      clear BW hBd hBd2 hBt hBt2 y0 y1 y2 y3 y4 s0 s1 t0 t1 t2 t3 t4 r0 r1 r2 q0 q1 q2 HG ct IC GP hgx HY
                      by_cases he : (CL x).e = 0
                      · have h1 : ((CL x).e != 0) = false := by simp [he]
                        have hpr2 : Hid (∀ i y, i < j + 1 → lc[i]? = some y → (CL y).e = 0) := by
                          intro i y hi hy
                          by_cases hij : i < j
                          · exact hprev.out i y hij hy
                          · obtain rfl : i = j := by omega
                            rw [Hhx.out] at hy
                            rw [← Option.some.inj hy]; exact he
                        clear hprev HIC HGP BC p1
                        go_wp2
                        go_roundw
                        case rel => exact ⟨_, j + 1, rfl, by omega, by go_num, HBQ.out, hpr2⟩
                        case measure => simp [intOf]; omega
                      · have h1 : ((CL x).e != 0) = true := by simp [he]
                        have hNw : N7 ≤ 1000000 := by rw [HIC.out.1]; exact HWayC.out j x Hhx.out
                        have ca := ahead_any ((k : Int) + (j : Int)) A7 N7 C7 (CL x).way Wc.drew (HIC.out.below (Below.refl _ _).drew) hNw
                        have hne2 : w.heap.size + 2 < wr.heap.size := by have := Hgx.out; have := Hs3.out; omega
                        have BCd : Below Wc.heap.size Wc Wc.drew := (Below.refl _ _).drew
                        have HK := Lib.hid (show ∀ w', Below Wc.heap.size Wc w' → w'.cell? ⟨wr.heap.size, 1, none⟩ = some (.slice A7 N7 C7) ∧ w'.cell? ⟨wr.heap.size, 2, none⟩ = some (.int .i64 (CL x).e) from fun w' h => (GBox.b HGP.out h).three.2)
                        go_wp2
                        refine wp_region_noPanic ?_
                        refine wp_region_held_drew (S := fun w' => w'.cell? ⟨wr.heap.size, 1, none⟩ = some (.slice A7 N7 C7) ∧ w'.cell? ⟨wr.heap.size, 2, none⟩ = some (.int .i64 (CL x).e)) (by kernel_rfl) (by exact HK.out _ BCd) (fun hHeld => ?_)
                        refine wpAnyH_take (i := 0) (v := ?_) rfl (by kernel_rfl) (by kernel_rfl) (by kernel_rfl) (fun _ _ _ h => h) (Or.inl ⟨by rfl, ?hy⟩) (by assumption) ?_
                        case hy => (intro w hSw; (try dsimp only at hSw); go_simp; try (with_reducible rfl))
                        (try simp only [List.getElem_toArray, List.getElem_cons_succ, List.getElem_cons_zero, Act.put, List.setIfInBounds_toArray, List.set_cons_zero, List.set_cons_succ])
                        refine wpAnyH_take (i := 1) (v := ?_) rfl (by kernel_rfl) (by kernel_rfl) (by kernel_rfl) (fun _ _ _ h => h) (Or.inl ⟨by rfl, ?hy⟩) (by assumption) ?_
                        case hy => (intro w hSw; (try dsimp only at hSw); go_simp; try (with_reducible rfl))
                        (try simp only [List.getElem_toArray, List.getElem_cons_succ, List.getElem_cons_zero, Act.put, List.setIfInBounds_toArray, List.set_cons_zero, List.set_cons_succ])
                        refine wpAnyH_take (i := 2) (v := ?_) rfl (by kernel_rfl) (by kernel_rfl) (by kernel_rfl) (fun _ _ _ h => h) (Or.inl ⟨by rfl, ?hy⟩) (by assumption) ?_
                        case hy => (intro w hSw; (try dsimp only at hSw); go_simp; try (with_reducible rfl))
                        (try simp only [List.getElem_toArray, List.getElem_cons_succ, List.getElem_cons_zero, Act.put, List.setIfInBounds_toArray, List.set_cons_zero, List.set_cons_succ])
                        refine wpAnyH_take (i := 3) (v := ?_) rfl (by kernel_rfl) (by kernel_rfl) (by kernel_rfl) (fun _ _ _ h => h) (Or.inl ⟨by rfl, ?hy⟩) (by assumption) ?_
                        case hy => (intro w hSw; (try dsimp only at hSw); go_simp; try (with_reducible rfl))
                        (try simp only [List.getElem_toArray, List.getElem_cons_succ, List.getElem_cons_zero, Act.put, List.setIfInBounds_toArray, List.set_cons_zero, List.set_cons_succ])
                        refine wpAnyH_take (i := 4) (v := ?_) rfl (by kernel_rfl) (by kernel_rfl) (by kernel_rfl) (fun _ _ _ h => h) (Or.inl ⟨by rfl, ?hy⟩) (by assumption) ?_
                        case hy => (intro w hSw; (try dsimp only at hSw); go_simp; try (with_reducible rfl))
                        (try simp only [List.getElem_toArray, List.getElem_cons_succ, List.getElem_cons_zero, Act.put, List.setIfInBounds_toArray, List.set_cons_zero, List.set_cons_succ])
                        refine wpAnyH_take (i := 5) (v := ?_) rfl (by kernel_rfl) (by kernel_rfl) (by kernel_rfl) (fun _ _ _ h => h) (Or.inl ⟨by rfl, ?hy⟩) (by assumption) ?_
                        case hy => (intro w hSw; (try dsimp only at hSw); go_simp; try (with_reducible rfl))
                        (try simp only [List.getElem_toArray, List.getElem_cons_succ, List.getElem_cons_zero, Act.put, List.setIfInBounds_toArray, List.set_cons_zero, List.set_cons_succ])
                        refine wpAnyH_take (i := 7) (v := ?_) rfl (by kernel_rfl) (by kernel_rfl) (by kernel_rfl) (fun _ _ _ h => h) (Or.inl ⟨by rfl, ?hy⟩) (by assumption) ?_
                        case hy => (intro w hSw; (try dsimp only at hSw); go_simp; try (with_reducible rfl))
                        (try simp only [List.getElem_toArray, List.getElem_cons_succ, List.getElem_cons_zero, Act.put, List.setIfInBounds_toArray, List.set_cons_zero, List.set_cons_succ])
                        refine wpAnyH_take (i := 8) (v := ?_) rfl (by kernel_rfl) (by kernel_rfl) (by kernel_rfl) (fun _ _ _ h => h) (Or.inl ⟨by rfl, ?hy⟩) (by assumption) ?_
                        case hy => (intro w hSw; (try dsimp only at hSw); go_simp; try (with_reducible rfl))
                        (try simp only [List.getElem_toArray, List.getElem_cons_succ, List.getElem_cons_zero, Act.put, List.setIfInBounds_toArray, List.set_cons_zero, List.set_cons_succ])
                        refine wpAnyH_ready (rs := [6]) (by kernel_rfl) (by simp) ?_
                        refine AllReadyH.cons rfl (fun KK hKK => ?_) AllReadyH.nil
                        go_simp
                        (go_at_call 58; ((with_reducible refine ca.mono ?_); rintro e w8 ⟨A8, C8, rfl, hI8, hb8, ho8⟩; have b8 := bel_trans BCd hb8; have B8 := bel_trans HBC.out b8; have zz := HQ.out _ B8; obtain ⟨-, ⟨r0, r1, r2⟩, ⟨q0, q1, q2⟩, HG8⟩ := zz))
                        refine hKK.out _ _ (by exact HK.out _ b8) (fun hHeld => ?_)
                        clear hKK KK
                        (try simp only [List.getElem_toArray, List.getElem_cons_succ, List.getElem_cons_zero, Act.put, List.setIfInBounds_toArray, List.set_cons_zero, List.set_cons_succ])
                        refine wpAnyH_take (i := 9) (v := ?_) rfl (by kernel_rfl) (by kernel_rfl) (by kernel_rfl) (fun _ _ _ h => h) (Or.inl ⟨by rfl, ?hy⟩) (by assumption) ?_
                        case hy => (intro w hSw; (try dsimp only at hSw); go_simp; try (with_reducible rfl))
                        (try simp only [List.getElem_toArray, List.getElem_cons_succ, List.getElem_cons_zero, Act.put, List.setIfInBounds_toArray, List.set_cons_zero, List.set_cons_succ])
                        refine wpAnyH_ready (rs := [10]) (by kernel_rfl) (by simp) ?_
                        refine AllReadyH.cons rfl (fun KK hKK => ?_) (AllReadyH.nil)
                        go_simp
                        refine hKK.out _ _ (by exact ⟨far3c (HK.out _ b8).1 (Nat.ne_of_lt hne2), far3c (HK.out _ b8).2 (Nat.ne_of_lt hne2)⟩) (fun hHeld => ?_)
                        clear hKK KK
                        (try simp only [List.getElem_toArray, List.getElem_cons_succ, List.getElem_cons_zero, Act.put, List.setIfInBounds_toArray, List.set_cons_zero, List.set_cons_succ])
                        refine wpAnyH_done (by kernel_rfl) ?_ _
                        refine NoPanic.normal ?_
                        have R6 := HG8.put ⟨#[]⟩ A8 (N7 + 1) C8 (CL x).e
                        obtain ⟨x0, x1, x2⟩ := R6.three
                        have hfar : ∀ b o, A8 = some ⟨b, o, none⟩ → 0 < N7 + 1 → b ≠ w.heap.size + 2 := ho8 _ (by show w.heap.size + 2 < Wc.heap.size; have := HBC.out.size; have := Hs3.out; omega)
                        have HZ := Lib.hid (HPs.out j x A8 (N7 + 1) C8 _ Hhx.out he hprev.out (((hI8.far hfar (.string ⟨#[]⟩)).far hfar (.slice A8 (N7 + 1) C8)).far hfar (.int .i64 (CL x).e)) (Sgn.below_set3 (bel_trans HB3.out B8) (show w.heap.size ≤ w.heap.size + 2 by omega) _ _ _) (fun g hg => ho8 g (by show g < Wc.heap.size; have := HBC.out.size; have := Hs3.out; omega)))
                        go_wp2
                        try (simp [bodyPost, results, Try.results36, go_sem, x0, x1, x2])
                        exact HZ.out
                  · obtain rfl : j = sn := by omega
                    have hj0 : ¬ (j : Int) < (j : Int) := by omega
                    have hoW := HPa.out hprev.out
                    clear HPa HPs HCall hprev HWayC
                    have HBr2 := Lib.hid (bel_trans HB3.out hB)
                    have HGw := Lib.hid HG
                    have HoW := Lib.hid hoW
                    clear HBw HCs HS3 HT3 HR3 HFi hoW
                    go_wp2
                    have R6 := HGw.out.put ⟨#[]⟩ none 0 0 0
                    obtain ⟨x0, x1, x2⟩ := R6.three
                    have HZ := Lib.hid (HPz.out (Wr.ok ⟨#[]⟩) ⟨#[]⟩ 0 none 0 _ (HoW.out.trans (by unfold wantC; rw [if_neg (by decide), if_neg (by decide), if_neg (by decide)])) rfl (fun _ => rfl) (Sgn.below_set3 HBr2.out (show w.heap.size ≤ w.heap.size + 2 by omega) (.string ⟨#[]⟩) (.slice none 0 0) (.int .i64 0)))
                    first | exact HZ.out | (simp [bodyPost, results, Try.results36, go_sem, x0, x1, x2]; exact HZ.out)
      · have n11 : op ≠ 11 := fun h => hbin (.inl h)
        have n12 : op ≠ 12 := fun h => hbin (.inr h)
        have q11 : (op == 11) = false := beq_no' n11
        have q12 : (op == 12) = false := beq_no' n12
        have hoB := hoW
        rw [q11, q12] at hoB
        simp only [Bool.or_self, Bool.false_and, Bool.false_eq_true, if_false] at hoB
        clear hoW hbin n11 n12
        have hIw : IsS Wb E.p E.q E.B := (HE.out.b (bel_trans HB3.out hB)).2.2.2.2.1
        have hQw : E.q ≤ 1000000 := HE.out.2.2.2.2.2
        have hQe : E.q ≤ E.e := Hqe.out
        have hPe0 := Hpe.out
        have hBw := hB
        go_wp2
        have HIw := Lib.hid hIw
        have HBw := Lib.hid hBw
        have HCall := Lib.hid (show ∀ (i : Nat) (x : Cl), lc[i]? = some x → ∀ (xk : SS) (xa : Option Addr) (xn xc : Nat) (w' : World), Below Wb.heap.size Wb w' → ArWC w' x xk xa xn xc → Calls Try.prog 36 #[.agg #[.slice E.a E.n E.c, .slice E.b E.m E.d], .slice E.vp E.vn E.vc, .slice E.p E.q E.e, .agg #[.int .i64 (opC x), .string (nmC x), .string (soC x), .slice xk.a xk.n xk.c, .slice xa xn xc]] w' (GtP (wlC S E.K E.V E.B x) w') from fun i x hx xk xa xn xc w' h1 h3 => by
          have hm := List.mem_of_getElem? hx
          have hw := wts_mem hm
          have hE9 := HE.out.b (bel_trans HB3.out (bel_trans HBw.out h1))
          exact HOk.out x hm ⟨E.a, E.n, E.c, E.b, E.m, E.d, E.g, E.vp, E.vn, E.vc, E.p, E.q, E.e, E.G, E.V, E.B⟩ S xk xa xn xc w' ⟨hE9.1, hE9.2.1, hE9.2.2.1, hE9.2.2.2.1, HIw.out.below h1, hQw⟩ (HSs.out.below (bel_trans HB3.out (bel_trans HBw.out h1))) HEn.out (Hcp.out x hm) (by have := Hs.out; have := Hsz.out; omega) (by show E.q + wt x ≤ 1000000; have := Hq.out; have := Hsz.out; omega) hQe hPe0 h3)
        have HPs := Lib.hid (show ∀ (i : Nat) (x : Cl) A N C w', lc[i]? = some x → (wlC S E.K E.V E.B x).e ≠ 0 → (∀ j y, j < i → lc[j]? = some y → (wlC S E.K E.V E.B y).e = 0) → SlI w' A N C (((k : Int) + (i : Int)) :: (wlC S E.K E.V E.B x).way) → Below w.heap.size w w' → (∀ g, g < w.heap.size → ∀ b o, A = some ⟨b, o, none⟩ → 0 < N → b ≠ g) → PP (.returned (.agg #[.string ⟨#[]⟩, .slice A N C, .int .i64 (wlC S E.K E.V E.B x).e])) w' from fun i x A N C w' h1 h2 h3 h4 h5 h6 => by
          have e1 := wlCs_bad (S := S) (K := E.K) (V := E.V) (B := E.B) k i h1 h2 h3
          refine HPi.out (.bad (wlC S E.K E.V E.B x).e (((k : Int) + (i : Int)) :: (wlC S E.K E.V E.B x).way)) _ _ A N C w' (hoB.trans ?_) rfl h4 h5 h6
          rw [e1, if_pos h2]
          simp)
        have HPa := Lib.hid (show (∀ j y, j < sn → lc[j]? = some y → (wlC S E.K E.V E.B y).e = 0) → WC = wantC E.K op nm D from fun h => hoB.trans (by
          rw [wlCs_all (S := S) (K := E.K) (V := E.V) (B := E.B) k (fun x hx => by
            obtain ⟨j, hj, rfl⟩ := List.mem_iff_getElem.1 hx
            exact h j _ (by have := Hsn.out; omega) (List.getElem?_eq_getElem hj)), if_neg (by simp)]))
        have HWayC := Lib.hid (show ∀ (i : Nat) (x : Cl), lc[i]? = some x → (wlC S E.K E.V E.B x).way.length ≤ 1000000 from fun i x h => by
          have h1 := wayC_len S E.K E.V E.B x
          have h2 := wts_mem (List.mem_of_getElem? h)
          have := Hs.out; have := Hsz.out
          omega)
        have hsnb : sn ≤ 1000000 := by have := Hs.out; have := Hsz.out; have := Hsn.out; have := len_wts lc; omega
        clear hoB hQw hQe hPe0 hIw hBw
        generalize hCL : wlC S E.K E.V E.B = CL at *
        clear hCL
        have Hk8 := Lib.hid htn8
        go_loopw [12] (fun i wr0 => ∃ (wr : World) (j : Nat), wr = wr0 ∧ j ≤ sn ∧ i = .int .i64 j ∧ Below Wb.heap.size Wb wr ∧ Hid (∀ i y, i < j → lc[i]? = some y → (CL y).e = 0)) (fun i _ => sn - (intOf i).toNat)
        case atStart => exact ⟨_, 0, rfl, by omega, rfl, Below.refl _ _, Lib.hid (fun i x h => absurd h (by omega))⟩
        case round =>
          obtain ⟨wr, j, rfl, hj, rfl, hBb, hprev⟩ := hrel
          have hB := bel_trans HBw.out hBb
          have zz := HQ.out wr hB
          obtain ⟨⟨s0, s1, t0, t1, t2, t3, t4⟩, ⟨r0, r1, r2⟩, ⟨q0, q1, q2⟩, HG⟩ := zz
          by_cases hlt : j < sn
          · obtain ⟨bb, o, x, xk, xa, xn, xc, rfl, hb, y0', y1', y2', y3', y4', hx, hA⟩ := HCs.out.at hlt
            have HY := Lib.hid (show ∀ w', Below W3.heap.size W3 w' → w'.cell? ⟨bb, o + j * 5, none⟩ = some (.int .i64 (opC x)) ∧ w'.cell? ⟨bb, o + j * 5 + 1, none⟩ = some (.string (nmC x)) ∧ w'.cell? ⟨bb, o + j * 5 + 1 + 1, none⟩ = some (.string (soC x)) ∧ w'.cell? ⟨bb, o + j * 5 + 1 + 1 + 1, none⟩ = some (.slice xk.a xk.n xk.c) ∧ w'.cell? ⟨bb, o + j * 5 + 1 + 1 + 1 + 1, none⟩ = some (.slice xa xn xc) from fun w' h =>
              ⟨(h.cell (p := ⟨bb, _, none⟩) hb).trans y0', (h.cell (p := ⟨bb, _, none⟩) hb).trans y1', (h.cell (p := ⟨bb, _, none⟩) hb).trans y2', (h.cell (p := ⟨bb, _, none⟩) hb).trans y3', (h.cell (p := ⟨bb, _, none⟩) hb).trans y4'⟩)
            have hBd : Below wr.heap.size wr wr.drew := (Below.refl _ _).drew
            have hBt := bel_trans hB hBd
            have hBd2 : Below wr.heap.size wr (wr.alloc (.cells #[.string ⟨#[]⟩, .slice none 0 0, .int .i64 0] 40)).drew := (bel_alloc (Below.refl _ _) _).drew
            have hBt2 := bel_trans hB hBd2
            have HBw' := HBw.out
            have ct := fun (w' : World) (h : Below W3.heap.size W3 w') (h9 : Below Wb.heap.size Wb w') => HCall.out j x hx xk xa xn xc w' h9 (ArWC.b (show ArWC W3 x xk xa xn xc from hA) h)
            unfold GtP at ct
            have hk0 : 0 ≤ (j : Int) := by omega
            have hk1 : (j : Int) < (sn : Int) := by omega
            have hkj : IntKind.i64.wrap ((k : Int) + (j : Int)) = (k : Int) + (j : Int) := by have := Hk8.out; have := Hs.out; have := Hsz.out; have := Hsn.out; have h9 := len_wts lc; unfold IntKind.wrap; simp [IntKind.bits]; omega
            have Hhx := Lib.hid hx
            have zz := HY.out wr hB
            obtain ⟨y0, y1, y2, y3, y4⟩ := zz
            clear hx hA y0' y1' y2' y3' y4' HCall HKn HFi HPz HPa HOk HE HSs HCs
            go_wp2
            refine wp_region_noPanic ?_
            refine wp_region_held_drew (S := fun w' => w'.cell? ⟨w.heap.size, 0, none⟩ = some (.slice E.a E.n E.c) ∧ w'.cell? ⟨w.heap.size, 1, none⟩ = some (.slice E.b E.m E.d) ∧ w'.cell? ⟨w.heap.size + 1, 4, none⟩ = some (.slice (some ⟨bb, o, none⟩) sn sc) ∧ w'.cell? ⟨bb, o + j * 5, none⟩ = some (.int .i64 (opC x)) ∧ w'.cell? ⟨bb, o + j * 5 + 1, none⟩ = some (.string (nmC x)) ∧ w'.cell? ⟨bb, o + j * 5 + 1 + 1, none⟩ = some (.string (soC x)) ∧ w'.cell? ⟨bb, o + j * 5 + 1 + 1 + 1, none⟩ = some (.slice xk.a xk.n xk.c) ∧ w'.cell? ⟨bb, o + j * 5 + 1 + 1 + 1 + 1, none⟩ = some (.slice xa xn xc)) (by kernel_rfl) (by exact ⟨(HQ.out _ hBt).1.1, (HQ.out _ hBt).1.2.1, (HQ.out _ hBt).1.2.2.2.2.2.2, HY.out _ hBt⟩) (fun hHeld => ?_)
            refine wpAnyH_take (i := 0) (v := ?_) rfl (by kernel_rfl) (by kernel_rfl) (by kernel_rfl) (fun _ _ _ h => h) (Or.inl ⟨by rfl, ?hy⟩) (by assumption) ?_
            case hy => (intro w hSw; (try dsimp only at hSw); go_simp; try (with_reducible rfl))
            (try simp only [List.getElem_toArray, List.getElem_cons_succ, List.getElem_cons_zero, Act.put, List.setIfInBounds_toArray, List.set_cons_zero, List.set_cons_succ])
            refine wpAnyH_take (i := 1) (v := ?_) rfl (by kernel_rfl) (by kernel_rfl) (by kernel_rfl) (fun _ _ _ h => h) (Or.inl ⟨by rfl, ?hy⟩) (by assumption) ?_
            case hy => (intro w hSw; (try dsimp only at hSw); go_simp; try (with_reducible rfl))
            (try simp only [List.getElem_toArray, List.getElem_cons_succ, List.getElem_cons_zero, Act.put, List.setIfInBounds_toArray, List.set_cons_zero, List.set_cons_succ])
            refine wpAnyH_take (i := 2) (v := ?_) rfl (by kernel_rfl) (by kernel_rfl) (by kernel_rfl) (fun _ _ _ h => h) (Or.inl ⟨by rfl, ?hy⟩) (by assumption) ?_
            case hy => (intro w hSw; (try dsimp only at hSw); go_simp; try (with_reducible rfl))
            (try simp only [List.getElem_toArray, List.getElem_cons_succ, List.getElem_cons_zero, Act.put, List.setIfInBounds_toArray, List.set_cons_zero, List.set_cons_succ])
            refine wpAnyH_take (i := 3) (v := ?_) rfl (by kernel_rfl) (by kernel_rfl) (by kernel_rfl) (fun _ _ _ h => h) (Or.inl ⟨by rfl, ?hy⟩) (by assumption) ?_
            case hy => (intro w hSw; (try dsimp only at hSw); go_simp; try (with_reducible rfl))
            (try simp only [List.getElem_toArray, List.getElem_cons_succ, List.getElem_cons_zero, Act.put, List.setIfInBounds_toArray, List.set_cons_zero, List.set_cons_succ])
            refine wpAnyH_take (i := 4) (v := ?_) rfl (by kernel_rfl) (by kernel_rfl) (by kernel_rfl) (fun _ _ _ h => h) (Or.inl ⟨by rfl, ?hy⟩) (by assumption) ?_
            case hy => (intro w hSw; (try dsimp only at hSw); go_simp; try (with_reducible rfl))
            (try simp only [List.getElem_toArray, List.getElem_cons_succ, List.getElem_cons_zero, Act.put, List.setIfInBounds_toArray, List.set_cons_zero, List.set_cons_succ])
            refine wpAnyH_take (i := 5) (v := ?_) rfl (by kernel_rfl) (by kernel_rfl) (by kernel_rfl) (fun _ _ _ h => h) (Or.inl ⟨by rfl, ?hy⟩) (by assumption) ?_
            case hy => (intro w hSw; (try dsimp only at hSw); go_simp; try (with_reducible rfl))
            (try simp only [List.getElem_toArray, List.getElem_cons_succ, List.getElem_cons_zero, Act.put, List.setIfInBounds_toArray, List.set_cons_zero, List.set_cons_succ])
            refine wpAnyH_take (i := 6) (v := ?_) rfl (by kernel_rfl) (by kernel_rfl) (by kernel_rfl) (fun _ _ _ h => h) (Or.inl ⟨by rfl, ?hy⟩) (by assumption) ?_
            case hy => (intro w hSw; (try dsimp only at hSw); go_simp; try (with_reducible rfl))
            (try simp only [List.getElem_toArray, List.getElem_cons_succ, List.getElem_cons_zero, Act.put, List.setIfInBounds_toArray, List.set_cons_zero, List.set_cons_succ])
            refine wpAnyH_take (i := 7) (v := ?_) rfl (by kernel_rfl) (by kernel_rfl) (by kernel_rfl) (fun _ _ _ h => h) (Or.inl ⟨by rfl, ?hy⟩) (by assumption) ?_
            case hy => (intro w hSw; (try dsimp only at hSw); go_simp; try (with_reducible rfl))
            (try simp only [List.getElem_toArray, List.getElem_cons_succ, List.getElem_cons_zero, Act.put, List.setIfInBounds_toArray, List.set_cons_zero, List.set_cons_succ])
            refine wpAnyH_ready (rs := [8, 9]) (by kernel_rfl) (by simp) ?_
            refine AllReadyH.cons rfl (fun KK hKK => ?_) (AllReadyH.cons rfl (fun KK hKK => ?_) (AllReadyH.nil))
            · go_simp
              (go_at_call 36; ((with_reducible refine (ct _ hBt (bel_trans hBb hBd)).mono ?_); rintro e w7 ⟨A7, N7, C7, rfl, hI7, hb7, ho7⟩; have B7 : Below W3.heap.size W3 w7 := bel_trans hBt hb7))
              refine hKK.out _ _ (by exact ⟨(HQ.out _ B7).1.1, (HQ.out _ B7).1.2.1, (HQ.out _ B7).1.2.2.2.2.2.2, HY.out _ B7⟩) (fun hHeld => ?_)
              clear hKK KK
              (try simp only [List.getElem_toArray, List.getElem_cons_succ, List.getElem_cons_zero, Act.put, List.setIfInBounds_toArray, List.set_cons_zero, List.set_cons_succ])
              refine wpAnyH_ready (rs := [9]) (by kernel_rfl) (by simp) ?_
              refine AllReadyH.cons rfl (fun KK hKK => ?_) (AllReadyH.nil)
              have GX := GBox.new w7 ⟨#[]⟩ none 0 0 0
              go_simp
              refine hKK.out _ _ (by exact ⟨(HQ.out _ (bel_alloc B7 _)).1.1, (HQ.out _ (bel_alloc B7 _)).1.2.1, (HQ.out _ (bel_alloc B7 _)).1.2.2.2.2.2.2, HY.out _ (bel_alloc B7 _)⟩) (fun hHeld => ?_)
              clear hKK KK
              (try simp only [List.getElem_toArray, List.getElem_cons_succ, List.getElem_cons_zero, Act.put, List.setIfInBounds_toArray, List.set_cons_zero, List.set_cons_succ])
              have gx0 := GX.three.1; have gx1 := GX.three.2.1; have gx2 := GX.three.2.2; have gf0 := GX.free.1; have gf1 := GX.free.2.1; have gf2 := GX.free.2.2
              refine wpAnyH_ready (rs := [10]) (by kernel_rfl) (by simp) ?_
              refine AllReadyH.cons rfl (fun KK hKK => ?_) (AllReadyH.nil)
              go_simp
              refine hKK.out _ _ (by exact ⟨(HQ.out _ (bel_alloc B7 _)).1.1, (HQ.out _ (bel_alloc B7 _)).1.2.1, (HQ.out _ (bel_alloc B7 _)).1.2.2.2.2.2.2, HY.out _ (bel_alloc B7 _)⟩) (fun hHeld => ?_)
              clear hKK KK
              (try simp only [List.getElem_toArray, List.getElem_cons_succ, List.getElem_cons_zero, Act.put, List.setIfInBounds_toArray, List.set_cons_zero, List.set_cons_succ])
              refine wpAnyH_done (by kernel_rfl) ?_ _
              refine NoPanic.normal ?_
              have GP : GBox (w7.alloc (.cells #[.string (CL x).so, .slice A7 N7 C7, .int .i64 (CL x).e] 40)) w7.heap.size (CL x).so A7 N7 C7 (CL x).e := GBox.new _ _ _ _ _ _
              have BW : Below wr.heap.size wr (w7.alloc (.cells #[.string (CL x).so, .slice A7 N7 C7, .int .i64 (CL x).e] 40)) := bel_alloc (bel_trans hBd hb7) _
              have IC : SlI (w7.alloc (.cells #[.string (CL x).so, .slice A7 N7 C7, .int .i64 (CL x).e] 40)) A7 N7 C7 (CL x).way := (SlI.below hI7 (bel_alloc (Below.refl _ _) _))
              have hgx : W3.heap.size ≤ w7.heap.size := Nat.le_trans B7.size (Nat.le_refl _)
              generalize hWc : (w7.alloc (.cells #[.string (CL x).so, .slice A7 N7 C7, .int .i64 (CL x).e] 40)) = Wc at *
              generalize hgg : w7.heap.size = gx at *
              clear hWc hgg GX hI7 ho7 gx0 gx1 gx2 gf0 gf1 gf2 hHeld hb7 B7
              try clear B8
              try clear b6
              have BC : Below W3.heap.size W3 Wc := bel_trans hB BW
              have BQ : Below Wb.heap.size Wb Wc := bel_trans hBb BW
              have HIC := Lib.hid IC
              have HBC := Lib.hid BC
              have HBQ := Lib.hid BQ
              obtain ⟨p0, p1, p2⟩ := GP.three
              have HGP := Lib.hid GP
              have Hgx := Lib.hid hgx
              clear BW hBd hBd2 hBt hBt2 y0 y1 y2 y3 y4 s0 s1 t0 t1 t2 t3 t4 r0 r1 r2 q0 q1 q2 HG ct IC GP hgx HY
              by_cases he : (CL x).e = 0
              · have h1 : ((CL x).e != 0) = false := by simp [he]
                have hpr2 : Hid (∀ i y, i < j + 1 → lc[i]? = some y → (CL y).e = 0) := by
                  intro i y hi hy
                  by_cases hij : i < j
                  · exact hprev.out i y hij hy
                  · obtain rfl : i = j := by omega
                    rw [Hhx.out] at hy
                    rw [← Option.some.inj hy]; exact he
                clear hprev HIC HGP BC p1
                go_wp2
                go_roundw
                case rel => exact ⟨_, j + 1, rfl, by omega, by go_num, HBQ.out, hpr2⟩
                case measure => simp [intOf]; omega
              · have h1 : ((CL x).e != 0) = true := by simp [he]
                have hNw : N7 ≤ 1000000 := by rw [HIC.out.1]; exact HWayC.out j x Hhx.out
                have ca := ahead_any ((k : Int) + (j : Int)) A7 N7 C7 (CL x).way Wc.drew (HIC.out.below (Below.refl _ _).drew) hNw
                have hne2 : w.heap.size + 2 < gx := by have := Hgx.out; have := Hs3.out; omega
                have BCd : Below Wc.heap.size Wc Wc.drew := (Below.refl _ _).drew
                have HK := Lib.hid (show ∀ w', Below Wc.heap.size Wc w' → w'.cell? ⟨gx, 1, none⟩ = some (.slice A7 N7 C7) ∧ w'.cell? ⟨gx, 2, none⟩ = some (.int .i64 (CL x).e) from fun w' h => (GBox.b HGP.out h).three.2)
                go_wp2
                refine wp_region_noPanic ?_
                refine wp_region_held_drew (S := fun w' => w'.cell? ⟨gx, 1, none⟩ = some (.slice A7 N7 C7) ∧ w'.cell? ⟨gx, 2, none⟩ = some (.int .i64 (CL x).e)) (by kernel_rfl) (by exact HK.out _ BCd) (fun hHeld => ?_)
                refine wpAnyH_take (i := 0) (v := ?_) rfl (by kernel_rfl) (by kernel_rfl) (by kernel_rfl) (fun _ _ _ h => h) (Or.inl ⟨by rfl, ?hy⟩) (by assumption) ?_
                case hy => (intro w hSw; (try dsimp only at hSw); go_simp; try (with_reducible rfl))
                (try simp only [List.getElem_toArray, List.getElem_cons_succ, List.getElem_cons_zero, Act.put, List.setIfInBounds_toArray, List.set_cons_zero, List.set_cons_succ])
                refine wpAnyH_take (i := 1) (v := ?_) rfl (by kernel_rfl) (by kernel_rfl) (by kernel_rfl) (fun _ _ _ h => h) (Or.inl ⟨by rfl, ?hy⟩) (by assumption) ?_
                case hy => (intro w hSw; (try dsimp only at hSw); go_simp; try (with_reducible rfl))
                (try simp only [List.getElem_toArray, List.getElem_cons_succ, List.getElem_cons_zero, Act.put, List.setIfInBounds_toArray, List.set_cons_zero, List.set_cons_succ])
                refine wpAnyH_take (i := 2) (v := ?_) rfl (by kernel_rfl) (by kernel_rfl) (by kernel_rfl) (fun _ _ _ h => h) (Or.inl ⟨by rfl, ?hy⟩) (by assumption) ?_
                case hy => (intro w hSw; (try dsimp only at hSw); go_simp; try (with_reducible rfl))
                (try simp only [List.getElem_toArray, List.getElem_cons_succ, List.getElem_cons_zero, Act.put, List.setIfInBounds_toArray, List.set_cons_zero, List.set_cons_succ])
                refine wpAnyH_take (i := 3) (v := ?_) rfl (by kernel_rfl) (by kernel_rfl) (by kernel_rfl) (fun _ _ _ h => h) (Or.inl ⟨by rfl, ?hy⟩) (by assumption) ?_
                case hy => (intro w hSw; (try dsimp only at hSw); go_simp; try (with_reducible rfl))
                (try simp only [List.getElem_toArray, List.getElem_cons_succ, List.getElem_cons_zero, Act.put, List.setIfInBounds_toArray, List.set_cons_zero, List.set_cons_succ])
                refine wpAnyH_take (i := 4) (v := ?_) rfl (by kernel_rfl) (by kernel_rfl) (by kernel_rfl) (fun _ _ _ h => h) (Or.inl ⟨by rfl, ?hy⟩) (by assumption) ?_
                case hy => (intro w hSw; (try dsimp only at hSw); go_simp; try (with_reducible rfl))
                (try simp only [List.getElem_toArray, List.getElem_cons_succ, List.getElem_cons_zero, Act.put, List.setIfInBounds_toArray, List.set_cons_zero, List.set_cons_succ])
                refine wpAnyH_take (i := 5) (v := ?_) rfl (by kernel_rfl) (by kernel_rfl) (by kernel_rfl) (fun _ _ _ h => h) (Or.inl ⟨by rfl, ?hy⟩) (by assumption) ?_
                case hy => (intro w hSw; (try dsimp only at hSw); go_simp; try (with_reducible rfl))
                (try simp only [List.getElem_toArray, List.getElem_cons_succ, List.getElem_cons_zero, Act.put, List.setIfInBounds_toArray, List.set_cons_zero, List.set_cons_succ])
                refine wpAnyH_take (i := 7) (v := ?_) rfl (by kernel_rfl) (by kernel_rfl) (by kernel_rfl) (fun _ _ _ h => h) (Or.inl ⟨by rfl, ?hy⟩) (by assumption) ?_
                case hy => (intro w hSw; (try dsimp only at hSw); go_simp; try (with_reducible rfl))
                (try simp only [List.getElem_toArray, List.getElem_cons_succ, List.getElem_cons_zero, Act.put, List.setIfInBounds_toArray, List.set_cons_zero, List.set_cons_succ])
                refine wpAnyH_take (i := 8) (v := ?_) rfl (by kernel_rfl) (by kernel_rfl) (by kernel_rfl) (fun _ _ _ h => h) (Or.inl ⟨by rfl, ?hy⟩) (by assumption) ?_
                case hy => (intro w hSw; (try dsimp only at hSw); go_simp; try (with_reducible rfl))
                (try simp only [List.getElem_toArray, List.getElem_cons_succ, List.getElem_cons_zero, Act.put, List.setIfInBounds_toArray, List.set_cons_zero, List.set_cons_succ])
                refine wpAnyH_ready (rs := [6]) (by kernel_rfl) (by simp) ?_
                refine AllReadyH.cons rfl (fun KK hKK => ?_) AllReadyH.nil
                go_simp
                (go_at_call 58; ((with_reducible refine ca.mono ?_); rintro e w8 ⟨A8, C8, rfl, hI8, hb8, ho8⟩; have b8 := bel_trans BCd hb8; have B8 := bel_trans HBC.out b8; have zz := HQ.out _ B8; obtain ⟨-, ⟨r0, r1, r2⟩, ⟨q0, q1, q2⟩, HG8⟩ := zz))
                refine hKK.out _ _ (by exact HK.out _ b8) (fun hHeld => ?_)
                clear hKK KK
                (try simp only [List.getElem_toArray, List.getElem_cons_succ, List.getElem_cons_zero, Act.put, List.setIfInBounds_toArray, List.set_cons_zero, List.set_cons_succ])
                refine wpAnyH_take (i := 9) (v := ?_) rfl (by kernel_rfl) (by kernel_rfl) (by kernel_rfl) (fun _ _ _ h => h) (Or.inl ⟨by rfl, ?hy⟩) (by assumption) ?_
                case hy => (intro w hSw; (try dsimp only at hSw); go_simp; try (with_reducible rfl))
                (try simp only [List.getElem_toArray, List.getElem_cons_succ, List.getElem_cons_zero, Act.put, List.setIfInBounds_toArray, List.set_cons_zero, List.set_cons_succ])
                refine wpAnyH_ready (rs := [10]) (by kernel_rfl) (by simp) ?_
                refine AllReadyH.cons rfl (fun KK hKK => ?_) (AllReadyH.nil)
                go_simp
                refine hKK.out _ _ (by exact ⟨far3c (HK.out _ b8).1 (Nat.ne_of_lt hne2), far3c (HK.out _ b8).2 (Nat.ne_of_lt hne2)⟩) (fun hHeld => ?_)
                clear hKK KK
                (try simp only [List.getElem_toArray, List.getElem_cons_succ, List.getElem_cons_zero, Act.put, List.setIfInBounds_toArray, List.set_cons_zero, List.set_cons_succ])
                refine wpAnyH_done (by kernel_rfl) ?_ _
                refine NoPanic.normal ?_
                have R6 := HG8.put ⟨#[]⟩ A8 (N7 + 1) C8 (CL x).e
                obtain ⟨x0, x1, x2⟩ := R6.three
                have hfar : ∀ b o, A8 = some ⟨b, o, none⟩ → 0 < N7 + 1 → b ≠ w.heap.size + 2 := ho8 _ (by show w.heap.size + 2 < Wc.heap.size; have := HBC.out.size; have := Hs3.out; omega)
                have HZ := Lib.hid (HPs.out j x A8 (N7 + 1) C8 _ Hhx.out he hprev.out (((hI8.far hfar (.string ⟨#[]⟩)).far hfar (.slice A8 (N7 + 1) C8)).far hfar (.int .i64 (CL x).e)) (Sgn.below_set3 (bel_trans HB3.out B8) (show w.heap.size ≤ w.heap.size + 2 by omega) _ _ _) (fun g hg => ho8 g (by show g < Wc.heap.size; have := HBC.out.size; have := Hs3.out; omega)))
                go_wp2
                try (simp [bodyPost, results, Try.results36, go_sem, x0, x1, x2])
                exact HZ.out
            · go_simp
              refine hKK.out _ _ (by exact ⟨(HQ.out _ hBt2).1.1, (HQ.out _ hBt2).1.2.1, (HQ.out _ hBt2).1.2.2.2.2.2.2, HY.out _ hBt2⟩) (fun hHeld => ?_)
              clear hKK KK
              (try simp only [List.getElem_toArray, List.getElem_cons_succ, List.getElem_cons_zero, Act.put, List.setIfInBounds_toArray, List.set_cons_zero, List.set_cons_succ])
              refine wpAnyH_ready (rs := [8]) (by kernel_rfl) (by simp) ?_
              refine AllReadyH.cons rfl (fun KK hKK => ?_) (AllReadyH.nil)
              go_simp
              (go_at_call 36; ((with_reducible refine (ct _ hBt2 (bel_trans hBb hBd2)).mono ?_); rintro e w7 ⟨A7, N7, C7, rfl, hI7, hb7, ho7⟩; have B7 : Below W3.heap.size W3 w7 := bel_trans hBt2 hb7))
              refine hKK.out _ _ (by exact ⟨(HQ.out _ B7).1.1, (HQ.out _ B7).1.2.1, (HQ.out _ B7).1.2.2.2.2.2.2, HY.out _ B7⟩) (fun hHeld => ?_)
              clear hKK KK
              (try simp only [List.getElem_toArray, List.getElem_cons_succ, List.getElem_cons_zero, Act.put, List.setIfInBounds_toArray, List.set_cons_zero, List.set_cons_succ])
              have GX := GBox.b (GBox.b (GBox.new wr ⟨#[]⟩ none 0 0 0) (Below.refl _ _).drew) hb7
              have gx0 := GX.three.1; have gx1 := GX.three.2.1; have gx2 := GX.three.2.2; have gf0 := GX.free.1; have gf1 := GX.free.2.1; have gf2 := GX.free.2.2
              refine wpAnyH_ready (rs := [10]) (by kernel_rfl) (by simp) ?_
              refine AllReadyH.cons rfl (fun KK hKK => ?_) (AllReadyH.nil)
              go_simp
              refine hKK.out _ _ (by exact ⟨(HQ.out _ (Sgn.below_set3 B7 hB.size _ _ _)).1.1, (HQ.out _ (Sgn.below_set3 B7 hB.size _ _ _)).1.2.1, (HQ.out _ (Sgn.below_set3 B7 hB.size _ _ _)).1.2.2.2.2.2.2, HY.out _ (Sgn.below_set3 B7 hB.size _ _ _)⟩) (fun hHeld => ?_)
              clear hKK KK
              (try simp only [List.getElem_toArray, List.getElem_cons_succ, List.getElem_cons_zero, Act.put, List.setIfInBounds_toArray, List.set_cons_zero, List.set_cons_succ])
              refine wpAnyH_done (by kernel_rfl) ?_ _
              refine NoPanic.normal ?_
              have GP : GBox (((w7.setCell ⟨wr.heap.size, 0, none⟩ (.string (CL x).so)).setCell ⟨wr.heap.size, 1, none⟩ (.slice A7 N7 C7)).setCell ⟨wr.heap.size, 2, none⟩ (.int .i64 (CL x).e)) wr.heap.size (CL x).so A7 N7 C7 (CL x).e := GX.put _ _ _ _ _
              have BW : Below wr.heap.size wr (((w7.setCell ⟨wr.heap.size, 0, none⟩ (.string (CL x).so)).setCell ⟨wr.heap.size, 1, none⟩ (.slice A7 N7 C7)).setCell ⟨wr.heap.size, 2, none⟩ (.int .i64 (CL x).e)) := Sgn.below_set3 (bel_trans hBd2 hb7) (Nat.le_refl _) _ _ _
              have IC : SlI (((w7.setCell ⟨wr.heap.size, 0, none⟩ (.string (CL x).so)).setCell ⟨wr.heap.size, 1, none⟩ (.slice A7 N7 C7)).setCell ⟨wr.heap.size, 2, none⟩ (.int .i64 (CL x).e)) A7 N7 C7 (CL x).way := ((SlI.far hI7 (ho7 _ (by simp)) _).far (ho7 _ (by simp)) _).far (ho7 _ (by simp)) _
              have hgx : W3.heap.size ≤ wr.heap.size := hB.size
              generalize hWc : (((w7.setCell ⟨wr.heap.size, 0, none⟩ (.string (CL x).so)).setCell ⟨wr.heap.size, 1, none⟩ (.slice A7 N7 C7)).setCell ⟨wr.heap.size, 2, none⟩ (.int .i64 (CL x).e)) = Wc at *
              have hgg := True.intro
              clear hWc hgg GX hI7 ho7 gx0 gx1 gx2 gf0 gf1 gf2 hHeld hb7 B7
              try clear B8
              try clear b6
              have BC : Below W3.heap.size W3 Wc := bel_trans hB BW
              have BQ : Below Wb.heap.size Wb Wc := bel_trans hBb BW
              have HIC := Lib.hid IC
              have HBC := Lib.hid BC
              have HBQ := Lib.hid BQ
              obtain ⟨p0, p1, p2⟩ := GP.three
              have HGP := Lib.hid GP
              have Hgx := Lib.hid hgx
              clear BW hBd hBd2 hBt hBt2 y0 y1 y2 y3 y4 s0 s1 t0 t1 t2 t3 t4 r0 r1 r2 q0 q1 q2 HG ct IC GP hgx HY
              by_cases he : (CL x).e = 0
              · have h1 : ((CL x).e != 0) = false := by simp [he]
                have hpr2 : Hid (∀ i y, i < j + 1 → lc[i]? = some y → (CL y).e = 0) := by
                  intro i y hi hy
                  by_cases hij : i < j
                  · exact hprev.out i y hij hy
                  · obtain rfl : i = j := by omega
                    rw [Hhx.out] at hy
                    rw [← Option.some.inj hy]; exact he
                clear hprev HIC HGP BC p1
                go_wp2
                go_roundw
                case rel => exact ⟨_, j + 1, rfl, by omega, by go_num, HBQ.out, hpr2⟩
                case measure => simp [intOf]; omega
              · have h1 : ((CL x).e != 0) = true := by simp [he]
                have hNw : N7 ≤ 1000000 := by rw [HIC.out.1]; exact HWayC.out j x Hhx.out
                have ca := ahead_any ((k : Int) + (j : Int)) A7 N7 C7 (CL x).way Wc.drew (HIC.out.below (Below.refl _ _).drew) hNw
                have hne2 : w.heap.size + 2 < wr.heap.size := by have := Hgx.out; have := Hs3.out; omega
                have BCd : Below Wc.heap.size Wc Wc.drew := (Below.refl _ _).drew
                have HK := Lib.hid (show ∀ w', Below Wc.heap.size Wc w' → w'.cell? ⟨wr.heap.size, 1, none⟩ = some (.slice A7 N7 C7) ∧ w'.cell? ⟨wr.heap.size, 2, none⟩ = some (.int .i64 (CL x).e) from fun w' h => (GBox.b HGP.out h).three.2)
                go_wp2
                refine wp_region_noPanic ?_
                refine wp_region_held_drew (S := fun w' => w'.cell? ⟨wr.heap.size, 1, none⟩ = some (.slice A7 N7 C7) ∧ w'.cell? ⟨wr.heap.size, 2, none⟩ = some (.int .i64 (CL x).e)) (by kernel_rfl) (by exact HK.out _ BCd) (fun hHeld => ?_)
                refine wpAnyH_take (i := 0) (v := ?_) rfl (by kernel_rfl) (by kernel_rfl) (by kernel_rfl) (fun _ _ _ h => h) (Or.inl ⟨by rfl, ?hy⟩) (by assumption) ?_
                case hy => (intro w hSw; (try dsimp only at hSw); go_simp; try (with_reducible rfl))
                (try simp only [List.getElem_toArray, List.getElem_cons_succ, List.getElem_cons_zero, Act.put, List.setIfInBounds_toArray, List.set_cons_zero, List.set_cons_succ])
                refine wpAnyH_take (i := 1) (v := ?_) rfl (by kernel_rfl) (by kernel_rfl) (by kernel_rfl) (fun _ _ _ h => h) (Or.inl ⟨by rfl, ?hy⟩) (by assumption) ?_
                case hy => (intro w hSw; (try dsimp only at hSw); go_simp; try (with_reducible rfl))
                (try simp only [List.getElem_toArray, List.getElem_cons_succ, List.getElem_cons_zero, Act.put, List.setIfInBounds_toArray, List.set_cons_zero, List.set_cons_succ])
                refine wpAnyH_take (i := 2) (v := ?_) rfl (by kernel_rfl) (by kernel_rfl) (by kernel_rfl) (fun _ _ _ h => h) (Or.inl ⟨by rfl, ?hy⟩) (by assumption) ?_
                case hy => (intro w hSw; (try dsimp only at hSw); go_simp; try (with_reducible rfl))
                (try simp only [List.getElem_toArray, List.getElem_cons_succ, List.getElem_cons_zero, Act.put, List.setIfInBounds_toArray, List.set_cons_zero, List.set_cons_succ])
                refine wpAnyH_take (i := 3) (v := ?_) rfl (by kernel_rfl) (by kernel_rfl) (by kernel_rfl) (fun _ _ _ h => h) (Or.inl ⟨by rfl, ?hy⟩) (by assumption) ?_
                case hy => (intro w hSw; (try dsimp only at hSw); go_simp; try (with_reducible rfl))
                (try simp only [List.getElem_toArray, List.getElem_cons_succ, List.getElem_cons_zero, Act.put, List.setIfInBounds_toArray, List.set_cons_zero, List.set_cons_succ])
                refine wpAnyH_take (i := 4) (v := ?_) rfl (by kernel_rfl) (by kernel_rfl) (by kernel_rfl) (fun _ _ _ h => h) (Or.inl ⟨by rfl, ?hy⟩) (by assumption) ?_
                case hy => (intro w hSw; (try dsimp only at hSw); go_simp; try (with_reducible rfl))
                (try simp only [List.getElem_toArray, List.getElem_cons_succ, List.getElem_cons_zero, Act.put, List.setIfInBounds_toArray, List.set_cons_zero, List.set_cons_succ])
                refine wpAnyH_take (i := 5) (v := ?_) rfl (by kernel_rfl) (by kernel_rfl) (by kernel_rfl) (fun _ _ _ h => h) (Or.inl ⟨by rfl, ?hy⟩) (by assumption) ?_
                case hy => (intro w hSw; (try dsimp only at hSw); go_simp; try (with_reducible rfl))
                (try simp only [List.getElem_toArray, List.getElem_cons_succ, List.getElem_cons_zero, Act.put, List.setIfInBounds_toArray, List.set_cons_zero, List.set_cons_succ])
                refine wpAnyH_take (i := 7) (v := ?_) rfl (by kernel_rfl) (by kernel_rfl) (by kernel_rfl) (fun _ _ _ h => h) (Or.inl ⟨by rfl, ?hy⟩) (by assumption) ?_
                case hy => (intro w hSw; (try dsimp only at hSw); go_simp; try (with_reducible rfl))
                (try simp only [List.getElem_toArray, List.getElem_cons_succ, List.getElem_cons_zero, Act.put, List.setIfInBounds_toArray, List.set_cons_zero, List.set_cons_succ])
                refine wpAnyH_take (i := 8) (v := ?_) rfl (by kernel_rfl) (by kernel_rfl) (by kernel_rfl) (fun _ _ _ h => h) (Or.inl ⟨by rfl, ?hy⟩) (by assumption) ?_
                case hy => (intro w hSw; (try dsimp only at hSw); go_simp; try (with_reducible rfl))
                (try simp only [List.getElem_toArray, List.getElem_cons_succ, List.getElem_cons_zero, Act.put, List.setIfInBounds_toArray, List.set_cons_zero, List.set_cons_succ])
                refine wpAnyH_ready (rs := [6]) (by kernel_rfl) (by simp) ?_
                refine AllReadyH.cons rfl (fun KK hKK => ?_) AllReadyH.nil
                go_simp
                (go_at_call 58; ((with_reducible refine ca.mono ?_); rintro e w8 ⟨A8, C8, rfl, hI8, hb8, ho8⟩; have b8 := bel_trans BCd hb8; have B8 := bel_trans HBC.out b8; have zz := HQ.out _ B8; obtain ⟨-, ⟨r0, r1, r2⟩, ⟨q0, q1, q2⟩, HG8⟩ := zz))
                refine hKK.out _ _ (by exact HK.out _ b8) (fun hHeld => ?_)
                clear hKK KK
                (try simp only [List.getElem_toArray, List.getElem_cons_succ, List.getElem_cons_zero, Act.put, List.setIfInBounds_toArray, List.set_cons_zero, List.set_cons_succ])
                refine wpAnyH_take (i := 9) (v := ?_) rfl (by kernel_rfl) (by kernel_rfl) (by kernel_rfl) (fun _ _ _ h => h) (Or.inl ⟨by rfl, ?hy⟩) (by assumption) ?_
                case hy => (intro w hSw; (try dsimp only at hSw); go_simp; try (with_reducible rfl))
                (try simp only [List.getElem_toArray, List.getElem_cons_succ, List.getElem_cons_zero, Act.put, List.setIfInBounds_toArray, List.set_cons_zero, List.set_cons_succ])
                refine wpAnyH_ready (rs := [10]) (by kernel_rfl) (by simp) ?_
                refine AllReadyH.cons rfl (fun KK hKK => ?_) (AllReadyH.nil)
                go_simp
                refine hKK.out _ _ (by exact ⟨far3c (HK.out _ b8).1 (Nat.ne_of_lt hne2), far3c (HK.out _ b8).2 (Nat.ne_of_lt hne2)⟩) (fun hHeld => ?_)
                clear hKK KK
                (try simp only [List.getElem_toArray, List.getElem_cons_succ, List.getElem_cons_zero, Act.put, List.setIfInBounds_toArray, List.set_cons_zero, List.set_cons_succ])
                refine wpAnyH_done (by kernel_rfl) ?_ _
                refine NoPanic.normal ?_
                have R6 := HG8.put ⟨#[]⟩ A8 (N7 + 1) C8 (CL x).e
                obtain ⟨x0, x1, x2⟩ := R6.three
                have hfar : ∀ b o, A8 = some ⟨b, o, none⟩ → 0 < N7 + 1 → b ≠ w.heap.size + 2 := ho8 _ (by show w.heap.size + 2 < Wc.heap.size; have := HBC.out.size; have := Hs3.out; omega)
                have HZ := Lib.hid (HPs.out j x A8 (N7 + 1) C8 _ Hhx.out he hprev.out (((hI8.far hfar (.string ⟨#[]⟩)).far hfar (.slice A8 (N7 + 1) C8)).far hfar (.int .i64 (CL x).e)) (Sgn.below_set3 (bel_trans HB3.out B8) (show w.heap.size ≤ w.heap.size + 2 by omega) _ _ _) (fun g hg => ho8 g (by show g < Wc.heap.size; have := HBC.out.size; have := Hs3.out; omega)))
                go_wp2
                try (simp [bodyPost, results, Try.results36, go_sem, x0, x1, x2])
                exact HZ.out
          · obtain rfl : j = sn := by omega
            have hj0 : ¬ (j : Int) < (j : Int) := by omega
            have hoW := HPa.out hprev.out
            clear HPa HPs HCall hprev HWayC
            have HBr2 := Lib.hid (bel_trans HB3.out hB)
            have HGw := Lib.hid HG
            clear HBw HCs HS3 HT3 HR3
            by_cases h3 : op = 3
            · subst h3
              have hop : wantC E.K 3 nm D = (if (!hasN E.K nm || !((findC E.K nm).2.2.toList == sBool.toList)) = true then .bad 10 [] else if (findC E.K nm).2.1.length ≠ D.length then .bad 12 [] else askW D (findC E.K nm).2.1 ⟨#[]⟩) := by unfold wantC; rw [if_pos rfl]
              rw [hop, sBool_l, HGl.out] at hoW
              have cF := HFi.out wr hB
              clear HFi hop
              generalize hasN E.K nm = H at *
              generalize findC E.K nm = Fq0 at *
              obtain ⟨n0, X, rs⟩ := Fq0
              dsimp only at *
              have HoW := Lib.hid hoW
              clear hoW
              cases H with
              | false =>
                clear r0 r1 r2 q0 q1 q2 HG
                go_wp2_with (go_at_call 24; ((with_reducible refine cF.mono ?_); rintro e w9 ⟨A9, C9, rfl, hS9, hb9⟩; have B9 := bel_trans hB hb9; have F9 := FBox.new w9 n0 A9 X.length C9 rs; have zy := F9.three; obtain ⟨y0, y1, y2⟩ := zy; have BF := bel_alloc B9 (.cells #[.string n0, .slice A9 X.length C9, .string rs] 62); have zz := HQ.out _ BF; obtain ⟨-, ⟨r0, r1, r2⟩, ⟨q0, q1, q2⟩, HG9⟩ := zz))
                have R6 := HG9.put ⟨#[]⟩ none 0 0 10
                obtain ⟨x0, x1, x2⟩ := R6.three
                have HZ := Lib.hid (HPz.out (Wr.bad 10 []) ⟨#[]⟩ 10 none 0 _ (HoW.out.trans (by simp)) rfl (fun _ => rfl) (Sgn.below_set3 (bel_trans HB3.out BF) (show w.heap.size ≤ w.heap.size + 2 by omega) (.string ⟨#[]⟩) (.slice none 0 0) (.int .i64 10)))
                first | exact HZ.out | (simp [bodyPost, results, Try.results36, go_sem, x0, x1, x2]; exact HZ.out)
              | true =>
                cases hrb : rs.toList == [66, 111, 111, 108] with
                | false =>
                  have hrb2 : (rs.toList = [66, 111, 111, 108]) = False := by simpa using hrb
                  have hrb3 : (rs.toList != [66, 111, 111, 108]) = true := by simpa using hrb
                  have Hrb := Lib.hid hrb
                  clear r0 r1 r2 q0 q1 q2 HG
                  go_wp2_with (go_at_call 24; ((with_reducible refine cF.mono ?_); rintro e w9 ⟨A9, C9, rfl, hS9, hb9⟩; have B9 := bel_trans hB hb9; have F9 := FBox.new w9 n0 A9 X.length C9 rs; have zy := F9.three; obtain ⟨y0, y1, y2⟩ := zy; have BF := bel_alloc B9 (.cells #[.string n0, .slice A9 X.length C9, .string rs] 62); have zz := HQ.out _ BF; obtain ⟨-, ⟨r0, r1, r2⟩, ⟨q0, q1, q2⟩, HG9⟩ := zz))
                  have R6 := HG9.put ⟨#[]⟩ none 0 0 10
                  obtain ⟨x0, x1, x2⟩ := R6.three
                  have HZ := Lib.hid (HPz.out (Wr.bad 10 []) ⟨#[]⟩ 10 none 0 _ (HoW.out.trans (by simp [Hrb.out])) rfl (fun _ => rfl) (Sgn.below_set3 (bel_trans HB3.out BF) (show w.heap.size ≤ w.heap.size + 2 by omega) (.string ⟨#[]⟩) (.slice none 0 0) (.int .i64 10)))
                  first | exact HZ.out | (simp [bodyPost, results, Try.results36, go_sem, x0, x1, x2]; exact HZ.out)
                | true =>
                  have hrb2 : (rs.toList = [66, 111, 111, 108]) = True := by simpa using hrb
                  have hrb3 : (rs.toList != [66, 111, 111, 108]) = false := by simpa using hrb
                  have Hrb := Lib.hid hrb
                  clear r0 r1 r2 q0 q1 q2 HG
                  by_cases hXk : X.length = k
                  · have hXkH := Lib.hid hXk
                    have hx1 : ((X.length : Int) != (k : Int)) = false := by simp [hXk]
                    have hx2 : ((X.length : Int) = (k : Int)) = True := by simp [hXk]
                    clear hXk
                    have HAs := Lib.hid (fun (A9 : Option Addr) (C9 : Nat) (V : World) (h1 : IsS V GA k D) (h2 : IsS V A9 X.length X) => asked_all GA k GC D A9 X.length C9 X V h1 h2 (by rw [hXkH.out]; exact Nat.le_refl _) (by omega))
                    have hAe := Lib.hid (askW_eq D X)
                    generalize (askW D X ⟨#[]⟩).e = ER at *
                    generalize hWR : (askW D X ⟨#[]⟩).way = WR at *
                    clear hWR
                    go_wp2_with (first | (go_at_call 24; ((with_reducible refine cF.mono ?_); rintro e w9 ⟨A9, C9, rfl, hS9, hb9⟩; have B9 := bel_trans hB hb9; have F9 := FBox.new w9 n0 A9 X.length C9 rs; have zy := F9.three; obtain ⟨y0, y1, y2⟩ := zy; have BF := bel_alloc B9 (.cells #[.string n0, .slice A9 X.length C9, .string rs] 62); have zz := HQ.out _ BF; obtain ⟨-, ⟨r0, r1, r2⟩, ⟨q0, q1, q2⟩, HG9⟩ := zz; have BV : Below wr.heap.size wr (w9.alloc (.cells #[.string n0, .slice A9 X.length C9, .string rs] 62)) := bel_alloc hb9 _; have HSV := Lib.hid (show IsS (w9.alloc (.cells #[.string n0, .slice A9 X.length C9, .string rs] 62)) A9 X.length X from (hS9.below (bel_alloc (Below.refl _ _) _)).1))) | (go_at_call 59; ((with_reducible refine (HAs.out _ _ _ (IsS.below HGI.out (bel_trans hBb BV)) HSV.out).mono ?_); rintro e w10 ⟨A10, N10, C10, rfl, hI10, hb10, ho10⟩; have B10 := bel_trans BF hb10; have zz := HQ.out _ B10; obtain ⟨-, ⟨r0, r1, r2⟩, ⟨q0, q1, q2⟩, HG9⟩ := zz)))
                    have hfar : ∀ b o, A10 = some ⟨b, o, none⟩ → 0 < N10 → b ≠ w.heap.size + 2 := ho10 _ (by have := BF.size; have := Hs3.out; simp at *; omega)
                    have R6 := HG9.put ⟨#[]⟩ A10 N10 C10 ER
                    obtain ⟨x0, x1, x2⟩ := R6.three
                    have HZ := Lib.hid (HPi.out ⟨ER, WR, ⟨#[]⟩⟩ WR ER A10 N10 C10 _ (by exact (HoW.out.trans (by rw [if_neg (by simp [Hrb.out]), if_neg (by rw [hXkH.out]; simp)])).trans hAe.out) rfl (((hI10.far hfar (.string ⟨#[]⟩)).far hfar (.slice A10 N10 C10)).far hfar (.int .i64 ER)) (Sgn.below_set3 (bel_trans HB3.out B10) (show w.heap.size ≤ w.heap.size + 2 by omega) (.string ⟨#[]⟩) (.slice A10 N10 C10) (.int .i64 ER)) (fun g hg => ho10 g (by have := BF.size; have := Hs3.out; simp at *; omega)))
                    first | exact HZ.out | (simp [bodyPost, results, Try.results36, go_sem, x0, x1, x2]; exact HZ.out)
                  · have hXkH := Lib.hid hXk
                    have hx1 : ((X.length : Int) != (k : Int)) = true := by simp; omega
                    have hx2 : ((X.length : Int) = (k : Int)) = False := by simp; omega
                    clear hXk
                    go_wp2_with (go_at_call 24; ((with_reducible refine cF.mono ?_); rintro e w9 ⟨A9, C9, rfl, hS9, hb9⟩; have B9 := bel_trans hB hb9; have F9 := FBox.new w9 n0 A9 X.length C9 rs; have zy := F9.three; obtain ⟨y0, y1, y2⟩ := zy; have BF := bel_alloc B9 (.cells #[.string n0, .slice A9 X.length C9, .string rs] 62); have zz := HQ.out _ BF; obtain ⟨-, ⟨r0, r1, r2⟩, ⟨q0, q1, q2⟩, HG9⟩ := zz))
                    have R6 := HG9.put ⟨#[]⟩ none 0 0 12
                    obtain ⟨x0, x1, x2⟩ := R6.three
                    have HZ := Lib.hid (HPz.out (Wr.bad 12 []) ⟨#[]⟩ 12 none 0 _ (HoW.out.trans (by rw [if_neg (by simp [Hrb.out]), if_pos hXkH.out])) rfl (fun _ => rfl) (Sgn.below_set3 (bel_trans HB3.out BF) (show w.heap.size ≤ w.heap.size + 2 by omega) (.string ⟨#[]⟩) (.slice none 0 0) (.int .i64 12)))
                    first | exact HZ.out | (simp [bodyPost, results, Try.results36, go_sem, x0, x1, x2]; exact HZ.out)
            · have e3 : (op == 3) = false := by simp [h3]
              have g3 : (op = 3) = False := by simp [h3]
              clear HFi
              by_cases h5 : op = 5
              · subst h5
                clear r0 r1 r2 q0 q1 q2 HG
                have hk2 : k = 2 := by have := H45.out (.inr rfl); have := Htn.out; omega
                have Hk2 := Lib.hid hk2
                clear hk2
                have BF := bel_alloc hB (.cells #[.string ⟨#[73, 110, 116]⟩, .string ⟨#[73, 110, 116]⟩] 9)
                have BV : Below wr.heap.size wr (wr.alloc (.cells #[.string ⟨#[73, 110, 116]⟩, .string ⟨#[73, 110, 116]⟩] 9)) := bel_alloc (Below.refl _ _) _
                have HSV := Lib.hid (show IsS (wr.alloc (.cells #[.string ⟨#[73, 110, 116]⟩, .string ⟨#[73, 110, 116]⟩] 9)) (some ⟨wr.heap.size, 0, none⟩) 2 [sInt, sInt] from int_row (Nat.le_refl _) (Sgn.Blk.new wr _ _))
                have HoW := Lib.hid hoW
                clear hoW
                have HAs := Lib.hid (fun (A9 : Option Addr) (C9 : Nat) (V : World) (h1 : IsS V GA k D) (h2 : IsS V A9 2 [sInt, sInt]) => asked_all GA k GC D A9 2 C9 [sInt, sInt] V h1 h2 (by rw [Hk2.out]; exact Nat.le_refl _) (by omega))
                have hAe := Lib.hid (askW_eq D [sInt, sInt])
                generalize (askW D [sInt, sInt] ⟨#[]⟩).e = ER at *
                generalize hWR : (askW D [sInt, sInt] ⟨#[]⟩).way = WR at *
                clear hWR
                go_wp2_with (first | fail | (go_at_call 59; ((with_reducible refine (HAs.out _ _ _ (IsS.below HGI.out (bel_trans hBb BV)) HSV.out).mono ?_); rintro e w10 ⟨A10, N10, C10, rfl, hI10, hb10, ho10⟩; have B10 := bel_trans BF hb10; have zz := HQ.out _ B10; obtain ⟨-, ⟨r0, r1, r2⟩, ⟨q0, q1, q2⟩, HG9⟩ := zz)))
                have hfar : ∀ b o, A10 = some ⟨b, o, none⟩ → 0 < N10 → b ≠ w.heap.size + 2 := ho10 _ (by have := BF.size; have := Hs3.out; simp at *; omega)
                have R6 := HG9.put ⟨#[]⟩ A10 N10 C10 ER
                obtain ⟨x0, x1, x2⟩ := R6.three
                have HZ := Lib.hid (HPi.out ⟨ER, WR, ⟨#[]⟩⟩ WR ER A10 N10 C10 _ (by exact (HoW.out.trans (by unfold wantC; rw [if_neg (by decide), if_neg (by decide), if_pos rfl])).trans hAe.out) rfl (((hI10.far hfar (.string ⟨#[]⟩)).far hfar (.slice A10 N10 C10)).far hfar (.int .i64 ER)) (Sgn.below_set3 (bel_trans HB3.out B10) (show w.heap.size ≤ w.heap.size + 2 by omega) (.string ⟨#[]⟩) (.slice A10 N10 C10) (.int .i64 ER)) (fun g hg => ho10 g (by have := BF.size; have := Hs3.out; simp at *; omega)))
                first | exact HZ.out | (simp [bodyPost, results, Try.results36, go_sem, x0, x1, x2]; exact HZ.out)
              · have e5 : (op == 5) = false := by simp [h5]
                have g5 : (op = 5) = False := by simp [h5]
                by_cases h4 : op = 4
                · subst h4
                  have hk2 : k = 2 := by have := H45.out (.inl rfl); have := Htn.out; omega
                  have hHd : ∃ b o x, GA = some ⟨b, o, none⟩ ∧ b < Wb.heap.size ∧ Wb.cell? ⟨b, o, none⟩ = some (.string x) ∧ D.headD ⟨#[]⟩ = x := by
                    obtain ⟨b, o, x, h1, h2, h3, h4, _⟩ := HGI.out.at (show 0 < k by omega)
                    refine ⟨b, o, x, h1, h2, h3, ?_⟩
                    cases D with
                    | nil => simp at h4
                    | cons y l => simpa using h4
                  obtain ⟨gb, go', x, rfl, hgb, gx0', hhd⟩ := hHd
                  have gx0 := (hBb.cell (p := ⟨gb, go', none⟩) hgb).trans gx0'
                  have Hk2 := Lib.hid hk2
                  have hk9 : (0 : Int) < (k : Int) := by omega
                  have hk10 : 0 < k := by omega
                  have hBd : Below wr.heap.size wr wr.drew := (Below.refl _ _).drew
                  have HGX := Lib.hid (show ∀ w', Below wr.heap.size wr w' → w'.cell? ⟨gb, go', none⟩ = some (.string x) from fun w' h => (h.cell (p := ⟨gb, go', none⟩) (Nat.lt_of_lt_of_le hgb hBb.size)).trans gx0)
                  clear hk2 gx0' r0 r1 r2 q0 q1 q2 HG
                  have BV : Below wr.heap.size wr (wr.alloc (.cells #[.string x, .string x] 9)).drew := (bel_alloc (Below.refl _ _) _).drew
                  have BF := bel_trans hB BV
                  have HSV := Lib.hid (show IsS (wr.alloc (.cells #[.string x, .string x] 9)).drew (some ⟨wr.heap.size, 0, none⟩) 2 [x, x] from by
                    refine ⟨rfl, fun _ => ⟨wr.heap.size, 0, rfl, by simp, fun i hi => ?_⟩⟩
                    have hi2 : i < 2 := hi
                    have hbk := Sgn.Blk.new wr #[.string x, .string x] 9
                    rcases (by omega : i = 0 ∨ i = 1) with rfl | rfl
                    · exact Sgn.Blk.cell hbk 0
                    · exact Sgn.Blk.cell hbk 1)
                  have hoW2 := hoW.trans (show wantC E.K 4 nm D = askW D [x, x] ⟨#[]⟩ by unfold wantC; rw [if_neg (by decide), if_pos rfl, hhd])
                  have HoW := Lib.hid hoW2
                  clear hoW hoW2
                  have HAs := Lib.hid (fun (A9 : Option Addr) (C9 : Nat) (V : World) (h1 : IsS V (some ⟨gb, go', none⟩) k D) (h2 : IsS V A9 2 [x, x]) => asked_all (some ⟨gb, go', none⟩) k GC D A9 2 C9 [x, x] V h1 h2 (by rw [Hk2.out]; exact Nat.le_refl _) (by omega))
                  have hAe := Lib.hid (askW_eq D [x, x])
                  generalize (askW D [x, x] ⟨#[]⟩).e = ER at *
                  generalize hWR : (askW D [x, x] ⟨#[]⟩).way = WR at *
                  clear hWR
                  go_wp2
                  refine wp_region_noPanic ?_
                  refine wp_region_held_drew (S := fun w' => w'.cell? ⟨gb, go', none⟩ = some (.string x)) (by kernel_rfl) (by exact HGX.out _ hBd) (fun hHeld => ?_)
                  refine wpAnyH_take (i := 0) (v := ?_) rfl (by kernel_rfl) (by kernel_rfl) (by kernel_rfl) (fun _ _ _ h => h) (Or.inl ⟨by rfl, ?hy⟩) (by assumption) ?_
                  case hy => (intro w hSw; (try dsimp only at hSw); go_simp; try (with_reducible rfl))
                  (try simp only [List.getElem_toArray, List.getElem_cons_succ, List.getElem_cons_zero, Act.put, List.setIfInBounds_toArray, List.set_cons_zero, List.set_cons_succ])
                  refine wpAnyH_take (i := 1) (v := ?_) rfl (by kernel_rfl) (by kernel_rfl) (by kernel_rfl) (fun _ _ _ h => h) (Or.inl ⟨by rfl, ?hy⟩) (by assumption) ?_
                  case hy => (intro w hSw; (try dsimp only at hSw); go_simp; try (with_reducible rfl))
                  (try simp only [List.getElem_toArray, List.getElem_cons_succ, List.getElem_cons_zero, Act.put, List.setIfInBounds_toArray, List.set_cons_zero, List.set_cons_succ])
                  refine wpAnyH_take (i := 2) (v := ?_) rfl (by kernel_rfl) (by kernel_rfl) (by kernel_rfl) (fun _ _ _ h => h) (Or.inl ⟨by rfl, ?hy⟩) (by assumption) ?_
                  case hy => (intro w hSw; (try dsimp only at hSw); go_simp; try (with_reducible rfl))
                  (try simp only [List.getElem_toArray, List.getElem_cons_succ, List.getElem_cons_zero, Act.put, List.setIfInBounds_toArray, List.set_cons_zero, List.set_cons_succ])
                  refine wpAnyH_take (i := 3) (v := ?_) rfl (by kernel_rfl) (by kernel_rfl) (by kernel_rfl) (fun _ _ _ h => h) (Or.inl ⟨by rfl, ?hy⟩) (by assumption) ?_
                  case hy => (intro w hSw; (try dsimp only at hSw); go_simp; try (with_reducible rfl))
                  (try simp only [List.getElem_toArray, List.getElem_cons_succ, List.getElem_cons_zero, Act.put, List.setIfInBounds_toArray, List.set_cons_zero, List.set_cons_succ])
                  refine wpAnyH_take (i := 4) (v := ?_) rfl (by kernel_rfl) (by kernel_rfl) (by kernel_rfl) (fun _ _ _ h => h) (Or.inl ⟨by rfl, ?hy⟩) (by assumption) ?_
                  case hy => (intro w hSw; (try dsimp only at hSw); go_simp; try (with_reducible rfl))
                  (try simp only [List.getElem_toArray, List.getElem_cons_succ, List.getElem_cons_zero, Act.put, List.setIfInBounds_toArray, List.set_cons_zero, List.set_cons_succ])
                  refine wpAnyH_take (i := 5) (v := ?_) rfl (by kernel_rfl) (by kernel_rfl) (by kernel_rfl) (fun _ _ _ h => h) (Or.inl ⟨by rfl, ?hy⟩) (by assumption) ?_
                  case hy => (intro w hSw; (try dsimp only at hSw); go_simp; try (with_reducible rfl))
                  (try simp only [List.getElem_toArray, List.getElem_cons_succ, List.getElem_cons_zero, Act.put, List.setIfInBounds_toArray, List.set_cons_zero, List.set_cons_succ])
                  refine wpAnyH_take (i := 6) (v := ?_) rfl (by kernel_rfl) (by kernel_rfl) (by kernel_rfl) (fun _ _ _ h => h) (Or.inl ⟨by rfl, ?hy⟩) (by assumption) ?_
                  case hy => (intro w hSw; (try dsimp only at hSw); go_simp; try (with_reducible rfl))
                  (try simp only [List.getElem_toArray, List.getElem_cons_succ, List.getElem_cons_zero, Act.put, List.setIfInBounds_toArray, List.set_cons_zero, List.set_cons_succ])
                  refine wpAnyH_ready (rs := [7]) (by kernel_rfl) (by simp) ?_
                  refine AllReadyH.cons rfl (fun KK hKK => ?_) (AllReadyH.nil)
                  go_simp
                  refine hKK.out _ _ (by exact HGX.out _ BV) (fun hHeld => ?_)
                  clear hKK KK
                  (try simp only [List.getElem_toArray, List.getElem_cons_succ, List.getElem_cons_zero, Act.put, List.setIfInBounds_toArray, List.set_cons_zero, List.set_cons_succ])
                  refine wpAnyH_ready (rs := [8]) (by kernel_rfl) (by simp) ?_
                  refine AllReadyH.cons rfl (fun KK hKK => ?_) (AllReadyH.nil)
                  go_simp
                  (go_at_call 59; ((with_reducible refine (HAs.out _ _ _ (IsS.below HGI.out (bel_trans hBb BV)) HSV.out).mono ?_); rintro e w10 ⟨A10, N10, C10, rfl, hI10, hb10, ho10⟩; have B10 := bel_trans BF hb10; have zz := HQ.out _ B10; obtain ⟨-, ⟨r0, r1, r2⟩, ⟨q0, q1, q2⟩, HG9⟩ := zz))
                  refine hKK.out _ _ (by exact HGX.out _ (bel_trans BV hb10)) (fun hHeld => ?_)
                  clear hKK KK
                  (try simp only [List.getElem_toArray, List.getElem_cons_succ, List.getElem_cons_zero, Act.put, List.setIfInBounds_toArray, List.set_cons_zero, List.set_cons_succ])
                  refine wpAnyH_ready (rs := [9]) (by kernel_rfl) (by simp) ?_
                  refine AllReadyH.cons rfl (fun KK hKK => ?_) (AllReadyH.nil)
                  go_simp
                  refine hKK.out _ _ (by exact far3c (HGX.out _ (bel_trans BV hb10)) (show w.heap.size + 2 ≠ gb by have := HGb.out gb go' rfl; have := Hs3.out; omega)) (fun hHeld => ?_)
                  clear hKK KK
                  (try simp only [List.getElem_toArray, List.getElem_cons_succ, List.getElem_cons_zero, Act.put, List.setIfInBounds_toArray, List.set_cons_zero, List.set_cons_succ])
                  refine wpAnyH_done (by kernel_rfl) ?_ _
                  refine NoPanic.normal ?_
                  go_wp2
                  have hfar : ∀ b o, A10 = some ⟨b, o, none⟩ → 0 < N10 → b ≠ w.heap.size + 2 := ho10 _ (by have := BF.size; have := Hs3.out; simp at *; omega)
                  have R6 := HG9.put ⟨#[]⟩ A10 N10 C10 ER
                  obtain ⟨x0, x1, x2⟩ := R6.three
                  have HZ := Lib.hid (HPi.out ⟨ER, WR, ⟨#[]⟩⟩ WR ER A10 N10 C10 _ (by exact HoW.out.trans hAe.out) rfl (((hI10.far hfar (.string ⟨#[]⟩)).far hfar (.slice A10 N10 C10)).far hfar (.int .i64 ER)) (Sgn.below_set3 (bel_trans HB3.out B10) (show w.heap.size ≤ w.heap.size + 2 by omega) (.string ⟨#[]⟩) (.slice A10 N10 C10) (.int .i64 ER)) (fun g hg => ho10 g (by have := BF.size; have := Hs3.out; simp at *; omega)))
                  first | exact HZ.out | (simp [bodyPost, results, Try.results36, go_sem, x0, x1, x2]; exact HZ.out)
                · have e4 : (op == 4) = false := by simp [h4]
                  have g4 : (op = 4) = False := by simp [h4]
                  have HoW := Lib.hid hoW
                  have H3 := Lib.hid h3
                  have H4 := Lib.hid h4
                  have H5 := Lib.hid h5
                  clear hoW h3 h4 h5
                  go_wp2
                  have R6 := HGw.out.put ⟨#[]⟩ none 0 0 0
                  obtain ⟨x0, x1, x2⟩ := R6.three
                  have HZ := Lib.hid (HPz.out (Wr.ok ⟨#[]⟩) ⟨#[]⟩ 0 none 0 _ (HoW.out.trans (by unfold wantC; rw [if_neg H3.out, if_neg H4.out, if_neg H5.out])) rfl (fun _ => rfl) (Sgn.below_set3 HBr2.out (show w.heap.size ≤ w.heap.size + 2 by omega) (.string ⟨#[]⟩) (.slice none 0 0) (.int .i64 0)))
                  first | exact HZ.out | (simp [bodyPost, results, Try.results36, go_sem, x0, x1, x2]; exact HZ.out)
theorem cin_any (t : Cl) : CinOk t := Cl.ind cin_step t
end Go.Proofs.Ytacncbkcnhlpcaa.Wl
