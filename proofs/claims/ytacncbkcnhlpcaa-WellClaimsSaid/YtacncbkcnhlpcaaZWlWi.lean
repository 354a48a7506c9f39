/-
  What is proved: the sort of any right term, by the document's answer of layer 13.
-/
import Derived.Test.YtacncbkcnhlpcaaZWlAh
import Derived.Test.YtacncbkcnhlpcaaZWlT
import Derived.Test.YtacncbkcnhlpcaaZWlZ
import Derived.Test.YtacncbkcnhlpcaaZWlCa
import Derived.Deep.RegionHeld3
namespace Go.Proofs.Ytacncbkcnhlpcaa.Wl
open Go.RowKit L T C
open Sgn (SlG Fm Core cores hasN findC FindPost FBox FBox.new SlS.nul)
set_option linter.unusedVariables false
set_option linter.unusedSimpArgs false
set_option maxRecDepth 100000

/-- what the document's check is handed: a signature, variables, binders -/
def Ev.okR (E : Ev) (w : World) : Prop := SlG w E.b E.m E.d E.G ∧ E.m ≤ 1000000 ∧ IsV w E.vp E.vn E.V ∧ E.vn ≤ 1000000 ∧ IsS w E.p E.q E.B ∧ E.q ≤ 1000000
theorem Ev.okR.b {E : Ev} {w w' : World} (h : E.okR w) (hb : Below w.heap.size w w') : E.okR w' := ⟨h.1.below hb, h.2.1, h.2.2.1.below hb, h.2.2.2.1, h.2.2.2.2.1.below hb, h.2.2.2.2.2⟩
def TinOk (t : Tm) : Prop := ∀ (E : Ev) (ta : Option Addr) (tn tc : Nat) (w : World), E.okR w → partE t = 0 → size t ≤ 1000000 → ArW w t ta tn tc →
  Calls Try.prog 31 #[.agg #[.slice E.a E.n E.c, .slice E.b E.m E.d], .slice E.vp E.vn E.vc, .slice E.p E.q E.e, .agg #[.int .i64 (opT t), .string (nameT t), .int .i64 (numT t), .slice ta tn tc]] w (GtP (wlT E.K E.V E.B t) w)
theorem boxesG (w : World) (a : Option Addr) (n c : Nat) (b : Option Addr) (m d : Nat) (o : Int) (s : ByteArray) (z : Int) (ta : Option Addr) (tn tc : Nat) :
    ∃ W, ((w.alloc (.cells #[.slice a n c, .slice b m d] 25)).alloc (.cells #[.int .i64 o, .string s, .int .i64 z, .slice ta tn tc] 33)).alloc (.cells #[.string ⟨#[]⟩, .slice none 0 0, .int .i64 0] 40) = W ∧ Below w.heap.size w W ∧ Sgn.SBox W w.heap.size a n c b m d ∧ TBox W (w.heap.size + 1) o s z ta tn tc ∧ GBox W (w.heap.size + 2) ⟨#[]⟩ none 0 0 0 ∧ W.heap.size = w.heap.size + 3 := by
  have at_ : ∀ {w : World} {g : Nat} (h : w.heap.size = g) (cs : Array Value) (t : TypeId), Sgn.Blk (w.alloc (.cells cs t)) g cs t := fun {w g} h cs t => h ▸ Sgn.Blk.new w cs t
  exact ⟨_, rfl, bel_alloc (bel_alloc (bel_alloc (Below.refl _ _) _) _) _, Sgn.Blk.alloc (Sgn.Blk.alloc (Sgn.Blk.new w _ _) _) _, Sgn.Blk.alloc (at_ (by simp) _ _) _, at_ (by simp) _ _, by simp⟩
theorem askW_len (got want : List ByteArray) (z : ByteArray) : (askW got want z).way.length ≤ 1 := by
  unfold askW; split
  · exact Nat.le_refl _
  · exact Nat.zero_le _
theorem opW_len (K : List Core) (V : List Vr) (B : List ByteArray) (o : Int) (s : ByteArray) (z : Int) (got : List ByteArray) : (opW K V B o s z got).way.length ≤ 1 := by
  unfold opW
  split
  · split <;> exact Nat.zero_le _
  · split
    · split <;> exact Nat.zero_le _
    · split
      · split
        · exact Nat.zero_le _
        · split
          · exact Nat.zero_le _
          · exact askW_len _ _ _
      · exact askW_len _ _ _
mutual
theorem way_len (K : List Core) (V : List Vr) (B : List ByteArray) : ∀ t : Tm, (wlT K V B t).way.length ≤ size t
  | .mk o s z l => by
    rw [wlT, size]
    have h := ways_len K V B 0 l
    split
    · show (wlTs K V B 0 l).2.1.length ≤ _; omega
    · have := opW_len K V B o s z (wlTs K V B 0 l).2.2; omega
theorem ways_len (K : List Core) (V : List Vr) (B : List ByteArray) : ∀ (k : Nat) (l : List Tm), (wlTs K V B k l).2.1.length ≤ 1 + sizes l
  | k, [] => by rw [wlTs]; exact Nat.zero_le _
  | k, t :: l => by
    rw [wlTs, sizes]
    have h1 := way_len K V B t
    have h2 := ways_len K V B (k + 1) l
    split
    · show ((k : Int) :: (wlT K V B t).way).length ≤ _; simp; omega
    · split
      · show (wlTs K V B (k + 1) l).2.1.length ≤ _; omega
      · exact Nat.zero_le _
end
theorem far3c {w : World} {g k x : Nat} {u v0 v1 v2 : Value} (h : w.cell? ⟨g, k, none⟩ = some u) (hne : x ≠ g) : (((w.setCell ⟨x, 0, none⟩ v0).setCell ⟨x, 1, none⟩ v1).setCell ⟨x, 2, none⟩ v2).cell? ⟨g, k, none⟩ = some u := by
  rw [World.cell?_setCell_far _ _ _ _ hne, World.cell?_setCell_far _ _ _ _ hne, World.cell?_setCell_far _ _ _ _ hne]; exact h
theorem sl_ne {w : World} {A : Option Addr} {N C : Nat} {X : List Int} (h : SlI w A N C X) {b o : Nat} (e : A = some ⟨b, o, none⟩) (hn : 0 < N) : b ≠ w.heap.size := by
  obtain ⟨b', o', e', hlt, _⟩ := h.2.2.2 hn
  rw [e] at e'
  injection e' with e'
  injection e' with e1 e2
  omega
theorem int_row {w : World} {g k : Nat} (hk : k ≤ 2) (h : Sgn.Blk w g #[.string ⟨#[73, 110, 116]⟩, .string ⟨#[73, 110, 116]⟩] 9) : IsS w (some ⟨g, 0, none⟩) k (List.replicate k sInt) := by
  refine ⟨by simp, fun _ => ⟨g, 0, rfl, Sgn.Blk.lt h, fun i hi => ?_⟩⟩
  have hi2 : i < k := by simpa using hi
  rw [List.getElem_replicate, Nat.zero_add]
  rcases (by omega : i = 0 ∨ i = 1) with rfl | rfl
  · exact Sgn.Blk.cell h 0
  · exact Sgn.Blk.cell h 1
theorem asked_none (g : Option Addr) (n c : Nat) (G : List ByteArray) (d : Option Addr) (m c' : Nat) (D : List ByteArray) (w : World) (hG : IsS w g n G) (hD : IsS w d m D) (hnm : n ≤ m) (hn : n ≤ 1000000) (h : diff G D = none) :
    Calls Try.prog 59 #[.slice g n c, .slice d m c'] w fun e w' => ∃ A C, e = .returned (.agg #[.string ⟨#[]⟩, .slice A 0 C, .int .i64 0]) ∧ (A = none → C = 0) ∧ Below w.heap.size w w' :=
  (asked_any g n c G d m c' D w hG hD hnm hn).mono fun e w' ⟨A, N, C, h1, h2, h3, h4⟩ => by
    unfold askW at h1 h2
    rw [h] at h1 h2
    obtain rfl : N = 0 := h2.1
    exact ⟨A, C, h1, h2.2.2.1, h3⟩
theorem asked_some (g : Option Addr) (n c : Nat) (G : List ByteArray) (d : Option Addr) (m c' : Nat) (D : List ByteArray) (w : World) (hG : IsS w g n G) (hD : IsS w d m D) (hnm : n ≤ m) (hn : n ≤ 1000000) (i : Nat) (h : diff G D = some i) :
    Calls Try.prog 59 #[.slice g n c, .slice d m c'] w fun e w' => ∃ A C, e = .returned (.agg #[.string ⟨#[]⟩, .slice A 1 C, .int .i64 11]) ∧ SlI w' A 1 C [(i : Int)] ∧ Below w.heap.size w w' ∧ ∀ g, g < w.heap.size → ∀ b o, A = some ⟨b, o, none⟩ → 0 < 1 → b ≠ g :=
  (asked_any g n c G d m c' D w hG hD hnm hn).mono fun e w' ⟨A, N, C, h1, h2, h3, h4⟩ => by
    unfold askW at h1 h2
    rw [h] at h1 h2
    obtain rfl : N = 1 := h2.1
    exact ⟨A, C, h1, h2, h3, h4⟩
set_option maxHeartbeats 64000000 in
theorem tin_step (t : Tm) (hok : ∀ x ∈ argsT t, TinOk x) : TinOk t := by
  intro E ta tn tc w hE hp hs hA
  obtain ⟨hz, h12, hle, hpp, h8⟩ := part_parts hp
  have hT := ArW.args hA
  have htn : tn = (argsT t).length := hT.1
  obtain ⟨W3, hW3, hB3, S3, T3, R3, hs3⟩ := boxesG w E.a E.n E.c E.b E.m E.d (opT t) (nameT t) (numT t) ta tn tc
  have hsz : size t = 1 + sizes (argsT t) := by cases t; rw [size]; rfl
  have hW := wlT_mk E.K E.V E.B t
  have hPe : ∀ (k : Nat) (x : Tm) A N C w', (argsT t)[k]? = some x → (wlT E.K E.V E.B x).e ≠ 0 → (∀ j y, j < k → (argsT t)[j]? = some y → (wlT E.K E.V E.B y).e = 0) → SlI w' A N C ((k : Int) :: (wlT E.K E.V E.B x).way) → Below w.heap.size w w' → (∀ g, g < w.heap.size → ∀ b o, A = some ⟨b, o, none⟩ → 0 < N → b ≠ g) → GtP (wlT E.K E.V E.B t) w (.returned (.agg #[.string ⟨#[]⟩, .slice A N C, .int .i64 (wlT E.K E.V E.B x).e])) w' := fun k x A N C w' h1 h2 h3 h4 h5 h6 => by
    have e1 := wlTs_bad (K := E.K) (V := E.V) (B := E.B) 0 k h1 h2 h3
    rw [Nat.zero_add] at e1
    rw [hW, e1, if_pos h2]
    exact ⟨A, N, C, rfl, h4, h5, h6⟩
  have hPo : (∀ x ∈ argsT t, (wlT E.K E.V E.B x).e = 0) → wlT E.K E.V E.B t = opW E.K E.V E.B (opT t) (nameT t) (numT t) (sosT E.K E.V E.B (argsT t)) := fun h => by
    rw [hW, wlTs_all 0 h, if_neg (by simp)]
  have hPz : ∀ (R : Wr) (so : ByteArray) (Er : Int) A C w', wlT E.K E.V E.B t = R → R = ⟨Er, [], so⟩ → (A = none → C = 0) → Below w.heap.size w w' → GtP (wlT E.K E.V E.B t) w (.returned (.agg #[.string so, .slice A 0 C, .int .i64 Er])) w' := fun R so Er A C w' h1 h2 h3 h4 => by
    rw [h1, h2]
    exact ⟨A, 0, C, rfl, ⟨rfl, Nat.zero_le _, h3, fun h => absurd h (by omega)⟩, h4, fun g _ b o _ h => absurd h (by omega)⟩
  have hPi : ∀ (R : Wr) (X : List Int) (Er : Int) A N C w', wlT E.K E.V E.B t = R → R = ⟨Er, X, ⟨#[]⟩⟩ → SlI w' A N C X → Below w.heap.size w w' → (∀ g, g < w.heap.size → ∀ b o, A = some ⟨b, o, none⟩ → 0 < N → b ≠ g) → GtP (wlT E.K E.V E.B t) w (.returned (.agg #[.string ⟨#[]⟩, .slice A N C, .int .i64 Er])) w' := fun R X Er A N C w' h1 h2 h3 h4 h5 => by
    rw [h1, h2]
    exact ⟨A, N, C, rfl, h3, h4, h5⟩
  have hsos : ∀ (k : Nat) (x : Tm), (argsT t)[k]? = some x → sosT E.K E.V E.B ((argsT t).take (k + 1)) = sosT E.K E.V E.B ((argsT t).take k) ++ [(wlT E.K E.V E.B x).so] := fun k x h => sosT_take h
  have hsl : ∀ k, k ≤ tn → (sosT E.K E.V E.B ((argsT t).take k)).length = k := fun k h => by simp [sosT]; omega
  have hall : (∀ j x, j < tn → (argsT t)[j]? = some x → (wlT E.K E.V E.B x).e = 0) → ∀ x ∈ argsT t, (wlT E.K E.V E.B x).e = 0 := fun h2 x hx => by
    obtain ⟨j, hj, rfl⟩ := List.mem_iff_getElem.1 hx
    exact h2 j _ (by omega) (List.getElem?_eq_getElem hj)
  have cT : ∀ (k : Nat) (x : Tm), (argsT t)[k]? = some x → ∀ ta' tn' tc' w', Below W3.heap.size W3 w' → ArW w' x ta' tn' tc' → _ := fun k x hk ta' tn' tc' w' h1 h3 =>
    hok x (List.mem_of_getElem? hk) E ta' tn' tc' w' (hE.b (bel_trans hB3 h1)) (hpp x (List.mem_of_getElem? hk)) (by have := sizes_mem (List.mem_of_getElem? hk); omega) h3
  have cV : ∀ w', Below W3.heap.size W3 w' → _ := fun w' h => Sort13_any (nameT t) E.vp E.vn E.vc E.V w' ((hE.b (bel_trans hB3 h)).2.2.1) (by have := hE.2.2.2.1; omega)
  have cFi : ∀ w', Below W3.heap.size W3 w' → Calls Try.prog 24 #[.agg #[.slice E.a E.n E.c, .slice E.b E.m E.d], .string (nameT t)] w' fun e w1 => ∃ A C, e = .returned (.tuple #[.agg #[.string (findC E.K (nameT t)).1, .slice A (findC E.K (nameT t)).2.1.length C, .string (findC E.K (nameT t)).2.2], .bool (hasN E.K (nameT t))]) ∧ SlS w1 A (findC E.K (nameT t)).2.1.length C (findC E.K (nameT t)).2.1 ∧ Below w'.heap.size w' w1 := fun w' h =>
    (Find13_any E.a E.n E.c E.b E.m E.d E.G (nameT t) w' ((hE.b (bel_trans hB3 h)).1) hE.2.1).mono fun e w1 ⟨f, h1, h2, h3, h4⟩ => by
      have h3' : f.core = findC E.K (nameT t) := h3
      rw [← h3']
      have hm : f.m = f.X.length := h2.1.1
      refine ⟨f.a, f.c, by rw [h1, hm]; rfl, ?_, h4⟩
      show SlS w1 f.a f.X.length f.c f.X
      rw [← hm]; exact h2
  have hBq : E.q = E.B.length := hE.2.2.2.2.1.1
  have hBat : ∀ (k : Nat) w', Below W3.heap.size W3 w' → k < E.q → ∃ b o x, E.p = some ⟨b, o, none⟩ ∧ w'.cell? ⟨b, o + k, none⟩ = some (.string x) ∧ E.B[k]? = some x := fun k w' h hk => by
    obtain ⟨b, o, x, h1, _, h2, h3, _⟩ := ((hE.b (bel_trans hB3 h)).2.2.2.2.1).at hk
    exact ⟨b, o, x, h1, h2, h3⟩
  have hq1 : E.q ≤ 1000000 := hE.2.2.2.2.2
  have hWay : ∀ (k : Nat) (x : Tm), (argsT t)[k]? = some x → (wlT E.K E.V E.B x).way.length ≤ 1000000 := fun k x h => by
    have h1 := way_len E.K E.V E.B x
    have h2 := sizes_mem (List.mem_of_getElem? h)
    omega
  generalize hD : sosT E.K E.V E.B = SOS at *
  generalize hWL : wlT E.K E.V E.B = WL at *
  generalize GtP (WL t) w = PP at *
  have HWay := Lib.hid hWay
  have HPe := Lib.hid hPe
  have HPo := Lib.hid hPo
  have HPz := Lib.hid hPz
  have HPi := Lib.hid hPi
  have Hsos := Lib.hid hsos
  have Hsl := Lib.hid hsl
  have Hall := Lib.hid hall
  have HT := Lib.hid cT
  have HV := Lib.hid cV
  have HFi := Lib.hid cFi
  have HTs := Lib.hid (TsW.b hT hB3)
  have HB3 := Lib.hid hB3
  have HS3 := Lib.hid S3
  have HT3 := Lib.hid T3
  have HR3 := Lib.hid R3
  have Hs3 := Lib.hid hs3
  have HBq := Lib.hid hBq
  have HBat := Lib.hid hBat
  have H12 := Lib.hid h12
  have Hle := Lib.hid hle
  have Hz := Lib.hid hz
  have htn8 : tn ≤ 8 := by omega
  have Hen : Hid (SOS ((argsT t).take tn) = SOS (argsT t)) := Lib.hid (by rw [List.take_of_length_le (by omega)])
  have Htn := Lib.hid htn
  have Hq1 := Lib.hid hq1
  have HO0 : Hid (OwnS W3 W3.heap.size (.slice none 0 0) (SOS ((argsT t).take 0))) := Lib.hid (by
    have : SOS ((argsT t).take 0) = [] := by rw [← hD]; rfl
    rw [this]; exact OwnS.nil _ _)
  have HQ := Lib.hid (show ∀ w', Below W3.heap.size W3 w' → (w'.cell? ⟨w.heap.size, 0, none⟩ = some (.slice E.a E.n E.c) ∧ w'.cell? ⟨w.heap.size, 1, none⟩ = some (.slice E.b E.m E.d) ∧ w'.cell? ⟨w.heap.size + 1, 0, none⟩ = some (.int .i64 (opT t)) ∧ w'.cell? ⟨w.heap.size + 1, 1, none⟩ = some (.string (nameT t)) ∧ w'.cell? ⟨w.heap.size + 1, 2, none⟩ = some (.int .i64 (numT t)) ∧ w'.cell? ⟨w.heap.size + 1, 3, none⟩ = some (.slice ta tn tc)) ∧
      (w'.cell? ⟨w.heap.size + 2, 0, none⟩ = some (.string ⟨#[]⟩) ∧ w'.cell? ⟨w.heap.size + 2, 1, none⟩ = some (.slice none 0 0) ∧ w'.cell? ⟨w.heap.size + 2, 2, none⟩ = some (.int .i64 0)) ∧ (w'.frozen? ⟨w.heap.size + 2, 0, none⟩ = false ∧ w'.frozen? ⟨w.heap.size + 2, 1, none⟩ = false ∧ w'.frozen? ⟨w.heap.size + 2, 2, none⟩ = false) ∧ GBox w' (w.heap.size + 2) ⟨#[]⟩ none 0 0 0 from fun w' h => by
    obtain ⟨t0, t1, t2, t3⟩ := (TBox.b HT3.out h).four
    obtain ⟨s0, s1⟩ := (HS3.out.b h).two
    exact ⟨⟨s0, s1, t0, t1, t2, t3⟩, (GBox.b HR3.out h).three, (GBox.b HR3.out h).free, GBox.b HR3.out h⟩)
  obtain ⟨⟨s0, s1, t0, t1, t2, t3⟩, ⟨r0, r1, r2⟩, ⟨q0, q1, q2⟩, -⟩ := HQ.out W3 (Below.refl _ _)
  clear hWay hok hE hp hs hA hT hPe hPo hPz hPi hsos hsl hall cT cV cFi hD hWL hW htn hB3 S3 T3 R3 hs3 hsz h12 hle hz h8 hpp hBq hBat hq1
  go_enter Try.func31, Try.ntmps31
  go_wp2
  go_loopw [9, 10] (fun v i wr0 => ∃ (wr : World) (k : Nat) (v' : Value), wr = wr0 ∧ k ≤ tn ∧ v' = v ∧ i = .int .i64 k ∧ Below W3.heap.size W3 wr ∧ Hid (OwnS wr W3.heap.size v' (SOS ((argsT t).take k))) ∧ Hid (∀ j x, j < k → (argsT t)[j]? = some x → (WL x).e = 0)) (fun _ i _ => tn - (intOf i).toNat)
  case atStart => exact ⟨_, 0, _, rfl, by omega, rfl, rfl, Below.refl _ _, HO0, Lib.hid (fun j x h => absurd h (by omega))⟩
  case round =>
    obtain ⟨wr, k, v, rfl, hk, rfl, rfl, hB, hOw, hprev⟩ := hrel
    have zz := HQ.out wr hB
    obtain ⟨⟨s0, s1, t0, t1, t2, t3⟩, ⟨r0, r1, r2⟩, ⟨q0, q1, q2⟩, HG⟩ := zz
    by_cases hlt : k < tn
    · obtain ⟨bb, o, x, ta', tn', tc', rfl, hb, y0', y1', y2', y3', hx, hA⟩ := HTs.out.at hlt
      have HY := Lib.hid (show ∀ w', Below W3.heap.size W3 w' → w'.cell? ⟨bb, o + k * 4, none⟩ = some (.int .i64 (opT x)) ∧ w'.cell? ⟨bb, o + k * 4 + 1, none⟩ = some (.string (nameT x)) ∧ w'.cell? ⟨bb, o + k * 4 + 1 + 1, none⟩ = some (.int .i64 (numT x)) ∧ w'.cell? ⟨bb, o + k * 4 + 1 + 1 + 1, none⟩ = some (.slice ta' tn' tc') from fun w' h =>
        ⟨(h.cell (p := ⟨bb, _, none⟩) hb).trans y0', (h.cell (p := ⟨bb, _, none⟩) hb).trans y1', (h.cell (p := ⟨bb, _, none⟩) hb).trans y2', (h.cell (p := ⟨bb, _, none⟩) hb).trans y3'⟩)
      have hBd : Below wr.heap.size wr wr.drew := (Below.refl _ _).drew
      have hBt := bel_trans hB hBd
      have hBd2 : Below wr.heap.size wr (wr.alloc (.cells #[.string ⟨#[]⟩, .slice none 0 0, .int .i64 0] 40)).drew := (bel_alloc (Below.refl _ _) _).drew
      have hBt2 := bel_trans hB hBd2
      have ct := fun (w' : World) (h : Below W3.heap.size W3 w') => HT.out k x hx ta' tn' tc' w' h (ArW.b hA h)
      unfold GtP at ct
      have hk0 : 0 ≤ (k : Int) := by omega
      have hk1 : (k : Int) < (tn : Int) := by omega
      have Hhx := Lib.hid hx
      have zz := HY.out wr hB
      obtain ⟨y0, y1, y2, y3⟩ := zz
      clear hx hA y0' y1' y2' y3' HT HV HFi HPz HPi HPo HTs
      go_wp2
      refine wp_region_noPanic ?_
      refine wp_region_held_drew (S := fun w' => w'.cell? ⟨w.heap.size, 0, none⟩ = some (.slice E.a E.n E.c) ∧ w'.cell? ⟨w.heap.size, 1, none⟩ = some (.slice E.b E.m E.d) ∧ w'.cell? ⟨w.heap.size + 1, 3, none⟩ = some (.slice (some ⟨bb, o, none⟩) tn tc) ∧ w'.cell? ⟨bb, o + k * 4, none⟩ = some (.int .i64 (opT x)) ∧ w'.cell? ⟨bb, o + k * 4 + 1, none⟩ = some (.string (nameT x)) ∧ w'.cell? ⟨bb, o + k * 4 + 1 + 1, none⟩ = some (.int .i64 (numT x)) ∧ w'.cell? ⟨bb, o + k * 4 + 1 + 1 + 1, none⟩ = some (.slice ta' tn' tc')) (by kernel_rfl) (by exact ⟨(HQ.out _ hBt).1.1, (HQ.out _ hBt).1.2.1, (HQ.out _ hBt).1.2.2.2.2.2, HY.out _ hBt⟩) (fun hHeld => ?_)
      refine wpAnyH_take (i := 0) (v := ?_) rfl (by kernel_rfl) (by kernel_rfl) (by kernel_rfl) (fun _ _ _ h => h) (Or.inl ⟨by rfl, ?hy⟩) (by assumption) ?_
      case hy => (intro w hSw; (try dsimp only at hSw); go_simp; try (with_reducible rfl))
      (try simp only [List.getElem_toArray, List.getElem_cons_succ, List.getElem_cons_zero, Act.put, List.setIfInBounds_toArray, List.set_cons_zero, List.set_cons_succ])
      refine wpAnyH_take (i := 1) (v := ?_) rfl (by kernel_rfl) (by kernel_rfl) (by kernel_rfl) (fun _ _ _ h => h) (Or.inl ⟨by rfl, ?hy⟩) (by assumption) ?_
      case hy => (intro w hSw; (try dsimp only at hSw); go_simp; try (with_reducible rfl))
      (try simp only [List.getElem_toArray, List.getElem_cons_succ, List.getElem_cons_zero, Act.put, List.setIfInBounds_toArray, List.set_cons_zero, List.set_cons_succ])
      refine wpAnyH_take (i := 2) (v := ?_) rfl (by kernel_rfl) (by kernel_rfl) (by kernel_rfl) (fun _ _ _ h => h) (Or.inl ⟨by rfl, ?hy⟩) (by assumption) ?_
      case hy => (intro w hSw; (try dsimp only at hSw); go_simp; try (with_reducible rfl))
      (try simp only [List.getElem_toArray, List.getElem_cons_succ, List.getElem_cons_zero, Act.put, List.setIfInBounds_toArray, List.set_cons_zero, List.set_cons_succ])
      refine wpAnyH_take (i := 3) (v := ?_) rfl (by kernel_rfl) (by kernel_rfl) (by kernel_rfl) (fun _ _ _ h => h) (Or.inl ⟨by rfl, ?hy⟩) (by assumption) ?_
      case hy => (intro w hSw; (try dsimp only at hSw); go_simp; try (with_reducible rfl))
      (try simp only [List.getElem_toArray, List.getElem_cons_succ, List.getElem_cons_zero, Act.put, List.setIfInBounds_toArray, List.set_cons_zero, List.set_cons_succ])
      refine wpAnyH_take (i := 4) (v := ?_) rfl (by kernel_rfl) (by kernel_rfl) (by kernel_rfl) (fun _ _ _ h => h) (Or.inl ⟨by rfl, ?hy⟩) (by assumption) ?_
      case hy => (intro w hSw; (try dsimp only at hSw); go_simp; try (with_reducible rfl))
      (try simp only [List.getElem_toArray, List.getElem_cons_succ, List.getElem_cons_zero, Act.put, List.setIfInBounds_toArray, List.set_cons_zero, List.set_cons_succ])
      refine wpAnyH_take (i := 5) (v := ?_) rfl (by kernel_rfl) (by kernel_rfl) (by kernel_rfl) (fun _ _ _ h => h) (Or.inl ⟨by rfl, ?hy⟩) (by assumption) ?_
      case hy => (intro w hSw; (try dsimp only at hSw); go_simp; try (with_reducible rfl))
      (try simp only [List.getElem_toArray, List.getElem_cons_succ, List.getElem_cons_zero, Act.put, List.setIfInBounds_toArray, List.set_cons_zero, List.set_cons_succ])
      refine wpAnyH_take (i := 6) (v := ?_) rfl (by kernel_rfl) (by kernel_rfl) (by kernel_rfl) (fun _ _ _ h => h) (Or.inl ⟨by rfl, ?hy⟩) (by assumption) ?_
      case hy => (intro w hSw; (try dsimp only at hSw); go_simp; try (with_reducible rfl))
      (try simp only [List.getElem_toArray, List.getElem_cons_succ, List.getElem_cons_zero, Act.put, List.setIfInBounds_toArray, List.set_cons_zero, List.set_cons_succ])
      refine wpAnyH_take (i := 7) (v := ?_) rfl (by kernel_rfl) (by kernel_rfl) (by kernel_rfl) (fun _ _ _ h => h) (Or.inl ⟨by rfl, ?hy⟩) (by assumption) ?_
      case hy => (intro w hSw; (try dsimp only at hSw); go_simp; try (with_reducible rfl))
      (try simp only [List.getElem_toArray, List.getElem_cons_succ, List.getElem_cons_zero, Act.put, List.setIfInBounds_toArray, List.set_cons_zero, List.set_cons_succ])
      refine wpAnyH_ready (rs := [8, 9]) (by kernel_rfl) (by simp) ?_
      refine AllReadyH.cons rfl (fun KK hKK => ?_) (AllReadyH.cons rfl (fun KK hKK => ?_) (AllReadyH.nil))
      · go_simp
        (go_at_call 31; ((with_reducible refine (ct _ hBt).mono ?_); rintro e w7 ⟨A7, N7, C7, rfl, hI7, hb7, ho7⟩; have B7 : Below W3.heap.size W3 w7 := bel_trans hBt hb7))
        refine hKK.out _ _ (by exact ⟨(HQ.out _ B7).1.1, (HQ.out _ B7).1.2.1, (HQ.out _ B7).1.2.2.2.2.2, HY.out _ B7⟩) (fun hHeld => ?_)
        clear hKK KK
        (try simp only [List.getElem_toArray, List.getElem_cons_succ, List.getElem_cons_zero, Act.put, List.setIfInBounds_toArray, List.set_cons_zero, List.set_cons_succ])
        refine wpAnyH_ready (rs := [9]) (by kernel_rfl) (by simp) ?_
        refine AllReadyH.cons rfl (fun KK hKK => ?_) (AllReadyH.nil)
        have GX := GBox.new w7 ⟨#[]⟩ none 0 0 0
        go_simp
        refine hKK.out _ _ (by exact ⟨(HQ.out _ (bel_alloc B7 _)).1.1, (HQ.out _ (bel_alloc B7 _)).1.2.1, (HQ.out _ (bel_alloc B7 _)).1.2.2.2.2.2, HY.out _ (bel_alloc B7 _)⟩) (fun hHeld => ?_)
        clear hKK KK
        (try simp only [List.getElem_toArray, List.getElem_cons_succ, List.getElem_cons_zero, Act.put, List.setIfInBounds_toArray, List.set_cons_zero, List.set_cons_succ])
        have gx0 := GX.three.1; have gx1 := GX.three.2.1; have gx2 := GX.three.2.2; have gf0 := GX.free.1; have gf1 := GX.free.2.1; have gf2 := GX.free.2.2
        refine wpAnyH_ready (rs := [10]) (by kernel_rfl) (by simp) ?_
        refine AllReadyH.cons rfl (fun KK hKK => ?_) (AllReadyH.nil)
        go_simp
        refine hKK.out _ _ (by exact ⟨(HQ.out _ (bel_alloc B7 _)).1.1, (HQ.out _ (bel_alloc B7 _)).1.2.1, (HQ.out _ (bel_alloc B7 _)).1.2.2.2.2.2, HY.out _ (bel_alloc B7 _)⟩) (fun hHeld => ?_)
        clear hKK KK
        (try simp only [List.getElem_toArray, List.getElem_cons_succ, List.getElem_cons_zero, Act.put, List.setIfInBounds_toArray, List.set_cons_zero, List.set_cons_succ])
        refine wpAnyH_done (by kernel_rfl) ?_ _
        refine NoPanic.normal ?_
        have GP : GBox (w7.alloc (.cells #[.string (WL x).so, .slice A7 N7 C7, .int .i64 (WL x).e] 40)) w7.heap.size (WL x).so A7 N7 C7 (WL x).e := GBox.new _ _ _ _ _ _
        have BW : Below wr.heap.size wr (w7.alloc (.cells #[.string (WL x).so, .slice A7 N7 C7, .int .i64 (WL x).e] 40)) := bel_alloc (bel_trans hBd hb7) _
        have IC : SlI (w7.alloc (.cells #[.string (WL x).so, .slice A7 N7 C7, .int .i64 (WL x).e] 40)) A7 N7 C7 (WL x).way := (SlI.below hI7 (bel_alloc (Below.refl _ _) _))
        have hgx : W3.heap.size ≤ w7.heap.size := Nat.le_trans B7.size (Nat.le_refl _)
        generalize hWc : (w7.alloc (.cells #[.string (WL x).so, .slice A7 N7 C7, .int .i64 (WL x).e] 40)) = Wc at *
        generalize hgg : w7.heap.size = gx at *
        clear hWc hgg GX hI7 ho7 gx0 gx1 gx2 gf0 gf1 gf2 hHeld hb7 B7
        try clear B8
        try clear b6
        have OC := Lib.hid (OwnS.below hOw.out BW)
        have BC : Below W3.heap.size W3 Wc := bel_trans hB BW
        have HIC := Lib.hid IC
        have HBC := Lib.hid BC
        obtain ⟨p0, p1, p2⟩ := GP.three
        have HGP := Lib.hid GP
        have Hgx := Lib.hid hgx
        clear hOw BW hBd hBd2 hBt hBt2 y0 y1 y2 y3 s0 s1 t0 t1 t2 t3 r0 r1 r2 q0 q1 q2 HG ct IC GP hgx HY
        by_cases he : (WL x).e = 0
        · have h1 : ((WL x).e != 0) = false := by simp [he]
          have B9 := bel_alloc BC (.cells #[.string (WL x).so] 9)
          have b9 : Below Wc.heap.size Wc (Wc.alloc (.cells #[.string (WL x).so] 9)) := bel_alloc (Below.refl _ _) _
          have O9 := Lib.hid (OwnS.below OC.out b9)
          have hOne : SlS (Wc.alloc (.cells #[.string (WL x).so] 9)) (some ⟨Wc.heap.size, 0, none⟩) 1 1 [(WL x).so] := ⟨⟨rfl, fun _ => ⟨Wc.heap.size, 0, rfl, by simp, fun i hi => by
            match i, hi with
            | 0, _ => exact Sgn.Blk.cell (Sgn.Blk.new Wc #[.string (WL x).so] 9) 0⟩⟩, Nat.le_refl _, fun h => by cases h⟩
          have HOne := Lib.hid hOne
          have hD := Hsl.out k hk
          have HDl := Lib.hid hD
          clear b9 hOne hD
          go_wp2_with (at_builtin; ((refine app_strs rfl (.tmp 44) (.tmp 47) rfl W3.heap.size v (SOS ((argsT t).take k)) rfl O9.out _ _ _ [(WL x).so] rfl HOne.out (by rw [HDl.out]; omega) (by have := B9.size; exact this) ?_); intro v1 w1 ho1 hg1))
          rw [← Hsos.out k x Hhx.out] at ho1
          have HO1 := Lib.hid ho1
          have HB1 := Lib.hid (B9.grown hg1 B9.size (fun q hq => (World.ownsRow.lt O9.out q hq).1))
          have hpr2 : Hid (∀ j y, j < k + 1 → (argsT t)[j]? = some y → (WL y).e = 0) := by
            intro j y hj hy
            by_cases hjk : j < k
            · exact hprev.out j y hjk hy
            · obtain rfl : j = k := by omega
              rw [Hhx.out] at hy
              rw [← Option.some.inj hy]; exact he
          clear ho1 hg1 OC O9 HOne hprev HIC HGP B9 BC p0 p1 p2
          go_roundw
          case rel => exact ⟨_, k + 1, v1, rfl, by omega, rfl, by go_num, HB1.out, HO1, hpr2⟩
          case measure => simp [intOf]; omega
        · have h1 : ((WL x).e != 0) = true := by simp [he]
          have hNw : N7 ≤ 1000000 := by rw [HIC.out.1]; exact HWay.out k x Hhx.out
          have ca := ahead_any (k : Int) A7 N7 C7 (WL x).way Wc.drew (HIC.out.below (Below.refl _ _).drew) hNw
          have hne2 : w.heap.size + 2 < gx := by have := Hgx.out; have := Hs3.out; omega
          have BCd : Below Wc.heap.size Wc Wc.drew := (Below.refl _ _).drew
          have HK := Lib.hid (show ∀ w', Below Wc.heap.size Wc w' → w'.cell? ⟨gx, 1, none⟩ = some (.slice A7 N7 C7) ∧ w'.cell? ⟨gx, 2, none⟩ = some (.int .i64 (WL x).e) from fun w' h => (GBox.b HGP.out h).three.2)
          go_wp2
          refine wp_region_noPanic ?_
          refine wp_region_held_drew (S := fun w' => w'.cell? ⟨gx, 1, none⟩ = some (.slice A7 N7 C7) ∧ w'.cell? ⟨gx, 2, none⟩ = some (.int .i64 (WL x).e)) (by kernel_rfl) (by exact HK.out _ BCd) (fun hHeld => ?_)
          refine wpAnyH_take (i := 0) (v := ?_) rfl (by kernel_rfl) (by kernel_rfl) (by kernel_rfl) (fun _ _ _ h => h) (Or.inl ⟨by rfl, ?hy⟩) (by assumption) ?_
          case hy => (intro w hSw; (try dsimp only at hSw); go_simp; try (with_reducible rfl))
          (try simp only [List.getElem_toArray, List.getElem_cons_succ, List.getElem_cons_zero, Act.put, List.setIfInBounds_toArray, List.set_cons_zero, List.set_cons_succ])
          refine wpAnyH_take (i := 1) (v := ?_) rfl (by kernel_rfl) (by kernel_rfl) (by kernel_rfl) (fun _ _ _ h => h) (Or.inl ⟨by rfl, ?hy⟩) (by assumption) ?_
          case hy => (intro w hSw; (try dsimp only at hSw); go_simp; try (with_reducible rfl))
          (try simp only [List.getElem_toArray, List.getElem_cons_succ, List.getElem_cons_zero, Act.put, List.setIfInBounds_toArray, List.set_cons_zero, List.set_cons_succ])
          refine wpAnyH_take (i := 2) (v := ?_) rfl (by kernel_rfl) (by kernel_rfl) (by kernel_rfl) (fun _ _ _ h => h) (Or.inl ⟨by rfl, ?hy⟩) (by assumption) ?_
          case hy => (intro w hSw; (try dsimp only at hSw); go_simp; try (with_reducible rfl))
          (try simp only [List.getElem_toArray, List.getElem_cons_succ, List.getElem_cons_zero, Act.put, List.setIfInBounds_toArray, List.set_cons_zero, List.set_cons_succ])
          refine wpAnyH_take (i := 4) (v := ?_) rfl (by kernel_rfl) (by kernel_rfl) (by kernel_rfl) (fun _ _ _ h => h) (Or.inl ⟨by rfl, ?hy⟩) (by assumption) ?_
          case hy => (intro w hSw; (try dsimp only at hSw); go_simp; try (with_reducible rfl))
          (try simp only [List.getElem_toArray, List.getElem_cons_succ, List.getElem_cons_zero, Act.put, List.setIfInBounds_toArray, List.set_cons_zero, List.set_cons_succ])
          refine wpAnyH_take (i := 5) (v := ?_) rfl (by kernel_rfl) (by kernel_rfl) (by kernel_rfl) (fun _ _ _ h => h) (Or.inl ⟨by rfl, ?hy⟩) (by assumption) ?_
          case hy => (intro w hSw; (try dsimp only at hSw); go_simp; try (with_reducible rfl))
          (try simp only [List.getElem_toArray, List.getElem_cons_succ, List.getElem_cons_zero, Act.put, List.setIfInBounds_toArray, List.set_cons_zero, List.set_cons_succ])
          refine wpAnyH_ready (rs := [3]) (by kernel_rfl) (by simp) ?_
          refine AllReadyH.cons rfl (fun KK hKK => ?_) AllReadyH.nil
          go_simp
          (go_at_call 58; ((with_reducible refine ca.mono ?_); rintro e w8 ⟨A8, C8, rfl, hI8, hb8, ho8⟩; have b8 := bel_trans BCd hb8; have B8 := bel_trans HBC.out b8; have zz := HQ.out _ B8; obtain ⟨-, ⟨r0, r1, r2⟩, ⟨q0, q1, q2⟩, HG8⟩ := zz))
          refine hKK.out _ _ (by exact HK.out _ b8) (fun hHeld => ?_)
          clear hKK KK
          (try simp only [List.getElem_toArray, List.getElem_cons_succ, List.getElem_cons_zero, Act.put, List.setIfInBounds_toArray, List.set_cons_zero, List.set_cons_succ])
          refine wpAnyH_take (i := 6) (v := ?_) rfl (by kernel_rfl) (by kernel_rfl) (by kernel_rfl) (fun _ _ _ h => h) (Or.inl ⟨by rfl, ?hy⟩) (by assumption) ?_
          case hy => (intro w hSw; (try dsimp only at hSw); go_simp; try (with_reducible rfl))
          (try simp only [List.getElem_toArray, List.getElem_cons_succ, List.getElem_cons_zero, Act.put, List.setIfInBounds_toArray, List.set_cons_zero, List.set_cons_succ])
          refine wpAnyH_ready (rs := [7]) (by kernel_rfl) (by simp) ?_
          refine AllReadyH.cons rfl (fun KK hKK => ?_) (AllReadyH.nil)
          go_simp
          refine hKK.out _ _ (by exact ⟨far3c (HK.out _ b8).1 (Nat.ne_of_lt hne2), far3c (HK.out _ b8).2 (Nat.ne_of_lt hne2)⟩) (fun hHeld => ?_)
          clear hKK KK
          (try simp only [List.getElem_toArray, List.getElem_cons_succ, List.getElem_cons_zero, Act.put, List.setIfInBounds_toArray, List.set_cons_zero, List.set_cons_succ])
          refine wpAnyH_done (by kernel_rfl) ?_ _
          refine NoPanic.normal ?_
          have R6 := HG8.put ⟨#[]⟩ A8 (N7 + 1) C8 (WL x).e
          obtain ⟨x0, x1, x2⟩ := R6.three
          have hfar : ∀ b o, A8 = some ⟨b, o, none⟩ → 0 < N7 + 1 → b ≠ w.heap.size + 2 := ho8 _ (by show w.heap.size + 2 < Wc.heap.size; have := HBC.out.size; have := Hs3.out; omega)
          have HZ := Lib.hid (HPe.out k x A8 (N7 + 1) C8 _ Hhx.out he hprev.out (((hI8.far hfar (.string ⟨#[]⟩)).far hfar (.slice A8 (N7 + 1) C8)).far hfar (.int .i64 (WL x).e)) (Sgn.below_set3 (bel_trans HB3.out B8) (show w.heap.size ≤ w.heap.size + 2 by omega) _ _ _) (fun g hg => ho8 g (by show g < Wc.heap.size; have := HBC.out.size; have := Hs3.out; omega)))
          go_wp2
          try (simp [bodyPost, results, Try.results31, go_sem, x0, x1, x2])
          exact HZ.out
      · go_simp
        refine hKK.out _ _ (by exact ⟨(HQ.out _ hBt2).1.1, (HQ.out _ hBt2).1.2.1, (HQ.out _ hBt2).1.2.2.2.2.2, HY.out _ hBt2⟩) (fun hHeld => ?_)
        clear hKK KK
        (try simp only [List.getElem_toArray, List.getElem_cons_succ, List.getElem_cons_zero, Act.put, List.setIfInBounds_toArray, List.set_cons_zero, List.set_cons_succ])
        refine wpAnyH_ready (rs := [8]) (by kernel_rfl) (by simp) ?_
        refine AllReadyH.cons rfl (fun KK hKK => ?_) (AllReadyH.nil)
        go_simp
        (go_at_call 31; ((with_reducible refine (ct _ hBt2).mono ?_); rintro e w7 ⟨A7, N7, C7, rfl, hI7, hb7, ho7⟩; have B7 : Below W3.heap.size W3 w7 := bel_trans hBt2 hb7))
        refine hKK.out _ _ (by exact ⟨(HQ.out _ B7).1.1, (HQ.out _ B7).1.2.1, (HQ.out _ B7).1.2.2.2.2.2, HY.out _ B7⟩) (fun hHeld => ?_)
        clear hKK KK
        (try simp only [List.getElem_toArray, List.getElem_cons_succ, List.getElem_cons_zero, Act.put, List.setIfInBounds_toArray, List.set_cons_zero, List.set_cons_succ])
        have GX := GBox.b (GBox.b (GBox.new wr ⟨#[]⟩ none 0 0 0) (Below.refl _ _).drew) hb7
        have gx0 := GX.three.1; have gx1 := GX.three.2.1; have gx2 := GX.three.2.2; have gf0 := GX.free.1; have gf1 := GX.free.2.1; have gf2 := GX.free.2.2
        refine wpAnyH_ready (rs := [10]) (by kernel_rfl) (by simp) ?_
        refine AllReadyH.cons rfl (fun KK hKK => ?_) (AllReadyH.nil)
        go_simp
        refine hKK.out _ _ (by exact ⟨(HQ.out _ (Sgn.below_set3 B7 hB.size _ _ _)).1.1, (HQ.out _ (Sgn.below_set3 B7 hB.size _ _ _)).1.2.1, (HQ.out _ (Sgn.below_set3 B7 hB.size _ _ _)).1.2.2.2.2.2, HY.out _ (Sgn.below_set3 B7 hB.size _ _ _)⟩) (fun hHeld => ?_)
        clear hKK KK
        (try simp only [List.getElem_toArray, List.getElem_cons_succ, List.getElem_cons_zero, Act.put, List.setIfInBounds_toArray, List.set_cons_zero, List.set_cons_succ])
        refine wpAnyH_done (by kernel_rfl) ?_ _
        refine NoPanic.normal ?_
        have GP : GBox (((w7.setCell ⟨wr.heap.size, 0, none⟩ (.string (WL x).so)).setCell ⟨wr.heap.size, 1, none⟩ (.slice A7 N7 C7)).setCell ⟨wr.heap.size, 2, none⟩ (.int .i64 (WL x).e)) wr.heap.size (WL x).so A7 N7 C7 (WL x).e := GX.put _ _ _ _ _
        have BW : Below wr.heap.size wr (((w7.setCell ⟨wr.heap.size, 0, none⟩ (.string (WL x).so)).setCell ⟨wr.heap.size, 1, none⟩ (.slice A7 N7 C7)).setCell ⟨wr.heap.size, 2, none⟩ (.int .i64 (WL x).e)) := Sgn.below_set3 (bel_trans hBd2 hb7) (Nat.le_refl _) _ _ _
        have IC : SlI (((w7.setCell ⟨wr.heap.size, 0, none⟩ (.string (WL x).so)).setCell ⟨wr.heap.size, 1, none⟩ (.slice A7 N7 C7)).setCell ⟨wr.heap.size, 2, none⟩ (.int .i64 (WL x).e)) A7 N7 C7 (WL x).way := ((SlI.far hI7 (ho7 _ (by simp)) _).far (ho7 _ (by simp)) _).far (ho7 _ (by simp)) _
        have hgx : W3.heap.size ≤ wr.heap.size := hB.size
        generalize hWc : (((w7.setCell ⟨wr.heap.size, 0, none⟩ (.string (WL x).so)).setCell ⟨wr.heap.size, 1, none⟩ (.slice A7 N7 C7)).setCell ⟨wr.heap.size, 2, none⟩ (.int .i64 (WL x).e)) = Wc at *
        have hgg := True.intro
        clear hWc hgg GX hI7 ho7 gx0 gx1 gx2 gf0 gf1 gf2 hHeld hb7 B7
        try clear B8
        try clear b6
        have OC := Lib.hid (OwnS.below hOw.out BW)
        have BC : Below W3.heap.size W3 Wc := bel_trans hB BW
        have HIC := Lib.hid IC
        have HBC := Lib.hid BC
        obtain ⟨p0, p1, p2⟩ := GP.three
        have HGP := Lib.hid GP
        have Hgx := Lib.hid hgx
        clear hOw BW hBd hBd2 hBt hBt2 y0 y1 y2 y3 s0 s1 t0 t1 t2 t3 r0 r1 r2 q0 q1 q2 HG ct IC GP hgx HY
        by_cases he : (WL x).e = 0
        · have h1 : ((WL x).e != 0) = false := by simp [he]
          have B9 := bel_alloc BC (.cells #[.string (WL x).so] 9)
          have b9 : Below Wc.heap.size Wc (Wc.alloc (.cells #[.string (WL x).so] 9)) := bel_alloc (Below.refl _ _) _
          have O9 := Lib.hid (OwnS.below OC.out b9)
          have hOne : SlS (Wc.alloc (.cells #[.string (WL x).so] 9)) (some ⟨Wc.heap.size, 0, none⟩) 1 1 [(WL x).so] := ⟨⟨rfl, fun _ => ⟨Wc.heap.size, 0, rfl, by simp, fun i hi => by
            match i, hi with
            | 0, _ => exact Sgn.Blk.cell (Sgn.Blk.new Wc #[.string (WL x).so] 9) 0⟩⟩, Nat.le_refl _, fun h => by cases h⟩
          have HOne := Lib.hid hOne
          have hD := Hsl.out k hk
          have HDl := Lib.hid hD
          clear b9 hOne hD
          go_wp2_with (at_builtin; ((refine app_strs rfl (.tmp 44) (.tmp 47) rfl W3.heap.size v (SOS ((argsT t).take k)) rfl O9.out _ _ _ [(WL x).so] rfl HOne.out (by rw [HDl.out]; omega) (by have := B9.size; exact this) ?_); intro v1 w1 ho1 hg1))
          rw [← Hsos.out k x Hhx.out] at ho1
          have HO1 := Lib.hid ho1
          have HB1 := Lib.hid (B9.grown hg1 B9.size (fun q hq => (World.ownsRow.lt O9.out q hq).1))
          have hpr2 : Hid (∀ j y, j < k + 1 → (argsT t)[j]? = some y → (WL y).e = 0) := by
            intro j y hj hy
            by_cases hjk : j < k
            · exact hprev.out j y hjk hy
            · obtain rfl : j = k := by omega
              rw [Hhx.out] at hy
              rw [← Option.some.inj hy]; exact he
          clear ho1 hg1 OC O9 HOne hprev HIC HGP B9 BC p0 p1 p2
          go_roundw
          case rel => exact ⟨_, k + 1, v1, rfl, by omega, rfl, by go_num, HB1.out, HO1, hpr2⟩
          case measure => simp [intOf]; omega
        · have h1 : ((WL x).e != 0) = true := by simp [he]
          have hNw : N7 ≤ 1000000 := by rw [HIC.out.1]; exact HWay.out k x Hhx.out
          have ca := ahead_any (k : Int) A7 N7 C7 (WL x).way Wc.drew (HIC.out.below (Below.refl _ _).drew) hNw
          have hne2 : w.heap.size + 2 < wr.heap.size := by have := Hgx.out; have := Hs3.out; omega
          have BCd : Below Wc.heap.size Wc Wc.drew := (Below.refl _ _).drew
          have HK := Lib.hid (show ∀ w', Below Wc.heap.size Wc w' → w'.cell? ⟨wr.heap.size, 1, none⟩ = some (.slice A7 N7 C7) ∧ w'.cell? ⟨wr.heap.size, 2, none⟩ = some (.int .i64 (WL x).e) from fun w' h => (GBox.b HGP.out h).three.2)
          go_wp2
          refine wp_region_noPanic ?_
          refine wp_region_held_drew (S := fun w' => w'.cell? ⟨wr.heap.size, 1, none⟩ = some (.slice A7 N7 C7) ∧ w'.cell? ⟨wr.heap.size, 2, none⟩ = some (.int .i64 (WL x).e)) (by kernel_rfl) (by exact HK.out _ BCd) (fun hHeld => ?_)
          refine wpAnyH_take (i := 0) (v := ?_) rfl (by kernel_rfl) (by kernel_rfl) (by kernel_rfl) (fun _ _ _ h => h) (Or.inl ⟨by rfl, ?hy⟩) (by assumption) ?_
          case hy => (intro w hSw; (try dsimp only at hSw); go_simp; try (with_reducible rfl))
          (try simp only [List.getElem_toArray, List.getElem_cons_succ, List.getElem_cons_zero, Act.put, List.setIfInBounds_toArray, List.set_cons_zero, List.set_cons_succ])
          refine wpAnyH_take (i := 1) (v := ?_) rfl (by kernel_rfl) (by kernel_rfl) (by kernel_rfl) (fun _ _ _ h => h) (Or.inl ⟨by rfl, ?hy⟩) (by assumption) ?_
          case hy => (intro w hSw; (try dsimp only at hSw); go_simp; try (with_reducible rfl))
          (try simp only [List.getElem_toArray, List.getElem_cons_succ, List.getElem_cons_zero, Act.put, List.setIfInBounds_toArray, List.set_cons_zero, List.set_cons_succ])
          refine wpAnyH_take (i := 2) (v := ?_) rfl (by kernel_rfl) (by kernel_rfl) (by kernel_rfl) (fun _ _ _ h => h) (Or.inl ⟨by rfl, ?hy⟩) (by assumption) ?_
          case hy => (intro w hSw; (try dsimp only at hSw); go_simp; try (with_reducible rfl))
          (try simp only [List.getElem_toArray, List.getElem_cons_succ, List.getElem_cons_zero, Act.put, List.setIfInBounds_toArray, List.set_cons_zero, List.set_cons_succ])
          refine wpAnyH_take (i := 4) (v := ?_) rfl (by kernel_rfl) (by kernel_rfl) (by kernel_rfl) (fun _ _ _ h => h) (Or.inl ⟨by rfl, ?hy⟩) (by assumption) ?_
          case hy => (intro w hSw; (try dsimp only at hSw); go_simp; try (with_reducible rfl))
          (try simp only [List.getElem_toArray, List.getElem_cons_succ, List.getElem_cons_zero, Act.put, List.setIfInBounds_toArray, List.set_cons_zero, List.set_cons_succ])
          refine wpAnyH_take (i := 5) (v := ?_) rfl (by kernel_rfl) (by kernel_rfl) (by kernel_rfl) (fun _ _ _ h => h) (Or.inl ⟨by rfl, ?hy⟩) (by assumption) ?_
          case hy => (intro w hSw; (try dsimp only at hSw); go_simp; try (with_reducible rfl))
          (try simp only [List.getElem_toArray, List.getElem_cons_succ, List.getElem_cons_zero, Act.put, List.setIfInBounds_toArray, List.set_cons_zero, List.set_cons_succ])
          refine wpAnyH_ready (rs := [3]) (by kernel_rfl) (by simp) ?_
          refine AllReadyH.cons rfl (fun KK hKK => ?_) AllReadyH.nil
          go_simp
          (go_at_call 58; ((with_reducible refine ca.mono ?_); rintro e w8 ⟨A8, C8, rfl, hI8, hb8, ho8⟩; have b8 := bel_trans BCd hb8; have B8 := bel_trans HBC.out b8; have zz := HQ.out _ B8; obtain ⟨-, ⟨r0, r1, r2⟩, ⟨q0, q1, q2⟩, HG8⟩ := zz))
          refine hKK.out _ _ (by exact HK.out _ b8) (fun hHeld => ?_)
          clear hKK KK
          (try simp only [List.getElem_toArray, List.getElem_cons_succ, List.getElem_cons_zero, Act.put, List.setIfInBounds_toArray, List.set_cons_zero, List.set_cons_succ])
          refine wpAnyH_take (i := 6) (v := ?_) rfl (by kernel_rfl) (by kernel_rfl) (by kernel_rfl) (fun _ _ _ h => h) (Or.inl ⟨by rfl, ?hy⟩) (by assumption) ?_
          case hy => (intro w hSw; (try dsimp only at hSw); go_simp; try (with_reducible rfl))
          (try simp only [List.getElem_toArray, List.getElem_cons_succ, List.getElem_cons_zero, Act.put, List.setIfInBounds_toArray, List.set_cons_zero, List.set_cons_succ])
          refine wpAnyH_ready (rs := [7]) (by kernel_rfl) (by simp) ?_
          refine AllReadyH.cons rfl (fun KK hKK => ?_) (AllReadyH.nil)
          go_simp
          refine hKK.out _ _ (by exact ⟨far3c (HK.out _ b8).1 (Nat.ne_of_lt hne2), far3c (HK.out _ b8).2 (Nat.ne_of_lt hne2)⟩) (fun hHeld => ?_)
          clear hKK KK
          (try simp only [List.getElem_toArray, List.getElem_cons_succ, List.getElem_cons_zero, Act.put, List.setIfInBounds_toArray, List.set_cons_zero, List.set_cons_succ])
          refine wpAnyH_done (by kernel_rfl) ?_ _
          refine NoPanic.normal ?_
          have R6 := HG8.put ⟨#[]⟩ A8 (N7 + 1) C8 (WL x).e
          obtain ⟨x0, x1, x2⟩ := R6.three
          have hfar : ∀ b o, A8 = some ⟨b, o, none⟩ → 0 < N7 + 1 → b ≠ w.heap.size + 2 := ho8 _ (by show w.heap.size + 2 < Wc.heap.size; have := HBC.out.size; have := Hs3.out; omega)
          have HZ := Lib.hid (HPe.out k x A8 (N7 + 1) C8 _ Hhx.out he hprev.out (((hI8.far hfar (.string ⟨#[]⟩)).far hfar (.slice A8 (N7 + 1) C8)).far hfar (.int .i64 (WL x).e)) (Sgn.below_set3 (bel_trans HB3.out B8) (show w.heap.size ≤ w.heap.size + 2 by omega) _ _ _) (fun g hg => ho8 g (by show g < Wc.heap.size; have := HBC.out.size; have := Hs3.out; omega)))
          go_wp2
          try (simp [bodyPost, results, Try.results31, go_sem, x0, x1, x2])
          exact HZ.out
    · obtain rfl : k = tn := by omega
      have hk0 : ¬ (k : Int) < (k : Int) := by omega
      have hoW := HPo.out (Hall.out hprev.out)
      have hOwn := hOw.out
      rw [Hen.out] at hOwn
      obtain ⟨GA, GC, rfl, hGS⟩ := hOwn.slS
      have hGl : (SOS (argsT t)).length = k := by rw [← Hen.out]; exact Hsl.out k (Nat.le_refl _)
      rw [hGl] at hGS
      have HGS := Lib.hid hGS
      have HGI := Lib.hid (show IsS wr GA k (SOS (argsT t)) from hGS.1)
      have HBr := Lib.hid (bel_trans HB3.out hB)
      have HGl := Lib.hid hGl
      clear HT HPe hOw hprev Hall Hsos Hsl HO0 hOwn hGS HPo
      generalize SOS (argsT t) = D at *
      clear Hen
      generalize opT t = op at *
      generalize nameT t = nm at *
      generalize numT t = nu at *
      have hz0 : op = 2 → 0 ≤ nu := Hz.out
      have hle0 : ¬ op = 1 → ¬ op = 2 → ¬ op = 3 → k ≤ 2 := fun h1 h2 h3 => by have := Hle.out h1 h2 h3; have := Htn.out; omega
      have HGw := Lib.hid HG
      clear Hz Hle H12 Htn HTs HS3 HT3 HR3
      by_cases h1 : op = 1
      · subst h1
        clear HFi HPi hz0 hle0
        unfold sortA at HV
        cases hs : sortV E.V nm with
        | none =>
          have cv := HV.out wr hB
          rw [hs] at cv
          have HVc := Lib.hid cv
          clear HV cv
          have zz := HVc.out
          go_wp2_with (go_at_call 20; ((with_reducible refine zz.mono ?_); rintro e w9 ⟨rfl, hw9⟩; have hw9b := hw9.symm; subst hw9b))
          have R6 := HGw.out.put ⟨#[]⟩ none 0 0 10
          obtain ⟨x0, x1, x2⟩ := R6.three
          have HZ := Lib.hid (HPz.out (Wr.bad 10 []) ⟨#[]⟩ 10 none 0 _ (hoW.trans (by unfold opW; rw [if_pos rfl, hs])) rfl (fun _ => rfl) (Sgn.below_set3 HBr.out (show w.heap.size ≤ w.heap.size + 2 by omega) (.string ⟨#[]⟩) (.slice none 0 0) (.int .i64 10)))
          first | exact HZ.out | (simp [bodyPost, results, Try.results31, go_sem, x0, x1, x2]; exact HZ.out)
        | some x =>
          have cv := HV.out wr hB
          rw [hs] at cv
          have HVc := Lib.hid cv
          clear HV cv
          have zz := HVc.out
          go_wp2_with (go_at_call 20; ((with_reducible refine zz.mono ?_); rintro e w9 ⟨rfl, hw9⟩; have hw9b := hw9.symm; subst hw9b))
          have R6 := HGw.out.put x none 0 0 0
          obtain ⟨x0, x1, x2⟩ := R6.three
          have HZ := Lib.hid (HPz.out (Wr.ok x) x 0 none 0 _ (hoW.trans (by unfold opW; rw [if_pos rfl, hs])) rfl (fun _ => rfl) (Sgn.below_set3 HBr.out (show w.heap.size ≤ w.heap.size + 2 by omega) (.string x) (.slice none 0 0) (.int .i64 0)))
          first | exact HZ.out | (simp [bodyPost, results, Try.results31, go_sem, x0, x1, x2]; exact HZ.out)
      · have e1 : (op == 1) = false := by simp [h1]
        have g1 : (op = 1) = False := by simp [h1]
        by_cases h2 : op = 2
        · subst h2
          obtain ⟨zn, rfl⟩ : ∃ zn : Nat, nu = (zn : Int) := ⟨nu.toNat, by have := hz0 rfl; omega⟩
          clear HV HFi HPi hz0 hle0
          by_cases hzq : (E.q : Int) ≤ (zn : Int)
          · have d1 : decide ((E.q : Int) ≤ (zn : Int)) = true := decide_eq_true hzq
            go_wp2
            have R6 := HGw.out.put ⟨#[]⟩ none 0 0 13
            obtain ⟨x0, x1, x2⟩ := R6.three
            have HZ := Lib.hid (HPz.out (Wr.bad 13 []) ⟨#[]⟩ 13 none 0 _ (hoW.trans (by unfold opW; rw [if_neg h1, if_pos rfl, if_pos (by rw [← HBq.out]; exact hzq)])) rfl (fun _ => rfl) (Sgn.below_set3 HBr.out (show w.heap.size ≤ w.heap.size + 2 by omega) (.string ⟨#[]⟩) (.slice none 0 0) (.int .i64 13)))
            first | exact HZ.out | (simp [bodyPost, results, Try.results31, go_sem, x0, x1, x2]; exact HZ.out)
          · have d1 : decide ((E.q : Int) ≤ (zn : Int)) = false := decide_eq_false hzq
            obtain ⟨j, hj⟩ : ∃ j, j = E.q - 1 - zn := ⟨_, rfl⟩
            obtain ⟨b', o', x, ep, cx, hx⟩ := HBat.out j wr hB (by omega)
            have hbd : bindB E.B zn = x := by unfold bindB; rw [show E.B.length - 1 - (zn : Int).toNat = j by rw [← HBq.out]; omega, hx]; rfl
            have i0 : ((E.q : Int) - 1 - (zn : Int)).toNat = j := by omega
            have i1 : 0 ≤ (E.q : Int) - 1 - (zn : Int) := by omega
            have i2 : (E.q : Int) - 1 - (zn : Int) < (E.q : Int) := by omega
            have v1 : wrap64 ((E.q : Int) - 1) = (E.q : Int) - 1 := by have := Hq1.out; unfold wrap64; omega
            have v2 : wrap64 ((E.q : Int) - 1 - (zn : Int)) = (E.q : Int) - 1 - (zn : Int) := by have := Hq1.out; unfold wrap64; omega
            have hqz := Lib.hid hzq
            have hbdH := Lib.hid hbd
            clear hj hx hzq hbd
            obtain ⟨ea, en, ec, eb, em, ed, eg, evp, evn, evc, epp, eqq, ee, eG, eV, eB⟩ := E
            dsimp only at *
            subst ep
            go_wp2
            have R6 := HGw.out.put x none 0 0 0
            obtain ⟨x0, x1, x2⟩ := R6.three
            have HZ := Lib.hid (HPz.out (Wr.ok x) x 0 none 0 _ (hoW.trans (by unfold opW; rw [if_neg h1, if_pos rfl, if_neg (by rw [← HBq.out]; exact Int.not_le.2 hqz.out)]; (try dsimp only); rw [hbdH.out])) rfl (fun _ => rfl) (Sgn.below_set3 HBr.out (show w.heap.size ≤ w.heap.size + 2 by omega) (.string x) (.slice none 0 0) (.int .i64 0)))
            first | exact HZ.out | (simp [bodyPost, results, Try.results31, go_sem, x0, x1, x2]; exact HZ.out)
        · have e2 : (op == 2) = false := by simp [h2]
          have g2 : (op = 2) = False := by simp [h2]
          clear HV HBat hz0
          by_cases h3 : op = 3
          · subst h3
            have hop : opW E.K E.V E.B 3 nm nu D = (if (!hasN E.K nm || (findC E.K nm).2.2.toList == sBool.toList) = true then .bad 10 [] else if (findC E.K nm).2.1.length ≠ D.length then .bad 12 [] else askW D (findC E.K nm).2.1 (findC E.K nm).2.2) := by unfold opW; rw [if_neg (by decide), if_neg (by decide), if_pos rfl]
            rw [hop, sBool_l] at hoW
            have cF := HFi.out wr hB
            clear HFi hop hle0
            generalize hasN E.K nm = H at *
            generalize findC E.K nm = FC at *
            obtain ⟨n0, X, rs⟩ := FC
            dsimp only at *
            rw [HGl.out] at hoW
            have HoW := Lib.hid hoW
            clear hoW
            cases H with
            | false =>
              clear r0 r1 r2 q0 q1 q2 HG
              go_wp2_with (go_at_call 24; ((with_reducible refine cF.mono ?_); rintro e w9 ⟨A9, C9, rfl, hS9, hb9⟩; have B9 := bel_trans hB hb9; have F9 := FBox.new w9 n0 A9 X.length C9 rs; have zy := F9.three; obtain ⟨y0, y1, y2⟩ := zy; have BF := bel_alloc B9 (.cells #[.string n0, .slice A9 X.length C9, .string rs] 62); have zz := HQ.out _ BF; obtain ⟨-, ⟨r0, r1, r2⟩, ⟨q0, q1, q2⟩, HG9⟩ := zz))
              have R6 := HG9.put ⟨#[]⟩ none 0 0 10
              obtain ⟨x0, x1, x2⟩ := R6.three
              have HZ := Lib.hid (HPz.out (Wr.bad 10 []) ⟨#[]⟩ 10 none 0 _ (by exact HoW.out.trans (by simp)) rfl (fun _ => rfl) (Sgn.below_set3 (bel_trans HB3.out BF) (show w.heap.size ≤ w.heap.size + 2 by omega) (.string ⟨#[]⟩) (.slice none 0 0) (.int .i64 10)))
              first | exact HZ.out | (simp [bodyPost, results, Try.results31, go_sem, x0, x1, x2]; exact HZ.out)
            | true =>
              cases hrb : rs.toList == [66, 111, 111, 108] with
              | true =>
                have hrb2 : (rs.toList = [66, 111, 111, 108]) = True := by simpa using hrb
                have Hrb := Lib.hid hrb
                clear r0 r1 r2 q0 q1 q2 HG
                go_wp2_with (go_at_call 24; ((with_reducible refine cF.mono ?_); rintro e w9 ⟨A9, C9, rfl, hS9, hb9⟩; have B9 := bel_trans hB hb9; have F9 := FBox.new w9 n0 A9 X.length C9 rs; have zy := F9.three; obtain ⟨y0, y1, y2⟩ := zy; have BF := bel_alloc B9 (.cells #[.string n0, .slice A9 X.length C9, .string rs] 62); have zz := HQ.out _ BF; obtain ⟨-, ⟨r0, r1, r2⟩, ⟨q0, q1, q2⟩, HG9⟩ := zz))
                have R6 := HG9.put ⟨#[]⟩ none 0 0 10
                obtain ⟨x0, x1, x2⟩ := R6.three
                have HZ := Lib.hid (HPz.out (Wr.bad 10 []) ⟨#[]⟩ 10 none 0 _ (by exact HoW.out.trans (by simp [Hrb.out])) rfl (fun _ => rfl) (Sgn.below_set3 (bel_trans HB3.out BF) (show w.heap.size ≤ w.heap.size + 2 by omega) (.string ⟨#[]⟩) (.slice none 0 0) (.int .i64 10)))
                first | exact HZ.out | (simp [bodyPost, results, Try.results31, go_sem, x0, x1, x2]; exact HZ.out)
              | false =>
                have hrb2 : (rs.toList = [66, 111, 111, 108]) = False := by simpa using hrb
                have hrb3 : (rs.toList != [66, 111, 111, 108]) = true := by simpa using hrb
                have Hrb := Lib.hid hrb
                clear r0 r1 r2 q0 q1 q2 HG
                by_cases hXk : X.length = k
                · have hXkH := Lib.hid hXk
                  have hx1 : ((X.length : Int) != (k : Int)) = false := by simp [hXk]
                  have hx2 : ((X.length : Int) = (k : Int)) = True := by simp [hXk]
                  clear hXk
                  cases hq : diff D X with
                  | none =>
                    have HAs := Lib.hid (fun (A9 : Option Addr) (C9 : Nat) (V : World) (h1 : IsS V GA k D) (h2 : IsS V A9 X.length X) => asked_none GA k GC D A9 X.length C9 X V h1 h2 (by rw [hXkH.out]; exact Nat.le_refl _) (by omega) hq)
                    have Hq := Lib.hid hq
                    clear hq
                    go_wp2_with (first | (go_at_call 24; ((with_reducible refine cF.mono ?_); rintro e w9 ⟨A9, C9, rfl, hS9, hb9⟩; have B9 := bel_trans hB hb9; have F9 := FBox.new w9 n0 A9 X.length C9 rs; have zy := F9.three; obtain ⟨y0, y1, y2⟩ := zy; have BF := bel_alloc B9 (.cells #[.string n0, .slice A9 X.length C9, .string rs] 62); have zz := HQ.out _ BF; obtain ⟨-, ⟨r0, r1, r2⟩, ⟨q0, q1, q2⟩, HG9⟩ := zz; have BV : Below wr.heap.size wr (w9.alloc (.cells #[.string n0, .slice A9 X.length C9, .string rs] 62)) := bel_alloc hb9 _; have HSV := Lib.hid (show IsS (w9.alloc (.cells #[.string n0, .slice A9 X.length C9, .string rs] 62)) A9 X.length X from (hS9.below (bel_alloc (Below.refl _ _) _)).1))) | (go_at_call 59; ((with_reducible refine (HAs.out _ _ _ (IsS.below HGI.out BV) HSV.out).mono ?_); rintro e w10 ⟨A10, C10, rfl, hn10, hb10⟩; have B10 := bel_trans BF hb10; have P1 := GBox.new w10 ⟨#[]⟩ A10 0 C10 0; have P2 := GBox.new w10 rs A10 0 C10 0; have zp := P1.three; obtain ⟨p0, p1, p2⟩ := zp; have zp := P2.three; obtain ⟨v0, v1, v2⟩ := zp; have B11 := bel_alloc B10 (.cells #[.string rs, .slice A10 0 C10, .int .i64 0] 40); have zz := HQ.out _ B11; obtain ⟨-, ⟨r0, r1, r2⟩, ⟨q0, q1, q2⟩, HG9⟩ := zz; have zy := (FBox.b F9 (bel_trans hb10 (bel_alloc (Below.refl _ _) (.cells #[.string ⟨#[]⟩, .slice A10 0 C10, .int .i64 0] 40)))).three; obtain ⟨y0, y1, y2⟩ := zy)))
                    have R6 := HG9.put rs A10 0 C10 0
                    obtain ⟨x0, x1, x2⟩ := R6.three
                    have HZ := Lib.hid (HPz.out (Wr.ok rs) rs 0 A10 C10 _ (by exact HoW.out.trans (by rw [if_neg (by simp [Hrb.out]), if_neg (by rw [hXkH.out]; simp)]; unfold askW; rw [Hq.out])) rfl hn10 (Sgn.below_set3 (bel_trans HB3.out B11) (show w.heap.size ≤ w.heap.size + 2 by omega) (.string rs) (.slice A10 0 C10) (.int .i64 0)))
                    first | exact HZ.out | (simp [bodyPost, results, Try.results31, go_sem, x0, x1, x2]; exact HZ.out)
                  | some i =>
                    have HAs := Lib.hid (fun (A9 : Option Addr) (C9 : Nat) (V : World) (h1 : IsS V GA k D) (h2 : IsS V A9 X.length X) => asked_some GA k GC D A9 X.length C9 X V h1 h2 (by rw [hXkH.out]; exact Nat.le_refl _) (by omega) i hq)
                    have Hq := Lib.hid hq
                    clear hq
                    go_wp2_with (first | (go_at_call 24; ((with_reducible refine cF.mono ?_); rintro e w9 ⟨A9, C9, rfl, hS9, hb9⟩; have B9 := bel_trans hB hb9; have F9 := FBox.new w9 n0 A9 X.length C9 rs; have zy := F9.three; obtain ⟨y0, y1, y2⟩ := zy; have BF := bel_alloc B9 (.cells #[.string n0, .slice A9 X.length C9, .string rs] 62); have zz := HQ.out _ BF; obtain ⟨-, ⟨r0, r1, r2⟩, ⟨q0, q1, q2⟩, HG9⟩ := zz; have BV : Below wr.heap.size wr (w9.alloc (.cells #[.string n0, .slice A9 X.length C9, .string rs] 62)) := bel_alloc hb9 _; have HSV := Lib.hid (show IsS (w9.alloc (.cells #[.string n0, .slice A9 X.length C9, .string rs] 62)) A9 X.length X from (hS9.below (bel_alloc (Below.refl _ _) _)).1))) | (go_at_call 59; ((with_reducible refine (HAs.out _ _ _ (IsS.below HGI.out BV) HSV.out).mono ?_); rintro e w10 ⟨A10, C10, rfl, hI10, hb10, ho10⟩; have B10 := bel_trans BF hb10; have P1 := GBox.new w10 ⟨#[]⟩ A10 1 C10 11; have zp := P1.three; obtain ⟨p0, p1, p2⟩ := zp; have B11 := bel_alloc B10 (.cells #[.string ⟨#[]⟩, .slice A10 1 C10, .int .i64 11] 40); have zz := HQ.out _ B11; obtain ⟨-, ⟨r0, r1, r2⟩, ⟨q0, q1, q2⟩, HG9⟩ := zz)))
                    have hfar : ∀ b o, A10 = some ⟨b, o, none⟩ → 0 < 1 → b ≠ w.heap.size + 2 := ho10 _ (by have := BF.size; have := Hs3.out; simp at *; omega)
                    have hI11 := hI10.below (bel_alloc (Below.refl _ _) (.cells #[.string ⟨#[]⟩, .slice A10 1 C10, .int .i64 11] 40))
                    have R6 := HG9.put ⟨#[]⟩ A10 1 C10 11
                    obtain ⟨x0, x1, x2⟩ := R6.three
                    have HZ := Lib.hid (HPi.out (Wr.bad 11 [(i : Int)]) [(i : Int)] 11 A10 1 C10 _ (by exact HoW.out.trans (by rw [if_neg (by simp [Hrb.out]), if_neg (by rw [hXkH.out]; simp)]; unfold askW; rw [Hq.out])) rfl (((hI11.far hfar (.string ⟨#[]⟩)).far hfar (.slice A10 1 C10)).far hfar (.int .i64 11)) (Sgn.below_set3 (bel_trans HB3.out B11) (show w.heap.size ≤ w.heap.size + 2 by omega) (.string ⟨#[]⟩) (.slice A10 1 C10) (.int .i64 11)) (fun g hg => ho10 g (by have := BF.size; have := Hs3.out; simp at *; omega)))
                    first | exact HZ.out | (simp [bodyPost, results, Try.results31, go_sem, x0, x1, x2]; exact HZ.out)
                · have hXkH := Lib.hid hXk
                  have hx1 : ((X.length : Int) != (k : Int)) = true := by simp; omega
                  have hx2 : ((X.length : Int) = (k : Int)) = False := by simp; omega
                  clear hXk
                  go_wp2_with (go_at_call 24; ((with_reducible refine cF.mono ?_); rintro e w9 ⟨A9, C9, rfl, hS9, hb9⟩; have B9 := bel_trans hB hb9; have F9 := FBox.new w9 n0 A9 X.length C9 rs; have zy := F9.three; obtain ⟨y0, y1, y2⟩ := zy; have BF := bel_alloc B9 (.cells #[.string n0, .slice A9 X.length C9, .string rs] 62); have zz := HQ.out _ BF; obtain ⟨-, ⟨r0, r1, r2⟩, ⟨q0, q1, q2⟩, HG9⟩ := zz))
                  have R6 := HG9.put ⟨#[]⟩ none 0 0 12
                  obtain ⟨x0, x1, x2⟩ := R6.three
                  have HZ := Lib.hid (HPz.out (Wr.bad 12 []) ⟨#[]⟩ 12 none 0 _ (by exact HoW.out.trans (by rw [if_neg (by simp [Hrb.out]), if_pos hXkH.out])) rfl (fun _ => rfl) (Sgn.below_set3 (bel_trans HB3.out BF) (show w.heap.size ≤ w.heap.size + 2 by omega) (.string ⟨#[]⟩) (.slice none 0 0) (.int .i64 12)))
                  first | exact HZ.out | (simp [bodyPost, results, Try.results31, go_sem, x0, x1, x2]; exact HZ.out)
          · have e3 : (op == 3) = false := by simp [h3]
            have g3 : (op = 3) = False := by simp [h3]
            clear HFi r0 r1 r2 q0 q1 q2 HG
            have hk2 := hle0 h1 h2 h3
            have i0 : (0 : Int) ≤ (k : Int) := by omega
            have i1 : (k : Int) ≤ 2 := by omega
            have BF := bel_alloc hB (.cells #[.string ⟨#[73, 110, 116]⟩, .string ⟨#[73, 110, 116]⟩] 9)
            have BV : Below wr.heap.size wr (wr.alloc (.cells #[.string ⟨#[73, 110, 116]⟩, .string ⟨#[73, 110, 116]⟩] 9)) := bel_alloc (Below.refl _ _) _
            have HSV := Lib.hid (show IsS (wr.alloc (.cells #[.string ⟨#[73, 110, 116]⟩, .string ⟨#[73, 110, 116]⟩] 9)) (some ⟨wr.heap.size, 0, none⟩) k (List.replicate k sInt) from int_row hk2 (Sgn.Blk.new wr _ _))
            have hop : opW E.K E.V E.B op nm nu D = askW D (List.replicate k sInt) sInt := by unfold opW; rw [if_neg h1, if_neg h2, if_neg h3, HGl.out]
            have HoW := Lib.hid (hoW.trans hop)
            clear hoW hop hle0
            cases hq : diff D (List.replicate k sInt) with
            | none =>
              have HAs := Lib.hid (fun (A9 : Option Addr) (C9 : Nat) (V : World) (h1 : IsS V GA k D) (h2 : IsS V A9 k (List.replicate k sInt)) => asked_none GA k GC D A9 k C9 (List.replicate k sInt) V h1 h2 (by exact Nat.le_refl _) (by omega) hq)
              have Hq := Lib.hid hq
              clear hq
              go_wp2_with (first | fail | (go_at_call 59; ((with_reducible refine (HAs.out _ _ _ (IsS.below HGI.out BV) HSV.out).mono ?_); rintro e w10 ⟨A10, C10, rfl, hn10, hb10⟩; have B10 := bel_trans BF hb10; have P1 := GBox.new w10 ⟨#[]⟩ A10 0 C10 0; have P2 := GBox.new w10 ⟨#[73, 110, 116]⟩ A10 0 C10 0; have zp := P1.three; obtain ⟨p0, p1, p2⟩ := zp; have zp := P2.three; obtain ⟨v0, v1, v2⟩ := zp; have B11 := bel_alloc B10 (.cells #[.string ⟨#[73, 110, 116]⟩, .slice A10 0 C10, .int .i64 0] 40); have zz := HQ.out _ B11; obtain ⟨-, ⟨r0, r1, r2⟩, ⟨q0, q1, q2⟩, HG9⟩ := zz)))
              have R6 := HG9.put ⟨#[73, 110, 116]⟩ A10 0 C10 0
              obtain ⟨x0, x1, x2⟩ := R6.three
              have HZ := Lib.hid (HPz.out (Wr.ok ⟨#[73, 110, 116]⟩) ⟨#[73, 110, 116]⟩ 0 A10 C10 _ (by exact HoW.out.trans (by unfold askW; rw [Hq.out]; rfl)) rfl hn10 (Sgn.below_set3 (bel_trans HB3.out B11) (show w.heap.size ≤ w.heap.size + 2 by omega) (.string ⟨#[73, 110, 116]⟩) (.slice A10 0 C10) (.int .i64 0)))
              first | exact HZ.out | (simp [bodyPost, results, Try.results31, go_sem, x0, x1, x2]; exact HZ.out)
            | some i =>
              have HAs := Lib.hid (fun (A9 : Option Addr) (C9 : Nat) (V : World) (h1 : IsS V GA k D) (h2 : IsS V A9 k (List.replicate k sInt)) => asked_some GA k GC D A9 k C9 (List.replicate k sInt) V h1 h2 (by exact Nat.le_refl _) (by omega) i hq)
              have Hq := Lib.hid hq
              clear hq
              go_wp2_with (first | fail | (go_at_call 59; ((with_reducible refine (HAs.out _ _ _ (IsS.below HGI.out BV) HSV.out).mono ?_); rintro e w10 ⟨A10, C10, rfl, hI10, hb10, ho10⟩; have B10 := bel_trans BF hb10; have P1 := GBox.new w10 ⟨#[]⟩ A10 1 C10 11; have zp := P1.three; obtain ⟨p0, p1, p2⟩ := zp; have B11 := bel_alloc B10 (.cells #[.string ⟨#[]⟩, .slice A10 1 C10, .int .i64 11] 40); have zz := HQ.out _ B11; obtain ⟨-, ⟨r0, r1, r2⟩, ⟨q0, q1, q2⟩, HG9⟩ := zz)))
              have hfar : ∀ b o, A10 = some ⟨b, o, none⟩ → 0 < 1 → b ≠ w.heap.size + 2 := ho10 _ (by have := BF.size; have := Hs3.out; simp at *; omega)
              have hI11 := hI10.below (bel_alloc (Below.refl _ _) (.cells #[.string ⟨#[]⟩, .slice A10 1 C10, .int .i64 11] 40))
              have R6 := HG9.put ⟨#[]⟩ A10 1 C10 11
              obtain ⟨x0, x1, x2⟩ := R6.three
              have HZ := Lib.hid (HPi.out (Wr.bad 11 [(i : Int)]) [(i : Int)] 11 A10 1 C10 _ (by exact HoW.out.trans (by unfold askW; rw [Hq.out])) rfl (((hI11.far hfar (.string ⟨#[]⟩)).far hfar (.slice A10 1 C10)).far hfar (.int .i64 11)) (Sgn.below_set3 (bel_trans HB3.out B11) (show w.heap.size ≤ w.heap.size + 2 by omega) (.string ⟨#[]⟩) (.slice A10 1 C10) (.int .i64 11)) (fun g hg => ho10 g (by have := BF.size; have := Hs3.out; simp at *; omega)))
              first | exact HZ.out | (simp [bodyPost, results, Try.results31, go_sem, x0, x1, x2]; exact HZ.out)
theorem tin_any (t : Tm) : TinOk t := Tm.ind tin_step t
end Go.Proofs.Ytacncbkcnhlpcaa.Wl
