/-
  What is proved: package tree's Mapped over a list of terms, with any function that makes a term in new memory.
  What is proved: an argument that is a term, or a list of pairs, reads as such, with names of a size that texts have.
  What is proved: a map of the call's own that reads as the first terms of a list of pairs: made, written, asked, kept.
  What is proved: a term with the terms of a substitution in place of its variables, as package subst makes it.
  What is proved: the library's Backward over a list of pairs: each with its place, from the last to the first, is handed to the round of a loop.
  What is proved: package subst's firsts: a map of the call's own that reads as the first terms of the pairs.
  What is proved: package subst's Then of two lists of pairs whose names rise, all of them taken together, fewer than twenty.
  What is proved: what package subst's Apply returns: the term with the first terms of the pairs in place of its variables.
-/
import Derived.Test.YteidknjhponpkaaBB
import Derived.Test.YteidknjhponpkaaBT
import Derived.Test.YteidknjhponpkaaBS
import Derived.Lib.SmallJoins
import Derived.Deep.Slices
import Derived.Deep.Fields
import Derived.ChangeArms
import Derived.OpenShut
import Derived.Maps.Own
import Derived.Maps.Views
import Derived.Carry
namespace Go.Proofs.Yteidknjhponpkaa.U
open Go.RowKit L T C B
set_option linter.unusedVariables false
set_option linter.unusedSimpArgs false

/-- a function that makes of each of these terms another one, in new memory -/
def MapClos (F : Nat) (caps : Array Value) (f : Tm → Tm) (l : List Tm) (w0 : World) : Prop :=
  ∀ x ∈ l, ∀ (a : Option Addr) (n c : Nat) (w : World), Below w0.heap.size w0 w → ArW w x a n c →
    Calls Try.prog F (#[.agg #[.int .i64 (opT x), .string (nameT x), .int .i64 (numT x), .slice a n c]] ++ caps) w fun e w' => RtT (f x) w e w'
/-- what has been made so far -/
def PartP (w0 : World) (g : Nat) (lr : List Tm) (m k : Nat) (wr : World) : Prop :=
  ∃ hs, hs.length = k ∧ OwnT wr w0.heap.size (.slice (some ⟨g, 0, none⟩) m m) (hs ++ List.replicate (m - k) Hd.zero) ∧ ∀ (j : Nat) (h : Hd) (t : Tm), hs[j]? = some h → lr[j]? = some t → HdP (fun b => g < b ∧ b < wr.heap.size) wr h t
theorem PartP.go {w0 wr w4 w5 : World} {g : Nat} {lr : List Tm} {x : Tm} {m k : Nat} {a : Option Addr} {n c : Nat} (hp : PartP w0 g lr m k wr) (hk : k < m) (hx : lr[k]? = some x) (h4 : Below wr.heap.size wr w4) (h5 : Below w4.heap.size w4 w5) (hA : ArP (Nw 0 0 w4.heap.size w5.heap.size) w5 x a n c) :
    (w5.cell? ⟨g, k * 4, none⟩ = some (.int .i64 0) ∧ w5.cell? ⟨g, k * 4 + 1, none⟩ = some (.string ⟨#[]⟩) ∧ w5.cell? ⟨g, k * 4 + 2, none⟩ = some (.int .i64 0) ∧ w5.cell? ⟨g, k * 4 + 3, none⟩ = some (.slice none 0 0)) ∧ (w5.frozen? ⟨g, k * 4, none⟩ = false ∧ w5.frozen? ⟨g, k * 4 + 1, none⟩ = false ∧ w5.frozen? ⟨g, k * 4 + 2, none⟩ = false ∧ w5.frozen? ⟨g, k * 4 + 3, none⟩ = false) ∧ Hid (PartP w0 g lr m (k + 1) (set4 w5 g k ⟨opT x, nameT x, numT x, a, n, c⟩)) := by
  obtain ⟨hs, hl, ho, hfr⟩ := hp
  have b5 := bel_trans h4 h5
  have hgl : g < wr.heap.size := ho.row.lt
  have q4 := h4.size
  have q5 := h5.size
  have hlt : k < (hs ++ List.replicate (m - k) Hd.zero).length := by rw [List.length_append, List.length_replicate]; omega
  obtain ⟨z0, z1, z2, z3⟩ := ho.at hlt
  have e : (hs ++ List.replicate (m - k) Hd.zero)[k] = Hd.zero := by
    rw [List.getElem_append_right (by omega), List.getElem_replicate]
  rw [e] at z0 z1 z2 z3
  have hz := fun j => ho.row.free j
  have ho5 := (ho.below b5).set k ⟨opT x, nameT x, numT x, a, n, c⟩ (by rw [List.length_append, List.length_replicate]; omega)
  refine ⟨⟨(b5.cell (p := ⟨g, _, none⟩) hgl).trans z0, (b5.cell (p := ⟨g, _, none⟩) hgl).trans z1, (b5.cell (p := ⟨g, _, none⟩) hgl).trans z2, (b5.cell (p := ⟨g, _, none⟩) hgl).trans z3⟩, ⟨(b5.frozen (p := ⟨g, _, none⟩) hgl).trans (hz _), (b5.frozen (p := ⟨g, _, none⟩) hgl).trans (hz _), (b5.frozen (p := ⟨g, _, none⟩) hgl).trans (hz _), (b5.frozen (p := ⟨g, _, none⟩) hgl).trans (hz _)⟩, Lib.hid ⟨hs ++ [⟨opT x, nameT x, numT x, a, n, c⟩], by simp [hl], ?_, fun j h t e1 e2 => ?_⟩⟩
  · rw [show m - k = m - (k + 1) + 1 by omega, ← hl, list_step, hl] at ho5
    exact ho5
  · rw [set4_size]
    rcases Nat.lt_or_ge j hs.length with hj | hj
    · rw [List.getElem?_append_left hj] at e1
      exact hdP_to (hfr j h t e1 e2) (fun b hb => (set4_other w5 g k b _ (by omega)).trans (b5.block b hb.2)) (fun b hb => ⟨hb.1, by omega⟩)
    · have hjl : j < (hs ++ [(⟨opT x, nameT x, numT x, a, n, c⟩ : Hd)]).length := (List.getElem?_eq_some_iff.1 e1).1
      have hjk : j = k := by simp at hjl; omega
      subst hjk
      rw [List.getElem?_append_right hj] at e1
      have e3 : j - hs.length = 0 := by omega
      rw [e3] at e1
      simp only [List.getElem?_cons_zero, Option.some.injEq] at e1
      rw [hx] at e2
      injection e2 with e2
      subst e1 e2
      exact ⟨rfl, rfl, rfl, ArP.to (fun b hb => set4_other w5 g j b _ (by unfold Nw at hb; omega)) (fun b hb => by unfold Nw at hb; omega) x hA⟩
theorem PartP.done {w0 wr : World} {g : Nat} {lr : List Tm} {m : Nat} (hp : PartP w0 g lr m m wr) (hm : lr.length = m) (hg : w0.heap.size ≤ g) (hc : m ≤ maxLen) : ArP (Nw 0 0 w0.heap.size wr.heap.size) wr (.mk 0 ⟨#[]⟩ 0 lr) (some ⟨g, 0, none⟩) m m := by
  obtain ⟨hs, hl, ho, hfr⟩ := hp
  rw [Nat.sub_self, List.replicate_zero, List.append_nil] at ho
  have hgl := ho.row.lt
  rw [ArP]
  refine ⟨hm.symm, Nat.le_refl _, hc, (fun h => by cases h), fun _ => ⟨g, 0, rfl, Or.inr ⟨hg, hgl⟩, ?_⟩⟩
  refine Row.rwP ho.row (by omega) fun j hj hj2 => ?_
  have t := hdP_to (hfr j _ _ (List.getElem?_eq_getElem hj2) (List.getElem?_eq_getElem hj)) (Q := Nw 0 0 w0.heap.size wr.heap.size) (fun _ _ => rfl) (fun b hb => by unfold Nw; omega)
  exact ⟨⟨t.1, t.2.1, t.2.2.1⟩, t.2.2.2⟩
set_option maxRecDepth 100000 in
set_option maxHeartbeats 4000000 in
theorem mapped_any (F : Nat) (caps : Array Value) (hE : ∀ (args : Array Value) (w : World), (callFunc F args).run Try.prog w = .ok (.enter F args) w) (f : Tm → Tm) (l : List Tm) (b : Option Addr) (m d : Nat) (w : World) (hF : MapClos F caps f l w) (hm : m ≤ 1000000) (hG : TsW w b m d l) :
    Calls Try.prog 37 #[.slice b m d, .func (.func F) #[] caps] w fun e w' => ∃ A C, e = .returned (.slice A m C) ∧ ArP (Nw 0 0 w.heap.size w'.heap.size) w' (.mk 0 ⟨#[]⟩ 0 (l.map f)) A m C ∧ Below w.heap.size w w' := by
  by_cases hm0 : m = 0
  · subst hm0
    have hl : l = [] := List.length_eq_zero_iff.1 hG.1.symm
    subst hl
    clear hG hF
    go_enter Try.func37, Try.ntmps37
    go_wp2
    go_ret
    exact ⟨_, _, rfl, by rw [ArP]; exact ⟨rfl, Nat.le_refl _, Nat.zero_le _, fun _ => rfl, fun h => absurd h (by omega)⟩, Below.refl _ _⟩
  · have hmk := make_terms m hm w
    have hmd := made_terms m hm w
    obtain ⟨W1, hW1⟩ : ∃ W1, w.alloc (.cells (madeCells #[.int .i64 0, .string ⟨#[]⟩, .int .i64 0, .slice none 0 0] (m * 4)) 24) = W1 := ⟨_, rfl⟩
    rw [hW1] at hmk hmd
    have hB1 : Below w.heap.size w W1 := by rw [← hW1]; exact bel_alloc (Below.refl _ _) _
    have hs1 : W1.heap.size = w.heap.size + 1 := by rw [← hW1]; simp
    have hm1 : ((m : Int) == 0) = false := by simp; omega
    have P0 : PartP w w.heap.size (l.map f) m 0 W1 := ⟨[], rfl, by simpa using hmd, fun j h t e => by simp at e⟩
    have HT := Lib.hid hG
    have HK := Lib.hid (show ∀ k x, l[k]? = some x → (∀ (a : Option Addr) (n c : Nat) (w2 : World), Below w.heap.size w w2 → ArW w2 x a n c → Calls Try.prog F (#[.agg #[.int .i64 (opT x), .string (nameT x), .int .i64 (numT x), .slice a n c]] ++ caps) w2 fun e w' => RtT (f x) w2 e w') ∧ (l.map f)[k]? = some (f x) from fun k x h => ⟨hF x (List.mem_of_getElem? h), by rw [List.getElem?_map, h]; rfl⟩)
    have HP0 := Lib.hid P0
    have HL := Lib.hid (show (l.map f).length = m by rw [List.length_map]; exact hG.1.symm)
    clear hG hF hmd P0 hW1
    generalize l.map f = lr at *
    go_enter Try.func37, Try.ntmps37
    go_wp2
    go_loopw [16] (fun i wr0 => ∃ (wr : World) (k : Nat), wr = wr0 ∧ k ≤ m ∧ i = .int .i64 k ∧ Below w.heap.size w wr ∧ Hid (PartP w w.heap.size lr m k wr)) (fun i _ => m - (intOf i).toNat)
    case atStart => exact ⟨_, 0, rfl, by omega, rfl, hB1, HP0⟩
    case round =>
      obtain ⟨wr, k, rfl, hk, rfl, hB, hR⟩ := hrel
      by_cases hlt : k < m
      · obtain ⟨bb, o, x, A, M, Cc, rfl, hb, y0, y1, y2, y3, hx, hok⟩ := (TsW.b HT.out hB).at hlt
        obtain ⟨W4, hW4, hB4, hs4, S4⟩ := box1 wr (opT x) (nameT x) (numT x) A M Cc
        obtain ⟨hck, hxr⟩ := HK.out k x hx
        have cc := hck A M Cc W4 (bel_trans hB hB4) (ArW.b hok hB4)
        unfold RtT at cc
        obtain ⟨f0, f1, f2, f3⟩ := S4.four
        have B4 := bel_trans hB hB4
        have Hx := Lib.hid hxr
        clear hx hxr hok HK S4 hck
        generalize f x = xr at *
        generalize opT x = op' at *
        generalize nameT x = nm' at *
        generalize numT x = nu' at *
        have hk0 : 0 ≤ (k : Int) := by omega
        have hk1 : (k : Int) < (m : Int) := by omega
        go_wp2_with ((with_reducible refine cc.mono ?_); rintro e w5 ⟨a5, n5, c5, rfl, hF, hb5⟩; obtain ⟨⟨q0, q1, q2, q3⟩, ⟨g0, g1, g2, g3⟩, Hn⟩ := PartP.go hR.out hlt Hx.out hB4 hb5 hF; clear hF)
        go_roundw
        case rel => exact ⟨_, k + 1, rfl, by omega, by go_num, set4_below (bel_trans B4 hb5) (Nat.le_refl _) k ⟨opT xr, nameT xr, numT xr, a5, n5, c5⟩, Hn⟩
        case measure => simp [intOf]; omega
      · obtain rfl : k = m := by omega
        have hcap : k ≤ maxLen := by unfold maxLen; omega
        have Hd := Lib.hid (PartP.done hR.out HL.out (Nat.le_refl _) hcap)
        clear hR hcap
        go_wp2
        go_ret
        exact ⟨_, _, rfl, Hd.out, hB⟩
end Go.Proofs.Yteidknjhponpkaa.U
namespace Go.Proofs.Yteidknjhponpkaa.U
open Go.RowKit Go.Deep Go.ChangeShapes Go.WideShapes Go.Joins L T
set_option linter.unusedVariables false
set_option linter.unusedSimpArgs false

mutual
def smT : Tm → Prop
  | .mk _ s _ l => s.size ≤ maxLen ∧ smTs l
def smTs : List Tm → Prop
  | [] => True
  | t :: l => smT t ∧ smTs l
end
theorem smTs_of : ∀ {l : List Tm}, (∀ k (h : k < l.length), smT l[k]) → smTs l
  | [], _ => trivial
  | t :: l, h => by
    rw [smTs]
    exact ⟨h 0 (by simp), smTs_of fun k hk => h (k + 1) (by simpa using hk)⟩
theorem smTs_at : ∀ {l : List Tm} {k : Nat} {t : Tm}, smTs l → l[k]? = some t → smT t
  | [], k, t, _, h => by simp at h
  | u :: l, 0, t, h, e => by rw [smTs] at h; simp at e; rw [← e]; exact h.1
  | u :: l, k + 1, t, h, e => by rw [smTs] at h; exact smTs_at h.2 (by simpa using e)
theorem smT_args {t : Tm} (h : smT t) : smTs (argsT t) := by cases t; rw [smT] at h; exact h.2
theorem smT_name {t : Tm} (h : smT t) : (nameT t).size ≤ maxLen := by cases t; rw [smT] at h; exact h.1
section
variable {H : Type} {enc : TypeId × Value → H} {W : World} {sp : Nat → Bool}
def FourS (W : World) (cs : List Value) (t : Tm) (a : Option Addr) (n c : Nat) : Prop := FourOk W cs t a n c ∧ smT t
set_option maxRecDepth 100000 in
theorem fourS_of {v0 v1 v2 v3 : Value} {n0 n1 n2 n3 : Nat} {y0 y1 y2 y3 : DataW H × List MemPlace}
    (ih : ∀ m, m ≤ n3 → ∀ (cs : List Value) (x : DataW H × List MemPlace), DataW.trod enc Try.prog W 0 (fun _ => true) true m 24 cs = some x → ∃ t a n c, FourS W cs t a n c)
    (g0 : DataW.trod enc Try.prog W 0 (fun _ => true) true n0 3 [v0] = some y0) (g1 : DataW.trod enc Try.prog W 0 (fun _ => true) true n1 9 [v1] = some y1)
    (g2 : DataW.trod enc Try.prog W 0 (fun _ => true) true n2 2 [v2] = some y2) (g3 : DataW.trod enc Try.prog W 0 (fun _ => true) true n3 22 [v3] = some y3) :
    ∃ t a n c, FourS W [v0, v1, v2, v3] t a n c := by
  obtain ⟨o, e0, _, _⟩ := DataW.trod_int (k := .i64) Try.underlying3 g0
  obtain ⟨s, e1, _, hss⟩ := DataW.trod_string Try.underlying9 g1
  obtain ⟨z, e2, _, _⟩ := DataW.trod_int (k := .i64) Try.underlying2 g2
  obtain rfl : v0 = .int .i64 o := by simpa using e0
  obtain rfl : v1 = .string s := by simpa using e1
  obtain rfl : v2 = .int .i64 z := by simpa using e2
  rcases DataW.trod_slice Try.underlying22 g3 with h0 | ⟨ad, len, cap, elems, rest, n, hn, hcs, _, _, hl, hmx, hlen, hi, _⟩
  · obtain rfl : v3 = .slice none 0 0 := by simpa using h0.1
    exact ⟨.mk o s z [], none, 0, 0, ⟨rfl, by unfold ArW; rw [Ar]; exact ⟨rfl, Nat.le_refl _, Nat.zero_le _, fun _ => rfl, fun h => absurd h (by omega)⟩⟩, by rw [smT]; exact ⟨hss, trivial⟩⟩
  · obtain rfl : v3 = .slice (some ad) len cap := by simpa using hcs
    have hC : Try.prog.cellsOf 24 = 4 := by kernel_rfl
    obtain ⟨Y, hY, hall⟩ := T.list_ofT len (P := fun i (t : Tm) => ∃ a n c, W.cell? (ad.add (i * 4)) = some (.int .i64 (opT t)) ∧ W.cell? ((ad.add (i * 4)).add 1) = some (.string (nameT t)) ∧ W.cell? ((ad.add (i * 4)).add 2) = some (.int .i64 (numT t)) ∧ W.cell? ((ad.add (i * 4)).add 3) = some (.slice a n c) ∧ ArW W t a n c ∧ smT t) (fun i hin => by
      have hq := hi i (by omega)
      rw [List.getElem?_eq_getElem (show i < elems.length by omega)] at hq
      obtain ⟨cs', h1, h2⟩ := Option.bind_eq_some_iff.1 hq
      rw [hC] at h1
      obtain ⟨_, hl2, hat⟩ := World.cells?_some h1
      obtain ⟨t, a, n', c, ⟨hf, hr⟩, hsm⟩ := ih n (by omega) _ _ h2
      subst hf
      exact ⟨t, a, n', c, by simpa [Addr.add] using hat 0 (by simp), hat 1 (by simp), hat 2 (by simp), hat 3 (by simp), hr, hsm⟩)
    refine ⟨.mk o s z Y, some ad, len, cap, ⟨rfl, ?_⟩, by rw [smT]; exact ⟨hss, smTs_of fun k hk => by obtain ⟨_, _, _, _, _, _, _, _, h⟩ := hall k hk; exact h⟩⟩
    unfold ArW
    rw [Ar]
    refine ⟨hY.symm, hl, hmx, fun h => (by cases h), fun hn => ?_⟩
    obtain ⟨b, off, spot⟩ := ad
    have hspot : spot = none := by
      obtain ⟨_, _, _, h1, _⟩ := hall 0 (by omega)
      simpa [Addr.add] using World.cell?_spot h1
    subst hspot
    refine ⟨b, off, rfl, ?_, rw_at.2 fun i hi2 => ?_⟩
    · obtain ⟨_, _, _, h1, _⟩ := hall 0 (by omega)
      rw [Go.WideShapes.add_plain] at h1
      exact World.block_lt_of_cell? _ _ h1
    · obtain ⟨a, n, c, h1, h2, h3, h4, h5, _⟩ := hall i hi2
      rw [Go.WideShapes.add_plain] at h1 h2 h3 h4
      rw [Go.WideShapes.add_plain] at h2 h3 h4
      exact ⟨a, n, c, h1, h2, h3, h4, h5⟩
set_option maxRecDepth 100000 in
theorem termS_cells : ∀ (N fuel : Nat), fuel ≤ N → ∀ (cs : List Value) (x : DataW H × List MemPlace), DataW.trod enc Try.prog W 0 (fun _ => true) true fuel 24 cs = some x → ∃ t a n c, FourS W cs t a n c
  | 0, fuel, hf, cs, x, h => by
    obtain rfl : fuel = 0 := by omega
    simp [DataW.trod] at h
  | N + 1, fuel, hf, cs, x, h => by
    obtain ⟨xs, n, hn, _, hcl, hxl, hi⟩ := DataW.trod_struct Try.underlying24 h
    have hC : Try.prog.cellsOf 24 = 4 := by kernel_rfl
    rw [hC] at hcl
    match cs, hcl with
    | [c0, c1, c2, c3], _ =>
      match xs, hxl with
      | [x0, x1, x2, x3], _ =>
        have g0 : DataW.trod enc Try.prog W 0 (fun _ => true) true n 3 (([c0, c1, c2, c3].drop 0).take (Try.prog.cellsOf 3)) = some x0 := hi 0 _ rfl
        have g1 : DataW.trod enc Try.prog W 0 (fun _ => true) true n 9 (([c0, c1, c2, c3].drop 1).take (Try.prog.cellsOf 9)) = some x1 := hi 1 _ rfl
        have g2 : DataW.trod enc Try.prog W 0 (fun _ => true) true n 2 (([c0, c1, c2, c3].drop 2).take (Try.prog.cellsOf 2)) = some x2 := hi 2 _ rfl
        have g3 : DataW.trod enc Try.prog W 0 (fun _ => true) true n 22 (([c0, c1, c2, c3].drop 3).take (Try.prog.cellsOf 22)) = some x3 := hi 3 _ rfl
        have z1 : Try.prog.cellsOf 2 = 1 := by kernel_rfl
        have z2 : Try.prog.cellsOf 9 = 1 := by kernel_rfl
        have z3 : Try.prog.cellsOf 22 = 1 := by kernel_rfl
        have z0 : Try.prog.cellsOf 3 = 1 := by kernel_rfl
        rw [z0] at g0
        rw [z1] at g2
        rw [z2] at g1
        rw [z3] at g3
        exact fourS_of (fun m hm cs' x' h' => termS_cells N m (by omega) cs' x' h') g0 g1 g2 g3


set_option maxRecDepth 100000 in
theorem termS_open_all {r : Reach} {b0 : Nat} {v : Value} {d : DataW H} {p : List MemPlace} (hv : Value.okWide Try.prog W r b0 24 v) (h : DataW.Trod enc Try.prog W 0 (fun _ => true) true 24 v d p) :
    ∃ z : TmV, v = z.val ∧ ArW W z.t z.a z.n z.c ∧ smT z.t := by
  obtain ⟨v0, v1, v2, v3, y0, y1, y2, y3, n, rfl, _, _, g0, g1, g2, g3⟩ := open_agg4 Try.underlying24 (by kernel_rfl) (by kernel_rfl) hv h
  obtain ⟨t, a, m, c, ⟨hf, hr⟩, hsm⟩ := fourS_of (fun m hm cs' x' h' => termS_cells m m (Nat.le_refl _) cs' x' h') g0 g1 g2 g3
  simp only [List.cons.injEq, and_true] at hf
  obtain ⟨rfl, rfl, rfl, rfl⟩ := hf
  exact ⟨⟨t, a, m, c⟩, rfl, hr, hsm⟩
set_option maxRecDepth 100000 in
theorem pair_cells (fuel : Nat) (cs : List Value) (x : DataW H × List MemPlace) (h : DataW.trod enc Try.prog W 0 (fun _ => true) true fuel 43 cs = some x) :
    ∃ p : Pr, ∃ a n c, cs = [.string p.nm, .int .i64 (opT p.t), .string (nameT p.t), .int .i64 (numT p.t), .slice a n c] ∧ ArW W p.t a n c ∧ smT p.t ∧ p.nm.size ≤ maxLen := by
  obtain ⟨xs, n, hn, _, hcl, hxl, hi⟩ := DataW.trod_struct Try.underlying43 h
  have hC : Try.prog.cellsOf 43 = 5 := by kernel_rfl
  rw [hC] at hcl
  match cs, hcl with
  | [c0, c1, c2, c3, c4], _ =>
    match xs, hxl with
    | [x0, x1], _ =>
      have g0 : DataW.trod enc Try.prog W 0 (fun _ => true) true n 9 (([c0, c1, c2, c3, c4].drop 0).take (Try.prog.cellsOf 9)) = some x0 := hi 0 _ rfl
      have g1 : DataW.trod enc Try.prog W 0 (fun _ => true) true n 24 (([c0, c1, c2, c3, c4].drop 1).take (Try.prog.cellsOf 24)) = some x1 := hi 1 _ rfl
      have z2 : Try.prog.cellsOf 9 = 1 := by kernel_rfl
      have z3 : Try.prog.cellsOf 24 = 4 := by kernel_rfl
      rw [z2] at g0
      rw [z3] at g1
      have g0' : DataW.trod enc Try.prog W 0 (fun _ => true) true n 9 [c0] = some x0 := g0
      obtain ⟨s, e1, _, hss⟩ := DataW.trod_string Try.underlying9 g0'
      obtain rfl : c0 = .string s := by simpa using e1
      obtain ⟨t, a, m, c, ⟨hf, hr⟩, hsm⟩ := termS_cells n n (Nat.le_refl _) _ _ g1
      have hf2 : [c1, c2, c3, c4] = [.int .i64 (opT t), .string (nameT t), .int .i64 (numT t), .slice a m c] := hf
      simp only [List.cons.injEq, and_true] at hf2
      obtain ⟨rfl, rfl, rfl, rfl⟩ := hf2
      exact ⟨⟨s, t⟩, a, m, c, rfl, hr, hsm, hss⟩
/-- names and terms of pairs, of a size that texts have -/
def smU (l : List Pr) : Prop := ∀ p ∈ l, smT p.t ∧ p.nm.size ≤ maxLen
set_option maxRecDepth 100000 in
theorem pairs_open_all {a : Option Addr} {n c : Nat} {d : DataW H} {p : List MemPlace} (h : DataW.Trod enc Try.prog W 0 (fun _ => true) true 31 (.slice a n c) d p) :
    ∃ X : List Pr, n ≤ 9223372036854775807 ∧ UsW W a n c X ∧ smU X := by
  obtain ⟨fuel, hf⟩ := h
  have g3 : DataW.trod enc Try.prog W 0 (fun _ => true) true fuel 31 [.slice a n c] = some (d, p) := by simpa [Value.cells] using hf
  rcases DataW.trod_slice Try.underlying31 g3 with h0 | ⟨ad, len, cap, elems, rest, m, hn, hcs, _, _, hl, hmx, hlen, hi, _⟩
  · have h1 : Value.slice a n c = .slice none 0 0 := by simpa using h0.1
    injection h1 with e1 e2 e3
    subst e1 e2 e3
    exact ⟨[], by omega, UsW.nil _, fun p hp => by simp at hp⟩
  · have h1 : Value.slice a n c = .slice (some ad) len cap := by simpa using hcs
    injection h1 with e1 e2 e3
    subst e1 e2 e3
    have hC : Try.prog.cellsOf 43 = 5 := by kernel_rfl
    obtain ⟨Y, hY, hall⟩ := T.list_ofT n (P := fun i (q : Pr) => ∃ a n c, W.cell? (ad.add (i * 5)) = some (.string q.nm) ∧ W.cell? ((ad.add (i * 5)).add 1) = some (.int .i64 (opT q.t)) ∧ W.cell? ((ad.add (i * 5)).add 2) = some (.string (nameT q.t)) ∧ W.cell? ((ad.add (i * 5)).add 3) = some (.int .i64 (numT q.t)) ∧ W.cell? ((ad.add (i * 5)).add 4) = some (.slice a n c) ∧ ArW W q.t a n c ∧ smT q.t ∧ q.nm.size ≤ maxLen) (fun i hin => by
      have hq := hi i (by omega)
      rw [List.getElem?_eq_getElem (show i < elems.length by omega)] at hq
      obtain ⟨cs', h1, h2⟩ := Option.bind_eq_some_iff.1 hq
      rw [hC] at h1
      obtain ⟨_, hl2, hat⟩ := World.cells?_some h1
      obtain ⟨q, a, n', c, hf, hr, hsm, hsn⟩ := pair_cells _ _ _ h2
      subst hf
      exact ⟨q, a, n', c, by simpa [Addr.add] using hat 0 (by simp), hat 1 (by simp), hat 2 (by simp), hat 3 (by simp), hat 4 (by simp), hr, hsm, hsn⟩)
    refine ⟨Y, by unfold maxLen at hmx; omega, ⟨hY.symm, hl, hmx, fun h => (by cases h), fun hn => ?_⟩, fun q hq => ?_⟩
    · obtain ⟨b, off, spot⟩ := ad
      have hspot : spot = none := by
        obtain ⟨_, _, _, h1, _⟩ := hall 0 (by omega)
        simpa [Addr.add] using World.cell?_spot h1
      subst hspot
      refine ⟨b, off, rfl, ?_, fun i q hq => ?_⟩
      · obtain ⟨_, _, _, h1, _⟩ := hall 0 (by omega)
        rw [Go.WideShapes.add_plain] at h1
        exact World.block_lt_of_cell? _ _ h1
      · obtain ⟨hi2, rfl⟩ := List.getElem?_eq_some_iff.1 hq
        obtain ⟨a, n, c, h1, h2, h3, h4, h5, h6, _⟩ := hall i hi2
        rw [Go.WideShapes.add_plain] at h1 h2 h3 h4 h5
        rw [Go.WideShapes.add_plain] at h2 h3 h4 h5
        exact ⟨a, n, c, h1, h2, h3, h4, h5, h6⟩
    · obtain ⟨i, hi2, rfl⟩ := List.getElem_of_mem hq
      obtain ⟨_, _, _, _, _, _, _, _, _, h7, h8⟩ := hall i hi2
      exact ⟨h7, h8⟩
end
end Go.Proofs.Yteidknjhponpkaa.U
namespace Go.Proofs.Yteidknjhponpkaa.U
open Go.RowKit Go.Maps Go.WideMaps L T
set_option linter.unusedVariables false
set_option linter.unusedSimpArgs false

/-- how an element of the map reads: as itself -/
def RV (v : Value) : Option (DataW Value × List MemPlace) := some (.held v, [])
theorem lawS : Keyed Try.prog 9 := string_keyed Try.underlying9
/-- the term of the first pair of that name -/
def getU : List Pr → ByteArray → Option Tm
  | [], _ => none
  | p :: l, s => if p.nm.toList == s.toList then some p.t else getU l s
/-- the map in block g reads as the first terms of l -/
def MapU (B : Nat) (w : World) (g : Nat) (l : List Pr) : Prop :=
  ∃ n D, w.ownsMap Try.prog 9 RV g n D ∧ IsMap D ∧ n ≤ l.length ∧ ∀ s : ByteArray, (getU l s = none → ∀ z, D.atKey (.string s.data.toList) z = z) ∧
    (∀ t, getU l s = some t → ∃ a n c, (∀ z, D.atKey (.string s.data.toList) z = .held (tmV (opT t) (nameT t) (numT t) a n c)) ∧ Ar B w t a n c)
theorem MapU.made (B : Nat) (w : World) : MapU B (w.alloc (.map #[] 0)) w.heap.size [] :=
  ⟨0, _, World.ownsMap_made _ _ _ _, ⟨[], rfl⟩, Nat.le_refl _, fun s => ⟨fun _ z => rfl, fun t h => by simp [getU] at h⟩⟩
theorem MapU.lt {B : Nat} {w : World} {g : Nat} {l : List Pr} (h : MapU B w g l) : g < w.heap.size := by
  obtain ⟨n, D, ho, _⟩ := h; exact ho.lt
/-- kept, where its block and all blocks below B are -/
theorem MapU.keep {B : Nat} {w w' : World} {g : Nat} {l : List Pr} (h : MapU B w g l) (hg : w'.heap[g]? = w.heap[g]?) (hb : Below B w w') : MapU B w' g l := by
  obtain ⟨n, D, ⟨es, ck, h1, h2, h3, h4⟩, hD, hn, hs⟩ := h
  refine ⟨n, D, ⟨es, ck, hg.trans h1, h2, h3, h4⟩, hD, hn, fun s => ⟨(hs s).1, fun t ht => ?_⟩⟩
  obtain ⟨a, n', c, e1, e2⟩ := (hs s).2 t ht
  exact ⟨a, n', c, e1, Ar.bel hb _ e2⟩
theorem MapU.b {B : Nat} {w w' : World} {g : Nat} {l : List Pr} (h : MapU B w g l) (hB : B ≤ w.heap.size) (hb : Below w.heap.size w w') : MapU B w' g l :=
  h.keep (hb.block g h.lt) (hb.mono hB)
set_option maxRecDepth 100000 in
/-- written -/
theorem MapU.put {B : Nat} {w : World} {g : Nat} {l : List Pr} (h : MapU B w g l) (hBg : B ≤ g) (hBw : B ≤ w.heap.size) (hl : l.length < maxLen) (p : Pr) (a : Option Addr) (n c : Nat) (hp : p.nm.size ≤ maxLen) (hA : Ar B w p.t a n c) :
    ∃ w', (Instr.mapUpdate 50 (.map (some g)) (.string p.nm) (.agg #[.int .i64 (opT p.t), .string (nameT p.t), .int .i64 (numT p.t), .slice a n c])).run Try.prog w = .ok () w' ∧ MapU B w' g (p :: l) ∧ w.grownBy w' (some g) ∧ Below B w w' := by
  obtain ⟨k, D, ho, hD, hk, hs⟩ := h
  have hlt := ho.lt
  obtain ⟨w', h1, h2, h3⟩ := ho.update lawS Try.underlying50 (by omega) (key := .string p.nm) (val := .agg #[.int .i64 (opT p.t), .string (nameT p.t), .int .i64 (numT p.t), .slice a n c]) (keyOf_string_mk Try.underlying9 hp) (d := .held (tmV (opT p.t) (nameT p.t) (numT p.t) a n c)) (ps := []) rfl
  have hb : Below B w w' := (Below.refl B w).grown h3 hBw (fun q hq => by injection hq with hq; omega)
  refine ⟨w', h1, ⟨k + 1, _, h2, hD.put _ _, by simp; omega, fun s => ?_⟩, h3, hb⟩
  by_cases e : p.nm.toList == s.toList
  · have es : p.nm = s := eqS_iff.1 e
    subst es
    refine ⟨fun hn => by rw [getU, if_pos e] at hn; simp at hn, fun t ht => ?_⟩
    rw [getU, if_pos e] at ht
    injection ht with ht
    subst ht
    exact ⟨a, n, c, fun z => atKey_put_same hD (by trivial) _ _, Ar.bel hb _ hA⟩
  · have hne : (Lit.string s.data.toList) ≠ (Lit.string p.nm.data.toList) := fun h => e (by
      injection h with h
      exact eqS_iff.2 (ByteArray.ext (Array.toList_inj.1 h)).symm)
    rw [getU, if_neg e]
    refine ⟨fun hn z => by rw [atKey_put_other hne]; exact (hs s).1 hn z, fun t ht => ?_⟩
    obtain ⟨a', n', c', e1, e2⟩ := (hs s).2 t ht
    exact ⟨a', n', c', fun z => by rw [atKey_put_other hne]; exact e1 z, Ar.bel hb _ e2⟩
theorem zeroT (w : World) : (zeroValue 24).run Try.prog w = .ok (.agg #[.int .i64 0, .string ⟨#[]⟩, .int .i64 0, .slice none 0 0]) w := by kernel_rfl
set_option maxRecDepth 100000 in
/-- asked: found -/
theorem MapU.find {B : Nat} {w : World} {g : Nat} {l : List Pr} (h : MapU B w g l) (s : ByteArray) (hs : s.size ≤ maxLen) (t : Tm) (ht : getU l s = some t) :
    ∃ a n c, (Instr.lookup 50 (.map (some g)) (.string s) true).run Try.prog w = .ok (.tuple #[.agg #[.int .i64 (opT t), .string (nameT t), .int .i64 (numT t), .slice a n c], .bool true]) w ∧ Ar B w t a n c := by
  obtain ⟨n, D, ⟨es, ck, h1, h2, h3, h4⟩, hD, hn, hss⟩ := h
  obtain ⟨a, m, c, e1, e2⟩ := (hss s).2 t ht
  subst h4
  rcases Maps.fit_look (t := 50) true lawS Try.underlying50 (zeroT w) h1 h2 (keyOf_string_mk Try.underlying9 hs) with ⟨_, _, hz⟩ | ⟨e0, y, _, _, hrun, hR, hat, _⟩
  · have := (e1 .nil).symm.trans (hz .nil)
    cases this
  · have h5 := (e1 .nil).symm.trans (hat .nil)
    unfold RV at hR
    injection hR with hR
    rw [← hR] at h5
    injection h5 with h5
    rw [← h5] at hrun
    exact ⟨a, m, c, hrun, e2⟩
set_option maxRecDepth 100000 in
/-- asked: not there -/
theorem MapU.miss {B : Nat} {w : World} {g : Nat} {l : List Pr} (h : MapU B w g l) (s : ByteArray) (hs : s.size ≤ maxLen) (ht : getU l s = none) :
    (Instr.lookup 50 (.map (some g)) (.string s) true).run Try.prog w = .ok (.tuple #[.agg #[.int .i64 0, .string ⟨#[]⟩, .int .i64 0, .slice none 0 0], .bool false]) w := by
  obtain ⟨n, D, ⟨es, ck, h1, h2, h3, h4⟩, hD, hn, hss⟩ := h
  have e1 := (hss s).1 ht
  subst h4
  rcases Maps.fit_look (t := 50) true lawS Try.underlying50 (zeroT w) h1 h2 (keyOf_string_mk Try.underlying9 hs) with ⟨hrun, _, _⟩ | ⟨e0, y, _, _, hrun, hR, hat, _⟩
  · exact hrun
  · have h5 := (e1 .nil).symm.trans (hat .nil)
    unfold RV at hR
    injection hR with hR
    rw [← hR] at h5
    cases h5
end Go.Proofs.Yteidknjhponpkaa.U
namespace Go.Proofs.Yteidknjhponpkaa.U
open Go.RowKit L T C B
set_option linter.unusedVariables false
set_option linter.unusedSimpArgs false

/-! a term with others in place of its variables -/
mutual
def sbT (f : ByteArray → Option Tm) : Tm → Tm
  | .mk o s z l => match (if o = 1 then f s else none) with | some u => u | none => .mk o s z (sbTs f l)
def sbTs (f : ByteArray → Option Tm) : List Tm → List Tm
  | [] => []
  | t :: l => sbT f t :: sbTs f l
end
theorem sbTs_map (f : ByteArray → Option Tm) : ∀ l : List Tm, sbTs f l = l.map (sbT f)
  | [] => by rw [sbTs]; rfl
  | t :: l => by rw [sbTs, sbTs_map f l]; rfl
theorem sbT_put {f : ByteArray → Option Tm} {t u : Tm} (h1 : opT t = 1) (h : f (nameT t) = some u) : sbT f t = u := by
  cases t with | mk o s z l => rw [sbT]; simp only [opT] at h1; simp only [nameT] at h; rw [if_pos h1, h]
theorem sbT_go {f : ByteArray → Option Tm} {t : Tm} (h : opT t ≠ 1 ∨ f (nameT t) = none) : sbT f t = .mk (opT t) (nameT t) (numT t) ((argsT t).map (sbT f)) := by
  cases t with
  | mk o s z l =>
    rw [sbT]; simp only [opT, nameT] at h
    have e : (if o = 1 then f s else none) = none := by
      by_cases h1 : o = 1
      · rw [if_pos h1]; exact h.resolve_left (fun h2 => h2 h1)
      · rw [if_neg h1]
    rw [e, sbTs_map]; rfl
/-- what stands for a name, so deep within binders -/
def getK (l : List Pr) (K : Int) (s : ByteArray) : Option Tm := (getU l s).map (wk (fLift K 0) 0)
theorem getU_mem : ∀ {l : List Pr} {s : ByteArray} {u : Tm}, getU l s = some u → ∃ p ∈ l, p.t = u
  | [], s, u, h => by simp [getU] at h
  | p :: l, s, u, h => by
    rw [getU] at h
    by_cases e : p.nm.toList == s.toList
    · rw [if_pos e] at h; injection h with h; exact ⟨p, by simp, h⟩
    · rw [if_neg e] at h; obtain ⟨q, hq, e2⟩ := getU_mem h; exact ⟨q, by simp [hq], e2⟩
def InOk (l : List Pr) (K : Int) (t : Tm) : Prop := ∀ (B g : Nat) (a : Option Addr) (m c : Nat) (w : World), MapU B w g l → B ≤ w.heap.size → smT t → size t ≤ 1000000 → ArW w t a m c →
  Calls Try.prog 33 #[.map (some g), .agg #[.int .i64 (opT t), .string (nameT t), .int .i64 (numT t), .slice a m c], .int .i64 K] w fun e w' => RtT (sbT (getK l K) t) w e w'
def IncOk (l : List Pr) (K : Int) (t : Tm) : Prop := ∀ (B g p q : Nat) (a : Option Addr) (m c : Nat) (w : World), MapU B w g l → B ≤ w.heap.size → smT t → size t ≤ 1000000 → ArW w t a m c → Blk w p #[.map (some g)] 50 → Blk w q #[.int .i64 K] 3 →
  Calls Try.prog 60 #[.agg #[.int .i64 (opT t), .string (nameT t), .int .i64 (numT t), .slice a m c], .pointer (some ⟨p, 0, none⟩), .pointer (some ⟨q, 0, none⟩)] w fun e w' => RtT (sbT (getK l K) t) w e w'
/-- a term in new memory, stored in a block of the caller's own -/
theorem rt_put {r : Tm} {w W w4 : World} {g : Nat} {a : Option Addr} {n c : Nat} (hB : Below w.heap.size w W) (hg : w.heap.size ≤ g) (hgW : g < W.heap.size) (hA : ArP (Nw 0 0 W.heap.size w4.heap.size) w4 r a n c) (hb : Below W.heap.size W w4) (v0 v1 v2 v3 : Value) :
    RtT r w (.returned (.agg #[.int .i64 (opT r), .string (nameT r), .int .i64 (numT r), .slice a n c])) ((((w4.setCell ⟨g, 0, none⟩ v0).setCell ⟨g, 1, none⟩ v1).setCell ⟨g, 2, none⟩ v2).setCell ⟨g, 3, none⟩ v3) :=
  ⟨a, n, c, rfl, ArP.to (fun b hb2 => put_other w4 g b v0 v1 v2 v3 (by unfold Nw at hb2; omega)) (fun b hb2 => by have := hB.size; rw [put_size]; unfold Nw at hb2 ⊢; omega) r hA, put_below (bel_trans hB hb) hg v0 v1 v2 v3⟩
theorem arP_mk {P : Nat → Prop} {w : World} {l : List Tm} {a : Option Addr} {n c : Nat} {o : Int} {s : ByteArray} {z : Int} (h : ArP P w (.mk 0 ⟨#[]⟩ 0 l) a n c) : ArP P w (.mk o s z l) a n c := by rw [ArP] at h ⊢; exact h
set_option maxRecDepth 100000 in
set_option maxHeartbeats 4000000 in
theorem inc_of {l : List Pr} {K : Int} {t : Tm} (ht : InOk l K t) : IncOk l K t := by
  intro B g p q a m c w hM hBw hsm hsz hA hp hq
  obtain ⟨W2, hW2, hB2, hs, S2, R2⟩ := box_res w (opT t) (nameT t) (numT t) a m c
  have cc := ht B g a m c W2 (hM.b hBw hB2) (Nat.le_trans hBw hB2.size) hsm hsz (ArW.b hA hB2)
  obtain ⟨s0, s1, s2, s3⟩ := S2.four
  have p0 := Blk.cell (Blk.below hp hB2) 0
  have q0 := Blk.cell (Blk.below hq hB2) 0
  have HR := Lib.hid R2
  have HFin := Lib.hid (show ∀ (r : Tm) (w3 : World) (a3 : Option Addr) (n3 c3 : Nat), ArP (Nw 0 0 W2.heap.size w3.heap.size) w3 r a3 n3 c3 → Below W2.heap.size W2 w3 → ∀ v0 v1 v2 v3, RtT r w (.returned (.agg #[.int .i64 (opT r), .string (nameT r), .int .i64 (numT r), .slice a3 n3 c3])) ((((w3.setCell ⟨w.heap.size + 1, 0, none⟩ v0).setCell ⟨w.heap.size + 1, 1, none⟩ v1).setCell ⟨w.heap.size + 1, 2, none⟩ v2).setCell ⟨w.heap.size + 1, 3, none⟩ v3) from fun r w3 a3 n3 c3 h1 h2 v0 v1 v2 v3 => rt_put hB2 (by omega) (by omega) h1 h2 v0 v1 v2 v3)
  clear hA hM S2 R2 ht hsz hp hq hsm
  unfold RtT at cc
  generalize opT t = op at *
  generalize nameT t = nm at *
  generalize numT t = nu at *
  generalize sbT (getK l K) t = r at *
  go_enter Try.func60, Try.ntmps60
  go_wp2_with (go_at_call 33; ((with_reducible refine cc.mono ?_); rintro e w3 ⟨a3, n3, c3, rfl, hF, hb3⟩; have Hn := Lib.hid (HFin.out r w3 a3 n3 c3 hF hb3); clear hF; have R3 := TBox.b HR.out hb3; obtain ⟨r0, r1, r2, r3⟩ := R3.free; obtain ⟨v0, v1, v2, v3⟩ := R3.four; have F3 := TBox.put R3 (opT r) (nameT r) (numT r) a3 n3 c3; obtain ⟨x0, x1, x2, x3⟩ := F3.four))
  simp [bodyPost, results, Try.results60, go_sem, x0, x1, x2, x3]
  exact Hn.out _ _ _ _
theorem inBoxes (w : World) (g : Nat) (o : Int) (s : ByteArray) (z : Int) (a : Option Addr) (n c : Nat) (K : Int) :
    ∃ W, (((w.alloc (.cells #[.map (some g)] 50)).alloc (.cells #[.int .i64 o, .string s, .int .i64 z, .slice a n c] 24)).alloc (.cells #[.int .i64 K] 3)).alloc (.cells #[.int .i64 0, .string ⟨#[]⟩, .int .i64 0, .slice none 0 0] 24) = W ∧ Below w.heap.size w W ∧ W.heap.size = w.heap.size + 4 ∧
      Blk W w.heap.size #[.map (some g)] 50 ∧ TBox W (w.heap.size + 1) o s z a n c ∧ Blk W (w.heap.size + 1 + 1) #[.int .i64 K] 3 ∧ TBox W (w.heap.size + 1 + 1 + 1) 0 ⟨#[]⟩ 0 none 0 0 := by
  have b0 := Blk.new w #[.map (some g)] 50
  have b1 := TBox.new (w.alloc (.cells #[.map (some g)] 50)) o s z a n c
  have b2 := Blk.new ((w.alloc (.cells #[.map (some g)] 50)).alloc (.cells #[.int .i64 o, .string s, .int .i64 z, .slice a n c] 24)) #[.int .i64 K] 3
  have b3 := TBox.new (((w.alloc (.cells #[.map (some g)] 50)).alloc (.cells #[.int .i64 o, .string s, .int .i64 z, .slice a n c] 24)).alloc (.cells #[.int .i64 K] 3)) 0 ⟨#[]⟩ 0 none 0 0
  simp only [World.size_alloc] at b1 b2 b3
  exact ⟨_, rfl, bel_alloc (bel_alloc (bel_alloc (bel_alloc (Below.refl _ _) _) _) _) _, by simp, Blk.alloc (Blk.alloc (Blk.alloc b0 _) _) _, Blk.alloc (Blk.alloc b1 _) _, Blk.alloc b2 _, b3⟩
set_option maxRecDepth 100000 in
set_option maxHeartbeats 4000000 in
theorem in_step (l : List Pr) (hu : ∀ p ∈ l, 1 + size p.t ≤ 1000000) (K : Int) (t : Tm) (hok : ∀ x ∈ argsT t, InOk l K x) : InOk l K t := by
  intro B g a m c w hM hBw hsm hsz hA
  obtain ⟨W, hW, hB, hs, P0, S2, Q0, R2⟩ := inBoxes w g (opT t) (nameT t) (numT t) a m c K
  have hsl : sizes (argsT t) ≤ 1000000 := by
    have : size t = 1 + sizes (argsT t) := by cases t; rw [size]; rfl
    omega
  have hlen : ∀ l : List Tm, l.length ≤ sizes l := fun l => by
    induction l with
    | nil => exact Nat.le_refl _
    | cons t l ih => rw [List.length_cons, sizes]; have := size_pos t; omega
  have hm : m ≤ 1000000 := by have h1 := (ArW.args hA).1; have := hlen (argsT t); omega
  have hMW := hM.b hBw hB
  have hAW := ArW.b hA hB
  have hclos : ∀ (W5 : World), Below W.heap.size W W5 → MapClos 60 #[.pointer (some ⟨w.heap.size, 0, none⟩), .pointer (some ⟨w.heap.size + 1 + 1, 0, none⟩)] (sbT (getK l K)) (argsT t) W5 := fun W5 h5 x hx a' n' c' w' hb' hA' =>
    inc_of (hok x hx) B g w.heap.size (w.heap.size + 1 + 1) a' n' c' w' (hMW.b (Nat.le_trans hBw hB.size) (bel_trans h5 hb')) (Nat.le_trans hBw (Nat.le_trans hB.size (Nat.le_trans h5.size hb'.size))) (by obtain ⟨k, hk, rfl⟩ := List.getElem_of_mem hx; exact smTs_at (smT_args hsm) (List.getElem?_eq_getElem hk)) (by obtain ⟨k, hk, rfl⟩ := List.getElem_of_mem hx; have := alls_lt (List.getElem?_eq_getElem hk); omega) hA' (Blk.below P0 (bel_trans h5 hb')) (Blk.below Q0 (bel_trans h5 hb'))
  have cM := fun (W5 : World) (h5 : Below W.heap.size W W5) => mapped_any 60 #[.pointer (some ⟨w.heap.size, 0, none⟩), .pointer (some ⟨w.heap.size + 1 + 1, 0, none⟩)] (fun _ _ => rfl) (sbT (getK l K)) (argsT t) a m c W5 (hclos W5 h5) hm (TsW.b (ArW.args hAW) h5)
  have hgo := @sbT_go (getK l K) t
  have hpt := fun u => @sbT_put (getK l K) t u
  have HFinP := Lib.hid (show ∀ (r : Tm) (W5 w3 : World) (a3 : Option Addr) (n3 c3 : Nat), Below W.heap.size W W5 → ArP (Nw 0 0 W5.heap.size w3.heap.size) w3 r a3 n3 c3 → Below W5.heap.size W5 w3 → ∀ v0 v1 v2 v3, RtT r w (.returned (.agg #[.int .i64 (opT r), .string (nameT r), .int .i64 (numT r), .slice a3 n3 c3])) ((((w3.setCell ⟨w.heap.size + 1 + 1 + 1, 0, none⟩ v0).setCell ⟨w.heap.size + 1 + 1 + 1, 1, none⟩ v1).setCell ⟨w.heap.size + 1 + 1 + 1, 2, none⟩ v2).setCell ⟨w.heap.size + 1 + 1 + 1, 3, none⟩ v3) from fun r W5 w3 a3 n3 c3 h5 h1 h2 v0 v1 v2 v3 => rt_put (bel_trans hB h5) (by omega) (by have := h5.size; omega) h1 h2 v0 v1 v2 v3)
  have HFinM := Lib.hid (show (opT t ≠ 1 ∨ getK l K (nameT t) = none) → ∀ (W5 w3 : World) (A : Option Addr) (C : Nat), Below W.heap.size W W5 → ArP (Nw 0 0 W5.heap.size w3.heap.size) w3 (.mk 0 ⟨#[]⟩ 0 ((argsT t).map (sbT (getK l K)))) A m C → Below W5.heap.size W5 w3 → ∀ v0 v1 v2 v3, RtT (sbT (getK l K) t) w (.returned (.agg #[.int .i64 (opT t), .string (nameT t), .int .i64 (numT t), .slice A m C])) (((((w3.setCell ⟨w.heap.size + 1, 3, none⟩ (.slice A m C)).setCell ⟨w.heap.size + 1 + 1 + 1, 0, none⟩ v0).setCell ⟨w.heap.size + 1 + 1 + 1, 1, none⟩ v1).setCell ⟨w.heap.size + 1 + 1 + 1, 2, none⟩ v2).setCell ⟨w.heap.size + 1 + 1 + 1, 3, none⟩ v3) from fun hc W5 w3 A C h5 h1 h2 v0 v1 v2 v3 => by
    have q5 := h5.size
    have e := hgo hc
    have h3 : ArP (Nw 0 0 W5.heap.size w3.heap.size) (w3.setCell ⟨w.heap.size + 1, 3, none⟩ (.slice A m C)) (.mk 0 ⟨#[]⟩ 0 ((argsT t).map (sbT (getK l K)))) A m C := ArP.to (fun b hb => heap_setCell_other w3 ⟨w.heap.size + 1, 3, none⟩ b _ (by show b ≠ w.heap.size + 1; unfold Nw at hb; omega)) (fun b hb => hb) _ h1
    have z1 : (w3.setCell ⟨w.heap.size + 1, 3, none⟩ (.slice A m C)).heap.size = w3.heap.size := by simp [World.setCell]
    rw [e]
    refine ⟨A, m, C, rfl, arP_mk (ArP.to (P := Nw 0 0 W5.heap.size w3.heap.size) (fun b hb => put_other _ _ b v0 v1 v2 v3 (by unfold Nw at hb; omega)) (fun b hb => by rw [put_size, z1]; unfold Nw at hb ⊢; omega) _ h3), put_below (below_set (bel_trans hB (bel_trans h5 h2)) (by omega) _ _) (by omega) _ _ _ _⟩)
  have HP := Lib.hid P0
  have HS := Lib.hid S2
  have HQ := Lib.hid Q0
  have HR := Lib.hid R2
  have p0 : W.cell? ⟨w.heap.size, 0, none⟩ = some (.map (some g)) := Blk.cell P0 0
  have q0 : W.cell? ⟨w.heap.size + 1 + 1, 0, none⟩ = some (.int .i64 K) := Blk.cell Q0 0
  obtain ⟨s0, s1, s2, s3⟩ := S2.four
  have hnz := smT_name hsm
  unfold RtT at HFinM HFinP
  rcases hgu : getU l (nameT t) with _ | u
  · have hlk := hMW.miss (nameT t) hnz hgu
    have hgk : getK l K (nameT t) = none := by unfold getK; rw [hgu]; rfl
    have HF := Lib.hid (HFinM.out (.inr hgk))
    obtain ⟨W5, hW5, hB5, hs5, T5⟩ := box1 W 0 ⟨#[]⟩ 0 none 0 0
    have cM5 := cM W5 hB5
    clear hs hs5 HFinM HFinP hclos cM hgo hpt hok hu hMW hM hA hAW hsm hsl hm hsz hnz hgu hlen P0 S2 Q0 R2 hgk
    generalize sbT (getK l K) t = r at *
    generalize (argsT t).map (sbT (getK l K)) = lr at *
    obtain ⟨t0, t1, t2, t3⟩ := T5.four
    generalize opT t = op at *
    generalize nameT t = nm at *
    generalize numT t = nu at *
    have x0 := (hB5.cell (p := ⟨_, _, none⟩) (Blk.lt HP.out)).trans p0
    have x1 := (hB5.cell (p := ⟨_, _, none⟩) (Blk.lt HQ.out)).trans q0
    have x2 := (hB5.cell (p := ⟨_, _, none⟩) (Blk.lt HS.out)).trans s0
    have x3 := (hB5.cell (p := ⟨_, _, none⟩) (Blk.lt HS.out)).trans s3
    clear t0 t1 t2 t3 T5
    subst hW5
    go_enter Try.func33, Try.ntmps33
    go_wp2_with (go_at_call 37; ((with_reducible refine cM5.mono ?_); rintro e w3 ⟨A, C, rfl, hF, hb3⟩; have Hn := Lib.hid (HF.out _ w3 A C hB5 hF hb3); clear hF; have S3 := TBox.b (TBox.b HS.out hB5) hb3; have R3 := TBox.b (TBox.b HR.out hB5) hb3; obtain ⟨j0, j1, j2, j3⟩ := S3.free; obtain ⟨u0, u1, u2, u3⟩ := S3.four; obtain ⟨r0, r1, r2, r3⟩ := R3.free; obtain ⟨v0, v1, v2, v3⟩ := R3.four; have F3 := TBox.put (TBox.far R3 (show w.heap.size + 1 ≠ w.heap.size + 1 + 1 + 1 by omega) 3 (.slice A m C)) op nm nu A m C; obtain ⟨y0, y1, y2, y3⟩ := F3.four))
    simp [bodyPost, results, Try.results33, go_sem, y0, y1, y2, y3]
    exact Hn.out _ _ _ _
  · obtain ⟨ua, un, uc, hlk, hAu⟩ := hMW.find (nameT t) hnz u hgu
    obtain ⟨W5, hW5, hB5, hs5, T5⟩ := box1 W (opT u) (nameT u) (numT u) ua un uc
    by_cases h1 : opT t = 1
    · have o1 : (opT t == 1) = true := beq_yes' h1
      have hgk : getK l K (nameT t) = some (wk (fLift K 0) 0 u) := by unfold getK; rw [hgu]; rfl
      have er := hpt _ h1 hgk
      have hus : 1 + size u ≤ 1000000 := by obtain ⟨p, hp, e⟩ := getU_mem hgu; rw [← e]; exact hu p hp
      have cL := Lift_any K u ua un uc W5 hus (ArW.b (Ar.mono (Nat.le_trans hBw hB.size) _ hAu) hB5)
      rw [er]
      clear hs hs5 HFinM er hgk hus hclos cM hgo hpt hok hu hMW hM hA hAW hsm hsl hm hsz hnz hgu hlen hAu P0 S2 Q0 R2 h1
      unfold RtT at cL
      generalize wk (fLift K 0) 0 u = r at *
      obtain ⟨t0, t1, t2, t3⟩ := T5.four
      generalize opT u = op' at *
      generalize nameT u = nm' at *
      generalize numT u = nu' at *
      generalize opT t = op at *
      generalize nameT t = nm at *
      generalize numT t = nu at *
      have x0 := (hB5.cell (p := ⟨_, _, none⟩) (Blk.lt HP.out)).trans p0
      have x1 := (hB5.cell (p := ⟨_, _, none⟩) (Blk.lt HQ.out)).trans q0
      have x2 := (hB5.cell (p := ⟨_, _, none⟩) (Blk.lt HS.out)).trans s0
      go_enter Try.func33, Try.ntmps33
      go_wp2_with (go_at_call 59; ((with_reducible refine cL.mono ?_); rintro e w3 ⟨a3, n3, c3, rfl, hF, hb3⟩; have Hn := Lib.hid (HFinP.out r W5 w3 a3 n3 c3 hB5 hF hb3); clear hF; have R3 := TBox.b (TBox.b HR.out hB5) hb3; obtain ⟨r0, r1, r2, r3⟩ := R3.free; obtain ⟨v0, v1, v2, v3⟩ := R3.four; have F3 := TBox.put R3 (opT r) (nameT r) (numT r) a3 n3 c3; obtain ⟨y0, y1, y2, y3⟩ := F3.four))
      simp [bodyPost, results, Try.results33, go_sem, y0, y1, y2, y3]
      exact Hn.out _ _ _ _
    · have o1 : (opT t == 1) = false := beq_no' h1
      have HF := Lib.hid (HFinM.out (.inl h1))
      have cM5 := cM W5 hB5
      clear hs hs5 HFinM HFinP hclos cM hgo hpt hok hu hMW hM hA hAW hsm hsl hm hsz hnz hgu hlen P0 S2 Q0 R2 h1 hAu
      generalize sbT (getK l K) t = r at *
      generalize (argsT t).map (sbT (getK l K)) = lr at *
      obtain ⟨t0, t1, t2, t3⟩ := T5.four
      generalize opT u = op' at *
      generalize nameT u = nm' at *
      generalize numT u = nu' at *
      generalize opT t = op at *
      generalize nameT t = nm at *
      generalize numT t = nu at *
      have x0 := (hB5.cell (p := ⟨_, _, none⟩) (Blk.lt HP.out)).trans p0
      have x1 := (hB5.cell (p := ⟨_, _, none⟩) (Blk.lt HQ.out)).trans q0
      have x2 := (hB5.cell (p := ⟨_, _, none⟩) (Blk.lt HS.out)).trans s0
      have x3 := (hB5.cell (p := ⟨_, _, none⟩) (Blk.lt HS.out)).trans s3
      go_enter Try.func33, Try.ntmps33
      go_wp2_with (go_at_call 37; ((with_reducible refine cM5.mono ?_); rintro e w3 ⟨A, C, rfl, hF, hb3⟩; have Hn := Lib.hid (HF.out _ w3 A C hB5 hF hb3); clear hF; have S3 := TBox.b (TBox.b HS.out hB5) hb3; have R3 := TBox.b (TBox.b HR.out hB5) hb3; obtain ⟨j0, j1, j2, j3⟩ := S3.free; obtain ⟨u0, u1, u2, u3⟩ := S3.four; obtain ⟨r0, r1, r2, r3⟩ := R3.free; obtain ⟨v0, v1, v2, v3⟩ := R3.four; have F3 := TBox.put (TBox.far R3 (show w.heap.size + 1 ≠ w.heap.size + 1 + 1 + 1 by omega) 3 (.slice A m C)) op nm nu A m C; obtain ⟨y0, y1, y2, y3⟩ := F3.four))
      simp [bodyPost, results, Try.results33, go_sem, y0, y1, y2, y3]
      exact Hn.out _ _ _ _
theorem inTerm_any (l : List Pr) (hu : ∀ p ∈ l, 1 + size p.t ≤ 1000000) (K : Int) (t : Tm) : InOk l K t := Tm.ind (in_step l hu K) t
end Go.Proofs.Yteidknjhponpkaa.U
namespace Go.Proofs.Yteidknjhponpkaa.U
open Go.RowKit Go.Shelf L T C
set_option linter.unusedVariables false
set_option linter.unusedSimpArgs false
attribute [local go_sem] Oper.semAt_some

/-! what a round keeps: what lay below n0, and every block that holds a list -/
def KeepU (W W' : World) : Prop := ∀ (k : Nat) (cs : Array Value), W.heap[k]? = some (.cells cs 31 (0, 0)) → W'.heap[k]? = some (.cells cs 31 (0, 0))
def KpU (n0 : Nat) (W W' : World) : Prop := Below n0 W W' ∧ KeepU W W'
theorem KpU.refl (n0 : Nat) (W : World) : KpU n0 W W := ⟨Below.refl _ _, fun k cs h => h⟩
theorem KpU.trans {n0 : Nat} {A B C : World} (h : KpU n0 A B) (k : KpU n0 B C) : KpU n0 A C := ⟨h.1.trans k.1, fun i cs h0 => k.2 i cs (h.2 i cs h0)⟩
theorem KpU.of_below {n0 : Nat} {W W' : World} (hn : n0 ≤ W.heap.size) (h : Below W.heap.size W W') : KpU n0 W W' := ⟨h.mono hn, fun k cs h0 => (h.block k (Array.getElem?_eq_some_iff.1 h0).1).trans h0⟩
theorem KpU.obj {n0 : Nat} {w : World} (hn : n0 ≤ w.heap.size) (W : World) (l : Nat) (o o' : Obj) (hl : w.heap.size ≤ l) (h : W.heap[l]? = some o) (h1 : o.isCells = false) (h2 : o.isWalk = false) : KpU n0 W (W.putObj l o') :=
  ⟨belowK_b hn W l o o' hl h h1 h2, fun k cs h0 => (World.putObj_heap_other (fun e => by subst e; rw [h] at h0; cases h0; cases h1)).trans h0⟩
structure PtU (B : Nat) (w0 : World) where
  i : Nat
  p : Pr
  a : Option Addr
  n : Nat
  c : Nat
  ok : Ar B w0 p.t a n c
  sm : p.nm.size ≤ maxLen
def encU {B : Nat} {w0 : World} (y : PtU B w0) : Array Value := #[.int .i64 (y.i : Int), .agg #[.string y.p.nm, .int .i64 (opT y.p.t), .string (nameT y.p.t), .int .i64 (numT y.p.t), .slice y.a y.n y.c]]
def tU {B : Nat} {w0 : World} (y : PtU B w0) : Pr := y.p
theorem drop_revU {l : List Pr} {k : Nat} {x : Pr} (h : l[k]? = some x) : (l.drop k).reverse = (l.drop (k + 1)).reverse ++ [x] := by
  rw [drop_u h, List.reverse_cons]

theorem backU_any (A : Option Addr) (m c : Nat) (w : World) :
    Calls Try.prog 58 #[.slice A m c] w fun e w' => e = .returned (.func (.func 79) #[] #[.pointer (some ⟨w.heap.size, 0, none⟩)]) ∧ w' = w.alloc (.cells #[.slice A m c] 31) := by
  go_enter Try.func58, Try.ntmps58
  go_wp2
  go_ret
  exact ⟨rfl, rfl⟩
set_option maxRecDepth 100000 in
set_option maxHeartbeats 4000000 in
theorem backU_stops (n B g : Nat) (w0 w : World) (A : Option Addr) (m c : Nat) (l : List Pr) (hT : IsU B w0 A m c l) (hsz : ∀ y ∈ l, y.nm.size ≤ maxLen) (hB : Below B w0 w) (hBw : B ≤ w.heap.size) (hG : Blk w g #[.slice A m c] 31) :
    SeqStopsK Fence.wide n Try.prog 79 #[.pointer (some ⟨g, 0, none⟩)] (encU (B := B) (w0 := w0)) (KpU B) (fun ys => ys.map tU = l.reverse) (fun pre => pre.map tU <+: l.reverse) l.length w := fun lp J Jx W hW hJ hJx hY h0 => by
  have hGW : Blk W g #[.slice A m c] 31 := Blk.below hG hW
  have hn : m ≤ 9223372036854775807 := by have h1 := hT.2.1; have h2 := hT.2.2.1; unfold maxLen at h2; omega
  have hdd : ∀ k : Nat, (Fence.wide.depth.isSome = true → 1 ≤ k) := fun k h => by cases h
  have hBW : Below B w0 W := hB.trans (hW.mono hBw)
  have hBs : B ≤ W.heap.size := Nat.le_trans hBw hW.size
  have g0 := Blk.cell hGW 0
  have HT := Lib.hid hT
  have HY := Lib.hid hY
  have HG := Lib.hid hGW
  have hml : m = l.length := hT.1
  have HML := Lib.hid hml
  have H0 : Hid (∃ ys : List (PtU B w0), ys.map tU = (l.drop m).reverse ∧ J ys W) := ⟨[], by rw [List.drop_eq_nil_of_le (by omega)]; rfl, h0⟩
  have wr1 : IntKind.i64.wrap ((m : Int) - 1) = (m : Int) - 1 := by rw [IntKind.wrap_i64]; omega
  clear hT hY hG hGW h0 hml hJ hJx hW hB
  refine callsIn_of_wp Try.func79 rfl trivial ?_ rfl
  simp only [Try.ntmps79, List.size_toArray, List.length_cons, List.length_nil, Nat.reduceAdd, Nat.reduceSub, Array.replicate_succ, Array.replicate_zero, List.push_toArray, List.append_toArray, List.nil_append, List.cons_append]
  gi_wp2
  gi_loopw [3] (fun i wr0 => ∃ (wr : World) (k : Nat), wr = wr0 ∧ k ≤ m ∧ i = .int .i64 ((k : Int) - 1) ∧ KpU B W wr ∧ Hid (∃ ys : List (PtU B w0), ys.map tU = (l.drop k).reverse ∧ J ys wr)) (fun i _ => (intOf i + 1).toNat)
  case atStart => exact ⟨_, m, rfl, by omega, rfl, KpU.refl _ _, H0⟩
  case round =>
    obtain ⟨wr, k, rfl, hk, rfl, hKr, hR⟩ := hrel
    have hBr : Below B w0 wr := hBW.trans hKr.1
    have hgr : Blk wr g #[.slice A m c] 31 := hKr.2 g _ HG.out
    have gr0 := Blk.cell hgr 0
    cases k with
    | zero =>
      have hc : ¬ ((0 : Nat) : Int) - 1 ≥ 0 := by omega
      obtain ⟨ys, h1, h2⟩ := hR.out
      have HF : Hid (∃ ys : List (PtU B w0), ys.map tU = l.reverse ∧ J ys wr) := ⟨ys, by rw [h1, List.drop_zero], h2⟩
      clear hR h1 h2
      gi_wp2
      go_end0
      exact ⟨⟨_, rfl⟩, .inl HF.out⟩
    | succ k =>
      have hlt : k < m := by omega
      obtain ⟨bb, o, x, M1, Mn, Mc, rfl, hb, z0, z1, z2, z3, z4, hx, hok⟩ := HT.out.at hlt
      have y0 := (hBr.cell (p := ⟨bb, _, none⟩) hb).trans z0
      have y1 := (hBr.cell (p := ⟨bb, _, none⟩) hb).trans z1
      have y2 := (hBr.cell (p := ⟨bb, _, none⟩) hb).trans z2
      have y3 := (hBr.cell (p := ⟨bb, _, none⟩) hb).trans z3
      have y4 := (hBr.cell (p := ⟨bb, _, none⟩) hb).trans z4
      have hwx := hsz x (List.mem_of_getElem? hx)
      obtain ⟨ys, hys, hJr⟩ := hR.out
      have hlen : ys.length + (k + 1) = l.length := by
        have := congrArg List.length hys
        rw [List.length_map, List.length_reverse, List.length_drop] at this
        have := HML.out
        omega
      obtain ⟨fn, tmps, assign, body, hy, hRn⟩ := yield_any rfl (n - 1) (HY.out ys ⟨k, x, M1, Mn, Mc, hok, hwx⟩ wr hJr (by omega))
      dsimp only [encU] at hy
      have hdr := drop_revU hx
      have hpre : ys.map tU ++ [x] <+: l.reverse := by
        rw [hys, ← hdr]
        have := List.take_append_drop k l
        conv => rhs; rw [← this, List.reverse_append]
        exact List.prefix_append _ _
      have Hys := Lib.hid hys
      have Hdr := Lib.hid hdr
      have Hpre := Lib.hid hpre
      have ek : (((k + 1 : Nat) : Int) - 1) = (k : Int) := by omega
      rw [ek]
      have wk : IntKind.i64.wrap ((k : Int) - 1) = (k : Int) - 1 := by rw [IntKind.wrap_i64]; omega
      have hc : (k : Int) ≥ 0 := by omega
      have hk0 : 0 ≤ (k : Int) := by omega
      have hk1 : (k : Int) < (m : Int) := by omega
      clear z0 z1 z2 z3 z4 hx hys hdr hpre hR HT HY ek hJr
      generalize opT x.t = op' at *
      generalize nameT x.t = nm' at *
      generalize numT x.t = nu' at *
      gi_wp2_with ((try refine ⟨hdd _, ?_⟩); refine hRn.mono ?_; clear hRn; rintro e W3 (⟨rfl, hJ3, hk3⟩ | ⟨rfl, hx3⟩); all_goals (first | (have HJ3 := Lib.hid hJ3; clear hJ3) | (have HX3 := Lib.hid hx3; clear hx3)))
      · go_roundw
        case rel => exact ⟨_, k, rfl, by omega, by go_num, hKr.trans hk3, ⟨ys ++ [⟨k, x, M1, Mn, Mc, hok, hwx⟩], by rw [List.map_append, Hys.out, Hdr.out]; rfl, by first | exact HJ3.out | (have := HJ3.out; rwa [List.append_assoc] at this)⟩⟩
        case measure => simp [intOf]
      · refine bodyPost_ret (results_none rfl _ _ _) rfl ?_
        exact ⟨⟨_, rfl⟩, .inr ⟨_, by rw [List.map_append, List.map_singleton]; exact Hpre.out, HX3.out⟩⟩
end Go.Proofs.Yteidknjhponpkaa.U
namespace Go.Proofs.Yteidknjhponpkaa.U
open Go.RowKit Go.Shelf Go.Maps L T C
set_option linter.unusedVariables false
set_option linter.unusedSimpArgs false
attribute [local go_sem] Oper.semAt_some

theorem own_map {β : Type} {B : Nat} {B0 g : Nat} (hg : g < B) (f : β → List Pr) (hB0 : B0 ≤ B) : OwnFrom B (fun (s : β) W => MapU B0 W g (f s) ∧ B ≤ W.heap.size) := fun s X Y row hs hgr hr => by
  obtain ⟨h1, h2⟩ := hs
  refine ⟨h1.keep (hgr.block g h1.lt (fun e => ?_)) ?_, Nat.le_trans h2 hgr.size⟩
  · have := (hr g e.symm).1; omega
  · exact (Below.refl B0 X).grown hgr (by omega) (fun q hq => by have := (hr q hq).1; omega)
set_option maxRecDepth 100000 in
set_option maxHeartbeats 8000000 in
theorem firsts_in (l : List Pr) (B : Nat) (w0 : World) (A : Option Addr) (m c : Nat) (w : World) (hsm : ∀ p ∈ l, p.nm.size ≤ maxLen) (hl : l.length < maxLen) (hG : IsU B w0 A m c l) (hBw : B ≤ w.heap.size) (hb0 : Below B w0 w) :
    CallsIn Fence.wide 6 Try.prog 32 #[.slice A m c] w fun e w' => e = .returned (.map (some w.heap.size)) ∧ MapU B w' w.heap.size l ∧ Below w.heap.size w w' := by
  have hmm := @run_makeMap Try.prog
  obtain ⟨W2, hW2⟩ : ∃ W2, (w.alloc (.map #[] 0)).alloc (.cells #[.map (some w.heap.size)] 50) = W2 := ⟨_, rfl⟩
  have hB1 : Below w.heap.size w (w.alloc (.map #[] 0)) := bel_alloc (Below.refl _ _) _
  have hB2 : Below w.heap.size w W2 := by rw [← hW2]; exact bel_alloc hB1 _
  have hs2 : W2.heap.size = w.heap.size + 2 := by rw [← hW2]; simp
  have M2 : MapU B W2 w.heap.size [] := by
    rw [← hW2]
    exact (MapU.made B w).b (by simp; omega) (bel_alloc (Below.refl _ _) _)
  have C2 : Blk W2 (w.heap.size + 1) #[.map (some w.heap.size)] 50 := by
    rw [← hW2]
    have := Blk.new (w.alloc (.map #[] 0)) #[.map (some w.heap.size)] 50
    rwa [World.size_alloc] at this
  have HM := Lib.hid M2
  have HC := Lib.hid C2
  clear M2 C2
  refine callsIn_of_wp_marks Try.func32 rfl trivial ?_ rfl
  simp only [Try.ntmps32, List.size_toArray, List.length_cons, List.length_nil, Nat.reduceAdd, Nat.reduceSub, Array.replicate_succ, Array.replicate_zero, List.push_toArray, List.append_toArray, List.nil_append, List.cons_append]
  gi_wp2_with (refine ⟨trivial, ?_⟩; gi_at_call 58; refine (callsIn_wide.2 (backU_any _ _ _ W2)).mono ?_; rintro e w' ⟨rfl, hw'⟩; have HW5 := Lib.hid hw'; clear hw')
  have hb5 : Below W2.heap.size W2 w' := by rw [HW5.out]; exact bel_alloc (Below.refl _ _) _
  have hB5 : Below w.heap.size w w' := bel_trans hB2 hb5
  have M5 : MapU B w' w.heap.size [] := HM.out.b (Nat.le_trans hBw hB2.size) hb5
  have C5 : Blk w' (w.heap.size + 1) #[.map (some w.heap.size)] 50 := Blk.below HC.out hb5
  have G5 : Blk w' W2.heap.size #[.slice A m c] 31 := by rw [HW5.out]; exact Blk.new W2 _ _
  have hst := backU_stops (5 : Nat) B W2.heap.size w0 w' A m c l hG hsm (hb0.trans (hB5.mono hBw)) (Nat.le_trans hBw hB5.size) G5
  rw [hs2] at hst
  have hs5 : w.heap.size + 3 ≤ w'.heap.size := by rw [HW5.out]; simp [hs2]
  (try rw [hs2])
  have HL := Lib.hid hl
  clear HW5 HM HC hG hW2 hB1 hB2 hb5 G5 hl hsm hs2
  refine wpIn_rangeFunc_ownH rfl (by decide) (gf := 79) (lb := #[.pointer (some ⟨w.heap.size + 2, 0, none⟩)]) rfl trivial (enters_of Try.func79 (by kernel_rfl) rfl)
    hst KpU.trans (KpU.obj (Nat.le_trans hBw hB5.size)) (Below.refl _ _) (fun _ => rfl)
    (fun pre W => ((MapU B W w.heap.size ((pre.map tU).reverse) ∧ w'.heap.size ≤ W.heap.size) ∧ Blk W (w.heap.size + 1) #[.map (some w.heap.size)] 50) ∧ Below w.heap.size w W)
    (fun cd pre W => False)
    (OwnFrom.and (OwnFrom.and (own_map (by omega) (fun pre : List (PtU B w0) => (pre.map tU).reverse) (Nat.le_trans hBw hB5.size)) (Own.from (own_blk _ _ _) _)) (ownFrom_below (Nat.le_refl _) hB5.size))
    (fun cd _ _ _ _ hs _ _ => hs)
    ⟨⟨⟨M5, Nat.le_refl _⟩, C5⟩, hB5⟩
    (fun y a2 W => ∃ Bx, UBox W Bx y.p.nm (opT y.p.t) (nameT y.p.t) (numT y.p.t) y.a y.n y.c ∧ a2 = { tmps := #[.slice A m c, undef, .map none, .pointer (some ⟨w.heap.size + 1, 0, none⟩), undef, .pointer (some ⟨Bx, 0, none⟩), .map (some w.heap.size), .slice A m c, .func (.func 79) #[] #[.pointer (some ⟨w.heap.size + 2, 0, none⟩)], .int .i64 (y.i : Int), .agg #[.string y.p.nm, .int .i64 (opT y.p.t), .string (nameT y.p.t), .int .i64 (numT y.p.t), .slice y.a y.n y.c], undef, undef, undef, undef, undef, undef], defers := [] })
    (fun x a2 _ X Y row hs hg hr => by obtain ⟨Bx, h2, h3⟩ := hs; exact ⟨Bx, own_blk Bx _ _ () X Y row h2 hg (fun r e => (hr r e).2), h3⟩)
    ?assign ?body ?done ?stop
  case assign =>
    rintro lp pre y W K ⟨⟨⟨hM, hw5⟩, hC⟩, hB⟩ hK
    have hb : Below W.heap.size W (W.alloc (.cells #[.string y.p.nm, .int .i64 (opT y.p.t), .string (nameT y.p.t), .int .i64 (numT y.p.t), .slice y.a y.n y.c] 43)) := bel_alloc (Below.refl _ _) _
    unfold encU
    gi_wp2
    exact hK _ _ (keepsF hb) (KpU.of_below (Nat.le_trans hBw hB.size) hb) ⟨⟨⟨hM.b (Nat.le_trans hBw hB.size) hb, Nat.le_trans hw5 hb.size⟩, Blk.below hC hb⟩, hB.trans (hb.mono hB.size)⟩ ⟨W.heap.size, Blk.new W _ _, rfl⟩
  case body =>
    rintro lp pre y a2 W hl hr ⟨⟨⟨hM, hw5⟩, hC⟩, hB⟩ ⟨Bx, hX, rfl⟩ hlt
    have c0 := Blk.cell hC 0
    obtain ⟨x0, x1, x2, x3, x4⟩ := UBox.five hX
    obtain ⟨W9, hrun, hM9, hg9, hb9⟩ := hM.put hBw (Nat.le_trans hBw hB.size) (by rw [List.length_reverse, List.length_map]; have := HL.out; omega) y.p y.a y.n y.c y.sm (Ar.bel (hb0.trans (hB.mono hBw)) _ y.ok)
    have HF : Hid (KeepsFrom w'.heap.size W W9 ∧ KpU B W W9 ∧ (((MapU B W9 w.heap.size (((pre ++ [y]).map tU).reverse) ∧ w'.heap.size ≤ W9.heap.size) ∧ Blk W9 (w.heap.size + 1) #[.map (some w.heap.size)] 50) ∧ Below w.heap.size w W9)) := Lib.hid (by
      have hgl := hM.lt
      have hb9' : Below w.heap.size W W9 := (Below.refl w.heap.size W).grown hg9 hB.size (fun q hq => by injection hq with hq; omega)
      have hnc : ∀ (k : Nat) (cs : Array Value) (t : TypeId), W.heap[k]? = some (.cells cs t (0, 0)) → W9.heap[k]? = some (.cells cs t (0, 0)) := fun k cs t hk => (hg9.block k (Array.getElem?_eq_some_iff.1 hk).1 (fun e => by
        injection e with e
        subst e
        obtain ⟨n, D, ⟨es, ck, h1, _⟩, _⟩ := hM
        rw [h1] at hk; cases hk)).trans hk
      refine ⟨⟨hg9.size, fun k o h1 h2 h3 => (hg9.block k (Array.getElem?_eq_some_iff.1 h2).1 (fun e => by injection e with e; omega)).trans h2⟩, ⟨hb9, fun k cs h => hnc k cs _ h⟩, ⟨⟨⟨by rw [List.map_append, List.reverse_append]; exact hM9, Nat.le_trans hw5 hg9.size⟩, hnc _ _ _ hC⟩, hB.trans hb9'⟩⟩)
    clear hM hM9 hg9 hb9 hC hX hst
    gi_wp2
    exact HF.out
  case done =>
    rintro D zs W hD hS ⟨⟨⟨hM, hw5⟩, hC⟩, hB⟩ hK
    rw [hS, List.reverse_reverse] at hM
    have c6 := Blk.cell hC 0
    have hB2 := (belowK_b (w := w') (Nat.le_refl _) W D _ (.deferred none) hD hK rfl rfl)
    have hB3 := hB.trans (belowK_b (w := w) (Nat.le_refl _) W D _ (.deferred none) (Nat.le_trans hB5.size hD) hK rfl rfl)
    have hM2 : MapU B (W.putObj D (.deferred none)) w.heap.size l := hM.keep (World.putObj_heap_other (by omega)) (hB2.mono (Nat.le_trans hBw hB5.size))
    have HM2 := Lib.hid hM2
    clear hM hM2
    gi_wp2
    refine ⟨by simp, .inl ⟨_, _, rfl, run_takeDeferred hK, ?_⟩⟩
    exact ⟨_, by simp [results, Try.results32, go_sem], rfl, HM2.out, hB3⟩
  case stop =>
    rintro D cd pre W hD hS hf hK
    exact hf.elim
theorem firsts_any (l : List Pr) (A : Option Addr) (m c : Nat) (w : World) (hsm : ∀ p ∈ l, p.nm.size ≤ maxLen) (hl : l.length < maxLen) (hG : UsW w A m c l) :
    Calls Try.prog 32 #[.slice A m c] w fun e w' => e = .returned (.map (some w.heap.size)) ∧ MapU w.heap.size w' w.heap.size l ∧ Below w.heap.size w w' :=
  callsIn_wide.1 (firsts_in l w.heap.size w A m c w hsm hl hG (Nat.le_refl _) (Below.refl _ _))
theorem firsts_at (l : List Pr) (B : Nat) (w0 : World) (A : Option Addr) (m c : Nat) (w : World) (hsm : ∀ p ∈ l, p.nm.size ≤ maxLen) (hl : l.length < maxLen) (hG : IsU B w0 A m c l) (hBw : B ≤ w.heap.size) (hb0 : Below B w0 w) :
    Calls Try.prog 32 #[.slice A m c] w fun e w' => e = .returned (.map (some w.heap.size)) ∧ MapU B w' w.heap.size l ∧ Below w.heap.size w w' :=
  callsIn_wide.1 (firsts_in l B w0 A m c w hsm hl hG hBw hb0)
end Go.Proofs.Yteidknjhponpkaa.U
namespace Go.Proofs.Yteidknjhponpkaa.U
open Go.RowKit L T C B
set_option linter.unusedVariables false
set_option linter.unusedSimpArgs false

theorem setCell_same {w : World} {g k : Nat} {v : Value} {cur : Array Value} {t : TypeId} (hg : w.heap[g]? = some (.cells cur t (0, 0))) (hk : cur[k]? = some v) : w.setCell ⟨g, k, none⟩ v = w := by
  have hlt := (Array.getElem?_eq_some_iff.1 hg).1
  have hx : (w.setCell ⟨g, k, none⟩ v).heap = w.heap := by
    refine Array.ext_getElem? fun i => ?_
    by_cases e : i = g
    · subst e
      rw [heap_setCell_same w i k _ _ v hg, hg]
      congr 2
      refine Array.ext_getElem? fun j => ?_
      rw [Array.getElem?_setIfInBounds]
      by_cases e2 : k = j
      · subst e2
        have := (Array.getElem?_eq_some_iff.1 hk).1
        rw [if_pos rfl, if_pos this, hk]
      · rw [if_neg e2]
    · exact heap_setCell_other w ⟨g, k, none⟩ i v e
  unfold World.setCell at hx ⊢
  cases w
  simp only at hx ⊢
  rw [hx]
/-- a row with another term at one place -/
def setT (w : World) (g k : Nat) (o : Int) (s : ByteArray) (z : Int) (a : Option Addr) (n c : Nat) : World := (((w.setCell ⟨g, k * 5 + 1, none⟩ (.int .i64 o)).setCell ⟨g, k * 5 + 2, none⟩ (.string s)).setCell ⟨g, k * 5 + 3, none⟩ (.int .i64 z)).setCell ⟨g, k * 5 + 4, none⟩ (.slice a n c)
theorem setT_size (w : World) (g k : Nat) (o : Int) (s : ByteArray) (z : Int) (a : Option Addr) (n c : Nat) : (setT w g k o s z a n c).heap.size = w.heap.size := by simp [setT, World.setCell]
theorem setT_other (w : World) (g k i : Nat) (o : Int) (s : ByteArray) (z : Int) (a : Option Addr) (n c : Nat) (hne : i ≠ g) : (setT w g k o s z a n c).heap[i]? = w.heap[i]? := by
  unfold setT
  rw [heap_setCell_other _ ⟨g, _, none⟩ i _ hne, heap_setCell_other _ ⟨g, _, none⟩ i _ hne, heap_setCell_other _ ⟨g, _, none⟩ i _ hne, heap_setCell_other _ ⟨g, _, none⟩ i _ hne]
theorem setT_below {B g : Nat} {w0 w : World} (hb : Below B w0 w) (hg : B ≤ g) (k : Nat) (o : Int) (s : ByteArray) (z : Int) (a : Option Addr) (n c : Nat) : Below B w0 (setT w g k o s z a n c) :=
  below_set (below_set (below_set (below_set hb hg _ _) hg _ _) hg _ _) hg _ _
theorem OwnP.setT {w : World} {lo g n c : Nat} {l : List Pr} (h : OwnP w lo (.slice (some ⟨g, 0, none⟩) n c) l) {k : Nat} {p : Pr} (hk : l[k]? = some p) (t : Tm) (a' : Option Addr) (n' c' : Nat) (hA : ArP (fun b => b < w.heap.size ∧ g ≠ b) w t a' n' c') :
    OwnP (setT w g k (opT t) (nameT t) (numT t) a' n' c') lo (.slice (some ⟨g, 0, none⟩) n c) (l.set k ⟨p.nm, t⟩) := by
  obtain ⟨hs, h1, h2, h3⟩ := h
  have hkl := (List.getElem?_eq_some_iff.1 hk).1
  have hks : k < hs.length := by omega
  have hnm : hs[k].nm = p.nm := (h3 k _ p (List.getElem?_eq_getElem hks) hk).1.1
  have ho := h1.set k (huOf ⟨p.nm, t⟩ a' n' c') hks
  have hw : setU w g k (huOf ⟨p.nm, t⟩ a' n' c') = U.setT w g k (opT t) (nameT t) (numT t) a' n' c' := by
    obtain ⟨cur, hg, hl, ht⟩ := h1.row
    have hc : cur[k * 5]? = some (.string p.nm) := by
      have e := flatU_get hs k 0 hks (by omega)
      rw [← ht, List.getElem?_take_of_lt (by omega), Array.getElem?_toList] at e
      rw [← hnm]; exact e
    unfold setU U.setT huOf
    rw [setCell_same hg hc]
  rw [hw] at ho
  refine ⟨_, ho, by rw [List.length_set, List.length_set, h2], fun i hd q e1 e2 => ?_⟩
  have hto : ∀ b, b < w.heap.size ∧ (Value.slice (some ⟨g, 0, none⟩) n c).ownBlock ≠ some b → (U.setT w g k (opT t) (nameT t) (numT t) a' n' c').heap[b]? = w.heap[b]? := fun b hb => setT_other w g k b _ _ _ _ _ _ (fun e => hb.2 (by rw [e]; rfl))
  by_cases e : i = k
  · subst e
    rw [List.getElem?_set_self hks] at e1
    rw [List.getElem?_set_self hkl] at e2
    injection e1 with e1
    injection e2 with e2
    subst e1 e2
    exact ⟨⟨rfl, rfl, rfl, rfl⟩, ArP.to (fun b hb => setT_other w g i b _ _ _ _ _ _ (fun e => hb.2 e.symm)) (fun b hb => ⟨by rw [setT_size]; exact hb.1, fun e => hb.2 (by simpa [Value.ownBlock] using e)⟩) t hA⟩
  · rw [List.getElem?_set_ne (fun x => e x.symm)] at e1 e2
    exact (h3 i hd q e1 e2).to hto (fun b hb => ⟨by rw [setT_size]; exact hb.1, hb.2⟩)
/-- a pair with another list applied to its term -/
def thenB (b : List Pr) (p : Pr) : Pr := ⟨p.nm, sbT (getK b 0) p.t⟩
def mixB (a b : List Pr) (k : Nat) : List Pr := (a.take k).map (thenB b) ++ a.drop k
theorem mixB_len (a b : List Pr) (k : Nat) : (mixB a b k).length = a.length := by
  unfold mixB
  rw [List.length_append, List.length_map, List.length_take, List.length_drop]; omega
theorem mixB_at {a b : List Pr} {k : Nat} {p : Pr} (h : a[k]? = some p) : (mixB a b k)[k]? = some p := by
  have hk := (List.getElem?_eq_some_iff.1 h).1
  unfold mixB
  rw [List.getElem?_append_right (by simp; omega), List.length_map, List.length_take, Nat.min_eq_left (by omega), Nat.sub_self, List.getElem?_drop, Nat.add_zero, h]
theorem mixB_step {a b : List Pr} {k : Nat} {p : Pr} (h : a[k]? = some p) : (mixB a b k).set k (thenB b p) = mixB a b (k + 1) := by
  have hk := (List.getElem?_eq_some_iff.1 h).1
  unfold mixB
  rw [List.set_append_right _ _ (by simp; omega), drop_u h, List.length_map, List.length_take, Nat.min_eq_left (by omega), Nat.sub_self, List.set_cons_zero, List.take_add_one, h, List.map_append, List.append_assoc]
  rfl
set_option maxRecDepth 100000 in
set_option maxHeartbeats 8000000 in
theorem Then_inc (a b : List Pr) (ha : incU a) (hi : incU (a.map (thenB b) ++ b)) (hsa : smU a) (hza : ∀ p ∈ a, size p.t ≤ 1000000) (hsb : smU b) (hzb : ∀ p ∈ b, 1 + size p.t ≤ 1000000) (A : Option Addr) (n c : Nat) (A' : Option Addr) (n' c' : Nat) (w : World) (hn : n + n' < 20) (hG : UsW w A n c a) (hG' : UsW w A' n' c' b) :
    Calls Try.prog 16 #[.slice A n c, .slice A' n' c'] w fun e w' => ∃ A2 C2, e = .returned (.slice A2 (n + n') C2) ∧ UsW w' A2 (n + n') C2 (a.map (thenB b) ++ b) ∧ Below w.heap.size w w' := by
  have hna : n = a.length := hG.1
  have hnb : n' = b.length := hG'.1
  have cO := orderedU_inc a ha A n c w hG (by omega)
  have HF := Lib.hid (show ∀ w', Below w.heap.size w w' → _ from fun w' h => firsts_at b w.heap.size w A' n' c' w' (fun p hp => (hsb p hp).2) (by unfold maxLen; omega) hG' h.size h)
  have HIn := Lib.hid (show ∀ (p : Pr) (k : Nat), a[k]? = some p → InOk b 0 p.t ∧ smT p.t ∧ size p.t ≤ 1000000 from fun p k h => ⟨inTerm_any b hzb 0 p.t, (hsa p (List.mem_of_getElem? h)).1, hza p (List.mem_of_getElem? h)⟩)
  have HCp := Lib.hid (show ∀ w', Below w.heap.size w w' → _ from fun w' h => copied_any b (fun p hp => by have := hzb p hp; omega) A' n' c' w' (by omega) (hG'.b h))
  have HO2 := Lib.hid (show ∀ (A3 : Option Addr) (C3 : Nat) (w' : World), UsW w' A3 (n + n') C3 (a.map (thenB b) ++ b) → _ from fun A3 C3 w' h => orderedU_inc _ hi A3 (n + n') C3 w' h hn)
  have HNa := Lib.hid hna
  have HNb := Lib.hid hnb
  have hend : mixB a b n = a.map (thenB b) := by unfold mixB; rw [List.take_of_length_le (by omega), List.drop_eq_nil_of_le (by omega), List.append_nil]
  have hst : mixB a b 0 = a := by unfold mixB; rw [List.take_zero]; rfl
  have HEnd := Lib.hid hend
  have HSt := Lib.hid hst
  clear hG hG' ha hi hsa hza hsb hzb hna hnb hend hst
  go_enter Try.func16, Try.ntmps16
  go_wp2_with (first
    | (go_at_call 31; ((with_reducible refine cO.mono ?_); rintro e w1 ⟨A1, C1, rfl, ho, hb1⟩; have HO := Lib.hid ho; clear ho))
    | (go_at_call 32; ((with_reducible refine (HF.out w1 hb1).mono ?_); rintro e w2 ⟨rfl, hM, hb2⟩; have HM := Lib.hid hM; clear hM)))
  have H0 : Hid (OwnP w2 w.heap.size (.slice A1 n C1) (mixB a b 0) ∧ MapU w.heap.size w2 w1.heap.size b) := Lib.hid ⟨by rw [HSt.out]; exact HO.out.below hb2, HM.out⟩
  have hB2 := bel_trans hb1 hb2
  have hs1 := hb1.size
  have hs2 := HM.out.lt
  go_loopw [15] (fun i wr0 => ∃ (wr : World) (k : Nat), wr = wr0 ∧ k ≤ n ∧ i = .int .i64 k ∧ Below w.heap.size w wr ∧ Hid (OwnP wr w.heap.size (.slice A1 n C1) (mixB a b k) ∧ MapU w.heap.size wr w1.heap.size b ∧ (∀ g, A1 = some ⟨g, 0, none⟩ → g < w1.heap.size))) (fun i _ => n - (intOf i).toNat)
  case atStart => exact ⟨_, 0, rfl, by omega, rfl, hB2, Lib.hid ⟨H0.out.1, H0.out.2, fun g hg => by subst hg; exact (HO.out.lt g rfl).2⟩⟩
  case round =>
    obtain ⟨wr, k, rfl, hk, rfl, hB, hR⟩ := hrel
    by_cases hlt : k < n
    · have hka : k < a.length := by rw [← HNa.out]; exact hlt
      obtain ⟨p, hp⟩ : ∃ p, a[k]? = some p := ⟨_, List.getElem?_eq_getElem hka⟩
      obtain ⟨bb, o, p', a', m', c'', hA1, hbb, y0, y1, y2, y3, y4, hp', hok⟩ := (hR.out.1.us).at hlt
      rw [mixB_at hp] at hp'
      injection hp' with hp'
      subst hp'
      obtain ⟨A0, c0, hv, _, _, _, hpos⟩ := hR.out.1.slice
      obtain ⟨g, hA0, hg1, hg2⟩ := hpos (by rw [mixB_len]; omega)
      injection hv with hv1 hv2 hv3
      rw [← hv1, hA1] at hA0
      injection hA0 with hA0
      injection hA0 with e1 e2
      subst e1 e2 hA1
      have hgm := hR.out.2.2 bb rfl
      rw [Nat.zero_add] at y0 y1 y2 y3 y4
      obtain ⟨W4, hW4, hB4, hs4, S4⟩ := ubox1 wr p.nm (opT p.t) (nameT p.t) (numT p.t) a' m' c''
      obtain ⟨hin, hsm, hsz⟩ := HIn.out p k hp
      have cc := hin w.heap.size w1.heap.size a' m' c'' W4 (hR.out.2.1.b hB.size hB4) (Nat.le_trans hB.size hB4.size) hsm hsz (ArW.b hok hB4)
      unfold RtT at cc
      obtain ⟨f0, f1, f2, f3, f4⟩ := S4.five
      have HGo := Lib.hid (show ∀ (w5 : World) (a5 : Option Addr) (n5 c5 : Nat), Below W4.heap.size W4 w5 → ArP (Nw 0 0 W4.heap.size w5.heap.size) w5 (sbT (getK b 0) p.t) a5 n5 c5 →
          (∃ u0 u1 u2 u3 : Value, w5.cell? ⟨bb, k * 5 + 1, none⟩ = some u0 ∧ w5.cell? ⟨bb, k * 5 + 1 + 1, none⟩ = some u1 ∧ w5.cell? ⟨bb, k * 5 + 1 + 1 + 1, none⟩ = some u2 ∧ w5.cell? ⟨bb, k * 5 + 1 + 1 + 1 + 1, none⟩ = some u3) ∧ (∀ j, w5.frozen? ⟨bb, j, none⟩ = false) ∧
          Below w.heap.size w (setT w5 bb k (opT (sbT (getK b 0) p.t)) (nameT (sbT (getK b 0) p.t)) (numT (sbT (getK b 0) p.t)) a5 n5 c5) ∧ Hid (OwnP (setT w5 bb k (opT (sbT (getK b 0) p.t)) (nameT (sbT (getK b 0) p.t)) (numT (sbT (getK b 0) p.t)) a5 n5 c5) w.heap.size (.slice (some ⟨bb, 0, none⟩) n C1) (mixB a b (k + 1)) ∧ MapU w.heap.size (setT w5 bb k (opT (sbT (getK b 0) p.t)) (nameT (sbT (getK b 0) p.t)) (numT (sbT (getK b 0) p.t)) a5 n5 c5) w1.heap.size b ∧ (∀ g, (some ⟨bb, 0, none⟩ : Option Addr) = some ⟨g, 0, none⟩ → g < w1.heap.size)) from fun w5 a5 n5 c5 h5 hA5 => by
        have b5 := bel_trans hB4 h5
        have ho5 := hR.out.1.below b5
        have hrow : ∃ hs, OwnU w5 w.heap.size (.slice (some ⟨bb, 0, none⟩) n C1) hs ∧ hs.length = (mixB a b k).length := by obtain ⟨hs, q1, q2, _⟩ := ho5; exact ⟨hs, q1, q2⟩
        obtain ⟨hs, q1, q2⟩ := hrow
        rw [mixB_len] at q2
        obtain ⟨cur, hg0, hl0, ht0⟩ := q1.row
        have hcell : ∀ j, j < 5 → ∃ u, w5.cell? ⟨bb, k * 5 + j, none⟩ = some u := fun j hj => ⟨_, by rw [cell_of_row w5 bb _ _ _ _ hg0]; exact Array.getElem?_eq_getElem (by omega)⟩
        obtain ⟨u0, k0⟩ := hcell 1 (by omega)
        obtain ⟨u1, k1⟩ := hcell 2 (by omega)
        obtain ⟨u2, k2⟩ := hcell 3 (by omega)
        obtain ⟨u3, k3⟩ := hcell 4 (by omega)
        refine ⟨⟨u0, u1, u2, u3, k0, k1, k2, k3⟩, fun j => q1.row.free j, setT_below (bel_trans (bel_trans hB hB4) h5) hg1 k _ _ _ _ _ _, Lib.hid ⟨?_, ?_, hR.out.2.2⟩⟩
        · have := ho5.setT (mixB_at hp) (sbT (getK b 0) p.t) a5 n5 c5 (ArP.to (fun _ _ => rfl) (fun x hx => by have := hB4.size; unfold Nw at hx; omega) _ hA5)
          rw [← mixB_step hp]
          exact this
        · exact (((hR.out.2.1.b hB.size hB4).b (Nat.le_trans hB.size hB4.size) h5).keep (setT_other w5 bb k w1.heap.size _ _ _ _ _ _ (by omega)) (setT_below (Below.refl _ _) hg1 k _ _ _ _ _ _)))
      unfold setT at HGo
      clear hp hok hR S4 hs4 hpos hsm hsz hin hv1 hv2 hv3
      generalize sbT (getK b 0) p.t = r at *
      generalize opT p.t = op' at *
      generalize nameT p.t = nm' at *
      generalize numT p.t = nu' at *
      generalize p.nm = xn at *
      have hk0 : 0 ≤ (k : Int) := by omega
      have hk1 : (k : Int) < (n : Int) := by omega
      go_wp2_with (go_at_call 33; ((with_reducible refine cc.mono ?_); rintro e w5 ⟨a5, n5, c5, rfl, hF, hb5⟩; obtain ⟨⟨u0, u1, u2, u3, q0, q1, q2, q3⟩, hfz, hBn, Hn⟩ := HGo.out w5 a5 n5 c5 hb5 hF; have g0 := hfz (k * 5 + 1); have g1 := hfz (k * 5 + 1 + 1); have g2 := hfz (k * 5 + 1 + 1 + 1); have g3 := hfz (k * 5 + 1 + 1 + 1 + 1); clear hF hfz))
      go_roundw
      case rel => exact ⟨_, k + 1, rfl, by omega, by go_num, hBn, Hn⟩
      case measure => simp [intOf]; omega
    · obtain rfl : k = n := by omega
      obtain ⟨ho, hM, hgl⟩ := hR.out
      rw [HEnd.out] at ho
      have HOw := Lib.hid ho
      have cCp := HCp.out wr hB
      have hlen : (a.map (thenB b)).length + b.length ≤ 1000000000 := by rw [List.length_map, ← HNa.out, ← HNb.out]; omega
      have HLen := Lib.hid (show (a.map (thenB b) ++ b).length = k + n' by rw [List.length_append, List.length_map, ← HNa.out, ← HNb.out])
      have hown : ∀ q, (Value.slice A1 k C1).ownBlock = some q → q < wr.heap.size := fun q hq => (ho.lt q hq).2
      have hbs := hB.size
      clear hR ho hM hgl HF HIn HCp
      go_wp2_with (first
        | (go_at_call 34; ((with_reducible refine cCp.mono ?_); rintro e w6 ⟨A6, C6, rfl, -, hU6, hb6⟩; have HU6 := Lib.hid hU6; clear hU6))
        | (at_builtin; ((refine app_pairs rfl (.tmp 29) (.tmp 31) rfl w.heap.size _ (a.map (thenB b)) rfl (HOw.out.below hb6) _ (fun x hx => ⟨hx.2, fun e => by have := hown x e; have := hx.1; omega⟩) _ _ _ b rfl HU6.out hlen (Nat.le_trans hbs hb6.size) ?_); intro v7 w7 ho7 hg7; have hb7 : Below w.heap.size w6 w7 := (Below.refl _ w6).grown hg7 (Nat.le_trans hbs hb6.size) (fun q hq => (HOw.out.lt q hq).1); obtain ⟨A7, C7, hv7, -⟩ := ho7.slice; rw [HLen.out] at hv7; subst hv7; have hB7 := (hB.trans (hb6.mono hbs)).trans hb7; have cO7 := HO2.out A7 C7 w7 ho7.us; clear ho7))
        | (go_at_call 31; ((with_reducible refine cO7.mono ?_); rintro e w8 ⟨A8, C8, rfl, ho8, hb8⟩; have HO8 := Lib.hid ho8; clear ho8)))
      go_ret
      exact ⟨_, _, rfl, HO8.out.us, hB7.trans (hb8.mono hB7.size)⟩
end Go.Proofs.Yteidknjhponpkaa.U
namespace Go.Proofs.Yteidknjhponpkaa.U
open Go.RowKit L T C B
set_option linter.unusedVariables false
set_option linter.unusedSimpArgs false

theorem rtT_up {r : Tm} {w w1 w' : World} {e : Ending} (h : RtT r w1 e w') (hb : Below w.heap.size w w1) : RtT r w e w' := by
  obtain ⟨a, n, c, e1, hA, hb1⟩ := h
  exact ⟨a, n, c, e1, ArP.to (fun _ _ => rfl) (fun b hq => by have := hb.size; unfold Nw at hq ⊢; omega) r hA, bel_trans hb hb1⟩
set_option maxRecDepth 100000 in
theorem Apply_any (l : List Pr) (hu : ∀ p ∈ l, 1 + size p.t ≤ 1000000) (hsu : ∀ p ∈ l, p.nm.size ≤ maxLen) (hl : l.length < maxLen) (t : Tm) (hst : smT t) (hsz : size t ≤ 1000000) (A : Option Addr) (m d : Nat) (a : Option Addr) (n c : Nat) (w : World) (hG : UsW w A m d l) (hA : ArW w t a n c) :
    Calls Try.prog 28 #[.slice A m d, .agg #[.int .i64 (opT t), .string (nameT t), .int .i64 (numT t), .slice a n c]] w fun e w' => RtT (sbT (getK l 0) t) w e w' := by
  obtain ⟨W2, hW2, hB2, hs2, S2, R2⟩ := box_res w (opT t) (nameT t) (numT t) a n c
  have hs : w.heap.size + 2 = W2.heap.size := hs2.symm
  have cF := fun (w' : World) (h : Below W2.heap.size W2 w') => firsts_any l A m d w' hsu hl (UsW.b (UsW.b hG hB2) h)
  have cI := fun (w2 : World) (B g : Nat) (hM : MapU B w2 g l) (hBl : B ≤ w2.heap.size) (hb : Below W2.heap.size W2 w2) => inTerm_any l hu 0 t B g a n c w2 hM hBl hst hsz (ArW.b (ArW.b hA hB2) hb)
  have HFin := Lib.hid (show ∀ (r : Tm) (W5 w3 : World) (a3 : Option Addr) (n3 c3 : Nat), Below W2.heap.size W2 W5 → ArP (Nw 0 0 W5.heap.size w3.heap.size) w3 r a3 n3 c3 → Below W5.heap.size W5 w3 → ∀ v0 v1 v2 v3, RtT r w (.returned (.agg #[.int .i64 (opT r), .string (nameT r), .int .i64 (numT r), .slice a3 n3 c3])) ((((w3.setCell ⟨w.heap.size + 1, 0, none⟩ v0).setCell ⟨w.heap.size + 1, 1, none⟩ v1).setCell ⟨w.heap.size + 1, 2, none⟩ v2).setCell ⟨w.heap.size + 1, 3, none⟩ v3) from fun r W5 w3 a3 n3 c3 h5 h1 h2 v0 v1 v2 v3 => rt_put (bel_trans hB2 h5) (by omega) (by have := h5.size; omega) h1 h2 v0 v1 v2 v3)
  have l0 : w.heap.size < W2.heap.size := by omega
  obtain ⟨s0, s1, s2, s3⟩ := S2.four
  have HR := Lib.hid R2
  have hBd : Below W2.heap.size W2 W2.drew := (Below.refl _ _).drew
  clear hG hA hst hsz hu hsu hl S2 R2 hs2 hs
  unfold RtT at cI
  generalize sbT (getK l 0) t = r at *
  generalize opT t = op at *
  generalize nameT t = nm at *
  generalize numT t = nu at *
  go_enter Try.func28, Try.ntmps28
  go_wp2_with fail
  go_region_held3 (fun w' => w'.cell? ⟨w.heap.size, 0, none⟩ = some (.int .i64 op) ∧ w'.cell? ⟨w.heap.size, 1, none⟩ = some (.string nm) ∧ w'.cell? ⟨w.heap.size, 2, none⟩ = some (.int .i64 nu) ∧ w'.cell? ⟨w.heap.size, 3, none⟩ = some (.slice a n c))
    (first | go_keep | (exact ⟨(Bn.cell l0).trans s0, (Bn.cell l0).trans s1, (Bn.cell l0).trans s2, (Bn.cell l0).trans s3⟩))
    (first
      | (go_at_call 32; ((with_reducible refine (cF _ hBd).mono ?_); rintro e w4 ⟨rfl, hM4, hb4⟩; have Bn := bel_trans hBd hb4; have HM4 := Lib.hid hM4; clear hM4; have cI4 := cI w4 W2.heap.size W2.heap.size HM4.out (by have := hb4.size; exact this) Bn))
      | (go_at_call 33; ((with_reducible refine cI4.mono ?_); rintro e w5 ⟨a3, n3, c3, rfl, hF, hb5⟩; have Hn := Lib.hid (HFin.out r w4 w5 a3 n3 c3 Bn hF hb5); clear hF; have Bn := bel_trans Bn hb5; have R3 := TBox.b HR.out Bn; obtain ⟨r0, r1, r2, r3⟩ := R3.free; obtain ⟨v0, v1, v2, v3⟩ := R3.four; have F3 := TBox.put R3 (opT r) (nameT r) (numT r) a3 n3 c3; obtain ⟨x0, x1, x2, x3⟩ := F3.four)))
  all_goals
    go_wp2
    simp [bodyPost, results, Try.results28, go_sem, x0, x1, x2, x3]
    exact Hn.out _ _ _ _
end Go.Proofs.Yteidknjhponpkaa.U
