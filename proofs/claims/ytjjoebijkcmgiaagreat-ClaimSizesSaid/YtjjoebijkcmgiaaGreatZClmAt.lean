/-
  What is proved: package claim's Atoms, of one claim that has two atoms which are the same: how many it returns.
-/
import Derived.Test.YtjjoebijkcmgiaaGreatZClmSt
import Derived.Test.YtjjoebijkcmgiaaGreatZClmF
import Derived.OwnWalk
namespace Go.Proofs.YtjjoebijkcmgiaaGreat.C
open Go.RowKit L T
set_option linter.unusedVariables false
set_option linter.unusedSimpArgs false

/-- append(l, c) for the walk: l a row of the call's own -/
theorem app_claim {w : World} {ops : Array Oper} {rest : List Oper} {o : Oper} {a : Act} {Q : Exit → Act → World → Prop} (hgd : o.guard = none) (s x : Operand)
    (ho : o.op = .call { callee := .builtin .append, args := #[s, x], argTypes := #[23, 23] })
    (base : Nat) (v : Value) (hs : List Hc) (hv : a.eval s = v) (hown : OwnC w base v hs) (z : Nat) (h : Hc) (hx : a.eval x = .slice (some ⟨z, 0, none⟩) 1 1) (hz : CBox w z h.op h.nm h.so h.k h.a h.n h.c)
    (hn : hs.length < 1000000) (hbase : base ≤ w.heap.size)
    (hK : ∀ v' w', OwnC w' base v' (hs ++ [h]) → w.grownBy w' v.ownBlock → wpList Tryz.prog ops Q rest (a.put o.dst v') w') : wpList Tryz.prog ops Q (o :: rest) a w := by
  obtain ⟨i0, hi, hz0, hz1, hz2⟩ := info_parts claimI
  refine wpList_append_own w hgd s x 23 ho base 25 i0 _ 5 88 Tryz.underlying23 hi hz0 hz1 hz2 rfl (by decide) v hs.length (flatC hs) hv hown ⟨z, 0, none⟩ 1 1 (flatC [h]) hx (by rw [flatC_len]; rfl) (fun j u hj => ?_) (hc_one _) (by unfold maxLen; omega) (by omega) hbase fun v' w' h1 h2 _ => hK v' w' ?_ h2
  · rw [Addr.add_lit, Nat.zero_add, Blk.cell hz j, ← hj]
    have : (flatC [h]).toArray = #[.int .i64 h.op, .string h.nm, .string h.so, .slice h.k.a h.k.n h.k.c, .slice h.a h.n h.c] := rfl
    rw [← this]; simp
  · unfold OwnC
    rw [List.length_append, flatC_app]
    exact h1
theorem grown_own {w w' : World} {v : Value} {base : Nat} {hs : List Hc} (ho : OwnC w base v hs) (hg : w.grownBy w' v.ownBlock) (hb : base ≤ w.heap.size) : Below base w w' :=
  (Below.refl _ _).grown hg hb (fun k hk => (World.ownsRow.lt ho k hk).1)
set_option maxRecDepth 100000 in
set_option maxHeartbeats 8000000 in
theorem Atoms_two (t x y : Cl) (A : Option Addr) (c : Nat) (w : World) (hG : CsW w A 1 c [t]) (hwt : wt t ≤ 1000000) (he : endsL conP t = [x, y]) (hx1 : opC x ≠ 1) (hx2 : opC x ≠ 2) (hy1 : opC y ≠ 1) (hy2 : opC y ≠ 2) (hxy : eqC y x = true) :
    Calls Tryz.prog 19 #[.slice A 1 c] w fun e w' => (∃ A' C', e = .returned (.slice A' 1 C')) ∧ Below w.heap.size w w' := by
  obtain ⟨bb, o, t', kt, tA, tn, tc, rfl, hb, y0, y1, y2, y3, y4, ht, hok⟩ := hG.at (show 0 < 1 by omega)
  obtain rfl : t = t' := by simpa using ht
  rw [Nat.zero_mul, Nat.add_zero] at y0 y1 y2 y3 y4
  obtain ⟨W1, hW1, hB1, hs1, S1⟩ := cbox1 w (opC t) (nmC t) (soC t) kt tA tn tc
  have cE := endsC_any t kt tA tn tc W1 hwt (ArWC.b hok hB1)
  rw [he] at cE
  have hsz := endsL_wt conP t
  rw [he] at hsz
  obtain ⟨s0, s1, s2, s3, s4⟩ := S1.five
  have hwx : wt x ≤ 1000000 := by simp [wts] at hsz; omega
  -- what the two rounds lay
  have HR := Lib.hid (show ∀ (w3 : World) (A3 : Option Addr) (C3 : Nat), CsW w3 A3 2 C3 [x, y] → ∃ b3 o3 kx xA xn xc ky yA yn yc, A3 = some ⟨b3, o3, none⟩ ∧ b3 < w3.heap.size ∧
      (w3.cell? ⟨b3, o3, none⟩ = some (.int .i64 (opC x)) ∧ w3.cell? ⟨b3, o3 + 1, none⟩ = some (.string (nmC x)) ∧ w3.cell? ⟨b3, o3 + 1 + 1, none⟩ = some (.string (soC x)) ∧ w3.cell? ⟨b3, o3 + 1 + 1 + 1, none⟩ = some (.slice kx.a kx.n kx.c) ∧ w3.cell? ⟨b3, o3 + 1 + 1 + 1 + 1, none⟩ = some (.slice xA xn xc) ∧ ArWC w3 x kx xA xn xc) ∧
      (w3.cell? ⟨b3, o3 + 5, none⟩ = some (.int .i64 (opC y)) ∧ w3.cell? ⟨b3, o3 + 5 + 1, none⟩ = some (.string (nmC y)) ∧ w3.cell? ⟨b3, o3 + 5 + 1 + 1, none⟩ = some (.string (soC y)) ∧ w3.cell? ⟨b3, o3 + 5 + 1 + 1 + 1, none⟩ = some (.slice ky.a ky.n ky.c) ∧ w3.cell? ⟨b3, o3 + 5 + 1 + 1 + 1 + 1, none⟩ = some (.slice yA yn yc) ∧ ArWC w3 y ky yA yn yc) from fun w3 A3 C3 hT => by
    obtain ⟨b3, o3, x', kx, xA, xn, xc, rfl, hb3, p0, p1, p2, p3, p4, hx', hokx⟩ := hT.at (show 0 < 2 by omega)
    obtain ⟨b3', o3', y', ky, yA, yn, yc, h2, hb3', q0, q1, q2, q3, q4, hy', hoky⟩ := hT.at (show 1 < 2 by omega)
    injection h2 with h2
    injection h2 with h2 h3
    subst h2 h3
    obtain rfl : x = x' := by simpa using hx'
    obtain rfl : y = y' := by simpa using hy'
    rw [Nat.zero_mul, Nat.add_zero] at p0 p1 p2 p3 p4
    rw [Nat.one_mul] at q0 q1 q2 q3 q4
    exact ⟨b3, o3, kx, xA, xn, xc, ky, yA, yn, yc, rfl, hb3, ⟨p0, p1, p2, p3, p4, hokx⟩, ⟨q0, q1, q2, q3, q4, hoky⟩⟩)
  have HF := Lib.hid (show ∀ (u : World) (base : Nat) (v : Value) (kx ky : SS) (xA : Option Addr) (xn xc : Nat) (yA : Option Addr) (yn yc : Nat), OwnC u base v ([] ++ [hcOf x kx xA xn xc] ++ [hcOf y ky yA yn yc]) → ArWC u x kx xA xn xc → ArWC u y ky yA yn yc → ∃ Av Cv, v = .slice Av 2 Cv ∧ CsW u Av 2 Cv [x, y] from fun u base v kx ky xA xn xc yA yn yc ho h1 h2 => by
    obtain ⟨Av, Cv, hv, _⟩ := ho.slice
    refine ⟨Av, Cv, hv, ?_⟩
    rw [hv] at ho
    refine ho.isC (Nat.le_refl _) rfl fun k hk hk2 => ?_
    have hk3 : k = 0 ∨ k = 1 := by simp at hk; omega
    rcases hk3 with rfl | rfl
    · exact ⟨rfl, rfl, rfl, h1⟩
    · exact ⟨rfl, rfl, rfl, h2⟩)
  have cF := fun (u : World) (Av : Option Addr) (Cv : Nat) (hT : CsW u Av 2 Cv [x, y]) => firsts_two Av Cv [x, y] u hT hxy
  have cM := fun (u : World) (g : Nat) (hT : CsW u (some ⟨g, 0, none⟩) 1 1 [atC [x, y] 0]) => mapCopyC_of [atC [x, y] 0] (fun x _ => CopyC_any x) (by show wts [x] ≤ _; simp [wts]; omega) (some ⟨g, 0, none⟩) 1 1 u hT
  have ex1 : (opC x != 1) = true := by simpa using hx1
  have ex2 : (opC x != 2) = true := by simpa using hx2
  have ey1 : (opC y != 1) = true := by simpa using hy1
  have ey2 : (opC y != 2) = true := by simpa using hy2
  clear hG S1 hok ht hwt he hx1 hx2 hy1 hy2 hxy hsz hwx
  unfold hcOf at HF
  generalize opC t = op at *
  generalize nmC t = nm at *
  generalize soC t = so at *
  go_enter Tryz.func19, Tryz.ntmps19
  go_wp2
  refine wp_loop_rounds 2 ?_
  rw [rounds_succ]
  go_wp2_with (go_at_call 35; ((with_reducible refine cE.mono ?_); rintro e w3 ⟨A3, n3, C3, rfl, hT3, hb3⟩; obtain rfl : n3 = 2 := hT3.1; obtain ⟨b3, o3, kx, xA, xn, xc, ky, yA, yn, yc, rfl, hlb, ⟨p0, p1, p2, p3, p4, hax⟩, ⟨q0, q1, q2, q3, q4, hay⟩⟩ := HR.out w3 A3 C3 hT3; clear hT3))
  clear HR
  generalize opC x = ox at *
  generalize nmC x = nx at *
  generalize soC x = sx at *
  generalize opC y = oy at *
  generalize nmC y = ny at *
  generalize soC y = sy at *
  have hbw3 : Below w.heap.size w w3 := bel_trans hB1 hb3
  obtain ⟨V1, hV1, hBV1, hsV1, SV1⟩ := cbox1 w3 ox nx sx kx xA xn xc
  obtain ⟨d0, d1, d2, d3, d4⟩ := SV1.five
  have K1 := CBox.new V1 ox nx sx kx xA xn xc
  rw [hsV1] at K1
  have HK1 := Lib.hid K1
  clear K1
  refine wp_loop_rounds 3 ?_
  rw [rounds_succ]
  go_wp2_with (at_builtin; ((refine app_claim rfl (.tmp 29) (.tmp 31) rfl w3.heap.size (.slice none 0 0) [] rfl (OwnC.nil _ _) (w3.heap.size + 1) ⟨ox, nx, sx, kx, xA, xn, xc⟩ rfl HK1.out (by simp) (by have := hBV1.size; simp; omega) ?_); intro v1 u1 ho1 hg1; have Ho1 := Lib.hid ho1; have Hg1 := Lib.hid hg1; clear ho1 hg1))
  have hb1 : Below w3.heap.size w3 u1 := (bel_alloc hBV1 _).grown Hg1.out (by have := hBV1.size; simp; omega) (fun k hk => by simp [Value.ownBlock] at hk)
  have hbu1 := bel_trans hbw3 hb1
  have q0' := (hb1.cell (p := ⟨b3, _, none⟩) hlb).trans q0
  have q1' := (hb1.cell (p := ⟨b3, _, none⟩) hlb).trans q1
  have q2' := (hb1.cell (p := ⟨b3, _, none⟩) hlb).trans q2
  have q3' := (hb1.cell (p := ⟨b3, _, none⟩) hlb).trans q3
  have q4' := (hb1.cell (p := ⟨b3, _, none⟩) hlb).trans q4
  obtain ⟨V2, hV2, hBV2, hsV2, SV2⟩ := cbox1 u1 oy ny sy ky yA yn yc
  obtain ⟨d0', d1', d2', d3', d4'⟩ := SV2.five
  have K2 := CBox.new V2 oy ny sy ky yA yn yc
  rw [hsV2] at K2
  have HK2 := Lib.hid K2
  clear K2
  rw [rounds_succ]
  go_wp2_with (at_builtin; ((refine app_claim rfl (.tmp 29) (.tmp 31) rfl w3.heap.size v1 _ rfl (Ho1.out.below (bel_alloc hBV2 _)) (u1.heap.size + 1) ⟨oy, ny, sy, ky, yA, yn, yc⟩ rfl HK2.out (by simp) (by have := hb1.size; have := hBV2.size; simp; omega) ?_); intro v2 u2 ho2 hg2; have Ho2 := Lib.hid ho2; have Hg2 := Lib.hid hg2; clear ho2 hg2))
  have hb2 : Below w3.heap.size w3 u2 := ((bel_trans hb1 (bel_alloc hBV2 (.cells #[.int .i64 oy, .string ny, .string sy, .slice ky.a ky.n ky.c, .slice yA yn yc] 25))).grown Hg2.out (by have := hb1.size; have := hBV2.size; simp; omega) (fun k hk => (World.ownsRow.lt (Ho1.out) k hk).1))
  obtain ⟨Av, Cv, hv2, hT2⟩ := HF.out u2 _ v2 kx ky xA xn xc yA yn yc Ho2.out (ArWC.b hax hb2) (ArWC.b hay hb2)
  subst hv2
  have HT2 := Lib.hid hT2
  have hbu2 := bel_trans hbw3 hb2
  clear hT2 HF hax hay
  rw [rounds_succ]
  go_wp2
  rw [rounds_succ]
  go_wp2_with (first
    | (go_at_call 37; ((with_reducible refine (cF u2 Av Cv HT2.out).mono ?_); rintro e w7 ⟨g7, rfl, hT7, hb7⟩; have HT7 := Lib.hid hT7; clear hT7))
    | (go_at_call 34; ((with_reducible refine (cM w7 g7 HT7.out).mono ?_); rintro e w8 ⟨A8, C8, rfl, _, _, hb8⟩)))
  go_ret
  exact ⟨⟨_, _, rfl⟩, bel_trans hbu2 (bel_trans hb7 hb8)⟩
end Go.Proofs.YtjjoebijkcmgiaaGreat.C
