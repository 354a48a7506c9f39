/-
  What is proved: slices.Concat of two lists of texts, empty ones too; what a binder is called.
-/
import Derived.Test.YtcigeclnbhcohaaGreatDoorZShFr
import Derived.Test.YtcigeclnbhcohaaGreatDoorL3
namespace Go.Proofs.YtcigeclnbhcohaaGreatDoor.Sh
open Go.RowKit L T C
set_option linter.unusedVariables false
set_option linter.unusedSimpArgs false

theorem Grow_any (k : Nat) (w : World) (hk : k ≤ 1000000000) :
    Calls Tryz.prog 133 #[.slice none 0 0, .int .i64 k] w fun e w' => ∃ v, e = .returned v ∧ OwnS w' w.heap.size v [] ∧ Below w.heap.size w w' := by
  by_cases h0 : 0 < k
  · exact Grow_nil k w h0 hk
  · obtain rfl : k = 0 := by omega
    go_enter Tryz.func133, Tryz.ntmps133
    go_wp2
    go_ret
    exact ⟨_, rfl, OwnS.nil _ _, Below.refl _ _⟩

set_option maxHeartbeats 4000000 in
theorem Concat_any (h : Nat) (a b : Option Addr) (n m c d : Nat) (X Y : List ByteArray) (w : World) (hh : h < w.heap.size) (ht : Two w h (.slice a n c) (.slice b m d)) (hX : SlS w a n c X) (hY : SlS w b m d Y) (hn : n ≤ 100000000) (hm : m ≤ 100000000) :
    Calls Tryz.prog 106 #[.slice (some ⟨h, 0, none⟩) 2 2] w fun e w' => ∃ v, e = .returned v ∧ OwnS w' w.heap.size v (X ++ Y) ∧ Below w.heap.size w w' := by
  have cg := Grow_any (n + m) w (by omega)
  rw [Int.natCast_add] at cg
  have hsum : X.length + m ≤ 1000000000 := by have := hX.1.1; omega
  obtain ⟨y1, y2⟩ := ht
  have Ht : Two w h (.slice a n c) (.slice b m d) := ⟨y1, y2⟩
  have k1 : ¬ (n : Int) < 0 := by omega
  have k2 : ¬ (n : Int) + (m : Int) < 0 := by omega
  have hl0 : ([] : List ByteArray).length + n ≤ 1000000000 := by simp; omega
  have hl1 : ([] ++ X).length + m ≤ 1000000000 := by simpa using hsum
  have fin : ∀ (W : World) (v : Value), OwnS W w.heap.size v ([] ++ X ++ Y) → OwnS W w.heap.size v (X ++ Y) := fun W v h => h
  go_enter Tryz.func106, Tryz.ntmps106
  go_wp2
  refine wp_loop_rounds 3 ?_
  rw [rounds_succ]
  go_wp2
  rw [rounds_succ]
  go_wp2
  rw [rounds_succ]
  go_wp2_with (go_at_call 133; ((with_reducible refine cg.mono ?_); rintro e w1 ⟨v1, rfl, ho1, hb1⟩))
  have t1 := Ht.below hb1 hh
  obtain ⟨z1, z2⟩ := t1
  have Ht1 : Two w1 h (.slice a n c) (.slice b m d) := ⟨z1, z2⟩
  have hX1 := hX.below hb1
  have hY1 := hY.below hb1
  have hs1 := hb1.size
  go_wp2
  refine wp_loop_rounds 3 ?_
  rw [rounds_succ]
  go_wp2_with (at_builtin; ((refine app_strs rfl (.tmp 31) (.tmp 32) rfl w.heap.size v1 [] rfl ho1 _ _ _ X rfl hX1 hl0 hs1 ?_); intro v2 w2 ho2 hg2))
  have hb2 : Below w.heap.size w w2 := hb1.grown hg2 hs1 (fun k hk => (ho1.lt k hk).1)
  have hs2 := hb2.size
  obtain ⟨z3, z4⟩ := Ht.below hb2 hh
  have hY2 := hY.below hb2
  rw [rounds_succ]
  go_wp2_with (at_builtin; ((refine app_strs rfl (.tmp 31) (.tmp 32) rfl w.heap.size v2 ([] ++ X) rfl ho2 _ _ _ Y rfl hY2 hl1 hs2 ?_); intro v3 w3 ho3 hg3))
  have hb3 : Below w.heap.size w w3 := hb2.grown hg3 hs2 (fun k hk => (ho2.lt k hk).1)
  rw [rounds_succ]
  go_wp2
  go_ret
  exact ⟨_, rfl, fin _ _ ho3, hb3⟩

theorem two_new (w : World) (a : Option Addr) (n c : Nat) (b : Option Addr) (m d : Nat) : Two (w.alloc (.cells #[.slice a n c, .slice b m d] 48)) w.heap.size (.slice a n c) (.slice b m d) := ⟨Blk.cell (Blk.new w _ _) 0, Blk.cell (Blk.new w _ _) 1⟩
set_option maxHeartbeats 8000000 in
theorem fresh_any {W : World} (E : Env W) (z : Sv) (fr bs : List ByteArray) (s : ByteArray) (hs : s.size ≤ 100) (hf : ∀ x ∈ fr ++ bs, x.size ≤ maxLen) (hl : (fr ++ bs).length ≤ 1000000) (w : World) (hw : Below W.heap.size W w) (hz : z.ok w fr bs) :
    Calls Tryz.prog 75 #[z.val, .string s] w fun e w' => e = .returned (.string (bname (fr ++ bs) s)) ∧ Below w.heap.size w w' := by
  obtain ⟨W1, hW1, hB1, hs1, S1⟩ := sbox1 w z.a z.n z.c z.b z.m z.d
  have cN := fun w => Name_any s w (by omega)
  have cW := fun w => Word_any s w (by omega)
  have hl1 : fr.length + bs.length ≤ 1000000 := by rw [List.length_append] at hl; exact hl
  have hzn : z.n = fr.length := hz.1.1.1
  have hzm : z.m = bs.length := hz.2.1.1.1
  have cC := fun (h : Nat) (w' : World) (hb : Below w.heap.size w w') (hh : h < w'.heap.size) (ht : Two w' h (.slice z.a z.n z.c) (.slice z.b z.m z.d)) =>
    Concat_any h z.a z.b z.n z.m z.c z.d fr bs w' hh ht (hz.bl hb).1 (hz.bl hb).2.1 (by omega) (by omega)
  have HC := Lib.hid cC
  have HF := Lib.hid (show ∀ (b : ByteArray), b.size ≤ 300 → ∀ A C (w' : World), Below w.heap.size w w' → IsS w' A (fr ++ bs).length (fr ++ bs) → _ from fun b hb A C w' h1 h2 => Fresh_any E b hb (fr ++ bs) hf A (fr ++ bs).length C w' (hw.trans (h1.mono hw.size)) h2 hl)
  have HSc := Lib.hid (show ∀ w', Below W1.heap.size W1 w' → w'.cell? ⟨w.heap.size, 0, none⟩ = some (.slice z.a z.n z.c) ∧ w'.cell? ⟨w.heap.size, 1, none⟩ = some (.slice z.b z.m z.d) from fun w' h => (S1.bl h).two)
  have HB := Lib.hid hB1
  have hx : (⟨#[120]⟩ : ByteArray) = xS := rfl
  have hxs : xS.size = 1 := rfl
  have Hres : Hid (∀ v : ByteArray, v = frB (fr ++ bs) (base s) → (v.size ≤ 32 → v = bname (fr ++ bs) s) ∧ (¬ v.size ≤ 32 → frB (fr ++ bs) xS = bname (fr ++ bs) s)) := by
    intro v hv
    subst hv
    unfold bname
    exact ⟨fun h => by rw [if_pos h], fun h => by rw [if_neg h]⟩
  have hgood : ∃ b : ByteArray, base s = b ∧ b.size ≤ 100 ∧ ((nameB s.data.toList = true ∧ wordB s.data.toList = false ∧ b = s) ∨ (nameB s.data.toList = true ∧ wordB s.data.toList = true ∧ b = xS) ∨ (nameB s.data.toList = false ∧ b = xS)) := by
    refine ⟨base s, rfl, ?_, ?_⟩
    · unfold base; split <;> omega
    · unfold base
      show _ ∨ _ ∨ _
      cases h1 : nameB s.data.toList with
      | false => exact .inr (.inr ⟨rfl, if_neg (fun h => by have : nameB (lst s) = false := h1; rw [this] at h; exact absurd h.1 (by decide))⟩)
      | true =>
        cases h2 : wordB s.data.toList with
        | false => exact .inl ⟨rfl, rfl, if_pos ⟨h1, h2⟩⟩
        | true => exact .inr (.inl ⟨rfl, rfl, if_neg (fun h => by have : wordB (lst s) = true := h2; rw [this] at h; exact absurd h.2 (by decide))⟩)
  obtain ⟨b, hb, hbs, hcase⟩ := hgood
  rw [hb] at Hres
  obtain ⟨X, hX⟩ : ∃ X, fr ++ bs = X := ⟨_, rfl⟩
  have hbz : (frB (fr ++ bs) b).size ≤ 1000 := by have := frB_size (X := fr ++ bs) b (by omega); omega
  rw [hX] at Hres HF HC hbz ⊢
  unfold Sv.val
  clear hz S1 E hw cC hb hl hl1 hzn hzm hf
  obtain ⟨R, hR⟩ : ∃ R, bname X s = R := ⟨_, rfl⟩
  rw [hR] at Hres ⊢
  have hbb : (frB X b).size ≤ 1000 := hbz
  clear hR
  have cF1 := fun A C w' h1 h2 => HF.out b (by omega) A C w' h1 h2
  have cF2 := fun A C w' h1 h2 => HF.out xS (by omega) A C w' h1 h2
  have HF1 := Lib.hid cF1
  have HF2 := Lib.hid cF2
  clear cF1 cF2 HF
  have HR := Hres.out _ rfl
  clear Hres
  generalize frB X xS = F2 at *
  obtain ⟨za, zn, zc, zb, zm, zd⟩ := z
  dsimp only at *
  by_cases hsz : (frB X b).size ≤ 32
  · have hr := Lib.hid (HR.1 hsz)
    have hsz2 : ((frB X b).size : Int) ≤ 32 := by omega
    clear HR
    generalize frB X b = F1 at *
    have hszd : decide ((F1.size : Int) ≤ 32) = true := decide_eq_true hsz2
    clear hbb HF2
    rcases hcase with ⟨k1, k2, rfl⟩ | ⟨k1, k2, rfl⟩ | ⟨k1, rfl⟩
    · rw [k1] at cN
      rw [k2] at cW
      go_enter Tryz.func75, Tryz.ntmps75
      go_wp2_with (first
        | (go_at_call 104; ((with_reducible refine (cN _).mono ?_); rintro e w2 ⟨rfl, hb2⟩; have B2 : Below W1.heap.size W1 w2 := (by first | (subst hb2; exact Below.refl _ _) | exact hb2); obtain ⟨p0, p1⟩ := HSc.out w2 B2))
        | (go_at_call 105; ((with_reducible refine (cW _).mono ?_); rintro e w3 ⟨rfl, hb3⟩; have B3 := bel_trans B2 hb3; obtain ⟨p0, p1⟩ := HSc.out w3 B3))
        | (go_at_call 106; ((with_reducible refine (HC.out w3.heap.size _ (bel_alloc (bel_trans HB.out B3) _) (by simp) (two_new w3 _ _ _ _ _ _)).mono ?_); rintro e w4 ⟨v4, rfl, ho4, hb4⟩; obtain ⟨A4, c4, rfl, hS4⟩ := ho4.slS; have HS4 := Lib.hid hS4; have B4 := bel_trans (bel_alloc (bel_trans HB.out B3) (.cells #[.slice za zn zc, .slice zb zm zd] 48)) hb4; have c1 := HF1.out A4 c4 w4 B4 HS4.out.1; clear hS4 ho4))
        | (go_at_call 24; ((with_reducible refine c1.mono ?_); rintro e w5 ⟨rfl, hb5⟩; have B5 := bel_trans B4 hb5)))
      go_ret
      exact ⟨retS hr.out, B5⟩
    · rw [k1] at cN
      rw [k2] at cW
      go_enter Tryz.func75, Tryz.ntmps75
      go_wp2_with (first
        | (go_at_call 104; ((with_reducible refine (cN _).mono ?_); rintro e w2 ⟨rfl, hb2⟩; have B2 : Below W1.heap.size W1 w2 := (by first | (subst hb2; exact Below.refl _ _) | exact hb2); obtain ⟨p0, p1⟩ := HSc.out w2 B2))
        | (go_at_call 105; ((with_reducible refine (cW _).mono ?_); rintro e w3 ⟨rfl, hb3⟩; have B3 := bel_trans B2 hb3; obtain ⟨p0, p1⟩ := HSc.out w3 B3))
        | (go_at_call 106; ((with_reducible refine (HC.out w3.heap.size _ (bel_alloc (bel_trans HB.out B3) _) (by simp) (two_new w3 _ _ _ _ _ _)).mono ?_); rintro e w4 ⟨v4, rfl, ho4, hb4⟩; obtain ⟨A4, c4, rfl, hS4⟩ := ho4.slS; have HS4 := Lib.hid hS4; have B4 := bel_trans (bel_alloc (bel_trans HB.out B3) (.cells #[.slice za zn zc, .slice zb zm zd] 48)) hb4; have c1 := HF1.out A4 c4 w4 B4 HS4.out.1; clear hS4 ho4))
        | (go_at_call 24; ((with_reducible refine c1.mono ?_); rintro e w5 ⟨rfl, hb5⟩; have B5 := bel_trans B4 hb5)))
      go_ret
      exact ⟨retS hr.out, B5⟩
    · rw [k1] at cN
      go_enter Tryz.func75, Tryz.ntmps75
      go_wp2_with (first
        | (go_at_call 104; ((with_reducible refine (cN _).mono ?_); rintro e w2 ⟨rfl, hb2⟩; have B2 : Below W1.heap.size W1 w2 := (by first | (subst hb2; exact Below.refl _ _) | exact hb2); obtain ⟨p0, p1⟩ := HSc.out w2 B2))
        | (go_at_call 106; ((with_reducible refine (HC.out w2.heap.size _ (bel_alloc (bel_trans HB.out B2) _) (by simp) (two_new w2 _ _ _ _ _ _)).mono ?_); rintro e w4 ⟨v4, rfl, ho4, hb4⟩; obtain ⟨A4, c4, rfl, hS4⟩ := ho4.slS; have HS4 := Lib.hid hS4; have B4 := bel_trans (bel_alloc (bel_trans HB.out B2) (.cells #[.slice za zn zc, .slice zb zm zd] 48)) hb4; have c1 := HF1.out A4 c4 w4 B4 HS4.out.1; clear hS4 ho4))
        | (go_at_call 24; ((with_reducible refine c1.mono ?_); rintro e w5 ⟨rfl, hb5⟩; have B5 := bel_trans B4 hb5)))
      go_ret
      exact ⟨retS hr.out, B5⟩
  · have hr := Lib.hid (HR.2 hsz)
    have hsz2 : ¬ ((frB X b).size : Int) ≤ 32 := by omega
    clear HR
    generalize frB X b = F1 at *
    have hszd : decide ((F1.size : Int) ≤ 32) = false := decide_eq_false hsz2
    have hsz63 := hbb
    rcases hcase with ⟨k1, k2, rfl⟩ | ⟨k1, k2, rfl⟩ | ⟨k1, rfl⟩
    · rw [k1] at cN
      rw [k2] at cW
      go_enter Tryz.func75, Tryz.ntmps75
      go_wp2_with (first
        | (go_at_call 104; ((with_reducible refine (cN _).mono ?_); rintro e w2 ⟨rfl, hb2⟩; have B2 : Below W1.heap.size W1 w2 := (by first | (subst hb2; exact Below.refl _ _) | exact hb2); obtain ⟨p0, p1⟩ := HSc.out w2 B2))
        | (go_at_call 105; ((with_reducible refine (cW _).mono ?_); rintro e w3 ⟨rfl, hb3⟩; have B3 := bel_trans B2 hb3; obtain ⟨p0, p1⟩ := HSc.out w3 B3))
        | (go_at_call 106; ((with_reducible refine (HC.out w3.heap.size _ (bel_alloc (bel_trans HB.out B3) _) (by simp) (two_new w3 _ _ _ _ _ _)).mono ?_); rintro e w4 ⟨v4, rfl, ho4, hb4⟩; obtain ⟨A4, c4, rfl, hS4⟩ := ho4.slS; have HS4 := Lib.hid hS4; have B4 := bel_trans (bel_alloc (bel_trans HB.out B3) (.cells #[.slice za zn zc, .slice zb zm zd] 48)) hb4; have c1 := HF1.out A4 c4 w4 B4 HS4.out.1; clear hS4 ho4))
        | (go_at_call 24; ((with_reducible refine c1.mono ?_); rintro e w5 ⟨rfl, hb5⟩; have B5 := bel_trans B4 hb5; have c2 := HF2.out A4 c4 w5 B5 (HS4.out.1.below hb5); clear c1))
        | (go_at_call 24; ((with_reducible refine c2.mono ?_); rintro e w6 ⟨rfl, hb6⟩; have B6 := bel_trans B5 hb6)))
      go_ret
      exact ⟨retS hr.out, B6⟩
    · rw [k1] at cN
      rw [k2] at cW
      go_enter Tryz.func75, Tryz.ntmps75
      go_wp2_with (first
        | (go_at_call 104; ((with_reducible refine (cN _).mono ?_); rintro e w2 ⟨rfl, hb2⟩; have B2 : Below W1.heap.size W1 w2 := (by first | (subst hb2; exact Below.refl _ _) | exact hb2); obtain ⟨p0, p1⟩ := HSc.out w2 B2))
        | (go_at_call 105; ((with_reducible refine (cW _).mono ?_); rintro e w3 ⟨rfl, hb3⟩; have B3 := bel_trans B2 hb3; obtain ⟨p0, p1⟩ := HSc.out w3 B3))
        | (go_at_call 106; ((with_reducible refine (HC.out w3.heap.size _ (bel_alloc (bel_trans HB.out B3) _) (by simp) (two_new w3 _ _ _ _ _ _)).mono ?_); rintro e w4 ⟨v4, rfl, ho4, hb4⟩; obtain ⟨A4, c4, rfl, hS4⟩ := ho4.slS; have HS4 := Lib.hid hS4; have B4 := bel_trans (bel_alloc (bel_trans HB.out B3) (.cells #[.slice za zn zc, .slice zb zm zd] 48)) hb4; have c1 := HF1.out A4 c4 w4 B4 HS4.out.1; clear hS4 ho4))
        | (go_at_call 24; ((with_reducible refine c1.mono ?_); rintro e w5 ⟨rfl, hb5⟩; have B5 := bel_trans B4 hb5; have c2 := HF2.out A4 c4 w5 B5 (HS4.out.1.below hb5); clear c1))
        | (go_at_call 24; ((with_reducible refine c2.mono ?_); rintro e w6 ⟨rfl, hb6⟩; have B6 := bel_trans B5 hb6)))
      go_ret
      exact ⟨retS hr.out, B6⟩
    · rw [k1] at cN
      go_enter Tryz.func75, Tryz.ntmps75
      go_wp2_with (first
        | (go_at_call 104; ((with_reducible refine (cN _).mono ?_); rintro e w2 ⟨rfl, hb2⟩; have B2 : Below W1.heap.size W1 w2 := (by first | (subst hb2; exact Below.refl _ _) | exact hb2); obtain ⟨p0, p1⟩ := HSc.out w2 B2))
        | (go_at_call 106; ((with_reducible refine (HC.out w2.heap.size _ (bel_alloc (bel_trans HB.out B2) _) (by simp) (two_new w2 _ _ _ _ _ _)).mono ?_); rintro e w4 ⟨v4, rfl, ho4, hb4⟩; obtain ⟨A4, c4, rfl, hS4⟩ := ho4.slS; have HS4 := Lib.hid hS4; have B4 := bel_trans (bel_alloc (bel_trans HB.out B2) (.cells #[.slice za zn zc, .slice zb zm zd] 48)) hb4; have c1 := HF1.out A4 c4 w4 B4 HS4.out.1; clear hS4 ho4))
        | (go_at_call 24; ((with_reducible refine c1.mono ?_); rintro e w5 ⟨rfl, hb5⟩; have B5 := bel_trans B4 hb5; have c2 := HF2.out A4 c4 w5 B5 (HS4.out.1.below hb5); clear c1))
        | (go_at_call 24; ((with_reducible refine c2.mono ?_); rintro e w6 ⟨rfl, hb6⟩; have B6 := bel_trans B5 hb6)))
      go_ret
      exact ⟨retS hr.out, B6⟩
end Go.Proofs.YtcigeclnbhcohaaGreatDoor.Sh
