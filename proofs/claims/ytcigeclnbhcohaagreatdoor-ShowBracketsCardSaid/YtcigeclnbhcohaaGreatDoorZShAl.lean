/-
  What is proved: the chapter's examples hold.
-/
import Derived.Test.YtcigeclnbhcohaaGreatDoorZShAm
import Derived.Deep.RegionHeld3
namespace Go.Proofs.YtcigeclnbhcohaaGreatDoor.Sh
open Go.RowKit L T C
set_option linter.unusedVariables false
set_option linter.unusedSimpArgs false
set_option maxRecDepth 100000

def put4 (w : World) (g : Nat) (v0 v1 v2 v3 : Value) : World := (((w.setCell ⟨g, 0, none⟩ v0).setCell ⟨g, 1, none⟩ v1).setCell ⟨g, 2, none⟩ v2).setCell ⟨g, 3, none⟩ v3
theorem box2t (w : World) (o : Int) (s : ByteArray) (o' : Int) (s' : ByteArray) : ∃ Z W4, (w.alloc (.cells #[.int .i64 0, .string ⟨#[]⟩, .int .i64 0, .slice none 0 0] 24)).alloc (.cells #[.int .i64 0, .string ⟨#[]⟩, .int .i64 0, .slice none 0 0] 24) = Z ∧
    (TBox Z w.heap.size 0 ⟨#[]⟩ 0 none 0 0 ∧ TBox Z (w.heap.size + 1) 0 ⟨#[]⟩ 0 none 0 0) ∧
    put4 (put4 Z w.heap.size (.int .i64 o) (.string s) (.int .i64 0) (.slice none 0 0)) (w.heap.size + 1) (.int .i64 o') (.string s') (.int .i64 0) (.slice none 0 0) = W4 ∧
    (TBox W4 w.heap.size o s 0 none 0 0 ∧ TBox W4 (w.heap.size + 1) o' s' 0 none 0 0) ∧ Below w.heap.size w W4 ∧ W4.heap.size = w.heap.size + 2 := by
  obtain ⟨Z, hZ, hb, hs, S, U⟩ := box2 w 0 ⟨#[]⟩ 0 none 0 0 0 ⟨#[]⟩ 0 none 0 0
  have p1 := TBox.put S o s 0 none 0 0
  have ot := fun (W : World) (g i : Nat) (v0 v1 v2 v3 : Value) (h : i ≠ g) => put_other W g i v0 v1 v2 v3 h
  refine ⟨Z, _, hZ, ⟨S, U⟩, rfl, ⟨?_, ?_⟩, put_below (put_below hb (Nat.le_refl _) _ _ _ _) (by omega) _ _ _ _, ?_⟩
  · exact (ot _ _ _ _ _ _ _ (by omega)).trans p1
  · exact TBox.put ((ot _ _ _ _ _ _ _ (by omega)).trans U : TBox _ _ _ _ _ _ _ _) o' s' 0 none 0 0
  · unfold put4; rw [put_size, put_size]; exact hs
theorem box2c (w : World) (o : Int) (s z : ByteArray) (k : SS) (a : Option Addr) (n c : Nat) (o' : Int) (s' z' : ByteArray) (k' : SS) (a' : Option Addr) (n' c' : Nat) : ∃ Z W4, (w.alloc (.cells #[.int .i64 0, .string ⟨#[]⟩, .string ⟨#[]⟩, .slice none 0 0, .slice none 0 0] 33)).alloc (.cells #[.int .i64 0, .string ⟨#[]⟩, .string ⟨#[]⟩, .slice none 0 0, .slice none 0 0] 33) = Z ∧
    (CBox Z w.heap.size 0 ⟨#[]⟩ ⟨#[]⟩ SS.nil none 0 0 ∧ CBox Z (w.heap.size + 1) 0 ⟨#[]⟩ ⟨#[]⟩ SS.nil none 0 0) ∧
    put5 (put5 Z w.heap.size (.int .i64 o) (.string s) (.string z) (.slice k.a k.n k.c) (.slice a n c)) (w.heap.size + 1) (.int .i64 o') (.string s') (.string z') (.slice k'.a k'.n k'.c) (.slice a' n' c') = W4 ∧
    (CBox W4 w.heap.size o s z k a n c ∧ CBox W4 (w.heap.size + 1) o' s' z' k' a' n' c') ∧ Below w.heap.size w W4 ∧ W4.heap.size = w.heap.size + 2 := by
  obtain ⟨Z, hZ, hb, hs, S, U⟩ := cbox2 w 0 ⟨#[]⟩ ⟨#[]⟩ SS.nil none 0 0 0 ⟨#[]⟩ ⟨#[]⟩ SS.nil none 0 0
  dsimp only [SS.nil] at hZ
  have p1 := CBox.put S o s z k a n c
  have ot := fun (W : World) (g i : Nat) (v0 v1 v2 v3 v4 : Value) (h : i ≠ g) => put5_other W g i v0 v1 v2 v3 v4 h
  refine ⟨Z, _, hZ, ⟨S, U⟩, rfl, ⟨?_, ?_⟩, put5_below (put5_below hb (Nat.le_refl _) _ _ _ _ _) (by omega) _ _ _ _ _, ?_⟩
  · exact (ot _ _ _ _ _ _ _ _ (by omega)).trans p1
  · exact CBox.put ((ot _ _ _ _ _ _ _ _ (by omega)).trans U : CBox _ _ _ _ _ _ _ _ _) o' s' z' k' a' n' c'
  · rw [put5_size, put5_size]; exact hs
theorem one_ts {w : World} {g : Nat} {p : Tm} {a : Option Addr} {n c : Nat} (h : Blk w g #[.int .i64 (opT p), .string (nameT p), .int .i64 (numT p), .slice a n c] 24) (hA : ArW w p a n c) : TsW w (some ⟨g, 0, none⟩) 1 1 [p] := by
  refine ⟨rfl, Nat.le_refl _, by unfold maxLen; omega, (fun h => by cases h), fun _ => ⟨g, 0, rfl, Blk.lt h, ?_⟩⟩
  rw [Rw, Rw]
  exact ⟨⟨a, n, c, Blk.cell h 0, Blk.cell h 1, Blk.cell h 2, Blk.cell h 3, hA⟩, trivial⟩
theorem two_ts {w : World} {g : Nat} {p t : Tm} {a : Option Addr} {n c : Nat} {a' : Option Addr} {n' c' : Nat} (h : Blk w g #[.int .i64 (opT p), .string (nameT p), .int .i64 (numT p), .slice a n c, .int .i64 (opT t), .string (nameT t), .int .i64 (numT t), .slice a' n' c'] 24) (hA : ArW w p a n c) (hA' : ArW w t a' n' c') : TsW w (some ⟨g, 0, none⟩) 2 2 [p, t] := by
  refine ⟨rfl, Nat.le_refl _, by unfold maxLen; omega, (fun h => by cases h), fun _ => ⟨g, 0, rfl, Blk.lt h, ?_⟩⟩
  rw [Rw, Rw, Rw]
  exact ⟨⟨a, n, c, Blk.cell h 0, Blk.cell h 1, Blk.cell h 2, Blk.cell h 3, hA⟩, ⟨a', n', c', Blk.cell h 4, Blk.cell h 5, Blk.cell h 6, Blk.cell h 7, hA'⟩, trivial⟩
theorem one_cs {w : World} {g : Nat} {p : Cl} {k : SS} {a : Option Addr} {n c : Nat} (h : Blk w g #[.int .i64 (opC p), .string (nmC p), .string (soC p), .slice k.a k.n k.c, .slice a n c] 33) (hA : ArWC w p k a n c) : CsW w (some ⟨g, 0, none⟩) 1 1 [p] := by
  refine ⟨rfl, Nat.le_refl _, by unfold maxLen; omega, (fun h => by cases h), fun _ => ⟨g, 0, rfl, Blk.lt h, ?_⟩⟩
  rw [RwC, RwC]
  exact ⟨⟨k, a, n, c, Blk.cell h 0, Blk.cell h 1, Blk.cell h 2, Blk.cell h 3, Blk.cell h 4, hA⟩, trivial⟩
theorem two_cs {w : World} {g : Nat} {p t : Cl} {k : SS} {a : Option Addr} {n c : Nat} {k' : SS} {a' : Option Addr} {n' c' : Nat} (h : Blk w g #[.int .i64 (opC p), .string (nmC p), .string (soC p), .slice k.a k.n k.c, .slice a n c, .int .i64 (opC t), .string (nmC t), .string (soC t), .slice k'.a k'.n k'.c, .slice a' n' c'] 33) (hA : ArWC w p k a n c) (hA' : ArWC w t k' a' n' c') : CsW w (some ⟨g, 0, none⟩) 2 2 [p, t] := by
  refine ⟨rfl, Nat.le_refl _, by unfold maxLen; omega, (fun h => by cases h), fun _ => ⟨g, 0, rfl, Blk.lt h, ?_⟩⟩
  rw [RwC, RwC, RwC]
  exact ⟨⟨k, a, n, c, Blk.cell h 0, Blk.cell h 1, Blk.cell h 2, Blk.cell h 3, Blk.cell h 4, hA⟩, ⟨k', a', n', c', Blk.cell h 5, Blk.cell h 6, Blk.cell h 7, Blk.cell h 8, Blk.cell h 9, hA'⟩, trivial⟩
theorem blk_drew {w : World} {g : Nat} {cs : Array Value} {t : TypeId} (h : Blk w g cs t) : Blk w.drew g cs t := h
theorem leafC (o : Int) (s z : ByteArray) (w : World) : ArWC w (.mk o s z [] []) SS.nil none 0 0 := ar_isC.2 ⟨TsW.nil _, ⟨rfl, Nat.le_refl _, Nat.zero_le _, fun _ => rfl, fun h => absurd h (by omega)⟩⟩
theorem y_leaf (B : Nat) (o : Int) (s : ByteArray) (z : Int) (w : World) : Ar B w (.mk o s z []) none 0 0 := by
  rw [Ar]; exact ⟨rfl, Nat.le_refl _, Nat.zero_le _, fun _ => rfl, fun h => absurd h (by omega)⟩
/-- the example's term in memory -/
theorem y_mem (V : World) : ∃ W, (((V.alloc (.cells #[.int .i64 1, .string ⟨#[120]⟩, .int .i64 0, .slice none 0 0] 24)).alloc (.cells #[.int .i64 1, .string ⟨#[121]⟩, .int .i64 0, .slice none 0 0, .int .i64 4, .string ⟨#[]⟩, .int .i64 (-1), .slice none 0 0] 24)).alloc
      (.cells #[.int .i64 8, .string ⟨#[]⟩, .int .i64 2, .slice (some ⟨V.heap.size, 0, none⟩) 1 1, .int .i64 5, .string ⟨#[]⟩, .int .i64 0, .slice (some ⟨V.heap.size + 1, 0, none⟩) 2 2] 24)).alloc (.cells #[.int .i64 6, .string ⟨#[]⟩, .int .i64 0, .slice (some ⟨V.heap.size + 1 + 1, 0, none⟩) 2 2] 24) = W ∧
    Below V.heap.size V W ∧ ArW W y6 (some ⟨V.heap.size + 1 + 1, 0, none⟩) 2 2 ∧ TBox W (V.heap.size + 1 + 1 + 1) 6 ⟨#[]⟩ 0 (some ⟨V.heap.size + 1 + 1, 0, none⟩) 2 2 ∧ W.heap.size = V.heap.size + 1 + 1 + 1 + 1 := by
  refine ⟨_, rfl, bel_alloc (bel_alloc (bel_alloc (bel_alloc (Below.refl _ _) _) _) _) _, ?_, ?_, by simp⟩
  · have h1 := Blk.new V #[.int .i64 1, .string ⟨#[120]⟩, .int .i64 0, .slice none 0 0] 24
    have h2 := Blk.new (V.alloc (.cells #[.int .i64 1, .string ⟨#[120]⟩, .int .i64 0, .slice none 0 0] 24)) #[.int .i64 1, .string ⟨#[121]⟩, .int .i64 0, .slice none 0 0, .int .i64 4, .string ⟨#[]⟩, .int .i64 (-1), .slice none 0 0] 24
    have h3 := Blk.new ((V.alloc (.cells #[.int .i64 1, .string ⟨#[120]⟩, .int .i64 0, .slice none 0 0] 24)).alloc (.cells #[.int .i64 1, .string ⟨#[121]⟩, .int .i64 0, .slice none 0 0, .int .i64 4, .string ⟨#[]⟩, .int .i64 (-1), .slice none 0 0] 24)) #[.int .i64 8, .string ⟨#[]⟩, .int .i64 2, .slice (some ⟨V.heap.size, 0, none⟩) 1 1, .int .i64 5, .string ⟨#[]⟩, .int .i64 0, .slice (some ⟨V.heap.size + 1, 0, none⟩) 2 2] 24
    simp only [World.size_alloc] at h2 h3
    exact ar_isT.2 (two_ts (p := y8) (t := y5) (Blk.alloc h3 _) (ar_isT.2 (one_ts (p := yx) (Blk.alloc (Blk.alloc (Blk.alloc h1 _) _) _) (y_leaf _ _ _ _ _))) (ar_isT.2 (two_ts (p := yy) (t := ym) (Blk.alloc (Blk.alloc h2 _) _) (y_leaf _ _ _ _ _) (y_leaf _ _ _ _ _))))
  · have := TBox.new (((V.alloc (.cells #[.int .i64 1, .string ⟨#[120]⟩, .int .i64 0, .slice none 0 0] 24)).alloc (.cells #[.int .i64 1, .string ⟨#[121]⟩, .int .i64 0, .slice none 0 0, .int .i64 4, .string ⟨#[]⟩, .int .i64 (-1), .slice none 0 0] 24)).alloc
      (.cells #[.int .i64 8, .string ⟨#[]⟩, .int .i64 2, .slice (some ⟨V.heap.size, 0, none⟩) 1 1, .int .i64 5, .string ⟨#[]⟩, .int .i64 0, .slice (some ⟨V.heap.size + 1, 0, none⟩) 2 2] 24)) 6 ⟨#[]⟩ 0 (some ⟨V.heap.size + 1 + 1, 0, none⟩) 2 2
    simp only [World.size_alloc] at this
    exact this
/-- the example's binder in memory -/
theorem k_mem (V : World) (q : Nat) (hq : ArWC V kQ ⟨some ⟨q, 0, none⟩, 1, 1⟩ none 0 0) : ∃ W, (V.alloc (.cells #[.int .i64 3, .string ⟨#[113]⟩, .string ⟨#[]⟩, .slice (some ⟨q, 0, none⟩) 1 1, .slice none 0 0] 33)).alloc (.cells #[.int .i64 11, .string ⟨#[120]⟩, .string ⟨#[65]⟩, .slice none 0 0, .slice (some ⟨V.heap.size, 0, none⟩) 1 1] 33) = W ∧
    Below V.heap.size V W ∧ ArWC W kA SS.nil (some ⟨V.heap.size, 0, none⟩) 1 1 ∧ CBox W (V.heap.size + 1) 11 ⟨#[120]⟩ ⟨#[65]⟩ SS.nil (some ⟨V.heap.size, 0, none⟩) 1 1 ∧ W.heap.size = V.heap.size + 1 + 1 := by
  have hb1 : Below V.heap.size V (V.alloc (.cells #[.int .i64 3, .string ⟨#[113]⟩, .string ⟨#[]⟩, .slice (some ⟨q, 0, none⟩) 1 1, .slice none 0 0] 33)) := bel_alloc (Below.refl _ _) _
  refine ⟨_, rfl, bel_alloc hb1 _, ?_, ?_, by simp⟩
  · have h1 := Blk.new V #[.int .i64 3, .string ⟨#[113]⟩, .string ⟨#[]⟩, .slice (some ⟨q, 0, none⟩) 1 1, .slice none 0 0] 33
    exact ar_isC.2 ⟨TsW.nil _, one_cs (p := kQ) (k := ⟨some ⟨q, 0, none⟩, 1, 1⟩) (Blk.alloc h1 _) (ArWC.b hq (bel_alloc hb1 _))⟩
  · have := CBox.new (V.alloc (.cells #[.int .i64 3, .string ⟨#[113]⟩, .string ⟨#[]⟩, .slice (some ⟨q, 0, none⟩) 1 1, .slice none 0 0] 33)) 11 ⟨#[120]⟩ ⟨#[65]⟩ SS.nil (some ⟨V.heap.size, 0, none⟩) 1 1
    rwa [World.size_alloc] at this
set_option maxHeartbeats 8000000 in
theorem alive_any {W : World} (E : Env W) (w : World) (hw : Below W.heap.size W w) : Calls Tryz.prog 12 #[] w fun e w' => e = .returned (.bool true) ∧ Below w.heap.size w w' := by
  obtain ⟨Z, W4, hZ, ⟨bz1, bz2⟩, hW4, ⟨bw1, bw2⟩, hb4, hs4⟩ := box2t w 1 ⟨#[120]⟩ 1 ⟨#[121]⟩
  unfold put4 at hW4
  obtain ⟨W5, hW5, hb5, hA5, B5, hs5⟩ := y_mem W4
  have h6 := Blk.new W5 #[.int .i64 2, .string ⟨#[]⟩, .int .i64 0, .slice none 0 0] 24
  obtain ⟨Z6, W6, hZ6, ⟨bz3, bz4⟩, hW6, ⟨bw3, bw4⟩, hb6, hs6⟩ := box2c (W5.alloc (.cells #[.int .i64 2, .string ⟨#[]⟩, .int .i64 0, .slice none 0 0] 24)) 3 ⟨#[112]⟩ ⟨#[]⟩ SS.nil none 0 0 3 ⟨#[113]⟩ ⟨#[]⟩ ⟨some ⟨W5.heap.size, 0, none⟩, 1, 1⟩ none 0 0
  unfold put5 at hW6
  dsimp only [SS.nil] at hW6
  simp only [World.size_alloc] at hW6 bz3 bz4 bw3 bw4
  have hb56 : Below W5.heap.size W5 W6 := Below.trans (bel_alloc (Below.refl _ _) _) (hb6.mono (by simp))
  have hQ6 : ArWC W6 kQ ⟨some ⟨W5.heap.size, 0, none⟩, 1, 1⟩ none 0 0 := by
    refine ArWC.b (ar_isC.2 ⟨one_ts (p := y0) h6 (y_leaf _ _ _ _ _), ⟨rfl, Nat.le_refl _, Nat.zero_le _, fun _ => rfl, fun h => absurd h (by omega)⟩⟩) hb6
  obtain ⟨W7, hW7, hb7, hA7, S7, hs7⟩ := k_mem W6 W5.heap.size hQ6
  have B7 : Below w.heap.size w W7 := bel_trans (bel_trans hb4 hb5) (bel_trans hb56 hb7)
  have T7 := TBox.b B5 (bel_trans hb56 hb7)
  have Y7 := ArW.b hA5 (bel_trans hb56 hb7)
  have P7 := CBox.b bw3 hb7
  simp only [World.size_alloc] at hs6
  simp only [hs4] at hs5 hW5
  simp only [hs5] at hs6 hW6 bz3 bz4 bw3 bw4
  simp only [hs5, hs6] at hW7
  obtain ⟨v0, v1, v2, v3⟩ := bz1.four
  obtain ⟨f0, f1, f2, f3⟩ := bz1.free
  obtain ⟨v0', v1', v2', v3'⟩ := bz2.four
  obtain ⟨f0', f1', f2', f3'⟩ := bz2.free
  obtain ⟨a0, a1, a2, a3⟩ := bw1.four
  obtain ⟨b0, b1, b2, b3⟩ := bw2.four
  obtain ⟨c0, c1, c2, c3, c4⟩ := bz3.five
  obtain ⟨g0, g1, g2, g3, g4⟩ := bz3.free
  obtain ⟨c0', c1', c2', c3', c4'⟩ := bz4.five
  obtain ⟨g0', g1', g2', g3', g4'⟩ := bz4.free
  obtain ⟨d0, d1, d2, d3, d4⟩ := bw3.five
  obtain ⟨e0, e1, e2, e3, e4⟩ := bw4.five
  dsimp only [SS.nil] at c3 c3' d3
  clear bz1 bz2 bz3 bz4 bw1 bw2 hb4 hb5 hb6 hb56 hb7 hQ6 B5 hA5 h6
  go_enter Tryz.func12, Tryz.ntmps12
  go_wp2
  clear v0 v1 v2 v3 f0 f1 f2 f3 v0' v1' v2' v3' f0' f1' f2' f3' a0 a1 a2 a3 b0 b1 b2 b3 c0 c1 c2 c3 c4 g0 g1 g2 g3 g4 c0' c1' c2' c3' c4' g0' g1' g2' g3' g4' d0 d1 d2 d3 d4 e0 e1 e2 e3 e4
  simp only [hs4, hs5, hs6, World.size_alloc] at T7 Y7 P7 S7 hA7
  clear hW7 hW6 hZ6 hW5 hW4 hZ bw3 bw4
  generalize w.heap.size + 2 + 1 + 1 + 1 = g at *
  generalize w.heap.size + 2 + 1 + 1 = r at *
  generalize g + 1 + 1 + 2 + 1 = g6 at *
  generalize g + 1 + 1 + 2 = r6 at *
  generalize g + 1 + 1 = g4 at *
  have l4 := Blk.lt P7
  have l6 := Blk.lt S7
  obtain ⟨p0, p1, p2, p3, p4⟩ := P7.five
  obtain ⟨q0, q1, q2, q3, q4⟩ := S7.five
  dsimp only [SS.nil] at p3 q3
  have H7 := Lib.hid P7
  have H8 := Lib.hid S7
  have H9 := Lib.hid T7
  have K7 := Lib.hid Y7
  have K8 := Lib.hid hA7
  have HB := Lib.hid B7
  have B7d : Below W7.heap.size W7 W7.drew := (Below.refl _ _).drew
  clear P7 S7 T7 Y7 hA7 B7 hs7 hs6 hs5 hs4
  have HS := Lib.hid (show ∀ w', Below W7.heap.size W7 w' → (w'.cell? ⟨g4, 0, none⟩ = some (.int .i64 3) ∧ w'.cell? ⟨g4, 1, none⟩ = some (.string ⟨#[112]⟩) ∧ w'.cell? ⟨g4, 2, none⟩ = some (.string ⟨#[]⟩) ∧ w'.cell? ⟨g4, 3, none⟩ = some (.slice none 0 0) ∧ w'.cell? ⟨g4, 4, none⟩ = some (.slice none 0 0) ∧
      w'.cell? ⟨g6, 0, none⟩ = some (.int .i64 11) ∧ w'.cell? ⟨g6, 1, none⟩ = some (.string ⟨#[120]⟩) ∧ w'.cell? ⟨g6, 2, none⟩ = some (.string ⟨#[65]⟩) ∧ w'.cell? ⟨g6, 3, none⟩ = some (.slice none 0 0) ∧ w'.cell? ⟨g6, 4, none⟩ = some (.slice (some ⟨r6, 0, none⟩) 1 1)) from fun w' h =>
    ⟨(h.cell (p := ⟨g4, 0, none⟩) l4).trans p0, (h.cell (p := ⟨g4, 1, none⟩) l4).trans p1, (h.cell (p := ⟨g4, 2, none⟩) l4).trans p2, (h.cell (p := ⟨g4, 3, none⟩) l4).trans p3, (h.cell (p := ⟨g4, 4, none⟩) l4).trans p4,
      (h.cell (p := ⟨g6, 0, none⟩) l6).trans q0, (h.cell (p := ⟨g6, 1, none⟩) l6).trans q1, (h.cell (p := ⟨g6, 2, none⟩) l6).trans q2, (h.cell (p := ⟨g6, 3, none⟩) l6).trans q3, (h.cell (p := ⟨g6, 4, none⟩) l6).trans q4⟩)
  go_cut [7, 8] from 27 to 34 (fun v7 v8 wc => ∃ a b s u, v7 = .pointer (some ⟨a, 0, none⟩) ∧ v8 = .pointer (some ⟨b, 0, none⟩) ∧ Hid (Blk wc a #[.int .i64 7, .string ⟨#[]⟩, .string ⟨#[]⟩, .slice none 0 0, .slice (some ⟨s, 0, none⟩) 2 2] 33 ∧ Blk wc b #[.int .i64 7, .string ⟨#[]⟩, .string ⟨#[]⟩, .slice none 0 0, .slice (some ⟨u, 0, none⟩) 2 2] 33 ∧ Blk wc s #[.int .i64 3, .string ⟨#[112]⟩, .string ⟨#[]⟩, .slice none 0 0, .slice none 0 0, .int .i64 11, .string ⟨#[120]⟩, .string ⟨#[65]⟩, .slice none 0 0, .slice (some ⟨r6, 0, none⟩) 1 1] 33 ∧ Blk wc u #[.int .i64 11, .string ⟨#[120]⟩, .string ⟨#[65]⟩, .slice none 0 0, .slice (some ⟨r6, 0, none⟩) 1 1, .int .i64 3, .string ⟨#[112]⟩, .string ⟨#[]⟩, .slice none 0 0, .slice none 0 0] 33 ∧ Below W7.heap.size W7 wc))
  case first =>
    go_region_held3 (fun w' => w'.cell? ⟨g4, 0, none⟩ = some (.int .i64 3) ∧ w'.cell? ⟨g4, 1, none⟩ = some (.string ⟨#[112]⟩) ∧ w'.cell? ⟨g4, 2, none⟩ = some (.string ⟨#[]⟩) ∧ w'.cell? ⟨g4, 3, none⟩ = some (.slice none 0 0) ∧ w'.cell? ⟨g4, 4, none⟩ = some (.slice none 0 0) ∧
        w'.cell? ⟨g6, 0, none⟩ = some (.int .i64 11) ∧ w'.cell? ⟨g6, 1, none⟩ = some (.string ⟨#[120]⟩) ∧ w'.cell? ⟨g6, 2, none⟩ = some (.string ⟨#[65]⟩) ∧ w'.cell? ⟨g6, 3, none⟩ = some (.slice none 0 0) ∧ w'.cell? ⟨g6, 4, none⟩ = some (.slice (some ⟨r6, 0, none⟩) 1 1))
      (first | exact HS.out _ B7d | exact HS.out _ (by repeat (first | exact B7d | exact Below.refl _ _ | refine Below.drew ?_ | refine bel_alloc ?_ _ | refine put5_below ?_ (by omega) _ _ _ _ _)) | go_keep)
      (first | fail)
    all_goals ((try go_wp2_with fail); go_meet)
    all_goals exact ⟨_, _, _, _, rfl, rfl, Lib.hid ⟨(by repeat (first | with_reducible exact blkAt (by first | rfl | (simp only [World.size_alloc]; done) | (simp only [World.size_alloc]; rfl)) _ _ | with_reducible refine Blk.alloc ?_ _ | with_reducible refine blk_drew ?_)), (by repeat (first | with_reducible exact blkAt (by first | rfl | (simp only [World.size_alloc]; done) | (simp only [World.size_alloc]; rfl)) _ _ | with_reducible refine Blk.alloc ?_ _ | with_reducible refine blk_drew ?_)), (by repeat (first | with_reducible exact blkAt (by first | rfl | (simp only [World.size_alloc]; done) | (simp only [World.size_alloc]; rfl)) _ _ | with_reducible refine Blk.alloc ?_ _ | with_reducible refine blk_drew ?_)), (by repeat (first | with_reducible exact blkAt (by first | rfl | (simp only [World.size_alloc]; done) | (simp only [World.size_alloc]; rfl)) _ _ | with_reducible refine Blk.alloc ?_ _ | with_reducible refine blk_drew ?_)), (by repeat (first | with_reducible exact B7d | with_reducible exact Below.refl _ _ | with_reducible refine Below.drew ?_ | with_reducible refine bel_alloc ?_ _))⟩⟩
  case rest =>
    obtain ⟨a, b, s, u, rfl, rfl, hcut⟩ := hcut
    obtain ⟨ha, hb, hs, hu, hBc⟩ := hcut.out
    have T9 := TBox.b H9.out hBc
    have x1 : ArWC wc k1 SS.nil (some ⟨s, 0, none⟩) 2 2 := ar_isC.2 ⟨TsW.nil _, two_cs (p := kP) (t := kA) (k := SS.nil) (k' := SS.nil) hs (leafC _ _ _ _) (ArWC.b K8.out hBc)⟩
    have x2 : ArWC wc k2 SS.nil (some ⟨u, 0, none⟩) 2 2 := ar_isC.2 ⟨TsW.nil _, two_cs (p := kA) (t := kP) (k := SS.nil) (k' := SS.nil) hu (ArWC.b K8.out hBc) (leafC _ _ _ _)⟩
    have hWc : Below W.heap.size W wc := hw.trans ((bel_trans HB.out hBc).mono hw.size)
    have cT : Calls Tryz.prog 13 #[.agg #[.int .i64 6, .string ⟨#[]⟩, .int .i64 0, .slice (some ⟨r, 0, none⟩) 2 2]] wc fun e w' => e = .returned (.string ⟨#[50, 32, 42, 32, 120, 32, 45, 32, 40, 121, 32, 43, 32, 40, 45, 49, 41, 41]⟩) ∧ Below wc.heap.size wc w' := by
      have := Term_any E y6 y6_ok y6_right (some ⟨r, 0, none⟩) 2 2 wc hWc (ArW.b K7.out hBc)
      rw [y6_text] at this
      exact this
    have c1 : ∀ w', Below wc.heap.size wc w' → Calls Tryz.prog 16 #[.agg #[.int .i64 7, .string ⟨#[]⟩, .string ⟨#[]⟩, .slice none 0 0, .slice (some ⟨s, 0, none⟩) 2 2]] w' fun e w2 => e = .returned (.string ⟨#[112, 32, 38, 32, 33, 120, 58, 32, 65, 46, 32, 113, 40, 120, 41]⟩) ∧ Below w'.heap.size w' w2 := fun w' h => by
      have := Claim_any E k1 k1_ok k1_right SS.nil (some ⟨s, 0, none⟩) 2 2 w' (hWc.trans (h.mono hWc.size)) (ArWC.b x1 h)
      rw [k1_text] at this
      exact this
    have c2 : ∀ w', Below wc.heap.size wc w' → Calls Tryz.prog 16 #[.agg #[.int .i64 7, .string ⟨#[]⟩, .string ⟨#[]⟩, .slice none 0 0, .slice (some ⟨u, 0, none⟩) 2 2]] w' fun e w2 => e = .returned (.string ⟨#[40, 33, 120, 58, 32, 65, 46, 32, 113, 40, 120, 41, 41, 32, 38, 32, 112]⟩) ∧ Below w'.heap.size w' w2 := fun w' h => by
      have := Claim_any E k2 k2_ok k2_right SS.nil (some ⟨u, 0, none⟩) 2 2 w' (hWc.trans (h.mono hWc.size)) (ArWC.b x2 h)
      rw [k2_text] at this
      exact this
    have C1 := Lib.hid c1
    have C2 := Lib.hid c2
    have Ha := Lib.hid ha
    have Hb := Lib.hid hb
    have HBc := Lib.hid (bel_trans HB.out hBc)
    obtain ⟨z0, z1, z2, z3⟩ := T9.four
    clear c1 c2 ha hb hs hu hBc x1 x2 T9 hcut HS H7 H8 H9 K7 K8 HB E hw hWc p0 p1 p2 p3 p4 q0 q1 q2 q3 q4
    go_wp2_with (first
      | (go_at_call 13; ((with_reducible refine cT.mono ?_); rintro e wA ⟨rfl, hbA⟩; have k := Blk.below Ha.out hbA; have m0 := Blk.cell k 0; have m1 := Blk.cell k 1; have m2 := Blk.cell k 2; have m3 := Blk.cell k 3; have m4 := Blk.cell k 4; simp only [List.getElem?_toArray, List.getElem?_cons_zero, List.getElem?_cons_succ] at m0 m1 m2 m3 m4; clear k; have c1 := C1.out wA hbA))
      | (go_at_call 16; ((with_reducible refine c1.mono ?_); rintro e wB ⟨rfl, hbB⟩; have hbB2 := bel_trans hbA hbB; have k := Blk.below Hb.out hbB2; have n0 := Blk.cell k 0; have n1 := Blk.cell k 1; have n2 := Blk.cell k 2; have n3 := Blk.cell k 3; have n4 := Blk.cell k 4; simp only [List.getElem?_toArray, List.getElem?_cons_zero, List.getElem?_cons_succ] at n0 n1 n2 n3 n4; clear k; have c2 := C2.out wB hbB2))
      | (go_at_call 16; ((with_reducible refine c2.mono ?_); rintro e wD ⟨rfl, hbD⟩)))
    go_ret
    exact ⟨rfl, bel_trans HBc.out (bel_trans hbB2 hbD)⟩
end Go.Proofs.YtcigeclnbhcohaaGreatDoor.Sh
