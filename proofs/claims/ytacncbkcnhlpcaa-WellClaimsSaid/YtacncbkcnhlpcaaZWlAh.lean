/-
  What is proved: the document's ways of layer 13: a place ahead of a way; the first of some sorts that is not as asked.
-/
import Derived.Test.YtacncbkcnhlpcaaZWlD
import Derived.Test.YtacncbkcnhlpcaaWP
import Derived.RegionTactic
import Derived.BigQuiet
namespace Go.Proofs.Ytacncbkcnhlpcaa.Wl
open Go.RowKit L T C
set_option linter.unusedVariables false
set_option linter.unusedSimpArgs false
set_option maxRecDepth 100000

/-- a block that holds a sort, or a way and an error -/
def GBox (w : World) (g : Nat) (s : ByteArray) (A : Option Addr) (N C : Nat) (e : Int) : Prop := Sgn.Blk w g #[.string s, .slice A N C, .int .i64 e] 40
theorem GBox.new (w : World) (s : ByteArray) (A : Option Addr) (N C : Nat) (e : Int) : GBox (w.alloc (.cells #[.string s, .slice A N C, .int .i64 e] 40)) w.heap.size s A N C e := Sgn.Blk.new w _ _
theorem GBox.three {w : World} {g : Nat} {s : ByteArray} {A : Option Addr} {N C : Nat} {e : Int} (h : GBox w g s A N C e) : w.cell? ⟨g, 0, none⟩ = some (.string s) ∧ w.cell? ⟨g, 1, none⟩ = some (.slice A N C) ∧ w.cell? ⟨g, 2, none⟩ = some (.int .i64 e) := ⟨Sgn.Blk.cell h 0, Sgn.Blk.cell h 1, Sgn.Blk.cell h 2⟩
theorem GBox.free {w : World} {g : Nat} {s : ByteArray} {A : Option Addr} {N C : Nat} {e : Int} (h : GBox w g s A N C e) : w.frozen? ⟨g, 0, none⟩ = false ∧ w.frozen? ⟨g, 1, none⟩ = false ∧ w.frozen? ⟨g, 2, none⟩ = false := ⟨Sgn.Blk.free h 0, Sgn.Blk.free h 1, Sgn.Blk.free h 2⟩
theorem GBox.b {w w' : World} {g : Nat} {s : ByteArray} {A : Option Addr} {N C : Nat} {e : Int} (h : GBox w g s A N C e) (hb : Below w.heap.size w w') : GBox w' g s A N C e := Sgn.Blk.belowAll h hb
theorem GBox.put {w : World} {g : Nat} {s : ByteArray} {A : Option Addr} {N C : Nat} {e : Int} (h : GBox w g s A N C e) (s' : ByteArray) (A' : Option Addr) (N' C' : Nat) (e' : Int) : GBox (((w.setCell ⟨g, 0, none⟩ (.string s')).setCell ⟨g, 1, none⟩ (.slice A' N' C')).setCell ⟨g, 2, none⟩ (.int .i64 e')) g s' A' N' C' e' := ((Sgn.Blk.set h 0 _).set 1 _).set 2 _
/-- what the document's check answers -/
def GtP (R : Wr) (w : World) (e : Ending) (w' : World) : Prop :=
  ∃ A N C, e = .returned (.agg #[.string R.so, .slice A N C, .int .i64 R.e]) ∧ SlI w' A N C R.way ∧ Below w.heap.size w w' ∧ ∀ g, g < w.heap.size → ∀ b o, A = some ⟨b, o, none⟩ → 0 < N → b ≠ g
theorem SlI.far {w : World} {g k : Nat} {A : Option Addr} {N C : Nat} {X : List Int} (h : SlI w A N C X) (ho : ∀ b o, A = some ⟨b, o, none⟩ → 0 < N → b ≠ g) (v : Value) : SlI (w.setCell ⟨g, k, none⟩ v) A N C X := by
  refine ⟨h.1, h.2.1, h.2.2.1, fun hn => ?_⟩
  obtain ⟨b, o, ha, hlt, hr⟩ := h.2.2.2 hn
  refine ⟨b, o, ha, by rw [World.size_setCell]; exact hlt, fun i hi => ?_⟩
  rw [World.cell?_setCell_other _ _ _ _ (by intro e; exact ho b o ha hn (by simpa using (congrArg Addr.block e).symm))]
  exact hr i hi
/-- a row of integers does not lie in a block that holds a sort, a way and an error: but for its last cell -/
theorem own_ints {w : World} {base : Nat} {v : Value} {X : List Int} (h : w.ownsRow base 3 1 v X.length (vsI X)) : ∃ A c, v = .slice A X.length c ∧ SlI w A X.length c X ∧ ∀ g, g < base → ∀ b o, A = some ⟨b, o, none⟩ → 0 < X.length → b ≠ g := by
  have h0 := h
  rcases h.2 with ⟨rfl, hn⟩ | ⟨g, cap, cur, rfl, hb, hg, hnc, hcm, hcs, ht⟩
  · exact ⟨none, 0, by rw [hn], ⟨rfl, by omega, fun _ => rfl, fun h => absurd h (by omega)⟩, fun g _ b o e => by cases e⟩
  · obtain ⟨A, c, hv, hS⟩ := SlI.of_own h0
    injection hv with e1 e2 e3
    subst e1
    refine ⟨_, c, by rw [e3], hS, fun g' hg' b o e _ => ?_⟩
    injection e with e
    injection e with e
    omega
set_option maxHeartbeats 2000000 in
theorem ahead_any (z : Int) (A : Option Addr) (N C : Nat) (X : List Int) (w : World) (h : SlI w A N C X) (hn : N ≤ 1000000) :
    Calls Try.prog 58 #[.int .i64 z, .slice A N C] w fun e w' => ∃ A' C', e = .returned (.slice A' (N + 1) C') ∧ SlI w' A' (N + 1) C' (z :: X) ∧ Below w.heap.size w w' ∧ ∀ g, g < w.heap.size → ∀ b o, A' = some ⟨b, o, none⟩ → 0 < N + 1 → b ≠ g := by
  obtain ⟨i0, hi, hz0, hz1, hz2⟩ := info_parts intI
  have hB1 : Below w.heap.size w (w.alloc (.cells #[.int .i64 z] 3)) := bel_alloc (Below.refl _ _) _
  have h1 := h.below hB1
  have hlen := h.1
  have hO : (w.alloc (.cells #[.int .i64 z] 3)).ownsRow w.heap.size 3 1 (.slice (some ⟨w.heap.size, 0, none⟩) 1 1) 1 (vsI [z]) :=
    ⟨rfl, .inr ⟨w.heap.size, 1, #[.int .i64 z], rfl, Nat.le_refl _, heap_alloc_new w _, Nat.le_refl _, by unfold maxLen; omega, rfl, rfl⟩⟩
  have hfin : ∀ v' w', w'.ownsRow w.heap.size 3 1 v' (1 + N) (vsI [z] ++ vsI X) → (w.alloc (.cells #[.int .i64 z] 3)).grownBy w' (some w.heap.size) → (∃ A' C', v' = .slice A' (N + 1) C' ∧ SlI w' A' (N + 1) C' (z :: X) ∧ ∀ g, g < w.heap.size → ∀ b o, A' = some ⟨b, o, none⟩ → 0 < N + 1 → b ≠ g) ∧ Below w.heap.size w w' := fun v' w' h2 h3 => by
    have e1 : vsI [z] ++ vsI X = vsI (z :: X) := by simp [vsI]
    have e2 : 1 + N = (z :: X).length := by rw [List.length_cons, ← hlen]; omega
    have e3 : N + 1 = (z :: X).length := by rw [List.length_cons, ← hlen]
    rw [e1, e2] at h2
    rw [e3]
    obtain ⟨A', C', h4, h5, h6⟩ := own_ints h2
    exact ⟨⟨A', C', h4, h5, h6⟩, hB1.grown h3 hB1.size (fun k hk => by injection hk with hk; omega)⟩
  have HF := Lib.hid hfin
  have H1 := Lib.hid h1
  have HO := Lib.hid hO
  have HB := Lib.hid hB1
  have hat : ∀ ad, A = some ad → ∀ j u, (vsI X)[j]? = some u → (w.alloc (.cells #[.int .i64 z] 3)).cell? (ad.add j) = some u := fun ad had j u hj => by
    obtain ⟨hj2, hu⟩ := List.getElem?_eq_some_iff.1 hj
    rw [vsI_len] at hj2
    obtain ⟨b', o, ha, _, hr⟩ := h1.2.2.2 (by rw [h1.1]; omega)
    rw [had] at ha
    injection ha with ha
    subst ha
    rw [Addr.add_lit, hr j hj2, ← hu]
    simp [vsI]
  have hone : ∀ u ∈ vsI X, u.oneCell' = true := fun u hu => by
    unfold vsI at hu
    obtain ⟨x, _, rfl⟩ := List.mem_map.1 hu
    rfl
  have hsz : w.heap.size ≤ (w.alloc (.cells #[.int .i64 z] 3)).heap.size := hB1.size
  have hnone := h.2.2.1
  have hle := h.2.1
  clear hfin h1 hO hB1
  cases A with
  | none =>
    obtain rfl : C = 0 := hnone rfl
    obtain rfl : N = 0 := by omega
    have hX0 : X = [] := List.eq_nil_of_length_eq_zero hlen.symm
    subst hX0
    clear hat hone hnone hle hlen h
    go_enter Try.func58, Try.ntmps58
    go_wp2_with (at_builtin; ((refine wpList_append_own_none rfl (.tmp 6) (.tmp 7) 35 rfl w.heap.size 3 i0 1 Try.underlying35 hi (.slice (some ⟨w.heap.size, 0, none⟩) 1 1) 1 (vsI [z]) rfl HO.out rfl ?_)))
    obtain ⟨⟨A', C', e1, e2, e3⟩, e4⟩ := HF.out _ _ HO.out ⟨rfl, rfl, rfl, Nat.le_refl _, fun _ _ _ => rfl⟩
    injection e1 with e5 e6 e7
    subst e5 e7
    go_ret
    exact ⟨_, _, rfl, e2, e4, e3⟩
  | some ad =>
    have hb1 : 1 + N ≤ maxLen := by unfold maxLen; omega
    have hb2 : (1 + N) * 8 ≤ 140737488355328 := by omega
    have hl : (vsI X).length = N * 1 := by rw [vsI_len, ← hlen, Nat.mul_one]
    have hat := hat ad rfl
    clear hnone hle hlen h H1
    go_enter Try.func58, Try.ntmps58
    go_wp2_with (at_builtin; ((refine wpList_append_own _ rfl (.tmp 6) (.tmp 7) 35 rfl w.heap.size 3 i0 _ 1 8 Try.underlying35 hi hz0 hz1 hz2 rfl (by decide) (.slice (some ⟨w.heap.size, 0, none⟩) 1 1) 1 (vsI [z]) rfl HO.out ad N C (vsI X) rfl hl hat hone hb1 hb2 hsz ?_); intro v2 w2 ho2 hg2 _))
    obtain ⟨⟨A', C', e1, e2, e3⟩, e4⟩ := HF.out v2 w2 ho2 hg2
    subst e1
    go_ret
    exact ⟨_, _, rfl, e2, e4, e3⟩
set_option maxHeartbeats 4000000 in
theorem asked_any (g : Option Addr) (n c : Nat) (G : List ByteArray) (d : Option Addr) (m c' : Nat) (D : List ByteArray) (w : World) (hG : IsS w g n G) (hD : IsS w d m D) (hnm : n ≤ m) (hn : n ≤ 1000000) :
    Calls Try.prog 59 #[.slice g n c, .slice d m c'] w (GtP (askW G D ⟨#[]⟩) w) := by
  obtain ⟨W1, hW1⟩ : ∃ W1, w.alloc (.cells #[.string ⟨#[]⟩, .slice none 0 0, .int .i64 0] 40) = W1 := ⟨_, rfl⟩
  have hB1 : Below w.heap.size w W1 := by rw [← hW1]; exact bel_alloc (Below.refl _ _) _
  have R1 := GBox.new w ⟨#[]⟩ none 0 0 0
  rw [hW1] at R1
  have hst : ∀ k x y, G[k]? = some x → D[k]? = some y → diff (G.drop k) (D.drop k) = if (x.toList == y.toList) = true then (diff (G.drop (k + 1)) (D.drop (k + 1))).map (· + 1) else some 0 := fun k x y h1 h2 => diff_at h1 h2
  have he : ∀ k, n ≤ k → diff (G.drop k) (D.drop k) = none := fun k h => by rw [List.drop_eq_nil_of_le (by rw [← hG.1]; exact h)]; rfl
  have h0 : diff G D = diff (G.drop 0) (D.drop 0) := rfl
  have hP1 : ∀ (k : Nat) g2 C w', diff G D = some k → Below w.heap.size w w' → SlI w' (some ⟨g2, 0, none⟩) 1 C [(k : Int)] → w.heap.size ≤ g2 → GtP (askW G D ⟨#[]⟩) w (.returned (.agg #[.string ⟨#[]⟩, .slice (some ⟨g2, 0, none⟩) 1 C, .int .i64 11])) w' := fun k g2 C w' h1 h2 h3 h4 => by
    unfold askW; rw [h1]; exact ⟨_, _, _, rfl, h3, h2, fun g hg b o e _ => by injection e with e; injection e with e; omega⟩
  have hP2 : ∀ w', diff G D = none → Below w.heap.size w w' → GtP (askW G D ⟨#[]⟩) w (.returned (.agg #[.string ⟨#[]⟩, .slice none 0 0, .int .i64 0])) w' := fun w' h1 h2 => by
    unfold askW; rw [h1]; exact ⟨none, 0, 0, rfl, SlI.nil _, h2, fun g _ b o e => by cases e⟩
  rw [h0] at hP1 hP2
  generalize GtP (askW G D ⟨#[]⟩) w = PP at *
  obtain ⟨F, hF⟩ : ∃ F : Nat → Option Nat, ∀ k, diff (G.drop k) (D.drop k) = F k := ⟨_, fun _ => rfl⟩
  simp only [hF] at hst he hP1 hP2
  clear hF h0
  have HG := Lib.hid (hG.below hB1)
  have HD := Lib.hid (hD.below hB1)
  have Hst := Lib.hid hst
  have He := Lib.hid he
  have HP1 := Lib.hid hP1
  have HP2 := Lib.hid hP2
  have HB1 := Lib.hid hB1
  have HR1 := Lib.hid R1
  obtain ⟨r0, r1, r2⟩ := R1.three
  obtain ⟨q0, q1, q2⟩ := R1.free
  have lR := Sgn.Blk.lt R1
  clear hG hD hst he hP1 hP2 hB1 R1
  go_enter Try.func59, Try.ntmps59
  go_wp2
  go_loopw [5] (fun i wr0 => ∃ (wr : World) (k j : Nat), wr = wr0 ∧ k ≤ n ∧ i = .int .i64 k ∧ wr = W1.drewN j ∧ Hid (F 0 = (F k).map (· + k))) (fun i _ => n - (intOf i).toNat)
  case atStart => exact ⟨W1, 0, 0, rfl, by omega, rfl, rfl, Lib.hid (by simp)⟩
  case round =>
    obtain ⟨wr, k, j, rfl, hk, rfl, rfl, hR⟩ := hrel
    by_cases hlt : k < n
    · obtain ⟨b1, o1, x, rfl, l1, y1, hx, _⟩ := HG.out.at hlt
      obtain ⟨b2, o2, y, rfl, l2, y2, hy, _⟩ := HD.out.at (show k < m by omega)
      have hs1 := Hst.out k x y hx hy
      have hk0 : 0 ≤ (k : Int) := by omega
      have hk1 : (k : Int) < (n : Int) := by omega
      have hk2 : (k : Int) < (m : Int) := by omega
      clear hx hy Hst HG HD
      cases hu : x.toList == y.toList with
      | true =>
        have hnew : Hid (F 0 = (F (k + 1)).map (· + (k + 1))) := by
          show _ = _
          rw [hR.out, hs1, if_pos hu, Option.map_map]
          congr 1
          funext i
          simp; omega
        have hu2 : (x.toList = y.toList) = True := by simpa using hu
        have hu3 : (x.toList != y.toList) = false := by simpa using hu
        clear hR hs1
        go_wp2
        go_quiet (fail)
        go_wp2
        go_roundw
        case rel => exact ⟨_, k + 1, _, rfl, by omega, by go_num, by first | rfl | exact (World.drewN_drewN _ _ _), hnew⟩
        case measure => simp [intOf]; omega
      | false =>
        have hnew : Hid (F 0 = some k) := by show _ = _; rw [hR.out, hs1, if_neg (by simp [hu])]; simp
        have hu2 : (x.toList = y.toList) = False := by simpa using hu
        have hu3 : (x.toList != y.toList) = true := by simpa using hu
        clear hR hs1
        have GB : ∀ j, GBox ((W1.drewN j).alloc (.cells #[.int .i64 (k : Int)] 3)) w.heap.size ⟨#[]⟩ none 0 0 0 := fun j => GBox.b (GBox.b HR1.out (below_drewN (Below.refl _ _) j)) (bel_alloc (Below.refl _ _) _)
        have z0 := fun j => (GB j).three.1
        have z1 := fun j => (GB j).three.2.1
        have z2 := fun j => (GB j).three.2.2
        have f0 := fun j => (GB j).free.1
        have f1 := fun j => (GB j).free.2.1
        have f2 := fun j => (GB j).free.2.2
        have hblk : ∀ j (v0 v1 v2 : Value), SlI (((((W1.drewN j).alloc (.cells #[.int .i64 (k : Int)] 3)).setCell ⟨w.heap.size, 0, none⟩ v0).setCell ⟨w.heap.size, 1, none⟩ v1).setCell ⟨w.heap.size, 2, none⟩ v2) (some ⟨W1.heap.size, 0, none⟩) 1 1 [(k : Int)] := fun j v0 v1 v2 => by
          have hb : Sgn.Blk ((W1.drewN j).alloc (.cells #[.int .i64 (k : Int)] 3)) W1.heap.size #[.int .i64 (k : Int)] 3 := Sgn.Blk.new (W1.drewN j) _ _
          have h1 : SlI ((W1.drewN j).alloc (.cells #[.int .i64 (k : Int)] 3)) (some ⟨W1.heap.size, 0, none⟩) 1 1 [(k : Int)] := ⟨rfl, Nat.le_refl _, (fun h => by cases h), fun _ => ⟨W1.heap.size, 0, rfl, Sgn.Blk.lt hb, fun i hi => by
            match i, hi with
            | 0, _ => exact Sgn.Blk.cell hb 0⟩⟩
          have hne : ∀ b o, some (⟨W1.heap.size, 0, none⟩ : Addr) = some ⟨b, o, none⟩ → 0 < 1 → b ≠ w.heap.size := fun b o e _ => by
            injection e with e
            injection e with e
            omega
          exact ((h1.far hne v0).far hne v1).far hne v2
        have hbel : ∀ j (v0 v1 v2 : Value), Below w.heap.size w (((((W1.drewN j).alloc (.cells #[.int .i64 (k : Int)] 3)).setCell ⟨w.heap.size, 0, none⟩ v0).setCell ⟨w.heap.size, 1, none⟩ v1).setCell ⟨w.heap.size, 2, none⟩ v2) := fun j v0 v1 v2 => Sgn.below_set3 (bel_alloc (below_drewN HB1.out j) _) (Nat.le_refl _) v0 v1 v2
        have GBs := Lib.hid GB
        have Hblk := Lib.hid hblk
        have Hbel := Lib.hid hbel
        clear GB hblk hbel
        go_wp2
        go_quiet (fail)
        go_wp2
        have R6 := (GBs.out (j + nq)).put ⟨#[]⟩ (some ⟨W1.heap.size, 0, none⟩) 1 1 11
        obtain ⟨x0, x1, x2⟩ := R6.three
        have HZ := Lib.hid (HP1.out k W1.heap.size 1 _ hnew.out (Hbel.out (j + nq) (.string ⟨#[]⟩) (.slice (some ⟨W1.heap.size, 0, none⟩) 1 1) (.int .i64 11)) (Hblk.out (j + nq) (.string ⟨#[]⟩) (.slice (some ⟨W1.heap.size, 0, none⟩) 1 1) (.int .i64 11)) HB1.out.size)
        simp [bodyPost, results, Try.results59, go_sem, x0, x1, x2]
        exact HZ.out
    · have hnew : Hid (F 0 = none) := by show _ = _; rw [hR.out, He.out k (by omega)]; rfl
      have GB : ∀ j, GBox (W1.drewN j) w.heap.size ⟨#[]⟩ none 0 0 0 := fun j => GBox.b HR1.out (below_drewN (Below.refl _ _) j)
      have f0 := fun j => (GB j).free.1
      have f1 := fun j => (GB j).free.2.1
      have f2 := fun j => (GB j).free.2.2
      have hbel : ∀ j (v0 v1 v2 : Value), Below w.heap.size w ((((W1.drewN j).setCell ⟨w.heap.size, 0, none⟩ v0).setCell ⟨w.heap.size, 1, none⟩ v1).setCell ⟨w.heap.size, 2, none⟩ v2) := fun j v0 v1 v2 => Sgn.below_set3 (below_drewN HB1.out j) (Nat.le_refl _) v0 v1 v2
      have GBs := Lib.hid GB
      have Hbel := Lib.hid hbel
      clear hR GB hbel
      go_wp2
      have R6 := (GBs.out j).put ⟨#[]⟩ none 0 0 0
      obtain ⟨x0, x1, x2⟩ := R6.three
      have HZ := Lib.hid (HP2.out _ hnew.out (Hbel.out j (.string ⟨#[]⟩) (.slice none 0 0) (.int .i64 0)))
      simp [bodyPost, results, Try.results59, go_sem, x0, x1, x2]
      exact HZ.out
end Go.Proofs.Ytacncbkcnhlpcaa.Wl
