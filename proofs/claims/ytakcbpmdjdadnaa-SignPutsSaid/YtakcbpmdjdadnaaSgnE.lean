/-
  What is proved: the place of a function of a name, by package sign (slices.IndexFunc with a closure) and by the document's answers.
-/
import Derived.Test.YtakcbpmdjdadnaaSgnA
namespace Go.Proofs.Ytakcbpmdjdadnaa.Sgn
open Go.RowKit L Srt
set_option linter.unusedVariables false
set_option linter.unusedSimpArgs false

theorem named_any (g : Nat) (s x : ByteArray) (a : Option Addr) (m c : Nat) (r : ByteArray) (w : World) (hlt : g < w.heap.size) (hg : w.cell? ⟨g, 0, none⟩ = some (.string s)) :
    Calls Try.prog 53 #[.agg #[.string x, .slice a m c, .string r], .pointer (some ⟨g, 0, none⟩)] w fun e w' => e = .returned (.bool (x.toList == s.toList)) ∧ Below w.heap.size w w' := by
  have F1 := FBox.new w x a m c r
  have hB : Below w.heap.size w (w.alloc (.cells #[.string x, .slice a m c, .string r] 27)) := bel_alloc (Below.refl _ _) _
  have g0 := (hB.cell (p := ⟨g, 0, none⟩) hlt).trans hg
  obtain ⟨W1, hW1⟩ : ∃ W1, w.alloc (.cells #[.string x, .slice a m c, .string r] 27) = W1 := ⟨_, rfl⟩
  rw [hW1] at F1 hB g0
  obtain ⟨f0, f1, f2⟩ := F1.three
  clear hg
  go_enter Try.func53, Try.ntmps53
  go_wp2
  go_ret
  exact ⟨rfl, hB⟩

set_option maxHeartbeats 2000000 in
theorem idxNamed_any (g : Nat) (s : ByteArray) (b : Option Addr) (m d : Nat) (G : List Fm) (w : World) (hlt : g < w.heap.size) (hg : w.cell? ⟨g, 0, none⟩ = some (.string s)) (hG : IsG w b m G) (hm : m ≤ 1000000000) :
    Calls Try.prog 52 #[.slice b m d, .func (.func 53) #[] #[.pointer (some ⟨g, 0, none⟩)]] w fun e w' => e = .returned (.int .i64 (posK (cores G) s)) ∧ Below w.heap.size w w' := by
  have cu : ∀ (f : Fm) (w' : World), Below w.heap.size w w' → Calls Try.prog 53 #[.agg #[.string f.name, .slice f.a f.m f.c, .string f.res], .pointer (some ⟨g, 0, none⟩)] w' fun e w1 => e = .returned (.bool (f.name.toList == s.toList)) ∧ Below w'.heap.size w' w1 :=
    fun f w' h => named_any g s f.name f.a f.m f.c f.res w' (Nat.lt_of_lt_of_le hlt h.size) ((h.cell (p := ⟨g, 0, none⟩) hlt).trans hg)
  have hlen : (cores G).length = m := by rw [cores_len]; exact hG.1.symm
  have hst : ∀ k (f : Fm), G[k]? = some f → idxK ((cores G).drop k) s = if (f.name.toList == s.toList) = true then 0 else idxK ((cores G).drop (k + 1)) s + 1 := fun k f h => idxK_step s (cores_at h)
  have he : ∀ k, m ≤ k → idxK ((cores G).drop k) s = 0 := fun k h => by rw [List.drop_eq_nil_of_le (by rw [hlen]; exact h)]; rfl
  have h0 : idxK (cores G) s = idxK ((cores G).drop 0) s := rfl
  have hR1 : ∀ k, k < m → idxK ((cores G).drop 0) s = k → posK (cores G) s = (k : Int) := fun k h g => by unfold posK; rw [h0, g, if_pos (by rw [hlen]; exact h)]
  have hR2 : idxK ((cores G).drop 0) s = m → posK (cores G) s = -1 := fun g => by unfold posK; rw [h0, g, if_neg (by rw [hlen]; omega)]
  generalize posK (cores G) s = R at *
  obtain ⟨F, hF⟩ : ∃ F : Nat → Nat, ∀ k, idxK ((cores G).drop k) s = F k := ⟨_, fun _ => rfl⟩
  simp only [hF] at hst he hR1 hR2
  clear hF h0 hlen hg
  have H1 := Lib.hid hG
  have Hst := Lib.hid hst
  have He := Lib.hid he
  have HR1 := Lib.hid hR1
  have HR2 := Lib.hid hR2
  have Hu := Lib.hid cu
  clear hG hst he hR1 hR2 cu
  go_enter Try.func52, Try.ntmps52
  go_wp2
  go_loopw [8] (fun i wr0 => ∃ (wr : World) (k : Nat), wr = wr0 ∧ k ≤ m ∧ i = .int .i64 k ∧ Below w.heap.size w wr ∧ Hid (F 0 = k + F k)) (fun i _ => m - (intOf i).toNat)
  case atStart => exact ⟨w, 0, rfl, by omega, rfl, Below.refl _ _, Lib.hid (by omega)⟩
  case round =>
    obtain ⟨wr, k, rfl, hk, rfl, hB, hR⟩ := hrel
    by_cases hlt2 : k < m
    · obtain ⟨bb, o, f, rfl, hb, y1, y2, y3, hx, _⟩ := (H1.out.below hB).at hlt2
      have hs1 := Hst.out k f hx
      have cx := Hu.out f wr hB
      clear hx H1 Hst Hu
      have hk0 : 0 ≤ (k : Int) := by omega
      have hk1 : (k : Int) < (m : Int) := by omega
      generalize f.name = nm at *
      generalize f.a = A at *
      generalize f.m = M at *
      generalize f.c = Cc at *
      generalize f.res = rs at *
      cases hu : nm.toList == s.toList with
      | true =>
        rw [hu] at cx
        have hnew : Hid (R = (k : Int)) := HR1.out k hlt2 (by rw [hR.out, hs1, if_pos hu]; rfl)
        clear hR hs1
        go_wp2_with (go_at_call 53; ((with_reducible refine cx.mono ?_); rintro e w1 ⟨rfl, hb1⟩))
        go_ret
        exact ⟨one hnew.out.symm, bel_trans hB hb1⟩
      | false =>
        rw [hu] at cx
        have hnew : Hid (F 0 = k + 1 + F (k + 1)) := by
          show _ = _
          rw [hR.out, hs1, if_neg (by simp [hu])]; omega
        clear hR hs1
        go_wp2_with (go_at_call 53; ((with_reducible refine cx.mono ?_); rintro e w1 ⟨rfl, hb1⟩))
        go_roundw
        case rel => exact ⟨_, k + 1, rfl, by omega, by go_num, bel_trans hB hb1, hnew⟩
        case measure => simp [intOf]; omega
    · have hnew : Hid (R = -1) := HR2.out (by rw [hR.out, He.out k (by omega)]; omega)
      clear hR
      go_wp2
      go_ret
      exact ⟨one hnew.out.symm, hB⟩

theorem place_any (s : ByteArray) (b : Option Addr) (m d : Nat) (G : List Fm) (w : World) (hG : IsG w b m G) (hm : m ≤ 1000000000) :
    Calls Try.prog 30 #[.slice b m d, .string s] w fun e w' => e = .returned (.int .i64 (posK (cores G) s)) ∧ Below w.heap.size w w' := by
  have hB : Below w.heap.size w (w.alloc (.cells #[.string s] 9)) := bel_alloc (Below.refl _ _) _
  have c1 := idxNamed_any w.heap.size s b m d G (w.alloc (.cells #[.string s] 9)) (by simp) (by rw [World.cell?_alloc_at _ _ _ _ rfl]; rfl) (hG.below hB) hm
  have hmf : ∀ (fn : Fn) (first cap : Array Value) (w : World), (Instr.makeFunc fn first cap).run Try.prog w = .ok (.func fn first cap) w := fun _ _ _ _ => rfl
  generalize posK (cores G) s = R at *
  clear hG
  have HB := Lib.hid hB
  clear hB
  go_enter Try.func30, Try.ntmps30
  go_wp2_with (go_at_call 52; ((with_reducible refine c1.mono ?_); rintro e w1 ⟨rfl, hb1⟩))
  go_ret
  exact ⟨rfl, bel_trans HB.out hb1⟩

set_option maxHeartbeats 2000000 in
theorem refPlace_any (s : ByteArray) (b : Option Addr) (m d : Nat) (G : List Fm) (w : World) (hG : IsG w b m G) (hm : m ≤ 1000000000) :
    Calls Try.prog 32 #[.slice b m d, .string s] w fun e w' => e = .returned (.int .i64 (posK (cores G) s)) ∧ w' = w := by
  have hlen : (cores G).length = m := by rw [cores_len]; exact hG.1.symm
  have hst : ∀ k (f : Fm), G[k]? = some f → idxK ((cores G).drop k) s = if (f.name.toList == s.toList) = true then 0 else idxK ((cores G).drop (k + 1)) s + 1 := fun k f h => idxK_step s (cores_at h)
  have he : ∀ k, m ≤ k → idxK ((cores G).drop k) s = 0 := fun k h => by rw [List.drop_eq_nil_of_le (by rw [hlen]; exact h)]; rfl
  have h0 : idxK (cores G) s = idxK ((cores G).drop 0) s := rfl
  have hR1 : ∀ k, k < m → idxK ((cores G).drop 0) s = k → posK (cores G) s = (k : Int) := fun k h g => by unfold posK; rw [h0, g, if_pos (by rw [hlen]; exact h)]
  have hR2 : idxK ((cores G).drop 0) s = m → posK (cores G) s = -1 := fun g => by unfold posK; rw [h0, g, if_neg (by rw [hlen]; omega)]
  generalize posK (cores G) s = R at *
  obtain ⟨F, hF⟩ : ∃ F : Nat → Nat, ∀ k, idxK ((cores G).drop k) s = F k := ⟨_, fun _ => rfl⟩
  simp only [hF] at hst he hR1 hR2
  clear hF h0 hlen
  have H1 := Lib.hid hG
  have Hst := Lib.hid hst
  have He := Lib.hid he
  have HR1 := Lib.hid hR1
  have HR2 := Lib.hid hR2
  clear hG hst he hR1 hR2
  go_enter Try.func32, Try.ntmps32
  go_wp2
  go_loop [5] (fun i => ∃ (k : Nat), k ≤ m ∧ i = .int .i64 k ∧ Hid (F 0 = k + F k)) (fun i => m - (intOf i).toNat)
  case atStart => exact ⟨0, by omega, rfl, Lib.hid (by omega)⟩
  case round =>
    obtain ⟨k, hk, rfl, hR⟩ := hrel
    by_cases hlt2 : k < m
    · obtain ⟨bb, o, f, rfl, hb, y1, y2, y3, hx, _⟩ := H1.out.at hlt2
      have hs1 := Hst.out k f hx
      clear hx H1 Hst
      generalize f.name = nm at *
      clear y2 y3
      cases hu : nm.toList == s.toList with
      | true =>
        have hnew : Hid (R = (k : Int)) := HR1.out k hlt2 (by rw [hR.out, hs1, if_pos hu]; rfl)
        clear hR hs1
        go_wp2
        go_ret
        exact ⟨one hnew.out.symm, rfl⟩
      | false =>
        have hnew : Hid (F 0 = k + 1 + F (k + 1)) := by
          show _ = _
          rw [hR.out, hs1, if_neg (by simp [hu])]; omega
        have hu2 : (nm.toList = s.toList) = False := by simpa using hu
        clear hR hs1
        go_wp2
        go_round
        case rel => exact ⟨k + 1, by omega, by go_num, hnew⟩
        case measure => simp [intOf]; omega
    · have hnew : Hid (R = -1) := HR2.out (by rw [hR.out, He.out k (by omega)]; omega)
      clear hR
      go_wp2
      go_ret
      exact ⟨one hnew.out.symm, rfl⟩
end Go.Proofs.Ytakcbpmdjdadnaa.Sgn
