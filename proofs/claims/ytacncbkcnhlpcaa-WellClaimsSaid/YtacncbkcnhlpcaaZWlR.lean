/-
  What is proved: the document's answers on names, sorts, functions and variables.
-/
import Derived.Test.YtacncbkcnhlpcaaWA
namespace Go.Proofs.Ytacncbkcnhlpcaa.Wl
open Go.RowKit L T C
open Sgn (knownB nmB known_or SlG Fm Core cores cores_at cores_len hasN findC FindPost idxK posK idxK_step find_no find_yes boxesF Off off_old SlS.nul below_set3)
set_option linter.unusedVariables false
set_option linter.unusedSimpArgs false
set_option maxRecDepth 100000

theorem Word13_any (s : ByteArray) (w : World) :
    Calls Try.prog 43 #[.string s] w fun e w' => e = .returned (.bool (wordB s.data.toList)) ∧ Below w.heap.size w w' := by
  have ch := Has_words s w
  generalize wordB s.data.toList = R at *
  unfold WDc WD at ch
  simp only [List.map_cons, List.map_nil, BA] at ch
  go_enter Try.func43, Try.ntmps43
  go_wp2_with (go_at_call 44; ((with_reducible refine ch.mono ?_); rintro e w1 ⟨rfl, rfl⟩))
  go_ret
  exact ⟨rfl, bel_alloc (Below.refl _ _) _⟩
theorem Name13_any (s : ByteArray) (w : World) (hs : s.size ≤ 9223372036854775807) :
    Calls Try.prog 25 #[.string s] w fun e w' => e = .returned (.bool (nmB s)) ∧ Below w.heap.size w w' := by
  have c1 := fun (w : World) => baseName_any s w hs
  have c2 := fun (w : World) => Word13_any s w
  unfold nmB
  generalize nameB s.data.toList = N at *
  generalize wordB s.data.toList = B at *
  cases N <;> cases B
  all_goals
    go_enter Try.func25, Try.ntmps25
    go_wp2_with (first
      | (go_at_call 42; ((with_reducible refine (c1 _).mono ?_); rintro e w' ⟨rfl, rfl⟩))
      | (go_at_call 43; ((with_reducible refine (c2 _).mono ?_); rintro e w1 ⟨rfl, hb1⟩)))
    go_ret
    first | exact ⟨rfl, hb1⟩ | exact ⟨rfl, Below.refl _ _⟩
set_option maxHeartbeats 2000000 in
theorem Known13_any (a : Option Addr) (n c : Nat) (S : List ByteArray) (b : Option Addr) (m d : Nat) (s : ByteArray) (w : World) (hS : IsS w a n S) (hn : n ≤ 1000000000) :
    Calls Try.prog 26 #[.agg #[.slice a n c, .slice b m d], .string s] w fun e w' => e = .returned (.bool (knownB S s)) ∧ Below w.heap.size w w' := by
  obtain ⟨W1, hW1⟩ : ∃ W1, w.alloc (.cells #[.slice a n c, .slice b m d] 25) = W1 := ⟨_, rfl⟩
  have hB1 : Below w.heap.size w W1 := by rw [← hW1]; exact bel_alloc (Below.refl _ _) _
  have F1 := Sgn.Blk.new w #[.slice a n c, .slice b m d] 25
  rw [hW1] at F1
  have f0 : W1.cell? ⟨w.heap.size, 0, none⟩ = some (.slice a n c) := Sgn.Blk.cell F1 0
  have cK := Has_any a n c S s W1 (hS.below hB1) (by omega)
  rw [known_or]
  clear F1 hS
  generalize hasS S s = K at *
  have HB1 := Lib.hid hB1
  clear hB1
  cases h1 : s.toList == [66, 111, 111, 108] <;> cases h2 : s.toList == [73, 110, 116] <;> cases K
  all_goals
    first | (have g1 : (s.toList = [66, 111, 111, 108]) = False := by simpa using h1) | (have g1 : (s.toList = [66, 111, 111, 108]) = True := by simpa using h1)
    first | (have g2 : (s.toList = [73, 110, 116]) = False := by simpa using h2) | (have g2 : (s.toList = [73, 110, 116]) = True := by simpa using h2)
    go_enter Try.func26, Try.ntmps26
    go_wp2_with (go_at_call 44; ((with_reducible refine cK.mono ?_); rintro e w2 ⟨rfl, rfl⟩))
    go_ret
    exact ⟨rfl, HB1.out⟩

set_option maxHeartbeats 2000000 in
theorem Sort13_any (s : ByteArray) (b : Option Addr) (m d : Nat) (V : List Vr) (w : World) (hG : IsV w b m V) (hm : m ≤ 1000000000) :
    Calls Try.prog 20 #[.slice b m d, .string s] w fun e w' => e = .returned (sortA V s) ∧ w' = w := by
  have hlen : V.length = m := hG.1.symm
  have hst : ∀ k (v : Vr), V[k]? = some v → sortA (V.drop k) s = if (v.1.toList == s.toList) = true then .tuple #[.string v.2, .bool true] else sortA (V.drop (k + 1)) s := fun k v h => by
    obtain ⟨hk, rfl⟩ := List.getElem?_eq_some_iff.1 h
    rw [List.drop_eq_getElem_cons hk]
    unfold sortA
    rw [sortV]
    by_cases hc : (V[k].1.toList == s.toList) = true
    · rw [if_pos hc, if_pos hc]
    · rw [if_neg hc, if_neg hc]
  have he : ∀ k, m ≤ k → sortA (V.drop k) s = .tuple #[.string ⟨#[]⟩, .bool false] := fun k h => by rw [List.drop_eq_nil_of_le (by rw [hlen]; exact h)]; rfl
  have h0 : sortA V s = sortA (V.drop 0) s := rfl
  rw [h0]
  obtain ⟨F, hF⟩ : ∃ F : Nat → Value, ∀ k, sortA (V.drop k) s = F k := ⟨_, fun _ => rfl⟩
  simp only [hF] at hst he ⊢
  clear hF h0 hlen
  have H1 := Lib.hid hG
  have Hst := Lib.hid hst
  have He := Lib.hid he
  clear hG hst he
  go_enter Try.func20, Try.ntmps20
  go_wp2
  go_loop [6] (fun i => ∃ (k : Nat), k ≤ m ∧ i = .int .i64 k ∧ Hid (F 0 = F k)) (fun i => m - (intOf i).toNat)
  case atStart => exact ⟨0, by omega, rfl, Lib.hid rfl⟩
  case round =>
    obtain ⟨k, hk, rfl, hR⟩ := hrel
    by_cases hlt2 : k < m
    · obtain ⟨bb, o, v, rfl, hb, y1, y2, hx⟩ := H1.out.at hlt2
      have hs1 := Hst.out k v hx
      clear hx H1 Hst
      obtain ⟨nm, rs⟩ := v
      simp only at hs1 y1 y2
      have hk0 : 0 ≤ (k : Int) := by omega
      have hk1 : (k : Int) < (m : Int) := by omega
      cases hu : nm.toList == s.toList with
      | true =>
        have hnew : Hid (F 0 = .tuple #[.string rs, .bool true]) := by show _ = _; rw [hR.out, hs1, if_pos hu]
        have hu2 : (nm.toList = s.toList) = True := by simpa using hu
        clear hR hs1
        go_wp2
        simp [bodyPost, results, Try.results20, go_sem]
        exact hnew.out.symm
      | false =>
        have hnew : Hid (F 0 = F (k + 1)) := by
          show _ = _
          rw [hR.out, hs1, if_neg (by simp [hu])]
        have hu2 : (nm.toList = s.toList) = False := by simpa using hu
        clear hR hs1
        go_wp2
        go_round
        case rel => exact ⟨k + 1, by omega, by go_num, hnew⟩
        case measure => simp [intOf]; omega
    · have hnew : Hid (F 0 = .tuple #[.string ⟨#[]⟩, .bool false]) := by show _ = _; rw [hR.out, He.out k (by omega)]
      clear hR
      go_wp2
      simp [bodyPost, results, Try.results20, go_sem]
      exact hnew.out.symm

set_option maxHeartbeats 4000000 in
theorem Find13_any (a : Option Addr) (n c : Nat) (b : Option Addr) (m d : Nat) (G : List Fm) (s : ByteArray) (w : World) (hG : SlG w b m d G) (hm : m ≤ 1000000) :
    Calls Try.prog 24 #[.agg #[.slice a n c, .slice b m d], .string s] w (FindPost (cores G) s w) := by
  obtain ⟨W2, hW2, hB2, S2, F2⟩ := boxesF w a n c b m d
  have hlen : (cores G).length = m := by rw [cores_len]; exact hG.1.1.symm
  have hst : ∀ k (f : Fm), G[k]? = some f → idxK ((cores G).drop k) s = if (f.name.toList == s.toList) = true then 0 else idxK ((cores G).drop (k + 1)) s + 1 := fun k f h => idxK_step s (cores_at h)
  have he : ∀ k, m ≤ k → idxK ((cores G).drop k) s = 0 := fun k h => by rw [List.drop_eq_nil_of_le (by rw [hlen]; exact h)]; rfl
  have hR1 : ∀ (k : Nat) (f : Fm), G[k]? = some f → idxK ((cores G).drop 0) s = k → ∀ f2 : Fm, f2.core = f.core → ∀ w', f2.ok w' → Below w.heap.size w w' → FindPost (cores G) s w (.returned (.tuple #[.agg #[.string f2.name, .slice f2.a f2.m f2.c, .string f2.res], .bool true])) w' := fun k f hf hk f2 h2 w' hok hb => by
    have hk2 : idxK (cores G) s = k := hk
    have hkl : k < (cores G).length := by rw [cores_len]; exact (List.getElem?_eq_some_iff.1 hf).1
    have hp : ¬ posK (cores G) s < 0 := by unfold posK; rw [hk2, if_pos hkl]; omega
    obtain ⟨k3, e3, _, h3, h4⟩ := find_yes hp
    have : findC (cores G) s = f.core := by unfold findC; rw [hk2, cores_at hf]; rfl
    exact ⟨f2, by rw [h4], hok, by rw [h2, this], hb⟩
  have hR2 : idxK ((cores G).drop 0) s = m → ∀ w', Below w.heap.size w w' → FindPost (cores G) s w (.returned (.tuple #[.agg #[.string ⟨#[]⟩, .slice none 0 0, .string ⟨#[]⟩], .bool false])) w' := fun g w' hb => by
    have g2 : idxK (cores G) s = m := g
    obtain ⟨h1, h2⟩ := find_no (K := cores G) (s := s) (by unfold posK; rw [g2, if_neg (by rw [hlen]; omega)]; omega)
    exact ⟨⟨⟨#[]⟩, none, 0, 0, [], ⟨#[]⟩⟩, by rw [h2], SlS.nul _, by rw [h1]; rfl, hb⟩
  obtain ⟨F, hF⟩ : ∃ F : Nat → Nat, ∀ k, idxK ((cores G).drop k) s = F k := ⟨_, fun _ => rfl⟩
  simp only [hF] at hst he hR1 hR2
  generalize FindPost (cores G) s w = PP at *
  clear hF hlen
  obtain ⟨s0, s1⟩ := S2.two
  obtain ⟨f0, f1, f2⟩ := F2.three
  obtain ⟨q0, q1, q2⟩ := F2.free
  have H1 := Lib.hid (hG.below hB2).1
  have Hst := Lib.hid hst
  have He := Lib.hid he
  have HR1 := Lib.hid hR1
  have HR2 := Lib.hid hR2
  clear hst he hR1 hR2
  go_enter Try.func24, Try.ntmps24
  go_wp2
  go_loop [6] (fun i => ∃ (k : Nat), k ≤ m ∧ i = .int .i64 k ∧ Hid (F 0 = k + F k)) (fun i => m - (intOf i).toNat)
  case atStart => exact ⟨0, by omega, rfl, Lib.hid (by omega)⟩
  case round =>
    obtain ⟨k, hk, rfl, hR⟩ := hrel
    by_cases hlt2 : k < m
    · obtain ⟨bb, o, f, rfl, hb, y1, y2, y3, hx, hok⟩ := H1.out.at hlt2
      have hs1 := Hst.out k f hx
      have hk0 : 0 ≤ (k : Int) := by omega
      have hk1 : (k : Int) < (m : Int) := by omega
      cases hu : f.name.toList == s.toList with
      | true =>
        have hw : f ∈ G := List.mem_of_getElem? hx
        have hok7 : f.ok _ := Sgn.SlS.far3 hok (Sgn.off_old (hG.1.2.2 f hw) (Nat.le_succ _)) (.string f.name) (.slice f.a f.m f.c) (.string f.res)
        have hfin := below_set3 hB2 (Nat.le_succ w.heap.size) (.string f.name) (.slice f.a f.m f.c) (.string f.res)
        have HE := Lib.hid (HR1.out k f hx (by rw [hR.out, hs1, if_pos hu]; rfl) f rfl _ hok7 hfin)
        have hu2 : (f.name.toList = s.toList) = True := by simpa using hu
        have e1 := F2.put f.name f.a f.m f.c f.res
        obtain ⟨x0, x1, x2⟩ := e1.three
        clear hR hs1 H1 Hst HR1 HR2 He hok7 hfin hok hx hw hG
        go_wp2
        simp [bodyPost, results, Try.results24, go_sem, x0, x1, x2]
        exact HE.out
      | false =>
        have hnew : Hid (F 0 = k + 1 + F (k + 1)) := by
          show _ = _
          rw [hR.out, hs1, if_neg (by simp [hu])]; omega
        have hu2 : (f.name.toList = s.toList) = False := by simpa using hu
        clear hR hs1 H1 Hst HR1 HR2 He hok hx hG
        generalize f.name = nm at *
        clear y2 y3
        go_wp2
        go_round
        case rel => exact ⟨k + 1, by omega, by go_num, hnew⟩
        case measure => simp [intOf]; omega
    · have hfin := below_set3 hB2 (Nat.le_succ w.heap.size) (.string ⟨#[]⟩) (.slice none 0 0) (.string ⟨#[]⟩)
      have HE := Lib.hid (HR2.out (by rw [hR.out, He.out k (by omega)]; omega) _ hfin)
      have e1 := F2.put ⟨#[]⟩ none 0 0 ⟨#[]⟩
      obtain ⟨x0, x1, x2⟩ := e1.three
      clear hR H1 Hst HR1 HR2 He hfin hG
      go_wp2
      simp [bodyPost, results, Try.results24, go_sem, x0, x1, x2]
      exact HE.out
end Go.Proofs.Ytacncbkcnhlpcaa.Wl
