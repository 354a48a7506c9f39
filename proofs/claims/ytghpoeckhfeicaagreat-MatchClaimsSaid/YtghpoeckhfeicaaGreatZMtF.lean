/-
  What is proved: package match's pairs: what stands for each name, by rising names, in new memory.
-/
import Derived.Test.YtghpoeckhfeicaaGreatMD
import Derived.Test.YtghpoeckhfeicaaGreatZIter
import Derived.Test.YtghpoeckhfeicaaGreatZLibSt
namespace Go.Proofs.YtghpoeckhfeicaaGreat.Mt
open Go.RowKit Go.Maps L T C B U
set_option linter.unusedVariables false
set_option linter.unusedSimpArgs false

theorem getU_nm : ∀ {l : List Pr} {s : ByteArray} {u : Tm}, getU l s = some u → ∃ p ∈ l, p.nm = s
  | [], s, u, h => by simp [getU] at h
  | p :: l, s, u, h => by
    rw [getU] at h
    by_cases e : (p.nm.toList == s.toList) = true
    · exact ⟨p, List.mem_cons_self, nm_eq.1 e⟩
    · rw [if_neg e] at h
      obtain ⟨q, hq, h2⟩ := getU_nm h
      exact ⟨q, List.mem_cons_of_mem _ hq, h2⟩
theorem getU_in {X : List Pr} {s : ByteArray} : (∃ x ∈ X, x.nm = s) → getU X s ≠ none := by
  induction X with
  | nil => rintro ⟨x, hx, _⟩; cases hx
  | cons p X ih =>
    rintro ⟨x, hx, he⟩
    rw [getU]
    by_cases h : (p.nm.toList == s.toList) = true
    · rw [if_pos h]; simp
    · rw [if_neg h]
      refine ih ⟨x, ?_, he⟩
      rcases List.mem_cons.1 hx with rfl | hx
      · exact absurd (nm_eq.2 he) h
      · exact hx
theorem raw_mem {X : List ByteArray} {s : ByteArray} : s.data.toList ∈ rawS X ↔ s ∈ X := by
  unfold rawS
  rw [List.mem_map]
  constructor
  · rintro ⟨y, hy, e⟩
    have : y = s := ByteArray.ext (Array.toList_inj.1 e)
    exact this ▸ hy
  · intro h; exact ⟨s, h, rfl⟩
theorem raw_sorted {l : List Pr} (hp : l.Pairwise (fun p q => cmpN p.nm q.nm < 0)) : (rawS (l.map Pr.nm)).Pairwise (fun x y => cmpB x y < 0) := by
  unfold rawS
  rw [List.map_map, List.pairwise_map]
  exact hp.imp (fun {a b} h => by unfold cmpN at h; rw [ByteArray.toList_eq, ByteArray.toList_eq] at h; exact h)
theorem MapM.keys {B : Nat} {w : World} {g : Nat} {l : List Pr} (h : MapM B w g l) (hp : l.Pairwise (fun p q => cmpN p.nm q.nm < 0)) :
    ∃ nn D, w.ownsMap Tryz.prog 9 RV g nn D ∧ Maps.size D ≤ l.length ∧ (rawS (l.map Pr.nm)).Perm (strKeys D) := by
  obtain ⟨n, D, ho, hD, hn, hs⟩ := h
  refine ⟨n, D, ho, Nat.le_trans ho.size_le hn, Collected.perm (left := fun _ => false) ⟨?_, fun x => ?_⟩ ho lawS Tryz.underlying9 (fun _ => rfl)⟩
  · refine (raw_sorted hp).imp (fun {a b} h e => ?_)
    subst e
    have := (linB.eq a a).2 rfl
    omega
  · have hx : (⟨x.toArray⟩ : ByteArray).data.toList = x := by simp
    rw [← hx, raw_mem, List.mem_map]
    cases hg : getU l ⟨x.toArray⟩ with
    | none =>
      have hf := has_false_of_atKey ((hs ⟨x.toArray⟩).1 hg)
      constructor
      · rintro ⟨p, hp1, hp2⟩
        exact absurd hg (getU_in ⟨p, hp1, hp2⟩)
      · rintro ⟨h1, _⟩
        rw [hf] at h1; cases h1
    | some t =>
      obtain ⟨a, m, c, e1, _⟩ := (hs ⟨x.toArray⟩).2 t hg
      have ht := has_true_of_atKey e1
      exact ⟨fun _ => ⟨ht, rfl⟩, fun _ => by obtain ⟨p, h1, h2⟩ := getU_nm hg; exact ⟨p, h1, h2⟩⟩
theorem raw_merge {l : List Pr} (hp : l.Pairwise (fun p q => cmpN p.nm q.nm < 0)) {ss : List (List UInt8)} {D : DataW Value} (h1 : ss.Perm (strKeys D)) (h2 : (rawS (l.map Pr.nm)).Perm (strKeys D)) :
    ss.mergeSort (fun x y => decide (x ≤ y)) = rawS (l.map Pr.nm) ∧ ss.length = l.length := by
  have hpm := h1.trans h2.symm
  refine ⟨(mergeSort_of_perm hpm).trans (List.mergeSort_of_pairwise ((raw_sorted hp).imp (fun {a b} h => ?_))), ?_⟩
  · rw [decide_eq_true_eq, le_cmp]; omega
  · rw [hpm.length_eq, raw_len, List.length_map]
set_option maxRecDepth 100000 in
set_option maxHeartbeats 4000000 in
theorem pairs_any (l : List Pr) (hp : l.Pairwise (fun p q => cmpN p.nm q.nm < 0)) (hsz : ∀ p ∈ l, size p.t ≤ 1000000 ∧ p.nm.size ≤ maxLen) (B g : Nat) (w : World) (hl : l.length ≤ 1000000) (hM : MapM B w g l) (hBw : B ≤ w.heap.size) :
    Calls Tryz.prog 46 #[.map (some g)] w fun e w' => ∃ A C, e = .returned (.slice A l.length C) ∧ UsW w' A l.length C l ∧ Below w.heap.size w w' := by
  obtain ⟨W1, hW1⟩ : ∃ W1, w.alloc (.cells #[.map (some g)] 69) = W1 := ⟨_, rfl⟩
  have hb1 : Below w.heap.size w W1 := by rw [← hW1]; exact bel_alloc (Below.refl _ _) _
  have K1 : Blk W1 w.heap.size #[.map (some g)] 69 := by rw [← hW1]; exact Blk.new w _ _
  have hM1 := hM.b hBw hb1
  obtain ⟨nn, D, hown, hsD, hperm⟩ := hM1.keys hp
  have cK := callsIn_wide.1 (Tryz.maps_Keys_84 (some g) W1)
  have cS := callsIn_wide.1 (Tryz.slices_Sorted_keys_83_84 g nn D RV W1 hown (by unfold maxLen; omega) (by omega))
  have hb2 : Below W1.heap.size W1 (W1.alloc (.cells #[.map (some g)] 69)) := bel_alloc (Below.refl _ _) _
  have HMp := Lib.hid (show ∀ (A : Option Addr) (C : Nat) (w' : World), Below W1.heap.size W1 w' → IsS w' A l.length (l.map Pr.nm) → _ from fun A C w' h hS => mappedM_any l hsz hp A l.length C B g w.heap.size w' hl hS (hM1.b (Nat.le_trans hBw hb1.size) h) (Blk.below K1 h) (Nat.le_trans (Nat.le_trans hBw hb1.size) h.size))
  have HPm := Lib.hid (show ∀ ss : List (List UInt8), ss.Perm (strKeys D) → _ from fun ss h => raw_merge hp h hperm)
  have k0 := Blk.cell K1 0
  have HK := Lib.hid K1
  clear hM hM1 hown hsD hperm hp hsz K1
  generalize hN : l.length = N at *
  go_enter Tryz.func46, Tryz.ntmps46
  go_wp2_with (first
    | (go_at_call 84; ((with_reducible refine cK.mono ?_); rintro e w2 ⟨rfl, rfl⟩))
    | (go_at_call 83; ((with_reducible refine cS.mono ?_); rintro e w3 ⟨v, ss, rfl, hpm, hrow, -, hb3⟩; obtain ⟨hms, hsl⟩ := HPm.out ss hpm; have ho3 : OwnS w3 (W1.alloc (.cells #[.map (some g)] 69)).heap.size v (l.map Pr.nm) := (by unfold OwnS; rw [List.length_map, hN, vs_raw, ← hsl, ← hms]; exact hrow); obtain ⟨A3, C3, hv3, hS3⟩ := ho3.slS; rw [List.length_map, hN] at hv3 hS3; have HS3 := Lib.hid hS3; have B3 := bel_trans hb2 hb3; have cM := HMp.out A3 C3 w3 B3 HS3.out.1; clear hpm hrow hms hsl ho3 hS3; subst hv3))
    | (go_at_call 82; ((with_reducible refine cM.mono ?_); rintro e w4 ⟨A4, C4, rfl, ho4, -, hb4⟩; have HO4 := Lib.hid ho4; clear ho4)))
  go_ret
  exact ⟨_, _, rfl, HO4.out.us, bel_trans hb1 (bel_trans B3 hb4)⟩
end Go.Proofs.YtghpoeckhfeicaaGreat.Mt
