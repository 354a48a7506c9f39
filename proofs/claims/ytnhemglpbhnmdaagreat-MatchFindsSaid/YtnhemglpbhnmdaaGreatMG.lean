/-
  What is proved: package match's pairs: what stands for each name, by rising names, in new memory.
  What is proved: package match's More and Term.
  What is proved: package match's Term, and the document's More of layer 11.
-/
import Derived.Test.YtnhemglpbhnmdaaGreatMD
import Derived.Test.YtnhemglpbhnmdaaGreatZIter
import Derived.Test.YtnhemglpbhnmdaaGreatZLibSt
import Derived.Test.YtnhemglpbhnmdaaGreatZSbD
import Derived.Test.YtnhemglpbhnmdaaGreatZSbMb
import Derived.Deep.RegionHeld3
namespace Go.Proofs.YtnhemglpbhnmdaaGreat.Mt
open Go.RowKit Go.Maps L T C B U
set_option linter.unusedVariables false
set_option linter.unusedSimpArgs false

theorem getU_nm : ∀ {l : List Pr} {s : ByteArray} {u : Tm}, getU l s = some u → ∃ p ∈ l, p.nm = s
  | [], s, u, h => by simp [getU] at h
  | p :: l, s, u, h => by
    rw [getU] at h
    by_cases e : (p.nm.toList == s.toList) = true
    · exact ⟨p, List.mem_cons_self, nm_eq.1 e⟩
    · rw [if_neg e] at h
      obtain ⟨q, hq, h2⟩ := getU_nm h
      exact ⟨q, List.mem_cons_of_mem _ hq, h2⟩
theorem getU_in {X : List Pr} {s : ByteArray} : (∃ x ∈ X, x.nm = s) → getU X s ≠ none := by
  induction X with
  | nil => rintro ⟨x, hx, _⟩; cases hx
  | cons p X ih =>
    rintro ⟨x, hx, he⟩
    rw [getU]
    by_cases h : (p.nm.toList == s.toList) = true
    · rw [if_pos h]; simp
    · rw [if_neg h]
      refine ih ⟨x, ?_, he⟩
      rcases List.mem_cons.1 hx with rfl | hx
      · exact absurd (nm_eq.2 he) h
      · exact hx
theorem raw_mem {X : List ByteArray} {s : ByteArray} : s.data.toList ∈ rawS X ↔ s ∈ X := by
  unfold rawS
  rw [List.mem_map]
  constructor
  · rintro ⟨y, hy, e⟩
    have : y = s := ByteArray.ext (Array.toList_inj.1 e)
    exact this ▸ hy
  · intro h; exact ⟨s, h, rfl⟩
theorem raw_sorted {l : List Pr} (hp : l.Pairwise (fun p q => cmpN p.nm q.nm < 0)) : (rawS (l.map Pr.nm)).Pairwise (fun x y => cmpB x y < 0) := by
  unfold rawS
  rw [List.map_map, List.pairwise_map]
  exact hp.imp (fun {a b} h => by unfold cmpN at h; rw [ByteArray.toList_eq, ByteArray.toList_eq] at h; exact h)
theorem MapM.keys {B : Nat} {w : World} {g : Nat} {l : List Pr} (h : MapM B w g l) (hp : l.Pairwise (fun p q => cmpN p.nm q.nm < 0)) :
    ∃ nn D, w.ownsMap Tryz.prog 9 RV g nn D ∧ Maps.size D ≤ l.length ∧ (rawS (l.map Pr.nm)).Perm (strKeys D) := by
  obtain ⟨n, D, ho, hD, hn, hs⟩ := h
  refine ⟨n, D, ho, Nat.le_trans ho.size_le hn, Collected.perm (left := fun _ => false) ⟨?_, fun x => ?_⟩ ho lawS Tryz.underlying9 (fun _ => rfl)⟩
  · refine (raw_sorted hp).imp (fun {a b} h e => ?_)
    subst e
    have := (linB.eq a a).2 rfl
    omega
  · have hx : (⟨x.toArray⟩ : ByteArray).data.toList = x := by simp
    rw [← hx, raw_mem, List.mem_map]
    cases hg : getU l ⟨x.toArray⟩ with
    | none =>
      have hf := has_false_of_atKey ((hs ⟨x.toArray⟩).1 hg)
      constructor
      · rintro ⟨p, hp1, hp2⟩
        exact absurd hg (getU_in ⟨p, hp1, hp2⟩)
      · rintro ⟨h1, _⟩
        rw [hf] at h1; cases h1
    | some t =>
      obtain ⟨a, m, c, e1, _⟩ := (hs ⟨x.toArray⟩).2 t hg
      have ht := has_true_of_atKey e1
      exact ⟨fun _ => ⟨ht, rfl⟩, fun _ => by obtain ⟨p, h1, h2⟩ := getU_nm hg; exact ⟨p, h1, h2⟩⟩
theorem raw_merge {l : List Pr} (hp : l.Pairwise (fun p q => cmpN p.nm q.nm < 0)) {ss : List (List UInt8)} {D : DataW Value} (h1 : ss.Perm (strKeys D)) (h2 : (rawS (l.map Pr.nm)).Perm (strKeys D)) :
    ss.mergeSort (fun x y => decide (x ≤ y)) = rawS (l.map Pr.nm) ∧ ss.length = l.length := by
  have hpm := h1.trans h2.symm
  refine ⟨(mergeSort_of_perm hpm).trans (List.mergeSort_of_pairwise ((raw_sorted hp).imp (fun {a b} h => ?_))), ?_⟩
  · rw [decide_eq_true_eq, le_cmp]; omega
  · rw [hpm.length_eq, raw_len, List.length_map]
set_option maxRecDepth 100000 in
set_option maxHeartbeats 4000000 in
theorem pairs_any (l : List Pr) (hp : l.Pairwise (fun p q => cmpN p.nm q.nm < 0)) (hsz : ∀ p ∈ l, size p.t ≤ 1000000 ∧ p.nm.size ≤ maxLen) (B g : Nat) (w : World) (hl : l.length ≤ 1000000) (hM : MapM B w g l) (hBw : B ≤ w.heap.size) :
    Calls Tryz.prog 44 #[.map (some g)] w fun e w' => ∃ A C, e = .returned (.slice A l.length C) ∧ UsW w' A l.length C l ∧ Below w.heap.size w w' := by
  obtain ⟨W1, hW1⟩ : ∃ W1, w.alloc (.cells #[.map (some g)] 68) = W1 := ⟨_, rfl⟩
  have hb1 : Below w.heap.size w W1 := by rw [← hW1]; exact bel_alloc (Below.refl _ _) _
  have K1 : Blk W1 w.heap.size #[.map (some g)] 68 := by rw [← hW1]; exact Blk.new w _ _
  have hM1 := hM.b hBw hb1
  obtain ⟨nn, D, hown, hsD, hperm⟩ := hM1.keys hp
  have cK := callsIn_wide.1 (Tryz.maps_Keys_80 (some g) W1)
  have cS := callsIn_wide.1 (Tryz.slices_Sorted_keys_79_80 g nn D RV W1 hown (by unfold maxLen; omega) (by omega))
  have hb2 : Below W1.heap.size W1 (W1.alloc (.cells #[.map (some g)] 68)) := bel_alloc (Below.refl _ _) _
  have HMp := Lib.hid (show ∀ (A : Option Addr) (C : Nat) (w' : World), Below W1.heap.size W1 w' → IsS w' A l.length (l.map Pr.nm) → _ from fun A C w' h hS => mappedM_any l hsz hp A l.length C B g w.heap.size w' hl hS (hM1.b (Nat.le_trans hBw hb1.size) h) (Blk.below K1 h) (Nat.le_trans (Nat.le_trans hBw hb1.size) h.size))
  have HPm := Lib.hid (show ∀ ss : List (List UInt8), ss.Perm (strKeys D) → _ from fun ss h => raw_merge hp h hperm)
  have k0 := Blk.cell K1 0
  have HK := Lib.hid K1
  clear hM hM1 hown hsD hperm hp hsz K1
  generalize hN : l.length = N at *
  go_enter Tryz.func44, Tryz.ntmps44
  go_wp2_with (first
    | (go_at_call 80; ((with_reducible refine cK.mono ?_); rintro e w2 ⟨rfl, rfl⟩))
    | (go_at_call 79; ((with_reducible refine cS.mono ?_); rintro e w3 ⟨v, ss, rfl, hpm, hrow, -, hb3⟩; obtain ⟨hms, hsl⟩ := HPm.out ss hpm; have ho3 : OwnS w3 (W1.alloc (.cells #[.map (some g)] 68)).heap.size v (l.map Pr.nm) := (by unfold OwnS; rw [List.length_map, hN, vs_raw, ← hsl, ← hms]; exact hrow); obtain ⟨A3, C3, hv3, hS3⟩ := ho3.slS; rw [List.length_map, hN] at hv3 hS3; have HS3 := Lib.hid hS3; have B3 := bel_trans hb2 hb3; have cM := HMp.out A3 C3 w3 B3 HS3.out.1; clear hpm hrow hms hsl ho3 hS3; subst hv3))
    | (go_at_call 78; ((with_reducible refine cM.mono ?_); rintro e w4 ⟨A4, C4, rfl, ho4, -, hb4⟩; have HO4 := Lib.hid ho4; clear ho4)))
  go_ret
  exact ⟨_, _, rfl, HO4.out.us, bel_trans hb1 (bel_trans B3 hb4)⟩
end Go.Proofs.YtnhemglpbhnmdaaGreat.Mt
namespace Go.Proofs.YtnhemglpbhnmdaaGreat.Mt
open Go.RowKit L T C B U
set_option linter.unusedVariables false
set_option linter.unusedSimpArgs false

def good (K : Nat) (l : List Pr) : Prop := rises l ∧ ∀ q ∈ l, size q.t ≤ K ∧ q.nm.size ≤ maxLen
mutual
theorem mat_good (K : Nat) (X : List ByteArray) : ∀ (p : Tm) (l : List Pr) (t : Tm) (l' : List Pr), mat X p l t = some l' → smT p → size t ≤ K → good K l → good K l'
  | .mk o s z xs, l, t, l', h, hs, ht, hg => by
    rw [smT] at hs
    rw [mat] at h
    split at h
    · split at h
      · split at h
        · injection h with h; subst h; exact hg
        · cases h
      · rename_i hn
        split at h
        · injection h with h; subst h
          exact ⟨putL_rises hn hg.1, fun q hq => by
            rcases putL_mem.1 hq with rfl | hq
            · exact ⟨ht, hs.1⟩
            · exact hg.2 q hq⟩
        · cases h
    · split at h
      · have hz : size t = 1 + sizes (argsT t) := by cases t; rw [size]; rfl
        exact mats_good K X xs l (argsT t) l' h hs.2 (by omega) hg
      · cases h
theorem mats_good (K : Nat) (X : List ByteArray) : ∀ (xs : List Tm) (l : List Pr) (us : List Tm) (l' : List Pr), mats X xs l us = some l' → smTs xs → sizes us ≤ K → good K l → good K l'
  | [], l, us, l', h, _, _, hg => by rw [mats] at h; injection h with h; subst h; exact hg
  | x :: xs, l, [], l', h, _, _, _ => by rw [mats] at h; cases h
  | x :: xs, l, u :: us, l', h, hs, ht, hg => by
    rw [mats] at h
    rw [smTs] at hs
    rw [sizes] at ht
    split at h
    · cases h
    · rename_i l1 h1
      exact mats_good K X xs l1 us l' h hs.2 (by omega) (mat_good K X x l u l1 h1 hs.1 (by omega) hg)
end
theorem rg_chain : ∀ (l : List Pr) (p : Pr), rgU (some p.nm) l = 0 → rises (p :: l)
  | [], p, _ => trivial
  | q :: l, p, h => by
    rw [rgU] at h
    by_cases h1 : rightE q.t ≠ 0
    · rw [if_pos h1] at h; exact absurd h h1
    · rw [if_neg h1] at h
      by_cases h2 : badN (some p.nm) q.nm = true
      · rw [if_pos h2] at h; cases h
      · rw [if_neg h2] at h
        refine ⟨?_, rg_chain l q h⟩
        unfold badN at h2
        have h3 : cmpN q.nm p.nm = 1 := by simpa using h2
        have := linN.anti p.nm q.nm
        omega
theorem rg_rises {l : List Pr} (h : rgU none l = 0) : rises l := by
  cases l with
  | nil => trivial
  | cons p l =>
    rw [rgU] at h
    by_cases h1 : rightE p.t ≠ 0
    · rw [if_pos h1] at h; exact absurd h h1
    · rw [if_neg h1, if_neg (by simp [badN])] at h
      exact rg_chain l p h
theorem get_take {l : List Pr} (hp : l.Pairwise (fun p q => cmpN p.nm q.nm < 0)) {k : Nat} {p : Pr} (h : l[k]? = some p) (s : ByteArray) : getU (l.take (k + 1)) s = getU (p :: l.take k) s := by
  have ht : l.take (k + 1) = l.take k ++ [p] := by rw [List.take_add_one, h]; rfl
  rw [ht, getU_app, getU]
  have hn : ∀ q ∈ l.take k, q.nm ≠ p.nm := fun q hq e => by
    have hp2 : (l.take k ++ [p]).Pairwise (fun p q => cmpN p.nm q.nm < 0) := by rw [← ht]; exact hp.sublist (List.take_sublist _ _)
    have := (List.pairwise_append.1 hp2).2.2 q hq p (by simp)
    rw [e] at this
    exact cmpN_self _ this
  by_cases e : (p.nm.toList == s.toList) = true
  · rw [if_pos e]
    cases hg : getU (l.take k) s with
    | none => rw [getU, if_pos e]
    | some u =>
      obtain ⟨q, hq, h2⟩ := getU_nm hg
      exact absurd (h2.trans (nm_eq.1 e).symm) (hn q hq)
  · rw [if_neg e]
    have e2 : getU (p :: l.take k) s = getU (l.take k) s := by rw [getU, if_neg e]
    rw [e2]
    cases hg : getU (l.take k) s with
    | none => first | rfl | (rw [getU]; rfl) | (simp [getU])
    | some u => rfl
/-- what More finds -/
def moreF (X : List ByteArray) (l : List Pr) (p t : Tm) : Option (List Pr) := if rgU none l = 0 then mat X p l t else none
/-- a list of pairs is returned, or that there is none -/
def RtPs (r : Option (List Pr)) (w : World) (e : Ending) (w' : World) : Prop := ∃ A N C, e = .returned (.tuple #[.slice A N C, .bool r.isSome]) ∧ UsW w' A N C (r.getD []) ∧ Below w.heap.size w w'
theorem matcher_clo (B : Nat) (X : List ByteArray) (g gs : Nat) (w : World) (hS : SetM w gs X) (hne : gs ≠ g) (hg : g < w.heap.size) (hB : B ≤ g) :
    Calls Tryz.prog 42 #[.map (some g), .map (some gs)] w fun e w' => e = .returned (.func (.func 75) #[] #[.pointer (some ⟨w.heap.size + 1, 0, none⟩), .pointer (some ⟨w.heap.size + 2, 0, none⟩), .pointer (some ⟨w.heap.size, 0, none⟩)]) ∧ Ctx B X (w.heap.size + 1) (w.heap.size + 2) w.heap.size gs g w' ∧ Below w.heap.size w w' := matcher_any B X g gs w hS hne hg hB
set_option maxRecDepth 100000 in
set_option maxHeartbeats 16000000 in
theorem More_any (X : List ByteArray) (l : List Pr) (p t : Tm) (A : Option Addr) (n c : Nat) (ap : Option Addr) (np cp : Nat) (aT : Option Addr) (nt ct : Nat) (aX : Option Addr) (nX cX : Nat) (w : World)
    (hU : UsW w A n c l) (hlz : ∀ q ∈ l, size q.t ≤ 4096 ∧ q.nm.size ≤ maxLen) (hn : n ≤ 1000) (hP : ArW w p ap np cp) (hsp : smT p) (hzp : size p ≤ 4096) (hT : ArW w t aT nt ct) (hzt : size t ≤ 4096) (hX : IsS w aX nX X) (hnX : nX ≤ 1000000) (hsX : ∀ x ∈ X, x.size ≤ maxLen) :
    Calls Tryz.prog 27 #[.slice A n c, .agg #[.int .i64 (opT p), .string (nameT p), .int .i64 (numT p), .slice ap np cp], .agg #[.int .i64 (opT t), .string (nameT t), .int .i64 (numT t), .slice aT nt ct], .slice aX nX cX] w fun e w' => RtPs (moreF X l p t) w e w' := by
  obtain ⟨W2, hW2, hB2, hs2, S2, T2⟩ := box2 w (opT p) (nameT p) (numT p) ap np cp (opT t) (nameT t) (numT t) aT nt ct
  have hln : n = l.length := hU.1
  have cR := RightU_few l (fun q hq => (hlz q hq).1) A n c W2 (UsW.b hU hB2)
  have hmm := @run_makeMap Tryz.prog
  have HS := Lib.hid S2
  have HT2 := Lib.hid T2
  have hlen : n ≤ 9223372036854775807 := by omega
  by_cases hr : rgU none l = 0
  · rw [hr] at cR
    have hmf : moreF X l p t = mat X p l t := by unfold moreF; rw [if_pos hr]
    have hris := rg_rises hr
    have hpw := rises_pair hris
    have HGood := Lib.hid (show ∀ l', mat X p l t = some l' → good 4096 l' ∧ l'.length ≤ 10000 from fun l' h => ⟨mat_good 4096 X p l t l' h hsp hzt ⟨hris, hlz⟩, by have := mat_len X p l t l' h; omega⟩)
    have HU := Lib.hid (UsW.b hU hB2)
    have HK := Lib.hid (show ∀ k q, l[k]? = some q → q.nm.size ≤ maxLen ∧ ∀ s, getU (l.take (k + 1)) s = getU (q :: l.take k) s from fun k q h => ⟨(hlz q (List.mem_of_getElem? h)).2, get_take hpw h⟩)
    have HEnd := Lib.hid (show l.take n = l from List.take_of_length_le (by omega))
    have HSet := Lib.hid (show ∀ w', Below w.heap.size w w' → _ from fun w' h => setOf_any X aX nX cX w' (hX.below h) hnX hsX)
    have HPp := Lib.hid hP
    have HTt := Lib.hid hT
    have HSm := Lib.hid hsp
    have HLn := Lib.hid hln
    have HQ := Lib.hid (show ∀ (w' : World), Below W2.heap.size W2 w' → (w'.cell? ⟨w.heap.size, 0, none⟩ = some (.int .i64 (opT p)) ∧ w'.cell? ⟨w.heap.size, 1, none⟩ = some (.string (nameT p)) ∧ w'.cell? ⟨w.heap.size, 2, none⟩ = some (.int .i64 (numT p)) ∧ w'.cell? ⟨w.heap.size, 3, none⟩ = some (.slice ap np cp) ∧ w'.cell? ⟨w.heap.size + 1, 0, none⟩ = some (.int .i64 (opT t)) ∧ w'.cell? ⟨w.heap.size + 1, 1, none⟩ = some (.string (nameT t)) ∧ w'.cell? ⟨w.heap.size + 1, 2, none⟩ = some (.int .i64 (numT t)) ∧ w'.cell? ⟨w.heap.size + 1, 3, none⟩ = some (.slice aT nt ct)) from fun w' h => (by
      obtain ⟨q0, q1, q2, q3⟩ := (TBox.b HS.out h).four
      obtain ⟨r0, r1, r2, r3⟩ := (TBox.b HT2.out h).four
      exact ⟨q0, q1, q2, q3, r0, r1, r2, r3⟩))
    have HMa := Lib.hid (show ∀ (B bv bm bo gs g : Nat) (W : World), Below W2.heap.size W2 W → W2.heap.size ≤ B → Ctx B X bv bm bo gs g W → MapM B W g l → _ from fun B bv bm bo gs g W hb hB hC hM => match_any X p B bv bm bo gs g l t ap np cp aT nt ct W hC hM (by omega) hsp hzt (Ar.mono hB _ (Ar.bel (hb.mono (Nat.le_refl _)) _ (ArW.b hP hB2))) (Ar.mono hB _ (Ar.bel (hb.mono (Nat.le_refl _)) _ (ArW.b hT hB2))))
    have HPr := Lib.hid (show ∀ (l' : List Pr) (B g : Nat) (W : World), mat X p l t = some l' → MapM B W g l' → B ≤ W.heap.size → _ from fun l' B g W h hM hB => pairs_any l' (rises_pair (HGood.out l' h).1.1) (fun q hq => ⟨by have := ((HGood.out l' h).1.2 q hq).1; omega, ((HGood.out l' h).1.2 q hq).2⟩) B g W (by have := (HGood.out l' h).2; omega) hM hB)
    have hBd : Below W2.heap.size W2 W2 := Below.refl _ _
    rw [hmf]
    clear hU hlz hP hT hX S2 T2 hs2 hsp hmf hr hris hpw hln hsX
    unfold RtM at HMa
    generalize mat X p l t = R at *
    generalize opT p = op at *
    generalize nameT p = mp at *
    generalize numT p = zp at *
    generalize opT t = ot at *
    generalize nameT t = mt at *
    generalize numT t = zt at *
    go_enter Tryz.func27, Tryz.ntmps27
    go_wp2_with (go_at_call 20; ((with_reducible refine cR.mono ?_); rintro e w4 ⟨rfl, hb4⟩; have HM4 := Lib.hid (MapM.made w4.heap.size w4); have hB4 : Below w4.heap.size w4 (w4.alloc (.map #[] 0)) := bel_alloc (Below.refl _ _) _))
    go_loopw [19] (fun i wr0 => ∃ (wr : World) (k : Nat), wr = wr0 ∧ k ≤ n ∧ i = .int .i64 k ∧ Below w4.heap.size w4 wr ∧ Hid (MapM w4.heap.size wr w4.heap.size (l.take k))) (fun i _ => n - (intOf i).toNat)
    case atStart => exact ⟨_, 0, rfl, by omega, rfl, hB4, Lib.hid (by rw [List.take_zero]; exact HM4.out)⟩
    case round =>
      clear HM4 hB4 hmm cR
      obtain ⟨wr, k, rfl, hk, rfl, hB, hM⟩ := hrel
      by_cases hlt : k < n
      · obtain ⟨bb, o, q, aq, mq, cq, rfl, hbb, y0, y1, y2, y3, y4, hq, hok⟩ := (IsU.bel (HU.out.b hb4) hB).at hlt
        obtain ⟨hqn, hqg⟩ := HK.out k q hq
        obtain ⟨W5, hW5, hB5, hs5, S5⟩ := ubox1 wr q.nm (opT q.t) (nameT q.t) (numT q.t) aq mq cq
        obtain ⟨s0, s1, s2, s3, s4⟩ := S5.five
        have hBw := hB.size
        obtain ⟨w6, hrun, hM6, hg6, hb6⟩ := (hM.out.b hBw hB5).put (Nat.le_refl _) (Nat.le_trans hBw hB5.size) (by rw [List.length_take]; unfold maxLen; omega) q aq mq cq hqn (Ar.bel (hB5.mono hBw) _ hok)
        have HM6 := Lib.hid (hM6.congr (m := l.take (k + 1)) (fun s => hqg s) (by rw [List.length_take, List.length_cons, List.length_take, ← HLn.out]; omega))
        have hB6 : Below w4.heap.size w4 w6 := (hB.trans (hB5.mono hBw)).trans hb6
        have hk0 : 0 ≤ (k : Int) := by omega
        have hk1 : (k : Int) < (n : Int) := by omega
        clear hM hM6 hg6 hb6 hqg hq hok S5 hs5
        generalize opT q.t = oq at *
        generalize nameT q.t = nq at *
        generalize numT q.t = zq at *
        generalize q.nm = xq at *
        go_wp2
        go_roundw
        case rel => exact ⟨_, k + 1, rfl, by omega, by go_num, hB6, HM6⟩
        case measure => simp [intOf]; omega
      · obtain rfl : k = n := by omega
        have HMl := Lib.hid (show MapM w4.heap.size wr w4.heap.size l from by rw [← HEnd.out]; exact hM.out)
        clear hM
        have hgw : w4.heap.size < wr.heap.size := HMl.out.lt
        have Bw : Below W2.heap.size W2 wr := bel_trans hb4 hB
        have h24 : W2.heap.size ≤ w4.heap.size := hb4.size
        have HSt := Lib.hid (show ∀ w', Below W2.heap.size W2 w' → _ from fun w' h => HSet.out w' (bel_trans hB2 h))
        clear HSet HU HK HEnd HGood
        obtain ⟨k0, k1, k2, k3, k4, k5, k6, k7⟩ := HQ.out wr Bw
        go_wp2_with fail
        go_region_held3 (fun w' => w'.cell? ⟨w.heap.size, 0, none⟩ = some (.int .i64 op) ∧ w'.cell? ⟨w.heap.size, 1, none⟩ = some (.string mp) ∧ w'.cell? ⟨w.heap.size, 2, none⟩ = some (.int .i64 zp) ∧ w'.cell? ⟨w.heap.size, 3, none⟩ = some (.slice ap np cp) ∧ w'.cell? ⟨w.heap.size + 1, 0, none⟩ = some (.int .i64 ot) ∧ w'.cell? ⟨w.heap.size + 1, 1, none⟩ = some (.string mt) ∧ w'.cell? ⟨w.heap.size + 1, 2, none⟩ = some (.int .i64 zt) ∧ w'.cell? ⟨w.heap.size + 1, 3, none⟩ = some (.slice aT nt ct))
          (first | (exact HQ.out _ (by first | assumption | exact Below.drew (by assumption) | exact Below.refl _ _ | exact (Below.refl _ _).drew)) | go_keep)
          (first
            | (go_at_call 43; ((with_reducible refine (HSt.out _ (by first | assumption | exact Below.drew (by assumption) | exact Below.refl _ _ | exact (Below.refl _ _).drew)).mono ?_); rintro e w7 ⟨rfl, hS7, hb7⟩; have Bn : Below W2.heap.size W2 w7 := bel_trans (a := W2) (by first | assumption | exact Below.drew (by assumption) | exact Below.refl _ _ | exact (Below.refl _ _).drew) hb7; have HS7 := Lib.hid (show SetM w7 wr.heap.size X from hS7); have HM7 := Lib.hid (show MapM w4.heap.size w7 w4.heap.size l from (MapM.b (by first | exact HMl.out | exact HMl.out.b (Nat.le_of_lt hgw) (Below.refl _ _).drew) (by exact Nat.le_of_lt hgw) hb7)); have hg7 : w4.heap.size < w7.heap.size := Nat.lt_of_lt_of_le hgw hb7.size; clear hS7))
            | (go_at_call 42; ((with_reducible refine (matcher_clo w4.heap.size X w4.heap.size _ _ (by first | exact HS7.out | exact HS7.out.b (Below.refl _ _).drew) (Nat.ne_of_gt hgw) hg7 (Nat.le_refl _)).mono ?_); rintro e w8 ⟨rfl, hC8, hb8⟩; have Bn : Below W2.heap.size W2 w8 := bel_trans (a := W2) (by first | assumption | exact Below.drew (by assumption) | exact Below.refl _ _ | exact (Below.refl _ _).drew) hb8; have HC8 := Lib.hid hC8; have HM8 := Lib.hid (show MapM w4.heap.size w8 w4.heap.size l from (MapM.b (by first | exact HM7.out | exact HM7.out.b (Nat.le_of_lt hg7) (Below.refl _ _).drew) (by exact Nat.le_of_lt hg7) hb8)); have hg8 : w4.heap.size < w8.heap.size := Nat.lt_of_lt_of_le hg7 hb8.size; clear hC8))
            | (go_at_call 75; ((with_reducible refine (HMa.out w4.heap.size _ _ _ _ w4.heap.size _ (by first | assumption | exact Below.drew (by assumption) | exact Below.refl _ _ | exact (Below.refl _ _).drew) h24 (by first | exact HC8.out | exact HC8.out.kept (gr_of _ (Below.refl _ _).drew)) (by first | exact HM8.out | exact HM8.out.b (Nat.le_of_lt hg8) (Below.refl _ _).drew)).mono ?_); rintro e w9 ⟨rfl, hm9, hg9⟩; have Bn : Below W2.heap.size W2 w9 := (show Below W2.heap.size W2 _ from (by first | assumption | exact Below.drew (by assumption) | exact Below.refl _ _ | exact (Below.refl _ _).drew)).grown hg9 (by have := h24; exact Nat.le_trans h24 (Nat.le_of_lt hg8)) (fun q hq => by injection hq with hq; omega); have Hm9 := Lib.hid hm9; have hB9 : w4.heap.size ≤ w9.heap.size := Nat.le_trans (Nat.le_of_lt hg8) hg9.size; clear hm9)))
        all_goals (
          cases R with
          | none =>
            go_wp2
            go_ret2
            exact ⟨none, 0, 0, rfl, UsW.nil _, bel_trans hB2 Bn⟩
          | some l' =>
            have cP := HPr.out l' w4.heap.size w4.heap.size w9 rfl (Hm9.out l' rfl) hB9
            go_wp2_with (go_at_call 44; ((with_reducible refine cP.mono ?_); rintro e w10 ⟨A10, C10, rfl, hU10, hb10⟩; have HU10 := Lib.hid hU10; clear hU10))
            go_ret2
            exact ⟨_, _, _, rfl, HU10.out, bel_trans hB2 (bel_trans Bn hb10)⟩)
  · have hmf : moreF X l p t = none := by unfold moreF; rw [if_neg hr]
    have hr2 : (rgU none l != 0) = true := by simpa using hr
    rw [hmf]
    clear hU hlz hP hT hX S2 T2 hs2 hsp hmf hr hln
    generalize rgU none l = R at *
    go_enter Tryz.func27, Tryz.ntmps27
    go_wp2_with (go_at_call 20; ((with_reducible refine cR.mono ?_); rintro e w4 ⟨rfl, hb4⟩))
    go_ret2
    exact ⟨none, 0, 0, rfl, UsW.nil _, bel_trans hB2 hb4⟩
end Go.Proofs.YtnhemglpbhnmdaaGreat.Mt
namespace Go.Proofs.YtnhemglpbhnmdaaGreat.Mt
open Go.RowKit L T C B U
set_option linter.unusedVariables false
set_option linter.unusedSimpArgs false

set_option maxRecDepth 100000 in
set_option maxHeartbeats 4000000 in
theorem TermM_any (X : List ByteArray) (p t : Tm) (a : Option Addr) (n c : Nat) (a' : Option Addr) (n' c' : Nat) (aX : Option Addr) (nX cX : Nat) (w : World) (hP : ArW w p a n c) (hsp : smT p) (hzp : size p ≤ 4096) (hT : ArW w t a' n' c') (hzt : size t ≤ 4096) (hX : IsS w aX nX X) (hnX : nX ≤ 1000000) (hsX : ∀ x ∈ X, x.size ≤ maxLen) :
    Calls Tryz.prog 16 #[.agg #[.int .i64 (opT p), .string (nameT p), .int .i64 (numT p), .slice a n c], .agg #[.int .i64 (opT t), .string (nameT t), .int .i64 (numT t), .slice a' n' c'], .slice aX nX cX] w fun e w' => RtPs (mat X p [] t) w e w' := by
  obtain ⟨W2, hW2, hB2, hs2, S2, T2⟩ := box2 w (opT p) (nameT p) (numT p) a n c (opT t) (nameT t) (numT t) a' n' c'
  have cm := More_any X [] p t none 0 0 a n c a' n' c' aX nX cX W2 (UsW.nil _) (fun q hq => by cases hq) (by omega) (ArW.b hP hB2) hsp hzp (ArW.b hT hB2) hzt (hX.below hB2) hnX hsX
  have hm : moreF X [] p t = mat X p [] t := by unfold moreF; rw [if_pos (by rw [rgU])]
  rw [hm] at cm
  obtain ⟨s0, s1, s2, s3⟩ := S2.four
  obtain ⟨t0, t1, t2, t3⟩ := T2.four
  have HF := Lib.hid (show ∀ (e : Ending) (w' : World), RtPs (mat X p [] t) W2 e w' → ∃ (A : Option Addr) (N C : Nat), e = .returned (.tuple #[.slice A N C, .bool (mat X p [] t).isSome]) ∧ Hid (RtPs (mat X p [] t) w (.returned (.tuple #[.slice A N C, .bool (mat X p [] t).isSome])) w') from fun e w' ⟨A, N, C, h1, h2, h3⟩ => ⟨A, N, C, h1, Lib.hid ⟨A, N, C, rfl, h2, bel_trans hB2 h3⟩⟩)
  clear S2 T2 hP hT hX hm hsp hzp hzt hsX
  generalize mat X p [] t = R at *
  generalize hok : R.isSome = ok at *
  generalize opT p = op at *
  generalize nameT p = nm at *
  generalize numT p = nz at *
  generalize opT t = ot at *
  generalize nameT t = nt at *
  generalize numT t = zt at *
  clear hok
  go_enter Tryz.func16, Tryz.ntmps16
  go_wp2_with (go_at_call 27; ((with_reducible refine cm.mono ?_); rintro e w3 h3; obtain ⟨A, N, C, rfl, hf⟩ := HF.out _ _ h3; clear h3))
  go_ret2
  exact hf.out
end Go.Proofs.YtnhemglpbhnmdaaGreat.Mt
