/-
  What is proved: whether a signature and variables are few, as the statements of layer 13 ask.
-/
import Derived.Test.YtacncbkcnhlpcaaWA
namespace Go.Proofs.Ytacncbkcnhlpcaa.Wl
open Go.RowKit L T C
open Sgn (SlG Fm Core cores)
set_option linter.unusedVariables false
set_option linter.unusedSimpArgs false
set_option maxRecDepth 100000

/-- more than the form's reach lets a slice be long -/
def top : Nat := 17592186044416
theorem top_wrap {x : Int} (h0 : 0 ≤ x) (h : x ≤ 4 * (top : Int)) : wrap64 x = x := by
  have e : (top : Int) = 17592186044416 := rfl
  rw [e] at h
  unfold wrap64; omega
theorem top_400 : 400 ≤ top := by
  have e : top = 17592186044416 := rfl
  omega
theorem top_3 {z x : Nat} (h1 : z ≤ 400) (h2 : x ≤ top) : z + x ≤ 3 * top := by
  have := top_400
  omega
def fewL : Nat → List Nat → Bool
  | z, [] => decide (z ≤ 400)
  | z, x :: l => decide (z ≤ 400) && fewL (z + x) l
theorem fewL_step {z k : Nat} {l : List Nat} {x : Nat} (h : l[k]? = some x) : fewL z (l.drop k) = (decide (z ≤ 400) && fewL (z + x) (l.drop (k + 1))) := by
  obtain ⟨hk, rfl⟩ := List.getElem?_eq_some_iff.1 h
  rw [List.drop_eq_getElem_cons hk, fewL]
theorem fewL_end {z k : Nat} {l : List Nat} (h : l.length ≤ k) : fewL z (l.drop k) = decide (z ≤ 400) := by
  rw [List.drop_eq_nil_of_le h, fewL]
theorem fewL_big {z : Nat} {l : List Nat} (h : ¬ z ≤ 400) : fewL z l = false := by
  cases l <;> simp [fewL, h]
theorem fewL_of : ∀ {l : List Nat} {z : Nat}, fewL z l = true → z ≤ 400 ∧ ∀ x ∈ l, x ≤ 400
  | [], z, h => ⟨by simpa [fewL] using h, fun x hx => by cases hx⟩
  | y :: l, z, h => by
    rw [fewL, Bool.and_eq_true] at h
    obtain ⟨h1, h2⟩ := fewL_of h.2
    refine ⟨by simpa using h.1, fun x hx => ?_⟩
    rcases List.mem_cons.1 hx with rfl | hx
    · omega
    · exact h2 x hx
def fewZ (n : Nat) (G : List Fm) (v : Nat) : Bool := fewL (n + G.length + v) (G.map (·.m))
set_option maxHeartbeats 4000000 in
theorem Few_any (a : Option Addr) (n c : Nat) (b : Option Addr) (m d : Nat) (G : List Fm) (p : Option Addr) (q e : Nat) (w : World) (hn : n ≤ top) (hG : SlG w b m d G) (hm : m ≤ top) (hK : ∀ f ∈ G, f.m ≤ top) (hq : q ≤ top) :
    Calls Try.prog 8 #[.agg #[.slice a n c, .slice b m d], .slice p q e] w fun e w' => e = .returned (.bool (fewZ n G q)) ∧ Below w.heap.size w w' := by
  obtain ⟨W1, hW1⟩ : ∃ W1, w.alloc (.cells #[.slice a n c, .slice b m d] 25) = W1 := ⟨_, rfl⟩
  have hB1 : Below w.heap.size w W1 := by rw [← hW1]; exact bel_alloc (Below.refl _ _) _
  have S1 := Sgn.SBox.new w a n c b m d
  rw [hW1] at S1
  obtain ⟨s0, s1⟩ := S1.two
  have hlen : (G.map (·.m)).length = m := by rw [List.length_map]; exact hG.1.1.symm
  have hst : ∀ (z k : Nat) (f : Fm), G[k]? = some f → fewL z ((G.map (·.m)).drop k) = (decide (z ≤ 400) && fewL (z + f.m) ((G.map (·.m)).drop (k + 1))) := fun z k f h => fewL_step (by rw [List.getElem?_map, h]; rfl)
  have hend : ∀ z k, m ≤ k → fewL z ((G.map (·.m)).drop k) = decide (z ≤ 400) := fun z k h => fewL_end (by rw [hlen]; exact h)
  have h0 : fewZ n G q = fewL (n + m + q) ((G.map (·.m)).drop 0) := by unfold fewZ; rw [hG.1.1]; rfl
  have hbig : ∀ z k, ¬ z ≤ 400 → fewL z ((G.map (·.m)).drop k) = false := fun z k h => fewL_big h
  rw [h0]
  generalize (G.map (·.m)) = L at *
  obtain ⟨F, hF⟩ : ∃ F : Nat → Nat → Bool, ∀ z k, fewL z (L.drop k) = F z k := ⟨_, fun _ _ => rfl⟩
  simp only [hF] at hst hend hbig ⊢
  clear hF h0 hlen
  have w1 : wrap64 ((n : Int) + (m : Int)) = (n : Int) + (m : Int) := top_wrap (by omega) (by omega)
  have w2 : wrap64 ((n : Int) + (m : Int) + (q : Int)) = ((n + m + q : Nat) : Int) := (top_wrap (by omega) (by omega)).trans (by omega)
  have HG := Lib.hid (hG.below hB1).1
  have Hst := Lib.hid hst
  have Hend := Lib.hid hend
  have Hbig := Lib.hid hbig
  have HK := Lib.hid hK
  have HB1 := Lib.hid hB1
  obtain ⟨N, hN⟩ : ∃ N : Nat, n + m + q = N := ⟨_, rfl⟩
  have HN : Hid (N ≤ 3 * top) := Lib.hid (by omega)
  rw [hN] at w2 ⊢
  have Hn := Lib.hid hn
  have Hm := Lib.hid hm
  clear hG hst hend hbig hK hB1 S1 hN hn hm hq
  obtain ⟨R, hR⟩ : ∃ R, F N 0 = R := ⟨_, rfl⟩
  rw [hR]
  have HR := Lib.hid hR
  clear hR
  go_enter Try.func8, Try.ntmps8
  go_wp2
  go_loop [5, 6] (fun zs i => ∃ (z k : Nat), k ≤ m ∧ zs = .int .i64 z ∧ i = .int .i64 k ∧ Hid (F z k = R) ∧ Hid (z ≤ 3 * top)) (fun _ i => m - (intOf i).toNat)
  case atStart => exact ⟨N, 0, by omega, by first | rfl | (rw [w1, w2]) | (rw [w2]), rfl, HR, HN⟩
  case round =>
    obtain ⟨z, k, hk, rfl, rfl, hR, hz⟩ := hrel
    by_cases hlt : k < m
    · obtain ⟨bb, o, f, rfl, hb, y1, y2, y3, hx, hok⟩ := HG.out.at hlt
      have hk0 : 0 ≤ (k : Int) := by omega
      have hk1 : (k : Int) < (m : Int) := by omega
      by_cases hz4 : z ≤ 400
      · have d1 : decide ((z : Int) ≤ 400) = true := decide_eq_true (by omega)
        have d1' : ((z : Int) ≤ 400) = True := by simp; omega
        have hfm := HK.out f (List.mem_of_getElem? hx)
        have w3 : wrap64 ((z : Int) + (f.m : Int)) = ((z + f.m : Nat) : Int) := by have := top_400; exact (top_wrap (by omega) (by omega)).trans (by omega)
        have hnew : Hid (F (z + f.m) (k + 1) = R) := Lib.hid (by rw [← hR.out, Hst.out z k f hx, decide_eq_true hz4]; rfl)
        have hz2 : Hid (z + f.m ≤ 3 * top) := Lib.hid (top_3 hz4 hfm)
        have w4 : wrap64 ((k : Int) + 1) = ((k + 1 : Nat) : Int) := by have := Hm.out; have := top_400; exact (top_wrap (by omega) (by omega)).trans (by omega)
        clear hR hz hx hok hfm hz4
        go_wp2
        go_round
        case rel => exact ⟨z + f.m, k + 1, Nat.succ_le_of_lt hlt, by first | rfl | (rw [w3]), by first | rfl | (rw [w4]), hnew, hz2⟩
        case measure => (try rw [w4]); simp [intOf]; clear w1 w2 w3 w4 d1 d1' HN Hn Hm HK; omega
      · have d1 : decide ((z : Int) ≤ 400) = false := decide_eq_false (by omega)
        have hnew : Hid (R = false) := Lib.hid (by rw [← hR.out]; exact Hbig.out z k hz4)
        clear hR hz hx hok
        go_wp2
        go_ret
        exact ⟨by rw [hnew.out] <;> rfl, HB1.out⟩
    · obtain rfl : k = m := by omega
      have hnew : Hid (R = decide (z ≤ 400)) := Lib.hid (by rw [← hR.out]; exact Hend.out z k (Nat.le_refl _))
      have d2 : decide ((z : Int) ≤ 400) = decide (z ≤ 400) := by by_cases h : z ≤ 400 <;> simp [h] <;> omega
      clear hR hz
      go_wp2
      go_ret
      exact ⟨by rw [hnew.out, ← d2] <;> rfl, HB1.out⟩
end Go.Proofs.Ytacncbkcnhlpcaa.Wl
