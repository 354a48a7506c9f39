/-
  What is proved: a sort put into a signature, by the document's answers; what a function put into one returns, in plain words.
-/
import Derived.Test.YtakcbpmdjdadnaaSgnQ
namespace Go.Proofs.Ytakcbpmdjdadnaa.Sgn
open Go.RowKit L Srt
set_option linter.unusedVariables false
set_option linter.unusedSimpArgs false

set_option maxHeartbeats 4000000 in
theorem refSort6_any (a : Option Addr) (n c : Nat) (S : List ByteArray) (b : Option Addr) (m d : Nat) (G : List Fm) (s : ByteArray) (w : World) (hS : SlS w a n c S) (hn : n ≤ 1000000) (hs : s.size ≤ 9223372036854775000) (hG : SlG w b m d G) (hm : m ≤ 1000000) :
    Calls Try.prog 16 #[.agg #[.slice a n c, .slice b m d], .string s] w (SortPost S (cores G) s w) := by
  obtain ⟨W2, hW2, hB2, S2, T2⟩ := boxesS w a n c b m d none 0 0 none 0 0
  have cP : Calls Try.prog 43 #[.slice a n c, .string s] W2 fun e w3 => ∃ A D, e = .returned (.tuple #[.slice A (putX S s).length D, .int .i64 (putE S s)]) ∧ OwnS w3 W2.heap.size (.slice A (putX S s).length D) (putX S s) ∧ Below W2.heap.size W2 w3 := (refPut_any a n c S s W2 (hS.below hB2) (by omega) hs).mono fun _ _ h => putS_sl h
  have cl := fun (w' : World) (h : Below W2.heap.size W2 w') => refPlace_any s b m d G w' ((hG.below hB2).below h).1 (by omega)
  have hE : sortE S (cores G) s = if putE S s ≠ 0 then putE S s else if hasN (cores G) s = true then 4 else 0 := rfl
  rw [← posK_has] at hE
  have herr := fun (E : Int) (w' : World) => @sort_err S (cores G) s w w' E
  have hok := fun (w' : World) (A : Option Addr) (N D : Nat) (B : Option Addr) (M L : Nat) (H : List Fm) => @sort_ok S (cores G) s w w' A N D B M L H
  have hput : putE S s = 0 → putX S s = S ++ [s] := fun h => by unfold putX; rw [if_pos h]
  have hGs := fun (w' : World) (h : Below W2.heap.size W2 w') => (hG.below hB2).below h
  have hGo := offG_old hG (Nat.le_succ w.heap.size)
  obtain ⟨s0, s1⟩ := S2.two
  obtain ⟨t0, t1⟩ := T2.two
  have hT := fun (w' : World) (h : Below W2.heap.size W2 w') => T2.b h
  have lt3 := Blk.lt T2
  have hcG : Hid (cores G = cores G) := rfl
  generalize SortPost S (cores G) s w = Post at *
  generalize sortE S (cores G) s = E at *
  have hc : cores G = cores G := rfl
  generalize hKK : cores G = K at *
  generalize posK K s = P at *
  clear hS hG hs hcG hc
  have HKK := Lib.hid hKK
  clear hKK
  by_cases h0 : putE S s = 0
  · rw [if_neg (by simp [h0])] at hE
    rw [h0, hput h0] at cP
    generalize S ++ [s] = Z at *
    generalize hNN : Z.length = N at *
    have HZ : Hid (N = Z.length) := hNN.symm
    clear hput h0 hNN
    by_cases hp : 0 ≤ P
    · rw [if_pos (decide_eq_true hp)] at hE
      have Herr := Lib.hid (fun (w' : World) hb => herr _ w' hE (by decide) hb)
      clear herr hok hE
      go_enter Try.func16, Try.ntmps16
      go_wp2_with (first
        | (go_at_call 43; ((with_reducible refine cP.mono ?_); rintro e w3 ⟨A, D, rfl, ho3, hb3⟩; obtain ⟨s30, s31⟩ := (S2.b hb3).two; have T4 := hT _ hb3; obtain ⟨t40, t41⟩ := T4.two; obtain ⟨u40, u41⟩ := T4.free; obtain ⟨x0, x1⟩ := (T4.put none 0 0 none 0 0).two))
        | (go_at_call 32; ((with_reducible refine (cl _ hb3).mono ?_); rintro e w4 ⟨rfl, rfl⟩)))
      simp [bodyPost, results, Try.results16, go_sem, x0, x1]
      exact Herr.out _ (below_set2 (bel_trans hB2 hb3) (Nat.le_succ _) _ _)
    · rw [if_neg (by simp; omega)] at hE
      have Hok := Lib.hid (fun (w' : World) (A : Option Addr) (N D : Nat) (B : Option Addr) (M L : Nat) (H : List Fm) h1 h2 h3 h4 => hok w' A N D B M L H hE h1 h2 h3 h4)
      clear herr hok hE
      go_enter Try.func16, Try.ntmps16
      go_wp2_with (first
        | (go_at_call 43; ((with_reducible refine cP.mono ?_); rintro e w3 ⟨A, D, rfl, ho3, hb3⟩; obtain ⟨s30, s31⟩ := (S2.b hb3).two; have T4 := hT _ hb3; obtain ⟨t40, t41⟩ := T4.two; obtain ⟨u40, u41⟩ := T4.free; obtain ⟨x0, x1⟩ := (T4.put A N D b m d).two))
        | (go_at_call 32; ((with_reducible refine (cl _ hb3).mono ?_); rintro e w4 ⟨rfl, rfl⟩)))
      simp [bodyPost, results, Try.results16, go_sem, x0, x1]
      have hoS : Off (w.heap.size + 1) A N := off_own ho3 lt3
      exact Hok.out _ _ _ _ _ _ _ _ (SlS.far2 (own_sl ho3 HZ.out) hoS _ _) (SlG.far2 (hGs _ hb3) hGo _ _) HKK.out (below_set2 (bel_trans hB2 hb3) (Nat.le_succ _) _ _)
  · rw [if_pos h0] at hE
    have h1 : (putE S s != 0) = true := by simp [h0]
    have Herr := Lib.hid (fun (w' : World) hb => herr _ w' hE h0 hb)
    clear herr hok hE hput
    generalize putE S s = Ep at *
    generalize putX S s = Z at *
    generalize Z.length = N at *
    go_enter Try.func16, Try.ntmps16
    go_wp2_with (go_at_call 43; ((with_reducible refine cP.mono ?_); rintro e w3 ⟨A, D, rfl, ho3, hb3⟩; have T3 := hT _ hb3; obtain ⟨t30, t31⟩ := T3.two; obtain ⟨u30, u31⟩ := T3.free; obtain ⟨x0, x1⟩ := (T3.put none 0 0 none 0 0).two))
    simp [bodyPost, results, Try.results16, go_sem, x0, x1]
    exact Herr.out _ (below_set2 (bel_trans hB2 hb3) (Nat.le_succ _) _ _)

def funS (S : List ByteArray) (K : List Core) (C : Core) : List ByteArray := if funE S K C = 0 then S else []
def funK (S : List ByteArray) (K : List Core) (C : Core) : List Core := if funE S K C = 0 then K ++ [C] else []
def FunPost (S : List ByteArray) (K : List Core) (C : Core) (w : World) (e : Ending) (w' : World) : Prop := SgPost (funE S K C) (funS S K C) (funK S K C) (funS S K C).length (funK S K C).length w e w'
theorem fun_err {S : List ByteArray} {K : List Core} {C : Core} {w w' : World} {E : Int} (hE : funE S K C = E) (h0 : E ≠ 0) (hb : Below w.heap.size w w') : FunPost S K C w (.returned (.tuple #[.agg #[.slice none 0 0, .slice none 0 0], .int .i64 E])) w' := by
  have e1 : funS S K C = [] := by unfold funS; rw [if_neg (by omega)]
  have e2 : funK S K C = [] := by unfold funK; rw [if_neg (by omega)]
  unfold FunPost
  rw [hE, e1, e2]
  exact ⟨_, _, _, _, _, rfl, SlS.nul _, SlG.nul _, rfl, hb⟩
theorem fun_ok {S : List ByteArray} {K : List Core} {C : Core} {w w' : World} {A : Option Addr} {N D : Nat} {B : Option Addr} {M L : Nat} {H : List Fm} (hE : funE S K C = 0) (hS : SlS w' A N D S) (hH : SlG w' B M L H) (hc : cores H = K ++ [C]) (hb : Below w.heap.size w w') :
    FunPost S K C w (.returned (.tuple #[.agg #[.slice A N D, .slice B M L], .int .i64 0])) w' := by
  have e1 : funS S K C = S := by unfold funS; rw [if_pos hE]
  have e2 : funK S K C = K ++ [C] := by unfold funK; rw [if_pos hE]
  have e3 : S.length = N := hS.1.1.symm
  have e4 : (K ++ [C]).length = M := by rw [← hc, cores_len]; exact hH.1.1.symm
  unfold FunPost
  rw [hE, e1, e2, e3, e4]
  exact ⟨_, _, _, _, _, rfl, hS, hH, hc, hb⟩
/-- a signature, a function, an empty signature put into blocks -/
theorem boxes3 (w : World) (a : Option Addr) (n c : Nat) (b : Option Addr) (m d : Nat) (s : ByteArray) (a' : Option Addr) (m' c' : Nat) (r : ByteArray) :
    ∃ W, ((w.alloc (.cells #[.slice a n c, .slice b m d] 25)).alloc (.cells #[.string s, .slice a' m' c', .string r] 27)).alloc (.cells #[.slice none 0 0, .slice none 0 0] 25) = W ∧ Below w.heap.size w W ∧ SBox W w.heap.size a n c b m d ∧ FBox W (w.heap.size + 1) s a' m' c' r ∧ SBox W (w.heap.size + 2) none 0 0 none 0 0 := by
  obtain ⟨W2, hW2, hB2, S2, F2⟩ := boxes w a n c b m d s a' m' c' r
  refine ⟨_, rfl, ?_, ?_, ?_, ?_⟩
  · rw [hW2]; exact bel_alloc hB2 _
  · rw [hW2]; exact Blk.alloc S2 _
  · rw [hW2]; exact Blk.alloc F2 _
  · have := SBox.new ((w.alloc (.cells #[.slice a n c, .slice b m d] 25)).alloc (.cells #[.string s, .slice a' m' c', .string r] 27)) none 0 0 none 0 0
    rwa [show ((w.alloc (.cells #[.slice a n c, .slice b m d] 25)).alloc (.cells #[.string s, .slice a' m' c', .string r] 27)).heap.size = w.heap.size + 2 by simp] at this
theorem funE_leaf (S : List ByteArray) (K : List Core) (C : Core) : (checkE S C ≠ 0 ∧ funE S K C = checkE S C) ∨ (checkE S C = 0 ∧ 0 ≤ posK K C.1 ∧ funE S K C = 4) ∨ (checkE S C = 0 ∧ ¬ 0 ≤ posK K C.1 ∧ knownB S C.1 = true ∧ funE S K C = 4) ∨ (checkE S C = 0 ∧ ¬ 0 ≤ posK K C.1 ∧ knownB S C.1 = false ∧ 256 ≤ K.length ∧ funE S K C = 2) ∨ (checkE S C = 0 ∧ ¬ 0 ≤ posK K C.1 ∧ knownB S C.1 = false ∧ ¬ 256 ≤ K.length ∧ funE S K C = 0) := by
  have h := posK_has K C.1
  unfold funE
  rw [← h]
  by_cases h0 : checkE S C = 0
  · by_cases hp : 0 ≤ posK K C.1
    · exact .inr (.inl ⟨h0, hp, by simp [h0, hp]⟩)
    · cases hk : knownB S C.1 with
      | true => exact .inr (.inr (.inl ⟨h0, hp, rfl, by simp [h0]⟩))
      | false =>
        have hp2 : decide (0 ≤ posK K C.1) = false := decide_eq_false hp
        by_cases h256 : 256 ≤ K.length
        · exact .inr (.inr (.inr (.inl ⟨h0, hp, rfl, h256, by rw [hp2]; simp [h0, h256]⟩)))
        · exact .inr (.inr (.inr (.inr ⟨h0, hp, rfl, h256, by rw [hp2]; simp [h0, h256]⟩)))
  · exact .inl ⟨h0, by simp [h0]⟩
end Go.Proofs.Ytakcbpmdjdadnaa.Sgn
