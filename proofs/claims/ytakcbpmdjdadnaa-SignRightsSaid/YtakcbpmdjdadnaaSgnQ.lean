/-
  What is proved: a sort put into a signature, by package sign and by the document's answers.
-/
import Derived.Test.YtakcbpmdjdadnaaSgnK
import Derived.Test.YtakcbpmdjdadnaaSgnO
import Derived.Test.YtakcbpmdjdadnaaSgnL
import Derived.Test.YtakcbpmdjdadnaaSrtD
namespace Go.Proofs.Ytakcbpmdjdadnaa.Sgn
open Go.RowKit L Srt
set_option linter.unusedVariables false
set_option linter.unusedSimpArgs false

/-- a signature and an error are returned -/
def SgPost (E : Int) (S : List ByteArray) (K : List Core) (N M : Nat) (w : World) (e : Ending) (w' : World) : Prop :=
  ∃ A D B L H, e = .returned (.tuple #[.agg #[.slice A N D, .slice B M L], .int .i64 E]) ∧ SlS w' A N D S ∧ SlG w' B M L H ∧ cores H = K ∧ Below w.heap.size w w'
def sortS (S : List ByteArray) (K : List Core) (s : ByteArray) : List ByteArray := if sortE S K s = 0 then S ++ [s] else []
def sortK (S : List ByteArray) (K : List Core) (s : ByteArray) : List Core := if sortE S K s = 0 then K else []
def SortPost (S : List ByteArray) (K : List Core) (s : ByteArray) (w : World) (e : Ending) (w' : World) : Prop := SgPost (sortE S K s) (sortS S K s) (sortK S K s) (sortS S K s).length (sortK S K s).length w e w'
theorem sort_err {S : List ByteArray} {K : List Core} {s : ByteArray} {w w' : World} {E : Int} (hE : sortE S K s = E) (h0 : E ≠ 0) (hb : Below w.heap.size w w') : SortPost S K s w (.returned (.tuple #[.agg #[.slice none 0 0, .slice none 0 0], .int .i64 E])) w' := by
  have e1 : sortS S K s = [] := by unfold sortS; rw [if_neg (by omega)]
  have e2 : sortK S K s = [] := by unfold sortK; rw [if_neg (by omega)]
  unfold SortPost
  rw [hE, e1, e2]
  exact ⟨_, _, _, _, _, rfl, SlS.nul _, SlG.nul _, rfl, hb⟩
theorem sort_ok {S : List ByteArray} {K : List Core} {s : ByteArray} {w w' : World} {A : Option Addr} {N D : Nat} {B : Option Addr} {M L : Nat} {H : List Fm} (hE : sortE S K s = 0) (hS : SlS w' A N D (S ++ [s])) (hH : SlG w' B M L H) (hc : cores H = K) (hb : Below w.heap.size w w') :
    SortPost S K s w (.returned (.tuple #[.agg #[.slice A N D, .slice B M L], .int .i64 0])) w' := by
  have e1 : sortS S K s = S ++ [s] := by unfold sortS; rw [if_pos hE]
  have e2 : sortK S K s = K := by unfold sortK; rw [if_pos hE]
  have e3 : (S ++ [s]).length = N := hS.1.1.symm
  have e4 : K.length = M := by rw [← hc, cores_len]; exact hH.1.1.symm
  unfold SortPost
  rw [hE, e1, e2, e3, e4]
  exact ⟨_, _, _, _, _, rfl, hS, hH, hc, hb⟩
/-- what a sort put into a list returns -/
theorem putS_sl {X : List ByteArray} {s : ByteArray} {w : World} {e : Ending} {w' : World} (h : PutPost X s w e w') : ∃ A D, e = .returned (.tuple #[.slice A (putX X s).length D, .int .i64 (putE X s)]) ∧ OwnS w' w.heap.size (.slice A (putX X s).length D) (putX X s) ∧ Below w.heap.size w w' := by
  obtain ⟨v, he, ho, hb⟩ := h
  obtain ⟨A, c, rfl, hS⟩ := ho.slS
  exact ⟨A, c, he, ho, hb⟩
theorem SlS.far2 {w : World} {A : Option Addr} {n c : Nat} {X : List ByteArray} {g : Nat} (h : SlS w A n c X) (ho : Off g A n) (v0 v1 : Value) : SlS ((w.setCell ⟨g, 0, none⟩ v0).setCell ⟨g, 1, none⟩ v1) A n c X := SlS.far (SlS.far h ho 0 v0) ho 1 v1
theorem SlG.far2 {w : World} {A : Option Addr} {n c : Nat} {G : List Fm} {g : Nat} (h : SlG w A n c G) (ho : Off g A n ∧ ∀ f ∈ G, Off g f.a f.m) (v0 v1 : Value) : SlG ((w.setCell ⟨g, 0, none⟩ v0).setCell ⟨g, 1, none⟩ v1) A n c G := (h.far ho.1 ho.2 0 v0).far ho.1 ho.2 1 v1
theorem okM {G : List Fm} {w : World} (hK : okK (cores G)) (hok : ∀ f ∈ G, f.ok w) : ∀ f ∈ G, f.m ≤ 100000000 := fun f hf => by
  have h1 : f.core.2.1.length ≤ 1000000 := (hK.2 f.core (List.mem_map_of_mem hf)).2.2.1
  have h2 : f.m = f.X.length := (hok f hf).1.1
  have h3 : f.X.length ≤ 1000000 := h1
  omega

set_option maxHeartbeats 4000000 in
theorem Sort6_any (a : Option Addr) (n c : Nat) (S : List ByteArray) (b : Option Addr) (m d : Nat) (G : List Fm) (s : ByteArray) (w : World) (hS : SlS w a n c S) (hn : n ≤ 1000000) (hs : s.size ≤ 9223372036854775000) (hG : SlG w b m d G) (hm : m ≤ 1000000) (hK : okK (cores G)) :
    Calls Try.prog 15 #[.agg #[.slice a n c, .slice b m d], .string s] w (SortPost S (cores G) s w) := by
  obtain ⟨W2, hW2, hB2, S2, T2⟩ := boxesS w a n c b m d none 0 0 none 0 0
  have cP : Calls Try.prog 41 #[.slice a n c, .string s] W2 fun e w3 => ∃ A D, e = .returned (.tuple #[.slice A (putX S s).length D, .int .i64 (putE S s)]) ∧ OwnS w3 W2.heap.size (.slice A (putX S s).length D) (putX S s) ∧ Below W2.heap.size W2 w3 := (Put_any a n c S s W2 (hS.below hB2) (by omega) hs).mono fun _ _ h => putS_sl h
  have cl := fun (w' : World) (h : Below W2.heap.size W2 w') => place_any s b m d G w' ((hG.below hB2).below h).1 (by omega)
  have cX := fun (w' : World) (h : Below W2.heap.size W2 w') => extended_any b m d G none 0 0 [] w' ((hG.below hB2).below h) hm (SlG.nul w') (by omega) (by rw [List.append_nil]; exact okM hK hG.1.2.2) (w.heap.size + 1) (Nat.lt_of_lt_of_le (Blk.lt T2) h.size) (by rw [List.append_nil]; exact (offG_old hG (Nat.le_succ _)).2)
  have hE : sortE S (cores G) s = if putE S s ≠ 0 then putE S s else if hasN (cores G) s = true then 4 else 0 := rfl
  rw [← posK_has] at hE
  have herr := fun (E : Int) (w' : World) => @sort_err S (cores G) s w w' E
  have hok := fun (w' : World) (A : Option Addr) (N D : Nat) (B : Option Addr) (M L : Nat) (H : List Fm) => @sort_ok S (cores G) s w w' A N D B M L H
  have hput : putE S s = 0 → putX S s = S ++ [s] := fun h => by unfold putX; rw [if_pos h]
  obtain ⟨s0, s1⟩ := S2.two
  obtain ⟨t0, t1⟩ := T2.two
  have hT := fun (w' : World) (h : Below W2.heap.size W2 w') => T2.b h
  have lt3 := Blk.lt T2
  rw [show cores G ++ cores [] = cores G by simp [cores], Nat.add_zero] at cX
  generalize SortPost S (cores G) s w = Post at *
  generalize sortE S (cores G) s = E at *
  generalize cores G = K at *
  generalize posK K s = P at *
  clear hS hG hK hs
  by_cases h0 : putE S s = 0
  · rw [if_neg (by simp [h0])] at hE
    rw [h0, hput h0] at cP
    generalize S ++ [s] = Z at *
    generalize hNN : Z.length = N at *
    have HZ : Hid (N = Z.length) := hNN.symm
    clear hput h0 hNN
    by_cases hp : 0 ≤ P
    · rw [if_pos (decide_eq_true hp)] at hE
      have Herr := Lib.hid (fun (w' : World) hb => herr _ w' hE (by decide) hb)
      clear herr hok hE cX
      go_enter Try.func15, Try.ntmps15
      go_wp2_with (first
        | (go_at_call 41; ((with_reducible refine cP.mono ?_); rintro e w3 ⟨A, D, rfl, ho3, hb3⟩; obtain ⟨s30, s31⟩ := (S2.b hb3).two))
        | (go_at_call 30; ((with_reducible refine (cl _ hb3).mono ?_); rintro e w4 ⟨rfl, hb4⟩; have B4 := bel_trans hb3 hb4; have T4 := hT _ B4; obtain ⟨t40, t41⟩ := T4.two; obtain ⟨u40, u41⟩ := T4.free; obtain ⟨x0, x1⟩ := (T4.put none 0 0 none 0 0).two)))
      simp [bodyPost, results, Try.results15, go_sem, x0, x1]
      exact Herr.out _ (below_set2 (bel_trans hB2 B4) (Nat.le_succ _) _ _)
    · rw [if_neg (by simp; omega)] at hE
      have Hok := Lib.hid (fun (w' : World) (A : Option Addr) (N D : Nat) (B : Option Addr) (M L : Nat) (H : List Fm) h1 h2 h3 h4 => hok w' A N D B M L H hE h1 h2 h3 h4)
      clear herr hok hE
      go_enter Try.func15, Try.ntmps15
      go_wp2_with (first
        | (go_at_call 41; ((with_reducible refine cP.mono ?_); rintro e w3 ⟨A, D, rfl, ho3, hb3⟩; obtain ⟨s30, s31⟩ := (S2.b hb3).two))
        | (go_at_call 30; ((with_reducible refine (cl _ hb3).mono ?_); rintro e w4 ⟨rfl, hb4⟩; have B4 := bel_trans hb3 hb4; obtain ⟨s40, s41⟩ := (S2.b B4).two))
        | (go_at_call 42; ((with_reducible refine (cX _ B4).mono ?_); rintro e w5 ⟨B, H, rfl, hH, hc, hb5, hoff⟩; have B5 := bel_trans B4 hb5; have T5 := hT _ B5; obtain ⟨t50, t51⟩ := T5.two; obtain ⟨u50, u51⟩ := T5.free; obtain ⟨x0, x1⟩ := (T5.put A N D B m m).two)))
      simp [bodyPost, results, Try.results15, go_sem, x0, x1]
      have hoS : Off (w.heap.size + 1) A N := off_own ho3 lt3
      have hS5 : SlS w5 A N D Z := own_sl (ho3.below (bel_trans hb4 hb5)) HZ.out
      exact Hok.out _ _ _ _ _ _ _ _ (SlS.far2 hS5 hoS _ _) (SlG.far2 hH hoff _ _) hc (below_set2 (bel_trans hB2 B5) (Nat.le_succ _) _ _)
  · rw [if_pos h0] at hE
    have h1 : (putE S s != 0) = true := by simp [h0]
    have Herr := Lib.hid (fun (w' : World) hb => herr _ w' hE h0 hb)
    clear herr hok hE cX hput
    generalize putE S s = Ep at *
    generalize putX S s = Z at *
    generalize Z.length = N at *
    go_enter Try.func15, Try.ntmps15
    go_wp2_with (go_at_call 41; ((with_reducible refine cP.mono ?_); rintro e w3 ⟨A, D, rfl, ho3, hb3⟩; have T3 := hT _ hb3; obtain ⟨t30, t31⟩ := T3.two; obtain ⟨u30, u31⟩ := T3.free; obtain ⟨x0, x1⟩ := (T3.put none 0 0 none 0 0).two))
    simp [bodyPost, results, Try.results15, go_sem, x0, x1]
    exact Herr.out _ (below_set2 (bel_trans hB2 hb3) (Nat.le_succ _) _ _)
end Go.Proofs.Ytakcbpmdjdadnaa.Sgn
