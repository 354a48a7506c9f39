/-
  What is proved: in the text of a claim without binders, with names of small letters, each bracket that opens is closed; what is put together of two has both texts. No program is spoken of.
  What is proved: the guards of the law on brackets: a text of small letters alone; a term, a claim with such names alone, without binders.
-/
import Derived.Test.YtcigeclnbhcohaaGreatDoorS1
import Derived.Test.YtcigeclnbhcohaaGreatDoorZShSo
namespace Go.Proofs.YtcigeclnbhcohaaGreatDoor.Sh
open Go.RowKit L T C
set_option linter.unusedVariables false
set_option linter.unusedSimpArgs false

def stp (d : Int) (c : UInt8) : Int := if c = 40 then d + 1 else if c = 41 then d - 1 else d
/-- from this depth on no bracket closes too much, and none is open at the end -/
def okS : Int → List UInt8 → Prop
  | d, [] => d = 0
  | d, c :: r => 0 ≤ stp d c ∧ okS (stp d c) r
def Bal (l : List UInt8) : Prop := ∀ d r, 0 ≤ d → okS d r → okS d (l ++ r)
theorem Bal.nil : Bal [] := fun d r _ h => h
theorem Bal.app {a b : List UInt8} (ha : Bal a) (hb : Bal b) : Bal (a ++ b) := fun d r hd h => by
  rw [List.append_assoc]; exact ha d _ hd (hb d r hd h)
theorem Bal.free : ∀ {l : List UInt8}, (∀ c ∈ l, c ≠ 40 ∧ c ≠ 41) → Bal l
  | [], _ => Bal.nil
  | c :: l, h => fun d r hd hr => by
    have hc := h c (by simp)
    have e : stp d c = d := by simp [stp, hc.1, hc.2]
    show 0 ≤ stp d c ∧ okS (stp d c) (l ++ r)
    rw [e]
    exact ⟨hd, Bal.free (fun x hx => h x (by simp [hx])) d r hd hr⟩
theorem Bal.wrap {l : List UInt8} (h : Bal l) : Bal (40 :: (l ++ [41])) := fun d r hd hr => by
  show 0 ≤ stp d 40 ∧ okS (stp d 40) ((l ++ [41]) ++ r)
  have e : stp d 40 = d + 1 := rfl
  rw [e, List.append_assoc]
  refine ⟨by omega, h (d + 1) _ (by omega) ?_⟩
  show 0 ≤ stp (d + 1) 41 ∧ okS (stp (d + 1) 41) r
  have e2 : stp (d + 1) 41 = d := by show d + 1 - 1 = d; omega
  rw [e2]; exact ⟨hd, hr⟩
theorem Bal.whole {l : List UInt8} (h : Bal l) : okS 0 l := by
  have := h 0 [] (by omega) rfl
  rwa [List.append_nil] at this
def BB (s : ByteArray) : Prop := Bal (lst s)
theorem BB.app {x y : ByteArray} (hx : BB x) (hy : BB y) : BB (x ++ y) := by unfold BB; rw [lst_app]; exact Bal.app hx hy
theorem BB.par (b : Bool) {x : ByteArray} (h : BB x) : BB (par b x) := by
  cases b
  · exact h
  · show Bal (lst (⟨#[40]⟩ ++ x ++ ⟨#[41]⟩))
    rw [lst_app, lst_app]
    exact Bal.wrap h
theorem BB.nil : BB ⟨#[]⟩ := Bal.nil
theorem BB.lit {a : Array UInt8} (h : (a.toList.all fun c => c != 40 && c != 41) = true) : BB ⟨a⟩ := Bal.free fun c hc => by
  have := List.all_eq_true.1 h c hc
  simpa using this
def small (s : ByteArray) : Bool := (lst s).all fun c => decide (97 ≤ c) && decide (c ≤ 122)
theorem BB.small {s : ByteArray} (h : small s = true) : BB s := Bal.free fun c hc => by
  have := List.all_eq_true.1 h c hc
  rw [Bool.and_eq_true, decide_eq_true_eq, decide_eq_true_eq] at this
  constructor
  · rintro rfl; exact absurd this.1 (by decide)
  · rintro rfl; exact absurd this.1 (by decide)
theorem BB.dig (z : Int) : BB (dig z) := by
  have hd : ∀ u : Nat, ∀ c ∈ Lib.decDigits u, c ≠ 40 ∧ c ≠ 41 := fun u c hc => by
    have h := Dig.dec_plain u
    unfold Dig.plainB at h
    rw [Bool.and_eq_true, Bool.and_eq_true] at h
    have := Dig.isD_iff.1 (List.all_eq_true.1 h.1.2 c hc)
    constructor
    · rintro rfl; exact absurd this.1 (by decide)
    · rintro rfl; exact absurd this.1 (by decide)
  show Bal (Lib.itoa z)
  refine Bal.free fun c hc => ?_
  by_cases h : z < 0
  · rw [Dig.itoa_neg h] at hc
    rcases List.mem_cons.1 hc with rfl | hc
    · decide
    · exact hd _ c hc
  · rw [Dig.itoa_pos (by omega)] at hc
    exact hd _ c hc
theorem BB.join : ∀ {X : List ByteArray}, (∀ x ∈ X, BB x) → BB (joinC X)
  | [], _ => BB.nil
  | [x], h => h x (by simp)
  | x :: y :: l, h => by
    rw [joinC]
    exact (h x (by simp)).app (BB.app (BB.lit rfl) (BB.join fun z hz => h z (List.mem_cons_of_mem _ hz)))
theorem BB.getD {X : List ByteArray} (h : ∀ x ∈ X, BB x) (i : Nat) : BB (X.getD i ⟨#[]⟩) := by
  rw [List.getD_eq_getElem?_getD]
  cases e : X[i]? with
  | none => exact BB.nil
  | some x => exact h x (List.mem_of_getElem? e)
theorem BB.ap {s : ByteArray} (hs : BB s) {X : List ByteArray} (h : ∀ x ∈ X, BB x) : BB (apX s X) := by
  unfold apX; split
  · exact hs
  · exact hs.app ((BB.join h).par true)
mutual
def ltT : Tm → Bool
  | .mk _ s _ l => ltTs l && small s
def ltTs : List Tm → Bool
  | [] => true
  | t :: l => ltT t && ltTs l
end
theorem ltT_mk (t : Tm) : ltT t = (ltTs (argsT t) && small (nameT t)) := by cases t; rw [ltT]; rfl
theorem BB.bnd0 (z : Int) : BB (bnd [] z) := by
  unfold bnd; split
  · exact BB.getD (fun x hx => absurd hx (by simp)) _
  · exact BB.app (BB.lit rfl) (BB.dig _)
mutual
theorem tX_BB : ∀ t : Tm, ltT t = true → BB (tX [] t)
  | .mk o s z l, h => by
    rw [ltT, Bool.and_eq_true] at h
    have hs := tXs_BB l h.1
    have hg := fun i => BB.getD hs i
    rw [tX]
    unfold txB sdX
    repeat' split
    · exact BB.bnd0 z
    · exact BB.dig z
    · exact ((hg 0).par _).app (BB.app (BB.lit rfl) ((hg 1).par _))
    · exact ((hg 0).par _).app (BB.app (BB.lit rfl) ((hg 1).par _))
    · exact BB.app (BB.lit rfl) ((hg 0).par _)
    · exact ((BB.dig z).par _).app (BB.app (BB.lit rfl) ((hg 0).par _))
    · exact (BB.small h.2).ap hs
theorem tXs_BB : ∀ l : List Tm, ltTs l = true → ∀ x ∈ tXs [] l, BB x
  | [], _, x, hx => absurd hx (by simp [tXs])
  | t :: l, h, x, hx => by
    rw [ltTs, Bool.and_eq_true] at h
    rw [tXs] at hx
    rcases List.mem_cons.1 hx with rfl | hx
    · exact tX_BB t h.1
    · exact tXs_BB l h.2 x hx
end
mutual
def ltC : Cl → Bool
  | .mk o s _ ts l => (!(o == 11 || o == 12) && small s) && (ltTs ts && ltCs l)
def ltCs : List Cl → Bool
  | [] => true
  | c :: l => ltC c && ltCs l
end
theorem ltC_mk (c : Cl) : ltC c = ((!(opC c == 11 || opC c == 12) && small (nmC c)) && (ltTs (tsC c) && ltCs (subC c))) := by cases c; rw [ltC]; rfl
theorem lt_binds {c : Cl} (h : ltC c = true) : bindsC c = false := by
  rw [ltC_mk] at h
  simp at h
  unfold bindsC
  simp [h.1.1]
/-- a text that doesn't hang on what is taken, with its brackets closed -/
def QF (F : List ByteArray → Tx) : Prop := (∀ fr fr' fol fol', F fr [] fol = F fr' [] fol') ∧ ∀ fr fol, BB (F fr [] fol)
theorem cT_q {c : Cl} (h : bindsC c = false) {F : List ByteArray → Tx} (hq : QF F) (m : Int) : QF fun fr bs fol => cP c (F fr) bs m fol := by
  have hn : ∀ fol, nd c m fol = decide (m < loC (opC c)) := fun fol => by unfold nd; rw [h]; simp
  refine ⟨fun fr fr' fol fol' => ?_, fun fr fol => ?_⟩
  · show cP c (F fr) [] m fol = cP c (F fr') [] m fol'
    unfold cP
    rw [hn, hn, hq.1 fr fr' false false, hq.1 fr fr' fol fol']
  · show BB (cP c (F fr) [] m fol)
    unfold cP
    split
    · exact (hq.2 fr false).par true
    · exact hq.2 fr fol
theorem cXs_at (fr : List ByteArray) : ∀ (l : List Cl) (i : Nat), (cXs fr l)[i]? = (l[i]?).map (cX fr)
  | [], i => by rw [cXs]; simp
  | c :: l, 0 => by rw [cXs]; simp
  | c :: l, i + 1 => by rw [cXs]; simpa using cXs_at fr l i
theorem scX_q {l : List Cl} (h : ltCs l = true) (hq : ∀ c ∈ l, ltC c = true ∧ QF fun fr => cX fr c) (i : Nat) (m : Int) : QF fun fr bs fol => scX l (cXs fr l) i bs m fol := by
  unfold scX
  rw [List.getD_eq_getElem?_getD]
  cases e : l[i]? with
  | none =>
    have e2 : ∀ fr, (cXs fr l).getD i (fun _ _ => ⟨#[]⟩) = fun _ _ => ⟨#[]⟩ := fun fr => by rw [List.getD_eq_getElem?_getD, cXs_at, e]; rfl
    simp only [e2]
    exact cT_q (F := fun _ _ _ => ⟨#[]⟩) rfl ⟨fun _ _ _ _ => rfl, fun _ _ => BB.nil⟩ m
  | some c =>
    have e2 : ∀ fr, (cXs fr l).getD i (fun _ _ => ⟨#[]⟩) = cX fr c := fun fr => by rw [List.getD_eq_getElem?_getD, cXs_at, e]; rfl
    simp only [e2]
    obtain ⟨h1, h2⟩ := hq c (List.mem_of_getElem? e)
    exact cT_q (lt_binds h1) h2 m
theorem QF.app {F G : List ByteArray → Tx} (hF : QF F) (hG : QF G) (s : ByteArray) (hs : BB s) (f g : Bool → Bool) : QF fun fr bs fol => F fr bs (f fol) ++ (s ++ G fr bs (g fol)) :=
  ⟨fun fr fr' fol fol' => by show F fr [] (f fol) ++ _ = F fr' [] (f fol') ++ _; rw [hF.1 fr fr' (f fol) (f fol'), hG.1 fr fr' (g fol) (g fol')], fun fr fol => (hF.2 fr _).app (hs.app (hG.2 fr _))⟩
theorem QF.one {s : ByteArray} (h : BB s) : QF fun _ _ _ => s := ⟨fun _ _ _ _ => rfl, fun _ _ => h⟩
theorem QF.pre {F : List ByteArray → Tx} (hF : QF F) (s : ByteArray) (hs : BB s) : QF fun fr bs fol => s ++ F fr bs fol :=
  ⟨fun fr fr' fol fol' => by show s ++ F fr [] fol = s ++ F fr' [] fol'; rw [hF.1 fr fr' fol fol'], fun fr fol => hs.app (hF.2 fr fol)⟩
theorem sg_BB (o : Int) : BB (sgC o) := by
  unfold sgC
  repeat' split
  all_goals exact BB.lit rfl
mutual
theorem cX_q : ∀ c : Cl, ltC c = true → QF fun fr => cX fr c
  | .mk o s z ts l, h => by
    rw [ltC, Bool.and_eq_true, Bool.and_eq_true, Bool.and_eq_true] at h
    have hq := cXs_q l h.2.2
    have ht := tXs_BB ts h.2.1
    have hg := fun i => BB.getD ht i
    have ho : ¬(o = 11 ∨ o = 12) := by have := h.1.1; simpa using this
    by_cases h1 : o = 1
    · exact ⟨fun fr fr' fol fol' => by subst h1; show cX _ _ _ _ = cX _ _ _ _; rw [cX_true, cX_true], fun fr fol => by subst h1; show BB (cX _ _ _ _); rw [cX_true]; exact BB.lit rfl⟩
    by_cases h2 : o = 2
    · exact ⟨fun fr fr' fol fol' => by subst h2; show cX _ _ _ _ = cX _ _ _ _; rw [cX_false, cX_false], fun fr fol => by subst h2; show BB (cX _ _ _ _); rw [cX_false]; exact BB.lit rfl⟩
    by_cases h3 : o = 3
    · exact ⟨fun fr fr' fol fol' => by subst h3; show cX _ _ _ _ = cX _ _ _ _; rw [cX_pred, cX_pred], fun fr fol => by subst h3; show BB (cX _ _ _ _); rw [cX_pred]; exact (BB.small h.1.2).ap ht⟩
    by_cases h4 : o = 4
    · have e : ∀ fr fol, cX fr (.mk o s z ts l) [] fol = stX [] ts 0 ++ (⟨#[32, 61, 32]⟩ ++ stX [] ts 1) := fun fr fol => by subst h4; rw [cX]; rfl
      exact ⟨fun fr fr' fol fol' => by show cX _ _ _ _ = cX _ _ _ _; rw [e, e], fun fr fol => by show BB (cX _ _ _ _); rw [e]; exact (hg 0).app (BB.app (BB.lit rfl) (hg 1))⟩
    by_cases h5 : o = 5
    · have e : ∀ fr fol, cX fr (.mk o s z ts l) [] fol = stX [] ts 0 ++ (⟨#[32, 60, 61, 32]⟩ ++ stX [] ts 1) := fun fr fol => by subst h5; rw [cX]; rfl
      exact ⟨fun fr fr' fol fol' => by show cX _ _ _ _ = cX _ _ _ _; rw [e, e], fun fr fol => by show BB (cX _ _ _ _); rw [e]; exact (hg 0).app (BB.app (BB.lit rfl) (hg 1))⟩
    by_cases h6 : o = 6
    · have e : ∀ fr fol, cX fr (.mk o s z ts l) [] fol = ⟨#[126]⟩ ++ scX l (cXs fr l) 0 [] 0 fol := fun fr fol => by subst h6; rw [cX]; rfl
      have hs := (scX_q h.2.2 hq 0 0).pre ⟨#[126]⟩ (BB.lit rfl)
      exact ⟨fun fr fr' fol fol' => by show cX _ _ _ _ = cX _ _ _ _; rw [e, e]; exact hs.1 fr fr' fol fol', fun fr fol => by show BB (cX _ _ _ _); rw [e]; exact hs.2 fr fol⟩
    have e : ∀ fr fol, cX fr (.mk o s z ts l) [] fol = scX l (cXs fr l) 0 [] (loC o - 1) true ++ (sgC o ++ scX l (cXs fr l) 1 [] (loC o) fol) := fun fr fol => by
      rw [cX]; unfold cxB
      rw [if_neg h1, if_neg h2, if_neg h3, if_neg h4, if_neg h5, if_neg h6, if_neg ho]
    have hs := (scX_q h.2.2 hq 0 (loC o - 1)).app (scX_q h.2.2 hq 1 (loC o)) (sgC o) (sg_BB o) (fun _ => true) id
    exact ⟨fun fr fr' fol fol' => by show cX _ _ _ _ = cX _ _ _ _; rw [e, e]; exact hs.1 fr fr' fol fol', fun fr fol => by show BB (cX _ _ _ _); rw [e]; exact hs.2 fr fol⟩
theorem cXs_q : ∀ l : List Cl, ltCs l = true → ∀ c ∈ l, ltC c = true ∧ QF fun fr => cX fr c
  | [], _, c, hc => absurd hc (by simp)
  | d :: l, h, c, hc => by
    rw [ltCs, Bool.and_eq_true] at h
    rcases List.mem_cons.1 hc with e | hc
    · rw [e]; exact ⟨h.1, cX_q d h.1⟩
    · exact cXs_q l h.2 c hc
end
theorem nd5 (c : Cl) : nd c 5 false = false := by
  unfold nd loC
  have : ¬ (5 : Int) < if opC c = 10 then 4 else if opC c = 9 then 3 else if opC c = 8 then 2 else if opC c = 7 then 1 else 0 := by
    repeat' split
    all_goals omega
  rw [decide_eq_false this]; simp
theorem cT5 (fr : List ByteArray) (c : Cl) : cT fr c [] 5 false = cX fr c [] false := by unfold cT cP; rw [nd5]; rfl
/-- the text of two claims has both texts, each perhaps in brackets -/
theorem two_text (fr fa fb : List ByteArray) (o : Int) (ho : 7 ≤ o ∧ o ≤ 10) (s z : ByteArray) (a b : Cl) (ha : ltC a = true) (hb : ltC b = true) :
    ∃ p q : Bool, cT fr (.mk o s z [] [a, b]) [] 5 false = par p (cT fa a [] 5 false) ++ (sgC o ++ par q (cT fb b [] 5 false)) := by
  have qa := cX_q a ha
  have qb := cX_q b hb
  rw [cT5, cT5, cT5, cX_two fr o ho]
  refine ⟨nd a (loC o - 1) true, nd b (loC o) false, ?_⟩
  unfold cT cP
  have e1 := qa.1 fr fa true false
  have e2 := qa.1 fr fa false false
  have e3 := qb.1 fr fb false false
  dsimp only at e1 e2 e3
  rw [e1, e2, e3]
  cases nd a (loC o - 1) true <;> cases nd b (loC o) false <;> rfl
theorem text_BB (fr : List ByteArray) (c : Cl) (h : ltC c = true) : BB (cT fr c [] 5 false) := by rw [cT5]; exact (cX_q c h).2 fr false
end Go.Proofs.YtcigeclnbhcohaaGreatDoor.Sh
namespace Go.Proofs.YtcigeclnbhcohaaGreatDoor.Sh
open Go.RowKit L T C
set_option linter.unusedVariables false
set_option linter.unusedSimpArgs false
set_option maxRecDepth 100000

theorem small_any (s : ByteArray) (w : World) (hs : s.size ≤ 9223372036854775807) : Calls Tryz.prog 47 #[.string s] w fun e w' => e = .returned (.bool (small s)) ∧ w = w' := by
  have hst : ∀ k (h : k < s.size), ((lst s).drop k).all (fun c => decide (97 ≤ c) && decide (c ≤ 122)) = ((decide (97 ≤ s[k].toNat) && decide (s[k].toNat ≤ 122)) && ((lst s).drop (k + 1)).all (fun c => decide (97 ≤ c) && decide (c ≤ 122))) := fun k h => by
    rw [show (lst s).drop k = s[k] :: (lst s).drop (k + 1) from drop_at s k h, List.all_cons]
    rfl
  have he : ∀ k, s.size ≤ k → ((lst s).drop k).all (fun c => decide (97 ≤ c) && decide (c ≤ 122)) = true := fun k h => by rw [show (lst s).drop k = [] from drop_end s k h]; rfl
  have h0 : ((lst s).drop 0).all (fun c => decide (97 ≤ c) && decide (c ≤ 122)) = small s := rfl
  obtain ⟨F, hF⟩ : ∃ F : Nat → Bool, ∀ k, ((lst s).drop k).all (fun c => decide (97 ≤ c) && decide (c ≤ 122)) = F k := ⟨_, fun _ => rfl⟩
  simp only [hF] at hst he h0
  generalize small s = R at *
  have Hst := Lib.hid hst
  have He := Lib.hid he
  have H0 := Lib.hid h0
  clear hst he h0 hF
  go_enter Tryz.func47, Tryz.ntmps47
  go_wp2
  go_loop [6] (fun n => ∃ k : Nat, k ≤ s.size ∧ n = .int .i64 k ∧ Hid (F k = R)) (fun n => s.size - (intOf n).toNat)
  case atStart => exact ⟨0, by omega, rfl, H0⟩
  case round =>
    obtain ⟨k, hk, rfl, hR⟩ := hrel
    by_cases hlt : k < s.size
    · have hs1 := Lib.hid (Hst.out k hlt)
      have hk0 : 0 ≤ (k : Int) := by omega
      have hk1 : (k : Int) < (s.size : Int) := by omega
      by_cases h1 : s[k].toNat < 97
      · have q1 : decide ((s[k].toNat : Int) < 97) = true := decide_eq_true (by omega)
        have hnew : Hid (false = R) := Lib.hid (by rw [← hR.out, hs1.out, decide_eq_false (by omega : ¬ 97 ≤ s[k].toNat)]; rfl)
        clear hR hs1
        go_wp2
        go_ret
        exact ⟨oneB hnew.out, rfl⟩
      · have q1 : decide ((s[k].toNat : Int) < 97) = false := decide_eq_false (by omega)
        by_cases h2 : s[k].toNat ≤ 122
        · have q2 : decide ((s[k].toNat : Int) > 122) = false := decide_eq_false (by omega)
          have hnew : Hid (F (k + 1) = R) := Lib.hid (by rw [← hR.out, hs1.out, decide_eq_true (by omega : 97 ≤ s[k].toNat), decide_eq_true h2]; rfl)
          clear hR hs1
          go_wp2
          go_round
          case rel => exact ⟨k + 1, by omega, by go_num, hnew⟩
          case measure => simp [intOf]; omega
        · have q2 : decide ((s[k].toNat : Int) > 122) = true := decide_eq_true (by omega)
          have hnew : Hid (false = R) := Lib.hid (by rw [← hR.out, hs1.out, decide_eq_false h2, Bool.and_false]; rfl)
          clear hR hs1
          go_wp2
          go_ret
          exact ⟨oneB hnew.out, rfl⟩
    · have hnew : Hid (true = R) := Lib.hid (by rw [← hR.out, He.out k (by omega)])
      clear hR
      go_wp2
      go_ret
      exact ⟨oneB hnew.out, rfl⟩
def LtTOk (t : Tm) : Prop := ∀ (a : Option Addr) (n c : Nat) (w : World), smZ t → ArW w t a n c →
  Calls Tryz.prog 48 #[.agg #[.int .i64 (opT t), .string (nameT t), .int .i64 (numT t), .slice a n c]] w fun e w' => e = .returned (.bool (ltT t)) ∧ Below w.heap.size w w'
set_option maxHeartbeats 4000000 in
theorem ltT_step (t : Tm) (hok : ∀ x ∈ argsT t, LtTOk x) : LtTOk t := by
  intro a n c w hz hA
  obtain ⟨W2, hW2, hB2, hs2, S2⟩ := box1 w (opT t) (nameT t) (numT t) a n c
  have hT := TsW.b (ArW.args hA) hB2
  have hzs := smZ_args hz
  have hzn := smZ_name hz
  rw [ltT_mk]
  generalize hl : argsT t = l at *
  have hst : ∀ k x, l[k]? = some x → ltTs (l.drop k) = (ltT x && ltTs (l.drop (k + 1))) := fun k x h => by rw [drop_t h, ltTs]
  have he : ∀ k, n ≤ k → ltTs (l.drop k) = true := fun k h => by rw [List.drop_eq_nil_of_le (by rw [← hT.1]; exact h), ltTs]
  have hn : n ≤ 9223372036854775807 := by have h1 := hT.2.1; have h2 := hT.2.2.1; unfold maxLen at h2; omega
  have hk2 : ∀ k x, l[k]? = some x → LtTOk x ∧ smZ x := fun k x h => ⟨hok x (List.mem_of_getElem? h), smZs_at hzs h⟩
  have h0 : ltTs l = ltTs (l.drop 0) := rfl
  rw [h0]
  obtain ⟨F, hF⟩ : ∃ F : Nat → Bool, ∀ k, ltTs (l.drop k) = F k := ⟨_, fun _ => rfl⟩
  simp only [hF] at hst he ⊢
  generalize hRR : F 0 = R
  have HR0 := Lib.hid hRR
  have hzn2 : (nameT t).size ≤ 9223372036854775807 := by unfold maxLen at hzn; omega
  clear hRR hF h0 hok hzs hzn hz
  obtain ⟨s0, s1, s2, s3⟩ := S2.four
  have H1 := Lib.hid hT
  have Hst := Lib.hid hst
  have He := Lib.hid he
  have HK := Lib.hid hk2
  have HS := Lib.hid S2
  clear hA hT hst he hk2 S2 hl s0 s1 s2
  generalize opT t = op at *
  generalize nameT t = nm at *
  generalize numT t = nu at *
  have cS := fun (W : World) => small_any nm W hzn2
  generalize small nm = sm at *
  go_enter Tryz.func48, Tryz.ntmps48
  go_wp2
  go_loopw [8] (fun i wr0 => ∃ (wr : World) (k : Nat), wr = wr0 ∧ k ≤ n ∧ i = .int .i64 k ∧ Below W2.heap.size W2 wr ∧ Hid (F k = R)) (fun i _ => n - (intOf i).toNat)
  case atStart => exact ⟨_, 0, rfl, by omega, rfl, Below.refl _ _, HR0⟩
  case round =>
    obtain ⟨wr, k, rfl, hk, rfl, hB, hR⟩ := hrel
    obtain ⟨_, s1r, _, s3r⟩ := (TBox.b HS.out hB).four
    by_cases hlt : k < n
    · obtain ⟨bb, o, x, A, M, Cc, rfl, hb, y0, y1, y2, y3, hx, hok⟩ := (TsW.b H1.out hB).at hlt
      have hs1 := Lib.hid (Hst.out k x hx)
      obtain ⟨W4, hW4, hB4, hs4, S4⟩ := box1 wr (opT x) (nameT x) (numT x) A M Cc
      have cs := (HK.out k x hx).1 A M Cc W4 (HK.out k x hx).2 (ArW.b hok hB4)
      obtain ⟨t0, t1, t2, t3⟩ := S4.four
      clear hx hok H1 Hst HK HS S4 hs4
      generalize opT x = op' at *
      generalize nameT x = nm' at *
      generalize numT x = nu' at *
      have hk0 : 0 ≤ (k : Int) := by omega
      have hk1 : (k : Int) < (n : Int) := by omega
      cases hsx : ltT x with
      | true =>
        have hnew : Hid (F (k + 1) = R) := by show _ = _; rw [← hR.out, hs1.out, hsx, Bool.true_and]
        rw [hsx] at cs
        clear hR hs1 hsx
        go_wp2_with (go_at_call 48; ((with_reducible refine cs.mono ?_); rintro e w4 ⟨rfl, hb4⟩))
        go_roundw
        case rel => exact ⟨_, k + 1, rfl, by omega, by go_num, bel_trans (bel_trans hB hB4) hb4, hnew⟩
        case measure => simp [intOf]; omega
      | false =>
        have hnew : Hid (R = false) := by show _ = _; rw [← hR.out, hs1.out, hsx, Bool.false_and]
        rw [hsx] at cs
        clear hR hs1 hsx
        go_wp2_with (go_at_call 48; ((with_reducible refine cs.mono ?_); rintro e w4 ⟨rfl, hb4⟩))
        go_ret
        exact ⟨by rw [hnew.out, Bool.false_and]; rfl, bel_trans hB2 (bel_trans (bel_trans hB hB4) hb4)⟩
    · have hnew : Hid (R = true) := by show _ = _; rw [← hR.out, He.out k (by omega)]
      clear hR
      go_wp2_with (go_at_call 47; ((with_reducible refine (cS _).mono ?_); rintro e w4 ⟨rfl, rfl⟩))
      go_ret
      exact ⟨by rw [hnew.out, Bool.true_and]; rfl, bel_trans hB2 hB⟩
theorem ltT_any (t : Tm) : LtTOk t := Tm.ind ltT_step t
def LtCOk (t : Cl) : Prop := ∀ (ks : SS) (a : Option Addr) (n c : Nat) (w : World), smC t → ArWC w t ks a n c →
  Calls Tryz.prog 27 #[.agg #[.int .i64 (opC t), .string (nmC t), .string (soC t), .slice ks.a ks.n ks.c, .slice a n c]] w fun e w' => e = .returned (.bool (ltC t)) ∧ Below w.heap.size w w'
set_option maxHeartbeats 8000000 in
theorem ltC_step (t : Cl) (hok : ∀ x ∈ subC t, LtCOk x) : LtCOk t := by
  intro ks a n c w hz hA
  obtain ⟨ka, kn, kc⟩ := ks
  obtain ⟨W2, hW2, hB2, hs2, S2⟩ := cbox1 w (opC t) (nmC t) (soC t) ⟨ka, kn, kc⟩ a n c
  have hT := TsW.b (ArWC.terms hA) hB2
  have hC := CsW.b (ArWC.subs hA) hB2
  dsimp only at hT hW2
  obtain ⟨hzn, hzo, hzt, hzs⟩ := smC_mk hz
  rw [ltC_mk]
  have hst : ∀ k x, (tsC t)[k]? = some x → ltTs ((tsC t).drop k) = (ltT x && ltTs ((tsC t).drop (k + 1))) := fun k x h => by rw [drop_t h, ltTs]
  have he : ∀ k, kn ≤ k → ltTs ((tsC t).drop k) = true := fun k h => by rw [List.drop_eq_nil_of_le (by rw [← hT.1]; exact h), ltTs]
  have hst' : ∀ k x, (subC t)[k]? = some x → ltCs ((subC t).drop k) = (ltC x && ltCs ((subC t).drop (k + 1))) := fun k x h => by rw [drop_c h, ltCs]
  have he' : ∀ k, n ≤ k → ltCs ((subC t).drop k) = true := fun k h => by rw [List.drop_eq_nil_of_le (by rw [← hC.1]; exact h), ltCs]
  have hn : n ≤ 9223372036854775807 := by have h1 := hC.2.1; have h2 := hC.2.2.1; unfold maxLen at h2; omega
  have hkn : kn ≤ 9223372036854775807 := by have h1 := hT.2.1; have h2 := hT.2.2.1; unfold maxLen at h2; omega
  have hkt : ∀ k x, (tsC t)[k]? = some x → smZ x := fun k x h => smZs_at hzt h
  have hkc : ∀ k x, (subC t)[k]? = some x → LtCOk x ∧ smC x := fun k x h => ⟨hok x (List.mem_of_getElem? h), smCs_at hzs h⟩
  rw [show ltTs (tsC t) = ltTs ((tsC t).drop 0) from rfl, show ltCs (subC t) = ltCs ((subC t).drop 0) from rfl]
  generalize tsC t = lt at *
  generalize subC t = lc at *
  obtain ⟨F, hF⟩ : ∃ F : Nat → Bool, ∀ k, ltTs (lt.drop k) = F k := ⟨_, fun _ => rfl⟩
  obtain ⟨G, hG⟩ : ∃ G : Nat → Bool, ∀ k, ltCs (lc.drop k) = G k := ⟨_, fun _ => rfl⟩
  simp only [hF] at hst he ⊢
  simp only [hG] at hst' he' ⊢
  generalize hRR : F 0 = R
  have HR0 := Lib.hid hRR
  generalize hGG : G 0 = R'
  have HG0 := Lib.hid hGG
  have hzn2 : (nmC t).size ≤ 9223372036854775807 := by unfold maxLen at hzn; omega
  have hzo2 : (soC t).size ≤ 9223372036854775807 := by unfold maxLen at hzo; omega
  clear hRR hGG hF hG hok hzs hzn hzo hzt hz
  obtain ⟨s0, s1, s2, s3, s4⟩ := S2.five
  have H1 := Lib.hid hT
  have H2 := Lib.hid hC
  have Hst := Lib.hid hst
  have He := Lib.hid he
  have Hst' := Lib.hid hst'
  have He' := Lib.hid he'
  have HT := Lib.hid hkt
  have HK := Lib.hid hkc
  have HS := Lib.hid S2
  clear hA hT hC hst he hst' he' hkt hkc S2 s2 s4
  generalize opC t = op at *
  generalize nmC t = nm at *
  generalize soC t = so at *
  dsimp only at s3
  have cS := fun (W : World) => small_any nm W hzn2
  generalize small nm = sm at *
  obtain ⟨Z, hZ⟩ : ∃ Z, ((!(op == 11 || op == 12) && sm) && (R && R')) = Z := ⟨_, rfl⟩
  rw [hZ]
  have HZ := Lib.hid hZ
  clear hZ
  cases h11 : (op == 11)
  rotate_left
  · have hRes : Hid (false = Z) := Lib.hid (by rw [← HZ.out, h11]; rfl)
    go_enter Tryz.func27, Tryz.ntmps27
    go_wp2
    go_ret
    exact ⟨oneB hRes.out, hB2⟩
  cases h12 : (op == 12)
  rotate_left
  · have hRes : Hid (false = Z) := Lib.hid (by rw [← HZ.out, h11, h12]; rfl)
    go_enter Tryz.func27, Tryz.ntmps27
    go_wp2
    go_ret
    exact ⟨oneB hRes.out, hB2⟩
  cases sm
  · have hRes : Hid (false = Z) := Lib.hid (by rw [← HZ.out, h11, h12]; rfl)
    go_enter Tryz.func27, Tryz.ntmps27
    go_wp2_with (go_at_call 47; ((with_reducible refine (cS _).mono ?_); rintro e w4 ⟨rfl, rfl⟩))
    go_ret
    exact ⟨oneB hRes.out, hB2⟩
  have HZ1 : Hid ((R && R') = Z) := Lib.hid (by rw [← HZ.out, h11, h12]; rfl)
  clear HZ
  have HZ := HZ1
  clear HZ1
  go_enter Tryz.func27, Tryz.ntmps27
  go_wp2_with (go_at_call 47; ((with_reducible refine (cS _).mono ?_); rintro e w4 ⟨rfl, rfl⟩))
  go_loopw [24] (fun i wr0 => ∃ (wr : World) (k : Nat), wr = wr0 ∧ k ≤ kn ∧ i = .int .i64 k ∧ Below W2.heap.size W2 wr ∧ Hid (F k = R)) (fun i _ => kn - (intOf i).toNat)
  case atStart => exact ⟨_, 0, rfl, by omega, rfl, Below.refl _ _, HR0⟩
  case round =>
    obtain ⟨wr, k, rfl, hk, rfl, hB, hR⟩ := hrel
    obtain ⟨_, _, _, s3r, s4r⟩ := (CBox.b HS.out hB).five
    dsimp only at s3r
    by_cases hlt : k < kn
    · obtain ⟨bb, o, x, A, M, Cc, rfl, hb, y0, y1, y2, y3, hx, hok⟩ := (TsW.b H1.out hB).at hlt
      have hs1 := Lib.hid (Hst.out k x hx)
      obtain ⟨W4, hW4, hB4, hs4, S4⟩ := box1 wr (opT x) (nameT x) (numT x) A M Cc
      have cs := ltT_any x A M Cc W4 (HT.out k x hx) (ArW.b hok hB4)
      obtain ⟨t0, t1, t2, t3⟩ := S4.four
      clear hx hok H1 H2 Hst Hst' He' HG0 HT HK HS S4 hs4
      generalize opT x = op' at *
      generalize nameT x = nm' at *
      generalize numT x = nu' at *
      have hk0 : 0 ≤ (k : Int) := by omega
      have hk1 : (k : Int) < (kn : Int) := by omega
      cases hsx : ltT x with
      | true =>
        have hnew : Hid (F (k + 1) = R) := by show _ = _; rw [← hR.out, hs1.out, hsx, Bool.true_and]
        rw [hsx] at cs
        clear hR hs1 hsx
        go_wp2_with (go_at_call 48; ((with_reducible refine cs.mono ?_); rintro e w4 ⟨rfl, hb4⟩))
        go_roundw
        case rel => exact ⟨_, k + 1, rfl, by omega, by go_num, bel_trans (bel_trans hB hB4) hb4, hnew⟩
        case measure => simp [intOf]; omega
      | false =>
        have hnew : Hid (R = false) := by show _ = _; rw [← hR.out, hs1.out, hsx, Bool.false_and]
        rw [hsx] at cs
        clear hR hs1 hsx
        go_wp2_with (go_at_call 48; ((with_reducible refine cs.mono ?_); rintro e w4 ⟨rfl, hb4⟩))
        go_ret
        exact ⟨oneB (show false = Z by rw [← HZ.out, hnew.out, Bool.false_and]), bel_trans hB2 (bel_trans (bel_trans hB hB4) hb4)⟩
    · have hR1 : Hid (R = true) := by show _ = _; rw [← hR.out, He.out k (by omega)]
      clear hR H1 HT Hst He HR0
      go_wp2
      go_loopw [35] (fun i wr0 => ∃ (wq : World) (k : Nat), wq = wr0 ∧ k ≤ n ∧ i = .int .i64 k ∧ Below W2.heap.size W2 wq ∧ Hid (G k = R')) (fun i _ => n - (intOf i).toNat)
      case atStart => exact ⟨_, 0, rfl, by omega, rfl, hB, HG0⟩
      case round =>
        obtain ⟨wq, j, rfl, hj, rfl, hQ, hR⟩ := hrel
        obtain ⟨_, s1q, s2q, _, s4q⟩ := (CBox.b HS.out hQ).five
        by_cases hlt : j < n
        · obtain ⟨bb, o, x, k, A, M, Cc, rfl, hb, y0, y1, y2, y3, y4, hx, hok⟩ := (CsW.b H2.out hQ).at hlt
          have hs1 := Lib.hid (Hst'.out j x hx)
          obtain ⟨W4, hW4, hB4, hs4, S4⟩ := cbox1 wq (opC x) (nmC x) (soC x) k A M Cc
          have cs := (HK.out j x hx).1 k A M Cc W4 (HK.out j x hx).2 (ArWC.b hok hB4)
          obtain ⟨t0, t1, t2, t3, t4⟩ := S4.five
          clear hx hok H2 Hst' HK HS S4 hs4
          generalize opC x = op' at *
          generalize nmC x = nm' at *
          generalize soC x = so' at *
          have hk0 : 0 ≤ (j : Int) := by omega
          have hk1 : (j : Int) < (n : Int) := by omega
          cases hsx : ltC x with
          | true =>
            have hnew : Hid (G (j + 1) = R') := by show _ = _; rw [← hR.out, hs1.out, hsx, Bool.true_and]
            rw [hsx] at cs
            clear hR hs1 hsx
            go_wp2_with (go_at_call 27; ((with_reducible refine cs.mono ?_); rintro e w4 ⟨rfl, hb4⟩))
            go_roundw
            case rel => exact ⟨_, j + 1, rfl, by omega, by go_num, bel_trans (bel_trans hQ hB4) hb4, hnew⟩
            case measure => simp [intOf]; omega
          | false =>
            have hnew : Hid (R' = false) := by show _ = _; rw [← hR.out, hs1.out, hsx, Bool.false_and]
            rw [hsx] at cs
            clear hR hs1 hsx
            go_wp2_with (go_at_call 27; ((with_reducible refine cs.mono ?_); rintro e w4 ⟨rfl, hb4⟩))
            go_ret
            exact ⟨oneB (show false = Z by rw [← HZ.out, hnew.out, Bool.and_false]), bel_trans hB2 (bel_trans (bel_trans hQ hB4) hb4)⟩
        · have hnew : Hid (R' = true) := by show _ = _; rw [← hR.out, He'.out j (by omega)]
          clear hR H2 Hst' He' HK HS HG0
          have hRes : Hid (true = Z) := Lib.hid (by rw [← HZ.out, hR1.out, hnew.out]; rfl)
          go_wp2
          go_ret
          exact ⟨oneB hRes.out, bel_trans hB2 hQ⟩
theorem ltC_any (t : Cl) : LtCOk t := Cl.ind ltC_step t
end Go.Proofs.YtcigeclnbhcohaaGreatDoor.Sh
