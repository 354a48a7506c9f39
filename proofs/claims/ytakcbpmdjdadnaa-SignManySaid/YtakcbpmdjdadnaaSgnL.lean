/-
  What is proved: what is found of a name, by package sign and by the document's answers.
-/
import Derived.Test.YtakcbpmdjdadnaaSgnE
import Derived.Test.YtakcbpmdjdadnaaSgnJ
namespace Go.Proofs.Ytakcbpmdjdadnaa.Sgn
open Go.RowKit L Srt
set_option linter.unusedVariables false
set_option linter.unusedSimpArgs false

def zeroC : Core := (⟨#[]⟩, [], ⟨#[]⟩)
def findC (K : List Core) (s : ByteArray) : Core := (K[idxK K s]?).getD zeroC
def FindPost (K : List Core) (s : ByteArray) (w : World) (e : Ending) (w' : World) : Prop :=
  ∃ f : Fm, e = .returned (.tuple #[.agg #[.string f.name, .slice f.a f.m f.c, .string f.res], .bool (hasN K s)]) ∧ f.ok w' ∧ f.core = findC K s ∧ Below w.heap.size w w'
theorem find_no {K : List Core} {s : ByteArray} (h : posK K s < 0) : findC K s = zeroC ∧ hasN K s = false := by
  have hl : K.length ≤ idxK K s := by unfold posK at h; split at h <;> omega
  refine ⟨?_, ?_⟩
  · unfold findC; rw [List.getElem?_eq_none hl]; rfl
  · rw [← posK_has]; exact decide_eq_false (by omega)
theorem find_yes {K : List Core} {s : ByteArray} (h : ¬ posK K s < 0) : ∃ k : Nat, posK K s = (k : Int) ∧ k < K.length ∧ K[k]? = some (findC K s) ∧ hasN K s = true := by
  have hl : idxK K s < K.length := by
    refine Nat.lt_of_not_le fun hle => h ?_
    unfold posK; rw [if_neg (by omega)]; omega
  refine ⟨idxK K s, by unfold posK; rw [if_pos hl], hl, ?_, by rw [← posK_has]; exact decide_eq_true (by omega)⟩
  unfold findC
  rw [List.getElem?_eq_getElem hl]; rfl
theorem FBox.put1 {w : World} {g : Nat} {s : ByteArray} {a : Option Addr} {m c : Nat} {r : ByteArray} (h : FBox w g s a m c r) (a' : Option Addr) (m' c' : Nat) : FBox (w.setCell ⟨g, 1, none⟩ (.slice a' m' c')) g s a' m' c' r := Blk.set h 1 _
theorem FBox.put {w : World} {g : Nat} {s : ByteArray} {a : Option Addr} {m c : Nat} {r : ByteArray} (h : FBox w g s a m c r) (s' : ByteArray) (a' : Option Addr) (m' c' : Nat) (r' : ByteArray) : FBox (((w.setCell ⟨g, 0, none⟩ (.string s')).setCell ⟨g, 1, none⟩ (.slice a' m' c')).setCell ⟨g, 2, none⟩ (.string r')) g s' a' m' c' r' := ((Blk.set h 0 _).set 1 _).set 2 _
theorem FBox.far {w : World} {g g' : Nat} {s : ByteArray} {a : Option Addr} {m c : Nat} {r : ByteArray} (h : FBox w g s a m c r) (hne : g' ≠ g) (k : Nat) (v : Value) : FBox (w.setCell ⟨g', k, none⟩ v) g s a m c r := Blk.far h hne k v
theorem FBox.free {w : World} {g : Nat} {s : ByteArray} {a : Option Addr} {m c : Nat} {r : ByteArray} (h : FBox w g s a m c r) : w.frozen? ⟨g, 0, none⟩ = false ∧ w.frozen? ⟨g, 1, none⟩ = false ∧ w.frozen? ⟨g, 2, none⟩ = false := ⟨Blk.free h 0, Blk.free h 1, Blk.free h 2⟩
theorem SBox.put {w : World} {g : Nat} {a : Option Addr} {n c : Nat} {b : Option Addr} {m d : Nat} (h : SBox w g a n c b m d) (a' : Option Addr) (n' c' : Nat) (b' : Option Addr) (m' d' : Nat) : SBox ((w.setCell ⟨g, 0, none⟩ (.slice a' n' c')).setCell ⟨g, 1, none⟩ (.slice b' m' d')) g a' n' c' b' m' d' := (Blk.set h 0 _).set 1 _
theorem SBox.far {w : World} {g g' : Nat} {a : Option Addr} {n c : Nat} {b : Option Addr} {m d : Nat} (h : SBox w g a n c b m d) (hne : g' ≠ g) (k : Nat) (v : Value) : SBox (w.setCell ⟨g', k, none⟩ v) g a n c b m d := Blk.far h hne k v
theorem SBox.free {w : World} {g : Nat} {a : Option Addr} {n c : Nat} {b : Option Addr} {m d : Nat} (h : SBox w g a n c b m d) : w.frozen? ⟨g, 0, none⟩ = false ∧ w.frozen? ⟨g, 1, none⟩ = false := ⟨Blk.free h 0, Blk.free h 1⟩
/-- three cells written -/
theorem SlS.far3 {w : World} {A : Option Addr} {n c : Nat} {X : List ByteArray} {g : Nat} (h : SlS w A n c X) (ho : Off g A n) (v0 v1 v2 : Value) : SlS (((w.setCell ⟨g, 0, none⟩ v0).setCell ⟨g, 1, none⟩ v1).setCell ⟨g, 2, none⟩ v2) A n c X := SlS.far (SlS.far (SlS.far h ho 0 v0) ho 1 v1) ho 2 v2
theorem below_set3 {B g : Nat} {w0 w : World} (h : Below B w0 w) (hg : B ≤ g) (v0 v1 v2 : Value) : Below B w0 (((w.setCell ⟨g, 0, none⟩ v0).setCell ⟨g, 1, none⟩ v1).setCell ⟨g, 2, none⟩ v2) :=
  ((h.setCell (p := ⟨g, 0, none⟩) hg v0).setCell (p := ⟨g, 1, none⟩) hg v1).setCell (p := ⟨g, 2, none⟩) hg v2
theorem below_set2 {B g : Nat} {w0 w : World} (h : Below B w0 w) (hg : B ≤ g) (v0 v1 : Value) : Below B w0 ((w.setCell ⟨g, 0, none⟩ v0).setCell ⟨g, 1, none⟩ v1) :=
  (h.setCell (p := ⟨g, 0, none⟩) hg v0).setCell (p := ⟨g, 1, none⟩) hg v1
/-- a signature and an empty function put into blocks -/
theorem boxesF (w : World) (a : Option Addr) (n c : Nat) (b : Option Addr) (m d : Nat) :
    ∃ W, (w.alloc (.cells #[.slice a n c, .slice b m d] 25)).alloc (.cells #[.string ⟨#[]⟩, .slice none 0 0, .string ⟨#[]⟩] 27) = W ∧ Below w.heap.size w W ∧ SBox W w.heap.size a n c b m d ∧ FBox W (w.heap.size + 1) ⟨#[]⟩ none 0 0 ⟨#[]⟩ := boxes w a n c b m d _ _ _ _ _

set_option maxHeartbeats 4000000 in
theorem refFind_any (a : Option Addr) (n c : Nat) (b : Option Addr) (m d : Nat) (G : List Fm) (s : ByteArray) (w : World) (hG : SlG w b m d G) (hm : m ≤ 1000000) :
    Calls Try.prog 21 #[.agg #[.slice a n c, .slice b m d], .string s] w (FindPost (cores G) s w) := by
  obtain ⟨W2, hW2, hB2, S2, F2⟩ := boxesF w a n c b m d
  have cP := refPlace_any s b m d G W2 (hG.below hB2).1 (by omega)
  have hlen : (cores G).length = m := by rw [cores_len]; exact hG.1.1.symm
  obtain ⟨s0, s1⟩ := S2.two
  obtain ⟨f0, f1, f2⟩ := F2.three
  obtain ⟨q0, q1, q2⟩ := F2.free
  by_cases hp : posK (cores G) s < 0
  · obtain ⟨h1, h2⟩ := find_no hp
    have HP : Hid (FindPost (cores G) s = fun w e w' => ∃ f : Fm, e = .returned (.tuple #[.agg #[.string f.name, .slice f.a f.m f.c, .string f.res], .bool false]) ∧ f.ok w' ∧ f.core = zeroC ∧ Below w.heap.size w w') := by
      show _ = _; unfold FindPost; rw [h1, h2]
    rw [HP.out]
    generalize posK (cores G) s = P at *
    have e1 := F2.put ⟨#[]⟩ none 0 0 ⟨#[]⟩
    obtain ⟨x0, x1, x2⟩ := e1.three
    have hfin := below_set3 hB2 (Nat.le_succ w.heap.size) (.string ⟨#[]⟩) (.slice none 0 0) (.string ⟨#[]⟩)
    clear h1 h2 HP hG
    go_enter Try.func21, Try.ntmps21
    go_wp2_with (go_at_call 32; ((with_reducible refine cP.mono ?_); rintro e w' ⟨rfl, rfl⟩))
    simp [bodyPost, results, Try.results21, go_sem, x0, x1, x2]
    exact ⟨⟨⟨#[]⟩, none, 0, 0, [], ⟨#[]⟩⟩, ⟨rfl, ⟨rfl, rfl, rfl⟩, rfl⟩, SlS.nul _, rfl, hfin⟩
  · obtain ⟨k, hk, hkl, hK, hh⟩ := find_yes hp
    have hkm : k < m := by rw [← hlen]; exact hkl
    obtain ⟨bb, o, f, rfl, hb, y1, y2, y3, hx, hok⟩ := (hG.below hB2).1.at hkm
    have hcore : f.core = findC (cores G) s := by
      have := cores_at hx
      rw [hK] at this
      exact (Option.some.inj this).symm
    have hoff : Off (w.heap.size + 1) f.a f.m := off_old (hG.1.2.2 f (List.mem_of_getElem? hx)) (Nat.le_succ _)
    have hok7 : f.ok _ := SlS.far3 hok hoff (.string f.name) (.slice f.a f.m f.c) (.string f.res)
    have hfin := below_set3 hB2 (Nat.le_succ w.heap.size) (.string f.name) (.slice f.a f.m f.c) (.string f.res)
    have HP : Hid (FindPost (cores G) s = fun w e w' => ∃ f2 : Fm, e = .returned (.tuple #[.agg #[.string f2.name, .slice f2.a f2.m f2.c, .string f2.res], .bool true]) ∧ f2.ok w' ∧ f2.core = f.core ∧ Below w.heap.size w w') := by
      show _ = _; unfold FindPost; rw [hcore, hh]
    rw [HP.out]
    rw [hk] at cP
    have e1 := F2.put f.name f.a f.m f.c f.res
    obtain ⟨x0, x1, x2⟩ := e1.three
    have hk0 : 0 ≤ (k : Int) := by omega
    have hk1 : (k : Int) < (m : Int) := by omega
    clear hp hk hkl hK hh hcore hoff HP hG hx hok
    have Hok := Lib.hid hok7
    have Hfin := Lib.hid hfin
    clear hok7 hfin
    go_enter Try.func21, Try.ntmps21
    go_wp2_with (go_at_call 32; ((with_reducible refine cP.mono ?_); rintro e w' ⟨rfl, rfl⟩))
    simp [bodyPost, results, Try.results21, go_sem, x0, x1, x2]
    exact ⟨f, ⟨rfl, ⟨rfl, rfl, rfl⟩, rfl⟩, Hok.out, rfl, Hfin.out⟩

theorem cloneSl (A : Option Addr) (n c : Nat) (X : List ByteArray) (w' : World) (h : SlS w' A n c X) (hn : n ≤ 100000000) :
    Calls Try.prog 44 #[.slice A n c] w' fun e w1 => ∃ A' c', e = .returned (.slice A' n c') ∧ OwnS w1 w'.heap.size (.slice A' n c') X ∧ Below w'.heap.size w' w1 :=
  (Clone_any A n c X w' h hn).mono fun e w1 ⟨v, he, ho, hb⟩ => by
    obtain ⟨A', c', rfl, _⟩ := ho.slS
    rw [← h.1.1] at ho he
    exact ⟨A', c', he, ho, hb⟩
theorem own_sl {w : World} {base : Nat} {A : Option Addr} {n c : Nat} {X : List ByteArray} (h : OwnS w base (.slice A n c) X) (hn : n = X.length) : SlS w A n c X := by
  obtain ⟨A', c', hv, hS⟩ := h.slS
  injection hv with h1 h2 h3
  subst h1 h3
  rw [hn]; exact hS

set_option maxHeartbeats 4000000 in
theorem Find_any (a : Option Addr) (n c : Nat) (b : Option Addr) (m d : Nat) (G : List Fm) (s : ByteArray) (w : World) (hG : SlG w b m d G) (hm : m ≤ 1000000) (hK : okK (cores G)) :
    Calls Try.prog 20 #[.agg #[.slice a n c, .slice b m d], .string s] w (FindPost (cores G) s w) := by
  obtain ⟨W2, hW2, hB2, S2, F2⟩ := boxesF w a n c b m d
  have cP := place_any s b m d G W2 (hG.below hB2).1 (by omega)
  have hlen : (cores G).length = m := by rw [cores_len]; exact hG.1.1.symm
  obtain ⟨s0, s1⟩ := S2.two
  have lt2 := Blk.lt S2
  have lt3 := Blk.lt F2
  by_cases hp : posK (cores G) s < 0
  · obtain ⟨h1, h2⟩ := find_no hp
    have HP : Hid (FindPost (cores G) s = fun w e w' => ∃ f : Fm, e = .returned (.tuple #[.agg #[.string f.name, .slice f.a f.m f.c, .string f.res], .bool false]) ∧ f.ok w' ∧ f.core = zeroC ∧ Below w.heap.size w w') := by
      show _ = _; unfold FindPost; rw [h1, h2]
    rw [HP.out]
    generalize posK (cores G) s = P at *
    have hput := fun (w' : World) (h : Below W2.heap.size W2 w') => (F2.b h).put ⟨#[]⟩ none 0 0 ⟨#[]⟩
    clear h1 h2 HP hG
    have Hput := Lib.hid hput
    clear hput
    go_enter Try.func20, Try.ntmps20
    go_wp2_with (go_at_call 30; ((with_reducible refine cP.mono ?_); rintro e w3 ⟨rfl, hb3⟩; obtain ⟨f0, f1, f2⟩ := (F2.b hb3).three; obtain ⟨q0, q1, q2⟩ := (F2.b hb3).free))
    obtain ⟨x0, x1, x2⟩ := (Hput.out w3 hb3).three
    have hfin := below_set3 (bel_trans hB2 hb3) (Nat.le_succ w.heap.size) (.string ⟨#[]⟩) (.slice none 0 0) (.string ⟨#[]⟩)
    simp [bodyPost, results, Try.results20, go_sem, x0, x1, x2]
    exact ⟨⟨⟨#[]⟩, none, 0, 0, [], ⟨#[]⟩⟩, ⟨rfl, ⟨rfl, rfl, rfl⟩, rfl⟩, SlS.nul _, rfl, hfin⟩
  · obtain ⟨k, hk, hkl, hKk, hh⟩ := find_yes hp
    have hkm : k < m := by rw [← hlen]; exact hkl
    obtain ⟨bb, o, f, rfl, hb, y1, y2, y3, hx, hok⟩ := (hG.below hB2).1.at hkm
    have hcore : f.core = findC (cores G) s := by
      have := cores_at hx
      rw [hKk] at this
      exact (Option.some.inj this).symm
    have hM : f.m ≤ 1000000 := by
      have h1 : f.m = f.X.length := hok.1.1
      have h2 : f.core.2.1.length ≤ 1000000 := (hK.at (cores_at hx)).2.2.1
      rw [h1]; exact h2
    have hMX : f.m = f.X.length := hok.1.1
    have hoks : ∀ w', Below W2.heap.size W2 w' → SlS w' f.a f.m f.c f.X := fun w' h => hok.below h
    have HP : Hid (FindPost (cores G) s = fun w e w' => ∃ f2 : Fm, e = .returned (.tuple #[.agg #[.string f2.name, .slice f2.a f2.m f2.c, .string f2.res], .bool true]) ∧ f2.ok w' ∧ f2.core = f.core ∧ Below w.heap.size w w') := by
      show _ = _; unfold FindPost; rw [hcore, hh]
    rw [HP.out]
    rw [hk] at cP
    have hk0 : 0 ≤ (k : Int) := by omega
    have hk1 : (k : Int) < (m : Int) := by omega
    have hlast : ∀ (w5 : World) (gg : Nat) (A5 : Option Addr) (c5 : Nat) (v : Value), w.heap.size ≤ gg → Below w.heap.size w w5 → OwnS w5 (gg + 1) (.slice A5 f.m c5) f.X → w.heap.size + 1 < gg →
        Below w.heap.size w ((((w5.setCell ⟨gg, 1, none⟩ v).setCell ⟨w.heap.size + 1, 0, none⟩ (.string f.name)).setCell ⟨w.heap.size + 1, 1, none⟩ (.slice A5 f.m c5)).setCell ⟨w.heap.size + 1, 2, none⟩ (.string f.res)) ∧
        SlS ((((w5.setCell ⟨gg, 1, none⟩ v).setCell ⟨w.heap.size + 1, 0, none⟩ (.string f.name)).setCell ⟨w.heap.size + 1, 1, none⟩ (.slice A5 f.m c5)).setCell ⟨w.heap.size + 1, 2, none⟩ (.string f.res)) A5 f.m c5 f.X := fun w5 gg A5 c5 v h1 h2 h3 h4 =>
      ⟨below_set3 (h2.setCell (p := ⟨gg, 1, none⟩) h1 v) (Nat.le_succ _) _ _ _, SlS.far3 (SlS.far (own_sl h3 hMX) (off_own h3 (Nat.lt_succ_self _)) 1 v) (off_own h3 (by omega)) _ _ _⟩
    have hcoreE : ∀ (A5 : Option Addr) (c5 : Nat), (⟨f.name, A5, f.m, c5, f.X, f.res⟩ : Fm).core = f.core := fun _ _ => rfl
    have cl := fun (w' : World) (h : SlS w' f.a f.m f.c f.X) => cloneSl f.a f.m f.c f.X w' h (by omega)
    clear hp hk hkl hKk hh hcore HP hG hx hok hM hlen hK
    have Hoks := Lib.hid hoks
    have Hlast := Lib.hid hlast
    have Hcl := Lib.hid cl
    clear hoks hlast cl hMX
    generalize f.core = FC at *
    generalize f.name = nm at *
    generalize f.a = A at *
    generalize f.m = M at *
    generalize f.c = Cc at *
    generalize f.X = X at *
    generalize f.res = rs at *
    go_enter Try.func20, Try.ntmps20
    go_wp2_with (first
      | (go_at_call 30; ((with_reducible refine cP.mono ?_); rintro e w3 ⟨rfl, hb3⟩; obtain ⟨s30, s31⟩ := (S2.b hb3).two; have z1 := (hb3.cell hb).trans y1; have z2 := (hb3.cell hb).trans y2; have z3 := (hb3.cell hb).trans y3; have B4 : Below W2.heap.size W2 (w3.alloc (.cells #[.string nm, .slice A M Cc, .string rs] 27)) := bel_alloc hb3 _; have F4 := FBox.new w3 nm A M Cc rs; have c4 := Hcl.out _ (Hoks.out _ B4); obtain ⟨f40, f41, f42⟩ := F4.three))
      | (go_at_call 44; ((with_reducible refine c4.mono ?_); rintro e w5 ⟨A5, c5, rfl, ho5, hb5⟩; have F5 := F4.b hb5; have B5 := bel_trans B4 hb5; have R5 := F2.b B5; have hne : w3.heap.size ≠ w.heap.size + 1 := (Nat.ne_of_lt (Nat.lt_of_lt_of_le lt3 hb3.size)).symm; have F6 := F5.put1 A5 M c5; have R6 := R5.far hne 1 (.slice A5 M c5); obtain ⟨f50, f51, f52⟩ := F5.three; obtain ⟨g50, g51, g52⟩ := F5.free; obtain ⟨f60, f61, f62⟩ := F6.three; obtain ⟨r60, r61, r62⟩ := R6.three; obtain ⟨p60, p61, p62⟩ := R6.free; have R7 := R6.put nm A5 M c5 rs; obtain ⟨x0, x1, x2⟩ := R7.three)))
    simp [bodyPost, results, Try.results20, go_sem, x0, x1, x2]
    have ho6 : OwnS w5 (w3.heap.size + 1) (.slice A5 M c5) X := by simpa using ho5
    obtain ⟨l1, l2⟩ := Hlast.out w5 w3.heap.size A5 c5 (.slice A5 M c5) (Nat.le_trans hB2.size hb3.size) (bel_trans hB2 B5) ho6 (Nat.lt_of_lt_of_le lt3 hb3.size)
    exact ⟨⟨nm, A5, M, c5, X, rs⟩, ⟨rfl, ⟨rfl, rfl, rfl⟩, rfl⟩, l2, hcoreE A5 c5, l1⟩
end Go.Proofs.Ytakcbpmdjdadnaa.Sgn
