/-
  What is proved: what strings.Cut returns at a text of one byte; the numbers of a line as package cnf reads them.
-/
import Derived.Test.YthchjceibpcgbaaGreatDoorCK
import Derived.Test.YthchjceibpcgbaaGreatDoorDG
import Derived.Test.YthchjceibpcgbaaGreatDoorZLtH
import Derived.Test.YthchjceibpcgbaaGreatDoorShelf
import Derived.BigQuiet
namespace Go.Proofs.YthchjceibpcgbaaGreatDoor.Cn
open Go.RowKit L Lt
set_option linter.unusedVariables false
set_option linter.unusedSimpArgs false

theorem ba_ext {a b : ByteArray} (h : a.data.toList = b.data.toList) : a = b := by
  cases a; cases b; simp at h; simp [h]
set_option maxRecDepth 100000 in
theorem scut_hit (s u y : ByteArray) (b : UInt8) (w : World) (hs : s.size ≤ 9223372036854775807) (h : s.data.toList = u.data.toList ++ b :: y.data.toList) (hu : ∀ c ∈ u.data.toList, c ≠ b) :
    Calls Tryz.prog 76 #[.string s, .string ⟨#[b]⟩] w fun e w' => e = .returned (.tuple #[.string u, .string y, .bool true]) ∧ Below w.heap.size w w' := by
  have c1 := fun (w : World) => Tryz.stringslite_Index_one s b w
  have hi := index_hit y.data.toList hu
  rw [← h] at hi
  simp only [hi] at c1
  have hl := Dig.len_list s
  rw [h, List.length_append, List.length_cons] at hl
  have hul := Dig.len_list u
  rw [hul] at hl c1
  have e1 : s.extract 0 u.size = u := ba_ext (by rw [Lib.extract_data, h, ← hul]; simp)
  have e2 : s.extract (u.size + 1) s.size = y := ba_ext (by rw [Lib.extract_to_end, h, ← hul, show u.data.toList ++ b :: y.data.toList = (u.data.toList ++ [b]) ++ y.data.toList by simp, List.drop_left' (by simp)])
  have hu1 : u.size + 1 ≤ s.size := by omega
  rw [← e1, ← e2]
  obtain ⟨k, hk⟩ : ∃ k, u.size = k := ⟨_, rfl⟩
  rw [hk] at hu1 c1 ⊢
  have hj0 : (0 : Int) ≤ (k : Int) := by omega
  have hj1 : (k : Int) + 1 ≤ (s.size : Int) := by omega
  have hj2 : (0 : Int) ≤ (k : Int) + 1 := by omega
  have hj3 : (k : Int) ≤ (s.size : Int) := by omega
  have hk1 : k ≤ s.size := by omega
  clear h hu hi hl hul e1 e2 hk
  go_enter Tryz.func76, Tryz.ntmps76
  go_wp2_with (go_at_call 94; ((with_reducible refine (c1 _).mono ?_); rintro e w' ⟨rfl, rfl⟩))
  go_quiet (fail)
  go_wp2
  go_ret3
  exact ⟨rfl, below_drewN (Below.refl _ _) _⟩
theorem scut_miss (s : ByteArray) (b : UInt8) (w : World) (h : ∀ c ∈ s.data.toList, c ≠ b) :
    Calls Tryz.prog 76 #[.string s, .string ⟨#[b]⟩] w fun e w' => e = .returned (.tuple #[.string s, .string ⟨#[]⟩, .bool false]) ∧ Below w.heap.size w w' := by
  have c1 := fun (w : World) => Tryz.stringslite_Index_one s b w
  simp only [index_miss h] at c1
  clear h
  go_enter Tryz.func76, Tryz.ntmps76
  go_wp2_with (go_at_call 94; ((with_reducible refine (c1 _).mono ?_); rintro e w' ⟨rfl, rfl⟩))
  go_ret3
  exact ⟨rfl, Below.refl _ _⟩
theorem cut_hit (s u y : ByteArray) (b : UInt8) (w : World) (hs : s.size ≤ 9223372036854775807) (h : s.data.toList = u.data.toList ++ b :: y.data.toList) (hu : ∀ c ∈ u.data.toList, c ≠ b) :
    Calls Tryz.prog 43 #[.string s, .string ⟨#[b]⟩] w fun e w' => e = .returned (.tuple #[.string u, .string y, .bool true]) ∧ Below w.heap.size w w' := by
  have c1 := scut_hit s u y b w hs h hu
  clear h hu
  go_enter Tryz.func43, Tryz.ntmps43
  go_wp2_with (go_at_call 76; ((with_reducible refine c1.mono ?_); rintro e w' ⟨rfl, hb⟩))
  go_ret3
  exact ⟨rfl, hb⟩
theorem cut_miss (s : ByteArray) (b : UInt8) (w : World) (h : ∀ c ∈ s.data.toList, c ≠ b) :
    Calls Tryz.prog 43 #[.string s, .string ⟨#[b]⟩] w fun e w' => e = .returned (.tuple #[.string s, .string ⟨#[]⟩, .bool false]) ∧ Below w.heap.size w w' := by
  have c1 := scut_miss s b w h
  clear h
  go_enter Tryz.func43, Tryz.ntmps43
  go_wp2_with (go_at_call 76; ((with_reducible refine c1.mono ?_); rintro e w' ⟨rfl, hb⟩))
  go_ret3
  exact ⟨rfl, hb⟩

def szV : Value → Nat
  | .string s => s.size
  | _ => 0
def moV : Value → Nat
  | .bool true => 1
  | _ => 0
/-- how it stands: what has been read, the rest, and whether there is more -/
def NSt (s : List UInt8) (x : ByteArray) (Y : List Int) (more : Bool) : Prop := if more then nums (spl 32 s) = NS Y x.data.toList else nums (spl 32 s) = some Y
theorem bytes_of (l : List UInt8) : ∃ u : ByteArray, u.data.toList = l := ⟨⟨l.toArray⟩, rfl⟩
set_option maxRecDepth 100000 in
set_option maxHeartbeats 8000000 in
theorem Numbers_any (s : ByteArray) (w : World) (hs : s.size ≤ 10000000) :
    Calls Tryz.prog 97 #[.string s] w fun e w' => ∃ A m c, e = .returned (.slice A m c) ∧ SlI w' A m c (numL s.data.toList) ∧ (∀ ad, A = some ad → w.heap.size ≤ ad.block) ∧ Below w.heap.size w w' := by
  have HN0 : Hid (NSt s.data.toList s [] true) := Lib.hid (by unfold NSt; rw [if_pos rfl, NS_zero])
  have HO0 := Lib.hid (OwnI.nil w w.heap.size)
  have CH := Lib.hid (fun (s u y : ByteArray) (W : World) (hs : s.size ≤ 9223372036854775807) (h : s.data.toList = u.data.toList ++ 32 :: y.data.toList) (hu : ∀ c ∈ u.data.toList, c ≠ 32) => cut_hit s u y 32 W hs h hu)
  have CM := Lib.hid (fun (s : ByteArray) (W : World) (h : ∀ c ∈ s.data.toList, c ≠ 32) => cut_miss s 32 W h)
  have CR := Lib.hid (fun (u : ByteArray) (W : World) (hu : u.size ≤ 9223372036854775807) => Dig.read_any u W hu)
  have HL := Lib.hid (fun m h => (numL_some (s := s.data.toList) (m := m) h))
  have HE := Lib.hid (fun h => (numL_none (s := s.data.toList) h))
  go_enter Tryz.func97, Tryz.ntmps97
  go_wp2
  go_loopw [0, 3, 4] (fun sv lv mv wr0 => ∃ (wr : World) (x : ByteArray) (Y : List Int) (A : Option Addr) (c : Nat) (more : Bool), wr = wr0 ∧ x.size + Y.length ≤ s.size + 1 ∧ (more = true → x.size + Y.length ≤ s.size) ∧ sv = .string x ∧ lv = .slice A Y.length c ∧ mv = .bool more ∧ Hid (OwnI wr w.heap.size (.slice A Y.length c) Y) ∧ Hid (NSt s.data.toList x Y more) ∧ Hid (Below w.heap.size w wr)) (fun sv lv mv _ => szV sv + moV mv)
  case atStart => exact ⟨_, s, [], none, 0, true, rfl, by simp, by simp, rfl, rfl, rfl, HO0, HN0, Lib.hid (Below.refl _ _)⟩
  case round =>
    obtain ⟨wr, x, Y, A, c, more, rfl, hl1, hl2, rfl, rfl, rfl, hO, hN, hB⟩ := hrel
    cases more
    · have hS := Lib.hid hO.out.sl
      have hR := Lib.hid (HL.out Y hN.out)
      have hBo := Lib.hid (fun (ad : Addr) (h : A = some ad) => (hO.out.lt ad.block (by rw [h]; rfl)).1)
      clear hO hN
      go_wp2
      go_ret
      exact ⟨A, Y.length, c, rfl, by rw [hR.out]; exact hS.out.2.2, hBo.out, hB.out⟩
    · have hl3 := hl2 rfl
      clear hl2
      have hxs : x.size ≤ 9223372036854775807 := by omega
      have hN1 : nums (spl 32 s.data.toList) = NS Y x.data.toList := hN.out
      have HYl : Y.length ≤ 10000001 := by omega
      rcases cutAt 32 x.data.toList with hm | ⟨ul, yl, hx, hu⟩
      · have cc := CM.out x wr hm
        have cr := fun W => CR.out x W hxs
        by_cases h0 : Dig.rdE x.data.toList = 0
        · have hN2 : Hid (NSt s.data.toList ⟨#[]⟩ (Y ++ [Dig.rdV x.data.toList]) false) := Lib.hid (by unfold NSt; rw [if_neg (by decide), hN1, NS_end hm h0])
          rw [h0] at cr
          clear hN1 hN hm h0
          generalize Dig.rdV x.data.toList = v at *
          go_wp2_with (first
            | (go_at_call 43; ((with_reducible refine cc.mono ?_); rintro e w1 ⟨rfl, b1⟩; have c2 := cr w1))
            | (go_at_call 125; ((with_reducible refine c2.mono ?_); rintro e w2 ⟨rfl, rfl⟩))
            | (at_builtin; ((refine app_ints rfl (.tmp 22) (.tmp 24) rfl w.heap.size (.slice A Y.length c) Y rfl ((hO.out.b b1).b (bel_alloc (Below.refl _ _) _)) _ 1 1 [v] rfl one_sl (by omega) (bel_alloc (bel_trans hB.out b1) _).size ?_); intro v3 w3 ho3 hg3; have B3 := Lib.hid ((bel_alloc (bel_trans hB.out b1) _).grown hg3 (bel_alloc (bel_trans hB.out b1) _).size (fun q hq => (hO.out.lt q hq).1)); obtain ⟨A3, c3, rfl, -⟩ := ho3.slice; have HO3 := Lib.hid ho3; clear ho3 hg3)))
          go_roundw
          case rel => exact ⟨_, ⟨#[]⟩, Y ++ [v], A3, c3, false, rfl, by simp; show 0 + _ ≤ _; omega, (fun h => by cases h), rfl, (by simp), rfl, HO3, hN2, B3⟩
          case measure =>
            have h0 : (⟨#[]⟩ : ByteArray).size = 0 := rfl
            simp [szV, moV, h0]
        · have hq : (Dig.rdE x.data.toList != 0) = true := by simp [h0]
          have hR := Lib.hid (HE.out (by rw [hN1, NS_end_bad hm h0]))
          clear hN1 hN hm h0
          generalize Dig.rdV x.data.toList = v at *
          generalize Dig.rdE x.data.toList = er at *
          go_wp2_with (first
            | (go_at_call 43; ((with_reducible refine cc.mono ?_); rintro e w1 ⟨rfl, b1⟩; have c2 := cr w1))
            | (go_at_call 125; ((with_reducible refine c2.mono ?_); rintro e w2 ⟨rfl, rfl⟩)))
          go_ret
          exact ⟨none, 0, 0, rfl, by rw [hR.out]; exact SlI.nil _, (fun ad h => by cases h), bel_trans hB.out b1⟩
      · obtain ⟨u, rfl⟩ := bytes_of ul
        obtain ⟨y, rfl⟩ := bytes_of yl
        have hxl : x.size = u.size + y.size + 1 := by
          have := congrArg List.length hx
          rw [List.length_append, List.length_cons, Dig.len_list, Dig.len_list, Dig.len_list] at this; omega
        have cc := CH.out x u y wr hxs hx hu
        have cr := fun W => CR.out u W (by omega)
        rw [hx] at hN1
        by_cases h0 : Dig.rdE u.data.toList = 0
        · have hN2 : Hid (NSt s.data.toList y (Y ++ [Dig.rdV u.data.toList]) true) := Lib.hid (by unfold NSt; rw [if_pos rfl, hN1, NS_hit hu h0])
          rw [h0] at cr
          clear hN1 hN hx hu h0
          generalize Dig.rdV u.data.toList = v at *
          go_wp2_with (first
            | (go_at_call 43; ((with_reducible refine cc.mono ?_); rintro e w1 ⟨rfl, b1⟩; have c2 := cr w1))
            | (go_at_call 125; ((with_reducible refine c2.mono ?_); rintro e w2 ⟨rfl, rfl⟩))
            | (at_builtin; ((refine app_ints rfl (.tmp 22) (.tmp 24) rfl w.heap.size (.slice A Y.length c) Y rfl ((hO.out.b b1).b (bel_alloc (Below.refl _ _) _)) _ 1 1 [v] rfl one_sl (by omega) (bel_alloc (bel_trans hB.out b1) _).size ?_); intro v3 w3 ho3 hg3; have B3 := Lib.hid ((bel_alloc (bel_trans hB.out b1) _).grown hg3 (bel_alloc (bel_trans hB.out b1) _).size (fun q hq => (hO.out.lt q hq).1)); obtain ⟨A3, c3, rfl, -⟩ := ho3.slice; have HO3 := Lib.hid ho3; clear ho3 hg3)))
          go_roundw
          case rel => exact ⟨_, y, Y ++ [v], A3, c3, true, rfl, by simp; omega, (fun _ => by simp; omega), rfl, (by simp), rfl, HO3, hN2, B3⟩
          case measure => simp [szV, moV]; omega
        · have hq : (Dig.rdE u.data.toList != 0) = true := by simp [h0]
          have hR := Lib.hid (HE.out (by rw [hN1, NS_hit_bad hu h0]))
          clear hN1 hN hx hu h0
          generalize Dig.rdV u.data.toList = v at *
          generalize Dig.rdE u.data.toList = er at *
          go_wp2_with (first
            | (go_at_call 43; ((with_reducible refine cc.mono ?_); rintro e w1 ⟨rfl, b1⟩; have c2 := cr w1))
            | (go_at_call 125; ((with_reducible refine c2.mono ?_); rintro e w2 ⟨rfl, rfl⟩)))
          go_ret
          exact ⟨none, 0, 0, rfl, by rw [hR.out]; exact SlI.nil _, (fun ad h => by cases h), bel_trans hB.out b1⟩
end Go.Proofs.YthchjceibpcgbaaGreatDoor.Cn
