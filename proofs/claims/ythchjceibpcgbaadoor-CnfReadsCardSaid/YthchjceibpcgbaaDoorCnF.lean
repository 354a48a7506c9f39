/-
  What is proved: the numbers of words, the words of a line, as the document reads them.
-/
import Derived.Test.YthchjceibpcgbaaDoorCnD
import Derived.Test.YthchjceibpcgbaaDoorCnB
import Derived.Test.YthchjceibpcgbaaDoorDgT
import Derived.Test.YthchjceibpcgbaaDoorLibAp
namespace Go.Proofs.YthchjceibpcgbaaDoor.Cn
open Go.RowKit L Lt
set_option linter.unusedVariables false
set_option linter.unusedSimpArgs false

theorem slS_one (w : World) (s : ByteArray) : SlS (w.alloc (.cells #[.string s] 9)) (some ⟨w.heap.size, 0, none⟩) 1 1 [s] := by
  refine ⟨⟨rfl, fun _ => ⟨_, _, rfl, by simp, fun k hk => ?_⟩⟩, Nat.le_refl _, fun h => by cases h⟩
  obtain rfl : k = 0 := by simp at hk; omega
  rw [World.cell?_alloc_at _ _ _ _ rfl]; rfl
/-- a list of texts, as lists of bytes -/
def lsS (S : List ByteArray) : List (List UInt8) := S.map (·.data.toList)
theorem nums_none {l : List (List UInt8)} {w : List UInt8} (hw : w ∈ l) (h : Dig.rdE w ≠ 0) : nums l = none := by
  unfold nums
  rw [if_neg]
  intro h2
  have := List.all_eq_true.1 h2 w hw
  simp at this
  exact h this
theorem nums_some {l : List (List UInt8)} (h : ∀ w ∈ l, Dig.rdE w = 0) : nums l = some (l.map Dig.rdV) := by
  unfold nums
  rw [if_pos]
  rw [List.all_eq_true]; intro w hw; simp [h w hw]
theorem tupB {v u : Value} {p q : Bool} (h : v = u) (h2 : p = q) : Ending.returned (.tuple #[v, .bool p]) = .returned (.tuple #[u, .bool q]) := by rw [h, h2]

set_option maxRecDepth 100000 in
set_option maxHeartbeats 4000000 in
theorem RNumbers_any (A : Option Addr) (n c : Nat) (S : List ByteArray) (w : World) (h : SlS w A n c S) (hs : ∀ s ∈ S, s.size ≤ 9223372036854775807) (hn : n ≤ 1000000) :
    Calls Tryd.prog 40 #[.slice A n c] w fun e w' => ∃ v, e = .returned (.tuple #[v, .bool (nums (lsS S)).isSome]) ∧ OwnI w' w.heap.size v ((nums (lsS S)).getD []) ∧ Below w.heap.size w w' := by
  have H := Lib.hid h
  have HX := Lib.hid h.1.1
  have HS := Lib.hid hs
  have CR := Lib.hid (fun (s : ByteArray) (hs : s.size ≤ 9223372036854775807) W => Dig.rread_any s W hs)
  obtain ⟨R, hR⟩ : ∃ R, nums (lsS S) = R := ⟨_, rfl⟩
  rw [hR]
  have HR := Lib.hid hR
  have HO0 : Hid (OwnI w w.heap.size (.slice none 0 0) ((lsS (S.take 0)).map Dig.rdV)) := Lib.hid (OwnI.nil _ _)
  have HE0 : Hid (∀ t ∈ lsS (S.take 0), Dig.rdE t = 0) := Lib.hid (by simp [lsS])
  clear h hs hR
  go_enter Tryd.func40, Tryd.ntmps40
  go_wp2
  go_loopw [4, 5] (fun v i wr0 => ∃ (wr : World) (k : Nat), wr = wr0 ∧ k ≤ n ∧ i = .int .i64 k ∧ Hid (OwnI wr w.heap.size v ((lsS (S.take k)).map Dig.rdV)) ∧ Hid (∀ t ∈ lsS (S.take k), Dig.rdE t = 0) ∧ Hid (Below w.heap.size w wr)) (fun v i _ => n - (intOf i).toNat)
  case atStart => exact ⟨_, 0, rfl, by omega, rfl, HO0, HE0, Lib.hid (Below.refl _ _)⟩
  case round =>
    obtain ⟨wr, k, rfl, hk, rfl, hO, hE, hB⟩ := hrel
    by_cases hlt : k < n
    · obtain ⟨b, o, rfl, hb, hrow⟩ := H.out.1.2 (by omega)
      have hkS : k < S.length := by rw [← HX.out]; exact hlt
      have hx : S[k]? = some S[k] := List.getElem?_eq_getElem hkS
      have y0 : wr.cell? ⟨b, o + k, none⟩ = some (.string S[k]) := (hB.out.cell (p := ⟨b, _, none⟩) hb).trans (hrow k hkS)
      have hmem : S[k] ∈ S := List.getElem_mem hkS
      have cr := CR.out S[k] (HS.out _ hmem) wr
      have hl : (lsS (S.take k)).map Dig.rdV = ((lsS (S.take k)).map Dig.rdV) := rfl
      have hlen : ((lsS (S.take k)).map Dig.rdV).length ≤ k := by simp [lsS]; omega
      have hnx : lsS (S.take (k + 1)) = lsS (S.take k) ++ [S[k].data.toList] := by
        unfold lsS; rw [List.take_add_one, hx, List.map_append]; rfl
      have HN : Hid (Dig.rdE S[k].data.toList ≠ 0 → R = none) := Lib.hid (fun h => by
        rw [← HR.out]; exact nums_none (w := S[k].data.toList) (List.mem_map.2 ⟨_, hmem, rfl⟩) h)
      have HE1 : Hid (Dig.rdE S[k].data.toList = 0 → ∀ t ∈ lsS (S.take (k + 1)), Dig.rdE t = 0) := Lib.hid (fun h t ht => by
        rw [hnx] at ht
        rcases List.mem_append.1 ht with ht | ht
        · exact hE.out t ht
        · obtain rfl : t = S[k].data.toList := by simpa using ht
          exact h)
      have HV : Hid ((lsS (S.take (k + 1))).map Dig.rdV = (lsS (S.take k)).map Dig.rdV ++ [Dig.rdV S[k].data.toList]) := Lib.hid (by rw [hnx, List.map_append]; rfl)
      have hk0 : 0 ≤ (k : Int) := by omega
      have hk1 : (k : Int) < (n : Int) := by omega
      clear hl hnx hmem hrow hx hE
      generalize (lsS (S.take k)).map Dig.rdV = Y at *
      generalize S[k] = s at *
      generalize Dig.rdE s.data.toList = e0 at *
      generalize Dig.rdV s.data.toList = x0 at *
      cases hv : (e0 != 0)
      · have HE2 := Lib.hid (HE1.out (by simpa using hv))
        clear HE1 HN
        go_wp2_with (first
          | (go_at_call 51; ((with_reducible refine cr.mono ?_); rintro e w2 ⟨rfl, rfl⟩))
          | (at_builtin; ((refine app_ints rfl (.tmp 24) (.tmp 26) rfl w.heap.size _ Y rfl (World.ownsRow.alloc hO.out (.cells #[.int .i64 x0] 3)) _ 1 1 [x0] rfl one_sl (by omega) (bel_alloc hB.out _).size ?_); intro v2 w3 ho3 hg3; have B3 : Below w.heap.size w w3 := (bel_alloc hB.out (.cells #[.int .i64 x0] 3)).grown hg3 (bel_alloc hB.out _).size (fun q hq => (hO.out.lt q hq).1))))
        go_roundw
        case rel => exact ⟨_, k + 1, rfl, by omega, by go_num, Lib.hid (by rw [HV.out]; exact ho3), HE2, Lib.hid B3⟩
        case measure => simp [intOf]; omega
      · have hq := HN.out (by simpa using hv)
        subst hq
        clear HE1 HN
        go_wp2_with (go_at_call 51; ((with_reducible refine cr.mono ?_); rintro e w2 ⟨rfl, rfl⟩))
        go_ret2
        exact ⟨_, rfl, OwnI.nil _ _, hB.out⟩
    · obtain rfl : k = n := by omega
      have hq : R = some ((lsS (S.take k)).map Dig.rdV) := by
        rw [← HR.out]
        have e : S.take k = S := List.take_of_length_le (by have := HX.out; omega)
        rw [e]; exact nums_some (by have := hE.out; rw [e] at this; exact this)
      subst hq
      clear hE
      go_wp2
      go_ret2
      exact ⟨_, rfl, hO.out, hB.out⟩
end Go.Proofs.YthchjceibpcgbaaDoor.Cn
