/-
  What is proved: the words of a line at single blanks, as the document takes them apart.
-/
import Derived.Test.YthchjceibpcgbaaDoorCnF
namespace Go.Proofs.YthchjceibpcgbaaDoor.Cn
open Go.RowKit L Lt
set_option linter.unusedVariables false
set_option linter.unusedSimpArgs false

theorem drop_at {l : List UInt8} {f k : Nat} {b : UInt8} (hf : f ≤ k) (h : l[k]? = some b) : l.drop f = (l.drop f).take (k - f) ++ b :: l.drop (k + 1) := by
  obtain ⟨hk, hb⟩ := List.getElem?_eq_some_iff.1 h
  have h1 : l.drop k = b :: l.drop (k + 1) := by rw [← hb]; exact (List.drop_eq_getElem_cons hk)
  have h2 : (l.drop f).drop (k - f) = l.drop k := by rw [List.drop_drop]; congr 1; omega
  rw [← h1, ← h2, List.take_append_drop]
theorem take_more {l : List UInt8} {f k : Nat} {b : UInt8} (hf : f ≤ k) (h : l[k]? = some b) : (l.drop f).take (k + 1 - f) = (l.drop f).take (k - f) ++ [b] := by
  rw [show k + 1 - f = k - f + 1 by omega, List.take_add_one, List.getElem?_drop, show f + (k - f) = k by omega, h]; rfl
theorem sub_list (s : ByteArray) (f k : Nat) (hk : k ≤ s.size) : (s.extract f k).data.toList = (s.data.toList.drop f).take (k - f) := by
  simp [ByteArray.data_extract, Array.toList_extract]
/-- where the loop stands: the words D are done, the next begins at f, no blank has been met since -/
def WAt (l : List UInt8) (D : List ByteArray) (f k : Nat) : Prop :=
  (k ≤ l.length ∧ f ≤ k ∧ D.length ≤ k ∧ spl 32 l = lsS D ++ spl 32 (l.drop f) ∧ ∀ c ∈ (l.drop f).take (k - f), c ≠ 32) ∨ (k = l.length + 1 ∧ f ≤ k ∧ D.length ≤ k ∧ spl 32 l = lsS D)
theorem WAt.blank {s : ByteArray} {D : List ByteArray} {f k : Nat} (h : WAt s.data.toList D f k) (hk : k < s.size) (hb : s[k] = 32) : WAt s.data.toList (D ++ [s.extract f k]) (k + 1) (k + 1) := by
  have hlen := Dig.len_list s
  rcases h with ⟨h1, h2, h3, h4, h5⟩ | ⟨h1, _⟩
  · have ha : s.data.toList[k]? = some 32 := by rw [← hb, ← Dig.at_list s k hk]; exact List.getElem?_eq_getElem _
    refine Or.inl ⟨by omega, Nat.le_refl _, by simp; omega, ?_, by simp⟩
    rw [h4, drop_at h2 ha, spl_free h5]
    simp [lsS, sub_list s f k (by omega)]
  · omega
theorem WAt.more {s : ByteArray} {D : List ByteArray} {f k : Nat} (h : WAt s.data.toList D f k) (hk : k < s.size) (hb : s[k] ≠ 32) : WAt s.data.toList D f (k + 1) := by
  have hlen := Dig.len_list s
  rcases h with ⟨h1, h2, h3, h4, h5⟩ | ⟨h1, _⟩
  · have ha : s.data.toList[k]? = some s[k] := by rw [← Dig.at_list s k hk]; exact List.getElem?_eq_getElem _
    refine Or.inl ⟨by omega, by omega, by omega, h4, fun c hc => ?_⟩
    rw [take_more h2 ha] at hc
    rcases List.mem_append.1 hc with hc | hc
    · exact h5 c hc
    · obtain rfl : c = s[k] := by simpa using hc
      exact hb
  · omega
theorem WAt.last {s : ByteArray} {D : List ByteArray} {f : Nat} (h : WAt s.data.toList D f s.size) : WAt s.data.toList (D ++ [s.extract f s.size]) (s.size + 1) (s.size + 1) := by
  have hlen := Dig.len_list s
  rcases h with ⟨h1, h2, h3, h4, h5⟩ | ⟨h1, _⟩
  · refine Or.inr ⟨by omega, Nat.le_refl _, by simp; omega, ?_⟩
    have e : (s.data.toList.drop f).take (s.size - f) = s.data.toList.drop f := List.take_of_length_le (by rw [List.length_drop]; omega)
    rw [e] at h5
    rw [h4, spl_one h5]
    simp only [lsS, List.map_append, List.map_cons, List.map_nil]
    rw [sub_list s f s.size (Nat.le_refl _), e]
  · omega
theorem WAt.le {s : ByteArray} {D : List ByteArray} {f k : Nat} (h : WAt s.data.toList D f k) : f ≤ k ∧ D.length ≤ k ∧ k ≤ s.size + 1 := by
  have hlen := Dig.len_list s
  rcases h with ⟨h1, h2, h3, _⟩ | ⟨h1, h2, h3, _⟩
  · exact ⟨h2, h3, by omega⟩
  · exact ⟨h2, h3, by omega⟩

set_option maxRecDepth 100000 in
set_option maxHeartbeats 4000000 in
theorem RWords_any (s : ByteArray) (w : World) (hs : s.size ≤ 1000000) :
    Calls Tryd.prog 39 #[.string s] w fun e w' => ∃ v D, e = .returned v ∧ OwnS w' w.heap.size v D ∧ lsS D = spl 32 s.data.toList ∧ D.length ≤ s.size + 1 ∧ Below w.heap.size w w' := by
  have hlen := Dig.len_list s
  have H0 : Hid (WAt s.data.toList [] 0 0) := Lib.hid (Or.inl ⟨by omega, Nat.le_refl _, Nat.le_refl _, by simp [lsS], by simp⟩)
  have HO0 : Hid (OwnS w w.heap.size (.slice none 0 0) []) := Lib.hid (OwnS.nil _ _)
  have hlenH := Lib.hid hlen
  clear hlen
  go_enter Tryd.func39, Tryd.ntmps39
  go_wp2
  go_loopw [3, 4, 5] (fun v f i wr0 => ∃ (wr : World) (k q : Nat) (D : List ByteArray), wr = wr0 ∧ k ≤ s.size + 1 ∧ q ≤ k ∧ i = .int .i64 k ∧ f = .int .i64 q ∧ Hid (OwnS wr w.heap.size v D) ∧ Hid (WAt s.data.toList D q k) ∧ Hid (Below w.heap.size w wr)) (fun v f i _ => s.size + 1 - (intOf i).toNat)
  case atStart => exact ⟨_, 0, 0, [], rfl, by omega, by omega, rfl, rfl, HO0, H0, Lib.hid (Below.refl _ _)⟩
  case round =>
    obtain ⟨wr, k, q, D, rfl, hk, hq, rfl, rfl, hO, hW, hB⟩ := hrel
    have hD : D.length ≤ 1000001 := by have := hW.out.le; omega
    by_cases hlt : k < s.size
    · have q0 : ((k : Int) == (s.size : Int)) = false := L.beq_no' (by omega)
      have hk0 : 0 ≤ (k : Int) := by omega
      have hk1 : (k : Int) < (s.size : Int) := by omega
      have hq0 : 0 ≤ (q : Int) := by omega
      have hq1 : (q : Int) ≤ (k : Int) := by omega
      by_cases hb : s[k] = 32
      · have q1 : ((s[k].toNat : Int) == 32) = true := by rw [hb]; rfl
        have HW1 := Lib.hid (hW.out.blank hlt hb)
        clear hb
        generalize hx : s.extract q k = x at *
        go_wp2_with (at_builtin; ((refine app_strs2 rfl (.tmp 22) (.tmp 27) rfl w.heap.size _ D rfl (World.ownsRow.alloc hO.out (.cells #[.string x] 9)) _ 1 1 [x] rfl (slS_one wr x) (by omega) (bel_alloc hB.out _).size ?_); intro v2 w3 ho3 hg3; have B3 : Below w.heap.size w w3 := (bel_alloc hB.out (.cells #[.string x] 9)).grown hg3 (bel_alloc hB.out _).size (fun q hq => (World.ownsRow.lt hO.out q hq).1)))
        go_roundw
        case rel => exact ⟨_, k + 1, k + 1, _, rfl, by omega, by omega, by go_num, by go_num, Lib.hid ho3, HW1, Lib.hid B3⟩
        case measure => simp [intOf]; omega
      · have q1 : ((s[k].toNat : Int) == 32) = false := L.beq_no' (fun e => hb (UInt8.toNat_inj.1 (by have : s[k].toNat = 32 := by omega
                                                                                                      rw [this]; rfl)))
        have HW1 := Lib.hid (hW.out.more hlt hb)
        clear hb
        go_wp2
        go_roundw
        case rel => exact ⟨_, k + 1, q, D, rfl, by omega, by omega, by go_num, rfl, hO, HW1, hB⟩
        case measure => simp [intOf]; omega
    · by_cases he : k = s.size
      · subst he
        have q0 : ((s.size : Int) == (s.size : Int)) = true := by simp
        have hk0 : 0 ≤ (s.size : Int) := by omega
        have hq0 : 0 ≤ (q : Int) := by omega
        have hq1 : (q : Int) ≤ (s.size : Int) := by omega
        have HW1 := Lib.hid hW.out.last
        generalize hx : s.extract q s.size = x at *
        go_wp2_with (at_builtin; ((refine app_strs2 rfl (.tmp 22) (.tmp 27) rfl w.heap.size _ D rfl (World.ownsRow.alloc hO.out (.cells #[.string x] 9)) _ 1 1 [x] rfl (slS_one wr x) (by omega) (bel_alloc hB.out _).size ?_); intro v2 w3 ho3 hg3; have B3 : Below w.heap.size w w3 := (bel_alloc hB.out (.cells #[.string x] 9)).grown hg3 (bel_alloc hB.out _).size (fun q hq => (World.ownsRow.lt hO.out q hq).1)))
        go_roundw
        case rel => exact ⟨_, s.size + 1, s.size + 1, _, rfl, by omega, by omega, by go_num, by go_num, Lib.hid ho3, HW1, Lib.hid B3⟩
        case measure => simp [intOf]
      · obtain rfl : k = s.size + 1 := by omega
        have q0 : decide (((s.size + 1 : Nat) : Int) ≤ (s.size : Int)) = false := decide_eq_false (by omega)
        have hfin : lsS D = spl 32 s.data.toList ∧ D.length ≤ s.size + 1 := by
          have := hlenH.out
          rcases hW.out with ⟨h1, _⟩ | ⟨_, _, h2, h3⟩
          · omega
          · exact ⟨h3.symm, h2⟩
        have HF := Lib.hid hfin
        clear hfin
        go_wp2
        go_ret
        exact ⟨_, _, rfl, hO.out, HF.out.1, HF.out.2, hB.out⟩
end Go.Proofs.YthchjceibpcgbaaDoor.Cn
