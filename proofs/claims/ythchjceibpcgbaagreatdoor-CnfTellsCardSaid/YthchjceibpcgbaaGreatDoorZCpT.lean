/-
  What is proved: what package cnf's reader does with a line.
-/
import Derived.Test.YthchjceibpcgbaaGreatDoorZCpC
namespace Go.Proofs.YthchjceibpcgbaaGreatDoor.Cn
open Go.RowKit L Lt
set_option linter.unusedVariables false
set_option linter.unusedSimpArgs false

def clN (st : St) : Int := if st.seen then st.many else -1
/-- what is returned of a line, and left in the reader -/
def TkP (b : Nat) (w : World) (R : Except Int St) (e : Ending) (w' : World) : Prop := match R with
  | .error k => e = .returned (.int .i64 k) ∧ Below w.heap.size w w'
  | .ok st => e = .returned (.int .i64 0) ∧ Below b w w' ∧ ∃ A c, RM2 b w' st.n A st.L.length c st.L (clN st)
theorem FsP.int {b : Nat} {w : World} {A : Option Addr} {r c : Nat} {G : List (List Int)} {R : Except Int (Int × Int)} {e : Ending} {w' : World} (h : FsP b w A r c G R e w') : ∃ v, e = .returned (.int .i64 v) ∧ FsP b w A r c G R e w' := by
  cases R with
  | error k => exact ⟨_, h.1, h⟩
  | ok p => exact ⟨_, h.1, h⟩
theorem CsP.int {b : Nat} {w : World} {n : Int} {G : List (List Int)} {cl : Int} {R : Except Int (List Int)} {e : Ending} {w' : World} (h : CsP b w n G cl R e w') : ∃ v, e = .returned (.int .i64 v) ∧ CsP b w n G cl R e w' := by
  cases R with
  | error k => exact ⟨_, h.1, h⟩
  | ok p => exact ⟨_, h.1, h⟩
theorem pre99 (l : List UInt8) : Lib.hasPrefix l [99] = decide (l.head? = some 99) := by
  unfold Lib.hasPrefix
  cases l with
  | nil => rfl
  | cons c r =>
    simp [List.isPrefixOf]
    rw [Bool.eq_iff_iff]
    simp
    exact eq_comm
set_option maxRecDepth 100000 in
set_option maxHeartbeats 8000000 in
theorem Take_any (b : Nat) (x : ByteArray) (w : World) (st : St) (A : Option Addr) (c : Nat) (h : RM2 b w st.n A st.L.length c st.L (clN st)) (hx : x.size ≤ 10000000) (hG : st.L.length ≤ 5000) (hm : 0 ≤ st.many) :
    Calls Tryz.prog 44 #[.pointer (some ⟨b, 0, none⟩), .string x] w (TkP b w (stL st x.data.toList)) := by
  have c1 := Tryz.strings_HasPrefix x ⟨#[99]⟩ w
  have e1 : (⟨#[99]⟩ : ByteArray).data.toList = [99] := rfl
  rw [e1, pre99] at c1
  clear e1
  obtain ⟨t0, t1, t2⟩ := h.cells
  have H := Lib.hid h
  by_cases h9 : x.data.toList.head? = some 99
  · have hst : stL st x.data.toList = .ok st := by unfold stL; rw [if_pos h9]
    rw [hst]
    have e2 : decide (x.data.toList.head? = some 99) = true := decide_eq_true h9
    rw [e2] at c1
    have lb := h.lt
    clear h9 hst e2 h t0 t1 t2
    go_enter Tryz.func44, Tryz.ntmps44
    go_wp2_with (go_at_call 77; ((with_reducible refine c1.mono ?_); rintro e w1 ⟨rfl, rfl⟩))
    go_ret
    exact ⟨rfl, Below.refl _ _, A, c, H.out⟩
  · have e2 : decide (x.data.toList.head? = some 99) = false := decide_eq_false h9
    rw [e2] at c1
    cases hs : st.seen
    · have hcl : clN st = -1 := by unfold clN; rw [hs]; rfl
      have q1 : decide ((-1 : Int) < 0) = true := rfl
      have cf := First_any b x w st.n A st.L.length c st.L (clN st) h hx
      have HR := Lib.hid (show stL st x.data.toList = match hdR x.data.toList with
        | .error e => .error e
        | .ok (n, m) => .ok { st with seen := true, n := n, many := m } from by unfold stL; rw [if_neg h9, if_pos hs]; cases hdR x.data.toList <;> rfl)
      rw [hcl] at t2
      clear h9 e2 h hcl t0 t1
      generalize hdR x.data.toList = Hh at *
      go_enter Tryz.func44, Tryz.ntmps44
      go_wp2_with (first
        | (go_at_call 77; ((with_reducible refine c1.mono ?_); rintro e w1 ⟨rfl, rfl⟩))
        | (go_at_call 78; ((with_reducible refine cf.mono ?_); intro e w2 hF; obtain ⟨v, rfl, hF2⟩ := FsP.int hF; have HF := Lib.hid hF2; clear hF hF2)))
      go_ret
      rw [HR.out]
      cases Hh with
      | error k => exact HF.out
      | ok pq =>
        obtain ⟨p, q⟩ := pq
        have hF := HF.out
        exact ⟨hF.1, hF.2.1, A, c, hF.2.2⟩
    · have hcl : clN st = st.many := by unfold clN; rw [hs]; rfl
      have q1 : decide (st.many < 0) = false := decide_eq_false (by omega)
      have cc := Clause_any b x w st.n A st.L.length c st.L (clN st) h hx hG
      have HR := Lib.hid (show stL st x.data.toList = match csR st.L (clN st) x.data.toList st.n with
        | .error e => .error e
        | .ok l => .ok { st with L := st.L ++ [l] } from by
          unfold stL csR; rw [if_neg h9, hs, hcl]; simp only [Bool.true_eq_false, if_false]
          split <;> rfl)
      rw [hcl] at t2
      have Hs := Lib.hid hs
      have Hcl := Lib.hid hcl
      clear h9 e2 h hcl t0 t1 hs
      generalize csR st.L (clN st) x.data.toList st.n = R at *
      go_enter Tryz.func44, Tryz.ntmps44
      go_wp2_with (first
        | (go_at_call 77; ((with_reducible refine c1.mono ?_); rintro e w1 ⟨rfl, rfl⟩))
        | (go_at_call 79; ((with_reducible refine cc.mono ?_); intro e w2 hF; obtain ⟨v, rfl, hF2⟩ := CsP.int hF; have HF := Lib.hid hF2; clear hF hF2)))
      go_ret
      rw [HR.out]
      cases R with
      | error k => exact HF.out
      | ok l =>
        obtain ⟨k1, k2, A', c', k3⟩ := HF.out
        refine ⟨k1, k2, A', c', ?_⟩
        show RM2 b w2 st.n A' (st.L ++ [l]).length c' (st.L ++ [l]) (clN { st with L := st.L ++ [l] })
        have e3 : clN { st with L := st.L ++ [l] } = clN st := rfl
        rw [e3, show (st.L ++ [l]).length = st.L.length + 1 by simp]
        exact k3
end Go.Proofs.YthchjceibpcgbaaGreatDoor.Cn
