/-
  What is proved: what the calls that go over a slice of texts return: the longest sign, membership, equality; and what the lists of signs are.
-/
import Derived.Test.YtanbcclconhheaaTokB
import Derived.Laws.StructEq
namespace Go.Proofs.Ytanbcclconhheaa.Tok
open Go.RowKit
set_option linter.unusedVariables false
set_option linter.unusedSimpArgs false

/-- a block's first cells are these texts -/
def SAt (w : World) (g : Nat) (xs : List ByteArray) : Prop := ∀ k (h : k < xs.length), w.cell? ⟨g, k, none⟩ = some (.string xs[k])
theorem SAt.below {w w' : World} {g : Nat} {xs : List ByteArray} (h : SAt w g xs) (hb : Below w.heap.size w w') : SAt w' g xs := fun k hk => by
  have hlt : g < w.heap.size := World.block_lt_of_cell? w ⟨g, k, none⟩ (h k hk)
  rw [(bcell hb).1 g k hlt]; exact h k hk
theorem SAt.belowB {w w' : World} {g B : Nat} {xs : List ByteArray} (h : SAt w g xs) (hb : Below B w w') (hg : g < B) : SAt w' g xs := fun k hk => by
  rw [hb.cell (p := ⟨g, k, none⟩) hg]; exact h k hk

def SGb : List ByteArray := SG.map BA
theorem SGb_list : SGb.map (·.data.toList) = SG := rfl

theorem fold_at {X : List ByteArray} {l : List UInt8} {m k : Nat} (h : k < X.length) :
    ((X.drop k).map (·.data.toList)).foldl (sgS l) m = ((X.drop (k + 1)).map (·.data.toList)).foldl (sgS l) (sgS l m X[k].data.toList) := by
  rw [List.drop_eq_getElem_cons h, List.map_cons, List.foldl_cons]

set_option maxHeartbeats 1000000 in
theorem sign_gen (s : ByteArray) (g : Nat) (X : List ByteArray) (w : World) (hs : s.size ≤ 9223372036854775807) (hX : X.length ≤ 1000) (h3 : ∀ x ∈ X, x.size ≤ 3) (hc : SAt w g X) :
    Calls Try.prog 33 #[.string s, .slice (some ⟨g, 0, none⟩) X.length X.length] w fun e w' => e = .returned (.int .i64 ((X.map (·.data.toList)).foldl (sgS s.data.toList) 0 : Nat)) ∧ w = w' := by
  have hst : ∀ k m (h : k < X.length), ((X.drop k).map (·.data.toList)).foldl (sgS s.data.toList) m = ((X.drop (k + 1)).map (·.data.toList)).foldl (sgS s.data.toList) (sgS s.data.toList m X[k].data.toList) := fun k m h => fold_at h
  have he : ∀ k m, X.length ≤ k → ((X.drop k).map (·.data.toList)).foldl (sgS s.data.toList) m = m := fun k m h => by rw [List.drop_eq_nil_of_le h]; rfl
  have h0 : (X.map (·.data.toList)).foldl (sgS s.data.toList) 0 = ((X.drop 0).map (·.data.toList)).foldl (sgS s.data.toList) 0 := rfl
  rw [h0]
  clear h0
  obtain ⟨F, hF⟩ : ∃ F : Nat → Nat → Nat, ∀ k m, ((X.drop k).map (·.data.toList)).foldl (sgS s.data.toList) m = F k m := ⟨_, fun _ _ => rfl⟩
  simp only [hF] at hst he ⊢
  clear hF
  have hp : ∀ (x : ByteArray) (w : World), Calls Try.prog 43 #[.string s, .string x] w fun e w' => e = .returned (.bool (x.data.toList.isPrefixOf s.data.toList)) ∧ w = w' := fun x w =>
    (Try.strings_HasPrefix s x w).mono fun e w' ⟨h, hw⟩ => ⟨h, hw.symm⟩
  have Hst := Lib.hid hst
  have He := Lib.hid he
  have Hc := Lib.hid hc
  have H3 := Lib.hid h3
  clear hst he hc h3
  go_enter Try.func33, Try.ntmps33
  go_wp2
  go_loop [5, 10] (fun n i => ∃ (k m : Nat), k ≤ X.length ∧ m ≤ 3 ∧ i = .int .i64 k ∧ n = .int .i64 m ∧ Hid (F k m = F 0 0)) (fun _ i => X.length - (intOf i).toNat)
  case atStart => exact ⟨0, 0, by omega, by omega, rfl, rfl, Lib.hid rfl⟩
  case round =>
    obtain ⟨k, m, hk, hm, rfl, rfl, hR⟩ := hrel
    by_cases hlt : k < X.length
    · have hcell := Hc.out k hlt
      have hx := H3.out X[k] (List.getElem_mem hlt)
      have hs1 := Lib.hid (Hst.out k m hlt)
      have hpx := fun (w : World) => hp X[k] w
      generalize X[k] = x at *
      have hxl := len_list x
      by_cases h1 : m < x.size
      · cases hb : x.data.toList.isPrefixOf s.data.toList with
        | true =>
          have hnew : Hid (F (k + 1) x.size = F 0 0) := by
            show _ = _
            rw [← hR.out, hs1.out, sgS, if_pos ⟨by rw [hxl]; exact h1, hb⟩, hxl]
          rw [hb] at hpx
          clear hb hs1 hR hp hxl
          go_wp2_with (go_at_call 43; ((with_reducible refine (hpx _).mono ?_); rintro e w' ⟨rfl, rfl⟩))
          go_round
          case rel => exact ⟨k + 1, x.size, by omega, hx, by go_num, rfl, hnew⟩
          case measure => simp [intOf]; omega
        | false =>
          have hnew : Hid (F (k + 1) m = F 0 0) := by
            show _ = _
            rw [← hR.out, hs1.out, sgS, if_neg (by rw [hb]; simp)]
          rw [hb] at hpx
          clear hb hs1 hR hp hxl
          go_wp2_with (go_at_call 43; ((with_reducible refine (hpx _).mono ?_); rintro e w' ⟨rfl, rfl⟩))
          go_round
          case rel => exact ⟨k + 1, m, by omega, hm, by go_num, rfl, hnew⟩
          case measure => simp [intOf]; omega
      · have hnew : Hid (F (k + 1) m = F 0 0) := by
          show _ = _
          rw [← hR.out, hs1.out, sgS, if_neg (by rw [hxl]; omega)]
        clear hs1 hR hp hxl hpx
        go_wp2
        go_round
        case rel => exact ⟨k + 1, m, by omega, hm, by go_num, rfl, hnew⟩
        case measure => simp [intOf]; omega
    · have hnew : Hid (m = F 0 0) := by show _ = _; rw [← hR.out, He.out k m (by omega)]
      clear hR hp
      go_wp2
      go_ret
      exact ⟨one (by rw [hnew.out]), rfl⟩
theorem sign_any (s : ByteArray) (g : Nat) (w : World) (hs : s.size ≤ 9223372036854775807) (hc : SAt w g SGb) :
    Calls Try.prog 33 #[.string s, .slice (some ⟨g, 0, none⟩) 27 27] w fun e w' => e = .returned (.int .i64 (sgN s.data.toList)) ∧ w = w' :=
  sign_gen s g SGb w hs (by decide) (by decide) hc

noncomputable def SGc : Array Value := (SG.map fun l => Value.string (BA l)).toArray
theorem SGc_at {w : World} {g : Nat} {f : Nat × Nat} (h : w.heap[g]? = some (.cells SGc 9 f)) : SAt w g SGb := fun k hk => by
  rw [cell_of_row w g k _ _ _ h]
  have : k < SG.length := by simpa [SGb] using hk
  simp [SGc, SGb, this]
theorem Signs_any (w : World) :
    Calls Try.prog 18 #[] w fun e w' => e = .returned (.slice (some ⟨w.heap.size, 0, none⟩) 27 27) ∧ w.alloc (.cells SGc 9) = w' := by
  go_enter Try.func18, Try.ntmps18
  go_wp2
  go_ret
  exact ⟨rfl, rfl⟩
theorem refSigns_any (w : World) :
    Calls Try.prog 19 #[] w fun e w' => e = .returned (.slice (some ⟨w.heap.size, 0, none⟩) 27 27) ∧ w.alloc (.cells SGc 9) = w' := by
  go_enter Try.func19, Try.ntmps19
  go_wp2
  go_ret
  exact ⟨rfl, rfl⟩
end Go.Proofs.Ytanbcclconhheaa.Tok
