/-
  What is proved: the chapter's examples hold; what the two functions that tell whether a text is a word return; the law on names, words and signs.
-/
import Derived.Test.YtanbcclconhheaaTokL
import Derived.Test.YtanbcclconhheaaTokI
import Derived.Deep.AppendLies
namespace Go.Proofs.Ytanbcclconhheaa.Tok
open Go.RowKit
set_option linter.unusedVariables false
set_option linter.unusedSimpArgs false

def s1 : ByteArray := ⟨#[102, 40, 120, 51, 44, 32, 48, 55, 41, 60, 45, 62, 35, 101, 110, 100]⟩
def s2 : ByteArray := ⟨#[97, 32, 36]⟩
def T1 : List Tok := [⟨1, [102], 0⟩, ⟨3, [40], 1⟩, ⟨1, [120, 51], 2⟩, ⟨3, [44], 4⟩, ⟨2, [48, 55], 6⟩, ⟨3, [41], 8⟩, ⟨3, [60, 45, 62], 9⟩]
theorem of1 : ofS s1.data.toList = .ok T1 := by kernel_rfl
theorem of2 : ofS s2.data.toList = .err 2 7 := by kernel_rfl
theorem txt1 : BA (jn (tokY T1)) = ⟨#[102, 32, 40, 32, 120, 51, 32, 44, 32, 48, 55, 32, 41, 32, 60, 45, 62]⟩ := by kernel_rfl
theorem alive1 (w : World) : Calls Try.prog 10 #[.string ⟨#[102, 40, 120, 51, 44, 32, 48, 55, 41, 60, 45, 62, 35, 101, 110, 100]⟩] w fun e w' =>
    ∃ g c, e = .returned (.tuple #[.slice (some ⟨g, 0, none⟩) 7 c, .int .i64 0, .int .i64 0]) ∧ g < w'.heap.size ∧ RowY w' g 0 (tokY T1) ∧ Below w.heap.size w w' := by
  have h := Of_any s1 w (by decide)
  rw [of1] at h
  refine h.mono fun e w' ⟨v, he, ho, hb⟩ => ?_
  obtain ⟨A, c, rfl, hY⟩ := own_isY ho
  obtain ⟨g, o, hA, hg, hr⟩ := hY.2 (by decide)
  obtain ⟨g', cap, hv, _, _⟩ := World.ownsRow.form ho (by decide)
  injection hv with hv1 hv2 hv3
  subst hv1
  injection hA with hA
  injection hA with hA1 hA2
  subst hA1 hA2
  exact ⟨_, _, he, hg, hr, hb⟩
theorem alive2 (w : World) : Calls Try.prog 10 #[.string ⟨#[97, 32, 36]⟩] w fun e w' =>
    ∃ v, e = .returned (.tuple #[v, .int .i64 2, .int .i64 7]) ∧ Below w.heap.size w w' := by
  have h := Of_any s2 w (by decide)
  rw [of2] at h
  exact h.mono fun e w' ⟨v, he, ho, hb⟩ => ⟨v, he, hb⟩

set_option maxHeartbeats 2000000 in
theorem alive_any (w : World) : Calls Try.prog 9 #[] w fun e w' => e = .returned (.bool true) ∧ Below w.heap.size w w' := by
  have c1 := alive1
  have c2 := alive2
  have c3 : ∀ (g c : Nat) (w : World), g < w.heap.size → RowY w g 0 (tokY T1) → Calls Try.prog 20 #[.slice (some ⟨g, 0, none⟩) 7 c] w fun e w' => e = .returned (.string ⟨#[102, 32, 40, 32, 120, 51, 32, 44, 32, 48, 55, 32, 41, 32, 60, 45, 62]⟩) ∧ Below w.heap.size w w' := fun g c w hg hr => by
    have := Text_any (some ⟨g, 0, none⟩) 7 c (tokY T1) w ⟨rfl, fun _ => ⟨g, 0, rfl, hg, hr⟩⟩ (by omega) (by decide)
    rw [txt1] at this
    exact this
  go_enter Try.func9, Try.ntmps9
  go_wp2_with (first
    | (go_at_call 10; ((with_reducible refine (c1 _).mono ?_); rintro e w1 ⟨g, c, rfl, hg, hr, hb1⟩))
    | (go_at_call 10; ((with_reducible refine (c2 _).mono ?_); rintro e w2 ⟨v, rfl, hb2⟩; have hg2 := Nat.lt_of_lt_of_le hg hb2.size; have hr2 := hr.below hb2 hg; have d1 : w2.cell? ⟨g, 12, none⟩ = some (.int .i64 2) := (hr2 4 (by decide)).1; have d2 : w2.cell? ⟨g, 13, none⟩ = some (.string ⟨#[48, 55]⟩) := (hr2 4 (by decide)).2.1; have d3 : w2.cell? ⟨g, 14, none⟩ = some (.int .i64 6) := (hr2 4 (by decide)).2.2))
    | (go_at_call 20; ((with_reducible refine (c3 _ _ _ hg2 hr2).mono ?_); rintro e w3 ⟨rfl, hb3⟩)))
  go_ret
  exact ⟨rfl, bel_trans (bel_trans hb1 hb2) hb3⟩

theorem word_size {l : List UInt8} (h : wordB l = true) : 2 ≤ l.length ∧ l.length ≤ 7 := by
  have h := of_decide_eq_true (show decide _ = true from h)
  have : ∀ x ∈ WD, 2 ≤ x.length ∧ x.length ≤ 7 := by decide
  exact this l h
theorem word_name {l : List UInt8} (h : wordB l = true) : nameB l = true := by
  have h := of_decide_eq_true (show decide _ = true from h)
  have : ∀ x ∈ WD, nameB x = true := by decide +kernel
  exact this l h

theorem Word_any (s : ByteArray) (w : World) (hs : s.size ≤ 9223372036854775000) :
    Calls Try.prog 15 #[.string s] w fun e w' => e = .returned (.bool (wordB s.data.toList)) ∧ Below w.heap.size w w' := by
  have hw := @word_size s.data.toList
  rw [len_list] at hw
  by_cases h1 : 2 ≤ s.size
  · by_cases h2 : s.size ≤ 7
    · have c1 := fun (w : World) => words_any w
      have hml : s.size ≤ maxLen := by unfold maxLen; omega
      clear hw
      go_enter Try.func15, Try.ntmps15
      go_wp2_with (go_at_call 28; ((with_reducible refine (c1 _).mono ?_); rintro e w1 ⟨rfl, hb1, hl⟩; have hl2 := hl s hml))
      go_ret
      exact ⟨rfl, hb1⟩
    · have hf : Hid (false = wordB s.data.toList) := by
        show _ = _
        cases hc : wordB s.data.toList with
        | true => have := hw hc; omega
        | false => rfl
      have h3 : ¬ (s.size : Int) ≤ 7 := by omega
      clear hw
      go_enter Try.func15, Try.ntmps15
      go_wp2
      go_ret
      exact ⟨oneB hf.out, Below.refl _ _⟩
  · have hf : Hid (false = wordB s.data.toList) := by
      show _ = _
      cases hc : wordB s.data.toList with
      | true => have := hw hc; omega
      | false => rfl
    have h3 : ¬ 2 ≤ (s.size : Int) := by omega
    clear hw
    go_enter Try.func15, Try.ntmps15
    go_wp2
    go_ret
    exact ⟨oneB hf.out, Below.refl _ _⟩

noncomputable def WDc : Array Value := (WD.map fun l => Value.string (BA l)).toArray
theorem WDc_at {w : World} {g : Nat} {f : Nat × Nat} (h : w.heap[g]? = some (.cells WDc 9 f)) : SAt w g WDb := fun k hk => by
  rw [cell_of_row w g k _ _ _ h]
  have : k < WD.length := by simpa [WDb] using hk
  simp [WDc, WDb, this]
theorem any_word (s : ByteArray) : WDb.any (fun x => x.toList == s.toList) = wordB s.data.toList := by
  unfold wordB WDb
  rw [Bool.eq_iff_iff, List.any_eq_true, decide_eq_true_eq]
  simp only [List.mem_map, beq_iff_eq]
  constructor
  · rintro ⟨x, ⟨l, hl, rfl⟩, h⟩
    rw [BA_toList, ByteArray.toList_eq] at h
    rw [← h]; exact hl
  · intro h
    exact ⟨_, ⟨_, h, rfl⟩, by rw [BA_toList, ByteArray.toList_eq]⟩
theorem refWord_any (s : ByteArray) (w : World) :
    Calls Try.prog 16 #[.string s] w fun e w' => e = .returned (.bool (wordB s.data.toList)) ∧ Below w.heap.size w w' := by
  have ch := Has_gen w.heap.size WDb s (w.alloc (.cells WDc 9)) (by decide) (WDc_at (heap_alloc_new w _))
  rw [any_word] at ch
  have ch : Calls Try.prog 29 #[.slice (some ⟨w.heap.size, 0, none⟩) 34 34, .string s] (w.alloc (.cells WDc 9)) fun e w' => e = .returned (.bool (wordB s.data.toList)) ∧ w.alloc (.cells WDc 9) = w' := ch
  generalize wordB s.data.toList = R at *
  unfold WDc WD at ch
  simp only [List.map_cons, List.map_nil, BA] at ch
  go_enter Try.func16, Try.ntmps16
  go_wp2_with (go_at_call 29; ((with_reducible refine ch.mono ?_); rintro e w1 ⟨rfl, rfl⟩))
  go_ret
  exact ⟨rfl, bel_alloc (Below.refl _ _) _⟩
end Go.Proofs.Ytanbcclconhheaa.Tok
