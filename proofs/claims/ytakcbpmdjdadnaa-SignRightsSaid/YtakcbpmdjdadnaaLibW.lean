/-
  What is proved: which texts are words: what the calls of package token that tell so return.
-/
import Derived.Test.YtakcbpmdjdadnaaLibB
import Derived.Maps.Own
import Derived.Maps.Views
import Derived.Carry
namespace Go.Proofs.Ytakcbpmdjdadnaa.L
open Go.RowKit Go.Maps Go.WideMaps
set_option linter.unusedVariables false
set_option linter.unusedSimpArgs false

def WD : List (List UInt8) := [[116, 114, 117, 101], [102, 97, 108, 115, 101], [115, 111, 114, 116], [102, 117, 110], [112, 114, 101, 100], [97, 120, 105, 111, 109], [116, 104, 101, 111, 114, 101, 109], [112, 114, 111, 111, 102], [113, 101, 100], [97, 115], [98, 97, 99, 107], [105, 110, 116, 114, 111], [115, 112, 108, 105, 116], [108, 101, 102, 116], [114, 105, 103, 104, 116], [101, 120, 97, 99, 116], [97, 115, 115, 117, 109, 101], [97, 112, 112, 108, 121], [119, 105, 116, 110, 101, 115, 115], [99, 97, 115, 101, 115], [104, 97, 118, 101], [99, 111, 110, 116, 114, 97], [114, 101, 102, 108], [115, 119, 97, 112], [112, 114, 111, 112], [97, 114, 105, 116, 104], [109, 105, 120, 101, 100], [97, 117, 116, 111], [99, 111, 110, 103, 114], [116, 114, 121], [108, 111, 111, 112], [101, 97, 99, 104], [115, 107, 105, 112], [102, 97, 105, 108]]
def WDb : List ByteArray := WD.map BA
def wordB (l : List UInt8) : Bool := decide (l ∈ WD)
theorem law : Keyed Try.prog 9 := string_keyed Try.underlying9
theorem zeroB (w : World) : (zeroValue 4).run Try.prog w = .ok (.bool false) w := by kernel_rfl
theorem grown_trans {a b c : World} {row : Option Nat} (h : a.grownBy b row) (k : b.grownBy c row) : a.grownBy c row :=
  ⟨k.os.trans h.os, k.tape.trans h.tape, k.output.trans h.output, Nat.le_trans h.size k.size, fun i hi hne => (k.block i (Nat.lt_of_lt_of_le hi h.size) hne).trans (h.block i hi hne)⟩
theorem plainElem_bool_inv {P : Program} {e : TypeId} (he : P.underlying e = some .bool) {v : Value} {z : DataW Unit × List MemPlace} (h : plainElem P e v = some z) : ∃ a, v = .bool a ∧ z = (.lit (.bool a), []) := by
  unfold plainElem at h
  rw [he] at h
  cases v <;> simp at h
  exact ⟨_, rfl, h.symm⟩
theorem fill (g : Nat) (X : List ByteArray) : ∀ (W : World) (n : Nat) (D : DataW Unit), (∀ x ∈ X, x.size ≤ 100) → n + X.length < 1000 → W.ownsMap Try.prog 9 (plainElem Try.prog 4) g n D → IsMap D →
    ∃ Ws : Nat → World, Ws 0 = W ∧ (∀ i (h : i < X.length), (Instr.mapUpdate 66 (.map (some g)) (.string X[i]) (.bool true)).run Try.prog (Ws i) = .ok () (Ws (i + 1))) ∧
      ∃ n' D', (Ws X.length).ownsMap Try.prog 9 (plainElem Try.prog 4) g n' D' ∧ IsMap D' ∧ (∀ l z, D'.atKey (.string l) z = if l ∈ X.map (·.data.toList) then .lit (.bool true) else D.atKey (.string l) z) ∧ W.grownBy (Ws X.length) (some g) := by
  induction X with
  | nil =>
    intro W n D _ _ ho hD
    exact ⟨fun _ => W, rfl, fun i h => absurd h (by simp), n, D, ho, hD, fun l z => by simp, World.grownBy.refl _ _⟩
  | cons x X ih =>
    intro W n D hx hn ho hD
    have hk : keyOf Try.prog 9 (.string x) = some (.string x.data.toList) := keyOf_string_mk Try.underlying9 (Nat.le_trans (hx x (List.mem_cons_self ..)) (by unfold maxLen; omega))
    obtain ⟨W1, hrun, ho1, hg1⟩ := ho.update law Try.underlying66 (by simp at hn; unfold maxLen; omega) hk (plainElem_bool Try.underlying4 true)
    have hD1 : IsMap (D.put (.string x.data.toList) (.lit (.bool true))) := by
      obtain ⟨es, rfl⟩ := hD
      exact ⟨_, rfl⟩
    obtain ⟨Ws, h0, hr, n', D', ho', hD', hat, hg'⟩ := ih W1 (n + 1) _ (fun y hy => hx y (List.mem_cons_of_mem _ hy)) (by simp at hn; omega) ho1 hD1
    refine ⟨fun i => match i with | 0 => W | i + 1 => Ws i, rfl, fun i h => ?_, n', D', ho', hD', fun l z => ?_, grown_trans hg1 hg'⟩
    · cases i with
      | zero => show _ = Result.ok () (Ws 0); rw [h0]; exact hrun
      | succ i => exact hr i (by simpa using h)
    · rw [hat]
      by_cases hl : l ∈ X.map (·.data.toList)
      · rw [if_pos hl, if_pos (by simp only [List.map_cons, List.mem_cons]; exact .inr hl)]
      · rw [if_neg hl]
        by_cases he : l = x.data.toList
        · rw [if_pos (by simp [he]), he, atKey_put_same hD (by trivial)]
        · rw [if_neg (by simp only [List.map_cons, List.mem_cons]; exact fun h => h.elim he hl), atKey_put_other (by simpa using he)]

def LooksUp (g : Nat) (w : World) : Prop := ∀ s : ByteArray, s.size ≤ maxLen → (Instr.lookup 66 (.map (some g)) (.string s) false).run Try.prog w = .ok (.bool (wordB s.data.toList)) w
set_option maxHeartbeats 2000000 in
theorem words_any (w : World) :
    Calls Try.prog 57 #[] w fun e w' => e = .returned (.map (some w.heap.size)) ∧ Below w.heap.size w w' ∧ LooksUp w.heap.size w' := by
  have hmm := @run_makeMap Try.prog
  obtain ⟨Ws, h0, hr, n', D', ho, hD, hat, hg⟩ := fill w.heap.size WDb (w.alloc (.map #[] 0)) 0 (.map []) (by decide) (by decide) (World.ownsMap_made _ _ _ _) ⟨[], rfl⟩
  have r0 : (Instr.mapUpdate 66 (.map (some w.heap.size)) (.string ⟨#[116, 114, 117, 101]⟩) (.bool true)).run Try.prog (w.alloc (.map #[] 0)) = .ok () (Ws 1) := by have := hr 0 (by decide); rw [h0] at this; exact this
  have r1 : (Instr.mapUpdate 66 (.map (some w.heap.size)) (.string ⟨#[102, 97, 108, 115, 101]⟩) (.bool true)).run Try.prog (Ws 1) = .ok () (Ws 2) := hr 1 (by decide)
  have r2 : (Instr.mapUpdate 66 (.map (some w.heap.size)) (.string ⟨#[115, 111, 114, 116]⟩) (.bool true)).run Try.prog (Ws 2) = .ok () (Ws 3) := hr 2 (by decide)
  have r3 : (Instr.mapUpdate 66 (.map (some w.heap.size)) (.string ⟨#[102, 117, 110]⟩) (.bool true)).run Try.prog (Ws 3) = .ok () (Ws 4) := hr 3 (by decide)
  have r4 : (Instr.mapUpdate 66 (.map (some w.heap.size)) (.string ⟨#[112, 114, 101, 100]⟩) (.bool true)).run Try.prog (Ws 4) = .ok () (Ws 5) := hr 4 (by decide)
  have r5 : (Instr.mapUpdate 66 (.map (some w.heap.size)) (.string ⟨#[97, 120, 105, 111, 109]⟩) (.bool true)).run Try.prog (Ws 5) = .ok () (Ws 6) := hr 5 (by decide)
  have r6 : (Instr.mapUpdate 66 (.map (some w.heap.size)) (.string ⟨#[116, 104, 101, 111, 114, 101, 109]⟩) (.bool true)).run Try.prog (Ws 6) = .ok () (Ws 7) := hr 6 (by decide)
  have r7 : (Instr.mapUpdate 66 (.map (some w.heap.size)) (.string ⟨#[112, 114, 111, 111, 102]⟩) (.bool true)).run Try.prog (Ws 7) = .ok () (Ws 8) := hr 7 (by decide)
  have r8 : (Instr.mapUpdate 66 (.map (some w.heap.size)) (.string ⟨#[113, 101, 100]⟩) (.bool true)).run Try.prog (Ws 8) = .ok () (Ws 9) := hr 8 (by decide)
  have r9 : (Instr.mapUpdate 66 (.map (some w.heap.size)) (.string ⟨#[97, 115]⟩) (.bool true)).run Try.prog (Ws 9) = .ok () (Ws 10) := hr 9 (by decide)
  have r10 : (Instr.mapUpdate 66 (.map (some w.heap.size)) (.string ⟨#[98, 97, 99, 107]⟩) (.bool true)).run Try.prog (Ws 10) = .ok () (Ws 11) := hr 10 (by decide)
  have r11 : (Instr.mapUpdate 66 (.map (some w.heap.size)) (.string ⟨#[105, 110, 116, 114, 111]⟩) (.bool true)).run Try.prog (Ws 11) = .ok () (Ws 12) := hr 11 (by decide)
  have r12 : (Instr.mapUpdate 66 (.map (some w.heap.size)) (.string ⟨#[115, 112, 108, 105, 116]⟩) (.bool true)).run Try.prog (Ws 12) = .ok () (Ws 13) := hr 12 (by decide)
  have r13 : (Instr.mapUpdate 66 (.map (some w.heap.size)) (.string ⟨#[108, 101, 102, 116]⟩) (.bool true)).run Try.prog (Ws 13) = .ok () (Ws 14) := hr 13 (by decide)
  have r14 : (Instr.mapUpdate 66 (.map (some w.heap.size)) (.string ⟨#[114, 105, 103, 104, 116]⟩) (.bool true)).run Try.prog (Ws 14) = .ok () (Ws 15) := hr 14 (by decide)
  have r15 : (Instr.mapUpdate 66 (.map (some w.heap.size)) (.string ⟨#[101, 120, 97, 99, 116]⟩) (.bool true)).run Try.prog (Ws 15) = .ok () (Ws 16) := hr 15 (by decide)
  have r16 : (Instr.mapUpdate 66 (.map (some w.heap.size)) (.string ⟨#[97, 115, 115, 117, 109, 101]⟩) (.bool true)).run Try.prog (Ws 16) = .ok () (Ws 17) := hr 16 (by decide)
  have r17 : (Instr.mapUpdate 66 (.map (some w.heap.size)) (.string ⟨#[97, 112, 112, 108, 121]⟩) (.bool true)).run Try.prog (Ws 17) = .ok () (Ws 18) := hr 17 (by decide)
  have r18 : (Instr.mapUpdate 66 (.map (some w.heap.size)) (.string ⟨#[119, 105, 116, 110, 101, 115, 115]⟩) (.bool true)).run Try.prog (Ws 18) = .ok () (Ws 19) := hr 18 (by decide)
  have r19 : (Instr.mapUpdate 66 (.map (some w.heap.size)) (.string ⟨#[99, 97, 115, 101, 115]⟩) (.bool true)).run Try.prog (Ws 19) = .ok () (Ws 20) := hr 19 (by decide)
  have r20 : (Instr.mapUpdate 66 (.map (some w.heap.size)) (.string ⟨#[104, 97, 118, 101]⟩) (.bool true)).run Try.prog (Ws 20) = .ok () (Ws 21) := hr 20 (by decide)
  have r21 : (Instr.mapUpdate 66 (.map (some w.heap.size)) (.string ⟨#[99, 111, 110, 116, 114, 97]⟩) (.bool true)).run Try.prog (Ws 21) = .ok () (Ws 22) := hr 21 (by decide)
  have r22 : (Instr.mapUpdate 66 (.map (some w.heap.size)) (.string ⟨#[114, 101, 102, 108]⟩) (.bool true)).run Try.prog (Ws 22) = .ok () (Ws 23) := hr 22 (by decide)
  have r23 : (Instr.mapUpdate 66 (.map (some w.heap.size)) (.string ⟨#[115, 119, 97, 112]⟩) (.bool true)).run Try.prog (Ws 23) = .ok () (Ws 24) := hr 23 (by decide)
  have r24 : (Instr.mapUpdate 66 (.map (some w.heap.size)) (.string ⟨#[112, 114, 111, 112]⟩) (.bool true)).run Try.prog (Ws 24) = .ok () (Ws 25) := hr 24 (by decide)
  have r25 : (Instr.mapUpdate 66 (.map (some w.heap.size)) (.string ⟨#[97, 114, 105, 116, 104]⟩) (.bool true)).run Try.prog (Ws 25) = .ok () (Ws 26) := hr 25 (by decide)
  have r26 : (Instr.mapUpdate 66 (.map (some w.heap.size)) (.string ⟨#[109, 105, 120, 101, 100]⟩) (.bool true)).run Try.prog (Ws 26) = .ok () (Ws 27) := hr 26 (by decide)
  have r27 : (Instr.mapUpdate 66 (.map (some w.heap.size)) (.string ⟨#[97, 117, 116, 111]⟩) (.bool true)).run Try.prog (Ws 27) = .ok () (Ws 28) := hr 27 (by decide)
  have r28 : (Instr.mapUpdate 66 (.map (some w.heap.size)) (.string ⟨#[99, 111, 110, 103, 114]⟩) (.bool true)).run Try.prog (Ws 28) = .ok () (Ws 29) := hr 28 (by decide)
  have r29 : (Instr.mapUpdate 66 (.map (some w.heap.size)) (.string ⟨#[116, 114, 121]⟩) (.bool true)).run Try.prog (Ws 29) = .ok () (Ws 30) := hr 29 (by decide)
  have r30 : (Instr.mapUpdate 66 (.map (some w.heap.size)) (.string ⟨#[108, 111, 111, 112]⟩) (.bool true)).run Try.prog (Ws 30) = .ok () (Ws 31) := hr 30 (by decide)
  have r31 : (Instr.mapUpdate 66 (.map (some w.heap.size)) (.string ⟨#[101, 97, 99, 104]⟩) (.bool true)).run Try.prog (Ws 31) = .ok () (Ws 32) := hr 31 (by decide)
  have r32 : (Instr.mapUpdate 66 (.map (some w.heap.size)) (.string ⟨#[115, 107, 105, 112]⟩) (.bool true)).run Try.prog (Ws 32) = .ok () (Ws 33) := hr 32 (by decide)
  have r33 : (Instr.mapUpdate 66 (.map (some w.heap.size)) (.string ⟨#[102, 97, 105, 108]⟩) (.bool true)).run Try.prog (Ws 33) = .ok () (Ws 34) := hr 33 (by decide)
  have hlook : Hid (LooksUp w.heap.size (Ws 34)) := by
    intro s hs
    obtain ⟨v, ps, hrun, hv⟩ := ho.lookup law Try.underlying66 (zeroB _) (plainElem_bool Try.underlying4 false) (keyOf_string_mk Try.underlying9 hs)
    obtain ⟨c, rfl, hc⟩ := plainElem_bool_inv Try.underlying4 hv
    have hlen : WDb.length = 34 := rfl
    rw [hlen] at hrun
    rw [hrun]
    have e := hat s.data.toList (.lit (.bool false))
    have hWD : WDb.map (·.data.toList) = WD := rfl
    rw [hWD] at e
    simp only [Prod.mk.injEq] at hc
    rw [hc.1] at e
    unfold wordB
    by_cases hm : s.data.toList ∈ WD
    · rw [if_pos hm] at e
      injection e with e; injection e with e
      rw [e]; simp [hm]
    · rw [if_neg hm] at e
      have e : (DataW.lit (Lit.bool c) : DataW Unit) = .lit (.bool false) := e
      injection e with e; injection e with e
      rw [e]; simp [hm]
  have hB : Hid (Below w.heap.size w (Ws 34)) := (bel_alloc (Below.refl _ _) (.map #[] 0)).grown hg (by simp) (fun k hk => by injection hk with hk; omega)
  clear h0 hr ho hD hat hg
  go_enter Try.func57, Try.ntmps57
  go_wp2
  go_ret
  exact ⟨rfl, hB.out, hlook.out⟩
theorem word_size {l : List UInt8} (h : wordB l = true) : 2 ≤ l.length ∧ l.length ≤ 7 := by
  have h := of_decide_eq_true (show decide _ = true from h)
  have : ∀ x ∈ WD, 2 ≤ x.length ∧ x.length ≤ 7 := by decide
  exact this l h
theorem word_name {l : List UInt8} (h : wordB l = true) : nameB l = true := by
  have h := of_decide_eq_true (show decide _ = true from h)
  have : ∀ x ∈ WD, nameB x = true := by decide +kernel
  exact this l h

theorem Word_any (s : ByteArray) (w : World) (hs : s.size ≤ 9223372036854775000) :
    Calls Try.prog 36 #[.string s] w fun e w' => e = .returned (.bool (wordB s.data.toList)) ∧ Below w.heap.size w w' := by
  have hw := @word_size s.data.toList
  rw [len_list] at hw
  by_cases h1 : 2 ≤ s.size
  · by_cases h2 : s.size ≤ 7
    · have c1 := fun (w : World) => words_any w
      have hml : s.size ≤ maxLen := by unfold maxLen; omega
      clear hw
      go_enter Try.func36, Try.ntmps36
      go_wp2_with (go_at_call 57; ((with_reducible refine (c1 _).mono ?_); rintro e w1 ⟨rfl, hb1, hl⟩; have hl2 := hl s hml))
      go_ret
      exact ⟨rfl, hb1⟩
    · have hf : Hid (false = wordB s.data.toList) := by
        show _ = _
        cases hc : wordB s.data.toList with
        | true => have := hw hc; omega
        | false => rfl
      have h3 : ¬ (s.size : Int) ≤ 7 := by omega
      clear hw
      go_enter Try.func36, Try.ntmps36
      go_wp2
      go_ret
      exact ⟨oneB hf.out, Below.refl _ _⟩
  · have hf : Hid (false = wordB s.data.toList) := by
      show _ = _
      cases hc : wordB s.data.toList with
      | true => have := hw hc; omega
      | false => rfl
    have h3 : ¬ 2 ≤ (s.size : Int) := by omega
    clear hw
    go_enter Try.func36, Try.ntmps36
    go_wp2
    go_ret
    exact ⟨oneB hf.out, Below.refl _ _⟩

noncomputable def WDc : Array Value := (WD.map fun l => Value.string (BA l)).toArray
theorem WDc_at {w : World} {g : Nat} {f : Nat × Nat} (h : w.heap[g]? = some (.cells WDc 9 f)) : RowS w g 0 WDb := fun k hk => by
  rw [cell_of_row w g _ _ _ _ h]
  have : k < WD.length := by simpa [WDb] using hk
  simp [WDc, WDb, this]
theorem any_word (s : ByteArray) : hasS WDb s = wordB s.data.toList := by
  unfold wordB WDb hasS
  rw [Bool.eq_iff_iff, List.any_eq_true, decide_eq_true_eq]
  simp only [List.mem_map, beq_iff_eq]
  constructor
  · rintro ⟨x, ⟨l, hl, rfl⟩, h⟩
    rw [BA_toList, ByteArray.toList_eq] at h
    rw [← h]; exact hl
  · intro h
    exact ⟨_, ⟨_, h, rfl⟩, by rw [BA_toList, ByteArray.toList_eq]⟩
/-- what a call to Has over the words' own block returns -/
theorem Has_words (s : ByteArray) (w : World) :
    Calls Try.prog 27 #[.slice (some ⟨w.heap.size, 0, none⟩) 34 34, .string s] (w.alloc (.cells WDc 9)) fun e w' => e = .returned (.bool (wordB s.data.toList)) ∧ w.alloc (.cells WDc 9) = w' := by
  have hr := WDc_at (heap_alloc_new w (.cells WDc 9))
  have ch := Has_any (some ⟨w.heap.size, 0, none⟩) 34 34 WDb s (w.alloc (.cells WDc 9)) ⟨rfl, fun _ => ⟨_, _, rfl, by simp, hr⟩⟩ (by decide)
  rw [any_word] at ch
  exact ch
end Go.Proofs.Ytakcbpmdjdadnaa.L
