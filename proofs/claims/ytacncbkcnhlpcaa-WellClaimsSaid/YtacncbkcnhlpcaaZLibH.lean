/-
  What is proved: rows of terms that a call makes itself: appended to, made, stored into, read.
-/
import Derived.Test.YtacncbkcnhlpcaaBL
import Derived.Deep.OwnRows
namespace Go.Proofs.Ytacncbkcnhlpcaa.T
open Go.RowKit L
set_option linter.unusedVariables false
set_option linter.unusedSimpArgs false

/-- a term's four cells -/
structure Hd where
  op : Int
  nm : ByteArray
  nu : Int
  a : Option Addr
  n : Nat
  c : Nat
def Hd.cells (h : Hd) : List Value := [.int .i64 h.op, .string h.nm, .int .i64 h.nu, .slice h.a h.n h.c]
def Hd.val (h : Hd) : Value := .agg #[.int .i64 h.op, .string h.nm, .int .i64 h.nu, .slice h.a h.n h.c]
def Hd.zero : Hd := ⟨0, ⟨#[]⟩, 0, none, 0, 0⟩
def hdOf (t : Tm) (a : Option Addr) (n c : Nat) : Hd := ⟨opT t, nameT t, numT t, a, n, c⟩
def flatH (hs : List Hd) : List Value := hs.flatMap Hd.cells
theorem flat_len (hs : List Hd) : (flatH hs).length = hs.length * 4 := by
  unfold flatH
  induction hs with
  | nil => rfl
  | cons h l ih => rw [List.flatMap_cons, List.length_append, ih, List.length_cons]; simp [Hd.cells]; omega
theorem flat_app (l m : List Hd) : flatH (l ++ m) = flatH l ++ flatH m := by unfold flatH; rw [List.flatMap_append]
theorem flat_get : ∀ (hs : List Hd) (k j : Nat) (hk : k < hs.length), j < 4 → (flatH hs)[k * 4 + j]? = (hs[k].cells)[j]?
  | [], k, j, hk, _ => absurd hk (by simp)
  | h :: l, 0, j, hk, hj => by
    unfold flatH
    rw [List.flatMap_cons, List.getElem?_append_left (by simp [Hd.cells]; omega)]
    simp
  | h :: l, k + 1, j, hk, hj => by
    have ih := flat_get l k j (by simpa using hk) hj
    unfold flatH at ih ⊢
    rw [List.flatMap_cons, List.getElem?_append_right (by simp [Hd.cells]; omega)]
    have e : (k + 1) * 4 + j - h.cells.length = k * 4 + j := by simp [Hd.cells]; omega
    rw [e, ih]; simp
/-- a list of cells, told by places -/
theorem flat_ext {hs : List Hd} {cs : List Value} (hl : hs.length * 4 ≤ cs.length) (h : ∀ k (hk : k < hs.length) j, j < 4 → cs[k * 4 + j]? = (hs[k].cells)[j]?) : cs.take (hs.length * 4) = flatH hs := by
  refine List.ext_getElem? fun i => ?_
  by_cases hi : i < hs.length * 4
  · rw [List.getElem?_take_of_lt hi]
    have hk : i / 4 < hs.length := by omega
    have := h (i / 4) hk (i % 4) (by omega)
    rw [show i / 4 * 4 + i % 4 = i by omega] at this
    rw [this, ← flat_get hs (i / 4) (i % 4) hk (by omega), show i / 4 * 4 + i % 4 = i by omega]
  · rw [List.getElem?_eq_none (by rw [List.length_take]; omega), List.getElem?_eq_none (by rw [flat_len]; omega)]
theorem hd_one (hs : List Hd) : ∀ u ∈ flatH hs, u.oneCell' = true := fun u hu => by
  unfold flatH at hu
  obtain ⟨h, _, hu⟩ := List.mem_flatMap.1 hu
  simp [Hd.cells] at hu
  rcases hu with rfl | rfl | rfl | rfl <;> rfl
theorem termI : (Try.prog.info? 33).map (fun i => (i.zero, i.size, i.bytes)) = some (some (.agg #[.int .i64 0, .string ⟨#[]⟩, .int .i64 0, .slice none 0 0]), 4, 56) := by kernel_rfl

/-- a row of the call's own that holds these terms -/
def OwnT (w : World) (base : Nat) (v : Value) (hs : List Hd) : Prop := w.ownsRow base 33 4 v hs.length (flatH hs)
theorem OwnT.nil (w : World) (base : Nat) : OwnT w base (.slice none 0 0) [] := World.ownsRow_nil _ _ _ _
theorem OwnT.base {w : World} {b b' : Nat} {v : Value} {hs : List Hd} (h : OwnT w b v hs) (hb : b' ≤ b) : OwnT w b' v hs := by
  refine ⟨h.1, ?_⟩
  rcases h.2 with hn | ⟨g, cap, cur, rfl, h1, rest⟩
  · exact .inl hn
  · exact .inr ⟨g, cap, cur, rfl, by omega, rest⟩
theorem OwnT.below {w w' : World} {base : Nat} {v : Value} {hs : List Hd} (h : OwnT w base v hs) (hb : Below w.heap.size w w') : OwnT w' base v hs := by
  refine ⟨h.1, ?_⟩
  rcases h.2 with hn | ⟨g, cap, cur, rfl, h1, hg, rest⟩
  · exact .inl hn
  · exact .inr ⟨g, cap, cur, rfl, h1, by rw [hb.block g (Array.getElem?_eq_some_iff.1 hg).1]; exact hg, rest⟩
theorem OwnT.at {w : World} {base g n c : Nat} {hs : List Hd} (h : OwnT w base (.slice (some ⟨g, 0, none⟩) n c) hs) {k : Nat} (hk : k < hs.length) :
    w.cell? ⟨g, k * 4, none⟩ = some (.int .i64 hs[k].op) ∧ w.cell? ⟨g, k * 4 + 1, none⟩ = some (.string hs[k].nm) ∧ w.cell? ⟨g, k * 4 + 1 + 1, none⟩ = some (.int .i64 hs[k].nu) ∧ w.cell? ⟨g, k * 4 + 1 + 1 + 1, none⟩ = some (.slice hs[k].a hs[k].n hs[k].c) := by
  rcases h.2 with ⟨hv, _⟩ | ⟨g', cap, cur, hv, hb, hg, hnc, hcm, hcs, ht⟩
  · cases hv
  · injection hv with h1 h2 h3
    injection h1 with h1
    injection h1 with h1
    subst h1
    have key : ∀ j, j < 4 → w.cell? ⟨g, k * 4 + j, none⟩ = (hs[k].cells)[j]? := fun j hj => by
      rw [cell_of_row w g _ _ _ _ hg, ← flat_get hs k j hk hj, ← ht, List.getElem?_take_of_lt (by omega), Array.getElem?_toList]
    exact ⟨key 0 (by omega), key 1 (by omega), key 2 (by omega), key 3 (by omega)⟩
theorem OwnT.slice {w : World} {base : Nat} {v : Value} {hs : List Hd} (h : OwnT w base v hs) : ∃ A c, v = .slice A hs.length c ∧ hs.length ≤ c ∧ c ≤ maxLen ∧ (A = none → c = 0) ∧ (0 < hs.length → ∃ g, A = some ⟨g, 0, none⟩ ∧ base ≤ g ∧ g < w.heap.size) := by
  rcases h.2 with ⟨rfl, hn⟩ | ⟨g, cap, cur, rfl, hb, hg, hnc, hcm, hcs, ht⟩
  · exact ⟨none, 0, by rw [hn], by omega, Nat.zero_le _, fun _ => rfl, fun h => absurd h (by omega)⟩
  · exact ⟨_, _, rfl, hnc, hcm, (fun h => by cases h), fun _ => ⟨g, rfl, hb, (Array.getElem?_eq_some_iff.1 hg).1⟩⟩
/-- read as terms whose Args lie wherever they are read -/
theorem OwnT.isT {w : World} {base B : Nat} {A : Option Addr} {n c : Nat} {hs : List Hd} {l : List Tm} (h : OwnT w base (.slice A n c) hs) (hB : w.heap.size ≤ B) (hl : l.length = hs.length)
    (ha : ∀ k (hk : k < l.length) (hk2 : k < hs.length), hs[k].op = opT l[k] ∧ hs[k].nm = nameT l[k] ∧ hs[k].nu = numT l[k] ∧ Ar B w l[k] hs[k].a hs[k].n hs[k].c) : IsT B w A n c l := by
  obtain ⟨A', c', hv, h1, h2, h3, h4⟩ := h.slice
  injection hv with e1 e2 e3
  subst e1 e2 e3
  refine ⟨hl.symm, h1, h2, h3, fun hn => ?_⟩
  obtain ⟨g, rfl, hb, hlt⟩ := h4 hn
  refine ⟨g, 0, rfl, by omega, rw_at.2 fun k hk => ?_⟩
  have hk2 : k < hs.length := by omega
  obtain ⟨c0, c1, c2, c3⟩ := h.at hk2
  obtain ⟨e1, e2, e3, e4⟩ := ha k hk hk2
  rw [Nat.zero_add]
  exact ⟨_, _, _, by rw [← e1]; exact c0, by rw [← e2]; exact c1, by rw [← e3]; exact c2, c3, e4⟩
end Go.Proofs.Ytacncbkcnhlpcaa.T
