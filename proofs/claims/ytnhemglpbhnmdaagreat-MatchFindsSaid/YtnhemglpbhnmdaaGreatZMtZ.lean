/-
  What is proved: the first part of a term that a pattern turns into, among all parts and among those that occur once (plain mathematics); what keeps a reading of terms and pairs.
-/
import Derived.Test.YtnhemglpbhnmdaaGreatMC
import Derived.Test.YtnhemglpbhnmdaaGreatBT
namespace Go.Proofs.YtnhemglpbhnmdaaGreat.Mt
open Go.RowKit L T C B U
set_option linter.unusedVariables false
set_option linter.unusedSimpArgs false

/-- is it one of these? -/
def inT (l : List Tm) (x : Tm) : Bool := l.any (fun y => eqT y x)
def putT (l : List Tm) (x : Tm) : List Tm := if inT l x then l else l ++ [x]
def putsT (l : List Tm) (xs : List Tm) : List Tm := xs.foldl putT l
/-- what is found at a part -/
def pickF (X : List ByteArray) (p u : Tm) : Option (Tm × List Pr) := if bdT u then none else (mat X p [] u).map (fun l => (u, l))
def pick (X : List ByteArray) (p : Tm) (l : List Tm) : Option (Tm × List Pr) := l.findSome? (pickF X p)
theorem inT_iff {l : List Tm} {x : Tm} : inT l x = true ↔ x ∈ l := by
  unfold inT
  rw [List.any_eq_true]
  constructor
  · rintro ⟨y, hy, h⟩; rw [eqT_iff] at h; exact h ▸ hy
  · intro h; exact ⟨x, h, eqT_iff.2 rfl⟩
theorem inT_step {l : List Tm} {k : Nat} {y : Tm} (x : Tm) (h : l[k]? = some y) : inT (l.take (k + 1)) x = (inT (l.take k) x || eqT y x) := by
  unfold inT
  rw [List.take_add_one, h, List.any_append]
  simp
theorem pick_put (X : List ByteArray) (p : Tm) (l : List Tm) (x : Tm) : pick X p (putT l x) = (pick X p l).or (pickF X p x) := by
  unfold putT pick
  by_cases h : inT l x = true
  · rw [if_pos h]
    cases hl : l.findSome? (pickF X p) with
    | some r => rfl
    | none =>
      rw [List.findSome?_eq_none_iff] at hl
      rw [hl x (inT_iff.1 h)]; rfl
  · rw [if_neg h, List.findSome?_append]
    congr 1
    rw [List.findSome?_cons]
    cases pickF X p x <;> rfl
theorem pick_puts (X : List ByteArray) (p : Tm) : ∀ (xs l : List Tm), pick X p (putsT l xs) = (pick X p l).or (pick X p xs)
  | [], l => by
    show pick X p l = (pick X p l).or none
    rw [Option.or_none]
  | x :: xs, l => by
    show pick X p (putsT (putT l x) xs) = _
    rw [pick_puts X p xs, pick_put, Option.or_assoc]
    congr 1
    unfold pick
    rw [List.findSome?_cons]
    cases pickF X p x <;> rfl
/-- a part that occurs again changes nothing -/
theorem pick_parts (X : List ByteArray) (p : Tm) (l : List Tm) : pick X p (putsT [] l) = pick X p l := by rw [pick_puts]; rfl
theorem putsT_app (l xs ys : List Tm) : putsT l (xs ++ ys) = putsT (putsT l xs) ys := List.foldl_append
theorem putT_len (l : List Tm) (x : Tm) : (putT l x).length ≤ l.length + 1 := by
  unfold putT
  split
  · omega
  · rw [List.length_append]; exact Nat.le_refl _
theorem putsT_len : ∀ (xs l : List Tm), (putsT l xs).length ≤ l.length + xs.length
  | [], l => Nat.le_refl _
  | x :: xs, l => by
    have h1 := putsT_len xs (putT l x)
    have h2 := putT_len l x
    show (putsT (putT l x) xs).length ≤ _
    rw [List.length_cons]; omega
theorem pick_step {X : List ByteArray} {p u : Tm} {l : List Tm} {k : Nat} (h : l[k]? = some u) : pick X p (l.drop k) = (pickF X p u).or (pick X p (l.drop (k + 1))) := by
  rw [drop_t h]
  unfold pick
  rw [List.findSome?_cons]
  cases pickF X p u <;> rfl
/-! what is read stays read where cells stay -/
mutual
theorem Ar.cells {B B' : Nat} {w w' : World} (hc : ∀ (b o : Nat) v, w.cell? ⟨b, o, none⟩ = some v → w'.cell? ⟨b, o, none⟩ = some v) (hB : B ≤ B') : ∀ (t : Tm) {a : Option Addr} {n c : Nat}, Ar B w t a n c → Ar B' w' t a n c
  | .mk o s z l, a, n, c, h => by
    rw [Ar] at h ⊢
    refine ⟨h.1, h.2.1, h.2.2.1, h.2.2.2.1, fun hn => ?_⟩
    obtain ⟨b, o, ha, hlt, hr⟩ := h.2.2.2.2 hn
    exact ⟨b, o, ha, by omega, Rw.cells hc hB l hr⟩
theorem Rw.cells {B B' : Nat} {w w' : World} (hc : ∀ (b o : Nat) v, w.cell? ⟨b, o, none⟩ = some v → w'.cell? ⟨b, o, none⟩ = some v) (hB : B ≤ B') {b : Nat} : ∀ (l : List Tm) {o : Nat}, Rw B w b o l → Rw B' w' b o l
  | [], o, h => by rw [Rw]; trivial
  | t :: l, o, h => by
    rw [Rw] at h ⊢
    obtain ⟨⟨a, n, c, h0, h1, h2, h3, h4⟩, h5⟩ := h
    exact ⟨⟨a, n, c, hc _ _ _ h0, hc _ _ _ h1, hc _ _ _ h2, hc _ _ _ h3, Ar.cells hc hB t h4⟩, Rw.cells hc hB l h5⟩
end
theorem IsU.cells {B B' : Nat} {w w' : World} (hc : ∀ (b o : Nat) v, w.cell? ⟨b, o, none⟩ = some v → w'.cell? ⟨b, o, none⟩ = some v) (hB : B ≤ B') {a : Option Addr} {n c : Nat} {l : List Pr} (h : IsU B w a n c l) : IsU B' w' a n c l :=
  ⟨h.1, h.2.1, h.2.2.1, h.2.2.2.1, fun hn => by
    obtain ⟨b, o, ha, hlt, hr⟩ := h.2.2.2.2 hn
    refine ⟨b, o, ha, by omega, fun i p hi => ?_⟩
    obtain ⟨a', n', c', q0, q1, q2, q3, q4, q5⟩ := hr i p hi
    exact ⟨a', n', c', hc _ _ _ q0, hc _ _ _ q1, hc _ _ _ q2, hc _ _ _ q3, hc _ _ _ q4, Ar.cells hc hB _ q5⟩⟩
/-- a part and none: what is returned beside false -/
def z0 : Tm × List Pr := (.mk 0 ⟨#[]⟩ 0 [], [])
/-- a part, its pairs, or none -/
def RtAny (r : Option (Tm × List Pr)) (w : World) (e : Ending) (w' : World) : Prop :=
  ∃ a n c A N C, e = .returned (.tuple #[.agg #[.int .i64 (opT (r.getD z0).1), .string (nameT (r.getD z0).1), .int .i64 (numT (r.getD z0).1), .slice a n c], .slice A N C, .bool r.isSome]) ∧ ArW w' (r.getD z0).1 a n c ∧ UsW w' A N C (r.getD z0).2 ∧ Below w.heap.size w w'
end Go.Proofs.YtnhemglpbhnmdaaGreat.Mt
