/-
  What is proved: the law over variables that go with a signature.
-/
import Derived.Test.YtacncbkcnhlpcaaZWlX
import Derived.Test.YtacncbkcnhlpcaaZWlY
import Derived.Test.YtacncbkcnhlpcaaZWlK
import Derived.Test.YtacncbkcnhlpcaaZWlFw
import Derived.Test.YtacncbkcnhlpcaaZWlG
namespace Go.Proofs.Ytacncbkcnhlpcaa.Wl
open Go.RowKit L T C
open Sgn (SlG Fm Core cores)
set_option linter.unusedVariables false
set_option linter.unusedSimpArgs false
set_option maxRecDepth 100000

theorem few_of {n v : Nat} {G : List Fm} {w : World} {b : Option Addr} {m d : Nat} (hG : SlG w b m d G) (h : fewZ n G v = true) : n ≤ 400 ∧ m ≤ 400 ∧ v ≤ 400 ∧ (∀ f ∈ G, f.m ≤ 400) ∧ ∀ C ∈ cores G, C.2.1.length ≤ 1000000 := by
  unfold fewZ at h
  obtain ⟨h1, h2⟩ := fewL_of h
  have hm : m = G.length := hG.1.1
  have h3 : ∀ f ∈ G, f.m ≤ 400 := fun f hf => h2 _ (List.mem_map.2 ⟨f, hf, rfl⟩)
  refine ⟨by omega, by omega, by omega, h3, fun C hC => ?_⟩
  obtain ⟨f, hf, rfl⟩ := List.mem_map.1 hC
  have h4 : f.m = f.X.length := (hG.1.2.2 f hf).1.1
  have h5 := h3 f hf
  show f.X.length ≤ 1000000
  omega
set_option maxHeartbeats 16000000 in
theorem varsB (z : SgZ) (p : Option Addr) (q e : Nat) (V : List Vr) (w : World) (hz : z.ok w) (hq : q ≤ 17592186044416) (hVs : SlV w p q e V ∧ ∀ v ∈ V, v.1.size ≤ 9223372036854775807 ∧ v.2.size ≤ 9223372036854775807) :
    Calls Try.prog 3 #[z.val, .slice p q e] w fun e w' => e = .returned (.bool true) ∧ Below w.heap.size w w' := by
  obtain ⟨hV, hs⟩ := hVs
  obtain ⟨a, n, c, S, b, m, d, G⟩ := z
  obtain ⟨hS, hn, hG, hm, hK⟩ := hz
  dsimp only at hS hn hG hm hK
  unfold SgZ.val
  dsimp only
  obtain ⟨W, hW⟩ : ∃ W1, w.alloc (.cells #[.slice a n c, .slice b m d] 25) = W1 := ⟨_, rfl⟩
  have hB : Below w.heap.size w W := by rw [← hW]; exact bel_alloc (Below.refl _ _) _
  have S1 := Sgn.SBox.new w a n c b m d
  rw [hW] at S1
  obtain ⟨s0, s1⟩ := S1.two
  have HS1 := Lib.hid S1
  have HB := Lib.hid hB
  have cF := fun (w' : World) (h : Below W.heap.size W w') => Few_any a n c b m d G p q e w' hn ((hG.below hB).below h) hm hK hq
  have g0 := fun (w' : World) => goes_any w'
  have HC := Lib.hid (show fewZ n G q = true → (∀ w', Below W.heap.size W w' → Calls Try.prog 9 #[.agg #[.slice a n c, .slice b m d], .slice p q e] w' fun e w1 => e = .returned (.int .i64 (varsV S (cores G) V)) ∧ Below w'.heap.size w' w1) ∧
      (∀ w', Below W.heap.size W w' → Calls Try.prog 10 #[.agg #[.slice a n c, .slice b m d], .slice p q e] w' fun e w1 => e = .returned (.int .i64 (varsV S (cores G) V)) ∧ Below w'.heap.size w' w1) from fun h => by
    obtain ⟨h1, h2, h3, h4, h5⟩ := few_of hG h
    exact ⟨fun w' hb => Vars_any a n c S b m d G p q e V w' ((hS.1.below hB).below hb) (by omega) ((hG.below hB).below hb) (by omega) h5 ((hV.below hB).below hb) (fun v hv => (hs v hv).1) (by omega), fun w' hb => Vars13_any a n c S b m d G p q e V w' ((hS.1.below hB).below hb) (by omega) ((hG.below hB).below hb) (by omega) ((hV.below hB).below hb) (fun v hv => (hs v hv).1) (by omega)⟩)
  have HQ := Lib.hid (show ∀ w', Below W.heap.size W w' → w'.cell? ⟨w.heap.size, 0, none⟩ = some (.slice a n c) ∧ w'.cell? ⟨w.heap.size, 1, none⟩ = some (.slice b m d) from fun w' h => (HS1.out.b h).two)
  have hBd : Below W.heap.size W W := Below.refl _ _
  generalize fewZ n G q = F at *
  generalize varsV S (cores G) V = R at *
  clear hS hn hG hm hK hV hs hq hB S1
  cases F with
  | true =>
    obtain ⟨c1, c2⟩ := HC.out rfl
    clear HC
    go_enter Try.func3, Try.ntmps3
    go_wp2_with fail
    go_region_held3 (fun w' => w'.cell? ⟨w.heap.size, 0, none⟩ = some (.slice a n c) ∧ w'.cell? ⟨w.heap.size, 1, none⟩ = some (.slice b m d))
      (first | (exact HQ.out _ (by first | assumption | exact Below.drew (by assumption) | exact Below.refl _ _ | exact (Below.refl _ _).drew)) | go_keep)
      (first
        | (go_at_call 8; ((with_reducible refine (cF _ (by first | assumption | exact Below.drew (by assumption) | exact Below.refl _ _ | exact (Below.refl _ _).drew)).mono ?_); rintro e wX ⟨rfl, hbX⟩; have Bz : Below W.heap.size W wX := bel_trans (by first | assumption | exact Below.drew (by assumption) | exact Below.refl _ _ | exact (Below.refl _ _).drew) hbX))
        | (go_at_call 9; ((with_reducible refine (c1 _ (by first | assumption | exact Below.drew (by assumption) | exact Below.refl _ _ | exact (Below.refl _ _).drew)).mono ?_); rintro e wX ⟨rfl, hbX⟩; have Bz : Below W.heap.size W wX := bel_trans (by first | assumption | exact Below.drew (by assumption) | exact Below.refl _ _ | exact (Below.refl _ _).drew) hbX))
        | (go_at_call 10; ((with_reducible refine (c2 _ (by first | assumption | exact Below.drew (by assumption) | exact Below.refl _ _ | exact (Below.refl _ _).drew)).mono ?_); rintro e wX ⟨rfl, hbX⟩; have Bz : Below W.heap.size W wX := bel_trans (by first | assumption | exact Below.drew (by assumption) | exact Below.refl _ _ | exact (Below.refl _ _).drew) hbX))
        | (go_at_call 11; ((with_reducible refine (g0 _).mono ?_); rintro e wX ⟨rfl, hbX⟩; have Bz : Below W.heap.size W wX := bel_trans (by first | assumption | exact Below.drew (by assumption) | exact Below.refl _ _ | exact (Below.refl _ _).drew) hbX)))
    all_goals
      go_wp2
      go_ret
      exact ⟨rfl, bel_trans HB.out Bz⟩
  | false =>
    clear HC
    go_enter Try.func3, Try.ntmps3
    go_wp2_with fail
    refine wp_region_noPanic ?_
    refine wp_region_held_drew (S := fun w' => w'.cell? ⟨w.heap.size, 0, none⟩ = some (.slice a n c) ∧ w'.cell? ⟨w.heap.size, 1, none⟩ = some (.slice b m d)) (by kernel_rfl) (by exact HQ.out _ (Below.drew hBd)) (fun hHeld => ?_)
    refine wpAnyH_take (i := 0) (v := ?_) rfl (by kernel_rfl) (by kernel_rfl) (by kernel_rfl) (fun _ _ _ h => h) (Or.inl ⟨by rfl, ?hy⟩) (by assumption) ?_
    case hy => (intro w hSw; (try dsimp only at hSw); go_simp; try (with_reducible rfl))
    (try simp only [List.getElem_toArray, List.getElem_cons_succ, List.getElem_cons_zero, Act.put, List.setIfInBounds_toArray, List.set_cons_zero, List.set_cons_succ])
    refine wpAnyH_take (i := 1) (v := ?_) rfl (by kernel_rfl) (by kernel_rfl) (by kernel_rfl) (fun _ _ _ h => h) (Or.inl ⟨by rfl, ?hy⟩) (by assumption) ?_
    case hy => (intro w hSw; (try dsimp only at hSw); go_simp; try (with_reducible rfl))
    (try simp only [List.getElem_toArray, List.getElem_cons_succ, List.getElem_cons_zero, Act.put, List.setIfInBounds_toArray, List.set_cons_zero, List.set_cons_succ])
    refine wpAnyH_ready (rs := [2]) (by kernel_rfl) (by simp) ?_
    refine AllReadyH.cons rfl (fun KK hKK => ?_) AllReadyH.nil
    go_simp
    (go_at_call 8; ((with_reducible refine (cF _ (by first | assumption | exact Below.drew (by assumption) | exact Below.refl _ _ | exact (Below.refl _ _).drew)).mono ?_); rintro e wX ⟨rfl, hbX⟩; have Bz : Below W.heap.size W wX := bel_trans (by first | assumption | exact Below.drew (by assumption) | exact Below.refl _ _ | exact (Below.refl _ _).drew) hbX))
    refine hKK.out _ _ (by exact HQ.out _ Bz) (fun hHeld => ?_)
    clear hKK KK
    (try simp only [List.getElem_toArray, List.getElem_cons_succ, List.getElem_cons_zero, Act.put, List.setIfInBounds_toArray, List.set_cons_zero, List.set_cons_succ])
    refine wpAnyH_take (i := 3) (v := ?_) rfl (by kernel_rfl) (by kernel_rfl) (by kernel_rfl) (fun _ _ _ h => h) (Or.inl ⟨by rfl, ?hy⟩) (by assumption) ?_
    case hy => (intro w hSw; (try dsimp only at hSw); go_simp; try (with_reducible rfl))
    (try simp only [List.getElem_toArray, List.getElem_cons_succ, List.getElem_cons_zero, Act.put, List.setIfInBounds_toArray, List.set_cons_zero, List.set_cons_succ])
    refine wpAnyH_take (i := 4) (v := ?_) rfl (by kernel_rfl) (by kernel_rfl) (by kernel_rfl) (fun _ _ _ h => h) (Or.inl ⟨by rfl, ?hy⟩) (by assumption) ?_
    case hy => (intro w hSw; (try dsimp only at hSw); go_simp; try (with_reducible rfl))
    (try simp only [List.getElem_toArray, List.getElem_cons_succ, List.getElem_cons_zero, Act.put, List.setIfInBounds_toArray, List.set_cons_zero, List.set_cons_succ])
    refine wpAnyH_take (i := 5) (v := undef) rfl (by kernel_rfl) (by kernel_rfl) (by kernel_rfl) (fun _ _ _ h => h) (Or.inr ⟨by rfl, rfl⟩) (by assumption) ?_
    (try simp only [List.getElem_toArray, List.getElem_cons_succ, List.getElem_cons_zero, Act.put, List.setIfInBounds_toArray, List.set_cons_zero, List.set_cons_succ])
    refine wpAnyH_take (i := 6) (v := undef) rfl (by kernel_rfl) (by kernel_rfl) (by kernel_rfl) (fun _ _ _ h => h) (Or.inr ⟨by rfl, rfl⟩) (by assumption) ?_
    (try simp only [List.getElem_toArray, List.getElem_cons_succ, List.getElem_cons_zero, Act.put, List.setIfInBounds_toArray, List.set_cons_zero, List.set_cons_succ])
    refine wpAnyH_take (i := 7) (v := undef) rfl (by kernel_rfl) (by kernel_rfl) (by kernel_rfl) (fun _ _ _ h => h) (Or.inr ⟨by rfl, rfl⟩) (by assumption) ?_
    (try simp only [List.getElem_toArray, List.getElem_cons_succ, List.getElem_cons_zero, Act.put, List.setIfInBounds_toArray, List.set_cons_zero, List.set_cons_succ])
    refine wpAnyH_take (i := 8) (v := undef) rfl (by kernel_rfl) (by kernel_rfl) (by kernel_rfl) (fun _ _ _ h => h) (Or.inr ⟨by rfl, rfl⟩) (by assumption) ?_
    (try simp only [List.getElem_toArray, List.getElem_cons_succ, List.getElem_cons_zero, Act.put, List.setIfInBounds_toArray, List.set_cons_zero, List.set_cons_succ])
    refine wpAnyH_take (i := 9) (v := undef) rfl (by kernel_rfl) (by kernel_rfl) (by kernel_rfl) (fun _ _ _ h => h) (Or.inr ⟨by rfl, rfl⟩) (by assumption) ?_
    (try simp only [List.getElem_toArray, List.getElem_cons_succ, List.getElem_cons_zero, Act.put, List.setIfInBounds_toArray, List.set_cons_zero, List.set_cons_succ])
    refine wpAnyH_take (i := 10) (v := undef) rfl (by kernel_rfl) (by kernel_rfl) (by kernel_rfl) (fun _ _ _ h => h) (Or.inr ⟨by rfl, rfl⟩) (by assumption) ?_
    (try simp only [List.getElem_toArray, List.getElem_cons_succ, List.getElem_cons_zero, Act.put, List.setIfInBounds_toArray, List.set_cons_zero, List.set_cons_succ])
    refine wpAnyH_take (i := 11) (v := undef) rfl (by kernel_rfl) (by kernel_rfl) (by kernel_rfl) (fun _ _ _ h => h) (Or.inr ⟨by rfl, rfl⟩) (by assumption) ?_
    (try simp only [List.getElem_toArray, List.getElem_cons_succ, List.getElem_cons_zero, Act.put, List.setIfInBounds_toArray, List.set_cons_zero, List.set_cons_succ])
    refine wpAnyH_take (i := 12) (v := ?_) rfl (by kernel_rfl) (by kernel_rfl) (by kernel_rfl) (fun _ _ _ h => h) (Or.inl ⟨by rfl, ?hy⟩) (by assumption) ?_
    case hy => (intro w hSw; (try dsimp only at hSw); go_simp; try (with_reducible rfl))
    (try simp only [List.getElem_toArray, List.getElem_cons_succ, List.getElem_cons_zero, Act.put, List.setIfInBounds_toArray, List.set_cons_zero, List.set_cons_succ])
    refine wpAnyH_take (i := 13) (v := ?_) rfl (by kernel_rfl) (by kernel_rfl) (by kernel_rfl) (fun _ _ _ h => h) (Or.inl ⟨by rfl, ?hy⟩) (by assumption) ?_
    case hy => (intro w hSw; (try dsimp only at hSw); go_simp; try (with_reducible rfl))
    (try simp only [List.getElem_toArray, List.getElem_cons_succ, List.getElem_cons_zero, Act.put, List.setIfInBounds_toArray, List.set_cons_zero, List.set_cons_succ])
    refine wpAnyH_ready (rs := [14]) (by kernel_rfl) (by simp) ?_
    refine AllReadyH.cons rfl (fun KK hKK => ?_) AllReadyH.nil
    go_simp
    (go_at_call 11; ((with_reducible refine (g0 _).mono ?_); rintro e wX ⟨rfl, hbX⟩; have Bz : Below W.heap.size W wX := bel_trans (by first | assumption | exact Below.drew (by assumption) | exact Below.refl _ _ | exact (Below.refl _ _).drew) hbX))
    refine hKK.out _ _ (by exact HQ.out _ Bz) (fun hHeld => ?_)
    clear hKK KK
    (try simp only [List.getElem_toArray, List.getElem_cons_succ, List.getElem_cons_zero, Act.put, List.setIfInBounds_toArray, List.set_cons_zero, List.set_cons_succ])
    refine wpAnyH_take (i := 15) (v := ?_) rfl (by kernel_rfl) (by kernel_rfl) (by kernel_rfl) (fun _ _ _ h => h) (Or.inl ⟨by rfl, ?hy⟩) (by assumption) ?_
    case hy => (intro w hSw; (try dsimp only at hSw); go_simp; try (with_reducible rfl))
    (try simp only [List.getElem_toArray, List.getElem_cons_succ, List.getElem_cons_zero, Act.put, List.setIfInBounds_toArray, List.set_cons_zero, List.set_cons_succ])
    refine wpAnyH_take (i := 16) (v := ?_) rfl (by kernel_rfl) (by kernel_rfl) (by kernel_rfl) (fun _ _ _ h => h) (Or.inl ⟨by rfl, ?hy⟩) (by assumption) ?_
    case hy => (intro w hSw; (try dsimp only at hSw); go_simp; try (with_reducible rfl))
    (try simp only [List.getElem_toArray, List.getElem_cons_succ, List.getElem_cons_zero, Act.put, List.setIfInBounds_toArray, List.set_cons_zero, List.set_cons_succ])
    refine wpAnyH_done (by kernel_rfl) ?_ _
    refine NoPanic.normal ?_
    all_goals go_wp2
    all_goals go_ret
    all_goals exact ⟨rfl, bel_trans HB.out Bz⟩
end Go.Proofs.Ytacncbkcnhlpcaa.Wl
