/-
  What is proved: a function put into a signature, by package sign.
-/
import Derived.Test.YtakcbpmdjdadnaaSgnR
import Derived.Test.YtakcbpmdjdadnaaSgnC
import Derived.Deep.RegionHeld3
namespace Go.Proofs.Ytakcbpmdjdadnaa.Sgn
open Go.RowKit L Srt
set_option linter.unusedVariables false
set_option linter.unusedSimpArgs false

theorem one_fun {w : World} {g : Nat} {f : Fm} (h : FBox w g f.name f.a f.m f.c f.res) (hf : f.ok w) : SlG w (some ⟨g, 0, none⟩) 1 1 [f] := by
  refine ⟨⟨rfl, fun _ => ⟨g, 0, rfl, Blk.lt h, fun i hi => ?_⟩, fun f' hf' => by rw [List.mem_singleton.1 hf']; exact hf⟩, Nat.le_refl _, fun h => by cases h⟩
  have : i = 0 := by simp at hi; omega
  subst this
  exact h.three

theorem keep2 {w : World} {g k x : Nat} {u v0 v1 : Value} (h : w.cell? ⟨g, k, none⟩ = some u) (hne : g ≠ x) : ((w.setCell ⟨x, 0, none⟩ v0).setCell ⟨x, 1, none⟩ v1).cell? ⟨g, k, none⟩ = some u :=
  (World.cell?_of_block (heap_setCell_other _ ⟨x, 1, none⟩ g v1 hne)).trans ((World.cell?_of_block (heap_setCell_other w ⟨x, 0, none⟩ g v0 hne)).trans h)
set_option maxRecDepth 100000 in
set_option maxHeartbeats 8000000 in
theorem Fun6_any (a : Option Addr) (n c : Nat) (S : List ByteArray) (b : Option Addr) (m d : Nat) (G : List Fm) (f : Fm) (w : World) (hS : SlS w a n c S) (hn : n ≤ 1000000) (hG : SlG w b m d G) (hm : m ≤ 1000000) (hK : okK (cores G)) (hf : f.ok w) (hC : okC f.core) :
    Calls Try.prog 17 #[.agg #[.slice a n c, .slice b m d], .agg #[.string f.name, .slice f.a f.m f.c, .string f.res]] w (FunPost S (cores G) f.core w) := by
  obtain ⟨W3, hW3, hB3, S3, F3, T3⟩ := boxes3 w a n c b m d f.name f.a f.m f.c f.res
  have cC := Check_any a n c S b m d f W3 (hS.below hB3) hn (hf.below hB3) hC
  have cl := fun (w' : World) (h : Below W3.heap.size W3 w') => place_any f.name b m d G w' ((hG.below hB3).below h).1 (by omega)
  have cK : ∀ (w' : World), Below W3.heap.size W3 w' → Calls Try.prog 34 #[.slice a n c, .string f.name] w' fun e w1 => e = .returned (.bool (knownB S f.name)) ∧ Below w'.heap.size w' w1 := fun w' h => Known_any a n c S f.name w' ((hS.below hB3).below h).1 (by omega)
  have cc := fun (w' : World) (h : Below W3.heap.size W3 w') => cloneSl a n c S w' ((hS.below hB3).below h) (by omega)
  have hmm : f.m ≤ 100000000 := okM (G := [f]) (w := w) ⟨by simp [cores], fun C hC' => by have : C = f.core := by simpa [cores] using hC'
                                                                                          rw [this]; exact hC⟩ (fun f' h => by rw [List.mem_singleton.1 h]; exact hf) f (by simp)
  have hofff : Off (w.heap.size + 2) f.a f.m := off_old hf (by omega)
  have cX : ∀ (w' : World) (gb : Nat), Below W3.heap.size W3 w' → FBox w' gb f.name f.a f.m f.c f.res → Calls Try.prog 42 #[.slice b m d, .slice (some ⟨gb, 0, none⟩) 1 1] w' (ExtPost (w.heap.size + 2) (m + 1) (cores G ++ [f.core]) w') := fun w' gb h hb => by
    have h1 := (hG.below hB3).below h
    have h2 := one_fun hb ((hf.below hB3).below h)
    exact extended_any b m d G (some ⟨gb, 0, none⟩) 1 1 [f] w' h1 hm h2 (by omega)
      (fun f' hf' => by
        rcases List.mem_append.1 hf' with h3 | h3
        · exact okM hK hG.1.2.2 f' h3
        · rw [List.mem_singleton.1 h3]; exact hmm) (w.heap.size + 2) (Nat.lt_of_lt_of_le (Blk.lt T3) h.size)
      (fun f' hf' => by
        rcases List.mem_append.1 hf' with h3 | h3
        · exact (offG_old hG (by omega)).2 f' h3
        · rw [List.mem_singleton.1 h3]; exact hofff)
  have hleaf := funE_leaf S (cores G) f.core
  have hlen : (cores G).length = m := by rw [cores_len]; exact hG.1.1.symm
  rw [hlen] at hleaf
  have herr := fun (E : Int) (w' : World) => @fun_err S (cores G) f.core w w' E
  have hok := fun (w' : World) (A : Option Addr) (N D : Nat) (B : Option Addr) (M L : Nat) (H : List Fm) => @fun_ok S (cores G) f.core w w' A N D B M L H
  have HSn : Hid (n = S.length) := hS.1.1
  obtain ⟨s0, s1⟩ := S3.two
  obtain ⟨f0, f1, f2⟩ := F3.three
  obtain ⟨t0, t1⟩ := T3.two
  have lt3 := Blk.lt T3
  have ltS := Blk.lt S3
  have ltF := Blk.lt F3
  generalize FunPost S (cores G) f.core w = Post at *
  generalize funE S (cores G) f.core = E at *
  have hname : f.core.1 = f.name := rfl
  rw [hname] at hleaf
  generalize cores G ++ [f.core] = KC at *
  generalize checkE S f.core = Ce at *
  generalize posK (cores G) f.name = P at *
  generalize knownB S f.name = R at *
  clear hS hG hK hf hC hlen hmm hofff hname
  generalize f.name = nm at *
  generalize f.a = A at *
  generalize f.m = M at *
  generalize f.c = Cc at *
  generalize f.res = rs at *
  rcases hleaf with ⟨h0, hE⟩ | ⟨rfl, hp, hE⟩ | ⟨rfl, hp, rfl, hE⟩ | ⟨rfl, hp, rfl, h256, hE⟩ | ⟨rfl, hp, rfl, h256, hE⟩
  · have Herr := Lib.hid (fun (w' : World) hb => herr _ w' hE h0 hb)
    have h1 : (Ce != 0) = true := by simp [h0]
    clear herr hok hE cX cc
    go_enter Try.func17, Try.ntmps17
    go_wp2_with (go_at_call 13; ((with_reducible refine cC.mono ?_); rintro e w4 ⟨rfl, hb4⟩; have T4 := T3.b hb4; obtain ⟨t40, t41⟩ := T4.two; obtain ⟨u40, u41⟩ := T4.free; obtain ⟨x0, x1⟩ := (T4.put none 0 0 none 0 0).two))
    simp [bodyPost, results, Try.results17, go_sem, x0, x1]
    exact Herr.out _ (below_set2 (bel_trans hB3 hb4) (by omega) _ _)
  · have Herr := Lib.hid (fun (w' : World) hb => herr _ w' hE (by decide) hb)
    clear herr hok hE cX cc
    go_enter Try.func17, Try.ntmps17
    go_wp2_with (first
      | (go_at_call 13; ((with_reducible refine cC.mono ?_); rintro e w4 ⟨rfl, hb4⟩; obtain ⟨s40, s41⟩ := (S3.b hb4).two; obtain ⟨f40, f41, f42⟩ := (F3.b hb4).three))
      | (go_at_call 30; ((with_reducible refine (cl _ hb4).mono ?_); rintro e w5 ⟨rfl, hb5⟩; have B5 := bel_trans hb4 hb5; have T4 := T3.b B5; obtain ⟨t40, t41⟩ := T4.two; obtain ⟨u40, u41⟩ := T4.free; obtain ⟨x0, x1⟩ := (T4.put none 0 0 none 0 0).two)))
    simp [bodyPost, results, Try.results17, go_sem, x0, x1]
    exact Herr.out _ (below_set2 (bel_trans hB3 B5) (by omega) _ _)
  · have Herr := Lib.hid (fun (w' : World) hb => herr _ w' hE (by decide) hb)
    clear herr hok hE cX cc
    go_enter Try.func17, Try.ntmps17
    go_wp2_with (first
      | (go_at_call 13; ((with_reducible refine cC.mono ?_); rintro e w4 ⟨rfl, hb4⟩; obtain ⟨s40, s41⟩ := (S3.b hb4).two; obtain ⟨f40, f41, f42⟩ := (F3.b hb4).three))
      | (go_at_call 30; ((with_reducible refine (cl _ hb4).mono ?_); rintro e w5 ⟨rfl, hb5⟩; have B5 := bel_trans hb4 hb5; obtain ⟨s50, s51⟩ := (S3.b B5).two; obtain ⟨f50, f51, f52⟩ := (F3.b B5).three))
      | (go_at_call 34; ((with_reducible refine (cK _ B5).mono ?_); rintro e w6 ⟨rfl, hb6⟩; have B6 := bel_trans B5 hb6; have T4 := T3.b B6; obtain ⟨t40, t41⟩ := T4.two; obtain ⟨u40, u41⟩ := T4.free; obtain ⟨x0, x1⟩ := (T4.put none 0 0 none 0 0).two)))
    simp [bodyPost, results, Try.results17, go_sem, x0, x1]
    exact Herr.out _ (below_set2 (bel_trans hB3 B6) (by omega) _ _)
  · have Herr := Lib.hid (fun (w' : World) hb => herr _ w' hE (by decide) hb)
    have h257 : 256 ≤ (m : Int) := by omega
    clear herr hok hE cX cc
    go_enter Try.func17, Try.ntmps17
    go_wp2_with (first
      | (go_at_call 13; ((with_reducible refine cC.mono ?_); rintro e w4 ⟨rfl, hb4⟩; obtain ⟨s40, s41⟩ := (S3.b hb4).two; obtain ⟨f40, f41, f42⟩ := (F3.b hb4).three))
      | (go_at_call 30; ((with_reducible refine (cl _ hb4).mono ?_); rintro e w5 ⟨rfl, hb5⟩; have B5 := bel_trans hb4 hb5; obtain ⟨s50, s51⟩ := (S3.b B5).two; obtain ⟨f50, f51, f52⟩ := (F3.b B5).three))
      | (go_at_call 34; ((with_reducible refine (cK _ B5).mono ?_); rintro e w6 ⟨rfl, hb6⟩; have B6 := bel_trans B5 hb6; obtain ⟨s60, s61⟩ := (S3.b B6).two; have T4 := T3.b B6; obtain ⟨t40, t41⟩ := T4.two; obtain ⟨u40, u41⟩ := T4.free; obtain ⟨x0, x1⟩ := (T4.put none 0 0 none 0 0).two)))
    simp [bodyPost, results, Try.results17, go_sem, x0, x1]
    exact Herr.out _ (below_set2 (bel_trans hB3 B6) (by omega) _ _)
  · have Hok := Lib.hid (fun (w' : World) (A : Option Addr) (N D : Nat) (B : Option Addr) (M L : Nat) (H : List Fm) h1 h2 h3 h4 => hok w' A N D B M L H hE h1 h2 h3 h4)
    have h257 : ¬ 256 ≤ (m : Int) := by omega
    clear herr hok hE
    go_enter Try.func17, Try.ntmps17
    go_wp2_with (first
      | (go_at_call 13; ((with_reducible refine cC.mono ?_); rintro e w4 ⟨rfl, hb4⟩; obtain ⟨s40, s41⟩ := (S3.b hb4).two; obtain ⟨f40, f41, f42⟩ := (F3.b hb4).three))
      | (go_at_call 30; ((with_reducible refine (cl _ hb4).mono ?_); rintro e w5 ⟨rfl, hb5⟩; have B5 := bel_trans hb4 hb5; obtain ⟨s50, s51⟩ := (S3.b B5).two; obtain ⟨f50, f51, f52⟩ := (F3.b B5).three))
      | (go_at_call 34; ((with_reducible refine (cK _ B5).mono ?_); rintro e w6 ⟨rfl, hb6⟩; have B6 := bel_trans B5 hb6; have S6 := S3.b B6; have F6 := F3.b B6; obtain ⟨s60, s61⟩ := S6.two; obtain ⟨f60, f61, f62⟩ := F6.three))
      | fail)
    clear s0 s1 f0 f1 f2 t0 t1 s40 s41 f40 f41 f42 s50 s51 f50 f51 f52 cC cl cK hW3 hb4 hb5 hb6 B5
    have lsk := Blk.lt S6
    have lfk := Blk.lt F6
    have Bd : Below W3.heap.size W3 w6.drew := B6.drew
    have Bk : Below w6.heap.size w6 w6.drew := (Below.refl _ _).drew
    have Bd2 : Below W3.heap.size W3 (w6.alloc (.cells #[.string nm, .slice A M Cc, .string rs] 27)).drew := (bel_alloc B6 _).drew
    have Bk2 : Below w6.heap.size w6 (w6.alloc (.cells #[.string nm, .slice A M Cc, .string rs] 27)).drew := (bel_alloc (Below.refl _ _) _).drew
    have FB2 : FBox (w6.alloc (.cells #[.string nm, .slice A M Cc, .string rs] 27)).drew w6.heap.size nm A M Cc rs := FBox.b (FBox.new w6 nm A M Cc rs) (Below.refl _ _).drew
    go_region_held3 (fun w' => w'.cell? ⟨w.heap.size, 0, none⟩ = some (.slice a n c) ∧ w'.cell? ⟨w.heap.size, 1, none⟩ = some (.slice b m d) ∧ w'.cell? ⟨w.heap.size + 1, 0, none⟩ = some (.string nm) ∧ w'.cell? ⟨w.heap.size + 1, 1, none⟩ = some (.slice A M Cc) ∧ w'.cell? ⟨w.heap.size + 1, 2, none⟩ = some (.string rs))
      (first | (exact ⟨keep2 q0 (by omega), keep2 q1 (by omega), keep2 q2 (by omega), keep2 q3 (by omega), keep2 q4 (by omega)⟩) | (exact ⟨(Bw9.cell lsk).trans s60, (Bw9.cell lsk).trans s61, (Bw9.cell lfk).trans f60, (Bw9.cell lfk).trans f61, (Bw9.cell lfk).trans f62⟩) | (exact ⟨(Bw8.cell lsk).trans s60, (Bw8.cell lsk).trans s61, (Bw8.cell lfk).trans f60, (Bw8.cell lfk).trans f61, (Bw8.cell lfk).trans f62⟩) | (exact ⟨(Bw.cell lsk).trans s60, (Bw.cell lsk).trans s61, (Bw.cell lfk).trans f60, (Bw.cell lfk).trans f61, (Bw.cell lfk).trans f62⟩) | go_keep)
      (first
        | (go_at_call 44; ((with_reducible refine (cc _ Bd).mono ?_); rintro e w7 ⟨A7, c7, rfl, ho7, hb7⟩; have B7 := bel_trans Bd hb7; have hO : Off (w.heap.size + 2) A7 n := off_own ho7 (Nat.lt_of_lt_of_le lt3 Bd.size); have Bw := bel_trans Bk hb7))
        | (go_at_call 44; ((with_reducible refine (cc _ Bd2).mono ?_); rintro e w7 ⟨A7, c7, rfl, ho7, hb7⟩; have B7 := bel_trans Bd2 hb7; have hO : Off (w.heap.size + 2) A7 n := off_own ho7 (Nat.lt_of_lt_of_le lt3 Bd2.size); have Bw := bel_trans Bk2 hb7))
        | (go_at_call 44; ((with_reducible refine (cc _ B8).mono ?_); rintro e w9 ⟨A7, c7, rfl, ho9, hb9⟩; have B9 := bel_trans B8 hb9; have hO : Off (w.heap.size + 2) A7 n := off_own ho9 (Nat.lt_of_lt_of_le lt3 B8.size); have Bw9 := bel_trans Bw8 hb9; have q0 := (Bw9.cell lsk).trans s60; have q1 := (Bw9.cell lsk).trans s61; have q2 := (Bw9.cell lfk).trans f60; have q3 := (Bw9.cell lfk).trans f61; have q4 := (Bw9.cell lfk).trans f62; have Tf := T3.b B9; obtain ⟨t80, t81⟩ := Tf.two; obtain ⟨u80, u81⟩ := Tf.free; obtain ⟨x0, x1⟩ := (Tf.put A7 n c7 B (m + 1) (m + 1)).two; have FS := ho9; have FG := hH.below hb9; have BF := bel_trans hB3 B9))
        | (go_at_call 42; ((with_reducible refine (cX _ _ (bel_alloc B7 _) (FBox.new w7 nm A M Cc rs)).mono ?_); rintro e w8 ⟨B, H, rfl, hH, hc, hb8, hoff⟩; have B8 := bel_trans (bel_alloc B7 _) hb8; have Bw8 := bel_trans (bel_alloc Bw _) hb8; have q0 := (Bw8.cell lsk).trans s60; have q1 := (Bw8.cell lsk).trans s61; have q2 := (Bw8.cell lfk).trans f60; have q3 := (Bw8.cell lfk).trans f61; have q4 := (Bw8.cell lfk).trans f62; have Tf := T3.b B8; obtain ⟨t80, t81⟩ := Tf.two; obtain ⟨u80, u81⟩ := Tf.free; obtain ⟨x0, x1⟩ := (Tf.put A7 n c7 B (m + 1) (m + 1)).two; have FS := ho7.below (bel_trans (bel_alloc (Below.refl _ _) _) hb8); have FG := hH; have BF := bel_trans hB3 B8))
        | (go_at_call 42; ((with_reducible refine (cX _ _ Bd2 FB2).mono ?_); rintro e w8 ⟨B, H, rfl, hH, hc, hb8, hoff⟩; have B8 := bel_trans Bd2 hb8; have Bw8 := bel_trans Bk2 hb8))
        | (go_at_call 42; ((with_reducible refine (cX _ _ B7 (FBox.b FB2 hb7)).mono ?_); rintro e w8 ⟨B, H, rfl, hH, hc, hb8, hoff⟩; have B8 := bel_trans B7 hb8; have Bw8 := bel_trans Bw hb8; have q0 := (Bw8.cell lsk).trans s60; have q1 := (Bw8.cell lsk).trans s61; have q2 := (Bw8.cell lfk).trans f60; have q3 := (Bw8.cell lfk).trans f61; have q4 := (Bw8.cell lfk).trans f62; have Tf := T3.b B8; obtain ⟨t80, t81⟩ := Tf.two; obtain ⟨u80, u81⟩ := Tf.free; obtain ⟨x0, x1⟩ := (Tf.put A7 n c7 B (m + 1) (m + 1)).two; have FS := ho7.below hb8; have FG := hH; have BF := bel_trans hB3 B8)))
    all_goals go_wp2
    all_goals simp [bodyPost, results, Try.results17, go_sem, x0, x1]
    all_goals exact Hok.out _ _ _ _ _ _ _ _ (SlS.far2 (own_sl FS HSn.out) hO _ _) (SlG.far2 FG hoff _ _) hc (below_set2 BF (by omega) _ _)
end Go.Proofs.Ytakcbpmdjdadnaa.Sgn
