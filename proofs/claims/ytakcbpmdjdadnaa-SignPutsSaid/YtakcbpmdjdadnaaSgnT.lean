/-
  What is proved: a function put into a signature, by the document's answers.
-/
import Derived.Test.YtakcbpmdjdadnaaSgnS
import Derived.Test.YtakcbpmdjdadnaaSgnD
import Derived.Deep.RegionLaw
import Derived.Deep.AppendLies
namespace Go.Proofs.Ytakcbpmdjdadnaa.Sgn
open Go.RowKit L Srt
set_option linter.unusedVariables false
set_option linter.unusedSimpArgs false

/-- a row of functions of the call's own -/
def OwnG (w : World) (base : Nat) (v : Value) (G : List Fm) : Prop := w.ownsRow base 27 3 v G.length (cellsF G)
theorem OwnG.sl {w : World} {base : Nat} {A : Option Addr} {n c : Nat} {G : List Fm} (h : OwnG w base (.slice A n c) G) (hn : n = G.length) (hok : ∀ f ∈ G, f.ok w) : SlG w A n c G := by
  rcases h.2 with ⟨hv, h0⟩ | ⟨g, cap, cur, hv, hb, hg, hnc, hcm, hcs, ht⟩
  · injection hv with h1 h2 h3
    subst h1 h3
    refine ⟨⟨hn, fun hp => absurd hp (by omega), hok⟩, by omega, fun _ => rfl⟩
  · injection hv with h1 h2 h3
    subst h1 h3
    refine ⟨⟨hn, fun _ => ⟨g, 0, rfl, (Array.getElem?_eq_some_iff.1 hg).1, fun i hi => ?_⟩, hok⟩, by omega, fun h => by cases h⟩
    obtain ⟨c1, c2, c3⟩ := cellsF_at G i hi
    have hc := World.ownsRow.cells h (g := g) rfl
    have d1 := hc _ _ c1
    have d2 := hc _ _ c2
    have d3 := hc _ _ c3
    rw [Addr.add_lit] at d1 d2 d3
    exact ⟨d1, by rw [show 0 + i * 3 + 1 = 0 + (i * 3 + 1) by omega]; exact d2, by rw [show 0 + i * 3 + 1 + 1 = 0 + (i * 3 + 1 + 1) by omega]; exact d3⟩
theorem OwnG.off {w : World} {base x : Nat} {A : Option Addr} {n c : Nat} {G : List Fm} (h : OwnG w base (.slice A n c) G) (hx : x < base) : Off x A n := fun hn b o ha e => by
  rcases h.2 with ⟨hv, _⟩ | ⟨g', cap, cur, hv, hb, _⟩
  · injection hv with h1; rw [h1] at ha; cases ha
  · injection hv with h1
    rw [ha] at h1
    injection h1 with h1
    injection h1 with h1
    omega
theorem grown_setCell (w : World) (x k : Nat) (v : Value) : w.grownBy (w.setCell ⟨x, k, none⟩ v) (some x) :=
  ⟨rfl, rfl, rfl, by simp [World.setCell], fun j _ hj => heap_setCell_other w ⟨x, k, none⟩ j v (fun e => hj (by rw [e]))⟩
theorem OwnG.far {w : World} {base x : Nat} {v : Value} {G : List Fm} (h : OwnG w base v G) (hx : x < base) (k : Nat) (u : Value) : OwnG (w.setCell ⟨x, k, none⟩ u) base v G := by
  refine World.ownsRow.kept h (grown_setCell w x k u) ?_
  cases hv : v.ownBlock with
  | none => exact .inl rfl
  | some y => exact .inr (fun e => by injection e with e; have := (World.ownsRow.lt h y hv).1; omega)
theorem OwnG.nil (w : World) (base : Nat) : OwnG w base (.slice none 0 0) [] := World.ownsRow_nil _ _ _ _
theorem SBox.put1 {w : World} {g : Nat} {a : Option Addr} {n c : Nat} {b : Option Addr} {m d : Nat} (h : SBox w g a n c b m d) (b' : Option Addr) (m' d' : Nat) : SBox (w.setCell ⟨g, 1, none⟩ (.slice b' m' d')) g a n c b' m' d' := Blk.set h 1 _
theorem SBox.ownG {w w' : World} {g : Nat} {a : Option Addr} {n c : Nat} {b : Option Addr} {m d : Nat} {v : Value} {X : List Fm} {base : Nat} (h : SBox w g a n c b m d) (hg : w.grownBy w' v.ownBlock) (ho : OwnG w base v X) (hlt : g < base) : SBox w' g a n c b m d :=
  Blk.grown h hg (fun e => by have := (World.ownsRow.lt ho g e.symm).1; omega)

set_option maxRecDepth 100000 in
set_option maxHeartbeats 8000000 in
theorem refFun6_any (a : Option Addr) (n c : Nat) (S : List ByteArray) (b : Option Addr) (m d : Nat) (G : List Fm) (f : Fm) (w : World) (hS : SlS w a n c S) (hn : n ≤ 1000000) (hG : SlG w b m d G) (hm : m ≤ 1000000) (hf : f.ok w) (hC : okC f.core) :
    Calls Try.prog 18 #[.agg #[.slice a n c, .slice b m d], .agg #[.string f.name, .slice f.a f.m f.c, .string f.res]] w (FunPost S (cores G) f.core w) := by
  obtain ⟨W3, hW3, hB3, S3, F3, T3⟩ := boxes3 w a n c b m d f.name f.a f.m f.c f.res
  have cC := refCheck_any a n c S b m d f W3 (hS.below hB3) hn (hf.below hB3) hC
  have cl := fun (w' : World) (h : Below W3.heap.size W3 w') => refPlace_any f.name b m d G w' ((hG.below hB3).below h).1 (by omega)
  have cK : ∀ (w' : World), Below W3.heap.size W3 w' → Calls Try.prog 40 #[.slice a n c, .string f.name] w' fun e w1 => e = .returned (.bool (knownB S f.name)) ∧ w' = w1 := fun w' h => refKnown_any a n c S f.name w' ((hS.below hB3).below h).1 (by omega)
  have hleaf := funE_leaf S (cores G) f.core
  have hlen : (cores G).length = m := by rw [cores_len]; exact hG.1.1.symm
  rw [hlen] at hleaf
  have herr := fun (E : Int) (w' : World) => @fun_err S (cores G) f.core w w' E
  have hok := fun (w' : World) (A : Option Addr) (N D : Nat) (B : Option Addr) (M L : Nat) (H : List Fm) => @fun_ok S (cores G) f.core w w' A N D B M L H
  obtain ⟨s0, s1⟩ := S3.two
  obtain ⟨f0, f1, f2⟩ := F3.three
  obtain ⟨t0, t1⟩ := T3.two
  have lt3 := Blk.lt T3
  have ltS := Blk.lt S3
  have ltF := Blk.lt F3
  have hI : ∀ w', Below W3.heap.size W3 w' → IsG w' b m G := fun w' h => ((hG.below hB3).below h).1
  have hoff2 : ∀ f' ∈ G ++ [f], Off (w.heap.size + 2) f'.a f'.m := fun f' hf' => by
    rcases List.mem_append.1 hf' with h3 | h3
    · exact (offG_old hG (by omega)).2 f' h3
    · rw [List.mem_singleton.1 h3]; exact off_old hf (by omega)
  have hokall : ∀ w', Below W3.heap.size W3 w' → ∀ f' ∈ G ++ [f], f'.ok w' := fun w' h f' hf' => by
    rcases List.mem_append.1 hf' with h3 | h3
    · exact ((hG.below hB3).below h).1.2.2 f' h3
    · rw [List.mem_singleton.1 h3]; exact (hf.below hB3).below h
  have hSs : ∀ w', Below W3.heap.size W3 w' → SlS w' a n c S ∧ Off (w.heap.size + 2) a n := fun w' h => ⟨(hS.below hB3).below h, off_old hS (by omega)⟩
  have hcore : cores (G ++ [f]) = cores G ++ [f.core] := by simp [cores]
  have hGl : G.length = m := hG.1.1.symm
  have hcellF : f.cells = [.string f.name, .slice f.a f.m f.c, .string f.res] := rfl
  generalize FunPost S (cores G) f.core w = Post at *
  generalize funE S (cores G) f.core = E at *
  have hname : f.core.1 = f.name := rfl
  rw [hname] at hleaf
  have Hcore := Lib.hid hcore
  have HGl := Lib.hid hGl
  clear hcore hGl
  generalize cores G ++ [f.core] = KC at *
  generalize checkE S f.core = Ce at *
  generalize posK (cores G) f.name = P at *
  generalize knownB S f.name = R at *
  clear hS hG hC hlen hname
  rcases hleaf with ⟨h0, hE⟩ | ⟨rfl, hp, hE⟩ | ⟨rfl, hp, rfl, hE⟩ | ⟨rfl, hp, rfl, h256, hE⟩ | ⟨rfl, hp, rfl, h256, hE⟩
  any_goals
    try (have Herr := Lib.hid (fun (w' : World) hb => herr _ w' hE h0 hb))
    try (have Herr := Lib.hid (fun (w' : World) hb => herr _ w' hE (by decide) hb))
    try (have h1 : (Ce != 0) = true := by simp [h0])
    try (have h257 : 256 ≤ (m : Int) := by omega)
    clear herr hok hE hI hoff2 hokall hSs hf hcellF Hcore HGl
    generalize f.name = nm at *
    generalize f.a = A at *
    generalize f.m = M at *
    generalize f.c = Cc at *
    generalize f.res = rs at *
    go_enter Try.func18, Try.ntmps18
    go_wp2_with (first
      | (go_at_call 14; ((with_reducible refine cC.mono ?_); rintro e w4 ⟨rfl, hb4⟩; obtain ⟨s40, s41⟩ := (S3.b hb4).two; obtain ⟨f40, f41, f42⟩ := (F3.b hb4).three; have T4 := T3.b hb4; obtain ⟨t40, t41⟩ := T4.two; obtain ⟨u40, u41⟩ := T4.free; obtain ⟨x0, x1⟩ := (T4.put none 0 0 none 0 0).two))
      | (go_at_call 32; ((with_reducible refine (cl _ hb4).mono ?_); rintro e w5 ⟨rfl, rfl⟩))
      | (go_at_call 40; ((with_reducible refine (cK _ hb4).mono ?_); rintro e w6 ⟨rfl, rfl⟩)))
    simp [bodyPost, results, Try.results18, go_sem, x0, x1]
    exact Herr.out _ (below_set2 (bel_trans hB3 hb4) (by omega) _ _)
  have Hok := Lib.hid (fun (w' : World) (A : Option Addr) (N D : Nat) (B : Option Addr) (M L : Nat) (H : List Fm) h1 h2 h3 h4 => hok w' A N D B M L H hE h1 h2 h3 h4)
  have h257 : ¬ 256 ≤ (m : Int) := by omega
  have HI := Lib.hid hI
  have Hoff := Lib.hid hoff2
  have Hoka := Lib.hid hokall
  have HS := Lib.hid hSs
  have HcF := Lib.hid hcellF
  clear herr hok hE hI hoff2 hokall hSs hf hcellF
  generalize hnm : f.name = nm at *
  generalize hA : f.a = A at *
  generalize hM : f.m = M at *
  generalize hCc : f.c = Cc at *
  generalize hrs : f.res = rs at *
  clear hnm hA hM hCc hrs
  go_enter Try.func18, Try.ntmps18
  go_wp2_with (first
    | (go_at_call 14; ((with_reducible refine cC.mono ?_); rintro e w4 ⟨rfl, hb4⟩; obtain ⟨s40, s41⟩ := (S3.b hb4).two; obtain ⟨f40, f41, f42⟩ := (F3.b hb4).three))
    | (go_at_call 32; ((with_reducible refine (cl _ hb4).mono ?_); rintro e w5 ⟨rfl, rfl⟩))
    | (go_at_call 40; ((with_reducible refine (cK _ hb4).mono ?_); rintro e w6 ⟨rfl, rfl⟩)))
  have B5 : Below W3.heap.size W3 (w5.alloc (.cells #[.slice a n c, .slice none 0 0] 25)) := bel_alloc hb4 _
  have S5 := SBox.new w5 a n c none 0 0
  have lg4 : W3.heap.size ≤ w5.heap.size := hb4.size
  obtain ⟨i0, hi0, hz0, hz1, hz2⟩ := info_parts funI
  clear s0 s1 t0 t1 f0 f1 f2 s40 s41 f40 f41 f42 cC cl cK hW3 hb4
  go_loopw [8] (fun i wr0 => ∃ (wr : World) (k : Nat) (Ar : Option Addr) (Cr : Nat), wr = wr0 ∧ k ≤ m ∧ i = .int .i64 k ∧ Below W3.heap.size W3 wr ∧ SBox wr w5.heap.size a n c Ar k Cr ∧ OwnG wr (w5.heap.size + 1) (.slice Ar k Cr) (G.take k)) (fun i _ => m - (intOf i).toNat)
  case atStart => exact ⟨_, 0, none, 0, rfl, by omega, rfl, B5, S5, OwnG.nil _ _⟩
  case round =>
    obtain ⟨wr, k, Ar, Cr, rfl, hk, rfl, hB, Sk, ho⟩ := hrel
    clear B5 S5
    by_cases hlt : k < m
    · obtain ⟨bb, o, ff, rfl, hb, y1, y2, y3, hx, hok⟩ := (HI.out wr hB).at hlt
      have hol : (G.take k).length = k := by rw [List.length_take, HGl.out]; omega
      have ho' : wr.ownsRow (w5.heap.size + 1) 27 3 (.slice Ar k Cr) k (cellsF (G.take k)) := by
        have h := ho; unfold OwnG at h; rw [hol] at h; exact h
      have htk : G.take (k + 1) = G.take k ++ [ff] := by
        obtain ⟨hkk, he⟩ := List.getElem?_eq_some_iff.1 hx
        rw [List.take_succ_eq_append_getElem hkk, he]
      have hol2 : (G.take (k + 1)).length = k + 1 := by rw [List.length_take, HGl.out]; omega
      have hcells : cellsF (G.take (k + 1)) = cellsF (G.take k) ++ [.string ff.name, .slice ff.a ff.m ff.c, .string ff.res] := by rw [htk, cellsF_app]; rfl
      have hone : ∀ u ∈ [Value.string ff.name, .slice ff.a ff.m ff.c, .string ff.res], u.oneCell' = true := cells_one ff
      have hk0 : 0 ≤ (k : Int) := by omega
      have hk1 : (k : Int) < (m : Int) := by omega
      have hbase : w5.heap.size + 1 ≤ wr.heap.size := Blk.lt Sk
      obtain ⟨g0, g1⟩ := (S3.b hB).two
      obtain ⟨t0, t1⟩ := Sk.two
      have lsk := Blk.lt (S3.b hB)
      have lkk := Blk.lt Sk
      have Hown := Lib.hid (fun (w' : World) (gn cn : Nat) (h : w'.ownsRow (w5.heap.size + 1) 27 3 (.slice (some ⟨gn, 0, none⟩) (k + 1) cn) (k + 1) (cellsF (G.take k) ++ [.string ff.name, .slice ff.a ff.m ff.c, .string ff.res])) => (show OwnG w' (w5.heap.size + 1) (.slice (some ⟨gn, 0, none⟩) (k + 1) cn) (G.take (k + 1)) by unfold OwnG; rw [hol2, hcells]; exact h))
      clear hol htk hol2 hcells hx hok HI Hok Hoff Hoka HS HcF Hcore HGl
      generalize cellsF (G.take k) = XS at *
      generalize ff.name = nm2 at *
      generalize ff.a = A2 at *
      generalize ff.m = M2 at *
      generalize ff.c = C2 at *
      generalize ff.res = rs2 at *
      have ho2 := (World.ownsRow.alloc ho' (.cells #[.string nm2, .slice A2 M2 C2, .string rs2] 27)).drew
      have hB2 : Below W3.heap.size W3 (wr.alloc (.cells #[.string nm2, .slice A2 M2 C2, .string rs2] 27)).drew := (bel_alloc hB _).drew
      have S2 : SBox (wr.alloc (.cells #[.string nm2, .slice A2 M2 C2, .string rs2] 27)).drew w5.heap.size a n c Ar k Cr := Sk.b (bel_alloc (Below.refl _ _) _).drew
      go_wp2_with fail
      go_region_law ((refine step_append_lies _ (by rfl) _ _ _ (by rfl) (w5.heap.size + 1) 27 i0 _ 3 56 Try.underlying23 hi0 hz0 hz1 hz2 rfl (by omega) (.slice Ar k Cr) k XS (by rfl) ho2 ⟨wr.heap.size, 0, none⟩ 1 1 [.string nm2, .slice A2 M2 C2, .string rs2] (by rfl) (by rfl) (World.news_of_block (cs := #[.string nm2, .slice A2 M2 C2, .string rs2]) (t := 27) (fr := (0, 0)) (heap_alloc_new wr _)) hone (by omega) (by unfold maxLen; omega) (by omega) (by simp; omega) (wr.heap.size + 1) (by simp) ?_; intro gn cn w1 hown1 hgrow hat hlt1; have S1 : SBox w1 w5.heap.size a n c Ar k Cr := Blk.grown S2 hgrow (fun e => Nat.not_succ_le_self _ (World.ownsRow.lt ho2 _ e.symm).1); obtain ⟨p0, p1⟩ := S1.two; obtain ⟨q0, q1⟩ := S1.free))
      all_goals
        have B1 : Below W3.heap.size W3 w1 := hB2.grown hgrow hB2.size (fun k hk => Nat.le_trans lg4 (Nat.le_of_succ_le (World.ownsRow.lt ho2 k hk).1))
        go_wp2
        go_roundw
        case rel => exact ⟨_, k + 1, _, cn, rfl, by omega, by go_num, B1.setCell (p := ⟨w5.heap.size, 1, none⟩) lg4 _, S1.put1 _ _ _, (Hown.out w1 gn cn hown1).far (Nat.lt_succ_self _) 1 _⟩
        case measure => simp [intOf]; omega
    · obtain rfl : k = m := by omega
      have hol : G.length = k := HGl.out
      have hT : G.take k = G := List.take_of_length_le (by omega)
      rw [hT] at ho
      have ho' : wr.ownsRow (w5.heap.size + 1) 27 3 (.slice Ar k Cr) k (cellsF G) := by
        have h := ho; unfold OwnG at h; rw [hol] at h; exact h
      have ho2 := World.ownsRow.alloc ho' (.cells #[.string nm, .slice A M Cc, .string rs] 27)
      have hB2 : Below W3.heap.size W3 (wr.alloc (.cells #[.string nm, .slice A M Cc, .string rs] 27)) := bel_alloc hB _
      have S2 : SBox (wr.alloc (.cells #[.string nm, .slice A M Cc, .string rs] 27)) w5.heap.size a n c Ar k Cr := Sk.b (bel_alloc (Below.refl _ _) _)
      have hone : ∀ u ∈ [Value.string nm, .slice A M Cc, .string rs], u.oneCell' = true := by rw [← HcF.out]; exact cells_one f
      have hfin := fun (w1 : World) (gn cn : Nat) (hown : w1.ownsRow (w5.heap.size + 1) 27 3 (.slice (some ⟨gn, 0, none⟩) (k + 1) cn) (k + 1) (cellsF G ++ [.string nm, .slice A M Cc, .string rs])) (hB1 : Below W3.heap.size W3 w1) => (show
          ∃ wf, ((w1.setCell ⟨w5.heap.size, 1, none⟩ (.slice (some ⟨gn, 0, none⟩) (k + 1) cn)).setCell ⟨w.heap.size + 2, 0, none⟩ (.slice a n c)).setCell ⟨w.heap.size + 2, 1, none⟩ (.slice (some ⟨gn, 0, none⟩) (k + 1) cn) = wf ∧ Post (Ending.returned (.tuple #[.agg #[.slice a n c, .slice (some ⟨gn, 0, none⟩) (k + 1) cn], .int .i64 0])) wf by
        have hl2 : (G ++ [f]).length = k + 1 := by rw [List.length_append, hol]; rfl
        have hcf : cellsF (G ++ [f]) = cellsF G ++ [.string nm, .slice A M Cc, .string rs] := by rw [cellsF_app, HcF.out]
        have hG1 : OwnG w1 (w5.heap.size + 1) (.slice (some ⟨gn, 0, none⟩) (k + 1) cn) (G ++ [f]) := by unfold OwnG; rw [hl2, hcf]; exact hown
        have hG2 := hG1.far (Nat.lt_succ_self _) 1 (.slice (some ⟨gn, 0, none⟩) (k + 1) cn)
        have hx : w.heap.size + 2 < w5.heap.size + 1 := by omega
        have hB2 := hB1.setCell (p := ⟨w5.heap.size, 1, none⟩) lg4 (.slice (some ⟨gn, 0, none⟩) (k + 1) cn)
        have hSl := hG2.sl hl2.symm (Hoka.out _ hB2)
        refine ⟨_, rfl, Hok.out _ _ _ _ _ _ _ (G ++ [f]) ?_ ?_ Hcore.out ?_⟩
        · exact SlS.far2 (HS.out _ hB2).1 (HS.out _ hB2).2 _ _
        · exact SlG.far2 hSl ⟨hG2.off hx, Hoff.out⟩ _ _
        · exact below_set2 (bel_trans hB3 hB2) (by omega) _ _)
      have Hfin := Lib.hid hfin
      obtain ⟨g0, g1⟩ := (S3.b hB).two
      obtain ⟨f0, f1, f2⟩ := (F3.b hB).three
      obtain ⟨t0, t1⟩ := Sk.two
      clear hfin hol hT HI Hok Hoff Hoka HS HcF Hcore HGl
      generalize cellsF G = XS at *
      go_wp2_with (at_builtin; ((refine wpList_append_lies _ rfl (.tmp 56) (.tmp 58) _ rfl (w5.heap.size + 1) 27 i0 _ 3 56 Try.underlying23 hi0 hz0 hz1 hz2 rfl (by omega) (.slice Ar k Cr) k XS rfl ho2 ⟨wr.heap.size, 0, none⟩ 1 1 [.string nm, .slice A M Cc, .string rs] rfl rfl (World.news_of_block (cs := #[.string nm, .slice A M Cc, .string rs]) (t := 27) (fr := (0, 0)) (heap_alloc_new wr _)) hone (by omega) (by unfold maxLen; omega) (by omega) (by simp; have := Blk.lt Sk; omega) (wr.heap.size + 1) (by simp) ?_); intro gn cn w1 hown1 hgrow hat hlt1; have S1 : SBox w1 w5.heap.size a n c Ar k Cr := Blk.grown S2 hgrow (fun e => Nat.not_succ_le_self _ (World.ownsRow.lt ho2 _ e.symm).1); have B1 : Below W3.heap.size W3 w1 := hB2.grown hgrow hB2.size (fun k hk => Nat.le_trans lg4 (Nat.le_of_succ_le (World.ownsRow.lt ho2 k hk).1)); obtain ⟨p0, p1⟩ := S1.two; obtain ⟨q0, q1⟩ := S1.free; have S7 := S1.put1 (some ⟨gn, 0, none⟩) (k + 1) cn; obtain ⟨p70, p71⟩ := S7.two; have T7 := (T3.b B1).far (g' := w5.heap.size) (by omega) 1 (.slice (some ⟨gn, 0, none⟩) (k + 1) cn); obtain ⟨t70, t71⟩ := T7.two; obtain ⟨u70, u71⟩ := T7.free; obtain ⟨x0, x1⟩ := (T7.put a n c (some ⟨gn, 0, none⟩) (k + 1) cn).two))
      obtain ⟨wf, hwf, hpost⟩ := Hfin.out w1 gn cn hown1 B1
      simp [bodyPost, results, Try.results18, go_sem, x0, x1]
      subst hwf
      exact hpost
end Go.Proofs.Ytakcbpmdjdadnaa.Sgn
