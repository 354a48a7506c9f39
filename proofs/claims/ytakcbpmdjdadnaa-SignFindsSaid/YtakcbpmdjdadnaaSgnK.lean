/-
  What is proved: what extended of package sign returns.
-/
import Derived.Test.YtakcbpmdjdadnaaSgnJ
namespace Go.Proofs.Ytakcbpmdjdadnaa.Sgn
open Go.RowKit L Srt
set_option linter.unusedVariables false
set_option linter.unusedSimpArgs false

/-- x: a block that the result must not lie in -/
def ExtPost (x N : Nat) (K : List Core) (w : World) (e : Ending) (w' : World) : Prop := ∃ A H, e = .returned (.slice A N N) ∧ SlG w' A N N H ∧ cores H = K ∧ Below w.heap.size w w' ∧ Off x A N ∧ ∀ f ∈ H, Off x f.a f.m
theorem ext_post {w wr : World} {g x N : Nat} {K : List Core} {H : List Fm} (h : Ext wr g x K H) (hl : H.length = N) (hB : Below w.heap.size w wr) (hx : x < g) : ExtPost x N K w (.returned (.slice (some ⟨g, 0, none⟩) N N)) wr := by
  refine ⟨_, H, rfl, ⟨⟨hl.symm, fun _ => ⟨g, 0, rfl, h.blk.lt, fun i hi => ?_⟩, fun f hf => (h.ok f hf).1⟩, Nat.le_refl _, fun h => by cases h⟩, h.core, hB, fun _ b o hb e => by injection hb with hb; injection hb with hb; omega, fun f hf => (h.ok f hf).2.2⟩
  obtain ⟨c1, c2, c3⟩ := cellsF_at H i hi
  rw [Nat.zero_add]
  refine ⟨?_, ?_, ?_⟩ <;> rw [h.blk.cell, List.getElem?_toArray] <;> assumption

set_option maxRecDepth 100000 in
set_option maxHeartbeats 4000000 in
theorem extended_any (b : Option Addr) (m d : Nat) (G : List Fm) (b2 : Option Addr) (m2 d2 : Nat) (G2 : List Fm) (w : World) (hG : SlG w b m d G) (hm : m ≤ 1000000) (hG2 : SlG w b2 m2 d2 G2) (hm2 : m2 ≤ 1000000) (hx : ∀ f ∈ G ++ G2, f.m ≤ 100000000) (x : Nat) (hxl : x < w.heap.size) (hxo : ∀ f ∈ G ++ G2, Off x f.a f.m) :
    Calls Try.prog 42 #[.slice b m d, .slice b2 m2 d2] w (ExtPost x (m + m2) (cores G ++ cores G2) w) := by
  obtain ⟨N, hNn⟩ : ∃ N : Nat, N = m + m2 := ⟨_, rfl⟩
  have hN : (m : Int) + (m2 : Int) = (N : Int) := by omega
  rw [← hNn]
  have hg1 : m = G.length := hG.1.1
  have hg2 : m2 = G2.length := hG2.1.1
  obtain ⟨C, hC, hmk⟩ := make_funs N (by omega)
  have hB1 : Below w.heap.size w (w.alloc (.cells C.toArray 27)) := bel_alloc (Below.refl _ _) _
  have blk1 : Blk (w.alloc (.cells C.toArray 27)) w.heap.size C.toArray 27 := Blk.new w _ _
  have hG1 := (hG.below hB1).1
  have hGb : ∀ w', Below w.heap.size w w' → IsG w' b2 m2 G2 := fun w' h => (hG2.below h).1
  have hsp : splice (splice C 0 (cellsF G)) (m * 3) (cellsF G2) = cellsF (G ++ G2) := by
    have := splice_two C (cellsF G) (cellsF G2) (by rw [hC, cellsF_len, cellsF_len]; omega)
    rw [cellsF_len, ← hg1] at this
    rw [this]; simp [cellsF]
  have hl1 : (splice C 0 (cellsF G)).length = N * 3 := by rw [length_splice _ _ _ (by rw [hC, cellsF_len]; omega), hC]
  have hcores : cores (G ++ G2) = cores G ++ cores G2 := by simp [cores]
  have hlen : (G ++ G2).length = N := by simp; omega
  have hok : ∀ w', Below w.heap.size w w' → ∀ f ∈ G ++ G2, f.ok w' ∧ (Off w.heap.size f.a f.m ∧ Off x f.a f.m) := fun w' h f hf => by
    rcases List.mem_append.1 hf with h1 | h1
    · exact ⟨(hG.below h).1.2.2 f h1, off_old (hG.1.2.2 f h1) (Nat.le_refl _), hxo f hf⟩
    · exact ⟨(hG2.below h).1.2.2 f h1, off_old (hG2.1.2.2 f h1) (Nat.le_refl _), hxo f hf⟩
  have hxc : ∀ (K : List Core) (H : List Fm) (w' : World), cores H = cores (G ++ G2) → Ext w' w.heap.size x K H → ∀ f ∈ H, f.m ≤ 100000000 := fun K H w' hc hE f hf => by
    have h1 : f.core ∈ cores (G ++ G2) := by rw [← hc]; exact List.mem_map_of_mem hf
    obtain ⟨f2, hf2, he⟩ := List.mem_map.1 h1
    have h3 : f.X = f2.X := by have := congrArg (fun c : Core => c.2.1) he; exact this.symm
    have h4 : f.m = f.X.length := (hE.ok f hf).1.1.1
    have h5 : f2.m = f2.X.length := (hok w (Below.refl _ _) f2 hf2).1.1.1
    have := hx f2 hf2
    rw [h4, h3, ← h5]; exact this
  rw [← hcores]
  have hstart : ∀ w', Below w.heap.size w w' → Blk w' w.heap.size (cellsF (G ++ G2)).toArray 27 → Ext w' w.heap.size x (cores (G ++ G2)) (G ++ G2) := fun w' h1 h2 => ⟨h2, rfl, hok w' h1⟩
  generalize hGG : G ++ G2 = GG at *
  generalize hKK : cores GG = K at *
  have cl : ∀ (A : Option Addr) (n c : Nat) (X : List ByteArray) (w' : World), SlS w' A n c X → n ≤ 100000000 → Calls Try.prog 44 #[.slice A n c] w' fun e w1 => ∃ A' c', e = .returned (.slice A' n c') ∧ OwnS w1 w'.heap.size (.slice A' n c') X ∧ Below w'.heap.size w' w1 := fun A n c X w' h hn =>
    (Clone_any A n c X w' h hn).mono fun e w1 ⟨v, he, ho, hb⟩ => by
      obtain ⟨A', c', rfl, _⟩ := ho.slS
      rw [← h.1.1] at ho he
      exact ⟨A', c', he, ho, hb⟩
  have hm0 : ∀ w' : World, w.grownBy w' none → True := fun _ _ => trivial
  have Hsp := Lib.hid hsp
  have Hl1 := Lib.hid hl1
  have HN := Lib.hid hNn
  have HC := Lib.hid hC
  have Hstart := Lib.hid hstart
  have Hxc := Lib.hid hxc
  have Hcl := Lib.hid cl
  have Hlen := Lib.hid hlen
  clear hsp hl1 hC hcores hok hstart hxc cl hlen hg1 hg2 hG hG2 hx hxo hm0 hGG hKK hNn
  have hmN : m ≤ N := by have := HN.out; omega
  have hmN2 : (m : Int) ≤ (N : Int) := by omega
  have hm0 : 0 ≤ (m : Int) := by omega
  obtain ⟨W1, hW1⟩ : ∃ W1, w.alloc (.cells C.toArray 27) = W1 := ⟨_, rfl⟩
  rw [hW1] at hB1 blk1 hG1
  have hs1 := hB1.size
  by_cases hmN3 : m = N
  · subst hmN3
    go_enter Try.func42, Try.ntmps42
    go_wp2_with (first
      | ((with_reducible refine copy_funs rfl (.tmp 14) (.tmp 15) rfl w.heap.size 0 m m _ rfl b m d G rfl hG1 C blk1 hmN (fun _ => rfl) (by rw [HC.out]; omega) ?_); intro w2 hblk2 hg2; have B2 := hB1.grown hg2 hs1 (fun k hk => by injection hk with hk; omega); have hGb2 := hGb _ B2; have hs2 := B2.size)
      | ((with_reducible refine copy_funs rfl (.tmp 17) (.tmp 18) rfl w.heap.size (m * 3) 0 0 (some ⟨w.heap.size, 0, none⟩) rfl b2 m2 d2 G2 rfl hGb2 (splice C 0 (cellsF G)) hblk2.out (by have := HN.out; omega) (fun h => absurd h (by have := HN.out; omega)) (by rw [Hl1.out]; have := HN.out; omega) ?_); intro w3 hblk3 hg3; have B3 := B2.grown hg3 hs2 (fun k hk => by injection hk with hk; omega)))
    rw [Hsp.out] at hblk3
    have E3 := Hstart.out w3 B3 hblk3.out
    clear hblk2 hblk3 hg2 hg3 hGb2 B2 hs2 hG1 blk1 hB1 hs1 hmk hGb Hsp Hl1 HC HN hW1 Hstart hm0
    go_loopw [22] (fun i wr0 => ∃ (wr : World) (k : Nat) (H : List Fm), wr = wr0 ∧ k ≤ m ∧ i = .int .i64 k ∧ Below w.heap.size w wr ∧ Ext wr w.heap.size x K H ∧ Hid (H.length = m) ∧ Hid (cores H = K)) (fun i _ => m - (intOf i).toNat)
    case atStart => exact ⟨_, 0, GG, rfl, by omega, rfl, B3, E3, Hlen, Lib.hid E3.core⟩
    case round =>
      obtain ⟨wr, k, H, rfl, hk, rfl, hB, hE, hlen, hco⟩ := hrel
      clear B3 E3
      by_cases hlt : k < m
      · have hkH : k < H.length := by rw [hlen.out]; exact hlt
        obtain ⟨y1, y2⟩ := hE.at hkH
        have hfo := (hE.ok _ (List.getElem_mem hkH)).1
        have cl := Hcl.out _ _ _ _ wr hfo (Hxc.out K H wr hco.out hE _ (List.getElem_mem hkH))
        have hput := fun (w' : World) (A : Option Addr) (c base : Nat) (h : Ext w' w.heap.size x K H) (ho : OwnS w' base (.slice A H[k].m c) H[k].X) (hg : w.heap.size < base) => h.put hkH ho hg (Nat.lt_trans hxl hg)
        have hlt2 := hE.blk.lt
        have hk0 : 0 ≤ (k : Int) := by omega
        have hk1 : (k : Int) < (m : Int) := by omega
        have hat := fun (w' : World) (h : Ext w' w.heap.size x K H) => h.at hkH
        clear hfo
        have Hput := Lib.hid hput
        have Hat := Lib.hid hat
        have HE := Lib.hid hE
        clear hput hat hE
        generalize H[k].a = A at *
        generalize H[k].m = M at *
        generalize H[k].c = Cc at *
        generalize H[k].X = X at *
        go_wp2_with (go_at_call 44; ((with_reducible refine cl.mono ?_); rintro e w4 ⟨A4, c4, rfl, ho4, hb4⟩; have E4 := HE.out.below hb4; have B4 := bel_trans hB hb4; obtain ⟨z1, z2⟩ := Hat.out _ E4))
        obtain ⟨H', hE', hl'⟩ := Hput.out _ _ _ _ E4 ho4 hlt2
        have B5 := B4.setCell (p := ⟨w.heap.size, k * 3 + 1, none⟩) (Nat.le_refl _) (.slice A4 M c4)
        go_roundw
        case rel => exact ⟨_, k + 1, H', rfl, by omega, by go_num, B5, hE', Lib.hid (hl'.trans hlen.out), Lib.hid hE'.core⟩
        case measure => simp [intOf]; omega
      · go_wp2
        go_ret
        exact ext_post hE hlen.out hB hxl
  · have hmN4 : ¬ N = m := by omega
    have hmN5 : m < N := by omega
    go_enter Try.func42, Try.ntmps42
    go_wp2_with (first
      | ((with_reducible refine copy_funs rfl (.tmp 14) (.tmp 15) rfl w.heap.size 0 N N _ rfl b m d G rfl hG1 C blk1 hmN (fun _ => rfl) (by rw [HC.out]; omega) ?_); intro w2 hblk2 hg2; have B2 := hB1.grown hg2 hs1 (fun k hk => by injection hk with hk; omega); have hGb2 := hGb _ B2; have hs2 := B2.size)
      | ((with_reducible refine copy_funs rfl (.tmp 17) (.tmp 18) rfl w.heap.size (m * 3) (N - m) (N - m) (some ⟨w.heap.size, m * 3, none⟩) rfl b2 m2 d2 G2 rfl hGb2 (splice C 0 (cellsF G)) hblk2.out (by have := HN.out; omega) (fun _ => rfl) (by rw [Hl1.out]; have := HN.out; omega) ?_); intro w3 hblk3 hg3; have B3 := B2.grown hg3 hs2 (fun k hk => by injection hk with hk; omega)))
    rw [Hsp.out] at hblk3
    have E3 := Hstart.out w3 B3 hblk3.out
    clear hblk2 hblk3 hg2 hg3 hGb2 B2 hs2 hG1 blk1 hB1 hs1 hmk hGb Hsp Hl1 HC HN hW1 Hstart hm0
    go_loopw [22] (fun i wr0 => ∃ (wr : World) (k : Nat) (H : List Fm), wr = wr0 ∧ k ≤ N ∧ i = .int .i64 k ∧ Below w.heap.size w wr ∧ Ext wr w.heap.size x K H ∧ Hid (H.length = N) ∧ Hid (cores H = K)) (fun i _ => N - (intOf i).toNat)
    case atStart => exact ⟨_, 0, GG, rfl, by omega, rfl, B3, E3, Hlen, Lib.hid E3.core⟩
    case round =>
      obtain ⟨wr, k, H, rfl, hk, rfl, hB, hE, hlen, hco⟩ := hrel
      clear B3 E3
      by_cases hlt : k < N
      · have hkH : k < H.length := by rw [hlen.out]; exact hlt
        obtain ⟨y1, y2⟩ := hE.at hkH
        have hfo := (hE.ok _ (List.getElem_mem hkH)).1
        have cl := Hcl.out _ _ _ _ wr hfo (Hxc.out K H wr hco.out hE _ (List.getElem_mem hkH))
        have hput := fun (w' : World) (A : Option Addr) (c base : Nat) (h : Ext w' w.heap.size x K H) (ho : OwnS w' base (.slice A H[k].m c) H[k].X) (hg : w.heap.size < base) => h.put hkH ho hg (Nat.lt_trans hxl hg)
        have hlt2 := hE.blk.lt
        have hk0 : 0 ≤ (k : Int) := by omega
        have hk1 : (k : Int) < (N : Int) := by omega
        have hat := fun (w' : World) (h : Ext w' w.heap.size x K H) => h.at hkH
        clear hfo
        have Hput := Lib.hid hput
        have Hat := Lib.hid hat
        have HE := Lib.hid hE
        clear hput hat hE
        generalize H[k].a = A at *
        generalize H[k].m = M at *
        generalize H[k].c = Cc at *
        generalize H[k].X = X at *
        go_wp2_with (go_at_call 44; ((with_reducible refine cl.mono ?_); rintro e w4 ⟨A4, c4, rfl, ho4, hb4⟩; have E4 := HE.out.below hb4; have B4 := bel_trans hB hb4; obtain ⟨z1, z2⟩ := Hat.out _ E4))
        obtain ⟨H', hE', hl'⟩ := Hput.out _ _ _ _ E4 ho4 hlt2
        have B5 := B4.setCell (p := ⟨w.heap.size, k * 3 + 1, none⟩) (Nat.le_refl _) (.slice A4 M c4)
        go_roundw
        case rel => exact ⟨_, k + 1, H', rfl, by omega, by go_num, B5, hE', Lib.hid (hl'.trans hlen.out), Lib.hid hE'.core⟩
        case measure => simp [intOf]; omega
      · go_wp2
        go_ret
        exact ext_post hE hlen.out hB hxl
end Go.Proofs.Ytakcbpmdjdadnaa.Sgn
