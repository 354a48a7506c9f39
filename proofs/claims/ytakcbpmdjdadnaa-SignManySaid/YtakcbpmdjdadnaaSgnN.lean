/-
  What is proved: the constants of a sort, by package sign and by the document's answers.
-/
import Derived.Test.YtakcbpmdjdadnaaSgnL
import Derived.Test.YtakcbpmdjdadnaaSrtD
namespace Go.Proofs.Ytakcbpmdjdadnaa.Sgn
open Go.RowKit L Srt
set_option linter.unusedVariables false
set_option linter.unusedSimpArgs false

theorem const_step {K : List Core} {k : Nat} {C : Core} (s : ByteArray) (h : K[k]? = some C) : constS (K.take (k + 1)) s = if pickB s C = true then constS (K.take k) s ++ [C.1] else constS (K.take k) s := by
  obtain ⟨hk, rfl⟩ := List.getElem?_eq_some_iff.1 h
  unfold constS
  rw [List.take_succ_eq_append_getElem hk, List.filter_append, List.map_append]
  cases hp : pickB s K[k] <;> simp [hp]
theorem const_len (K : List Core) (s : ByteArray) (k : Nat) : (constS (K.take k) s).length ≤ k := by
  unfold constS
  rw [List.length_map]
  exact Nat.le_trans (List.length_filter_le _ _) (by simp; omega)
theorem SBox.own {w w' : World} {g : Nat} {a : Option Addr} {n c : Nat} {b : Option Addr} {m d : Nat} {v : Value} {X : List ByteArray} {base : Nat} (h : SBox w g a n c b m d) (hg : w.grownBy w' v.ownBlock) (ho : OwnS w base v X) (hlt : g < base) : SBox w' g a n c b m d :=
  Blk.grown h hg (fun e => by have := (World.ownsRow.lt ho g e.symm).1; omega)

set_option maxHeartbeats 4000000 in
theorem Consts_any (a : Option Addr) (n c : Nat) (b : Option Addr) (m d : Nat) (G : List Fm) (s : ByteArray) (w : World) (hG : SlG w b m d G) (hm : m ≤ 1000000) :
    Calls Try.prog 24 #[.agg #[.slice a n c, .slice b m d], .string s] w fun e w' => ∃ v, e = .returned v ∧ OwnS w' w.heap.size v (constS (cores G) s) ∧ Below w.heap.size w w' := by
  have hB1 : Below w.heap.size w (w.alloc (.cells #[.slice a n c, .slice b m d] 25)) := bel_alloc (Below.refl _ _) _
  have S1 := SBox.new w a n c b m d
  obtain ⟨W1, hW1⟩ : ∃ W1, w.alloc (.cells #[.slice a n c, .slice b m d] 25) = W1 := ⟨_, rfl⟩
  rw [hW1] at hB1 S1
  have hlen : (cores G).length = m := by rw [cores_len]; exact hG.1.1.symm
  have hst : ∀ k (f : Fm), G[k]? = some f → constS ((cores G).take (k + 1)) s = if pickB s f.core = true then constS ((cores G).take k) s ++ [f.name] else constS ((cores G).take k) s := fun k f h => const_step s (cores_at h)
  have hcl : ∀ k, (constS ((cores G).take k) s).length ≤ k := const_len (cores G) s
  have h0 : constS ((cores G).take 0) s = [] := rfl
  have hE : constS (cores G) s = constS ((cores G).take m) s := by rw [List.take_of_length_le (by omega)]
  have hpk : ∀ f : Fm, f.ok w → pickB s f.core = (decide (f.m = 0) && (f.res.toList == s.toList)) := fun f h => by unfold pickB Fm.core; rw [h.1.1]
  have hokw : ∀ (k : Nat) (f : Fm), G[k]? = some f → f.ok w := fun k f h => hG.1.2.2 f (List.mem_of_getElem? h)
  rw [hE]
  obtain ⟨F, hF⟩ : ∃ F : Nat → List ByteArray, ∀ k, constS ((cores G).take k) s = F k := ⟨_, fun _ => rfl⟩
  simp only [hF] at hst hcl h0 ⊢
  clear hF hE hlen
  have hI : ∀ w', Below w.heap.size w w' → IsG w' b m G := fun w' h => (hG.below h).1
  obtain ⟨s0, s1⟩ := S1.two
  have Hst := Lib.hid hst
  have Hcl := Lib.hid hcl
  have H0 := Lib.hid h0
  have Hpk := Lib.hid hpk
  have Hok := Lib.hid hokw
  have HI := Lib.hid hI
  clear hst hcl h0 hpk hokw hI hG
  go_enter Try.func24, Try.ntmps24
  go_wp2
  clear s0 s1 hW1 S1
  go_loopw [5, 11] (fun l i wr0 => ∃ (v : Value) (wr : World) (k : Nat), v = l ∧ wr = wr0 ∧ k ≤ m ∧ i = .int .i64 k ∧ OwnS wr w.heap.size v (F k) ∧ Below w.heap.size w wr) (fun _ i _ => m - (intOf i).toNat)
  case atStart => exact ⟨_, _, 0, rfl, rfl, by omega, rfl, by rw [H0.out]; exact OwnS.nil _ _, hB1⟩
  case round =>
    obtain ⟨v, wr, k, rfl, rfl, hk, rfl, ho, hB⟩ := hrel
    clear hB1
    by_cases hlt : k < m
    · obtain ⟨bb, o, f, rfl, hb, y1, y2, y3, hx, hok⟩ := (HI.out wr hB).at hlt
      have hs1 := Hst.out k f hx
      rw [Hpk.out f (Hok.out k f hx)] at hs1
      have hk0 : 0 ≤ (k : Int) := by omega
      have hk1 : (k : Int) < (m : Int) := by omega
      have hB3 : Below wr.heap.size wr (wr.alloc (.cells #[.string f.name, .slice f.a f.m f.c, .string f.res] 27)) := bel_alloc (Below.refl _ _) _
      have F3 := FBox.new wr f.name f.a f.m f.c f.res
      obtain ⟨W3, hW3⟩ : ∃ W3, wr.alloc (.cells #[.string f.name, .slice f.a f.m f.c, .string f.res] 27) = W3 := ⟨_, rfl⟩
      rw [hW3] at hB3 F3
      have B3 := bel_trans hB hB3
      have ho3 := ho.below hB3
      obtain ⟨g0, g1, g2⟩ := F3.three
      have hl3 : (F k).length + 1 ≤ 1000000000 := by have := Hcl.out k; omega
      clear hx Hst HI Hok hok Hpk
      generalize f.name = nm at *
      generalize f.a = A at *
      generalize f.m = M at *
      generalize f.c = Cc at *
      generalize f.res = rs at *
      by_cases hM : M = 0
      · have hM1 : ((M : Int) == 0) = true := beq_yes' (by omega)
        rw [decide_eq_true hM, Bool.true_and] at hs1
        cases hr : rs.toList == s.toList with
        | true =>
          rw [hr, if_pos rfl] at hs1
          have hr2 : (rs.toList = s.toList) = True := by simpa using hr
          have B4 : Below w.heap.size w (W3.alloc (.cells #[.string nm] 9)) := bel_alloc B3 _
          have ho4 := World.ownsRow.alloc ho3 (.cells #[.string nm] 9)
          have hn4 := slS_one W3 nm
          have hsz4 := B4.size
          have Hs1 := Lib.hid hs1
          clear hs1 hM
          go_wp2_with (at_builtin; ((refine app_strs rfl (.tmp 25) (.tmp 28) rfl w.heap.size v (F k) rfl ho4 _ _ _ [nm] rfl hn4 hl3 hsz4 ?_); intro v5 w5 ho5 hg5))
          rw [← Hs1.out] at ho5
          have B5 := B4.grown hg5 hsz4 (fun k hk => (World.ownsRow.lt ho4 k hk).1)
          go_roundw
          case rel => exact ⟨_, _, k + 1, rfl, rfl, by omega, by go_num, ho5, B5⟩
          case measure => simp [intOf]; omega
        | false =>
          rw [hr, if_neg (by simp)] at hs1
          have hr2 : (rs.toList = s.toList) = False := by simpa using hr
          rw [← hs1] at ho3
          clear hs1 hM
          go_wp2
          go_roundw
          case rel => exact ⟨_, _, k + 1, rfl, rfl, by omega, by go_num, ho3, B3⟩
          case measure => simp [intOf]; omega
      · have hM1 : ((M : Int) == 0) = false := beq_no' (by omega)
        rw [decide_eq_false hM, Bool.false_and, if_neg (by simp)] at hs1
        rw [← hs1] at ho3
        clear hs1 hM
        go_wp2
        go_roundw
        case rel => exact ⟨_, _, k + 1, rfl, rfl, by omega, by go_num, ho3, B3⟩
        case measure => simp [intOf]; omega
    · obtain rfl : k = m := by omega
      go_wp2
      go_ret
      exact ⟨_, rfl, ho, hB⟩

set_option maxHeartbeats 4000000 in
theorem refConsts_any (a : Option Addr) (n c : Nat) (b : Option Addr) (m d : Nat) (G : List Fm) (s : ByteArray) (w : World) (hG : SlG w b m d G) (hm : m ≤ 1000000) :
    Calls Try.prog 25 #[.agg #[.slice a n c, .slice b m d], .string s] w fun e w' => ∃ v, e = .returned v ∧ OwnS w' w.heap.size v (constS (cores G) s) ∧ Below w.heap.size w w' := by
  have hB1 : Below w.heap.size w (w.alloc (.cells #[.slice a n c, .slice b m d] 25)) := bel_alloc (Below.refl _ _) _
  have S1 := SBox.new w a n c b m d
  obtain ⟨W1, hW1⟩ : ∃ W1, w.alloc (.cells #[.slice a n c, .slice b m d] 25) = W1 := ⟨_, rfl⟩
  rw [hW1] at hB1 S1
  have hlen : (cores G).length = m := by rw [cores_len]; exact hG.1.1.symm
  have hst : ∀ k (f : Fm), G[k]? = some f → constS ((cores G).take (k + 1)) s = if pickB s f.core = true then constS ((cores G).take k) s ++ [f.name] else constS ((cores G).take k) s := fun k f h => const_step s (cores_at h)
  have hcl : ∀ k, (constS ((cores G).take k) s).length ≤ k := const_len (cores G) s
  have h0 : constS ((cores G).take 0) s = [] := rfl
  have hE : constS (cores G) s = constS ((cores G).take m) s := by rw [List.take_of_length_le (by omega)]
  have hpk : ∀ f : Fm, f.ok w → pickB s f.core = (decide (f.m = 0) && (f.res.toList == s.toList)) := fun f h => by unfold pickB Fm.core; rw [h.1.1]
  have hokw : ∀ (k : Nat) (f : Fm), G[k]? = some f → f.ok w := fun k f h => hG.1.2.2 f (List.mem_of_getElem? h)
  rw [hE]
  obtain ⟨F, hF⟩ : ∃ F : Nat → List ByteArray, ∀ k, constS ((cores G).take k) s = F k := ⟨_, fun _ => rfl⟩
  simp only [hF] at hst hcl h0 ⊢
  clear hF hE hlen
  have hI : ∀ w', Below w.heap.size w w' → IsG w' b m G := fun w' h => (hG.below h).1
  obtain ⟨s0, s1⟩ := S1.two
  have Hst := Lib.hid hst
  have Hcl := Lib.hid hcl
  have H0 := Lib.hid h0
  have Hpk := Lib.hid hpk
  have Hok := Lib.hid hokw
  have HI := Lib.hid hI
  have lt1 := Blk.lt S1
  clear hst hcl h0 hpk hokw hI hG
  go_enter Try.func25, Try.ntmps25
  go_wp2
  clear s0 s1 hW1
  go_loopw [5, 6] (fun l i wr0 => ∃ (v : Value) (wr : World) (k : Nat), v = l ∧ wr = wr0 ∧ k ≤ m ∧ i = .int .i64 k ∧ OwnS wr (w.heap.size + 1) v (F k) ∧ SBox wr w.heap.size a n c b m d ∧ Below w.heap.size w wr) (fun _ i _ => m - (intOf i).toNat)
  case atStart => exact ⟨_, _, 0, rfl, rfl, by omega, rfl, by rw [H0.out]; exact OwnS.nil _ _, S1, hB1⟩
  case round =>
    obtain ⟨v, wr, k, rfl, rfl, hk, rfl, ho, Sk, hB⟩ := hrel
    obtain ⟨t0, t1⟩ := Sk.two
    have ltk := Blk.lt Sk
    clear hB1 S1 lt1
    by_cases hlt : k < m
    · obtain ⟨bb, o, f, rfl, hb, y1, y2, y3, hx, hok⟩ := (HI.out wr hB).at hlt
      have hs1 := Hst.out k f hx
      rw [Hpk.out f (Hok.out k f hx)] at hs1
      have hk0 : 0 ≤ (k : Int) := by omega
      have hk1 : (k : Int) < (m : Int) := by omega
      have hl3 : (F k).length + 1 ≤ 1000000000 := by have := Hcl.out k; omega
      clear hx Hst HI Hok hok Hpk
      generalize f.name = nm at *
      generalize f.a = A at *
      generalize f.m = M at *
      generalize f.c = Cc at *
      generalize f.res = rs at *
      by_cases hM : M = 0
      · have hM1 : ((M : Int) == 0) = true := beq_yes' (by omega)
        rw [decide_eq_true hM, Bool.true_and] at hs1
        cases hr : rs.toList == s.toList with
        | true =>
          rw [hr, if_pos rfl] at hs1
          have hr2 : (rs.toList = s.toList) = True := by simpa using hr
          have hB4 : Below wr.heap.size wr (wr.alloc (.cells #[.string nm] 9)) := bel_alloc (Below.refl _ _) _
          have B4 := bel_trans hB hB4
          have S4 := Sk.b hB4
          have ho4 := World.ownsRow.alloc ho (.cells #[.string nm] 9)
          have hn4 := slS_one wr nm
          have hsz4 : w.heap.size + 1 ≤ (wr.alloc (.cells #[.string nm] 9)).heap.size := Nat.le_trans ltk hB4.size
          have Hs1 := Lib.hid hs1
          clear hs1 hM
          go_wp2_with (at_builtin; ((refine app_strs rfl (.tmp 32) (.tmp 39) rfl (w.heap.size + 1) v (F k) rfl ho4 _ _ _ [nm] rfl hn4 hl3 hsz4 ?_); intro v5 w5 ho5 hg5))
          rw [← Hs1.out] at ho5
          have B5 := B4.grown hg5 (Nat.le_of_succ_le hsz4) (fun k hk => Nat.le_of_succ_le (World.ownsRow.lt ho4 k hk).1)
          have S5 := S4.own hg5 ho4 (Nat.lt_succ_self _)
          go_roundw
          case rel => exact ⟨_, _, k + 1, rfl, rfl, by omega, by go_num, ho5, S5, B5⟩
          case measure => simp [intOf]; omega
        | false =>
          rw [hr, if_neg (by simp)] at hs1
          have hr2 : (rs.toList = s.toList) = False := by simpa using hr
          rw [← hs1] at ho
          clear hs1 hM
          go_wp2
          go_roundw
          case rel => exact ⟨_, _, k + 1, rfl, rfl, by omega, by go_num, ho, Sk, hB⟩
          case measure => simp [intOf]; omega
      · have hM1 : ((M : Int) == 0) = false := beq_no' (by omega)
        rw [decide_eq_false hM, Bool.false_and, if_neg (by simp)] at hs1
        rw [← hs1] at ho
        clear hs1 hM
        go_wp2
        go_roundw
        case rel => exact ⟨_, _, k + 1, rfl, rfl, by omega, by go_num, ho, Sk, hB⟩
        case measure => simp [intOf]; omega
    · obtain rfl : k = m := by omega
      go_wp2
      go_ret
      exact ⟨_, rfl, ho.base (Nat.le_succ _), hB⟩
end Go.Proofs.Ytakcbpmdjdadnaa.Sgn
