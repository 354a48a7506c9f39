/-
  What is proved: what package cnf's Read returns.
-/
import Derived.Test.YthchjceibpcgbaaGreatDoorZCpT
import Derived.Test.YthchjceibpcgbaaGreatDoorZCnS
namespace Go.Proofs.YthchjceibpcgbaaGreatDoor.Cn
open Go.RowKit L Lt
set_option linter.unusedVariables false
set_option linter.unusedSimpArgs false

theorem stL_ne {st : St} {t : List UInt8} {e : Int} (h : stL st t = .error e) : e ≠ 0 := by
  unfold stL at h
  split at h
  · cases h
  · split at h
    · split at h
      · next e1 h1 => injection h with h; rw [← h]; exact hdV_ne h1
      · cases h
    · split at h
      · injection h with h; omega
      · split at h
        · next e1 h1 => injection h with h; rw [← h]; exact clR_ne h1
        · cases h
/-- memory of the loop: the result's cell, the reader -/
def RM3 (w wr : World) (st : St) (A : Option Addr) (c : Nat) : Prop :=
  CBox wr w.heap.size 0 none 0 0 ∧ RM2 (w.heap.size + 1) wr st.n A st.L.length c st.L (clN st) ∧ Below w.heap.size w wr
theorem RM3.b {w wr wr' : World} {st : St} {A : Option Addr} {c : Nat} (h : RM3 w wr st A c) (hb : Below wr.heap.size wr wr') : RM3 w wr' st A c :=
  ⟨h.1.b hb, h.2.1.b hb, bel_trans h.2.2 hb⟩
theorem RM3.start (w : World) : ∃ W, (w.alloc (.cells #[.int .i64 0, .slice none 0 0] 24)).alloc (.cells #[.int .i64 0, .slice none 0 0, .int .i64 (-1)] 74) = W ∧ RM3 w W st0 none 0 := by
  refine ⟨_, rfl, Blk.alloc (CBox.new w 0 none 0 0) _, ⟨?_, OwnG.nil _ _, rfl⟩, bel_alloc (bel_alloc (Below.refl _ _) _) _⟩
  have h := Blk.new (w.alloc (.cells #[.int .i64 0, .slice none 0 0] 24)) #[.int .i64 0, .slice none 0 0, .int .i64 (-1)] 74
  rwa [show (w.alloc (.cells #[.int .i64 0, .slice none 0 0] 24)).heap.size = w.heap.size + 1 by simp] at h
theorem RM3.take {w wr w' : World} {st st' : St} {A : Option Addr} {c : Nat} (h : RM3 w wr st A c) (hb : Below (w.heap.size + 1) wr w') {A' : Option Addr} {c' : Nat} (h2 : RM2 (w.heap.size + 1) w' st'.n A' st'.L.length c' st'.L (clN st')) : RM3 w w' st' A' c' :=
  ⟨(hb.block _ (by omega)).trans h.1, h2, h.2.2.trans (hb.mono (by omega))⟩
theorem RM3.fin {w wr : World} {st : St} {A : Option Addr} {c : Nat} (h : RM3 w wr st A c) (N : Int) (B : Option Addr) (m d : Nat) :
    CBox ((wr.setCell ⟨w.heap.size, 0, none⟩ (.int .i64 N)).setCell ⟨w.heap.size, 1, none⟩ (.slice B m d)) w.heap.size N B m d ∧ Below w.heap.size w ((wr.setCell ⟨w.heap.size, 0, none⟩ (.int .i64 N)).setCell ⟨w.heap.size, 1, none⟩ (.slice B m d)) ∧ OwnG ((wr.setCell ⟨w.heap.size, 0, none⟩ (.int .i64 N)).setCell ⟨w.heap.size, 1, none⟩ (.slice B m d)) (w.heap.size + 2) (.slice A st.L.length c) st.L :=
  ⟨(h.1.put0 N).put1 B m d, (h.2.2.setCell (p := ⟨w.heap.size, 0, none⟩) (Nat.le_refl _) _).setCell (p := ⟨w.heap.size, 1, none⟩) (Nat.le_refl _) _, (h.2.1.2.1.far (by omega) 0 _).far (by omega) 1 _⟩
theorem tk_int {b : Nat} {w : World} {R : Except Int St} {e : Ending} {w' : World} (h : TkP b w R e w') : ∃ v, e = .returned (.int .i64 v) ∧ TkP b w R e w' := by
  cases R with
  | error k => exact ⟨_, h.1, h⟩
  | ok p => exact ⟨_, h.1, h⟩
set_option maxRecDepth 100000 in
set_option maxHeartbeats 8000000 in
theorem Read_any (s : ByteArray) (w : World) (hs : s.size ≤ 10000000) :
    Calls Tryz.prog 20 #[.string s] w (RP (rdC s.data.toList) w) := by
  obtain ⟨W2, hW2, hM0⟩ := RM3.start w
  obtain ⟨R, hR⟩ : ∃ R, rdC s.data.toList = R := ⟨_, rfl⟩
  rw [hR]
  have HR := Lib.hid hR
  have HM0 := Lib.hid hM0
  have HZ := Lib.hid (RSt.zero s.data.toList)
  have HSl := Lib.hid (Dig.len_list s)
  have CH := Lib.hid (fun (s u y : ByteArray) (W : World) (hs : s.size ≤ 9223372036854775807) (h : s.data.toList = u.data.toList ++ 10 :: y.data.toList) (hu : ∀ c ∈ u.data.toList, c ≠ 10) => cut_hit s u y 10 W hs h hu)
  have CM := Lib.hid (fun (s : ByteArray) (W : World) (h : ∀ c ∈ s.data.toList, c ≠ 10) => cut_miss s 10 W h)
  have CT := Lib.hid (fun (x : ByteArray) (W : World) (st : St) (A : Option Addr) (c : Nat) (h : RM2 (w.heap.size + 1) W st.n A st.L.length c st.L (clN st)) (hx : x.size ≤ 10000000) (hI : Inv st) => Take_any (w.heap.size + 1) x W st A c h hx (by have h1 := hI.2.2.1; have h2 := hI.2.1.2; omega) hI.2.1.1)
  clear hR hM0
  go_enter Tryz.func20, Tryz.ntmps20
  go_wp2
  go_loopw [0, 6] (fun sv lv wr0 => ∃ (wr : World) (x : ByteArray) (st : St) (line : Nat) (A : Option Addr) (c : Nat), wr = wr0 ∧ x.size + line ≤ s.size ∧ sv = .string x ∧ lv = .int .i64 line ∧ Hid (RSt s.data.toList st line x.data.toList) ∧ Hid (RM3 w wr st A c)) (fun sv lv _ => szV sv)
  case atStart => exact ⟨_, s, st0, 0, none, 0, rfl, by omega, rfl, rfl, HZ, HM0⟩
  case round =>
    obtain ⟨wr, x, st, line, A, c, rfl, hl, rfl, rfl, hA, hM⟩ := hrel
    obtain ⟨g0, g1⟩ := hM.out.1.two
    obtain ⟨f0, f1⟩ := hM.out.1.free
    obtain ⟨c0, c1, c2⟩ := hM.out.2.1.cells
    have hI := Lib.hid hA.out.2.1
    have hxs : x.size ≤ 10000000 := by omega
    by_cases h0 : x.size = 0
    · have hx0 : x.data.toList = [] := List.length_eq_zero_iff.1 (by rw [Dig.len_list]; exact h0)
      have hxe : x = ⟨#[]⟩ := ba_ext (by rw [hx0])
      subst hxe
      have hD : Hid (R = if st.seen = false ∨ (st.L.length : Int) < st.many then ⟨0, [], line, 8⟩ else ⟨st.n, st.L, 0, 0⟩) := Lib.hid (by rw [← HR.out]; exact RSt.done (by have := hA.out; rwa [hx0] at this))
      clear h0 hx0
      by_cases hc : (st.L.length : Int) = clN st
      · have q1 : ((st.L.length : Int) != clN st) = false := by simp [hc]
        have hseen : st.seen = true := by
          cases hs : st.seen
          · unfold clN at hc; rw [hs] at hc; exfalso; revert hc; simp <;> omega
          · rfl
        have hcl : clN st = st.many := by unfold clN; rw [hseen]; rfl
        have hq2 : Hid (R = ⟨st.n, st.L, 0, 0⟩) := Lib.hid (by
          rw [hD.out, if_neg]
          rintro (h | h)
          · rw [hseen] at h; cases h
          · omega)
        have HF := Lib.hid (hM.out.fin st.n A st.L.length c)
        obtain ⟨x0, x1⟩ := HF.out.1.two
        have HS := Lib.hid (show SlG ((wr.setCell ⟨w.heap.size, 0, none⟩ (.int .i64 st.n)).setCell ⟨w.heap.size, 1, none⟩ (.slice A st.L.length c)) A st.L.length c st.L from by
          obtain ⟨A', c', e, _, hS⟩ := HF.out.2.2.slG
          injection e with e1 e2 e3
          rw [← e1, ← e3] at hS
          exact hS)
        clear hD hseen hcl hc hA
        go_wp2
        simp [bodyPost, results, Tryz.results20, go_sem, x0, x1]
        exact ⟨A, st.L.length, c, by rw [hq2.out], by rw [hq2.out]; exact HS.out, HF.out.2.1⟩
      · have q1 : ((st.L.length : Int) != clN st) = true := by simp [hc]
        have hq2 : Hid (R = ⟨0, [], line, 8⟩) := Lib.hid (by
          rw [hD.out, if_pos]
          cases hs : st.seen
          · exact .inl rfl
          · have hcl : clN st = st.many := by unfold clN; rw [hs]; rfl
            have := hI.out.2.2.1
            rw [hcl] at hc
            exact .inr (by omega))
        have HF := Lib.hid (hM.out.fin 0 none 0 0)
        obtain ⟨x0, x1⟩ := HF.out.1.two
        clear hD hc hA
        go_wp2
        simp [bodyPost, results, Tryz.results20, go_sem, x0, x1]
        exact ⟨none, 0, 0, by rw [hq2.out], by rw [hq2.out]; exact SlG.nil _, HF.out.2.1⟩
    · have hne : x.data.toList ≠ [] := fun e => h0 (by rw [← Dig.len_list, e]; rfl)
      have q0 : x.toList.isEmpty = false := by
        rw [ByteArray.toList_eq]
        cases hx : x.data.toList with
        | nil => exact absurd hx hne
        | cons a b => rfl
      have hxs2 : x.size ≤ 9223372036854775807 := by omega
      rcases cutAt 10 x.data.toList with hm | ⟨ul, yl, hx, hu⟩
      · have cc := CM.out x wr hm
        have hq2 : Hid (R = ⟨0, [], line, 7⟩) := Lib.hid (by rw [← HR.out]; exact hA.out.rest hm hne)
        clear hm hne hA h0
        go_wp2_with (go_at_call 43; ((with_reducible refine cc.mono ?_); rintro e w3 ⟨rfl, b3⟩; have hM3 := Lib.hid (hM.out.b b3); obtain ⟨v0, v1⟩ := hM3.out.1.two; obtain ⟨v2, v3⟩ := hM3.out.1.free; have HF := Lib.hid (hM3.out.fin 0 none 0 0); obtain ⟨x0, x1⟩ := HF.out.1.two))
        simp [bodyPost, results, Tryz.results20, go_sem, x0, x1]
        exact ⟨none, 0, 0, by rw [hq2.out], by rw [hq2.out]; exact SlG.nil _, HF.out.2.1⟩
      · obtain ⟨u, rfl⟩ := bytes_of ul
        obtain ⟨y, rfl⟩ := bytes_of yl
        have hxl : x.size = u.size + y.size + 1 := by
          have := congrArg List.length hx
          rw [List.length_append, List.length_cons, Dig.len_list, Dig.len_list, Dig.len_list] at this; omega
        have cc := CH.out x u y wr hxs2 hx hu
        have hA2 := hA.out
        rw [hx] at hA2
        obtain ⟨Rs, hRs⟩ : ∃ Rs, stL st u.data.toList = Rs := ⟨_, rfl⟩
        have ct := Lib.hid (fun (W : World) (hb : Below wr.heap.size wr W) => CT.out u W st A c (hM.out.2.1.b hb) (by omega) hI.out)
        rw [hRs] at ct
        cases Rs with
        | error k =>
          have hk := stL_ne hRs
          have q4 : (k != 0) = true := by simp [hk]
          have hq2 : Hid (R = ⟨0, [], line, k⟩) := Lib.hid (by rw [← HR.out]; exact hA2.fail hu hRs)
          clear hA hA2 hRs hx hu h0 hne hk
          go_wp2_with (first
            | (go_at_call 43; ((with_reducible refine cc.mono ?_); rintro e w3 ⟨rfl, b3⟩; have hM3 := Lib.hid (hM.out.b b3)))
            | (go_at_call 44; ((with_reducible refine (ct.out _ b3).mono ?_); rintro e w4 ⟨rfl, b4⟩; have hM4 := Lib.hid (hM3.out.b b4); obtain ⟨v0, v1⟩ := hM4.out.1.two; obtain ⟨v2, v3⟩ := hM4.out.1.free; have HF := Lib.hid (hM4.out.fin 0 none 0 0); obtain ⟨x0, x1⟩ := HF.out.1.two)))
          simp [bodyPost, results, Tryz.results20, go_sem, x0, x1]
          exact ⟨none, 0, 0, by rw [hq2.out], by rw [hq2.out]; exact SlG.nil _, HF.out.2.1⟩
        | ok st' =>
          have q4 : ((0 : Int) != 0) = false := rfl
          have hA3 := Lib.hid (hA2.feed hu hRs)
          clear hA hA2 hRs hx hu h0 hne
          go_wp2_with (first
            | (go_at_call 43; ((with_reducible refine cc.mono ?_); rintro e w3 ⟨rfl, b3⟩; have hM3 := Lib.hid (hM.out.b b3)))
            | (go_at_call 44; ((with_reducible refine (ct.out _ b3).mono ?_); rintro e w4 ⟨rfl, b4, A4, c4, hR4⟩; have hM4 := Lib.hid (hM3.out.take b4 hR4); clear hR4 b4)))
          go_roundw
          case rel => exact ⟨_, y, st', line + 1, A4, c4, rfl, by omega, rfl, by go_num, hA3, hM4⟩
          case measure => simp [szV]; omega
end Go.Proofs.YthchjceibpcgbaaGreatDoor.Cn
