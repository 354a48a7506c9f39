/-
  What is proved: the document's names of a claim, and what it calls a binder.
-/
import Derived.Test.YtcigeclnbhcohaaGreatDoorZShRt
import Derived.Test.YtcigeclnbhcohaaGreatDoorS1
import Derived.Test.YtcigeclnbhcohaaGreatDoorZShNc
namespace Go.Proofs.YtcigeclnbhcohaaGreatDoor.Sh
open Go.RowKit L T C Cs
set_option linter.unusedVariables false
set_option linter.unusedSimpArgs false
set_option maxRecDepth 100000

set_option maxHeartbeats 8000000 in
theorem RFresh_any (b : ByteArray) (hb : b.size ≤ 300) (X : List ByteArray) (a : Option Addr) (n c : Nat) (w : World) (hS : IsS w a n X) (hn : n ≤ 1000000) :
    Calls Tryz.prog 25 #[.string b, .slice a n c] w fun e w' => e = .returned (.string (frB X b)) ∧ Below w.heap.size w w' := by
  have hlen : X.length = n := hS.1.symm
  have hNle := frN_le X b
  obtain ⟨N, hN⟩ : ∃ N, frN X b = N := ⟨_, rfl⟩
  have hfirst := frN_first X b
  have hfB : frB X b = ixN b N := by unfold frB; rw [hN]
  rw [hN] at hNle hfirst
  rw [hfB]
  have Hd := Lib.hid (show ∀ k : Nat, k ≤ 1000001 → ∀ w, _ from fun k hk w => refDigits_any (k : Int) (by omega) (by omega) w)
  have Hds := Lib.hid (show ∀ k : Nat, k ≤ 1000001 → (dig (k : Int)).size ≤ 21 from fun k hk => dig_size (by omega) (by omega))
  have HH := Lib.hid (show ∀ (s : ByteArray) (w' : World), Below w.heap.size w w' → _ from fun s w' h => Has_any a n c X s w' (hS.below h) (by omega))
  have Hf := Lib.hid hfirst
  have H0 : Hid (b = ixN b 0) := Lib.hid rfl
  have hN1 : N ≤ 1000000 := by omega
  clear hfirst hS hfB hN hNle hlen
  go_enter Tryz.func25, Tryz.ntmps25
  go_wp2
  go_loopw [5, 6] (fun v i wr0 => ∃ (wr : World) (j : Nat) (S : ByteArray), wr = wr0 ∧ j ≤ N ∧ v = .string S ∧ i = .int .i64 ((j : Int) + 1) ∧ Hid (S = ixN b j) ∧ Hid (Below w.heap.size w wr)) (fun v i _ => N + 1 - (intOf i).toNat)
  case atStart => exact ⟨_, 0, _, rfl, by omega, rfl, rfl, H0, Lib.hid (Below.refl _ _)⟩
  case round =>
    obtain ⟨wr, j, S, rfl, hj, rfl, rfl, hS, hB⟩ := hrel
    have ch := HH.out S wr hB.out
    by_cases hlt : j < N
    · have ht : hasS X S = true := by rw [hS.out]; exact Hf.out.2 j hlt
      rw [ht] at ch
      have cd := Hd.out (j + 1) (by omega)
      have hds := Hds.out (j + 1) (by omega)
      have ej : ((j + 1 : Nat) : Int) = (j : Int) + 1 := by omega
      have Hnew : Hid (b ++ dig ((j + 1 : Nat) : Int) = ixN b (j + 1)) := Lib.hid (ixN_pos b (by omega)).symm
      rw [ej] at cd hds Hnew
      have r1 : ∀ w, (Op.stringOp .add b (dig ((j : Int) + 1))).run Tryz.prog w = .ok (.string (b ++ dig ((j : Int) + 1))) w := fun w => by rw [run_string_add_sum w _ _ (by omega)]
      clear ht ej hds hS
      generalize b ++ dig ((j : Int) + 1) = S2 at *
      generalize dig ((j : Int) + 1) = D at *
      go_wp2_with (first
        | (go_at_call 26; ((with_reducible refine ch.mono ?_); rintro e w2 ⟨rfl, hw2⟩; subst hw2))
        | (go_at_call 46; ((with_reducible refine (cd _).mono ?_); rintro e w3 ⟨rfl, hb3⟩)))
      go_roundw
      case rel => exact ⟨_, j + 1, _, rfl, by omega, rfl, by go_num, Lib.hid Hnew.out, Lib.hid (bel_trans hB.out hb3)⟩
      case measure => simp [intOf]; omega
    · obtain rfl : j = N := by omega
      have ht : hasS X S = false := by rw [hS.out]; exact Hf.out.1
      rw [ht] at ch
      clear ht
      go_wp2_with (go_at_call 26; ((with_reducible refine ch.mono ?_); rintro e w2 ⟨rfl, hw2⟩; subst hw2))
      go_ret
      exact ⟨retS hS.out, hB.out⟩

/-! the names of a term -/
def RtnOk (t : Tm) : Prop := ∀ (a : Option Addr) (n c : Nat) (w : World), ArW w t a n c → size t ≤ 1000000 →
  Calls Tryz.prog 80 #[.agg #[.int .i64 (opT t), .string (nameT t), .int .i64 (numT t), .slice a n c]] w fun e w' => ∃ v, e = .returned v ∧ OwnS w' w.heap.size v (nmsP (all t)) ∧ Below w.heap.size w w'
theorem one_strs {w : World} {g : Nat} {s : ByteArray} (hlt : g < w.heap.size) (h : w.cell? ⟨g, 0, none⟩ = some (.string s)) : SlS w (some ⟨g, 0, none⟩) 1 1 [s] :=
  ⟨⟨rfl, fun _ => ⟨g, 0, rfl, hlt, fun k hk => by
    have : k = 0 := by simp at hk; exact hk
    subst this; exact h⟩⟩, Nat.le_refl _, fun h => by cases h⟩
set_option maxHeartbeats 8000000 in
theorem rtn_step (t : Tm) (ih : ∀ x ∈ argsT t, RtnOk x) : RtnOk t := by
  intro a n c w hA hsz
  obtain ⟨W1, hW1, hB1, hs1, S1⟩ := box1 w (opT t) (nameT t) (numT t) a n c
  obtain ⟨s0, s1, s2, s3⟩ := S1.four
  have hT := TsW.b hA.args hB1
  have hsz2 : 1 + sizes (argsT t) ≤ 1000000 := by cases t; rw [size] at hsz; exact hsz
  have hn : n = (argsT t).length := hT.1
  have hnn : n ≤ 1000000 := by have := len_sizesB (argsT t); omega
  have hall : nmsP (all t) = (if opT t = 1 ∨ opT t = 3 then [nameT t] else []) ++ nmsP (alls (argsT t)) := by
    rw [all_mk, nmsP]; split <;> rfl
  have HT := Lib.hid hT
  have HI := Lib.hid (show ∀ k x, (argsT t)[k]? = some x → ∀ a' n' c' w', ArW w' x a' n' c' → _ from fun k x hk a' n' c' w' h => ih x (List.mem_of_getElem? hk) a' n' c' w' h (by have := sizes_leB (List.mem_of_getElem? hk); omega))
  have HTk := Lib.hid (show ∀ k u, (argsT t)[k]? = some u → nmsP (alls ((argsT t).take (k + 1))) = nmsP (alls ((argsT t).take k)) ++ nmsP (all u) from fun k u h => by rw [take_t h, alls_app, nmsP_app]; simp [alls])
  have HLn := Lib.hid (show ∀ k, (nmsP (alls ((argsT t).take k))).length ≤ 1000000 from fun k => by
    have h1 := nmsP_len (alls ((argsT t).take k))
    rw [alls_len] at h1
    have h2 := sizes_takeB (argsT t) k
    omega)
  have HLu := Lib.hid (show ∀ k u, (argsT t)[k]? = some u → (nmsP (all u)).length ≤ 1000000 from fun k u h => by
    have h1 := nmsP_len (all u)
    rw [all_len] at h1
    have := sizes_leB (List.mem_of_getElem? h); omega)
  have HS := Lib.hid (show ∀ w', Below W1.heap.size W1 w' → _ from fun w' h => (TBox.b S1 h).four)
  have Hfin := Lib.hid (show ∀ k, n ≤ k → nmsP (alls ((argsT t).take k)) = nmsP (alls (argsT t)) from fun k h => by rw [List.take_of_length_le (by omega)])
  have HB1 := Lib.hid hB1
  rw [hall]
  clear ih hA hsz hsz2 hT S1 hall hn hs1
  generalize argsT t = l at *
  generalize nameT t = nm at *
  generalize numT t = nu at *
  obtain ⟨Y, hY⟩ : ∃ Y : List ByteArray, (if opT t = 1 ∨ opT t = 3 then [nm] else []) = Y := ⟨_, rfl⟩
  rw [hY]
  have hYl : Y.length ≤ 1 := by rw [← hY]; split <;> simp
  by_cases hop : opT t = 1 ∨ opT t = 3
  · rw [if_pos hop] at hY
    have HY : Hid (Y = [nm]) := Lib.hid hY.symm
    clear hY
    generalize opT t = op at *
    rcases hop with rfl | rfl
    all_goals
      go_enter Tryz.func80, Tryz.ntmps80
      go_wp2_with (at_builtin; ((refine app_strs rfl (.tmp 13) (.tmp 16) rfl W1.heap.size (.slice none 0 0) [] rfl (OwnS.nil _ _) (some ⟨W1.heap.size, 0, none⟩) 1 1 [nm] rfl (one_strs (by simp) (Blk.cell (Blk.new W1 #[.string nm] 9) 0)) (by simp) (by simp) ?_); intro v1 w1 ho1 hg1))
      have hBa : Below W1.heap.size W1 w1 := (bel_alloc (Below.refl _ _) _).grown hg1 (by simp) (fun k hk => by cases hk)
      have HO1 : Hid (OwnS w1 W1.heap.size v1 (Y ++ nmsP (alls (l.take 0)))) := Lib.hid (by rw [HY.out, List.take_zero, alls, nmsP, List.append_nil]; exact ho1)
      clear ho1 hg1 HY
      go_wp2
      go_loopw [3, 4] (fun v i wr0 => ∃ (wr : World) (k : Nat) (v' : Value), v' = v ∧ wr = wr0 ∧ k ≤ n ∧ i = .int .i64 k ∧ Below W1.heap.size W1 wr ∧ Hid (OwnS wr W1.heap.size v' (Y ++ nmsP (alls (l.take k))))) (fun v i _ => n - (intOf i).toNat)
      case atStart => exact ⟨_, 0, _, rfl, rfl, by omega, rfl, hBa, HO1⟩
      case round =>
        obtain ⟨wr, k, v, rfl, rfl, hk, rfl, hB, hO⟩ := hrel
        obtain ⟨p0, p1, p2, p3⟩ := HS.out wr hB
        by_cases hlt : k < n
        · obtain ⟨bb, oo, x, a', n', c', rfl, hbb, y0, y1, y2, y3, hx, hAx⟩ := (HT.out.b hB).at hlt
          have ct := HI.out k x hx a' n' c' wr hAx
          have hnew := Lib.hid (show Y ++ nmsP (alls (l.take (k + 1))) = (Y ++ nmsP (alls (l.take k))) ++ nmsP (all x) from by rw [HTk.out k x hx, List.append_assoc])
          have hl1 : (Y ++ nmsP (alls (l.take k))).length ≤ 1000001 := by rw [List.length_append]; have := HLn.out k; omega
          have hl2 := HLu.out k x hx
          have hk0 : 0 ≤ (k : Int) := by omega
          have hk1 : (k : Int) < (n : Int) := by omega
          have hsz := hB.size
          clear hx hAx
          generalize nmsP (all x) = XN at *
          generalize opT x = xo at *
          generalize nameT x = xs at *
          generalize numT x = xz at *
          go_wp2_with (first
            | (go_at_call 80; ((with_reducible refine ct.mono ?_); rintro e w5 ⟨v5, rfl, ho5, hb5⟩; obtain ⟨A5, c5, rfl, hS5⟩ := ho5.slS))
            | (at_builtin; ((refine app_strs rfl (.tmp 25) (.tmp 31) rfl W1.heap.size v _ rfl (OwnS.below hO.out hb5) A5 _ c5 XN rfl hS5 (by omega) (by have := hb5.size; omega) ?_); intro v6 w6 ho6 hg6; have hb6 : Below W1.heap.size W1 w6 := (bel_trans hB hb5).grown hg6 (by have := hb5.size; omega) (fun q hq => (World.ownsRow.lt (OwnS.below hO.out hb5) q hq).1))))
          go_roundw
          case rel => exact ⟨_, k + 1, v6, rfl, rfl, by omega, by go_num, hb6, by rw [hnew.out]; exact Lib.hid ho6⟩
          case measure => simp [intOf]; omega
        · obtain rfl : k = n := by omega
          have hO2 := hO.out
          rw [Hfin.out k (Nat.le_refl _)] at hO2
          go_wp2
          go_ret
          exact ⟨v, rfl, OwnS.base hO2 HB1.out.size, bel_trans HB1.out hB⟩
  · -- no name
    rw [if_neg hop] at hY
    have o1 : (opT t == 1) = false := beq_no' fun h => hop (.inl h)
    have o3 : (opT t == 3) = false := beq_no' fun h => hop (.inr h)
    have HO1 : Hid (OwnS W1 W1.heap.size (.slice none 0 0) (Y ++ nmsP (alls (l.take 0)))) := Lib.hid (by rw [← hY, List.take_zero, alls, nmsP, List.append_nil]; exact OwnS.nil _ _)
    have hBa : Below W1.heap.size W1 W1 := Below.refl _ _
    clear hY hop
    generalize opT t = op at *
    go_enter Tryz.func80, Tryz.ntmps80
    go_wp2
    go_loopw [3, 4] (fun v i wr0 => ∃ (wr : World) (k : Nat) (v' : Value), v' = v ∧ wr = wr0 ∧ k ≤ n ∧ i = .int .i64 k ∧ Below W1.heap.size W1 wr ∧ Hid (OwnS wr W1.heap.size v' (Y ++ nmsP (alls (l.take k))))) (fun v i _ => n - (intOf i).toNat)
    case atStart => exact ⟨_, 0, _, rfl, rfl, by omega, rfl, hBa, HO1⟩
    case round =>
      obtain ⟨wr, k, v, rfl, rfl, hk, rfl, hB, hO⟩ := hrel
      obtain ⟨p0, p1, p2, p3⟩ := HS.out wr hB
      by_cases hlt : k < n
      · obtain ⟨bb, oo, x, a', n', c', rfl, hbb, y0, y1, y2, y3, hx, hAx⟩ := (HT.out.b hB).at hlt
        have ct := HI.out k x hx a' n' c' wr hAx
        have hnew := Lib.hid (show Y ++ nmsP (alls (l.take (k + 1))) = (Y ++ nmsP (alls (l.take k))) ++ nmsP (all x) from by rw [HTk.out k x hx, List.append_assoc])
        have hl1 : (Y ++ nmsP (alls (l.take k))).length ≤ 1000001 := by rw [List.length_append]; have := HLn.out k; omega
        have hl2 := HLu.out k x hx
        have hk0 : 0 ≤ (k : Int) := by omega
        have hk1 : (k : Int) < (n : Int) := by omega
        have hsz := hB.size
        clear hx hAx
        generalize nmsP (all x) = XN at *
        generalize opT x = xo at *
        generalize nameT x = xs at *
        generalize numT x = xz at *
        go_wp2_with (first
          | (go_at_call 80; ((with_reducible refine ct.mono ?_); rintro e w5 ⟨v5, rfl, ho5, hb5⟩; obtain ⟨A5, c5, rfl, hS5⟩ := ho5.slS))
          | (at_builtin; ((refine app_strs rfl (.tmp 25) (.tmp 31) rfl W1.heap.size v _ rfl (OwnS.below hO.out hb5) A5 _ c5 XN rfl hS5 (by omega) (by have := hb5.size; omega) ?_); intro v6 w6 ho6 hg6; have hb6 : Below W1.heap.size W1 w6 := (bel_trans hB hb5).grown hg6 (by have := hb5.size; omega) (fun q hq => (World.ownsRow.lt (OwnS.below hO.out hb5) q hq).1))))
        go_roundw
        case rel => exact ⟨_, k + 1, v6, rfl, rfl, by omega, by go_num, hb6, by rw [hnew.out]; exact Lib.hid ho6⟩
        case measure => simp [intOf]; omega
      · obtain rfl : k = n := by omega
        have hO2 := hO.out
        rw [Hfin.out k (Nat.le_refl _)] at hO2
        go_wp2
        go_ret
        exact ⟨v, rfl, OwnS.base hO2 HB1.out.size, bel_trans HB1.out hB⟩
theorem rtn_any (t : Tm) : RtnOk t := Tm.ind rtn_step t

/-! the names of a claim -/
mutual
def nmsA : Cl → List ByteArray
  | .mk o s z ts l => (if o = 3 then [s] else []) ++ (nmsP (alls ts) ++ nmsAs l)
def nmsAs : List Cl → List ByteArray
  | [] => []
  | c :: l => nmsA c ++ nmsAs l
end
theorem nmsA_mk (c : Cl) : nmsA c = ((if opC c = 3 then [nmC c] else []) ++ nmsP (alls (tsC c))) ++ nmsAs (subC c) := by cases c; rw [nmsA, List.append_assoc]; rfl
mutual
theorem nmsQ_all : ∀ t : Cl, nmsQ (allP yes t) = nmsA t
  | .mk o s z ts l => by
    rw [allP_mk, nmsQ, kids_yes, nmsA]
    show nmsK (.mk o s z ts l) ++ nmsQ (allPs yes l) = _
    rw [nmsQ_alls l]
    unfold nmsK
    show ((if o = 3 then [s] else []) ++ nmsP (alls ts)) ++ nmsAs l = _
    rw [List.append_assoc]
theorem nmsQ_alls : ∀ l : List Cl, nmsQ (allPs yes l) = nmsAs l
  | [] => by rw [allPs, nmsQ, nmsAs]
  | t :: l => by rw [allPs, nmsQ_app, nmsQ_all t, nmsQ_alls l, nmsAs]
end
theorem nmsAs_app : ∀ l m : List Cl, nmsAs (l ++ m) = nmsAs l ++ nmsAs m
  | [], m => rfl
  | t :: l, m => by rw [List.cons_append, nmsAs, nmsAs, nmsAs_app l m, List.append_assoc]
mutual
theorem nmsA_len : ∀ c : Cl, (nmsA c).length ≤ wt c
  | .mk o s z ts l => by
    rw [nmsA, List.length_append, List.length_append, wt]
    have h1 := nmsP_len (alls ts)
    rw [alls_len] at h1
    have h2 := nmsAs_len l
    split <;> simp <;> omega
theorem nmsAs_len : ∀ l : List Cl, (nmsAs l).length ≤ wts l
  | [] => by rw [nmsAs, wts]; exact Nat.le_refl _
  | c :: l => by rw [nmsAs, List.length_append, wts]; have := nmsA_len c; have := nmsAs_len l; omega
end
theorem wts_take : ∀ (l : List Cl) (k : Nat), wts (l.take k) ≤ wts l
  | [], k => by simp
  | t :: l, 0 => by simp [wts]
  | t :: l, k + 1 => by rw [List.take_succ_cons, wts, wts]; have := wts_take l k; omega
def RnmOk (t : Cl) : Prop := ∀ (ks : SS) (a : Option Addr) (n c : Nat) (w : World), ArWC w t ks a n c → wt t ≤ 1000000 →
  Calls Tryz.prog 41 #[.agg #[.int .i64 (opC t), .string (nmC t), .string (soC t), .slice ks.a ks.n ks.c, .slice a n c]] w fun e w' => ∃ v, e = .returned v ∧ OwnS w' w.heap.size v (nmsA t) ∧ Below w.heap.size w w'
set_option maxHeartbeats 16000000 in
theorem rnm_step (t : Cl) (ih : ∀ x ∈ subC t, RnmOk x) : RnmOk t := by
  intro ks a n c w hA hsz
  obtain ⟨ka, kn, kc⟩ := ks
  obtain ⟨W1, hW1, hB1, hs1, S1⟩ := cbox1 w (opC t) (nmC t) (soC t) ⟨ka, kn, kc⟩ a n c
  have hwm := wt_mk t
  have hT : TsW W1 ka kn kc (tsC t) := TsW.b hA.terms hB1
  have hC : CsW W1 a n c (subC t) := CsW.b hA.subs hB1
  have hkn : kn = (tsC t).length := hT.1
  have hn : n = (subC t).length := hC.1
  have hknn : kn ≤ 1000000 := by have := len_sizesB (tsC t); omega
  have hnn : n ≤ 1000000 := by have := wts_len (subC t); omega
  rw [nmsA_mk]
  have HT := Lib.hid hT
  have HC := Lib.hid hC
  have HI := Lib.hid (show ∀ k x, (subC t)[k]? = some x → ∀ k' a' n' c' w', ArWC w' x k' a' n' c' → _ from fun k x hk k' a' n' c' w' h => ih x (List.mem_of_getElem? hk) k' a' n' c' w' h (by have := wts_mem (List.mem_of_getElem? hk); omega))
  have HTI := Lib.hid (show ∀ k x, (tsC t)[k]? = some x → ∀ a' n' c' w', ArW w' x a' n' c' → _ from fun k x hk a' n' c' w' h => rtn_any x a' n' c' w' h (by have := sizes_leB (List.mem_of_getElem? hk); omega))
  have HTk := Lib.hid (show ∀ k u, (tsC t)[k]? = some u → nmsP (alls ((tsC t).take (k + 1))) = nmsP (alls ((tsC t).take k)) ++ nmsP (all u) from fun k u h => by rw [take_t h, alls_app, nmsP_app]; simp [alls])
  have HCk := Lib.hid (show ∀ k u, (subC t)[k]? = some u → nmsAs ((subC t).take (k + 1)) = nmsAs ((subC t).take k) ++ nmsA u from fun k u h => by rw [take_c h, nmsAs_app]; simp [nmsAs])
  have HLn := Lib.hid (show ∀ k, (nmsP (alls ((tsC t).take k))).length ≤ 1000000 from fun k => by
    have h1 := nmsP_len (alls ((tsC t).take k))
    rw [alls_len] at h1
    have h2 := sizes_takeB (tsC t) k
    omega)
  have HLu := Lib.hid (show ∀ k u, (tsC t)[k]? = some u → (nmsP (all u)).length ≤ 1000000 from fun k u h => by
    have h1 := nmsP_len (all u)
    rw [all_len] at h1
    have := sizes_leB (List.mem_of_getElem? h); omega)
  have HLc := Lib.hid (show ∀ k, (nmsAs ((subC t).take k)).length ≤ 1000000 from fun k => by have h1 := nmsAs_len ((subC t).take k); have h2 := wts_take (subC t) k; omega)
  have HLv := Lib.hid (show ∀ k u, (subC t)[k]? = some u → (nmsA u).length ≤ 1000000 from fun k u h => by have h1 := nmsA_len u; have := wts_mem (List.mem_of_getElem? h); omega)
  have HLa := Lib.hid (show (nmsP (alls (tsC t))).length ≤ 1000000 from by have h1 := nmsP_len (alls (tsC t)); rw [alls_len] at h1; omega)
  have HS := Lib.hid (show ∀ w', Below W1.heap.size W1 w' → _ from fun w' h => (CBox.b S1 h).five)
  have Hfin := Lib.hid (show ∀ k, kn ≤ k → nmsP (alls ((tsC t).take k)) = nmsP (alls (tsC t)) from fun k h => by rw [List.take_of_length_le (by omega)])
  have HfiC := Lib.hid (show ∀ k, n ≤ k → nmsAs ((subC t).take k) = nmsAs (subC t) from fun k h => by rw [List.take_of_length_le (by omega)])
  have HB1 := Lib.hid hB1
  obtain ⟨s0, s1, s2, s3, s4⟩ := S1.five
  clear ih hA hsz hT hC S1 hn hkn hs1 hwm
  dsimp only at *
  generalize tsC t = TS at *
  generalize subC t = CS at *
  generalize nmC t = nm at *
  generalize soC t = so at *
  obtain ⟨Y, hY⟩ : ∃ Y : List ByteArray, (if opC t = 3 then [nm] else []) = Y := ⟨_, rfl⟩
  rw [hY]
  have hYl : Y.length ≤ 1 := by rw [← hY]; split <;> simp
  have hBa : Below W1.heap.size W1 W1 := Below.refl _ _
  by_cases hop : opC t = 3
  · rw [if_pos hop] at hY
    have HY : Hid (Y = [nm]) := Lib.hid hY.symm
    clear hY hBa
    generalize opC t = op at *
    subst hop
    go_enter Tryz.func41, Tryz.ntmps41
    go_wp2_with (at_builtin; ((refine app_strs rfl (.tmp 9) (.tmp 12) rfl W1.heap.size (.slice none 0 0) [] rfl (OwnS.nil _ _) (some ⟨W1.heap.size, 0, none⟩) 1 1 [nm] rfl (one_strs (by simp) (Blk.cell (Blk.new W1 #[.string nm] 9) 0)) (by simp) (by simp) ?_); intro v1 w1 ho1 hg1))
    have hBa : Below W1.heap.size W1 w1 := (bel_alloc (Below.refl _ _) _).grown hg1 (by simp) (fun k hk => by cases hk)
    have HO1 : Hid (OwnS w1 W1.heap.size v1 (Y ++ nmsP (alls (TS.take 0)))) := Lib.hid (by rw [HY.out, List.take_zero, alls, nmsP, List.append_nil]; exact ho1)
    clear ho1 hg1 HY
    go_wp2
    go_loopw [3, 4] (fun v i wr0 => ∃ (wr : World) (k : Nat) (v' : Value), v' = v ∧ wr = wr0 ∧ k ≤ kn ∧ i = .int .i64 k ∧ Below W1.heap.size W1 wr ∧ Hid (OwnS wr W1.heap.size v' (Y ++ nmsP (alls (TS.take k))))) (fun v i _ => kn - (intOf i).toNat)
    case atStart => exact ⟨_, 0, _, rfl, rfl, by omega, rfl, hBa, HO1⟩
    case round =>
      obtain ⟨wr, k, v, rfl, rfl, hk, rfl, hB, hO⟩ := hrel
      obtain ⟨p0, p1, p2, p3, p4⟩ := HS.out wr hB
      by_cases hlt : k < kn
      · obtain ⟨bb, oo, x, a', n', c', rfl, hbb, y0, y1, y2, y3, hx, hAx⟩ := (HT.out.b hB).at hlt
        have ct := HTI.out k x hx a' n' c' wr hAx
        have hnew := Lib.hid (show Y ++ nmsP (alls (TS.take (k + 1))) = (Y ++ nmsP (alls (TS.take k))) ++ nmsP (all x) from by rw [HTk.out k x hx, List.append_assoc])
        have hl1 : (Y ++ nmsP (alls (TS.take k))).length ≤ 1000001 := by rw [List.length_append]; have := HLn.out k; omega
        have hl2 := HLu.out k x hx
        have hk0 : 0 ≤ (k : Int) := by omega
        have hk1 : (k : Int) < (kn : Int) := by omega
        have hsz := hB.size
        clear hx hAx
        generalize nmsP (all x) = XN at *
        generalize opT x = xo at *
        generalize nameT x = xs at *
        generalize numT x = xz at *
        go_wp2_with (first
          | (go_at_call 80; ((with_reducible refine ct.mono ?_); rintro e w5 ⟨v5, rfl, ho5, hb5⟩; obtain ⟨A5, c5, rfl, hS5⟩ := ho5.slS))
          | (at_builtin; ((refine app_strs rfl (.tmp 21) (.tmp 27) rfl W1.heap.size v _ rfl (OwnS.below hO.out hb5) A5 _ c5 XN rfl hS5 (by omega) (by have := hb5.size; omega) ?_); intro v6 w6 ho6 hg6; have hb6 : Below W1.heap.size W1 w6 := (bel_trans hB hb5).grown hg6 (by have := hb5.size; omega) (fun q hq => (World.ownsRow.lt (OwnS.below hO.out hb5) q hq).1))))
        go_roundw
        case rel => exact ⟨_, k + 1, v6, rfl, rfl, by omega, by go_num, hb6, by rw [hnew.out]; exact Lib.hid ho6⟩
        case measure => simp [intOf]; omega
      · obtain rfl : k = kn := by omega
        have HO2 : Hid (OwnS wr W1.heap.size v ((Y ++ nmsP (alls TS)) ++ nmsAs (CS.take 0))) := Lib.hid (by
          have := hO.out
          rw [Hfin.out k (Nat.le_refl _)] at this
          rw [List.take_zero, nmsAs, List.append_nil]; exact this)
        have hYa : (Y ++ nmsP (alls TS)).length ≤ 1000001 := by rw [List.length_append]; have := HLa.out; omega
        clear hO
        generalize hYT : Y ++ nmsP (alls TS) = YT at *
        have HYT := Lib.hid hYT
        clear hYT
        have hBc := hB
        go_wp2
        go_loopw [3, 5] (fun v i wr0 => ∃ (w2 : World) (j : Nat) (v' : Value), v' = v ∧ w2 = wr0 ∧ j ≤ n ∧ i = .int .i64 j ∧ Below W1.heap.size W1 w2 ∧ Hid (OwnS w2 W1.heap.size v' (YT ++ nmsAs (CS.take j)))) (fun v i _ => n - (intOf i).toNat)
        case atStart => exact ⟨_, 0, _, rfl, rfl, by omega, rfl, hBc, HO2⟩
        case round =>
          obtain ⟨w2, j, v, rfl, rfl, hj, rfl, hB2, hO2⟩ := hrel
          obtain ⟨q0, q1, q2, q3, q4⟩ := HS.out w2 hB2
          by_cases hlt2 : j < n
          · obtain ⟨bb, oo, x, ⟨qa, qn, qc⟩, a', n', c', rfl, hbb, y0, y1, y2, y3, y4, hx, hAx⟩ := (HC.out.b hB2).at hlt2
            dsimp only at y3
            have ct := HI.out j x hx ⟨qa, qn, qc⟩ a' n' c' w2 hAx
            have hnew := Lib.hid (show YT ++ nmsAs (CS.take (j + 1)) = (YT ++ nmsAs (CS.take j)) ++ nmsA x from by rw [HCk.out j x hx, List.append_assoc])
            have hl1 : (YT ++ nmsAs (CS.take j)).length ≤ 2000001 := by rw [List.length_append]; have := HLc.out j; omega
            have hl2 := HLv.out j x hx
            have hk0 : 0 ≤ (j : Int) := by omega
            have hk1 : (j : Int) < (n : Int) := by omega
            have hsz := hB2.size
            clear hx hAx
            dsimp only at ct
            generalize nmsA x = XN at *
            generalize opC x = xo at *
            generalize nmC x = xs at *
            generalize soC x = xz at *
            go_wp2_with (first
              | (go_at_call 41; ((with_reducible refine ct.mono ?_); rintro e w5 ⟨v5, rfl, ho5, hb5⟩; obtain ⟨A5, c5, rfl, hS5⟩ := ho5.slS))
              | (at_builtin; ((refine app_strs rfl (.tmp 36) (.tmp 42) rfl W1.heap.size v _ rfl (OwnS.below hO2.out hb5) A5 _ c5 XN rfl hS5 (by omega) (by have := hb5.size; omega) ?_); intro v6 w6 ho6 hg6; have hb6 : Below W1.heap.size W1 w6 := (bel_trans hB2 hb5).grown hg6 (by have := hb5.size; omega) (fun q hq => (World.ownsRow.lt (OwnS.below hO2.out hb5) q hq).1))))
            go_roundw
            case rel => exact ⟨_, j + 1, v6, rfl, rfl, by omega, by go_num, hb6, by rw [hnew.out]; exact Lib.hid ho6⟩
            case measure => simp [intOf]; omega
          · obtain rfl : j = n := by omega
            have hO3 := hO2.out
            rw [HfiC.out j (Nat.le_refl _)] at hO3
            go_wp2
            go_ret
            exact ⟨v, rfl, by rw [HYT.out]; exact OwnS.base hO3 HB1.out.size, bel_trans HB1.out hB2⟩
  · rw [if_neg hop] at hY
    have o3 : (opC t == 3) = false := beq_no' hop
    have HO1 : Hid (OwnS W1 W1.heap.size (.slice none 0 0) (Y ++ nmsP (alls (TS.take 0)))) := Lib.hid (by rw [← hY, List.take_zero, alls, nmsP, List.append_nil]; exact OwnS.nil _ _)
    clear hY hop
    generalize opC t = op at *
    go_enter Tryz.func41, Tryz.ntmps41
    go_wp2
    go_loopw [3, 4] (fun v i wr0 => ∃ (wr : World) (k : Nat) (v' : Value), v' = v ∧ wr = wr0 ∧ k ≤ kn ∧ i = .int .i64 k ∧ Below W1.heap.size W1 wr ∧ Hid (OwnS wr W1.heap.size v' (Y ++ nmsP (alls (TS.take k))))) (fun v i _ => kn - (intOf i).toNat)
    case atStart => exact ⟨_, 0, _, rfl, rfl, by omega, rfl, hBa, HO1⟩
    case round =>
      obtain ⟨wr, k, v, rfl, rfl, hk, rfl, hB, hO⟩ := hrel
      obtain ⟨p0, p1, p2, p3, p4⟩ := HS.out wr hB
      by_cases hlt : k < kn
      · obtain ⟨bb, oo, x, a', n', c', rfl, hbb, y0, y1, y2, y3, hx, hAx⟩ := (HT.out.b hB).at hlt
        have ct := HTI.out k x hx a' n' c' wr hAx
        have hnew := Lib.hid (show Y ++ nmsP (alls (TS.take (k + 1))) = (Y ++ nmsP (alls (TS.take k))) ++ nmsP (all x) from by rw [HTk.out k x hx, List.append_assoc])
        have hl1 : (Y ++ nmsP (alls (TS.take k))).length ≤ 1000001 := by rw [List.length_append]; have := HLn.out k; omega
        have hl2 := HLu.out k x hx
        have hk0 : 0 ≤ (k : Int) := by omega
        have hk1 : (k : Int) < (kn : Int) := by omega
        have hsz := hB.size
        clear hx hAx
        generalize nmsP (all x) = XN at *
        generalize opT x = xo at *
        generalize nameT x = xs at *
        generalize numT x = xz at *
        go_wp2_with (first
          | (go_at_call 80; ((with_reducible refine ct.mono ?_); rintro e w5 ⟨v5, rfl, ho5, hb5⟩; obtain ⟨A5, c5, rfl, hS5⟩ := ho5.slS))
          | (at_builtin; ((refine app_strs rfl (.tmp 21) (.tmp 27) rfl W1.heap.size v _ rfl (OwnS.below hO.out hb5) A5 _ c5 XN rfl hS5 (by omega) (by have := hb5.size; omega) ?_); intro v6 w6 ho6 hg6; have hb6 : Below W1.heap.size W1 w6 := (bel_trans hB hb5).grown hg6 (by have := hb5.size; omega) (fun q hq => (World.ownsRow.lt (OwnS.below hO.out hb5) q hq).1))))
        go_roundw
        case rel => exact ⟨_, k + 1, v6, rfl, rfl, by omega, by go_num, hb6, by rw [hnew.out]; exact Lib.hid ho6⟩
        case measure => simp [intOf]; omega
      · obtain rfl : k = kn := by omega
        have HO2 : Hid (OwnS wr W1.heap.size v ((Y ++ nmsP (alls TS)) ++ nmsAs (CS.take 0))) := Lib.hid (by
          have := hO.out
          rw [Hfin.out k (Nat.le_refl _)] at this
          rw [List.take_zero, nmsAs, List.append_nil]; exact this)
        have hYa : (Y ++ nmsP (alls TS)).length ≤ 1000001 := by rw [List.length_append]; have := HLa.out; omega
        clear hO
        generalize hYT : Y ++ nmsP (alls TS) = YT at *
        have HYT := Lib.hid hYT
        clear hYT
        have hBc := hB
        go_wp2
        go_loopw [3, 5] (fun v i wr0 => ∃ (w2 : World) (j : Nat) (v' : Value), v' = v ∧ w2 = wr0 ∧ j ≤ n ∧ i = .int .i64 j ∧ Below W1.heap.size W1 w2 ∧ Hid (OwnS w2 W1.heap.size v' (YT ++ nmsAs (CS.take j)))) (fun v i _ => n - (intOf i).toNat)
        case atStart => exact ⟨_, 0, _, rfl, rfl, by omega, rfl, hBc, HO2⟩
        case round =>
          obtain ⟨w2, j, v, rfl, rfl, hj, rfl, hB2, hO2⟩ := hrel
          obtain ⟨q0, q1, q2, q3, q4⟩ := HS.out w2 hB2
          by_cases hlt2 : j < n
          · obtain ⟨bb, oo, x, ⟨qa, qn, qc⟩, a', n', c', rfl, hbb, y0, y1, y2, y3, y4, hx, hAx⟩ := (HC.out.b hB2).at hlt2
            dsimp only at y3
            have ct := HI.out j x hx ⟨qa, qn, qc⟩ a' n' c' w2 hAx
            have hnew := Lib.hid (show YT ++ nmsAs (CS.take (j + 1)) = (YT ++ nmsAs (CS.take j)) ++ nmsA x from by rw [HCk.out j x hx, List.append_assoc])
            have hl1 : (YT ++ nmsAs (CS.take j)).length ≤ 2000001 := by rw [List.length_append]; have := HLc.out j; omega
            have hl2 := HLv.out j x hx
            have hk0 : 0 ≤ (j : Int) := by omega
            have hk1 : (j : Int) < (n : Int) := by omega
            have hsz := hB2.size
            clear hx hAx
            dsimp only at ct
            generalize nmsA x = XN at *
            generalize opC x = xo at *
            generalize nmC x = xs at *
            generalize soC x = xz at *
            go_wp2_with (first
              | (go_at_call 41; ((with_reducible refine ct.mono ?_); rintro e w5 ⟨v5, rfl, ho5, hb5⟩; obtain ⟨A5, c5, rfl, hS5⟩ := ho5.slS))
              | (at_builtin; ((refine app_strs rfl (.tmp 36) (.tmp 42) rfl W1.heap.size v _ rfl (OwnS.below hO2.out hb5) A5 _ c5 XN rfl hS5 (by omega) (by have := hb5.size; omega) ?_); intro v6 w6 ho6 hg6; have hb6 : Below W1.heap.size W1 w6 := (bel_trans hB2 hb5).grown hg6 (by have := hb5.size; omega) (fun q hq => (World.ownsRow.lt (OwnS.below hO2.out hb5) q hq).1))))
            go_roundw
            case rel => exact ⟨_, j + 1, v6, rfl, rfl, by omega, by go_num, hb6, by rw [hnew.out]; exact Lib.hid ho6⟩
            case measure => simp [intOf]; omega
          · obtain rfl : j = n := by omega
            have hO3 := hO2.out
            rw [HfiC.out j (Nat.le_refl _)] at hO3
            go_wp2
            go_ret
            exact ⟨v, rfl, by rw [HYT.out]; exact OwnS.base hO3 HB1.out.size, bel_trans HB1.out hB2⟩
theorem rnm_any (t : Cl) : RnmOk t := Cl.ind rnm_step t

/-! what the document calls a binder; its signs -/
set_option maxHeartbeats 4000000 in
theorem called_any (s : ByteArray) (hs : s.size ≤ 100) (X : List ByteArray) (a : Option Addr) (n c : Nat) (w : World) (hS : IsS w a n X) (hn : n ≤ 1000000) :
    Calls Tryz.prog 77 #[.string s, .slice a n c] w fun e w' => e = .returned (.string (bname X s)) ∧ Below w.heap.size w w' := by
  have cN := fun w => baseName_any s w (by omega)
  have cW := fun w => refWord_any s w
  have hx : (⟨#[120]⟩ : ByteArray) = xS := rfl
  have hxs : xS.size = 1 := rfl
  have HFx := Lib.hid (show ∀ w', Below w.heap.size w w' → _ from fun w' h => RFresh_any xS (by omega) X a n c w' (hS.below h) hn)
  have HFs := Lib.hid (show ∀ w', Below w.heap.size w w' → _ from fun w' h => RFresh_any s (by omega) X a n c w' (hS.below h) hn)
  have hlen : X.length ≤ 1000000 := by rw [← hS.1]; exact hn
  have hfs := frB_size (X := X) s (by omega)
  have hbx : base s = xS → bname X s = frB X xS := fun h => by unfold bname; rw [h]; split <;> rfl
  have hbs : base s = s → bname X s = if (frB X s).size ≤ 32 then frB X s else frB X xS := fun h => by unfold bname; rw [h]
  have hcase : (nameB s.data.toList = true ∧ wordB s.data.toList = false ∧ base s = s) ∨ (nameB s.data.toList = true ∧ wordB s.data.toList = true ∧ base s = xS) ∨ (nameB s.data.toList = false ∧ base s = xS) := by
    unfold base
    cases h1 : nameB s.data.toList with
    | false => exact .inr (.inr ⟨rfl, if_neg (fun h => by have : nameB (lst s) = false := h1; rw [this] at h; exact absurd h.1 (by decide))⟩)
    | true =>
      cases h2 : wordB s.data.toList with
      | false => exact .inl ⟨rfl, rfl, if_pos ⟨h1, h2⟩⟩
      | true => exact .inr (.inl ⟨rfl, rfl, if_neg (fun h => by have : wordB (lst s) = true := h2; rw [this] at h; exact absurd h.2 (by decide))⟩)
  obtain ⟨R, hR⟩ : ∃ R, bname X s = R := ⟨_, rfl⟩
  rw [hR] at hbx hbs ⊢
  clear hR hS hn hlen
  generalize frB X xS = FX at *
  generalize frB X s = FS at *
  rcases hcase with ⟨k1, k2, hb⟩ | ⟨k1, k2, hb⟩ | ⟨k1, hb⟩
  · have hr := hbs hb
    rw [k1] at cN
    rw [k2] at cW
    clear hbx hbs hb
    by_cases hsz : FS.size ≤ 32
    · rw [if_pos hsz] at hr
      have hr := Lib.hid hr
      have hd : decide ((FS.size : Int) > 32) = false := decide_eq_false (by omega)
      have hd2 : ¬ (32 : Int) < (FS.size : Int) := by omega
      clear hsz
      go_enter Tryz.func77, Tryz.ntmps77
      go_wp2_with (first
        | (go_at_call 107; ((with_reducible refine (cN _).mono ?_); rintro e w2 ⟨rfl, hb2⟩; have B2 : Below w.heap.size w w2 := (by first | (subst hb2; exact Below.refl _ _) | exact hb2)))
        | (go_at_call 108; ((with_reducible refine (cW _).mono ?_); rintro e w3 ⟨rfl, hb3⟩; have B3 := bel_trans B2 hb3))
        | (go_at_call 25; ((with_reducible refine (HFs.out _ B3).mono ?_); rintro e w4 ⟨rfl, hb4⟩)))
      go_ret
      exact ⟨retS hr.out.symm, bel_trans B3 hb4⟩
    · rw [if_neg hsz] at hr
      have hr := Lib.hid hr
      have hd : decide ((FS.size : Int) > 32) = true := decide_eq_true (by omega)
      have hd2 : (32 : Int) < (FS.size : Int) := by omega
      clear hsz
      go_enter Tryz.func77, Tryz.ntmps77
      go_wp2_with (first
        | (go_at_call 107; ((with_reducible refine (cN _).mono ?_); rintro e w2 ⟨rfl, hb2⟩; have B2 : Below w.heap.size w w2 := (by first | (subst hb2; exact Below.refl _ _) | exact hb2)))
        | (go_at_call 108; ((with_reducible refine (cW _).mono ?_); rintro e w3 ⟨rfl, hb3⟩; have B3 := bel_trans B2 hb3; have c4 := HFs.out w3 B3))
        | (go_at_call 25; ((with_reducible refine c4.mono ?_); rintro e w4 ⟨rfl, hb4⟩; have B4 := bel_trans B3 hb4; have c5 := HFx.out w4 B4; clear c4))
        | (go_at_call 25; ((with_reducible refine c5.mono ?_); rintro e w5 ⟨rfl, hb5⟩)))
      go_ret
      exact ⟨retS hr.out.symm, bel_trans B4 hb5⟩
  · have hr := Lib.hid (hbx hb)
    rw [k1] at cN
    rw [k2] at cW
    clear hbx hbs hb
    go_enter Tryz.func77, Tryz.ntmps77
    go_wp2_with (first
      | (go_at_call 107; ((with_reducible refine (cN _).mono ?_); rintro e w2 ⟨rfl, hb2⟩; have B2 : Below w.heap.size w w2 := (by first | (subst hb2; exact Below.refl _ _) | exact hb2)))
      | (go_at_call 108; ((with_reducible refine (cW _).mono ?_); rintro e w3 ⟨rfl, hb3⟩; have B3 := bel_trans B2 hb3))
      | (go_at_call 25; ((with_reducible refine (HFx.out _ B3).mono ?_); rintro e w4 ⟨rfl, hb4⟩)))
    go_ret
    exact ⟨retS hr.out.symm, bel_trans B3 hb4⟩
  · have hr := Lib.hid (hbx hb)
    rw [k1] at cN
    clear hbx hbs hb cW
    go_enter Tryz.func77, Tryz.ntmps77
    go_wp2_with (first
      | (go_at_call 107; ((with_reducible refine (cN _).mono ?_); rintro e w2 ⟨rfl, hb2⟩; have B2 : Below w.heap.size w w2 := (by first | (subst hb2; exact Below.refl _ _) | exact hb2)))
      | (go_at_call 25; ((with_reducible refine (HFx.out _ B2).mono ?_); rintro e w4 ⟨rfl, hb4⟩)))
    go_ret
    exact ⟨retS hr.out.symm, bel_trans B2 hb4⟩
def looseR (o : Int) : Int := if o = 10 then 1 else if o = 9 then 2 else if o = 8 then 3 else if o = 7 then 4 else 0
theorem loose_any (o : Int) (w : World) :
    Calls Tryz.prog 78 #[.int .i64 o] w fun e w' => e = .returned (.int .i64 (looseR o)) ∧ w = w' := by
  unfold looseR
  by_cases h1 : o = 10
  · subst h1
    go_enter Tryz.func78, Tryz.ntmps78
    go_wp2
    go_ret
    exact ⟨rfl, rfl⟩
  · by_cases h2 : o = 9
    · subst h2
      go_enter Tryz.func78, Tryz.ntmps78
      go_wp2
      go_ret
      exact ⟨rfl, rfl⟩
    · by_cases h3 : o = 8
      · subst h3
        go_enter Tryz.func78, Tryz.ntmps78
        go_wp2
        go_ret
        exact ⟨rfl, rfl⟩
      · by_cases h4 : o = 7
        · subst h4
          go_enter Tryz.func78, Tryz.ntmps78
          go_wp2
          go_ret
          exact ⟨rfl, rfl⟩
        · rw [if_neg h1, if_neg h2, if_neg h3, if_neg h4]
          have k1 := beq_no' h1
          have k2 := beq_no' h2
          have k3 := beq_no' h3
          have k4 := beq_no' h4
          go_enter Tryz.func78, Tryz.ntmps78
          go_wp2
          go_ret
          exact ⟨rfl, rfl⟩
theorem sign_any (o : Int) (ho : o = 7 ∨ o = 8 ∨ o = 9 ∨ o = 10) (w : World) :
    Calls Tryz.prog 79 #[.int .i64 o] w fun e w' => e = .returned (.string (sgC o)) ∧ Below w.heap.size w w' := by
  have cl := fun w => loose_any o w
  rcases ho with rfl | rfl | rfl | rfl
  · have hl : looseR 7 = 4 := rfl
    rw [hl] at cl
    go_enter Tryz.func79, Tryz.ntmps79
    go_wp2_with (go_at_call 78; ((with_reducible refine (cl _).mono ?_); rintro e w2 ⟨rfl, hw2⟩; subst hw2))
    go_ret
    exact ⟨rfl, bel_alloc (Below.refl _ _) _⟩
  · have hl : looseR 8 = 3 := rfl
    rw [hl] at cl
    go_enter Tryz.func79, Tryz.ntmps79
    go_wp2_with (go_at_call 78; ((with_reducible refine (cl _).mono ?_); rintro e w2 ⟨rfl, hw2⟩; subst hw2))
    go_ret
    exact ⟨rfl, bel_alloc (Below.refl _ _) _⟩
  · have hl : looseR 9 = 2 := rfl
    rw [hl] at cl
    go_enter Tryz.func79, Tryz.ntmps79
    go_wp2_with (go_at_call 78; ((with_reducible refine (cl _).mono ?_); rintro e w2 ⟨rfl, hw2⟩; subst hw2))
    go_ret
    exact ⟨rfl, bel_alloc (Below.refl _ _) _⟩
  · have hl : looseR 10 = 1 := rfl
    rw [hl] at cl
    go_enter Tryz.func79, Tryz.ntmps79
    go_wp2_with (go_at_call 78; ((with_reducible refine (cl _).mono ?_); rintro e w2 ⟨rfl, hw2⟩; subst hw2))
    go_ret
    exact ⟨rfl, bel_alloc (Below.refl _ _) _⟩
end Go.Proofs.YtcigeclnbhcohaaGreatDoor.Sh
