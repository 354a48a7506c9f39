/-
  What is proved: the text of any right term, by the document's answer.
-/
import Derived.Test.YtcigeclnbhcohaaGreatDoorZShTd
import Derived.Test.YtcigeclnbhcohaaGreatDoorL2
import Derived.Deep.Cut
import Derived.Deep.CutRange
namespace Go.Proofs.YtcigeclnbhcohaaGreatDoor.Sh
open Go.RowKit L T C
set_option linter.unusedVariables false
set_option linter.unusedSimpArgs false
set_option maxRecDepth 100000

theorem refDigits_any (n : Int) (n0 : -9223372036854775808 ≤ n) (n1 : n ≤ 9223372036854775807) (w : World) :
    Calls Tryz.prog 46 #[.int .i64 n] w fun e w' => e = .returned (.string (dig n)) ∧ Below w.heap.size w w' := by
  by_cases h : n < 0
  · have c1 := L.digits_at (-(n + 1) + 1) n.natAbs (by omega) (by omega)
    have hl : (BA (Lib.decDigits n.natAbs)).size ≤ 19 := by rw [BA_size]; exact L.nDig_le _ (by omega)
    have hr : Hid ((⟨#[45]⟩ : ByteArray) ++ BA (Lib.decDigits n.natAbs) = dig n) := by
      show _ = _
      unfold dig
      rw [L.BA_app, Dig.itoa_neg h]; rfl
    generalize BA (Lib.decDigits n.natAbs) = t at *
    generalize dig n = x at *
    go_enter Tryz.func46, Tryz.ntmps46
    go_wp2_with (go_at_call 83; ((with_reducible refine (c1 _).mono ?_); rintro e w2 ⟨rfl, hb⟩))
    go_ret
    exact ⟨retS hr.out, hb⟩
  · have c1 := L.digits_at n n.toNat (by omega) (by omega)
    have hr : Hid (BA (Lib.decDigits n.toNat) = dig n) := by
      show _ = _
      unfold dig
      rw [Dig.itoa_pos (by omega)]
    have h0 : 0 ≤ n := by omega
    clear h
    generalize BA (Lib.decDigits n.toNat) = t at *
    generalize dig n = x at *
    go_enter Tryz.func46, Tryz.ntmps46
    go_wp2_with (go_at_call 83; ((with_reducible refine (c1 _).mono ?_); rintro e w2 ⟨rfl, hb⟩))
    go_ret
    exact ⟨retS hr.out, hb⟩

def sumB (t : Tm) : Bool := (opT t == 5) || (opT t == 6)
theorem need2 (t : Tm) : need t 2 = minus t := by
  unfold need loT
  have : decide ((2 : Int) < if opT t = 5 ∨ opT t = 6 then 2 else if opT t = 8 then 1 else 0) = false := by
    apply decide_eq_false
    split
    · omega
    · split <;> omega
  rw [this, Bool.false_or]
  simp
theorem need1 (t : Tm) : need t 1 = (sumB t || minus t) := by
  unfold need loT sumB
  have : decide ((1 : Int) < if opT t = 5 ∨ opT t = 6 then 2 else if opT t = 8 then 1 else 0) = ((opT t == 5) || (opT t == 6)) := by
    by_cases h5 : opT t = 5
    · simp [h5]
    · by_cases h6 : opT t = 6
      · simp [h6]
      · by_cases h8 : opT t = 8 <;> simp [h5, h6, h8]
  rw [this]
  simp
theorem need0 (t : Tm) : need t 0 = ((sumB t || (opT t == 8)) || minus t) := by
  unfold need loT sumB
  have : decide ((0 : Int) < if opT t = 5 ∨ opT t = 6 then 2 else if opT t = 8 then 1 else 0) = (((opT t == 5) || (opT t == 6)) || (opT t == 8)) := by
    by_cases h5 : opT t = 5
    · simp [h5]
    · by_cases h6 : opT t = 6
      · simp [h6]
      · by_cases h8 : opT t = 8 <;> simp [h5, h6, h8]
  rw [this]
  simp
theorem needN_eq (t : Tm) : needN t = (((sumB t || (opT t == 8)) || (opT t == 4)) || minus t) := by
  unfold needN
  rw [need0]
  cases h1 : (opT t == 4) <;> cases h2 : sumB t <;> cases h3 : (opT t == 8) <;> simp

theorem brackets_any (s : ByteArray) (hs : s.size ≤ 1000000000000) (w : World) :
    Calls Tryz.prog 61 #[.string s] w fun e w' => e = .returned (.string (par true s)) ∧ Below w.heap.size w w' := by
  have q1 : ((⟨#[40]⟩ : ByteArray) ++ s).size = 1 + s.size := by rw [ByteArray.size_append]; rfl
  rw [par_t]
  go_enter Tryz.func61, Tryz.ntmps61
  go_wp2
  go_ret
  exact ⟨rfl, Below.refl _ _⟩
theorem sum_any (o : Int) (s : ByteArray) (nu : Int) (a : Option Addr) (n c : Nat) (w : World) :
    Calls Tryz.prog 64 #[.agg #[.int .i64 o, .string s, .int .i64 nu, .slice a n c]] w fun e w' => e = .returned (.bool ((o == 5) || (o == 6))) ∧ Below w.heap.size w w' := by
  obtain ⟨W1, hW1, hB1, hs1, S1⟩ := box1 w o s nu a n c
  obtain ⟨s0, s1, s2, s3⟩ := S1.four
  clear S1
  by_cases h5 : o = 5
  · subst h5
    go_enter Tryz.func64, Tryz.ntmps64
    go_wp2
    go_ret
    exact ⟨rfl, hB1⟩
  · have k5 : (o == 5) = false := beq_no' h5
    rw [k5, Bool.false_or]
    clear h5
    generalize hk : (o == 6) = b at *
    go_enter Tryz.func64, Tryz.ntmps64
    go_wp2
    go_ret
    exact ⟨by first | rfl | (rw [hk]) | (simp [hk]), hB1⟩
theorem low_any (o : Int) (s : ByteArray) (nu : Int) (a : Option Addr) (n c : Nat) (w : World) :
    Calls Tryz.prog 94 #[.agg #[.int .i64 o, .string s, .int .i64 nu, .slice a n c]] w fun e w' => e = .returned (.bool ((o == 4) && decide (nu < 0))) ∧ Below w.heap.size w w' := by
  obtain ⟨W1, hW1, hB1, hs1, S1⟩ := box1 w o s nu a n c
  obtain ⟨s0, s1, s2, s3⟩ := S1.four
  clear S1
  by_cases h5 : o = 4
  · subst h5
    rw [show ((4 : Int) == 4) = true from rfl, Bool.true_and]
    generalize hk : decide (nu < 0) = b at *
    go_enter Tryz.func94, Tryz.ntmps94
    go_wp2
    go_ret
    exact ⟨by first | rfl | (rw [hk]) | (simp [hk]), hB1⟩
  · have k5 : (o == 4) = false := beq_no' h5
    rw [k5, Bool.false_and]
    clear h5
    go_enter Tryz.func94, Tryz.ntmps94
    go_wp2
    go_ret
    exact ⟨rfl, hB1⟩

/-- the text of this term, by the document's answer -/
def RTermOk (bs : List ByteArray) (t : Tm) : Prop :=
  ∀ (b : Option Addr) (bm d : Nat) (a : Option Addr) (n c : Nat) (w : World), IsS w b bm bs → ArW w t a n c →
    Calls Tryz.prog 34 #[.agg #[.int .i64 (opT t), .string (nameT t), .int .i64 (numT t), .slice a n c], .slice b bm d] w fun e w' => e = .returned (.string (tX bs t)) ∧ Below w.heap.size w w'
theorem side_any {bs : List ByteArray} {t : Tm} (hok : RTermOk bs t) (hs : (tX bs t).size ≤ 1000000000) (must : Bool) (b : Option Addr) (bm d : Nat) (a : Option Addr) (n c : Nat) (w : World) (hb : IsS w b bm bs) (hA : ArW w t a n c) :
    Calls Tryz.prog 63 #[.agg #[.int .i64 (opT t), .string (nameT t), .int .i64 (numT t), .slice a n c], .slice b bm d, .bool must] w fun e w' => e = .returned (.string (par (must || minus t) (tX bs t))) ∧ Below w.heap.size w w' := by
  obtain ⟨W1, hW1, hB1, hs1, S1⟩ := box1 w (opT t) (nameT t) (numT t) a n c
  obtain ⟨s0, s1, s2, s3⟩ := S1.four
  have ct := hok b bm d a n c W1 (hb.below hB1) (ArW.b hA hB1)
  have cb := fun w => brackets_any (tX bs t) (by omega) w
  have HS := Lib.hid (show ∀ w', Below W1.heap.size W1 w' → _ from fun w' h => (TBox.b S1 h).four)
  cases must with
  | true =>
    rw [Bool.true_or]
    clear hok hs hb hA S1
    generalize par true (tX bs t) = R at *
    generalize tX bs t = X at *
    generalize opT t = op at *
    generalize nameT t = nm at *
    generalize numT t = nu at *
    go_enter Tryz.func63, Tryz.ntmps63
    go_wp2_with (first
      | (go_at_call 34; ((with_reducible refine ct.mono ?_); rintro e w2 ⟨rfl, hb2⟩))
      | (go_at_call 61; ((with_reducible refine (cb _).mono ?_); rintro e w3 ⟨rfl, hb3⟩)))
    go_ret
    exact ⟨rfl, bel_trans (bel_trans hB1 hb2) hb3⟩
  | false =>
    rw [Bool.false_or]
    have cl := fun w => low_any (opT t) (nameT t) (numT t) a n c w
    have hm : minus t = ((opT t == 4) && decide (numT t < 0)) := rfl
    rw [← hm] at cl
    clear hm
    cases hc : minus t with
    | true =>
      rw [hc] at cl
      clear hok hs hb hA S1 hc
      generalize par true (tX bs t) = R at *
      generalize tX bs t = X at *
      generalize opT t = op at *
      generalize nameT t = nm at *
      generalize numT t = nu at *
      go_enter Tryz.func63, Tryz.ntmps63
      go_wp2_with (first
        | (go_at_call 34; ((with_reducible refine ct.mono ?_); rintro e w2 ⟨rfl, hb2⟩; have k2 := HS.out w2 hb2; obtain ⟨p0, p1, p2, p3⟩ := k2))
        | (go_at_call 94; ((with_reducible refine (cl _).mono ?_); rintro e w4 ⟨rfl, hb4⟩))
        | (go_at_call 61; ((with_reducible refine (cb _).mono ?_); rintro e w3 ⟨rfl, hb3⟩)))
      go_ret
      exact ⟨rfl, bel_trans (bel_trans (bel_trans hB1 hb2) hb4) hb3⟩
    | false =>
      rw [hc] at cl
      rw [par_f]
      clear hok hs hb hA S1 hc cb
      generalize tX bs t = X at *
      generalize opT t = op at *
      generalize nameT t = nm at *
      generalize numT t = nu at *
      go_enter Tryz.func63, Tryz.ntmps63
      go_wp2_with (first
        | (go_at_call 34; ((with_reducible refine ct.mono ?_); rintro e w2 ⟨rfl, hb2⟩; have k2 := HS.out w2 hb2; obtain ⟨p0, p1, p2, p3⟩ := k2))
        | (go_at_call 94; ((with_reducible refine (cl _).mono ?_); rintro e w4 ⟨rfl, hb4⟩)))
      go_ret
      exact ⟨rfl, bel_trans (bel_trans hB1 hb2) hb4⟩

theorem tot_app (X Y : List ByteArray) : tot (X ++ Y) = tot X + tot Y := by
  induction X with
  | nil => simp [tot]
  | cons x X ih => rw [List.cons_append, tot, tot, ih]; omega
set_option maxHeartbeats 8000000 in
theorem list_any {bs : List ByteArray} (l : List Tm) (hok : ∀ x ∈ l, RTermOk bs x) (ht : tot (tXs bs l) ≤ 1000000000) (b : Option Addr) (bm d : Nat) (a : Option Addr) (n c : Nat) (w : World) (hb : IsS w b bm bs) (hT : TsW w a n c l) (hn : n ≤ 1000000) :
    Calls Tryz.prog 62 #[.slice a n c, .slice b bm d] w fun e w' => e = .returned (.string (joinC (tXs bs l))) ∧ Below w.heap.size w w' := by
  have hlen : l.length = n := hT.1.symm
  have hsx : ∀ (k : Nat) (t : Tm), l[k]? = some t → tXs bs (l.take (k + 1)) = tXs bs (l.take k) ++ [tX bs t] := fun k t h => by
    obtain ⟨hk, rfl⟩ := List.getElem?_eq_some_iff.1 h
    rw [tXs_map, tXs_map, List.take_succ_eq_append_getElem hk, List.map_append]; rfl
  have hsl : ∀ k, k ≤ n → (tXs bs (l.take k)).length = k := fun k h => by rw [tXs_map]; simp; omega
  have htk : ∀ k, tot (tXs bs (l.take k)) ≤ 1000000000 := fun k => by
    have h1 := tot_app (tXs bs (l.take k)) (tXs bs (l.drop k))
    rw [tXs_map, tXs_map, ← List.map_append, List.take_append_drop, ← tXs_map, ← tXs_map, ← tXs_map] at h1
    omega
  have HT := Lib.hid (show ∀ (k : Nat) (t : Tm), l[k]? = some t → ∀ a' n' c' w', Below w.heap.size w w' → ArW w' t a' n' c' → _ from fun k t hk a' n' c' w' h1 h2 => hok t (List.mem_of_getElem? hk) b bm d a' n' c' w' (hb.below h1) h2)
  have Hsx := Lib.hid hsx
  have Hsl := Lib.hid hsl
  have Htk := Lib.hid htk
  have HTs := Lib.hid hT
  have Hfin := Lib.hid (show ∀ k, n ≤ k → joinC (tXs bs (l.take k)) = joinC (tXs bs l) from fun k h => by rw [List.take_of_length_le (by omega)])
  obtain ⟨R, hR⟩ : ∃ R, joinC (tXs bs l) = R := ⟨_, rfl⟩
  rw [hR] at Hfin ⊢
  have h0 : Hid ((⟨#[]⟩ : ByteArray) = joinC (tXs bs (l.take 0))) := Lib.hid rfl
  clear hok hb hT hsx hsl htk hlen ht hR
  generalize htX : tX bs = TX at *
  generalize htXs : tXs bs = TXS at *
  clear htX htXs
  go_enter Tryz.func62, Tryz.ntmps62
  go_wp2
  go_loopw [5, 6] (fun v i wr0 => ∃ (wr : World) (k : Nat) (S : ByteArray), wr = wr0 ∧ k ≤ n ∧ v = .string S ∧ i = .int .i64 k ∧ Hid (S = joinC (TXS (l.take k))) ∧ Below w.heap.size w wr) (fun v i _ => n - (intOf i).toNat)
  case atStart => exact ⟨_, 0, _, rfl, by omega, rfl, rfl, h0, Below.refl _ _⟩
  case round =>
    obtain ⟨wr, k, S, rfl, hk, rfl, rfl, hS, hB⟩ := hrel
    by_cases hlt : k < n
    · obtain ⟨bb, oo, x, a', n', c', rfl, hbb, y0, y1, y2, y3, hx, hA⟩ := (TsW.b HTs.out hB).at hlt
      have ct := HT.out k x hx a' n' c' wr hB hA
      have hjs := joinC_size (TXS (l.take k))
      rw [← hS.out, Hsl.out k hk] at hjs
      have h2 := Htk.out k
      have hSz : S.size ≤ 1003000000 := by omega
      have h3 := Htk.out (k + 1)
      rw [Hsx.out k x hx, tot_app] at h3
      have hXz : (TX x).size ≤ 1000000000 := by rw [tot, tot] at h3; omega
      have hk0 : 0 ≤ (k : Int) := by omega
      have hk1 : (k : Int) < (n : Int) := by omega
      by_cases hk00 : k = 0
      · have g1 : decide ((k : Int) > 0) = false := decide_eq_false (by omega)
        have g2 : ¬ 0 < k := by omega
        have Hnew : Hid (S ++ TX x = joinC (TXS (l.take (k + 1)))) := by
          show _ = _
          rw [Hsx.out k x hx, hS.out]
          have : TXS (l.take k) = [] := List.eq_nil_of_length_eq_zero (by rw [Hsl.out k (by omega)]; exact hk00)
          rw [this]
          show (⟨#[]⟩ : ByteArray) ++ TX x = TX x
          exact nil_app _
        have q2 : ∀ w, (Op.stringOp .add S (TX x)).run Tryz.prog w = .ok (.string (S ++ TX x)) w := fun w => by rw [run_string_add_sum w _ _ (by omega)]
        clear hx hA hS HT HTs hjs h2 h3 hk00
        generalize S ++ TX x = S2 at *
        generalize TX x = X at *
        generalize opT x = op at *
        generalize nameT x = nm at *
        generalize numT x = nu at *
        go_wp2_with (go_at_call 34; ((with_reducible refine ct.mono ?_); rintro e w3 ⟨rfl, hb3⟩))
        go_roundw
        case rel => exact ⟨_, k + 1, _, rfl, by omega, rfl, by go_num, Hnew, bel_trans hB hb3⟩
        case measure => simp [intOf]; omega
      · have g1 : decide ((k : Int) > 0) = true := decide_eq_true (by omega)
        have g2 : 0 < k := by omega
        have hd : (⟨#[44, 32]⟩ : ByteArray).size = 2 := rfl
        have Hnew : Hid (S ++ (⟨#[44, 32]⟩ : ByteArray) ++ TX x = joinC (TXS (l.take (k + 1)))) := by
          show _ = _
          rw [Hsx.out k x hx, joinC_snoc _ _ (fun h => by have := Hsl.out k hk; rw [h] at this; exact hk00 this.symm), ← hS.out, ByteArray.append_assoc]
        have q1 : ∀ w, (Op.stringOp .add S ⟨#[44, 32]⟩).run Tryz.prog w = .ok (.string (S ++ ⟨#[44, 32]⟩)) w := fun w => by rw [run_string_add_sum w _ _ (by omega)]
        have q3 : (S ++ (⟨#[44, 32]⟩ : ByteArray)).size ≤ 1003000002 := by rw [ByteArray.size_append]; omega
        have q2 : ∀ w, (Op.stringOp .add (S ++ ⟨#[44, 32]⟩) (TX x)).run Tryz.prog w = .ok (.string (S ++ (⟨#[44, 32]⟩ : ByteArray) ++ TX x)) w := fun w => by rw [run_string_add_sum w _ _ (by omega)]
        clear hx hA hS HT HTs hjs h2 h3 hk00
        generalize S ++ (⟨#[44, 32]⟩ : ByteArray) ++ TX x = S2 at *
        generalize S ++ (⟨#[44, 32]⟩ : ByteArray) = S1 at *
        generalize TX x = X at *
        generalize opT x = op at *
        generalize nameT x = nm at *
        generalize numT x = nu at *
        go_wp2_with (go_at_call 34; ((with_reducible refine ct.mono ?_); rintro e w3 ⟨rfl, hb3⟩))
        go_roundw
        case rel => exact ⟨_, k + 1, _, rfl, by omega, rfl, by go_num, Hnew, bel_trans hB hb3⟩
        case measure => simp [intOf]; omega
    · obtain rfl : k = n := by omega
      go_wp2
      go_ret
      exact ⟨retS (hS.out.trans (Hfin.out k (Nat.le_refl _))), hB⟩
set_option maxHeartbeats 8000000 in
theorem rterm_name {bs : List ByteArray} (o : Int) (ho : o = 1 ∨ o = 3) (s : ByteArray) (nu : Int) (b : Option Addr) (bm d : Nat) (a : Option Addr) (n c : Nat) (w : World) (hb : IsS w b bm bs) (hn : n = 0) :
    Calls Tryz.prog 34 #[.agg #[.int .i64 o, .string s, .int .i64 nu, .slice a n c], .slice b bm d] w fun e w' => e = .returned (.string (s)) ∧ Below w.heap.size w w' := by
  obtain ⟨W1, hW1, hB1, hs1, S1⟩ := box1 w o s nu a n c
  obtain ⟨s0, s1, s2, s3⟩ := S1.four
  subst hn
  clear S1
  rcases ho with rfl | rfl
  all_goals
    go_enter Tryz.func34, Tryz.ntmps34
    go_wp2
    go_ret
    exact ⟨rfl, hB1⟩
set_option maxHeartbeats 8000000 in
theorem rterm_app {bs : List ByteArray} (l : List Tm) (hok : ∀ x ∈ l, RTermOk bs x) (ht : tot (tXs bs l) ≤ 1000000000) (s : ByteArray) (nu : Int) (b : Option Addr) (bm d : Nat) (a : Option Addr) (n c : Nat) (w : World) (hb : IsS w b bm bs) (hs : s.size ≤ 100) (hT : TsW w a n c l) (hn : n ≤ 1000000) (h0 : 0 < n) :
    Calls Tryz.prog 34 #[.agg #[.int .i64 3, .string s, .int .i64 nu, .slice a n c], .slice b bm d] w fun e w' => e = .returned (.string (s ++ par true (joinC (tXs bs l)))) ∧ Below w.heap.size w w' := by
  obtain ⟨W1, hW1, hB1, hs1, S1⟩ := box1 w 3 s nu a n c
  obtain ⟨s0, s1, s2, s3⟩ := S1.four
  have B2d : Below W1.heap.size W1 W1.drew := (Below.refl _ _).drew
  have cl := list_any l hok ht b bm d a n c W1.drew (hb.below (bel_trans hB1 B2d)) (TsW.b hT (bel_trans hB1 B2d)) hn
  have hXl : (tXs bs l).length = n := by rw [tXs_map, List.length_map]; exact hT.1.symm
  have hjs := joinC_size (tXs bs l)
  have cb := fun w => brackets_any (joinC (tXs bs l)) (by omega) w
  have hps := par_size true (joinC (tXs bs l))
  have r1 : ∀ w, (Op.stringOp .add s (par true (joinC (tXs bs l)))).run Tryz.prog w = .ok (.string (s ++ par true (joinC (tXs bs l)))) w := fun w => by rw [run_string_add_sum w _ _ (by omega)]
  have HS := Lib.hid (show ∀ w', Below W1.heap.size W1 w' → w'.cell? ⟨w.heap.size, 1, none⟩ = some (.string s) ∧ w'.cell? ⟨w.heap.size, 3, none⟩ = some (.slice a n c) from fun w' h => ⟨(TBox.b S1 h).four.2.1, (TBox.b S1 h).four.2.2.2⟩)
  have k1 : ((n : Int) == 0) = false := beq_no' (by omega)
  have k2 : ¬ n = 0 := by omega
  clear S1 hok ht hT hb hXl hjs hps
  generalize s ++ par true (joinC (tXs bs l)) = R at *
  generalize par true (joinC (tXs bs l)) = P at *
  generalize joinC (tXs bs l) = J at *
  go_enter Tryz.func34, Tryz.ntmps34
  go_wp2
  go_region_held3 (fun w' => w'.cell? ⟨w.heap.size, 1, none⟩ = some (.string s) ∧ w'.cell? ⟨w.heap.size, 3, none⟩ = some (.slice a n c))
    (first | exact HS.out _ B7 | exact HS.out _ B6 | exact HS.out _ B2d | go_keep)
    (first
      | (go_at_call 62; ((with_reducible refine cl.mono ?_); rintro e w6 ⟨rfl, hb6⟩; clear cl; have B6 := bel_trans B2d hb6))
      | (go_at_call 61; ((with_reducible refine (cb _).mono ?_); rintro e w7 ⟨rfl, hb7⟩; have B7 := bel_trans B6 hb7)))
  go_wp2
  go_ret
  exact ⟨rfl, bel_trans hB1 B7⟩
set_option maxHeartbeats 8000000 in
theorem rterm_bound {bs : List ByteArray} (hbm : bs.length ≤ 1000000) (s : ByteArray) (nu : Int) (b : Option Addr) (bm d : Nat) (a : Option Addr) (n c : Nat) (w : World) (hb : IsS w b bm bs) (h0 : 0 ≤ nu) (h1 : nu ≤ 9223372036854775807) :
    Calls Tryz.prog 34 #[.agg #[.int .i64 2, .string s, .int .i64 nu, .slice a n c], .slice b bm d] w fun e w' => e = .returned (.string (bnd bs nu)) ∧ Below w.heap.size w w' := by
  obtain ⟨W1, hW1, hB1, hs1, S1⟩ := box1 w 2 s nu a n c
  obtain ⟨s0, s1, s2, s3⟩ := S1.four
  have hbl : bm = bs.length := hb.1
  have hB := hb.below hB1
  have hm1 : bm ≤ 1000000 := by omega
  clear S1
  by_cases hlt : nu < (bm : Int)
  · obtain ⟨bb, oo, v, hA, hbb, y0, hv, -⟩ := hB.at (k := ((bm : Int) - 1 - nu).toNat) (by omega)
    have hr : bnd bs nu = v := by
      unfold bnd
      rw [if_pos (by omega), List.getD_eq_getElem?_getD, ← hbl, hv]; rfl
    rw [hr]
    clear hr hv hb hB hbl hbm
    subst hA
    have k0 : ¬ ((bm : Int) - 1 - nu < 0) := by omega
    have k1 : (bm : Int) - 1 - nu < (bm : Int) := by omega
    have hx : ((((bm : Int) - 1 - nu).toNat : Nat) : Int) = (bm : Int) - 1 - nu := by omega
    go_enter Tryz.func34, Tryz.ntmps34
    go_wp2
    go_ret
    exact ⟨rfl, hB1⟩
  · have hr : bnd bs nu = ⟨#[39]⟩ ++ dig (nu - (bm : Int)) := by
      unfold bnd
      rw [if_neg (by omega), ← hbl]
    have ct := fun w => refDigits_any (nu - (bm : Int)) (by omega) (by omega) w
    have hd := dig_size (z := nu - (bm : Int)) (by omega) (by omega)
    rw [hr]
    clear hr hb hB hbl hbm
    generalize dig (nu - (bm : Int)) = D at *
    go_enter Tryz.func34, Tryz.ntmps34
    go_wp2_with (go_at_call 46; ((with_reducible refine (ct _).mono ?_); rintro e w2 ⟨rfl, hb2⟩))
    go_ret
    exact ⟨rfl, bel_trans hB1 hb2⟩
set_option maxHeartbeats 8000000 in
theorem rterm_num {bs : List ByteArray}  (s : ByteArray) (nu : Int) (b : Option Addr) (bm d : Nat) (a : Option Addr) (n c : Nat) (w : World) (hb : IsS w b bm bs) (h0 : -9223372036854775808 ≤ nu) (h1 : nu ≤ 9223372036854775807) :
    Calls Tryz.prog 34 #[.agg #[.int .i64 4, .string s, .int .i64 nu, .slice a n c], .slice b bm d] w fun e w' => e = .returned (.string (dig nu)) ∧ Below w.heap.size w w' := by
  obtain ⟨W1, hW1, hB1, hs1, S1⟩ := box1 w 4 s nu a n c
  obtain ⟨s0, s1, s2, s3⟩ := S1.four
  have ct := fun w => refDigits_any nu h0 h1 w
  clear S1 hb
  generalize dig nu = D at *
  go_enter Tryz.func34, Tryz.ntmps34
  go_wp2_with (go_at_call 46; ((with_reducible refine (ct _).mono ?_); rintro e w2 ⟨rfl, hb2⟩))
  go_ret
  exact ⟨rfl, bel_trans hB1 hb2⟩
set_option maxHeartbeats 8000000 in
theorem rterm_add {bs : List ByteArray} (x y : Tm) (hx : RTermOk bs x) (hy : RTermOk bs y) (hsx : (tX bs x).size ≤ 1000000000) (hsy : (tX bs y).size ≤ 1000000000) (s : ByteArray) (nu : Int) (b : Option Addr) (bm d : Nat) (a : Option Addr) (n c : Nat) (w : World) (hb : IsS w b bm bs) (hT : TsW w a n c [x, y]) :
    Calls Tryz.prog 34 #[.agg #[.int .i64 5, .string s, .int .i64 nu, .slice a n c], .slice b bm d] w fun e w' => e = .returned (.string (tP bs 2 x ++ (⟨#[32, 43, 32]⟩ ++ tP bs 1 y))) ∧ Below w.heap.size w w' := by
  obtain ⟨W1, hW1, hB1, hs1, S1⟩ := box1 w 5 s nu a n c
  obtain ⟨s0, s1, s2, s3⟩ := S1.four
  obtain ⟨bb, oo, a', n', c', a2, n2, c2, rfl, rfl, hbb, ⟨y0, y1, y2, y3, hAx⟩, ⟨x0, x1, x2, x3, hAy⟩⟩ := args2 (TsW.b hT hB1)
  have B2d : Below W1.heap.size W1 W1.drew := (Below.refl _ _).drew
  have cx := side_any hx hsx false b bm d a' n' c' W1.drew (hb.below (bel_trans hB1 B2d)) (ArW.b hAx B2d)
  have cs := fun w => sum_any (opT y) (nameT y) (numT y) a2 n2 c2 w
  have cy := fun (w' : World) (h : Below W1.heap.size W1 w') => side_any hy hsy (sumB y) b bm d a2 n2 c2 w' (hb.below (bel_trans hB1 h)) (ArW.b hAy h)
  rw [Bool.false_or, ← need2] at cx
  rw [← need1] at cy
  have hpx : par (need x 2) (tX bs x) = tP bs 2 x := rfl
  have hpy : par (need y 1) (tX bs y) = tP bs 1 y := rfl
  rw [hpx] at cx
  rw [hpy] at cy
  have hzx := par_size (need x 2) (tX bs x)
  have hzy := par_size (need y 1) (tX bs y)
  rw [hpx] at hzx
  rw [hpy] at hzy
  have hsum : ((opT y == 5) || (opT y == 6)) = sumB y := rfl
  rw [hsum] at cs
  have hd : (⟨#[32, 43, 32]⟩ : ByteArray).size = 3 := rfl
  obtain ⟨X1, e1⟩ : ∃ v, tP bs 2 x ++ (⟨#[32, 43, 32]⟩ : ByteArray) = v := ⟨_, rfl⟩
  have z1 : X1.size ≤ 1000000005 := by rw [← e1, ByteArray.size_append, hd]; omega
  have r1 : ∀ w, (Op.stringOp .add (tP bs 2 x) ⟨#[32, 43, 32]⟩).run Tryz.prog w = .ok (.string X1) w := fun w => by rw [run_string_add_sum w _ _ (by omega), e1]
  have r2 : ∀ w, (Op.stringOp .add X1 (tP bs 1 y)).run Tryz.prog w = .ok (.string (tP bs 2 x ++ (⟨#[32, 43, 32]⟩ ++ tP bs 1 y))) w := fun w => by rw [run_string_add_sum w _ _ (by omega), ← e1, ByteArray.append_assoc]
  have l1 : w.heap.size < W1.heap.size := by omega
  clear hx hy hb hT S1 hAx hAy hsx hsy hzx hzy hpx hpy e1 z1 hd hsum
  generalize (tP bs 2 x ++ (⟨#[32, 43, 32]⟩ ++ tP bs 1 y)) = R at *
  generalize tP bs 2 x = X at *
  generalize tP bs 1 y = Y at *
  generalize sumB y = sy at *
  generalize opT x = xo at *
  generalize nameT x = xs at *
  generalize numT x = xz at *
  generalize opT y = yo at *
  generalize nameT y = ys at *
  generalize numT y = yz at *
  have HS := Lib.hid (show ∀ w', Below W1.heap.size W1 w' → (w'.cell? ⟨w.heap.size, 3, none⟩ = some (.slice (some ⟨bb, oo, none⟩) 2 c) ∧ w'.cell? ⟨bb, oo, none⟩ = some (.int .i64 xo) ∧ w'.cell? ⟨bb, oo + 1, none⟩ = some (.string xs) ∧ w'.cell? ⟨bb, oo + 1 + 1, none⟩ = some (.int .i64 xz) ∧ w'.cell? ⟨bb, oo + 1 + 1 + 1, none⟩ = some (.slice a' n' c') ∧ w'.cell? ⟨bb, oo + 4, none⟩ = some (.int .i64 yo) ∧ w'.cell? ⟨bb, oo + 4 + 1, none⟩ = some (.string ys) ∧ w'.cell? ⟨bb, oo + 4 + 1 + 1, none⟩ = some (.int .i64 yz) ∧ w'.cell? ⟨bb, oo + 4 + 1 + 1 + 1, none⟩ = some (.slice a2 n2 c2)) from fun w' h =>
    ⟨(h.cell (p := ⟨w.heap.size, 3, none⟩) l1).trans s3, (h.cell (p := ⟨bb, _, none⟩) hbb).trans y0, (h.cell (p := ⟨bb, _, none⟩) hbb).trans y1, (h.cell (p := ⟨bb, _, none⟩) hbb).trans y2, (h.cell (p := ⟨bb, _, none⟩) hbb).trans y3, (h.cell (p := ⟨bb, _, none⟩) hbb).trans x0, (h.cell (p := ⟨bb, _, none⟩) hbb).trans x1, (h.cell (p := ⟨bb, _, none⟩) hbb).trans x2, (h.cell (p := ⟨bb, _, none⟩) hbb).trans x3⟩)
  go_enter Tryz.func34, Tryz.ntmps34
  go_wp2
  go_region_held3 (fun w' => w'.cell? ⟨w.heap.size, 3, none⟩ = some (.slice (some ⟨bb, oo, none⟩) 2 c) ∧ w'.cell? ⟨bb, oo, none⟩ = some (.int .i64 xo) ∧ w'.cell? ⟨bb, oo + 1, none⟩ = some (.string xs) ∧ w'.cell? ⟨bb, oo + 1 + 1, none⟩ = some (.int .i64 xz) ∧ w'.cell? ⟨bb, oo + 1 + 1 + 1, none⟩ = some (.slice a' n' c') ∧ w'.cell? ⟨bb, oo + 4, none⟩ = some (.int .i64 yo) ∧ w'.cell? ⟨bb, oo + 4 + 1, none⟩ = some (.string ys) ∧ w'.cell? ⟨bb, oo + 4 + 1 + 1, none⟩ = some (.int .i64 yz) ∧ w'.cell? ⟨bb, oo + 4 + 1 + 1 + 1, none⟩ = some (.slice a2 n2 c2))
    (first | exact HS.out _ B8 | exact HS.out _ B7 | exact HS.out _ B6 | exact HS.out _ B2d | go_keep)
    (first
      | (go_at_call 63; ((with_reducible refine cx.mono ?_); rintro e w6 ⟨rfl, hb6⟩; clear cx; have B6 := bel_trans B2d hb6))
      | (go_at_call 64; ((with_reducible refine (cs _).mono ?_); rintro e w7 ⟨rfl, hb7⟩; have B7 := bel_trans B6 hb7))
      | (go_at_call 63; ((with_reducible refine (cy _ B7).mono ?_); rintro e w8 ⟨rfl, hb8⟩; have B8 := bel_trans B7 hb8)))
  go_wp2
  go_ret
  exact ⟨rfl, bel_trans hB1 B8⟩
set_option maxHeartbeats 8000000 in
theorem rterm_sub {bs : List ByteArray} (x y : Tm) (hx : RTermOk bs x) (hy : RTermOk bs y) (hsx : (tX bs x).size ≤ 1000000000) (hsy : (tX bs y).size ≤ 1000000000) (s : ByteArray) (nu : Int) (b : Option Addr) (bm d : Nat) (a : Option Addr) (n c : Nat) (w : World) (hb : IsS w b bm bs) (hT : TsW w a n c [x, y]) :
    Calls Tryz.prog 34 #[.agg #[.int .i64 6, .string s, .int .i64 nu, .slice a n c], .slice b bm d] w fun e w' => e = .returned (.string (tP bs 2 x ++ (⟨#[32, 45, 32]⟩ ++ tP bs 1 y))) ∧ Below w.heap.size w w' := by
  obtain ⟨W1, hW1, hB1, hs1, S1⟩ := box1 w 6 s nu a n c
  obtain ⟨s0, s1, s2, s3⟩ := S1.four
  obtain ⟨bb, oo, a', n', c', a2, n2, c2, rfl, rfl, hbb, ⟨y0, y1, y2, y3, hAx⟩, ⟨x0, x1, x2, x3, hAy⟩⟩ := args2 (TsW.b hT hB1)
  have B2d : Below W1.heap.size W1 W1.drew := (Below.refl _ _).drew
  have cx := side_any hx hsx false b bm d a' n' c' W1.drew (hb.below (bel_trans hB1 B2d)) (ArW.b hAx B2d)
  have cs := fun w => sum_any (opT y) (nameT y) (numT y) a2 n2 c2 w
  have cy := fun (w' : World) (h : Below W1.heap.size W1 w') => side_any hy hsy (sumB y) b bm d a2 n2 c2 w' (hb.below (bel_trans hB1 h)) (ArW.b hAy h)
  rw [Bool.false_or, ← need2] at cx
  rw [← need1] at cy
  have hpx : par (need x 2) (tX bs x) = tP bs 2 x := rfl
  have hpy : par (need y 1) (tX bs y) = tP bs 1 y := rfl
  rw [hpx] at cx
  rw [hpy] at cy
  have hzx := par_size (need x 2) (tX bs x)
  have hzy := par_size (need y 1) (tX bs y)
  rw [hpx] at hzx
  rw [hpy] at hzy
  have hsum : ((opT y == 5) || (opT y == 6)) = sumB y := rfl
  rw [hsum] at cs
  have hd : (⟨#[32, 45, 32]⟩ : ByteArray).size = 3 := rfl
  obtain ⟨X1, e1⟩ : ∃ v, tP bs 2 x ++ (⟨#[32, 45, 32]⟩ : ByteArray) = v := ⟨_, rfl⟩
  have z1 : X1.size ≤ 1000000005 := by rw [← e1, ByteArray.size_append, hd]; omega
  have r1 : ∀ w, (Op.stringOp .add (tP bs 2 x) ⟨#[32, 45, 32]⟩).run Tryz.prog w = .ok (.string X1) w := fun w => by rw [run_string_add_sum w _ _ (by omega), e1]
  have r2 : ∀ w, (Op.stringOp .add X1 (tP bs 1 y)).run Tryz.prog w = .ok (.string (tP bs 2 x ++ (⟨#[32, 45, 32]⟩ ++ tP bs 1 y))) w := fun w => by rw [run_string_add_sum w _ _ (by omega), ← e1, ByteArray.append_assoc]
  have l1 : w.heap.size < W1.heap.size := by omega
  clear hx hy hb hT S1 hAx hAy hsx hsy hzx hzy hpx hpy e1 z1 hd hsum
  generalize (tP bs 2 x ++ (⟨#[32, 45, 32]⟩ ++ tP bs 1 y)) = R at *
  generalize tP bs 2 x = X at *
  generalize tP bs 1 y = Y at *
  generalize sumB y = sy at *
  generalize opT x = xo at *
  generalize nameT x = xs at *
  generalize numT x = xz at *
  generalize opT y = yo at *
  generalize nameT y = ys at *
  generalize numT y = yz at *
  have HS := Lib.hid (show ∀ w', Below W1.heap.size W1 w' → (w'.cell? ⟨w.heap.size, 3, none⟩ = some (.slice (some ⟨bb, oo, none⟩) 2 c) ∧ w'.cell? ⟨bb, oo, none⟩ = some (.int .i64 xo) ∧ w'.cell? ⟨bb, oo + 1, none⟩ = some (.string xs) ∧ w'.cell? ⟨bb, oo + 1 + 1, none⟩ = some (.int .i64 xz) ∧ w'.cell? ⟨bb, oo + 1 + 1 + 1, none⟩ = some (.slice a' n' c') ∧ w'.cell? ⟨bb, oo + 4, none⟩ = some (.int .i64 yo) ∧ w'.cell? ⟨bb, oo + 4 + 1, none⟩ = some (.string ys) ∧ w'.cell? ⟨bb, oo + 4 + 1 + 1, none⟩ = some (.int .i64 yz) ∧ w'.cell? ⟨bb, oo + 4 + 1 + 1 + 1, none⟩ = some (.slice a2 n2 c2)) from fun w' h =>
    ⟨(h.cell (p := ⟨w.heap.size, 3, none⟩) l1).trans s3, (h.cell (p := ⟨bb, _, none⟩) hbb).trans y0, (h.cell (p := ⟨bb, _, none⟩) hbb).trans y1, (h.cell (p := ⟨bb, _, none⟩) hbb).trans y2, (h.cell (p := ⟨bb, _, none⟩) hbb).trans y3, (h.cell (p := ⟨bb, _, none⟩) hbb).trans x0, (h.cell (p := ⟨bb, _, none⟩) hbb).trans x1, (h.cell (p := ⟨bb, _, none⟩) hbb).trans x2, (h.cell (p := ⟨bb, _, none⟩) hbb).trans x3⟩)
  go_enter Tryz.func34, Tryz.ntmps34
  go_wp2
  go_region_held3 (fun w' => w'.cell? ⟨w.heap.size, 3, none⟩ = some (.slice (some ⟨bb, oo, none⟩) 2 c) ∧ w'.cell? ⟨bb, oo, none⟩ = some (.int .i64 xo) ∧ w'.cell? ⟨bb, oo + 1, none⟩ = some (.string xs) ∧ w'.cell? ⟨bb, oo + 1 + 1, none⟩ = some (.int .i64 xz) ∧ w'.cell? ⟨bb, oo + 1 + 1 + 1, none⟩ = some (.slice a' n' c') ∧ w'.cell? ⟨bb, oo + 4, none⟩ = some (.int .i64 yo) ∧ w'.cell? ⟨bb, oo + 4 + 1, none⟩ = some (.string ys) ∧ w'.cell? ⟨bb, oo + 4 + 1 + 1, none⟩ = some (.int .i64 yz) ∧ w'.cell? ⟨bb, oo + 4 + 1 + 1 + 1, none⟩ = some (.slice a2 n2 c2))
    (first | exact HS.out _ B8 | exact HS.out _ B7 | exact HS.out _ B6 | exact HS.out _ B2d | go_keep)
    (first
      | (go_at_call 63; ((with_reducible refine cx.mono ?_); rintro e w6 ⟨rfl, hb6⟩; clear cx; have B6 := bel_trans B2d hb6))
      | (go_at_call 64; ((with_reducible refine (cs _).mono ?_); rintro e w7 ⟨rfl, hb7⟩; have B7 := bel_trans B6 hb7))
      | (go_at_call 63; ((with_reducible refine (cy _ B7).mono ?_); rintro e w8 ⟨rfl, hb8⟩; have B8 := bel_trans B7 hb8)))
  go_wp2
  go_ret
  exact ⟨rfl, bel_trans hB1 B8⟩
set_option maxHeartbeats 8000000 in
theorem rterm_neg {bs : List ByteArray} (x : Tm) (hx : RTermOk bs x) (hsx : (tX bs x).size ≤ 1000000000) (s : ByteArray) (nu : Int) (b : Option Addr) (bm d : Nat) (a : Option Addr) (n c : Nat) (w : World) (hb : IsS w b bm bs) (hT : TsW w a n c [x]) :
    Calls Tryz.prog 34 #[.agg #[.int .i64 7, .string s, .int .i64 nu, .slice a n c], .slice b bm d] w fun e w' => e = .returned (.string (⟨#[45]⟩ ++ par (needN x) (tX bs x))) ∧ Below w.heap.size w w' := by
  obtain ⟨W1, hW1, hB1, hs1, S1⟩ := box1 w 7 s nu a n c
  obtain ⟨s0, s1, s2, s3⟩ := S1.four
  obtain ⟨bb, oo, a', n', c', rfl, rfl, hbb, y0, y1, y2, y3, hAx⟩ := args1 (TsW.b hT hB1)
  have hsum : ((opT x == 5) || (opT x == 6)) = sumB x := rfl
  have cs := fun w => sum_any (opT x) (nameT x) (numT x) a' n' c' w
  rw [hsum] at cs
  obtain ⟨W2, hW2, hB2, hs2, S2⟩ := box1 W1 (opT x) (nameT x) (numT x) a' n' c'
  rw [hs1] at S2
  have hB12 := bel_trans hB1 hB2
  have B2d : Below W2.heap.size W2 W2.drew := (Below.refl _ _).drew
  have cy := fun (w' : World) (h : Below W2.heap.size W2 w') => side_any hx hsx ((sumB x || (opT x == 8)) || (opT x == 4)) b bm d a' n' c' w' (hb.below (bel_trans hB12 h)) (ArW.b hAx (bel_trans hB2 h))
  rw [← needN_eq] at cy
  have hps := par_size (needN x) (tX bs x)
  have r1 : ∀ w, (Op.stringOp .add ⟨#[45]⟩ (par (needN x) (tX bs x))).run Tryz.prog w = .ok (.string (⟨#[45]⟩ ++ par (needN x) (tX bs x))) w := fun w => by rw [run_string_add_sum w _ _ (by have : (⟨#[45]⟩ : ByteArray).size = 1 := rfl; omega)]
  have HB := Lib.hid hB12
  have hcase : (sumB x = true) ∨ (sumB x = false ∧ opT x = 8) ∨ (sumB x = false ∧ (opT x == 8) = false) := by
    cases h : sumB x with
    | true => exact .inl rfl
    | false => by_cases h8 : opT x = 8
               · exact .inr (.inl ⟨rfl, h8⟩)
               · exact .inr (.inr ⟨rfl, beq_no' h8⟩)
  clear hx hT S1 hAx hsx hb hps hB12 hsum
  generalize (⟨#[45]⟩ ++ par (needN x) (tX bs x)) = R at *
  generalize par (needN x) (tX bs x) = X at *
  generalize sumB x = sx at *
  generalize opT x = xo at *
  generalize nameT x = xs at *
  generalize numT x = xz at *
  have HS := Lib.hid (show ∀ w', Below W2.heap.size W2 w' → (w'.cell? ⟨w.heap.size + 1, 0, none⟩ = some (.int .i64 xo) ∧ w'.cell? ⟨w.heap.size + 1, 1, none⟩ = some (.string xs) ∧ w'.cell? ⟨w.heap.size + 1, 2, none⟩ = some (.int .i64 xz) ∧ w'.cell? ⟨w.heap.size + 1, 3, none⟩ = some (.slice a' n' c')) from fun w' h => (TBox.b S2 h).four)
  obtain ⟨v0, v1, v2, v3⟩ := S2.four
  clear S2
  rcases hcase with rfl | ⟨rfl, rfl⟩ | ⟨rfl, h8⟩
  · rw [Bool.true_or, Bool.true_or] at cy
    go_enter Tryz.func34, Tryz.ntmps34
    go_wp2
    go_wp2_with fail
    refine wp_region_noPanic ?_
    refine wp_region_held_drew (S := fun w' => w'.cell? ⟨w.heap.size + 1, 0, none⟩ = some (.int .i64 xo) ∧ w'.cell? ⟨w.heap.size + 1, 1, none⟩ = some (.string xs) ∧ w'.cell? ⟨w.heap.size + 1, 2, none⟩ = some (.int .i64 xz) ∧ w'.cell? ⟨w.heap.size + 1, 3, none⟩ = some (.slice a' n' c')) (by kernel_rfl) (by exact HS.out _ B2d) (fun hHeld => ?_)
    refine wpAnyH_take (i := 0) (v := ?_) rfl (by kernel_rfl) (by kernel_rfl) (by kernel_rfl) (fun _ _ _ h => h) (Or.inl ⟨by rfl, ?hy⟩) (by assumption) ?_
    case hy => (intro w hSw; (try dsimp only at hSw); go_simp; try (with_reducible rfl))
    (try simp only [List.getElem_toArray, List.getElem_cons_succ, List.getElem_cons_zero, Act.put, List.setIfInBounds_toArray, List.set_cons_zero, List.set_cons_succ])
    refine wpAnyH_take (i := 1) (v := ?_) rfl (by kernel_rfl) (by kernel_rfl) (by kernel_rfl) (fun _ _ _ h => h) (Or.inl ⟨by rfl, ?hy⟩) (by assumption) ?_
    case hy => (intro w hSw; (try dsimp only at hSw); go_simp; try (with_reducible rfl))
    (try simp only [List.getElem_toArray, List.getElem_cons_succ, List.getElem_cons_zero, Act.put, List.setIfInBounds_toArray, List.set_cons_zero, List.set_cons_succ])
    refine wpAnyH_take (i := 2) (v := ?_) rfl (by kernel_rfl) (by kernel_rfl) (by kernel_rfl) (fun _ _ _ h => h) (Or.inl ⟨by rfl, ?hy⟩) (by assumption) ?_
    case hy => (intro w hSw; (try dsimp only at hSw); go_simp; try (with_reducible rfl))
    (try simp only [List.getElem_toArray, List.getElem_cons_succ, List.getElem_cons_zero, Act.put, List.setIfInBounds_toArray, List.set_cons_zero, List.set_cons_succ])
    refine wpAnyH_ready (rs := [3]) (by kernel_rfl) (by simp) ?_
    refine AllReadyH.cons rfl (fun KK hKK => ?_) AllReadyH.nil
    go_simp
    (go_at_call 64; ((with_reducible refine (cs _).mono ?_); rintro e w6 ⟨rfl, hb6⟩; have B6 := bel_trans B2d hb6))
    refine hKK.out _ _ (by exact HS.out _ B6) (fun hHeld => ?_)
    clear hKK KK
    (try simp only [List.getElem_toArray, List.getElem_cons_succ, List.getElem_cons_zero, Act.put, List.setIfInBounds_toArray, List.set_cons_zero, List.set_cons_succ])
    refine wpAnyH_take (i := 4) (v := ?_) rfl (by kernel_rfl) (by kernel_rfl) (by kernel_rfl) (fun _ _ _ h => h) (Or.inl ⟨by rfl, ?hy⟩) (by assumption) ?_
    case hy => (intro w hSw; (try dsimp only at hSw); go_simp; try (with_reducible rfl))
    (try simp only [List.getElem_toArray, List.getElem_cons_succ, List.getElem_cons_zero, Act.put, List.setIfInBounds_toArray, List.set_cons_zero, List.set_cons_succ])
    refine wpAnyH_take (i := 5) (v := undef) rfl (by kernel_rfl) (by kernel_rfl) (by kernel_rfl) (fun _ _ _ h => h) (Or.inr ⟨by rfl, rfl⟩) (by assumption) ?_
    (try simp only [List.getElem_toArray, List.getElem_cons_succ, List.getElem_cons_zero, Act.put, List.setIfInBounds_toArray, List.set_cons_zero, List.set_cons_succ])
    refine wpAnyH_take (i := 6) (v := undef) rfl (by kernel_rfl) (by kernel_rfl) (by kernel_rfl) (fun _ _ _ h => h) (Or.inr ⟨by rfl, rfl⟩) (by assumption) ?_
    (try simp only [List.getElem_toArray, List.getElem_cons_succ, List.getElem_cons_zero, Act.put, List.setIfInBounds_toArray, List.set_cons_zero, List.set_cons_succ])
    refine wpAnyH_take (i := 7) (v := undef) rfl (by kernel_rfl) (by kernel_rfl) (by kernel_rfl) (fun _ _ _ h => h) (Or.inr ⟨by rfl, rfl⟩) (by assumption) ?_
    (try simp only [List.getElem_toArray, List.getElem_cons_succ, List.getElem_cons_zero, Act.put, List.setIfInBounds_toArray, List.set_cons_zero, List.set_cons_succ])
    refine wpAnyH_take (i := 8) (v := ?_) rfl (by kernel_rfl) (by kernel_rfl) (by kernel_rfl) (fun _ _ _ h => h) (Or.inl ⟨by rfl, ?hy⟩) (by assumption) ?_
    case hy => (intro w hSw; (try dsimp only at hSw); go_simp; try (with_reducible rfl))
    (try simp only [List.getElem_toArray, List.getElem_cons_succ, List.getElem_cons_zero, Act.put, List.setIfInBounds_toArray, List.set_cons_zero, List.set_cons_succ])
    refine wpAnyH_take (i := 9) (v := ?_) rfl (by kernel_rfl) (by kernel_rfl) (by kernel_rfl) (fun _ _ _ h => h) (Or.inl ⟨by rfl, ?hy⟩) (by assumption) ?_
    case hy => (intro w hSw; (try dsimp only at hSw); go_simp; try (with_reducible rfl))
    (try simp only [List.getElem_toArray, List.getElem_cons_succ, List.getElem_cons_zero, Act.put, List.setIfInBounds_toArray, List.set_cons_zero, List.set_cons_succ])
    refine wpAnyH_take (i := 10) (v := undef) rfl (by kernel_rfl) (by kernel_rfl) (by kernel_rfl) (fun _ _ _ h => h) (Or.inr ⟨by rfl, rfl⟩) (by assumption) ?_
    (try simp only [List.getElem_toArray, List.getElem_cons_succ, List.getElem_cons_zero, Act.put, List.setIfInBounds_toArray, List.set_cons_zero, List.set_cons_succ])
    refine wpAnyH_take (i := 11) (v := undef) rfl (by kernel_rfl) (by kernel_rfl) (by kernel_rfl) (fun _ _ _ h => h) (Or.inr ⟨by rfl, rfl⟩) (by assumption) ?_
    (try simp only [List.getElem_toArray, List.getElem_cons_succ, List.getElem_cons_zero, Act.put, List.setIfInBounds_toArray, List.set_cons_zero, List.set_cons_succ])
    refine wpAnyH_take (i := 12) (v := undef) rfl (by kernel_rfl) (by kernel_rfl) (by kernel_rfl) (fun _ _ _ h => h) (Or.inr ⟨by rfl, rfl⟩) (by assumption) ?_
    (try simp only [List.getElem_toArray, List.getElem_cons_succ, List.getElem_cons_zero, Act.put, List.setIfInBounds_toArray, List.set_cons_zero, List.set_cons_succ])
    refine wpAnyH_take (i := 13) (v := ?_) rfl (by kernel_rfl) (by kernel_rfl) (by kernel_rfl) (fun _ _ _ h => h) (Or.inl ⟨by rfl, ?hy⟩) (by assumption) ?_
    case hy => (intro w hSw; (try dsimp only at hSw); go_simp; try (with_reducible rfl))
    (try simp only [List.getElem_toArray, List.getElem_cons_succ, List.getElem_cons_zero, Act.put, List.setIfInBounds_toArray, List.set_cons_zero, List.set_cons_succ])
    refine wpAnyH_ready (rs := [14]) (by kernel_rfl) (by simp) ?_
    refine AllReadyH.cons rfl (fun KK hKK => ?_) AllReadyH.nil
    go_simp
    (go_at_call 63; ((with_reducible refine (cy _ B6).mono ?_); rintro e w8 ⟨rfl, hb8⟩; have B8 := bel_trans B6 hb8))
    refine hKK.out _ _ (by exact HS.out _ B8) (fun hHeld => ?_)
    clear hKK KK
    (try simp only [List.getElem_toArray, List.getElem_cons_succ, List.getElem_cons_zero, Act.put, List.setIfInBounds_toArray, List.set_cons_zero, List.set_cons_succ])
    refine wpAnyH_take (i := 15) (v := ?_) rfl (by kernel_rfl) (by kernel_rfl) (by kernel_rfl) (fun _ _ _ h => h) (Or.inl ⟨by rfl, ?hy⟩) (by assumption) ?_
    case hy => (intro w hSw; (try dsimp only at hSw); go_simp; try (with_reducible rfl))
    (try simp only [List.getElem_toArray, List.getElem_cons_succ, List.getElem_cons_zero, Act.put, List.setIfInBounds_toArray, List.set_cons_zero, List.set_cons_succ])
    refine wpAnyH_take (i := 16) (v := ?_) rfl (by kernel_rfl) (by kernel_rfl) (by kernel_rfl) (fun _ _ _ h => h) (Or.inl ⟨by rfl, ?hy⟩) (by assumption) ?_
    case hy => (intro w hSw; (try dsimp only at hSw); go_simp; try (with_reducible rfl))
    (try simp only [List.getElem_toArray, List.getElem_cons_succ, List.getElem_cons_zero, Act.put, List.setIfInBounds_toArray, List.set_cons_zero, List.set_cons_succ])
    refine wpAnyH_done (by kernel_rfl) ?_ _
    refine NoPanic.normal ?_
    all_goals go_wp2
    all_goals go_ret
    exact ⟨rfl, bel_trans HB.out B8⟩
  · rw [show ((false || ((8 : Int) == 8)) || ((8 : Int) == 4)) = true from rfl] at cy
    go_enter Tryz.func34, Tryz.ntmps34
    go_wp2
    go_wp2_with fail
    refine wp_region_noPanic ?_
    refine wp_region_held_drew (S := fun w' => w'.cell? ⟨w.heap.size + 1, 0, none⟩ = some (.int .i64 8) ∧ w'.cell? ⟨w.heap.size + 1, 1, none⟩ = some (.string xs) ∧ w'.cell? ⟨w.heap.size + 1, 2, none⟩ = some (.int .i64 xz) ∧ w'.cell? ⟨w.heap.size + 1, 3, none⟩ = some (.slice a' n' c')) (by kernel_rfl) (by exact HS.out _ B2d) (fun hHeld => ?_)
    refine wpAnyH_take (i := 0) (v := ?_) rfl (by kernel_rfl) (by kernel_rfl) (by kernel_rfl) (fun _ _ _ h => h) (Or.inl ⟨by rfl, ?hy⟩) (by assumption) ?_
    case hy => (intro w hSw; (try dsimp only at hSw); go_simp; try (with_reducible rfl))
    (try simp only [List.getElem_toArray, List.getElem_cons_succ, List.getElem_cons_zero, Act.put, List.setIfInBounds_toArray, List.set_cons_zero, List.set_cons_succ])
    refine wpAnyH_take (i := 1) (v := ?_) rfl (by kernel_rfl) (by kernel_rfl) (by kernel_rfl) (fun _ _ _ h => h) (Or.inl ⟨by rfl, ?hy⟩) (by assumption) ?_
    case hy => (intro w hSw; (try dsimp only at hSw); go_simp; try (with_reducible rfl))
    (try simp only [List.getElem_toArray, List.getElem_cons_succ, List.getElem_cons_zero, Act.put, List.setIfInBounds_toArray, List.set_cons_zero, List.set_cons_succ])
    refine wpAnyH_take (i := 2) (v := ?_) rfl (by kernel_rfl) (by kernel_rfl) (by kernel_rfl) (fun _ _ _ h => h) (Or.inl ⟨by rfl, ?hy⟩) (by assumption) ?_
    case hy => (intro w hSw; (try dsimp only at hSw); go_simp; try (with_reducible rfl))
    (try simp only [List.getElem_toArray, List.getElem_cons_succ, List.getElem_cons_zero, Act.put, List.setIfInBounds_toArray, List.set_cons_zero, List.set_cons_succ])
    refine wpAnyH_ready (rs := [3]) (by kernel_rfl) (by simp) ?_
    refine AllReadyH.cons rfl (fun KK hKK => ?_) AllReadyH.nil
    go_simp
    (go_at_call 64; ((with_reducible refine (cs _).mono ?_); rintro e w6 ⟨rfl, hb6⟩; have B6 := bel_trans B2d hb6))
    refine hKK.out _ _ (by exact HS.out _ B6) (fun hHeld => ?_)
    clear hKK KK
    (try simp only [List.getElem_toArray, List.getElem_cons_succ, List.getElem_cons_zero, Act.put, List.setIfInBounds_toArray, List.set_cons_zero, List.set_cons_succ])
    refine wpAnyH_take (i := 4) (v := ?_) rfl (by kernel_rfl) (by kernel_rfl) (by kernel_rfl) (fun _ _ _ h => h) (Or.inl ⟨by rfl, ?hy⟩) (by assumption) ?_
    case hy => (intro w hSw; (try dsimp only at hSw); go_simp; try (with_reducible rfl))
    (try simp only [List.getElem_toArray, List.getElem_cons_succ, List.getElem_cons_zero, Act.put, List.setIfInBounds_toArray, List.set_cons_zero, List.set_cons_succ])
    refine wpAnyH_take (i := 5) (v := ?_) rfl (by kernel_rfl) (by kernel_rfl) (by kernel_rfl) (fun _ _ _ h => h) (Or.inl ⟨by rfl, ?hy⟩) (by assumption) ?_
    case hy => (intro w hSw; (try dsimp only at hSw); go_simp; try (with_reducible rfl))
    (try simp only [List.getElem_toArray, List.getElem_cons_succ, List.getElem_cons_zero, Act.put, List.setIfInBounds_toArray, List.set_cons_zero, List.set_cons_succ])
    refine wpAnyH_take (i := 6) (v := ?_) rfl (by kernel_rfl) (by kernel_rfl) (by kernel_rfl) (fun _ _ _ h => h) (Or.inl ⟨by rfl, ?hy⟩) (by assumption) ?_
    case hy => (intro w hSw; (try dsimp only at hSw); go_simp; try (with_reducible rfl))
    (try simp only [List.getElem_toArray, List.getElem_cons_succ, List.getElem_cons_zero, Act.put, List.setIfInBounds_toArray, List.set_cons_zero, List.set_cons_succ])
    refine wpAnyH_take (i := 7) (v := ?_) rfl (by kernel_rfl) (by kernel_rfl) (by kernel_rfl) (fun _ _ _ h => h) (Or.inl ⟨by rfl, ?hy⟩) (by assumption) ?_
    case hy => (intro w hSw; (try dsimp only at hSw); go_simp; try (with_reducible rfl))
    (try simp only [List.getElem_toArray, List.getElem_cons_succ, List.getElem_cons_zero, Act.put, List.setIfInBounds_toArray, List.set_cons_zero, List.set_cons_succ])
    refine wpAnyH_take (i := 8) (v := ?_) rfl (by kernel_rfl) (by kernel_rfl) (by kernel_rfl) (fun _ _ _ h => h) (Or.inl ⟨by rfl, ?hy⟩) (by assumption) ?_
    case hy => (intro w hSw; (try dsimp only at hSw); go_simp; try (with_reducible rfl))
    (try simp only [List.getElem_toArray, List.getElem_cons_succ, List.getElem_cons_zero, Act.put, List.setIfInBounds_toArray, List.set_cons_zero, List.set_cons_succ])
    refine wpAnyH_take (i := 9) (v := ?_) rfl (by kernel_rfl) (by kernel_rfl) (by kernel_rfl) (fun _ _ _ h => h) (Or.inl ⟨by rfl, ?hy⟩) (by assumption) ?_
    case hy => (intro w hSw; (try dsimp only at hSw); go_simp; try (with_reducible rfl))
    (try simp only [List.getElem_toArray, List.getElem_cons_succ, List.getElem_cons_zero, Act.put, List.setIfInBounds_toArray, List.set_cons_zero, List.set_cons_succ])
    refine wpAnyH_take (i := 10) (v := undef) rfl (by kernel_rfl) (by kernel_rfl) (by kernel_rfl) (fun _ _ _ h => h) (Or.inr ⟨by rfl, rfl⟩) (by assumption) ?_
    (try simp only [List.getElem_toArray, List.getElem_cons_succ, List.getElem_cons_zero, Act.put, List.setIfInBounds_toArray, List.set_cons_zero, List.set_cons_succ])
    refine wpAnyH_take (i := 11) (v := undef) rfl (by kernel_rfl) (by kernel_rfl) (by kernel_rfl) (fun _ _ _ h => h) (Or.inr ⟨by rfl, rfl⟩) (by assumption) ?_
    (try simp only [List.getElem_toArray, List.getElem_cons_succ, List.getElem_cons_zero, Act.put, List.setIfInBounds_toArray, List.set_cons_zero, List.set_cons_succ])
    refine wpAnyH_take (i := 12) (v := undef) rfl (by kernel_rfl) (by kernel_rfl) (by kernel_rfl) (fun _ _ _ h => h) (Or.inr ⟨by rfl, rfl⟩) (by assumption) ?_
    (try simp only [List.getElem_toArray, List.getElem_cons_succ, List.getElem_cons_zero, Act.put, List.setIfInBounds_toArray, List.set_cons_zero, List.set_cons_succ])
    refine wpAnyH_take (i := 13) (v := ?_) rfl (by kernel_rfl) (by kernel_rfl) (by kernel_rfl) (fun _ _ _ h => h) (Or.inl ⟨by rfl, ?hy⟩) (by assumption) ?_
    case hy => (intro w hSw; (try dsimp only at hSw); go_simp; try (with_reducible rfl))
    (try simp only [List.getElem_toArray, List.getElem_cons_succ, List.getElem_cons_zero, Act.put, List.setIfInBounds_toArray, List.set_cons_zero, List.set_cons_succ])
    refine wpAnyH_ready (rs := [14]) (by kernel_rfl) (by simp) ?_
    refine AllReadyH.cons rfl (fun KK hKK => ?_) AllReadyH.nil
    go_simp
    (go_at_call 63; ((with_reducible refine (cy _ B6).mono ?_); rintro e w8 ⟨rfl, hb8⟩; have B8 := bel_trans B6 hb8))
    refine hKK.out _ _ (by exact HS.out _ B8) (fun hHeld => ?_)
    clear hKK KK
    (try simp only [List.getElem_toArray, List.getElem_cons_succ, List.getElem_cons_zero, Act.put, List.setIfInBounds_toArray, List.set_cons_zero, List.set_cons_succ])
    refine wpAnyH_take (i := 15) (v := ?_) rfl (by kernel_rfl) (by kernel_rfl) (by kernel_rfl) (fun _ _ _ h => h) (Or.inl ⟨by rfl, ?hy⟩) (by assumption) ?_
    case hy => (intro w hSw; (try dsimp only at hSw); go_simp; try (with_reducible rfl))
    (try simp only [List.getElem_toArray, List.getElem_cons_succ, List.getElem_cons_zero, Act.put, List.setIfInBounds_toArray, List.set_cons_zero, List.set_cons_succ])
    refine wpAnyH_take (i := 16) (v := ?_) rfl (by kernel_rfl) (by kernel_rfl) (by kernel_rfl) (fun _ _ _ h => h) (Or.inl ⟨by rfl, ?hy⟩) (by assumption) ?_
    case hy => (intro w hSw; (try dsimp only at hSw); go_simp; try (with_reducible rfl))
    (try simp only [List.getElem_toArray, List.getElem_cons_succ, List.getElem_cons_zero, Act.put, List.setIfInBounds_toArray, List.set_cons_zero, List.set_cons_succ])
    refine wpAnyH_done (by kernel_rfl) ?_ _
    refine NoPanic.normal ?_
    all_goals go_wp2
    all_goals go_ret
    exact ⟨rfl, bel_trans HB.out B8⟩
  · rw [h8, Bool.false_or, Bool.false_or] at cy
    go_enter Tryz.func34, Tryz.ntmps34
    go_wp2
    go_wp2_with fail
    refine wp_region_noPanic ?_
    refine wp_region_held_drew (S := fun w' => w'.cell? ⟨w.heap.size + 1, 0, none⟩ = some (.int .i64 xo) ∧ w'.cell? ⟨w.heap.size + 1, 1, none⟩ = some (.string xs) ∧ w'.cell? ⟨w.heap.size + 1, 2, none⟩ = some (.int .i64 xz) ∧ w'.cell? ⟨w.heap.size + 1, 3, none⟩ = some (.slice a' n' c')) (by kernel_rfl) (by exact HS.out _ B2d) (fun hHeld => ?_)
    refine wpAnyH_take (i := 0) (v := ?_) rfl (by kernel_rfl) (by kernel_rfl) (by kernel_rfl) (fun _ _ _ h => h) (Or.inl ⟨by rfl, ?hy⟩) (by assumption) ?_
    case hy => (intro w hSw; (try dsimp only at hSw); go_simp; try (with_reducible rfl))
    (try simp only [List.getElem_toArray, List.getElem_cons_succ, List.getElem_cons_zero, Act.put, List.setIfInBounds_toArray, List.set_cons_zero, List.set_cons_succ])
    refine wpAnyH_take (i := 1) (v := ?_) rfl (by kernel_rfl) (by kernel_rfl) (by kernel_rfl) (fun _ _ _ h => h) (Or.inl ⟨by rfl, ?hy⟩) (by assumption) ?_
    case hy => (intro w hSw; (try dsimp only at hSw); go_simp; try (with_reducible rfl))
    (try simp only [List.getElem_toArray, List.getElem_cons_succ, List.getElem_cons_zero, Act.put, List.setIfInBounds_toArray, List.set_cons_zero, List.set_cons_succ])
    refine wpAnyH_take (i := 2) (v := ?_) rfl (by kernel_rfl) (by kernel_rfl) (by kernel_rfl) (fun _ _ _ h => h) (Or.inl ⟨by rfl, ?hy⟩) (by assumption) ?_
    case hy => (intro w hSw; (try dsimp only at hSw); go_simp; try (with_reducible rfl))
    (try simp only [List.getElem_toArray, List.getElem_cons_succ, List.getElem_cons_zero, Act.put, List.setIfInBounds_toArray, List.set_cons_zero, List.set_cons_succ])
    refine wpAnyH_ready (rs := [3]) (by kernel_rfl) (by simp) ?_
    refine AllReadyH.cons rfl (fun KK hKK => ?_) AllReadyH.nil
    go_simp
    (go_at_call 64; ((with_reducible refine (cs _).mono ?_); rintro e w6 ⟨rfl, hb6⟩; have B6 := bel_trans B2d hb6))
    refine hKK.out _ _ (by exact HS.out _ B6) (fun hHeld => ?_)
    clear hKK KK
    (try simp only [List.getElem_toArray, List.getElem_cons_succ, List.getElem_cons_zero, Act.put, List.setIfInBounds_toArray, List.set_cons_zero, List.set_cons_succ])
    refine wpAnyH_take (i := 4) (v := ?_) rfl (by kernel_rfl) (by kernel_rfl) (by kernel_rfl) (fun _ _ _ h => h) (Or.inl ⟨by rfl, ?hy⟩) (by assumption) ?_
    case hy => (intro w hSw; (try dsimp only at hSw); go_simp; try (with_reducible rfl))
    (try simp only [List.getElem_toArray, List.getElem_cons_succ, List.getElem_cons_zero, Act.put, List.setIfInBounds_toArray, List.set_cons_zero, List.set_cons_succ])
    refine wpAnyH_take (i := 5) (v := ?_) rfl (by kernel_rfl) (by kernel_rfl) (by kernel_rfl) (fun _ _ _ h => h) (Or.inl ⟨by rfl, ?hy⟩) (by assumption) ?_
    case hy => (intro w hSw; (try dsimp only at hSw); go_simp; try (with_reducible rfl))
    (try simp only [List.getElem_toArray, List.getElem_cons_succ, List.getElem_cons_zero, Act.put, List.setIfInBounds_toArray, List.set_cons_zero, List.set_cons_succ])
    refine wpAnyH_take (i := 6) (v := ?_) rfl (by kernel_rfl) (by kernel_rfl) (by kernel_rfl) (fun _ _ _ h => h) (Or.inl ⟨by rfl, ?hy⟩) (by assumption) ?_
    case hy => (intro w hSw; (try dsimp only at hSw); go_simp; try (with_reducible rfl))
    (try simp only [List.getElem_toArray, List.getElem_cons_succ, List.getElem_cons_zero, Act.put, List.setIfInBounds_toArray, List.set_cons_zero, List.set_cons_succ])
    refine wpAnyH_take (i := 7) (v := ?_) rfl (by kernel_rfl) (by kernel_rfl) (by kernel_rfl) (fun _ _ _ h => h) (Or.inl ⟨by rfl, ?hy⟩) (by assumption) ?_
    case hy => (intro w hSw; (try dsimp only at hSw); go_simp; try (with_reducible rfl))
    (try simp only [List.getElem_toArray, List.getElem_cons_succ, List.getElem_cons_zero, Act.put, List.setIfInBounds_toArray, List.set_cons_zero, List.set_cons_succ])
    refine wpAnyH_take (i := 8) (v := ?_) rfl (by kernel_rfl) (by kernel_rfl) (by kernel_rfl) (fun _ _ _ h => h) (Or.inl ⟨by rfl, ?hy⟩) (by assumption) ?_
    case hy => (intro w hSw; (try dsimp only at hSw); go_simp; try (with_reducible rfl))
    (try simp only [List.getElem_toArray, List.getElem_cons_succ, List.getElem_cons_zero, Act.put, List.setIfInBounds_toArray, List.set_cons_zero, List.set_cons_succ])
    refine wpAnyH_take (i := 9) (v := ?_) rfl (by kernel_rfl) (by kernel_rfl) (by kernel_rfl) (fun _ _ _ h => h) (Or.inl ⟨by rfl, ?hy⟩) (by assumption) ?_
    case hy => (intro w hSw; (try dsimp only at hSw); go_simp; try (with_reducible rfl))
    (try simp only [List.getElem_toArray, List.getElem_cons_succ, List.getElem_cons_zero, Act.put, List.setIfInBounds_toArray, List.set_cons_zero, List.set_cons_succ])
    refine wpAnyH_take (i := 10) (v := ?_) rfl (by kernel_rfl) (by kernel_rfl) (by kernel_rfl) (fun _ _ _ h => h) (Or.inl ⟨by rfl, ?hy⟩) (by assumption) ?_
    case hy => (intro w hSw; (try dsimp only at hSw); go_simp; try (with_reducible rfl))
    (try simp only [List.getElem_toArray, List.getElem_cons_succ, List.getElem_cons_zero, Act.put, List.setIfInBounds_toArray, List.set_cons_zero, List.set_cons_succ])
    refine wpAnyH_take (i := 11) (v := ?_) rfl (by kernel_rfl) (by kernel_rfl) (by kernel_rfl) (fun _ _ _ h => h) (Or.inl ⟨by rfl, ?hy⟩) (by assumption) ?_
    case hy => (intro w hSw; (try dsimp only at hSw); go_simp; try (with_reducible rfl))
    (try simp only [List.getElem_toArray, List.getElem_cons_succ, List.getElem_cons_zero, Act.put, List.setIfInBounds_toArray, List.set_cons_zero, List.set_cons_succ])
    refine wpAnyH_take (i := 12) (v := ?_) rfl (by kernel_rfl) (by kernel_rfl) (by kernel_rfl) (fun _ _ _ h => h) (Or.inl ⟨by rfl, ?hy⟩) (by assumption) ?_
    case hy => (intro w hSw; (try dsimp only at hSw); go_simp; try (with_reducible rfl))
    (try simp only [List.getElem_toArray, List.getElem_cons_succ, List.getElem_cons_zero, Act.put, List.setIfInBounds_toArray, List.set_cons_zero, List.set_cons_succ])
    refine wpAnyH_take (i := 13) (v := ?_) rfl (by kernel_rfl) (by kernel_rfl) (by kernel_rfl) (fun _ _ _ h => h) (Or.inl ⟨by rfl, ?hy⟩) (by assumption) ?_
    case hy => (intro w hSw; (try dsimp only at hSw); go_simp; try (with_reducible rfl))
    (try simp only [List.getElem_toArray, List.getElem_cons_succ, List.getElem_cons_zero, Act.put, List.setIfInBounds_toArray, List.set_cons_zero, List.set_cons_succ])
    refine wpAnyH_ready (rs := [14]) (by kernel_rfl) (by simp) ?_
    refine AllReadyH.cons rfl (fun KK hKK => ?_) AllReadyH.nil
    go_simp
    (go_at_call 63; ((with_reducible refine (cy _ B6).mono ?_); rintro e w8 ⟨rfl, hb8⟩; have B8 := bel_trans B6 hb8))
    refine hKK.out _ _ (by exact HS.out _ B8) (fun hHeld => ?_)
    clear hKK KK
    (try simp only [List.getElem_toArray, List.getElem_cons_succ, List.getElem_cons_zero, Act.put, List.setIfInBounds_toArray, List.set_cons_zero, List.set_cons_succ])
    refine wpAnyH_take (i := 15) (v := ?_) rfl (by kernel_rfl) (by kernel_rfl) (by kernel_rfl) (fun _ _ _ h => h) (Or.inl ⟨by rfl, ?hy⟩) (by assumption) ?_
    case hy => (intro w hSw; (try dsimp only at hSw); go_simp; try (with_reducible rfl))
    (try simp only [List.getElem_toArray, List.getElem_cons_succ, List.getElem_cons_zero, Act.put, List.setIfInBounds_toArray, List.set_cons_zero, List.set_cons_succ])
    refine wpAnyH_take (i := 16) (v := ?_) rfl (by kernel_rfl) (by kernel_rfl) (by kernel_rfl) (fun _ _ _ h => h) (Or.inl ⟨by rfl, ?hy⟩) (by assumption) ?_
    case hy => (intro w hSw; (try dsimp only at hSw); go_simp; try (with_reducible rfl))
    (try simp only [List.getElem_toArray, List.getElem_cons_succ, List.getElem_cons_zero, Act.put, List.setIfInBounds_toArray, List.set_cons_zero, List.set_cons_succ])
    refine wpAnyH_done (by kernel_rfl) ?_ _
    refine NoPanic.normal ?_
    all_goals go_wp2
    all_goals go_ret
    exact ⟨rfl, bel_trans HB.out B8⟩
set_option maxHeartbeats 8000000 in
theorem rterm_mul {bs : List ByteArray} (x : Tm) (hx : RTermOk bs x) (hsx : (tX bs x).size ≤ 1000000000) (s : ByteArray) (nu : Int) (b : Option Addr) (bm d : Nat) (a : Option Addr) (n c : Nat) (w : World) (hb : IsS w b bm bs) (hT : TsW w a n c [x]) (h0 : -9223372036854775808 ≤ nu) (h1 : nu ≤ 9223372036854775807) :
    Calls Tryz.prog 34 #[.agg #[.int .i64 8, .string s, .int .i64 nu, .slice a n c], .slice b bm d] w fun e w' => e = .returned (.string (par (decide (nu < 0)) (dig nu) ++ (⟨#[32, 42, 32]⟩ ++ tP bs 0 x))) ∧ Below w.heap.size w w' := by
  obtain ⟨W1, hW1, hB1, hs1, S1⟩ := box1 w 8 s nu a n c
  obtain ⟨s0, s1, s2, s3⟩ := S1.four
  obtain ⟨bb, oo, a', n', c', rfl, rfl, hbb, y0, y1, y2, y3, hAx⟩ := args1 (TsW.b hT hB1)
  have hsum : ((opT x == 5) || (opT x == 6)) = sumB x := rfl
  have cs := fun w => sum_any (opT x) (nameT x) (numT x) a' n' c' w
  rw [hsum] at cs
  have ct := fun w => refDigits_any nu h0 h1 w
  have hd := dig_size h0 h1
  have cb := fun w => brackets_any (dig nu) (by omega) w
  have HX := Lib.hid (show ∀ (w2 W2 : World), Below W1.heap.size W1 w2 → Below w2.heap.size w2 W2 → ∀ (w' : World), Below W2.heap.size W2 w' → _ from fun w2 W2 g1 g2 w' h => side_any hx hsx (sumB x || (opT x == 8)) b bm d a' n' c' w' (hb.below (bel_trans (bel_trans (bel_trans hB1 g1) g2) h)) (ArW.b hAx (bel_trans (bel_trans g1 g2) h)))
  simp only [← need0] at HX
  have hpx : par (need x 0) (tX bs x) = tP bs 0 x := rfl
  rw [hpx] at HX
  have hzx := par_size (need x 0) (tX bs x)
  rw [hpx] at hzx
  have HS1 := Lib.hid (show ∀ w', Below W1.heap.size W1 w' → (w'.cell? ⟨w.heap.size, 2, none⟩ = some (.int .i64 nu) ∧ w'.cell? ⟨w.heap.size, 3, none⟩ = some (.slice (some ⟨bb, oo, none⟩) 1 c) ∧ w'.cell? ⟨bb, oo, none⟩ = some (.int .i64 (opT x)) ∧ w'.cell? ⟨bb, oo + 1, none⟩ = some (.string (nameT x)) ∧ w'.cell? ⟨bb, oo + 1 + 1, none⟩ = some (.int .i64 (numT x)) ∧ w'.cell? ⟨bb, oo + 1 + 1 + 1, none⟩ = some (.slice a' n' c')) from fun w' h =>
    ⟨(TBox.b S1 h).four.2.2.1, (TBox.b S1 h).four.2.2.2, (h.cell (p := ⟨bb, _, none⟩) hbb).trans y0, (h.cell (p := ⟨bb, _, none⟩) hbb).trans y1, (h.cell (p := ⟨bb, _, none⟩) hbb).trans y2, (h.cell (p := ⟨bb, _, none⟩) hbb).trans y3⟩)
  have hq : (⟨#[32, 42, 32]⟩ : ByteArray).size = 3 := rfl
  have hcase : (sumB x = true) ∨ (sumB x = false) := by cases sumB x <;> simp
  have hN := par_size (decide (nu < 0)) (dig nu)
  obtain ⟨D2, hD2⟩ : ∃ v, par (decide (nu < 0)) (dig nu) = v := ⟨_, rfl⟩
  rw [hD2] at hN ⊢
  obtain ⟨X1, e1⟩ : ∃ v, D2 ++ (⟨#[32, 42, 32]⟩ : ByteArray) = v := ⟨_, rfl⟩
  have z1 : X1.size ≤ 200 := by rw [← e1, ByteArray.size_append, hq]; omega
  have r1 : ∀ w, (Op.stringOp .add D2 ⟨#[32, 42, 32]⟩).run Tryz.prog w = .ok (.string X1) w := fun w => by rw [run_string_add_sum w _ _ (by omega), e1]
  have r2 : ∀ w, (Op.stringOp .add X1 (tP bs 0 x)).run Tryz.prog w = .ok (.string (D2 ++ (⟨#[32, 42, 32]⟩ ++ tP bs 0 x))) w := fun w => by rw [run_string_add_sum w _ _ (by omega), ← e1, ByteArray.append_assoc]
  clear hx hT S1 hAx hsx hb hzx hpx hsum e1 z1 hq hN y0 y1 y2 y3
  generalize (D2 ++ (⟨#[32, 42, 32]⟩ ++ tP bs 0 x)) = R at *
  generalize tP bs 0 x = X at *
  generalize sumB x = sx at *
  generalize opT x = xo at *
  generalize nameT x = xs at *
  generalize numT x = xz at *
  by_cases hneg : nu < 0
  · have k1 : decide (nu < 0) = true := decide_eq_true hneg
    rw [k1] at hD2
    rw [hD2] at cb
    clear hneg hD2 hd
    generalize dig nu = D at *
    go_enter Tryz.func34, Tryz.ntmps34
    go_upto_region 24 with (first
      | (go_at_call 46; ((with_reducible refine (ct _).mono ?_); rintro e w2 ⟨rfl, hb2⟩; have k2 := HS1.out w2 hb2; obtain ⟨p0, p1, p2, p3, p4, p5⟩ := k2))
      | (go_at_call 61; ((with_reducible refine (cb _).mono ?_); rintro e w3 ⟨rfl, hb3⟩; have B3 := bel_trans hb2 hb3; have k3 := HS1.out w3 B3; obtain ⟨p0, p1, p2, p3, p4, p5⟩ := k3)))
    obtain ⟨W2, hW2, hB2, hs2, S2⟩ := box1 w3 xo xs xz a' n' c'
    have B2d : Below W2.heap.size W2 W2.drew := (Below.refl _ _).drew
    have cy := HX.out w3 W2 B3 hB2
    have HS := Lib.hid (show ∀ w', Below W2.heap.size W2 w' → (w'.cell? ⟨w3.heap.size, 0, none⟩ = some (.int .i64 xo) ∧ w'.cell? ⟨w3.heap.size, 1, none⟩ = some (.string xs) ∧ w'.cell? ⟨w3.heap.size, 2, none⟩ = some (.int .i64 xz) ∧ w'.cell? ⟨w3.heap.size, 3, none⟩ = some (.slice a' n' c')) from fun w' h => (TBox.b S2 h).four)
    have HB := Lib.hid (bel_trans (bel_trans hB1 B3) hB2)
    obtain ⟨v0, v1, v2, v3⟩ := S2.four
    clear S2
    rcases hcase with rfl | rfl
    · rw [Bool.true_or] at cy
      go_wp2
      go_wp2_with fail
      refine wp_region_noPanic ?_
      refine wp_region_held_drew (S := fun w' => w'.cell? ⟨w3.heap.size, 0, none⟩ = some (.int .i64 xo) ∧ w'.cell? ⟨w3.heap.size, 1, none⟩ = some (.string xs) ∧ w'.cell? ⟨w3.heap.size, 2, none⟩ = some (.int .i64 xz) ∧ w'.cell? ⟨w3.heap.size, 3, none⟩ = some (.slice a' n' c')) (by kernel_rfl) (by exact HS.out _ B2d) (fun hHeld => ?_)
      refine wpAnyH_take (i := 0) (v := ?_) rfl (by kernel_rfl) (by kernel_rfl) (by kernel_rfl) (fun _ _ _ h => h) (Or.inl ⟨by rfl, ?hy⟩) (by assumption) ?_
      case hy => (intro w hSw; (try dsimp only at hSw); go_simp; try (with_reducible rfl))
      (try simp only [List.getElem_toArray, List.getElem_cons_succ, List.getElem_cons_zero, Act.put, List.setIfInBounds_toArray, List.set_cons_zero, List.set_cons_succ])
      refine wpAnyH_take (i := 1) (v := ?_) rfl (by kernel_rfl) (by kernel_rfl) (by kernel_rfl) (fun _ _ _ h => h) (Or.inl ⟨by rfl, ?hy⟩) (by assumption) ?_
      case hy => (intro w hSw; (try dsimp only at hSw); go_simp; try (with_reducible rfl))
      (try simp only [List.getElem_toArray, List.getElem_cons_succ, List.getElem_cons_zero, Act.put, List.setIfInBounds_toArray, List.set_cons_zero, List.set_cons_succ])
      refine wpAnyH_take (i := 2) (v := ?_) rfl (by kernel_rfl) (by kernel_rfl) (by kernel_rfl) (fun _ _ _ h => h) (Or.inl ⟨by rfl, ?hy⟩) (by assumption) ?_
      case hy => (intro w hSw; (try dsimp only at hSw); go_simp; try (with_reducible rfl))
      (try simp only [List.getElem_toArray, List.getElem_cons_succ, List.getElem_cons_zero, Act.put, List.setIfInBounds_toArray, List.set_cons_zero, List.set_cons_succ])
      refine wpAnyH_take (i := 3) (v := ?_) rfl (by kernel_rfl) (by kernel_rfl) (by kernel_rfl) (fun _ _ _ h => h) (Or.inl ⟨by rfl, ?hy⟩) (by assumption) ?_
      case hy => (intro w hSw; (try dsimp only at hSw); go_simp; try (with_reducible rfl))
      (try simp only [List.getElem_toArray, List.getElem_cons_succ, List.getElem_cons_zero, Act.put, List.setIfInBounds_toArray, List.set_cons_zero, List.set_cons_succ])
      refine wpAnyH_take (i := 4) (v := ?_) rfl (by kernel_rfl) (by kernel_rfl) (by kernel_rfl) (fun _ _ _ h => h) (Or.inl ⟨by rfl, ?hy⟩) (by assumption) ?_
      case hy => (intro w hSw; (try dsimp only at hSw); go_simp; try (with_reducible rfl))
      (try simp only [List.getElem_toArray, List.getElem_cons_succ, List.getElem_cons_zero, Act.put, List.setIfInBounds_toArray, List.set_cons_zero, List.set_cons_succ])
      refine wpAnyH_ready (rs := [5]) (by kernel_rfl) (by simp) ?_
      refine AllReadyH.cons rfl (fun KK hKK => ?_) AllReadyH.nil
      go_simp
      (go_at_call 64; ((with_reducible refine (cs _).mono ?_); rintro e w6 ⟨rfl, hb6⟩; have B6 := bel_trans B2d hb6))
      refine hKK.out _ _ (by exact HS.out _ B6) (fun hHeld => ?_)
      clear hKK KK
      (try simp only [List.getElem_toArray, List.getElem_cons_succ, List.getElem_cons_zero, Act.put, List.setIfInBounds_toArray, List.set_cons_zero, List.set_cons_succ])
      refine wpAnyH_take (i := 6) (v := ?_) rfl (by kernel_rfl) (by kernel_rfl) (by kernel_rfl) (fun _ _ _ h => h) (Or.inl ⟨by rfl, ?hy⟩) (by assumption) ?_
      case hy => (intro w hSw; (try dsimp only at hSw); go_simp; try (with_reducible rfl))
      (try simp only [List.getElem_toArray, List.getElem_cons_succ, List.getElem_cons_zero, Act.put, List.setIfInBounds_toArray, List.set_cons_zero, List.set_cons_succ])
      refine wpAnyH_take (i := 7) (v := undef) rfl (by kernel_rfl) (by kernel_rfl) (by kernel_rfl) (fun _ _ _ h => h) (Or.inr ⟨by rfl, rfl⟩) (by assumption) ?_
      (try simp only [List.getElem_toArray, List.getElem_cons_succ, List.getElem_cons_zero, Act.put, List.setIfInBounds_toArray, List.set_cons_zero, List.set_cons_succ])
      refine wpAnyH_take (i := 8) (v := undef) rfl (by kernel_rfl) (by kernel_rfl) (by kernel_rfl) (fun _ _ _ h => h) (Or.inr ⟨by rfl, rfl⟩) (by assumption) ?_
      (try simp only [List.getElem_toArray, List.getElem_cons_succ, List.getElem_cons_zero, Act.put, List.setIfInBounds_toArray, List.set_cons_zero, List.set_cons_succ])
      refine wpAnyH_take (i := 9) (v := undef) rfl (by kernel_rfl) (by kernel_rfl) (by kernel_rfl) (fun _ _ _ h => h) (Or.inr ⟨by rfl, rfl⟩) (by assumption) ?_
      (try simp only [List.getElem_toArray, List.getElem_cons_succ, List.getElem_cons_zero, Act.put, List.setIfInBounds_toArray, List.set_cons_zero, List.set_cons_succ])
      refine wpAnyH_take (i := 10) (v := ?_) rfl (by kernel_rfl) (by kernel_rfl) (by kernel_rfl) (fun _ _ _ h => h) (Or.inl ⟨by rfl, ?hy⟩) (by assumption) ?_
      case hy => (intro w hSw; (try dsimp only at hSw); go_simp; try (with_reducible rfl))
      (try simp only [List.getElem_toArray, List.getElem_cons_succ, List.getElem_cons_zero, Act.put, List.setIfInBounds_toArray, List.set_cons_zero, List.set_cons_succ])
      refine wpAnyH_ready (rs := [11]) (by kernel_rfl) (by simp) ?_
      refine AllReadyH.cons rfl (fun KK hKK => ?_) AllReadyH.nil
      go_simp
      (go_at_call 63; ((with_reducible refine (cy _ B6).mono ?_); rintro e w8 ⟨rfl, hb8⟩; have B8 := bel_trans B6 hb8))
      refine hKK.out _ _ (by exact HS.out _ B8) (fun hHeld => ?_)
      clear hKK KK
      (try simp only [List.getElem_toArray, List.getElem_cons_succ, List.getElem_cons_zero, Act.put, List.setIfInBounds_toArray, List.set_cons_zero, List.set_cons_succ])
      refine wpAnyH_take (i := 12) (v := ?_) rfl (by kernel_rfl) (by kernel_rfl) (by kernel_rfl) (fun _ _ _ h => h) (Or.inl ⟨by rfl, ?hy⟩) (by assumption) ?_
      case hy => (intro w hSw; (try dsimp only at hSw); go_simp; try (with_reducible rfl))
      (try simp only [List.getElem_toArray, List.getElem_cons_succ, List.getElem_cons_zero, Act.put, List.setIfInBounds_toArray, List.set_cons_zero, List.set_cons_succ])
      refine wpAnyH_take (i := 13) (v := ?_) rfl (by kernel_rfl) (by kernel_rfl) (by kernel_rfl) (fun _ _ _ h => h) (Or.inl ⟨by rfl, ?hy⟩) (by assumption) ?_
      case hy => (intro w hSw; (try dsimp only at hSw); go_simp; try (with_reducible rfl))
      (try simp only [List.getElem_toArray, List.getElem_cons_succ, List.getElem_cons_zero, Act.put, List.setIfInBounds_toArray, List.set_cons_zero, List.set_cons_succ])
      refine wpAnyH_done (by kernel_rfl) ?_ _
      refine NoPanic.normal ?_
      all_goals go_wp2
      all_goals go_ret
      exact ⟨rfl, bel_trans HB.out B8⟩
    · rw [Bool.false_or] at cy
      go_wp2
      go_wp2_with fail
      refine wp_region_noPanic ?_
      refine wp_region_held_drew (S := fun w' => w'.cell? ⟨w3.heap.size, 0, none⟩ = some (.int .i64 xo) ∧ w'.cell? ⟨w3.heap.size, 1, none⟩ = some (.string xs) ∧ w'.cell? ⟨w3.heap.size, 2, none⟩ = some (.int .i64 xz) ∧ w'.cell? ⟨w3.heap.size, 3, none⟩ = some (.slice a' n' c')) (by kernel_rfl) (by exact HS.out _ B2d) (fun hHeld => ?_)
      refine wpAnyH_take (i := 0) (v := ?_) rfl (by kernel_rfl) (by kernel_rfl) (by kernel_rfl) (fun _ _ _ h => h) (Or.inl ⟨by rfl, ?hy⟩) (by assumption) ?_
      case hy => (intro w hSw; (try dsimp only at hSw); go_simp; try (with_reducible rfl))
      (try simp only [List.getElem_toArray, List.getElem_cons_succ, List.getElem_cons_zero, Act.put, List.setIfInBounds_toArray, List.set_cons_zero, List.set_cons_succ])
      refine wpAnyH_take (i := 1) (v := ?_) rfl (by kernel_rfl) (by kernel_rfl) (by kernel_rfl) (fun _ _ _ h => h) (Or.inl ⟨by rfl, ?hy⟩) (by assumption) ?_
      case hy => (intro w hSw; (try dsimp only at hSw); go_simp; try (with_reducible rfl))
      (try simp only [List.getElem_toArray, List.getElem_cons_succ, List.getElem_cons_zero, Act.put, List.setIfInBounds_toArray, List.set_cons_zero, List.set_cons_succ])
      refine wpAnyH_take (i := 2) (v := ?_) rfl (by kernel_rfl) (by kernel_rfl) (by kernel_rfl) (fun _ _ _ h => h) (Or.inl ⟨by rfl, ?hy⟩) (by assumption) ?_
      case hy => (intro w hSw; (try dsimp only at hSw); go_simp; try (with_reducible rfl))
      (try simp only [List.getElem_toArray, List.getElem_cons_succ, List.getElem_cons_zero, Act.put, List.setIfInBounds_toArray, List.set_cons_zero, List.set_cons_succ])
      refine wpAnyH_take (i := 3) (v := ?_) rfl (by kernel_rfl) (by kernel_rfl) (by kernel_rfl) (fun _ _ _ h => h) (Or.inl ⟨by rfl, ?hy⟩) (by assumption) ?_
      case hy => (intro w hSw; (try dsimp only at hSw); go_simp; try (with_reducible rfl))
      (try simp only [List.getElem_toArray, List.getElem_cons_succ, List.getElem_cons_zero, Act.put, List.setIfInBounds_toArray, List.set_cons_zero, List.set_cons_succ])
      refine wpAnyH_take (i := 4) (v := ?_) rfl (by kernel_rfl) (by kernel_rfl) (by kernel_rfl) (fun _ _ _ h => h) (Or.inl ⟨by rfl, ?hy⟩) (by assumption) ?_
      case hy => (intro w hSw; (try dsimp only at hSw); go_simp; try (with_reducible rfl))
      (try simp only [List.getElem_toArray, List.getElem_cons_succ, List.getElem_cons_zero, Act.put, List.setIfInBounds_toArray, List.set_cons_zero, List.set_cons_succ])
      refine wpAnyH_ready (rs := [5]) (by kernel_rfl) (by simp) ?_
      refine AllReadyH.cons rfl (fun KK hKK => ?_) AllReadyH.nil
      go_simp
      (go_at_call 64; ((with_reducible refine (cs _).mono ?_); rintro e w6 ⟨rfl, hb6⟩; have B6 := bel_trans B2d hb6))
      refine hKK.out _ _ (by exact HS.out _ B6) (fun hHeld => ?_)
      clear hKK KK
      (try simp only [List.getElem_toArray, List.getElem_cons_succ, List.getElem_cons_zero, Act.put, List.setIfInBounds_toArray, List.set_cons_zero, List.set_cons_succ])
      refine wpAnyH_take (i := 6) (v := ?_) rfl (by kernel_rfl) (by kernel_rfl) (by kernel_rfl) (fun _ _ _ h => h) (Or.inl ⟨by rfl, ?hy⟩) (by assumption) ?_
      case hy => (intro w hSw; (try dsimp only at hSw); go_simp; try (with_reducible rfl))
      (try simp only [List.getElem_toArray, List.getElem_cons_succ, List.getElem_cons_zero, Act.put, List.setIfInBounds_toArray, List.set_cons_zero, List.set_cons_succ])
      refine wpAnyH_take (i := 7) (v := ?_) rfl (by kernel_rfl) (by kernel_rfl) (by kernel_rfl) (fun _ _ _ h => h) (Or.inl ⟨by rfl, ?hy⟩) (by assumption) ?_
      case hy => (intro w hSw; (try dsimp only at hSw); go_simp; try (with_reducible rfl))
      (try simp only [List.getElem_toArray, List.getElem_cons_succ, List.getElem_cons_zero, Act.put, List.setIfInBounds_toArray, List.set_cons_zero, List.set_cons_succ])
      refine wpAnyH_take (i := 8) (v := ?_) rfl (by kernel_rfl) (by kernel_rfl) (by kernel_rfl) (fun _ _ _ h => h) (Or.inl ⟨by rfl, ?hy⟩) (by assumption) ?_
      case hy => (intro w hSw; (try dsimp only at hSw); go_simp; try (with_reducible rfl))
      (try simp only [List.getElem_toArray, List.getElem_cons_succ, List.getElem_cons_zero, Act.put, List.setIfInBounds_toArray, List.set_cons_zero, List.set_cons_succ])
      refine wpAnyH_take (i := 9) (v := ?_) rfl (by kernel_rfl) (by kernel_rfl) (by kernel_rfl) (fun _ _ _ h => h) (Or.inl ⟨by rfl, ?hy⟩) (by assumption) ?_
      case hy => (intro w hSw; (try dsimp only at hSw); go_simp; try (with_reducible rfl))
      (try simp only [List.getElem_toArray, List.getElem_cons_succ, List.getElem_cons_zero, Act.put, List.setIfInBounds_toArray, List.set_cons_zero, List.set_cons_succ])
      refine wpAnyH_take (i := 10) (v := ?_) rfl (by kernel_rfl) (by kernel_rfl) (by kernel_rfl) (fun _ _ _ h => h) (Or.inl ⟨by rfl, ?hy⟩) (by assumption) ?_
      case hy => (intro w hSw; (try dsimp only at hSw); go_simp; try (with_reducible rfl))
      (try simp only [List.getElem_toArray, List.getElem_cons_succ, List.getElem_cons_zero, Act.put, List.setIfInBounds_toArray, List.set_cons_zero, List.set_cons_succ])
      refine wpAnyH_ready (rs := [11]) (by kernel_rfl) (by simp) ?_
      refine AllReadyH.cons rfl (fun KK hKK => ?_) AllReadyH.nil
      go_simp
      (go_at_call 63; ((with_reducible refine (cy _ B6).mono ?_); rintro e w8 ⟨rfl, hb8⟩; have B8 := bel_trans B6 hb8))
      refine hKK.out _ _ (by exact HS.out _ B8) (fun hHeld => ?_)
      clear hKK KK
      (try simp only [List.getElem_toArray, List.getElem_cons_succ, List.getElem_cons_zero, Act.put, List.setIfInBounds_toArray, List.set_cons_zero, List.set_cons_succ])
      refine wpAnyH_take (i := 12) (v := ?_) rfl (by kernel_rfl) (by kernel_rfl) (by kernel_rfl) (fun _ _ _ h => h) (Or.inl ⟨by rfl, ?hy⟩) (by assumption) ?_
      case hy => (intro w hSw; (try dsimp only at hSw); go_simp; try (with_reducible rfl))
      (try simp only [List.getElem_toArray, List.getElem_cons_succ, List.getElem_cons_zero, Act.put, List.setIfInBounds_toArray, List.set_cons_zero, List.set_cons_succ])
      refine wpAnyH_take (i := 13) (v := ?_) rfl (by kernel_rfl) (by kernel_rfl) (by kernel_rfl) (fun _ _ _ h => h) (Or.inl ⟨by rfl, ?hy⟩) (by assumption) ?_
      case hy => (intro w hSw; (try dsimp only at hSw); go_simp; try (with_reducible rfl))
      (try simp only [List.getElem_toArray, List.getElem_cons_succ, List.getElem_cons_zero, Act.put, List.setIfInBounds_toArray, List.set_cons_zero, List.set_cons_succ])
      refine wpAnyH_done (by kernel_rfl) ?_ _
      refine NoPanic.normal ?_
      all_goals go_wp2
      all_goals go_ret
      exact ⟨rfl, bel_trans HB.out B8⟩
  · have k1 : decide (nu < 0) = false := decide_eq_false hneg
    rw [k1, par_f] at hD2
    rw [hD2] at ct
    clear hneg hD2 hd cb
    go_enter Tryz.func34, Tryz.ntmps34
    go_upto_region 24 with (go_at_call 46; ((with_reducible refine (ct _).mono ?_); rintro e w3 ⟨rfl, B3⟩; have k3 := HS1.out w3 B3; obtain ⟨p0, p1, p2, p3, p4, p5⟩ := k3))
    obtain ⟨W2, hW2, hB2, hs2, S2⟩ := box1 w3 xo xs xz a' n' c'
    have B2d : Below W2.heap.size W2 W2.drew := (Below.refl _ _).drew
    have cy := HX.out w3 W2 B3 hB2
    have HS := Lib.hid (show ∀ w', Below W2.heap.size W2 w' → (w'.cell? ⟨w3.heap.size, 0, none⟩ = some (.int .i64 xo) ∧ w'.cell? ⟨w3.heap.size, 1, none⟩ = some (.string xs) ∧ w'.cell? ⟨w3.heap.size, 2, none⟩ = some (.int .i64 xz) ∧ w'.cell? ⟨w3.heap.size, 3, none⟩ = some (.slice a' n' c')) from fun w' h => (TBox.b S2 h).four)
    have HB := Lib.hid (bel_trans (bel_trans hB1 B3) hB2)
    obtain ⟨v0, v1, v2, v3⟩ := S2.four
    clear S2
    rcases hcase with rfl | rfl
    · rw [Bool.true_or] at cy
      go_wp2
      go_wp2_with fail
      refine wp_region_noPanic ?_
      refine wp_region_held_drew (S := fun w' => w'.cell? ⟨w3.heap.size, 0, none⟩ = some (.int .i64 xo) ∧ w'.cell? ⟨w3.heap.size, 1, none⟩ = some (.string xs) ∧ w'.cell? ⟨w3.heap.size, 2, none⟩ = some (.int .i64 xz) ∧ w'.cell? ⟨w3.heap.size, 3, none⟩ = some (.slice a' n' c')) (by kernel_rfl) (by exact HS.out _ B2d) (fun hHeld => ?_)
      refine wpAnyH_take (i := 0) (v := ?_) rfl (by kernel_rfl) (by kernel_rfl) (by kernel_rfl) (fun _ _ _ h => h) (Or.inl ⟨by rfl, ?hy⟩) (by assumption) ?_
      case hy => (intro w hSw; (try dsimp only at hSw); go_simp; try (with_reducible rfl))
      (try simp only [List.getElem_toArray, List.getElem_cons_succ, List.getElem_cons_zero, Act.put, List.setIfInBounds_toArray, List.set_cons_zero, List.set_cons_succ])
      refine wpAnyH_take (i := 1) (v := ?_) rfl (by kernel_rfl) (by kernel_rfl) (by kernel_rfl) (fun _ _ _ h => h) (Or.inl ⟨by rfl, ?hy⟩) (by assumption) ?_
      case hy => (intro w hSw; (try dsimp only at hSw); go_simp; try (with_reducible rfl))
      (try simp only [List.getElem_toArray, List.getElem_cons_succ, List.getElem_cons_zero, Act.put, List.setIfInBounds_toArray, List.set_cons_zero, List.set_cons_succ])
      refine wpAnyH_take (i := 2) (v := ?_) rfl (by kernel_rfl) (by kernel_rfl) (by kernel_rfl) (fun _ _ _ h => h) (Or.inl ⟨by rfl, ?hy⟩) (by assumption) ?_
      case hy => (intro w hSw; (try dsimp only at hSw); go_simp; try (with_reducible rfl))
      (try simp only [List.getElem_toArray, List.getElem_cons_succ, List.getElem_cons_zero, Act.put, List.setIfInBounds_toArray, List.set_cons_zero, List.set_cons_succ])
      refine wpAnyH_take (i := 3) (v := ?_) rfl (by kernel_rfl) (by kernel_rfl) (by kernel_rfl) (fun _ _ _ h => h) (Or.inl ⟨by rfl, ?hy⟩) (by assumption) ?_
      case hy => (intro w hSw; (try dsimp only at hSw); go_simp; try (with_reducible rfl))
      (try simp only [List.getElem_toArray, List.getElem_cons_succ, List.getElem_cons_zero, Act.put, List.setIfInBounds_toArray, List.set_cons_zero, List.set_cons_succ])
      refine wpAnyH_take (i := 4) (v := ?_) rfl (by kernel_rfl) (by kernel_rfl) (by kernel_rfl) (fun _ _ _ h => h) (Or.inl ⟨by rfl, ?hy⟩) (by assumption) ?_
      case hy => (intro w hSw; (try dsimp only at hSw); go_simp; try (with_reducible rfl))
      (try simp only [List.getElem_toArray, List.getElem_cons_succ, List.getElem_cons_zero, Act.put, List.setIfInBounds_toArray, List.set_cons_zero, List.set_cons_succ])
      refine wpAnyH_ready (rs := [5]) (by kernel_rfl) (by simp) ?_
      refine AllReadyH.cons rfl (fun KK hKK => ?_) AllReadyH.nil
      go_simp
      (go_at_call 64; ((with_reducible refine (cs _).mono ?_); rintro e w6 ⟨rfl, hb6⟩; have B6 := bel_trans B2d hb6))
      refine hKK.out _ _ (by exact HS.out _ B6) (fun hHeld => ?_)
      clear hKK KK
      (try simp only [List.getElem_toArray, List.getElem_cons_succ, List.getElem_cons_zero, Act.put, List.setIfInBounds_toArray, List.set_cons_zero, List.set_cons_succ])
      refine wpAnyH_take (i := 6) (v := ?_) rfl (by kernel_rfl) (by kernel_rfl) (by kernel_rfl) (fun _ _ _ h => h) (Or.inl ⟨by rfl, ?hy⟩) (by assumption) ?_
      case hy => (intro w hSw; (try dsimp only at hSw); go_simp; try (with_reducible rfl))
      (try simp only [List.getElem_toArray, List.getElem_cons_succ, List.getElem_cons_zero, Act.put, List.setIfInBounds_toArray, List.set_cons_zero, List.set_cons_succ])
      refine wpAnyH_take (i := 7) (v := undef) rfl (by kernel_rfl) (by kernel_rfl) (by kernel_rfl) (fun _ _ _ h => h) (Or.inr ⟨by rfl, rfl⟩) (by assumption) ?_
      (try simp only [List.getElem_toArray, List.getElem_cons_succ, List.getElem_cons_zero, Act.put, List.setIfInBounds_toArray, List.set_cons_zero, List.set_cons_succ])
      refine wpAnyH_take (i := 8) (v := undef) rfl (by kernel_rfl) (by kernel_rfl) (by kernel_rfl) (fun _ _ _ h => h) (Or.inr ⟨by rfl, rfl⟩) (by assumption) ?_
      (try simp only [List.getElem_toArray, List.getElem_cons_succ, List.getElem_cons_zero, Act.put, List.setIfInBounds_toArray, List.set_cons_zero, List.set_cons_succ])
      refine wpAnyH_take (i := 9) (v := undef) rfl (by kernel_rfl) (by kernel_rfl) (by kernel_rfl) (fun _ _ _ h => h) (Or.inr ⟨by rfl, rfl⟩) (by assumption) ?_
      (try simp only [List.getElem_toArray, List.getElem_cons_succ, List.getElem_cons_zero, Act.put, List.setIfInBounds_toArray, List.set_cons_zero, List.set_cons_succ])
      refine wpAnyH_take (i := 10) (v := ?_) rfl (by kernel_rfl) (by kernel_rfl) (by kernel_rfl) (fun _ _ _ h => h) (Or.inl ⟨by rfl, ?hy⟩) (by assumption) ?_
      case hy => (intro w hSw; (try dsimp only at hSw); go_simp; try (with_reducible rfl))
      (try simp only [List.getElem_toArray, List.getElem_cons_succ, List.getElem_cons_zero, Act.put, List.setIfInBounds_toArray, List.set_cons_zero, List.set_cons_succ])
      refine wpAnyH_ready (rs := [11]) (by kernel_rfl) (by simp) ?_
      refine AllReadyH.cons rfl (fun KK hKK => ?_) AllReadyH.nil
      go_simp
      (go_at_call 63; ((with_reducible refine (cy _ B6).mono ?_); rintro e w8 ⟨rfl, hb8⟩; have B8 := bel_trans B6 hb8))
      refine hKK.out _ _ (by exact HS.out _ B8) (fun hHeld => ?_)
      clear hKK KK
      (try simp only [List.getElem_toArray, List.getElem_cons_succ, List.getElem_cons_zero, Act.put, List.setIfInBounds_toArray, List.set_cons_zero, List.set_cons_succ])
      refine wpAnyH_take (i := 12) (v := ?_) rfl (by kernel_rfl) (by kernel_rfl) (by kernel_rfl) (fun _ _ _ h => h) (Or.inl ⟨by rfl, ?hy⟩) (by assumption) ?_
      case hy => (intro w hSw; (try dsimp only at hSw); go_simp; try (with_reducible rfl))
      (try simp only [List.getElem_toArray, List.getElem_cons_succ, List.getElem_cons_zero, Act.put, List.setIfInBounds_toArray, List.set_cons_zero, List.set_cons_succ])
      refine wpAnyH_take (i := 13) (v := ?_) rfl (by kernel_rfl) (by kernel_rfl) (by kernel_rfl) (fun _ _ _ h => h) (Or.inl ⟨by rfl, ?hy⟩) (by assumption) ?_
      case hy => (intro w hSw; (try dsimp only at hSw); go_simp; try (with_reducible rfl))
      (try simp only [List.getElem_toArray, List.getElem_cons_succ, List.getElem_cons_zero, Act.put, List.setIfInBounds_toArray, List.set_cons_zero, List.set_cons_succ])
      refine wpAnyH_done (by kernel_rfl) ?_ _
      refine NoPanic.normal ?_
      all_goals go_wp2
      all_goals go_ret
      exact ⟨rfl, bel_trans HB.out B8⟩
    · rw [Bool.false_or] at cy
      go_wp2
      go_wp2_with fail
      refine wp_region_noPanic ?_
      refine wp_region_held_drew (S := fun w' => w'.cell? ⟨w3.heap.size, 0, none⟩ = some (.int .i64 xo) ∧ w'.cell? ⟨w3.heap.size, 1, none⟩ = some (.string xs) ∧ w'.cell? ⟨w3.heap.size, 2, none⟩ = some (.int .i64 xz) ∧ w'.cell? ⟨w3.heap.size, 3, none⟩ = some (.slice a' n' c')) (by kernel_rfl) (by exact HS.out _ B2d) (fun hHeld => ?_)
      refine wpAnyH_take (i := 0) (v := ?_) rfl (by kernel_rfl) (by kernel_rfl) (by kernel_rfl) (fun _ _ _ h => h) (Or.inl ⟨by rfl, ?hy⟩) (by assumption) ?_
      case hy => (intro w hSw; (try dsimp only at hSw); go_simp; try (with_reducible rfl))
      (try simp only [List.getElem_toArray, List.getElem_cons_succ, List.getElem_cons_zero, Act.put, List.setIfInBounds_toArray, List.set_cons_zero, List.set_cons_succ])
      refine wpAnyH_take (i := 1) (v := ?_) rfl (by kernel_rfl) (by kernel_rfl) (by kernel_rfl) (fun _ _ _ h => h) (Or.inl ⟨by rfl, ?hy⟩) (by assumption) ?_
      case hy => (intro w hSw; (try dsimp only at hSw); go_simp; try (with_reducible rfl))
      (try simp only [List.getElem_toArray, List.getElem_cons_succ, List.getElem_cons_zero, Act.put, List.setIfInBounds_toArray, List.set_cons_zero, List.set_cons_succ])
      refine wpAnyH_take (i := 2) (v := ?_) rfl (by kernel_rfl) (by kernel_rfl) (by kernel_rfl) (fun _ _ _ h => h) (Or.inl ⟨by rfl, ?hy⟩) (by assumption) ?_
      case hy => (intro w hSw; (try dsimp only at hSw); go_simp; try (with_reducible rfl))
      (try simp only [List.getElem_toArray, List.getElem_cons_succ, List.getElem_cons_zero, Act.put, List.setIfInBounds_toArray, List.set_cons_zero, List.set_cons_succ])
      refine wpAnyH_take (i := 3) (v := ?_) rfl (by kernel_rfl) (by kernel_rfl) (by kernel_rfl) (fun _ _ _ h => h) (Or.inl ⟨by rfl, ?hy⟩) (by assumption) ?_
      case hy => (intro w hSw; (try dsimp only at hSw); go_simp; try (with_reducible rfl))
      (try simp only [List.getElem_toArray, List.getElem_cons_succ, List.getElem_cons_zero, Act.put, List.setIfInBounds_toArray, List.set_cons_zero, List.set_cons_succ])
      refine wpAnyH_take (i := 4) (v := ?_) rfl (by kernel_rfl) (by kernel_rfl) (by kernel_rfl) (fun _ _ _ h => h) (Or.inl ⟨by rfl, ?hy⟩) (by assumption) ?_
      case hy => (intro w hSw; (try dsimp only at hSw); go_simp; try (with_reducible rfl))
      (try simp only [List.getElem_toArray, List.getElem_cons_succ, List.getElem_cons_zero, Act.put, List.setIfInBounds_toArray, List.set_cons_zero, List.set_cons_succ])
      refine wpAnyH_ready (rs := [5]) (by kernel_rfl) (by simp) ?_
      refine AllReadyH.cons rfl (fun KK hKK => ?_) AllReadyH.nil
      go_simp
      (go_at_call 64; ((with_reducible refine (cs _).mono ?_); rintro e w6 ⟨rfl, hb6⟩; have B6 := bel_trans B2d hb6))
      refine hKK.out _ _ (by exact HS.out _ B6) (fun hHeld => ?_)
      clear hKK KK
      (try simp only [List.getElem_toArray, List.getElem_cons_succ, List.getElem_cons_zero, Act.put, List.setIfInBounds_toArray, List.set_cons_zero, List.set_cons_succ])
      refine wpAnyH_take (i := 6) (v := ?_) rfl (by kernel_rfl) (by kernel_rfl) (by kernel_rfl) (fun _ _ _ h => h) (Or.inl ⟨by rfl, ?hy⟩) (by assumption) ?_
      case hy => (intro w hSw; (try dsimp only at hSw); go_simp; try (with_reducible rfl))
      (try simp only [List.getElem_toArray, List.getElem_cons_succ, List.getElem_cons_zero, Act.put, List.setIfInBounds_toArray, List.set_cons_zero, List.set_cons_succ])
      refine wpAnyH_take (i := 7) (v := ?_) rfl (by kernel_rfl) (by kernel_rfl) (by kernel_rfl) (fun _ _ _ h => h) (Or.inl ⟨by rfl, ?hy⟩) (by assumption) ?_
      case hy => (intro w hSw; (try dsimp only at hSw); go_simp; try (with_reducible rfl))
      (try simp only [List.getElem_toArray, List.getElem_cons_succ, List.getElem_cons_zero, Act.put, List.setIfInBounds_toArray, List.set_cons_zero, List.set_cons_succ])
      refine wpAnyH_take (i := 8) (v := ?_) rfl (by kernel_rfl) (by kernel_rfl) (by kernel_rfl) (fun _ _ _ h => h) (Or.inl ⟨by rfl, ?hy⟩) (by assumption) ?_
      case hy => (intro w hSw; (try dsimp only at hSw); go_simp; try (with_reducible rfl))
      (try simp only [List.getElem_toArray, List.getElem_cons_succ, List.getElem_cons_zero, Act.put, List.setIfInBounds_toArray, List.set_cons_zero, List.set_cons_succ])
      refine wpAnyH_take (i := 9) (v := ?_) rfl (by kernel_rfl) (by kernel_rfl) (by kernel_rfl) (fun _ _ _ h => h) (Or.inl ⟨by rfl, ?hy⟩) (by assumption) ?_
      case hy => (intro w hSw; (try dsimp only at hSw); go_simp; try (with_reducible rfl))
      (try simp only [List.getElem_toArray, List.getElem_cons_succ, List.getElem_cons_zero, Act.put, List.setIfInBounds_toArray, List.set_cons_zero, List.set_cons_succ])
      refine wpAnyH_take (i := 10) (v := ?_) rfl (by kernel_rfl) (by kernel_rfl) (by kernel_rfl) (fun _ _ _ h => h) (Or.inl ⟨by rfl, ?hy⟩) (by assumption) ?_
      case hy => (intro w hSw; (try dsimp only at hSw); go_simp; try (with_reducible rfl))
      (try simp only [List.getElem_toArray, List.getElem_cons_succ, List.getElem_cons_zero, Act.put, List.setIfInBounds_toArray, List.set_cons_zero, List.set_cons_succ])
      refine wpAnyH_ready (rs := [11]) (by kernel_rfl) (by simp) ?_
      refine AllReadyH.cons rfl (fun KK hKK => ?_) AllReadyH.nil
      go_simp
      (go_at_call 63; ((with_reducible refine (cy _ B6).mono ?_); rintro e w8 ⟨rfl, hb8⟩; have B8 := bel_trans B6 hb8))
      refine hKK.out _ _ (by exact HS.out _ B8) (fun hHeld => ?_)
      clear hKK KK
      (try simp only [List.getElem_toArray, List.getElem_cons_succ, List.getElem_cons_zero, Act.put, List.setIfInBounds_toArray, List.set_cons_zero, List.set_cons_succ])
      refine wpAnyH_take (i := 12) (v := ?_) rfl (by kernel_rfl) (by kernel_rfl) (by kernel_rfl) (fun _ _ _ h => h) (Or.inl ⟨by rfl, ?hy⟩) (by assumption) ?_
      case hy => (intro w hSw; (try dsimp only at hSw); go_simp; try (with_reducible rfl))
      (try simp only [List.getElem_toArray, List.getElem_cons_succ, List.getElem_cons_zero, Act.put, List.setIfInBounds_toArray, List.set_cons_zero, List.set_cons_succ])
      refine wpAnyH_take (i := 13) (v := ?_) rfl (by kernel_rfl) (by kernel_rfl) (by kernel_rfl) (fun _ _ _ h => h) (Or.inl ⟨by rfl, ?hy⟩) (by assumption) ?_
      case hy => (intro w hSw; (try dsimp only at hSw); go_simp; try (with_reducible rfl))
      (try simp only [List.getElem_toArray, List.getElem_cons_succ, List.getElem_cons_zero, Act.put, List.setIfInBounds_toArray, List.set_cons_zero, List.set_cons_succ])
      refine wpAnyH_done (by kernel_rfl) ?_ _
      refine NoPanic.normal ?_
      all_goals go_wp2
      all_goals go_ret
      exact ⟨rfl, bel_trans HB.out B8⟩
theorem rterm_any {bs : List ByteArray} (hb : shB bs) : ∀ t : Tm, okT t → size t ≤ 1000000 → RTermOk bs t := by
  intro t
  refine Tm.ind (P := fun t => okT t → size t ≤ 1000000 → RTermOk bs t) ?_ t
  intro t ih hk hs b bm d a n c w hbs hA
  obtain ⟨o, s, nu, l⟩ := t
  rw [okT] at hk
  obtain ⟨ha, hsz, hnu, hl⟩ := hk
  have hT : TsW w a n c l := ArW.args hA
  have hsl : sizes l ≤ 999999 := by rw [size] at hs; omega
  have ih' : ∀ x ∈ l, RTermOk bs x := fun x hx => ih x hx (okTs_mem hl hx) (by have := sizes_le hx; omega)
  have htt := tXs_size hb l hl
  have hX : ∀ x ∈ l, (tX bs x).size ≤ 1000000000 := fun x hx => by
    have h1 := tX_size hb x (okTs_mem hl hx)
    have := sizes_le hx
    omega
  show Calls _ _ #[.agg #[.int .i64 o, .string s, .int .i64 nu, .slice a n c], .slice b bm d] w _
  rcases ha with ⟨rfl, hn⟩ | ⟨rfl, h0, hn⟩ | rfl | ⟨rfl, hn⟩ | ⟨rfl, hn⟩ | ⟨rfl, hn⟩ | ⟨rfl, hn⟩ | ⟨rfl, hn⟩
  · obtain rfl := List.eq_nil_of_length_eq_zero hn
    rw [tX_app _ _ _ _ _ (Or.inl rfl)]
    exact rterm_name 1 (Or.inl rfl) s nu b bm d a n c w hbs hT.1
  · rw [tX_bound]; exact rterm_bound hb.1 s nu b bm d a n c w hbs h0 hnu.2
  · rw [tX_app _ _ _ _ _ (Or.inr rfl)]
    have hXl : (tXs bs l).length = n := by rw [tXs_map, List.length_map]; exact hT.1.symm
    unfold apX
    by_cases h0 : n = 0
    · rw [if_pos (by omega)]; exact rterm_name 3 (Or.inr rfl) s nu b bm d a n c w hbs h0
    · rw [if_neg (by omega)]
      have hll : ∀ l : List Tm, l.length ≤ sizes l := fun l => by
        induction l with
        | nil => exact Nat.le_refl _
        | cons t l ih => rw [List.length_cons, sizes]; have := size_pos t; omega
      exact rterm_app l ih' (by omega) s nu b bm d a n c w hbs hsz hT (by have := hT.1; have := hll l; omega) (by omega)
  · rw [tX_num]; exact rterm_num s nu b bm d a n c w hbs hnu.1 hnu.2
  · match l, hn with
    | [x, y], _ => rw [tX_add]; exact rterm_add x y (ih' x (by simp)) (ih' y (by simp)) (hX x (by simp)) (hX y (by simp)) s nu b bm d a n c w hbs hT
  · match l, hn with
    | [x, y], _ => rw [tX_sub]; exact rterm_sub x y (ih' x (by simp)) (ih' y (by simp)) (hX x (by simp)) (hX y (by simp)) s nu b bm d a n c w hbs hT
  · match l, hn with
    | [x], _ => rw [tX_neg]; exact rterm_neg x (ih' x (by simp)) (hX x (by simp)) s nu b bm d a n c w hbs hT
  · match l, hn with
    | [x], _ => rw [tX_mul]; exact rterm_mul x (ih' x (by simp)) (hX x (by simp)) s nu b bm d a n c w hbs hT hnu.1 hnu.2
end Go.Proofs.YtcigeclnbhcohaaGreatDoor.Sh
