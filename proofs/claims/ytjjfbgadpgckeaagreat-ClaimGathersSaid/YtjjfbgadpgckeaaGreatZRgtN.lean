/-
  What is proved: the document's names of the variables of claims (package of layer 8): one more among rising ones, those of a term, of a claim, of a list of claims.
-/
import Derived.Test.YtjjfbgadpgckeaaGreatBL
import Derived.Test.YtjjfbgadpgckeaaGreatBR
import Derived.Test.YtjjfbgadpgckeaaGreatBT
import Derived.Test.YtjjfbgadpgckeaaGreatBC
namespace Go.Proofs.YtjjfbgadpgckeaaGreat.C
open Go.RowKit L T
set_option linter.unusedVariables false
set_option linter.unusedSimpArgs false

/-- the list returned reads as these texts -/
def RtS (X : List ByteArray) (w : World) (e : Ending) (w' : World) : Prop := ∃ A c', e = .returned (.slice A X.length c') ∧ SlS w' A X.length c' X ∧ Below w.heap.size w w'
theorem put_at (s : ByteArray) : ∀ (X : List ByteArray) (k : Nat), k ≤ X.length → (∀ x ∈ X.take k, cmpN x s = -1) → (∀ x, X[k]? = some x → cmpN x s = 1) → putN s X = X.take k ++ ([s] ++ X.drop k)
  | [], k, hk, _, _ => by rw [putN]; simp
  | x :: X, 0, _, _, h => by
    have h1 := h x rfl
    have ha := linN.anti x s
    rw [putN, if_pos (by omega)]; rfl
  | x :: X, k + 1, hk, h0, h => by
    have h1 := h0 x (by simp)
    have ha := linN.anti x s
    rw [putN, if_neg (by omega), if_neg (fun e => by have := (linN.eq x s).2 e.symm; omega), put_at s X k (by simpa using hk) (fun y hy => h0 y (by simp [hy])) (fun y hy => h y (by simpa using hy))]
    simp
theorem put_same (s : ByteArray) : ∀ (X : List ByteArray) (k : Nat), (∀ x ∈ X.take k, cmpN x s = -1) → X[k]? = some s → putN s X = X
  | [], k, _, h => by simp at h
  | x :: X, 0, _, h => by
    have e : x = s := by simpa using h
    subst e
    rw [putN, if_neg (by have := (linN.eq x x).2 rfl; omega), if_pos rfl]
  | x :: X, k + 1, h0, h => by
    have h1 := h0 x (by simp)
    have ha := linN.anti x s
    rw [putN, if_neg (by omega), if_neg (fun e => by have := (linN.eq x s).2 e.symm; omega), put_same s X k (fun y hy => h0 y (by simp [hy])) (by simpa using h)]
theorem SlS.take {w : World} {a : Option Addr} {n c : Nat} {X : List ByteArray} (h : SlS w a n c X) (k : Nat) (hk : k ≤ n) : SlS w a k c (X.take k) := by
  refine ⟨⟨by rw [List.length_take]; have := h.1.1; omega, fun h0 => ?_⟩, by have := h.2.1; omega, h.2.2⟩
  obtain ⟨b, o, ha, hb, hr⟩ := h.1.2 (by omega)
  exact ⟨b, o, ha, hb, fun j hj => by rw [hr j (by rw [List.length_take] at hj; omega)]; simp⟩
theorem SlS.drop {w : World} {b o n c : Nat} {X : List ByteArray} (h : SlS w (some ⟨b, o, none⟩) n c X) (k : Nat) (hk : k ≤ n) : SlS w (some ⟨b, o + k, none⟩) (n - k) (c - k) (X.drop k) := by
  refine ⟨⟨by rw [List.length_drop]; have := h.1.1; omega, fun h0 => ?_⟩, by have := h.2.1; omega, fun e => by cases e⟩
  obtain ⟨b', o', ha, hb, hr⟩ := h.1.2 (by omega)
  injection ha with ha; injection ha with h1 h2; subst h1 h2
  exact ⟨_, _, rfl, hb, fun j hj => by
    have hj2 : k + j < X.length := by rw [List.length_drop] at hj; omega
    have := hr (k + j) hj2
    rw [show o + k + j = o + (k + j) by omega, this]; simp⟩
theorem slS_one8 (w : World) (s : ByteArray) : SlS (w.alloc (.cells #[.string s] 9)) (some ⟨w.heap.size, 0, none⟩) 1 1 [s] := by
  obtain ⟨A, c, hv, h⟩ := (OwnS.made w [s] w.heap.size (Nat.le_refl _) (by unfold maxLen; simp)).slS
  injection hv with h1 h2 h3
  subst h1 h3
  exact h
theorem SlS.w {w w' : World} {a : Option Addr} {n c : Nat} {X : List ByteArray} (h : SlS w a n c X) (hb : Below w.heap.size w w') : SlS w' a n c X := ⟨h.1.below hb, h.2⟩
theorem own_rtS {w w' : World} {v : Value} {X : List ByteArray} (h : OwnS w' w.heap.size v X) (hb : Below w.heap.size w w') : RtS X w (.returned v) w' := by
  obtain ⟨A, c, hv, hs⟩ := h.slS
  exact ⟨A, c, by rw [hv], hs, hb⟩
set_option maxRecDepth 100000 in
set_option maxHeartbeats 8000000 in
theorem put8_any (X : List ByteArray) (s : ByteArray) (a : Option Addr) (n c : Nat) (hl : X.length ≤ 1000000) (w : World) (H : SlS w a n c X) :
    Calls Tryz.prog 113 #[.slice a n c, .string s] w fun e w' => RtS (putN s X) w e w' := by
  have hn : n = X.length := H.1.1
  have hn2 : n ≤ 1000000 := by omega
  have HH := Lib.hid H
  have hnc : n ≤ c := H.2.1
  have HIn := Lib.hid (show ∀ k, k ≤ n → (∀ x ∈ X.take k, cmpN x s = -1) → (∀ x, X[k]? = some x → cmpN x s = 1) → putN s X = X.take k ++ ([s] ++ X.drop k) from fun k hk => put_at s X k (by omega))
  have HSame := Lib.hid (show ∀ k, (∀ x ∈ X.take k, cmpN x s = -1) → X[k]? = some s → RtS (putN s X) w (.returned (.slice a n c)) w from fun k h0 h => by
    rw [put_same s X k h0 h]
    exact ⟨a, c, by rw [hn], by rw [← hn]; exact H, Below.refl _ _⟩)
  clear H
  generalize putN s X = R at *
  have Hn := Lib.hid hn
  clear hn hl
  go_enter Tryz.func113, Tryz.ntmps113
  go_wp2
  go_loop [5] (fun i => ∃ (k : Nat), k ≤ n ∧ i = .int .i64 k ∧ Hid (∀ x ∈ X.take k, cmpN x s = -1)) (fun i => n - (intOf i).toNat)
  case atStart => exact ⟨0, by omega, rfl, Lib.hid (by simp)⟩
  case round =>
    obtain ⟨k, hk, rfl, hR⟩ := hrel
    by_cases hlt : k < n
    · obtain ⟨b, o, x, rfl, hbw, y1, hx, _⟩ := HH.out.1.at hlt
      have h1 := @less_yes x s
      have h3 := @same_yes x s
      have hk0 : 0 ≤ (k : Int) := by omega
      have hk1 : (k : Int) < (n : Int) := by omega
      rcases linN.rng x s with hc | hc | hc
      · rw [hc] at h1 h3
        simp only [Int.reduceNeg, decide_true, Int.reduceEq, decide_false] at h1 h3
        have hnew : Hid (∀ x ∈ X.take (k + 1), cmpN x s = -1) := Lib.hid (fun y hy => by
          rw [List.take_add_one, hx] at hy
          rcases List.mem_append.1 hy with hy | hy
          · exact hR.out y hy
          · rw [show y = x by simpa using hy]; exact hc)
        clear hc hx hR
        go_wp2
        go_round
        case rel => exact ⟨k + 1, by omega, by go_num, hnew⟩
        case measure => simp [intOf]; omega
      · have e : s = x := ((linN.eq x s).1 hc).symm
        subst e
        rw [hc] at h1 h3
        simp only [Int.reduceNeg, decide_true, Int.reduceEq, decide_false] at h1
        have hnew := Lib.hid (HSame.out k hR.out hx)
        clear hc hx hR h3
        go_wp2
        go_ret
        exact hnew.out
      · rw [hc] at h1 h3
        simp only [Int.reduceNeg, decide_true, Int.reduceEq, decide_false] at h1 h3
        have h4 : (x.toList = s.toList) = False := by simpa using h3
        have HRv := Lib.hid (HIn.out k hk hR.out (fun y hy => by rw [hx] at hy; injection hy with hy; rw [← hy]; exact hc))
        have HT := Lib.hid (SlS.take HH.out k hk)
        have HD := Lib.hid (SlS.drop HH.out k hk)
        have hTl : (X.take k).length = k := by rw [List.length_take]; have := Hn.out; omega
        have nk : ¬ n = k := by omega
        clear hc hx hR
        generalize X.take k = XT at *
        generalize X.drop k = XD at *
        go_wp2_with (first
          | (at_builtin; ((refine app_strs2 rfl (.tmp 34) (.tmp 37) rfl w.heap.size _ [] rfl (OwnS.nil _ _) _ _ _ XT rfl HT.out (by simp; omega) (Nat.le_refl _) ?_); intro v1 w1 ho1 hg1; have B1 : Below w.heap.size w w1 := (Below.refl _ _).grown hg1 (Nat.le_refl _) (fun q hq => by cases hq); have hs1 := B1.size))
          | (at_builtin; ((refine app_strs2 rfl (.tmp 39) (.tmp 41) rfl w.heap.size v1 ([] ++ XT) rfl (World.ownsRow.alloc ho1 (.cells #[.string s] 9)) _ _ _ [s] rfl (slS_one8 w1 s) (by simp; omega) (by simp; omega) ?_); intro v2 w2 ho2 hg2; have B2 : Below w.heap.size w w2 := (bel_alloc B1 _).grown hg2 (bel_alloc B1 _).size (fun q hq => (World.ownsRow.lt ho1 q hq).1); have hs2 := B2.size))
          | (at_builtin; ((refine app_strs2 rfl (.tmp 43) (.tmp 46) rfl w.heap.size v2 ([] ++ XT ++ [s]) rfl ho2 _ _ _ XD rfl (SlS.w HD.out B2) (by simp; omega) hs2 ?_); intro v3 w3 ho3 hg3; have B3 : Below w.heap.size w w3 := B2.grown hg3 B2.size (fun q hq => (World.ownsRow.lt ho2 q hq).1))))
        go_ret
        rw [HRv.out]
        exact own_rtS (by simpa using ho3) B3
    · obtain rfl : k = n := by omega
      have HRv := Lib.hid (HIn.out k hk hR.out (fun y hy => by rw [List.getElem?_eq_none (by have := Hn.out; omega)] at hy; cases hy))
      have HT := Lib.hid (SlS.take HH.out k hk)
      rw [List.take_of_length_le (by have := Hn.out; omega), List.drop_eq_nil_of_le (by have := Hn.out; omega)] at HRv
      rw [List.take_of_length_le (by have := Hn.out; omega)] at HT
      clear hR HSame HIn
      cases a with
      | none =>
        obtain rfl : c = k := by have := HH.out.2.2 rfl; omega
        go_wp2_with (first
          | (at_builtin; ((refine app_strs2 rfl (.tmp 34) (.tmp 37) rfl w.heap.size _ [] rfl (OwnS.nil _ _) _ _ _ X rfl HT.out (by simp; have := Hn.out; omega) (Nat.le_refl _) ?_); intro v1 w1 ho1 hg1; have B1 : Below w.heap.size w w1 := (Below.refl _ _).grown hg1 (Nat.le_refl _) (fun q hq => by cases hq); have hs1 := B1.size))
          | (at_builtin; ((refine app_strs2 rfl (.tmp 39) (.tmp 41) rfl w.heap.size v1 ([] ++ X) rfl (World.ownsRow.alloc ho1 (.cells #[.string s] 9)) _ _ _ [s] rfl (slS_one8 w1 s) (by simp; have := Hn.out; omega) (by simp; omega) ?_); intro v2 w2 ho2 hg2; have B2 : Below w.heap.size w w2 := (bel_alloc B1 _).grown hg2 (bel_alloc B1 _).size (fun q hq => (World.ownsRow.lt ho1 q hq).1); have hs2 := B2.size))
          | (at_builtin; ((refine app_strs2 rfl (.tmp 43) (.tmp 46) rfl w.heap.size v2 ([] ++ X ++ [s]) rfl ho2 _ _ _ [] rfl ⟨IsS.nil _ _, Nat.zero_le _, (fun e => by first | rfl | cases e)⟩ (by simp; have := Hn.out; omega) hs2 ?_); intro v3 w3 ho3 hg3; have B3 : Below w.heap.size w w3 := B2.grown hg3 B2.size (fun q hq => (World.ownsRow.lt ho2 q hq).1))))
        go_ret
        rw [HRv.out]
        exact own_rtS (by simpa using ho3) B3
      | some ad =>
        by_cases hck : c = k
        · obtain rfl := hck
          go_wp2_with (first
            | (at_builtin; ((refine app_strs2 rfl (.tmp 34) (.tmp 37) rfl w.heap.size _ [] rfl (OwnS.nil _ _) _ _ _ X rfl HT.out (by simp; have := Hn.out; omega) (Nat.le_refl _) ?_); intro v1 w1 ho1 hg1; have B1 : Below w.heap.size w w1 := (Below.refl _ _).grown hg1 (Nat.le_refl _) (fun q hq => by cases hq); have hs1 := B1.size))
            | (at_builtin; ((refine app_strs2 rfl (.tmp 39) (.tmp 41) rfl w.heap.size v1 ([] ++ X) rfl (World.ownsRow.alloc ho1 (.cells #[.string s] 9)) _ _ _ [s] rfl (slS_one8 w1 s) (by simp; have := Hn.out; omega) (by simp; omega) ?_); intro v2 w2 ho2 hg2; have B2 : Below w.heap.size w w2 := (bel_alloc B1 _).grown hg2 (bel_alloc B1 _).size (fun q hq => (World.ownsRow.lt ho1 q hq).1); have hs2 := B2.size))
            | (at_builtin; ((refine app_strs2 rfl (.tmp 43) (.tmp 46) rfl w.heap.size v2 ([] ++ X ++ [s]) rfl ho2 _ _ _ [] rfl ⟨IsS.nil _ _, Nat.zero_le _, (fun e => by first | rfl | cases e)⟩ (by simp; have := Hn.out; omega) hs2 ?_); intro v3 w3 ho3 hg3; have B3 : Below w.heap.size w w3 := B2.grown hg3 B2.size (fun q hq => (World.ownsRow.lt ho2 q hq).1))))
          go_ret
          rw [HRv.out]
          exact own_rtS (by simpa using ho3) B3
        · have hkc : ¬ k = c := fun e => hck e.symm
          go_wp2_with (first
            | (at_builtin; ((refine app_strs2 rfl (.tmp 34) (.tmp 37) rfl w.heap.size _ [] rfl (OwnS.nil _ _) _ _ _ X rfl HT.out (by simp; have := Hn.out; omega) (Nat.le_refl _) ?_); intro v1 w1 ho1 hg1; have B1 : Below w.heap.size w w1 := (Below.refl _ _).grown hg1 (Nat.le_refl _) (fun q hq => by cases hq); have hs1 := B1.size))
            | (at_builtin; ((refine app_strs2 rfl (.tmp 39) (.tmp 41) rfl w.heap.size v1 ([] ++ X) rfl (World.ownsRow.alloc ho1 (.cells #[.string s] 9)) _ _ _ [s] rfl (slS_one8 w1 s) (by simp; have := Hn.out; omega) (by simp; omega) ?_); intro v2 w2 ho2 hg2; have B2 : Below w.heap.size w w2 := (bel_alloc B1 _).grown hg2 (bel_alloc B1 _).size (fun q hq => (World.ownsRow.lt ho1 q hq).1); have hs2 := B2.size))
            | (at_builtin; ((refine app_strs2 rfl (.tmp 43) (.tmp 46) rfl w.heap.size v2 ([] ++ X ++ [s]) rfl ho2 _ _ _ [] rfl ⟨IsS.nil _ _, Nat.zero_le _, (fun e => by first | rfl | cases e)⟩ (by simp; have := Hn.out; omega) hs2 ?_); intro v3 w3 ho3 hg3; have B3 : Below w.heap.size w w3 := B2.grown hg3 B2.size (fun q hq => (World.ownsRow.lt ho2 q hq).1))))
          go_ret
          rw [HRv.out]
          exact own_rtS (by simpa using ho3) B3
theorem slS_ret {w w' : World} {A : Option Addr} {n c : Nat} {X : List ByteArray} (h : SlS w' A n c X) (hb : Below w.heap.size w w') : RtS X w (.returned (.slice A n c)) w' := by
  obtain rfl : n = X.length := h.1.1
  exact ⟨A, c, rfl, h, hb⟩
def TnOk (t : Tm) : Prop := ∀ (X : List ByteArray) (A : Option Addr) (n c : Nat) (a : Option Addr) (m d : Nat) (w : World), SlS w A n c X → ArW w t a m d → X.length + size t ≤ 1000000 →
  Calls Tryz.prog 85 #[.slice A n c, .agg #[.int .i64 (opT t), .string (nameT t), .int .i64 (numT t), .slice a m d]] w fun e w' => RtS (putsN X (nmsT t)) w e w'
theorem sizes_take_leN {l : List Tm} {i : Nat} {x : Tm} (h : l[i]? = some x) : (nmsTs (l.take i)).length + size x ≤ sizes l := by
  have h1 := nmsTs_len (l.take i)
  have h2 := alls_lt h
  omega
theorem wts_take_leN : ∀ {l : List Cl} {i : Nat} {x : Cl}, l[i]? = some x → (nmsCs (l.take i)).length + wt x ≤ wts l
  | [], i, x, h => by simp at h
  | c :: l, 0, x, h => by
    have e : c = x := by simpa using h
    subst e
    rw [List.take_zero, wts]; simp [nmsCs]
  | c :: l, i + 1, x, h => by
    have h1 := wts_take_leN (l := l) (i := i) (x := x) (by simpa using h)
    have h2 := nmsC_len c
    rw [List.take_succ_cons, nmsCs, wts, List.length_append]; omega
set_option maxRecDepth 100000 in
set_option maxHeartbeats 8000000 in
theorem termNames_step (t : Tm) (hok : ∀ x ∈ argsT t, TnOk x) : TnOk t := by
  intro X A n c a m d w hX hA hl
  obtain ⟨W, hW, hB, hs, S⟩ := box1 w (opT t) (nameT t) (numT t) a m d
  have hT := TsW.b (ArW.args hA) hB
  have hm : m ≤ 9223372036854775807 := by have h1 := hT.2.1; have h2 := hT.2.2.1; unfold maxLen at h2; omega
  have hsz : size t = 1 + sizes (argsT t) := by cases t; rw [size]; rfl
  rw [nmsT_mk, putsN_app]
  have HK := Lib.hid (show ∀ i x, (argsT t)[i]? = some x → TnOk x from fun i x h => hok x (List.mem_of_getElem? h))
  have hLen : ∀ X1 : List ByteArray, X1.length ≤ X.length + 1 → ∀ i x, (argsT t)[i]? = some x → (putsN X1 (nmsTs ((argsT t).take i))).length + size x ≤ 1000000 := fun X1 h1 i x hx => by
    have h2 := putsN_len (nmsTs ((argsT t).take i)) X1
    have h3 := sizes_take_leN hx
    omega
  have hX' := SlS.w hX hB
  have cP := put8_any X (nameT t) A n c (by omega) W hX'
  have hpl := putN_len (nameT t) X
  have HS := Lib.hid S
  have HT := Lib.hid hT
  have HB := Lib.hid hB
  obtain ⟨s0, s1, s2, s3⟩ := S.four
  clear hX hA hT hok S hsz hl
  generalize argsT t = l at *
  generalize opT t = op at *
  generalize nameT t = nm at *
  generalize numT t = nu at *
  by_cases h1 : op = 1
  · subst h1
    rw [if_pos rfl, show putsN X [nm] = putN nm X from rfl]
    have HLen := Lib.hid (hLen _ hpl)
    clear hLen hpl hX'
    generalize putN nm X = X1 at *
    go_enter Tryz.func85, Tryz.ntmps85
    go_wp2_with (go_at_call 113; ((with_reducible refine cP.mono ?_); rintro e w3 ⟨A3, c3, rfl, hN3, hb3⟩; have HN3 := Lib.hid hN3; have HB3 := Lib.hid hb3; obtain ⟨t0, t1, t2, t3⟩ := (TBox.b HS.out hb3).four; clear hN3 hb3))
    go_loopw [0, 5] (fun v i wr0 => ∃ (wr : World) (j : Nat) (A' : Option Addr) (n' c' : Nat), wr = wr0 ∧ j ≤ m ∧ .slice A' n' c' = v ∧ i = .int .i64 j ∧ Hid (SlS wr A' n' c' (putsN X1 (nmsTs (l.take j)))) ∧ Hid (Below W.heap.size W wr)) (fun _ i _ => m - (intOf i).toNat)
    case atStart => exact ⟨_, 0, _, _, _, rfl, by omega, rfl, rfl, Lib.hid (by rw [List.take_zero, nmsTs]; exact HN3.out), HB3⟩
    case round =>
      obtain ⟨wr, j, A', n', c', rfl, hj, rfl, rfl, hN, hBr⟩ := hrel
      obtain ⟨e0, e1, e2, e3⟩ := (TBox.b HS.out hBr.out).four
      by_cases hlt : j < m
      · obtain ⟨bb, o, x, AA, M, Cc, rfl, hbb, z0, z1, z2, z3, hx, hax⟩ := HT.out.at hlt
        have y0 := (hBr.out.cell (p := ⟨bb, _, none⟩) hbb).trans z0
        have y1 := (hBr.out.cell (p := ⟨bb, _, none⟩) hbb).trans z1
        have y2 := (hBr.out.cell (p := ⟨bb, _, none⟩) hbb).trans z2
        have y3 := (hBr.out.cell (p := ⟨bb, _, none⟩) hbb).trans z3
        have cV := HK.out j x hx _ A' n' c' AA M Cc wr hN.out (ArW.b hax hBr.out) (HLen.out j x hx)
        have Hst := Lib.hid (show putsN X1 (nmsTs (l.take (j + 1))) = putsN (putsN X1 (nmsTs (l.take j))) (nmsT x) by rw [nmsTs_step hx, putsN_app])
        clear z0 z1 z2 z3 hax HK hx HT hN
        generalize opT x = op' at *
        generalize nameT x = nm' at *
        generalize numT x = nu' at *
        have hj0 : 0 ≤ (j : Int) := by omega
        have hj1 : (j : Int) < (m : Int) := by omega
        go_wp2_with (go_at_call 85; ((with_reducible refine cV.mono ?_); rintro e w5 ⟨A5, c5, rfl, hN5, hb5⟩; have HN5 := Lib.hid hN5; have HB5 := Lib.hid (bel_trans hBr.out hb5); clear hN5 hb5))
        go_roundw
        case rel => exact ⟨_, j + 1, _, _, _, rfl, by omega, rfl, by go_num, Lib.hid (by rw [Hst.out]; exact HN5.out), HB5⟩
        case measure => simp [intOf]; omega
      · have hjm : j = m := by omega
        subst hjm
        have Hfin := Lib.hid (show RtS (putsN X1 (nmsTs l)) w (.returned (.slice A' n' c')) wr from by have h := hN.out; rw [List.take_of_length_le (by have := HT.out.1; omega)] at h; exact slS_ret h (bel_trans HB.out hBr.out))
        clear hN HT
        go_wp2
        go_ret
        exact Hfin.out
  · have q1 := beq_no' h1
    rw [if_neg h1, show putsN X [] = X from rfl]
    have HLen := Lib.hid (hLen X (by omega))
    have HN3 := Lib.hid hX'
    have HB3 : Hid (Below W.heap.size W W) := Lib.hid (Below.refl _ _)
    clear hLen hpl hX' cP h1
    generalize hX1 : X = X1 at *
    clear hX1
    go_enter Tryz.func85, Tryz.ntmps85
    go_wp2
    go_loopw [0, 5] (fun v i wr0 => ∃ (wr : World) (j : Nat) (A' : Option Addr) (n' c' : Nat), wr = wr0 ∧ j ≤ m ∧ .slice A' n' c' = v ∧ i = .int .i64 j ∧ Hid (SlS wr A' n' c' (putsN X1 (nmsTs (l.take j)))) ∧ Hid (Below W.heap.size W wr)) (fun _ i _ => m - (intOf i).toNat)
    case atStart => exact ⟨_, 0, _, _, _, rfl, by omega, rfl, rfl, Lib.hid (by rw [List.take_zero, nmsTs]; exact HN3.out), HB3⟩
    case round =>
      obtain ⟨wr, j, A', n', c', rfl, hj, rfl, rfl, hN, hBr⟩ := hrel
      obtain ⟨e0, e1, e2, e3⟩ := (TBox.b HS.out hBr.out).four
      by_cases hlt : j < m
      · obtain ⟨bb, o, x, AA, M, Cc, rfl, hbb, z0, z1, z2, z3, hx, hax⟩ := HT.out.at hlt
        have y0 := (hBr.out.cell (p := ⟨bb, _, none⟩) hbb).trans z0
        have y1 := (hBr.out.cell (p := ⟨bb, _, none⟩) hbb).trans z1
        have y2 := (hBr.out.cell (p := ⟨bb, _, none⟩) hbb).trans z2
        have y3 := (hBr.out.cell (p := ⟨bb, _, none⟩) hbb).trans z3
        have cV := HK.out j x hx _ A' n' c' AA M Cc wr hN.out (ArW.b hax hBr.out) (HLen.out j x hx)
        have Hst := Lib.hid (show putsN X1 (nmsTs (l.take (j + 1))) = putsN (putsN X1 (nmsTs (l.take j))) (nmsT x) by rw [nmsTs_step hx, putsN_app])
        clear z0 z1 z2 z3 hax HK hx HT hN
        generalize opT x = op' at *
        generalize nameT x = nm' at *
        generalize numT x = nu' at *
        have hj0 : 0 ≤ (j : Int) := by omega
        have hj1 : (j : Int) < (m : Int) := by omega
        go_wp2_with (go_at_call 85; ((with_reducible refine cV.mono ?_); rintro e w5 ⟨A5, c5, rfl, hN5, hb5⟩; have HN5 := Lib.hid hN5; have HB5 := Lib.hid (bel_trans hBr.out hb5); clear hN5 hb5))
        go_roundw
        case rel => exact ⟨_, j + 1, _, _, _, rfl, by omega, rfl, by go_num, Lib.hid (by rw [Hst.out]; exact HN5.out), HB5⟩
        case measure => simp [intOf]; omega
      · have hjm : j = m := by omega
        subst hjm
        have Hfin := Lib.hid (show RtS (putsN X1 (nmsTs l)) w (.returned (.slice A' n' c')) wr from by have h := hN.out; rw [List.take_of_length_le (by have := HT.out.1; omega)] at h; exact slS_ret h (bel_trans HB.out hBr.out))
        clear hN HT
        go_wp2
        go_ret
        exact Hfin.out
theorem termNames_any (t : Tm) : TnOk t := Tm.ind termNames_step t
def CnOk (t : Cl) : Prop := ∀ (X : List ByteArray) (A : Option Addr) (n c : Nat) (kk : SS) (a : Option Addr) (m d : Nat) (w : World), SlS w A n c X → ArWC w t kk a m d → X.length + wt t ≤ 1000000 →
  Calls Tryz.prog 47 #[.slice A n c, .agg #[.int .i64 (opC t), .string (nmC t), .string (soC t), .slice kk.a kk.n kk.c, .slice a m d]] w fun e w' => RtS (putsN X (nmsC t)) w e w'
set_option maxRecDepth 100000 in
set_option maxHeartbeats 8000000 in
theorem names8_step (t : Cl) (hok : ∀ x ∈ subC t, CnOk x) : CnOk t := by
  intro X A n c kk a m d w hX hA hl
  obtain ⟨ka, kn, kc⟩ := kk
  obtain ⟨W, hW, hB, hs, S⟩ := cbox1 w (opC t) (nmC t) (soC t) ⟨ka, kn, kc⟩ a m d
  have hT := TsW.b (ArWC.terms hA) hB
  have hC := CsW.b (ArWC.subs hA) hB
  dsimp only at hT hW
  have hm : m ≤ 9223372036854775807 := by have h1 := hC.2.1; have h2 := hC.2.2.1; unfold maxLen at h2; omega
  have hkn : kn ≤ 9223372036854775807 := by have h1 := hT.2.1; have h2 := hT.2.2.1; unfold maxLen at h2; omega
  have hsz := wt_mk t
  rw [nmsC_mk]
  have HK := Lib.hid (show ∀ i x, (subC t)[i]? = some x → CnOk x from fun i x h => hok x (List.mem_of_getElem? h))
  have HLen1 := Lib.hid (show ∀ i x, (tsC t)[i]? = some x → (putsN X (nmsTs ((tsC t).take i))).length + size x ≤ 1000000 from fun i x hx => by
    have h2 := putsN_len (nmsTs ((tsC t).take i)) X
    have h3 := sizes_take_leN hx
    omega)
  have HLen2 := Lib.hid (show ∀ i x, (subC t)[i]? = some x → (putsN X (nmsTs (tsC t) ++ nmsCs ((subC t).take i))).length + wt x ≤ 1000000 from fun i x hx => by
    have h2 := putsN_len (nmsTs (tsC t) ++ nmsCs ((subC t).take i)) X
    have h3 := nmsTs_len (tsC t)
    have h4 := wts_take_leN hx
    rw [List.length_append] at h2
    omega)
  have HN0 : Hid (SlS W A n c (putsN X (nmsTs ((tsC t).take 0)))) := Lib.hid (by rw [List.take_zero, nmsTs]; exact SlS.w hX hB)
  have HS := Lib.hid S
  have HT := Lib.hid hT
  have HC := Lib.hid hC
  have HB := Lib.hid hB
  have HB0 : Hid (Below W.heap.size W W) := Lib.hid (Below.refl _ _)
  obtain ⟨s0, s1, s2, s3, s4⟩ := S.five
  clear hX hA hT hC hok S hsz hl
  generalize tsC t = lt at *
  generalize subC t = l at *
  generalize opC t = op at *
  generalize nmC t = nm at *
  generalize soC t = so at *
  go_enter Tryz.func47, Tryz.ntmps47
  go_wp2
  go_loopw [0, 5] (fun v i wr0 => ∃ (wr : World) (j : Nat) (A' : Option Addr) (n' c' : Nat), wr = wr0 ∧ j ≤ kn ∧ .slice A' n' c' = v ∧ i = .int .i64 j ∧ Hid (SlS wr A' n' c' (putsN X (nmsTs (lt.take j)))) ∧ Hid (Below W.heap.size W wr)) (fun _ i _ => kn - (intOf i).toNat)
  case atStart => exact ⟨_, 0, _, _, _, rfl, by omega, rfl, rfl, HN0, HB0⟩
  case round =>
    obtain ⟨wr, j, A', n', c', rfl, hj, rfl, rfl, hN, hBr⟩ := hrel
    obtain ⟨e0, e1, e2, e3, e4⟩ := (CBox.b HS.out hBr.out).five
    by_cases hlt : j < kn
    · obtain ⟨bb, o, x, AA, M, Cc, rfl, hbb, z0, z1, z2, z3, hx, hax⟩ := HT.out.at hlt
      have y0 := (hBr.out.cell (p := ⟨bb, _, none⟩) hbb).trans z0
      have y1 := (hBr.out.cell (p := ⟨bb, _, none⟩) hbb).trans z1
      have y2 := (hBr.out.cell (p := ⟨bb, _, none⟩) hbb).trans z2
      have y3 := (hBr.out.cell (p := ⟨bb, _, none⟩) hbb).trans z3
      have cV := termNames_any x _ A' n' c' AA M Cc wr hN.out (ArW.b hax hBr.out) (HLen1.out j x hx)
      have Hst := Lib.hid (show putsN X (nmsTs (lt.take (j + 1))) = putsN (putsN X (nmsTs (lt.take j))) (nmsT x) by rw [nmsTs_step hx, putsN_app])
      clear z0 z1 z2 z3 hax HK hx HT hN
      generalize opT x = op' at *
      generalize nameT x = nm' at *
      generalize numT x = nu' at *
      have hj0 : 0 ≤ (j : Int) := by omega
      have hj1 : (j : Int) < (kn : Int) := by omega
      go_wp2_with (go_at_call 85; ((with_reducible refine cV.mono ?_); rintro e w5 ⟨A5, c5, rfl, hN5, hb5⟩; have HN5 := Lib.hid hN5; have HB5 := Lib.hid (bel_trans hBr.out hb5); clear hN5 hb5))
      go_roundw
      case rel => exact ⟨_, j + 1, _, _, _, rfl, by omega, rfl, by go_num, Lib.hid (by rw [Hst.out]; exact HN5.out), HB5⟩
      case measure => simp [intOf]; omega
    · have hjm : j = kn := by omega
      have HN1 : Hid (SlS wr A' n' c' (putsN X (nmsTs lt ++ nmsCs (l.take 0)))) := Lib.hid (by have h := hN.out; rw [List.take_of_length_le (by have := HT.out.1; omega)] at h; rw [List.take_zero, nmsCs, List.append_nil]; exact h)
      have HB1 := hBr
      clear hN hBr HN0 HB0 HT
      go_wp2
      go_loopw [0, 6] (fun v i wr0 => ∃ (wr : World) (j : Nat) (A' : Option Addr) (n' c' : Nat), wr = wr0 ∧ j ≤ m ∧ .slice A' n' c' = v ∧ i = .int .i64 j ∧ Hid (SlS wr A' n' c' (putsN X (nmsTs lt ++ nmsCs (l.take j)))) ∧ Hid (Below W.heap.size W wr)) (fun _ i _ => m - (intOf i).toNat)
      case atStart => exact ⟨_, 0, _, _, _, rfl, by omega, rfl, rfl, HN1, HB1⟩
      case round =>
        clear e0 e1 e2 e3 e4 HN1 HB1
        obtain ⟨wr', i, A', n', c', rfl, hi, rfl, rfl, hN, hBr⟩ := hrel
        obtain ⟨e0, e1, e2, e3, e4⟩ := (CBox.b HS.out hBr.out).five
        by_cases hlt' : i < m
        · obtain ⟨bb, o, x, xk, AA, M, Cc, rfl, hbb, z0, z1, z2, z3, z4, hx, hax⟩ := HC.out.at hlt'
          have y0 := (hBr.out.cell (p := ⟨bb, _, none⟩) hbb).trans z0
          have y1 := (hBr.out.cell (p := ⟨bb, _, none⟩) hbb).trans z1
          have y2 := (hBr.out.cell (p := ⟨bb, _, none⟩) hbb).trans z2
          have y3 := (hBr.out.cell (p := ⟨bb, _, none⟩) hbb).trans z3
          have y4 := (hBr.out.cell (p := ⟨bb, _, none⟩) hbb).trans z4
          have cV := HK.out i x hx _ A' n' c' xk AA M Cc wr' hN.out (ArWC.b hax hBr.out) (HLen2.out i x hx)
          have Hst := Lib.hid (show putsN X (nmsTs lt ++ nmsCs (l.take (i + 1))) = putsN (putsN X (nmsTs lt ++ nmsCs (l.take i))) (nmsC x) by rw [nmsCs_step hx, ← putsN_app, List.append_assoc])
          clear z0 z1 z2 z3 z4 hax HK hx HC hN
          generalize opC x = op' at *
          generalize nmC x = nm' at *
          generalize soC x = so' at *
          have hi0 : 0 ≤ (i : Int) := by omega
          have hi1 : (i : Int) < (m : Int) := by omega
          go_wp2_with (go_at_call 47; ((with_reducible refine cV.mono ?_); rintro e w5 ⟨A5, c5, rfl, hN5, hb5⟩; have HN5 := Lib.hid hN5; have HB5 := Lib.hid (bel_trans hBr.out hb5); clear hN5 hb5))
          go_roundw
          case rel => exact ⟨_, i + 1, _, _, _, rfl, by omega, rfl, by go_num, Lib.hid (by rw [Hst.out]; exact HN5.out), HB5⟩
          case measure => simp [intOf]; omega
        · have him : i = m := by omega
          have Hfin := Lib.hid (show RtS (putsN X (nmsTs lt ++ nmsCs l)) w (.returned (.slice A' n' c')) wr' from by have h := hN.out; rw [List.take_of_length_le (by have := HC.out.1; omega)] at h; exact slS_ret h (bel_trans HB.out hBr.out))
          clear hN HC him
          go_wp2
          go_ret
          exact Hfin.out
theorem names8_any (t : Cl) : CnOk t := Cl.ind names8_step t
set_option maxHeartbeats 4000000 in
theorem Names8_one (t : Cl) (a : Option Addr) (d : Nat) (w : World) (hw : wt t ≤ 1000000) (hC : CsW w a 1 d [t]) :
    Calls Tryz.prog 20 #[.slice a 1 d] w fun e w' => RtS (putsN [] (nmsC t)) w e w' := by
  obtain ⟨bb, o, x, ⟨xa, xn, xc⟩, AA, M, Cc, rfl, hbb, y0, y1, y2, y3, y4, hx, hax⟩ := hC.at (i := 0) (by omega)
  obtain rfl : t = x := by simpa using hx
  rw [Nat.zero_mul, Nat.add_zero] at y0 y1 y2 y3 y4
  have cV := names8_any t [] none 0 0 ⟨xa, xn, xc⟩ AA M Cc w ⟨IsS.nil _ _, Nat.le_refl _, fun _ => rfl⟩ hax (by simpa using hw)
  dsimp only at *
  clear hC hx hax
  generalize putsN [] (nmsC t) = R at *
  generalize opC t = op at *
  generalize nmC t = nm at *
  generalize soC t = so at *
  go_enter Tryz.func20, Tryz.ntmps20
  go_wp2
  refine wp_loop_rounds 2 ?_
  rw [rounds_succ]
  go_wp2_with (go_at_call 47; ((with_reducible refine cV.mono ?_); rintro e w5 ⟨A5, c5, rfl, hN5, hb5⟩; have HN5 := Lib.hid hN5; have HB5 := Lib.hid hb5; clear hN5 hb5))
  rw [rounds_succ]
  go_wp2
  go_ret
  exact ⟨A5, c5, rfl, HN5.out, HB5.out⟩
end Go.Proofs.YtjjfbgadpgckeaaGreat.C
