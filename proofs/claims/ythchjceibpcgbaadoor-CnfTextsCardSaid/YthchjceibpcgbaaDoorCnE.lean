/-
  What is proved: what the document's own Text of a set of clauses returns.
-/
import Derived.Test.YthchjceibpcgbaaDoorCnD
import Derived.Test.YthchjceibpcgbaaDoorDgT
import Derived.Deep.Cut
import Derived.Deep.CutRange
import Derived.Deep.RegionHeld3
namespace Go.Proofs.YthchjceibpcgbaaDoor.Cn
open Go.RowKit L Lt
set_option linter.unusedVariables false
set_option linter.unusedSimpArgs false

theorem flat_len {f : List Int → List UInt8} {M : Nat} : ∀ {L : List (List Int)}, (∀ c ∈ L, (f c).length ≤ M) → (L.flatMap f).length ≤ L.length * M
  | [], _ => by simp
  | c :: L, h => by
    have h1 := flat_len (fun d hd => h d (List.mem_cons_of_mem _ hd) : ∀ d ∈ L, _)
    have h2 := h c (by simp)
    rw [List.flatMap_cons, List.length_append, List.length_cons, Nat.add_mul]; omega
/-- the numbers of a clause, a blank behind each -/
def nmT (c : List Int) : List UInt8 := c.flatMap fun x => Lib.itoa x ++ [32]
theorem nmT_len : ∀ {c : List Int}, R64s c → (nmT c).length ≤ c.length * 21
  | [], _ => by simp [nmT]
  | x :: c, h => by
    have h1 := nmT_len (fun y hy => h y (List.mem_cons_of_mem _ hy) : R64s c)
    have hx := h x (by simp)
    have h2 := Dig.itoa_len (n := x) hx.1 (by have := hx.2; omega)
    have e : nmT (x :: c) = Lib.itoa x ++ [32] ++ nmT c := by simp [nmT]
    rw [e, List.length_append, List.length_append]; simp only [List.length_cons, List.length_nil]; omega
theorem nmT_take {c : List Int} {j : Nat} {x : Int} (h : c[j]? = some x) : nmT (c.take (j + 1)) = nmT (c.take j) ++ (Lib.itoa x ++ [32]) := by
  unfold nmT; rw [List.take_add_one, h, List.flatMap_append]; simp
/-- the text of the first clauses -/
def tkT (N : Int) (n : Nat) (L : List (List Int)) : List UInt8 := hdT N n ++ [10] ++ L.flatMap fun c => lnT c ++ [10]
theorem tkT_take {N : Int} {n : Nat} {G : List (List Int)} {k : Nat} {X : List Int} (h : G[k]? = some X) : tkT N n (G.take (k + 1)) = tkT N n (G.take k) ++ nmT X ++ [48, 10] := by
  unfold tkT; rw [List.take_add_one, h, List.flatMap_append]
  simp [lnT, nmT]
theorem tkT_len {N : Int} {n : Nat} {L : List (List Int)} (hN : R64 N) (hn : n ≤ 9223372036854775807) (h : ∀ c ∈ L, R64s c ∧ c.length ≤ 64) : (tkT N n L).length ≤ 60 + L.length * 1346 := by
  have h1 := Dig.itoa_len (n := N) hN.1 (by have := hN.2; omega)
  have h2 := Dig.itoa_len (n := (n : Int)) (by omega) (by omega)
  have h3 := flat_len (f := fun c => lnT c ++ [10]) (M := 1346) (L := L) (fun c hc => by
    have := nmT_len (h c hc).1
    have := (h c hc).2
    have e : lnT c = nmT c ++ [48] := rfl
    rw [e]; simp; omega)
  unfold tkT hdT
  simp only [List.length_append, List.length_cons, List.length_nil]
  omega
theorem BA_ap (a b : List UInt8) : Dig.BA a ++ Dig.BA b = Dig.BA (a ++ b) := by rw [Dig.BA_app, Dig.BA_list]
theorem strI {a b : ByteArray} {x y : Int} (h : a = b) (h2 : x = y) : Ending.returned (.tuple #[.string a, .int .i64 x]) = .returned (.tuple #[.string b, .int .i64 y]) := by rw [h, h2]

set_option maxRecDepth 100000 in
set_option maxHeartbeats 4000000 in
theorem RText_any (z : CfZ) (w : World) (h : z.ok w) :
    Calls Tryd.prog 11 #[z.val] w fun e w' => e = .returned (.tuple #[.string (Dig.BA (if (rgC z.N z.G).2 = 0 then txT z.N z.G else [])), .int .i64 (rgC z.N z.G).2]) ∧ Below w.heap.size w w' := by
  obtain ⟨N, a, n, c, G⟩ := z
  obtain ⟨hN, hn, hG, hs⟩ := h
  simp only at hN hn hG hs
  show Calls Tryd.prog 11 #[.agg #[.int .i64 N, .slice a n c]] w fun e w' => e = .returned (.tuple #[.string (Dig.BA (if (rgC N G).2 = 0 then txT N G else [])), .int .i64 (rgC N G).2]) ∧ Below w.heap.size w w'
  obtain ⟨W2, hW2, hB2, S2⟩ := boxC w N a n c
  obtain ⟨s0, s1⟩ := S2.two
  have LS := Lib.hid (Blk.lt S2)
  have cr := RRightC_any ⟨N, a, n, c, G⟩ W2 ⟨hN, hn, hG.below hB2, hs⟩
  have hrk := @rgC_ok N G
  simp only at cr
  change Calls _ _ #[.agg #[.int .i64 N, .slice a n c]] W2 _ at cr
  obtain ⟨R, hR⟩ : ∃ R, rgC N G = R := ⟨_, rfl⟩
  rw [hR] at cr hrk ⊢
  obtain ⟨R1, R2⟩ := R
  change Calls _ _ _ W2 (fun e w' => e = .returned (.tuple #[.int .i64 R1, .int .i64 R2]) ∧ Below W2.heap.size W2 w') at cr
  show Calls _ _ _ _ fun e w' => e = .returned (.tuple #[.string (Dig.BA (if R2 = 0 then txT N G else [])), .int .i64 R2]) ∧ _
  have hrk2 : Hid (R2 = 0 ↔ _) := hrk
  clear hrk
  have HB2 := Lib.hid hB2
  cases hv : (R2 != 0)
  · have hv0 : R2 = 0 := by simpa using hv
    subst hv0
    rw [if_pos rfl]
    obtain ⟨hN2, hn2, hc2⟩ := hrk2.out.1 rfl
    have H := Lib.hid (hG.below hB2)
    have HX := Lib.hid hG.1
    have hrow : ∀ c ∈ G, R64s c ∧ c.length ≤ 64 := fun c hc => ⟨(hs c hc).1, (rg1_ok.1 (hc2 c hc)).1⟩
    have HR := Lib.hid hrow
    have HL := Lib.hid (fun k => tkT_len (n := n) (L := G.take k) hN hn (fun c hc => hrow c (List.take_subset _ _ hc)))
    have hn4 : n ≤ 4096 := by have := hG.1; omega
    have cN := Lib.hid (fun W => Dig.rtext_any N hN.1 (by have := hN.2; omega) W)
    have cM := Lib.hid (fun W => Dig.rtext_any (n : Int) (by omega) (by omega) W)
    have cX := Lib.hid (fun x (hx : R64 x) W => Dig.rtext_any x hx.1 (by have := hx.2; omega) W)
    have hl1 : (Dig.BA (Lib.itoa N)).size ≤ 20 := by rw [Dig.BA_size]; exact Dig.itoa_len hN.1 (by have := hN.2; omega)
    have hl2 : (Dig.BA (Lib.itoa (n : Int))).size ≤ 20 := by rw [Dig.BA_size]; exact Dig.itoa_len (by omega) (by omega)
    have e0 : Hid ((⟨#[112, 32, 99, 110, 102, 32]⟩ ++ Dig.BA (Lib.itoa N) ++ ⟨#[32]⟩ ++ Dig.BA (Lib.itoa (n : Int)) ++ ⟨#[10]⟩ : ByteArray) = Dig.BA (tkT N n [])) := by
      show _ = _
      have e1 : (⟨#[112, 32, 99, 110, 102, 32]⟩ : ByteArray) = Dig.BA [112, 32, 99, 110, 102, 32] := rfl
      have e2 : (⟨#[32]⟩ : ByteArray) = Dig.BA [32] := rfl
      have e3 : (⟨#[10]⟩ : ByteArray) = Dig.BA [10] := rfl
      rw [e1, e2, e3, BA_ap, BA_ap, BA_ap, BA_ap]
      congr 1
      simp [tkT, hdT]
    have eT : Hid (txT N G = tkT N n G) := Lib.hid (by unfold txT tkT; rw [← hG.1])
    generalize txT N G = TX at *
    obtain ⟨tN, hTN⟩ : ∃ t, Dig.BA (Lib.itoa N) = t := ⟨_, rfl⟩
    obtain ⟨tM, hTM⟩ : ∃ t, Dig.BA (Lib.itoa (n : Int)) = t := ⟨_, rfl⟩
    rw [hTN] at hl1 cN e0
    rw [hTM] at hl2 cM e0
    obtain ⟨X1, e1⟩ : ∃ X, (⟨#[112, 32, 99, 110, 102, 32]⟩ : ByteArray) ++ tN = X := ⟨_, rfl⟩
    obtain ⟨X2, e2⟩ : ∃ X, X1 ++ (⟨#[32]⟩ : ByteArray) = X := ⟨_, rfl⟩
    obtain ⟨X3, e3⟩ : ∃ X, X2 ++ tM = X := ⟨_, rfl⟩
    rw [e1, e2, e3] at e0
    have l6 : (⟨#[112, 32, 99, 110, 102, 32]⟩ : ByteArray).size = 6 := rfl
    have l1 : (⟨#[32]⟩ : ByteArray).size = 1 := rfl
    have l2 : (⟨#[10]⟩ : ByteArray).size = 1 := rfl
    have p1 : X1.size ≤ 26 := by rw [← e1, ByteArray.size_append]; omega
    have p2 : X2.size ≤ 27 := by rw [← e2, ByteArray.size_append]; omega
    have p3 : X3.size ≤ 47 := by rw [← e3, ByteArray.size_append]; omega
    have r1 : ∀ w, (Op.stringOp .add ⟨#[112, 32, 99, 110, 102, 32]⟩ tN).run Tryd.prog w = .ok (.string X1) w := fun w => by rw [run_string_add_sum w _ _ (by omega), e1]
    have r2 : ∀ w, (Op.stringOp .add X1 ⟨#[32]⟩).run Tryd.prog w = .ok (.string X2) w := fun w => by rw [run_string_add_sum w _ _ (by omega), e2]
    have r3 : ∀ w, (Op.stringOp .add X2 tM).run Tryd.prog w = .ok (.string X3) w := fun w => by rw [run_string_add_sum w _ _ (by omega), e3]
    have r4 : ∀ w, (Op.stringOp .add X3 ⟨#[10]⟩).run Tryd.prog w = .ok (.string (Dig.BA (tkT N n []))) w := fun w => by rw [run_string_add_sum w _ _ (by omega), e0.out]
    have hp := Lib.hid (And.intro r1 (And.intro r2 (And.intro r3 r4)))
    clear r1 r2 r3 r4 e1 e2 e3 l6 l1 l2
    clear hG hs hB2 S2 hrk2 hrow hTN hTM hR hN hc2 p1 p2 p3 hv hN2 hn2
    have hv : ((0 : Int) != 0) = false := rfl
    go_enter Tryd.func11, Tryd.ntmps11
    go_upto_region 4 with (go_at_call 9; ((with_reducible refine cr.mono ?_); rintro e w3 ⟨rfl, b3⟩; have B3 := Lib.hid b3; have t0 := (b3.cell (p := ⟨_, _, none⟩) LS.out).trans s0; have t1 := (b3.cell (p := ⟨_, _, none⟩) LS.out).trans s1; clear b3))
    have HH := Lib.hid (show ∀ w', Below w3.heap.size w3 w' → (w'.cell? ⟨w.heap.size, 0, none⟩ = some (.int .i64 N) ∧ w'.cell? ⟨w.heap.size, 1, none⟩ = some (.slice a n c)) from fun w' h =>
      ⟨((bel_trans B3.out h).cell (p := ⟨_, _, none⟩) LS.out).trans s0, ((bel_trans B3.out h).cell (p := ⟨_, _, none⟩) LS.out).trans s1⟩)
    have b3D : Below w3.heap.size w3 w3.drew := (Below.refl _ _).drew
    trace_state
    go_cut [6] from 17 to 27 (fun v wc => v = .string (Dig.BA (tkT N n [])) ∧ Hid (Below w3.heap.size w3 wc))
    case first =>
      obtain ⟨r1, r2, r3, r4⟩ := hp.out
      generalize Dig.BA (tkT N n []) = S0 at *
      go_region_held3 (fun w' => w'.cell? ⟨w.heap.size, 0, none⟩ = some (.int .i64 N) ∧ w'.cell? ⟨w.heap.size, 1, none⟩ = some (.slice a n c))
        (first | exact HH.out _ (by assumption) | go_keep)
        (first
          | (go_at_call 20; ((with_reducible refine (cN.out _).mono ?_); rintro e wk1 ⟨rfl, hbk1⟩; have Bk1 := bel_trans (a := w3) (by assumption) hbk1))
          | (go_at_call 20; ((with_reducible refine (cM.out _).mono ?_); rintro e wk2 ⟨rfl, hbk2⟩; have Bk2 := bel_trans (a := w3) (by assumption) hbk2)))
      all_goals ((try go_wp2_with fail); go_meet; exact ⟨rfl, Lib.hid (by assumption)⟩)
    case rest =>
      obtain ⟨rfl, HBc⟩ := hcut
      obtain ⟨T, hT⟩ : ∃ T : Nat → List UInt8, ∀ k, tkT N n (G.take k) = T k := ⟨_, fun _ => rfl⟩
      have HT0 : Hid (Dig.BA (tkT N n []) = Dig.BA (T 0)) := Lib.hid (by rw [← hT]; rfl)
      have HTe : Hid (TX = T n) := Lib.hid (by rw [eT.out, ← hT, List.take_of_length_le (by have := HX.out; omega)])
      have HTs : Hid (∀ k X, G[k]? = some X → T (k + 1) = T k ++ nmT X ++ [48, 10]) := Lib.hid (fun k X h => by rw [← hT, ← hT]; exact tkT_take h)
      have HTl : Hid (∀ k, k ≤ n → (T k).length ≤ 6000000) := Lib.hid (fun k hk => by
        rw [← hT]
        have h1 := HL.out k
        have h2 : (G.take k).length ≤ 4096 := by rw [List.length_take]; have := HX.out; omega
        have h3 : (G.take k).length * 1346 ≤ 4096 * 1346 := Nat.mul_le_mul_right _ h2
        omega)
      generalize Dig.BA (tkT N n []) = S0 at *
      clear hT e0 cN cM hl1 hl2 hp t0 t1 eT HL
      go_wp2
      go_loopw [6, 7] (fun s i wr0 => ∃ (wr : World) (k : Nat) (S : ByteArray), wr = wr0 ∧ k ≤ n ∧ s = .string S ∧ i = .int .i64 k ∧ Hid (S = Dig.BA (T k)) ∧ Hid (Below w3.heap.size w3 wr)) (fun s i _ => n - (intOf i).toNat)
      case atStart => exact ⟨_, 0, _, rfl, by omega, rfl, rfl, HT0, HBc⟩
      case round =>
        obtain ⟨wr, k, S, rfl, hk, rfl, rfl, hS, hB⟩ := hrel
        obtain ⟨t0, t1⟩ := HH.out wr hB.out
        have hSl : S.size ≤ 6000000 := by rw [hS.out, Dig.BA_size]; exact HTl.out k hk
        by_cases hlt : k < n
        · obtain ⟨g, o, B, p, q, X, rfl, hg, z0, hx, hX⟩ := SlG.at H.out hlt
          have hBw := Lib.hid (bel_trans B3.out hB.out)
          have y0 : wr.cell? ⟨g, o + k, none⟩ = some (.slice B p q) := (hBw.out.cell (p := ⟨g, _, none⟩) hg).trans z0
          obtain ⟨hXr, hX64⟩ := HR.out X (List.mem_of_getElem? hx)
          have hp := hX.1
          have hp64 : p ≤ 64 := by omega
          have hXH := Lib.hid hX
          have hXR := Lib.hid hXr
          have hpH := Lib.hid hp
          have hk0 : 0 ≤ (k : Int) := by omega
          have hk1 : (k : Int) < (n : Int) := by omega
          have hTn := Lib.hid (HTs.out k X hx)
          have y0H := Lib.hid y0
          clear z0 hx hX hXr hX64 hp
          go_wp2
          go_loopw [6, 8] (fun s i wr0 => ∃ (ws : World) (j : Nat) (S' : ByteArray), ws = wr0 ∧ j ≤ p ∧ s = .string S' ∧ i = .int .i64 j ∧ Hid (S' = Dig.BA (T k ++ nmT (X.take j))) ∧ Hid (Below wr.heap.size wr ws)) (fun s i _ => p - (intOf i).toNat)
          case atStart => exact ⟨_, 0, _, rfl, by omega, rfl, rfl, Lib.hid (by rw [hS.out]; simp [nmT]), Lib.hid (Below.refl _ _)⟩
          case round =>
            obtain ⟨ws, j, S', rfl, hj, rfl, rfl, hS', hB'⟩ := hrel
            have hBs := Lib.hid (bel_trans hB.out hB'.out)
            obtain ⟨u0, u1⟩ := HH.out ws hBs.out
            have x0 : ws.cell? ⟨g, o + k, none⟩ = some (.slice B p q) := (hB'.out.cell (p := ⟨g, _, none⟩) (Nat.lt_of_lt_of_le hg hBw.out.size)).trans y0H.out
            have hS'l : S'.size ≤ 7000000 := by
              rw [hS'.out, Dig.BA_size, List.length_append]
              have h1 := HTl.out k hk
              have h2 := nmT_len (c := X.take j) (fun x hx => hXR.out x (List.take_subset _ _ hx))
              have h3 : (X.take j).length ≤ 64 := by rw [List.length_take]; omega
              omega
            by_cases hjp : j < p
            · obtain ⟨g', o', x, rfl, hg', z1, hx1⟩ := SlI.at hXH.out hjp
              have x1 : ws.cell? ⟨g', o' + j, none⟩ = some (.int .i64 x) := ((bel_trans hBw.out hB'.out).cell (p := ⟨g', _, none⟩) hg').trans z1
              have cx := cX.out x (hXR.out x (List.mem_of_getElem? hx1)) ws
              have hxR := hXR.out x (List.mem_of_getElem? hx1)
              have hl1 : (Dig.BA (Lib.itoa x)).size ≤ 20 := by rw [Dig.BA_size]; exact Dig.itoa_len hxR.1 (by have := hxR.2; omega)
              have e1 : Hid (S' ++ Dig.BA (Lib.itoa x) ++ ⟨#[32]⟩ = Dig.BA (T k ++ nmT (X.take (j + 1)))) := by
                show _ = _
                rw [hS'.out, nmT_take hx1, BA_ap, show (⟨#[32]⟩ : ByteArray) = Dig.BA [32] from rfl, BA_ap]
                congr 1; simp
              have hj0 : 0 ≤ (j : Int) := by omega
              have hj1 : (j : Int) < (p : Int) := by omega
              generalize Dig.BA (Lib.itoa x) = tx at *
              have p1 : (S' ++ tx).size ≤ 8000000 := by rw [ByteArray.size_append]; omega
              clear z1 hx1 hxR
              go_wp2_with (go_at_call 20; ((with_reducible refine cx.mono ?_); rintro e w5 ⟨rfl, b5⟩))
              go_roundw
              case rel => exact ⟨_, j + 1, _, rfl, by omega, rfl, by go_num, e1, Lib.hid (bel_trans hB'.out b5)⟩
              case measure => simp [intOf]; omega
            · obtain rfl : j = p := by omega
              have e1 : Hid (S' ++ ⟨#[48, 10]⟩ = Dig.BA (T (k + 1))) := by
                show _ = _
                rw [hS'.out, hTn.out, List.take_of_length_le (by have := hpH.out; omega), show (⟨#[48, 10]⟩ : ByteArray) = Dig.BA [48, 10] from rfl, BA_ap]
              go_wp2
              go_roundw
              case rel => exact ⟨_, k + 1, _, rfl, by omega, rfl, by go_num, e1, hBs⟩
              case measure => simp [intOf]; omega
        · obtain rfl : k = n := by omega
          have e1 : Hid (S = Dig.BA TX) := Lib.hid (by rw [hS.out, HTe.out])
          go_wp2
          go_ret2
          exact ⟨strI e1.out rfl, bel_trans HB2.out (bel_trans B3.out hB.out)⟩
  · have hv0 : R2 ≠ 0 := by simpa using hv
    rw [if_neg hv0]
    have e0 : Hid ((⟨#[]⟩ : ByteArray) = Dig.BA []) := Lib.hid rfl
    clear hG hs hB2 S2 hrk2 hR hN
    go_enter Tryd.func11, Tryd.ntmps11
    go_wp2_with (go_at_call 9; ((with_reducible refine cr.mono ?_); rintro e w3 ⟨rfl, b3⟩))
    go_ret2
    exact ⟨strI e0.out rfl, bel_trans HB2.out b3⟩
end Go.Proofs.YthchjceibpcgbaaDoor.Cn
