/-
  What is proved: the chapter's examples of signatures.
-/
import Derived.Test.YtakcbpmdjdadnaaSgnS
import Derived.Test.YtakcbpmdjdadnaaSgnN
import Derived.Test.YtakcbpmdjdadnaaSgnP
namespace Go.Proofs.Ytakcbpmdjdadnaa.Sgn
open Go.RowKit L Srt
set_option linter.unusedVariables false
set_option linter.unusedSimpArgs false

def SA : List ByteArray := [BA [65]]
def C1 : Core := (BA [102], [BA [65]], BA [65])
def C2 : Core := (BA [99], [], BA [65])
theorem exF1 : funE SA [] C1 = 0 := by
  unfold funE checkE unfitB hasN C1 SA nmB
  simp only [known_or, hasS, ByteArray.toList_eq]
  decide +kernel
theorem exF2 : funE SA [C1] C1 = 4 := by
  unfold funE checkE unfitB hasN C1 SA nmB
  simp only [known_or, hasS, ByteArray.toList_eq]
  decide +kernel
theorem exF3 : funE SA [C1] C2 = 0 := by
  unfold funE checkE unfitB hasN C1 C2 SA nmB
  simp only [known_or, hasS, ByteArray.toList_eq]
  decide +kernel
theorem exC1 : checkE SA (BA [112], [BA [66, 111, 111, 108]], BA [65]) = 11 := by
  unfold checkE unfitB SA nmB
  simp only [known_or, hasS, ByteArray.toList_eq]
  decide +kernel
theorem exC2 : checkE SA (BA [116, 114, 117, 101], [], BA [65]) = 10 := by
  unfold checkE unfitB SA nmB
  simp only [known_or, hasS, ByteArray.toList_eq]
  decide +kernel
theorem exCo : constS [C1, C2] (BA [65]) = [BA [99]] := by
  unfold constS pickB C1 C2
  simp only [ByteArray.toList_eq]
  rfl
theorem okC_small (C : Core) (h1 : C.1.size ≤ 100) (h2 : C.2.2.size ≤ 100) (h3 : C.2.1.length ≤ 8) (h4 : ∀ x ∈ C.2.1, x.size ≤ 100) : okC C := ⟨by omega, by omega, by omega, fun x hx => by have := h4 x hx; omega⟩
theorem okC1 : okC C1 := okC_small _ (by decide) (by decide) (by decide) (by decide)
theorem okCp : okC (BA [112], [BA [66, 111, 111, 108]], BA [65]) := okC_small _ (by decide) (by decide) (by decide) (by decide)
theorem okCt : okC (BA [116, 114, 117, 101], [], BA [65]) := okC_small _ (by decide) (by decide) (by decide) (by decide)
theorem exF2n : funE SA [C1] C1 ≠ 0 := by rw [exF2]; decide
theorem okC2 : okC C2 := okC_small _ (by decide) (by decide) (by decide) (by decide)
theorem strings_same6 (A A' : Option Addr) (n c c' : Nat) (X : List ByteArray) (w : World) (h1 : SlS w A n c X) (h2 : SlS w A' n c' X) (hn : n ≤ 1000000000) :
    Calls Try.prog 23 #[.slice A n c, .slice A' n c'] w fun e w' => e = .returned (.bool true) ∧ Below w.heap.size w w' := by
  have := Strings_any A A' n n c c' X X w h1.1 h2.1 hn hn
  rw [eqL_refl] at this; exact this
theorem fun_post {S : List ByteArray} {K : List Core} {C : Core} {E : Int} {S' : List ByteArray} {K' : List Core} {N M : Nat} {w : World} {e : Ending} {w' : World} (h : FunPost S K C w e w') (hE : funE S K C = E) (hS : funS S K C = S') (hK : funK S K C = K') (hN : S'.length = N) (hM : K'.length = M) : SgPost E S' K' N M w e w' := by
  unfold FunPost at h
  rw [hE, hS, hK, hN, hM] at h
  exact h
theorem funS_ok {S : List ByteArray} {K : List Core} {C : Core} (h : funE S K C = 0) : funS S K C = S := by unfold funS; rw [if_pos h]
theorem funK_ok {S : List ByteArray} {K : List Core} {C : Core} (h : funE S K C = 0) : funK S K C = K ++ [C] := by unfold funK; rw [if_pos h]
theorem funS_no {S : List ByteArray} {K : List Core} {C : Core} (h : funE S K C ≠ 0) : funS S K C = [] := by unfold funS; rw [if_neg h]
theorem funK_no {S : List ByteArray} {K : List Core} {C : Core} (h : funE S K C ≠ 0) : funK S K C = [] := by unfold funK; rw [if_neg h]
theorem consts_sl {X : List ByteArray} {w : World} {e : Ending} {w' : World} (h : ∃ v, e = .returned v ∧ OwnS w' w.heap.size v X ∧ Below w.heap.size w w') : ∃ A c, e = .returned (.slice A X.length c) ∧ SlS w' A X.length c X ∧ Below w.heap.size w w' := by
  obtain ⟨v, he, ho, hb⟩ := h
  obtain ⟨A, c, rfl, hS⟩ := ho.slS
  exact ⟨A, c, he, hS, hb⟩
theorem sl_new1 (w : World) (s : ByteArray) : SlS (w.alloc (.cells #[.string s] 9)) (some ⟨w.heap.size, 0, none⟩) 1 1 [s] := slS_one w s

theorem aliveW (w : World) : ∃ W4, (((w.alloc (.cells #[.string ⟨#[65]⟩] 9)).alloc (.cells #[.slice (some ⟨w.heap.size, 0, none⟩) 1 1, .slice none 0 0] 25)).alloc (.cells #[.string ⟨#[65]⟩] 9)).alloc (.cells #[.string ⟨#[102]⟩, .slice (some ⟨w.heap.size + 2, 0, none⟩) 1 1, .string ⟨#[65]⟩] 27) = W4 ∧ Below w.heap.size w W4 ∧
    SBox W4 (w.heap.size + 1) (some ⟨w.heap.size, 0, none⟩) 1 1 none 0 0 ∧ FBox W4 (w.heap.size + 3) ⟨#[102]⟩ (some ⟨w.heap.size + 2, 0, none⟩) 1 1 ⟨#[65]⟩ ∧ SlS W4 (some ⟨w.heap.size, 0, none⟩) 1 1 SA ∧ SlS W4 (some ⟨w.heap.size + 2, 0, none⟩) 1 1 SA := by
  obtain ⟨W1, hW1⟩ : ∃ W1, w.alloc (.cells #[.string ⟨#[65]⟩] 9) = W1 := ⟨_, rfl⟩
  have z1 : W1.heap.size = w.heap.size + 1 := by rw [← hW1]; simp
  have b1 : Below w.heap.size w W1 := by rw [← hW1]; exact bel_alloc (Below.refl _ _) _
  have q1 : SlS W1 (some ⟨w.heap.size, 0, none⟩) 1 1 SA := by rw [← hW1]; exact sl_new1 w (BA [65])
  obtain ⟨W2, hW2⟩ : ∃ W2, W1.alloc (.cells #[.slice (some ⟨w.heap.size, 0, none⟩) 1 1, .slice none 0 0] 25) = W2 := ⟨_, rfl⟩
  have z2 : W2.heap.size = w.heap.size + 2 := by rw [← hW2]; simp [z1]
  have b2 : Below W1.heap.size W1 W2 := by rw [← hW2]; exact bel_alloc (Below.refl _ _) _
  have s2 : SBox W2 (w.heap.size + 1) (some ⟨w.heap.size, 0, none⟩) 1 1 none 0 0 := by rw [← hW2, ← z1]; exact SBox.new W1 _ _ _ _ _ _
  obtain ⟨W3, hW3⟩ : ∃ W3, W2.alloc (.cells #[.string ⟨#[65]⟩] 9) = W3 := ⟨_, rfl⟩
  have z3 : W3.heap.size = w.heap.size + 3 := by rw [← hW3]; simp [z2]
  have b3 : Below W2.heap.size W2 W3 := by rw [← hW3]; exact bel_alloc (Below.refl _ _) _
  have q3 : SlS W3 (some ⟨w.heap.size + 2, 0, none⟩) 1 1 SA := by rw [← hW3, ← z2]; exact sl_new1 W2 (BA [65])
  obtain ⟨W4, hW4⟩ : ∃ W4, W3.alloc (.cells #[.string ⟨#[102]⟩, .slice (some ⟨w.heap.size + 2, 0, none⟩) 1 1, .string ⟨#[65]⟩] 27) = W4 := ⟨_, rfl⟩
  have b4 : Below W3.heap.size W3 W4 := by rw [← hW4]; exact bel_alloc (Below.refl _ _) _
  have f4 : FBox W4 (w.heap.size + 3) ⟨#[102]⟩ (some ⟨w.heap.size + 2, 0, none⟩) 1 1 ⟨#[65]⟩ := by rw [← hW4, ← z3]; exact FBox.new W3 _ _ _ _ _
  have s4 : SBox W4 (w.heap.size + 1) (some ⟨w.heap.size, 0, none⟩) 1 1 none 0 0 := (s2.b b3).b b4
  have b04 : Below w.heap.size w W4 := bel_trans (bel_trans (bel_trans b1 b2) b3) b4
  have qS : SlS W4 (some ⟨w.heap.size, 0, none⟩) 1 1 SA := ((q1.below b2).below b3).below b4
  have qF : SlS W4 (some ⟨w.heap.size + 2, 0, none⟩) 1 1 SA := q3.below b4
  exact ⟨W4, by rw [hW1, hW2, hW3, hW4], b04, s4, f4, qS, qF⟩

set_option maxRecDepth 100000 in
set_option maxHeartbeats 8000000 in
theorem alive_any (w : World) : Calls Try.prog 8 #[] w fun e w' => e = .returned (.bool true) ∧ Below w.heap.size w w' := by
  obtain ⟨W4, hW4, b04, s4, f4, qS, qF⟩ := aliveW w
  have cF1 : Calls Try.prog 17 #[.agg #[.slice (some ⟨w.heap.size, 0, none⟩) 1 1, .slice none 0 0], .agg #[.string ⟨#[102]⟩, .slice (some ⟨w.heap.size + 2, 0, none⟩) 1 1, .string ⟨#[65]⟩]] W4 (SgPost 0 SA [C1] 1 1 W4) :=
    (Fun6_any _ 1 1 SA none 0 0 [] ⟨BA [102], some ⟨w.heap.size + 2, 0, none⟩, 1, 1, SA, BA [65]⟩ W4 qS (by decide) (SlG.nul _) (by decide) ⟨by decide, fun C hC => absurd hC (by simp [cores])⟩ qF okC1).mono fun _ _ h => fun_post h exF1 (funS_ok exF1) (funK_ok exF1) rfl rfl
  have cF2 : ∀ (w' : World) (A : Option Addr) (D : Nat) (B : Option Addr) (L : Nat) (H : List Fm), Below W4.heap.size W4 w' → SlS w' A 1 D SA → SlG w' B 1 L H → cores H = [C1] → Calls Try.prog 17 #[.agg #[.slice A 1 D, .slice B 1 L], .agg #[.string ⟨#[102]⟩, .slice (some ⟨w.heap.size + 2, 0, none⟩) 1 1, .string ⟨#[65]⟩]] w' (SgPost 4 [] [] 0 0 w') := fun w' A D B L H h1 h2 h3 h4 =>
    (Fun6_any A 1 D SA B 1 L H ⟨BA [102], some ⟨w.heap.size + 2, 0, none⟩, 1, 1, SA, BA [65]⟩ w' h2 (by decide) h3 (by decide) (by rw [h4]; exact ⟨by decide, fun C hC => by rw [List.mem_singleton.1 hC]; exact okC1⟩) (qF.below h1) okC1).mono fun _ _ h => by
      rw [h4] at h
      exact fun_post h exF2 (funS_no exF2n) (funK_no exF2n) rfl rfl
  have cF3 : ∀ (w' : World) (A : Option Addr) (D : Nat) (B : Option Addr) (L : Nat) (H : List Fm), SlS w' A 1 D SA → SlG w' B 1 L H → cores H = [C1] → Calls Try.prog 17 #[.agg #[.slice A 1 D, .slice B 1 L], .agg #[.string ⟨#[99]⟩, .slice none 0 0, .string ⟨#[65]⟩]] w' (SgPost 0 SA [C1, C2] 1 2 w') := fun w' A D B L H h2 h3 h4 =>
    (Fun6_any A 1 D SA B 1 L H ⟨BA [99], none, 0, 0, [], BA [65]⟩ w' h2 (by decide) h3 (by decide) (by rw [h4]; exact ⟨by decide, fun C hC => by rw [List.mem_singleton.1 hC]; exact okC1⟩) (SlS.nul _) okC2).mono fun _ _ h => by
      rw [h4] at h
      exact fun_post h exF3 (funS_ok exF3) (funK_ok exF3) rfl rfl
  have cC1 : ∀ (w' : World) (gb : Nat), Below W4.heap.size W4 w' → SlS w' (some ⟨gb, 0, none⟩) 1 1 [BA [66, 111, 111, 108]] → Calls Try.prog 13 #[.agg #[.slice (some ⟨w.heap.size, 0, none⟩) 1 1, .slice none 0 0], .agg #[.string ⟨#[112]⟩, .slice (some ⟨gb, 0, none⟩) 1 1, .string ⟨#[65]⟩]] w' fun e w1 => e = .returned (.int .i64 11) ∧ Below w'.heap.size w' w1 := fun w' gb h1 h2 =>
    (Check_any (some ⟨w.heap.size, 0, none⟩) 1 1 SA none 0 0 ⟨BA [112], some ⟨gb, 0, none⟩, 1, 1, [BA [66, 111, 111, 108]], BA [65]⟩ w' (qS.below h1) (by decide) h2 okCp).mono fun _ _ ⟨h, g⟩ => ⟨h.trans (congrArg (fun i => Ending.returned (.int .i64 i)) exC1), g⟩
  have cC2 : ∀ (w' : World), Below W4.heap.size W4 w' → Calls Try.prog 13 #[.agg #[.slice (some ⟨w.heap.size, 0, none⟩) 1 1, .slice none 0 0], .agg #[.string ⟨#[116, 114, 117, 101]⟩, .slice none 0 0, .string ⟨#[65]⟩]] w' fun e w1 => e = .returned (.int .i64 10) ∧ Below w'.heap.size w' w1 := fun w' h1 =>
    (Check_any (some ⟨w.heap.size, 0, none⟩) 1 1 SA none 0 0 ⟨BA [116, 114, 117, 101], none, 0, 0, [], BA [65]⟩ w' (qS.below h1) (by decide) (SlS.nul _) okCt).mono fun _ _ ⟨h, g⟩ => ⟨h.trans (congrArg (fun i => Ending.returned (.int .i64 i)) exC2), g⟩
  have cCo : ∀ (w' : World) (A : Option Addr) (D : Nat) (B : Option Addr) (L : Nat) (H : List Fm), SlG w' B 2 L H → cores H = [C1, C2] → Calls Try.prog 24 #[.agg #[.slice A 1 D, .slice B 2 L], .string ⟨#[65]⟩] w' fun e w1 => ∃ A c, e = .returned (.slice A 1 c) ∧ SlS w1 A 1 c [BA [99]] ∧ Below w'.heap.size w' w1 := fun w' A D B L H h3 h4 =>
    (Consts_any A 1 D B 2 L H (BA [65]) w' h3 (by decide)).mono fun _ _ h => by
      rw [h4, exCo] at h
      exact consts_sl h
  have cSt := strings_same6
  obtain ⟨s40, s41⟩ := s4.two
  obtain ⟨f40, f41, f42⟩ := f4.three
  clear qS qF
  have hb0 := Below.refl W4.heap.size W4
  go_enter Try.func8, Try.ntmps8
  go_wp2_with (first
    | (go_at_call 17; ((with_reducible refine cF1.mono ?_); rintro e w5 ⟨A5, D5, B5, L5, H5, rfl, hS5, hG5, hc5, hb5⟩; have b6 : Below w5.heap.size w5 (w5.alloc (.cells #[.slice A5 1 D5, .slice B5 1 L5] 25)) := bel_alloc (Below.refl _ _) _; have S6 := SBox.new w5 A5 1 D5 B5 1 L5; have b46 := bel_trans hb5 b6; have F6 := f4.b b46; obtain ⟨s60, s61⟩ := S6.two; obtain ⟨f60, f61, f62⟩ := F6.three))
    | (go_at_call 17; ((with_reducible refine (cF2 _ A5 D5 B5 L5 H5 b46 (hS5.below b6) (hG5.below b6) hc5).mono ?_); rintro e w7 ⟨A7, D7, B7, L7, H7, rfl, hS7, hG7, hc7, hb7⟩; have b8 : Below w7.heap.size w7 (w7.alloc (.cells #[.slice A7 0 D7, .slice B7 0 L7] 25)) := bel_alloc (Below.refl _ _) _; have b58 := bel_trans (bel_trans b6 hb7) b8; have S8 := (S6.b hb7).b b8; have hS8 := hS5.below b58; have hG8 := hG5.below b58; obtain ⟨s80, s81⟩ := S8.two))
    | (go_at_call 17; ((with_reducible refine (cF3 _ A5 D5 B5 L5 H5 hS8 hG8 hc5).mono ?_); rintro e w9 ⟨A9, D9, B9, L9, H9, rfl, hS9, hG9, hc9, hb9⟩; have b10 : Below w9.heap.size w9 (w9.alloc (.cells #[.slice A9 1 D9, .slice B9 2 L9] 25)) := bel_alloc (Below.refl _ _) _; have S10 := SBox.new w9 A9 1 D9 B9 2 L9; have b410 := bel_trans (bel_trans (bel_trans hb5 b58) hb9) b10; obtain ⟨r100, r101⟩ := (s4.b b410).two; have b11 : Below (w9.alloc (.cells #[.slice A9 1 D9, .slice B9 2 L9] 25)).heap.size (w9.alloc (.cells #[.slice A9 1 D9, .slice B9 2 L9] 25)) ((w9.alloc (.cells #[.slice A9 1 D9, .slice B9 2 L9] 25)).alloc (.cells #[.string ⟨#[66, 111, 111, 108]⟩] 9)) := bel_alloc (Below.refl _ _) _; have q11 : SlS ((w9.alloc (.cells #[.slice A9 1 D9, .slice B9 2 L9] 25)).alloc (.cells #[.string ⟨#[66, 111, 111, 108]⟩] 9)) (some ⟨w9.heap.size + 1, 0, none⟩) 1 1 [BA [66, 111, 111, 108]] := (by have h := sl_new1 (w9.alloc (.cells #[.slice A9 1 D9, .slice B9 2 L9] 25)) (BA [66, 111, 111, 108]); rwa [show (w9.alloc (.cells #[.slice A9 1 D9, .slice B9 2 L9] 25)).heap.size = w9.heap.size + 1 by simp] at h); have b411 := bel_trans b410 b11))
    | (go_at_call 13; ((with_reducible refine (cC1 _ _ b411 q11).mono ?_); rintro e w12 ⟨rfl, hb12⟩; have b412 := bel_trans b411 hb12; obtain ⟨r120, r121⟩ := (s4.b b412).two))
    | (go_at_call 13; ((with_reducible refine (cC2 _ b412).mono ?_); rintro e w13 ⟨rfl, hb13⟩; have b413 := bel_trans b412 hb13; have b913 := bel_trans (bel_trans (bel_trans b10 b11) hb12) hb13; have S13 := ((S10.b b11).b hb12).b hb13; obtain ⟨v130, v131⟩ := S13.two; have hG13 := hG9.below b913))
    | (go_at_call 24; ((with_reducible refine (cCo _ A9 D9 B9 L9 H9 hG13 hc9).mono ?_); rintro e w14 ⟨A14, c14, rfl, hS14, hb14⟩; have b15 : Below w14.heap.size w14 (w14.alloc (.cells #[.string ⟨#[99]⟩] 9)) := bel_alloc (Below.refl _ _) _; have hN : SlS (w14.alloc (.cells #[.string ⟨#[99]⟩] 9)) (some ⟨w14.heap.size, 0, none⟩) 1 1 [BA [99]] := sl_new1 w14 (BA [99]); have hS15 := hS14.below b15; have b415 := bel_trans (bel_trans b413 hb14) b15))
    | (go_at_call 23; ((with_reducible refine (cSt _ _ _ _ _ _ _ hS15 hN (by decide)).mono ?_); rintro e w16 ⟨rfl, hb16⟩)))
  go_ret
  exact ⟨rfl, bel_trans b04 (bel_trans b415 hb16)⟩
end Go.Proofs.Ytakcbpmdjdadnaa.Sgn
