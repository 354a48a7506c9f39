/-
  What is proved: the law LitWithin.
-/
import Derived.Test.YtmamecchphockaaLtN
namespace Go.Proofs.Ytmamecchphockaa.Lt
open Go.RowKit L
set_option linter.unusedVariables false
set_option linter.unusedSimpArgs false

theorem own_emptyI (w : World) : OwnI (w.alloc (.cells #[] 3)) w.heap.size (.slice (some ⟨w.heap.size, 0, none⟩) 0 0) [] :=
  ⟨rfl, .inr ⟨w.heap.size, 0, #[], rfl, Nat.le_refl _, Blk.new w #[] 3, Nat.le_refl _, Nat.zero_le _, rfl, rfl⟩⟩
/-- append([]int{}, l...) -/
theorem app_firstI {w : World} {ops : Array Oper} {rest : List Oper} {o : Oper} {a : Act} {Q : Exit → Act → World → Prop} (hgd : o.guard = none) (s x : Operand)
    (ho : o.op = .call { callee := .builtin .append, args := #[s, x], argTypes := #[22, 22] })
    (hs : a.eval s = .slice (some ⟨w.heap.size, 0, none⟩) 0 0) (A : Option Addr) (n c : Nat) (X : List Int) (hx : a.eval x = .slice A n c) (hX : SlI w A n c X) (hn : n ≤ 1000000)
    (h : ∀ v' w', OwnI w' w.heap.size v' X → Below w.heap.size w w' → wpList Try.prog ops Q rest (a.put o.dst v') w') : wpList Try.prog ops Q (o :: rest) a (w.alloc (.cells #[] 3)) := by
  have hb : Below w.heap.size w (w.alloc (.cells #[] 3)) := bel_alloc (Below.refl _ _) _
  refine app_ints hgd s x ho w.heap.size _ [] hs (own_emptyI w) A n c X hx (hX.below hb) (by simp; omega) (by simp) fun v' w' h1 h2 => h v' w' h1 ?_
  exact hb.grown h2 (by simp) (fun q hq => by simp [Value.ownBlock] at hq; omega)
theorem r64_app {X Y : List Int} (h : R64s X) (h' : R64s Y) : R64s (X ++ Y) := fun x hx => (List.mem_append.1 hx).elim (h x) (h' x)
set_option maxRecDepth 100000 in
set_option maxHeartbeats 16000000 in
theorem litWithin (A : Option Addr) (n c : Nat) (X : List Int) (A' : Option Addr) (n' c' : Nat) (Y : List Int) (a : Option Addr) (m d : Nat) (V : List Bool) (w : World) (hn : n ≤ 9223372036854775807) (h : SlI w A n c X ∧ R64s X) (hn' : n' ≤ 9223372036854775807) (h' : SlI w A' n' c' Y ∧ R64s Y) (hm : m ≤ 9223372036854775807) (hV : SlB w a m d V) :
    Calls Try.prog 8 #[.slice A n c, .slice A' n' c', .slice a m d] w fun e w' => e = .returned (.bool true) ∧ Below w.heap.size w w' := by
  have B0 : Below w.heap.size w w := Below.refl _ _
  by_cases g0 : n > 100
  · have q0 : decide ((n : Int) > 100) = true := decide_eq_true (by omega)
    clear h h' hV
    go_enter Try.func8, Try.ntmps8
    go_wp2_with (go_at_call 9; ((with_reducible refine (alive_any _).mono ?_); rintro e wz ⟨rfl, hbz⟩; have BZ := bel_trans (a := w) (by assumption) hbz))
    go_ret
    exact ⟨rfl, BZ⟩
  have q0 : decide ((n : Int) > 100) = false := decide_eq_false (by omega)
  by_cases g1 : n' > 100
  · have q1 : decide ((n' : Int) > 100) = true := decide_eq_true (by omega)
    clear h h' hV
    go_enter Try.func8, Try.ntmps8
    go_wp2_with (go_at_call 9; ((with_reducible refine (alive_any _).mono ?_); rintro e wz ⟨rfl, hbz⟩; have BZ := bel_trans (a := w) (by assumption) hbz))
    go_ret
    exact ⟨rfl, BZ⟩
  have q1 : decide ((n' : Int) > 100) = false := decide_eq_false (by omega)
  by_cases g2 : m > 300
  · have q2 : decide ((m : Int) > 300) = true := decide_eq_true (by omega)
    clear h h' hV
    go_enter Try.func8, Try.ntmps8
    go_wp2_with (go_at_call 9; ((with_reducible refine (alive_any _).mono ?_); rintro e wz ⟨rfl, hbz⟩; have BZ := bel_trans (a := w) (by assumption) hbz))
    go_ret
    exact ⟨rfl, BZ⟩
  have q2 : decide ((m : Int) > 300) = false := decide_eq_false (by omega)
  have c1 := Within_any A n c X A' n' c' Y w h.1 h.2 (by omega) h'.1 h'.2 (by omega)
  have C2 := Lib.hid (fun W (hb : Below w.heap.size w W) => Holds_any A n c X a m d V W (h.1.below hb) h.2 (hV.below hb) hn hm)
  have C3 := Lib.hid (fun W (hb : Below w.heap.size w W) => Holds_any A' n' c' Y a m d V W (h'.1.below hb) h'.2 (hV.below hb) hn' hm)
  have HX := Lib.hid (fun W (hb : Below w.heap.size w W) => h.1.below hb)
  have HY := Lib.hid (fun W (hb : Below w.heap.size w W) => h'.1.below hb)
  have HXl : Hid (X.length ≤ 100) := Lib.hid (by have := h.1.1; omega)
  have hXY : (X ++ Y).length ≤ 200 := by rw [List.length_append]; have := h.1.1; have := h'.1.1; omega
  have D1 := Lib.hid (fun W A6 k6 (s6 : SlI W A6 (X ++ Y).length k6 (X ++ Y)) (hb : Below w.heap.size w W) => by
    have := Within_any A n c X A6 (X ++ Y).length k6 (X ++ Y) W (h.1.below hb) h.2 (by omega) s6 (r64_app h.2 h'.2) (by omega)
    rwa [within_app1] at this)
  have D2 := Lib.hid (fun W A6 k6 (s6 : SlI W A6 (X ++ Y).length k6 (X ++ Y)) (hb : Below w.heap.size w W) => by
    have := Within_any A' n' c' Y A6 (X ++ Y).length k6 (X ++ Y) W (h'.1.below hb) h'.2 (by omega) s6 (r64_app h.2 h'.2) (by omega)
    rwa [within_app2] at this)
  have D3 := Lib.hid (fun W (hb : Below w.heap.size w W) => by
    have := Same_any A n c X A' n' c' Y W (h.1.below hb) h.2 (by omega) (h'.1.below hb) h'.2 (by omega)
    rwa [show same X Y = (within X Y && within Y X) from rfl] at this)
  have D4 := Lib.hid (fun W (hb : Below w.heap.size w W) => Within_any A n c X A' n' c' Y W (h.1.below hb) h.2 (by omega) (h'.1.below hb) h'.2 (by omega))
  have D5 := Lib.hid (fun W (hb : Below w.heap.size w W) => Within_any A' n' c' Y A n c X W (h'.1.below hb) h'.2 (by omega) (h.1.below hb) h.2 (by omega))
  have D6 := Lib.hid (fun W A6 k6 (s6 : SlI W A6 (X ++ Y).length k6 (X ++ Y)) (hb : Below w.heap.size w W) => by
    have := Holds_any A6 (X ++ Y).length k6 (X ++ Y) a m d V W s6 (r64_app h.2 h'.2) (hV.below hb) (by omega) hm
    rwa [hld_app] at this)
  have D7 := C2
  have D8 := C3
  have HS := Lib.hid (within_sound X Y V)
  clear h h' hV hXY
  generalize hZ : X ++ Y = Z at *
  have HZ := Lib.hid hZ
  clear hZ
  generalize within X Y = x1 at *
  generalize within Y X = y1 at *
  generalize hld X V = x2 at *
  generalize hld Y V = x3 at *
  cases x1 <;> cases x2 <;> cases x3 <;> cases y1 <;> first
  | (exact absurd (HS.out rfl rfl) (by decide))
  | (
    go_enter Try.func8, Try.ntmps8
    go_wp2_with (first
      | (go_at_call 17; ((with_reducible refine c1.mono ?_); rintro e w1 ⟨rfl, hb1⟩; have B1 := hb1; clear c1))
      | (go_at_call 21; ((with_reducible refine (C2.out _ B1).mono ?_); rintro e w2 ⟨rfl, hb2⟩; have B2 := bel_trans B1 hb2; have HH2 := C2; clear C2))
      | (go_at_call 21; ((with_reducible refine (C3.out _ B2).mono ?_); rintro e w3 ⟨rfl, hb3⟩; have B3 := bel_trans B2 hb3; clear C3))
      | (at_builtin; ((refine app_firstI rfl (.tmp 36) (.tmp 37) rfl rfl A n c X rfl (HX.out _ (by assumption)) (by omega) ?_); intro v5 w5 ho5 hb5; have B5 := bel_trans (a := w) (by assumption) hb5))
      | (at_builtin; ((refine app_ints rfl (.tmp 38) (.tmp 39) rfl _ v5 X rfl ho5 A' n' c' Y rfl (HY.out _ B5) (by have := HXl.out; omega) hb5.size ?_); intro v6 w6 ho6 hg6; have hb6 := hb5.grown hg6 hb5.size (fun q hq => (ho5.lt q hq).1); have B6 := bel_trans (a := w) (by assumption) hb6; rw [HZ.out] at ho6; obtain ⟨A6, k6, rfl, -⟩ := ho6.slice; have s6 := ho6.sl.2.2; clear ho6 ho5))
      | (go_at_call 17; ((with_reducible refine (D1.out _ A6 k6 s6 (by assumption)).mono ?_); rintro e w7 ⟨rfl, hb7⟩; have B7 := bel_trans (a := w) (by assumption) hb7; have s6 := s6.below hb7; clear D1))
      | (go_at_call 17; ((with_reducible refine (D2.out _ A6 k6 s6 (by assumption)).mono ?_); rintro e w8 ⟨rfl, hb8⟩; have B8 := bel_trans (a := w) (by assumption) hb8; have s6 := s6.below hb8; clear D2))
      | (go_at_call 15; ((with_reducible refine (D3.out _ (by assumption)).mono ?_); rintro e w9 ⟨rfl, hb9⟩; have B9 := bel_trans (a := w) (by assumption) hb9; have s6 := s6.below hb9))
      | (go_at_call 17; ((with_reducible refine (D4.out _ (by assumption)).mono ?_); rintro e w10 ⟨rfl, hb10⟩; have B10 := bel_trans (a := w) (by assumption) hb10; have s6 := s6.below hb10; clear D4))
      | (go_at_call 17; ((with_reducible refine (D5.out _ (by assumption)).mono ?_); rintro e w11 ⟨rfl, hb11⟩; have B11 := bel_trans (a := w) (by assumption) hb11; have s6 := s6.below hb11))
      | (go_at_call 21; ((with_reducible refine (D6.out _ A6 k6 s6 (by assumption)).mono ?_); rintro e w12 ⟨rfl, hb12⟩; have B12 := bel_trans (a := w) (by assumption) hb12; have s6 := s6.below hb12; clear D6))
      | (go_at_call 21; ((with_reducible refine (D7.out _ (by assumption)).mono ?_); rintro e w13 ⟨rfl, hb13⟩; have B13 := bel_trans (a := w) (by assumption) hb13; have s6 := s6.below hb13; clear D7))
      | (go_at_call 21; ((with_reducible refine (D8.out _ (by assumption)).mono ?_); rintro e w14 ⟨rfl, hb14⟩; have B14 := bel_trans (a := w) (by assumption) hb14; have s6 := s6.below hb14))
      | (go_at_call 9; ((with_reducible refine (alive_any _).mono ?_); rintro e wz ⟨rfl, hbz⟩; have BZ := bel_trans (a := w) (by assumption) hbz)))
    go_ret
    exact ⟨by simp, BZ⟩)
end Go.Proofs.Ytmamecchphockaa.Lt
