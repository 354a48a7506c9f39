/-
  What is proved: package show's small calls: brackets, the name of a bound number, a number's digits behind a text; what is asked of the library's calls and of the listed tables.
-/
import Derived.Test.YtcigeclnbhcohaaGreatDoorS1
import Derived.Test.YtcigeclnbhcohaaGreatDoorBL
namespace Go.Proofs.YtcigeclnbhcohaaGreatDoor.Sh
open Go.RowKit L T C
set_option linter.unusedVariables false
set_option linter.unusedSimpArgs false

theorem retS {a b : ByteArray} (h : a = b) : Ending.returned (.string a) = .returned (.string b) := by rw [h]
def tOps : List (ByteArray × Int) := [(⟨#[]⟩, 0), (⟨#[]⟩, 0), (⟨#[]⟩, 0), (⟨#[]⟩, 0), (⟨#[]⟩, 0), (⟨#[43]⟩, 2), (⟨#[45]⟩, 2), (⟨#[45]⟩, 0), (⟨#[42]⟩, 1)]
def cOps : List (ByteArray × Int) := [(⟨#[]⟩, 0), (⟨#[]⟩, 0), (⟨#[]⟩, 0), (⟨#[]⟩, 0), (⟨#[61]⟩, 0), (⟨#[60, 61]⟩, 0), (⟨#[126]⟩, 0), (⟨#[38]⟩, 1), (⟨#[124]⟩, 2), (⟨#[45, 62]⟩, 3), (⟨#[60, 45, 62]⟩, 4), (⟨#[33]⟩, 0), (⟨#[63]⟩, 0)]
/-- what the listed tables and the library's calls give in every world that has grown since W -/
structure Env (W : World) : Prop where
  text : ∀ (n : Int), -9223372036854775808 ≤ n → n ≤ 9223372036854775807 → ∀ w, Below W.heap.size W w →
    Calls Tryz.prog 58 #[.int .i64 n] w fun e w' => e = .returned (.string (dig n)) ∧ Below w.heap.size w w'
  join : ∀ (g n : Nat) (X : List ByteArray) (w : World), RowS w g 0 X → g < w.heap.size → n = X.length → 0 < n → n ≤ 1000000000 → tot X ≤ 100000000000 →
    Calls Tryz.prog 44 #[.slice (some ⟨g, 0, none⟩) n n, .string ⟨#[44, 32]⟩] w fun e w' => e = .returned (.string (joinC X)) ∧ Below w.heap.size w w'
  top : ∀ w, Below W.heap.size W w → ∀ i (h : i < tOps.length), w.cell? ⟨0, i * 2, none⟩ = some (.string tOps[i].1) ∧ w.cell? ⟨0, i * 2 + 1, none⟩ = some (.int .i64 tOps[i].2)
  cop : ∀ w, Below W.heap.size W w → ∀ i (h : i < cOps.length), w.cell? ⟨1, i * 2, none⟩ = some (.string cOps[i].1) ∧ w.cell? ⟨1, i * 2 + 1, none⟩ = some (.int .i64 cOps[i].2)
theorem Env.grow {W w : World} (h : Env W) (hw : Below W.heap.size W w) : Env w :=
  ⟨fun n h0 h1 w' hb => h.text n h0 h1 w' (bel_trans hw hb), h.join, fun w' hb => h.top w' (bel_trans hw hb), fun w' hb => h.cop w' (bel_trans hw hb)⟩

theorem par_any (s : ByteArray) (b : Bool) (hs : s.size ≤ 1000000000000) (w : World) :
    Calls Tryz.prog 57 #[.string s, .bool b] w fun e w' => e = .returned (.string (par b s)) ∧ Below w.heap.size w w' := by
  have q1 : ((⟨#[40]⟩ : ByteArray) ++ s).size = 1 + s.size := by rw [ByteArray.size_append]; rfl
  cases b with
  | true =>
    rw [par_t]
    go_enter Tryz.func57, Tryz.ntmps57
    go_wp2
    go_ret
    exact ⟨rfl, Below.refl _ _⟩
  | false =>
    rw [par_f]
    go_enter Tryz.func57, Tryz.ntmps57
    go_wp2
    go_ret
    exact ⟨rfl, Below.refl _ _⟩

/-! a scope in memory: two lists of names -/
structure Sv where
  a : Option Addr
  n : Nat
  c : Nat
  b : Option Addr
  m : Nat
  d : Nat
def Sv.val (z : Sv) : Value := .agg #[.slice z.a z.n z.c, .slice z.b z.m z.d]
def Sv.ok (z : Sv) (w : World) (fr bs : List ByteArray) : Prop := SlS w z.a z.n z.c fr ∧ SlS w z.b z.m z.d bs ∧ z.c ≤ maxLen ∧ z.d ≤ maxLen
theorem Sv.ok.bl {z : Sv} {w w' : World} {fr bs : List ByteArray} (h : z.ok w fr bs) (hb : Below w.heap.size w w') : z.ok w' fr bs := ⟨h.1.below hb, h.2.1.below hb, h.2.2⟩
def ScB (w : World) (g : Nat) (a : Option Addr) (n c : Nat) (b : Option Addr) (m d : Nat) : Prop := Blk w g #[.slice a n c, .slice b m d] 59
theorem ScB.two {w : World} {g : Nat} {a : Option Addr} {n c : Nat} {b : Option Addr} {m d : Nat} (h : ScB w g a n c b m d) :
    w.cell? ⟨g, 0, none⟩ = some (.slice a n c) ∧ w.cell? ⟨g, 1, none⟩ = some (.slice b m d) := ⟨Blk.cell h 0, Blk.cell h 1⟩
theorem ScB.bl {w w' : World} {g : Nat} {a : Option Addr} {n c : Nat} {b : Option Addr} {m d : Nat} (h : ScB w g a n c b m d) (hb : Below w.heap.size w w') : ScB w' g a n c b m d := Blk.below h hb
theorem ScB.new (w : World) (a : Option Addr) (n c : Nat) (b : Option Addr) (m d : Nat) : ScB (w.alloc (.cells #[.slice a n c, .slice b m d] 59)) w.heap.size a n c b m d := Blk.new w _ _
theorem sbox1 (w : World) (a : Option Addr) (n c : Nat) (b : Option Addr) (m d : Nat) :
    ∃ W, w.alloc (.cells #[.slice a n c, .slice b m d] 59) = W ∧ Below w.heap.size w W ∧ W.heap.size = w.heap.size + 1 ∧ ScB W w.heap.size a n c b m d :=
  ⟨_, rfl, bel_alloc (Below.refl _ _) _, by simp, ScB.new w a n c b m d⟩
theorem sbox2 (w : World) (a : Option Addr) (n c : Nat) (b : Option Addr) (m d : Nat) (o : Int) (s : ByteArray) (z : Int) (x : Option Addr) (xn xc : Nat) :
    ∃ W, (w.alloc (.cells #[.slice a n c, .slice b m d] 59)).alloc (.cells #[.int .i64 o, .string s, .int .i64 z, .slice x xn xc] 24) = W ∧ Below w.heap.size w W ∧ W.heap.size = w.heap.size + 2 ∧ ScB W w.heap.size a n c b m d ∧ TBox W (w.heap.size + 1) o s z x xn xc := by
  refine ⟨_, rfl, bel_alloc (bel_alloc (Below.refl _ _) _) _, by simp, Blk.alloc (ScB.new w a n c b m d) _, ?_⟩
  have := TBox.new (w.alloc (.cells #[.slice a n c, .slice b m d] 59)) o s z x xn xc
  rwa [World.size_alloc] at this

theorem bound_any {W : World} (E : Env W) (z : Sv) (fr bs : List ByteArray) (x : Int) (h0 : 0 ≤ x) (h1 : x ≤ 9223372036854775807) (w : World) (hw : Below W.heap.size W w) (hz : z.ok w fr bs) (hm : bs.length ≤ 1000000) :
    Calls Tryz.prog 56 #[z.val, .int .i64 x] w fun e w' => e = .returned (.string (bnd bs x)) ∧ Below w.heap.size w w' := by
  obtain ⟨W1, hW1, hB1, hs1, S1⟩ := sbox1 w z.a z.n z.c z.b z.m z.d
  obtain ⟨s0, s1⟩ := S1.two
  have hbl : z.m = bs.length := hz.2.1.1.1
  have hB := (hz.bl hB1).2.1.1
  have hm1 : z.m ≤ 1000000 := by omega
  unfold Sv.val
  by_cases hlt : x < (z.m : Int)
  · obtain ⟨bb, o, v, hA, hb, y0, hv, -⟩ := hB.at (k := ((z.m : Int) - 1 - x).toNat) (by omega)
    have hr : bnd bs x = v := by
      unfold bnd
      rw [if_pos (by omega), List.getD_eq_getElem?_getD, ← hbl, hv]; rfl
    rw [hr]
    clear hr hv hz hB hbl S1
    obtain ⟨a, n, c, b, m, d⟩ := z
    dsimp only at *
    subst hA
    have k0 : ¬ ((m : Int) - 1 - x < 0) := by omega
    have k1 : (m : Int) - 1 - x < (m : Int) := by omega
    have hx : ((((m : Int) - 1 - x).toNat : Nat) : Int) = (m : Int) - 1 - x := by omega
    go_enter Tryz.func56, Tryz.ntmps56
    go_wp2
    go_ret
    exact ⟨rfl, hB1⟩
  · have hr : bnd bs x = ⟨#[39]⟩ ++ dig (x - (z.m : Int)) := by
      unfold bnd
      rw [if_neg (by omega), ← hbl]
    have ct := E.text (x - (z.m : Int)) (by omega) (by omega)
    have hd := dig_size (z := x - (z.m : Int)) (by omega) (by omega)
    rw [hr]
    have hw1 : Below W.heap.size W W1 := hw.trans (hB1.mono hw.size)
    clear hr hz hB hbl S1 E
    obtain ⟨a, n, c, b, m, d⟩ := z
    dsimp only at *
    generalize dig (x - (m : Int)) = D at *
    go_enter Tryz.func56, Tryz.ntmps56
    go_wp2_with (go_at_call 58; ((with_reducible refine (ct _ hw1).mono ?_); rintro e w2 ⟨rfl, hb2⟩))
    go_ret
    exact ⟨rfl, bel_trans hB1 hb2⟩
end Go.Proofs.YtcigeclnbhcohaaGreatDoor.Sh
