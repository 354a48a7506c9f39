/-
  What is proved: what package term's Replace returns: the term with another one in the place of a part, in new memory.
-/
import Derived.Test.YtliahkpbbnbnpaaTrmK
namespace Go.Proofs.Ytliahkpbbnbnpaa.T
open Go.RowKit L
set_option linter.unusedVariables false
set_option linter.unusedSimpArgs false

theorem reps_map (f u : Tm) : ∀ l : List Tm, reps f u l = l.map (rep f u)
  | [] => by rw [reps]; rfl
  | t :: l => by rw [reps, reps_map f u l]; rfl
/-- two terms in blocks, and what they lead to -/
def Two (w : World) (p q : Nat) (f u : Tm) (a1 : Option Addr) (n1 c1 : Nat) (a2 : Option Addr) (n2 c2 : Nat) : Prop :=
  TBox w p (opT f) (nameT f) (numT f) a1 n1 c1 ∧ TBox w q (opT u) (nameT u) (numT u) a2 n2 c2 ∧ ArW w f a1 n1 c1 ∧ ArW w u a2 n2 c2
theorem Two.b {w w' : World} {p q : Nat} {f u : Tm} {a1 : Option Addr} {n1 c1 : Nat} {a2 : Option Addr} {n2 c2 : Nat} (h : Two w p q f u a1 n1 c1 a2 n2 c2) (hb : Below w.heap.size w w') : Two w' p q f u a1 n1 c1 a2 n2 c2 :=
  ⟨h.1.b hb, h.2.1.b hb, ArW.b h.2.2.1 hb, ArW.b h.2.2.2 hb⟩
def RepOk (f u t : Tm) : Prop := ∀ (a : Option Addr) (m c : Nat) (a1 : Option Addr) (n1 c1 : Nat) (a2 : Option Addr) (n2 c2 : Nat) (w : World), size t ≤ 1000000 → size u ≤ 1000000 → ArW w t a m c → ArW w f a1 n1 c1 → ArW w u a2 n2 c2 →
  Calls Try.prog 32 #[.agg #[.int .i64 (opT t), .string (nameT t), .int .i64 (numT t), .slice a m c], .agg #[.int .i64 (opT f), .string (nameT f), .int .i64 (numT f), .slice a1 n1 c1], .agg #[.int .i64 (opT u), .string (nameT u), .int .i64 (numT u), .slice a2 n2 c2]] w fun e w' => NewT (rep f u t) w e w'
/-- the closure, at this term -/
def RepcOk (f u t : Tm) : Prop := ∀ (a : Option Addr) (m c p q : Nat) (a1 : Option Addr) (n1 c1 : Nat) (a2 : Option Addr) (n2 c2 : Nat) (w : World), size t ≤ 1000000 → size u ≤ 1000000 → ArW w t a m c → Two w p q f u a1 n1 c1 a2 n2 c2 →
  Calls Try.prog 56 #[.agg #[.int .i64 (opT t), .string (nameT t), .int .i64 (numT t), .slice a m c], .pointer (some ⟨p, 0, none⟩), .pointer (some ⟨q, 0, none⟩)] w fun e w' => NewT (rep f u t) w e w'
theorem NewT.up {t : Tm} {w w1 w' : World} {e : Ending} (h : NewT t w1 e w') (hb : Below w.heap.size w w1) : NewT t w e w' := by
  obtain ⟨h, e1, hf, hb1⟩ := h
  exact ⟨h, e1, Fr.down hb.size hf, bel_trans hb hb1⟩

set_option maxRecDepth 100000 in
set_option maxHeartbeats 4000000 in
theorem repc_of {f u t : Tm} (ht : RepOk f u t) : RepcOk f u t := by
  intro a m c p q a1 n1 c1 a2 n2 c2 w hs1 hs2 hA h2
  obtain ⟨W2, hW2, hB2, hs, S2, R2⟩ := box_res w (opT t) (nameT t) (numT t) a m c
  have T2 := h2.b hB2
  have cc := ht a m c a1 n1 c1 a2 n2 c2 W2 hs1 hs2 (ArW.b hA hB2) T2.2.2.1 T2.2.2.2
  obtain ⟨s0, s1, s2, s3⟩ := S2.four
  obtain ⟨f0, f1, f2, f3⟩ := T2.1.four
  obtain ⟨u0, u1, u2, u3⟩ := T2.2.1.four
  have HR := Lib.hid R2
  have HFin := Lib.hid (show ∀ (w3 : World) (h : Hd), NewT (rep f u t) W2 (.returned (.agg #[.int .i64 h.op, .string h.nm, .int .i64 h.nu, .slice h.a h.n h.c])) w3 → NewT (rep f u t) w (.returned (.agg #[.int .i64 h.op, .string h.nm, .int .i64 h.nu, .slice h.a h.n h.c])) ((((w3.setCell ⟨w.heap.size + 1, 0, none⟩ (.int .i64 h.op)).setCell ⟨w.heap.size + 1, 1, none⟩ (.string h.nm)).setCell ⟨w.heap.size + 1, 2, none⟩ (.int .i64 h.nu)).setCell ⟨w.heap.size + 1, 3, none⟩ (.slice h.a h.n h.c)) from fun w3 h ⟨h', e, hF, hb⟩ => by
    injection e with e
    injection e with e
    have e2 := congrArg Array.toList e
    simp only [List.cons.injEq, Value.int.injEq, Value.string.injEq, Value.slice.injEq, and_true, true_and] at e2
    refine ⟨h, rfl, ?_, put_below (bel_trans hB2 hb) (by omega) _ _ _ _⟩
    have eh : h' = h := by
      cases h; cases h'; simp at e2 ⊢; simp [e2]
    rw [eh] at hF
    rw [put_size]
    exact Fr.down (by omega) (Fr.same _ (fun b h1 h2 => put_other _ _ _ _ _ _ _ (by omega)) hF))
  clear hA h2 T2 S2 R2 ht hs1 hs2
  generalize opT t = op at *
  generalize nameT t = nm at *
  generalize numT t = nu at *
  generalize opT f = op1 at *
  generalize nameT f = nm1 at *
  generalize numT f = nu1 at *
  generalize opT u = op2 at *
  generalize nameT u = nm2 at *
  generalize numT u = nu2 at *
  generalize rep f u t = rr at *
  go_enter Try.func56, Try.ntmps56
  go_wp2_with (go_at_call 32; ((with_reducible refine cc.mono ?_); rintro e w3 ⟨h, rfl, hF, hb3⟩; have Hn := Lib.hid (show NewT rr W2 (.returned (.agg #[.int .i64 h.op, .string h.nm, .int .i64 h.nu, .slice h.a h.n h.c])) w3 from ⟨h, rfl, hF, hb3⟩); clear hF; have R3 := TBox.b HR.out hb3; obtain ⟨r0, r1, r2, r3⟩ := R3.free; obtain ⟨v0, v1, v2, v3⟩ := R3.four; have F3 := TBox.put R3 h.op h.nm h.nu h.a h.n h.c; obtain ⟨x0, x1, x2, x3⟩ := F3.four))
  simp [bodyPost, results, Try.results56, go_sem, x0, x1, x2, x3]
  exact HFin.out w3 h Hn.out

set_option maxRecDepth 100000 in
set_option maxHeartbeats 4000000 in
theorem mapRep_of (f u : Tm) (l : List Tm) (hok : ∀ t ∈ l, RepcOk f u t) (hsz : sizes l ≤ 1000000) (hsu : size u ≤ 1000000) (b : Option Addr) (m d : Nat) (p q : Nat) (a1 : Option Addr) (n1 c1 : Nat) (a2 : Option Addr) (n2 c2 : Nat) (w : World) (hG : TsW w b m d l) (h2 : Two w p q f u a1 n1 c1 a2 n2 c2) :
    Calls Try.prog 53 #[.slice b m d, .func (.func 56) #[] #[.pointer (some ⟨p, 0, none⟩), .pointer (some ⟨q, 0, none⟩)]] w fun e w' => ∃ A C, e = .returned (.slice A m C) ∧ (m ≤ C ∧ C ≤ maxLen ∧ (A = none → C = 0)) ∧ (0 < m → ∃ g hs, A = some ⟨g, 0, none⟩ ∧ w.heap.size ≤ g ∧ Row w' g hs ∧ FrL w' (reps f u l) (g + 1) w'.heap.size hs) ∧ Below w.heap.size w w' := by
  have hlen : l.length ≤ sizes l := by
    have : ∀ l : List Tm, l.length ≤ sizes l := fun l => by
      induction l with
      | nil => exact Nat.le_refl _
      | cons t l ih => rw [List.length_cons, sizes]; have := size_pos t; omega
    exact this l
  have hm : m ≤ 1000000 := by have := hG.1; omega
  by_cases hm0 : m = 0
  · subst hm0
    clear hG hok hsz h2
    go_enter Try.func53, Try.ntmps53
    go_wp2
    go_ret
    exact ⟨_, _, rfl, ⟨Nat.zero_le _, Nat.zero_le _, fun _ => rfl⟩, fun h => absurd h (by omega), Below.refl _ _⟩
  · have hmk := make_terms m hm w
    have hmd := made_terms m hm w
    obtain ⟨W1, hW1⟩ : ∃ W1, w.alloc (.cells (madeCells #[.int .i64 0, .string ⟨#[]⟩, .int .i64 0, .slice none 0 0] (m * 4)) 24) = W1 := ⟨_, rfl⟩
    rw [hW1] at hmk hmd
    have hB1 : Below w.heap.size w W1 := by rw [← hW1]; exact bel_alloc (Below.refl _ _) _
    have hs1 : W1.heap.size = w.heap.size + 1 := by rw [← hW1]; simp
    have hm1 : ((m : Int) == 0) = false := by simp; omega
    have P0 : Part w w.heap.size (reps f u l) m 0 W1 := ⟨[], rfl, by simpa using hmd, by rw [List.take_zero, FrL]; exact ⟨by omega, rfl⟩⟩
    have HT := Lib.hid hG
    have HK := Lib.hid (show ∀ k x, l[k]? = some x → RepcOk f u x ∧ size x ≤ 1000000 ∧ (reps f u l)[k]? = some (rep f u x) from fun k x h => ⟨hok x (List.mem_of_getElem? h), by have := alls_lt h; omega, by rw [reps_map, List.getElem?_map, h]; rfl⟩)
    have HP0 := Lib.hid P0
    have H2 := Lib.hid h2
    have HL := Lib.hid (show (reps f u l).length = m by rw [reps_map, List.length_map]; exact hG.1.symm)
    clear hG hok hmd P0 hW1 h2
    generalize reps f u l = lr at *
    go_enter Try.func53, Try.ntmps53
    go_wp2
    go_loopw [16] (fun i wr0 => ∃ (wr : World) (k : Nat), wr = wr0 ∧ k ≤ m ∧ i = .int .i64 k ∧ Below w.heap.size w wr ∧ Hid (Part w w.heap.size lr m k wr)) (fun i _ => m - (intOf i).toNat)
    case atStart => exact ⟨_, 0, rfl, by omega, rfl, hB1, HP0⟩
    case round =>
      obtain ⟨wr, k, rfl, hk, rfl, hB, hR⟩ := hrel
      by_cases hlt : k < m
      · obtain ⟨bb, o, x, A, M, Cc, rfl, hb, y0, y1, y2, y3, hx, hok⟩ := (TsW.b HT.out hB).at hlt
        obtain ⟨W4, hW4, hB4, hs4, S4⟩ := box1 wr (opT x) (nameT x) (numT x) A M Cc
        obtain ⟨hck, hsx, hxr⟩ := HK.out k x hx
        have cc := hck A M Cc p q a1 n1 c1 a2 n2 c2 W4 hsx hsu (ArW.b hok hB4) (H2.out.b (bel_trans hB hB4))
        obtain ⟨f0, f1, f2, f3⟩ := S4.four
        have B4 := bel_trans hB hB4
        have Hx := Lib.hid hxr
        clear hx hxr hok HK S4 hck H2
        generalize rep f u x = xr at *
        generalize opT x = op' at *
        generalize nameT x = nm' at *
        generalize numT x = nu' at *
        have hk0 : 0 ≤ (k : Int) := by omega
        have hk1 : (k : Int) < (m : Int) := by omega
        go_wp2_with (go_at_call 56; ((with_reducible refine cc.mono ?_); rintro e w5 ⟨h, rfl, hF, hb5⟩; obtain ⟨⟨q0, q1, q2, q3⟩, ⟨g0, g1, g2, g3⟩, Hn⟩ := Part.go hR.out hlt Hx.out hB4 hb5 hF; clear hF))
        go_roundw
        case rel => exact ⟨_, k + 1, rfl, by omega, by go_num, set4_below (bel_trans B4 hb5) (Nat.le_refl _) k _, Hn⟩
        case measure => simp [intOf]; omega
      · obtain rfl : k = m := by omega
        have Hd := Lib.hid (Part.done hR.out HL.out)
        have hcap : k ≤ maxLen := by unfold maxLen; omega
        have Hc := Lib.hid hcap
        clear hR hcap
        go_wp2
        go_ret
        refine ⟨_, _, rfl, ⟨Nat.le_refl _, Hc.out, fun h => by cases h⟩, fun _ => ?_, hB⟩
        obtain ⟨hs, h1, h2⟩ := Hd.out
        exact ⟨w.heap.size, hs, rfl, Nat.le_refl _, h1, h2⟩

/-- a slice of a field stored, then the value stored in the result -/
theorem box4 (w : World) (o : Int) (s : ByteArray) (z : Int) (a : Option Addr) (n c : Nat) (o' : Int) (s' : ByteArray) (z' : Int) (a' : Option Addr) (n' c' : Nat) (o2 : Int) (s2 : ByteArray) (z2 : Int) (a2 : Option Addr) (n2 c2 : Nat) :
    ∃ W, (((w.alloc (.cells #[.int .i64 o, .string s, .int .i64 z, .slice a n c] 24)).alloc (.cells #[.int .i64 o', .string s', .int .i64 z', .slice a' n' c'] 24)).alloc (.cells #[.int .i64 o2, .string s2, .int .i64 z2, .slice a2 n2 c2] 24)).alloc (.cells #[.int .i64 0, .string ⟨#[]⟩, .int .i64 0, .slice none 0 0] 24) = W ∧ Below w.heap.size w W ∧ W.heap.size = w.heap.size + 4 ∧ TBox W w.heap.size o s z a n c ∧ TBox W (w.heap.size + 1) o' s' z' a' n' c' ∧ TBox W (w.heap.size + 1 + 1) o2 s2 z2 a2 n2 c2 ∧ TBox W (w.heap.size + 1 + 1 + 1) 0 ⟨#[]⟩ 0 none 0 0 := by
  obtain ⟨W2, h2, hb, hs, t1, t2, t3⟩ := box3 w o s z a n c o' s' z' a' n' c' o2 s2 z2 a2 n2 c2
  rw [h2]
  refine ⟨_, rfl, bel_alloc hb _, by simp [hs], Blk.alloc t1 _, Blk.alloc t2 _, Blk.alloc t3 _, ?_⟩
  have := TBox.new W2 0 ⟨#[]⟩ 0 none 0 0
  rwa [hs] at this

set_option maxRecDepth 100000 in
set_option maxHeartbeats 4000000 in
theorem Rep_step (f u t : Tm) (hok : ∀ x ∈ argsT t, RepOk f u x) : RepOk f u t := by
  intro a m c a1 n1 c1 a2 n2 c2 w hsz hsu hA h1 h2
  obtain ⟨W2, hW2, hB2, hs2, S2, P2, Q2, R2⟩ := box4 w (opT t) (nameT t) (numT t) a m c (opT f) (nameT f) (numT f) a1 n1 c1 (opT u) (nameT u) (numT u) a2 n2 c2
  have hsl : sizes (argsT t) ≤ 1000000 := by
    have : size t = 1 + sizes (argsT t) := by cases t; rw [size]; rfl
    omega
  have cS := fun (w' : World) (h : Below W2.heap.size W2 w') => Same_any t f a m c a1 n1 c1 w' (ArW.b (ArW.b hA hB2) h) (ArW.b (ArW.b h1 hB2) h)
  have cC := fun (w' : World) (h : Below W2.heap.size W2 w') => Copy_any u a2 n2 c2 w' hsu (ArW.b (ArW.b h2 hB2) h)
  have T2 : Two W2 (w.heap.size + 1) (w.heap.size + 1 + 1) f u a1 n1 c1 a2 n2 c2 := ⟨P2, Q2, ArW.b h1 hB2, ArW.b h2 hB2⟩
  have cM := fun (w' : World) (h : Below W2.heap.size W2 w') => mapRep_of f u (argsT t) (fun x hx => repc_of (hok x hx)) hsl hsu a m c (w.heap.size + 1) (w.heap.size + 1 + 1) a1 n1 c1 a2 n2 c2 w' (TsW.b (TsW.b (ArW.args hA) hB2) h) (T2.b h)
  have hrep : (eqT t f = true → rep f u t = u) ∧ (eqT t f = false → rep f u t = .mk (opT t) (nameT t) (numT t) (reps f u (argsT t))) := by
    cases t with
    | mk o s z l => rw [rep]; constructor <;> intro h <;> rw [h] <;> rfl
  have hm : m = (reps f u (argsT t)).length := by rw [reps_map, List.length_map]; exact (ArW.args hA).1
  have HFin := Lib.hid (show eqT t f = false → ∀ (w3 w5 : World) (A : Option Addr) (C : Nat), (m ≤ C ∧ C ≤ maxLen ∧ (A = none → C = 0)) → (0 < m → ∃ g hs, A = some ⟨g, 0, none⟩ ∧ W2.heap.size ≤ g ∧ Row w3 g hs ∧ FrL w3 (reps f u (argsT t)) (g + 1) w3.heap.size hs) → w.heap.size + 4 ≤ w5.heap.size → w5.heap.size = w3.heap.size → (∀ b, w.heap.size + 4 ≤ b → w5.heap[b]? = w3.heap[b]?) → Fr w5 (rep f u t) w.heap.size w5.heap.size ⟨opT t, nameT t, numT t, A, m, C⟩ from fun he w3 w5 A C g1 g2 g3 g4 g5 => by
    rw [hrep.2 he, Fr]
    refine ⟨⟨rfl, rfl, rfl⟩, ⟨hm, g1⟩, by omega, fun hn => ?_⟩
    obtain ⟨g, hs, e1, e2, e3, e4⟩ := g2 hn
    exact ⟨g, hs, e1, by omega, e3.of_block (g5 g (by omega)), by rw [g4]; exact FrL.same _ (fun b hl hu => g5 b (by omega)) e4⟩)
  have HFin2 := Lib.hid (show eqT t f = true → ∀ (w3 w5 : World) (lo : Nat) (h : Hd), Fr w3 u lo w3.heap.size h → w.heap.size + 4 ≤ lo → w5.heap.size = w3.heap.size → (∀ b, w.heap.size + 4 ≤ b → w5.heap[b]? = w3.heap[b]?) → Fr w5 (rep f u t) w.heap.size w5.heap.size h from fun he w3 w5 lo h g1 g2 g3 g4 => by
    rw [hrep.1 he, g3]
    exact Fr.down (by omega) (Fr.same _ (fun b hl hu => g4 b (by omega)) g1))
  have lS := Blk.lt S2
  have lR := Blk.lt R2
  obtain ⟨s0, s1, s2, s3⟩ := S2.four
  obtain ⟨p0, p1, p2, p3⟩ := P2.four
  have HS := Lib.hid S2
  have HR := Lib.hid R2
  have HQ := Lib.hid Q2
  clear hA hok S2 R2 hm hsz hsl P2 Q2 T2 h1 h2 hrep
  generalize argsT t = la at *
  generalize opT t = op at *
  generalize nameT t = nm at *
  generalize numT t = nu at *
  generalize opT f = op1 at *
  generalize nameT f = nm1 at *
  generalize numT f = nu1 at *
  generalize opT u = op2 at *
  generalize nameT u = nm2 at *
  generalize numT u = nu2 at *
  generalize rep f u t = rr at *
  cases hq : eqT t f with
  | false =>
    have HF1 := Lib.hid (HFin.out hq)
    rw [hq] at cS
    clear HFin HFin2 hq cC
    go_enter Try.func32, Try.ntmps32
    go_wp2_with (first
      | (go_at_call 21; ((with_reducible refine (cS _ (Below.refl _ _)).mono ?_); rintro e w3 ⟨rfl, hb3⟩; have cM3 := cM w3 hb3; have S3 := TBox.b HS.out hb3; have R3 := TBox.b HR.out hb3; obtain ⟨u0, u1, u2, u3⟩ := S3.four))
      | (go_at_call 53; ((with_reducible refine cM3.mono ?_); rintro e w4 ⟨A, C, rfl, hc, hr, hb4⟩; have Hc := Lib.hid hc; have Hr := Lib.hid hr; clear hc hr; have S4 := TBox.b S3 hb4; have R4 := TBox.b R3 hb4; obtain ⟨y0, y1, y2, y3⟩ := S4.four; obtain ⟨v0, v1, v2, v3⟩ := R4.four; obtain ⟨j0, j1, j2, j3⟩ := S4.free; obtain ⟨r0, r1, r2, r3⟩ := R4.free; have F3 := TBox.put (TBox.far R4 (show w.heap.size ≠ w.heap.size + 1 + 1 + 1 by omega) 3 (.slice A m C)) op nm nu A m C; obtain ⟨x0, x1, x2, x3⟩ := F3.four)))
    simp [bodyPost, results, Try.results32, go_sem, x0, x1, x2, x3]
    have hs3 : w.heap.size + 4 ≤ w3.heap.size := by have := hb3.size; omega
    have hs4 : w.heap.size + 4 ≤ w4.heap.size := by have := hb4.size; omega
    refine ⟨⟨op, nm, nu, A, m, C⟩, rfl, HF1.out w4 _ A C Hc.out (fun h => ?_) ?_ ?_ (fun b hb => ?_), put_below (below_set (bel_trans hB2 (bel_trans hb3 hb4)) (Nat.le_refl _) _ _) (by omega) _ _ _ _⟩
    · obtain ⟨g, hs, e1, e2, e3, e4⟩ := Hr.out h
      exact ⟨g, hs, e1, by have := hb3.size; omega, e3, e4⟩
    · rw [put_size]; simp [World.setCell]; omega
    · rw [put_size]; simp [World.setCell]
    · rw [put_other _ _ _ _ _ _ _ (by omega)]; exact heap_setCell_other w4 ⟨w.heap.size, 3, none⟩ b _ (by show b ≠ w.heap.size; omega)
  | true =>
    have HF1 := Lib.hid (HFin2.out hq)
    rw [hq] at cS
    clear HFin HFin2 hq cM
    go_enter Try.func32, Try.ntmps32
    go_wp2_with (first
      | (go_at_call 21; ((with_reducible refine (cS _ (Below.refl _ _)).mono ?_); rintro e w3 ⟨rfl, hb3⟩; have cC3 := cC w3 hb3; have R3 := TBox.b HR.out hb3; obtain ⟨u0, u1, u2, u3⟩ := (TBox.b HQ.out hb3).four))
      | (go_at_call 35; ((with_reducible refine cC3.mono ?_); rintro e w4 ⟨h, rfl, hF, hb4⟩; have HF := Lib.hid hF; clear hF; have R4 := TBox.b R3 hb4; obtain ⟨v0, v1, v2, v3⟩ := R4.four; obtain ⟨r0, r1, r2, r3⟩ := R4.free; have F3 := TBox.put R4 h.op h.nm h.nu h.a h.n h.c; obtain ⟨x0, x1, x2, x3⟩ := F3.four)))
    simp [bodyPost, results, Try.results32, go_sem, x0, x1, x2, x3]
    have hs3 : w.heap.size + 4 ≤ w3.heap.size := by have := hb3.size; omega
    have hs4 : w.heap.size + 4 ≤ w4.heap.size := by have := hb4.size; omega
    refine ⟨h, rfl, HF1.out w4 _ _ h HF.out hs3 ?_ (fun b hb => ?_), put_below (bel_trans hB2 (bel_trans hb3 hb4)) (by omega) _ _ _ _⟩
    · rw [put_size]
    · rw [put_other _ _ _ _ _ _ _ (by omega)]
theorem Replace_any (f u t : Tm) : RepOk f u t := Tm.ind (Rep_step f u) t
end Go.Proofs.Ytliahkpbbnbnpaa.T
