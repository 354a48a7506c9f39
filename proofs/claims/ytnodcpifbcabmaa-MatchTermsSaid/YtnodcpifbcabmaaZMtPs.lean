/-
  What is proved: six stores into what a call returns; what stays there while a round's books turn.
-/
import Derived.Test.YtnodcpifbcabmaaZMtZb
import Derived.Test.YtnodcpifbcabmaaBM
import Derived.Test.YtnodcpifbcabmaaZMtVf
namespace Go.Proofs.Ytnodcpifbcabmaa.Mt
open Go.RowKit Go.Shelf L T C B U
set_option linter.unusedVariables false
set_option linter.unusedSimpArgs false

/-- a term, a slice and a bool stored into three blocks -/
def put6 (w : World) (g6 g7 g8 : Nat) (v0 v1 v2 v3 v4 v5 : Value) : World := (((((w.setCell ⟨g6, 0, none⟩ v0).setCell ⟨g6, 1, none⟩ v1).setCell ⟨g6, 2, none⟩ v2).setCell ⟨g6, 3, none⟩ v3).setCell ⟨g7, 0, none⟩ v4).setCell ⟨g8, 0, none⟩ v5
theorem put6_size (w : World) (g6 g7 g8 : Nat) (v0 v1 v2 v3 v4 v5 : Value) : (put6 w g6 g7 g8 v0 v1 v2 v3 v4 v5).heap.size = w.heap.size := by simp [put6]
theorem put6_other (w : World) (g6 g7 g8 b : Nat) (v0 v1 v2 v3 v4 v5 : Value) (h6 : b ≠ g6) (h7 : b ≠ g7) (h8 : b ≠ g8) : (put6 w g6 g7 g8 v0 v1 v2 v3 v4 v5).heap[b]? = w.heap[b]? := by
  unfold put6
  rw [heap_setCell_other _ ⟨g8, _, none⟩ b _ h8, heap_setCell_other _ ⟨g7, _, none⟩ b _ h7, heap_setCell_other _ ⟨g6, _, none⟩ b _ h6, heap_setCell_other _ ⟨g6, _, none⟩ b _ h6, heap_setCell_other _ ⟨g6, _, none⟩ b _ h6, heap_setCell_other _ ⟨g6, _, none⟩ b _ h6]
theorem put6_below {B g6 g7 g8 : Nat} {w0 w : World} (hb : Below B w0 w) (h6 : B ≤ g6) (h7 : B ≤ g7) (h8 : B ≤ g8) (v0 v1 v2 v3 v4 v5 : Value) : Below B w0 (put6 w g6 g7 g8 v0 v1 v2 v3 v4 v5) :=
  below_set (below_set (below_set (below_set (below_set (below_set hb h6 _ _) h6 _ _) h6 _ _) h6 _ _) h7 _ _) h8 _ _
theorem put6_keeps (B : Nat) (w : World) (g6 g7 g8 : Nat) (v0 v1 v2 v3 v4 v5 : Value) : KeepsFrom B w (put6 w g6 g7 g8 v0 v1 v2 v3 v4 v5) :=
  ((((((KeepsOthers.setCell w _ _).from B).trans ((KeepsOthers.setCell _ _ _).from B)).trans ((KeepsOthers.setCell _ _ _).from B)).trans ((KeepsOthers.setCell _ _ _).from B)).trans ((KeepsOthers.setCell _ _ _).from B)).trans ((KeepsOthers.setCell _ _ _).from B)
theorem put6_boxes {w : World} {g6 g7 g8 : Nat} {o : Int} {s : ByteArray} {z : Int} {a : Option Addr} {n c : Nat} {u7 u8 : Value} {t7 t8 : TypeId} (h6 : TBox w g6 o s z a n c) (h7 : Blk w g7 #[u7] t7) (h8 : Blk w g8 #[u8] t8) (n67 : g6 ≠ g7) (n68 : g6 ≠ g8) (n78 : g7 ≠ g8) (o' : Int) (s' : ByteArray) (z' : Int) (a' : Option Addr) (n' c' : Nat) (v4 v5 : Value) :
    TBox (put6 w g6 g7 g8 (.int .i64 o') (.string s') (.int .i64 z') (.slice a' n' c') v4 v5) g6 o' s' z' a' n' c' ∧ Blk (put6 w g6 g7 g8 (.int .i64 o') (.string s') (.int .i64 z') (.slice a' n' c') v4 v5) g7 #[v4] t7 ∧ Blk (put6 w g6 g7 g8 (.int .i64 o') (.string s') (.int .i64 z') (.slice a' n' c') v4 v5) g8 #[v5] t8 := by
  have p6 := TBox.put h6 o' s' z' a' n' c'
  have p7 := Blk.far (Blk.far (Blk.far (Blk.far h7 n67 0 (.int .i64 o')) n67 1 (.string s')) n67 2 (.int .i64 z')) n67 3 (.slice a' n' c')
  have p8 := Blk.far (Blk.far (Blk.far (Blk.far h8 n68 0 (.int .i64 o')) n68 1 (.string s')) n68 2 (.int .i64 z')) n68 3 (.slice a' n' c')
  have q7 := blk_cell_set p7 v4
  have q8 := blk_cell_set (Blk.far p8 n78 0 v4) v5
  exact ⟨Blk.far (Blk.far p6 n67.symm 0 v4) n68.symm 0 v5, Blk.far q7 n78.symm 0 v5, q8⟩
theorem us_one {w : World} {g : Nat} (hg : Away w g) {A : Option Addr} {N C : Nat} {l : List Pr} (hz : ∀ q ∈ l, nzT q.t) (h : UsW w A N C l) (v : Value) : UsW (w.setCell ⟨g, 0, none⟩ v) A N C l := by
  have hs : (w.setCell ⟨g, 0, none⟩ v).heap.size = w.heap.size := by simp
  unfold UsW
  rw [hs]
  exact IsU.away hg (fun b o hne => set_cell_other _ _ _ _ _ _ hne) hz h
theorem put6_us {w : World} {g6 g7 g8 : Nat} {s : ByteArray} {z : Int} {a : Option Addr} {n c : Nat} {u7 u8 : Value} {t7 t8 : TypeId} (h6 : TBox w g6 0 s z a n c) (h7 : Blk w g7 #[u7] t7) (h8 : Blk w g8 #[u8] t8) (n67 : g6 ≠ g7) (n68 : g6 ≠ g8) (n78 : g7 ≠ g8) {A : Option Addr} {N C : Nat} {l : List Pr} (hz : ∀ q ∈ l, nzT q.t) (h : UsW w A N C l) (v0 v1 v2 v3 v4 v5 : Value) : UsW (put6 w g6 g7 g8 v0 v1 v2 v3 v4 v5) A N C l := by
  have p7 := Blk.far (Blk.far (Blk.far (Blk.far h7 n67 0 v0) n67 1 v1) n67 2 v2) n67 3 v3
  have p8 := Blk.far (Blk.far (Blk.far (Blk.far h8 n68 0 v0) n68 1 v1) n68 2 v2) n68 3 v3
  exact us_one (away_one (Blk.far p8 n78 0 v4)) hz (us_one (away_one p7) hz (us_put (away_term h6) hz h v0 v1 v2 v3) v4) v5
/-- cells stay while a block that holds none turns -/
theorem cells_grown {X Y : World} {row : Option Nat} (hg : X.grownBy Y row) (hr : ∀ r, row = some r → ∃ o : Obj, X.heap[r]? = some o ∧ o.isCells = false) (b o : Nat) (v : Value) (h : X.cell? ⟨b, o, none⟩ = some v) : Y.cell? ⟨b, o, none⟩ = some v :=
  hg.cell h (fun e => by
    obtain ⟨ob, h1, h2⟩ := hr b e.symm
    unfold World.cell? at h
    rw [h1] at h
    cases ob <;> simp_all [Obj.isCells])
/-- what a round that finds leaves -/
def Found {F : Tm → Prop} {B : Nat} {w0 : World} (X : List ByteArray) (p : Tm) (w : World) (g6 g7 g8 : Nat) (pre : List (PtF F B w0)) (W : World) : Prop :=
  ∃ (r : Tm × List Pr) (a : Option Addr) (n c : Nat) (A : Option Addr) (N C : Nat), pick X p (pre.map PtF.t) = some r ∧ TBox W g6 (opT r.1) (nameT r.1) (numT r.1) a n c ∧ Blk W g7 #[.slice A N C] 36 ∧ Blk W g8 #[.bool true] 4 ∧ ArW W r.1 a n c ∧ UsW W A N C r.2
theorem Found.grown {F : Tm → Prop} {B : Nat} {w0 : World} {X : List ByteArray} {p : Tm} {w : World} {g6 g7 g8 : Nat} {pre : List (PtF F B w0)} {Y Z : World} {row : Option Nat} (h : Found X p w g6 g7 g8 pre Y) (hg : Y.grownBy Z row) (hr : ∀ r, row = some r → ∃ o : Obj, Y.heap[r]? = some o ∧ o.isCells = false) : Found X p w g6 g7 g8 pre Z := by
  obtain ⟨r, a, n, c, A, N, C, h1, h2, h3, h4, h5, h6⟩ := h
  exact ⟨r, a, n, c, A, N, C, h1, own_blk _ _ _ () Y Z row h2 hg hr, own_blk _ _ _ () Y Z row h3 hg hr, own_blk _ _ _ () Y Z row h4 hg hr, Ar.cells (cells_grown hg hr) hg.size _ h5, IsU.cells (cells_grown hg hr) hg.size h6⟩
mutual
theorem all_sz : ∀ (t x : Tm), x ∈ all t → size x ≤ size t
  | .mk o s z l, x, h => by
    rw [all] at h
    rcases List.mem_cons.1 h with h | h
    · rw [h]; exact Nat.le_refl _
    · have := alls_sz l x h
      rw [size]; omega
theorem alls_sz : ∀ (l : List Tm) (x : Tm), x ∈ alls l → size x ≤ sizes l
  | [], x, h => by rw [alls] at h; cases h
  | t :: l, x, h => by
    rw [alls] at h
    rw [sizes]
    rcases List.mem_append.1 h with h | h
    · have := all_sz t x h; omega
    · have := alls_sz l x h; omega
end
theorem pick_snoc (X : List ByteArray) (p : Tm) (l : List Tm) (u : Tm) (h : pick X p l = none) : pick X p (l ++ [u]) = pickF X p u := by
  unfold pick at h ⊢
  rw [List.findSome?_append, h, List.findSome?_cons]
  cases pickF X p u <;> rfl
theorem pick_pre {X : List ByteArray} {p : Tm} {l m : List Tm} {r : Tm × List Pr} (hp : l <+: m) (h : pick X p l = some r) : pick X p m = some r := by
  obtain ⟨q, rfl⟩ := hp
  unfold pick at h ⊢
  rw [List.findSome?_append, h]; rfl
end Go.Proofs.Ytnodcpifbcabmaa.Mt
