/-
  What is proved: claims that are alike but for the names of binders: what a substitution makes of them; append of one claim to a row of the call's own.
-/
import Derived.Test.YteedfbbcboehgaaZSbJ
import Derived.Deep.AppendLies
namespace Go.Proofs.Yteedfbbcboehgaa.U
open Go.RowKit L T C
set_option linter.unusedVariables false
set_option linter.unusedSimpArgs false

mutual
def liC : Cl → Cl → Prop
  | .mk o s z ts l, .mk o' s' z' ts' l' => o' = o ∧ z' = z ∧ ts' = ts ∧ (o ≠ 11 → o ≠ 12 → s' = s) ∧ liCs l l'
def liCs : List Cl → List Cl → Prop
  | [], [] => True
  | c :: l, d :: m => liC c d ∧ liCs l m
  | [], _ :: _ => False
  | _ :: _, [] => False
end
theorem eqTs_self : ∀ l : List Tm, eqTs l l = true
  | [] => by rw [eqTs]
  | t :: l => by rw [eqTs, eqTs_self l, eqT_iff.2 rfl]; rfl
mutual
theorem li_eq : ∀ {c d : Cl}, liC c d → eqC c d = true
  | .mk o s z ts l, .mk o' s' z' ts' l', h => by
    rw [liC] at h
    obtain ⟨rfl, rfl, rfl, h1, h2⟩ := h
    rw [eqC, lis_eq h2, eqTs_self, eqS_iff.2 rfl]
    by_cases h11 : o' = 11
    · simp [h11]
    · by_cases h12 : o' = 12
      · simp [h12]
      · rw [h1 h11 h12, eqS_iff.2 rfl]; simp
theorem lis_eq : ∀ {l m : List Cl}, liCs l m → eqCs l m = true
  | [], [], _ => by rw [eqCs]
  | c :: l, d :: m, h => by rw [liCs] at h; rw [eqCs, li_eq h.1, lis_eq h.2]; rfl
  | [], _ :: _, h => by rw [liCs] at h; exact h.elim
  | _ :: _, [], h => by rw [liCs] at h; exact h.elim
end
mutual
theorem li_wt : ∀ {c d : Cl}, liC c d → wt d = wt c
  | .mk o s z ts l, .mk o' s' z' ts' l', h => by
    rw [liC] at h
    obtain ⟨_, _, rfl, _, h2⟩ := h
    rw [wt, wt, lis_wt h2]
theorem lis_wt : ∀ {l m : List Cl}, liCs l m → wts m = wts l
  | [], [], _ => rfl
  | c :: l, d :: m, h => by rw [liCs] at h; rw [wts, wts, li_wt h.1, lis_wt h.2]
  | [], _ :: _, h => by rw [liCs] at h; exact h.elim
  | _ :: _, [], h => by rw [liCs] at h; exact h.elim
end
mutual
theorem li_sm : ∀ {c d : Cl}, liC c d → smC c → smC d
  | .mk o s z ts l, .mk o' s' z' ts' l', h, hs => by
    rw [liC] at h
    obtain ⟨_, _, rfl, _, h2⟩ := h
    rw [smC] at hs ⊢
    exact ⟨hs.1, lis_sm h2 hs.2⟩
theorem lis_sm : ∀ {l m : List Cl}, liCs l m → smCs l → smCs m
  | [], [], _, _ => by rw [smCs]; trivial
  | c :: l, d :: m, h, hs => by rw [liCs] at h; rw [smCs] at hs ⊢; exact ⟨li_sm h.1 hs.1, lis_sm h.2 hs.2⟩
  | [], _ :: _, h, _ => by rw [liCs] at h; exact h.elim
  | _ :: _, [], h, _ => by rw [liCs] at h; exact h.elim
end
mutual
theorem li_sb (l0 : List Pr) : ∀ {c d : Cl} {K : Int}, liC c d → liC (sbCl l0 K c) (sbCl l0 K d)
  | .mk o s z ts l, .mk o' s' z' ts' l', K, h => by
    rw [liC] at h
    obtain ⟨rfl, rfl, rfl, h1, h2⟩ := h
    rw [sbCl, sbCl, liC]
    exact ⟨rfl, rfl, rfl, h1, lis_sb l0 h2⟩
theorem lis_sb (l0 : List Pr) : ∀ {l m : List Cl} {K : Int}, liCs l m → liCs (sbCls l0 K l) (sbCls l0 K m)
  | [], [], K, _ => by rw [sbCls, liCs]; trivial
  | c :: l, d :: m, K, h => by rw [liCs] at h; rw [sbCls, sbCls, liCs]; exact ⟨li_sb l0 h.1, lis_sb l0 h.2⟩
  | [], _ :: _, K, h => by rw [liCs] at h; exact h.elim
  | _ :: _, [], K, h => by rw [liCs] at h; exact h.elim
end
theorem lis_of : ∀ {l m : List Cl}, l.length = m.length → (∀ (i : Nat) (c d : Cl), l[i]? = some c → m[i]? = some d → liC c d) → liCs l m
  | [], [], _, _ => by rw [liCs]; trivial
  | c :: l, d :: m, hl, h => by
    rw [liCs]
    exact ⟨h 0 c d rfl rfl, lis_of (by simpa using hl) fun i x y hx hy => h (i + 1) x y (by simpa using hx) (by simpa using hy)⟩
  | [], _ :: _, hl, _ => by simp at hl
  | _ :: _, [], hl, _ => by simp at hl
set_option maxRecDepth 100000 in
theorem app_oneC {w : World} {ops : Array Oper} {rest : List Oper} {o : Oper} {a : Act} {Q : Exit → Act → World → Prop} (hgd : o.guard = none) (s x : Operand)
    (ho : o.op = .call { callee := .builtin .append, args := #[s, x], argTypes := #[51, 51] })
    (base : Nat) (v : Value) (Y : List Hc) (hs : a.eval s = v) (hown : OwnC w base v Y) (z : Nat) (h : Hc) (hx : a.eval x = .slice (some ⟨z, 0, none⟩) 1 1) (hz : Blk w z #[.int .i64 h.op, .string h.nm, .string h.so, .slice h.k.a h.k.n h.k.c, .slice h.a h.n h.c] 53)
    (hn : Y.length + 1 ≤ 1000000000) (hbase : base ≤ w.heap.size)
    (hK : ∀ g cap w', OwnC w' base (.slice (some ⟨g, 0, none⟩) (Y.length + 1) cap) (Y ++ [h]) → w.grownBy w' v.ownBlock → (v.ownBlock = some g ∨ g = w.heap.size) → wpList Try.prog ops Q rest (a.put o.dst (.slice (some ⟨g, 0, none⟩) (Y.length + 1) cap)) w') : wpList Try.prog ops Q (o :: rest) a w := by
  obtain ⟨i0, hi, hz0, hz1, hz2⟩ := info_parts claimI
  refine wpList_append_lies w hgd s x 51 ho base 53 i0 _ 5 88 Try.underlying51 hi hz0 hz1 hz2 rfl (by decide) v Y.length (flatC Y) hs hown ⟨z, 0, none⟩ 1 1 (flatC [h]) hx (by rw [flatC_len]; rfl) (fun j u hj => by rw [flatC] at hj; exact World.news_of_block hz j u (by simpa [Hc.cells] using hj)) (hc_one _) (by omega) (by unfold maxLen; omega) (by omega) hbase _ rfl fun g cap w' h1 h2 h3 _ => hK g cap w' ?_ h2 h3
  unfold OwnC
  rw [List.length_append, flatC_app]
  exact h1
end Go.Proofs.Yteedfbbcboehgaa.U
