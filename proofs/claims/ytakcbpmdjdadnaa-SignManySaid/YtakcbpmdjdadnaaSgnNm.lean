/-
  What is proved: the functions that are put into a signature one by one.
-/
import Derived.Test.YtakcbpmdjdadnaaSgnV
import Derived.Test.YtakcbpmdjdadnaaLibD
namespace Go.Proofs.Ytakcbpmdjdadnaa.Sgn
open Go.RowKit L Srt
set_option linter.unusedVariables false
set_option linter.unusedSimpArgs false

def nmC (k : Nat) : List UInt8 := 110 :: (if k < 10 then [UInt8.ofNat (48 + k)] else if k < 100 then [UInt8.ofNat (48 + k / 10), UInt8.ofNat (48 + k % 10)] else [UInt8.ofNat (48 + k / 100), UInt8.ofNat (48 + k / 10 % 10), UInt8.ofNat (48 + k % 10)])
theorem nmC_dec {k : Nat} (h : k < 1000) : 110 :: Lib.decDigits k = nmC k := by
  unfold nmC
  by_cases h1 : k < 10
  · rw [if_pos h1, dec_small h1]
  · rw [if_neg h1, dec_big h1]
    by_cases h2 : k < 100
    · rw [if_pos h2, dec_small (by omega)]; rfl
    · rw [if_neg h2, dec_big (by omega : ¬ k / 10 < 10), dec_small (by omega), show k / 10 / 10 = k / 100 by omega]; rfl
theorem nm_add {k : Nat} (h : k < 1000) : (⟨#[110]⟩ : ByteArray) ++ BA (Lib.decDigits k) = BA (nmC k) := by
  rw [BA_app, ← nmC_dec h]; rfl
theorem nm_ok : ∀ k, k < 300 → (nameB (nmC k) && (!wordB (nmC k) && (!(nmC k == [66, 111, 111, 108]) && !(nmC k == [73, 110, 116])))) = true := by decide +kernel
theorem nm_size : ∀ k, k < 300 → (nmC k).length ≤ 4 := by decide +kernel
def numC (l : List UInt8) : Nat := l.tail.foldl (fun a c => a * 10 + (c.toNat - 48)) 0
theorem nm_num : ∀ k, k < 300 → numC (nmC k) = k := by decide +kernel
def INT : ByteArray := BA [73, 110, 116]
def CM (k : Nat) : Core := (BA (nmC k), [], INT)
def KM (m : Nat) : List Core := (List.range m).map CM
theorem KM_len (m : Nat) : (KM m).length = m := by simp [KM]
theorem KM_succ (m : Nat) : KM (m + 1) = KM m ++ [CM m] := by simp [KM, List.range_succ]
theorem km_has {m k : Nat} (h : m ≤ k) (hk : k < 300) : hasN (KM m) (BA (nmC k)) = false := by
  cases hc : hasN (KM m) (BA (nmC k)) with
  | false => rfl
  | true =>
    unfold hasN at hc
    obtain ⟨y, hy, he⟩ := List.any_eq_true.1 hc
    obtain ⟨i, hi, rfl⟩ := List.mem_map.1 hy
    rw [List.mem_range] at hi
    have he2 : BA (nmC i) = BA (nmC k) := eqS_iff.1 he
    have he3 : nmC i = nmC k := by rw [← BA_list (nmC i), he2, BA_list]
    have h1 := nm_num i (by omega)
    rw [he3, nm_num k hk] at h1
    omega
theorem nm_known {k : Nat} (hk : k < 300) : knownB [] (BA (nmC k)) = false := by
  have h := nm_ok k hk
  simp only [Bool.and_eq_true, Bool.not_eq_true'] at h
  rw [known_or, ByteArray.toList_eq, BA_list, h.2.2.1, h.2.2.2]; rfl
theorem int_known : knownB [] INT = true := by
  rw [known_or, ByteArray.toList_eq]; rfl
theorem cm_check {k : Nat} (hk : k < 300) : checkE [] (CM k) = 0 := by
  have h := nm_ok k hk
  simp only [Bool.and_eq_true, Bool.not_eq_true'] at h
  have h1 : nmB (CM k).1 = true := by
    show (nameB (nmC k) && !wordB (nmC k)) = true
    rw [h.1, h.2.1]; rfl
  unfold checkE
  rw [h1, show knownB [] (CM k).2.2 = true from int_known]
  simp [CM]
theorem cm_fun {m k : Nat} (h : m ≤ k) (hk : k < 300) : funE [] (KM m) (CM k) = if 256 ≤ m then 2 else 0 := by
  unfold funE
  rw [cm_check hk, if_neg (by simp), show hasN (KM m) (CM k).1 = false from km_has h hk, show knownB [] (CM k).1 = false from nm_known hk, if_neg (by simp), KM_len]
theorem cm_ok (k : Nat) (hk : k < 300) : okC (CM k) := by
  have := nm_size k hk
  exact okC_small _ (by show (BA (nmC k)).size ≤ 100; rw [BA_size]; omega) (by show INT.size ≤ 100; decide) (by show (0 : Nat) ≤ 8; omega) (fun x hx => absurd hx (by simp [CM]))
theorem km_ok (m : Nat) (hm : m ≤ 256) : okK (KM m) := ⟨by rw [KM_len]; omega, fun C hC => by
  obtain ⟨i, hi, rfl⟩ := List.mem_map.1 hC
  rw [List.mem_range] at hi
  exact cm_ok i (by omega)⟩
theorem km_const (m : Nat) : constS (KM m) INT = (List.range m).map fun i => BA (nmC i) := by
  unfold constS
  rw [List.filter_eq_self.2 (fun C hC => ?_)]
  · simp [KM, CM]
  · obtain ⟨i, _, rfl⟩ := List.mem_map.1 hC
    unfold pickB CM
    rw [eqS_refl]; rfl
theorem km_one {m : Nat} (h : 2 ≤ m) : hasS (constS (KM m) INT) (BA [110, 49]) = true := by
  rw [km_const, hasS_iff]
  exact List.mem_map.2 ⟨1, List.mem_range.2 (by omega), rfl⟩

/-- a row of functions does not lie in a block that holds a signature -/
theorem offBox {w : World} {g : Nat} {a : Option Addr} {n c : Nat} {b' : Option Addr} {m' d : Nat} {b : Option Addr} {m : Nat} {G : List Fm} (hs : SBox w g a n c b' m' d) (h : IsG w b m G) : Off g b m := fun hn bb o hb e => by
  obtain ⟨b2, o2, hb2, _, hr⟩ := h.2.1 hn
  rw [hb] at hb2
  injection hb2 with hb2
  injection hb2 with e1 e2
  obtain ⟨h1, _, _⟩ := hr 0 (by rw [← h.1]; exact hn)
  rw [← e1, e, Blk.cell hs] at h1
  match o2, h1 with
  | 0, h1 => simp at h1
  | 1, h1 => simp at h1
  | o3 + 2, h1 => simp at h1
theorem off_none {G : List Fm} {w : World} {m : Nat} {g : Nat} (hc : cores G = KM m) (hok : ∀ f ∈ G, f.ok w) : ∀ f ∈ G, Off g f.a f.m := fun f hf hn => by
  have h1 : f.core ∈ KM m := by rw [← hc]; exact List.mem_map_of_mem hf
  obtain ⟨i, _, he⟩ := List.mem_map.1 h1
  have h2 : f.X = [] := by have := congrArg (fun C : Core => C.2.1) he; exact this.symm
  have h3 : f.m = f.X.length := (hok f hf).1.1
  rw [h2] at h3
  exact absurd hn (by rw [h3]; simp)
theorem fun_new (k : Nat) (hk : k < 256) (A : Option Addr) (D : Nat) (B : Option Addr) (L : Nat) (H : List Fm) (w : World) (hS : SlS w A 0 D []) (hG : SlG w B k L H) (hc : cores H = KM k) :
    Calls Try.prog 17 #[.agg #[.slice A 0 D, .slice B k L], .agg #[.string (BA (nmC k)), .slice none 0 0, .string ⟨#[73, 110, 116]⟩]] w (SgPost 0 [] (KM (k + 1)) 0 (k + 1) w) := by
  have hE : funE [] (KM k) (CM k) = 0 := by rw [cm_fun (Nat.le_refl _) (by omega), if_neg (by omega)]
  refine (Fun6_any A 0 D [] B k L H ⟨BA (nmC k), none, 0, 0, [], INT⟩ w hS (by decide) hG (by omega) (by rw [hc]; exact km_ok k (by omega)) (SlS.nul _) (cm_ok k (by omega))).mono fun _ _ h => ?_
  rw [hc] at h
  refine fun_post (C := CM k) h hE (funS_ok hE) ?_ rfl (KM_len _)
  rw [funK_ok hE, KM_succ]
theorem fun_full (k : Nat) (h256 : 256 ≤ k) (hk : k < 300) (A : Option Addr) (D : Nat) (B : Option Addr) (L : Nat) (H : List Fm) (w : World) (hS : SlS w A 0 D []) (hG : SlG w B 256 L H) (hc : cores H = KM 256) :
    Calls Try.prog 17 #[.agg #[.slice A 0 D, .slice B 256 L], .agg #[.string (BA (nmC k)), .slice none 0 0, .string ⟨#[73, 110, 116]⟩]] w (SgPost 2 [] [] 0 0 w) := by
  have hE : funE [] (KM 256) (CM k) = 2 := by rw [cm_fun h256 hk, if_pos (Nat.le_refl _)]
  refine (Fun6_any A 0 D [] B 256 L H ⟨BA (nmC k), none, 0, 0, [], INT⟩ w hS (by decide) hG (by omega) (by rw [hc]; exact km_ok 256 (by omega)) (SlS.nul _) (cm_ok k (by omega))).mono fun _ _ h => ?_
  rw [hc] at h
  exact fun_post (C := CM k) h hE (funS_no (by rw [hE]; decide)) (funK_no (by rw [hE]; decide)) rfl rfl
end Go.Proofs.Ytakcbpmdjdadnaa.Sgn
