/-
  The mathematics of the middle blocks: what is numbered stays so under a naming of its values.
-/
import Derived.Test.YtokillomaemocaaTrMV
namespace Go.TrM
set_option linter.unusedVariables false
set_option linter.unusedSimpArgs false
theorem mem_map_inj {α β : Type} (f : α → β) (hf : ∀ a b, f a = f b → a = b) (b : α) (all : List α) : f b ∈ all.map f ↔ b ∈ all := by
  rw [List.mem_map]
  constructor
  · rintro ⟨a, ha, e⟩
    rw [← hf _ _ e]; exact ha
  · intro h; exact ⟨b, h, rfl⟩
section
variable {α β : Type} [DecidableEq α] [DecidableEq β]
theorem idx_map (f : α → β) (hf : ∀ a b, f a = f b → a = b) (b : α) : ∀ all : List α, (all.map f).idxOf (f b) = all.idxOf b := by
  intro all
  induction all with
  | nil => rfl
  | cons x t ih =>
    rw [List.map_cons, List.idxOf_cons, List.idxOf_cons, ih]
    by_cases h : x = b
    · subst h; simp
    · have h2 : ¬ f x = f b := fun e => h (hf _ _ e)
      have q1 : (f x == f b) = false := by simpa using h2
      have q2 : (x == b) = false := by simpa using h
      rw [q1, q2]
theorem numS_map (f : α → β) (hf : ∀ a b, f a = f b → a = b) (all : List α) (b : α) : numS (all.map f) (f b) = ((numS all b).1.map f, (numS all b).2) := by
  unfold numS
  by_cases h : b ∈ all
  · rw [if_pos h, if_pos ((mem_map_inj f hf b all).2 h), idx_map f hf]
  · rw [if_neg h, if_neg (fun q => h ((mem_map_inj f hf b all).1 q))]
    simp
theorem numL_map (f : α → β) (hf : ∀ a b, f a = f b → a = b) : ∀ (bs all : List α), numL (all.map f) (bs.map f) = ((numL all bs).1.map f, (numL all bs).2) := by
  intro bs
  induction bs with
  | nil => intro all; rfl
  | cons b t ih =>
    intro all
    show ((numL (numS (all.map f) (f b)).1 (t.map f)).1, (numS (all.map f) (f b)).2 :: (numL (numS (all.map f) (f b)).1 (t.map f)).2) = _
    rw [numS_map f hf, ih]
    rfl
end
theorem cutN_map {α β : Type} (f : α → β) : ∀ (k : Nat) (l : List α), cutN k (l.map f) = (cutN k l).map (List.map f) := by
  intro k
  induction k with
  | zero => intro l; rfl
  | succ k ih =>
    intro l
    show (l.map f).take 64 :: cutN k ((l.map f).drop 64) = _
    rw [← List.map_take, ← List.map_drop, ih]
    rfl
theorem cutN_snoc {α : Type} : ∀ (k : Nat) (l : List α), cutN (k + 1) l = cutN k l ++ [(l.drop (64 * k)).take 64] := by
  intro k
  induction k with
  | zero => intro l; rfl
  | succ k ih =>
    intro l
    show l.take 64 :: cutN (k + 1) (l.drop 64) = (l.take 64 :: cutN k (l.drop 64)) ++ _
    rw [ih, List.drop_drop, List.cons_append, show 64 * (k + 1) = 64 + 64 * k by omega]
theorem maps_inj {α β : Type} (f : α → β) (hf : ∀ a b, f a = f b → a = b) : ∀ a b : List α, a.map f = b.map f → a = b := by
  intro a
  induction a with
  | nil => intro b h; cases b with | nil => rfl | cons y t => simp at h
  | cons x t ih =>
    intro b h
    cases b with
    | nil => simp at h
    | cons y b =>
      simp only [List.map_cons, List.cons.injEq] at h
      rw [hf _ _ h.1, ih b h.2]
theorem ofNat_inj (a b : Nat) (h : Int.ofNat a = Int.ofNat b) : a = b := Int.ofNat.inj h
theorem flat_map {α β : Type} (f : α → β) (l : List (List α)) : (l.map (List.map f)).flatten = l.flatten.map f := by
  induction l with
  | nil => rfl
  | cons x t ih => rw [List.map_cons, List.flatten_cons, List.flatten_cons, List.map_append, ih]
/-- the places' numbers, as whole numbers -/
def laidI {α : Type} [DecidableEq α] (vs : List α) : List Int := (lowsV vs).2.map Int.ofNat
def blkI {α : Type} [DecidableEq α] (vs : List α) (k : Nat) : List Int := ((laidI vs).drop (64 * k)).take 64
/-- what the first k middle blocks make -/
def midI {α : Type} [DecidableEq α] (vs : List α) (k : Nat) : List (List Int) × List Nat := numL [] (cutN k (laidI vs))
section
variable {α : Type} [DecidableEq α] {vs : List α}
theorem midI_succ (k : Nat) : midI vs (k + 1) = ((numS (midI vs k).1 (blkI vs k)).1, (midI vs k).2 ++ [(numS (midI vs k).1 (blkI vs k)).2]) := by
  unfold midI blkI
  rw [cutN_snoc, numL_snoc]
theorem laidI_len (h : vs.length = 1114112) : (laidI vs).length = 17408 := by unfold laidI; rw [List.length_map, laid_len, h]
theorem midI_le (k : Nat) : (midI vs k).1.length ≤ k := by
  have := numL_le (cutN k (laidI vs)) []
  rw [cutN_len, List.length_nil, Nat.zero_add] at this
  exact this
theorem midI_len (k : Nat) : (midI vs k).2.length = k := by unfold midI; rw [numL_len, cutN_len]
theorem blkI_len (h : vs.length = 1114112) {k : Nat} (hk : k < 272) : (blkI vs k).length = 64 := by
  unfold blkI
  rw [List.length_take, List.length_drop, laidI_len h]
  omega
theorem blkI_at {k j : Nat} (hj : j < 64) : (blkI vs k)[j]? = (laidI vs)[64 * k + j]? := by
  unfold blkI
  rw [List.getElem?_take, if_pos hj, List.getElem?_drop]
theorem laidI_ok (h : vs.length = 1114112) : ∀ x ∈ laidI vs, 0 ≤ x ∧ x < 17408 := by
  intro x hx
  obtain ⟨n, hn, rfl⟩ := List.mem_map.1 hx
  have h1 := numL_mem_lt (cutN (vs.length / 64) vs) [] hn
  have h2 := lows_le vs
  rw [h] at h2
  have h3 : (numL [] (cutN (vs.length / 64) vs)).1.length ≤ 17408 := h2
  have : (Int.ofNat n) = (n : Int) := rfl
  omega
theorem blkI_ok (h : vs.length = 1114112) (k : Nat) : ∀ x ∈ blkI vs k, 0 ≤ x ∧ x < 17408 := fun x hx => laidI_ok h x (List.mem_of_mem_drop (List.mem_of_mem_take hx))
theorem midI_all (h : vs.length = 1114112) : (midI vs 272).1.flatten = (partsV vs).mid.map Int.ofNat ∧ (midI vs 272).2 = (partsV vs).top := by
  have e : midI vs 272 = ((midsV vs).1.map (List.map Int.ofNat), (midsV vs).2) := by
    unfold midI laidI
    rw [cutN_map]
    have := numL_map (List.map Int.ofNat) (maps_inj Int.ofNat ofNat_inj) (cutN 272 (lowsV vs).2) []
    rw [List.map_nil] at this
    rw [this]
    unfold midsV
    rw [laid_len, h]
  rw [e]
  exact ⟨flat_map _ _, rfl⟩
theorem whole_all (h : vs.length = 1114112) : whole vs = lowsV vs ∧ restB vs = [] := by
  refine ⟨rfl, List.length_eq_zero_iff.1 ?_⟩
  rw [restB_len, h]
end
end Go.TrM
