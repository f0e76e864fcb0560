/-
  The mathematics of turned: the low blocks told by repeats, laid one behind another, are the values.
-/
import Derived.Test.YtokillomaemocaaTrRs
namespace Go.Proofs.Ytokillomaemocaa.VU
open Go.RowKit Go.PlainAid Go.Lib Go.PRow Go.Maps Go.TrM
set_option linter.unusedVariables false
/-- the low block of a number -/
def lowB (vs : List El) (no : Nat) : List El := ((lowsV vs).1[no]?).getD []
theorem low_place (vs : List El) (h : vs.length = 1114112) (p : Nat) (hp : p < 17408) : lowB vs (lowP vs p) = (vs.drop (64 * p)).take 64 ∧ lowP vs p < (lowsV vs).1.length := by
  obtain ⟨m, l, _, _, _, h4, h5, h6⟩ := place_at vs (p := p) (by rw [h]; omega)
  have e : lowP vs p = l := by unfold lowP; rw [h4]; rfl
  rw [e]
  exact ⟨by unfold lowB; rw [h6]; rfl, h5⟩
theorem vals_back (vs : List El) (h : vs.length = 1114112) : (((List.range 17408).map (lowP vs)).map (lowB vs)).flatten = vs := by
  have e : ((List.range 17408).map (lowP vs)).map (lowB vs) = cutN 17408 vs := by
    apply List.ext_getElem?
    intro i
    rcases Nat.lt_or_ge i 17408 with hi | hi
    · rw [List.getElem?_map, List.getElem?_map, List.getElem?_range hi, cutN_at 17408 vs i hi]
      exact congrArg some (low_place vs h i hi).1
    · rw [List.getElem?_eq_none (by simpa using hi), List.getElem?_eq_none (by rw [cutN_len]; exact hi)]
  rw [e, flat_cutN 17408 vs (by rw [h])]
/-- the values that turned lays: for each pair its block, turned, so many times -/
def laidT {β : Type} (φ : El → β) (vs : List El) (l : List (Nat × Nat)) : List β := (l.map fun x => (List.replicate x.2 ((lowB vs x.1).map φ)).flatten).flatten
theorem laid_all {β : Type} (φ : El → β) (vs : List El) (h : vs.length = 1114112) : laidT φ vs (runS (lowP vs) 17408).1 = vs.map φ := by
  have key : ∀ l : List (Nat × Nat), laidT φ vs l = ((toldR l).map (fun no => (lowB vs no).map φ)).flatten := by
    intro l
    induction l with
    | nil => rfl
    | cons x l ih =>
      unfold laidT toldR at ih ⊢
      rw [List.map_cons, List.flatten_cons, ih, List.map_cons, List.flatten_cons, List.map_append, List.flatten_append, List.map_replicate]
  rw [key, runS_all]
  have e := congrArg (List.map φ) (vals_back vs h)
  rw [List.map_flatten, List.map_map] at e
  exact e
theorem runS_mem (f : Nat → Nat) : ∀ k, k ≤ 17408 → ∀ y ∈ (runS f k).1, 0 < y.2 ∧ ∃ s, s < 17408 ∧ y.1 = f s := by
  intro k
  induction k with
  | zero => intro _ y hy; cases hy
  | succ k ih =>
    intro hk y hy
    have hs := runS_le f k
    rw [runS_succ] at hy
    unfold runT at hy
    split at hy
    · exact ih (by omega) y hy
    · rcases List.mem_append.1 hy with hy | hy
      · exact ih (by omega) y hy
      · rw [List.mem_singleton.1 hy]
        exact ⟨by simp only; omega, _, by omega, rfl⟩
theorem laidT_app {β : Type} (φ : El → β) (vs : List El) (l : List (Nat × Nat)) (x : Nat × Nat) : laidT φ vs (l ++ [x]) = laidT φ vs l ++ (List.replicate x.2 ((lowB vs x.1).map φ)).flatten := by
  unfold laidT
  rw [List.map_append, List.flatten_append]
  simp
theorem lowB_len (vs : List El) (h : vs.length = 1114112) (p : Nat) (hp : p < 17408) : (lowB vs (lowP vs p)).length = 64 := by
  rw [(low_place vs h p hp).1, List.length_take, List.length_drop, h]
  omega
theorem lowB_at (vs : List El) (h : vs.length = 1114112) (p : Nat) (hp : p < 17408) (i : Nat) (y : El) (hy : (lowB vs (lowP vs p))[i]? = some y) : (partsV vs).low[lowP vs p * 64 + i]? = some y ∧ i < 64 ∧ y ∈ vs := by
  have hi : i < 64 := by have := (List.getElem?_eq_some_iff.1 hy).1; rw [lowB_len vs h p hp] at this; exact this
  rw [(low_place vs h p hp).1, List.getElem?_take, if_pos hi, List.getElem?_drop] at hy
  have := (low_cell h (n := 64 * p + i) (by omega) hy).1
  rw [show (64 * p + i) / 64 = p by omega, show (64 * p + i) % 64 = i by omega] at this
  exact ⟨this, hi, List.mem_of_getElem? hy⟩
theorem laidT_len {β : Type} (φ : El → β) (vs : List El) : ∀ l : List (Nat × Nat), (∀ y ∈ l, (lowB vs y.1).length = 64) → (laidT φ vs l).length = 64 * (toldR l).length := by
  intro l
  induction l with
  | nil => intro _; rfl
  | cons x l ih =>
    intro h
    have ih := ih (fun y hy => h y (List.mem_cons_of_mem _ hy))
    have hx := h x (List.mem_cons_self)
    have hr : (List.replicate x.2 ((lowB vs x.1).map φ)).flatten.length = 64 * x.2 := by
      have : ∀ n, (List.replicate n ((lowB vs x.1).map φ)).flatten.length = 64 * n := by
        intro n
        induction n with
        | zero => rfl
        | succ n ihn => rw [List.replicate_succ, List.flatten_cons, List.length_append, ihn, List.length_map, hx]; omega
      exact this x.2
    unfold laidT toldR at ih ⊢
    rw [List.map_cons, List.flatten_cons, List.length_append, ih, hr, List.map_cons, List.flatten_cons, List.length_append, List.length_replicate]
    omega
/-- where turned is when a pair was told: how many values are laid, and how many more come -/
theorem laidT_step {β : Type} (φ : El → β) (vs : List El) (h : vs.length = 1114112) (pre : List (Nat × Nat)) (x : Nat × Nat) (k : Nat) (hk : k ≤ 17408) (e : pre ++ [x] = (runS (lowP vs) k).1) :
    (laidT φ vs pre).length % 64 = 0 ∧ (laidT φ vs pre).length + 64 * x.2 ≤ 1114112 ∧ 0 < x.2 ∧ ∃ s, s < 17408 ∧ x.1 = lowP vs s := by
  have hm := runS_mem (lowP vs) k hk
  rw [← e] at hm
  have hl : ∀ y ∈ pre ++ [x], (lowB vs y.1).length = 64 := fun y hy => by
    obtain ⟨_, s, hs, hy⟩ := hm y hy
    rw [hy, lowB_len vs h s hs]
  have h1 := laidT_len φ vs pre (fun y hy => hl y (List.mem_append_left _ hy))
  have h2 := (runS_inv (lowP vs) k hk).1
  rw [← e] at h2
  have h3 := runS_le (lowP vs) k
  have h4 : (toldR (pre ++ [x])).length = (toldR pre).length + x.2 := by unfold toldR; simp
  rw [h2, List.length_map, List.length_range] at h4
  obtain ⟨h5, h6⟩ := hm x (List.mem_append_right _ (List.mem_singleton.2 rfl))
  exact ⟨by omega, by omega, h5, h6⟩
end Go.Proofs.Ytokillomaemocaa.VU
