/-
  Plain facts on units: there and back, seams, from the end on.
-/
import Derived.Test.YtghcheoholkpbaaWMath
namespace Go.Proofs.Ytghcheoholkpbaa

theorem scalar_fix (r : Int) : scalarB (fixI r) = true := by
  unfold fixI
  split
  · assumption
  · decide
theorem unitsOf_fix (r : Int) : unitsOf (fixI r) = unitsOf r := by
  unfold fixI
  by_cases h : scalarB r = true
  · rw [if_pos h]
  · rw [if_neg h]
    have hp : ¬ pairB r = true := fun hp => h (pair_is_scalar r hp)
    have e : unitsOf r = [65533] := by unfold unitsOf; rw [if_neg hp, if_neg h]
    rw [e]; rfl
theorem units_fix (l : List Int) : units (l.map fixI) = units l := by
  induction l with
  | nil => rfl
  | cons r l ih => rw [List.map_cons, units_cons, units_cons, unitsOf_fix, ih]
theorem wl_induct {P : List Int → Prop} (h0 : P []) (h1 : ∀ a, P [a]) (h2 : ∀ a b t, P t → P (b :: t) → P (a :: b :: t)) : ∀ l, P l
  | [] => h0
  | [a] => h1 a
  | a :: b :: t => h2 a b t (wl_induct h0 h1 h2 t) (wl_induct h0 h1 h2 (b :: t))
theorem wl_scalar : ∀ us, Fits us → ∀ r ∈ wl us, scalarB r = true := by
  have one : ∀ a, 0 ≤ a ∧ a ≤ 65535 → scalarB (aloneN a) = true := by
    intro a ha
    unfold aloneN
    split
    · decide
    · rename_i h
      unfold highB lowB at h; unfold scalarB halfB; simp at *; omega
  refine wl_induct ?_ ?_ ?_
  · intro _ r hr; rw [wl_nil] at hr; cases hr
  · intro a h r hr
    rw [wl_single] at hr; simp at hr; subst hr
    exact one a h.head
  · intro a b t i1 i2 h r hr
    rw [wl_two] at hr
    split at hr
    · rename_i hp
      simp at hp
      rcases List.mem_cons.1 hr with rfl | hr
      · exact pair_is_scalar _ (join_pair a b hp.1 hp.2)
      · exact i1 h.tail.tail r hr
    · rcases List.mem_cons.1 hr with rfl | hr
      · exact one a h.head
      · exact i2 h.tail r hr

/-- no lone surrogate -/
def clean : List Int → Bool
  | [] => true
  | [a] => !surr a
  | a :: b :: t => if highB a && lowB b then clean t else !surr a && clean (b :: t)
theorem clean_nil : clean [] = true := by rw [clean]
theorem clean_single (a : Int) : clean [a] = !surr a := by rw [clean]
theorem clean_two (a b : Int) (t : List Int) : clean (a :: b :: t) = if highB a && lowB b then clean t else !surr a && clean (b :: t) := by rw [clean]
theorem one_same (a : Int) : ((if surr a = true then (65533 : Int) else a) = a) ↔ surr a = false := by
  by_cases h : surr a = true
  · rw [if_pos h, h]
    constructor
    · intro e; subst e; exact absurd h (by decide)
    · intro e; cases e
  · rw [if_neg h]; simp at h; simp [h]
/-- the units of what units stand for are these units, just if none is a lone surrogate -/
theorem clean_iff : ∀ us, Fits us → (clean us = true ↔ units (wl us) = us) := by
  refine wl_induct ?_ ?_ ?_
  · intro _; rw [wl_nil, clean_nil]; simp [units_nil]
  · intro a h
    rw [wl_single, clean_single, units_cons, units_nil, units_alone a h.head.1 h.head.2, List.append_nil]
    simp only [List.cons.injEq, and_true, one_same]
    simp
  · intro a b t i1 i2 h
    rw [wl_two, clean_two]
    by_cases hp : (highB a && lowB b) = true
    · rw [if_pos hp, if_pos hp, i1 h.tail.tail, units_cons]
      simp only [Bool.and_eq_true] at hp
      rw [units_join a b hp.1 hp.2]
      simp
    · rw [if_neg hp, if_neg hp, Bool.and_eq_true, i2 h.tail, units_cons, units_alone a h.head.1 h.head.2]
      simp only [List.cons_append, List.nil_append, List.cons.injEq, one_same]
      simp
theorem clean_units (l : List Int) : clean (units l) = true := by
  rw [clean_iff _ (units_fits l), wl_units, units_fix]

/-- a lone surrogate at a place -/
def lone (us : List Int) (i : Nat) : Bool := !pairAt us i && surr (uA us i)
theorem clean_drop (us : List Int) : ∀ (k i : Nat), us.length - i ≤ k → (clean (us.drop i) = true ↔ ∀ p ∈ wplaces us i, lone us p = false) := by
  intro k
  induction k with
  | zero => intro i h; rw [wplaces_end us i (by omega), List.drop_eq_nil_of_le (by omega), clean_nil]; simp
  | succ k ih =>
    intro i h
    by_cases hi : i < us.length
    · have hb := nA_bounds us i hi
      rw [wplaces_step us i hi]
      have hI := ih (i + nA us i) (by omega)
      have e1 : us.drop i = us[i] :: us.drop (i + 1) := List.drop_eq_getElem_cons hi
      have u1 : uA us i = us[i] := by unfold uA; rw [List.getD_eq_getElem?_getD, List.getElem?_eq_getElem hi]; rfl
      by_cases h2 : i + 1 < us.length
      · have e2 : us.drop (i + 1) = us[i + 1] :: us.drop (i + 1 + 1) := List.drop_eq_getElem_cons h2
        have u2 : uA us (i + 1) = us[i + 1] := by unfold uA; rw [List.getD_eq_getElem?_getD, List.getElem?_eq_getElem h2]; rfl
        have hpe : pairAt us i = (highB us[i] && lowB us[i + 1]) := by unfold pairAt; rw [u1, u2]; simp [h2]
        rw [e1, e2, clean_two, ← hpe]
        by_cases hp : pairAt us i = true
        · have hn : nA us i = 2 := by unfold nA; rw [if_pos hp]
          have hl : lone us i = false := by unfold lone; rw [hp]; rfl
          rw [if_pos hp]
          rw [hn] at hI ⊢
          rw [hI]
          simp [hl]
        · have hn : nA us i = 1 := by unfold nA; rw [if_neg hp]
          rw [if_neg hp, ← e2]
          rw [hn] at hI ⊢
          have hl : lone us i = surr us[i] := by unfold lone; rw [u1]; simp at hp; rw [hp]; rfl
          rw [Bool.and_eq_true, hI]
          simp [hl]
      · have hp : pairAt us i = false := by unfold pairAt; simp [h2]
        have hn : nA us i = 1 := by unfold nA; rw [hp]; rfl
        have hl : lone us i = surr us[i] := by unfold lone; rw [u1, hp]; rfl
        rw [hn, wplaces_end us (i + 1) h2, e1, List.drop_eq_nil_of_le (by omega), clean_single]
        simp [hl]
    · rw [wplaces_end us i hi, List.drop_eq_nil_of_le (by omega), clean_nil]; simp
theorem clean_places (us : List Int) : clean us = true ↔ ∀ p ∈ wplaces us 0, lone us p = false := by
  have := clean_drop us us.length 0 (by omega)
  rwa [List.drop_zero] at this

/-- two lists of units behind one another, where no pair stands over the seam -/
def opens (u : List Int) : Bool := match u.getLast? with | some x => highB x | none => false
def shuts (v : List Int) : Bool := match v with | x :: _ => lowB x | [] => false
theorem opens_two (a b : Int) (t : List Int) : opens (a :: b :: t) = opens (b :: t) := by unfold opens; rw [List.getLast?_cons_cons]
theorem wl_seam (v : List Int) : ∀ u, (opens u && shuts v) = false → wl (u ++ v) = wl u ++ wl v := by
  refine wl_induct ?_ ?_ ?_
  · intro _; rw [wl_nil]; rfl
  · intro a h
    cases v with
    | nil => rw [wl_nil, List.append_nil, List.append_nil]
    | cons b t =>
      have hp : (highB a && lowB b) = false := h
      show wl (a :: b :: t) = _
      rw [wl_two, hp, wl_single]; rfl
  · intro a b t i1 i2 h
    rw [opens_two] at h
    have e := i2 h
    have s2 : wl (a :: b :: t ++ v) = wl (a :: b :: (t ++ v)) := rfl
    rw [s2, wl_two, wl_two]
    by_cases hp : (highB a && lowB b) = true
    · rw [if_pos hp, if_pos hp]
      have ht : (opens t && shuts v) = false := by
        cases t with
        | nil => rfl
        | cons c t => rw [opens_two] at h; exact h
      rw [i1 ht]; rfl
    · rw [if_neg hp, if_neg hp]
      have e' : wl (b :: (t ++ v)) = wl (b :: t) ++ wl v := e
      rw [e']; rfl

/-- the places come one behind the other -/
theorem wplaces_chain (us : List Int) : ∀ (k i : Nat) (pre post : List Nat) (p : Nat), us.length - i ≤ k → wplaces us i = pre ++ p :: post →
    p < us.length ∧ wplaces us p = p :: post ∧ (pre = [] → p = i) ∧ (∀ pre' q, pre = pre' ++ [q] → q < us.length ∧ q + nA us q = p) := by
  intro k
  induction k with
  | zero => intro i pre post p h e; rw [wplaces_end us i (by omega)] at e; simp at e
  | succ k ih =>
    intro i pre post p h e
    by_cases hi : i < us.length
    · have hb := nA_bounds us i hi
      have hst := wplaces_step us i hi
      cases pre with
      | nil =>
        rw [hst] at e
        simp at e
        obtain ⟨rfl, rfl⟩ := e
        exact ⟨hi, hst, fun _ => rfl, fun pre' q hq => by simp at hq⟩
      | cons x pre =>
        rw [hst] at e
        simp at e
        obtain ⟨rfl, e⟩ := e
        obtain ⟨h1, h2, h3, h4⟩ := ih _ pre post p (by omega) e
        refine ⟨h1, h2, fun h => by simp at h, fun pre' q hq => ?_⟩
        cases pre with
        | nil =>
          have : pre' = [] ∧ q = i := by
            cases pre' with
            | nil => simp at hq; exact ⟨rfl, hq.symm⟩
            | cons y l => simp at hq
          rw [this.2]
          exact ⟨hi, (h3 rfl).symm⟩
        | cons y pre =>
          cases pre' with
          | nil => simp at hq
          | cons z l =>
            simp at hq
            exact h4 l q hq.2
    · rw [wplaces_end us i hi] at e; simp at e
/-- the last character of the units up to e -/
def lastR (us : List Int) (e : Nat) : Int := if decide (1 < e) && highB (uA us (e - 2)) && lowB (uA us (e - 1)) then joinN (uA us (e - 2)) (uA us (e - 1)) else aloneN (uA us (e - 1))
theorem last_place (us : List Int) (pre post : List Nat) (p : Nat) (h : wplaces us 0 = pre ++ p :: post) : lastR us (p + nA us p) = rA us p := by
  obtain ⟨h1, h2, h3, h4⟩ := wplaces_chain us us.length 0 pre post p (by omega) h
  have hb := nA_bounds us p h1
  by_cases hp : pairAt us p = true
  · have hn : nA us p = 2 := by unfold nA; rw [if_pos hp]
    rw [hn]
    unfold lastR rA
    rw [show p + 2 - 2 = p by omega, show p + 2 - 1 = p + 1 by omega, if_pos hp]
    unfold pairAt at hp
    simp at hp
    rw [if_pos (by simp [hp])]
  · have hn : nA us p = 1 := by unfold nA; rw [if_neg hp]
    rw [hn]
    unfold lastR rA
    rw [if_neg hp, show p + 1 - 1 = p by omega, show p + 1 - 2 = p - 1 by omega]
    rw [if_neg]
    intro hc
    simp at hc
    obtain ⟨⟨c1, c2⟩, c3⟩ := hc
    have hpre : pre ≠ [] := fun e => by have := h3 e; omega
    obtain ⟨pre', q, e⟩ : ∃ pre' q, pre = pre' ++ [q] := ⟨pre.dropLast, pre.getLast hpre, (List.dropLast_concat_getLast hpre).symm⟩
    obtain ⟨g1, g2⟩ := h4 pre' q e
    by_cases hq : pairAt us q = true
    · have hn : nA us q = 2 := by unfold nA; rw [if_pos hq]
      unfold pairAt at hq
      simp at hq
      rw [show p - 1 = q + 1 by omega] at c2
      have := hq.2
      unfold lowB at this; unfold highB at c2
      simp at this c2
      omega
    · have hn : nA us q = 1 := by unfold nA; rw [if_neg hq]
      apply hq
      unfold pairAt
      rw [show p - 1 = q by omega] at c2
      rw [show q + 1 = p by omega, c2, c3]
      simp; omega
/-- the places ahead of pos, from the end on -/
def Bnd (us : List Int) (front : List Nat) (pos : Nat) : Prop := (front = [] → pos = 0) ∧ ∀ f' q, front = f' ++ [q] → q < us.length ∧ q + nA us q = pos
theorem bnd_start (us : List Int) : Bnd us (wplaces us 0) us.length := by
  refine ⟨fun h => ?_, fun f' q h => ?_⟩
  · by_cases h0 : 0 < us.length
    · rw [wplaces_step us 0 h0] at h; cases h
    · omega
  · obtain ⟨h1, h2, _, _⟩ := wplaces_chain us us.length 0 f' [] q (by omega) h
    refine ⟨h1, ?_⟩
    have hb := nA_bounds us q h1
    rw [wplaces_step us q h1] at h2
    by_cases hl : q + nA us q < us.length
    · rw [wplaces_step us _ hl] at h2; simp at h2
    · omega
theorem bnd_step (us : List Int) (f' post : List Nat) (q : Nat) (h : wplaces us 0 = f' ++ q :: post) : Bnd us f' q ∧ lastR us (q + nA us q) = rA us q := by
  obtain ⟨_, _, h3, h4⟩ := wplaces_chain us us.length 0 f' post q (by omega) h
  exact ⟨⟨h3, h4⟩, last_place us f' post q h⟩
theorem bnd_last {us : List Int} {front : List Nat} {pos : Nat} (h : Bnd us front pos) (hp : 0 < pos) : ∃ f' q, front = f' ++ [q] ∧ q < us.length ∧ q + nA us q = pos := by
  have hne : front ≠ [] := fun e => by have := h.1 e; omega
  exact ⟨_, _, (List.dropLast_concat_getLast hne).symm, h.2 _ _ (List.dropLast_concat_getLast hne).symm⟩
end Go.Proofs.Ytghcheoholkpbaa
