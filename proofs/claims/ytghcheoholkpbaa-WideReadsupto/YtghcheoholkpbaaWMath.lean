/-
  Plain facts on units: what they stand for, by places and as a list.
-/
import Derived.Test.YtghcheoholkpbaaWLeaf
namespace Go.Proofs.Ytghcheoholkpbaa

/-- the units of a number -/
def unitsOf (r : Int) : List Int := if pairB r then [hiN r, loN r] else if scalarB r then [r] else [65533]
def units (l : List Int) : List Int := l.flatMap unitsOf
theorem units_nil : units [] = [] := rfl
theorem units_cons (r : Int) (l : List Int) : units (r :: l) = unitsOf r ++ units l := rfl
theorem units_append (l m : List Int) : units (l ++ m) = units l ++ units m := by simp [units]
theorem unitsOf_len (r : Int) : ((unitsOf r).length : Int) = wN r := by
  unfold unitsOf wN; split
  · rfl
  · split <;> rfl
theorem unitsOf_pos (r : Int) : 1 ≤ (unitsOf r).length ∧ (unitsOf r).length ≤ 2 := by
  have := unitsOf_len r
  unfold wN at this; split at this <;> omega
theorem units_len (l : List Int) : (units l).length ≤ 2 * l.length := by
  induction l with
  | nil => simp [units]
  | cons r l ih => have := unitsOf_pos r; rw [units_cons]; simp; omega
theorem unitsOf_fits (r : Int) : ∀ x ∈ unitsOf r, 0 ≤ x ∧ x ≤ 65535 := by
  intro x hx
  unfold unitsOf at hx
  split at hx
  · rename_i h
    unfold pairB at h; simp at h
    rcases List.mem_cons.1 hx with rfl | hx
    · unfold hiN; omega
    · simp at hx; subst hx; unfold loN; omega
  · rename_i h
    split at hx
    · rename_i h2
      simp at hx; subst hx
      unfold pairB at h; unfold scalarB at h2; simp at h h2; omega
    · simp at hx; omega

/-- each fits 16 bits -/
def Fits (us : List Int) : Prop := ∀ x ∈ us, 0 ≤ x ∧ x ≤ 65535
theorem units_fits (l : List Int) : Fits (units l) := by
  intro x hx
  obtain ⟨r, _, h⟩ := List.mem_flatMap.1 hx
  exact unitsOf_fits r x h
theorem Fits.tail {a : Int} {l : List Int} (h : Fits (a :: l)) : Fits l := fun x hx => h x (List.mem_cons_of_mem _ hx)
theorem Fits.head {a : Int} {l : List Int} (h : Fits (a :: l)) : 0 ≤ a ∧ a ≤ 65535 := h a (List.mem_cons_self ..)
theorem Fits.append {l m : List Int} (h : Fits l) (k : Fits m) : Fits (l ++ m) := fun x hx => (List.mem_append.1 hx).elim (h x) (k x)

/-- the unit at a place -/
def uA (us : List Int) (i : Nat) : Int := us.getD i 0
theorem Fits.at {us : List Int} (h : Fits us) (i : Nat) : 0 ≤ uA us i ∧ uA us i ≤ 65535 := by
  unfold uA
  rw [List.getD_eq_getElem?_getD]
  by_cases hi : i < us.length
  · rw [List.getElem?_eq_getElem hi]; exact h _ (List.getElem_mem hi)
  · rw [List.getElem?_eq_none (by omega)]; simp
/-- is there a pair at a place? -/
def pairAt (us : List Int) (i : Nat) : Bool := decide (i + 1 < us.length) && highB (uA us i) && lowB (uA us (i + 1))
/-- the character at a place, and how many units it has -/
def rA (us : List Int) (i : Nat) : Int := if pairAt us i then joinN (uA us i) (uA us (i + 1)) else aloneN (uA us i)
def nA (us : List Int) (i : Nat) : Nat := if pairAt us i then 2 else 1
theorem nA_bounds (us : List Int) (i : Nat) (hi : i < us.length) : 1 ≤ nA us i ∧ nA us i ≤ 2 ∧ i + nA us i ≤ us.length := by
  unfold nA
  split
  · rename_i h
    unfold pairAt at h; simp at h; omega
  · omega
theorem alone_lt (u : Int) (h0 : 0 ≤ u) (h1 : u ≤ 65535) : 0 ≤ aloneN u ∧ aloneN u ≤ 65535 := by
  unfold aloneN; split <;> omega
theorem join_pair (h l : Int) (hh : highB h = true) (hl : lowB l = true) : pairB (joinN h l) = true := by
  unfold highB at hh; unfold lowB at hl; simp at hh hl
  unfold pairB joinN; simp; omega
theorem wN_rA {us : List Int} (h : Fits us) (i : Nat) : wN (rA us i) = nA us i := by
  unfold rA nA wN
  by_cases hp : pairAt us i = true
  · rw [if_pos hp, if_pos hp]
    unfold pairAt at hp; simp at hp
    rw [if_pos (join_pair _ _ hp.1.2 hp.2)]; rfl
  · rw [if_neg hp, if_neg hp]
    have := alone_lt (uA us i) (h.at i).1 (h.at i).2
    rw [if_neg (by unfold pairB; simp; omega)]; rfl
theorem rA_bounds {us : List Int} (h : Fits us) (i : Nat) : 0 ≤ rA us i ∧ rA us i ≤ 1114111 := by
  unfold rA
  split
  · rename_i hp
    unfold pairAt highB lowB at hp; simp at hp
    unfold joinN; omega
  · have := alone_lt (uA us i) (h.at i).1 (h.at i).2
    omega

def wplacesF (us : List Int) : Nat → Nat → List Nat
  | 0, _ => []
  | f + 1, i => if i < us.length then i :: wplacesF us f (i + nA us i) else []
/-- the places of the characters from the unit i on -/
def wplaces (us : List Int) (i : Nat) : List Nat := wplacesF us (us.length - i) i
theorem wplacesF_end (us : List Int) (f i : Nat) (h : ¬ i < us.length) : wplacesF us f i = [] := by
  cases f with
  | zero => rfl
  | succ f => simp [wplacesF, h]
theorem wplacesF_any (us : List Int) : ∀ (f g i : Nat), us.length - i ≤ f → us.length - i ≤ g → wplacesF us f i = wplacesF us g i := by
  intro f
  induction f with
  | zero => intro g i h _; rw [wplacesF_end us 0 i (by omega), wplacesF_end us g i (by omega)]
  | succ f ih =>
    intro g i hf hg
    by_cases hi : i < us.length
    · cases g with
      | zero => omega
      | succ g =>
        have hb := nA_bounds us i hi
        simp only [wplacesF, hi, if_true]
        rw [ih g _ (by omega) (by omega)]
    · rw [wplacesF_end us _ i hi, wplacesF_end us g i hi]
theorem wplaces_end (us : List Int) (i : Nat) (h : ¬ i < us.length) : wplaces us i = [] := wplacesF_end us _ i h
theorem wplaces_step (us : List Int) (i : Nat) (h : i < us.length) : wplaces us i = i :: wplaces us (i + nA us i) := by
  have hb := nA_bounds us i h
  obtain ⟨f, hf⟩ : ∃ f, us.length - i = f + 1 := ⟨us.length - i - 1, by omega⟩
  unfold wplaces
  rw [hf]
  simp only [wplacesF, h, if_true]
  rw [wplacesF_any us f (us.length - (i + nA us i)) _ (by omega) (by omega)]
theorem wplaces_len (us : List Int) : ∀ (k i : Nat), us.length - i ≤ k → (wplaces us i).length ≤ us.length - i := by
  intro k
  induction k with
  | zero => intro i h; rw [wplaces_end us i (by omega)]; simp
  | succ k ih =>
    intro i h
    by_cases hi : i < us.length
    · have hb := nA_bounds us i hi
      rw [wplaces_step us i hi]
      have := ih (i + nA us i) (by omega)
      simp; omega
    · rw [wplaces_end us i hi]; simp
theorem wplaces_length (us : List Int) (i : Nat) : (wplaces us i).length ≤ us.length - i := wplaces_len us _ i (Nat.le_refl _)

/-- what units stand for, as a list -/
def wl : List Int → List Int
  | [] => []
  | [a] => [aloneN a]
  | a :: b :: t => if highB a && lowB b then joinN a b :: wl t else aloneN a :: wl (b :: t)
theorem wl_nil : wl [] = [] := by rw [wl]
theorem wl_single (a : Int) : wl [a] = [aloneN a] := by rw [wl]
theorem wl_two (a b : Int) (t : List Int) : wl (a :: b :: t) = if highB a && lowB b then joinN a b :: wl t else aloneN a :: wl (b :: t) := by rw [wl]
/-- what units stand for -/
def wrunes (us : List Int) : List Int := (wplaces us 0).map (rA us)
theorem wl_drop (us : List Int) : ∀ (k i : Nat), us.length - i ≤ k → (wplaces us i).map (rA us) = wl (us.drop i) := by
  intro k
  induction k with
  | zero => intro i h; rw [wplaces_end us i (by omega), List.drop_eq_nil_of_le (by omega)]; rfl
  | succ k ih =>
    intro i h
    by_cases hi : i < us.length
    · have hb := nA_bounds us i hi
      rw [wplaces_step us i hi, List.map_cons, ih _ (by omega)]
      have e1 : us.drop i = us[i] :: us.drop (i + 1) := List.drop_eq_getElem_cons hi
      have u1 : uA us i = us[i] := by unfold uA; rw [List.getD_eq_getElem?_getD, List.getElem?_eq_getElem hi]; rfl
      by_cases h2 : i + 1 < us.length
      · have e2 : us.drop (i + 1) = us[i + 1] :: us.drop (i + 1 + 1) := List.drop_eq_getElem_cons h2
        have u2 : uA us (i + 1) = us[i + 1] := by unfold uA; rw [List.getD_eq_getElem?_getD, List.getElem?_eq_getElem h2]; rfl
        rw [e1, e2, wl_two]
        unfold rA nA pairAt
        rw [u1, u2]
        simp only [h2, decide_true, Bool.true_and]
        split
        · rfl
        · rw [e2]
      · have hp : pairAt us i = false := by unfold pairAt; simp [h2]
        have hn : nA us i = 1 := by unfold nA; rw [hp]; rfl
        have hr : rA us i = aloneN (uA us i) := by unfold rA; rw [hp]; rfl
        rw [hn, hr, e1, List.drop_eq_nil_of_le (by omega), u1, wl_nil, wl_single]
    · rw [wplaces_end us i hi, List.drop_eq_nil_of_le (by omega)]; rfl
theorem wrunes_wl (us : List Int) : wrunes us = wl us := by
  have := wl_drop us us.length 0 (by omega)
  rw [List.drop_zero] at this; exact this
theorem wrunes_len (us : List Int) : (wrunes us).length ≤ us.length := by
  have := wplaces_length us 0
  unfold wrunes; rw [List.length_map]; omega

/-- a number, or FFFD where it is no character -/
def fixI (r : Int) : Int := if scalarB r then r else 65533
theorem pair_split (r : Int) (h : pairB r = true) : highB (hiN r) = true ∧ lowB (loN r) = true ∧ joinN (hiN r) (loN r) = r := by
  unfold pairB at h; simp at h
  refine ⟨?_, ?_, ?_⟩
  · unfold highB hiN; simp; omega
  · unfold lowB loN; simp; omega
  · unfold joinN hiN loN; omega
theorem pair_is_scalar (r : Int) (h : pairB r = true) : scalarB r = true := by
  unfold pairB at h; unfold scalarB halfB; simp at *; omega
theorem alone_scalar (r : Int) (h : scalarB r = true) : highB r = false ∧ lowB r = false ∧ aloneN r = r := by
  have : highB r = false ∧ lowB r = false := by
    unfold scalarB halfB at h; unfold highB lowB; simp at *; omega
  refine ⟨this.1, this.2, ?_⟩
  unfold aloneN; rw [this.1, this.2]; rfl
/-- one unit that is no surrogate, ahead of others -/
theorem wl_one (a : Int) (t : List Int) (ha : highB a = false) : wl (a :: t) = aloneN a :: wl t := by
  cases t with
  | nil => rfl
  | cons b t => rw [wl_two, ha]; rfl
/-- what the units of numbers stand for -/
theorem wl_units (l : List Int) : wl (units l) = l.map fixI := by
  induction l with
  | nil => rfl
  | cons r l ih =>
    rw [units_cons, List.map_cons, ← ih]
    unfold unitsOf
    by_cases hp : pairB r = true
    · rw [if_pos hp]
      obtain ⟨h1, h2, h3⟩ := pair_split r hp
      show wl (hiN r :: loN r :: units l) = _
      rw [wl_two, h1, h2, h3]
      unfold fixI
      rw [if_pos (pair_is_scalar r hp)]; rfl
    · rw [if_neg hp]
      by_cases hs : scalarB r = true
      · rw [if_pos hs]
        obtain ⟨h1, h2, h3⟩ := alone_scalar r hs
        show wl (r :: units l) = _
        rw [wl_one r _ h1, h3]
        unfold fixI; rw [if_pos hs]
      · rw [if_neg hs]
        show wl (65533 :: units l) = _
        rw [wl_one _ _ (by decide)]
        unfold fixI; rw [if_neg hs]; rfl
/-- a lone surrogate? -/
def surr (a : Int) : Bool := highB a || lowB a
theorem units_alone (a : Int) (h0 : 0 ≤ a) (h1 : a ≤ 65535) : unitsOf (aloneN a) = [if surr a then 65533 else a] := by
  by_cases hs : surr a = true
  · have e : aloneN a = 65533 := by unfold aloneN; unfold surr at hs; rw [if_pos hs]
    rw [e, if_pos hs]; rfl
  · have e : aloneN a = a := by unfold aloneN; unfold surr at hs; rw [if_neg hs]
    rw [e, if_neg hs]
    unfold unitsOf
    rw [if_neg (by unfold pairB; simp; omega), if_pos]
    unfold surr highB lowB at hs; unfold scalarB halfB; simp at *; omega
theorem units_join (a b : Int) (ha : highB a = true) (hb : lowB b = true) : unitsOf (joinN a b) = [a, b] := by
  unfold unitsOf
  rw [if_pos (join_pair a b ha hb)]
  unfold highB at ha; unfold lowB at hb; simp at ha hb
  unfold hiN loN joinN
  simp; omega
end Go.Proofs.Ytghcheoholkpbaa
