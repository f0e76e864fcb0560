/-
  What package mirrors speaks of, as mathematics: a list of mirrors, the first that has a From, what is wrong in it.
-/
import Derived.Maps.OwnSet
import Derived.WalkKit
namespace Go.Proofs.YtnabbahdmajfpaaGreatDoor
open Go.RowKit
set_option linter.unusedVariables false

structure MirD where
  line : Int
  frm : Int
  to : Int
  best : Bool
instance : DecidableEq MirD := fun a b => decidable_of_iff (a.line = b.line ∧ a.frm = b.frm ∧ a.to = b.to ∧ a.best = b.best) (by cases a; cases b; simp)
def zeroM : MirD := ⟨0, 0, 0, false⟩
instance : Inhabited MirD := ⟨zeroM⟩
abbrev mirC (x : MirD) : List Value := [.int .i64 x.line, .int .i32 x.frm, .int .i32 x.to, .bool x.best]
abbrev mirV (x : MirD) : Value := .agg #[.int .i64 x.line, .int .i32 x.frm, .int .i32 x.to, .bool x.best]
def i32OkM (r : Int) : Prop := -2147483648 ≤ r ∧ r ≤ 2147483647

def isPtM (r : Int) : Bool := decide (0 ≤ r) && decide (r ≤ 1114111)
/-- the place of the first that has a From -/
def idxM (l : List MirD) (r : Int) : Option Nat := l.findIdx? (fun x => decide (x.frm = r))
theorem idx_some {l : List MirD} {r : Int} {k : Nat} (h : idxM l r = some k) : ∃ x, l[k]? = some x ∧ x.frm = r ∧ ∀ j y, j < k → l[j]? = some y → y.frm ≠ r := by
  obtain ⟨hk, h1, h2⟩ := List.findIdx?_eq_some_iff_getElem.1 h
  refine ⟨l[k], List.getElem?_eq_getElem hk, by simpa using h1, fun j y hj hy => ?_⟩
  have hjl : j < l.length := (List.getElem?_eq_some_iff.1 hy).1
  have := h2 j hj
  rw [(List.getElem?_eq_some_iff.1 hy).2] at this
  simpa using this
theorem idx_none {l : List MirD} {r : Int} (h : idxM l r = none) : ∀ x ∈ l, x.frm ≠ r := by
  have := List.findIdx?_eq_none_iff.1 h
  intro x hx
  simpa using this x hx
theorem idx_lt {l : List MirD} {r : Int} {k : Nat} (h : idxM l r = some k) : k < l.length := by
  obtain ⟨x, hx, _⟩ := idx_some h
  exact (List.getElem?_eq_some_iff.1 hx).1
theorem idx_of {l : List MirD} {r : Int} {i : Nat} {x : MirD} (hx : l[i]? = some x) (hr : x.frm = r) : ∃ k, idxM l r = some k ∧ k ≤ i := by
  cases h : idxM l r with
  | none => exact absurd hr (idx_none h x (List.mem_of_getElem? hx))
  | some k =>
    refine ⟨k, rfl, ?_⟩
    obtain ⟨y, _, _, hj⟩ := idx_some h
    apply Nat.le_of_not_lt
    intro hlt
    exact hj i x hlt hx hr
theorem idx_snoc (l : List MirD) (x : MirD) (r : Int) : idxM (l ++ [x]) r = (idxM l r).or (if x.frm = r then some l.length else none) := by
  unfold idxM
  rw [List.findIdx?_append]
  by_cases h : x.frm = r
  · simp [h]
  · simp [h]
/-- the mirror of a number -/
def ofM (l : List MirD) (r : Int) : Option Int := (l.find? (fun x => decide (x.frm = r))).map (·.to)
theorem of_cons (x : MirD) (l : List MirD) (r : Int) : ofM (x :: l) r = if x.frm = r then some x.to else ofM l r := by
  unfold ofM
  rw [List.find?_cons]
  by_cases h : x.frm = r <;> simp [h]
theorem of_idx (l : List MirD) (r : Int) : ofM l r = (idxM l r).bind fun k => (l[k]?).map (·.to) := by
  induction l with
  | nil => rfl
  | cons x l ih =>
    rw [of_cons]
    unfold idxM
    rw [List.findIdx?_cons]
    by_cases h : x.frm = r
    · simp [h]
    · rw [if_neg h, ih]
      unfold idxM
      simp [h]
      cases List.findIdx? (fun x => decide (x.frm = r)) l <;> simp
theorem of_some {l : List MirD} {r t : Int} (h : ofM l r = some t) : ∃ x ∈ l, x.frm = r ∧ x.to = t := by
  unfold ofM at h
  obtain ⟨x, hx, rfl⟩ := Option.map_eq_some_iff.1 h
  exact ⟨x, List.mem_of_find?_eq_some hx, by simpa using List.find?_some hx, rfl⟩
theorem of_none {l : List MirD} {r : Int} (h : ofM l r = none) : ∀ x ∈ l, x.frm ≠ r := by
  unfold ofM at h
  rw [Option.map_eq_none_iff, List.find?_eq_none] at h
  intro x hx
  simpa using h x hx

/-- why a mirror may not be, whatever stands beside it -/
def whyM (x : MirD) : Int := if isPtM x.frm && isPtM x.to then (if x.frm = x.to then 91 else 0) else 2
def againM (l : List MirD) (i : Nat) : Bool := (l.take i).any fun y => decide (y.frm = (l.getD i zeroM).frm)
def wrongM (l : List MirD) (i : Nat) : Int := if whyM (l.getD i zeroM) ≠ 0 then whyM (l.getD i zeroM) else if againM l i then 92 else 0
def backM (l : List MirD) (i : Nat) : Bool := l.any fun y => decide (y.frm = (l.getD i zeroM).to) && decide (y.to = (l.getD i zeroM).frm)
def twistM (l : List MirD) (i : Nat) : Int := if backM l i then 0 else 90
def firstM (f : Nat → Int) (n : Nat) : Option Nat := (List.range n).find? fun i => decide (f i ≠ 0)
def chkM (l : List MirD) : Nat × Int := match firstM (wrongM l) l.length with
  | some i => (i, wrongM l i)
  | none => match firstM (twistM l) l.length with
    | some i => (i, twistM l i)
    | none => (0, 0)
theorem first_at {f : Nat → Int} {n i : Nat} (hi : i < n) (h0 : ∀ k, k < i → f k = 0) (h : f i ≠ 0) : firstM f n = some i := by
  unfold firstM
  rw [List.find?_range_eq_some]
  refine ⟨by simpa using h, by simpa using hi, fun j hj => by simpa using h0 j hj⟩
theorem first_none {f : Nat → Int} {n : Nat} (h0 : ∀ k, k < n → f k = 0) : firstM f n = none := by
  unfold firstM
  rw [List.find?_eq_none]
  intro x hx
  simpa using h0 x (by simpa using hx)
theorem first_some {f : Nat → Int} {n i : Nat} (h : firstM f n = some i) : i < n ∧ f i ≠ 0 := by
  unfold firstM at h
  exact ⟨by simpa using List.mem_of_find?_eq_some h, by simpa using List.find?_some h⟩
theorem first_none_inv {f : Nat → Int} {n : Nat} (h : firstM f n = none) : ∀ k, k < n → f k = 0 := by
  unfold firstM at h
  rw [List.find?_eq_none] at h
  intro k hk
  simpa using h k (by simpa using hk)
theorem chk_wrong {l : List MirD} {i : Nat} (hi : i < l.length) (h0 : ∀ k, k < i → wrongM l k = 0) (h : wrongM l i ≠ 0) : chkM l = (i, wrongM l i) := by
  unfold chkM
  rw [first_at hi h0 h]
theorem chk_twist {l : List MirD} {i : Nat} (hw : ∀ k, k < l.length → wrongM l k = 0) (hi : i < l.length) (h0 : ∀ k, k < i → twistM l k = 0) (h : twistM l i ≠ 0) : chkM l = (i, 90) := by
  unfold chkM
  rw [first_none hw, first_at hi h0 h]
  show (i, twistM l i) = _
  unfold twistM at h ⊢
  split at h
  · exact absurd rfl h
  · rename_i hb; rw [if_neg hb]
theorem chk_ok {l : List MirD} (hw : ∀ k, k < l.length → wrongM l k = 0) (ht : ∀ k, k < l.length → twistM l k = 0) : chkM l = (0, 0) := by
  unfold chkM
  rw [first_none hw, first_none ht]
theorem chk_inv {l : List MirD} (h : (chkM l).2 = 0) : (∀ k, k < l.length → wrongM l k = 0) ∧ (∀ k, k < l.length → twistM l k = 0) ∧ chkM l = (0, 0) := by
  unfold chkM at h ⊢
  cases h1 : firstM (wrongM l) l.length with
  | some i => rw [h1] at h; exact absurd h (first_some h1).2
  | none =>
    rw [h1] at h
    cases h2 : firstM (twistM l) l.length with
    | some i => rw [h2] at h; exact absurd h (first_some h2).2
    | none => exact ⟨first_none_inv h1, first_none_inv h2, rfl⟩
theorem getD_at {l : List MirD} {i : Nat} {x : MirD} (hx : l[i]? = some x) : l.getD i zeroM = x := by simp [List.getD, hx]
/-- what the program asks: does the first that has this From stand ahead? -/
theorem again_idx {l : List MirD} {i : Nat} {x : MirD} (hx : l[i]? = some x) : ∃ k, idxM l x.frm = some k ∧ k ≤ i ∧ againM l i = decide (k < i) := by
  obtain ⟨k, hk, hki⟩ := idx_of hx rfl
  refine ⟨k, hk, hki, ?_⟩
  obtain ⟨y, hy, hyf, hfirst⟩ := idx_some hk
  unfold againM
  rw [getD_at hx]
  by_cases hlt : k < i
  · rw [decide_eq_true hlt, List.any_eq_true]
    refine ⟨y, ?_, by simpa using hyf⟩
    rw [List.mem_take_iff_getElem]
    have hkl := (List.getElem?_eq_some_iff.1 hy).1
    exact ⟨k, by omega, (List.getElem?_eq_some_iff.1 hy).2⟩
  · rw [decide_eq_false hlt, List.any_eq_false]
    intro z hz
    rw [List.mem_take_iff_getElem] at hz
    obtain ⟨j, hj, rfl⟩ := hz
    have := hfirst j l[j] (by omega) (List.getElem?_eq_getElem (by omega))
    simpa using this
/-- where nothing is wrong by itself or by those ahead, no two have one From -/
theorem unique_frm {l : List MirD} (hw : ∀ k, k < l.length → wrongM l k = 0) {i j : Nat} {x y : MirD} (hx : l[i]? = some x) (hy : l[j]? = some y) (he : x.frm = y.frm) : i = j := by
  have key : ∀ (i j : Nat) (x y : MirD), l[i]? = some x → l[j]? = some y → x.frm = y.frm → ¬ i < j := by
    intro i j x y hx hy he hlt
    have hjl := (List.getElem?_eq_some_iff.1 hy).1
    have h := hw j hjl
    unfold wrongM at h
    have ha : againM l j = true := by
      unfold againM
      rw [getD_at hy, List.any_eq_true]
      refine ⟨x, ?_, by simpa using he⟩
      rw [List.mem_take_iff_getElem]
      have := (List.getElem?_eq_some_iff.1 hx).1
      exact ⟨i, by omega, (List.getElem?_eq_some_iff.1 hx).2⟩
    rw [ha] at h
    split at h
    · rename_i hn; exact hn h
    · simp at h
  have h1 := key i j x y hx hy he
  have h2 := key j i y x hy hx he.symm
  omega
/-- what the program asks: does the first that has this To as its From lead back? -/
theorem back_idx {l : List MirD} (hw : ∀ k, k < l.length → wrongM l k = 0) {i : Nat} {x : MirD} (hx : l[i]? = some x) : backM l i = match idxM l x.to with
    | none => false
    | some b => decide ((l.getD b zeroM).to = x.frm) := by
  unfold backM
  rw [getD_at hx]
  cases h : idxM l x.to with
  | none =>
    show _ = false
    rw [List.any_eq_false]
    intro y hy
    simp [idx_none h y hy]
  | some b =>
    obtain ⟨z, hz, hzf, _⟩ := idx_some h
    show _ = decide _
    rw [getD_at hz]
    by_cases hto : z.to = x.frm
    · rw [decide_eq_true hto, List.any_eq_true]
      exact ⟨z, List.mem_of_getElem? hz, by simp [hzf, hto]⟩
    · rw [decide_eq_false hto, List.any_eq_false]
      intro y hy hyy
      simp only [Bool.and_eq_true, decide_eq_true_eq] at hyy
      obtain ⟨j, hj⟩ := List.getElem?_of_mem hy
      have := unique_frm hw hj hz (hyy.1.trans hzf.symm)
      subst this
      rw [hj] at hz
      cases hz
      exact hto hyy.2
/-- mirrors that may be lead back -/
theorem of_back {l : List MirD} (hw : ∀ k, k < l.length → wrongM l k = 0) (ht : ∀ k, k < l.length → twistM l k = 0) {r t : Int} (h : ofM l r = some t) : ofM l t = some r ∧ t ≠ r ∧ isPtM t = true ∧ isPtM r = true := by
  obtain ⟨x, hx, rfl, rfl⟩ := of_some h
  obtain ⟨i, hi⟩ := List.getElem?_of_mem hx
  have hil := (List.getElem?_eq_some_iff.1 hi).1
  have h1 := hw i hil
  have h2 := ht i hil
  have hb : backM l i = true := by
    unfold twistM at h2
    cases hb : backM l i with
    | true => rfl
    | false => rw [hb] at h2; simp at h2
  rw [back_idx hw hi] at hb
  have hy : whyM x = 0 := by
    unfold wrongM at h1
    rw [getD_at hi] at h1
    by_cases e : whyM x = 0
    · exact e
    · rw [if_pos e] at h1; exact h1
  have hp : isPtM x.frm = true ∧ isPtM x.to = true ∧ x.frm ≠ x.to := by
    unfold whyM at hy
    split at hy
    · rename_i hh
      split at hy
      · exact absurd hy (by decide)
      · rename_i hne
        rw [Bool.and_eq_true] at hh
        exact ⟨hh.1, hh.2, hne⟩
    · exact absurd hy (by decide)
  refine ⟨?_, fun e => hp.2.2 e.symm, hp.2.1, hp.1⟩
  rw [of_idx]
  cases hk : idxM l x.to with
  | none => rw [hk] at hb; exact absurd hb (by simp)
  | some b =>
    rw [hk] at hb
    obtain ⟨z, hz, _, _⟩ := idx_some hk
    have hb2 : decide ((l.getD b zeroM).to = x.frm) = true := hb
    rw [getD_at hz] at hb2
    have hb' : z.to = x.frm := by simpa using hb2
    show (l[b]?).map (·.to) = _
    rw [hz, Option.map_some, hb']
end Go.Proofs.YtnabbahdmajfpaaGreatDoor
