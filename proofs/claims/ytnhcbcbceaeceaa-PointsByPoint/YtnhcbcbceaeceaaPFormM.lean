/-
  PointsOneForm, the mathematics: pieces that were put, and the same laid from the last to the first.
-/
import Derived.Test.YtnhcbcbceaeceaaPoQa
namespace Go.Proofs.Ytnhcbcbceaeceaa
set_option linter.unusedVariables false
variable {α : Type}

theorem none_of_free {ps : List (Pc α)} (o : OkP ps) {lo hi : Int} (h1 : lo ≤ hi) (h : ¬ frI ps lo < upI ps hi) {x : Int} (hx : lo ≤ x ∧ x ≤ hi) : atP ps x = none := by
  obtain ⟨A, M, C, c⟩ := cut3 o h1
  have hM : M = [] := by
    have e1 := c.fr
    have e2 := c.up
    exact List.length_eq_zero_iff.1 (by omega)
  subst hM
  refine atP_none fun p hp => ?_
  rw [c.eq, List.append_nil, List.mem_append] at hp
  rcases hp with hp | hp
  · exact .inr (by have := c.ha p hp; omega)
  · exact .inl (by have := c.hc p hp; omega)
/-- put at the end -/
theorem at_put {ps tk : List (Pc α)} (o : OkP ps) {lo hi : Int} (h1 : lo ≤ hi) (h : ¬ frI ps lo < upI ps hi) (v : α) (ht : ∀ x, atP ps x = atP tk x) (x : Int) :
    atP (repP ps lo hi [⟨lo, hi, v⟩]) x = atP (tk ++ [⟨lo, hi, v⟩]) x := by
  rw [at_rep o h1 (.inr ⟨v, rfl⟩), atP_append, ← ht, atP_cons, atP_nil]
  by_cases hx : lo ≤ x ∧ x ≤ hi
  · simp only [if_pos hx, none_of_free o h1 h hx]
    rfl
  · simp only [if_neg hx]
    cases atP ps x <;> rfl
/-- laid ahead -/
theorem at_lay {ps tk : List (Pc α)} (o : OkP ps) {p : Pc α} (h1 : p.lo ≤ p.hi) (ht : ∀ x, atP ps x = atP tk x) (x : Int) :
    atP (repP ps p.lo p.hi [⟨p.lo, p.hi, p.val⟩]) x = atP (p :: tk) x := by
  rw [at_rep o h1 (.inr ⟨p.val, rfl⟩), atP_cons, ht]
  rfl
theorem strs_one (eqv : α → α → Bool) (he : ∀ a b, eqv a b = true ↔ a = b) {ps qs tk : List (Pc α)} (o : OkP ps) (o' : OkP qs) (h : ∀ x, atP ps x = atP tk x) (h' : ∀ x, atP qs x = atP tk x) : strsP eqv ps = strsP eqv qs :=
  sep_one (strs_ok eqv o) (strs_ok eqv o') (strs_sep eqv he ps) (strs_sep eqv he qs) fun x => by
    rw [strs_at eqv (fun a b => (he a b).1) o, strs_at eqv (fun a b => (he a b).1) o', h, h']
theorem size_one (eqv : α → α → Bool) {ps qs : List (Pc α)} (h : strsP eqv ps = strsP eqv qs) : sizeP ps = sizeP qs := by
  rw [← strs_size eqv ps, ← strs_size eqv qs, h]
/-- the value of a stretch at its beginning -/
theorem at_of_mem {ps : List (Pc α)} (o : OkP ps) {p : Pc α} (hp : p ∈ ps) : atP ps p.lo = some p.val := by
  induction ps with
  | nil => cases hp
  | cons q ps ih =>
    rw [atP_cons]
    rcases List.mem_cons.1 hp with rfl | hp'
    · rw [if_pos ⟨Int.le_refl _, o.head.2.1⟩]
    · have := o.next p hp'
      rw [if_neg (by omega)]
      exact ih o.tail hp'
theorem rise_of {ps : List (Pc α)} (o : OkP ps) {i : Nat} {p q : Pc α} (hp : ps[i]? = some p) (hq : ps[i + 1]? = some q) : p.hi < q.lo := by
  obtain ⟨h1, e1⟩ := List.getElem?_eq_some_iff.1 hp
  obtain ⟨h2, e2⟩ := List.getElem?_eq_some_iff.1 hq
  have := List.pairwise_iff_getElem.1 o.1 i (i + 1) h1 h2 (by omega)
  rw [e1, e2] at this
  exact this
end Go.Proofs.Ytnhcbcbceaeceaa
