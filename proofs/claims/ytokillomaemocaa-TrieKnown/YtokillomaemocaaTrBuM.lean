/-
  The mathematics of Build: spans, when they are refused, and what value each number has by them.
-/
import Derived.Test.YtokillomaemocaaPMath
namespace Go.Proofs.Ytokillomaemocaa
set_option linter.unusedVariables false
set_option linter.unusedSimpArgs false
def mayC (p : Pc Int) : Bool := decide (0 ≤ p.lo) && (decide (p.lo ≤ p.hi) && decide (p.hi ≤ 1114111))
theorem mayC_iff {p : Pc Int} : mayC p = true ↔ 0 ≤ p.lo ∧ p.lo ≤ p.hi ∧ p.hi ≤ 1114111 := by simp [mayC]
/-- two spans have a number in common -/
def meet (p q : Pc Int) : Bool := decide (p.lo ≤ q.hi) && decide (q.lo ≤ p.hi)
theorem meet_comm (p q : Pc Int) : meet p q = meet q p := by unfold meet; rw [Bool.and_comm]
def Disj (p q : Pc Int) : Prop := meet p q = false
theorem Disj.symm {p q : Pc Int} (h : Disj p q) : Disj q p := (meet_comm q p).trans h
theorem disj_iff {p q : Pc Int} : Disj p q ↔ p.hi < q.lo ∨ q.hi < p.lo := by
  unfold Disj meet
  rw [Bool.and_eq_false_iff, decide_eq_false_iff_not, decide_eq_false_iff_not]
  omega
/-- the first that reaches outside -/
def extI : Nat → List (Pc Int) → Option Nat
  | _, [] => none
  | i, p :: ps => if mayC p then extI (i + 1) ps else some i
/-- the first that meets one ahead of it -/
def metI : Nat → List (Pc Int) → List (Pc Int) → Option Nat
  | _, _, [] => none
  | i, seen, p :: ps => if seen.any (fun q => meet q p) then some i else metI (i + 1) (seen ++ [p]) ps
/-- why spans are refused, and where -/
def refP (ps : List (Pc Int)) : Nat × Nat := match extI 0 ps with
  | some i => (i, 110)
  | none => match metI 0 [] ps with
    | some i => (i, 111)
    | none => (0, 0)
theorem extI_none : ∀ (ps : List (Pc Int)) (i : Nat), extI i ps = none ↔ ∀ p ∈ ps, mayC p = true := by
  intro ps
  induction ps with
  | nil => intro i; simp [extI]
  | cons p t ih =>
    intro i
    unfold extI
    by_cases h : mayC p = true
    · rw [if_pos h, ih]
      constructor
      · intro h2 q hq
        rcases List.mem_cons.1 hq with rfl | hq
        · exact h
        · exact h2 q hq
      · intro h2 q hq; exact h2 q (List.mem_cons_of_mem _ hq)
    · rw [if_neg h]
      constructor
      · intro h2; cases h2
      · intro h2; exact absurd (h2 p List.mem_cons_self) h
theorem extI_at : ∀ (ps : List (Pc Int)) (i k : Nat) (p : Pc Int), ps[k]? = some p → mayC p = false → (∀ j q, j < k → ps[j]? = some q → mayC q = true) → extI i ps = some (i + k) := by
  intro ps
  induction ps with
  | nil => intro i k p h; simp at h
  | cons q t ih =>
    intro i k p h1 h2 h3
    unfold extI
    cases k with
    | zero =>
      simp only [List.getElem?_cons_zero, Option.some.injEq] at h1
      subst h1
      rw [if_neg (by rw [h2]; decide)]
      rfl
    | succ k =>
      rw [if_pos (h3 0 q (by omega) rfl), ih (i + 1) k p (by simpa using h1) h2 (fun j q' hj hq => h3 (j + 1) q' (by omega) (by simpa using hq))]
      congr 1
      omega
theorem metI_none : ∀ (ps : List (Pc Int)) (i : Nat) (seen : List (Pc Int)), metI i seen ps = none ↔ (∀ q ∈ seen, ∀ p ∈ ps, Disj q p) ∧ ps.Pairwise Disj := by
  intro ps
  induction ps with
  | nil => intro i seen; simp [metI]
  | cons p t ih =>
    intro i seen
    unfold metI
    by_cases h : seen.any (fun q => meet q p) = true
    · rw [if_pos h]
      constructor
      · intro h2; cases h2
      · intro h2
        obtain ⟨q, hq, hm⟩ := List.any_eq_true.1 h
        have := h2.1 q hq p List.mem_cons_self
        unfold Disj at this
        rw [hm] at this; cases this
    · rw [if_neg h, ih, List.pairwise_cons]
      have hall : ∀ q ∈ seen, Disj q p := fun q hq => by
        cases hm : meet q p with
        | false => exact hm
        | true => exact absurd (List.any_eq_true.2 ⟨q, hq, hm⟩) h
      constructor
      · rintro ⟨h1, h2⟩
        refine ⟨fun q hq r hr => ?_, fun r hr => h1 p (by simp) r hr, h2⟩
        rcases List.mem_cons.1 hr with rfl | hr
        · exact hall q hq
        · exact h1 q (List.mem_append_left _ hq) r hr
      · rintro ⟨h1, h2, h3⟩
        refine ⟨fun q hq r hr => ?_, h3⟩
        rcases List.mem_append.1 hq with hq | hq
        · exact h1 q hq r (List.mem_cons_of_mem _ hr)
        · rw [List.mem_singleton.1 hq]; exact h2 r hr
theorem metI_at : ∀ (ps : List (Pc Int)) (i k : Nat) (seen : List (Pc Int)) (p : Pc Int), ps[k]? = some p → (∃ q ∈ seen ++ ps.take k, meet q p = true) → (∀ j q, j < k → ps[j]? = some q → ∀ r ∈ seen ++ ps.take j, meet r q = false) → metI i seen ps = some (i + k) := by
  intro ps
  induction ps with
  | nil => intro i k seen p h; simp at h
  | cons q t ih =>
    intro i k seen p h1 h2 h3
    unfold metI
    cases k with
    | zero =>
      simp only [List.getElem?_cons_zero, Option.some.injEq] at h1
      subst h1
      rw [List.take_zero, List.append_nil] at h2
      rw [if_pos (List.any_eq_true.2 h2)]
      rfl
    | succ k =>
      have h0 := h3 0 q (by omega) rfl
      rw [List.take_zero, List.append_nil] at h0
      rw [if_neg (fun e => by
        obtain ⟨r, hr, hm⟩ := List.any_eq_true.1 e
        rw [h0 r hr] at hm; cases hm), ih (i + 1) k (seen ++ [q]) p (by simpa using h1) (by simpa using h2) (fun j q' hj hq r hr => h3 (j + 1) q' (by omega) (by simpa using hq) r (by simpa using hr))]
      congr 1
      omega
theorem refP_ok {ps : List (Pc Int)} : (refP ps).2 = 0 ↔ (∀ p ∈ ps, mayC p = true) ∧ ps.Pairwise Disj := by
  unfold refP
  cases h1 : extI 0 ps with
  | some i =>
    constructor
    · intro h; cases h
    · intro h
      rw [(extI_none ps 0).2 h.1] at h1; cases h1
  | none =>
    have e1 := (extI_none ps 0).1 h1
    cases h2 : metI 0 [] ps with
    | some i =>
      constructor
      · intro h; cases h
      · intro h
        rw [(metI_none ps 0 []).2 ⟨by simp, h.2⟩] at h2; cases h2
    | none => exact ⟨fun _ => ⟨e1, ((metI_none ps 0 []).1 h2).2⟩, fun _ => rfl⟩
/-- the value that a number has by the spans -/
def valF (rest : Int) (ps : List (Pc Int)) (r : Nat) : Int := match ps.find? (fun p => decide (p.lo ≤ (r : Int)) && decide ((r : Int) ≤ p.hi)) with
  | some p => p.val
  | none => rest
def valsF (rest : Int) (ps : List (Pc Int)) : List Int := (List.range 1114112).map (valF rest ps)
theorem valF_in {rest : Int} {ps : List (Pc Int)} (hd : ps.Pairwise Disj) {p : Pc Int} (hp : p ∈ ps) {r : Nat} (h1 : p.lo ≤ (r : Int)) (h2 : (r : Int) ≤ p.hi) : valF rest ps r = p.val := by
  unfold valF
  cases hf : ps.find? (fun p => decide (p.lo ≤ (r : Int)) && decide ((r : Int) ≤ p.hi)) with
  | none =>
    have := List.find?_eq_none.1 hf p hp
    simp [h1, h2] at this
  | some q =>
    have hq := List.mem_of_find?_eq_some hf
    have hqr := List.find?_some hf
    simp only [Bool.and_eq_true, decide_eq_true_eq] at hqr
    show q.val = p.val
    by_cases e : q = p
    · rw [e]
    · exfalso
      have key : ∀ l : List (Pc Int), l.Pairwise Disj → q ∈ l → p ∈ l → Disj q p := by
        intro l hl
        induction hl with
        | nil => intro h; cases h
        | cons ha _ ih =>
          intro hq hp
          rcases List.mem_cons.1 hq with e1 | hq2
          · rcases List.mem_cons.1 hp with e2 | hp2
            · exact absurd (e1.trans e2.symm) e
            · rw [e1]; exact ha _ hp2
          · rcases List.mem_cons.1 hp with e2 | hp2
            · rw [e2]; exact (ha _ hq2).symm
            · exact ih hq2 hp2
      have := disj_iff.1 (key ps hd hq hp)
      omega
theorem valF_out {rest : Int} {ps : List (Pc Int)} {r : Nat} (h : ∀ p ∈ ps, ¬ (p.lo ≤ (r : Int) ∧ (r : Int) ≤ p.hi)) : valF rest ps r = rest := by
  unfold valF
  rw [List.find?_eq_none.2 (fun p hp => by have := h p hp; simpa using this)]
theorem range_more (f : Nat → Int) (n c : Nat) (x : Int) (h : ∀ r, n ≤ r → r < n + c → f r = x) : (List.range n).map f ++ List.replicate c x = (List.range (n + c)).map f := by
  induction c with
  | zero => simp
  | succ c ih =>
    rw [List.replicate_succ', ← List.append_assoc, ih (fun r h1 h2 => h r h1 (by omega)), show n + (c + 1) = (n + c) + 1 by omega, List.range_succ, List.map_append]
    simp [h (n + c) (by omega) (by omega)]
/-- sorted spans of which no two meet: each ends ahead of the next -/
theorem sorted_disj {ps qs : List (Pc Int)} (hp : qs.Perm ps) (hs : qs.Pairwise (fun p q => p.lo ≤ q.lo)) (hm : ∀ p ∈ ps, mayC p = true) (hd : ps.Pairwise Disj) : qs.Pairwise (fun p q => p.hi < q.lo) := by
  have hd2 : qs.Pairwise Disj := hp.symm.pairwise hd (fun h => Disj.symm h)
  have hboth := List.pairwise_and_iff.2 ⟨hs, hd2⟩
  refine hboth.imp_of_mem ?_
  intro p q h1 h2 h
  have m1 := mayC_iff.1 (hm p (hp.subset h1))
  have m2 := mayC_iff.1 (hm q (hp.subset h2))
  have := disj_iff.1 h.2
  have := h.1
  omega
end Go.Proofs.Ytokillomaemocaa
