/-
  The mathematics of TrieBack: a trie's own spans, and spans the other way round.
-/
import Derived.Test.YtokillomaemocaaTrQt
import Derived.Test.YtokillomaemocaaTrQb
namespace Go.TrM
open Go.Proofs.Ytokillomaemocaa
set_option linter.unusedVariables false
section
variable {α : Type} [DecidableEq α]
theorem spS_inv (vs : List α) : ∀ k, (∀ p ∈ (spS vs k).1, 0 ≤ p.lo ∧ p.lo ≤ p.hi ∧ p.hi < ((spS vs k).2 : Int) ∧ p.val ∈ vs) ∧ (spS vs k).1.Pairwise (fun p q => p.hi < q.lo) ∧ (∀ r, r < (spS vs k).2 → ∃ p ∈ (spS vs k).1, p.lo ≤ (r : Int) ∧ (r : Int) ≤ p.hi ∧ vs[r]? = some p.val) ∧ (spS vs k).1.length ≤ (spS vs k).2 := by
  intro k
  induction k with
  | zero => exact ⟨(fun p hp => by cases hp), List.Pairwise.nil, (fun r hr => absurd hr (Nat.not_lt_zero _)), Nat.le_refl _⟩
  | succ k ih =>
    cases h : vs[(spS vs k).2]? with
    | none => rw [spS_none vs k h]; exact ih
    | some x =>
      obtain ⟨i1, i2, i3, i4⟩ := ih
      rw [spS_step vs k x h]
      have hl := (List.getElem?_eq_some_iff.1 h).1
      obtain ⟨e1, e2, e3, _⟩ := endV_spec vs _ hl
      generalize hE : endV vs (spS vs k).2 = E at *
      generalize ha : (spS vs k).2 = a at *
      generalize (spS vs k).1 = l at *
      simp only
      refine ⟨fun p hp => ?_, ?_, fun r hr => ?_, ?_⟩
      · rcases List.mem_append.1 hp with hp | hp
        · obtain ⟨j1, j2, j3, j4⟩ := i1 p hp
          exact ⟨j1, j2, by omega, j4⟩
        · rw [List.mem_singleton.1 hp]
          exact ⟨by simp only; omega, by simp only; omega, by simp only; omega, List.mem_of_getElem? h⟩
      · rw [List.pairwise_append]
        refine ⟨i2, List.pairwise_singleton _ _, fun p hp q hq => ?_⟩
        rw [List.mem_singleton.1 hq]
        exact (i1 p hp).2.2.1
      · rcases Nat.lt_or_ge r a with hra | hra
        · obtain ⟨p, hp, j⟩ := i3 r hra
          exact ⟨p, List.mem_append_left _ hp, j⟩
        · refine ⟨_, List.mem_append_right _ (List.mem_singleton.2 rfl), by simp only; omega, by simp only; omega, ?_⟩
          rw [e3 r hra (by omega), h]
      · rw [List.length_append, List.length_singleton]; omega
end
end Go.TrM
namespace Go.Proofs.Ytokillomaemocaa
open Go.TrM
theorem spans_ref (vs : List Int) (hl : vs.length = 1114112) : (refP (spansV vs)).2 = 0 := by
  obtain ⟨i1, i2, _, _⟩ := spS_inv vs vs.length
  have hle := (spS_le vs vs.length).1
  rw [refP_ok]
  refine ⟨fun p hp => ?_, ?_⟩
  · obtain ⟨j1, j2, j3, _⟩ := i1 p hp
    rw [mayC_iff]
    omega
  · exact i2.imp fun h => disj_iff.2 (.inl h)
theorem spans_vals (vs : List Int) (hl : vs.length = 1114112) (rest : Int) : valsF rest (spansV vs) = vs := by
  obtain ⟨i1, i2, i3, _⟩ := spS_inv vs vs.length
  have hfull := spS_full vs vs.length rfl
  apply List.ext_getElem?
  intro r
  rcases Nat.lt_or_ge r 1114112 with hr | hr
  · unfold valsF
    rw [List.getElem?_map, List.getElem?_range hr]
    obtain ⟨p, hp, h1, h2, h3⟩ := i3 r (by omega)
    rw [h3]
    exact congrArg some (valF_in (i2.imp fun h => disj_iff.2 (.inl h)) hp h1 h2)
  · rw [List.getElem?_eq_none (by unfold valsF; simpa using hr), List.getElem?_eq_none (by omega)]
theorem spans_len (vs : List Int) (hl : vs.length = 1114112) : (spansV vs).length ≤ 1114112 := by
  obtain ⟨_, _, _, i4⟩ := spS_inv vs vs.length
  have hfull := spS_full vs vs.length rfl
  show (spS vs vs.length).1.length ≤ _
  omega
theorem spans_mem (vs : List Int) : ∀ p ∈ spansV vs, p.val ∈ vs := fun p hp => ((spS_inv vs vs.length).1 p hp).2.2.2
theorem rev_ref (ps : List (Pc Int)) (h : (refP ps).2 = 0) : (refP ps.reverse).2 = 0 := by
  rw [refP_ok] at h ⊢
  refine ⟨fun p hp => h.1 p (List.mem_reverse.1 hp), ?_⟩
  rw [List.pairwise_reverse]
  exact h.2.imp fun h => Disj.symm h
theorem rev_vals (ps : List (Pc Int)) (h : (refP ps).2 = 0) (rest : Int) : valsF rest ps.reverse = valsF rest ps := by
  have hr := rev_ref ps h
  rw [refP_ok] at h hr
  unfold valsF
  refine List.map_congr_left fun r _ => ?_
  by_cases he : ∃ p ∈ ps, p.lo ≤ (r : Int) ∧ (r : Int) ≤ p.hi
  · obtain ⟨p, hp, h1, h2⟩ := he
    rw [valF_in h.2 hp h1 h2, valF_in hr.2 (List.mem_reverse.2 hp) h1 h2]
  · rw [valF_out (fun p hp hc => he ⟨p, hp, hc⟩), valF_out (fun p hp hc => he ⟨p, List.mem_reverse.1 hp, hc⟩)]
end Go.Proofs.Ytokillomaemocaa
