/-
  A low block put so many times, told of all values so far.
-/
import Derived.Test.YtokillomaemocaaTrQf
namespace Go.Proofs.Ytokillomaemocaa.VU
open Go.RowKit Go.PlainAid Go.Lib Go.PRow Go.Maps Go.TrM
set_option linter.unusedVariables false
set_option linter.unusedSimpArgs false
theorem put_blocks {vs b : List El} {n : Nat} (h : vs.length % 64 = 0) (hb : b.length = 64) (hn : 0 < n) : whole (vs ++ (List.replicate n b).flatten) = ((numS (whole vs).1 b).1, (whole vs).2 ++ List.replicate n (numS (whole vs).1 b).2) ∧ restB (vs ++ (List.replicate n b).flatten) = [] ∧ (vs ++ (List.replicate n b).flatten).length = vs.length + 64 * n := by
  have hfl : (List.replicate n b).flatten.length = 64 * n := by rw [flat_len _ (fun c hc => by rw [List.eq_of_mem_replicate hc]; exact hb), List.length_replicate]
  have hcut : cutN n (List.replicate n b).flatten = List.replicate n b := by
    have := cutN_flat (List.replicate n b) (fun c hc => by rw [List.eq_of_mem_replicate hc]; exact hb)
    rwa [List.length_replicate] at this
  unfold whole restB
  have e : (vs ++ (List.replicate n b).flatten).length / 64 = vs.length / 64 + n := by rw [List.length_append, hfl]; omega
  rw [e, cutN_app _ _ _ _ (by omega), hcut, numL_app]
  obtain ⟨k, rfl⟩ : ∃ k, n = k + 1 := ⟨n - 1, by omega⟩
  refine ⟨?_, ?_, by rw [List.length_append, hfl]⟩
  · simp only [List.replicate_succ, numL]
    have hm : b ∈ (numS (numL [] (cutN (vs.length / 64) vs)).1 b).1 := (numS_mem _ _ _).2 (.inr rfl)
    rw [numL_rep hm]
    refine Prod.ext rfl ?_
    simp only
    congr 3
    by_cases hb2 : b ∈ (numL [] (cutN (vs.length / 64) vs)).1
    · rw [numS_yes hb2]
    · rw [numS_no hb2]
      simp [List.idxOf_append, hb2]
  · rw [List.drop_eq_nil_iff, List.length_append, hfl]
    omega
/-- a block put, in a contract of all values -/
theorem put_vals (w : World) (B mk : Nat) (o : Nat → Prop) (vs : List El) (h : MakV w B mk o vs) (hv : vs.length % 64 = 0) (g off c : Nat) (b : List El) (hb : OkB b) (hok : ∀ x ∈ b, okE x) (hc : ∀ j x, b[j]? = some x → w.cell? ⟨g, off + j, none⟩ = some (enc x)) (hg : ¬ o g) (n : Nat) (hn : 0 < n) (hl : vs.length + 64 * n ≤ 1114112) :
    Calls Try.prog 91 #[.pointer (some ⟨mk, 0, none⟩), .slice (some ⟨g, off, none⟩) 64 c, .int .i64 n] w fun e w' => e = .returned (.tuple #[]) ∧ ∃ o', MakV w' B mk o' (vs ++ (List.replicate n b).flatten) ∧ MakK w w' o o' ∧ Below B w w' := by
  obtain ⟨bn, m, v, vl, vb, rfl, hM, hk⟩ := h
  have hb64 : b.length = 64 := hb.1
  obtain ⟨e1, e2, e3⟩ := put_blocks (n := n) hv hb64 hn
  have hr : restB vs = [] := by unfold restB; rw [List.drop_eq_nil_iff]; omega
  refine (put_any w B mk bn m v vl vb _ _ _ hM g off c b hb hc (fun e => hg (.inr (.inr (.inr (.inl e))))) n ?_ ?_).mono ?_
  · have := whole_le vs; omega
  · rw [List.length_map, whole_len]; omega
  · rintro e w' ⟨rfl, v', vl', h1, h2, h3⟩
    refine ⟨rfl, _, ⟨bn, m, v', vl', vb, rfl, ?_, fun x hx => ?_⟩, h2, h3⟩
    · rw [e1, e2]
      rw [hr] at h1
      simp only [List.map_append, List.map_replicate]
      exact h1
    · rcases List.mem_append.1 hx with hx | hx
      · exact hk x hx
      · obtain ⟨l, hl, hx⟩ := List.mem_flatten.1 hx
        rw [List.eq_of_mem_replicate hl] at hx
        exact hok x hx
end Go.Proofs.Ytokillomaemocaa.VU
