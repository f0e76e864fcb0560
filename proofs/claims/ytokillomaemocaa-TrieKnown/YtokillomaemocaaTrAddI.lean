/-
  A value added, values laid.
-/
import Derived.Test.YtokillomaemocaaTrPutI
import Derived.Test.YtokillomaemocaaTrMV
namespace Go.Proofs.Ytokillomaemocaa.VI
open Go.RowKit Go.PlainAid Go.Lib Go.PRow Go.Maps Go.TrM
set_option linter.unusedVariables false
set_option linter.unusedSimpArgs false

/-- a maker that was given the values vs so far; o: the blocks that are its own -/
def MakV (w : World) (B mk : Nat) (o : Nat → Prop) (vs : List El) : Prop := ∃ bn m v vl vb, o = Own mk bn m v vl vb ∧ MakAt w B mk bn m v vl vb (whole vs).1 ((whole vs).2.map Int.ofNat) (restB vs) ∧ ∀ x ∈ vs, okE x
/-- one value laid as a row of its own -/
theorem rowE_one (w : World) (x : El) : RowE (w.alloc (.cells #[enc x] 3)) w.heap.size (.slice (some ⟨w.heap.size, 0, none⟩) 1 1) [x] :=
  RowE.of (cur := #[enc x]) (Nat.le_refl _) (heap_alloc_new w _) rfl (Nat.le_refl _) (by unfold maxLen; omega) rfl rfl
/-- a value begun, told of the maker -/
theorem MakAt.begun {w w' : World} {B mk bn m : Nat} {v vl vb vb' : Value} {bs : List (List El)} {ls : List Int} {xs xs' : List El} (h : MakAt w B mk bn m v vl vb bs ls xs) (ht : TurnedE w w' B vb vb' xs') : MakAt (w'.setCell ⟨mk, 2, none⟩ vb') B mk bn m v vl vb' bs ls xs' ∧ MakK w (w'.setCell ⟨mk, 2, none⟩ vb') (Own mk bn m v vl vb) (Own mk bn m v vl vb') ∧ w'.heap[mk]? = some (.cells #[.pointer (some ⟨bn, 0, none⟩), vl, vb] 229 (0, 0)) := by
  have hx : ∀ i, i < w.heap.size → some i ≠ blk vb → w'.heap[i]? = w.heap[i]? := fun i hi hne => ht.2.1.block i hi hne
  have hsz : w.heap.size ≤ w'.heap.size := ht.2.1.size
  have hmk := (hx mk h.lt (fun e => h.mkb e.symm)).trans h.hk
  have hne : ∀ g, blk vb' = some g → g ≠ mk := fun g e q => by
    subst q
    rcases ht.2.2 with q | q
    · exact h.mkb (q ▸ e)
    · have := q g e
      have := h.lt
      omega
  refine ⟨⟨set32 hmk, h.hn.keep ?_ ?_ ?_, h.hl.kept fun g e => ?_, ht.1.kept fun g e => set_ne (hne g e), h.bB, ?_⟩, ⟨by rw [World.size_setCell]; exact hsz, ?_, ?_⟩, hmk⟩
  · rw [set_ne (fun e => h.mkbn e.symm), hx bn h.hn.lt.1 (fun e => h.bnb e.symm)]
  · rw [set_ne (fun e => h.mkm e.symm), hx m h.hn.lt.2 (fun e => h.mb e.symm)]
  · intro g e
    rw [set_ne (show g ≠ mk from fun q => h.mkv (q ▸ e)), hx g (h.hn.hv.lt g e).2 (fun q => h.nv g e q.symm)]
  · rw [set_ne (show g ≠ mk from fun q => h.mkl (q ▸ e)), hx g (h.hl.lt g e).2 (fun q => h.bvl q.symm e)]
  · intro g e e'
    rcases ht.2.2 with q | q
    · exact h.nv g e (q ▸ e')
    · have := q g e'
      have := (h.hn.hv.lt g e).2
      omega
  · intro i hi ho
    rw [set_ne (fun e => ho (.inl e)), hx i hi (fun e => ho (.inr (.inr (.inr (.inr (.inr e.symm))))))]
  · rintro i (e | e | e | e | e | e)
    · exact .inl (.inl e)
    · exact .inl (.inr (.inl e))
    · exact .inl (.inr (.inr (.inl e)))
    · exact .inl (.inr (.inr (.inr (.inl e))))
    · exact .inl (.inr (.inr (.inr (.inr (.inl e)))))
    · rcases ht.2.2 with q | q
      · exact .inl (.inr (.inr (.inr (.inr (.inr (q ▸ e))))))
      · exact .inr (q i e)
/-- a value begun, in a walk -/
theorem begin_one {w : World} {B mk bn m : Nat} {v vl vb : Value} {bs : List (List El)} {ls : List Int} {xs : List El} (h : MakAt w B mk bn m v vl vb bs ls xs) (x : El) (hlen : xs.length ≤ 64) :
    ∃ s' w', (∀ ty, (Builtin.append_ #[39, 39] ty #[vb, .slice (some ⟨w.heap.size, 0, none⟩) 1 1]).run Try.prog (w.alloc (.cells #[enc x] 3)) = .ok s' w') ∧ (∃ a c, s' = .slice a (xs ++ [x]).length c) ∧ w'.heap[mk]? = some (.cells #[.pointer (some ⟨bn, 0, none⟩), vl, vb] 229 (0, 0)) ∧
      MakAt (w'.setCell ⟨mk, 2, none⟩ s') B mk bn m v vl s' bs ls (xs ++ [x]) ∧ MakK w (w'.setCell ⟨mk, 2, none⟩ s') (Own mk bn m v vl vb) (Own mk bn m v vl s') ∧ Below B w (w'.setCell ⟨mk, 2, none⟩ s') := by
  have hbW : Below w.heap.size w (w.alloc (.cells #[enc x] 3)) := (Below.refl _ w).alloc (Nat.le_refl _) _
  have hM := h.below hbW
  have hBs : B ≤ w.heap.size := Nat.le_trans h.bB (Nat.le_of_lt h.lt)
  obtain ⟨s', w', hr, ht⟩ := append_es B w.heap.size vb (.slice (some ⟨w.heap.size, 0, none⟩) 1 1) xs [x] _ (by rw [World.size_alloc]; omega) hM.hb (rowE_one w x) (by simp only [List.length_cons, List.length_nil]; omega)
  obtain ⟨hA, hK, hmk⟩ := hM.begun ht
  refine ⟨s', w', hr, ?_, hmk, hA, hK.after hbW, ?_⟩
  · obtain ⟨a, c, e, _⟩ := ht.1.form
    exact ⟨a, c, e⟩
  · have q1 := hbW.mono hBs
    have q2 := q1.grown ht.2.1 (by rw [World.size_alloc]; omega) (fun k hk => (hM.hb.lt k hk).1)
    exact q2.setCell h.bB _
/-- nothing is begun any more -/
theorem MakAt.empt {w : World} {B mk bn m g c : Nat} {v vl : Value} {bs : List (List El)} {ls : List Int} {xs : List El} (h : MakAt w B mk bn m v vl (.slice (some ⟨g, 0, none⟩) xs.length c) bs ls xs) (hx : xs ≠ []) : MakAt (w.setCell ⟨mk, 2, none⟩ (.slice (some ⟨g, 0, none⟩) 0 c)) B mk bn m v vl (.slice (some ⟨g, 0, none⟩) 0 c) bs ls [] ∧ MakK w (w.setCell ⟨mk, 2, none⟩ (.slice (some ⟨g, 0, none⟩) 0 c)) (Own mk bn m v vl (.slice (some ⟨g, 0, none⟩) xs.length c)) (Own mk bn m v vl (.slice (some ⟨g, 0, none⟩) 0 c)) := by
  obtain ⟨g', cap, cur, e, hb, hc, hh, hs, ht⟩ := h.hb.block hx
  injection e with e1 e2 e3
  injection e1 with e1
  injection e1 with e1
  subst e1; subst e3
  have hl := List.length_pos_iff.2 hx
  have hm : c ≤ maxLen := by
    obtain ⟨a, cap', e, _, hm, _⟩ := h.hb.form
    injection e with _ _ e
    omega
  obtain ⟨h1, h2, _⟩ := h.begun (w' := w) (vb' := .slice (some ⟨g, 0, none⟩) 0 c) (xs' := []) ⟨RowE.of hb hh rfl (Nat.zero_le _) hm hs (by simp), grown_reflE _ _, .inl (by rw [blk_posE (by omega), blk_posE (by omega)])⟩
  exact ⟨h1, h2⟩
end Go.Proofs.Ytokillomaemocaa.VI
