/-
  These texts, one behind the other: TrMV, TrAddU.
-/
import Derived.Test.YtokillomaemocaaTrQb
import Derived.Test.YtokillomaemocaaTrQe
/-
  A row of values that grows: its whole blocks, the numbers of their places, and what is begun.
-/
namespace Go.TrM
set_option linter.unusedVariables false
section
variable {α : Type}
theorem cutN_front : ∀ (k : Nat) (l y : List α), 64 * k ≤ l.length → cutN k (l ++ y) = cutN k l := by
  intro k
  induction k with
  | zero => intro l y h; rfl
  | succ k ih =>
    intro l y h
    simp only [cutN]
    rw [List.take_append_of_le_length (by omega), List.drop_append_of_le_length (by omega), ih _ _ (by rw [List.length_drop]; omega)]
theorem cutN_last {k : Nat} {l : List α} (h : l.length = 64 * k + 64) : cutN (k + 1) l = cutN k l ++ [l.drop (64 * k)] := by
  have e := cutN_app k 1 (l.take (64 * k)) (l.drop (64 * k)) (by rw [List.length_take]; omega)
  rw [List.take_append_drop] at e
  have e2 : cutN k (l.take (64 * k)) = cutN k l := by
    have := cutN_front k (l.take (64 * k)) (l.drop (64 * k)) (by rw [List.length_take]; omega)
    rw [List.take_append_drop] at this
    exact this.symm
  rw [e, e2]
  simp only [cutN]
  rw [List.take_of_length_le (by rw [List.length_drop]; omega)]
theorem cutN_rep (x : α) : ∀ n : Nat, cutN n (List.replicate (64 * n) x) = List.replicate n (List.replicate 64 x) := by
  intro n
  induction n with
  | zero => rfl
  | succ n ih =>
    simp only [cutN, List.replicate_succ (n := n), List.take_replicate, List.drop_replicate]
    rw [show min 64 (64 * (n + 1)) = 64 by omega, show 64 * (n + 1) - 64 = 64 * n by omega, ih]
/-- what is begun of a row -/
def restB (vs : List α) : List α := vs.drop (64 * (vs.length / 64))
theorem restB_len (vs : List α) : (restB vs).length = vs.length % 64 := by unfold restB; rw [List.length_drop]; omega
end
section
variable {α : Type} [DecidableEq α]
/-- the whole blocks of a row, numbered, the numbers of their places, and what is begun -/
def whole (vs : List α) : List (List α) × List Nat := numL [] (cutN (vs.length / 64) vs)
theorem whole_len (vs : List α) : (whole vs).2.length = vs.length / 64 := by unfold whole; rw [numL_len, cutN_len]
theorem whole_le (vs : List α) : (whole vs).1.length ≤ vs.length / 64 := by
  have := numL_le (cutN (vs.length / 64) vs) []
  rw [cutN_len] at this
  unfold whole; simpa using this
theorem add_part {vs : List α} {x : α} (h : (vs.length + 1) % 64 ≠ 0) : whole (vs ++ [x]) = whole vs ∧ restB (vs ++ [x]) = restB vs ++ [x] := by
  unfold whole restB
  have e : (vs ++ [x]).length / 64 = vs.length / 64 := by rw [List.length_append, List.length_singleton]; omega
  rw [e, cutN_front _ _ _ (by omega), List.drop_append_of_le_length (by omega)]
  exact ⟨rfl, rfl⟩
theorem add_full {vs : List α} {x : α} (h : (vs.length + 1) % 64 = 0) : whole (vs ++ [x]) = ((numS (whole vs).1 (restB vs ++ [x])).1, (whole vs).2 ++ [(numS (whole vs).1 (restB vs ++ [x])).2]) ∧ restB (vs ++ [x]) = [] := by
  unfold whole restB
  have e : (vs ++ [x]).length / 64 = vs.length / 64 + 1 := by rw [List.length_append, List.length_singleton]; omega
  have e2 : (vs ++ [x]).length = 64 * (vs.length / 64) + 64 := by rw [List.length_append, List.length_singleton]; omega
  rw [e, cutN_last e2, cutN_front _ _ _ (by omega), numL_snoc, List.drop_append_of_le_length (by omega)]
  refine ⟨rfl, ?_⟩
  rw [List.drop_eq_nil_iff]
  omega
theorem put_many {vs : List α} {x : α} {n : Nat} (h : vs.length % 64 = 0) (hn : 0 < n) : whole (vs ++ List.replicate (64 * n) x) = ((numS (whole vs).1 (List.replicate 64 x)).1, (whole vs).2 ++ List.replicate n (numS (whole vs).1 (List.replicate 64 x)).2) ∧ restB (vs ++ List.replicate (64 * n) x) = [] := by
  unfold whole restB
  have e : (vs ++ List.replicate (64 * n) x).length / 64 = vs.length / 64 + n := by rw [List.length_append, List.length_replicate]; omega
  rw [e, cutN_app _ _ _ _ (by omega), cutN_rep, numL_app]
  obtain ⟨k, rfl⟩ : ∃ k, n = k + 1 := ⟨n - 1, by omega⟩
  refine ⟨?_, ?_⟩
  · generalize List.replicate 64 x = y
    simp only [List.replicate_succ, numL]
    have hm : y ∈ (numS (numL [] (cutN (vs.length / 64) vs)).1 y).1 := (numS_mem _ _ _).2 (.inr rfl)
    rw [numL_rep hm]
    refine Prod.ext rfl ?_
    simp only
    congr 3
    by_cases hb : y ∈ (numL [] (cutN (vs.length / 64) vs)).1
    · rw [numS_yes hb]
    · rw [numS_no hb]
      simp [List.idxOf_append, hb]
  · rw [List.drop_eq_nil_iff, List.length_append, List.length_replicate]
    omega
end
end Go.TrM
/-
  A value added, values laid.
-/
namespace Go.Proofs.Ytokillomaemocaa.VU
open Go.RowKit Go.PlainAid Go.Lib Go.PRow Go.Maps Go.TrM
set_option linter.unusedVariables false
set_option linter.unusedSimpArgs false

/-- a maker that was given the values vs so far; o: the blocks that are its own -/
def MakV (w : World) (B mk : Nat) (o : Nat → Prop) (vs : List El) : Prop := ∃ bn m v vl vb, o = Own mk bn m v vl vb ∧ MakAt w B mk bn m v vl vb (whole vs).1 ((whole vs).2.map Int.ofNat) (restB vs) ∧ ∀ x ∈ vs, okE x
/-- one value laid as a row of its own -/
theorem rowE_one (w : World) (x : El) : RowE (w.alloc (.cells #[enc x] 5)) w.heap.size (.slice (some ⟨w.heap.size, 0, none⟩) 1 1) [x] :=
  RowE.of (cur := #[enc x]) (Nat.le_refl _) (heap_alloc_new w _) rfl (Nat.le_refl _) (by unfold maxLen; omega) rfl rfl
/-- a value begun, told of the maker -/
theorem MakAt.begun {w w' : World} {B mk bn m : Nat} {v vl vb vb' : Value} {bs : List (List El)} {ls : List Int} {xs xs' : List El} (h : MakAt w B mk bn m v vl vb bs ls xs) (ht : TurnedE w w' B vb vb' xs') : MakAt (w'.setCell ⟨mk, 2, none⟩ vb') B mk bn m v vl vb' bs ls xs' ∧ MakK w (w'.setCell ⟨mk, 2, none⟩ vb') (Own mk bn m v vl vb) (Own mk bn m v vl vb') ∧ w'.heap[mk]? = some (.cells #[.pointer (some ⟨bn, 0, none⟩), vl, vb] 156 (0, 0)) := by
  have hx : ∀ i, i < w.heap.size → some i ≠ blk vb → w'.heap[i]? = w.heap[i]? := fun i hi hne => ht.2.1.block i hi hne
  have hsz : w.heap.size ≤ w'.heap.size := ht.2.1.size
  have hmk := (hx mk h.lt (fun e => h.mkb e.symm)).trans h.hk
  have hne : ∀ g, blk vb' = some g → g ≠ mk := fun g e q => by
    subst q
    rcases ht.2.2 with q | q
    · exact h.mkb (q ▸ e)
    · have := q g e
      have := h.lt
      omega
  refine ⟨⟨set32 hmk, h.hn.keep ?_ ?_ ?_, h.hl.kept fun g e => ?_, ht.1.kept fun g e => set_ne (hne g e), h.bB, ?_⟩, ⟨by rw [World.size_setCell]; exact hsz, ?_, ?_⟩, hmk⟩
  · rw [set_ne (fun e => h.mkbn e.symm), hx bn h.hn.lt.1 (fun e => h.bnb e.symm)]
  · rw [set_ne (fun e => h.mkm e.symm), hx m h.hn.lt.2 (fun e => h.mb e.symm)]
  · intro g e
    rw [set_ne (show g ≠ mk from fun q => h.mkv (q ▸ e)), hx g (h.hn.hv.lt g e).2 (fun q => h.nv g e q.symm)]
  · rw [set_ne (show g ≠ mk from fun q => h.mkl (q ▸ e)), hx g (h.hl.lt g e).2 (fun q => h.bvl q.symm e)]
  · intro g e e'
    rcases ht.2.2 with q | q
    · exact h.nv g e (q ▸ e')
    · have := q g e'
      have := (h.hn.hv.lt g e).2
      omega
  · intro i hi ho
    rw [set_ne (fun e => ho (.inl e)), hx i hi (fun e => ho (.inr (.inr (.inr (.inr (.inr e.symm))))))]
  · rintro i (e | e | e | e | e | e)
    · exact .inl (.inl e)
    · exact .inl (.inr (.inl e))
    · exact .inl (.inr (.inr (.inl e)))
    · exact .inl (.inr (.inr (.inr (.inl e))))
    · exact .inl (.inr (.inr (.inr (.inr (.inl e)))))
    · rcases ht.2.2 with q | q
      · exact .inl (.inr (.inr (.inr (.inr (.inr (q ▸ e))))))
      · exact .inr (q i e)
/-- a value begun, in a walk -/
theorem begin_one {w : World} {B mk bn m : Nat} {v vl vb : Value} {bs : List (List El)} {ls : List Int} {xs : List El} (h : MakAt w B mk bn m v vl vb bs ls xs) (x : El) (hlen : xs.length ≤ 64) :
    ∃ s' w', (∀ ty, (Builtin.append_ #[25, 25] ty #[vb, .slice (some ⟨w.heap.size, 0, none⟩) 1 1]).run Try.prog (w.alloc (.cells #[enc x] 5)) = .ok s' w') ∧ (∃ a c, s' = .slice a (xs ++ [x]).length c) ∧ w'.heap[mk]? = some (.cells #[.pointer (some ⟨bn, 0, none⟩), vl, vb] 156 (0, 0)) ∧
      MakAt (w'.setCell ⟨mk, 2, none⟩ s') B mk bn m v vl s' bs ls (xs ++ [x]) ∧ MakK w (w'.setCell ⟨mk, 2, none⟩ s') (Own mk bn m v vl vb) (Own mk bn m v vl s') ∧ Below B w (w'.setCell ⟨mk, 2, none⟩ s') := by
  have hbW : Below w.heap.size w (w.alloc (.cells #[enc x] 5)) := (Below.refl _ w).alloc (Nat.le_refl _) _
  have hM := h.below hbW
  have hBs : B ≤ w.heap.size := Nat.le_trans h.bB (Nat.le_of_lt h.lt)
  obtain ⟨s', w', hr, ht⟩ := append_es B w.heap.size vb (.slice (some ⟨w.heap.size, 0, none⟩) 1 1) xs [x] _ (by rw [World.size_alloc]; omega) hM.hb (rowE_one w x) (by simp only [List.length_cons, List.length_nil]; omega)
  obtain ⟨hA, hK, hmk⟩ := hM.begun ht
  refine ⟨s', w', hr, ?_, hmk, hA, hK.after hbW, ?_⟩
  · obtain ⟨a, c, e, _⟩ := ht.1.form
    exact ⟨a, c, e⟩
  · have q1 := hbW.mono hBs
    have q2 := q1.grown ht.2.1 (by rw [World.size_alloc]; omega) (fun k hk => (hM.hb.lt k hk).1)
    exact q2.setCell h.bB _
/-- nothing is begun any more -/
theorem MakAt.empt {w : World} {B mk bn m g c : Nat} {v vl : Value} {bs : List (List El)} {ls : List Int} {xs : List El} (h : MakAt w B mk bn m v vl (.slice (some ⟨g, 0, none⟩) xs.length c) bs ls xs) (hx : xs ≠ []) : MakAt (w.setCell ⟨mk, 2, none⟩ (.slice (some ⟨g, 0, none⟩) 0 c)) B mk bn m v vl (.slice (some ⟨g, 0, none⟩) 0 c) bs ls [] ∧ MakK w (w.setCell ⟨mk, 2, none⟩ (.slice (some ⟨g, 0, none⟩) 0 c)) (Own mk bn m v vl (.slice (some ⟨g, 0, none⟩) xs.length c)) (Own mk bn m v vl (.slice (some ⟨g, 0, none⟩) 0 c)) := by
  obtain ⟨g', cap, cur, e, hb, hc, hh, hs, ht⟩ := h.hb.block hx
  injection e with e1 e2 e3
  injection e1 with e1
  injection e1 with e1
  subst e1; subst e3
  have hl := List.length_pos_iff.2 hx
  have hm : c ≤ maxLen := by
    obtain ⟨a, cap', e, _, hm, _⟩ := h.hb.form
    injection e with _ _ e
    omega
  obtain ⟨h1, h2, _⟩ := h.begun (w' := w) (vb' := .slice (some ⟨g, 0, none⟩) 0 c) (xs' := []) ⟨RowE.of hb hh rfl (Nat.zero_le _) hm hs (by simp), grown_reflE _ _, .inl (by rw [blk_posE (by omega), blk_posE (by omega)])⟩
  exact ⟨h1, h2⟩
set_option maxRecDepth 100000 in
set_option maxHeartbeats 2000000 in
theorem add_any (Q : Ending → World → Prop) (w : World) (B mk : Nat) (o : Nat → Prop) (vs : List El) (x : El) (h : MakV w B mk o vs) (hx : okE x) (hl : vs.length < 1114112)
    (hQ : Hid (∀ w' o', MakV w' B mk o' (vs ++ [x]) → MakK w w' o o' → Below B w w' → Q (.returned (.tuple #[])) w')) : Calls Try.prog 67 #[.pointer (some ⟨mk, 0, none⟩), enc x] w Q := by
  obtain ⟨bn, m, v, vl, vb, rfl, hM, hok⟩ := h
  have hbl := restB_len vs
  have hok2 : ∀ y ∈ vs ++ [x], okE y := fun y hy => by
    rcases List.mem_append.1 hy with q | q
    · exact hok y q
    · rw [List.mem_singleton.1 q]; exact hx
  obtain ⟨c0, c1, c2⟩ := cell3 hM.hk
  have HAP := hide (begin_one hM x (by omega))
  have HF := hide (And.intro hM (And.intro hok2 hbl))
  have hnl : (restB vs ++ [x]).length = vs.length % 64 + 1 := by rw [List.length_append, hbl]; rfl
  generalize hxs : restB vs = xs at *
  have HX := hide hxs
  generalize hN : (xs ++ [x]).length = N at *
  clear hxs hok hok2 hM hbl hx
  have HN := hide hN
  have HNL := hide hnl
  have HL := hide hl
  clear hN hnl hl
  by_cases h64 : N = 64
  · subst h64
    go_enter Try.func67, Try.ntmps67
    go_wp2_with (at_builtin; refine wpList_appendE rfl _ _ _ _ rfl _ _ rfl rfl (unhide HAP) ?_; rintro v' w3 ⟨⟨a', cap', rfl⟩, hmk3, hM3, hO3, hB3⟩; obtain ⟨e0, e1, e2⟩ := cell3 hmk3; have ef : w3.frozen? ⟨mk, 2, none⟩ = false := by { simp [World.frozen?, hmk3] })
    generalize w3.setCell ⟨mk, 2, none⟩ (.slice a' 64 cap') = W3 at *
    obtain ⟨g, cap, cur, e, hb, hc, hh, hs, ht⟩ := hM3.hb.block (by simp)
    injection e with e1 e2 e3
    subst e1; subst e3
    have hln := unhide HN
    have hlv := unhide HL
    have hwl := whole_le vs
    have hw2 := whole_len vs
    have hblk : blk (.slice (some ⟨g, 0, none⟩) 64 cap') = some g := blk_posE (by omega)
    have hcl : ∀ j y, (xs ++ [x])[j]? = some y → W3.cell? ⟨g, 0 + j, none⟩ = some (enc y) := fun j y hy => by
      rw [Nat.zero_add]
      exact row_cell hh ht (by omega) j _ (by rw [List.getElem?_map, hy]; rfl)
    have hob : OkB (xs ++ [x]) := ⟨hln, fun y hy => (unhide HF).2.1 y (by
      rcases List.mem_append.1 hy with q | q
      · rw [← unhide HX] at q
        exact List.mem_append_left _ (List.mem_of_mem_drop q)
      · exact List.mem_append_right _ q)⟩
    have hput := put_any W3 B mk bn m v vl _ _ _ _ hM3 g 0 cap' (xs ++ [x]) hob hcl (fun q => hM3.nv g q hblk) 1 (by omega) (by rw [List.length_map]; omega)
    refine hput.mono ?_
    rintro e w4 ⟨rfl, v4, vl4, hM4, hO4, hB4⟩
    obtain ⟨f0, f1, f2⟩ := cell3 hM4.hk
    have ef4 : w4.frozen? ⟨mk, 2, none⟩ = false := by simp [World.frozen?, hM4.hk]
    have HH4 := hide (And.intro hM4 (And.intro (hO3.trans hO4) (hB3.trans hB4)))
    clear hput hM4 hO4 hB4 hM3 hO3 hB3 hcl hob hln hlv hwl hw2 hh hs ht hblk
    go_wp2
    refine bodyPost_end (results_none rfl _ _ _) rfl ?_
    obtain ⟨hM4, hO4, hB4⟩ := unhide HH4
    have hne : (vs.length + 1) % 64 = 0 := by have := unhide HNL; omega
    obtain ⟨q1, q2⟩ := add_full (x := x) hne
    rw [← unhide HN] at hM4 hO4
    obtain ⟨hM5, hO5⟩ := hM4.empt (by simp)
    refine unhide hQ _ _ ⟨bn, m, v4, vl4, _, rfl, ?_, (unhide HF).2.1⟩ (hO4.trans hO5) (hB4.setCell hM4.bB _)
    rw [q1, q2, unhide HX, List.map_append]
    exact hM5
  · have h64' : ¬ ((N : Int) = 64) := by omega
    go_enter Try.func67, Try.ntmps67
    go_wp2_with (at_builtin; refine wpList_appendE rfl _ _ _ _ rfl _ _ rfl rfl (unhide HAP) ?_; rintro v' w3 ⟨⟨a', cap', rfl⟩, hmk3, hM3, hO3, hB3⟩; obtain ⟨e0, e1, e2⟩ := cell3 hmk3; have ef : w3.frozen? ⟨mk, 2, none⟩ = false := by { simp [World.frozen?, hmk3] }; obtain ⟨g0, g1, g2⟩ := cell3 hM3.hk; have HH3 := hide (And.intro hM3 (And.intro hO3 hB3)); clear hM3 hO3 hB3)
    refine bodyPost_end (results_none rfl _ _ _) rfl ?_
    obtain ⟨hM3, hO3, hB3⟩ := unhide HH3
    have hne : (vs.length + 1) % 64 ≠ 0 := by have := unhide HNL; omega
    obtain ⟨q1, q2⟩ := add_part (x := x) hne
    refine unhide hQ _ _ ⟨bn, m, v, vl, _, rfl, ?_, (unhide HF).2.1⟩ hO3 hB3
    rw [q1, q2, unhide HX]
    exact hM3
end Go.Proofs.Ytokillomaemocaa.VU
