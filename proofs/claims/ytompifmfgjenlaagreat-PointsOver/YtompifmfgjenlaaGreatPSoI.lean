/-
  slices.SortFunc of pieces by their beginnings.
-/
import Derived.Test.YtompifmfgjenlaaGreatPoQh
import Derived.Test.YtompifmfgjenlaaGreatOShelf
import Derived.Test.YtompifmfgjenlaaGreatPoQp
namespace Go.Proofs.YtompifmfgjenlaaGreat.VI
open Go.RowKit Go.PlainAid Go.Lib Go.PRow Go.Shelf
open Go.Sort (grow alloc_eq_grow grow_grow)
set_option linter.unusedVariables false
set_option linter.unusedSimpArgs false

theorem nan_any (x : Int) (w : World) : Calls Tryz.prog 66 #[.int .i32 x] w fun e w' => e = .returned (.bool false) ∧ w' = w := by
  go_enter Tryz.func66, Tryz.ntmps66
  go_wp2
  go_ret
  exact ⟨rfl, rfl⟩
theorem compare_any (x y : Int) (w : World) : Calls Tryz.prog 33 #[.int .i32 x, .int .i32 y] w fun e w' => e = .returned (.int .i64 (Lib.compareInt x y)) ∧ w' = w := by
  unfold Lib.compareInt
  by_cases h1 : x < y <;> by_cases h2 : y < x
  any_goals (exfalso; omega)
  all_goals
    go_enter Tryz.func33, Tryz.ntmps33
    go_wp2_with (go_at_call 66; refine (nan_any _ _).mono ?_; rintro e w' ⟨rfl, rfl⟩)
    go_ret
    exact ⟨by simp [h1, h2], rfl⟩
abbrev encP (p : Pc Int) : List Value := [.int .i32 p.lo, .int .i32 p.hi, Value.int .i64 p.val]
theorem less_any (p q : Pc Int) (w : World) : Calls Tryz.prog 32 #[.agg #[.int .i32 p.lo, .int .i32 p.hi, Value.int .i64 p.val], .agg #[.int .i32 q.lo, .int .i32 q.hi, Value.int .i64 q.val]] w fun e w' => e = .returned (.int .i64 (Lib.compareInt p.lo q.lo)) ∧ ∃ k os', w' = grow (w.drewN k) os' := by
  have hcon := fun W' => compare_any p.lo q.lo W'
  generalize Lib.compareInt p.lo q.lo = r at hcon ⊢
  go_enter Tryz.func32, Tryz.ntmps32
  go_wp2_with (go_at_call 33; refine (hcon _).mono ?_; rintro e w' ⟨rfl, rfl⟩)
  go_ret
  exact ⟨rfl, 0, _, by rw [alloc_eq_grow, alloc_eq_grow, grow_grow]; rfl⟩

theorem flat_cells [Inhabited (Pc Int)] (ps : List (Pc Int)) : Sort.flatK encP 3 ps.toArray = (cellsP ps).toArray := by
  refine Sort.ext_get! (by simp [cellsP_len]) fun t ht => ?_
  have ht' : t < ps.length * 3 := by simpa using ht
  rw [Sort.get_flatK _ _ _ t (by simpa using ht')]
  obtain ⟨i, c, hc, rfl⟩ : ∃ i c, c < 3 ∧ t = i * 3 + c := ⟨t / 3, t % 3, by omega, by omega⟩
  have e1 : (i * 3 + c) / 3 = i := by omega
  have e2 : (i * 3 + c) % 3 = c := by omega
  rw [e1, e2]
  have hi : i < ps.length := by omega
  obtain ⟨c0, c1, c2⟩ := cellsP_at ps i _ (List.getElem?_eq_getElem hi)
  have e3 : ps.toArray[i]! = ps[i] := by simp [hi]
  rw [e3]
  have h3 : c = 0 ∨ c = 1 ∨ c = 2 := by omega
  rcases h3 with rfl | rfl | rfl
  · rw [Nat.add_zero]; simp [c0]
  · simp [c1]
  · simp [c2]
theorem swo_lo : Sort.SWO (ltOf fun p q : Pc Int => Lib.compareInt p.lo q.lo) := by
  have h : ∀ x y : Pc Int, ltOf (fun p q : Pc Int => Lib.compareInt p.lo q.lo) x y = decide (x.lo < y.lo) := by
    intro x y
    unfold ltOf Lib.compareInt
    by_cases h1 : x.lo < y.lo
    · simp [h1]
    · by_cases h2 : y.lo < x.lo <;> simp [h1, h2]
  refine ⟨fun x => ?_, fun x y z h1 h2 => ?_, fun x y z h1 h2 => ?_⟩
  · rw [h]; simp
  · rw [h] at *; simp at *; omega
  · rw [h] at *; simp at *; omega
theorem lt_lo (x y : Pc Int) (h : ltOf (fun p q : Pc Int => Lib.compareInt p.lo q.lo) x y = false) : ¬ x.lo < y.lo := by
  intro h1
  unfold ltOf Lib.compareInt at h
  simp [h1] at h

set_option maxRecDepth 100000 in
theorem sort_row (B : Nat) (v : Value) (ps : List (Pc Int)) (w : World) (hr : RowP w B v ps) (hl : ps.length < 4611686018427387904) :
    Calls Tryz.prog 31 #[v, .func (.func 32) #[] #[]] w fun e w' => e = .returned (.tuple #[]) ∧ ∃ qs : List (Pc Int), qs.Perm ps ∧ qs.Pairwise (fun p q => ¬ q.lo < p.lo) ∧ RowP w' B v qs ∧ w.grownBy w' (blk v) := by
  by_cases hps : ps = []
  · subst hps
    obtain ⟨a, cap, rfl, -, -, -, -⟩ := hr.form
    have hcon := AnyF.slices_SortFunc_none Tryz.sortI a cap (.func (.func 32) #[] #[]) w
    change Calls Tryz.prog 31 _ _ _ at hcon
    refine hcon.mono ?_
    rintro e w' ⟨rfl, rfl⟩
    exact ⟨rfl, [], List.Perm.refl _, List.Pairwise.nil, hr, rfl, rfl, rfl, Nat.le_refl _, fun _ _ _ => rfl⟩
  have hpos : 0 < ps.length := List.length_pos_iff.2 hps
  rcases hr.2 with ⟨a, rfl, hn⟩ | ⟨g, cap, cur, rfl, hb, hh, hn, hc, hs, ht⟩
  · omega
  · letI : Inhabited (Pc Int) := ⟨⟨0, 0, default⟩⟩
    have hm2 : ps.length * 3 ≤ cur.size := by rw [hs]; exact Nat.mul_le_mul_right _ hn
    have hgl := (Array.getElem?_eq_some_iff.1 hh).1
    have hH : Sort.HoldsK encP 3 w g 0 ps.toArray := by
      intro j hj
      rw [flat_cells] at hj ⊢
      have hj' : j < (cellsP ps).length := by simpa using hj
      refine ⟨?_, by simp [World.frozen?, hh]⟩
      rw [Nat.zero_add]
      refine (row_cell hh ht hm2 j _ (List.getElem?_eq_getElem hj')).trans ?_
      simp [hj']
    have eg : ∀ args w, (callFunc 32 args).run Tryz.prog w = .ok (.enter 32 args) w := enters_of Tryz.func32 (by kernel_rfl) rfl
    have hcon := AnyQ.slices_SortFunc Tryz.sortI 3 Tryz.isAgg58 Tryz.sizeOf58 encP (fun _ => rfl) (fun x v hv => by simp [encP] at hv; rcases hv with rfl | rfl | rfl <;> rfl) (fun p q => Lib.compareInt p.lo q.lo) swo_lo 32 #[] g 0 cap ps.toArray w eg (fun m os dk _ x y => less_any x y _) hH hgl (by simpa using hl)
    change Calls Tryz.prog 31 _ _ _ at hcon
    refine hcon.mono ?_
    rintro e w' ⟨rfl, d', n, os, hp, hsd, rfl⟩
    have hds : d'.size = ps.length := by simpa using hp.1
    obtain ⟨qs, rfl⟩ : ∃ qs : List (Pc Int), d' = qs.toArray := ⟨d'.toList, by simp⟩
    have hql : qs.length = ps.length := by simpa using hds
    refine ⟨rfl, qs, ?_, ?_, ⟨?_, .inr ⟨g, cap, Sort.putCells id 0 (cellsP qs).toArray cur, by rw [hql], hb, ?_, by omega, hc, by simpa [Sort.putCells] using hs, ?_⟩⟩, ?_⟩
    · have := hp.2.2
      rw [show ps.toArray.size = qs.toArray.size by simp [hql]] at this
      have e : List.take ps.length qs = qs := List.take_of_length_le (by omega)
      simpa [hql, e] using this
    · refine List.pairwise_iff_getElem.2 fun i j hi hj hij => ?_
      have := hsd i j (Nat.zero_le _) hij (by simpa [← hql] using hj)
      have e1 : qs.toArray[i]! = qs[i] := by simp [hi]
      have e2 : qs.toArray[j]! = qs[j] := by simp [hj]
      rw [e1, e2] at this
      exact lt_lo _ _ this
    · exact cellsP_len qs
    · unfold Go.Proofs.sortWorldK Sort.putRowK
      rw [flat_cells]
      show ((Sort.putRow id (Sort.ahead w n) g 0 (cellsP qs).toArray).heap ++ os)[g]? = _
      rw [Array.getElem?_append_left (by simpa using hgl)]
      show ((Sort.ahead w n).heap.modify g (Sort.onCells (Sort.putCells id 0 (cellsP qs).toArray)))[g]? = _
      rw [Array.getElem?_modify, if_pos rfl]
      show (w.heap[g]?).map _ = _
      rw [hh]
      rfl
    · have hcl := cellsP_len qs
      refine List.ext_getElem? fun j => ?_
      rw [List.getElem?_take]
      split
      · next hj =>
        have hjc : j < cur.size := by omega
        simp only [Sort.putCells, Array.getElem?_toList, Array.getElem?_mapIdx, Array.getElem?_eq_getElem hjc, Option.map_some]
        rw [if_pos (by simp; omega)]
        simp [show j < (cellsP qs).length by omega]
      · next hj =>
        rw [List.getElem?_eq_none (by omega)]
    · refine ⟨rfl, rfl, rfl, by simp [Go.Proofs.sortWorldK, grow, Sort.putRowK, Sort.ahead], fun k hk hne => ?_⟩
      have hkg : g ≠ k := by
        intro e
        subst e
        refine hne ?_
        cases cap with
        | zero => omega
        | succ c => rfl
      show ((Sort.putRow id (Sort.ahead w n) g 0 (Sort.flatK encP 3 qs.toArray)).heap ++ os)[k]? = _
      rw [Array.getElem?_append_left (by simpa using hk)]
      show ((Sort.ahead w n).heap.modify g _)[k]? = _
      rw [Array.getElem?_modify, if_neg hkg]
      rfl
end Go.Proofs.YtompifmfgjenlaaGreat.VI
