/-
  slices.Replace of pieces, whatever the room.
-/
import Derived.Test.YtebppdcnfbflkaaPRepF
namespace Go.Proofs.Ytebppdcnfbflkaa.VF
open Go.RowKit Go.PlainAid Go.Lib Go.PRow Go.Shelf
set_option linter.unusedVariables false

set_option maxHeartbeats 4000000 in
set_option maxRecDepth 100000 in
theorem rep_eq (B Bv : Nat) (s u : Value) (ps qs : List (Pc Nat)) (i : Nat) (w : World) (hB : B ≤ w.heap.size) (hr : RowP w B s ps) (hu : RowP w Bv u qs) (hap : ∀ g, blk u = some g → blk s ≠ some g) (hi : i ≤ ps.length) (hbig : (ps.length + qs.length) * 16 ≤ 140737488355328) :
    Calls Try.prog 121 #[s, .int .i64 i, .int .i64 i, u] w fun e w' => ∃ s', e = .returned s' ∧ Turned w w' B s s' (ps.take i ++ qs ++ ps.drop i) := by
  have H := hide (insert_any B Bv s u ps qs i w hB hr hu hap hi hbig)
  obtain ⟨a, cap, rfl, hc1, hc2, _⟩ := hr.form
  have q1 : (i : Int) ≤ (cap : Int) := by omega
  clear hr hu hap
  generalize ps.take i ++ qs ++ ps.drop i = rs at H ⊢
  generalize ps.length = n at *
  refine Calls.mono (R := fun e w' => Hid (∃ s', e = .returned s' ∧ Turned w w' B (.slice a n cap) s' rs)) ?_ (fun e w' h => unhide h)
  by_cases hci : cap = i
  · subst hci
    go_enter Try.func121, Try.ntmps121
    go_wp2_with (go_at_call 134; refine (unhide H).mono ?_; rintro e w' ⟨s', rfl, ht⟩)
    all_goals go_ret
    all_goals exact hide ⟨_, rfl, ht⟩
  · go_enter Try.func121, Try.ntmps121
    go_wp2_with (go_at_call 134; refine (unhide H).mono ?_; rintro e w' ⟨s', rfl, ht⟩)
    all_goals go_ret
    all_goals exact hide ⟨_, rfl, ht⟩

theorem grown_drawn {w w' : World} {q : Nat} {row : Option Nat} (h : (w.drewN q).grownBy w' row) : w.grownBy w' row := ⟨h.os, h.tape, h.output, h.size, h.block⟩

theorem replace_any (B Bv : Nat) (s u : Value) (ps qs : List (Pc Nat)) (i j : Nat) (w : World) (hB : B ≤ w.heap.size) (hr : RowP w B s ps) (hu : RowP w Bv u qs) (hap : ∀ g, blk u = some g → blk s ≠ some g) (hij : i ≤ j) (hj : j ≤ ps.length) (hbig : (ps.length + qs.length) * 16 ≤ 140737488355328) :
    Calls Try.prog 121 #[s, .int .i64 i, .int .i64 j, u] w fun e w' => ∃ s', e = .returned s' ∧ Turned w w' B s s' (ps.take i ++ qs ++ ps.drop j) := by
  by_cases hlt : i = j
  · subst hlt
    exact rep_eq B Bv s u ps qs i w hB hr hu hap hj hbig
  have hi : i < j := by omega
  rcases hr.rw with ⟨a', e, e'⟩ | ⟨g, cap, cur, rfl, hg, R⟩
  · subst e'
    simp at hj
    omega
  have hc1 := R.hn
  obtain ⟨u0, vc, rfl, hvc1, hvc2, hun1, hun2⟩ := hu.form
  have hbs : blk (.slice (some ⟨g, 0, none⟩) ps.length cap) = some g := blk_pos (by omega)
  have hsrcv := src_of_row (P := Try.prog) hu Try.underlying109 (cellsP_one qs)
  have hqc := cellsP_len qs
  have hpc := cellsP_len ps
  have hun : 0 < qs.length → ∃ gv curv, u0 = some ⟨gv, 0, none⟩ ∧ gv ≠ g ∧ Rw w gv vc qs.length curv (cellsP qs) := fun h => by
    rcases hu.rw with ⟨a, _, e⟩ | ⟨gv, vc', curv, e, _, Rv⟩
    · subst e; simp at h
    · injection e with e1 e2 e3
      subst e1; subst e3
      exact ⟨gv, curv, rfl, fun e => hap gv (blk_pos (by omega)) (by rw [e]; exact hbs), Rv⟩
  have htk : ((cellsP ps).take (i * 3)).length = i * 3 := by rw [List.length_take, hpc]; omega
  have hdl : ((cellsP ps).drop (j * 3)).length = (ps.length - j) * 3 := by rw [List.length_drop, hpc]; omega
  have e1 : cellsP (ps.take i ++ qs ++ ps.drop j) = (cellsP ps).take (i * 3) ++ cellsP qs ++ (cellsP ps).drop (j * 3) := by rw [cellsP_append, cellsP_append, cellsP_take, cellsP_drop]
  have hln : (ps.take i ++ qs ++ ps.drop j).length = i + qs.length + (ps.length - j) := by simp; omega
  have e4 : (i + qs.length) * 3 = i * 3 + qs.length * 3 := by omega
  have e3 : (i + qs.length + (ps.length - j)) * 3 = i * 3 + qs.length * 3 + (ps.length - j) * 3 := by omega
  by_cases hjn : j = ps.length
  · subst hjn
    have e0 : ps.take i ++ qs ++ ps.drop ps.length = ps.take i ++ qs := by simp
    have hln' : (ps.take i ++ qs).length = i + qs.length := by simp; omega
    rw [e0]
    by_cases hroom : i + qs.length ≤ cap
    · refine (rep_end_in g cap ps.length i u0 vc qs.length cur (cellsP ps) (cellsP qs) w R hsrcv hi hroom).mono ?_
      rintro e w' ⟨rfl, rfl⟩
      have hs1 : (spl cur (i * 3) (cellsP qs)).size = cap * 3 := by rw [spl_size _ _ _ (by rw [hqc, R.hs]; omega), R.hs]
      have ht1 : (spl cur (i * 3) (cellsP qs)).toList.take ((i + qs.length) * 3) = cellsP (ps.take i ++ qs) := by
        rw [e4, spl_end (xs := (cellsP ps).take (i * 3)) (by rw [← R.ht, List.take_take]; congr 1; omega) htk hqc, cellsP_append, cellsP_take]
      split
      · have hs2 : (spl (spl cur (i * 3) (cellsP qs)) ((i + qs.length) * 3) (zs zP (ps.length - (i + qs.length)))).size = cap * 3 := by rw [spl_size _ _ _ (by rw [zs_len, hs1]; omega), hs1]
        refine ⟨_, rfl, RowP.of hg (setRow_heap _ g _ _ _ _ (setRow_heap w g cur _ _ _ R.hh)) hln' hroom R.hm hs2 ?_, ?_, .inl ?_⟩
        · have hl : (spl cur (i * 3) (cellsP qs)).toList.length = cap * 3 := Array.length_toList.trans hs1
          rw [spl_toList, List.append_assoc, List.take_append_of_le_length (by rw [List.length_take, hl]; omega), List.take_take, Nat.min_self, ht1]
        · rw [hbs, setRow_setRow]; exact setRow_grown w g _
        · rw [hbs, blk_pos (by omega)]
      · refine ⟨_, rfl, RowP.of hg (setRow_heap w g cur _ _ _ R.hh) hln' hroom R.hm hs1 ht1, ?_, .inl ?_⟩
        · rw [hbs]; exact setRow_grown w g _
        · rw [hbs, blk_pos (by omega)]
    · refine (rep_end_out g cap ps.length i u0 vc qs.length cur (cellsP ps) (cellsP qs) w R hsrcv hi (by omega) hbig).mono ?_
      rintro e w' ⟨G, z, h1, h2, h3, rfl, rfl⟩
      refine ⟨_, rfl, RowP.of (cur := (((cellsP ps).take (i * 3) ++ cellsP qs) ++ z).toArray) hB (heap_alloc_new w.drew _) hln' h1 h2 (by rw [List.size_toArray, List.length_append, List.length_append, htk, hqc, h3]; omega) ?_, grown_new w _ _, .inr fun g hg => ?_⟩
      · rw [List.take_left' (by rw [List.length_append, htk, hqc]; omega), cellsP_append, cellsP_take]
      · rw [blk_pos (by omega)] at hg
        cases hg
        exact Nat.le_refl _
  · have hjl : j < ps.length := by omega
    by_cases hroom : i + qs.length + (ps.length - j) ≤ cap
    · by_cases hfit : i + qs.length ≤ j
      · refine (rep_fit g cap ps.length i j u0 vc qs.length cur (cellsP ps) (cellsP qs) w R hsrcv hun hi hjl hfit).mono ?_
        rintro e w' ⟨rfl, q, rfl⟩
        have hs1 : (spl cur (i * 3) (cellsP qs)).size = cap * 3 := by rw [spl_size _ _ _ (by rw [hqc, R.hs]; omega), R.hs]
        have hs2 : (spl (spl cur (i * 3) (cellsP qs)) ((i + qs.length) * 3) ((cellsP ps).drop (j * 3))).size = cap * 3 := by rw [spl_size _ _ _ (by rw [hdl, hs1]; omega), hs1]
        have hs3 : (spl (spl (spl cur (i * 3) (cellsP qs)) ((i + qs.length) * 3) ((cellsP ps).drop (j * 3))) ((i + qs.length + (ps.length - j)) * 3) (zs zP (ps.length - (i + qs.length + (ps.length - j))))).size = cap * 3 := by rw [spl_size _ _ _ (by rw [zs_len, hs2]; omega), hs2]
        refine ⟨_, rfl, RowP.of hg (setRow_heap _ g cur _ _ _ R.hh) hln hroom R.hm hs3 ?_, ?_, .inl ?_⟩
        · rw [e1, e3, e4]
          exact spl_fit R.ht (by omega) (by rw [R.hs]; omega) hqc hdl (by rw [zs_len, R.hs]; omega)
        · rw [hbs]; exact grown_drawn (setRow_grown _ g _)
        · rw [hbs, blk_pos (by omega)]
      · obtain ⟨gv, curv, rfl, hne, Rv⟩ := hun (by omega)
        refine (rep_shift g cap ps.length i j gv vc qs.length cur curv (cellsP ps) (cellsP qs) w R Rv hne hi hjl hroom (by omega)).mono ?_
        rintro e w' ⟨rfl, q, rfl⟩
        have hs1 : (spl cur ((i + qs.length) * 3) ((cellsP ps).drop (j * 3))).size = cap * 3 := by rw [spl_size _ _ _ (by rw [hdl, R.hs]; omega), R.hs]
        have hs2 : (spl (spl cur ((i + qs.length) * 3) ((cellsP ps).drop (j * 3))) (i * 3) (cellsP qs)).size = cap * 3 := by rw [spl_size _ _ _ (by rw [hqc, hs1]; omega), hs1]
        refine ⟨_, rfl, RowP.of hg (setRow_heap _ g cur _ _ _ R.hh) hln hroom R.hm hs2 ?_, ?_, .inl ?_⟩
        · rw [e1, e3, e4]
          exact spl_shift R.ht (by omega) (by rw [R.hs]; omega) hqc hdl
        · rw [hbs]; exact grown_drawn (setRow_grown _ g _)
        · rw [hbs, blk_pos (by omega)]
    · obtain ⟨gv, curv, rfl, hne, Rv⟩ := hun (by omega)
      refine (rep_grow g cap ps.length i j gv vc qs.length cur curv (cellsP ps) (cellsP qs) w R Rv hi hjl (by omega) hbig).mono ?_
      rintro e w' ⟨G, z, q, h1, h2, h3, rfl, w1, rfl, rfl⟩
      have hA : ((cellsP ps).take (i * 3) ++ z).toArray.size = G * 3 := by rw [List.size_toArray, List.length_append, htk, h3]; omega
      have hs1 : (spl ((cellsP ps).take (i * 3) ++ z).toArray (i * 3) (cellsP qs)).size = G * 3 := by rw [spl_size _ _ _ (by rw [hA, hqc]; omega), hA]
      have hs2 : (spl (spl ((cellsP ps).take (i * 3) ++ z).toArray (i * 3) (cellsP qs)) ((i + qs.length) * 3) ((cellsP ps).drop (j * 3))).size = G * 3 := by rw [spl_size _ _ _ (by rw [hs1, hdl]; omega), hs1]
      have hr1 : (((w.drewN q).alloc (.cells ((cellsP ps).take (i * 3) ++ z).toArray 115)).drew.setRow w.heap.size (spl ((cellsP ps).take (i * 3) ++ z).toArray (i * 3) (cellsP qs))).heap[w.heap.size]? = _ := setRow_heap _ w.heap.size _ _ _ _ (heap_alloc_new (w.drewN q) _)
      refine ⟨_, rfl, RowP.of hB (setRow_heap _ w.heap.size _ _ _ _ hr1) hln h1 h2 hs2 ?_, ?_, .inr fun g hg => ?_⟩
      · rw [e1, e3, e4, spl_fill (by rw [hA]; omega) hqc hdl]
        rw [List.take_left' htk]
      · refine ⟨rfl, rfl, rfl, by simp [setRow_size], fun k hk _ => ?_⟩
        rw [setRow_other _ _ _ _ (by omega)]
        show (World.setRow _ _ _).heap[k]? = _
        rw [setRow_other _ _ _ _ (by omega)]
        exact Below.heap_alloc (w.drewN q) _ k hk
      · rw [blk_pos (by omega)] at hg
        cases hg
        exact Nat.le_refl _
end Go.Proofs.Ytebppdcnfbflkaa.VF
