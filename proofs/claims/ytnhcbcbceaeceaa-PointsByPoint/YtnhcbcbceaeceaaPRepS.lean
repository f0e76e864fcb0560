/-
  slices.Replace of pieces.
-/
import Derived.Test.YtnhcbcbceaeceaaPoQe
namespace Go.Proofs.Ytnhcbcbceaeceaa.VS
open Go.RowKit Go.PlainAid Go.Lib Go.PRow Go.Shelf
set_option linter.unusedVariables false

set_option maxHeartbeats 4000000 in
set_option maxRecDepth 100000 in
/-- up to the end, and there is room; what is left is cleared -/
theorem rep_end_in (g cap n i : Nat) (u : Option Addr) (vc m : Nat) (cur : Array Value) (xs ys : List Value) (w : World) (R : Rw w g cap n cur xs) (hv : Src Try.prog 3 71 (.slice u m vc) m ys w) (hi : i < n) (hroom : i + m ≤ cap) :
    Calls Try.prog 50 #[.slice (some ⟨g, 0, none⟩) n cap, .int .i64 i, .int .i64 n, .slice u m vc] w fun e w' =>
      e = .returned (.slice (some ⟨g, 0, none⟩) (i + m) cap) ∧ w' = if i + m < n then (w.setRow g (spl cur (i * 3) ys)).setRow g (spl (spl cur (i * 3) ys) ((i + m) * 3) (zs zP (n - (i + m)))) else w.setRow g (spl cur (i * 3) ys) := by
  obtain ⟨i0, hi0, hz0, hzs, hzb⟩ := info_parts infoP
  have hml := R.hm
  have hnc := R.hn
  have hcap : cap ≤ 9223372036854775807 := by unfold maxLen at hml; omega
  have hz2 : ¬ ((i : Int) = (n : Int)) := by omega
  have hap : ∀ ty, (Builtin.append_ #[71, 71] ty #[.slice (some ⟨g, 0, none⟩) i cap, .slice u m vc]).run Try.prog w = .ok (.slice (some ⟨g, 0, none⟩) (i + m) cap) (w.setRow g (spl cur (i * 3) ys)) := fun ty => by
    have := run_append_inK w 71 71 ty 77 i0 Try.underlying71 hi0 g 0 i cap cur _ (.slice u m vc) m ys (by rw [hzs]; exact hv) hroom R.hh (by rw [hzs, hv.newsLen, R.hs]; omega)
    rwa [hzs, Nat.zero_add] at this
  have hC1s : (spl cur (i * 3) ys).size = cap * 3 := by rw [spl_size _ _ _ (by rw [hv.newsLen, R.hs]; omega), R.hs]
  have hr1 := setRow_heap w g cur (spl cur (i * 3) ys) _ _ R.hh
  have hcl : i + m < n → ∀ ty c, (Builtin.clear_ #[71] ty #[.slice (some ⟨g, (i + m) * 3, none⟩) (n - (i + m)) c]).run Try.prog (w.setRow g (spl cur (i * 3) ys)) = .ok (.tuple #[]) ((w.setRow g (spl cur (i * 3) ys)).setRow g (spl (spl cur (i * 3) ys) ((i + m) * 3) (zs zP (n - (i + m))))) := fun h ty c =>
    run_clearK (w.setRow g (spl cur (i * 3) ys)) 71 ty 77 i0 zP g ((i + m) * 3) (n - (i + m)) c (spl cur (i * 3) ys) _ Try.underlying71 hi0 hz0 hr1 (by rw [hC1s]; show _ + _ * 3 ≤ _; omega) (zs_one _)
  obtain ⟨X1, hX1⟩ : ∃ X1, X1 = spl cur (i * 3) ys := ⟨_, rfl⟩
  obtain ⟨X2, hX2⟩ : ∃ X2, X2 = spl (spl cur (i * 3) ys) ((i + m) * 3) (zs zP (n - (i + m))) := ⟨_, rfl⟩
  rw [← hX2] at hcl ⊢
  rw [← hX1] at hcl hap ⊢
  clear hX1 hX2 hr1 hC1s hv R hml
  have q1 : (i : Int) ≤ (n : Int) := by omega
  have q2 : (n : Int) ≤ (cap : Int) := by omega
  have q3 : (i : Int) ≤ (cap : Int) := by omega
  have q4 : ((i : Int) + (m : Int)).toNat = i + m := by omega
  have q5 : (0 : Int) ≤ (i : Int) + (m : Int) := by omega
  have q7 : ¬ (cap = i) := by omega
  by_cases hlt : i + m < n
  · have hcl := hcl hlt
    have q6 : (i : Int) + (m : Int) ≤ (n : Int) := by omega
    have q8 : ¬ (cap = i + m) := by omega
    have q9 : (i : Int) + (m : Int) < (n : Int) := by omega
    rw [if_pos hlt]
    go_enter Try.func50, Try.ntmps50
    go_wp2_with (first
      | (at_builtin; refine Lib.wpList_append_run _ rfl _ _ _ _ rfl _ _ rfl rfl _ _ (hap _) ?_)
      | (at_builtin; refine wpList_clear_run _ rfl _ _ rfl _ rfl (hcl _ _) ?_))
    all_goals go_ret
    all_goals exact ⟨rfl, rfl⟩
  · have q9 : ¬ ((i : Int) + (m : Int) < (n : Int)) := by omega
    rw [if_neg hlt]
    clear hcl
    go_enter Try.func50, Try.ntmps50
    go_wp2_with (at_builtin; refine Lib.wpList_append_run _ rfl _ _ _ _ rfl _ _ rfl rfl _ _ (hap _) ?_)
    all_goals go_ret
    all_goals exact ⟨rfl, rfl⟩

set_option maxHeartbeats 4000000 in
set_option maxRecDepth 100000 in
/-- up to the end, and there is no room -/
theorem rep_end_out (g cap n i : Nat) (u : Option Addr) (vc m : Nat) (cur : Array Value) (xs ys : List Value) (w : World) (R : Rw w g cap n cur xs) (hv : Src Try.prog 3 71 (.slice u m vc) m ys w) (hi : i < n) (hroom : cap < i + m) (hbig : (n + m) * 24 ≤ 140737488355328) :
    Calls Try.prog 50 #[.slice (some ⟨g, 0, none⟩) n cap, .int .i64 i, .int .i64 n, .slice u m vc] w fun e w' => ∃ G z, i + m ≤ G ∧ G ≤ maxLen ∧ z.length = (G - (i + m)) * 3 ∧
      e = .returned (.slice (some ⟨w.heap.size, 0, none⟩) (i + m) G) ∧ w' = w.drew.alloc (.cells ((xs.take (i * 3) ++ ys) ++ z).toArray 77) := by
  obtain ⟨i0, hi0, hz0, hzs, hzb⟩ := info_parts infoP
  have hml := R.hm
  have hnc := R.hn
  have hcap : cap ≤ 9223372036854775807 := by unfold maxLen at hml; omega
  have hz2 : ¬ ((i : Int) = (n : Int)) := by omega
  have hG1 : i + m ≤ grownCap w (i + m) cap 77 := grownCap_ge w (i + m) cap 77
  have hG2 := grownCap_le_maxLen w (i + m) cap 77 (by unfold maxLen; omega)
  have htk : (xs.take (i * 3)).length = i * 3 := by rw [List.length_take, R.len]; omega
  have hold : (Builtin.firstCells i0.size i (.slice (some ⟨g, 0, none⟩) i cap)).run Try.prog w.drew = .ok (xs.take (i * 3)).toArray w.drew := by
    rw [hzs]
    refine run_firstCells_some w.drew 3 i ⟨g, 0, none⟩ i cap (xs.take (i * 3)) htk (fun j v hj => ?_)
    rw [List.getElem?_take] at hj
    split at hj
    · exact R.cell (V := w.drew) rfl 0 j v (by simpa using hj)
    · cases hj
  have hap : ∀ ty, (Builtin.append_ #[71, 71] ty #[.slice (some ⟨g, 0, none⟩) i cap, .slice u m vc]).run Try.prog w = .ok (.slice (some ⟨w.heap.size, 0, none⟩) (i + m) (grownCap w (i + m) cap 77)) (w.drew.alloc (.cells ((xs.take (i * 3) ++ ys) ++ zs zP (grownCap w (i + m) cap 77 - (i + m))).toArray 77)) := fun ty => by
    have := run_append_grow_src w 71 71 ty 77 i0 zP Try.underlying71 hi0 hz0 (some ⟨g, 0, none⟩) i cap (xs.take (i * 3)) hold (.slice u m vc) m ys (by rw [hzs]; exact hv) hroom (by omega) (by rw [hzb]; exact growslice_fits hroom (by omega))
    rw [this]
    congr 3
    apply Array.ext'
    simp [zs]
  generalize grownCap w (i + m) cap 77 = G at hap hG1 hG2
  clear hv R hold hml htk
  have q1 : (i : Int) ≤ (n : Int) := by omega
  have q2 : (n : Int) ≤ (cap : Int) := by omega
  have q3 : (i : Int) ≤ (cap : Int) := by omega
  have q7 : ¬ (cap = i) := by omega
  have q9 : ¬ ((i : Int) + (m : Int) < (n : Int)) := by omega
  refine Calls.mono (R := fun e w' => e = .returned (.slice (some ⟨w.heap.size, 0, none⟩) (i + m) G) ∧ w' = w.drew.alloc (.cells ((xs.take (i * 3) ++ ys) ++ zs zP (G - (i + m))).toArray 77)) ?_ ?_
  · go_enter Try.func50, Try.ntmps50
    go_wp2_with (at_builtin; refine Lib.wpList_append_run _ rfl _ _ _ _ rfl _ _ rfl rfl _ _ (hap _) ?_)
    all_goals go_ret
    all_goals exact ⟨rfl, rfl⟩
  · rintro e w' ⟨rfl, rfl⟩
    exact ⟨G, _, hG1, hG2, zs_len _, rfl, rfl⟩

set_option maxHeartbeats 4000000 in
set_option maxRecDepth 100000 in
/-- within, and there is no room -/
theorem rep_grow (g cap n i j gv vc m : Nat) (cur curv : Array Value) (xs ys : List Value) (w : World) (R : Rw w g cap n cur xs) (Rv : Rw w gv vc m curv ys) (hi : i < j) (hj : j < n) (hroom : cap < i + m + (n - j)) (hbig : (n + m) * 24 ≤ 140737488355328) :
    Calls Try.prog 50 #[.slice (some ⟨g, 0, none⟩) n cap, .int .i64 i, .int .i64 j, .slice (some ⟨gv, 0, none⟩) m vc] w fun e w' => ∃ G z q, i + m + (n - j) ≤ G ∧ G ≤ maxLen ∧ z.length = (G - i) * 3 ∧
      e = .returned (.slice (some ⟨w.heap.size, 0, none⟩) (i + m + (n - j)) G) ∧ ∃ w1, w1 = ((w.drewN q).alloc (.cells (xs.take (i * 3) ++ z).toArray 77)).drew ∧
        w' = ((w1.setRow w.heap.size (spl (xs.take (i * 3) ++ z).toArray (i * 3) ys)).drew).setRow w.heap.size (spl (spl (xs.take (i * 3) ++ z).toArray (i * 3) ys) ((i + m) * 3) (xs.drop (j * 3))) := by
  obtain ⟨i0, hi0, hz0, hzs, hzb⟩ := info_parts infoP
  have hml := R.hm
  have hnc := R.hn
  have hcap : cap ≤ 9223372036854775807 := by unfold maxLen at hml; omega
  have hz2 : ¬ ((i : Int) = (j : Int)) := by omega
  have hz4 : ¬ ((j : Int) = (n : Int)) := by omega
  have hgw : g < w.heap.size := (Array.getElem?_eq_some_iff.1 R.hh).1
  have hvw : gv < w.heap.size := (Array.getElem?_eq_some_iff.1 Rv.hh).1
  obtain ⟨t, ht⟩ : ∃ t, t = i + m + (n - j) := ⟨_, rfl⟩
  have hik : i + (t - i) = t := by omega
  have htk : (xs.take (i * 3)).length = i * 3 := by rw [List.length_take, R.len]; omega
  have hdl : (xs.drop (j * 3)).length = (n - j) * 3 := by rw [List.length_drop, R.len]; omega
  rw [← ht] at hroom ⊢
  -- what the run does, whatever was drawn ahead of it
  have hrun : ∀ V : World, V.heap = w.heap → ∃ G z, t ≤ G ∧ G ≤ maxLen ∧ z.length = (G - i) * 3 ∧ 
      (∀ ty, (Builtin.append_ #[71, 3] ty #[.slice (some ⟨g, 0, none⟩) i cap, .int .i64 ((t - i : Nat) : Int)]).run Try.prog V = .ok (.slice (some ⟨w.heap.size, 0, none⟩) t G) ((V.alloc (.cells (xs.take (i * 3) ++ z).toArray 77)).drew)) ∧
      (∀ ty dc, (Builtin.copy_ #[71, 71] ty #[.slice (some ⟨w.heap.size, i * 3, none⟩) (t - i) dc, .slice (some ⟨gv, 0, none⟩) m vc]).run Try.prog ((V.alloc (.cells (xs.take (i * 3) ++ z).toArray 77)).drew) = .ok (goInt (Nat.min m (t - i))) (((V.alloc (.cells (xs.take (i * 3) ++ z).toArray 77)).drew).setRow w.heap.size (spl (xs.take (i * 3) ++ z).toArray (i * 3) ys))) ∧
      (∀ ty dc sc, (Builtin.copy_ #[71, 71] ty #[.slice (some ⟨w.heap.size, (i + m) * 3, none⟩) (t - (i + m)) dc, .slice (some ⟨g, j * 3, none⟩) (n - j) sc]).run Try.prog (((V.alloc (.cells (xs.take (i * 3) ++ z).toArray 77)).drew).setRow w.heap.size (spl (xs.take (i * 3) ++ z).toArray (i * 3) ys)).drew = .ok (goInt (Nat.min (n - j) (t - (i + m)))) ((((V.alloc (.cells (xs.take (i * 3) ++ z).toArray 77)).drew).setRow w.heap.size (spl (xs.take (i * 3) ++ z).toArray (i * 3) ys)).drew.setRow w.heap.size (spl (spl (xs.take (i * 3) ++ z).toArray (i * 3) ys) ((i + m) * 3) (xs.drop (j * 3))))) := by
    intro V hV
    have hVs : V.heap.size = w.heap.size := by rw [hV]
    have RV : Rw V g cap n cur xs := ⟨by rw [hV]; exact R.hh, R.hn, R.hm, R.hs, R.ht, R.h1⟩
    have RvV : Rw V gv vc m curv ys := ⟨by rw [hV]; exact Rv.hh, Rv.hn, Rv.hm, Rv.hs, Rv.ht, Rv.h1⟩
    have hold : (Builtin.firstCells i0.size i (.slice (some ⟨g, 0, none⟩) i cap)).run Try.prog V.drew = .ok (xs.take (i * 3)).toArray V.drew := by
      rw [hzs]
      refine run_firstCells_some V.drew 3 i ⟨g, 0, none⟩ i cap (xs.take (i * 3)) htk (fun j v hj => ?_)
      rw [List.getElem?_take] at hj
      split at hj
      · exact RV.cell (V := V.drew) rfl 0 j v (by simpa using hj)
      · cases hj
    have hG1 : t ≤ grownCap V t cap 77 := grownCap_ge V t cap 77
    have hG2 := grownCap_le_maxLen V t cap 77 (by unfold maxLen; omega)
    have hrz : ∀ ty, (Builtin.append_ #[71, 3] ty #[.slice (some ⟨g, 0, none⟩) i cap, .int .i64 ((t - i : Nat) : Int)]).run Try.prog V =
        .ok (.slice (some ⟨w.heap.size, 0, none⟩) t (grownCap V t cap 77)) ((V.alloc (.cells (xs.take (i * 3) ++ (zs zP (t - i) ++ zs zP (grownCap V t cap 77 - t))).toArray 77)).drew) := fun ty => by
      have h := Lib.run_append_grow_zeros V 71 3 ty 77 i0 zP .i64 .i64 Try.underlying71 Try.underlying3 hi0 hz0 (some ⟨g, 0, none⟩) i cap (xs.take (i * 3)) hold (t - i) (by omega) (by omega) (by omega) (by omega) (by rw [hzb]; omega) (by rw [hzb, hik]; exact growslice_fits hroom (by omega))
      rw [hik, hVs] at h
      rw [h]
      have : ((xs.take (i * 3)).toArray ++ Builtin.zeroCells zP.cells (t - i) ++ Builtin.zeroCells zP.cells (grownCap V t cap 77 - t)) = (xs.take (i * 3) ++ (zs zP (t - i) ++ zs zP (grownCap V t cap 77 - t))).toArray := by
        apply Array.ext'
        simp [zs]
      rw [this]
      rfl
    obtain ⟨z, hz⟩ : ∃ z, z = zs zP (t - i) ++ zs zP (grownCap V t cap 77 - t) := ⟨_, rfl⟩
    have hzl : z.length = (grownCap V t cap 77 - i) * 3 := by rw [hz, List.length_append, zs_len, zs_len]; omega
    rw [← hz] at hrz
    clear hz
    generalize grownCap V t cap 77 = G at hrz hG1 hG2 hzl
    refine ⟨G, z, hG1, hG2, hzl, hrz, ?_⟩
    obtain ⟨A, hA⟩ : ∃ A, A = (xs.take (i * 3) ++ z).toArray := ⟨_, rfl⟩
    have hAs : A.size = G * 3 := by rw [hA, List.size_toArray, List.length_append, htk, hzl]; omega
    rw [← hA]
    obtain ⟨W1, hW1⟩ : ∃ W1, W1 = (V.alloc (.cells A 77)).drew := ⟨_, rfl⟩
    have hr1 : W1.heap[w.heap.size]? = some (.cells A 77 (0, 0)) := by rw [hW1, ← hVs]; exact heap_alloc_new V _
    have ho1 : ∀ k, k < w.heap.size → W1.heap[k]? = V.heap[k]? := fun k hk => by rw [hW1]; exact Below.heap_alloc V _ k (by omega)
    rw [← hW1]
    have hC1s : (spl A (i * 3) ys).size = G * 3 := by rw [spl_size _ _ _ (by rw [Rv.len, hAs]; omega), hAs]
    have hr2 := setRow_heap W1 w.heap.size A (spl A (i * 3) ys) _ _ hr1
    refine ⟨fun ty dc => ?_, fun ty dc sc => ?_⟩
    · exact run_copyK W1 _ _ ty 77 3 w.heap.size (i * 3) (t - i) dc ⟨gv, 0, none⟩ m vc A _ ys Try.underlying71 sizeP3 hr1
        (by rw [Rv.len]; congr 1; simp only [Nat.min_def]; split <;> omega) (fun j v hj => RvV.cell (ho1 gv hvw) 0 j v hj) (by rw [Rv.len, hAs]; omega) Rv.h1
    · exact run_copyK (W1.setRow w.heap.size (spl A (i * 3) ys)).drew _ _ ty 77 3 w.heap.size ((i + m) * 3) (t - (i + m)) dc ⟨g, j * 3, none⟩ (n - j) sc (spl A (i * 3) ys) _ (xs.drop (j * 3)) Try.underlying71 sizeP3 hr2
        (by rw [hdl]; congr 1; simp only [Nat.min_def]; split <;> omega) (fun k v hk => RV.cell ((setRow_other W1 w.heap.size g _ (by omega)).trans (ho1 g hgw)) (j * 3) k v hk) (by rw [hdl, hC1s]; omega) (fun v hv => R.h1 v (List.mem_of_mem_drop hv))
  have hw1 : IntKind.i64.wrap ((i : Int) + (m : Int)) = (i : Int) + (m : Int) := by rw [IntKind.wrap_i64]; omega
  have hsum : (i : Int) + (m : Int) + ((n - j : Nat) : Int) = (t : Int) := by omega
  have hw2 : IntKind.i64.wrap (t : Int) = (t : Int) := by rw [IntKind.wrap_i64]; omega
  have hw3 : (t : Int) - (i : Int) = ((t - i : Nat) : Int) := by omega
  have hw4 : IntKind.i64.wrap ((t - i : Nat) : Int) = ((t - i : Nat) : Int) := by rw [IntKind.wrap_i64]; omega
  have hb1 : (0 : Int) ≤ (i : Int) + (m : Int) := by omega
  have htn : ((i : Int) + (m : Int)).toNat = i + m := by omega
  have q1 : (i : Int) ≤ (j : Int) := by omega
  have q2 : (j : Int) ≤ (cap : Int) := by omega
  have q3 : (i : Int) ≤ (cap : Int) := by omega
  have q4 : (j : Int) ≤ (n : Int) := by omega
  have q5 : ¬ (cap = i) := by omega
  have q6 : ¬ (cap = j) := by omega
  have q7 : (cap : Int) < (t : Int) := by omega
  have q8 : (i : Int) + (m : Int) ≤ (t : Int) := by omega
  have q9 : (i : Int) ≤ (t : Int) := by omega
  have H := hide hrun
  clear hrun R Rv hml htk hdl ht hgw hvw
  refine Calls.mono (R := fun e w' => Hid (∃ G z q, t ≤ G ∧ G ≤ maxLen ∧ z.length = (G - i) * 3 ∧ e = .returned (.slice (some ⟨w.heap.size, 0, none⟩) t G) ∧ ∃ w1, w1 = ((w.drewN q).alloc (.cells (xs.take (i * 3) ++ z).toArray 77)).drew ∧ w' = ((w1.setRow w.heap.size (spl (xs.take (i * 3) ++ z).toArray (i * 3) ys)).drew).setRow w.heap.size (spl (spl (xs.take (i * 3) ++ z).toArray (i * 3) ys) ((i + m) * 3) (xs.drop (j * 3))))) ?_ (fun e w' h => unhide h)
  go_enter Try.func50, Try.ntmps50
  go_wp2
  go_quiet (fail)
  obtain ⟨G, z, hG1, hG2, hzl, hrz, hcA, hcB⟩ := unhide H (w.drewN nq) rfl
  have hG63 : G ≤ 9223372036854775807 := by unfold maxLen at hG2; omega
  have hGi : ¬ (G = i) := by omega
  have hGim : ¬ (G = i + m) := by omega
  have HX := hide (⟨hG1, hG2, hzl⟩ : t ≤ G ∧ G ≤ maxLen ∧ z.length = (G - i) * 3)
  clear hG1 hG2 hzl H hik
  obtain ⟨A, hA⟩ : ∃ A, A = (xs.take (i * 3) ++ z).toArray := ⟨_, rfl⟩
  obtain ⟨X1, hX1⟩ : ∃ X1, X1 = spl A (i * 3) ys := ⟨_, rfl⟩
  obtain ⟨X2, hX2⟩ : ∃ X2, X2 = spl X1 ((i + m) * 3) (xs.drop (j * 3)) := ⟨_, rfl⟩
  rw [← hA] at hrz hcA hcB
  rw [← hX1] at hcA hcB
  rw [← hX2] at hcB
  have HA := hide hA
  have HX1 := hide hX1
  have HX2 := hide hX2
  clear hA hX1 hX2
  go_wp2_with (first
    | (at_builtin; refine Lib.wpList_append_run _ rfl _ _ _ _ rfl _ _ rfl rfl _ _ (hrz _) ?_)
    | (at_builtin; refine wpList_copy_runI _ rfl _ _ 71 71 rfl _ _ rfl rfl (hcA _ _) ?_))
  go_region_law (refine step_copy_runI rfl _ _ 71 71 rfl _ _ (by simp [Act.eval, Act.put]) (by simp [Act.eval, Act.put]) (hcB _ _ _) ?_)
  go_wp2
  go_ret
  refine hide ⟨G, z, nq, (unhide HX).1, (unhide HX).2.1, (unhide HX).2.2, rfl, _, rfl, ?_⟩
  have hA := unhide HA
  have hX1 := unhide HX1
  have hX2 := unhide HX2
  subst hX2
  subst hX1
  subst hA
  rfl

set_option maxHeartbeats 4000000 in
set_option maxRecDepth 100000 in
/-- within, and it fits where something was -/
theorem rep_fit (g cap n i j : Nat) (u : Option Addr) (vc m : Nat) (cur : Array Value) (xs ys : List Value) (w : World) (R : Rw w g cap n cur xs) (hv : Src Try.prog 3 71 (.slice u m vc) m ys w) (hun : 0 < m → ∃ gv curv, u = some ⟨gv, 0, none⟩ ∧ gv ≠ g ∧ Rw w gv vc m curv ys) (hi : i < j) (hj : j < n) (hfit : i + m ≤ j) :
    Calls Try.prog 50 #[.slice (some ⟨g, 0, none⟩) n cap, .int .i64 i, .int .i64 j, .slice u m vc] w fun e w' =>
      e = .returned (.slice (some ⟨g, 0, none⟩) (i + m + (n - j)) cap) ∧ ∃ q, w' = (w.drewN q).setRow g (spl (spl (spl cur (i * 3) ys) ((i + m) * 3) (xs.drop (j * 3))) ((i + m + (n - j)) * 3) (zs zP (n - (i + m + (n - j))))) := by
  obtain ⟨i0, hi0, hz0, hzs, hzb⟩ := info_parts infoP
  have hml := R.hm
  have hnc := R.hn
  have hcap : cap ≤ 9223372036854775807 := by unfold maxLen at hml; omega
  have hz2 : ¬ ((i : Int) = (j : Int)) := by omega
  have hz4 : ¬ ((j : Int) = (n : Int)) := by omega
  have hyl := hv.newsLen
  obtain ⟨t, ht⟩ : ∃ t, t = i + m + (n - j) := ⟨_, rfl⟩
  have hdl : (xs.drop (j * 3)).length = (n - j) * 3 := by rw [List.length_drop, R.len]; omega
  have hs1 : (spl cur (i * 3) ys).size = cap * 3 := by rw [spl_size _ _ _ (by rw [hyl, R.hs]; omega), R.hs]
  have hs2 : (spl (spl cur (i * 3) ys) ((i + m) * 3) (xs.drop (j * 3))).size = cap * 3 := by rw [spl_size _ _ _ (by rw [hdl, hs1]; omega), hs1]
  rw [← ht]
  have hrun : ∀ V : World, V.heap = w.heap →
      (∀ ty dc, (Builtin.copy_ #[71, 71] ty #[.slice (some ⟨g, i * 3, none⟩) (t - i) dc, .slice u m vc]).run Try.prog V = .ok (goInt (Nat.min m (t - i))) (V.setRow g (spl cur (i * 3) ys))) ∧
      (∀ (U : World), U.heap = (V.setRow g (spl cur (i * 3) ys)).heap → ∀ ty dc sc, (Builtin.copy_ #[71, 71] ty #[.slice (some ⟨g, (i + m) * 3, none⟩) (t - (i + m)) dc, .slice (some ⟨g, j * 3, none⟩) (n - j) sc]).run Try.prog U = .ok (goInt (Nat.min (n - j) (t - (i + m)))) (U.setRow g (spl (spl cur (i * 3) ys) ((i + m) * 3) (xs.drop (j * 3))))) ∧
      (∀ (U : World), U.heap = (V.setRow g (spl (spl cur (i * 3) ys) ((i + m) * 3) (xs.drop (j * 3)))).heap → ∀ ty c, (Builtin.clear_ #[71] ty #[.slice (some ⟨g, t * 3, none⟩) (n - t) c]).run Try.prog U = .ok (.tuple #[]) (U.setRow g (spl (spl (spl cur (i * 3) ys) ((i + m) * 3) (xs.drop (j * 3))) (t * 3) (zs zP (n - t))))) ∧
      (n = t → ∀ (U : World), U.heap = (V.setRow g (spl (spl cur (i * 3) ys) ((i + m) * 3) (xs.drop (j * 3)))).heap → ∀ ty a c, (Builtin.clear_ #[71] ty #[.slice a 0 c]).run Try.prog U = .ok (.tuple #[]) (U.setRow g (spl (spl (spl cur (i * 3) ys) ((i + m) * 3) (xs.drop (j * 3))) (t * 3) (zs zP (n - t))))) := by
    intro V hV
    have RV : Rw V g cap n cur xs := ⟨by rw [hV]; exact R.hh, R.hn, R.hm, R.hs, R.ht, R.h1⟩
    have hr1 := setRow_heap V g cur (spl cur (i * 3) ys) _ _ RV.hh
    have hr2 := setRow_heap V g cur (spl (spl cur (i * 3) ys) ((i + m) * 3) (xs.drop (j * 3))) _ _ RV.hh
    refine ⟨fun ty dc => ?_, fun U hU ty dc sc => ?_, fun U hU ty c => ?_, fun hnt U hU ty a c => ?_⟩
    · rcases Nat.eq_zero_or_pos m with hm | hm
      · subst hm
        have e : ys = [] := List.length_eq_zero_iff.1 (by omega)
        subst e
        rw [spl_nil, setRow_self V g cur _ _ RV.hh]
        have := run_copy_zeroK (P := Try.prog) V 71 71 ty 77 (some ⟨g, i * 3, none⟩) u (t - i) dc 0 vc 3 (by simp) Try.underlying71 sizeP3
        simpa using this
      · obtain ⟨gv, curv, rfl, hne, Rv⟩ := hun hm
        have RvV : Rw V gv vc m curv ys := ⟨by rw [hV]; exact Rv.hh, Rv.hn, Rv.hm, Rv.hs, Rv.ht, Rv.h1⟩
        exact run_copyK V _ _ ty 77 3 g (i * 3) (t - i) dc ⟨gv, 0, none⟩ m vc cur _ ys Try.underlying71 sizeP3 RV.hh
          (by rw [hyl]; congr 1; simp only [Nat.min_def]; split <;> omega) (fun j v hj => RvV.cell rfl 0 j v hj) (by rw [hyl, R.hs]; omega) Rv.h1
    · have hrU : U.heap[g]? = _ := (congrArg (fun h => h[g]?) hU).trans hr1
      exact run_copyK U _ _ ty 77 3 g ((i + m) * 3) (t - (i + m)) dc ⟨g, j * 3, none⟩ (n - j) sc (spl cur (i * 3) ys) _ (xs.drop (j * 3)) Try.underlying71 sizeP3 hrU
        (by rw [hdl]; congr 1; simp only [Nat.min_def]; split <;> omega)
        (fun k v hk => by
          rw [Addr.add_lit]
          refine row_cell hrU (m := cap * 3) (xs := (spl cur (i * 3) ys).toList) (by rw [List.take_of_length_le (by rw [Array.length_toList, hs1]; omega)]) (by rw [hs1]; omega) _ _ ?_
          have hk2 : k < (n - j) * 3 := by have := (List.getElem?_eq_some_iff.1 hk).1; omega
          have hti : (cur.toList.take (i * 3)).length = i * 3 := by rw [List.length_take, Array.length_toList, R.hs]; omega
          rw [List.getElem?_drop, ← R.ht, List.getElem?_take, if_pos (by omega)] at hk
          rw [spl_toList, hyl, List.getElem?_append_right (by rw [List.length_append, hti, hyl]; omega), List.getElem?_drop, List.length_append, hti, hyl]
          rw [show i * 3 + m * 3 + (j * 3 + k - (i * 3 + m * 3)) = j * 3 + k by omega]
          exact hk) (by rw [hdl, hs1]; omega) (fun v hv => R.h1 v (List.mem_of_mem_drop hv))
    · have hrU : U.heap[g]? = _ := (congrArg (fun h => h[g]?) hU).trans hr2
      exact run_clearK U 71 ty 77 i0 zP g (t * 3) (n - t) c _ _ Try.underlying71 hi0 hz0 hrU (by rw [hs2]; show _ + _ * 3 ≤ _; omega) (zs_one _)
    · have hrU : U.heap[g]? = _ := (congrArg (fun h => h[g]?) hU).trans hr2
      have e : zs zP (n - t) = [] := List.length_eq_zero_iff.1 (by rw [zs_len]; omega)
      rw [e, spl_nil, setRow_self U g _ _ _ hrU]
      exact run_clear_zero U 71 ty 77 a c Try.underlying71
  have hw1 : IntKind.i64.wrap ((i : Int) + (m : Int)) = (i : Int) + (m : Int) := by rw [IntKind.wrap_i64]; omega
  have hsum : (i : Int) + (m : Int) + ((n - j : Nat) : Int) = (t : Int) := by omega
  have hw2 : IntKind.i64.wrap (t : Int) = (t : Int) := by rw [IntKind.wrap_i64]; omega
  have hb1 : (0 : Int) ≤ (i : Int) + (m : Int) := by omega
  have htn : ((i : Int) + (m : Int)).toNat = i + m := by omega
  have q1 : (i : Int) ≤ (j : Int) := by omega
  have q2 : (j : Int) ≤ (cap : Int) := by omega
  have q3 : (i : Int) ≤ (cap : Int) := by omega
  have q4 : (j : Int) ≤ (n : Int) := by omega
  have q5 : ¬ (cap = i) := by omega
  have q6 : ¬ (cap = j) := by omega
  have q7 : ¬ ((cap : Int) < (t : Int)) := by omega
  have q8 : (i : Int) + (m : Int) ≤ (t : Int) := by omega
  have q9 : (i : Int) ≤ (t : Int) := by omega
  have q10 : (i : Int) + (m : Int) ≤ (j : Int) := by omega
  have q11 : ¬ (cap = i + m) := by omega
  have q12 : (t : Int) ≤ (n : Int) := by omega
  have H := hide hrun
  have hnt : n = t ∨ (¬ (cap = t) ∧ ¬ n = t) := by omega
  clear hrun R hml hdl ht hs1 hs2 hv hun hyl
  generalize hZ1 : spl cur (i * 3) ys = X1 at H
  generalize hZ2 : spl X1 ((i + m) * 3) (xs.drop (j * 3)) = X2 at H
  generalize hZ3 : spl X2 (t * 3) (zs zP (n - t)) = X3 at H
  clear hZ1 hZ2 hZ3
  refine Calls.mono (R := fun e w' => Hid (e = .returned (.slice (some ⟨g, 0, none⟩) t cap) ∧ ∃ q, w' = (w.drewN q).setRow g X3)) ?_ (fun e w' h => unhide h)
  rcases hnt with hnt | ⟨hct, hnt⟩
  · subst hnt
    go_enter Try.func50, Try.ntmps50
    go_wp2
    go_quiet (fail)
    obtain ⟨h1, h2, h3, h4⟩ := unhide H (w.drewN nq) rfl
    have h2 := h2 ((w.drewN nq).setRow g X1).drew rfl
    have h4 := h4 (by first | rfl | trivial) (((w.drewN nq).setRow g X1).drew.setRow g X2) (by rw [show (((w.drewN nq).setRow g X1).drew.setRow g X2) = (((w.drewN nq).setRow g X1).setRow g X2).drew from rfl, setRow_setRow]; rfl)
    clear h3
    go_wp2_with (at_builtin; refine wpList_copy_runI _ rfl _ _ 71 71 rfl _ _ rfl rfl (h1 _ _) ?_)
    go_region_law (refine step_copy_runI rfl _ _ 71 71 rfl _ _ (by simp [Act.eval, Act.put]) (by simp [Act.eval, Act.put]) (h2 _ _ _) ?_)
    go_wp2_with (at_builtin; refine wpList_clear_run _ rfl _ _ rfl _ rfl (h4 _ _ _) ?_)
    all_goals go_ret
    all_goals exact hide ⟨rfl, nq + 1, by rw [setRow_setRow, show ((w.drewN nq).setRow g X1).drew.setRow g X3 = (((w.drewN nq).setRow g X1).setRow g X3).drew from rfl, setRow_setRow]; rfl⟩
  · go_enter Try.func50, Try.ntmps50
    go_wp2
    go_quiet (fail)
    obtain ⟨h1, h2, h3, h4⟩ := unhide H (w.drewN nq) rfl
    have h2 := h2 ((w.drewN nq).setRow g X1).drew rfl
    have h3 := h3 (((w.drewN nq).setRow g X1).drew.setRow g X2) (by rw [show (((w.drewN nq).setRow g X1).drew.setRow g X2) = (((w.drewN nq).setRow g X1).setRow g X2).drew from rfl, setRow_setRow]; rfl)
    clear h4
    go_wp2_with (at_builtin; refine wpList_copy_runI _ rfl _ _ 71 71 rfl _ _ rfl rfl (h1 _ _) ?_)
    go_region_law (refine step_copy_runI rfl _ _ 71 71 rfl _ _ (by simp [Act.eval, Act.put]) (by simp [Act.eval, Act.put]) (h2 _ _ _) ?_)
    go_wp2_with (at_builtin; refine wpList_clear_run _ rfl _ _ rfl _ rfl (h3 _ _) ?_)
    all_goals go_ret
    all_goals exact hide ⟨rfl, nq + 1, by rw [setRow_setRow, show ((w.drewN nq).setRow g X1).drew.setRow g X3 = (((w.drewN nq).setRow g X1).setRow g X3).drew from rfl, setRow_setRow]; rfl⟩

set_option maxHeartbeats 4000000 in
set_option maxRecDepth 100000 in
/-- within, more than was there, and there is room -/
theorem rep_shift (g cap n i j gv vc m : Nat) (cur curv : Array Value) (xs ys : List Value) (w : World) (R : Rw w g cap n cur xs) (Rv : Rw w gv vc m curv ys) (hne : gv ≠ g) (hi : i < j) (hj : j < n) (hroom : i + m + (n - j) ≤ cap) (hfit : j < i + m) :
    Calls Try.prog 50 #[.slice (some ⟨g, 0, none⟩) n cap, .int .i64 i, .int .i64 j, .slice (some ⟨gv, 0, none⟩) m vc] w fun e w' =>
      e = .returned (.slice (some ⟨g, 0, none⟩) (i + m + (n - j)) cap) ∧ ∃ q, w' = (w.drewN q).setRow g (spl (spl cur ((i + m) * 3) (xs.drop (j * 3))) (i * 3) ys) := by
  have hml := R.hm
  have hnc := R.hn
  have hcap : cap ≤ 9223372036854775807 := by unfold maxLen at hml; omega
  have hz2 : ¬ ((i : Int) = (j : Int)) := by omega
  have hz4 : ¬ ((j : Int) = (n : Int)) := by omega
  have hyl := Rv.len
  obtain ⟨t, ht⟩ : ∃ t, t = i + m + (n - j) := ⟨_, rfl⟩
  have hdl : (xs.drop (j * 3)).length = (n - j) * 3 := by rw [List.length_drop, R.len]; omega
  have hs1 : (spl cur ((i + m) * 3) (xs.drop (j * 3))).size = cap * 3 := by rw [spl_size _ _ _ (by rw [hdl, R.hs]; omega), R.hs]
  rw [← ht] at hroom ⊢
  have hrun : ∀ V : World, V.heap = w.heap →
      (∀ lb cb, (callFunc 67 #[.slice (some ⟨g, (i + m) * 3, none⟩) lb cb, .slice (some ⟨gv, 0, none⟩) m vc]).run Try.prog V = .ok (.value (.bool false)) V) ∧
      (∀ (U : World), U.heap = V.heap → ∀ ty dc sc, (Builtin.copy_ #[71, 71] ty #[.slice (some ⟨g, (i + m) * 3, none⟩) (t - (i + m)) dc, .slice (some ⟨g, j * 3, none⟩) (n - j) sc]).run Try.prog U = .ok (goInt (Nat.min (n - j) (t - (i + m)))) (U.setRow g (spl cur ((i + m) * 3) (xs.drop (j * 3))))) ∧
      (∀ (U : World), U.heap = (V.setRow g (spl cur ((i + m) * 3) (xs.drop (j * 3)))).heap → ∀ ty dc, (Builtin.copy_ #[71, 71] ty #[.slice (some ⟨g, i * 3, none⟩) (t - i) dc, .slice (some ⟨gv, 0, none⟩) m vc]).run Try.prog U = .ok (goInt (Nat.min m (t - i))) (U.setRow g (spl (spl cur ((i + m) * 3) (xs.drop (j * 3))) (i * 3) ys))) := by
    intro V hV
    have RV : Rw V g cap n cur xs := ⟨by rw [hV]; exact R.hh, R.hn, R.hm, R.hs, R.ht, R.h1⟩
    have RvV : Rw V gv vc m curv ys := ⟨by rw [hV]; exact Rv.hh, Rv.hn, Rv.hm, Rv.hs, Rv.ht, Rv.h1⟩
    have hr1 := setRow_heap V g cur (spl cur ((i + m) * 3) (xs.drop (j * 3))) _ _ RV.hh
    have hvc := Rv.hn
    refine ⟨fun lb cb => ?_, fun U hU ty dc sc => ?_, fun U hU ty dc => ?_⟩
    · rw [run_callFunc_extern Try.func67 (by kernel_rfl) (by kernel_rfl) (by kernel_rfl) (e := Extern.SlicesOverlaps.overlaps #[71, 71] #[4]) (by kernel_rfl),
        Lib.run_overlaps_apart V 71 4 77 Try.underlying71 3 Try.sizeOf77 ⟨g, (i + m) * 3, none⟩ ⟨gv, 0, none⟩ lb cb m vc (fun e => hne e.symm) _ _ _ _ (by simp [World.shape?, RV.hh]; exact ⟨rfl, rfl⟩) (by simp [World.shape?, RvV.hh]; exact ⟨rfl, rfl⟩) (by rw [Rv.hs]; omega) (by simp [World.frozen?, RV.hh]) (by simp [World.frozen?, RV.hh])]
      rfl
    · have hrU : U.heap[g]? = _ := (congrArg (fun h => h[g]?) hU).trans RV.hh
      exact run_copyK U _ _ ty 77 3 g ((i + m) * 3) (t - (i + m)) dc ⟨g, j * 3, none⟩ (n - j) sc cur _ (xs.drop (j * 3)) Try.underlying71 sizeP3 hrU
        (by rw [hdl]; congr 1; simp only [Nat.min_def]; split <;> omega) (fun k v hk => RV.cell (congrArg (fun h => h[g]?) hU) (j * 3) k v hk) (by rw [hdl, R.hs]; omega) (fun v hv => R.h1 v (List.mem_of_mem_drop hv))
    · have hrU : U.heap[g]? = _ := (congrArg (fun h => h[g]?) hU).trans hr1
      exact run_copyK U _ _ ty 77 3 g (i * 3) (t - i) dc ⟨gv, 0, none⟩ m vc _ _ ys Try.underlying71 sizeP3 hrU
        (by rw [hyl]; congr 1; simp only [Nat.min_def]; split <;> omega) (fun k v hk => RvV.cell ((congrArg (fun h => h[gv]?) hU).trans (setRow_other V g gv _ hne)) 0 k v hk) (by rw [hyl, hs1]; omega) Rv.h1
  have hw1 : IntKind.i64.wrap ((i : Int) + (m : Int)) = (i : Int) + (m : Int) := by rw [IntKind.wrap_i64]; omega
  have hsum : (i : Int) + (m : Int) + ((n - j : Nat) : Int) = (t : Int) := by omega
  have hw2 : IntKind.i64.wrap (t : Int) = (t : Int) := by rw [IntKind.wrap_i64]; omega
  have hb1 : (0 : Int) ≤ (i : Int) + (m : Int) := by omega
  have htn : ((i : Int) + (m : Int)).toNat = i + m := by omega
  have q1 : (i : Int) ≤ (j : Int) := by omega
  have q2 : (j : Int) ≤ (cap : Int) := by omega
  have q3 : (i : Int) ≤ (cap : Int) := by omega
  have q4 : (j : Int) ≤ (n : Int) := by omega
  have q5 : ¬ (cap = i) := by omega
  have q6 : ¬ (cap = j) := by omega
  have q7 : ¬ ((cap : Int) < (t : Int)) := by omega
  have q8 : (i : Int) + (m : Int) ≤ (t : Int) := by omega
  have q9 : (i : Int) ≤ (t : Int) := by omega
  have q10 : ¬ ((i : Int) + (m : Int) ≤ (j : Int)) := by omega
  have q11 : ¬ (cap = i + m) := by omega
  have H := hide hrun
  clear hrun R Rv hml hdl ht hs1 hyl
  generalize hZ1 : spl cur ((i + m) * 3) (xs.drop (j * 3)) = X1 at H
  generalize hZ2 : spl X1 (i * 3) ys = X2 at H
  clear hZ1 hZ2
  refine Calls.mono (R := fun e w' => Hid (e = .returned (.slice (some ⟨g, 0, none⟩) t cap) ∧ ∃ q, w' = (w.drewN q).setRow g X2)) ?_ (fun e w' h => unhide h)
  go_enter Try.func50, Try.ntmps50
  go_wp2
  go_quiet (fail)
  obtain ⟨h1, h2, h3⟩ := unhide H (w.drewN nq) rfl
  have h2 := h2 (w.drewN (nq + 1)) rfl
  have h3 := h3 ((w.drewN (nq + 1)).setRow g X1) rfl
  go_wp2_with (simp only [h1])
  go_region_law (refine step_copy_runI rfl _ _ 71 71 rfl _ _ (by simp [Act.eval, Act.put]) (by simp [Act.eval, Act.put]) (h2 _ _ _) ?_)
  go_wp2_with (at_builtin; refine wpList_copy_runI _ rfl _ _ 71 71 rfl _ _ rfl rfl (h3 _ _) ?_)
  go_ret
  exact hide ⟨rfl, nq + 1, by exact setRow_setRow _ _ _ _⟩
end Go.Proofs.Ytnhcbcbceaeceaa.VS
