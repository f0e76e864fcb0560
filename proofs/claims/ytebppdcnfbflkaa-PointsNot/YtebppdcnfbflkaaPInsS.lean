/-
  slices.Insert and slices.Replace of pieces.
-/
import Derived.Test.YtebppdcnfbflkaaPSmallS
import Derived.Test.YtebppdcnfbflkaaPShelf
import Derived.Shelf.Spec.SlicesInsert
namespace Go.Proofs.Ytebppdcnfbflkaa.VS
open Go.RowKit Go.PlainAid Go.Lib Go.PRow Go.Shelf
set_option linter.unusedVariables false

/-- a row of pieces' cells -/
structure Rw (W : World) (g cap n : Nat) (cur : Array Value) (xs : List Value) : Prop where
  hh : W.heap[g]? = some (.cells cur 127 (0, 0))
  hn : n ≤ cap
  hm : cap ≤ maxLen
  hs : cur.size = cap * 3
  ht : cur.toList.take (n * 3) = xs
  h1 : ∀ v ∈ xs, v.oneCell' = true
theorem Rw.len {W : World} {g cap n : Nat} {cur : Array Value} {xs : List Value} (h : Rw W g cap n cur xs) : xs.length = n * 3 := by
  have a := h.hs; have b := h.hn
  rw [← h.ht, List.length_take, Array.length_toList, a]
  omega
theorem Rw.cell {W V : World} {g cap n : Nat} {cur : Array Value} {xs : List Value} (h : Rw W g cap n cur xs) (hV : V.heap[g]? = W.heap[g]?) (o j : Nat) (v : Value) (hj : (xs.drop o)[j]? = some v) : V.cell? ((⟨g, o, none⟩ : Addr).add j) = some v := by
  rw [Addr.add_lit]
  refine row_cell (hV.trans h.hh) h.ht (by rw [h.hs]; exact Nat.mul_le_mul_right _ h.hn) _ _ ?_
  rwa [List.getElem?_drop] at hj

set_option maxHeartbeats 4000000 in
set_option maxRecDepth 100000 in
theorem ins_shift (g cap n i gv vc m : Nat) (cur curv : Array Value) (xs ys : List Value) (w : World) (R : Rw w g cap n cur xs) (Rv : Rw w gv vc m curv ys) (hne : gv ≠ g) (hi : i < n) (hm : 0 < m) (hroom : n + m ≤ cap) :
    Calls Try.prog 125 #[.slice (some ⟨g, 0, none⟩) n cap, .int .i64 i, .slice (some ⟨gv, 0, none⟩) m vc] w fun e w' =>
      e = .returned (.slice (some ⟨g, 0, none⟩) (n + m) cap) ∧ w' = (w.drew.setRow g (spl cur ((i + m) * 3) (xs.drop (i * 3)))).setRow g (spl (spl cur ((i + m) * 3) (xs.drop (i * 3))) (i * 3) ys) := by
  have hml := R.hm
  have hcap : cap ≤ 9223372036854775807 := by unfold maxLen at hml; omega
  have hz1 : ¬ ((m : Int) = 0) := by omega
  have hz2 : ¬ ((i : Int) = (n : Int)) := by omega
  have hov : ∀ lb cb, (callFunc 126 #[.slice (some ⟨gv, 0, none⟩) m vc, .slice (some ⟨g, (i + m) * 3, none⟩) lb cb]).run Try.prog w = .ok (.value (.bool false)) w := fun lb cb => by
    rw [run_callFunc_extern Try.func126 (by kernel_rfl) (by kernel_rfl) (by kernel_rfl) (e := Extern.SlicesOverlaps.overlaps #[121, 121] #[4]) (by kernel_rfl),
      Lib.run_overlaps_apart w 121 4 127 Try.underlying121 3 Try.sizeOf127 ⟨gv, 0, none⟩ ⟨g, (i + m) * 3, none⟩ m vc lb cb hne _ _ _ _ (by simp [World.shape?, Rv.hh]; exact ⟨rfl, rfl⟩) (by simp [World.shape?, R.hh]; exact ⟨rfl, rfl⟩) (by rw [R.hs]; omega) (by simp [World.frozen?, Rv.hh]) (by simp [World.frozen?, Rv.hh])]
    rfl
  have hdl : (xs.drop (i * 3)).length = (n - i) * 3 := by rw [List.length_drop, R.len]; omega
  have hcp1 : ∀ ty dc sc, (Builtin.copy_ #[121, 121] ty #[.slice (some ⟨g, (i + m) * 3, none⟩) (n + m - (i + m)) dc, .slice (some ⟨g, i * 3, none⟩) (n + m - i) sc]).run Try.prog w.drew = .ok (goInt (Nat.min (n + m - i) (n + m - (i + m)))) (w.drew.setRow g (spl cur ((i + m) * 3) (xs.drop (i * 3)))) := fun ty dc sc =>
    run_copyK w.drew _ _ ty 127 3 g ((i + m) * 3) (n + m - (i + m)) dc ⟨g, i * 3, none⟩ (n + m - i) sc cur _ (xs.drop (i * 3)) Try.underlying121 sizeP3 R.hh
      (by rw [hdl]; congr 1; simp only [Nat.min_def]; split <;> omega) (fun j v hj => R.cell rfl (i * 3) j v hj) (by rw [hdl, R.hs]; omega) (fun v hv => R.h1 v (List.mem_of_mem_drop hv))
  obtain ⟨C1, hC1⟩ : ∃ C1, C1 = spl cur ((i + m) * 3) (xs.drop (i * 3)) := ⟨_, rfl⟩
  have hC1s : C1.size = cap * 3 := by rw [hC1, spl_size _ _ _ (by rw [hdl, R.hs]; omega), R.hs]
  have hr1 : (w.drew.setRow g C1).heap[g]? = some (.cells C1 127 (0, 0)) := setRow_heap w.drew g cur C1 _ _ R.hh
  rw [← hC1] at hcp1 ⊢
  have hcp2 : ∀ ty dc, (Builtin.copy_ #[121, 121] ty #[.slice (some ⟨g, i * 3, none⟩) (n + m - i) dc, .slice (some ⟨gv, 0, none⟩) m vc]).run Try.prog (w.drew.setRow g C1) = .ok (goInt (Nat.min m (n + m - i))) ((w.drew.setRow g C1).setRow g (spl C1 (i * 3) ys)) := fun ty dc =>
    run_copyK (w.drew.setRow g C1) _ _ ty 127 3 g (i * 3) (n + m - i) dc ⟨gv, 0, none⟩ m vc C1 _ ys Try.underlying121 sizeP3 hr1
      (by rw [Rv.len]; congr 1; simp only [Nat.min_def]; split <;> omega) (fun j v hj => Rv.cell (setRow_other w.drew g gv C1 hne) 0 j v hj) (by rw [Rv.len, hC1s]; omega) Rv.h1
  have hw1 : IntKind.i64.wrap ((i : Int) + (m : Int)) = (i : Int) + (m : Int) := by rw [IntKind.wrap_i64]; omega
  have hw2 : IntKind.i64.wrap ((n : Int) + (m : Int)) = (n : Int) + (m : Int) := by rw [IntKind.wrap_i64]; omega
  have hb1 : (0 : Int) ≤ (i : Int) + (m : Int) := by omega
  have hin : i ≤ n := by omega
  have htn : ((i : Int) + (m : Int)).toNat = i + m := by omega
  have htn2 : ((n : Int) + (m : Int)).toNat = n + m := by omega
  have hb2 : ¬ (cap = i + m) := by omega
  have hb3 : (i : Int) ≤ (n : Int) + (m : Int) := by omega
  have hb4 : ¬ (cap = i) := by omega
  have hb5 : ¬ ((cap : Int) < (n : Int) + (m : Int)) := by omega
  clear hdl hC1 hC1s hr1 R Rv hml
  go_enter Try.func125, Try.ntmps125
  go_wp2_with (simp only [hov])
  go_region_law (refine step_copy_runI rfl _ _ 121 121 rfl _ _ (by simp [Act.eval, Act.put]) (by simp [Act.eval, Act.put]) (hcp1 _ _ _) ?_)
  go_wp2_with (at_builtin; refine wpList_copy_runI _ rfl _ _ 121 121 rfl _ _ rfl rfl (hcp2 _ _) ?_)
  go_ret
  exact ⟨rfl, rfl⟩

def zP : Value := .agg #[.int .i32 0, .int .i32 0, Value.string ⟨#[]⟩]
theorem zs_one (n : Nat) : ∀ v ∈ zs zP n, v.oneCell' = true := by
  intro v hv
  simp only [zs, Builtin.zeroCells, zP, Value.cells, Array.toList_map, List.mem_map] at hv
  obtain ⟨i, _, rfl⟩ := hv
  have h3 : i % 3 = 0 ∨ i % 3 = 1 ∨ i % 3 = 2 := by omega
  rcases h3 with h | h | h <;> simp [h, Value.oneCell']
theorem zs_len (n : Nat) : (zs zP n).length = n * 3 := by rw [zs_length]; rfl

/-- nothing is put in -/
theorem ins_nothing (a : Option Addr) (n cap i : Nat) (u : Option Addr) (c : Nat) (w : World) (hi : i ≤ n) (hn : n ≤ cap) (hc : cap ≤ maxLen) :
    Calls Try.prog 125 #[.slice a n cap, .int .i64 i, .slice u 0 c] w fun e w' => e = .returned (.slice a n cap) ∧ w' = w := by
  have h1 : (i : Int) ≤ (n : Int) := by omega
  have h2 : (i : Int) ≤ (cap : Int) := by omega
  go_enter Try.func125, Try.ntmps125
  go_wp2
  all_goals go_ret
  all_goals exact ⟨rfl, rfl⟩

set_option maxHeartbeats 4000000 in
set_option maxRecDepth 100000 in
/-- at the end, and there is room -/
theorem ins_end_in (g cap n : Nat) (u : Option Addr) (vc m : Nat) (cur : Array Value) (xs ys : List Value) (w : World) (R : Rw w g cap n cur xs) (hv : Src Try.prog 3 121 (.slice u m vc) m ys w) (hm : 0 < m) (hroom : n + m ≤ cap) :
    Calls Try.prog 125 #[.slice (some ⟨g, 0, none⟩) n cap, .int .i64 n, .slice u m vc] w fun e w' =>
      e = .returned (.slice (some ⟨g, 0, none⟩) (n + m) cap) ∧ w' = w.setRow g (spl cur (n * 3) ys) := by
  obtain ⟨i0, hi0, hz0, hzs, hzb⟩ := info_parts infoP
  have hz1 : ¬ ((m : Int) = 0) := by omega
  have hml := R.hm
  have hcap : cap ≤ 9223372036854775807 := by unfold maxLen at hml; omega
  have hap : ∀ ty, (Builtin.append_ #[121, 121] ty #[.slice (some ⟨g, 0, none⟩) n cap, .slice u m vc]).run Try.prog w = .ok (.slice (some ⟨g, 0, none⟩) (n + m) cap) (w.setRow g (spl cur (n * 3) ys)) := fun ty => by
    have := run_append_inK w 121 121 ty 127 i0 Try.underlying121 hi0 g 0 n cap cur _ (.slice u m vc) m ys (by rw [hzs]; exact hv) hroom R.hh (by rw [hzs, hv.newsLen, R.hs]; omega)
    rwa [hzs, Nat.zero_add] at this
  clear hv R hml
  go_enter Try.func125, Try.ntmps125
  go_wp2_with (at_builtin; refine Lib.wpList_append_run _ rfl _ _ _ _ rfl _ _ rfl rfl _ _ (hap _) ?_)
  all_goals go_ret
  all_goals exact ⟨rfl, rfl⟩

set_option maxHeartbeats 4000000 in
set_option maxRecDepth 100000 in
/-- at the end, and there is none -/
theorem ins_end_out (a : Option Addr) (n cap : Nat) (u : Option Addr) (vc m : Nat) (xs ys : List Value) (w : World) (hs : Src Try.prog 3 121 (.slice a n cap) n xs w) (hv : Src Try.prog 3 121 (.slice u m vc) m ys w) (hm : 0 < m) (hnc : n ≤ cap) (hroom : cap < n + m) (hbig : (n + m) * 24 ≤ 140737488355328) :
    Calls Try.prog 125 #[.slice a n cap, .int .i64 n, .slice u m vc] w fun e w' => ∃ G z, n + m ≤ G ∧ G ≤ maxLen ∧ z.length = (G - (n + m)) * 3 ∧
      e = .returned (.slice (some ⟨w.heap.size, 0, none⟩) (n + m) G) ∧ w' = w.drew.alloc (.cells ((xs ++ ys) ++ z).toArray 127) := by
  obtain ⟨i0, hi0, hz0, hzs, hzb⟩ := info_parts infoP
  have hz1 : ¬ ((m : Int) = 0) := by omega
  have hG1 : n + m ≤ grownCap w (n + m) cap 127 := grownCap_ge w (n + m) cap 127
  have hG2 := grownCap_le_maxLen w (n + m) cap 127 (by unfold maxLen; omega)
  have hap : ∀ ty, (Builtin.append_ #[121, 121] ty #[.slice a n cap, .slice u m vc]).run Try.prog w = .ok (.slice (some ⟨w.heap.size, 0, none⟩) (n + m) (grownCap w (n + m) cap 127)) (w.drew.alloc (.cells ((xs ++ ys) ++ zs zP (grownCap w (n + m) cap 127 - (n + m))).toArray 127)) := fun ty => by
    have := run_append_grow_src w 121 121 ty 127 i0 zP Try.underlying121 hi0 hz0 a n cap xs (by rw [hzs]; exact hs.cellsD) (.slice u m vc) m ys (by rw [hzs]; exact hv) hroom (by omega) (by rw [hzb]; exact growslice_fits hroom hbig)
    rw [this]
    congr 3
    apply Array.ext'
    simp [zs]
  generalize grownCap w (n + m) cap 127 = G at hap hG1 hG2
  clear hv hs
  refine Calls.mono (R := fun e w' => e = .returned (.slice (some ⟨w.heap.size, 0, none⟩) (n + m) G) ∧ w' = w.drew.alloc (.cells ((xs ++ ys) ++ zs zP (G - (n + m))).toArray 127)) ?_ ?_
  · go_enter Try.func125, Try.ntmps125
    go_wp2_with (at_builtin; refine Lib.wpList_append_run _ rfl _ _ _ _ rfl _ _ rfl rfl _ _ (hap _) ?_)
    all_goals go_ret
    all_goals exact ⟨rfl, rfl⟩
  · rintro e w' ⟨rfl, rfl⟩
    exact ⟨G, _, hG1, hG2, zs_len _, rfl, rfl⟩

set_option maxHeartbeats 4000000 in
set_option maxRecDepth 100000 in
/-- within, and there is no room -/
theorem ins_grow (g cap n i gv vc m : Nat) (cur curv : Array Value) (xs ys : List Value) (w : World) (R : Rw w g cap n cur xs) (Rv : Rw w gv vc m curv ys) (hi : i < n) (hm : 0 < m) (hroom : cap < n + m) (hbig : (n + m) * 24 ≤ 140737488355328) :
    Calls Try.prog 125 #[.slice (some ⟨g, 0, none⟩) n cap, .int .i64 i, .slice (some ⟨gv, 0, none⟩) m vc] w fun e w' => ∃ G z, n + m ≤ G ∧ G ≤ maxLen ∧ z.length = (G - i) * 3 ∧
      e = .returned (.slice (some ⟨w.heap.size, 0, none⟩) (n + m) G) ∧ ∃ w1, w1 = (w.alloc (.cells (xs.take (i * 3) ++ z).toArray 127)).drew ∧
        w' = ((w1.setRow w.heap.size (spl (xs.take (i * 3) ++ z).toArray (i * 3) ys)).drew).setRow w.heap.size (spl (spl (xs.take (i * 3) ++ z).toArray (i * 3) ys) ((i + m) * 3) (xs.drop (i * 3))) := by
  obtain ⟨i0, hi0, hz0, hzs, hzb⟩ := info_parts infoP
  have hml := R.hm
  have hcap : cap ≤ 9223372036854775807 := by unfold maxLen at hml; omega
  have hz1 : ¬ ((m : Int) = 0) := by omega
  have hz2 : ¬ ((i : Int) = (n : Int)) := by omega
  have hz3 : (cap : Int) < (n : Int) + (m : Int) := by omega
  have hgw : g < w.heap.size := (Array.getElem?_eq_some_iff.1 R.hh).1
  have hvw : gv < w.heap.size := (Array.getElem?_eq_some_iff.1 Rv.hh).1
  have hkk : (n : Int) + (m : Int) - (i : Int) = ((n + m - i : Nat) : Int) := by omega
  have hik : i + (n + m - i) = n + m := by omega
  have htk : (xs.take (i * 3)).length = i * 3 := by rw [List.length_take, R.len]; omega
  have hdl : (xs.drop (i * 3)).length = (n - i) * 3 := by rw [List.length_drop, R.len]; omega
  have hold : (Builtin.firstCells i0.size i (.slice (some ⟨g, 0, none⟩) i cap)).run Try.prog w.drew = .ok (xs.take (i * 3)).toArray w.drew := by
    rw [hzs]
    refine run_firstCells_some w.drew 3 i ⟨g, 0, none⟩ i cap (xs.take (i * 3)) htk (fun j v hj => ?_)
    rw [List.getElem?_take] at hj
    split at hj
    · exact R.cell (V := w.drew) rfl 0 j v (by simpa using hj)
    · cases hj
  have hG1 : n + m ≤ grownCap w (n + m) cap 127 := grownCap_ge w (n + m) cap 127
  have hG2 := grownCap_le_maxLen w (n + m) cap 127 (by unfold maxLen; omega)
  have hrz : ∀ ty, (Builtin.append_ #[121, 3] ty #[.slice (some ⟨g, 0, none⟩) i cap, .int .i64 ((n : Int) + (m : Int) - (i : Int))]).run Try.prog w =
      .ok (.slice (some ⟨w.heap.size, 0, none⟩) (n + m) (grownCap w (n + m) cap 127)) (w.drew.alloc (.cells (xs.take (i * 3) ++ (zs zP (n + m - i) ++ zs zP (grownCap w (n + m) cap 127 - (n + m)))).toArray 127)) := fun ty => by
    have h := Lib.run_append_grow_zeros w 121 3 ty 127 i0 zP .i64 .i64 Try.underlying121 Try.underlying3 hi0 hz0 (some ⟨g, 0, none⟩) i cap (xs.take (i * 3)) hold (n + m - i) (by omega) (by omega) (by omega) (by omega) (by rw [hzb]; omega) (by rw [hzb, hik]; exact growslice_fits hroom hbig)
    rw [hik] at h
    rw [hkk, h]
    congr 3
    apply Array.ext'
    simp [zs]
  obtain ⟨z, hz⟩ : ∃ z, z = zs zP (n + m - i) ++ zs zP (grownCap w (n + m) cap 127 - (n + m)) := ⟨_, rfl⟩
  have hzl : z.length = (grownCap w (n + m) cap 127 - i) * 3 := by rw [hz, List.length_append, zs_len, zs_len]; omega
  rw [← hz] at hrz
  clear hz
  generalize grownCap w (n + m) cap 127 = G at hrz hG1 hG2 hzl
  obtain ⟨A, hA⟩ : ∃ A, A = (xs.take (i * 3) ++ z).toArray := ⟨_, rfl⟩
  have hAs : A.size = G * 3 := by rw [hA, List.size_toArray, List.length_append, htk, hzl]; omega
  rw [← hA] at hrz
  have hnc := R.hn
  obtain ⟨W1, hW1⟩ : ∃ W1, W1 = (w.alloc (.cells A 127)).drew := ⟨_, rfl⟩
  have hr1 : W1.heap[w.heap.size]? = some (.cells A 127 (0, 0)) := by rw [hW1]; exact heap_alloc_new w _
  have ho1 : ∀ k, k < w.heap.size → W1.heap[k]? = w.heap[k]? := fun k hk => by rw [hW1]; exact Below.heap_alloc w _ k hk
  have hcpA : ∀ ty dc, (Builtin.copy_ #[121, 121] ty #[.slice (some ⟨w.heap.size, i * 3, none⟩) (n + m - i) dc, .slice (some ⟨gv, 0, none⟩) m vc]).run Try.prog W1 = .ok (goInt (Nat.min m (n + m - i))) (W1.setRow w.heap.size (spl A (i * 3) ys)) := fun ty dc =>
    run_copyK W1 _ _ ty 127 3 w.heap.size (i * 3) (n + m - i) dc ⟨gv, 0, none⟩ m vc A _ ys Try.underlying121 sizeP3 hr1
      (by rw [Rv.len]; congr 1; simp only [Nat.min_def]; split <;> omega) (fun j v hj => Rv.cell (ho1 gv hvw) 0 j v hj) (by rw [Rv.len, hAs]; omega) Rv.h1
  have hC1s : (spl A (i * 3) ys).size = G * 3 := by rw [spl_size _ _ _ (by rw [Rv.len, hAs]; omega), hAs]
  have hr2 := setRow_heap W1 w.heap.size A (spl A (i * 3) ys) _ _ hr1
  have hcpB : ∀ ty dc sc, (Builtin.copy_ #[121, 121] ty #[.slice (some ⟨w.heap.size, (i + m) * 3, none⟩) (n + m - (i + m)) dc, .slice (some ⟨g, i * 3, none⟩) (n - i) sc]).run Try.prog (W1.setRow w.heap.size (spl A (i * 3) ys)).drew = .ok (goInt (Nat.min (n - i) (n + m - (i + m)))) ((W1.setRow w.heap.size (spl A (i * 3) ys)).drew.setRow w.heap.size (spl (spl A (i * 3) ys) ((i + m) * 3) (xs.drop (i * 3)))) := fun ty dc sc =>
    run_copyK (W1.setRow w.heap.size (spl A (i * 3) ys)).drew _ _ ty 127 3 w.heap.size ((i + m) * 3) (n + m - (i + m)) dc ⟨g, i * 3, none⟩ (n - i) sc (spl A (i * 3) ys) _ (xs.drop (i * 3)) Try.underlying121 sizeP3 hr2
      (by rw [hdl]; congr 1; simp only [Nat.min_def]; split <;> omega) (fun j v hj => R.cell ((setRow_other W1 w.heap.size g _ (by omega)).trans (ho1 g hgw)) (i * 3) j v hj) (by rw [hdl, hC1s]; omega) (fun v hv => R.h1 v (List.mem_of_mem_drop hv))
  have hG63 : G ≤ 9223372036854775807 := by unfold maxLen at hG2; omega
  have hGi : ¬ (G = i) := by omega
  have hGim : ¬ (G = i + m) := by omega
  have hci : ¬ (cap = i) := by omega
  have hw1 : IntKind.i64.wrap ((i : Int) + (m : Int)) = (i : Int) + (m : Int) := by rw [IntKind.wrap_i64]; omega
  have hw2 : IntKind.i64.wrap ((n : Int) + (m : Int)) = (n : Int) + (m : Int) := by rw [IntKind.wrap_i64]; omega
  have hb1 : (0 : Int) ≤ (i : Int) + (m : Int) := by omega
  have hin : i ≤ n := by omega
  have htn : ((i : Int) + (m : Int)).toNat = i + m := by omega
  have hb3 : (i : Int) ≤ (n : Int) := by omega
  refine Calls.mono (R := fun e w' => e = .returned (.slice (some ⟨w.heap.size, 0, none⟩) (n + m) G) ∧ w' = ((W1.setRow w.heap.size (spl A (i * 3) ys)).drew).setRow w.heap.size (spl (spl A (i * 3) ys) ((i + m) * 3) (xs.drop (i * 3)))) ?_ ?_
  · clear hkk hik hold hA hAs hr1 ho1 hC1s hr2 R Rv hml hdl htk hzl hG1 hG2
    obtain ⟨X1, hX1⟩ : ∃ X1, X1 = spl A (i * 3) ys := ⟨_, rfl⟩
    obtain ⟨X2, hX2⟩ : ∃ X2, X2 = spl (spl A (i * 3) ys) ((i + m) * 3) (xs.drop (i * 3)) := ⟨_, rfl⟩
    rw [← hX2] at hcpB ⊢
    rw [← hX1] at hcpA hcpB ⊢
    clear hX1 hX2
    subst hW1
    go_enter Try.func125, Try.ntmps125
    go_wp2_with (first
      | (at_builtin; refine Lib.wpList_append_run _ rfl _ _ _ _ rfl _ _ rfl rfl _ _ (hrz _) ?_)
      | (at_builtin; refine wpList_copy_runI _ rfl _ _ 121 121 rfl _ _ rfl rfl (hcpA _ _) ?_))
    go_region_law (refine step_copy_runI rfl _ _ 121 121 rfl _ _ (by simp [Act.eval, Act.put]) (by simp [Act.eval, Act.put]) (hcpB _ _ _) ?_)
    go_wp2
    go_ret
    exact ⟨rfl, rfl⟩
  · rintro e w' ⟨rfl, rfl⟩
    exact ⟨G, z, hG1, hG2, hzl, rfl, W1, by rw [hW1, hA], by rw [hA]⟩
end Go.Proofs.Ytebppdcnfbflkaa.VS
