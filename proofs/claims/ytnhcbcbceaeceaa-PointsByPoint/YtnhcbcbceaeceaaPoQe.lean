/-
  These texts, one behind the other: PInsS, PInsAllS, PAppS.
-/
import Derived.Test.YtnhcbcbceaeceaaPoQb
import Derived.Test.YtnhcbcbceaeceaaPShelf
import Derived.Shelf.Spec.SlicesInsert
import Derived.Test.YtnhcbcbceaeceaaPRow2
/-
  slices.Insert and slices.Replace of pieces.
-/
namespace Go.Proofs.Ytnhcbcbceaeceaa.VS
open Go.RowKit Go.PlainAid Go.Lib Go.PRow Go.Shelf
set_option linter.unusedVariables false

/-- a row of pieces' cells -/
structure Rw (W : World) (g cap n : Nat) (cur : Array Value) (xs : List Value) : Prop where
  hh : W.heap[g]? = some (.cells cur 77 (0, 0))
  hn : n ≤ cap
  hm : cap ≤ maxLen
  hs : cur.size = cap * 3
  ht : cur.toList.take (n * 3) = xs
  h1 : ∀ v ∈ xs, v.oneCell' = true
theorem Rw.len {W : World} {g cap n : Nat} {cur : Array Value} {xs : List Value} (h : Rw W g cap n cur xs) : xs.length = n * 3 := by
  have a := h.hs; have b := h.hn
  rw [← h.ht, List.length_take, Array.length_toList, a]
  omega
theorem Rw.cell {W V : World} {g cap n : Nat} {cur : Array Value} {xs : List Value} (h : Rw W g cap n cur xs) (hV : V.heap[g]? = W.heap[g]?) (o j : Nat) (v : Value) (hj : (xs.drop o)[j]? = some v) : V.cell? ((⟨g, o, none⟩ : Addr).add j) = some v := by
  rw [Addr.add_lit]
  refine row_cell (hV.trans h.hh) h.ht (by rw [h.hs]; exact Nat.mul_le_mul_right _ h.hn) _ _ ?_
  rwa [List.getElem?_drop] at hj

set_option maxHeartbeats 4000000 in
set_option maxRecDepth 100000 in
theorem ins_shift (g cap n i gv vc m : Nat) (cur curv : Array Value) (xs ys : List Value) (w : World) (R : Rw w g cap n cur xs) (Rv : Rw w gv vc m curv ys) (hne : gv ≠ g) (hi : i < n) (hm : 0 < m) (hroom : n + m ≤ cap) :
    Calls Try.prog 66 #[.slice (some ⟨g, 0, none⟩) n cap, .int .i64 i, .slice (some ⟨gv, 0, none⟩) m vc] w fun e w' =>
      e = .returned (.slice (some ⟨g, 0, none⟩) (n + m) cap) ∧ w' = (w.drew.setRow g (spl cur ((i + m) * 3) (xs.drop (i * 3)))).setRow g (spl (spl cur ((i + m) * 3) (xs.drop (i * 3))) (i * 3) ys) := by
  have hml := R.hm
  have hcap : cap ≤ 9223372036854775807 := by unfold maxLen at hml; omega
  have hz1 : ¬ ((m : Int) = 0) := by omega
  have hz2 : ¬ ((i : Int) = (n : Int)) := by omega
  have hov : ∀ lb cb, (callFunc 67 #[.slice (some ⟨gv, 0, none⟩) m vc, .slice (some ⟨g, (i + m) * 3, none⟩) lb cb]).run Try.prog w = .ok (.value (.bool false)) w := fun lb cb => by
    rw [run_callFunc_extern Try.func67 (by kernel_rfl) (by kernel_rfl) (by kernel_rfl) (e := Extern.SlicesOverlaps.overlaps #[71, 71] #[4]) (by kernel_rfl),
      Lib.run_overlaps_apart w 71 4 77 Try.underlying71 3 Try.sizeOf77 ⟨gv, 0, none⟩ ⟨g, (i + m) * 3, none⟩ m vc lb cb hne _ _ _ _ (by simp [World.shape?, Rv.hh]; exact ⟨rfl, rfl⟩) (by simp [World.shape?, R.hh]; exact ⟨rfl, rfl⟩) (by rw [R.hs]; omega) (by simp [World.frozen?, Rv.hh]) (by simp [World.frozen?, Rv.hh])]
    rfl
  have hdl : (xs.drop (i * 3)).length = (n - i) * 3 := by rw [List.length_drop, R.len]; omega
  have hcp1 : ∀ ty dc sc, (Builtin.copy_ #[71, 71] ty #[.slice (some ⟨g, (i + m) * 3, none⟩) (n + m - (i + m)) dc, .slice (some ⟨g, i * 3, none⟩) (n + m - i) sc]).run Try.prog w.drew = .ok (goInt (Nat.min (n + m - i) (n + m - (i + m)))) (w.drew.setRow g (spl cur ((i + m) * 3) (xs.drop (i * 3)))) := fun ty dc sc =>
    run_copyK w.drew _ _ ty 77 3 g ((i + m) * 3) (n + m - (i + m)) dc ⟨g, i * 3, none⟩ (n + m - i) sc cur _ (xs.drop (i * 3)) Try.underlying71 sizeP3 R.hh
      (by rw [hdl]; congr 1; simp only [Nat.min_def]; split <;> omega) (fun j v hj => R.cell rfl (i * 3) j v hj) (by rw [hdl, R.hs]; omega) (fun v hv => R.h1 v (List.mem_of_mem_drop hv))
  obtain ⟨C1, hC1⟩ : ∃ C1, C1 = spl cur ((i + m) * 3) (xs.drop (i * 3)) := ⟨_, rfl⟩
  have hC1s : C1.size = cap * 3 := by rw [hC1, spl_size _ _ _ (by rw [hdl, R.hs]; omega), R.hs]
  have hr1 : (w.drew.setRow g C1).heap[g]? = some (.cells C1 77 (0, 0)) := setRow_heap w.drew g cur C1 _ _ R.hh
  rw [← hC1] at hcp1 ⊢
  have hcp2 : ∀ ty dc, (Builtin.copy_ #[71, 71] ty #[.slice (some ⟨g, i * 3, none⟩) (n + m - i) dc, .slice (some ⟨gv, 0, none⟩) m vc]).run Try.prog (w.drew.setRow g C1) = .ok (goInt (Nat.min m (n + m - i))) ((w.drew.setRow g C1).setRow g (spl C1 (i * 3) ys)) := fun ty dc =>
    run_copyK (w.drew.setRow g C1) _ _ ty 77 3 g (i * 3) (n + m - i) dc ⟨gv, 0, none⟩ m vc C1 _ ys Try.underlying71 sizeP3 hr1
      (by rw [Rv.len]; congr 1; simp only [Nat.min_def]; split <;> omega) (fun j v hj => Rv.cell (setRow_other w.drew g gv C1 hne) 0 j v hj) (by rw [Rv.len, hC1s]; omega) Rv.h1
  have hw1 : IntKind.i64.wrap ((i : Int) + (m : Int)) = (i : Int) + (m : Int) := by rw [IntKind.wrap_i64]; omega
  have hw2 : IntKind.i64.wrap ((n : Int) + (m : Int)) = (n : Int) + (m : Int) := by rw [IntKind.wrap_i64]; omega
  have hb1 : (0 : Int) ≤ (i : Int) + (m : Int) := by omega
  have hin : i ≤ n := by omega
  have htn : ((i : Int) + (m : Int)).toNat = i + m := by omega
  have htn2 : ((n : Int) + (m : Int)).toNat = n + m := by omega
  have hb2 : ¬ (cap = i + m) := by omega
  have hb3 : (i : Int) ≤ (n : Int) + (m : Int) := by omega
  have hb4 : ¬ (cap = i) := by omega
  have hb5 : ¬ ((cap : Int) < (n : Int) + (m : Int)) := by omega
  clear hdl hC1 hC1s hr1 R Rv hml
  go_enter Try.func66, Try.ntmps66
  go_wp2_with (simp only [hov])
  go_region_law (refine step_copy_runI rfl _ _ 71 71 rfl _ _ (by simp [Act.eval, Act.put]) (by simp [Act.eval, Act.put]) (hcp1 _ _ _) ?_)
  go_wp2_with (at_builtin; refine wpList_copy_runI _ rfl _ _ 71 71 rfl _ _ rfl rfl (hcp2 _ _) ?_)
  go_ret
  exact ⟨rfl, rfl⟩

def zP : Value := .agg #[.int .i32 0, .int .i32 0, Value.string ⟨#[]⟩]
theorem zs_one (n : Nat) : ∀ v ∈ zs zP n, v.oneCell' = true := by
  intro v hv
  simp only [zs, Builtin.zeroCells, zP, Value.cells, Array.toList_map, List.mem_map] at hv
  obtain ⟨i, _, rfl⟩ := hv
  have h3 : i % 3 = 0 ∨ i % 3 = 1 ∨ i % 3 = 2 := by omega
  rcases h3 with h | h | h <;> simp [h, Value.oneCell']
theorem zs_len (n : Nat) : (zs zP n).length = n * 3 := by rw [zs_length]; rfl

/-- nothing is put in -/
theorem ins_nothing (a : Option Addr) (n cap i : Nat) (u : Option Addr) (c : Nat) (w : World) (hi : i ≤ n) (hn : n ≤ cap) (hc : cap ≤ maxLen) :
    Calls Try.prog 66 #[.slice a n cap, .int .i64 i, .slice u 0 c] w fun e w' => e = .returned (.slice a n cap) ∧ w' = w := by
  have h1 : (i : Int) ≤ (n : Int) := by omega
  have h2 : (i : Int) ≤ (cap : Int) := by omega
  go_enter Try.func66, Try.ntmps66
  go_wp2
  all_goals go_ret
  all_goals exact ⟨rfl, rfl⟩

set_option maxHeartbeats 4000000 in
set_option maxRecDepth 100000 in
/-- at the end, and there is room -/
theorem ins_end_in (g cap n : Nat) (u : Option Addr) (vc m : Nat) (cur : Array Value) (xs ys : List Value) (w : World) (R : Rw w g cap n cur xs) (hv : Src Try.prog 3 71 (.slice u m vc) m ys w) (hm : 0 < m) (hroom : n + m ≤ cap) :
    Calls Try.prog 66 #[.slice (some ⟨g, 0, none⟩) n cap, .int .i64 n, .slice u m vc] w fun e w' =>
      e = .returned (.slice (some ⟨g, 0, none⟩) (n + m) cap) ∧ w' = w.setRow g (spl cur (n * 3) ys) := by
  obtain ⟨i0, hi0, hz0, hzs, hzb⟩ := info_parts infoP
  have hz1 : ¬ ((m : Int) = 0) := by omega
  have hml := R.hm
  have hcap : cap ≤ 9223372036854775807 := by unfold maxLen at hml; omega
  have hap : ∀ ty, (Builtin.append_ #[71, 71] ty #[.slice (some ⟨g, 0, none⟩) n cap, .slice u m vc]).run Try.prog w = .ok (.slice (some ⟨g, 0, none⟩) (n + m) cap) (w.setRow g (spl cur (n * 3) ys)) := fun ty => by
    have := run_append_inK w 71 71 ty 77 i0 Try.underlying71 hi0 g 0 n cap cur _ (.slice u m vc) m ys (by rw [hzs]; exact hv) hroom R.hh (by rw [hzs, hv.newsLen, R.hs]; omega)
    rwa [hzs, Nat.zero_add] at this
  clear hv R hml
  go_enter Try.func66, Try.ntmps66
  go_wp2_with (at_builtin; refine Lib.wpList_append_run _ rfl _ _ _ _ rfl _ _ rfl rfl _ _ (hap _) ?_)
  all_goals go_ret
  all_goals exact ⟨rfl, rfl⟩

set_option maxHeartbeats 4000000 in
set_option maxRecDepth 100000 in
/-- at the end, and there is none -/
theorem ins_end_out (a : Option Addr) (n cap : Nat) (u : Option Addr) (vc m : Nat) (xs ys : List Value) (w : World) (hs : Src Try.prog 3 71 (.slice a n cap) n xs w) (hv : Src Try.prog 3 71 (.slice u m vc) m ys w) (hm : 0 < m) (hnc : n ≤ cap) (hroom : cap < n + m) (hbig : (n + m) * 24 ≤ 140737488355328) :
    Calls Try.prog 66 #[.slice a n cap, .int .i64 n, .slice u m vc] w fun e w' => ∃ G z, n + m ≤ G ∧ G ≤ maxLen ∧ z.length = (G - (n + m)) * 3 ∧
      e = .returned (.slice (some ⟨w.heap.size, 0, none⟩) (n + m) G) ∧ w' = w.drew.alloc (.cells ((xs ++ ys) ++ z).toArray 77) := by
  obtain ⟨i0, hi0, hz0, hzs, hzb⟩ := info_parts infoP
  have hz1 : ¬ ((m : Int) = 0) := by omega
  have hG1 : n + m ≤ grownCap w (n + m) cap 77 := grownCap_ge w (n + m) cap 77
  have hG2 := grownCap_le_maxLen w (n + m) cap 77 (by unfold maxLen; omega)
  have hap : ∀ ty, (Builtin.append_ #[71, 71] ty #[.slice a n cap, .slice u m vc]).run Try.prog w = .ok (.slice (some ⟨w.heap.size, 0, none⟩) (n + m) (grownCap w (n + m) cap 77)) (w.drew.alloc (.cells ((xs ++ ys) ++ zs zP (grownCap w (n + m) cap 77 - (n + m))).toArray 77)) := fun ty => by
    have := run_append_grow_src w 71 71 ty 77 i0 zP Try.underlying71 hi0 hz0 a n cap xs (by rw [hzs]; exact hs.cellsD) (.slice u m vc) m ys (by rw [hzs]; exact hv) hroom (by omega) (by rw [hzb]; exact growslice_fits hroom hbig)
    rw [this]
    congr 3
    apply Array.ext'
    simp [zs]
  generalize grownCap w (n + m) cap 77 = G at hap hG1 hG2
  clear hv hs
  refine Calls.mono (R := fun e w' => e = .returned (.slice (some ⟨w.heap.size, 0, none⟩) (n + m) G) ∧ w' = w.drew.alloc (.cells ((xs ++ ys) ++ zs zP (G - (n + m))).toArray 77)) ?_ ?_
  · go_enter Try.func66, Try.ntmps66
    go_wp2_with (at_builtin; refine Lib.wpList_append_run _ rfl _ _ _ _ rfl _ _ rfl rfl _ _ (hap _) ?_)
    all_goals go_ret
    all_goals exact ⟨rfl, rfl⟩
  · rintro e w' ⟨rfl, rfl⟩
    exact ⟨G, _, hG1, hG2, zs_len _, rfl, rfl⟩

set_option maxHeartbeats 4000000 in
set_option maxRecDepth 100000 in
/-- within, and there is no room -/
theorem ins_grow (g cap n i gv vc m : Nat) (cur curv : Array Value) (xs ys : List Value) (w : World) (R : Rw w g cap n cur xs) (Rv : Rw w gv vc m curv ys) (hi : i < n) (hm : 0 < m) (hroom : cap < n + m) (hbig : (n + m) * 24 ≤ 140737488355328) :
    Calls Try.prog 66 #[.slice (some ⟨g, 0, none⟩) n cap, .int .i64 i, .slice (some ⟨gv, 0, none⟩) m vc] w fun e w' => ∃ G z, n + m ≤ G ∧ G ≤ maxLen ∧ z.length = (G - i) * 3 ∧
      e = .returned (.slice (some ⟨w.heap.size, 0, none⟩) (n + m) G) ∧ ∃ w1, w1 = (w.alloc (.cells (xs.take (i * 3) ++ z).toArray 77)).drew ∧
        w' = ((w1.setRow w.heap.size (spl (xs.take (i * 3) ++ z).toArray (i * 3) ys)).drew).setRow w.heap.size (spl (spl (xs.take (i * 3) ++ z).toArray (i * 3) ys) ((i + m) * 3) (xs.drop (i * 3))) := by
  obtain ⟨i0, hi0, hz0, hzs, hzb⟩ := info_parts infoP
  have hml := R.hm
  have hcap : cap ≤ 9223372036854775807 := by unfold maxLen at hml; omega
  have hz1 : ¬ ((m : Int) = 0) := by omega
  have hz2 : ¬ ((i : Int) = (n : Int)) := by omega
  have hz3 : (cap : Int) < (n : Int) + (m : Int) := by omega
  have hgw : g < w.heap.size := (Array.getElem?_eq_some_iff.1 R.hh).1
  have hvw : gv < w.heap.size := (Array.getElem?_eq_some_iff.1 Rv.hh).1
  have hkk : (n : Int) + (m : Int) - (i : Int) = ((n + m - i : Nat) : Int) := by omega
  have hik : i + (n + m - i) = n + m := by omega
  have htk : (xs.take (i * 3)).length = i * 3 := by rw [List.length_take, R.len]; omega
  have hdl : (xs.drop (i * 3)).length = (n - i) * 3 := by rw [List.length_drop, R.len]; omega
  have hold : (Builtin.firstCells i0.size i (.slice (some ⟨g, 0, none⟩) i cap)).run Try.prog w.drew = .ok (xs.take (i * 3)).toArray w.drew := by
    rw [hzs]
    refine run_firstCells_some w.drew 3 i ⟨g, 0, none⟩ i cap (xs.take (i * 3)) htk (fun j v hj => ?_)
    rw [List.getElem?_take] at hj
    split at hj
    · exact R.cell (V := w.drew) rfl 0 j v (by simpa using hj)
    · cases hj
  have hG1 : n + m ≤ grownCap w (n + m) cap 77 := grownCap_ge w (n + m) cap 77
  have hG2 := grownCap_le_maxLen w (n + m) cap 77 (by unfold maxLen; omega)
  have hrz : ∀ ty, (Builtin.append_ #[71, 3] ty #[.slice (some ⟨g, 0, none⟩) i cap, .int .i64 ((n : Int) + (m : Int) - (i : Int))]).run Try.prog w =
      .ok (.slice (some ⟨w.heap.size, 0, none⟩) (n + m) (grownCap w (n + m) cap 77)) (w.drew.alloc (.cells (xs.take (i * 3) ++ (zs zP (n + m - i) ++ zs zP (grownCap w (n + m) cap 77 - (n + m)))).toArray 77)) := fun ty => by
    have h := Lib.run_append_grow_zeros w 71 3 ty 77 i0 zP .i64 .i64 Try.underlying71 Try.underlying3 hi0 hz0 (some ⟨g, 0, none⟩) i cap (xs.take (i * 3)) hold (n + m - i) (by omega) (by omega) (by omega) (by omega) (by rw [hzb]; omega) (by rw [hzb, hik]; exact growslice_fits hroom hbig)
    rw [hik] at h
    rw [hkk, h]
    congr 3
    apply Array.ext'
    simp [zs]
  obtain ⟨z, hz⟩ : ∃ z, z = zs zP (n + m - i) ++ zs zP (grownCap w (n + m) cap 77 - (n + m)) := ⟨_, rfl⟩
  have hzl : z.length = (grownCap w (n + m) cap 77 - i) * 3 := by rw [hz, List.length_append, zs_len, zs_len]; omega
  rw [← hz] at hrz
  clear hz
  generalize grownCap w (n + m) cap 77 = G at hrz hG1 hG2 hzl
  obtain ⟨A, hA⟩ : ∃ A, A = (xs.take (i * 3) ++ z).toArray := ⟨_, rfl⟩
  have hAs : A.size = G * 3 := by rw [hA, List.size_toArray, List.length_append, htk, hzl]; omega
  rw [← hA] at hrz
  have hnc := R.hn
  obtain ⟨W1, hW1⟩ : ∃ W1, W1 = (w.alloc (.cells A 77)).drew := ⟨_, rfl⟩
  have hr1 : W1.heap[w.heap.size]? = some (.cells A 77 (0, 0)) := by rw [hW1]; exact heap_alloc_new w _
  have ho1 : ∀ k, k < w.heap.size → W1.heap[k]? = w.heap[k]? := fun k hk => by rw [hW1]; exact Below.heap_alloc w _ k hk
  have hcpA : ∀ ty dc, (Builtin.copy_ #[71, 71] ty #[.slice (some ⟨w.heap.size, i * 3, none⟩) (n + m - i) dc, .slice (some ⟨gv, 0, none⟩) m vc]).run Try.prog W1 = .ok (goInt (Nat.min m (n + m - i))) (W1.setRow w.heap.size (spl A (i * 3) ys)) := fun ty dc =>
    run_copyK W1 _ _ ty 77 3 w.heap.size (i * 3) (n + m - i) dc ⟨gv, 0, none⟩ m vc A _ ys Try.underlying71 sizeP3 hr1
      (by rw [Rv.len]; congr 1; simp only [Nat.min_def]; split <;> omega) (fun j v hj => Rv.cell (ho1 gv hvw) 0 j v hj) (by rw [Rv.len, hAs]; omega) Rv.h1
  have hC1s : (spl A (i * 3) ys).size = G * 3 := by rw [spl_size _ _ _ (by rw [Rv.len, hAs]; omega), hAs]
  have hr2 := setRow_heap W1 w.heap.size A (spl A (i * 3) ys) _ _ hr1
  have hcpB : ∀ ty dc sc, (Builtin.copy_ #[71, 71] ty #[.slice (some ⟨w.heap.size, (i + m) * 3, none⟩) (n + m - (i + m)) dc, .slice (some ⟨g, i * 3, none⟩) (n - i) sc]).run Try.prog (W1.setRow w.heap.size (spl A (i * 3) ys)).drew = .ok (goInt (Nat.min (n - i) (n + m - (i + m)))) ((W1.setRow w.heap.size (spl A (i * 3) ys)).drew.setRow w.heap.size (spl (spl A (i * 3) ys) ((i + m) * 3) (xs.drop (i * 3)))) := fun ty dc sc =>
    run_copyK (W1.setRow w.heap.size (spl A (i * 3) ys)).drew _ _ ty 77 3 w.heap.size ((i + m) * 3) (n + m - (i + m)) dc ⟨g, i * 3, none⟩ (n - i) sc (spl A (i * 3) ys) _ (xs.drop (i * 3)) Try.underlying71 sizeP3 hr2
      (by rw [hdl]; congr 1; simp only [Nat.min_def]; split <;> omega) (fun j v hj => R.cell ((setRow_other W1 w.heap.size g _ (by omega)).trans (ho1 g hgw)) (i * 3) j v hj) (by rw [hdl, hC1s]; omega) (fun v hv => R.h1 v (List.mem_of_mem_drop hv))
  have hG63 : G ≤ 9223372036854775807 := by unfold maxLen at hG2; omega
  have hGi : ¬ (G = i) := by omega
  have hGim : ¬ (G = i + m) := by omega
  have hci : ¬ (cap = i) := by omega
  have hw1 : IntKind.i64.wrap ((i : Int) + (m : Int)) = (i : Int) + (m : Int) := by rw [IntKind.wrap_i64]; omega
  have hw2 : IntKind.i64.wrap ((n : Int) + (m : Int)) = (n : Int) + (m : Int) := by rw [IntKind.wrap_i64]; omega
  have hb1 : (0 : Int) ≤ (i : Int) + (m : Int) := by omega
  have hin : i ≤ n := by omega
  have htn : ((i : Int) + (m : Int)).toNat = i + m := by omega
  have hb3 : (i : Int) ≤ (n : Int) := by omega
  refine Calls.mono (R := fun e w' => e = .returned (.slice (some ⟨w.heap.size, 0, none⟩) (n + m) G) ∧ w' = ((W1.setRow w.heap.size (spl A (i * 3) ys)).drew).setRow w.heap.size (spl (spl A (i * 3) ys) ((i + m) * 3) (xs.drop (i * 3)))) ?_ ?_
  · clear hkk hik hold hA hAs hr1 ho1 hC1s hr2 R Rv hml hdl htk hzl hG1 hG2
    obtain ⟨X1, hX1⟩ : ∃ X1, X1 = spl A (i * 3) ys := ⟨_, rfl⟩
    obtain ⟨X2, hX2⟩ : ∃ X2, X2 = spl (spl A (i * 3) ys) ((i + m) * 3) (xs.drop (i * 3)) := ⟨_, rfl⟩
    rw [← hX2] at hcpB ⊢
    rw [← hX1] at hcpA hcpB ⊢
    clear hX1 hX2
    subst hW1
    go_enter Try.func66, Try.ntmps66
    go_wp2_with (first
      | (at_builtin; refine Lib.wpList_append_run _ rfl _ _ _ _ rfl _ _ rfl rfl _ _ (hrz _) ?_)
      | (at_builtin; refine wpList_copy_runI _ rfl _ _ 71 71 rfl _ _ rfl rfl (hcpA _ _) ?_))
    go_region_law (refine step_copy_runI rfl _ _ 71 71 rfl _ _ (by simp [Act.eval, Act.put]) (by simp [Act.eval, Act.put]) (hcpB _ _ _) ?_)
    go_wp2
    go_ret
    exact ⟨rfl, rfl⟩
  · rintro e w' ⟨rfl, rfl⟩
    exact ⟨G, z, hG1, hG2, hzl, rfl, W1, by rw [hW1, hA], by rw [hA]⟩
end Go.Proofs.Ytnhcbcbceaeceaa.VS
/-
  slices.Insert of pieces, whatever the room.
-/
namespace Go.Proofs.Ytnhcbcbceaeceaa.VS
open Go.RowKit Go.PlainAid Go.Lib Go.PRow Go.Shelf
set_option linter.unusedVariables false

theorem RowP.rw {W : World} {B : Nat} {v : Value} {ps : List (Pc ByteArray)} (h : RowP W B v ps) : (∃ a, v = .slice a 0 0 ∧ ps = []) ∨ ∃ g cap cur, v = .slice (some ⟨g, 0, none⟩) ps.length cap ∧ B ≤ g ∧ Rw W g cap ps.length cur (cellsP ps) := by
  rcases h.2 with ⟨a, rfl, hn⟩ | ⟨g, cap, cur, rfl, hb, hh, hc, hm, hs, ht⟩
  · exact .inl ⟨a, rfl, List.length_eq_zero_iff.1 hn⟩
  · exact .inr ⟨g, cap, cur, rfl, hb, hh, hc, hm, hs, ht, cellsP_one ps⟩
theorem RowP.of {W : World} {B g cap n : Nat} {cur : Array Value} {ps : List (Pc ByteArray)} (hb : B ≤ g) (hh : W.heap[g]? = some (.cells cur 77 (0, 0))) (hn : ps.length = n) (hc : n ≤ cap) (hm : cap ≤ maxLen) (hs : cur.size = cap * 3) (ht : cur.toList.take (n * 3) = cellsP ps) :
    RowP W B (.slice (some ⟨g, 0, none⟩) n cap) ps := by
  subst hn
  exact ⟨cellsP_len ps, .inr ⟨g, cap, cur, rfl, hb, hh, hc, hm, hs, ht⟩⟩
theorem RowP.mono {W : World} {B B' : Nat} {v : Value} {ps : List (Pc ByteArray)} (h : RowP W B v ps) (hb : B' ≤ B) : RowP W B' v ps := RowV.mono h hb
theorem blk_pos {a : Addr} {n c : Nat} (h : 0 < c) : blk (.slice (some a) n c) = some a.block := by
  cases c with
  | zero => omega
  | succ c => rfl

/-- what becomes of a slice s of pieces: s' with the pieces ps', in its own block or in a new one -/
def Turned (w w' : World) (B : Nat) (s s' : Value) (ps' : List (Pc ByteArray)) : Prop :=
  RowP w' B s' ps' ∧ w.grownBy w' (blk s) ∧ (blk s' = blk s ∨ ∀ g, blk s' = some g → w.heap.size ≤ g)

theorem grown_refl (w : World) (row : Option Nat) : w.grownBy w row := ⟨rfl, rfl, rfl, Nat.le_refl _, fun _ _ _ => rfl⟩
theorem grown_new (w : World) (o : Obj) (row : Option Nat) : w.grownBy (w.drew.alloc o) row :=
  ⟨rfl, rfl, rfl, by simp, fun k hk _ => Below.heap_alloc w.drew o k hk⟩

theorem insert_any (B Bv : Nat) (s u : Value) (ps qs : List (Pc ByteArray)) (i : Nat) (w : World) (hB : B ≤ w.heap.size) (hr : RowP w B s ps) (hu : RowP w Bv u qs) (hap : ∀ g, blk u = some g → blk s ≠ some g) (hi : i ≤ ps.length) (hbig : (ps.length + qs.length) * 24 ≤ 140737488355328) :
    Calls Try.prog 66 #[s, .int .i64 i, u] w fun e w' => ∃ s', e = .returned s' ∧ Turned w w' B s s' (ps.take i ++ qs ++ ps.drop i) := by
  by_cases hq : qs = []
  · subst hq
    obtain ⟨a, cap, rfl, hc1, hc2, _⟩ := hr.form
    obtain ⟨a2, cap2, rfl, _⟩ := hu.form
    refine (ins_nothing a ps.length cap i a2 cap2 w hi hc1 hc2).mono ?_
    rintro e w' ⟨rfl, rfl⟩
    exact ⟨_, rfl, by simpa using hr, grown_refl _ _, .inl rfl⟩
  have hm : 0 < qs.length := List.length_pos_iff.2 hq
  rcases hu.rw with ⟨a, _, e⟩ | ⟨gv, vc, curv, rfl, _, Rv⟩
  · exact absurd e hq
  have hvc := Rv.hn
  have hne : ∀ g cap, blk (.slice (some ⟨g, 0, none⟩) ps.length cap) = some g → s = .slice (some ⟨g, 0, none⟩) ps.length cap → gv ≠ g := fun g cap h1 h2 e => by
    subst h2
    exact hap gv (blk_pos (by omega)) (by rw [e]; exact h1)
  have hsrcv := src_of_row (P := Try.prog) hu Try.underlying71 (cellsP_one qs)
  have hsrcs := src_of_row (P := Try.prog) hr Try.underlying71 (cellsP_one ps)
  have hqc := cellsP_len qs
  have hpc := cellsP_len ps
  by_cases hin : i = ps.length
  · subst hin
    have el : ps.take ps.length ++ qs ++ ps.drop ps.length = ps ++ qs := by simp
    rw [el]
    obtain ⟨a, cap, rfl, hc1, hc2, _⟩ := hr.form
    by_cases hroom : ps.length + qs.length ≤ cap
    · rcases hr.rw with ⟨a', e, e'⟩ | ⟨g, cap', cur, e, hg, R⟩
      · subst e'
        simp only [List.length_nil] at e hroom
        injection e with e1 e2 e3
        omega
      · injection e with e1 e2 e3
        subst e1; subst e3
        refine (ins_end_in g cap ps.length _ vc qs.length cur (cellsP ps) (cellsP qs) w R hsrcv hm hroom).mono ?_
        rintro e w' ⟨rfl, rfl⟩
        have hfit : ps.length * 3 + (cellsP qs).length ≤ cur.size := by rw [hqc, R.hs]; omega
        refine ⟨_, rfl, RowP.of (cur := spl cur (ps.length * 3) (cellsP qs)) hg (setRow_heap w g cur _ _ _ R.hh) (by simp) hroom hc2 (by rw [spl_size _ _ _ hfit, R.hs]) ?_, ?_, .inl ?_⟩
        · rw [Nat.add_mul, spl_end R.ht hpc hqc, cellsP_append]
        · rw [blk_pos (by omega)]; exact setRow_grown w g _
        · rw [blk_pos (by omega), blk_pos (by omega)]
    · refine (ins_end_out a ps.length cap _ vc qs.length (cellsP ps) (cellsP qs) w hsrcs hsrcv hm hc1 (by omega) hbig).mono ?_
      rintro e w' ⟨G, z, h1, h2, h3, rfl, rfl⟩
      refine ⟨_, rfl, RowP.of (cur := ((cellsP ps ++ cellsP qs) ++ z).toArray) hB (heap_alloc_new w.drew _) (by simp) h1 h2 (by rw [List.size_toArray, List.length_append, List.length_append, hpc, hqc, h3]; omega) ?_, grown_new w _ _, .inr fun g hg => ?_⟩
      · rw [List.take_left' (by rw [List.length_append, hpc, hqc]; omega), cellsP_append]
      · rw [blk_pos (by omega)] at hg
        cases hg
        exact Nat.le_refl _
  · have hlt : i < ps.length := by omega
    rcases hr.rw with ⟨a', e, e'⟩ | ⟨g, cap, cur, rfl, hg, R⟩
    · subst e'
      simp at hlt
    have hc1 := R.hn
    have e1 : cellsP (ps.take i ++ qs ++ ps.drop i) = (cellsP ps).take (i * 3) ++ cellsP qs ++ (cellsP ps).drop (i * 3) := by rw [cellsP_append, cellsP_append, cellsP_take, cellsP_drop]
    have hdl : ((cellsP ps).drop (i * 3)).length = (ps.length - i) * 3 := by rw [List.length_drop, hpc]; omega
    have htk : ((cellsP ps).take (i * 3)).length = i * 3 := by rw [List.length_take, hpc]; omega
    have hln : (ps.take i ++ qs ++ ps.drop i).length = ps.length + qs.length := by simp; omega
    have e3 : (ps.length + qs.length) * 3 = i * 3 + qs.length * 3 + (ps.length - i) * 3 := by omega
    have e4 : (i + qs.length) * 3 = i * 3 + qs.length * 3 := by omega
    by_cases hroom : ps.length + qs.length ≤ cap
    · refine (ins_shift g cap ps.length i gv vc qs.length cur curv (cellsP ps) (cellsP qs) w R Rv (hne g cap (blk_pos (by omega)) rfl) hlt hm hroom).mono ?_
      rintro e w' ⟨rfl, rfl⟩
      have hs1 : (spl cur ((i + qs.length) * 3) ((cellsP ps).drop (i * 3))).size = cur.size := spl_size _ _ _ (by rw [hdl, R.hs]; omega)
      have hs2 : (spl (spl cur ((i + qs.length) * 3) ((cellsP ps).drop (i * 3))) (i * 3) (cellsP qs)).size = cap * 3 := by rw [spl_size _ _ _ (by rw [hs1, hqc, R.hs]; omega), hs1, R.hs]
      refine ⟨_, rfl, RowP.of hg (setRow_heap _ g _ _ _ _ (setRow_heap w.drew g cur _ _ _ R.hh)) hln hroom R.hm hs2 ?_, ?_, .inl ?_⟩
      · rw [e1, e3, e4]
        exact spl_shift R.ht (by omega) (by rw [R.hs]; omega) hqc hdl
      · rw [blk_pos (by omega), setRow_setRow]
        have := setRow_grown w g (spl (spl cur ((i + qs.length) * 3) ((cellsP ps).drop (i * 3))) (i * 3) (cellsP qs))
        exact ⟨this.os, this.tape, this.output, this.size, this.block⟩
      · rw [blk_pos (by omega), blk_pos (by omega)]
    · refine (ins_grow g cap ps.length i gv vc qs.length cur curv (cellsP ps) (cellsP qs) w R Rv hlt hm (by omega) hbig).mono ?_
      rintro e w' ⟨G, z, h1, h2, h3, rfl, w1, rfl, rfl⟩
      have hA : ((cellsP ps).take (i * 3) ++ z).toArray.size = G * 3 := by rw [List.size_toArray, List.length_append, htk, h3]; omega
      have hs1 : (spl ((cellsP ps).take (i * 3) ++ z).toArray (i * 3) (cellsP qs)).size = G * 3 := by rw [spl_size _ _ _ (by rw [hA, hqc]; omega), hA]
      have hs2 : (spl (spl ((cellsP ps).take (i * 3) ++ z).toArray (i * 3) (cellsP qs)) ((i + qs.length) * 3) ((cellsP ps).drop (i * 3))).size = G * 3 := by rw [spl_size _ _ _ (by rw [hs1, hdl]; omega), hs1]
      have hr1 : ((w.alloc (.cells ((cellsP ps).take (i * 3) ++ z).toArray 77)).drew.setRow w.heap.size (spl ((cellsP ps).take (i * 3) ++ z).toArray (i * 3) (cellsP qs))).heap[w.heap.size]? = _ := setRow_heap _ w.heap.size _ _ _ _ (heap_alloc_new w _)
      refine ⟨_, rfl, RowP.of hB (setRow_heap _ w.heap.size _ _ _ _ hr1) hln h1 h2 hs2 ?_, ?_, .inr fun g hg => ?_⟩
      · rw [e1, e3, e4, spl_fill (by rw [hA]; omega) hqc hdl]
        rw [List.take_left' htk]
      · refine ⟨rfl, rfl, rfl, by simp [setRow_size], fun k hk _ => ?_⟩
        rw [setRow_other _ _ _ _ (by omega)]
        show (World.setRow _ _ _).heap[k]? = _
        rw [setRow_other _ _ _ _ (by omega)]
        exact Below.heap_alloc w _ k hk
      · rw [blk_pos (by omega)] at hg
        cases hg
        exact Nat.le_refl _
end Go.Proofs.Ytnhcbcbceaeceaa.VS
/-
  An append of pieces to pieces; slices.Clone.
-/
namespace Go.Proofs.Ytnhcbcbceaeceaa.VS
open Go.RowKit Go.PlainAid Go.Lib Go.PRow Go.Shelf
set_option linter.unusedVariables false

theorem append_ps (B Bv : Nat) (s u : Value) (ps qs : List (Pc ByteArray)) (w : World) (hB : B ≤ w.heap.size) (hr : RowP w B s ps) (hu : RowP w Bv u qs) (hbig : (ps.length + qs.length) * 24 ≤ 140737488355328) :
    ∃ s' w', (∀ ty, (Builtin.append_ #[71, 71] ty #[s, u]).run Try.prog w = .ok s' w') ∧ Turned w w' B s s' (ps ++ qs) ∧ (∀ a, s = .slice a 0 0 → qs ≠ [] → w'.heap.size = w.heap.size + 1 ∧ blk s' = some w.heap.size) := by
  obtain ⟨i0, hi0, hz0, hzs, hzb⟩ := info_parts infoP
  obtain ⟨u0, vc, rfl, hvc1, hvc2, _⟩ := hu.form
  have hsrcv := src_of_row (P := Try.prog) hu Try.underlying71 (cellsP_one qs)
  have hsrcs := src_of_row (P := Try.prog) hr Try.underlying71 (cellsP_one ps)
  have hqc := cellsP_len qs
  have hpc := cellsP_len ps
  obtain ⟨a, cap, rfl, hc1, hc2, _⟩ := hr.form
  by_cases hq : qs = []
  · subst hq
    refine ⟨_, _, fun ty => run_append_none w 71 71 ty 77 i0 Try.underlying71 hi0 a ps.length cap _ (by rw [hzs]; exact hsrcv) hc1, ⟨by simpa using hr, grown_refl _ _, .inl rfl⟩, fun _ _ h => absurd rfl h⟩
  have hm : 0 < qs.length := List.length_pos_iff.2 hq
  by_cases hroom : ps.length + qs.length ≤ cap
  · rcases hr.rw with ⟨a', e, e'⟩ | ⟨g, cap', cur, e, hg, R⟩
    · subst e'
      simp only [List.length_nil] at e hroom
      injection e with e1 e2 e3
      omega
    · injection e with e1 e2 e3
      subst e1; subst e3
      have hfit : ps.length * 3 + (cellsP qs).length ≤ cur.size := by rw [hqc, R.hs]; omega
      refine ⟨_, _, fun ty => by
        have := run_append_inK w 71 71 ty 77 i0 Try.underlying71 hi0 g 0 ps.length cap cur _ (.slice u0 qs.length vc) qs.length (cellsP qs) (by rw [hzs]; exact hsrcv) hroom R.hh (by rw [hzs]; omega)
        rw [hzs, Nat.zero_add] at this
        exact this, ⟨RowP.of (cur := spl cur (ps.length * 3) (cellsP qs)) hg (setRow_heap w g cur _ _ _ R.hh) (by simp) hroom hc2 (by rw [spl_size _ _ _ hfit, R.hs]) ?_, ?_, .inl ?_⟩, fun a e _ => ?_⟩
      · rw [Nat.add_mul, spl_end R.ht hpc hqc, cellsP_append]
      · rw [blk_pos (by omega)]; exact setRow_grown w g _
      · rw [blk_pos (by omega), blk_pos (by omega)]
      · injection e with e1 e2 e3
        omega
  · have hG1 : ps.length + qs.length ≤ grownCap w (ps.length + qs.length) cap 77 := grownCap_ge w _ cap 77
    have hG2 := grownCap_le_maxLen w (ps.length + qs.length) cap 77 (by unfold maxLen; omega)
    refine ⟨_, _, fun ty => by
      have := run_append_grow_src w 71 71 ty 77 i0 zP Try.underlying71 hi0 hz0 a ps.length cap (cellsP ps) (by rw [hzs]; exact hsrcs.cellsD) (.slice u0 qs.length vc) qs.length (cellsP qs) (by rw [hzs]; exact hsrcv) (by omega) (by omega) (by rw [hzb]; exact growslice_fits (by omega) hbig)
      exact this, ⟨RowP.of (cur := (cellsP ps ++ cellsP qs).toArray ++ Builtin.zeroCells zP.cells (grownCap w (ps.length + qs.length) cap 77 - (ps.length + qs.length))) hB (heap_alloc_new w.drew _) (by simp) hG1 hG2 (by
        have := zs_len (grownCap w (ps.length + qs.length) cap 77 - (ps.length + qs.length))
        rw [zs, Array.length_toList] at this
        rw [Array.size_append, List.size_toArray, List.length_append, hpc, hqc, this]; omega) ?_, grown_new w _ _, .inr fun g hg => ?_⟩, fun a e _ => ⟨by simp, blk_pos (by omega)⟩⟩
    · rw [Array.toList_append, List.take_left' (by simp [hpc, hqc]; omega), cellsP_append]
    · rw [blk_pos (by omega)] at hg
      cases hg
      exact Nat.le_refl _

/-- an append in a walk, where there is such a run -/
theorem wpList_append_ex {w : World} {ops : Array Oper} {rest : List Oper} {o : Oper} {a : Act} {Q : Exit → Act → World → Prop} (hgd : o.guard = none) (s x : Operand) (t tn : TypeId)
    (ho : o.op = .call { callee := .builtin .append, args := #[s, x], argTypes := #[t, tn] }) (vs vx : Value) (hs : a.eval s = vs) (hx : a.eval x = vx) {Post : Value → World → Prop}
    (hr : ∃ v' w', (∀ ty, (Builtin.append_ #[t, tn] ty #[vs, vx]).run Try.prog w = .ok v' w') ∧ Post v' w') (h : ∀ v' w', Post v' w' → wpList Try.prog ops Q rest (a.put o.dst v') w') : wpList Try.prog ops Q (o :: rest) a w := by
  obtain ⟨v', w', h1, h2⟩ := hr
  exact Lib.wpList_append_run w hgd s x t tn ho vs vx hs hx v' w' (h1 _) (h v' w' h2)

theorem Turned.below {w w' : World} {B : Nat} {s s' : Value} {ps' : List (Pc ByteArray)} (h : Turned w w' B s s' ps') {a : World} {C : Nat} (hb : Below C a w) (hC : C ≤ w.heap.size) (hs : ∀ g, blk s = some g → C ≤ g) : Below C a w' :=
  hb.trans ⟨h.2.1.os, h.2.1.tape, h.2.1.output, h.2.1.size, fun k hk => h.2.1.block k (by omega) (fun e => by have := hs k e.symm; omega)⟩
theorem Turned.from {w w' : World} {B : Nat} {s s' : Value} {ps' : List (Pc ByteArray)} (h : Turned w w' B s s' ps') {C : Nat} (hC : C ≤ w.heap.size) (hs : ∀ g, blk s = some g → C ≤ g) : ∀ g, blk s' = some g → C ≤ g := fun g hg => by
  rcases h.2.2 with e | e
  · exact hs g (e.symm.trans hg)
  · exact Nat.le_trans hC (e g hg)

theorem eqNil_some (x : Addr) (n c : Nat) (w : World) : (binOp .eql 71 (.slice (some x) n c) (.slice none 0 0)).run Try.prog w = .ok (.bool false) w := by kernel_rfl
theorem eqNil_none (n c : Nat) (w : World) : (binOp .eql 71 (.slice none n c) (.slice none 0 0)).run Try.prog w = .ok (.bool true) w := by kernel_rfl

set_option maxRecDepth 100000 in
set_option maxHeartbeats 2000000 in
theorem clone_any (B : Nat) (v : Value) (ps : List (Pc ByteArray)) (w : World) (hr : RowP w B v ps) (hbig : ps.length * 24 ≤ 140737488355328) :
    Calls Try.prog 37 #[v] w fun e w' => ∃ v', e = .returned v' ∧ RowP w' w.heap.size v' ps ∧ Below w.heap.size w w' ∧ (ps ≠ [] → w'.heap.size = w.heap.size + 2 ∧ blk v' = some (w.heap.size + 1)) := by
  obtain ⟨a, cap, rfl, hc1, hc2, hn, hg⟩ := hr.form
  cases a with
  | none =>
    have e := hn rfl
    subst e
    refine Calls.mono (R := fun e w' => e = .returned (.slice none 0 0) ∧ w' = w) ?_ ?_
    · clear hg hr
      have hqn := eqNil_none
      go_enter Try.func37, Try.ntmps37
      go_wp2
      all_goals go_ret
      all_goals exact ⟨rfl, rfl⟩
    · rintro e w' ⟨rfl, rfl⟩
      exact ⟨_, rfl, RowV.nil _ _ _ _ _, Below.refl _ _, fun h => absurd rfl h⟩
  | some a =>
    have hB1 : Below w.heap.size w (w.alloc (.cells #[] 77)) := (Below.refl _ w).alloc (Nat.le_refl _) _
    have HAP := hide (append_ps w.heap.size B (.slice (some ⟨w.heap.size, 0, none⟩) 0 0) (.slice (some a) ps.length cap) [] ps (w.alloc (.cells #[] 77)) (by simp) (RowV.nil _ _ _ _ _) (hr.below hB1) (by simpa using hbig))
    clear hg hn hr
    refine Calls.mono (R := fun e w' => Hid (∃ v', e = .returned v' ∧ Turned (w.alloc (.cells #[] 77)) w' w.heap.size (.slice (some ⟨w.heap.size, 0, none⟩) 0 0) v' ([] ++ ps) ∧ (ps ≠ [] → w'.heap.size = w.heap.size + 2 ∧ blk v' = some (w.heap.size + 1)))) ?_ ?_
    · have hqn := eqNil_some
      go_enter Try.func37, Try.ntmps37
      go_wp2_with (at_builtin; refine wpList_append_ex rfl _ _ _ _ rfl _ _ rfl rfl (unhide HAP) ?_; rintro v' w' ⟨ht, hx⟩)
      all_goals go_ret
      all_goals exact hide ⟨_, rfl, ht, fun h => by have := hx _ rfl h; simpa using this⟩
    · rintro e w' h
      obtain ⟨v', rfl, ht, hx⟩ := unhide h
      exact ⟨v', rfl, by simpa using ht.1, ht.below hB1 (by simp) (fun g hg => by rw [blk_zero] at hg; cases hg), hx⟩
end Go.Proofs.Ytnhcbcbceaeceaa.VS
