/-
  slices.Insert of pieces, whatever the room.
-/
import Derived.Test.YtebppdcnfbflkaaPInsF
import Derived.Test.YtebppdcnfbflkaaPRow2
namespace Go.Proofs.Ytebppdcnfbflkaa.VF
open Go.RowKit Go.PlainAid Go.Lib Go.PRow Go.Shelf
set_option linter.unusedVariables false

theorem RowP.rw {W : World} {B : Nat} {v : Value} {ps : List (Pc Nat)} (h : RowP W B v ps) : (∃ a, v = .slice a 0 0 ∧ ps = []) ∨ ∃ g cap cur, v = .slice (some ⟨g, 0, none⟩) ps.length cap ∧ B ≤ g ∧ Rw W g cap ps.length cur (cellsP ps) := by
  rcases h.2 with ⟨a, rfl, hn⟩ | ⟨g, cap, cur, rfl, hb, hh, hc, hm, hs, ht⟩
  · exact .inl ⟨a, rfl, List.length_eq_zero_iff.1 hn⟩
  · exact .inr ⟨g, cap, cur, rfl, hb, hh, hc, hm, hs, ht, cellsP_one ps⟩
theorem RowP.of {W : World} {B g cap n : Nat} {cur : Array Value} {ps : List (Pc Nat)} (hb : B ≤ g) (hh : W.heap[g]? = some (.cells cur 115 (0, 0))) (hn : ps.length = n) (hc : n ≤ cap) (hm : cap ≤ maxLen) (hs : cur.size = cap * 3) (ht : cur.toList.take (n * 3) = cellsP ps) :
    RowP W B (.slice (some ⟨g, 0, none⟩) n cap) ps := by
  subst hn
  exact ⟨cellsP_len ps, .inr ⟨g, cap, cur, rfl, hb, hh, hc, hm, hs, ht⟩⟩
theorem RowP.mono {W : World} {B B' : Nat} {v : Value} {ps : List (Pc Nat)} (h : RowP W B v ps) (hb : B' ≤ B) : RowP W B' v ps := RowV.mono h hb
theorem blk_pos {a : Addr} {n c : Nat} (h : 0 < c) : blk (.slice (some a) n c) = some a.block := by
  cases c with
  | zero => omega
  | succ c => rfl

/-- what becomes of a slice s of pieces: s' with the pieces ps', in its own block or in a new one -/
def Turned (w w' : World) (B : Nat) (s s' : Value) (ps' : List (Pc Nat)) : Prop :=
  RowP w' B s' ps' ∧ w.grownBy w' (blk s) ∧ (blk s' = blk s ∨ ∀ g, blk s' = some g → w.heap.size ≤ g)

theorem grown_refl (w : World) (row : Option Nat) : w.grownBy w row := ⟨rfl, rfl, rfl, Nat.le_refl _, fun _ _ _ => rfl⟩
theorem grown_new (w : World) (o : Obj) (row : Option Nat) : w.grownBy (w.drew.alloc o) row :=
  ⟨rfl, rfl, rfl, by simp, fun k hk _ => Below.heap_alloc w.drew o k hk⟩

theorem insert_any (B Bv : Nat) (s u : Value) (ps qs : List (Pc Nat)) (i : Nat) (w : World) (hB : B ≤ w.heap.size) (hr : RowP w B s ps) (hu : RowP w Bv u qs) (hap : ∀ g, blk u = some g → blk s ≠ some g) (hi : i ≤ ps.length) (hbig : (ps.length + qs.length) * 16 ≤ 140737488355328) :
    Calls Try.prog 134 #[s, .int .i64 i, u] w fun e w' => ∃ s', e = .returned s' ∧ Turned w w' B s s' (ps.take i ++ qs ++ ps.drop i) := by
  by_cases hq : qs = []
  · subst hq
    obtain ⟨a, cap, rfl, hc1, hc2, _⟩ := hr.form
    obtain ⟨a2, cap2, rfl, _⟩ := hu.form
    refine (ins_nothing a ps.length cap i a2 cap2 w hi hc1 hc2).mono ?_
    rintro e w' ⟨rfl, rfl⟩
    exact ⟨_, rfl, by simpa using hr, grown_refl _ _, .inl rfl⟩
  have hm : 0 < qs.length := List.length_pos_iff.2 hq
  rcases hu.rw with ⟨a, _, e⟩ | ⟨gv, vc, curv, rfl, _, Rv⟩
  · exact absurd e hq
  have hvc := Rv.hn
  have hne : ∀ g cap, blk (.slice (some ⟨g, 0, none⟩) ps.length cap) = some g → s = .slice (some ⟨g, 0, none⟩) ps.length cap → gv ≠ g := fun g cap h1 h2 e => by
    subst h2
    exact hap gv (blk_pos (by omega)) (by rw [e]; exact h1)
  have hsrcv := src_of_row (P := Try.prog) hu Try.underlying109 (cellsP_one qs)
  have hsrcs := src_of_row (P := Try.prog) hr Try.underlying109 (cellsP_one ps)
  have hqc := cellsP_len qs
  have hpc := cellsP_len ps
  by_cases hin : i = ps.length
  · subst hin
    have el : ps.take ps.length ++ qs ++ ps.drop ps.length = ps ++ qs := by simp
    rw [el]
    obtain ⟨a, cap, rfl, hc1, hc2, _⟩ := hr.form
    by_cases hroom : ps.length + qs.length ≤ cap
    · rcases hr.rw with ⟨a', e, e'⟩ | ⟨g, cap', cur, e, hg, R⟩
      · subst e'
        simp only [List.length_nil] at e hroom
        injection e with e1 e2 e3
        omega
      · injection e with e1 e2 e3
        subst e1; subst e3
        refine (ins_end_in g cap ps.length _ vc qs.length cur (cellsP ps) (cellsP qs) w R hsrcv hm hroom).mono ?_
        rintro e w' ⟨rfl, rfl⟩
        have hfit : ps.length * 3 + (cellsP qs).length ≤ cur.size := by rw [hqc, R.hs]; omega
        refine ⟨_, rfl, RowP.of (cur := spl cur (ps.length * 3) (cellsP qs)) hg (setRow_heap w g cur _ _ _ R.hh) (by simp) hroom hc2 (by rw [spl_size _ _ _ hfit, R.hs]) ?_, ?_, .inl ?_⟩
        · rw [Nat.add_mul, spl_end R.ht hpc hqc, cellsP_append]
        · rw [blk_pos (by omega)]; exact setRow_grown w g _
        · rw [blk_pos (by omega), blk_pos (by omega)]
    · refine (ins_end_out a ps.length cap _ vc qs.length (cellsP ps) (cellsP qs) w hsrcs hsrcv hm hc1 (by omega) hbig).mono ?_
      rintro e w' ⟨G, z, h1, h2, h3, rfl, rfl⟩
      refine ⟨_, rfl, RowP.of (cur := ((cellsP ps ++ cellsP qs) ++ z).toArray) hB (heap_alloc_new w.drew _) (by simp) h1 h2 (by rw [List.size_toArray, List.length_append, List.length_append, hpc, hqc, h3]; omega) ?_, grown_new w _ _, .inr fun g hg => ?_⟩
      · rw [List.take_left' (by rw [List.length_append, hpc, hqc]; omega), cellsP_append]
      · rw [blk_pos (by omega)] at hg
        cases hg
        exact Nat.le_refl _
  · have hlt : i < ps.length := by omega
    rcases hr.rw with ⟨a', e, e'⟩ | ⟨g, cap, cur, rfl, hg, R⟩
    · subst e'
      simp at hlt
    have hc1 := R.hn
    have e1 : cellsP (ps.take i ++ qs ++ ps.drop i) = (cellsP ps).take (i * 3) ++ cellsP qs ++ (cellsP ps).drop (i * 3) := by rw [cellsP_append, cellsP_append, cellsP_take, cellsP_drop]
    have hdl : ((cellsP ps).drop (i * 3)).length = (ps.length - i) * 3 := by rw [List.length_drop, hpc]; omega
    have htk : ((cellsP ps).take (i * 3)).length = i * 3 := by rw [List.length_take, hpc]; omega
    have hln : (ps.take i ++ qs ++ ps.drop i).length = ps.length + qs.length := by simp; omega
    have e3 : (ps.length + qs.length) * 3 = i * 3 + qs.length * 3 + (ps.length - i) * 3 := by omega
    have e4 : (i + qs.length) * 3 = i * 3 + qs.length * 3 := by omega
    by_cases hroom : ps.length + qs.length ≤ cap
    · refine (ins_shift g cap ps.length i gv vc qs.length cur curv (cellsP ps) (cellsP qs) w R Rv (hne g cap (blk_pos (by omega)) rfl) hlt hm hroom).mono ?_
      rintro e w' ⟨rfl, rfl⟩
      have hs1 : (spl cur ((i + qs.length) * 3) ((cellsP ps).drop (i * 3))).size = cur.size := spl_size _ _ _ (by rw [hdl, R.hs]; omega)
      have hs2 : (spl (spl cur ((i + qs.length) * 3) ((cellsP ps).drop (i * 3))) (i * 3) (cellsP qs)).size = cap * 3 := by rw [spl_size _ _ _ (by rw [hs1, hqc, R.hs]; omega), hs1, R.hs]
      refine ⟨_, rfl, RowP.of hg (setRow_heap _ g _ _ _ _ (setRow_heap w.drew g cur _ _ _ R.hh)) hln hroom R.hm hs2 ?_, ?_, .inl ?_⟩
      · rw [e1, e3, e4]
        exact spl_shift R.ht (by omega) (by rw [R.hs]; omega) hqc hdl
      · rw [blk_pos (by omega), setRow_setRow]
        have := setRow_grown w g (spl (spl cur ((i + qs.length) * 3) ((cellsP ps).drop (i * 3))) (i * 3) (cellsP qs))
        exact ⟨this.os, this.tape, this.output, this.size, this.block⟩
      · rw [blk_pos (by omega), blk_pos (by omega)]
    · refine (ins_grow g cap ps.length i gv vc qs.length cur curv (cellsP ps) (cellsP qs) w R Rv hlt hm (by omega) hbig).mono ?_
      rintro e w' ⟨G, z, h1, h2, h3, rfl, w1, rfl, rfl⟩
      have hA : ((cellsP ps).take (i * 3) ++ z).toArray.size = G * 3 := by rw [List.size_toArray, List.length_append, htk, h3]; omega
      have hs1 : (spl ((cellsP ps).take (i * 3) ++ z).toArray (i * 3) (cellsP qs)).size = G * 3 := by rw [spl_size _ _ _ (by rw [hA, hqc]; omega), hA]
      have hs2 : (spl (spl ((cellsP ps).take (i * 3) ++ z).toArray (i * 3) (cellsP qs)) ((i + qs.length) * 3) ((cellsP ps).drop (i * 3))).size = G * 3 := by rw [spl_size _ _ _ (by rw [hs1, hdl]; omega), hs1]
      have hr1 : ((w.alloc (.cells ((cellsP ps).take (i * 3) ++ z).toArray 115)).drew.setRow w.heap.size (spl ((cellsP ps).take (i * 3) ++ z).toArray (i * 3) (cellsP qs))).heap[w.heap.size]? = _ := setRow_heap _ w.heap.size _ _ _ _ (heap_alloc_new w _)
      refine ⟨_, rfl, RowP.of hB (setRow_heap _ w.heap.size _ _ _ _ hr1) hln h1 h2 hs2 ?_, ?_, .inr fun g hg => ?_⟩
      · rw [e1, e3, e4, spl_fill (by rw [hA]; omega) hqc hdl]
        rw [List.take_left' htk]
      · refine ⟨rfl, rfl, rfl, by simp [setRow_size], fun k hk _ => ?_⟩
        rw [setRow_other _ _ _ _ (by omega)]
        show (World.setRow _ _ _).heap[k]? = _
        rw [setRow_other _ _ _ _ (by omega)]
        exact Below.heap_alloc w _ k hk
      · rw [blk_pos (by omega)] at hg
        cases hg
        exact Nat.le_refl _
end Go.Proofs.Ytebppdcnfbflkaa.VF
