/-
  These texts, one behind the other: PRepAllI, PRepl0I.
-/
import Derived.Test.YtnhcbcbceaeceaaPRepI
import Derived.Test.YtnhcbcbceaeceaaPoQi
import Derived.Test.YtnhcbcbceaeceaaPoQk
/-
  slices.Replace of pieces, whatever the room.
-/
namespace Go.Proofs.Ytnhcbcbceaeceaa.VI
open Go.RowKit Go.PlainAid Go.Lib Go.PRow Go.Shelf
set_option linter.unusedVariables false

set_option maxHeartbeats 4000000 in
set_option maxRecDepth 100000 in
theorem rep_eq (B Bv : Nat) (s u : Value) (ps qs : List (Pc Int)) (i : Nat) (w : World) (hB : B ≤ w.heap.size) (hr : RowP w B s ps) (hu : RowP w Bv u qs) (hap : ∀ g, blk u = some g → blk s ≠ some g) (hi : i ≤ ps.length) (hbig : (ps.length + qs.length) * 16 ≤ 140737488355328) :
    Calls Try.prog 43 #[s, .int .i64 i, .int .i64 i, u] w fun e w' => ∃ s', e = .returned s' ∧ Turned w w' B s s' (ps.take i ++ qs ++ ps.drop i) := by
  have H := hide (insert_any B Bv s u ps qs i w hB hr hu hap hi hbig)
  obtain ⟨a, cap, rfl, hc1, hc2, _⟩ := hr.form
  have q1 : (i : Int) ≤ (cap : Int) := by omega
  clear hr hu hap
  generalize ps.take i ++ qs ++ ps.drop i = rs at H ⊢
  generalize ps.length = n at *
  refine Calls.mono (R := fun e w' => Hid (∃ s', e = .returned s' ∧ Turned w w' B (.slice a n cap) s' rs)) ?_ (fun e w' h => unhide h)
  by_cases hci : cap = i
  · subst hci
    go_enter Try.func43, Try.ntmps43
    go_wp2_with (go_at_call 58; refine (unhide H).mono ?_; rintro e w' ⟨s', rfl, ht⟩)
    all_goals go_ret
    all_goals exact hide ⟨_, rfl, ht⟩
  · go_enter Try.func43, Try.ntmps43
    go_wp2_with (go_at_call 58; refine (unhide H).mono ?_; rintro e w' ⟨s', rfl, ht⟩)
    all_goals go_ret
    all_goals exact hide ⟨_, rfl, ht⟩

theorem grown_drawn {w w' : World} {q : Nat} {row : Option Nat} (h : (w.drewN q).grownBy w' row) : w.grownBy w' row := ⟨h.os, h.tape, h.output, h.size, h.block⟩

theorem replace_any (B Bv : Nat) (s u : Value) (ps qs : List (Pc Int)) (i j : Nat) (w : World) (hB : B ≤ w.heap.size) (hr : RowP w B s ps) (hu : RowP w Bv u qs) (hap : ∀ g, blk u = some g → blk s ≠ some g) (hij : i ≤ j) (hj : j ≤ ps.length) (hbig : (ps.length + qs.length) * 16 ≤ 140737488355328) :
    Calls Try.prog 43 #[s, .int .i64 i, .int .i64 j, u] w fun e w' => ∃ s', e = .returned s' ∧ Turned w w' B s s' (ps.take i ++ qs ++ ps.drop j) := by
  by_cases hlt : i = j
  · subst hlt
    exact rep_eq B Bv s u ps qs i w hB hr hu hap hj hbig
  have hi : i < j := by omega
  rcases hr.rw with ⟨a', e, e'⟩ | ⟨g, cap, cur, rfl, hg, R⟩
  · subst e'
    simp at hj
    omega
  have hc1 := R.hn
  obtain ⟨u0, vc, rfl, hvc1, hvc2, hun1, hun2⟩ := hu.form
  have hbs : blk (.slice (some ⟨g, 0, none⟩) ps.length cap) = some g := blk_pos (by omega)
  have hsrcv := src_of_row (P := Try.prog) hu Try.underlying54 (cellsP_one qs)
  have hqc := cellsP_len qs
  have hpc := cellsP_len ps
  have hun : 0 < qs.length → ∃ gv curv, u0 = some ⟨gv, 0, none⟩ ∧ gv ≠ g ∧ Rw w gv vc qs.length curv (cellsP qs) := fun h => by
    rcases hu.rw with ⟨a, _, e⟩ | ⟨gv, vc', curv, e, _, Rv⟩
    · subst e; simp at h
    · injection e with e1 e2 e3
      subst e1; subst e3
      exact ⟨gv, curv, rfl, fun e => hap gv (blk_pos (by omega)) (by rw [e]; exact hbs), Rv⟩
  have htk : ((cellsP ps).take (i * 3)).length = i * 3 := by rw [List.length_take, hpc]; omega
  have hdl : ((cellsP ps).drop (j * 3)).length = (ps.length - j) * 3 := by rw [List.length_drop, hpc]; omega
  have e1 : cellsP (ps.take i ++ qs ++ ps.drop j) = (cellsP ps).take (i * 3) ++ cellsP qs ++ (cellsP ps).drop (j * 3) := by rw [cellsP_append, cellsP_append, cellsP_take, cellsP_drop]
  have hln : (ps.take i ++ qs ++ ps.drop j).length = i + qs.length + (ps.length - j) := by simp; omega
  have e4 : (i + qs.length) * 3 = i * 3 + qs.length * 3 := by omega
  have e3 : (i + qs.length + (ps.length - j)) * 3 = i * 3 + qs.length * 3 + (ps.length - j) * 3 := by omega
  by_cases hjn : j = ps.length
  · subst hjn
    have e0 : ps.take i ++ qs ++ ps.drop ps.length = ps.take i ++ qs := by simp
    have hln' : (ps.take i ++ qs).length = i + qs.length := by simp; omega
    rw [e0]
    by_cases hroom : i + qs.length ≤ cap
    · refine (rep_end_in g cap ps.length i u0 vc qs.length cur (cellsP ps) (cellsP qs) w R hsrcv hi hroom).mono ?_
      rintro e w' ⟨rfl, rfl⟩
      have hs1 : (spl cur (i * 3) (cellsP qs)).size = cap * 3 := by rw [spl_size _ _ _ (by rw [hqc, R.hs]; omega), R.hs]
      have ht1 : (spl cur (i * 3) (cellsP qs)).toList.take ((i + qs.length) * 3) = cellsP (ps.take i ++ qs) := by
        rw [e4, spl_end (xs := (cellsP ps).take (i * 3)) (by rw [← R.ht, List.take_take]; congr 1; omega) htk hqc, cellsP_append, cellsP_take]
      split
      · have hs2 : (spl (spl cur (i * 3) (cellsP qs)) ((i + qs.length) * 3) (zs zP (ps.length - (i + qs.length)))).size = cap * 3 := by rw [spl_size _ _ _ (by rw [zs_len, hs1]; omega), hs1]
        refine ⟨_, rfl, RowP.of hg (setRow_heap _ g _ _ _ _ (setRow_heap w g cur _ _ _ R.hh)) hln' hroom R.hm hs2 ?_, ?_, .inl ?_⟩
        · have hl : (spl cur (i * 3) (cellsP qs)).toList.length = cap * 3 := Array.length_toList.trans hs1
          rw [spl_toList, List.append_assoc, List.take_append_of_le_length (by rw [List.length_take, hl]; omega), List.take_take, Nat.min_self, ht1]
        · rw [hbs, setRow_setRow]; exact setRow_grown w g _
        · rw [hbs, blk_pos (by omega)]
      · refine ⟨_, rfl, RowP.of hg (setRow_heap w g cur _ _ _ R.hh) hln' hroom R.hm hs1 ht1, ?_, .inl ?_⟩
        · rw [hbs]; exact setRow_grown w g _
        · rw [hbs, blk_pos (by omega)]
    · refine (rep_end_out g cap ps.length i u0 vc qs.length cur (cellsP ps) (cellsP qs) w R hsrcv hi (by omega) hbig).mono ?_
      rintro e w' ⟨G, z, h1, h2, h3, rfl, rfl⟩
      refine ⟨_, rfl, RowP.of (cur := (((cellsP ps).take (i * 3) ++ cellsP qs) ++ z).toArray) hB (heap_alloc_new w.drew _) hln' h1 h2 (by rw [List.size_toArray, List.length_append, List.length_append, htk, hqc, h3]; omega) ?_, grown_new w _ _, .inr fun g hg => ?_⟩
      · rw [List.take_left' (by rw [List.length_append, htk, hqc]; omega), cellsP_append, cellsP_take]
      · rw [blk_pos (by omega)] at hg
        cases hg
        exact Nat.le_refl _
  · have hjl : j < ps.length := by omega
    by_cases hroom : i + qs.length + (ps.length - j) ≤ cap
    · by_cases hfit : i + qs.length ≤ j
      · refine (rep_fit g cap ps.length i j u0 vc qs.length cur (cellsP ps) (cellsP qs) w R hsrcv hun hi hjl hfit).mono ?_
        rintro e w' ⟨rfl, q, rfl⟩
        have hs1 : (spl cur (i * 3) (cellsP qs)).size = cap * 3 := by rw [spl_size _ _ _ (by rw [hqc, R.hs]; omega), R.hs]
        have hs2 : (spl (spl cur (i * 3) (cellsP qs)) ((i + qs.length) * 3) ((cellsP ps).drop (j * 3))).size = cap * 3 := by rw [spl_size _ _ _ (by rw [hdl, hs1]; omega), hs1]
        have hs3 : (spl (spl (spl cur (i * 3) (cellsP qs)) ((i + qs.length) * 3) ((cellsP ps).drop (j * 3))) ((i + qs.length + (ps.length - j)) * 3) (zs zP (ps.length - (i + qs.length + (ps.length - j))))).size = cap * 3 := by rw [spl_size _ _ _ (by rw [zs_len, hs2]; omega), hs2]
        refine ⟨_, rfl, RowP.of hg (setRow_heap _ g cur _ _ _ R.hh) hln hroom R.hm hs3 ?_, ?_, .inl ?_⟩
        · rw [e1, e3, e4]
          exact spl_fit R.ht (by omega) (by rw [R.hs]; omega) hqc hdl (by rw [zs_len, R.hs]; omega)
        · rw [hbs]; exact grown_drawn (setRow_grown _ g _)
        · rw [hbs, blk_pos (by omega)]
      · obtain ⟨gv, curv, rfl, hne, Rv⟩ := hun (by omega)
        refine (rep_shift g cap ps.length i j gv vc qs.length cur curv (cellsP ps) (cellsP qs) w R Rv hne hi hjl hroom (by omega)).mono ?_
        rintro e w' ⟨rfl, q, rfl⟩
        have hs1 : (spl cur ((i + qs.length) * 3) ((cellsP ps).drop (j * 3))).size = cap * 3 := by rw [spl_size _ _ _ (by rw [hdl, R.hs]; omega), R.hs]
        have hs2 : (spl (spl cur ((i + qs.length) * 3) ((cellsP ps).drop (j * 3))) (i * 3) (cellsP qs)).size = cap * 3 := by rw [spl_size _ _ _ (by rw [hqc, hs1]; omega), hs1]
        refine ⟨_, rfl, RowP.of hg (setRow_heap _ g cur _ _ _ R.hh) hln hroom R.hm hs2 ?_, ?_, .inl ?_⟩
        · rw [e1, e3, e4]
          exact spl_shift R.ht (by omega) (by rw [R.hs]; omega) hqc hdl
        · rw [hbs]; exact grown_drawn (setRow_grown _ g _)
        · rw [hbs, blk_pos (by omega)]
    · obtain ⟨gv, curv, rfl, hne, Rv⟩ := hun (by omega)
      refine (rep_grow g cap ps.length i j gv vc qs.length cur curv (cellsP ps) (cellsP qs) w R Rv hi hjl (by omega) hbig).mono ?_
      rintro e w' ⟨G, z, q, h1, h2, h3, rfl, w1, rfl, rfl⟩
      have hA : ((cellsP ps).take (i * 3) ++ z).toArray.size = G * 3 := by rw [List.size_toArray, List.length_append, htk, h3]; omega
      have hs1 : (spl ((cellsP ps).take (i * 3) ++ z).toArray (i * 3) (cellsP qs)).size = G * 3 := by rw [spl_size _ _ _ (by rw [hA, hqc]; omega), hA]
      have hs2 : (spl (spl ((cellsP ps).take (i * 3) ++ z).toArray (i * 3) (cellsP qs)) ((i + qs.length) * 3) ((cellsP ps).drop (j * 3))).size = G * 3 := by rw [spl_size _ _ _ (by rw [hs1, hdl]; omega), hs1]
      have hr1 : (((w.drewN q).alloc (.cells ((cellsP ps).take (i * 3) ++ z).toArray 60)).drew.setRow w.heap.size (spl ((cellsP ps).take (i * 3) ++ z).toArray (i * 3) (cellsP qs))).heap[w.heap.size]? = _ := setRow_heap _ w.heap.size _ _ _ _ (heap_alloc_new (w.drewN q) _)
      refine ⟨_, rfl, RowP.of hB (setRow_heap _ w.heap.size _ _ _ _ hr1) hln h1 h2 hs2 ?_, ?_, .inr fun g hg => ?_⟩
      · rw [e1, e3, e4, spl_fill (by rw [hA]; omega) hqc hdl]
        rw [List.take_left' htk]
      · refine ⟨rfl, rfl, rfl, by simp [setRow_size], fun k hk _ => ?_⟩
        rw [setRow_other _ _ _ _ (by omega)]
        show (World.setRow _ _ _).heap[k]? = _
        rw [setRow_other _ _ _ _ (by omega)]
        exact Below.heap_alloc (w.drewN q) _ k hk
      · rw [blk_pos (by omega)] at hg
        cases hg
        exact Nat.le_refl _
end Go.Proofs.Ytnhcbcbceaeceaa.VI
/-
  replaced: the pieces with what is new in a range.
-/
namespace Go.Proofs.Ytnhcbcbceaeceaa.VI
open Go.RowKit Go.PlainAid Go.Lib Go.PRow Go.Shelf
set_option linter.unusedVariables false

theorem one_row (W : World) (k : Nat) (hk : k = W.heap.size) (a b : Int) (v : Int) (B : Nat) (hB : B ≤ W.heap.size) : RowP (W.alloc (.cells #[.int .i32 a, .int .i32 b, Value.int .i64 v] 60)) B (.slice (some ⟨k, 0, none⟩) 1 1) [⟨a, b, v⟩] := by
  subst hk
  exact RowP.of hB (heap_alloc_new W _) rfl (Nat.le_refl _) (by unfold maxLen; omega) rfl rfl

/-- behind W1: what lay there lies, and s has the pieces rs in memory of its own -/
def St (W1 W : World) (s : Value) (rs : List (Pc Int)) : Prop := Below W1.heap.size W1 W ∧ RowP W W1.heap.size s rs
theorem St.alloc {W1 W : World} {s : Value} {rs : List (Pc Int)} (h : St W1 W s rs) (o : Obj) : St W1 (W.alloc o) s rs :=
  ⟨h.1.alloc h.1.size o, h.2.below ((Below.refl _ W).alloc (Nat.le_refl _) o)⟩
theorem St.drewN {W1 W : World} {s : Value} {rs : List (Pc Int)} (h : St W1 W s rs) (q : Nat) : St W1 (W.drewN q) s rs :=
  ⟨⟨h.1.os, h.1.tape, h.1.output, h.1.size, h.1.block⟩, h.2.below ⟨rfl, rfl, rfl, Nat.le_refl _, fun _ _ => rfl⟩⟩
theorem St.app {W1 W : World} {s u : Value} {rs qs : List (Pc Int)} {Bv : Nat} (h : St W1 W s rs) (hu : RowP W Bv u qs) (hbig : (rs.length + qs.length) * 16 ≤ 140737488355328) :
    ∃ s' w', (∀ ty, (Builtin.append_ #[54, 54] ty #[s, u]).run Try.prog W = .ok s' w') ∧ St W1 w' s' (rs ++ qs) := by
  obtain ⟨s', w', h1, h2, _⟩ := append_ps W1.heap.size Bv s u rs qs W h.1.size h.2 hu hbig
  exact ⟨s', w', h1, h2.below h.1 h.1.size (fun g hg => (RowV.lt h.2 g hg).1), h2.1⟩
theorem St.one {W1 W : World} {s : Value} {rs : List (Pc Int)} (h : St W1 W s rs) (k : Nat) (hk : k = W.heap.size) (a b : Int) (v : Int) (hbig : rs.length ≤ 100) :
    ∃ s' w', (∀ ty, (Builtin.append_ #[54, 54] ty #[s, .slice (some ⟨k, 0, none⟩) 1 1]).run Try.prog (W.alloc (.cells #[.int .i32 a, .int .i32 b, Value.int .i64 v] 60)) = .ok s' w') ∧ St W1 w' s' (rs ++ [⟨a, b, v⟩]) :=
  (h.alloc _).app (one_row W k hk a b v 0 (Nat.zero_le _)) (by simp; omega)

theorem Turned.after {w W w' : World} {B : Nat} {s s' : Value} {ps' : List (Pc Int)} (h : Turned W w' B s s' ps') (hb : Below w.heap.size w W) : Turned w w' B s s' ps' :=
  ⟨h.1, ⟨h.2.1.os.trans hb.os, h.2.1.tape.trans hb.tape, h.2.1.output.trans hb.output, Nat.le_trans hb.size h.2.1.size, fun k hk hne => (h.2.1.block k (Nat.lt_of_lt_of_le hk hb.size) hne).trans (hb.block k hk)⟩,
    h.2.2.imp id fun h g hg => Nat.le_trans hb.size (h g hg)⟩

set_option maxHeartbeats 4000000 in
set_option maxRecDepth 100000 in
theorem rep_no (B : Nat) (v : Value) (ps : List (Pc Int)) (o : OkP ps) (lo hi : Int) (hm : 0 ≤ lo ∧ lo ≤ hi ∧ hi ≤ 1114111) (Bw : Nat) (u : Value) (ws : List (Pc Int)) (hf : ws.length ≤ 1) (w : World) (hB : B ≤ w.heap.size) (hr : RowP w B v ps) (hu : RowP w Bw u ws) (hFU : frI ps lo = upI ps hi) :
    Calls Try.prog 22 #[v, .agg #[.int .i32 lo, .int .i32 hi], u] w fun e w' => ∃ s', e = .returned s' ∧ Turned w w' B v s' (ps.take (frI ps lo) ++ (ws) ++ ps.drop (upI ps hi)) := by
  have hB1 : Below w.heap.size w (w.alloc (.cells #[.int .i32 lo, .int .i32 hi] 28)) := (Below.refl _ w).alloc (Nat.le_refl _) _
  have H := hide (reach_any B v ps o lo hi _ (hr.below hB1))
  have hlen := okP_len o
  have hw1 : IntKind.i32.wrap (lo - 1) = lo - 1 := by rw [IntKind.wrap_i32]; omega
  have hw2 : IntKind.i32.wrap (hi + 1) = hi + 1 := by rw [IntKind.wrap_i32]; omega
  have hU := upI_le ps hi
  have HU := hide (fun V (hV : Below w.heap.size w V) => hu.below hV)
  have HR := hide (fun V s rs (hV : Below (w.alloc (.cells #[.int .i32 lo, .int .i32 hi] 28)).heap.size (w.alloc (.cells #[.int .i32 lo, .int .i32 hi] 28)) V) (h : RowP V (w.alloc (.cells #[.int .i32 lo, .int .i32 hi] 28)).heap.size s rs) (hl : rs.length ≤ 3) => (replace_any B (w.alloc (.cells #[.int .i32 lo, .int .i32 hi] 28)).heap.size v s ps rs (frI ps lo) (upI ps hi) V (Nat.le_trans hB (hB1.trans (hV.mono (by simp))).size) (hr.below (hB1.trans (hV.mono (by simp)))) h (fun g h1 h2 => by
      have e1 := (RowV.lt h g h1).1
      have e2 := (RowV.lt hr g h2).2
      simp at e1
      omega) (by omega) hU (by omega)).mono fun e w' h => (show ∃ s', e = .returned s' ∧ Turned w w' B v s' (ps.take (frI ps lo) ++ rs ++ ps.drop (upI ps hi)) from by
        obtain ⟨s', h1, h2⟩ := h
        exact ⟨s', h1, h2.after (hB1.trans (hV.mono (by simp)))⟩))
  have HAPP := hide (fun V s rs (h : St (w.alloc (.cells #[.int .i32 lo, .int .i32 hi] 28)) V s rs) (hl : rs.length ≤ 2) => h.app (hu.below (hB1.trans (h.1.mono (by simp)))) (by omega))
  obtain ⟨a, cap, rfl, hc1, hc2, hn, hg⟩ := hr.form
  clear hn hg hr
  clear hu
  generalize frI ps lo = F at *
  generalize upI ps hi = U at *
  subst hFU
  generalize ps.take F = PA at *
  generalize ps.drop F = PB at *
  generalize ps.length = n at *
  have hpost : ∀ e w', (∃ s', e = Ending.returned s' ∧ Turned w w' B (.slice a n cap) s' (PA ++ (ws) ++ PB)) → Hid (∃ s', e = Ending.returned s' ∧ Turned w w' B (.slice a n cap) s' (PA ++ (ws) ++ PB)) := fun _ _ h => h
  refine Calls.mono (R := fun e w' => Hid (∃ s', e = .returned s' ∧ Turned w w' B (.slice a n cap) s' (PA ++ (ws) ++ PB))) ?_ (fun e w' h => unhide h)
  have HP := hide hpost
  clear hpost
  go_enter Try.func22, Try.ntmps22
  go_wp2_with (go_at_call 42; refine (unhide H).mono ?_; rintro e w2 ⟨rfl, hb⟩)
  go_quiet (fail)
  have hb3 : Below (w.alloc (.cells #[.int .i32 lo, .int .i32 hi] 28)).heap.size (w.alloc (.cells #[.int .i32 lo, .int .i32 hi] 28)) (w2.drewN nq) := ⟨hb.os, hb.tape, hb.output, hb.size, hb.block⟩
  generalize w2.drewN nq = w3 at hb3 ⊢
  clear hb
  have s3 : St (w.alloc (.cells #[.int .i32 lo, .int .i32 hi] 28)) w3 (.slice none 0 0) [] := ⟨hb3, RowV.nil _ _ _ _ _⟩
  have S3 := hide s3
  clear s3
  clear hb3
  go_wp2_with (at_builtin; refine wpList_append_ex rfl _ _ _ _ rfl _ _ rfl rfl (unhide HAPP w3 _ _ (unhide S3) (by simp)) ?_; rintro v5 w5 s5)
  have S5 := hide s5
  clear s5
  go_quiet (fail)
  have s6 := (unhide S5).drewN nq
  generalize w5.drewN nq = w6 at s6 ⊢
  have S6 := hide s6
  clear s6
  go_wp2_with (go_at_call 43; refine (unhide HR w6 v5 _ (unhide S6).1 (unhide S6).2 (by simp; omega)).mono ?_; rintro e w8 ⟨s8, rfl, h8⟩)
  go_ret
  exact unhide HP _ _ ⟨_, rfl, by simpa [List.append_assoc] using h8⟩

end Go.Proofs.Ytnhcbcbceaeceaa.VI
