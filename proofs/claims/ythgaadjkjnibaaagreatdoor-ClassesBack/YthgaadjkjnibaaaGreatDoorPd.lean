/-
  These texts, one behind the other: PRepAllC, PAppC, PReachC, PRepl0C.
-/
import Derived.Test.YthgaadjkjnibaaaGreatDoorPRepC
import Derived.Test.YthgaadjkjnibaaaGreatDoorPc
import Derived.Test.YthgaadjkjnibaaaGreatDoorPs
/-
  slices.Replace of pieces, whatever the room.
-/
namespace Go.Proofs.YthgaadjkjnibaaaGreatDoor.VC
open Go.RowKit Go.PlainAid Go.Lib Go.PRow Go.Shelf
set_option linter.unusedVariables false

set_option maxHeartbeats 4000000 in
set_option maxRecDepth 100000 in
theorem rep_eq (B Bv : Nat) (s u : Value) (ps qs : List (Pc Int)) (i : Nat) (w : World) (hB : B ≤ w.heap.size) (hr : RowP w B s ps) (hu : RowP w Bv u qs) (hap : ∀ g, blk u = some g → blk s ≠ some g) (hi : i ≤ ps.length) (hbig : (ps.length + qs.length) * 12 ≤ 140737488355328) :
    Calls Tryz.prog 89 #[s, .int .i64 i, .int .i64 i, u] w fun e w' => ∃ s', e = .returned s' ∧ Turned w w' B s s' (ps.take i ++ qs ++ ps.drop i) := by
  have H := hide (insert_any B Bv s u ps qs i w hB hr hu hap hi hbig)
  obtain ⟨a, cap, rfl, hc1, hc2, _⟩ := hr.form
  have q1 : (i : Int) ≤ (cap : Int) := by omega
  clear hr hu hap
  generalize ps.take i ++ qs ++ ps.drop i = rs at H ⊢
  generalize ps.length = n at *
  refine Calls.mono (R := fun e w' => Hid (∃ s', e = .returned s' ∧ Turned w w' B (.slice a n cap) s' rs)) ?_ (fun e w' h => unhide h)
  by_cases hci : cap = i
  · subst hci
    go_enter Tryz.func89, Tryz.ntmps89
    go_wp2_with (go_at_call 122; refine (unhide H).mono ?_; rintro e w' ⟨s', rfl, ht⟩)
    all_goals go_ret
    all_goals exact hide ⟨_, rfl, ht⟩
  · go_enter Tryz.func89, Tryz.ntmps89
    go_wp2_with (go_at_call 122; refine (unhide H).mono ?_; rintro e w' ⟨s', rfl, ht⟩)
    all_goals go_ret
    all_goals exact hide ⟨_, rfl, ht⟩

theorem grown_drawn {w w' : World} {q : Nat} {row : Option Nat} (h : (w.drewN q).grownBy w' row) : w.grownBy w' row := ⟨h.os, h.tape, h.output, h.size, h.block⟩

theorem replace_any (B Bv : Nat) (s u : Value) (ps qs : List (Pc Int)) (i j : Nat) (w : World) (hB : B ≤ w.heap.size) (hr : RowP w B s ps) (hu : RowP w Bv u qs) (hap : ∀ g, blk u = some g → blk s ≠ some g) (hij : i ≤ j) (hj : j ≤ ps.length) (hbig : (ps.length + qs.length) * 12 ≤ 140737488355328) :
    Calls Tryz.prog 89 #[s, .int .i64 i, .int .i64 j, u] w fun e w' => ∃ s', e = .returned s' ∧ Turned w w' B s s' (ps.take i ++ qs ++ ps.drop j) := by
  by_cases hlt : i = j
  · subst hlt
    exact rep_eq B Bv s u ps qs i w hB hr hu hap hj hbig
  have hi : i < j := by omega
  rcases hr.rw with ⟨a', e, e'⟩ | ⟨g, cap, cur, rfl, hg, R⟩
  · subst e'
    simp at hj
    omega
  have hc1 := R.hn
  obtain ⟨u0, vc, rfl, hvc1, hvc2, hun1, hun2⟩ := hu.form
  have hbs : blk (.slice (some ⟨g, 0, none⟩) ps.length cap) = some g := blk_pos (by omega)
  have hsrcv := src_of_row (P := Tryz.prog) hu Tryz.underlying103 (cellsP_one qs)
  have hqc := cellsP_len qs
  have hpc := cellsP_len ps
  have hun : 0 < qs.length → ∃ gv curv, u0 = some ⟨gv, 0, none⟩ ∧ gv ≠ g ∧ Rw w gv vc qs.length curv (cellsP qs) := fun h => by
    rcases hu.rw with ⟨a, _, e⟩ | ⟨gv, vc', curv, e, _, Rv⟩
    · subst e; simp at h
    · injection e with e1 e2 e3
      subst e1; subst e3
      exact ⟨gv, curv, rfl, fun e => hap gv (blk_pos (by omega)) (by rw [e]; exact hbs), Rv⟩
  have htk : ((cellsP ps).take (i * 3)).length = i * 3 := by rw [List.length_take, hpc]; omega
  have hdl : ((cellsP ps).drop (j * 3)).length = (ps.length - j) * 3 := by rw [List.length_drop, hpc]; omega
  have e1 : cellsP (ps.take i ++ qs ++ ps.drop j) = (cellsP ps).take (i * 3) ++ cellsP qs ++ (cellsP ps).drop (j * 3) := by rw [cellsP_append, cellsP_append, cellsP_take, cellsP_drop]
  have hln : (ps.take i ++ qs ++ ps.drop j).length = i + qs.length + (ps.length - j) := by simp; omega
  have e4 : (i + qs.length) * 3 = i * 3 + qs.length * 3 := by omega
  have e3 : (i + qs.length + (ps.length - j)) * 3 = i * 3 + qs.length * 3 + (ps.length - j) * 3 := by omega
  by_cases hjn : j = ps.length
  · subst hjn
    have e0 : ps.take i ++ qs ++ ps.drop ps.length = ps.take i ++ qs := by simp
    have hln' : (ps.take i ++ qs).length = i + qs.length := by simp; omega
    rw [e0]
    by_cases hroom : i + qs.length ≤ cap
    · refine (rep_end_in g cap ps.length i u0 vc qs.length cur (cellsP ps) (cellsP qs) w R hsrcv hi hroom).mono ?_
      rintro e w' ⟨rfl, rfl⟩
      have hs1 : (spl cur (i * 3) (cellsP qs)).size = cap * 3 := by rw [spl_size _ _ _ (by rw [hqc, R.hs]; omega), R.hs]
      have ht1 : (spl cur (i * 3) (cellsP qs)).toList.take ((i + qs.length) * 3) = cellsP (ps.take i ++ qs) := by
        rw [e4, spl_end (xs := (cellsP ps).take (i * 3)) (by rw [← R.ht, List.take_take]; congr 1; omega) htk hqc, cellsP_append, cellsP_take]
      split
      · have hs2 : (spl (spl cur (i * 3) (cellsP qs)) ((i + qs.length) * 3) (zs zP (ps.length - (i + qs.length)))).size = cap * 3 := by rw [spl_size _ _ _ (by rw [zs_len, hs1]; omega), hs1]
        refine ⟨_, rfl, RowP.of hg (setRow_heap _ g _ _ _ _ (setRow_heap w g cur _ _ _ R.hh)) hln' hroom R.hm hs2 ?_, ?_, .inl ?_⟩
        · have hl : (spl cur (i * 3) (cellsP qs)).toList.length = cap * 3 := Array.length_toList.trans hs1
          rw [spl_toList, List.append_assoc, List.take_append_of_le_length (by rw [List.length_take, hl]; omega), List.take_take, Nat.min_self, ht1]
        · rw [hbs, setRow_setRow]; exact setRow_grown w g _
        · rw [hbs, blk_pos (by omega)]
      · refine ⟨_, rfl, RowP.of hg (setRow_heap w g cur _ _ _ R.hh) hln' hroom R.hm hs1 ht1, ?_, .inl ?_⟩
        · rw [hbs]; exact setRow_grown w g _
        · rw [hbs, blk_pos (by omega)]
    · refine (rep_end_out g cap ps.length i u0 vc qs.length cur (cellsP ps) (cellsP qs) w R hsrcv hi (by omega) hbig).mono ?_
      rintro e w' ⟨G, z, h1, h2, h3, rfl, rfl⟩
      refine ⟨_, rfl, RowP.of (cur := (((cellsP ps).take (i * 3) ++ cellsP qs) ++ z).toArray) hB (heap_alloc_new w.drew _) hln' h1 h2 (by rw [List.size_toArray, List.length_append, List.length_append, htk, hqc, h3]; omega) ?_, grown_new w _ _, .inr fun g hg => ?_⟩
      · rw [List.take_left' (by rw [List.length_append, htk, hqc]; omega), cellsP_append, cellsP_take]
      · rw [blk_pos (by omega)] at hg
        cases hg
        exact Nat.le_refl _
  · have hjl : j < ps.length := by omega
    by_cases hroom : i + qs.length + (ps.length - j) ≤ cap
    · by_cases hfit : i + qs.length ≤ j
      · refine (rep_fit g cap ps.length i j u0 vc qs.length cur (cellsP ps) (cellsP qs) w R hsrcv hun hi hjl hfit).mono ?_
        rintro e w' ⟨rfl, q, rfl⟩
        have hs1 : (spl cur (i * 3) (cellsP qs)).size = cap * 3 := by rw [spl_size _ _ _ (by rw [hqc, R.hs]; omega), R.hs]
        have hs2 : (spl (spl cur (i * 3) (cellsP qs)) ((i + qs.length) * 3) ((cellsP ps).drop (j * 3))).size = cap * 3 := by rw [spl_size _ _ _ (by rw [hdl, hs1]; omega), hs1]
        have hs3 : (spl (spl (spl cur (i * 3) (cellsP qs)) ((i + qs.length) * 3) ((cellsP ps).drop (j * 3))) ((i + qs.length + (ps.length - j)) * 3) (zs zP (ps.length - (i + qs.length + (ps.length - j))))).size = cap * 3 := by rw [spl_size _ _ _ (by rw [zs_len, hs2]; omega), hs2]
        refine ⟨_, rfl, RowP.of hg (setRow_heap _ g cur _ _ _ R.hh) hln hroom R.hm hs3 ?_, ?_, .inl ?_⟩
        · rw [e1, e3, e4]
          exact spl_fit R.ht (by omega) (by rw [R.hs]; omega) hqc hdl (by rw [zs_len, R.hs]; omega)
        · rw [hbs]; exact grown_drawn (setRow_grown _ g _)
        · rw [hbs, blk_pos (by omega)]
      · obtain ⟨gv, curv, rfl, hne, Rv⟩ := hun (by omega)
        refine (rep_shift g cap ps.length i j gv vc qs.length cur curv (cellsP ps) (cellsP qs) w R Rv hne hi hjl hroom (by omega)).mono ?_
        rintro e w' ⟨rfl, q, rfl⟩
        have hs1 : (spl cur ((i + qs.length) * 3) ((cellsP ps).drop (j * 3))).size = cap * 3 := by rw [spl_size _ _ _ (by rw [hdl, R.hs]; omega), R.hs]
        have hs2 : (spl (spl cur ((i + qs.length) * 3) ((cellsP ps).drop (j * 3))) (i * 3) (cellsP qs)).size = cap * 3 := by rw [spl_size _ _ _ (by rw [hqc, hs1]; omega), hs1]
        refine ⟨_, rfl, RowP.of hg (setRow_heap _ g cur _ _ _ R.hh) hln hroom R.hm hs2 ?_, ?_, .inl ?_⟩
        · rw [e1, e3, e4]
          exact spl_shift R.ht (by omega) (by rw [R.hs]; omega) hqc hdl
        · rw [hbs]; exact grown_drawn (setRow_grown _ g _)
        · rw [hbs, blk_pos (by omega)]
    · obtain ⟨gv, curv, rfl, hne, Rv⟩ := hun (by omega)
      refine (rep_grow g cap ps.length i j gv vc qs.length cur curv (cellsP ps) (cellsP qs) w R Rv hi hjl (by omega) hbig).mono ?_
      rintro e w' ⟨G, z, q, h1, h2, h3, rfl, w1, rfl, rfl⟩
      have hA : ((cellsP ps).take (i * 3) ++ z).toArray.size = G * 3 := by rw [List.size_toArray, List.length_append, htk, h3]; omega
      have hs1 : (spl ((cellsP ps).take (i * 3) ++ z).toArray (i * 3) (cellsP qs)).size = G * 3 := by rw [spl_size _ _ _ (by rw [hA, hqc]; omega), hA]
      have hs2 : (spl (spl ((cellsP ps).take (i * 3) ++ z).toArray (i * 3) (cellsP qs)) ((i + qs.length) * 3) ((cellsP ps).drop (j * 3))).size = G * 3 := by rw [spl_size _ _ _ (by rw [hs1, hdl]; omega), hs1]
      have hr1 : (((w.drewN q).alloc (.cells ((cellsP ps).take (i * 3) ++ z).toArray 107)).drew.setRow w.heap.size (spl ((cellsP ps).take (i * 3) ++ z).toArray (i * 3) (cellsP qs))).heap[w.heap.size]? = _ := setRow_heap _ w.heap.size _ _ _ _ (heap_alloc_new (w.drewN q) _)
      refine ⟨_, rfl, RowP.of hB (setRow_heap _ w.heap.size _ _ _ _ hr1) hln h1 h2 hs2 ?_, ?_, .inr fun g hg => ?_⟩
      · rw [e1, e3, e4, spl_fill (by rw [hA]; omega) hqc hdl]
        rw [List.take_left' htk]
      · refine ⟨rfl, rfl, rfl, by simp [setRow_size], fun k hk _ => ?_⟩
        rw [setRow_other _ _ _ _ (by omega)]
        show (World.setRow _ _ _).heap[k]? = _
        rw [setRow_other _ _ _ _ (by omega)]
        exact Below.heap_alloc (w.drewN q) _ k hk
      · rw [blk_pos (by omega)] at hg
        cases hg
        exact Nat.le_refl _
end Go.Proofs.YthgaadjkjnibaaaGreatDoor.VC
/-
  An append of pieces to pieces; slices.Clone.
-/
namespace Go.Proofs.YthgaadjkjnibaaaGreatDoor.VC
open Go.RowKit Go.PlainAid Go.Lib Go.PRow Go.Shelf
set_option linter.unusedVariables false

theorem append_ps (B Bv : Nat) (s u : Value) (ps qs : List (Pc Int)) (w : World) (hB : B ≤ w.heap.size) (hr : RowP w B s ps) (hu : RowP w Bv u qs) (hbig : (ps.length + qs.length) * 12 ≤ 140737488355328) :
    ∃ s' w', (∀ ty, (Builtin.append_ #[103, 103] ty #[s, u]).run Tryz.prog w = .ok s' w') ∧ Turned w w' B s s' (ps ++ qs) ∧ (∀ a, s = .slice a 0 0 → qs ≠ [] → w'.heap.size = w.heap.size + 1 ∧ blk s' = some w.heap.size) := by
  obtain ⟨i0, hi0, hz0, hzs, hzb⟩ := info_parts infoP
  obtain ⟨u0, vc, rfl, hvc1, hvc2, _⟩ := hu.form
  have hsrcv := src_of_row (P := Tryz.prog) hu Tryz.underlying103 (cellsP_one qs)
  have hsrcs := src_of_row (P := Tryz.prog) hr Tryz.underlying103 (cellsP_one ps)
  have hqc := cellsP_len qs
  have hpc := cellsP_len ps
  obtain ⟨a, cap, rfl, hc1, hc2, _⟩ := hr.form
  by_cases hq : qs = []
  · subst hq
    refine ⟨_, _, fun ty => run_append_none w 103 103 ty 107 i0 Tryz.underlying103 hi0 a ps.length cap _ (by rw [hzs]; exact hsrcv) hc1, ⟨by simpa using hr, grown_refl _ _, .inl rfl⟩, fun _ _ h => absurd rfl h⟩
  have hm : 0 < qs.length := List.length_pos_iff.2 hq
  by_cases hroom : ps.length + qs.length ≤ cap
  · rcases hr.rw with ⟨a', e, e'⟩ | ⟨g, cap', cur, e, hg, R⟩
    · subst e'
      simp only [List.length_nil] at e hroom
      injection e with e1 e2 e3
      omega
    · injection e with e1 e2 e3
      subst e1; subst e3
      have hfit : ps.length * 3 + (cellsP qs).length ≤ cur.size := by rw [hqc, R.hs]; omega
      refine ⟨_, _, fun ty => by
        have := run_append_inK w 103 103 ty 107 i0 Tryz.underlying103 hi0 g 0 ps.length cap cur _ (.slice u0 qs.length vc) qs.length (cellsP qs) (by rw [hzs]; exact hsrcv) hroom R.hh (by rw [hzs]; omega)
        rw [hzs, Nat.zero_add] at this
        exact this, ⟨RowP.of (cur := spl cur (ps.length * 3) (cellsP qs)) hg (setRow_heap w g cur _ _ _ R.hh) (by simp) hroom hc2 (by rw [spl_size _ _ _ hfit, R.hs]) ?_, ?_, .inl ?_⟩, fun a e _ => ?_⟩
      · rw [Nat.add_mul, spl_end R.ht hpc hqc, cellsP_append]
      · rw [blk_pos (by omega)]; exact setRow_grown w g _
      · rw [blk_pos (by omega), blk_pos (by omega)]
      · injection e with e1 e2 e3
        omega
  · have hG1 : ps.length + qs.length ≤ grownCap w (ps.length + qs.length) cap 107 := grownCap_ge w _ cap 107
    have hG2 := grownCap_le_maxLen w (ps.length + qs.length) cap 107 (by unfold maxLen; omega)
    refine ⟨_, _, fun ty => by
      have := run_append_grow_src w 103 103 ty 107 i0 zP Tryz.underlying103 hi0 hz0 a ps.length cap (cellsP ps) (by rw [hzs]; exact hsrcs.cellsD) (.slice u0 qs.length vc) qs.length (cellsP qs) (by rw [hzs]; exact hsrcv) (by omega) (by omega) (by rw [hzb]; exact growslice_fits (by omega) hbig)
      exact this, ⟨RowP.of (cur := (cellsP ps ++ cellsP qs).toArray ++ Builtin.zeroCells zP.cells (grownCap w (ps.length + qs.length) cap 107 - (ps.length + qs.length))) hB (heap_alloc_new w.drew _) (by simp) hG1 hG2 (by
        have := zs_len (grownCap w (ps.length + qs.length) cap 107 - (ps.length + qs.length))
        rw [zs, Array.length_toList] at this
        rw [Array.size_append, List.size_toArray, List.length_append, hpc, hqc, this]; omega) ?_, grown_new w _ _, .inr fun g hg => ?_⟩, fun a e _ => ⟨by simp, blk_pos (by omega)⟩⟩
    · rw [Array.toList_append, List.take_left' (by simp [hpc, hqc]; omega), cellsP_append]
    · rw [blk_pos (by omega)] at hg
      cases hg
      exact Nat.le_refl _

/-- an append in a walk, where there is such a run -/
theorem wpList_append_ex {w : World} {ops : Array Oper} {rest : List Oper} {o : Oper} {a : Act} {Q : Exit → Act → World → Prop} (hgd : o.guard = none) (s x : Operand) (t tn : TypeId)
    (ho : o.op = .call { callee := .builtin .append, args := #[s, x], argTypes := #[t, tn] }) (vs vx : Value) (hs : a.eval s = vs) (hx : a.eval x = vx) {Post : Value → World → Prop}
    (hr : ∃ v' w', (∀ ty, (Builtin.append_ #[t, tn] ty #[vs, vx]).run Tryz.prog w = .ok v' w') ∧ Post v' w') (h : ∀ v' w', Post v' w' → wpList Tryz.prog ops Q rest (a.put o.dst v') w') : wpList Tryz.prog ops Q (o :: rest) a w := by
  obtain ⟨v', w', h1, h2⟩ := hr
  exact Lib.wpList_append_run w hgd s x t tn ho vs vx hs hx v' w' (h1 _) (h v' w' h2)

theorem Turned.below {w w' : World} {B : Nat} {s s' : Value} {ps' : List (Pc Int)} (h : Turned w w' B s s' ps') {a : World} {C : Nat} (hb : Below C a w) (hC : C ≤ w.heap.size) (hs : ∀ g, blk s = some g → C ≤ g) : Below C a w' :=
  hb.trans ⟨h.2.1.os, h.2.1.tape, h.2.1.output, h.2.1.size, fun k hk => h.2.1.block k (by omega) (fun e => by have := hs k e.symm; omega)⟩
theorem Turned.from {w w' : World} {B : Nat} {s s' : Value} {ps' : List (Pc Int)} (h : Turned w w' B s s' ps') {C : Nat} (hC : C ≤ w.heap.size) (hs : ∀ g, blk s = some g → C ≤ g) : ∀ g, blk s' = some g → C ≤ g := fun g hg => by
  rcases h.2.2 with e | e
  · exact hs g (e.symm.trans hg)
  · exact Nat.le_trans hC (e g hg)

theorem eqNil_some (x : Addr) (n c : Nat) (w : World) : (binOp .eql 103 (.slice (some x) n c) (.slice none 0 0)).run Tryz.prog w = .ok (.bool false) w := by kernel_rfl
theorem eqNil_none (n c : Nat) (w : World) : (binOp .eql 103 (.slice none n c) (.slice none 0 0)).run Tryz.prog w = .ok (.bool true) w := by kernel_rfl

set_option maxRecDepth 100000 in
set_option maxHeartbeats 2000000 in
theorem clone_any (B : Nat) (v : Value) (ps : List (Pc Int)) (w : World) (hr : RowP w B v ps) (hbig : ps.length * 12 ≤ 140737488355328) :
    Calls Tryz.prog 69 #[v] w fun e w' => ∃ v', e = .returned v' ∧ RowP w' w.heap.size v' ps ∧ Below w.heap.size w w' ∧ (ps ≠ [] → w'.heap.size = w.heap.size + 2 ∧ blk v' = some (w.heap.size + 1)) := by
  obtain ⟨a, cap, rfl, hc1, hc2, hn, hg⟩ := hr.form
  cases a with
  | none =>
    have e := hn rfl
    subst e
    refine Calls.mono (R := fun e w' => e = .returned (.slice none 0 0) ∧ w' = w) ?_ ?_
    · clear hg hr
      have hqn := eqNil_none
      go_enter Tryz.func69, Tryz.ntmps69
      go_wp2
      all_goals go_ret
      all_goals exact ⟨rfl, rfl⟩
    · rintro e w' ⟨rfl, rfl⟩
      exact ⟨_, rfl, RowV.nil _ _ _ _ _, Below.refl _ _, fun h => absurd rfl h⟩
  | some a =>
    have hB1 : Below w.heap.size w (w.alloc (.cells #[] 107)) := (Below.refl _ w).alloc (Nat.le_refl _) _
    have HAP := hide (append_ps w.heap.size B (.slice (some ⟨w.heap.size, 0, none⟩) 0 0) (.slice (some a) ps.length cap) [] ps (w.alloc (.cells #[] 107)) (by simp) (RowV.nil _ _ _ _ _) (hr.below hB1) (by simpa using hbig))
    clear hg hn hr
    refine Calls.mono (R := fun e w' => Hid (∃ v', e = .returned v' ∧ Turned (w.alloc (.cells #[] 107)) w' w.heap.size (.slice (some ⟨w.heap.size, 0, none⟩) 0 0) v' ([] ++ ps) ∧ (ps ≠ [] → w'.heap.size = w.heap.size + 2 ∧ blk v' = some (w.heap.size + 1)))) ?_ ?_
    · have hqn := eqNil_some
      go_enter Tryz.func69, Tryz.ntmps69
      go_wp2_with (at_builtin; refine wpList_append_ex rfl _ _ _ _ rfl _ _ rfl rfl (unhide HAP) ?_; rintro v' w' ⟨ht, hx⟩)
      all_goals go_ret
      all_goals exact hide ⟨_, rfl, ht, fun h => by have := hx _ rfl h; simpa using this⟩
    · rintro e w' h
      obtain ⟨v', rfl, ht, hx⟩ := unhide h
      exact ⟨v', rfl, by simpa using ht.1, ht.below hB1 (by simp) (fun g hg => by rw [blk_zero] at hg; cases hg), hx⟩
end Go.Proofs.YthgaadjkjnibaaaGreatDoor.VC
/-
  From which piece up to which one a range is met: reach, meeting.
-/
namespace Go.Proofs.YthgaadjkjnibaaaGreatDoor.VC
open Go.RowKit Go.PlainAid Go.Lib Go.PRow Go.Shelf

theorem range_count (ps : List (Pc Int)) (f : Nat → Bool) (g : Pc Int → Bool) (h : ∀ i p, ps[i]? = some p → f i = g p) : (List.range ps.length).countP f = ps.countP g := by
  induction ps generalizing f with
  | nil => rfl
  | cons p ps ih =>
    rw [List.length_cons, List.range_succ_eq_map, List.countP_cons, List.countP_cons, h 0 p rfl, List.countP_map]
    rw [ih (f ∘ Nat.succ) (fun i q hq => h (i + 1) q (by simpa using hq))]

theorem okP_hi {ps : List (Pc Int)} (o : OkP ps) {i j : Nat} {p q : Pc Int} (hp : ps[i]? = some p) (hq : ps[j]? = some q) (h : i ≤ j) : p.hi ≤ q.hi ∧ p.lo ≤ q.lo := by
  rcases Nat.lt_or_ge i j with h | h
  · obtain ⟨h1, e1⟩ := List.getElem?_eq_some_iff.1 hp
    obtain ⟨h2, e2⟩ := List.getElem?_eq_some_iff.1 hq
    have := List.pairwise_iff_getElem.1 o.1 i j h1 h2 h
    rw [e1, e2] at this
    have a := o.2 p (by rw [← e1]; exact List.getElem_mem _)
    have b := o.2 q (by rw [← e2]; exact List.getElem_mem _)
    omega
  · have : i = j := by omega
    subst this
    rw [hp] at hq
    cases hq
    exact ⟨Int.le_refl _, Int.le_refl _⟩

set_option maxHeartbeats 2000000 in
theorem reach1 (bp br g n cap : Nat) (x : Int) (lo : Int) (i : Nat) (W : World) (hi1 : i < n)
    (ha : W.cell? ⟨bp, 0, none⟩ = some (.slice (some ⟨g, 0, none⟩) n cap)) (hx : W.cell? ⟨br, 0, none⟩ = some (.int .i32 lo)) (hc : W.cell? ⟨g, i * 3 + 1, none⟩ = some (.int .i32 x)) :
    Calls Tryz.prog 107 (#[.int .i64 i] ++ #[.pointer (some ⟨bp, 0, none⟩), .pointer (some ⟨br, 0, none⟩)]) W fun e w' => e = .returned (.bool (decide (lo ≤ x))) ∧ ∃ q, w' = W.drewN q := by
  have hiz : (i : Int) < (n : Int) := by omega
  go_enter Tryz.func107, Tryz.ntmps107
  go_wp2
  go_quiet (fail)
  all_goals go_wp2
  all_goals go_ret
  all_goals exact ⟨by first | rfl | simp, _, rfl⟩
set_option maxHeartbeats 2000000 in
theorem reach2 (bp br g n cap : Nat) (x : Int) (hi : Int) (i : Nat) (W : World) (hi1 : i < n)
    (ha : W.cell? ⟨bp, 0, none⟩ = some (.slice (some ⟨g, 0, none⟩) n cap)) (hx : W.cell? ⟨br, 1, none⟩ = some (.int .i32 hi)) (hc : W.cell? ⟨g, i * 3, none⟩ = some (.int .i32 x)) :
    Calls Tryz.prog 108 (#[.int .i64 i] ++ #[.pointer (some ⟨bp, 0, none⟩), .pointer (some ⟨br, 0, none⟩)]) W fun e w' => e = .returned (.bool (decide (hi < x))) ∧ ∃ q, w' = W.drewN q := by
  have hiz : (i : Int) < (n : Int) := by omega
  go_enter Tryz.func108, Tryz.ntmps108
  go_wp2
  go_quiet (fail)
  all_goals go_wp2
  all_goals go_ret
  all_goals exact ⟨by first | rfl | simp, _, rfl⟩

/-- sort.Search over pieces that rise: f: what is asked of a piece -/
theorem search_ps (f : Nat) (eg : ∀ args w, (callFunc f args).run Tryz.prog w = .ok (.enter f args) w) (ps : List (Pc Int)) (hl : ps.length < 4611686018427387904) (q : Pc Int → Bool) (hq : ∀ (i j : Nat) (p r : Pc Int), i ≤ j → ps[i]? = some p → ps[j]? = some r → q p = true → q r = true)
    (cb : Array Value) (W : World)
    (hf : ∀ (i : Nat) (p : Pc Int) (V : World), ps[i]? = some p → Below W.heap.size W V → Calls Tryz.prog f (#[.int .i64 i] ++ cb) V fun e w' => e = .returned (.bool (q p)) ∧ ∃ k, w' = V.drewN k) :
    Calls Tryz.prog 104 #[.int .i64 ps.length, .func (.func f) #[] cb] W fun e w' => e = .returned (.int .i64 (ps.countP (fun p => !q p) : Nat)) ∧ Below W.heap.size W w' := by
  have h := Any.sort_Search Tryz.laysSearch f cb ps.length (fun i => match ps[i]? with | some p => q p | none => true) W eg hl
    (fun m os i hi => by
      have e : ps[i]? = some ps[i] := List.getElem?_eq_getElem hi
      rw [e]
      exact (hf i ps[i] _ e (below_grown_sl _ W m os (Nat.le_refl _))).mono fun _ _ ⟨he, k, hk⟩ => ⟨he, k, #[], by rw [hk, Go.Sort.grow_empty]⟩)
    (fun a b hab hb hp => by
      have e1 : ps[a]? = some ps[a] := List.getElem?_eq_getElem (by omega)
      have e2 : ps[b]? = some ps[b] := List.getElem?_eq_getElem hb
      simp only [e1] at hp
      simp only [e2]
      exact hq a b _ _ hab e1 e2 hp)
  refine h.mono ?_
  rintro e w' ⟨rfl, k, os, rfl⟩
  refine ⟨?_, below_grown_sl _ W k os (Nat.le_refl _)⟩
  rw [range_count ps _ (fun p => !q p) (fun i p hp => by simp only [hp])]

theorem okP_len {ps : List (Pc Int)} (o : OkP ps) : ps.length ≤ 1114112 := by
  have key : ∀ (ps : List (Pc Int)) (a : Int), OkP ps → (∀ p ∈ ps, a ≤ p.lo) → a ≤ 1114112 → (ps.length : Int) ≤ 1114112 - a := by
    intro ps
    induction ps with
    | nil => intro a _ _ h; simp; omega
    | cons p ps ih =>
      intro a o h ha
      have k := o.head
      have := ih (p.hi + 1) o.tail (fun q hq => by have := o.next q hq; omega) (by omega)
      have := h p List.mem_cons_self
      simp only [List.length_cons]
      omega
  have := key ps 0 o (fun p hp => (o.2 p hp).1) (by omega)
  omega

set_option maxHeartbeats 2000000 in
theorem reach_any (B : Nat) (v : Value) (ps : List (Pc Int)) (o : OkP ps) (lo hi : Int) (w : World) (hr : RowP w B v ps) :
    Calls Tryz.prog 77 #[v, .agg #[.int .i32 lo, .int .i32 hi]] w fun e w' => e = .returned (.tuple #[.int .i64 (frI ps lo), .int .i64 (upI ps hi)]) ∧ Below w.heap.size w w' := by
  have hlen := okP_len o
  obtain ⟨W0, hW0⟩ : ∃ W0, W0 = (w.alloc (.cells #[v] 103)).alloc (.cells #[.int .i32 lo, .int .i32 hi] 32) := ⟨_, rfl⟩
  have hsz : W0.heap.size = w.heap.size + 1 + 1 := by rw [hW0]; simp
  have hB0 : Below w.heap.size w W0 := by rw [hW0]; exact ((Below.refl _ w).alloc (Nat.le_refl _) _).alloc (by simp) _
  obtain ⟨a, cap, rfl, hc1, hc2, hn, hg⟩ := hr.form
  have ca : W0.cell? ⟨w.heap.size, 0, none⟩ = some (.slice a ps.length cap) := by rw [hW0]; exact cell_alloc_sl _ (cell_new_sl w _ _)
  have cr : ∀ k, k < 2 → W0.cell? ⟨w.heap.size + 1, k, none⟩ = (#[.int .i32 lo, .int .i32 hi] : Array Value)[k]? := fun k hk => by
    rw [hW0, World.cell?_alloc_at _ _ _ _ (by simp)]
  have cr0 := cr 0 (by omega)
  have cr1 := cr 1 (by omega)
  have key : ∀ (V : World) (i : Nat) (p : Pc Int), Below W0.heap.size W0 V → ps[i]? = some p → ∃ g, a = some ⟨g, 0, none⟩ ∧ V.cell? ⟨g, i * 3, none⟩ = some (.int .i32 p.lo) ∧ V.cell? ⟨g, i * 3 + 1, none⟩ = some (.int .i32 p.hi) := by
    intro V i p hV hp
    obtain ⟨g, rfl, _, _, hgl, hcell⟩ := hg (by intro e; subst e; simp at hp)
    obtain ⟨c1, c2, _⟩ := hcell i p hp
    refine ⟨g, rfl, ?_, ?_⟩
    · rw [hV.cell (by show g < W0.heap.size; omega), hB0.cell (by show g < w.heap.size; omega)]; exact c1
    · rw [hV.cell (by show g < W0.heap.size; omega), hB0.cell (by show g < w.heap.size; omega)]; exact c2
  have S1 : ∀ V, Below W0.heap.size W0 V → Calls Tryz.prog 104 #[.int .i64 ps.length, .func (.func 107) #[] #[.pointer (some ⟨w.heap.size, 0, none⟩), .pointer (some ⟨w.heap.size + 1, 0, none⟩)]] V fun e w' => e = .returned (.int .i64 (frI ps lo)) ∧ Below V.heap.size V w' := by
    intro V hV
    refine (search_ps 107 (enters_of Tryz.func107 (by kernel_rfl) rfl) ps (by omega) (fun p => decide (lo ≤ p.hi)) (fun i j p r hij hp hr h => by have := okP_hi o hp hr hij; simp at h ⊢; omega) _ V ?_).mono ?_
    · intro i p U hp hU
      have hU' : Below W0.heap.size W0 U := hV.trans (hU.mono hV.size)
      obtain ⟨g, rfl, _, c2⟩ := key U i p hU' hp
      exact reach1 _ _ g ps.length cap p.hi lo i U (List.getElem?_eq_some_iff.1 hp).1 ((hU'.cell (by show w.heap.size < W0.heap.size; omega)).trans ca) ((hU'.cell (by show w.heap.size + 1 < W0.heap.size; omega)).trans cr0) c2
    · rintro e w' ⟨rfl, h⟩
      refine ⟨?_, h⟩
      have : (fun p : Pc Int => !decide (lo ≤ p.hi)) = fun p => decide (p.hi < lo) := by
        funext p
        by_cases h : lo ≤ p.hi
        · simp [h]
        · simp [h]; omega
      rw [this]
      rfl
  have S2 : ∀ V, Below W0.heap.size W0 V → Calls Tryz.prog 104 #[.int .i64 ps.length, .func (.func 108) #[] #[.pointer (some ⟨w.heap.size, 0, none⟩), .pointer (some ⟨w.heap.size + 1, 0, none⟩)]] V fun e w' => e = .returned (.int .i64 (upI ps hi)) ∧ Below V.heap.size V w' := by
    intro V hV
    refine (search_ps 108 (enters_of Tryz.func108 (by kernel_rfl) rfl) ps (by omega) (fun p => decide (hi < p.lo)) (fun i j p r hij hp hr h => by have := okP_hi o hp hr hij; simp at h ⊢; omega) _ V ?_).mono ?_
    · intro i p U hp hU
      have hU' : Below W0.heap.size W0 U := hV.trans (hU.mono hV.size)
      obtain ⟨g, rfl, c2, _⟩ := key U i p hU' hp
      exact reach2 _ _ g ps.length cap p.lo hi i U (List.getElem?_eq_some_iff.1 hp).1 ((hU'.cell (by show w.heap.size < W0.heap.size; omega)).trans ca) ((hU'.cell (by show w.heap.size + 1 < W0.heap.size; omega)).trans cr1) c2
    · rintro e w' ⟨rfl, h⟩
      refine ⟨?_, h⟩
      have : (fun p : Pc Int => !decide (hi < p.lo)) = fun p => decide (p.lo ≤ hi) := by
        funext p
        by_cases h : hi < p.lo
        · simp [h]
        · simp [h]; omega
      rw [this]
      rfl
  have H1 := hide S1
  have H2 := hide S2
  have CA := hide (fun V (hV : Below W0.heap.size W0 V) => (hV.cell (p := ⟨w.heap.size, 0, none⟩) (by show w.heap.size < W0.heap.size; omega)).trans ca)
  clear S1 S2 key cr cr1 cr0 ca hg hn hr
  generalize frI ps lo = F at *
  generalize upI ps hi = U at *
  go_enter Tryz.func77, Tryz.ntmps77
  have hmf : ∀ (fn : Fn) (first cap : Array Value) (w : World), (Instr.makeFunc fn first cap).run Tryz.prog w = .ok (.func fn first cap) w := fun _ _ _ _ => rfl
  go_wp2_with fail
  rw [← hW0]
  refine (unhide H1 _ (Below.refl _ _)).mono ?_
  rintro e w1 ⟨rfl, hb1⟩
  have c1 := unhide CA _ hb1
  go_wp2_with fail
  refine (unhide H2 _ hb1).mono ?_
  rintro e w2 ⟨rfl, hb2⟩
  go_wp2
  go_ret2
  exact ⟨rfl, hB0.trans ((hb1.trans (hb2.mono hb1.size)).mono (by omega))⟩

/-- the slice of the pieces that meet a range -/
def midV (v : Value) (f u : Nat) : Value := match v with
  | .slice a _ cap => if cap = f then .slice a (u - f) 0 else .slice (a.map fun x => x.add (f * 3)) (u - f) (cap - f)
  | x => x

set_option maxHeartbeats 2000000 in
theorem meeting_any (B : Nat) (v : Value) (ps : List (Pc Int)) (o : OkP ps) (lo hi : Int) (hlh : lo ≤ hi) (w : World) (hr : RowP w B v ps) :
    Calls Tryz.prog 48 #[v, .agg #[.int .i32 lo, .int .i32 hi]] w fun e w' => e = .returned (midV v (frI ps lo) (upI ps hi)) ∧ Below w.heap.size w w' := by
  have hB1 : Below w.heap.size w (w.alloc (.cells #[.int .i32 lo, .int .i32 hi] 32)) := (Below.refl _ w).alloc (Nat.le_refl _) _
  have H := hide (reach_any B v ps o lo hi _ (hr.below hB1))
  have h1 : frI ps lo ≤ upI ps hi := by
    obtain ⟨A, M, C, c⟩ := cut3 o hlh
    rw [c.fr, c.up]; omega
  have h2 := upI_le ps hi
  have hlen := okP_len o
  obtain ⟨a, cap, rfl, hc1, hc2, hn, hg⟩ := hr.form
  clear hg hr hn
  generalize frI ps lo = F at *
  generalize upI ps hi = U at *
  generalize ps.length = n at *
  have q1 : (F : Int) ≤ (U : Int) := by omega
  have q2 : (U : Int) ≤ (cap : Int) := by omega
  go_enter Tryz.func48, Tryz.ntmps48
  go_wp2_with (go_at_call 77; refine (unhide H).mono ?_; rintro e w' ⟨rfl, hb⟩)
  all_goals go_ret
  all_goals exact ⟨by simp [midV, *], hB1.trans (hb.mono (by simp))⟩
end Go.Proofs.YthgaadjkjnibaaaGreatDoor.VC
/-
  replaced: the pieces with what is new in a range.
-/
namespace Go.Proofs.YthgaadjkjnibaaaGreatDoor.VC
open Go.RowKit Go.PlainAid Go.Lib Go.PRow Go.Shelf
set_option linter.unusedVariables false

theorem one_row (W : World) (k : Nat) (hk : k = W.heap.size) (a b : Int) (v : Int) (B : Nat) (hB : B ≤ W.heap.size) : RowP (W.alloc (.cells #[.int .i32 a, .int .i32 b, Value.int .u8 v] 107)) B (.slice (some ⟨k, 0, none⟩) 1 1) [⟨a, b, v⟩] := by
  subst hk
  exact RowP.of hB (heap_alloc_new W _) rfl (Nat.le_refl _) (by unfold maxLen; omega) rfl rfl

/-- behind W1: what lay there lies, and s has the pieces rs in memory of its own -/
def St (W1 W : World) (s : Value) (rs : List (Pc Int)) : Prop := Below W1.heap.size W1 W ∧ RowP W W1.heap.size s rs
theorem St.alloc {W1 W : World} {s : Value} {rs : List (Pc Int)} (h : St W1 W s rs) (o : Obj) : St W1 (W.alloc o) s rs :=
  ⟨h.1.alloc h.1.size o, h.2.below ((Below.refl _ W).alloc (Nat.le_refl _) o)⟩
theorem St.drewN {W1 W : World} {s : Value} {rs : List (Pc Int)} (h : St W1 W s rs) (q : Nat) : St W1 (W.drewN q) s rs :=
  ⟨⟨h.1.os, h.1.tape, h.1.output, h.1.size, h.1.block⟩, h.2.below ⟨rfl, rfl, rfl, Nat.le_refl _, fun _ _ => rfl⟩⟩
theorem St.app {W1 W : World} {s u : Value} {rs qs : List (Pc Int)} {Bv : Nat} (h : St W1 W s rs) (hu : RowP W Bv u qs) (hbig : (rs.length + qs.length) * 12 ≤ 140737488355328) :
    ∃ s' w', (∀ ty, (Builtin.append_ #[103, 103] ty #[s, u]).run Tryz.prog W = .ok s' w') ∧ St W1 w' s' (rs ++ qs) := by
  obtain ⟨s', w', h1, h2, _⟩ := append_ps W1.heap.size Bv s u rs qs W h.1.size h.2 hu hbig
  exact ⟨s', w', h1, h2.below h.1 h.1.size (fun g hg => (RowV.lt h.2 g hg).1), h2.1⟩
theorem St.one {W1 W : World} {s : Value} {rs : List (Pc Int)} (h : St W1 W s rs) (k : Nat) (hk : k = W.heap.size) (a b : Int) (v : Int) (hbig : rs.length ≤ 100) :
    ∃ s' w', (∀ ty, (Builtin.append_ #[103, 103] ty #[s, .slice (some ⟨k, 0, none⟩) 1 1]).run Tryz.prog (W.alloc (.cells #[.int .i32 a, .int .i32 b, Value.int .u8 v] 107)) = .ok s' w') ∧ St W1 w' s' (rs ++ [⟨a, b, v⟩]) :=
  (h.alloc _).app (one_row W k hk a b v 0 (Nat.zero_le _)) (by simp; omega)

theorem Turned.after {w W w' : World} {B : Nat} {s s' : Value} {ps' : List (Pc Int)} (h : Turned W w' B s s' ps') (hb : Below w.heap.size w W) : Turned w w' B s s' ps' :=
  ⟨h.1, ⟨h.2.1.os.trans hb.os, h.2.1.tape.trans hb.tape, h.2.1.output.trans hb.output, Nat.le_trans hb.size h.2.1.size, fun k hk hne => (h.2.1.block k (Nat.lt_of_lt_of_le hk hb.size) hne).trans (hb.block k hk)⟩,
    h.2.2.imp id fun h g hg => Nat.le_trans hb.size (h g hg)⟩

set_option maxHeartbeats 4000000 in
set_option maxRecDepth 100000 in
theorem rep_no (B : Nat) (v : Value) (ps : List (Pc Int)) (o : OkP ps) (lo hi : Int) (hm : 0 ≤ lo ∧ lo ≤ hi ∧ hi ≤ 1114111) (Bw : Nat) (u : Value) (ws : List (Pc Int)) (hf : ws.length ≤ 1) (w : World) (hB : B ≤ w.heap.size) (hr : RowP w B v ps) (hu : RowP w Bw u ws) (hFU : frI ps lo = upI ps hi) :
    Calls Tryz.prog 60 #[v, .agg #[.int .i32 lo, .int .i32 hi], u] w fun e w' => ∃ s', e = .returned s' ∧ Turned w w' B v s' (ps.take (frI ps lo) ++ (ws) ++ ps.drop (upI ps hi)) := by
  have hB1 : Below w.heap.size w (w.alloc (.cells #[.int .i32 lo, .int .i32 hi] 32)) := (Below.refl _ w).alloc (Nat.le_refl _) _
  have H := hide (reach_any B v ps o lo hi _ (hr.below hB1))
  have hlen := okP_len o
  have hw1 : IntKind.i32.wrap (lo - 1) = lo - 1 := by rw [IntKind.wrap_i32]; omega
  have hw2 : IntKind.i32.wrap (hi + 1) = hi + 1 := by rw [IntKind.wrap_i32]; omega
  have hU := upI_le ps hi
  have HU := hide (fun V (hV : Below w.heap.size w V) => hu.below hV)
  have HR := hide (fun V s rs (hV : Below (w.alloc (.cells #[.int .i32 lo, .int .i32 hi] 32)).heap.size (w.alloc (.cells #[.int .i32 lo, .int .i32 hi] 32)) V) (h : RowP V (w.alloc (.cells #[.int .i32 lo, .int .i32 hi] 32)).heap.size s rs) (hl : rs.length ≤ 3) => (replace_any B (w.alloc (.cells #[.int .i32 lo, .int .i32 hi] 32)).heap.size v s ps rs (frI ps lo) (upI ps hi) V (Nat.le_trans hB (hB1.trans (hV.mono (by simp))).size) (hr.below (hB1.trans (hV.mono (by simp)))) h (fun g h1 h2 => by
      have e1 := (RowV.lt h g h1).1
      have e2 := (RowV.lt hr g h2).2
      simp at e1
      omega) (by omega) hU (by omega)).mono fun e w' h => (show ∃ s', e = .returned s' ∧ Turned w w' B v s' (ps.take (frI ps lo) ++ rs ++ ps.drop (upI ps hi)) from by
        obtain ⟨s', h1, h2⟩ := h
        exact ⟨s', h1, h2.after (hB1.trans (hV.mono (by simp)))⟩))
  have HAPP := hide (fun V s rs (h : St (w.alloc (.cells #[.int .i32 lo, .int .i32 hi] 32)) V s rs) (hl : rs.length ≤ 2) => h.app (hu.below (hB1.trans (h.1.mono (by simp)))) (by omega))
  obtain ⟨a, cap, rfl, hc1, hc2, hn, hg⟩ := hr.form
  clear hn hg hr
  clear hu
  generalize frI ps lo = F at *
  generalize upI ps hi = U at *
  subst hFU
  generalize ps.take F = PA at *
  generalize ps.drop F = PB at *
  generalize ps.length = n at *
  have hpost : ∀ e w', (∃ s', e = Ending.returned s' ∧ Turned w w' B (.slice a n cap) s' (PA ++ (ws) ++ PB)) → Hid (∃ s', e = Ending.returned s' ∧ Turned w w' B (.slice a n cap) s' (PA ++ (ws) ++ PB)) := fun _ _ h => h
  refine Calls.mono (R := fun e w' => Hid (∃ s', e = .returned s' ∧ Turned w w' B (.slice a n cap) s' (PA ++ (ws) ++ PB))) ?_ (fun e w' h => unhide h)
  have HP := hide hpost
  clear hpost
  go_enter Tryz.func60, Tryz.ntmps60
  go_wp2_with (go_at_call 77; refine (unhide H).mono ?_; rintro e w2 ⟨rfl, hb⟩)
  go_quiet (fail)
  have hb3 : Below (w.alloc (.cells #[.int .i32 lo, .int .i32 hi] 32)).heap.size (w.alloc (.cells #[.int .i32 lo, .int .i32 hi] 32)) (w2.drewN nq) := ⟨hb.os, hb.tape, hb.output, hb.size, hb.block⟩
  generalize w2.drewN nq = w3 at hb3 ⊢
  clear hb
  have s3 : St (w.alloc (.cells #[.int .i32 lo, .int .i32 hi] 32)) w3 (.slice none 0 0) [] := ⟨hb3, RowV.nil _ _ _ _ _⟩
  have S3 := hide s3
  clear s3
  clear hb3
  go_wp2_with (at_builtin; refine wpList_append_ex rfl _ _ _ _ rfl _ _ rfl rfl (unhide HAPP w3 _ _ (unhide S3) (by simp)) ?_; rintro v5 w5 s5)
  have S5 := hide s5
  clear s5
  go_quiet (fail)
  have s6 := (unhide S5).drewN nq
  generalize w5.drewN nq = w6 at s6 ⊢
  have S6 := hide s6
  clear s6
  go_wp2_with (go_at_call 89; refine (unhide HR w6 v5 _ (unhide S6).1 (unhide S6).2 (by simp; omega)).mono ?_; rintro e w8 ⟨s8, rfl, h8⟩)
  go_ret
  exact unhide HP _ _ ⟨_, rfl, by simpa [List.append_assoc] using h8⟩

end Go.Proofs.YthgaadjkjnibaaaGreatDoor.VC
