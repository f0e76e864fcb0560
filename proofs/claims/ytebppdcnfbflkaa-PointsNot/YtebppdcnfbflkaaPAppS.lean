/-
  An append of pieces to pieces; slices.Clone.
-/
import Derived.Test.YtebppdcnfbflkaaPInsAllS
namespace Go.Proofs.Ytebppdcnfbflkaa.VS
open Go.RowKit Go.PlainAid Go.Lib Go.PRow Go.Shelf
set_option linter.unusedVariables false

theorem append_ps (B Bv : Nat) (s u : Value) (ps qs : List (Pc ByteArray)) (w : World) (hB : B ≤ w.heap.size) (hr : RowP w B s ps) (hu : RowP w Bv u qs) (hbig : (ps.length + qs.length) * 24 ≤ 140737488355328) :
    ∃ s' w', (∀ ty, (Builtin.append_ #[121, 121] ty #[s, u]).run Try.prog w = .ok s' w') ∧ Turned w w' B s s' (ps ++ qs) ∧ (∀ a, s = .slice a 0 0 → qs ≠ [] → w'.heap.size = w.heap.size + 1 ∧ blk s' = some w.heap.size) := by
  obtain ⟨i0, hi0, hz0, hzs, hzb⟩ := info_parts infoP
  obtain ⟨u0, vc, rfl, hvc1, hvc2, _⟩ := hu.form
  have hsrcv := src_of_row (P := Try.prog) hu Try.underlying121 (cellsP_one qs)
  have hsrcs := src_of_row (P := Try.prog) hr Try.underlying121 (cellsP_one ps)
  have hqc := cellsP_len qs
  have hpc := cellsP_len ps
  obtain ⟨a, cap, rfl, hc1, hc2, _⟩ := hr.form
  by_cases hq : qs = []
  · subst hq
    refine ⟨_, _, fun ty => run_append_none w 121 121 ty 127 i0 Try.underlying121 hi0 a ps.length cap _ (by rw [hzs]; exact hsrcv) hc1, ⟨by simpa using hr, grown_refl _ _, .inl rfl⟩, fun _ _ h => absurd rfl h⟩
  have hm : 0 < qs.length := List.length_pos_iff.2 hq
  by_cases hroom : ps.length + qs.length ≤ cap
  · rcases hr.rw with ⟨a', e, e'⟩ | ⟨g, cap', cur, e, hg, R⟩
    · subst e'
      simp only [List.length_nil] at e hroom
      injection e with e1 e2 e3
      omega
    · injection e with e1 e2 e3
      subst e1; subst e3
      have hfit : ps.length * 3 + (cellsP qs).length ≤ cur.size := by rw [hqc, R.hs]; omega
      refine ⟨_, _, fun ty => by
        have := run_append_inK w 121 121 ty 127 i0 Try.underlying121 hi0 g 0 ps.length cap cur _ (.slice u0 qs.length vc) qs.length (cellsP qs) (by rw [hzs]; exact hsrcv) hroom R.hh (by rw [hzs]; omega)
        rw [hzs, Nat.zero_add] at this
        exact this, ⟨RowP.of (cur := spl cur (ps.length * 3) (cellsP qs)) hg (setRow_heap w g cur _ _ _ R.hh) (by simp) hroom hc2 (by rw [spl_size _ _ _ hfit, R.hs]) ?_, ?_, .inl ?_⟩, fun a e _ => ?_⟩
      · rw [Nat.add_mul, spl_end R.ht hpc hqc, cellsP_append]
      · rw [blk_pos (by omega)]; exact setRow_grown w g _
      · rw [blk_pos (by omega), blk_pos (by omega)]
      · injection e with e1 e2 e3
        omega
  · have hG1 : ps.length + qs.length ≤ grownCap w (ps.length + qs.length) cap 127 := grownCap_ge w _ cap 127
    have hG2 := grownCap_le_maxLen w (ps.length + qs.length) cap 127 (by unfold maxLen; omega)
    refine ⟨_, _, fun ty => by
      have := run_append_grow_src w 121 121 ty 127 i0 zP Try.underlying121 hi0 hz0 a ps.length cap (cellsP ps) (by rw [hzs]; exact hsrcs.cellsD) (.slice u0 qs.length vc) qs.length (cellsP qs) (by rw [hzs]; exact hsrcv) (by omega) (by omega) (by rw [hzb]; exact growslice_fits (by omega) hbig)
      exact this, ⟨RowP.of (cur := (cellsP ps ++ cellsP qs).toArray ++ Builtin.zeroCells zP.cells (grownCap w (ps.length + qs.length) cap 127 - (ps.length + qs.length))) hB (heap_alloc_new w.drew _) (by simp) hG1 hG2 (by
        have := zs_len (grownCap w (ps.length + qs.length) cap 127 - (ps.length + qs.length))
        rw [zs, Array.length_toList] at this
        rw [Array.size_append, List.size_toArray, List.length_append, hpc, hqc, this]; omega) ?_, grown_new w _ _, .inr fun g hg => ?_⟩, fun a e _ => ⟨by simp, blk_pos (by omega)⟩⟩
    · rw [Array.toList_append, List.take_left' (by simp [hpc, hqc]; omega), cellsP_append]
    · rw [blk_pos (by omega)] at hg
      cases hg
      exact Nat.le_refl _

/-- an append in a walk, where there is such a run -/
theorem wpList_append_ex {w : World} {ops : Array Oper} {rest : List Oper} {o : Oper} {a : Act} {Q : Exit → Act → World → Prop} (hgd : o.guard = none) (s x : Operand) (t tn : TypeId)
    (ho : o.op = .call { callee := .builtin .append, args := #[s, x], argTypes := #[t, tn] }) (vs vx : Value) (hs : a.eval s = vs) (hx : a.eval x = vx) {Post : Value → World → Prop}
    (hr : ∃ v' w', (∀ ty, (Builtin.append_ #[t, tn] ty #[vs, vx]).run Try.prog w = .ok v' w') ∧ Post v' w') (h : ∀ v' w', Post v' w' → wpList Try.prog ops Q rest (a.put o.dst v') w') : wpList Try.prog ops Q (o :: rest) a w := by
  obtain ⟨v', w', h1, h2⟩ := hr
  exact Lib.wpList_append_run w hgd s x t tn ho vs vx hs hx v' w' (h1 _) (h v' w' h2)

theorem Turned.below {w w' : World} {B : Nat} {s s' : Value} {ps' : List (Pc ByteArray)} (h : Turned w w' B s s' ps') {a : World} {C : Nat} (hb : Below C a w) (hC : C ≤ w.heap.size) (hs : ∀ g, blk s = some g → C ≤ g) : Below C a w' :=
  hb.trans ⟨h.2.1.os, h.2.1.tape, h.2.1.output, h.2.1.size, fun k hk => h.2.1.block k (by omega) (fun e => by have := hs k e.symm; omega)⟩
theorem Turned.from {w w' : World} {B : Nat} {s s' : Value} {ps' : List (Pc ByteArray)} (h : Turned w w' B s s' ps') {C : Nat} (hC : C ≤ w.heap.size) (hs : ∀ g, blk s = some g → C ≤ g) : ∀ g, blk s' = some g → C ≤ g := fun g hg => by
  rcases h.2.2 with e | e
  · exact hs g (e.symm.trans hg)
  · exact Nat.le_trans hC (e g hg)

theorem eqNil_some (x : Addr) (n c : Nat) (w : World) : (binOp .eql 121 (.slice (some x) n c) (.slice none 0 0)).run Try.prog w = .ok (.bool false) w := by kernel_rfl
theorem eqNil_none (n c : Nat) (w : World) : (binOp .eql 121 (.slice none n c) (.slice none 0 0)).run Try.prog w = .ok (.bool true) w := by kernel_rfl

set_option maxRecDepth 100000 in
set_option maxHeartbeats 2000000 in
theorem clone_any (B : Nat) (v : Value) (ps : List (Pc ByteArray)) (w : World) (hr : RowP w B v ps) (hbig : ps.length * 24 ≤ 140737488355328) :
    Calls Try.prog 75 #[v] w fun e w' => ∃ v', e = .returned v' ∧ RowP w' w.heap.size v' ps ∧ Below w.heap.size w w' ∧ (ps ≠ [] → w'.heap.size = w.heap.size + 2 ∧ blk v' = some (w.heap.size + 1)) := by
  obtain ⟨a, cap, rfl, hc1, hc2, hn, hg⟩ := hr.form
  cases a with
  | none =>
    have e := hn rfl
    subst e
    refine Calls.mono (R := fun e w' => e = .returned (.slice none 0 0) ∧ w' = w) ?_ ?_
    · clear hg hr
      have hqn := eqNil_none
      go_enter Try.func75, Try.ntmps75
      go_wp2
      all_goals go_ret
      all_goals exact ⟨rfl, rfl⟩
    · rintro e w' ⟨rfl, rfl⟩
      exact ⟨_, rfl, RowV.nil _ _ _ _ _, Below.refl _ _, fun h => absurd rfl h⟩
  | some a =>
    have hB1 : Below w.heap.size w (w.alloc (.cells #[] 127)) := (Below.refl _ w).alloc (Nat.le_refl _) _
    have HAP := hide (append_ps w.heap.size B (.slice (some ⟨w.heap.size, 0, none⟩) 0 0) (.slice (some a) ps.length cap) [] ps (w.alloc (.cells #[] 127)) (by simp) (RowV.nil _ _ _ _ _) (hr.below hB1) (by simpa using hbig))
    clear hg hn hr
    refine Calls.mono (R := fun e w' => Hid (∃ v', e = .returned v' ∧ Turned (w.alloc (.cells #[] 127)) w' w.heap.size (.slice (some ⟨w.heap.size, 0, none⟩) 0 0) v' ([] ++ ps) ∧ (ps ≠ [] → w'.heap.size = w.heap.size + 2 ∧ blk v' = some (w.heap.size + 1)))) ?_ ?_
    · have hqn := eqNil_some
      go_enter Try.func75, Try.ntmps75
      go_wp2_with (at_builtin; refine wpList_append_ex rfl _ _ _ _ rfl _ _ rfl rfl (unhide HAP) ?_; rintro v' w' ⟨ht, hx⟩)
      all_goals go_ret
      all_goals exact hide ⟨_, rfl, ht, fun h => by have := hx _ rfl h; simpa using this⟩
    · rintro e w' h
      obtain ⟨v', rfl, ht, hx⟩ := unhide h
      exact ⟨v', rfl, by simpa using ht.1, ht.below hB1 (by simp) (fun g hg => by rw [blk_zero] at hg; cases hg), hx⟩
end Go.Proofs.Ytebppdcnfbflkaa.VS
