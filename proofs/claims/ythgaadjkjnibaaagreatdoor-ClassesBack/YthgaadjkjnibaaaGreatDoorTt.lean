/-
  These texts, one behind the other: PHeadT, PSmallT, PInsT, PInsAllT, PAppT.
-/
import Derived.Test.YthgaadjkjnibaaaGreatDoorPr
import Derived.Test.YthgaadjkjnibaaaGreatDoorPm
import Derived.Test.YthgaadjkjnibaaaGreatDoorChecked
import Derived.WalkKit
import Derived.WalkSpells
import Derived.WalkLawsBesides
import Derived.Handy
import Derived.PlainAid
import Derived.Deep.QuietTactic
import Derived.Test.YthgaadjkjnibaaaGreatDoorHx
import Derived.Test.YthgaadjkjnibaaaGreatDoorPs
import Derived.Shelf.Spec.SlicesInsert
/-
  Pieces with values of the type furrowref07.Stretch: how they lie in memory.
-/
namespace Go.Proofs.YthgaadjkjnibaaaGreatDoor.VT
open Go.RowKit Go.PlainAid Go.Lib Go.PRow

theorem infoP : (Tryz.prog.info? 76).map (fun i => (i.zero, i.size, i.bytes)) = some (some (.agg #[.int .i32 0, .int .i32 0, Value.int .u8 0]), 3, 12) := by kernel_rfl
theorem sizeP3 : (Tryz.prog.info? 76).map (·.size) = some 3 := by kernel_rfl

/-- the cells of pieces -/
def cellsP (ps : List (Pc Int)) : List Value := ps.flatMap fun p => [.int .i32 p.lo, .int .i32 p.hi, Value.int .u8 p.val]
theorem cellsP_len (ps : List (Pc Int)) : (cellsP ps).length = ps.length * 3 := by
  induction ps with
  | nil => rfl
  | cons p ps ih => simp only [cellsP, List.flatMap_cons, List.length_append, List.length_cons, List.length_nil] at ih ⊢; omega
theorem cellsP_append (a b : List (Pc Int)) : cellsP (a ++ b) = cellsP a ++ cellsP b := by simp [cellsP]
theorem cellsP_one (ps : List (Pc Int)) : ∀ v ∈ cellsP ps, v.oneCell' = true := by
  intro v hv
  simp only [cellsP, List.mem_flatMap] at hv
  obtain ⟨p, _, hv⟩ := hv
  simp at hv
  rcases hv with rfl | rfl | rfl <;> rfl
theorem cellsP_take (ps : List (Pc Int)) : ∀ k, (cellsP ps).take (k * 3) = cellsP (ps.take k) := by
  induction ps with
  | nil => intro k; simp [cellsP]
  | cons p ps ih =>
    intro k
    cases k with
    | zero => simp [cellsP]
    | succ k =>
      have := ih k
      simp only [cellsP, List.flatMap_cons, List.take_succ_cons] at this ⊢
      rw [show (k + 1) * 3 = k * 3 + 1 + 1 + 1 by omega]
      simp only [List.cons_append, List.nil_append, List.take_succ_cons, this]
theorem cellsP_drop (ps : List (Pc Int)) : ∀ k, (cellsP ps).drop (k * 3) = cellsP (ps.drop k) := by
  induction ps with
  | nil => intro k; simp [cellsP]
  | cons p ps ih =>
    intro k
    cases k with
    | zero => simp [cellsP]
    | succ k =>
      have := ih k
      simp only [cellsP, List.flatMap_cons, List.drop_succ_cons] at this ⊢
      rw [show (k + 1) * 3 = k * 3 + 1 + 1 + 1 by omega]
      simp only [List.cons_append, List.nil_append, List.drop_succ_cons, this]
theorem cellsP_at (ps : List (Pc Int)) : ∀ (i : Nat) (p : Pc Int), ps[i]? = some p → (cellsP ps)[i * 3]? = some (.int .i32 p.lo) ∧ (cellsP ps)[i * 3 + 1]? = some (.int .i32 p.hi) ∧ (cellsP ps)[i * 3 + 2]? = some (Value.int .u8 p.val) := by
  induction ps with
  | nil => intro i p h; simp at h
  | cons q ps ih =>
    intro i p h
    cases i with
    | zero =>
      simp at h; subst h
      simp [cellsP]
    | succ i =>
      have := ih i p (by simpa using h)
      simp only [cellsP, List.flatMap_cons] at this ⊢
      rw [show (i + 1) * 3 = i * 3 + 1 + 1 + 1 by omega]
      simpa using this

/-- a slice of pieces -/
def RowP (W : World) (B : Nat) (v : Value) (ps : List (Pc Int)) : Prop := RowV W B 76 3 v ps.length (cellsP ps)

/-- what one reads of it -/
theorem RowP.form {W : World} {B : Nat} {v : Value} {ps : List (Pc Int)} (h : RowP W B v ps) : ∃ a cap, v = .slice a ps.length cap ∧ ps.length ≤ cap ∧ cap ≤ maxLen ∧ (a = none → ps = []) ∧
    (ps ≠ [] → ∃ g, a = some ⟨g, 0, none⟩ ∧ blk v = some g ∧ B ≤ g ∧ g < W.heap.size ∧ ∀ i p, ps[i]? = some p → W.cell? ⟨g, i * 3, none⟩ = some (.int .i32 p.lo) ∧ W.cell? ⟨g, i * 3 + 1, none⟩ = some (.int .i32 p.hi) ∧ W.cell? ⟨g, i * 3 + 2, none⟩ = some (Value.int .u8 p.val)) := by
  rcases h.2 with ⟨a, rfl, hn⟩ | ⟨g, cap, cur, rfl, hb, hh, hc, hm, hs, ht⟩
  · have e : ps = [] := List.length_eq_zero_iff.1 hn
    subst e
    exact ⟨a, 0, rfl, Nat.le_refl _, Nat.zero_le _, fun _ => rfl, fun h => absurd rfl h⟩
  · refine ⟨_, cap, rfl, hc, hm, fun h => (by cases h), fun hne => ⟨g, rfl, ?_, hb, (Array.getElem?_eq_some_iff.1 hh).1, fun i p hp => ?_⟩⟩
    · cases cap with
      | zero => exact absurd (List.length_eq_zero_iff.1 (by omega)) hne
      | succ c => rfl
    · obtain ⟨c1, c2, c3⟩ := cellsP_at ps i p hp
      have hm2 : ps.length * 3 ≤ cur.size := by rw [hs]; exact Nat.mul_le_mul_right _ hc
      exact ⟨row_cell hh ht hm2 _ _ c1, row_cell hh ht hm2 _ _ c2, row_cell hh ht hm2 _ _ c3⟩

theorem RowP.below {W W' : World} {B : Nat} {v : Value} {ps : List (Pc Int)} (h : RowP W B v ps) (hb : Below W.heap.size W W') : RowP W' B v ps := RowV.below h hb
theorem RowP.kept {W W' : World} {B : Nat} {v : Value} {ps : List (Pc Int)} (h : RowP W B v ps) (hb : ∀ g, blk v = some g → W'.heap[g]? = W.heap[g]?) : RowP W' B v ps := RowV.kept h hb

end Go.Proofs.YthgaadjkjnibaaaGreatDoor.VT
/-
  The small functions of a map with values of the type furrowref07.Stretch.
-/
namespace Go.Proofs.YthgaadjkjnibaaaGreatDoor.VT
open Go.RowKit Go.PlainAid Go.Lib Go.PRow

end Go.Proofs.YthgaadjkjnibaaaGreatDoor.VT
/-
  slices.Insert and slices.Replace of pieces.
-/
namespace Go.Proofs.YthgaadjkjnibaaaGreatDoor.VT
open Go.RowKit Go.PlainAid Go.Lib Go.PRow Go.Shelf
set_option linter.unusedVariables false

/-- a row of pieces' cells -/
structure Rw (W : World) (g cap n : Nat) (cur : Array Value) (xs : List Value) : Prop where
  hh : W.heap[g]? = some (.cells cur 76 (0, 0))
  hn : n ≤ cap
  hm : cap ≤ maxLen
  hs : cur.size = cap * 3
  ht : cur.toList.take (n * 3) = xs
  h1 : ∀ v ∈ xs, v.oneCell' = true
theorem Rw.len {W : World} {g cap n : Nat} {cur : Array Value} {xs : List Value} (h : Rw W g cap n cur xs) : xs.length = n * 3 := by
  have a := h.hs; have b := h.hn
  rw [← h.ht, List.length_take, Array.length_toList, a]
  omega
theorem Rw.cell {W V : World} {g cap n : Nat} {cur : Array Value} {xs : List Value} (h : Rw W g cap n cur xs) (hV : V.heap[g]? = W.heap[g]?) (o j : Nat) (v : Value) (hj : (xs.drop o)[j]? = some v) : V.cell? ((⟨g, o, none⟩ : Addr).add j) = some v := by
  rw [Addr.add_lit]
  refine row_cell (hV.trans h.hh) h.ht (by rw [h.hs]; exact Nat.mul_le_mul_right _ h.hn) _ _ ?_
  rwa [List.getElem?_drop] at hj

def zP : Value := .agg #[.int .i32 0, .int .i32 0, Value.int .u8 0]
theorem zs_one (n : Nat) : ∀ v ∈ zs zP n, v.oneCell' = true := by
  intro v hv
  simp only [zs, Builtin.zeroCells, zP, Value.cells, Array.toList_map, List.mem_map] at hv
  obtain ⟨i, _, rfl⟩ := hv
  have h3 : i % 3 = 0 ∨ i % 3 = 1 ∨ i % 3 = 2 := by omega
  rcases h3 with h | h | h <;> simp [h, Value.oneCell']
theorem zs_len (n : Nat) : (zs zP n).length = n * 3 := by rw [zs_length]; rfl

end Go.Proofs.YthgaadjkjnibaaaGreatDoor.VT
/-
  slices.Insert of pieces, whatever the room.
-/
namespace Go.Proofs.YthgaadjkjnibaaaGreatDoor.VT
open Go.RowKit Go.PlainAid Go.Lib Go.PRow Go.Shelf
set_option linter.unusedVariables false

theorem RowP.rw {W : World} {B : Nat} {v : Value} {ps : List (Pc Int)} (h : RowP W B v ps) : (∃ a, v = .slice a 0 0 ∧ ps = []) ∨ ∃ g cap cur, v = .slice (some ⟨g, 0, none⟩) ps.length cap ∧ B ≤ g ∧ Rw W g cap ps.length cur (cellsP ps) := by
  rcases h.2 with ⟨a, rfl, hn⟩ | ⟨g, cap, cur, rfl, hb, hh, hc, hm, hs, ht⟩
  · exact .inl ⟨a, rfl, List.length_eq_zero_iff.1 hn⟩
  · exact .inr ⟨g, cap, cur, rfl, hb, hh, hc, hm, hs, ht, cellsP_one ps⟩
theorem RowP.of {W : World} {B g cap n : Nat} {cur : Array Value} {ps : List (Pc Int)} (hb : B ≤ g) (hh : W.heap[g]? = some (.cells cur 76 (0, 0))) (hn : ps.length = n) (hc : n ≤ cap) (hm : cap ≤ maxLen) (hs : cur.size = cap * 3) (ht : cur.toList.take (n * 3) = cellsP ps) :
    RowP W B (.slice (some ⟨g, 0, none⟩) n cap) ps := by
  subst hn
  exact ⟨cellsP_len ps, .inr ⟨g, cap, cur, rfl, hb, hh, hc, hm, hs, ht⟩⟩
theorem RowP.mono {W : World} {B B' : Nat} {v : Value} {ps : List (Pc Int)} (h : RowP W B v ps) (hb : B' ≤ B) : RowP W B' v ps := RowV.mono h hb
theorem blk_pos {a : Addr} {n c : Nat} (h : 0 < c) : blk (.slice (some a) n c) = some a.block := by
  cases c with
  | zero => omega
  | succ c => rfl

/-- what becomes of a slice s of pieces: s' with the pieces ps', in its own block or in a new one -/
def Turned (w w' : World) (B : Nat) (s s' : Value) (ps' : List (Pc Int)) : Prop :=
  RowP w' B s' ps' ∧ w.grownBy w' (blk s) ∧ (blk s' = blk s ∨ ∀ g, blk s' = some g → w.heap.size ≤ g)

theorem grown_refl (w : World) (row : Option Nat) : w.grownBy w row := ⟨rfl, rfl, rfl, Nat.le_refl _, fun _ _ _ => rfl⟩
theorem grown_new (w : World) (o : Obj) (row : Option Nat) : w.grownBy (w.drew.alloc o) row :=
  ⟨rfl, rfl, rfl, by simp, fun k hk _ => Below.heap_alloc w.drew o k hk⟩

end Go.Proofs.YthgaadjkjnibaaaGreatDoor.VT
/-
  An append of pieces to pieces; slices.Clone.
-/
namespace Go.Proofs.YthgaadjkjnibaaaGreatDoor.VT
open Go.RowKit Go.PlainAid Go.Lib Go.PRow Go.Shelf
set_option linter.unusedVariables false

theorem append_ps (B Bv : Nat) (s u : Value) (ps qs : List (Pc Int)) (w : World) (hB : B ≤ w.heap.size) (hr : RowP w B s ps) (hu : RowP w Bv u qs) (hbig : (ps.length + qs.length) * 12 ≤ 140737488355328) :
    ∃ s' w', (∀ ty, (Builtin.append_ #[37, 37] ty #[s, u]).run Tryz.prog w = .ok s' w') ∧ Turned w w' B s s' (ps ++ qs) ∧ (∀ a, s = .slice a 0 0 → qs ≠ [] → w'.heap.size = w.heap.size + 1 ∧ blk s' = some w.heap.size) := by
  obtain ⟨i0, hi0, hz0, hzs, hzb⟩ := info_parts infoP
  obtain ⟨u0, vc, rfl, hvc1, hvc2, _⟩ := hu.form
  have hsrcv := src_of_row (P := Tryz.prog) hu Tryz.underlying37 (cellsP_one qs)
  have hsrcs := src_of_row (P := Tryz.prog) hr Tryz.underlying37 (cellsP_one ps)
  have hqc := cellsP_len qs
  have hpc := cellsP_len ps
  obtain ⟨a, cap, rfl, hc1, hc2, _⟩ := hr.form
  by_cases hq : qs = []
  · subst hq
    refine ⟨_, _, fun ty => run_append_none w 37 37 ty 76 i0 Tryz.underlying37 hi0 a ps.length cap _ (by rw [hzs]; exact hsrcv) hc1, ⟨by simpa using hr, grown_refl _ _, .inl rfl⟩, fun _ _ h => absurd rfl h⟩
  have hm : 0 < qs.length := List.length_pos_iff.2 hq
  by_cases hroom : ps.length + qs.length ≤ cap
  · rcases hr.rw with ⟨a', e, e'⟩ | ⟨g, cap', cur, e, hg, R⟩
    · subst e'
      simp only [List.length_nil] at e hroom
      injection e with e1 e2 e3
      omega
    · injection e with e1 e2 e3
      subst e1; subst e3
      have hfit : ps.length * 3 + (cellsP qs).length ≤ cur.size := by rw [hqc, R.hs]; omega
      refine ⟨_, _, fun ty => by
        have := run_append_inK w 37 37 ty 76 i0 Tryz.underlying37 hi0 g 0 ps.length cap cur _ (.slice u0 qs.length vc) qs.length (cellsP qs) (by rw [hzs]; exact hsrcv) hroom R.hh (by rw [hzs]; omega)
        rw [hzs, Nat.zero_add] at this
        exact this, ⟨RowP.of (cur := spl cur (ps.length * 3) (cellsP qs)) hg (setRow_heap w g cur _ _ _ R.hh) (by simp) hroom hc2 (by rw [spl_size _ _ _ hfit, R.hs]) ?_, ?_, .inl ?_⟩, fun a e _ => ?_⟩
      · rw [Nat.add_mul, spl_end R.ht hpc hqc, cellsP_append]
      · rw [blk_pos (by omega)]; exact setRow_grown w g _
      · rw [blk_pos (by omega), blk_pos (by omega)]
      · injection e with e1 e2 e3
        omega
  · have hG1 : ps.length + qs.length ≤ grownCap w (ps.length + qs.length) cap 76 := grownCap_ge w _ cap 76
    have hG2 := grownCap_le_maxLen w (ps.length + qs.length) cap 76 (by unfold maxLen; omega)
    refine ⟨_, _, fun ty => by
      have := run_append_grow_src w 37 37 ty 76 i0 zP Tryz.underlying37 hi0 hz0 a ps.length cap (cellsP ps) (by rw [hzs]; exact hsrcs.cellsD) (.slice u0 qs.length vc) qs.length (cellsP qs) (by rw [hzs]; exact hsrcv) (by omega) (by omega) (by rw [hzb]; exact growslice_fits (by omega) hbig)
      exact this, ⟨RowP.of (cur := (cellsP ps ++ cellsP qs).toArray ++ Builtin.zeroCells zP.cells (grownCap w (ps.length + qs.length) cap 76 - (ps.length + qs.length))) hB (heap_alloc_new w.drew _) (by simp) hG1 hG2 (by
        have := zs_len (grownCap w (ps.length + qs.length) cap 76 - (ps.length + qs.length))
        rw [zs, Array.length_toList] at this
        rw [Array.size_append, List.size_toArray, List.length_append, hpc, hqc, this]; omega) ?_, grown_new w _ _, .inr fun g hg => ?_⟩, fun a e _ => ⟨by simp, blk_pos (by omega)⟩⟩
    · rw [Array.toList_append, List.take_left' (by simp [hpc, hqc]; omega), cellsP_append]
    · rw [blk_pos (by omega)] at hg
      cases hg
      exact Nat.le_refl _

/-- an append in a walk, where there is such a run -/
theorem wpList_append_ex {w : World} {ops : Array Oper} {rest : List Oper} {o : Oper} {a : Act} {Q : Exit → Act → World → Prop} (hgd : o.guard = none) (s x : Operand) (t tn : TypeId)
    (ho : o.op = .call { callee := .builtin .append, args := #[s, x], argTypes := #[t, tn] }) (vs vx : Value) (hs : a.eval s = vs) (hx : a.eval x = vx) {Post : Value → World → Prop}
    (hr : ∃ v' w', (∀ ty, (Builtin.append_ #[t, tn] ty #[vs, vx]).run Tryz.prog w = .ok v' w') ∧ Post v' w') (h : ∀ v' w', Post v' w' → wpList Tryz.prog ops Q rest (a.put o.dst v') w') : wpList Tryz.prog ops Q (o :: rest) a w := by
  obtain ⟨v', w', h1, h2⟩ := hr
  exact Lib.wpList_append_run w hgd s x t tn ho vs vx hs hx v' w' (h1 _) (h v' w' h2)

theorem Turned.below {w w' : World} {B : Nat} {s s' : Value} {ps' : List (Pc Int)} (h : Turned w w' B s s' ps') {a : World} {C : Nat} (hb : Below C a w) (hC : C ≤ w.heap.size) (hs : ∀ g, blk s = some g → C ≤ g) : Below C a w' :=
  hb.trans ⟨h.2.1.os, h.2.1.tape, h.2.1.output, h.2.1.size, fun k hk => h.2.1.block k (by omega) (fun e => by have := hs k e.symm; omega)⟩
theorem Turned.from {w w' : World} {B : Nat} {s s' : Value} {ps' : List (Pc Int)} (h : Turned w w' B s s' ps') {C : Nat} (hC : C ≤ w.heap.size) (hs : ∀ g, blk s = some g → C ≤ g) : ∀ g, blk s' = some g → C ≤ g := fun g hg => by
  rcases h.2.2 with e | e
  · exact hs g (e.symm.trans hg)
  · exact Nat.le_trans hC (e g hg)

theorem eqNil_some (x : Addr) (n c : Nat) (w : World) : (binOp .eql 37 (.slice (some x) n c) (.slice none 0 0)).run Tryz.prog w = .ok (.bool false) w := by kernel_rfl
theorem eqNil_none (n c : Nat) (w : World) : (binOp .eql 37 (.slice none n c) (.slice none 0 0)).run Tryz.prog w = .ok (.bool true) w := by kernel_rfl

end Go.Proofs.YthgaadjkjnibaaaGreatDoor.VT
