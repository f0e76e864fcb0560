/-
  These texts, one behind the other: TrAtS, TrRepS, TrNewS.
-/
import Derived.Test.YtokillomaemocaaTrQj
import Derived.Test.YtokillomaemocaaTrQd
import Derived.Lib.QuietBelow
import Derived.Shelf.Spec.SlicesInsert
import Derived.Test.YtokillomaemocaaTrQk
import Derived.Test.YtokillomaemocaaTrQg
import Derived.Deep.RegionWith
/-
  A trie in memory, and what is read of it.
-/
namespace Go.Proofs.Ytokillomaemocaa.VS
open Go.RowKit Go.PlainAid Go.Lib Go.PRow Go.Maps Go.TrM
set_option linter.unusedVariables false
set_option linter.unusedSimpArgs false
theorem hideA {p : Prop} (h : p) : Hid p := h
theorem unhideA {p : Prop} (h : Hid p) : p := h
/-- the trie of the values vs at bt -/
structure TrAt (w : World) (B bt : Nat) (vt vm vl : Value) (vs : List El) : Prop where
  ht : w.heap[bt]? = some (.cells #[vt, vm, vl] 127 (0, 0))
  rt : VW.RowE w B vt ((partsV vs).top.map Int.ofNat)
  rm : VW.RowE w B vm ((partsV vs).mid.map Int.ofNat)
  rl : RowE w B vl (partsV vs).low
  len : vs.length = 1114112
theorem TrAt.lt {w : World} {B bt : Nat} {vt vm vl : Value} {vs : List El} (h : TrAt w B bt vt vm vl vs) : bt < w.heap.size := (Array.getElem?_eq_some_iff.1 h.ht).1
theorem TrAt.below {w w' : World} {B bt : Nat} {vt vm vl : Value} {vs : List El} (h : TrAt w B bt vt vm vl vs) (b : Below w.heap.size w w') : TrAt w' B bt vt vm vl vs :=
  ⟨(b.block _ h.lt).trans h.ht, h.rt.below b, h.rm.below b, h.rl.below b, h.len⟩
/-- the parts of the values vs, as they are handed on -/
structure PaAt (w : World) (B : Nat) (vt vm vl : Value) (vs : List El) : Prop where
  rt : VW.RowE w B vt ((partsV vs).top.map Int.ofNat)
  rm : VW.RowE w B vm ((partsV vs).mid.map Int.ofNat)
  rl : RowE w B vl (partsV vs).low
  len : vs.length = 1114112
theorem TrAt.pa {w : World} {B bt : Nat} {vt vm vl : Value} {vs : List El} (h : TrAt w B bt vt vm vl vs) : PaAt w B vt vm vl vs := ⟨h.rt, h.rm, h.rl, h.len⟩
theorem PaAt.below {w w' : World} {B : Nat} {vt vm vl : Value} {vs : List El} (h : PaAt w B vt vm vl vs) (b : Below w.heap.size w w') : PaAt w' B vt vm vl vs :=
  ⟨h.rt.below b, h.rm.below b, h.rl.below b, h.len⟩
theorem cellT {w : World} {bn : Nat} {x y z : Value} {t : TypeId} (h : w.heap[bn]? = some (.cells #[x, y, z] t (0, 0))) : w.cell? ⟨bn, 0, none⟩ = some x ∧ w.cell? ⟨bn, 1, none⟩ = some y ∧ w.cell? ⟨bn, 2, none⟩ = some z := by
  refine ⟨?_, ?_, ?_⟩ <;> simp [World.cell?, h]
theorem top272 {vs : List El} (h : vs.length = 1114112) : (partsV vs).top.length = 272 := by rw [top_len, h]
/-- the number of the low block at a place -/
def lowP (vs : List El) (p : Nat) : Nat := ((lowsV vs).2[p]?).getD 0
set_option maxRecDepth 100000 in
set_option maxHeartbeats 2000000 in
theorem absent_any (w : World) (B bt : Nat) (vt vm vl : Value) (vs : List El) (h : TrAt w B bt vt vm vl vs) :
    Calls Try.prog 69 #[.pointer (some ⟨bt, 0, none⟩)] w fun e w' => e = .returned (.bool false) ∧ w' = w := by
  obtain ⟨c0, c1, c2⟩ := cellT h.ht
  obtain ⟨a, cap, rfl, _⟩ := h.rt.form
  rw [List.length_map, top272 h.len] at c0
  clear h
  go_enter Try.func69, Try.ntmps69
  go_wp2
  go_ret
  exact ⟨rfl, rfl⟩
set_option maxRecDepth 100000 in
set_option maxHeartbeats 2000000 in
theorem absent_nil (w : World) : Calls Try.prog 69 #[.pointer none] w fun e w' => e = .returned (.bool true) ∧ w' = w := by
  go_enter Try.func69, Try.ntmps69
  go_wp2
  go_ret
  exact ⟨rfl, rfl⟩
theorem low_cell {vs : List El} (h : vs.length = 1114112) {n : Nat} {x : El} (hn : n < 1114112) (hx : vs[n]? = some x) : (partsV vs).low[lowP vs (n / 64) * 64 + n % 64]? = some x ∧ lowP vs (n / 64) < 17408 := by
  obtain ⟨m, l, _, _, _, h4, h5, h6⟩ := place_at vs (p := n / 64) (by rw [h]; omega)
  have hl := lows_le vs
  rw [h] at hl
  have e : lowP vs (n / 64) = l := by unfold lowP; rw [h4]; rfl
  rw [e]
  refine ⟨?_, by omega⟩
  show (lowsV vs).1.flatten[_]? = _
  rw [flat_at _ (lows_each vs) l (n % 64) _ h6 (by omega), List.getElem?_take, if_pos (by omega), List.getElem?_drop, show 64 * (n / 64) + n % 64 = n by omega, hx]
end Go.Proofs.Ytokillomaemocaa.VS
/-
  slices.Repeat of one value, 64 times.
-/
namespace Go.Proofs.Ytokillomaemocaa.VS
open Go.RowKit Go.PlainAid Go.Lib Go.PRow Go.Maps Go.TrM Go.Shelf
set_option linter.unusedVariables false
set_option linter.unusedSimpArgs false
theorem hideR {p : Prop} (h : p) : Hid p := h
theorem unhideR {p : Prop} (h : Hid p) : p := h
theorem sizeE1 : (Try.prog.info? 9).map (·.size) = some 1 := by kernel_rfl
theorem make_row (l c : Nat) (h : l ≤ c) (hc : c ≤ 1048576) : ∃ MC : Array Value, MC.size = c ∧ ∀ W : World, (Instr.makeSlice 123 (.int .i64 (l : Int)) (.int .i64 (c : Int))).run Try.prog W = .ok (.slice (some ⟨W.heap.size, 0, none⟩) l c) (W.alloc (.cells MC 9)) := by
  obtain ⟨i0, hi0, hz0, hzs, hzb⟩ := info_parts infoE
  refine ⟨madeCells zeroE.cells (c * i0.size), by rw [size_madeCells, hzs, Nat.mul_one], fun W => ?_⟩
  have := run_makeSlice (P := Try.prog) W 123 9 i0 zeroE Try.underlying123 hi0 hz0 .i64 .i64 (l : Int) (c : Int) (by omega) (by omega) (by rw [hzs, Int.toNat_natCast]; omega) (by rw [hzb]; omega) (by omega)
  simpa only [Int.toNat_natCast] using this
end Go.Proofs.Ytokillomaemocaa.VS
/-
  A new maker.
-/
namespace Go.Proofs.Ytokillomaemocaa.VS
open Go.RowKit Go.PlainAid Go.Lib Go.PRow Go.Maps Go.TrM
set_option linter.unusedVariables false
set_option linter.unusedSimpArgs false
theorem NumAt.al {w : World} {B bn m : Nat} {v : Value} {bs : List (List El)} (h : NumAt w B bn m v bs) (o : Obj) : NumAt (w.alloc o) B bn m v bs := h.below ((Below.refl _ w).alloc (Nat.le_refl _) _)
theorem heap_al {w : World} {g : Nat} {x : Obj} (h : w.heap[g]? = some x) (o : Obj) : (w.alloc o).heap[g]? = some x := (Below.heap_alloc w o g (Array.getElem?_eq_some_iff.1 h).1).trans h
theorem heap_at {w : World} {g : Nat} (o : Array Value) (t : TypeId) (e : g = w.heap.size) : (w.alloc (.cells o t)).heap[g]? = some (.cells o t (0, 0)) := by subst e; exact heap_alloc_new w _
theorem heap_be {w w' : World} {g n : Nat} {x : Obj} (b : Below n w w') (hn : g < n) (h : w.heap[g]? = some x) : w'.heap[g]? = some x := (b.block g hn).trans h
theorem drewH (W : World) : W.drew.heap = W.heap := rfl
/-- a maker that was given nothing -/
theorem mak_new {V : World} {B bn m gl gb mk : Nat} (e : V.heap.size = mk) {M1 M2 : Array Value} (hN : NumAt V B bn m (.slice none 0 0) []) (h1 : V.heap[gl]? = some (.cells M1 34 (0, 0))) (h2 : V.heap[gb]? = some (.cells M2 9 (0, 0))) (s1 : M1.size = 17408) (s2 : M2.size = 64) (b1 : B ≤ gl) (b2 : B ≤ gb) :
    MakV (V.alloc (.cells #[.pointer (some ⟨bn, 0, none⟩), .slice (some ⟨gl, 0, none⟩) 0 17408, .slice (some ⟨gb, 0, none⟩) 0 64] 217)) B mk (Own mk bn m (.slice none 0 0) (.slice (some ⟨gl, 0, none⟩) 0 17408) (.slice (some ⟨gb, 0, none⟩) 0 64)) [] := by
  subst e
  refine ⟨bn, m, _, _, _, rfl, ⟨heap_alloc_new V _, hN.al _, VW.RowE.of b1 (heap_al h1 _) rfl (Nat.zero_le _) (by unfold maxLen; omega) s1 rfl, RowE.of b2 (heap_al h2 _) rfl (Nat.zero_le _) (by unfold maxLen; omega) s2 rfl, Nat.le_trans hN.bB (Nat.le_of_lt hN.lt.1), fun g e => by rw [blk_zero] at e; cases e⟩, fun x hx => by cases hx⟩
set_option maxRecDepth 100000 in
set_option maxHeartbeats 4000000 in
theorem newMaker_any (Q : Ending → World → Prop) (w : World) (hQ : Hid (∀ w' mk o, MakV w' w.heap.size mk o [] → Below w.heap.size w w' → Q (.returned (.pointer (some ⟨mk, 0, none⟩))) w')) : Calls Try.prog 99 #[] w Q := by
  obtain ⟨M1, hM1, hmk1⟩ := VW.make_row 0 17408 (by omega) (by omega)
  obtain ⟨M2, hM2, hmk2⟩ := make_row 0 64 (by omega) (by omega)
  have hk1 : ∀ W : World, (Instr.makeSlice 24 (.int .i64 0) (.int .i64 17408)).run Try.prog W = .ok (.slice (some ⟨W.heap.size, 0, none⟩) 0 17408) (W.alloc (.cells M1 34)) := hmk1
  have hk2 : ∀ W : World, (Instr.makeSlice 123 (.int .i64 0) (.int .i64 64)).run Try.prog W = .ok (.slice (some ⟨W.heap.size, 0, none⟩) 0 64) (W.alloc (.cells M2 9)) := hmk2
  clear hmk1 hmk2
  have HNN := hide (fun W (hW : w.heap.size ≤ W.heap.size) => newNum_any W w.heap.size hW)
  go_enter Try.func99, Try.ntmps99
  go_wp2_with fail
  go_region_with (go_at_call 123; refine (unhide HNN _ (by simp <;> omega)).mono ?_; rintro e w4 ⟨rfl, hN4, hs4, hB4⟩; have HN4 := hide (And.intro hN4 (And.intro hs4 hB4)); clear hN4 hs4 hB4)
  all_goals clear hk1 hk2 HNN
  all_goals go_wp2
  all_goals go_ret
  all_goals obtain ⟨hN4, hs4, hB4⟩ := unhide HN4
  all_goals simp only [World.size_alloc, drewH] at hN4 hs4 hB4
  all_goals (
    refine unhide hQ _ _ _ (mak_new (M1 := M1) (M2 := M2) (by (first | omega | (simp only [World.size_alloc, drewH]; done) | (simp only [World.size_alloc, drewH]; omega))) (by first | exact hN4 | exact hN4.al _ | exact (hN4.al _).al _) ?_ ?_ hM1 hM2 ?_ ?_) ?_
    · first
        | exact heap_at _ _ (by (first | omega | (simp only [World.size_alloc, drewH]; done) | (simp only [World.size_alloc, drewH]; omega)))
        | exact heap_al (heap_at _ _ (by (first | omega | (simp only [World.size_alloc, drewH]; done) | (simp only [World.size_alloc, drewH]; omega)))) _
        | exact heap_be hB4 (by (first | omega | (simp only [World.size_alloc, drewH]; done) | (simp only [World.size_alloc, drewH]; omega))) (heap_at (w := w.drew) _ _ (by rfl))
        | exact heap_be hB4 (by (first | omega | (simp only [World.size_alloc, drewH]; done) | (simp only [World.size_alloc, drewH]; omega))) (heap_al (heap_at (w := w.drew) _ _ (by rfl)) _)
        | exact heap_be hB4 (by (first | omega | (simp only [World.size_alloc, drewH]; done) | (simp only [World.size_alloc, drewH]; omega))) (heap_at (w := w.drew.alloc _) _ _ (by (first | omega | (simp only [World.size_alloc, drewH]; done) | (simp only [World.size_alloc, drewH]; omega))))
        | exact heap_al (heap_be hB4 (by (first | omega | (simp only [World.size_alloc, drewH]; done) | (simp only [World.size_alloc, drewH]; omega))) (heap_at (w := w.drew) _ _ (by rfl))) _
    · first
        | exact heap_at _ _ (by (first | omega | (simp only [World.size_alloc, drewH]; done) | (simp only [World.size_alloc, drewH]; omega)))
        | exact heap_al (heap_at _ _ (by (first | omega | (simp only [World.size_alloc, drewH]; done) | (simp only [World.size_alloc, drewH]; omega)))) _
        | exact heap_be hB4 (by (first | omega | (simp only [World.size_alloc, drewH]; done) | (simp only [World.size_alloc, drewH]; omega))) (heap_at (w := w.drew) _ _ (by rfl))
        | exact heap_be hB4 (by (first | omega | (simp only [World.size_alloc, drewH]; done) | (simp only [World.size_alloc, drewH]; omega))) (heap_al (heap_at (w := w.drew) _ _ (by rfl)) _)
        | exact heap_be hB4 (by (first | omega | (simp only [World.size_alloc, drewH]; done) | (simp only [World.size_alloc, drewH]; omega))) (heap_at (w := w.drew.alloc _) _ _ (by (first | omega | (simp only [World.size_alloc, drewH]; done) | (simp only [World.size_alloc, drewH]; omega))))
        | exact heap_al (heap_be hB4 (by (first | omega | (simp only [World.size_alloc, drewH]; done) | (simp only [World.size_alloc, drewH]; omega))) (heap_at (w := w.drew) _ _ (by rfl))) _
    · (first | omega | (simp only [World.size_alloc, drewH]; done) | (simp only [World.size_alloc, drewH]; omega))
    · (first | omega | (simp only [World.size_alloc, drewH]; done) | (simp only [World.size_alloc, drewH]; omega))
    · first
        | exact ((((Below.refl w.heap.size w).drew.trans (hB4.mono (by (first | omega | (simp only [World.size_alloc, drewH]; done) | (simp only [World.size_alloc, drewH]; omega))))).alloc (by (first | omega | (simp only [World.size_alloc, drewH]; done) | (simp only [World.size_alloc, drewH]; omega))) _).alloc (by (first | omega | (simp only [World.size_alloc, drewH]; done) | (simp only [World.size_alloc, drewH]; omega))) _).alloc (by (first | omega | (simp only [World.size_alloc, drewH]; done) | (simp only [World.size_alloc, drewH]; omega))) _
        | exact ((((Below.refl w.heap.size w).drew.alloc (by (first | omega | (simp only [World.size_alloc, drewH]; done) | (simp only [World.size_alloc, drewH]; omega))) _).trans (hB4.mono (by (first | omega | (simp only [World.size_alloc, drewH]; done) | (simp only [World.size_alloc, drewH]; omega))))).alloc (by (first | omega | (simp only [World.size_alloc, drewH]; done) | (simp only [World.size_alloc, drewH]; omega))) _).alloc (by (first | omega | (simp only [World.size_alloc, drewH]; done) | (simp only [World.size_alloc, drewH]; omega))) _
        | exact ((((Below.refl w.heap.size w).drew.alloc (by (first | omega | (simp only [World.size_alloc, drewH]; done) | (simp only [World.size_alloc, drewH]; omega))) _).alloc (by (first | omega | (simp only [World.size_alloc, drewH]; done) | (simp only [World.size_alloc, drewH]; omega))) _).trans (hB4.mono (by (first | omega | (simp only [World.size_alloc, drewH]; done) | (simp only [World.size_alloc, drewH]; omega))))).alloc (by (first | omega | (simp only [World.size_alloc, drewH]; done) | (simp only [World.size_alloc, drewH]; omega))) _)
end Go.Proofs.Ytokillomaemocaa.VS
