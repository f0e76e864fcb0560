/-
  What a call of package rows leaves in memory; the variables of the library that its road reads.
-/
import Derived.Test.YthjnkagepooeiaaGreatDoorRwM
import Derived.Test.YthjnkagepooeiaaGreatDoorRwShelf
import Derived.Test.YthjnkagepooeiaaGreatDoorRwHex
import Derived.Test.YthjnkagepooeiaaGreatDoorAsErr
namespace Go.Proofs.YthjnkagepooeiaaGreatDoor
open Go.RowKit Go.PlainAid Go.Lib Go.PHexM
set_option linter.unusedVariables false

/-- the library's variables that the road reads -/
structure Glob (w : World) : Prop where
  size : 10 ≤ w.heap.size
  syn : ∃ ev, w.cell? ⟨1, 0, none⟩ = some ev ∧ (ev = .nilIface ∨ ∃ te pe, ev = .iface te pe)
  rng : ∃ ev, w.cell? ⟨2, 0, none⟩ = some ev ∧ (ev = .nilIface ∨ ∃ te pe, ev = .iface te pe)
  max : ∃ m, w.cell? ⟨4, 0, none⟩ = some (.int .i64 m)
  tab : Lib.TabIs Tryz.prog w "internal/strconv.uint64pow10" .u64 Lib.pow10Tab
  err : w.cell? ⟨0, 0, none⟩ = some (.iface 147 (.agg #[.pointer (some ⟨10, 39, none⟩)]))
theorem Glob.keep {w w' : World} (h : Glob w) (hs : w.heap.size ≤ w'.heap.size) (hk : ∀ k, k < 10 → w'.heap[k]? = w.heap[k]?) : Glob w' := by
  have hc : ∀ g, g < 10 → ∀ v, w.cell? ⟨g, 0, none⟩ = some v → w'.cell? ⟨g, 0, none⟩ = some v := by
    intro g hg v hv
    simp only [World.cell?, hk g hg] at hv ⊢
    exact hv
  obtain ⟨e1, h1, k1⟩ := h.syn
  obtain ⟨e2, h2, k2⟩ := h.rng
  obtain ⟨m, h3⟩ := h.max
  refine ⟨Nat.le_trans h.size hs, ⟨e1, hc _ (by decide) _ h1, k1⟩, ⟨e2, hc _ (by decide) _ h2, k2⟩, ⟨m, hc _ (by decide) _ h3⟩, ?_, hc _ (by decide) _ h.err⟩
  have ht := h.tab
  have hn : Tryz.prog.globalNamed "internal/strconv.uint64pow10" = some 3 := by kernel_rfl
  unfold Lib.TabIs World.var? at ht ⊢
  rw [hn] at ht ⊢
  simp only [Option.bind_some] at ht ⊢
  rw [hk _ (by decide)]
  exact ht
theorem Glob.below {w w' : World} (h : Glob w) (hb : Below w.heap.size w w') : Glob w' := h.keep hb.size fun k hk => hb.block k (Nat.lt_of_lt_of_le hk h.size)

/-- nothing but block b is another one, of what was there -/
structure But (b : Nat) (w w' : World) : Prop where
  os : w'.os = w.os
  tape : w'.tape = w.tape
  output : w'.output = w.output
  size : w.heap.size ≤ w'.heap.size
  block : ∀ k, k < w.heap.size → k ≠ b → w'.heap[k]? = w.heap[k]?
theorem But.of_below {b : Nat} {w w' : World} (h : Below w.heap.size w w') : But b w w' := ⟨h.os, h.tape, h.output, h.size, fun k hk _ => h.block k hk⟩
theorem But.trans {b : Nat} {u v w : World} (h : But b u v) (k : But b v w) : But b u w :=
  ⟨k.os.trans h.os, k.tape.trans h.tape, k.output.trans h.output, Nat.le_trans h.size k.size, fun i hi hb => (k.block i (Nat.lt_of_lt_of_le hi h.size) hb).trans (h.block i hi hb)⟩
theorem But.set {b o : Nat} {v : Value} (w : World) : But b w (w.setCell ⟨b, o, none⟩ v) := ⟨rfl, rfl, rfl, by simp, fun k hk hb => Below.heap_setCell _ _ _ _ hb⟩
theorem But.below {b B : Nat} {u v w : World} (h : But b v w) (k : Below B u v) (hB : B ≤ b) (hu : B ≤ v.heap.size) : Below B u w :=
  ⟨h.os.trans k.os, h.tape.trans k.tape, h.output.trans k.output, Nat.le_trans k.size h.size, fun i hi => (h.block i (by omega) (by omega)).trans (k.block i hi)⟩
theorem Glob.but {b : Nat} {w w' : World} (h : Glob w) (hb : But b w w') (hn : 10 ≤ b) : Glob w' := h.keep hb.size fun k hk => hb.block k (Nat.lt_of_lt_of_le hk h.size) (by omega)

/-- the row that is read, in its block -/
def RBox (w : World) (b : Nat) (r : RowD) : Prop := w.heap[b]? = some (.cells (rowC r).toArray 70 (0, 0))
theorem RBox.below {w w' : World} {b : Nat} {r : RowD} (h : RBox w b r) (hb : Below w.heap.size w w') : RBox w' b r := (hb.block b (Array.getElem?_eq_some_iff.1 h).1).trans h
theorem RBox.lt {w : World} {b : Nat} {r : RowD} (h : RBox w b r) : b < w.heap.size := (Array.getElem?_eq_some_iff.1 h).1
theorem RBox.cell {w : World} {b : Nat} {r : RowD} (h : RBox w b r) {j : Nat} {v : Value} (hj : (rowC r)[j]? = some v) : w.cell? ⟨b, j, none⟩ = some v := by
  have h' : w.heap[b]? = _ := h
  simp only [World.cell?, h']
  simpa using hj
theorem RBox.frozen {w : World} {b : Nat} {r : RowD} (h : RBox w b r) (j : Nat) : w.frozen? ⟨b, j, none⟩ = false := by
  have h' : w.heap[b]? = _ := h
  simp [World.frozen?, h']
theorem RBox.set {w : World} {b : Nat} {r r' : RowD} (h : RBox w b r) (j : Nat) (v : Value) (hr : (rowC r).toArray.setIfInBounds j v = (rowC r').toArray) : RBox (w.setCell ⟨b, j, none⟩ v) b r' := by
  show (w.setCell ⟨b, j, none⟩ v).heap[b]? = _
  rw [setCell_eq_setRow w b j _ _ _ v h, setRow_heap w b _ _ _ _ h, hr]
end Go.Proofs.YthjnkagepooeiaaGreatDoor
