/-
  Arguments that are lists of ranges, and lists of truths.
-/
import Derived.Test.YtebppdcnfbflkaaPFormA
import Derived.Deep.SlicePairs
import Derived.Deep.Grids
import Derived.OpenShut
namespace Go.Proofs.Ytebppdcnfbflkaa
open Go.RowKit Go.PlainAid Go.Lib Go.PRow
set_option linter.unusedVariables false
set_option linter.unusedSimpArgs false

theorem open_ranges {H : Type} {enc : TypeId × Value → H} {W : World} {base : Nat} {held : Bool} {fuel : Nat} {a : Option Addr} {len cap : Nat} {x : DataW H × List MemPlace}
    (h : DataW.trod enc Try.prog W base (fun _ => true) held fuel 41 (Value.slice a len cap).cells.toList = some x) : ∃ L : List (Int × Int), L.length = len ∧ ReadsG W a L := by
  rcases Go.Deep.open_slice_pairs Try.underlying41 Try.underlying28 (by kernel_rfl) rfl rfl (by kernel_rfl) (by kernel_rfl) h with ⟨hcs, _⟩ | ⟨b, l, c, m, n, V0, V1, D0, D1, P0, P1, hcs, hb, hl, hm, hmm, hx, hcell⟩
  · simp [Value.cells] at hcs
    obtain ⟨rfl, rfl, rfl⟩ := hcs
    exact ⟨[], rfl, fun i lo hi e => by simp at e⟩
  · simp [Value.cells] at hcs
    obtain ⟨rfl, rfl, rfl⟩ := hcs
    have hmm' : m = cap := by simpa using hmm
    subst hmm'
    have hint : ∀ i, i < m → V0 i = .int .i32 (RowKit.intOf (V0 i)) ∧ V1 i = .int .i32 (RowKit.intOf (V1 i)) := by
      intro i hi
      obtain ⟨_, _, h0, h1⟩ := hcell i hi
      obtain ⟨n0, e0, _, _⟩ := DataW.trod_int Try.underlying21 h0
      obtain ⟨n1, e1, _, _⟩ := DataW.trod_int Try.underlying21 h1
      have e0 : V0 i = .int .i32 n0 := by simpa using e0
      have e1 : V1 i = .int .i32 n1 := by simpa using e1
      rw [e0, e1]
      exact ⟨rfl, rfl⟩
    refine ⟨(List.range len).map fun i => (RowKit.intOf (V0 i), RowKit.intOf (V1 i)), by simp, fun i lo hi e => ?_⟩
    rw [List.getElem?_map] at e
    obtain ⟨i', hi', e⟩ := Option.map_eq_some_iff.1 e
    obtain ⟨hil, rfl⟩ := List.getElem?_eq_some_iff.1 hi'
    simp only [List.length_range, List.getElem_range, Prod.mk.injEq] at hil e
    obtain ⟨rfl, rfl⟩ := e
    obtain ⟨g, off, spot⟩ := b
    have hspot : spot = none := by simpa [Addr.add] using World.cell?_spot (hcell 0 (by omega)).1
    subst hspot
    refine ⟨g, off, rfl, ?_, ?_⟩
    · rw [← (hint i (by omega)).1, ← Go.WideShapes.add_plain]; exact (hcell i (by omega)).1
    · rw [← (hint i (by omega)).2, Nat.add_assoc, ← Go.WideShapes.add_plain]; exact (hcell i (by omega)).2.1

theorem open_truths {H : Type} {enc : TypeId × Value → H} {W : World} {base : Nat} {held : Bool} {fuel : Nat} {a : Option Addr} {len cap : Nat} {x : DataW H × List MemPlace}
    (h : DataW.trod enc Try.prog W base (fun _ => true) held fuel 32 (Value.slice a len cap).cells.toList = some x) : ∃ L : List Bool, L.length = len ∧ ReadsT W a L := by
  rcases Go.Deep.open_bools Try.underlying32 Try.underlying4 (by kernel_rfl) h with ⟨hcs, _⟩ | ⟨b, l, c, B, hcs, hb, hl, hm, hx, hcell⟩
  · simp [Value.cells] at hcs
    obtain ⟨rfl, rfl, rfl⟩ := hcs
    exact ⟨[], rfl, fun i b e => by simp at e⟩
  · simp [Value.cells] at hcs
    obtain ⟨rfl, rfl, rfl⟩ := hcs
    refine ⟨(List.range len).map B, by simp, fun i b' e => ?_⟩
    rw [List.getElem?_map] at e
    obtain ⟨i', hi', e⟩ := Option.map_eq_some_iff.1 e
    obtain ⟨hil, rfl⟩ := List.getElem?_eq_some_iff.1 hi'
    simp only [List.length_range, List.getElem_range] at hil e
    subst e
    obtain ⟨g, off, spot⟩ := b
    have hspot : spot = none := by simpa [Addr.add] using World.cell?_spot (hcell 0 (by omega))
    subst hspot
    refine ⟨g, off, rfl, ?_⟩
    rw [← Go.WideShapes.add_plain]; exact hcell i (by omega)
end Go.Proofs.Ytebppdcnfbflkaa
