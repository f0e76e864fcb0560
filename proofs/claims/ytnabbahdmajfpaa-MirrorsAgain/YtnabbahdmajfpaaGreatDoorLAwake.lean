/-
  What every program tells of a small text: the law's function awake answers true.
-/
import Derived.Test.YtnabbahdmajfpaaGreatDoorLRead
import Derived.Test.YtnabbahdmajfpaaGreatDoorAsErr
namespace Go.Proofs.YtnabbahdmajfpaaGreatDoor
open Go.RowKit Go.PlainAid Go.Lib Go.Shelf
set_option linter.unusedVariables false

instance : DecidableEq LineD := fun a b => decidable_of_iff (a.no = b.no ∧ a.kind = b.kind ∧ a.name = b.name ∧ a.fields = b.fields ∧ a.note = b.note) (by cases a; cases b; simp)
abbrev text1 : ByteArray := ⟨#[239, 187, 191, 48, 48, 52, 49, 32, 59, 32, 76, 32, 35, 32, 97, 13, 10, 64, 98, 58, 32, 99, 10]⟩
abbrev text2 : ByteArray := ⟨#[97, 10, 255]⟩
abbrev lineA : LineD := ⟨1, 1, [], [[48, 48, 52, 49], [76]], [97]⟩
abbrev lineB : LineD := ⟨2, 2, [98], [[99]], []⟩
theorem read1 : readS text1 = ([lineA, lineB], none) := by decide +kernel
theorem read2 : (readS text2).2 = some (2, 30) := by decide +kernel
abbrev errTypeAt (w : World) : Prop := w.cell? ⟨0, 0, none⟩ = some (.iface 127 (.agg #[.pointer (some ⟨8, 48, none⟩)]))

theorem as_any (e : Addr) (tb : Nat) (w : World) (hg : errTypeAt w) (hb : Boxed w tb 53 (.pointer none)) :
    Calls Tryz.prog 25 #[.iface 53 (.pointer (some e)), .iface 55 (.pointer (some ⟨tb, 0, none⟩))] w fun ev w' => ev = .returned (.bool true) ∧ Boxed w' tb 53 (.pointer (some e)) ∧ (∀ k, k < w.heap.size → k ≠ tb → w'.heap[k]? = w.heap[k]?) ∧ (∀ B v, B ≤ tb → Below B v w → Below B v w') := by
  refine (as_hit e ⟨tb, 0, none⟩ (.pointer none) w hg hb.cell hb.frozen).mono ?_
  rintro ev w' ⟨rfl, rfl⟩
  refine ⟨rfl, ((((hb.alloc _).alloc _).alloc _).alloc _).set _, fun k hk hne => ?_, fun B v hB hw => ?_⟩
  · rw [Below.heap_setCell _ _ _ _ hne, Below.heap_alloc _ _ _ (by simp; omega), Below.heap_alloc _ _ _ (by simp; omega), Below.heap_alloc _ _ _ (by simp; omega), Below.heap_alloc _ _ _ hk]
  · have h0 := hw.size
    have hlt := hb.lt
    exact ((((hw.alloc (by omega) _).alloc (by simp; omega) _).alloc (by simp; omega) _).alloc (by simp; omega) _).setCell hB _
theorem row_cell {w : World} {base : Nat} {e : TypeId} {size : Nat} {v : Value} {n : Nat} {xs : List Value} (h : w.ownsRow base e size v n xs) (h0 : 0 < n) : ∃ g c, v = .slice (some ⟨g, 0, none⟩) n c ∧ n ≤ c ∧ c ≤ maxLen ∧ g < w.heap.size ∧ ∀ j u, xs[j]? = some u → w.cell? ⟨g, j, none⟩ = some u := by
  rcases h.2 with ⟨_, h1⟩ | ⟨g, cap, cur, rfl, _, hg, h3, h4, h5, h6⟩
  · omega
  · refine ⟨g, cap, rfl, h3, h4, (Array.getElem?_eq_some_iff.1 hg).1, fun j u hu => ?_⟩
    have hj : j < n * size := by have := (List.getElem?_eq_some_iff.1 hu).1; rw [h.1] at this; exact this
    rw [← h6, List.getElem?_take, if_pos hj] at hu
    simp [World.cell?, hg]
    simpa using hu

end Go.Proofs.YtnabbahdmajfpaaGreatDoor
