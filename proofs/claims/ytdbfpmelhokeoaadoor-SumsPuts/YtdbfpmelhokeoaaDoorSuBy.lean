/-
  A text's bytes in memory of their own.
-/
import Derived.Test.YtdbfpmelhokeoaaDoorSuBu
namespace Go.Proofs.YtdbfpmelhokeoaaDoor
open Go.RowKit Go.PlainAid Go.Lib Go.SuM
set_option linter.unusedVariables false
set_option linter.unusedSimpArgs false
/-- the row at g begins with the bytes l, and none of these is marked -/
def BRow (w : World) (g : Nat) (l : List UInt8) : Prop := ∃ cur fr, w.heap[g]? = some (.cells cur 5 fr) ∧ l.length ≤ cur.size ∧ cur.toList.take l.length = bytesV l ∧ (fr.2 = 0 ∨ cur.size ≤ fr.1)
theorem BRow.cell {w : World} {g : Nat} {l : List UInt8} (h : BRow w g l) {j : Nat} (hj : j < l.length) : w.cell? ⟨g, j, none⟩ = some (.int .u8 (gat l j : Int)) := by
  obtain ⟨cur, fr, h1, h2, h3, h4⟩ := h
  have e : cur.toList[j]? = some (byV l[j]) := by
    have : (cur.toList.take l.length)[j]? = (bytesV l)[j]? := by rw [h3]
    rw [List.getElem?_take, if_pos hj] at this
    rw [this]
    unfold bytesV
    rw [List.getElem?_map, List.getElem?_eq_getElem hj]
    rfl
  have e2 : cur[j]? = some (byV l[j]) := by simpa using e
  have e3 : byV l[j] = .int .u8 (gat l j : Int) := by unfold byV gat; rw [List.getElem?_eq_getElem hj]; rfl
  rw [← e3]
  simp [World.cell?, h1, e2]
theorem BRow.frozen {w : World} {g : Nat} {l : List UInt8} (h : BRow w g l) {j : Nat} (hj : j < l.length) : w.frozen? ⟨g, j, none⟩ = false := by
  obtain ⟨cur, fr, h1, h2, h3, h4⟩ := h
  simp only [World.frozen?, h1]
  rcases h4 with h4 | h4
  · simp; omega
  · simp; omega
theorem BRow.set {w : World} {g : Nat} {l : List UInt8} (h : BRow w g l) {j : Nat} (hj : j < l.length) (b : UInt8) : BRow (w.setCell ⟨g, j, none⟩ (byV b)) g (l.set j b) := by
  obtain ⟨cur, fr, h1, h2, h3, h4⟩ := h
  refine ⟨cur.setIfInBounds j (byV b), fr, ?_, by rw [List.length_set, Array.size_setIfInBounds]; exact h2, ?_, by rw [Array.size_setIfInBounds]; exact h4⟩
  · simp only [World.setCell, Array.getElem?_modify, if_true, h1, Option.map_some]
    simp
  · rw [List.length_set, Array.toList_setIfInBounds, List.take_set, h3, bytesV, bytesV, List.map_set]
theorem BRow.str {w : World} {g cap : Nat} {l : List UInt8} (h : BRow w g l) (n : Nat) (hn : l.length = n) : (convert 57 9 (.slice (some ⟨g, 0, none⟩) n cap)).run Tryd.prog w = .ok (.string (BA l)) w := by
  subst hn
  exact run_convert_bytes_back (P := Tryd.prog) w 57 9 5 ⟨g, 0, none⟩ cap l Tryd.underlying57 Tryd.underlying5 Tryd.underlying9 (fun j hj => by
    rw [Addr.add_lit, Nat.zero_add, h.cell hj]
    unfold gat
    rw [List.getElem?_eq_getElem hj]
    rfl)
theorem BRow.below {w w' : World} {g : Nat} {l : List UInt8} (h : BRow w g l) (hb : Below w.heap.size w w') : BRow w' g l := by
  obtain ⟨cur, fr, h1, r⟩ := h
  exact ⟨cur, fr, (hb.block g ((Array.getElem?_eq_some_iff.1 h1).1)).trans h1, r⟩
/-- []byte(s) -/
theorem conv_any (s : ByteArray) (w : World) : ∃ cap w', (convert 9 57 (.string s)).run Tryd.prog w = .ok (.slice (some ⟨w.heap.size, 0, none⟩) s.size cap) w' ∧ BRow w' w.heap.size (LS s) ∧ Below w.heap.size w w' := by
  refine ⟨_, _, run_bytes_of_string (P := Tryd.prog) w 9 57 5 s Tryd.underlying9 Tryd.underlying57 Tryd.underlying5, ⟨_, _, heap_alloc_new w.drew _, ?_, ?_, .inr (Nat.le_refl _)⟩, ((Below.refl _ _).drew).alloc (Nat.le_refl _) _⟩
  · rw [LS_len]
    have := grownCap_ge w s.size 0 5
    simp [bytesRow]
    try omega
  · simp [bytesRow, LS, bytesV, byV]
end Go.Proofs.YtdbfpmelhokeoaaDoor
