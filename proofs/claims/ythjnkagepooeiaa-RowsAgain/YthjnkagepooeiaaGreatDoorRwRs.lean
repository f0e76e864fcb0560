/-
  The document's Scan: what the program's says, for every line.
-/
import Derived.Test.YthjnkagepooeiaaGreatDoorRd
import Derived.Test.YthjnkagepooeiaaGreatDoorWc
import Derived.Test.YthjnkagepooeiaaGreatDoorRwS
import Derived.Lib.QuietBelow
import Derived.BigQuiet
import Derived.BigRegion
namespace Go.Proofs.YthjnkagepooeiaaGreatDoor
open Go.RowKit Go.PlainAid Go.Lib Go.PHexM Go.Shelf
set_option linter.unusedVariables false
set_option linter.unusedSimpArgs false

set_option maxRecDepth 100000 in
theorem rscan_results {tmps : Array Value} {w : World} {b : Nat} {r : RowD} {k : Int} (h2 : tmps.getD 2 undef = .pointer (some ⟨b, 0, none⟩)) (h3 : tmps.getD 3 undef = .int .i64 k) (h : RowAt w b r) : (results Tryz.f15 tmps).run Tryz.prog w = .ok (.tuple #[rowV r, .int .i64 k]) w := by
  have c0 := h.cell (j := 0) rfl
  have c1 := h.cell (j := 1) rfl
  have c2 := h.cell (j := 2) rfl
  have c3 := h.cell (j := 3) rfl
  have c4 := h.cell (j := 4) rfl
  have c5 := h.cell (j := 5) rfl
  have c6 := h.cell (j := 6) rfl
  have c7 := h.cell (j := 7) rfl
  have c8 := h.cell (j := 8) rfl
  have h2' : tmps[2]?.getD undef = .pointer (some ⟨b, 0, none⟩) := by simpa using h2
  have h3' : tmps[3]?.getD undef = .int .i64 k := by simpa using h3
  simp [results, Tryz.results15, go_sem, h2', h3', c0, c1, c2, c3, c4, c5, c6, c7, c8]

section
variable {d : LineD} (hk : d.kind = 1) (hl : d.fields.length = 15)
include hk hl
theorem scanR_eq : scanR d = foldC d.fields cellsL { zeroR with line := d.no } := by
  unfold scanR
  rw [if_neg (by omega), if_neg (by omega)]
theorem scan_40 (h : hexP (d.fields.getD 0 []) = none) : scanR d = (zeroR, 40) := by
  rw [scanR_eq hk hl]
  simp only [cellsL, foldC]
  generalize d.fields.getD 0 [] = f0 at *
  generalize d.fields.getD 1 [] = f1 at *
  generalize d.fields.getD 2 [] = f2 at *
  generalize d.fields.getD 3 [] = f3 at *
  generalize d.fields.getD 4 [] = f4 at *
  generalize d.fields.getD 5 [] = f5 at *
  generalize d.fields.getD 9 [] = f9 at *
  simp [cellP, h]
theorem scan_61 {n : Nat} (h : hexP (d.fields.getD 0 []) = some n) (h1 : nameOk (d.fields.getD 1 []) = false) : scanR d = (zeroR, 61) := by
  rw [scanR_eq hk hl]
  simp only [cellsL, foldC]
  generalize d.fields.getD 0 [] = f0 at *
  generalize d.fields.getD 1 [] = f1 at *
  generalize d.fields.getD 2 [] = f2 at *
  generalize d.fields.getD 3 [] = f3 at *
  generalize d.fields.getD 4 [] = f4 at *
  generalize d.fields.getD 5 [] = f5 at *
  generalize d.fields.getD 9 [] = f9 at *
  simp [cellP, h, h1]
theorem scan_63 {n : Nat} (h : hexP (d.fields.getD 0 []) = some n) (h1 : nameOk (d.fields.getD 1 []) = true) (h2 : catB (d.fields.getD 2 []) = false) : scanR d = (zeroR, 63) := by
  rw [scanR_eq hk hl]
  simp only [cellsL, foldC]
  generalize d.fields.getD 0 [] = f0 at *
  generalize d.fields.getD 1 [] = f1 at *
  generalize d.fields.getD 2 [] = f2 at *
  generalize d.fields.getD 3 [] = f3 at *
  generalize d.fields.getD 4 [] = f4 at *
  generalize d.fields.getD 5 [] = f5 at *
  generalize d.fields.getD 9 [] = f9 at *
  simp [cellP, h, h1, h2]
theorem scan_64 {n : Nat} (h : hexP (d.fields.getD 0 []) = some n) (h1 : nameOk (d.fields.getD 1 []) = true) (h2 : catB (d.fields.getD 2 []) = true) (h3 : combP (d.fields.getD 3 []) = none) : scanR d = (zeroR, 64) := by
  rw [scanR_eq hk hl]
  simp only [cellsL, foldC]
  generalize d.fields.getD 0 [] = f0 at *
  generalize d.fields.getD 1 [] = f1 at *
  generalize d.fields.getD 2 [] = f2 at *
  generalize d.fields.getD 3 [] = f3 at *
  generalize d.fields.getD 4 [] = f4 at *
  generalize d.fields.getD 5 [] = f5 at *
  generalize d.fields.getD 9 [] = f9 at *
  simp [cellP, h, h1, h2, h3]
theorem scan_50 {n u : Nat} (h : hexP (d.fields.getD 0 []) = some n) (h1 : nameOk (d.fields.getD 1 []) = true) (h2 : catB (d.fields.getD 2 []) = true) (h3 : combP (d.fields.getD 3 []) = some u) (h4 : clsP (d.fields.getD 4 []) = 0) : scanR d = (zeroR, 50) := by
  rw [scanR_eq hk hl]
  simp only [cellsL, foldC]
  generalize d.fields.getD 0 [] = f0 at *
  generalize d.fields.getD 1 [] = f1 at *
  generalize d.fields.getD 2 [] = f2 at *
  generalize d.fields.getD 3 [] = f3 at *
  generalize d.fields.getD 4 [] = f4 at *
  generalize d.fields.getD 5 [] = f5 at *
  generalize d.fields.getD 9 [] = f9 at *
  simp [cellP, h, h1, h2, h3, h4]
theorem scan_65 {n u : Nat} (h : hexP (d.fields.getD 0 []) = some n) (h1 : nameOk (d.fields.getD 1 []) = true) (h2 : catB (d.fields.getD 2 []) = true) (h3 : combP (d.fields.getD 3 []) = some u) (h4 : clsP (d.fields.getD 4 []) ≠ 0) (h5 : twinP 0 (d.fields.getD 5 []) = none) : scanR d = (zeroR, 65) := by
  rw [scanR_eq hk hl]
  simp only [cellsL, foldC]
  generalize d.fields.getD 0 [] = f0 at *
  generalize d.fields.getD 1 [] = f1 at *
  generalize d.fields.getD 2 [] = f2 at *
  generalize d.fields.getD 3 [] = f3 at *
  generalize d.fields.getD 4 [] = f4 at *
  generalize d.fields.getD 5 [] = f5 at *
  generalize d.fields.getD 9 [] = f9 at *
  simp [cellP, h, h1, h2, h3, h4] at h5 ⊢; simp [zeroR, h5]
theorem scan_66 {n u : Nat} {t : Int} (h : hexP (d.fields.getD 0 []) = some n) (h1 : nameOk (d.fields.getD 1 []) = true) (h2 : catB (d.fields.getD 2 []) = true) (h3 : combP (d.fields.getD 3 []) = some u) (h4 : clsP (d.fields.getD 4 []) ≠ 0) (h5 : twinP 0 (d.fields.getD 5 []) = some t) (h9 : flagB (d.fields.getD 9 []) = none) : scanR d = (zeroR, 66) := by
  rw [scanR_eq hk hl]
  simp only [cellsL, foldC]
  generalize d.fields.getD 0 [] = f0 at *
  generalize d.fields.getD 1 [] = f1 at *
  generalize d.fields.getD 2 [] = f2 at *
  generalize d.fields.getD 3 [] = f3 at *
  generalize d.fields.getD 4 [] = f4 at *
  generalize d.fields.getD 5 [] = f5 at *
  generalize d.fields.getD 9 [] = f9 at *
  simp [cellP, h, h1, h2, h3, h4] at h5 h9 ⊢; simp [zeroR, h5, h9]
theorem scan_ok {n u : Nat} {t : Int} {b : Bool} (h : hexP (d.fields.getD 0 []) = some n) (h1 : nameOk (d.fields.getD 1 []) = true) (h2 : catB (d.fields.getD 2 []) = true) (h3 : combP (d.fields.getD 3 []) = some u) (h4 : clsP (d.fields.getD 4 []) ≠ 0) (h5 : twinP 0 (d.fields.getD 5 []) = some t) (h9 : flagB (d.fields.getD 9 []) = some b) : scanR d = (⟨d.no, n, n, d.fields.getD 1 [], d.fields.getD 2 [], u, clsP (d.fields.getD 4 []), t, b⟩, 0) := by
  rw [scanR_eq hk hl]
  simp only [cellsL, foldC]
  generalize d.fields.getD 0 [] = f0 at *
  generalize d.fields.getD 1 [] = f1 at *
  generalize d.fields.getD 2 [] = f2 at *
  generalize d.fields.getD 3 [] = f3 at *
  generalize d.fields.getD 4 [] = f4 at *
  generalize d.fields.getD 5 [] = f5 at *
  generalize d.fields.getD 9 [] = f9 at *
  simp [cellP, h, h1, h2, h3, h4] at h5 h9 ⊢; simp [zeroR, h5, h9]
end
end Go.Proofs.YthjnkagepooeiaaGreatDoor
