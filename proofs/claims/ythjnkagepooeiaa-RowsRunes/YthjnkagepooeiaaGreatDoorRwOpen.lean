/-
  An argument that is a list of rows.
-/
import Derived.Test.YthjnkagepooeiaaGreatDoorRwA0
import Derived.Deep.Slices
import Derived.OpenShut
namespace Go.Proofs.YthjnkagepooeiaaGreatDoor
open Go.RowKit Go.PlainAid Go.Lib Go.PHexM Go.Shelf Go.Deep
set_option linter.unusedVariables false
set_option linter.unusedSimpArgs false

theorem rowFields : ∃ f0 f1 f2 f3 f4 f5 f6 f7 f8 : Field, Tryz.prog.underlying 29 = some (.struct #[f0, f1, f2, f3, f4, f5, f6, f7, f8]) ∧ [f0.offset, f1.offset, f2.offset, f3.offset, f4.offset, f5.offset, f6.offset, f7.offset, f8.offset] = [0, 1, 2, 3, 4, 5, 6, 7, 8] ∧ [f0.type, f1.type, f2.type, f3.type, f4.type, f5.type, f6.type, f7.type, f8.type] = [3, 21, 21, 9, 9, 5, 27, 21, 4] :=
  ⟨_, _, _, _, _, _, _, _, _, Tryz.underlying29, rfl, rfl⟩
theorem rowCells : Tryz.prog.cellsOf 29 = 9 := by kernel_rfl

theorem list9 {α : Type} {l : List α} (h : l.length = 9) : ∃ a b c d e f g i j : α, l = [a, b, c, d, e, f, g, i, j] := by
  obtain ⟨a, l, rfl⟩ := List.exists_cons_of_length_eq_add_one h
  obtain ⟨b, l, rfl⟩ := List.exists_cons_of_length_eq_add_one (Nat.succ.inj h)
  obtain ⟨c, l, rfl⟩ := List.exists_cons_of_length_eq_add_one (Nat.succ.inj (Nat.succ.inj h))
  obtain ⟨d, l, rfl⟩ := List.exists_cons_of_length_eq_add_one (Nat.succ.inj (Nat.succ.inj (Nat.succ.inj h)))
  obtain ⟨e, l, rfl⟩ := List.exists_cons_of_length_eq_add_one (Nat.succ.inj (Nat.succ.inj (Nat.succ.inj (Nat.succ.inj h))))
  obtain ⟨f, l, rfl⟩ := List.exists_cons_of_length_eq_add_one (Nat.succ.inj (Nat.succ.inj (Nat.succ.inj (Nat.succ.inj (Nat.succ.inj h)))))
  obtain ⟨g, l, rfl⟩ := List.exists_cons_of_length_eq_add_one (Nat.succ.inj (Nat.succ.inj (Nat.succ.inj (Nat.succ.inj (Nat.succ.inj (Nat.succ.inj h))))))
  obtain ⟨i, l, rfl⟩ := List.exists_cons_of_length_eq_add_one (Nat.succ.inj (Nat.succ.inj (Nat.succ.inj (Nat.succ.inj (Nat.succ.inj (Nat.succ.inj (Nat.succ.inj h)))))))
  obtain ⟨j, l, rfl⟩ := List.exists_cons_of_length_eq_add_one (Nat.succ.inj (Nat.succ.inj (Nat.succ.inj (Nat.succ.inj (Nat.succ.inj (Nat.succ.inj (Nat.succ.inj (Nat.succ.inj h))))))))
  obtain rfl : l = [] := List.eq_nil_of_length_eq_zero (by simp at h; simpa using h)
  exact ⟨_, _, _, _, _, _, _, _, _, rfl⟩
instance : Inhabited RowD := ⟨zeroR⟩

theorem row_of_cells {H : Type} {enc : TypeId × Value → H} {W : World} {base : Nat} {sp : Nat → Bool} {held : Bool} {fuel : Nat} {cs : List Value} {x : DataW H × List MemPlace} (h : DataW.trod enc Tryz.prog W base sp held fuel 29 cs = some x) : ∃ r : RowD, cs = rowC r := by
  obtain ⟨f0, f1, f2, f3, f4, f5, f6, f7, f8, hu, ho, hty⟩ := rowFields
  simp only [List.cons.injEq, and_true] at ho hty
  obtain ⟨o0, o1, o2, o3, o4, o5, o6, o7, o8⟩ := ho
  obtain ⟨t0, t1, t2, t3, t4, t5, t6, t7, t8⟩ := hty
  obtain ⟨xs, k, _, hxy, hl, hxl, hf⟩ := DataW.trod_struct hu h
  rw [rowCells] at hl
  have c_api_Class : Tryz.prog.cellsOf 27 = 1 := by kernel_rfl
  have c_bool : Tryz.prog.cellsOf 4 = 1 := by kernel_rfl
  have c_int : Tryz.prog.cellsOf 3 = 1 := by kernel_rfl
  have c_int32 : Tryz.prog.cellsOf 21 = 1 := by kernel_rfl
  have c_string : Tryz.prog.cellsOf 9 = 1 := by kernel_rfl
  have c_uint8 : Tryz.prog.cellsOf 5 = 1 := by kernel_rfl
  obtain ⟨v0, v1, v2, v3, v4, v5, v6, v7, v8, rfl⟩ := list9 hl
  obtain ⟨y0, y1, y2, y3, y4, y5, y6, y7, y8, rfl⟩ := list9 (show xs.length = 9 from hxl)
  have g0 := hf 0 f0 rfl
  rw [o0, t0, c_int] at g0
  obtain ⟨n0, e0, _, _⟩ := DataW.trod_int Tryz.underlying3 g0
  simp at e0
  subst e0
  have g1 := hf 1 f1 rfl
  rw [o1, t1, c_int32] at g1
  obtain ⟨n1, e1, _, _⟩ := DataW.trod_int Tryz.underlying21 g1
  simp at e1
  subst e1
  have g2 := hf 2 f2 rfl
  rw [o2, t2, c_int32] at g2
  obtain ⟨n2, e2, _, _⟩ := DataW.trod_int Tryz.underlying21 g2
  simp at e2
  subst e2
  have g3 := hf 3 f3 rfl
  rw [o3, t3, c_string] at g3
  obtain ⟨n3, e3, _, _⟩ := DataW.trod_string Tryz.underlying9 g3
  simp at e3
  subst e3
  have g4 := hf 4 f4 rfl
  rw [o4, t4, c_string] at g4
  obtain ⟨n4, e4, _, _⟩ := DataW.trod_string Tryz.underlying9 g4
  simp at e4
  subst e4
  have g5 := hf 5 f5 rfl
  rw [o5, t5, c_uint8] at g5
  obtain ⟨n5, e5, _, _⟩ := DataW.trod_int Tryz.underlying5 g5
  simp at e5
  subst e5
  have g6 := hf 6 f6 rfl
  rw [o6, t6, c_api_Class] at g6
  obtain ⟨n6, e6, _, _⟩ := DataW.trod_int Tryz.underlying27 g6
  simp at e6
  subst e6
  have g7 := hf 7 f7 rfl
  rw [o7, t7, c_int32] at g7
  obtain ⟨n7, e7, _, _⟩ := DataW.trod_int Tryz.underlying21 g7
  simp at e7
  subst e7
  have g8 := hf 8 f8 rfl
  rw [o8, t8, c_bool] at g8
  obtain ⟨n8, e8, _⟩ := DataW.trod_bool Tryz.underlying4 g8
  simp at e8
  subst e8
  exact ⟨⟨n0, n1, n2, n3.data.toList, n4.data.toList, n5, n6, n7, n8⟩, rfl⟩

theorem open_rows {H : Type} {enc : TypeId × Value → H} {W : World} {base : Nat} {held : Bool} {fuel : Nat} {a : Option Addr} {len cap : Nat} {x : DataW H × List MemPlace}
    (h : DataW.trod enc Tryz.prog W base (fun _ => true) held fuel 37 (Value.slice a len cap).cells.toList = some x) : ∃ rs : List RowD, rs.length = len ∧ len ≤ cap ∧ RwMem W a rs ∧ ((len = 0 ∧ x.1 = .nil) ∨ ∃ es sp, x.1 = .slice es sp ∧ es.length = len) := by
  rcases open_slice Tryz.underlying37 h with ⟨hcs, hx⟩ | ⟨b, l, c, m, n, D, Pl, hcs, hb, hl, hm, hmm, hx, hcell⟩
  · simp [Value.cells] at hcs
    obtain ⟨rfl, rfl, rfl⟩ := hcs
    exact ⟨[], rfl, Nat.le_refl _, fun i r e => by simp at e, .inl ⟨rfl, by rw [hx]⟩⟩
  · simp [Value.cells] at hcs
    obtain ⟨rfl, rfl, rfl⟩ := hcs
    have hmm' : m = cap := by simpa using hmm
    subst hmm'
    have each : ∀ i, i < len → ∃ r : RowD, ∀ j v, (rowC r)[j]? = some v → W.cell? (b.add (i * 9 + j)) = some v := by
      intro i hi
      obtain ⟨cs', h1, h2⟩ := hcell i (by omega)
      rw [rowCells] at h1
      obtain ⟨r, rfl⟩ := row_of_cells h2
      obtain ⟨_, hlen, hce⟩ := World.cells?_some h1
      refine ⟨r, fun j v hv => ?_⟩
      have hj := (List.getElem?_eq_some_iff.1 hv).1
      have := hce j (by simpa using hj)
      rw [add_add] at this
      rw [this, hv]
    obtain ⟨q, hq⟩ := choose_lt each
    obtain ⟨g, off, spot⟩ := b
    refine ⟨(List.range len).map q, by simp, hl, fun i r e => ?_, .inr ⟨_, _, by rw [hx], by simp⟩⟩
    rw [List.getElem?_map] at e
    obtain ⟨i', hi', e⟩ := Option.map_eq_some_iff.1 e
    obtain ⟨hil, rfl⟩ := List.getElem?_eq_some_iff.1 hi'
    simp only [List.length_range, List.getElem_range] at hil e
    subst e
    have hspot : spot = none := by simpa [Addr.add] using World.cell?_spot (hq 0 (by omega) 0 _ rfl)
    subst hspot
    refine ⟨g, off, rfl, fun j v hv => ?_⟩
    rw [Nat.add_assoc, ← Go.WideShapes.add_plain]
    exact hq i hil j v hv
end Go.Proofs.YthjnkagepooeiaaGreatDoor
