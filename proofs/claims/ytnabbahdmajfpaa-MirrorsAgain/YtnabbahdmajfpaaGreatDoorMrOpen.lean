/-
  An argument that is a list of mirrors.
-/
import Derived.Test.YtnabbahdmajfpaaGreatDoorMrC
import Derived.Deep.Slices
import Derived.OpenShut
import Derived.WideShapes
namespace Go.Proofs.YtnabbahdmajfpaaGreatDoor
open Go.RowKit Go.PlainAid Go.Lib Go.Deep Go.WideShapes
set_option linter.unusedVariables false
set_option linter.unusedSimpArgs false

theorem i32_rangeM {n : Int} (h : (Lit.int .i32 n).wf = true) : i32OkM n := by
  simp [Lit.wf] at h
  have h1 : IntKind.i32.min = -2147483648 := by decide
  have h2 : IntKind.i32.max = 2147483647 := by decide
  unfold i32OkM
  omega
theorem mirFields : ∃ f0 f1 f2 f3 : Field, Tryz.prog.underlying 27 = some (.struct #[f0, f1, f2, f3]) ∧ [f0.offset, f1.offset, f2.offset, f3.offset] = [0, 1, 2, 3] ∧ [f0.type, f1.type, f2.type, f3.type] = [3, 21, 21, 4] :=
  ⟨_, _, _, _, Tryz.underlying27, rfl, rfl⟩
theorem mirCells : Tryz.prog.cellsOf 27 = 4 := by kernel_rfl
theorem list4M {α : Type} {l : List α} (h : l.length = 4) : ∃ a b c d : α, l = [a, b, c, d] := by
  match l, h with
  | [a, b, c, d], _ => exact ⟨a, b, c, d, rfl⟩
theorem mir_of_cells {H : Type} {enc : TypeId × Value → H} {W : World} {base : Nat} {sp : Nat → Bool} {held : Bool} {fuel : Nat} {cs : List Value} {x : DataW H × List MemPlace} (h : DataW.trod enc Tryz.prog W base sp held fuel 27 cs = some x) : ∃ r : MirD, cs = mirC r ∧ MirOk r := by
  obtain ⟨f0, f1, f2, f3, hu, ho, hty⟩ := mirFields
  simp only [List.cons.injEq, and_true] at ho hty
  obtain ⟨o0, o1, o2, o3⟩ := ho
  obtain ⟨t0, t1, t2, t3⟩ := hty
  obtain ⟨xs, k, _, hxy, hl, hxl, hf⟩ := DataW.trod_struct hu h
  rw [mirCells] at hl
  have c_int : Tryz.prog.cellsOf 3 = 1 := by kernel_rfl
  have c_bool : Tryz.prog.cellsOf 4 = 1 := by kernel_rfl
  have c_int32 : Tryz.prog.cellsOf 21 = 1 := by kernel_rfl
  obtain ⟨v0, v1, v2, v3, rfl⟩ := list4M hl
  obtain ⟨y0, y1, y2, y3, rfl⟩ := list4M (show xs.length = 4 from hxl)
  have g0 := hf 0 f0 rfl
  rw [o0, t0, c_int] at g0
  obtain ⟨n0, e0, _, w0⟩ := DataW.trod_int Tryz.underlying3 g0
  simp at e0
  subst e0
  have g1 := hf 1 f1 rfl
  rw [o1, t1, c_int32] at g1
  obtain ⟨n1, e1, _, w1⟩ := DataW.trod_int Tryz.underlying21 g1
  simp at e1
  subst e1
  have g2 := hf 2 f2 rfl
  rw [o2, t2, c_int32] at g2
  obtain ⟨n2, e2, _, w2⟩ := DataW.trod_int Tryz.underlying21 g2
  simp at e2
  subst e2
  have g3 := hf 3 f3 rfl
  rw [o3, t3, c_bool] at g3
  obtain ⟨n3, e3, _⟩ := DataW.trod_bool Tryz.underlying4 g3
  simp at e3
  subst e3
  exact ⟨⟨n0, n1, n2, n3⟩, rfl, i32_rangeM w1, i32_rangeM w2⟩

theorem open_mirs {H : Type} {enc : TypeId × Value → H} {W : World} {base : Nat} {held : Bool} {fuel : Nat} {a : Option Addr} {len cap : Nat} {x : DataW H × List MemPlace}
    (h : DataW.trod enc Tryz.prog W base (fun _ => true) held fuel 35 (Value.slice a len cap).cells.toList = some x) : ∃ rs : List MirD, rs.length = len ∧ len ≤ cap ∧ MrMem W a rs ∧ (∀ x ∈ rs, MirOk x) ∧ ((len = 0 ∧ x.1 = .nil) ∨ ∃ es sp, x.1 = .slice es sp ∧ es.length = len) := by
  rcases open_slice Tryz.underlying35 h with ⟨hcs, hx⟩ | ⟨b, l, c, m, n, D, Pl, hcs, hb, hl, hm, hmm, hx, hcell⟩
  · simp [Value.cells] at hcs
    obtain ⟨rfl, rfl, rfl⟩ := hcs
    exact ⟨[], rfl, Nat.le_refl _, fun i r e => by simp at e, fun x hx => (by cases hx), .inl ⟨rfl, by rw [hx]⟩⟩
  · simp [Value.cells] at hcs
    obtain ⟨rfl, rfl, rfl⟩ := hcs
    have hmm' : m = cap := by simpa using hmm
    subst hmm'
    have each : ∀ i, i < len → ∃ r : MirD, MirOk r ∧ ∀ j v, (mirC r)[j]? = some v → W.cell? (b.add (i * 4 + j)) = some v := by
      intro i hi
      obtain ⟨cs', h1, h2⟩ := hcell i (by omega)
      rw [mirCells] at h1
      obtain ⟨r, rfl, hr⟩ := mir_of_cells h2
      obtain ⟨_, hlen, hce⟩ := World.cells?_some h1
      refine ⟨r, hr, fun j v hv => ?_⟩
      have hj := (List.getElem?_eq_some_iff.1 hv).1
      have := hce j (by simpa using hj)
      rw [add_add] at this
      rw [this, hv]
    obtain ⟨q, hq⟩ := choose_lt each
    obtain ⟨g, off, spot⟩ := b
    refine ⟨(List.range len).map q, by simp, hl, fun i r e => ?_, fun x hx => ?_, .inr ⟨_, _, by rw [hx], by simp⟩⟩
    · rw [List.getElem?_map] at e
      obtain ⟨i', hi', e⟩ := Option.map_eq_some_iff.1 e
      obtain ⟨hil, rfl⟩ := List.getElem?_eq_some_iff.1 hi'
      simp only [List.length_range, List.getElem_range] at hil e
      subst e
      have hspot : spot = none := by simpa [Addr.add] using World.cell?_spot ((hq 0 (by omega)).2 0 _ rfl)
      subst hspot
      refine ⟨g, off, rfl, fun j v hv => ?_⟩
      rw [Nat.add_assoc, ← Go.WideShapes.add_plain]
      exact (hq i hil).2 j v hv
    · obtain ⟨i, hi, rfl⟩ := List.mem_map.1 hx
      exact (hq i (List.mem_range.1 hi)).1
end Go.Proofs.YtnabbahdmajfpaaGreatDoor
