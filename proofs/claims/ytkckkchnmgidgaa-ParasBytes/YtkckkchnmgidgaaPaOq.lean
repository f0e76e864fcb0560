/-
  Arguments: props made by hand.
-/
import Derived.Test.YtkckkchnmgidgaaPaMy
import Derived.Test.YtkckkchnmgidgaaBulk
import Derived.Deep.Slices
import Derived.OpenShut
import Derived.WideShapes
namespace Go.Proofs.Ytkckkchnmgidgaa
open Go.RowKit Go.PlainAid Go.Lib Go.Deep Go.WideShapes
set_option linter.unusedVariables false
set_option linter.unusedSimpArgs false

theorem charFields : ∃ f0 f1 f2 f3 f4 f5 f6 : Field, Try.prog.underlying 76 = some (.struct #[f0, f1, f2, f3, f4, f5, f6]) ∧ [f0.offset, f1.offset, f2.offset, f3.offset, f4.offset, f5.offset, f6.offset] = [0, 1, 2, 3, 4, 5, 6] ∧ [f0.type, f1.type, f2.type, f3.type, f4.type, f5.type, f6.type] = [21, 22, 21, 74, 21, 21, 4] :=
  ⟨_, _, _, _, _, _, _, Try.underlying76, rfl, rfl⟩
theorem charCells : Try.prog.cellsOf 76 = 7 := by kernel_rfl
theorem list7S {α : Type} {l : List α} (h : l.length = 7) : ∃ a b c d e f g : α, l = [a, b, c, d, e, f, g] := by
  match l, h with
  | [a, b, c, d, e, f, g], _ => exact ⟨a, b, c, d, e, f, g, rfl⟩
theorem char_of_cells {H : Type} {enc : TypeId × Value → H} {W : World} {base : Nat} {sp : Nat → Bool} {held : Bool} {fuel : Nat} {cs : List Value} {x : DataW H × List MemPlace} (h : DataW.trod enc Try.prog W base sp held fuel 76 cs = some x) : ∃ r : CharD, cs = charC r := by
  obtain ⟨f0, f1, f2, f3, f4, f5, f6, hu, ho, hty⟩ := charFields
  simp only [List.cons.injEq, and_true] at ho hty
  obtain ⟨o0, o1, o2, o3, o4, o5, o6⟩ := ho
  obtain ⟨t0, t1, t2, t3, t4, t5, t6⟩ := hty
  obtain ⟨xs, k, _, hxy, hl, hxl, hf⟩ := DataW.trod_struct hu h
  rw [charCells] at hl
  have c_i32 : Try.prog.cellsOf 21 = 1 := by kernel_rfl
  have c_cls : Try.prog.cellsOf 22 = 1 := by kernel_rfl
  have c_sid : Try.prog.cellsOf 74 = 1 := by kernel_rfl
  have c_bool : Try.prog.cellsOf 4 = 1 := by kernel_rfl
  obtain ⟨v0, v1, v2, v3, v4, v5, v6, rfl⟩ := list7S hl
  obtain ⟨y0, y1, y2, y3, y4, y5, y6, rfl⟩ := list7S (show xs.length = 7 from hxl)
  have g0 := hf 0 f0 rfl
  rw [o0, t0, c_i32] at g0
  obtain ⟨n0, e0, _, w0⟩ := DataW.trod_int Try.underlying21 g0
  simp at e0
  subst e0
  have g1 := hf 1 f1 rfl
  rw [o1, t1, c_cls] at g1
  obtain ⟨n1, e1, _, w1⟩ := DataW.trod_int Try.underlying22 g1
  simp at e1
  subst e1
  have g2 := hf 2 f2 rfl
  rw [o2, t2, c_i32] at g2
  obtain ⟨n2, e2, _, w2⟩ := DataW.trod_int Try.underlying21 g2
  simp at e2
  subst e2
  have g3 := hf 3 f3 rfl
  rw [o3, t3, c_sid] at g3
  obtain ⟨n3, e3, _, w3⟩ := DataW.trod_int Try.underlying74 g3
  simp at e3
  subst e3
  have g4 := hf 4 f4 rfl
  rw [o4, t4, c_i32] at g4
  obtain ⟨n4, e4, _, w4⟩ := DataW.trod_int Try.underlying21 g4
  simp at e4
  subst e4
  have g5 := hf 5 f5 rfl
  rw [o5, t5, c_i32] at g5
  obtain ⟨n5, e5, _, w5⟩ := DataW.trod_int Try.underlying21 g5
  simp at e5
  subst e5
  have g6 := hf 6 f6 rfl
  rw [o6, t6, c_bool] at g6
  obtain ⟨n6, e6, _⟩ := DataW.trod_bool Try.underlying4 g6
  simp at e6
  subst e6
  exact ⟨⟨n0, n1, n2, n3, n4, n5, n6⟩, rfl⟩
theorem open_chars {H : Type} {enc : TypeId × Value → H} {W : World} {base : Nat} {held : Bool} {fuel : Nat} {a : Option Addr} {len cap : Nat} {x : DataW H × List MemPlace}
    (h : DataW.trod enc Try.prog W base (fun _ => true) held fuel 23 (Value.slice a len cap).cells.toList = some x) : ∃ rs : List CharD, rs.length = len ∧ len ≤ cap ∧ ReadsC W a rs ∧ ((len = 0 ∧ x.1 = .nil) ∨ ∃ es sp, x.1 = .slice es sp ∧ es.length = len) := by
  rcases open_slice Try.underlying23 h with ⟨hcs, hx⟩ | ⟨b, l, c, m, n, D, Pl, hcs, hb, hl, hm, hmm, hx, hcell⟩
  · simp [Value.cells] at hcs
    obtain ⟨rfl, rfl, rfl⟩ := hcs
    exact ⟨[], rfl, Nat.le_refl _, fun i r e => by simp at e, .inl ⟨rfl, by rw [hx]⟩⟩
  · simp [Value.cells] at hcs
    obtain ⟨rfl, rfl, rfl⟩ := hcs
    have hmm' : m = cap := by simpa using hmm
    subst hmm'
    have each : ∀ i, i < len → ∃ r : CharD, ∀ j v, (charC r)[j]? = some v → W.cell? (b.add (i * 7 + j)) = some v := by
      intro i hi
      obtain ⟨cs', h1, h2⟩ := hcell i (by omega)
      rw [charCells] at h1
      obtain ⟨r, rfl⟩ := char_of_cells h2
      obtain ⟨_, hlen, hce⟩ := World.cells?_some h1
      refine ⟨r, fun j v hv => ?_⟩
      have hj := (List.getElem?_eq_some_iff.1 hv).1
      have := hce j (by have h7 : (charC r).length = 7 := rfl; rw [h7] at hj; simpa using hj)
      rw [add_add] at this
      rw [this, hv]
    have inh : Inhabited CharD := ⟨noC⟩
    obtain ⟨q, hq⟩ := choose_lt each
    obtain ⟨g, off, spot⟩ := b
    refine ⟨(List.range len).map q, by simp, hl, fun i r e => ?_, .inr ⟨_, _, by rw [hx], by simp⟩⟩
    · rw [List.getElem?_map] at e
      obtain ⟨i', hi', e⟩ := Option.map_eq_some_iff.1 e
      obtain ⟨hil, rfl⟩ := List.getElem?_eq_some_iff.1 hi'
      simp only [List.length_range, List.getElem_range] at hil e
      subst e
      have hspot : spot = none := by simpa [Addr.add] using World.cell?_spot (hq 0 (by omega) 0 _ rfl)
      subst hspot
      refine ⟨g, off, rfl, fun j v hv => ?_⟩
      rw [Nat.add_assoc, ← Go.WideShapes.add_plain]
      exact hq i hil j v hv
theorem propsCells : Try.prog.cellsOf 25 = 2 := by kernel_rfl
theorem array2S {α : Type} {x : Array α} (h : x.size = 2) : ∃ a b : α, x = #[a, b] := by
  obtain ⟨l⟩ := x
  match l, h with
  | [a, b], _ => exact ⟨a, b, rfl⟩
theorem list2Q {α : Type} {l : List α} (h : l.length = 2) : ∃ a b : α, l = [a, b] := by
  match l, h with
  | [a, b], _ => exact ⟨a, b, rfl⟩
set_option maxRecDepth 100000 in
theorem open_props {H : Type} {enc : TypeId × Value → H} {W : World} {r : Reach} {b0 : Nat} {v : Value} {d : DataW H} {p : List MemPlace} (hv : Value.okWide Try.prog W r b0 25 v) (h : DataW.Trod enc Try.prog W 0 (fun _ => true) true 25 v d p) (hk : Rows.uptoBulk d ≤ 1048576) :
    ∃ (rest : Int) (a : Option Addr) (n c : Nat) (l : List CharD), v = propsV rest a n c ∧ l.length = n ∧ n ≤ 1048576 ∧ ReadsC W a l := by
  obtain ⟨cs, rfl, hsz⟩ := okWide_struct Try.underlying25 hv
  obtain ⟨c0, c1, rfl⟩ := array2S (hsz.trans propsCells)
  obtain ⟨fuel, hf⟩ := h
  obtain ⟨xs, n, _, hx, hl, hlen, hfs⟩ := DataW.trod_struct Try.underlying25 hf
  obtain ⟨y0, y1, rfl⟩ := list2Q hlen
  have k0 : Try.prog.cellsOf 22 = 1 := by kernel_rfl
  have k1 : Try.prog.cellsOf 23 = 1 := by kernel_rfl
  have h0 : DataW.trod enc Try.prog W 0 (fun _ => true) true n 22 [c0] = some y0 := by simpa [k0, Value.cells] using hfs 0 _ rfl
  have h1 : DataW.trod enc Try.prog W 0 (fun _ => true) true n 23 [c1] = some y1 := by simpa [k1, Value.cells] using hfs 1 _ rfl
  obtain ⟨rest, e0, rfl, -⟩ := DataW.trod_int Try.underlying22 h0
  simp only [List.cons.injEq, and_true] at e0
  subst e0
  obtain ⟨a, len, cap, rfl⟩ : ∃ a len cap, c1 = .slice a len cap := by
    rcases open_slice Try.underlying23 h1 with ⟨hcs, _⟩ | ⟨b, l, c, m, n, D, Pl, hcs, _⟩
    · exact ⟨_, _, _, by simpa using hcs⟩
    · exact ⟨_, _, _, by simpa using hcs⟩
  have h1' : DataW.trod enc Try.prog W 0 (fun _ => true) true n 23 (Value.slice a len cap).cells.toList = some y1 := h1
  obtain ⟨l, hl1, hl2, hl3, hl4⟩ := open_chars h1'
  have hd : d = _ := congrArg Prod.fst hx
  rw [hd] at hk
  simp only [List.map_cons, List.map_nil, Rows.uptoBulk, Rows.uptoBulkAll] at hk
  refine ⟨rest, a, len, cap, l, rfl, hl1, ?_, hl3⟩
  rcases hl4 with ⟨h2, _⟩ | ⟨es, sp, h2, h3⟩
  · omega
  · rw [h2] at hk
    have := bulk_slice (H := H) es sp
    omega
end Go.Proofs.Ytkckkchnmgidgaa
