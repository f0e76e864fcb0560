/-
  These texts, one behind the other: PByD, PByE.
-/
import Derived.Test.YtnhcbcbceaeceaaPPutI
import Derived.Deep.Slices
import Derived.OpenShut
import Derived.ChangeSlices
import Derived.Test.YtnhcbcbceaeceaaPByC
import Derived.Test.YtnhcbcbceaeceaaPoQk
import Derived.OwnWalk
/-
  PointsByPoint: arguments: a list of steps, a list of runes.
-/
namespace Go.Proofs.Ytnhcbcbceaeceaa
open Go.RowKit Go.PlainAid Go.Lib Go.PRow Go.Shelf Go.Deep
set_option linter.unusedVariables false
set_option linter.unusedSimpArgs false

theorem stepFields : ∃ f0 f1 f2 f3 f4 f5 f6 : Field, Try.prog.underlying 30 = some (.struct #[f0, f1, f2, f3, f4, f5, f6]) ∧ [f0.offset, f1.offset, f2.offset, f3.offset, f4.offset, f5.offset, f6.offset] = [0, 1, 2, 3, 4, 5, 7] ∧ [f0.type, f5.type] = [3, 28] :=
  ⟨_, _, _, _, _, _, _, Try.underlying30, rfl, rfl⟩
theorem stepCells : Try.prog.cellsOf 30 = 8 := by kernel_rfl
theorem rangeFields : ∃ f0 f1 : Field, Try.prog.underlying 28 = some (.struct #[f0, f1]) ∧ [f0.offset, f1.offset] = [0, 1] ∧ [f0.type, f1.type] = [21, 21] :=
  ⟨_, _, Try.underlying28, rfl, rfl⟩
theorem rangeCells : Try.prog.cellsOf 28 = 2 := by kernel_rfl

theorem list2R {α : Type} {l : List α} (h : l.length = 2) : ∃ a b : α, l = [a, b] := by
  obtain ⟨a, l, rfl⟩ := List.exists_cons_of_length_eq_add_one h
  obtain ⟨b, l, rfl⟩ := List.exists_cons_of_length_eq_add_one (Nat.succ.inj h)
  obtain rfl : l = [] := List.eq_nil_of_length_eq_zero (by simp at h; simpa using h)
  exact ⟨_, _, rfl⟩
theorem list7R {α : Type} {l : List α} (h : l.length = 7) : ∃ a b c d e f g : α, l = [a, b, c, d, e, f, g] := by
  match l, h with
  | [a, b, c, d, e, f, g], _ => exact ⟨_, _, _, _, _, _, _, rfl⟩
theorem list8R {α : Type} {l : List α} (h : l.length = 8) : ∃ a b c d e f g i : α, l = [a, b, c, d, e, f, g, i] := by
  match l, h with
  | [a, b, c, d, e, f, g, i], _ => exact ⟨_, _, _, _, _, _, _, _, rfl⟩

theorem range_of_cells {H : Type} {enc : TypeId × Value → H} {W : World} {base : Nat} {sp : Nat → Bool} {held : Bool} {fuel : Nat} {cs : List Value} {x : DataW H × List MemPlace} (h : DataW.trod enc Try.prog W base sp held fuel 28 cs = some x) : ∃ lo hi : Int, cs = [.int .i32 lo, .int .i32 hi] := by
  obtain ⟨f0, f1, hu, ho, hty⟩ := rangeFields
  simp only [List.cons.injEq, and_true] at ho hty
  obtain ⟨o0, o1⟩ := ho
  obtain ⟨t0, t1⟩ := hty
  obtain ⟨xs, k, _, hxy, hl, hxl, hf⟩ := DataW.trod_struct hu h
  rw [rangeCells] at hl
  have c_int32 : Try.prog.cellsOf 21 = 1 := by kernel_rfl
  obtain ⟨v0, v1, rfl⟩ := list2R hl
  obtain ⟨y0, y1, rfl⟩ := list2R (show xs.length = 2 from hxl)
  have g0 := hf 0 f0 rfl
  rw [o0, t0, c_int32] at g0
  obtain ⟨n0, e0, _, w0⟩ := DataW.trod_int Try.underlying21 g0
  simp at e0
  subst e0
  have g1 := hf 1 f1 rfl
  rw [o1, t1, c_int32] at g1
  obtain ⟨n1, e1, _, w1⟩ := DataW.trod_int Try.underlying21 g1
  simp at e1
  subst e1
  exact ⟨n0, n1, rfl⟩

/-- what the law looks at in a step: what to do, and the range -/
theorem step_of_cells {H : Type} {enc : TypeId × Value → H} {W : World} {base : Nat} {sp : Nat → Bool} {held : Bool} {fuel : Nat} {cs : List Value} {x : DataW H × List MemPlace} (h : DataW.trod enc Try.prog W base sp held fuel 30 cs = some x) : cs.length = 8 ∧ ∃ d lo hi : Int, cs[0]? = some (.int .i64 d) ∧ cs[5]? = some (.int .i32 lo) ∧ cs[6]? = some (.int .i32 hi) := by
  obtain ⟨f0, f1, f2, f3, f4, f5, f6, hu, ho, hty⟩ := stepFields
  simp only [List.cons.injEq, and_true] at ho hty
  obtain ⟨o0, o1, o2, o3, o4, o5, o6⟩ := ho
  obtain ⟨t0, t5⟩ := hty
  obtain ⟨xs, k, _, hxy, hl, hxl, hf⟩ := DataW.trod_struct hu h
  rw [stepCells] at hl
  have c_int : Try.prog.cellsOf 3 = 1 := by kernel_rfl
  obtain ⟨v0, v1, v2, v3, v4, v5, v6, v7, rfl⟩ := list8R hl
  obtain ⟨y0, y1, y2, y3, y4, y5, y6, rfl⟩ := list7R (show xs.length = 7 from hxl)
  have g0 := hf 0 f0 rfl
  rw [o0, t0, c_int] at g0
  obtain ⟨n0, e0, _, w0⟩ := DataW.trod_int Try.underlying3 g0
  simp at e0
  subst e0
  have g5 := hf 5 f5 rfl
  rw [o5, t5, rangeCells] at g5
  obtain ⟨lo, hi, e5⟩ := range_of_cells g5
  simp at e5
  obtain ⟨rfl, rfl⟩ := e5
  exact ⟨rfl, n0, lo, hi, rfl, rfl, rfl⟩

/-- a list of steps that came in -/
def ReadsS4 (w : World) (a : Option Addr) (L : List (Int × Int × Int)) : Prop := ∀ (i : Nat) (d lo hi : Int), L[i]? = some (d, lo, hi) → ∃ g off, a = some ⟨g, off, none⟩ ∧ w.cell? ⟨g, off + i * 8, none⟩ = some (.int .i64 d) ∧ w.cell? ⟨g, off + i * 8 + 5, none⟩ = some (.int .i32 lo) ∧ w.cell? ⟨g, off + i * 8 + 6, none⟩ = some (.int .i32 hi)
theorem ReadsS4.below {w W : World} {a : Option Addr} {L : List (Int × Int × Int)} (h : ReadsS4 w a L) (hb : Below w.heap.size w W) : ReadsS4 W a L := fun i d lo hi e => by
  obtain ⟨g, off, rfl, h1, h2, h3⟩ := h i d lo hi e
  exact ⟨g, off, rfl, (hb.cell (World.block_lt_of_cell? _ _ h1)).trans h1, (hb.cell (World.block_lt_of_cell? _ _ h2)).trans h2, (hb.cell (World.block_lt_of_cell? _ _ h3)).trans h3⟩
theorem open_steps {H : Type} {enc : TypeId × Value → H} {W : World} {base : Nat} {held : Bool} {fuel : Nat} {a : Option Addr} {len cap : Nat} {x : DataW H × List MemPlace}
    (h : DataW.trod enc Try.prog W base (fun _ => true) held fuel 22 (Value.slice a len cap).cells.toList = some x) : ∃ L : List (Int × Int × Int), L.length = len ∧ ReadsS4 W a L := by
  rcases open_slice Try.underlying22 h with ⟨hcs, hx⟩ | ⟨b, l, c, m, n, D, Pl, hcs, hb, hl, hm, hmm, hx, hcell⟩
  · simp [Value.cells] at hcs
    obtain ⟨rfl, rfl, rfl⟩ := hcs
    exact ⟨[], rfl, fun i d lo hi e => by simp at e⟩
  · simp [Value.cells] at hcs
    obtain ⟨rfl, rfl, rfl⟩ := hcs
    have hmm' : m = cap := by simpa using hmm
    subst hmm'
    have each : ∀ i, i < len → ∃ r : Int × Int × Int, W.cell? (b.add (i * 8)) = some (.int .i64 r.1) ∧ W.cell? (b.add (i * 8 + 5)) = some (.int .i32 r.2.1) ∧ W.cell? (b.add (i * 8 + 6)) = some (.int .i32 r.2.2) := by
      intro i hi
      obtain ⟨cs', h1, h2⟩ := hcell i (by omega)
      rw [stepCells] at h1
      obtain ⟨hl8, d, lo, hi', e0, e5, e6⟩ := step_of_cells h2
      obtain ⟨_, hlen, hce⟩ := World.cells?_some h1
      refine ⟨(d, lo, hi'), ?_, ?_, ?_⟩
      · have := hce 0 (by omega); rw [add_add, e0] at this; simpa using this
      · have := hce 5 (by omega); rw [add_add, e5] at this; simpa using this
      · have := hce 6 (by omega); rw [add_add, e6] at this; simpa using this
    have inh : Inhabited (Int × Int × Int) := ⟨(0, 0, 0)⟩
    obtain ⟨q, hq⟩ := choose_lt each
    obtain ⟨g, off, spot⟩ := b
    refine ⟨(List.range len).map q, by simp, fun i d lo hi e => ?_⟩
    rw [List.getElem?_map] at e
    obtain ⟨i', hi', e⟩ := Option.map_eq_some_iff.1 e
    obtain ⟨hil, rfl⟩ := List.getElem?_eq_some_iff.1 hi'
    simp only [List.length_range, List.getElem_range] at hil e
    have hspot : spot = none := by simpa [Addr.add] using World.cell?_spot (hq 0 (by omega)).1
    subst hspot
    obtain ⟨k0, k5, k6⟩ := hq i hil
    rw [e] at k0 k5 k6
    refine ⟨g, off, rfl, ?_, ?_, ?_⟩
    · rw [← Go.WideShapes.add_plain]; exact k0
    · rw [Nat.add_assoc, ← Go.WideShapes.add_plain]; exact k5
    · rw [Nat.add_assoc, ← Go.WideShapes.add_plain]; exact k6

/-- a list of runes that came in -/
def ReadsR4 (w : World) (a : Option Addr) (L : List Int) : Prop := L = [] ∨ ∃ g off, a = some ⟨g, off, none⟩ ∧ ∀ (i : Nat) (b : Int), L[i]? = some b → w.cell? ⟨g, off + i, none⟩ = some (.int .i32 b)
theorem ReadsR4.below {w W : World} {a : Option Addr} {L : List Int} (h : ReadsR4 w a L) (hb : Below w.heap.size w W) : ReadsR4 W a L := by
  rcases h with h | ⟨g, off, rfl, h⟩
  · exact .inl h
  · exact .inr ⟨g, off, rfl, fun i b e => (hb.cell (World.block_lt_of_cell? _ _ (h i b e))).trans (h i b e)⟩
theorem open_runes4 {H : Type} {enc : TypeId × Value → H} {W : World} {base : Nat} {held : Bool} {fuel : Nat} {a : Option Addr} {len cap : Nat} {x : DataW H × List MemPlace}
    (h : DataW.trod enc Try.prog W base (fun _ => true) held fuel 23 (Value.slice a len cap).cells.toList = some x) : ∃ L : List Int, L.length = len ∧ ReadsR4 W a L := by
  by_cases h0 : len = 0
  · exact ⟨[], h0.symm, .inl rfl⟩
  rcases Go.ChangeShapes.open_ints Try.underlying23 Try.underlying21 (by kernel_rfl) h with ⟨hcs, _⟩ | ⟨b, l, c, zs, hcs, _, hl, hm, hz, hx, hcell, hwz⟩
  · simp [Value.cells] at hcs
    obtain ⟨rfl, rfl, rfl⟩ := hcs
    exact absurd rfl h0
  · simp [Value.cells] at hcs
    obtain ⟨rfl, rfl, rfl⟩ := hcs
    have hz' : zs.length = cap := by simpa using hz
    have hspot : b.spot = none := by
      have := World.cell?_spot (hcell 0 (by omega))
      obtain ⟨g, off, spot⟩ := b
      simpa [Addr.add] using this
    obtain ⟨g, off, spot⟩ := b
    simp only at hspot
    subst hspot
    refine ⟨zs.take len, by rw [List.length_take]; omega, .inr ⟨g, off, rfl, fun i b' e => ?_⟩⟩
    have hil : i < len := by
      have := (List.getElem?_eq_some_iff.1 e).1
      rw [List.length_take] at this
      omega
    rw [List.getElem?_take, if_pos hil] at e
    have hc := hcell i (by omega)
    rw [List.getD_eq_getElem?_getD, e, Option.getD_some] at hc
    rw [← Go.WideShapes.add_plain]; exact hc
end Go.Proofs.Ytnhcbcbceaeceaa
/-
  PointsByPoint: what a step does to the map; the law's lists beside it.
-/
namespace Go.Proofs.Ytnhcbcbceaeceaa
open Go.RowKit Go.PlainAid Go.Lib Go.PRow Go.Shelf
set_option linter.unusedVariables false
set_option linter.unusedSimpArgs false

/-- the cells of a list of runes -/
def intsR (L : List Int) : List Value := L.map (.int .i32)
theorem intsR_len (L : List Int) : (intsR L).length = L.length := by simp [intsR]
theorem intsR_one (L : List Int) : ∀ u ∈ intsR L, u.oneCell' = true := by
  intro u hu
  obtain ⟨x, _, rfl⟩ := List.mem_map.1 hu
  rfl
theorem infoR : (Try.prog.info? 21).map (fun i => (i.zero, i.size, i.bytes)) = some (some (.int .i32 0), 1, 4) := by kernel_rfl
theorem infoI4 : (Try.prog.info? 3).map (fun i => (i.zero, i.size, i.bytes)) = some (some (.int .i64 0), 1, 8) := by kernel_rfl
theorem infoB4 : (Try.prog.info? 4).map (fun i => (i.zero, i.size, i.bytes)) = some (some (.bool false), 1, 1) := by kernel_rfl

/-- what came in, laid behind nothing -/
theorem wpList_look {ops : Array Oper} {rest : List Oper} {o : Oper} {a : Act} {Q : Exit → Act → World → Prop} {w : World} (hgd : o.guard = none) (s x : Operand)
    (ho : o.op = .call { callee := .builtin .append, args := #[s, x], argTypes := #[23, 23] }) (B : Nat) (hB : B ≤ w.heap.size) (aa : Option Addr) (c : Nat) (L : List Int) (n : Nat) (hn : L.length = n)
    (hs : a.eval s = .slice none 0 0) (hx : a.eval x = .slice aa n c) (hL : ReadsR4 w aa L) (hl : n ≤ 100)
    (h : ∀ v' w', w'.ownsRow B 21 1 v' n (intsR L) → w.grownBy w' none → wpList Try.prog ops Q rest (a.put o.dst v') w') : wpList Try.prog ops Q (o :: rest) a w := by
  subst hn
  obtain ⟨i0, hi0, hz0, hz1, hz2⟩ := info_parts infoR
  have key : ∀ ad, aa = some ad → (∀ j u, (intsR L)[j]? = some u → w.cell? (ad.add j) = some u) → wpList Try.prog ops Q (o :: rest) a w := by
    intro ad had hc
    subst had
    refine wpList_append_own w hgd s x 23 ho B 21 i0 (.int .i32 0) 1 4 Try.underlying23 hi0 hz0 hz1 hz2 rfl (by decide) _ 0 [] hs (World.ownsRow_nil w B _ _) ad L.length c (intsR L) hx (by rw [intsR_len]; omega) hc (intsR_one L) (by unfold maxLen; omega) (by omega) hB ?_
    intro v' w' h1 h2 _
    exact h v' w' (by simpa using h1) h2
  rcases hL with rfl | ⟨g, off, ha, hc⟩
  · cases aa with
    | some ad => exact key ad rfl (fun j u e => by simp [intsR] at e)
    | none =>
      refine wpList_plain hgd fun K hK => ?_
      unfold Oper.wp execOp
      have hr := run_append_none w 23 23 o.type 21 i0 Try.underlying23 hi0 none 0 0 (.slice none 0 c) (Src.ofNil w Try.underlying23 c) (Nat.le_refl _)
      have hx' : a.eval x = .slice none 0 c := hx
      simp only [ho, resolve, invoke, builtin, Sem.run_bind, Sem.run_pure, Result.andThen_ok, List.map_toArray, List.map_cons, List.map_nil, hs, hx', hr]
      exact hK _ _ (h _ _ (World.ownsRow_nil w B _ _) ⟨rfl, rfl, rfl, Nat.le_refl _, fun _ _ _ => rfl⟩)
  · refine key _ ha fun j u e => ?_
    unfold intsR at e
    rw [List.getElem?_map] at e
    obtain ⟨x', hx', rfl⟩ := Option.map_eq_some_iff.1 e
    rw [Go.WideShapes.add_plain]
    exact hc j x' hx'

/-- what one step makes of a map: z is the program's answer -/
def StepTo (ps ps' : List (Pc Int)) (d lo hi i z : Int) : Prop := OkP ps' ∧ ∀ x, atP ps' x = if z = 0 ∧ (lo ≤ x ∧ x ≤ hi) then (if d = 2 then none else some i) else atP ps x
theorem StepTo.no {ps : List (Pc Int)} (o : OkP ps) (d lo hi i z : Int) (hz : z ≠ 0) : StepTo ps ps d lo hi i z := ⟨o, fun x => by rw [if_neg (fun h => hz h.1)]⟩
theorem StepTo.over {ps : List (Pc Int)} (o : OkP ps) {d lo hi i : Int} (hm : mayB lo hi = true) (hd : d ≠ 2) : StepTo ps (repP ps lo hi [⟨lo, hi, i⟩]) d lo hi i 0 := by
  have m := mayB_iff.1 hm
  refine ⟨rep_ok o m.1 m.2.1 m.2.2 (.inr ⟨i, rfl⟩), fun x => ?_⟩
  rw [at_over o m.2.1, if_neg hd]
  by_cases hx : lo ≤ x ∧ x ≤ hi
  · rw [if_pos hx, if_pos ⟨rfl, hx⟩]
  · rw [if_neg hx, if_neg (fun h => hx h.2)]
theorem StepTo.cut {ps : List (Pc Int)} (o : OkP ps) {lo hi i : Int} (hm : mayB lo hi = true) : StepTo ps (repP ps lo hi []) 2 lo hi i 0 := by
  have m := mayB_iff.1 hm
  refine ⟨rep_ok o m.1 m.2.1 m.2.2 (.inl rfl), fun x => ?_⟩
  rw [at_cut o m.2.1, if_pos rfl]
  by_cases hx : lo ≤ x ∧ x ≤ hi
  · rw [if_pos hx, if_pos ⟨rfl, hx⟩]
  · rw [if_neg hx, if_neg (fun h => hx h.2)]

theorem row_blk4 {W : World} {B : Nat} {v : Value} {ps : List (Pc Int)} (h : VI.RowP W B v ps) {g : Nat} (hg : blk v = some g) : ∃ cur, W.heap[g]? = some (.cells cur 60 (0, 0)) := by
  rcases h.2 with ⟨a, rfl, hn⟩ | ⟨g', cap, cur, rfl, hb, hh, hc, hm, hs, ht⟩
  · rw [blk_zero] at hg; cases hg
  · have e : g' = g := by
      by_cases hc0 : cap = 0
      · subst hc0; rw [blk_zero] at hg; cases hg
      · rw [VI.blk_pos (by omega)] at hg; exact Option.some.inj hg
    subst e
    exact ⟨cur, hh⟩

/-- what the map's parts do not hold stays -/
def Stays (b : Nat) (w w' : World) : Prop := w.heap.size ≤ w'.heap.size ∧ ∀ (k : Nat) (cur : Array Value) (T : TypeId), w.heap[k]? = some (.cells cur T (0, 0)) → T ≠ 60 → k ≠ b → w'.heap[k]? = some (.cells cur T (0, 0))
theorem Stays.below {b : Nat} {w w' : World} (h : Below w.heap.size w w') : Stays b w w' := ⟨h.size, fun k cur T hk _ _ => (h.block k (Array.getElem?_eq_some_iff.1 hk).1).trans hk⟩

/-- how a step of the map at b ends -/
def StepEnd (ps : List (Pc Int)) (d lo hi i : Int) (B b : Nat) (w : World) (z : Int) (w' : World) : Prop :=
  ∃ v' ps', StepTo ps ps' d lo hi i z ∧ VI.IsMap w' b v' ∧ VI.RowP w' B v' ps' ∧ Stays b w w' ∧ ∀ A, Below B A w → Below B A w'
theorem StepEnd.same {ps : List (Pc Int)} {d lo hi i : Int} {B b : Nat} {w : World} {z : Int} {w' : World} {v : Value} (o : OkP ps) (h : VI.IsMap w b v) (hr : VI.RowP w B v ps) (hB : B ≤ w.heap.size) (hz : z ≠ 0) (hb : Below w.heap.size w w') : StepEnd ps d lo hi i B b w z w' :=
  ⟨v, ps, .no o _ _ _ _ _ hz, h.below hb, hr.below hb, .below hb, fun A hA => hA.trans (hb.mono hB)⟩
theorem StepEnd.moved {ps ps' : List (Pc Int)} {d lo hi i : Int} {B b : Nat} {w : World} {z : Int} {w' : World} {v v' : Value} (hs : StepTo ps ps' d lo hi i z) (hr : VI.RowP w B v ps) (hB : B ≤ w.heap.size) (hbB : B ≤ b) (hr' : VI.RowP w' B v' ps') (hm : VI.Moved w w' b v v') : StepEnd ps d lo hi i B b w z w' := by
  refine ⟨v', ps', hs, hm.1, hr', ⟨hm.2.1.size, fun k cur T hk hT hkb => (hm.2.1.block k (Array.getElem?_eq_some_iff.1 hk).1 (fun e => ?_)).trans hk⟩, fun A hA => hm.2.1.below hA hB (fun k hk => ?_)⟩
  · rcases e with e | e
    · exact hkb e
    · obtain ⟨cur', hc⟩ := row_blk4 hr e
      rw [hk] at hc
      exact hT (by injection (Option.some.inj hc))
  · rcases hk with rfl | hk
    · exact hbB
    · exact (RowV.lt hr k hk).1

theorem step_put (b : Nat) (v : Value) (B : Nat) (ps : List (Pc Int)) (o : OkP ps) (lo hi x : Int) (w : World) (h : VI.IsMap w b v) (hB : B ≤ w.heap.size) (hbB : B ≤ b) (hr : VI.RowP w B v ps) :
    Calls Try.prog 6 #[.pointer (some ⟨b, 0, none⟩), .agg #[.int .i32 lo, .int .i32 hi], .int .i64 x] w fun e w' => ∃ z : Int, e = .returned (.int .i64 z) ∧ StepEnd ps 0 lo hi x B b w z w' := by
  cases hm : mayB lo hi with
  | false => exact (VI.put_no b v lo hi hm x w h).mono fun e w' ⟨h1, h2⟩ => ⟨_, h1, .same o h hr hB (by decide) h2⟩
  | true =>
    refine (VI.put_may b v B ps o lo hi hm x w h hB hr).mono fun e w' h' => ?_
    unfold VI.PutEnd at h'
    split at h'
    · exact ⟨_, h'.1, .same o h hr hB (by decide) h'.2⟩
    · obtain ⟨h1, v', h2, h3⟩ := h'
      exact ⟨_, h1, .moved (.over o hm (by decide)) hr hB hbB h2 h3⟩
theorem step_lay (b : Nat) (v : Value) (B : Nat) (ps : List (Pc Int)) (o : OkP ps) (lo hi x : Int) (w : World) (h : VI.IsMap w b v) (hB : B ≤ w.heap.size) (hbB : B ≤ b) (hr : VI.RowP w B v ps) :
    Calls Try.prog 7 #[.pointer (some ⟨b, 0, none⟩), .agg #[.int .i32 lo, .int .i32 hi], .int .i64 x] w fun e w' => ∃ z : Int, e = .returned (.int .i64 z) ∧ StepEnd ps 1 lo hi x B b w z w' := by
  cases hm : mayB lo hi with
  | false => exact (VI.lay_no b v lo hi hm x w h).mono fun e w' ⟨h1, h2⟩ => ⟨_, h1, .same o h hr hB (by decide) h2⟩
  | true =>
    refine (VI.lay_ok b v B ps o lo hi hm x w h hB hr).mono fun e w' ⟨h1, v', h2, h3⟩ => ⟨_, h1, .moved (.over o hm (by decide)) hr hB hbB h2 h3⟩
theorem step_cut (b : Nat) (v : Value) (B : Nat) (ps : List (Pc Int)) (o : OkP ps) (lo hi i : Int) (w : World) (h : VI.IsMap w b v) (hB : B ≤ w.heap.size) (hbB : B ≤ b) (hr : VI.RowP w B v ps) :
    Calls Try.prog 8 #[.pointer (some ⟨b, 0, none⟩), .agg #[.int .i32 lo, .int .i32 hi]] w fun e w' => ∃ y z : Int, e = .returned (.tuple #[.int .i64 y, .int .i64 z]) ∧ StepEnd ps 2 lo hi i B b w z w' := by
  cases hm : mayB lo hi with
  | false => exact (VI.cut_no b v lo hi hm w h).mono fun e w' ⟨h1, h2⟩ => ⟨_, _, h1, .same o h hr hB (by decide) h2⟩
  | true =>
    refine (VI.cut_ok b v B ps o lo hi hm w h hB hr).mono fun e w' ⟨h1, v', h2, h3⟩ => ⟨_, _, h1, .moved (.cut o hm) hr hB hbB h2 h3⟩

/-- what the law has noted of a number that is looked at: its value, and whether there is one -/
def Agree (ps : List (Pc Int)) (x z : Int) (h : Bool) : Prop := h = (atP ps x).isSome ∧ ∀ u, atP ps x = some u → z = u
theorem Agree.step {ps ps' : List (Pc Int)} {d lo hi i z y v : Int} {h : Bool} (hs : StepTo ps ps' d lo hi i z) (ha : Agree ps y v h) :
    (z = 0 ∧ (lo ≤ y ∧ y ≤ hi) → Agree ps' y i (decide (d ≠ 2))) ∧ (¬ (z = 0 ∧ (lo ≤ y ∧ y ≤ hi)) → Agree ps' y v h) := by
  have e := hs.2 y
  constructor
  · intro hc
    rw [if_pos hc] at e
    by_cases hd : d = 2
    · rw [if_pos hd] at e
      exact ⟨by rw [e]; simp [hd], fun u hu => by rw [e] at hu; cases hu⟩
    · rw [if_neg hd] at e
      exact ⟨by rw [e]; simp [hd], fun u hu => by rw [e] at hu; exact Option.some.inj hu⟩
  · intro hc
    rw [if_neg hc] at e
    exact ⟨by rw [e]; exact ha.1, fun u hu => ha.2 u (by rw [← e]; exact hu)⟩

/-- the two lists of what was noted; R: what is known of the j-th -/
def VH (gv gh n : Nat) (R : Nat → Int → Bool → Prop) (V : World) : Prop :=
  ∃ cv ch : Array Value, V.heap[gv]? = some (.cells cv 3 (0, 0)) ∧ V.heap[gh]? = some (.cells ch 4 (0, 0)) ∧ ∀ j, j < n → ∃ z h, cv[j]? = some (.int .i64 z) ∧ ch[j]? = some (.bool h) ∧ R j z h
theorem VH.ne {gv gh n : Nat} {R : Nat → Int → Bool → Prop} {V : World} (h : VH gv gh n R V) : gv ≠ gh := by
  obtain ⟨cv, ch, h1, h2, _⟩ := h
  rintro rfl
  rw [h1] at h2
  have := Option.some.inj h2
  injection this with _ e
  revert e
  decide
theorem VH.at {gv gh n : Nat} {R : Nat → Int → Bool → Prop} {V : World} (h : VH gv gh n R V) {j : Nat} (hj : j < n) : ∃ z b, R j z b ∧ V.cell? ⟨gv, j, none⟩ = some (.int .i64 z) ∧ V.cell? ⟨gh, j, none⟩ = some (.bool b) ∧ V.frozen? ⟨gv, j, none⟩ = false ∧ V.frozen? ⟨gh, j, none⟩ = false := by
  obtain ⟨cv, ch, h1, h2, h3⟩ := h
  obtain ⟨z, b, k1, k2, k3⟩ := h3 j hj
  exact ⟨z, b, k3, by simpa [World.cell?, h1] using k1, by simpa [World.cell?, h2] using k2, by simp [World.frozen?, h1], by simp [World.frozen?, h2]⟩
theorem VH.weak {gv gh n : Nat} {R R' : Nat → Int → Bool → Prop} {V : World} (h : VH gv gh n R V) (hR : ∀ j z b, j < n → R j z b → R' j z b) : VH gv gh n R' V := by
  obtain ⟨cv, ch, h1, h2, h3⟩ := h
  refine ⟨cv, ch, h1, h2, fun j hj => ?_⟩
  obtain ⟨z, b, k1, k2, k3⟩ := h3 j hj
  exact ⟨z, b, k1, k2, hR j z b hj k3⟩
theorem VH.stays {gv gh n : Nat} {R : Nat → Int → Bool → Prop} {V V' : World} (h : VH gv gh n R V) (hs : ∀ (k : Nat) (cur : Array Value) (T : TypeId), V.heap[k]? = some (.cells cur T (0, 0)) → T = 3 ∨ T = 4 → V'.heap[k]? = some (.cells cur T (0, 0))) : VH gv gh n R V' := by
  obtain ⟨cv, ch, h1, h2, h3⟩ := h
  exact ⟨cv, ch, hs _ _ _ h1 (.inl rfl), hs _ _ _ h2 (.inr rfl), h3⟩
theorem VH.put {gv gh n : Nat} {R R' : Nat → Int → Bool → Prop} {V : World} (h : VH gv gh n R V) {j : Nat} (hj : j < n) (x : Int) (y : Bool) (hx : R' j x y) (hR : ∀ k z b, k < n → k ≠ j → R k z b → R' k z b) :
    VH gv gh n R' ((V.setCell ⟨gv, j, none⟩ (.int .i64 x)).setCell ⟨gh, j, none⟩ (.bool y)) := by
  have hne := h.ne
  obtain ⟨cv, ch, h1, h2, h3⟩ := h
  have e1 : (V.setCell ⟨gv, j, none⟩ (.int .i64 x)).heap[gv]? = some (.cells (cv.setIfInBounds j (.int .i64 x)) 3 (0, 0)) := by
    rw [setCell_eq_setRow V gv j _ _ _ _ h1]
    exact setRow_heap V gv _ _ _ _ h1
  have e2 : (V.setCell ⟨gv, j, none⟩ (.int .i64 x)).heap[gh]? = some (.cells ch 4 (0, 0)) := (Below.heap_setCell _ _ _ _ (fun e => hne e.symm)).trans h2
  refine ⟨_, _, (Below.heap_setCell _ _ _ _ hne).trans e1, by
    rw [setCell_eq_setRow _ gh j _ _ _ _ e2]
    exact setRow_heap _ gh _ _ _ _ e2, fun k hk => ?_⟩
  obtain ⟨z, b, k1, k2, k3⟩ := h3 k hk
  by_cases hkj : k = j
  · subst hkj
    refine ⟨x, y, ?_, ?_, hx⟩
    · rw [Array.getElem?_setIfInBounds, if_pos rfl, if_pos (Array.getElem?_eq_some_iff.1 k1).1]
    · rw [Array.getElem?_setIfInBounds, if_pos rfl, if_pos (Array.getElem?_eq_some_iff.1 k2).1]
  · exact ⟨z, b, by rw [Array.getElem?_setIfInBounds, if_neg (fun e => hkj e.symm)]; exact k1, by rw [Array.getElem?_setIfInBounds, if_neg (fun e => hkj e.symm)]; exact k2, hR k z b hk hkj k3⟩

/-- the list of numbers that are looked at -/
def LookAt (V : World) (a : Option Addr) (ls : List Int) : Prop := ∀ (j : Nat) (x : Int), ls[j]? = some x → ∃ g cur, a = some ⟨g, 0, none⟩ ∧ V.heap[g]? = some (.cells cur 21 (0, 0)) ∧ cur[j]? = some (.int .i32 x)
theorem LookAt.stays {V V' : World} {a : Option Addr} {ls : List Int} (h : LookAt V a ls) (hs : ∀ (k : Nat) (cur : Array Value), V.heap[k]? = some (.cells cur 21 (0, 0)) → V'.heap[k]? = some (.cells cur 21 (0, 0))) : LookAt V' a ls := fun j x hj => by
  obtain ⟨g, cur, rfl, h1, h2⟩ := h j x hj
  exact ⟨g, cur, rfl, hs _ _ h1, h2⟩
theorem _root_.Go.World.ownsRow.blockOf {V : World} {B k n : Nat} {T : TypeId} {v : Value} {xs : List Value} (h : V.ownsRow B T k v n xs) {g : Nat} (hg : v.ownBlock = some g) : ∃ cur, V.heap[g]? = some (.cells cur T (0, 0)) := by
  rcases h.2 with ⟨rfl, hk0⟩ | ⟨g', cap, cur, rfl, hb', hh, hc1, hc2, hc3, hc4⟩
  · cases hg
  · cases hg
    exact ⟨cur, hh⟩
theorem look_of {V : World} {B : Nat} {v : Value} {ls : List Int} (h : V.ownsRow B 21 1 v ls.length (intsR ls)) : ∃ a c, v = .slice a ls.length c ∧ LookAt V a ls := by
  rcases h.2 with ⟨rfl, hk0⟩ | ⟨g, cap, cur, rfl, hb', hh, hc1, hc2, hc3, hc4⟩
  · exact ⟨none, 0, by rw [hk0], fun j x hj => by rw [List.length_eq_zero_iff.1 hk0] at hj; simp at hj⟩
  · refine ⟨_, cap, rfl, fun j x hj => ⟨g, cur, rfl, hh, ?_⟩⟩
    have hjl := (List.getElem?_eq_some_iff.1 hj).1
    have e : (intsR ls)[j]? = some (.int .i32 x) := by unfold intsR; rw [List.getElem?_map, hj]; rfl
    rw [← hc4, List.getElem?_take, if_pos (by omega)] at e
    simpa using e

/-- all that the law's loops keep -/
def StP (w : World) (b gv gh : Nat) (a : Option Addr) (ls : List Int) (R : Nat → Int → Bool → Prop) (ps : List (Pc Int)) (V : World) : Prop :=
  OkP ps ∧ (∃ u, VI.IsMap V b u ∧ VI.RowP V w.heap.size u ps) ∧ LookAt V a ls ∧ VH gv gh ls.length R V ∧ Below w.heap.size w V ∧ w.heap.size ≤ b ∧ w.heap.size ≤ gv ∧ w.heap.size ≤ gh
theorem StP.below {w : World} {b gv gh : Nat} {a : Option Addr} {ls : List Int} {R : Nat → Int → Bool → Prop} {ps : List (Pc Int)} {V V' : World} (h : StP w b gv gh a ls R ps V) (hb : Below V.heap.size V V') : StP w b gv gh a ls R ps V' := by
  obtain ⟨h1, ⟨u, h2, h3⟩, h4, h5, h6, h7⟩ := h
  have hk : ∀ (k : Nat) (cur : Array Value) (T : TypeId), V.heap[k]? = some (.cells cur T (0, 0)) → V'.heap[k]? = some (.cells cur T (0, 0)) := fun k cur T e => (hb.block k (Array.getElem?_eq_some_iff.1 e).1).trans e
  exact ⟨h1, ⟨u, h2.below hb, h3.below hb⟩, h4.stays (fun k cur e => hk k cur _ e), h5.stays (fun k cur T e _ => hk k cur T e), h6.trans (hb.mono h6.size), h7⟩
theorem StP.step {w : World} {b gv gh : Nat} {a : Option Addr} {ls : List Int} {R : Nat → Int → Bool → Prop} {ps : List (Pc Int)} {V V' : World} {d lo hi i z : Int} (h : StP w b gv gh a ls R ps V) (he : StepEnd ps d lo hi i w.heap.size b V z V') :
    ∃ ps', StepTo ps ps' d lo hi i z ∧ StP w b gv gh a ls R ps' V' ∧ ∀ (k : Nat) (cur : Array Value), V.heap[k]? = some (.cells cur 28 (0, 0)) → V'.heap[k]? = some (.cells cur 28 (0, 0)) := by
  obtain ⟨h1, ⟨u, h2, h3⟩, h4, h5, h6, h7⟩ := h
  obtain ⟨v', ps', e1, e2, e3, ⟨e4, e5⟩, e6⟩ := he
  have hnb : ∀ (k : Nat) (cur : Array Value) (T : TypeId), V.heap[k]? = some (.cells cur T (0, 0)) → T ≠ 57 → k ≠ b := by
    rintro k cur T hk hT rfl
    have := h2.symm.trans hk
    injection (Option.some.inj this) with _ e
    exact hT e.symm
  have hk : ∀ (k : Nat) (cur : Array Value) (T : TypeId), V.heap[k]? = some (.cells cur T (0, 0)) → T ≠ 60 → T ≠ 57 → V'.heap[k]? = some (.cells cur T (0, 0)) := fun k cur T e t1 t2 => e5 k cur T e t1 (hnb k cur T e t2)
  refine ⟨ps', e1, ⟨e1.1, ⟨v', e2, e3⟩, h4.stays (fun k cur e => hk k cur _ e (by decide) (by decide)), h5.stays (fun k cur T e ht => hk k cur T e ?_ ?_), e6 _ h6, h7⟩, fun k cur e => hk k cur _ e (by decide) (by decide)⟩
  · rcases ht with rfl | rfl <;> decide
  · rcases ht with rfl | rfl <;> decide
theorem StP.put {w : World} {b gv gh : Nat} {a : Option Addr} {ls : List Int} {R R' : Nat → Int → Bool → Prop} {ps : List (Pc Int)} {V : World} (h : StP w b gv gh a ls R ps V) {j : Nat} (hj : j < ls.length) (x : Int) (y : Bool) (hx : R' j x y) (hR : ∀ k z b, k < ls.length → k ≠ j → R k z b → R' k z b) :
    StP w b gv gh a ls R' ps ((V.setCell ⟨gv, j, none⟩ (.int .i64 x)).setCell ⟨gh, j, none⟩ (.bool y)) ∧ ∀ (k : Nat) (cur : Array Value), V.heap[k]? = some (.cells cur 28 (0, 0)) → ((V.setCell ⟨gv, j, none⟩ (.int .i64 x)).setCell ⟨gh, j, none⟩ (.bool y)).heap[k]? = some (.cells cur 28 (0, 0)) := by
  obtain ⟨h1, ⟨u, h2, h3⟩, h4, h5, h6, h7, h8, h9⟩ := h
  have h5' := h5
  obtain ⟨cv, ch, q1, q2, _⟩ := h5'
  have hk : ∀ (k : Nat) (cur : Array Value) (T : TypeId), V.heap[k]? = some (.cells cur T (0, 0)) → T ≠ 3 → T ≠ 4 → ((V.setCell ⟨gv, j, none⟩ (.int .i64 x)).setCell ⟨gh, j, none⟩ (.bool y)).heap[k]? = some (.cells cur T (0, 0)) := by
    intro k cur T e t1 t2
    have n1 : k ≠ gv := by
      rintro rfl
      have := q1.symm.trans e
      injection (Option.some.inj this) with _ e'
      exact t1 e'.symm
    have n2 : k ≠ gh := by
      rintro rfl
      have := q2.symm.trans e
      injection (Option.some.inj this) with _ e'
      exact t2 e'.symm
    exact (Below.heap_setCell _ _ _ _ n2).trans ((Below.heap_setCell _ _ _ _ n1).trans e)
  refine ⟨⟨h1, ⟨u, hk _ _ _ h2 (by decide) (by decide), h3.kept (fun g hg => ?_)⟩, h4.stays (fun k cur e => hk k cur _ e (by decide) (by decide)), h5.put hj x y hx hR, (h6.setCell (p := ⟨gv, j, none⟩) h8 _).setCell (p := ⟨gh, j, none⟩) h9 _, h7, h8, h9⟩, fun k cur e => hk k cur _ e (by decide) (by decide)⟩
  obtain ⟨cur, hc⟩ := row_blk4 h3 hg
  rw [hk g cur _ hc (by decide) (by decide), hc]
theorem StP.weak {w : World} {b gv gh : Nat} {a : Option Addr} {ls : List Int} {R R' : Nat → Int → Bool → Prop} {ps : List (Pc Int)} {V : World} (h : StP w b gv gh a ls R ps V) (hR : ∀ j z b, j < ls.length → R j z b → R' j z b) : StP w b gv gh a ls R' ps V := by
  obtain ⟨h1, h2, h4, h5, h6⟩ := h
  exact ⟨h1, h2, h4, h5.weak hR, h6⟩
/-- what is known of the j-th number: that it agrees with the map ps' if it has been seen, else with ps -/
def R3 (ls : List Int) (ps ps' : List (Pc Int)) (k : Nat) (j : Nat) (z : Int) (h : Bool) : Prop := ∀ x, ls[j]? = some x → if j < k then Agree ps' x z h else Agree ps x z h
theorem R3.skip {ls : List Int} {ps ps' : List (Pc Int)} {d lo hi i z : Int} (hs : StepTo ps ps' d lo hi i z) {j : Nat} {x : Int} (hx : ls[j]? = some x) (hc : ¬ (z = 0 ∧ (lo ≤ x ∧ x ≤ hi))) : ∀ k y b, R3 ls ps ps' j k y b → R3 ls ps ps' (j + 1) k y b := by
  intro k y b h x' hx'
  have h' := h x' hx'
  by_cases hk : k < j
  · rw [if_pos hk] at h'
    rw [if_pos (by omega)]
    exact h'
  · rw [if_neg hk] at h'
    by_cases hkj : k = j
    · subst hkj
      rw [hx] at hx'
      cases hx'
      rw [if_pos (by omega)]
      exact (Agree.step hs h').2 hc
    · rw [if_neg (by omega)]
      exact h'
theorem R3.other {ls : List Int} {ps ps' : List (Pc Int)} {j : Nat} : ∀ k y b, k ≠ j → R3 ls ps ps' j k y b → R3 ls ps ps' (j + 1) k y b := by
  intro k y b hkj h x' hx'
  have h' := h x' hx'
  by_cases hk : k < j
  · rw [if_pos hk] at h'
    rw [if_pos (by omega)]
    exact h'
  · rw [if_neg hk] at h'
    rw [if_neg (by omega)]
    exact h'
theorem R3.here {ls : List Int} {ps ps' : List (Pc Int)} {d lo hi i z : Int} (hs : StepTo ps ps' d lo hi i z) {j : Nat} {x : Int} (hx : ls[j]? = some x) (hc : z = 0 ∧ (lo ≤ x ∧ x ≤ hi)) {y : Int} {b : Bool} (h : R3 ls ps ps' j j y b) : R3 ls ps ps' (j + 1) j i (decide (d ≠ 2)) := by
  intro x' hx'
  have h' := h x' hx'
  rw [if_neg (Nat.lt_irrefl _)] at h'
  rw [if_pos (Nat.lt_succ_self _)]
  rw [hx] at hx'
  cases hx'
  exact (Agree.step hs h').1 hc
theorem R3.done {ls : List Int} {ps ps' : List (Pc Int)} {n : Nat} : ∀ k y b, k < n → R3 ls ps ps' n k y b → R3 ls ps' ps' 0 k y b := by
  intro k y b hk h x hx
  have h' := h x hx
  rw [if_pos hk] at h'
  rw [if_neg (Nat.not_lt_zero _)]
  exact h'
theorem R3.begin {ls : List Int} {ps ps' : List (Pc Int)} : ∀ k y b, R3 ls ps ps 0 k y b → R3 ls ps ps' 0 k y b := by
  intro k y b h x hx
  have h' := h x hx
  rw [if_neg (Nat.not_lt_zero _)] at h' ⊢
  exact h'
theorem VH.at2 {gv gh n : Nat} {R : Nat → Int → Bool → Prop} {V : World} (h : VH gv gh n R V) {j : Nat} (hj : j < n) (x : Value) : (∃ b, (V.setCell ⟨gv, j, none⟩ x).cell? ⟨gh, j, none⟩ = some (.bool b)) ∧ (V.setCell ⟨gv, j, none⟩ x).frozen? ⟨gh, j, none⟩ = false := by
  have hne := h.ne
  obtain ⟨cv, ch, h1, h2, h3⟩ := h
  obtain ⟨z, b, k1, k2, k3⟩ := h3 j hj
  have e2 : (V.setCell ⟨gv, j, none⟩ x).heap[gh]? = some (.cells ch 4 (0, 0)) := (Below.heap_setCell _ _ _ _ (fun e => hne e.symm)).trans h2
  exact ⟨⟨b, by simpa [World.cell?, e2] using k2⟩, by simp [World.frozen?, e2]⟩
theorem made_at {V : World} {B g n : Nat} {T : TypeId} {z : Value} (hz : z.cells = #[z]) (h : V.ownsRow B T 1 (.slice (some ⟨g, 0, none⟩) n n) n (madeCells z.cells (n * 1)).toList) : ∃ cur : Array Value, V.heap[g]? = some (.cells cur T (0, 0)) ∧ ∀ j, j < n → cur[j]? = some z := by
  rcases h.2 with ⟨e, _⟩ | ⟨g', cap, cur, e, hb', hh, hc1, hc2, hc3, hc4⟩
  · cases e
  · injection e with e1 _ _
    injection e1 with e1
    injection e1 with e1 _ _
    subst e1
    refine ⟨cur, hh, fun j hj => ?_⟩
    rw [hz, toList_madeCells_one] at hc4
    have : (cur.toList.take (n * 1))[j]? = some z := by rw [hc4, List.getElem?_replicate, if_pos (by omega)]
    rw [List.getElem?_take, if_pos (by omega)] at this
    simpa using this
/-- the state ahead of the second loop -/
theorem st_made {w W V1 V2 : World} {b N : Nat} {a : Option Addr} {ls : List Int} (hN : ls.length = N) (hma : W.heap[b]? = some (.cells #[.bool true, .slice none 0 0] 57 (0, 0))) (hl : LookAt W a ls) (hb : Below w.heap.size w W) (hbm : w.heap.size ≤ b)
    (o1 : V1.ownsRow w.heap.size 3 1 (.slice (some ⟨W.heap.size, 0, none⟩) N N) N (madeCells (Value.int .i64 0).cells (N * 1)).toList) (g1 : W.grownBy V1 none)
    (o2 : V2.ownsRow w.heap.size 4 1 (.slice (some ⟨V1.heap.size, 0, none⟩) N N) N (madeCells (Value.bool false).cells (N * 1)).toList) (g2 : V1.grownBy V2 none) :
    StP w b W.heap.size V1.heap.size a ls (R3 ls [] [] 0) [] V2 := by
  obtain ⟨cv, hcv, hv⟩ := made_at (z := .int .i64 0) rfl o1
  obtain ⟨ch, hch, hh⟩ := made_at (z := .bool false) rfl o2
  have hk1 : ∀ (k : Nat) (o : Obj), W.heap[k]? = some o → V1.heap[k]? = some o := fun k o e => (g1.block k (Array.getElem?_eq_some_iff.1 e).1 (by simp)).trans e
  have hk2 : ∀ (k : Nat) (o : Obj), V1.heap[k]? = some o → V2.heap[k]? = some o := fun k o e => (g2.block k (Array.getElem?_eq_some_iff.1 e).1 (by simp)).trans e
  have hb1 := hb.grown g1 hb.size (fun k e => by cases e)
  have hb2 := hb1.grown g2 hb1.size (fun k e => by cases e)
  refine ⟨OkP.nil, ⟨_, hk2 _ _ (hk1 _ _ hma), RowV.nil _ _ _ _ _⟩, hl.stays (fun k cur e => hk2 _ _ (hk1 _ _ e)), ⟨cv, ch, hk2 _ _ hcv, hch, fun j hj => ⟨0, false, hv j (by omega), hh j (by omega), fun x _ => ?_⟩⟩, hb2, hbm, hb.size, hb1.size⟩
  rw [if_neg (Nat.not_lt_zero _)]
  exact ⟨rfl, fun u hu => by cases hu⟩
end Go.Proofs.Ytnhcbcbceaeceaa
