/-
  These texts, one behind the other: RwOpen, RwLaid, Bulk, RwOpen2, RwLaid7.
-/
import Derived.Test.YthjnkagepooeiaaGreatDoorRwA0
import Derived.Deep.Slices
import Derived.OpenShut
import Derived.Test.YthjnkagepooeiaaGreatDoorRwB
import Derived.Test.YthjnkagepooeiaaGreatDoorTie
import Derived.Test.YthjnkagepooeiaaGreatDoorCards
import Derived.Lib.LaidTab
import Derived.HandedShaped
import Derived.Shelf.Vars
import Derived.ProofKit
import Derived.ShutString
import Derived.ChangeOld
import Derived.LaidMore
import Derived.LaidLaws
import Derived.LaidHandle
import Derived.LaidSub
import Derived.Lay
import Derived.MakeChecks
import Derived.SevenTiedAt
import Derived.Stop.Joined
import Derived.Deep.DeepHandedRow
import Derived.Test.YthjnkagepooeiaaGreatDoorRows
import Derived.Test.YthjnkagepooeiaaGreatDoorPr
/-
  An argument that is a list of rows.
-/
namespace Go.Proofs.YthjnkagepooeiaaGreatDoor
open Go.RowKit Go.PlainAid Go.Lib Go.PHexM Go.Shelf Go.Deep
set_option linter.unusedVariables false
set_option linter.unusedSimpArgs false

theorem rowFields : ∃ f0 f1 f2 f3 f4 f5 f6 f7 f8 : Field, Tryz.prog.underlying 29 = some (.struct #[f0, f1, f2, f3, f4, f5, f6, f7, f8]) ∧ [f0.offset, f1.offset, f2.offset, f3.offset, f4.offset, f5.offset, f6.offset, f7.offset, f8.offset] = [0, 1, 2, 3, 4, 5, 6, 7, 8] ∧ [f0.type, f1.type, f2.type, f3.type, f4.type, f5.type, f6.type, f7.type, f8.type] = [3, 21, 21, 9, 9, 5, 27, 21, 4] :=
  ⟨_, _, _, _, _, _, _, _, _, Tryz.underlying29, rfl, rfl⟩
theorem rowCells : Tryz.prog.cellsOf 29 = 9 := by kernel_rfl

theorem list9 {α : Type} {l : List α} (h : l.length = 9) : ∃ a b c d e f g i j : α, l = [a, b, c, d, e, f, g, i, j] := by
  obtain ⟨a, l, rfl⟩ := List.exists_cons_of_length_eq_add_one h
  obtain ⟨b, l, rfl⟩ := List.exists_cons_of_length_eq_add_one (Nat.succ.inj h)
  obtain ⟨c, l, rfl⟩ := List.exists_cons_of_length_eq_add_one (Nat.succ.inj (Nat.succ.inj h))
  obtain ⟨d, l, rfl⟩ := List.exists_cons_of_length_eq_add_one (Nat.succ.inj (Nat.succ.inj (Nat.succ.inj h)))
  obtain ⟨e, l, rfl⟩ := List.exists_cons_of_length_eq_add_one (Nat.succ.inj (Nat.succ.inj (Nat.succ.inj (Nat.succ.inj h))))
  obtain ⟨f, l, rfl⟩ := List.exists_cons_of_length_eq_add_one (Nat.succ.inj (Nat.succ.inj (Nat.succ.inj (Nat.succ.inj (Nat.succ.inj h)))))
  obtain ⟨g, l, rfl⟩ := List.exists_cons_of_length_eq_add_one (Nat.succ.inj (Nat.succ.inj (Nat.succ.inj (Nat.succ.inj (Nat.succ.inj (Nat.succ.inj h))))))
  obtain ⟨i, l, rfl⟩ := List.exists_cons_of_length_eq_add_one (Nat.succ.inj (Nat.succ.inj (Nat.succ.inj (Nat.succ.inj (Nat.succ.inj (Nat.succ.inj (Nat.succ.inj h)))))))
  obtain ⟨j, l, rfl⟩ := List.exists_cons_of_length_eq_add_one (Nat.succ.inj (Nat.succ.inj (Nat.succ.inj (Nat.succ.inj (Nat.succ.inj (Nat.succ.inj (Nat.succ.inj (Nat.succ.inj h))))))))
  obtain rfl : l = [] := List.eq_nil_of_length_eq_zero (by simp at h; simpa using h)
  exact ⟨_, _, _, _, _, _, _, _, _, rfl⟩
instance : Inhabited RowD := ⟨zeroR⟩

theorem row_of_cells {H : Type} {enc : TypeId × Value → H} {W : World} {base : Nat} {sp : Nat → Bool} {held : Bool} {fuel : Nat} {cs : List Value} {x : DataW H × List MemPlace} (h : DataW.trod enc Tryz.prog W base sp held fuel 29 cs = some x) : ∃ r : RowD, cs = rowC r := by
  obtain ⟨f0, f1, f2, f3, f4, f5, f6, f7, f8, hu, ho, hty⟩ := rowFields
  simp only [List.cons.injEq, and_true] at ho hty
  obtain ⟨o0, o1, o2, o3, o4, o5, o6, o7, o8⟩ := ho
  obtain ⟨t0, t1, t2, t3, t4, t5, t6, t7, t8⟩ := hty
  obtain ⟨xs, k, _, hxy, hl, hxl, hf⟩ := DataW.trod_struct hu h
  rw [rowCells] at hl
  have c_api_Class : Tryz.prog.cellsOf 27 = 1 := by kernel_rfl
  have c_bool : Tryz.prog.cellsOf 4 = 1 := by kernel_rfl
  have c_int : Tryz.prog.cellsOf 3 = 1 := by kernel_rfl
  have c_int32 : Tryz.prog.cellsOf 21 = 1 := by kernel_rfl
  have c_string : Tryz.prog.cellsOf 9 = 1 := by kernel_rfl
  have c_uint8 : Tryz.prog.cellsOf 5 = 1 := by kernel_rfl
  obtain ⟨v0, v1, v2, v3, v4, v5, v6, v7, v8, rfl⟩ := list9 hl
  obtain ⟨y0, y1, y2, y3, y4, y5, y6, y7, y8, rfl⟩ := list9 (show xs.length = 9 from hxl)
  have g0 := hf 0 f0 rfl
  rw [o0, t0, c_int] at g0
  obtain ⟨n0, e0, _, _⟩ := DataW.trod_int Tryz.underlying3 g0
  simp at e0
  subst e0
  have g1 := hf 1 f1 rfl
  rw [o1, t1, c_int32] at g1
  obtain ⟨n1, e1, _, _⟩ := DataW.trod_int Tryz.underlying21 g1
  simp at e1
  subst e1
  have g2 := hf 2 f2 rfl
  rw [o2, t2, c_int32] at g2
  obtain ⟨n2, e2, _, _⟩ := DataW.trod_int Tryz.underlying21 g2
  simp at e2
  subst e2
  have g3 := hf 3 f3 rfl
  rw [o3, t3, c_string] at g3
  obtain ⟨n3, e3, _, _⟩ := DataW.trod_string Tryz.underlying9 g3
  simp at e3
  subst e3
  have g4 := hf 4 f4 rfl
  rw [o4, t4, c_string] at g4
  obtain ⟨n4, e4, _, _⟩ := DataW.trod_string Tryz.underlying9 g4
  simp at e4
  subst e4
  have g5 := hf 5 f5 rfl
  rw [o5, t5, c_uint8] at g5
  obtain ⟨n5, e5, _, _⟩ := DataW.trod_int Tryz.underlying5 g5
  simp at e5
  subst e5
  have g6 := hf 6 f6 rfl
  rw [o6, t6, c_api_Class] at g6
  obtain ⟨n6, e6, _, _⟩ := DataW.trod_int Tryz.underlying27 g6
  simp at e6
  subst e6
  have g7 := hf 7 f7 rfl
  rw [o7, t7, c_int32] at g7
  obtain ⟨n7, e7, _, _⟩ := DataW.trod_int Tryz.underlying21 g7
  simp at e7
  subst e7
  have g8 := hf 8 f8 rfl
  rw [o8, t8, c_bool] at g8
  obtain ⟨n8, e8, _⟩ := DataW.trod_bool Tryz.underlying4 g8
  simp at e8
  subst e8
  exact ⟨⟨n0, n1, n2, n3.data.toList, n4.data.toList, n5, n6, n7, n8⟩, rfl⟩

theorem open_rows {H : Type} {enc : TypeId × Value → H} {W : World} {base : Nat} {held : Bool} {fuel : Nat} {a : Option Addr} {len cap : Nat} {x : DataW H × List MemPlace}
    (h : DataW.trod enc Tryz.prog W base (fun _ => true) held fuel 37 (Value.slice a len cap).cells.toList = some x) : ∃ rs : List RowD, rs.length = len ∧ len ≤ cap ∧ RwMem W a rs ∧ ((len = 0 ∧ x.1 = .nil) ∨ ∃ es sp, x.1 = .slice es sp ∧ es.length = len) := by
  rcases open_slice Tryz.underlying37 h with ⟨hcs, hx⟩ | ⟨b, l, c, m, n, D, Pl, hcs, hb, hl, hm, hmm, hx, hcell⟩
  · simp [Value.cells] at hcs
    obtain ⟨rfl, rfl, rfl⟩ := hcs
    exact ⟨[], rfl, Nat.le_refl _, fun i r e => by simp at e, .inl ⟨rfl, by rw [hx]⟩⟩
  · simp [Value.cells] at hcs
    obtain ⟨rfl, rfl, rfl⟩ := hcs
    have hmm' : m = cap := by simpa using hmm
    subst hmm'
    have each : ∀ i, i < len → ∃ r : RowD, ∀ j v, (rowC r)[j]? = some v → W.cell? (b.add (i * 9 + j)) = some v := by
      intro i hi
      obtain ⟨cs', h1, h2⟩ := hcell i (by omega)
      rw [rowCells] at h1
      obtain ⟨r, rfl⟩ := row_of_cells h2
      obtain ⟨_, hlen, hce⟩ := World.cells?_some h1
      refine ⟨r, fun j v hv => ?_⟩
      have hj := (List.getElem?_eq_some_iff.1 hv).1
      have := hce j (by simpa using hj)
      rw [add_add] at this
      rw [this, hv]
    obtain ⟨q, hq⟩ := choose_lt each
    obtain ⟨g, off, spot⟩ := b
    refine ⟨(List.range len).map q, by simp, hl, fun i r e => ?_, .inr ⟨_, _, by rw [hx], by simp⟩⟩
    rw [List.getElem?_map] at e
    obtain ⟨i', hi', e⟩ := Option.map_eq_some_iff.1 e
    obtain ⟨hil, rfl⟩ := List.getElem?_eq_some_iff.1 hi'
    simp only [List.length_range, List.getElem_range] at hil e
    subst e
    have hspot : spot = none := by simpa [Addr.add] using World.cell?_spot (hq 0 (by omega) 0 _ rfl)
    subst hspot
    refine ⟨g, off, rfl, fun j v hv => ?_⟩
    rw [Nat.add_assoc, ← Go.WideShapes.add_plain]
    exact hq i hil j v hv
end Go.Proofs.YthjnkagepooeiaaGreatDoor
/-
  The variables that the rows of this seat list: what the condition gives a walk, and a world that meets it.
-/
namespace Go.Proofs.YthjnkagepooeiaaGreatDoor
open Go.ChangeShapes Go.WideShapes Go.ChangeAt Go.RowKit
set_option linter.unusedVariables false

theorem own6 : ownKnob Tryz.prog.godebug = none := by kernel_rfl
theorem errGlobal6 : Tryz.prog.globalNamed "errors.errorType" = some 0 := by kernel_rfl
theorem rtypeRow6 : (Tryz.prog.cutTypes.find? (·.1 == "internal/reflectlite.rtype")).map (·.2) = some 147 := by kernel_rfl
theorem errorRow6 : ((List.range 326).filter fun t => Tryz.prog.rowNamed t [101, 114, 114, 111, 114]) = [39] := by kernel_rfl
theorem typesSize6 : Tryz.prog.types.size = 326 := by kernel_rfl
abbrev laid6 : List (String × DataW Unit) := Rows.rowsNamesRow.laid

theorem maxLen6 {w : World} (h : w.ShapedOpen Tryz.prog) : ∃ m, w.cell? ⟨4, 0, none⟩ = some (.int .i64 m) :=
  cell_of_shapedOpen_int (zero := #[.int .i64 0]) (t := 3) h (of_decide_eq_true (by kernel_rfl)) (by kernel_rfl) rfl (by kernel_rfl) (by kernel_rfl) Tryz.underlying3
theorem size6 {w : World} (h : w.ShapedOpen Tryz.prog) : 10 ≤ w.heap.size := by
  obtain ⟨o, _, h1, _⟩ := h.2 10 (of_decide_eq_true (by kernel_rfl)) (of_decide_eq_true (by kernel_rfl))
  exact Nat.le_of_lt (Array.getElem?_eq_some_iff.1 h1).1

set_option maxRecDepth 100000 in
theorem glob_of_laid {W : World} (h : laidMetH Tryz.prog laid6 W) (hsh : W.ShapedOpen Tryz.prog) : Glob W := by
  refine ⟨size6 hsh, ?_, ?_, maxLen6 hsh, ?_, ?_⟩
  · obtain ⟨ps, ⟨_, _, _, _, _, _, _, _, _, _, ⟨_, _, _, _, _, _, _, _, _, _, ⟨_, _, _, _, _, _, _, _, _, _, ⟨_, _, _, _, _, _, _, _, _, _, ⟨_, _, _, _, _, _, _, _, _, _, ⟨g, t, cs, fuel, p, q, hg, ht, hv, hd, _, _⟩, _⟩, _⟩, _⟩, _⟩, _⟩, _, _⟩ := (laidMetH_iff.1 h).1
    obtain rfl := Option.some.inj ((show Tryz.prog.globalNamed "strconv.ErrSyntax" = some 1 by kernel_rfl).symm.trans hg)
    obtain rfl := Option.some.inj ((show (Tryz.prog.globals[1]?).map (·.type) = some 39 by kernel_rfl).symm.trans ht)
    obtain ⟨_, u, v, e, _, _⟩ := iface_of_trod Tryz.underlying39 hd
    refine ⟨.iface u v, ?_, .inr ⟨_, _, rfl⟩⟩
    rw [World.var?_cell hg hv 0]
    have : cs.toList[0]? = some (.iface u v) := by rw [e]; rfl
    simpa using this
  · obtain ⟨ps, ⟨_, _, _, _, _, _, _, _, _, _, ⟨_, _, _, _, _, _, _, _, _, _, ⟨_, _, _, _, _, _, _, _, _, _, ⟨_, _, _, _, _, _, _, _, _, _, ⟨g, t, cs, fuel, p, q, hg, ht, hv, hd, _, _⟩, _⟩, _⟩, _⟩, _⟩, _, _⟩ := (laidMetH_iff.1 h).1
    obtain rfl := Option.some.inj ((show Tryz.prog.globalNamed "strconv.ErrRange" = some 2 by kernel_rfl).symm.trans hg)
    obtain rfl := Option.some.inj ((show (Tryz.prog.globals[2]?).map (·.type) = some 39 by kernel_rfl).symm.trans ht)
    obtain ⟨_, u, v, e, _, _⟩ := iface_of_trod Tryz.underlying39 hd
    refine ⟨.iface u v, ?_, .inr ⟨_, _, rfl⟩⟩
    rw [World.var?_cell hg hv 0]
    have : cs.toList[0]? = some (.iface u v) := by rw [e]; rfl
    simpa using this
  · obtain ⟨ps, ⟨_, _, _, _, _, _, _, _, _, _, ⟨_, _, _, _, _, _, _, _, _, _, ⟨g, t, cs, fuel, p, q, hg, ht, hv, hd, _, _⟩, _⟩, _⟩, _, _⟩ := (laidMetH_iff.1 h).1
    obtain rfl := Option.some.inj ((show Tryz.prog.globalNamed "internal/strconv.uint64pow10" = some 3 by kernel_rfl).symm.trans hg)
    obtain rfl := Option.some.inj ((show (Tryz.prog.globals[3]?).map (·.type) = some 258 by kernel_rfl).symm.trans ht)
    have := Lib.cells_of_tab (zs := Lib.pow10Tab) (k := .u64) Tryz.underlying258 Tryz.underlying164 (by kernel_rfl) (by kernel_rfl) hd
    unfold Lib.TabIs
    rw [hv, ← this]
  · obtain ⟨name, u, ty, e1, e2, e3, e4, e5⟩ := (laidMetH_iff.1 h).2 (_, Rows.laid_errors_errorType) (List.mem_filter.2 ⟨List.mem_cons_of_mem _ (List.mem_cons_of_mem _ (List.mem_cons_of_mem _ (List.mem_cons_of_mem _ (List.mem_cons_self ..)))), rfl⟩)
    have en : name = [101, 114, 114, 111, 114] := (Option.some.inj e1).symm
    subst en
    obtain rfl := Option.some.inj (rtypeRow6.symm.trans e2)
    have hm : ty ∈ (List.range 326).filter fun t => Tryz.prog.rowNamed t [101, 114, 114, 111, 114] := List.mem_filter.2 ⟨List.mem_range.2 (by rw [← typesSize6]; exact e3), e4⟩
    rw [errorRow6] at hm
    obtain rfl := List.mem_singleton.1 hm
    have hh : typeHandle Tryz.prog 39 = .pointer (some ⟨10, 39, none⟩) := by kernel_rfl
    rw [hh] at e5
    simpa using World.var?_cell errGlobal6 e5 0

/-- a world that meets the condition -/
noncomputable def baseW6 (os : Os) : World :=
  let w0 := World.holding Tryz.prog os ⟨#[], #[], []⟩
  { w0 with heap := w0.heap.modify 0 fun
      | .cells _ t frozen => .cells #[.iface 147 (.agg #[.pointer (some ⟨10, 39, none⟩)])] t frozen
      | o => o }
abbrev data6 : List (String × DataW Unit) := laid6.filter fun x => x.2.handleName?.isNone
noncomputable def witW6 (os : Os) : World := (baseW6 os).layVars Tryz.prog data6
theorem witW6_os (os : Os) : (witW6 os).os = os := World.layVars_os _ _ _
theorem laidMet_over6 {P : Program} {w0 : World} {laid : List (String × DataW Unit)} (args : Array Value) (hf : w0.layFits P laid [] = true) (hi : w0.layIfaces P laid (w0.layVars P laid) = true) :
    laidMet P laid ((w0.layVars P laid).forCall (fun _ _ => 0) ⟨#[], args, []⟩).memory := by
  have e1 : (laid.filter fun x => (laid.map (·.1)).contains x.1) = laid := List.filter_eq_self.2 fun x hx => List.contains_iff_mem.2 (List.mem_map.2 ⟨x, hx, rfl⟩)
  have e2 : (laid.filter fun x => !(laid.map (·.1)).contains x.1) = [] := List.filter_eq_nil_iff.2 fun x hx => by rw [List.contains_iff_mem.2 (List.mem_map.2 ⟨x, hx, rfl⟩)]; simp
  have h : laidMet P laid (w0.layVars P laid) := laidMet_layVars (w0 := w0) (laid.map (·.1)) [] (by rw [e1]) (by rw [e1]; exact hf) (by rw [e1]; exact hi) (by rw [e2]; exact LaidIn.none)
  exact h.of_heap (by simp [World.memory, World.forCall, Input.heap])
theorem witness_row_shaped6 {H : Type} {enc : TypeId × Value → H} {C : Checked} {os : Os} {f : FuncId} {fn : Func} {s : OpenSpec} {conds : List PathCond} {apart : Bool} {laid : List (String × DataW Unit)} (w0 : World) (args : Array Value) (hos : w0.os = os)
    (hsh : (w0.forCall (fun _ _ => 0) ⟨#[], args, []⟩).Shaped C.prog)
    (hok : Input.okWideB C.prog (w0.forCall (fun _ _ => 0) ⟨#[], args, []⟩) f ⟨#[], args, []⟩ = true)
    (hrow : s.preRow enc C.prog fn conds apart laid (w0.forCall (fun _ _ => 0) ⟨#[], args, []⟩).memory args) :
    ∃ (w : World) (tape : Tape) (i : Input), w.os = os ∧ (w.forCall tape i).Shaped C.prog ∧ i.vars = [] ∧ Input.okWide C.prog (w.forCall tape i) .any w.heap.size f i ∧
      s.preRow enc C.prog fn conds apart laid (w.forCall tape i).memory i.args ∧ ({} : Assume).holds C.prog (lone (Frame.enter C.prog f i.args .normal) [] (w.forCall tape i)) :=
  ⟨w0, fun _ _ => 0, ⟨#[], args, []⟩, hos, hsh, (Input.okWide_of_okWideB (base := 0) hok).1, (Input.okWide_of_okWideB hok).2, hrow, by
    simp only [Assume.holds]
    exact ⟨by simp, by simp, by simp, by simp, by simp⟩⟩
set_option maxRecDepth 100000 in
theorem witW6_met (os : Os) : laidMetH Tryz.prog laid6 ((witW6 os).forCall (fun _ _ => 0) ⟨#[], #[], []⟩).memory :=
  laidMetH_of_parts (laidMet_over6 #[] (by kernel_rfl) (by kernel_rfl)) (by kernel_rfl)
end Go.Proofs.YthjnkagepooeiaaGreatDoor
/-
  What a bound on the bulk of the arguments says of a text's bytes and of a list's places.
-/
namespace Go.Proofs.YthjnkagepooeiaaGreatDoor

theorem bulk_one {H : Type} (d : DataW H) : 1 ≤ Rows.uptoBulk d := by
  cases d with
  | lit l => cases l <;> simp [Rows.uptoBulk]
  | _ => simp [Rows.uptoBulk]
theorem bulk_length {H : Type} (l : List (DataW H)) : l.length ≤ Rows.uptoBulkAll l := by
  induction l with
  | nil => simp [Rows.uptoBulkAll]
  | cons x r ih => have := bulk_one x; simp only [Rows.uptoBulkAll, List.length_cons]; omega
theorem bulk_string {H : Type} (s : ByteArray) : Rows.uptoBulk (DataW.lit (H := H) (.string s.data.toList)) = s.size + 1 := by
  simp [Rows.uptoBulk]
theorem bulk_slice {H : Type} (es sp : List (DataW H)) : es.length + sp.length + 1 ≤ Rows.uptoBulk (.slice es sp) := by
  have h1 := bulk_length es
  have h2 := bulk_length sp
  simp only [Rows.uptoBulk]; omega
theorem bulk_bound {H : Type} {l : List (DataW H)} (hk : Rows.uptoSmall H l = true) : Rows.uptoBulkAll l ≤ 1048576 := of_decide_eq_true hk
theorem bulk_first {H : Type} {d : DataW H} {l : List (DataW H)} (hk : Rows.uptoSmall H (d :: l) = true) : Rows.uptoBulk d ≤ 1048576 := by
  have := bulk_bound hk; simp only [Rows.uptoBulkAll] at this; omega
theorem bulk_second {H : Type} {c d : DataW H} {l : List (DataW H)} (hk : Rows.uptoSmall H (c :: d :: l) = true) : Rows.uptoBulk d ≤ 1048576 := by
  have := bulk_bound hk; simp only [Rows.uptoBulkAll] at this; omega
end Go.Proofs.YthjnkagepooeiaaGreatDoor
/-
  An argument that is a list of rows, with the bounds of what its rows hold.
-/
namespace Go.Proofs.YthjnkagepooeiaaGreatDoor
open Go.RowKit Go.PlainAid Go.Lib Go.PHexM Go.Shelf Go.Deep
set_option linter.unusedVariables false
set_option linter.unusedSimpArgs false

theorem u8_range {n : Int} (h : (Lit.int .u8 n).wf = true) : 0 ≤ n ∧ n ≤ 255 := by
  simp [Lit.wf] at h
  have h1 : IntKind.u8.min = 0 := by decide
  have h2 : IntKind.u8.max = 255 := by decide
  omega
theorem bulk_mem {H : Type} {l : List (DataW H)} {d : DataW H} (h : d ∈ l) : Rows.uptoBulk d ≤ Rows.uptoBulkAll l := by
  induction l with
  | nil => simp at h
  | cons x r ih =>
    simp only [Rows.uptoBulkAll]
    rcases List.mem_cons.1 h with rfl | h
    · omega
    · have := ih h; omega
theorem row_of_cells2 {H : Type} {enc : TypeId × Value → H} {W : World} {base : Nat} {sp : Nat → Bool} {held : Bool} {fuel : Nat} {cs : List Value} {x : DataW H × List MemPlace} (h : DataW.trod enc Tryz.prog W base sp held fuel 29 cs = some x) : ∃ r : RowD, cs = rowC r ∧ 0 ≤ r.comb ∧ r.comb ≤ 255 ∧ 0 ≤ r.cls ∧ r.cls ≤ 255 ∧ r.name.length + r.cat.length ≤ Rows.uptoBulk x.1 := by
  obtain ⟨f0, f1, f2, f3, f4, f5, f6, f7, f8, hu, ho, hty⟩ := rowFields
  simp only [List.cons.injEq, and_true] at ho hty
  obtain ⟨o0, o1, o2, o3, o4, o5, o6, o7, o8⟩ := ho
  obtain ⟨t0, t1, t2, t3, t4, t5, t6, t7, t8⟩ := hty
  obtain ⟨xs, k, _, hxy, hl, hxl, hf⟩ := DataW.trod_struct hu h
  rw [rowCells] at hl
  have c_api_Class : Tryz.prog.cellsOf 27 = 1 := by kernel_rfl
  have c_bool : Tryz.prog.cellsOf 4 = 1 := by kernel_rfl
  have c_int : Tryz.prog.cellsOf 3 = 1 := by kernel_rfl
  have c_int32 : Tryz.prog.cellsOf 21 = 1 := by kernel_rfl
  have c_string : Tryz.prog.cellsOf 9 = 1 := by kernel_rfl
  have c_uint8 : Tryz.prog.cellsOf 5 = 1 := by kernel_rfl
  obtain ⟨v0, v1, v2, v3, v4, v5, v6, v7, v8, rfl⟩ := list9 hl
  obtain ⟨y0, y1, y2, y3, y4, y5, y6, y7, y8, rfl⟩ := list9 (show xs.length = 9 from hxl)
  have g0 := hf 0 f0 rfl
  rw [o0, t0, c_int] at g0
  obtain ⟨n0, e0, q0, m0⟩ := DataW.trod_int Tryz.underlying3 g0
  simp at e0
  subst e0
  have g1 := hf 1 f1 rfl
  rw [o1, t1, c_int32] at g1
  obtain ⟨n1, e1, q1, m1⟩ := DataW.trod_int Tryz.underlying21 g1
  simp at e1
  subst e1
  have g2 := hf 2 f2 rfl
  rw [o2, t2, c_int32] at g2
  obtain ⟨n2, e2, q2, m2⟩ := DataW.trod_int Tryz.underlying21 g2
  simp at e2
  subst e2
  have g3 := hf 3 f3 rfl
  rw [o3, t3, c_string] at g3
  obtain ⟨n3, e3, q3, m3⟩ := DataW.trod_string Tryz.underlying9 g3
  simp at e3
  subst e3
  have g4 := hf 4 f4 rfl
  rw [o4, t4, c_string] at g4
  obtain ⟨n4, e4, q4, m4⟩ := DataW.trod_string Tryz.underlying9 g4
  simp at e4
  subst e4
  have g5 := hf 5 f5 rfl
  rw [o5, t5, c_uint8] at g5
  obtain ⟨n5, e5, q5, m5⟩ := DataW.trod_int Tryz.underlying5 g5
  simp at e5
  subst e5
  have g6 := hf 6 f6 rfl
  rw [o6, t6, c_api_Class] at g6
  obtain ⟨n6, e6, q6, m6⟩ := DataW.trod_int Tryz.underlying27 g6
  simp at e6
  subst e6
  have g7 := hf 7 f7 rfl
  rw [o7, t7, c_int32] at g7
  obtain ⟨n7, e7, q7, m7⟩ := DataW.trod_int Tryz.underlying21 g7
  simp at e7
  subst e7
  have g8 := hf 8 f8 rfl
  rw [o8, t8, c_bool] at g8
  obtain ⟨n8, e8, _⟩ := DataW.trod_bool Tryz.underlying4 g8
  simp at e8
  subst e8
  have r5 := u8_range m5
  have r6 := u8_range m6
  have p3 : y3 = (.lit (.string n3.data.toList), []) := q3
  have p4 : y4 = (.lit (.string n4.data.toList), []) := q4
  refine ⟨⟨n0, n1, n2, n3.data.toList, n4.data.toList, n5, n6, n7, n8⟩, rfl, r5.1, r5.2, r6.1, r6.2, ?_⟩
  rw [hxy]
  show n3.data.toList.length + n4.data.toList.length ≤ Rows.uptoBulk (DataW.agg [y0.1, y1.1, y2.1, y3.1, y4.1, y5.1, y6.1, y7.1, y8.1])
  rw [p3, p4]
  simp only [Rows.uptoBulk, Rows.uptoBulkAll]
  omega

theorem open_rows2 {H : Type} {enc : TypeId × Value → H} {W : World} {base : Nat} {held : Bool} {fuel : Nat} {a : Option Addr} {len cap : Nat} {x : DataW H × List MemPlace}
    (h : DataW.trod enc Tryz.prog W base (fun _ => true) held fuel 37 (Value.slice a len cap).cells.toList = some x) : ∃ rs : List RowD, rs.length = len ∧ len ≤ cap ∧ RwMem W a rs ∧ (∀ r ∈ rs, 0 ≤ r.comb ∧ r.comb ≤ 255 ∧ 0 ≤ r.cls ∧ r.cls ≤ 255 ∧ r.name.length + r.cat.length ≤ Rows.uptoBulk x.1) ∧ ((len = 0 ∧ x.1 = .nil) ∨ ∃ es sp, x.1 = .slice es sp ∧ es.length = len) := by
  rcases open_slice Tryz.underlying37 h with ⟨hcs, hx⟩ | ⟨b, l, c, m, n, D, Pl, hcs, hb, hl, hm, hmm, hx, hcell⟩
  · simp [Value.cells] at hcs
    obtain ⟨rfl, rfl, rfl⟩ := hcs
    exact ⟨[], rfl, Nat.le_refl _, fun i r e => by simp at e, fun r hr => by simp at hr, .inl ⟨rfl, by rw [hx]⟩⟩
  · simp [Value.cells] at hcs
    obtain ⟨rfl, rfl, rfl⟩ := hcs
    have hmm' : m = cap := by simpa using hmm
    subst hmm'
    have each : ∀ i, i < len → ∃ r : RowD, (∀ j v, (rowC r)[j]? = some v → W.cell? (b.add (i * 9 + j)) = some v) ∧ 0 ≤ r.comb ∧ r.comb ≤ 255 ∧ 0 ≤ r.cls ∧ r.cls ≤ 255 ∧ r.name.length + r.cat.length ≤ Rows.uptoBulk x.1 := by
      intro i hi
      obtain ⟨cs', h1, h2⟩ := hcell i (by omega)
      rw [rowCells] at h1
      obtain ⟨r, rfl, k1, k2, k3, k4, k5⟩ := row_of_cells2 h2
      obtain ⟨_, hlen, hce⟩ := World.cells?_some h1
      have hD : Rows.uptoBulk (D i) ≤ Rows.uptoBulk x.1 := by
        rw [hx]
        have hmem := bulk_mem (l := (List.range len).map D) (List.mem_map.2 ⟨i, List.mem_range.2 hi, rfl⟩)
        simp only [Rows.uptoBulk]
        omega
      refine ⟨r, fun j v hv => ?_, k1, k2, k3, k4, Nat.le_trans k5 hD⟩
      have hj := (List.getElem?_eq_some_iff.1 hv).1
      have := hce j (by simpa using hj)
      rw [add_add] at this
      rw [this, hv]
    obtain ⟨q, hq⟩ := choose_lt each
    obtain ⟨g, off, spot⟩ := b
    refine ⟨(List.range len).map q, by simp, hl, fun i r e => ?_, fun r hr => ?_, .inr ⟨_, _, by rw [hx], by simp⟩⟩
    rotate_left
    · obtain ⟨i, hi, rfl⟩ := List.mem_map.1 hr
      exact (hq i (List.mem_range.1 hi)).2
    rw [List.getElem?_map] at e
    obtain ⟨i', hi', e⟩ := Option.map_eq_some_iff.1 e
    obtain ⟨hil, rfl⟩ := List.getElem?_eq_some_iff.1 hi'
    simp only [List.length_range, List.getElem_range] at hil e
    subst e
    have hspot : spot = none := by simpa [Addr.add] using World.cell?_spot ((hq 0 (by omega)).1 0 _ rfl)
    subst hspot
    refine ⟨g, off, rfl, fun j v hv => ?_⟩
    rw [Nat.add_assoc, ← Go.WideShapes.add_plain]
    exact (hq i hil).1 j v hv
end Go.Proofs.YthjnkagepooeiaaGreatDoor
/-
  The variables that the row of RowsPrints lists (unicode.CaseRanges is one more): what the condition gives a walk, and a world that meets it.
-/
namespace Go.Proofs.YthjnkagepooeiaaGreatDoor
open Go.ChangeShapes Go.WideShapes Go.ChangeAt Go.RowKit
set_option linter.unusedVariables false

abbrev laid7 : List (String × DataW Unit) := Rows.rowsPrintsRow.laid
set_option maxRecDepth 100000 in
theorem glob_of_laid7 {W : World} (h : laidMetH Tryz.prog laid7 W) (hsh : W.ShapedOpen Tryz.prog) : Glob W := by
  refine ⟨size6 hsh, ?_, ?_, maxLen6 hsh, ?_, ?_⟩
  · obtain ⟨ps, ⟨_, _, _, _, _, _, _, _, _, _, ⟨_, _, _, _, _, _, _, _, _, _, ⟨_, _, _, _, _, _, _, _, _, _, ⟨_, _, _, _, _, _, _, _, _, _, ⟨_, _, _, _, _, _, _, _, _, _, ⟨g, t, cs, fuel, p, q, hg, ht, hv, hd, _, _⟩, _⟩, _⟩, _⟩, _⟩, _⟩, _, _⟩ := (laidMetH_iff.1 h).1
    obtain rfl := Option.some.inj ((show Tryz.prog.globalNamed "strconv.ErrSyntax" = some 1 by kernel_rfl).symm.trans hg)
    obtain rfl := Option.some.inj ((show (Tryz.prog.globals[1]?).map (·.type) = some 39 by kernel_rfl).symm.trans ht)
    obtain ⟨_, u, v, e, _, _⟩ := iface_of_trod Tryz.underlying39 hd
    refine ⟨.iface u v, ?_, .inr ⟨_, _, rfl⟩⟩
    rw [World.var?_cell hg hv 0]
    have : cs.toList[0]? = some (.iface u v) := by rw [e]; rfl
    simpa using this
  · obtain ⟨ps, ⟨_, _, _, _, _, _, _, _, _, _, ⟨_, _, _, _, _, _, _, _, _, _, ⟨_, _, _, _, _, _, _, _, _, _, ⟨_, _, _, _, _, _, _, _, _, _, ⟨g, t, cs, fuel, p, q, hg, ht, hv, hd, _, _⟩, _⟩, _⟩, _⟩, _⟩, _, _⟩ := (laidMetH_iff.1 h).1
    obtain rfl := Option.some.inj ((show Tryz.prog.globalNamed "strconv.ErrRange" = some 2 by kernel_rfl).symm.trans hg)
    obtain rfl := Option.some.inj ((show (Tryz.prog.globals[2]?).map (·.type) = some 39 by kernel_rfl).symm.trans ht)
    obtain ⟨_, u, v, e, _, _⟩ := iface_of_trod Tryz.underlying39 hd
    refine ⟨.iface u v, ?_, .inr ⟨_, _, rfl⟩⟩
    rw [World.var?_cell hg hv 0]
    have : cs.toList[0]? = some (.iface u v) := by rw [e]; rfl
    simpa using this
  · obtain ⟨ps, ⟨_, _, _, _, _, _, _, _, _, _, ⟨_, _, _, _, _, _, _, _, _, _, ⟨g, t, cs, fuel, p, q, hg, ht, hv, hd, _, _⟩, _⟩, _⟩, _, _⟩ := (laidMetH_iff.1 h).1
    obtain rfl := Option.some.inj ((show Tryz.prog.globalNamed "internal/strconv.uint64pow10" = some 3 by kernel_rfl).symm.trans hg)
    obtain rfl := Option.some.inj ((show (Tryz.prog.globals[3]?).map (·.type) = some 258 by kernel_rfl).symm.trans ht)
    have := Lib.cells_of_tab (zs := Lib.pow10Tab) (k := .u64) Tryz.underlying258 Tryz.underlying164 (by kernel_rfl) (by kernel_rfl) hd
    unfold Lib.TabIs
    rw [hv, ← this]
  · obtain ⟨name, u, ty, e1, e2, e3, e4, e5⟩ := (laidMetH_iff.1 h).2 (_, Rows.laid_errors_errorType) (List.mem_filter.2 ⟨List.mem_cons_of_mem _ (List.mem_cons_of_mem _ (List.mem_cons_of_mem _ (List.mem_cons_of_mem _ (List.mem_cons_self ..)))), rfl⟩)
    have en : name = [101, 114, 114, 111, 114] := (Option.some.inj e1).symm
    subst en
    obtain rfl := Option.some.inj (rtypeRow6.symm.trans e2)
    have hm : ty ∈ (List.range 326).filter fun t => Tryz.prog.rowNamed t [101, 114, 114, 111, 114] := List.mem_filter.2 ⟨List.mem_range.2 (by rw [← typesSize6]; exact e3), e4⟩
    rw [errorRow6] at hm
    obtain rfl := List.mem_singleton.1 hm
    have hh : typeHandle Tryz.prog 39 = .pointer (some ⟨10, 39, none⟩) := by kernel_rfl
    rw [hh] at e5
    simpa using World.var?_cell errGlobal6 e5 0

abbrev data7 : List (String × DataW Unit) := laid7.filter fun x => x.2.handleName?.isNone
noncomputable def witW7 (os : Os) : World := (baseW6 os).layVars Tryz.prog data7
theorem witW7_os (os : Os) : (witW7 os).os = os := World.layVars_os _ _ _
set_option maxRecDepth 100000 in
theorem tz16_of_laid7 {W : World} (h : laidMetH Tryz.prog laid7 W) : tz16At W := by
  obtain ⟨ps, ⟨_, _, _, _, _, _, _, _, _, _, ⟨g, t, cs, fuel, p, q, hg, ht, hv, hd, _, _⟩, _⟩, _, _⟩ := (laidMetH_iff.1 h).1
  obtain rfl := Option.some.inj ((show Tryz.prog.globalNamed "math/bits.deBruijn64tab" = some 7 by kernel_rfl).symm.trans hg)
  obtain rfl := Option.some.inj ((show (Tryz.prog.globals[7]?).map (·.type) = some 284 by kernel_rfl).symm.trans ht)
  obtain ⟨xs, m, _, ex, _, hl, hel⟩ := DataW.trod_array Tryz.underlying284 hd
  have c5 : Tryz.prog.cellsOf 5 = 1 := by kernel_rfl
  have hE := hel 15 (by omega)
  rw [c5, Nat.mul_one, List.getElem?_eq_getElem (by omega)] at hE
  obtain ⟨z, e1, e2, _⟩ := DataW.trod_int Tryz.underlying5 hE
  have e4 : (xs.map (·.1))[15]? = some (.lit (.int .u8 4)) := by rw [← (DataW.agg.inj (Prod.mk.inj ex).1)]; rfl
  rw [List.getElem?_map, List.getElem?_eq_getElem (by omega : 15 < xs.length), e2] at e4
  have hz : z = 4 := by
    simp only [Option.map_some, Option.some.injEq, DataW.lit.injEq, Lit.int.injEq, true_and] at e4
    exact e4
  unfold tz16At
  rw [World.var?_cell hg hv 15, ← hz]
  have : cs.toList[15]? = some (.int .u8 z) := by
    have h0 : ((cs.toList.drop 15).take 1)[0]? = some (.int .u8 z) := by rw [e1]; rfl
    simpa using h0
  simpa using this

set_option maxRecDepth 100000 in
theorem witW7_met (os : Os) : laidMetH Tryz.prog laid7 ((witW7 os).forCall (fun _ _ => 0) ⟨#[], #[], []⟩).memory :=
  laidMetH_of_parts (laidMet_over6 #[] (by kernel_rfl) (by kernel_rfl)) (by kernel_rfl)
end Go.Proofs.YthjnkagepooeiaaGreatDoor
