/-
  These texts, one behind the other: RwOpen, RwLaid, Bulk, RwBlM, RwBlM2, RwBlS, RwBaM, RwBaN, RwBaO, RwBaP, RwBaQ, RwOpen2, RwOpen3, RwLaid7.
-/
import Derived.Test.YthjnkagepooeiaaGreatDoorRwA0
import Derived.Deep.Slices
import Derived.OpenShut
import Derived.Test.YthjnkagepooeiaaGreatDoorRwB
import Derived.Test.YthjnkagepooeiaaGreatDoorTie
import Derived.Test.YthjnkagepooeiaaGreatDoorCards
import Derived.Lib.LaidTab
import Derived.HandedShaped
import Derived.Shelf.Vars
import Derived.ProofKit
import Derived.ShutString
import Derived.ChangeOld
import Derived.LaidMore
import Derived.LaidLaws
import Derived.LaidHandle
import Derived.LaidSub
import Derived.Lay
import Derived.MakeChecks
import Derived.SevenTiedAt
import Derived.Stop.Joined
import Derived.Deep.DeepHandedRow
import Derived.Test.YthjnkagepooeiaaGreatDoorRows
import Derived.Test.YthjnkagepooeiaaGreatDoorRk
import Derived.Test.YthjnkagepooeiaaGreatDoorRwA1
import Derived.Lib.QuietBelow
import Derived.BigQuiet
import Derived.Laws.StructEq
import Derived.Test.YthjnkagepooeiaaGreatDoorRx
import Derived.Test.YthjnkagepooeiaaGreatDoorPr
/-
  An argument that is a list of rows.
-/
namespace Go.Proofs.YthjnkagepooeiaaGreatDoor
open Go.RowKit Go.PlainAid Go.Lib Go.PHexM Go.Shelf Go.Deep
set_option linter.unusedVariables false
set_option linter.unusedSimpArgs false

theorem rowFields : ∃ f0 f1 f2 f3 f4 f5 f6 f7 f8 : Field, Tryz.prog.underlying 29 = some (.struct #[f0, f1, f2, f3, f4, f5, f6, f7, f8]) ∧ [f0.offset, f1.offset, f2.offset, f3.offset, f4.offset, f5.offset, f6.offset, f7.offset, f8.offset] = [0, 1, 2, 3, 4, 5, 6, 7, 8] ∧ [f0.type, f1.type, f2.type, f3.type, f4.type, f5.type, f6.type, f7.type, f8.type] = [3, 21, 21, 9, 9, 5, 27, 21, 4] :=
  ⟨_, _, _, _, _, _, _, _, _, Tryz.underlying29, rfl, rfl⟩
theorem rowCells : Tryz.prog.cellsOf 29 = 9 := by kernel_rfl

theorem list9 {α : Type} {l : List α} (h : l.length = 9) : ∃ a b c d e f g i j : α, l = [a, b, c, d, e, f, g, i, j] := by
  obtain ⟨a, l, rfl⟩ := List.exists_cons_of_length_eq_add_one h
  obtain ⟨b, l, rfl⟩ := List.exists_cons_of_length_eq_add_one (Nat.succ.inj h)
  obtain ⟨c, l, rfl⟩ := List.exists_cons_of_length_eq_add_one (Nat.succ.inj (Nat.succ.inj h))
  obtain ⟨d, l, rfl⟩ := List.exists_cons_of_length_eq_add_one (Nat.succ.inj (Nat.succ.inj (Nat.succ.inj h)))
  obtain ⟨e, l, rfl⟩ := List.exists_cons_of_length_eq_add_one (Nat.succ.inj (Nat.succ.inj (Nat.succ.inj (Nat.succ.inj h))))
  obtain ⟨f, l, rfl⟩ := List.exists_cons_of_length_eq_add_one (Nat.succ.inj (Nat.succ.inj (Nat.succ.inj (Nat.succ.inj (Nat.succ.inj h)))))
  obtain ⟨g, l, rfl⟩ := List.exists_cons_of_length_eq_add_one (Nat.succ.inj (Nat.succ.inj (Nat.succ.inj (Nat.succ.inj (Nat.succ.inj (Nat.succ.inj h))))))
  obtain ⟨i, l, rfl⟩ := List.exists_cons_of_length_eq_add_one (Nat.succ.inj (Nat.succ.inj (Nat.succ.inj (Nat.succ.inj (Nat.succ.inj (Nat.succ.inj (Nat.succ.inj h)))))))
  obtain ⟨j, l, rfl⟩ := List.exists_cons_of_length_eq_add_one (Nat.succ.inj (Nat.succ.inj (Nat.succ.inj (Nat.succ.inj (Nat.succ.inj (Nat.succ.inj (Nat.succ.inj (Nat.succ.inj h))))))))
  obtain rfl : l = [] := List.eq_nil_of_length_eq_zero (by simp at h; simpa using h)
  exact ⟨_, _, _, _, _, _, _, _, _, rfl⟩
instance : Inhabited RowD := ⟨zeroR⟩

theorem row_of_cells {H : Type} {enc : TypeId × Value → H} {W : World} {base : Nat} {sp : Nat → Bool} {held : Bool} {fuel : Nat} {cs : List Value} {x : DataW H × List MemPlace} (h : DataW.trod enc Tryz.prog W base sp held fuel 29 cs = some x) : ∃ r : RowD, cs = rowC r := by
  obtain ⟨f0, f1, f2, f3, f4, f5, f6, f7, f8, hu, ho, hty⟩ := rowFields
  simp only [List.cons.injEq, and_true] at ho hty
  obtain ⟨o0, o1, o2, o3, o4, o5, o6, o7, o8⟩ := ho
  obtain ⟨t0, t1, t2, t3, t4, t5, t6, t7, t8⟩ := hty
  obtain ⟨xs, k, _, hxy, hl, hxl, hf⟩ := DataW.trod_struct hu h
  rw [rowCells] at hl
  have c_api_Class : Tryz.prog.cellsOf 27 = 1 := by kernel_rfl
  have c_bool : Tryz.prog.cellsOf 4 = 1 := by kernel_rfl
  have c_int : Tryz.prog.cellsOf 3 = 1 := by kernel_rfl
  have c_int32 : Tryz.prog.cellsOf 21 = 1 := by kernel_rfl
  have c_string : Tryz.prog.cellsOf 9 = 1 := by kernel_rfl
  have c_uint8 : Tryz.prog.cellsOf 5 = 1 := by kernel_rfl
  obtain ⟨v0, v1, v2, v3, v4, v5, v6, v7, v8, rfl⟩ := list9 hl
  obtain ⟨y0, y1, y2, y3, y4, y5, y6, y7, y8, rfl⟩ := list9 (show xs.length = 9 from hxl)
  have g0 := hf 0 f0 rfl
  rw [o0, t0, c_int] at g0
  obtain ⟨n0, e0, _, _⟩ := DataW.trod_int Tryz.underlying3 g0
  simp at e0
  subst e0
  have g1 := hf 1 f1 rfl
  rw [o1, t1, c_int32] at g1
  obtain ⟨n1, e1, _, _⟩ := DataW.trod_int Tryz.underlying21 g1
  simp at e1
  subst e1
  have g2 := hf 2 f2 rfl
  rw [o2, t2, c_int32] at g2
  obtain ⟨n2, e2, _, _⟩ := DataW.trod_int Tryz.underlying21 g2
  simp at e2
  subst e2
  have g3 := hf 3 f3 rfl
  rw [o3, t3, c_string] at g3
  obtain ⟨n3, e3, _, _⟩ := DataW.trod_string Tryz.underlying9 g3
  simp at e3
  subst e3
  have g4 := hf 4 f4 rfl
  rw [o4, t4, c_string] at g4
  obtain ⟨n4, e4, _, _⟩ := DataW.trod_string Tryz.underlying9 g4
  simp at e4
  subst e4
  have g5 := hf 5 f5 rfl
  rw [o5, t5, c_uint8] at g5
  obtain ⟨n5, e5, _, _⟩ := DataW.trod_int Tryz.underlying5 g5
  simp at e5
  subst e5
  have g6 := hf 6 f6 rfl
  rw [o6, t6, c_api_Class] at g6
  obtain ⟨n6, e6, _, _⟩ := DataW.trod_int Tryz.underlying27 g6
  simp at e6
  subst e6
  have g7 := hf 7 f7 rfl
  rw [o7, t7, c_int32] at g7
  obtain ⟨n7, e7, _, _⟩ := DataW.trod_int Tryz.underlying21 g7
  simp at e7
  subst e7
  have g8 := hf 8 f8 rfl
  rw [o8, t8, c_bool] at g8
  obtain ⟨n8, e8, _⟩ := DataW.trod_bool Tryz.underlying4 g8
  simp at e8
  subst e8
  exact ⟨⟨n0, n1, n2, n3.data.toList, n4.data.toList, n5, n6, n7, n8⟩, rfl⟩

theorem open_rows {H : Type} {enc : TypeId × Value → H} {W : World} {base : Nat} {held : Bool} {fuel : Nat} {a : Option Addr} {len cap : Nat} {x : DataW H × List MemPlace}
    (h : DataW.trod enc Tryz.prog W base (fun _ => true) held fuel 37 (Value.slice a len cap).cells.toList = some x) : ∃ rs : List RowD, rs.length = len ∧ len ≤ cap ∧ RwMem W a rs ∧ ((len = 0 ∧ x.1 = .nil) ∨ ∃ es sp, x.1 = .slice es sp ∧ es.length = len) := by
  rcases open_slice Tryz.underlying37 h with ⟨hcs, hx⟩ | ⟨b, l, c, m, n, D, Pl, hcs, hb, hl, hm, hmm, hx, hcell⟩
  · simp [Value.cells] at hcs
    obtain ⟨rfl, rfl, rfl⟩ := hcs
    exact ⟨[], rfl, Nat.le_refl _, fun i r e => by simp at e, .inl ⟨rfl, by rw [hx]⟩⟩
  · simp [Value.cells] at hcs
    obtain ⟨rfl, rfl, rfl⟩ := hcs
    have hmm' : m = cap := by simpa using hmm
    subst hmm'
    have each : ∀ i, i < len → ∃ r : RowD, ∀ j v, (rowC r)[j]? = some v → W.cell? (b.add (i * 9 + j)) = some v := by
      intro i hi
      obtain ⟨cs', h1, h2⟩ := hcell i (by omega)
      rw [rowCells] at h1
      obtain ⟨r, rfl⟩ := row_of_cells h2
      obtain ⟨_, hlen, hce⟩ := World.cells?_some h1
      refine ⟨r, fun j v hv => ?_⟩
      have hj := (List.getElem?_eq_some_iff.1 hv).1
      have := hce j (by simpa using hj)
      rw [add_add] at this
      rw [this, hv]
    obtain ⟨q, hq⟩ := choose_lt each
    obtain ⟨g, off, spot⟩ := b
    refine ⟨(List.range len).map q, by simp, hl, fun i r e => ?_, .inr ⟨_, _, by rw [hx], by simp⟩⟩
    rw [List.getElem?_map] at e
    obtain ⟨i', hi', e⟩ := Option.map_eq_some_iff.1 e
    obtain ⟨hil, rfl⟩ := List.getElem?_eq_some_iff.1 hi'
    simp only [List.length_range, List.getElem_range] at hil e
    subst e
    have hspot : spot = none := by simpa [Addr.add] using World.cell?_spot (hq 0 (by omega) 0 _ rfl)
    subst hspot
    refine ⟨g, off, rfl, fun j v hv => ?_⟩
    rw [Nat.add_assoc, ← Go.WideShapes.add_plain]
    exact hq i hil j v hv
end Go.Proofs.YthjnkagepooeiaaGreatDoor
/-
  The variables that the rows of this seat list: what the condition gives a walk, and a world that meets it.
-/
namespace Go.Proofs.YthjnkagepooeiaaGreatDoor
open Go.ChangeShapes Go.WideShapes Go.ChangeAt Go.RowKit
set_option linter.unusedVariables false

theorem own6 : ownKnob Tryz.prog.godebug = none := by kernel_rfl
theorem errGlobal6 : Tryz.prog.globalNamed "errors.errorType" = some 0 := by kernel_rfl
theorem rtypeRow6 : (Tryz.prog.cutTypes.find? (·.1 == "internal/reflectlite.rtype")).map (·.2) = some 147 := by kernel_rfl
theorem errorRow6 : ((List.range 326).filter fun t => Tryz.prog.rowNamed t [101, 114, 114, 111, 114]) = [39] := by kernel_rfl
theorem typesSize6 : Tryz.prog.types.size = 326 := by kernel_rfl
abbrev laid6 : List (String × DataW Unit) := Rows.rowsNamesRow.laid

theorem maxLen6 {w : World} (h : w.ShapedOpen Tryz.prog) : ∃ m, w.cell? ⟨4, 0, none⟩ = some (.int .i64 m) :=
  cell_of_shapedOpen_int (zero := #[.int .i64 0]) (t := 3) h (of_decide_eq_true (by kernel_rfl)) (by kernel_rfl) rfl (by kernel_rfl) (by kernel_rfl) Tryz.underlying3
theorem size6 {w : World} (h : w.ShapedOpen Tryz.prog) : 10 ≤ w.heap.size := by
  obtain ⟨o, _, h1, _⟩ := h.2 10 (of_decide_eq_true (by kernel_rfl)) (of_decide_eq_true (by kernel_rfl))
  exact Nat.le_of_lt (Array.getElem?_eq_some_iff.1 h1).1

set_option maxRecDepth 100000 in
theorem glob_of_laid {W : World} (h : laidMetH Tryz.prog laid6 W) (hsh : W.ShapedOpen Tryz.prog) : Glob W := by
  refine ⟨size6 hsh, ?_, ?_, maxLen6 hsh, ?_, ?_⟩
  · obtain ⟨ps, ⟨_, _, _, _, _, _, _, _, _, _, ⟨_, _, _, _, _, _, _, _, _, _, ⟨_, _, _, _, _, _, _, _, _, _, ⟨_, _, _, _, _, _, _, _, _, _, ⟨_, _, _, _, _, _, _, _, _, _, ⟨g, t, cs, fuel, p, q, hg, ht, hv, hd, _, _⟩, _⟩, _⟩, _⟩, _⟩, _⟩, _, _⟩ := (laidMetH_iff.1 h).1
    obtain rfl := Option.some.inj ((show Tryz.prog.globalNamed "strconv.ErrSyntax" = some 1 by kernel_rfl).symm.trans hg)
    obtain rfl := Option.some.inj ((show (Tryz.prog.globals[1]?).map (·.type) = some 39 by kernel_rfl).symm.trans ht)
    obtain ⟨_, u, v, e, _, _⟩ := iface_of_trod Tryz.underlying39 hd
    refine ⟨.iface u v, ?_, .inr ⟨_, _, rfl⟩⟩
    rw [World.var?_cell hg hv 0]
    have : cs.toList[0]? = some (.iface u v) := by rw [e]; rfl
    simpa using this
  · obtain ⟨ps, ⟨_, _, _, _, _, _, _, _, _, _, ⟨_, _, _, _, _, _, _, _, _, _, ⟨_, _, _, _, _, _, _, _, _, _, ⟨_, _, _, _, _, _, _, _, _, _, ⟨g, t, cs, fuel, p, q, hg, ht, hv, hd, _, _⟩, _⟩, _⟩, _⟩, _⟩, _, _⟩ := (laidMetH_iff.1 h).1
    obtain rfl := Option.some.inj ((show Tryz.prog.globalNamed "strconv.ErrRange" = some 2 by kernel_rfl).symm.trans hg)
    obtain rfl := Option.some.inj ((show (Tryz.prog.globals[2]?).map (·.type) = some 39 by kernel_rfl).symm.trans ht)
    obtain ⟨_, u, v, e, _, _⟩ := iface_of_trod Tryz.underlying39 hd
    refine ⟨.iface u v, ?_, .inr ⟨_, _, rfl⟩⟩
    rw [World.var?_cell hg hv 0]
    have : cs.toList[0]? = some (.iface u v) := by rw [e]; rfl
    simpa using this
  · obtain ⟨ps, ⟨_, _, _, _, _, _, _, _, _, _, ⟨_, _, _, _, _, _, _, _, _, _, ⟨g, t, cs, fuel, p, q, hg, ht, hv, hd, _, _⟩, _⟩, _⟩, _, _⟩ := (laidMetH_iff.1 h).1
    obtain rfl := Option.some.inj ((show Tryz.prog.globalNamed "internal/strconv.uint64pow10" = some 3 by kernel_rfl).symm.trans hg)
    obtain rfl := Option.some.inj ((show (Tryz.prog.globals[3]?).map (·.type) = some 258 by kernel_rfl).symm.trans ht)
    have := Lib.cells_of_tab (zs := Lib.pow10Tab) (k := .u64) Tryz.underlying258 Tryz.underlying164 (by kernel_rfl) (by kernel_rfl) hd
    unfold Lib.TabIs
    rw [hv, ← this]
  · obtain ⟨name, u, ty, e1, e2, e3, e4, e5⟩ := (laidMetH_iff.1 h).2 (_, Rows.laid_errors_errorType) (List.mem_filter.2 ⟨List.mem_cons_of_mem _ (List.mem_cons_of_mem _ (List.mem_cons_of_mem _ (List.mem_cons_of_mem _ (List.mem_cons_self ..)))), rfl⟩)
    have en : name = [101, 114, 114, 111, 114] := (Option.some.inj e1).symm
    subst en
    obtain rfl := Option.some.inj (rtypeRow6.symm.trans e2)
    have hm : ty ∈ (List.range 326).filter fun t => Tryz.prog.rowNamed t [101, 114, 114, 111, 114] := List.mem_filter.2 ⟨List.mem_range.2 (by rw [← typesSize6]; exact e3), e4⟩
    rw [errorRow6] at hm
    obtain rfl := List.mem_singleton.1 hm
    have hh : typeHandle Tryz.prog 39 = .pointer (some ⟨10, 39, none⟩) := by kernel_rfl
    rw [hh] at e5
    simpa using World.var?_cell errGlobal6 e5 0

/-- a world that meets the condition -/
noncomputable def baseW6 (os : Os) : World :=
  let w0 := World.holding Tryz.prog os ⟨#[], #[], []⟩
  { w0 with heap := w0.heap.modify 0 fun
      | .cells _ t frozen => .cells #[.iface 147 (.agg #[.pointer (some ⟨10, 39, none⟩)])] t frozen
      | o => o }
abbrev data6 : List (String × DataW Unit) := laid6.filter fun x => x.2.handleName?.isNone
noncomputable def witW6 (os : Os) : World := (baseW6 os).layVars Tryz.prog data6
theorem witW6_os (os : Os) : (witW6 os).os = os := World.layVars_os _ _ _
theorem laidMet_over6 {P : Program} {w0 : World} {laid : List (String × DataW Unit)} (args : Array Value) (hf : w0.layFits P laid [] = true) (hi : w0.layIfaces P laid (w0.layVars P laid) = true) :
    laidMet P laid ((w0.layVars P laid).forCall (fun _ _ => 0) ⟨#[], args, []⟩).memory := by
  have e1 : (laid.filter fun x => (laid.map (·.1)).contains x.1) = laid := List.filter_eq_self.2 fun x hx => List.contains_iff_mem.2 (List.mem_map.2 ⟨x, hx, rfl⟩)
  have e2 : (laid.filter fun x => !(laid.map (·.1)).contains x.1) = [] := List.filter_eq_nil_iff.2 fun x hx => by rw [List.contains_iff_mem.2 (List.mem_map.2 ⟨x, hx, rfl⟩)]; simp
  have h : laidMet P laid (w0.layVars P laid) := laidMet_layVars (w0 := w0) (laid.map (·.1)) [] (by rw [e1]) (by rw [e1]; exact hf) (by rw [e1]; exact hi) (by rw [e2]; exact LaidIn.none)
  exact h.of_heap (by simp [World.memory, World.forCall, Input.heap])
theorem witness_row_shaped6 {H : Type} {enc : TypeId × Value → H} {C : Checked} {os : Os} {f : FuncId} {fn : Func} {s : OpenSpec} {conds : List PathCond} {apart : Bool} {laid : List (String × DataW Unit)} (w0 : World) (args : Array Value) (hos : w0.os = os)
    (hsh : (w0.forCall (fun _ _ => 0) ⟨#[], args, []⟩).Shaped C.prog)
    (hok : Input.okWideB C.prog (w0.forCall (fun _ _ => 0) ⟨#[], args, []⟩) f ⟨#[], args, []⟩ = true)
    (hrow : s.preRow enc C.prog fn conds apart laid (w0.forCall (fun _ _ => 0) ⟨#[], args, []⟩).memory args) :
    ∃ (w : World) (tape : Tape) (i : Input), w.os = os ∧ (w.forCall tape i).Shaped C.prog ∧ i.vars = [] ∧ Input.okWide C.prog (w.forCall tape i) .any w.heap.size f i ∧
      s.preRow enc C.prog fn conds apart laid (w.forCall tape i).memory i.args ∧ ({} : Assume).holds C.prog (lone (Frame.enter C.prog f i.args .normal) [] (w.forCall tape i)) :=
  ⟨w0, fun _ _ => 0, ⟨#[], args, []⟩, hos, hsh, (Input.okWide_of_okWideB (base := 0) hok).1, (Input.okWide_of_okWideB hok).2, hrow, by
    simp only [Assume.holds]
    exact ⟨by simp, by simp, by simp, by simp, by simp⟩⟩
set_option maxRecDepth 100000 in
theorem witW6_met (os : Os) : laidMetH Tryz.prog laid6 ((witW6 os).forCall (fun _ _ => 0) ⟨#[], #[], []⟩).memory :=
  laidMetH_of_parts (laidMet_over6 #[] (by kernel_rfl) (by kernel_rfl)) (by kernel_rfl)
end Go.Proofs.YthjnkagepooeiaaGreatDoor
/-
  What a bound on the bulk of the arguments says of a text's bytes and of a list's places.
-/
namespace Go.Proofs.YthjnkagepooeiaaGreatDoor

theorem bulk_one {H : Type} (d : DataW H) : 1 ≤ Rows.uptoBulk d := by
  cases d with
  | lit l => cases l <;> simp [Rows.uptoBulk]
  | _ => simp [Rows.uptoBulk]
theorem bulk_length {H : Type} (l : List (DataW H)) : l.length ≤ Rows.uptoBulkAll l := by
  induction l with
  | nil => simp [Rows.uptoBulkAll]
  | cons x r ih => have := bulk_one x; simp only [Rows.uptoBulkAll, List.length_cons]; omega
theorem bulk_string {H : Type} (s : ByteArray) : Rows.uptoBulk (DataW.lit (H := H) (.string s.data.toList)) = s.size + 1 := by
  simp [Rows.uptoBulk]
theorem bulk_slice {H : Type} (es sp : List (DataW H)) : es.length + sp.length + 1 ≤ Rows.uptoBulk (.slice es sp) := by
  have h1 := bulk_length es
  have h2 := bulk_length sp
  simp only [Rows.uptoBulk]; omega
theorem bulk_bound {H : Type} {l : List (DataW H)} (hk : Rows.uptoSmall H l = true) : Rows.uptoBulkAll l ≤ 1048576 := of_decide_eq_true hk
theorem bulk_first {H : Type} {d : DataW H} {l : List (DataW H)} (hk : Rows.uptoSmall H (d :: l) = true) : Rows.uptoBulk d ≤ 1048576 := by
  have := bulk_bound hk; simp only [Rows.uptoBulkAll] at this; omega
theorem bulk_second {H : Type} {c d : DataW H} {l : List (DataW H)} (hk : Rows.uptoSmall H (c :: d :: l) = true) : Rows.uptoBulk d ≤ 1048576 := by
  have := bulk_bound hk; simp only [Rows.uptoBulkAll] at this; omega
end Go.Proofs.YthjnkagepooeiaaGreatDoor
/-
  A note more in a text: the same rows but for the numbers of lines, or the same fault.
-/
namespace Go.Proofs.YthjnkagepooeiaaGreatDoor
open Go.RowKit Go.PlainAid Go.Lib Go.PHexM
set_option linter.unusedVariables false
set_option linter.unusedSimpArgs false

/-- a line's number, what it is, why it is wrong -/
abbrev LnP : Type := Nat × (LineD × Int)
def rdP : List LnP → List LineD × Option (Nat × Int)
  | [] => ([], none)
  | x :: l => if x.2.2 = 0 then (x.2.1 :: (rdP l).1, (rdP l).2) else ([], some (x.1, x.2.2))
def lnP (s : ByteArray) (x : Nat × Nat × Nat) : LnP := (x.1, scanX s x)
theorem rd_P (s : ByteArray) (l : List (Nat × Nat × Nat)) : rdS s l = rdP (l.map (lnP s)) := by
  induction l with
  | nil => rfl
  | cons x l ih => rw [List.map_cons, rdS, rdP, ← ih]; rfl
def rowsP (l : List LnP) : List RowD × Option (Int × Int) := match (rdP l).2 with
  | some (no, code) => ([], some ((no : Int), code))
  | none => tellR (eachR startW (rdP l).1)
theorem rows_P (s : ByteArray) : rowsS s = rowsP ((linesL s).map (lnP s)) := by
  unfold rowsS rowsP readS
  rw [rd_P]
  rfl

/-- a line with the same number or the next -/
def OneP (x y : LnP) : Prop := (y.1 = x.1 ∨ y.1 = x.1 + 1) ∧ y.2.2 = x.2.2 ∧ (x.2.2 = 0 → x.2.1.no = (x.1 : Int) ∧ y.2.1 = withNo x.2.1 (y.1 : Int))
def SkipP (n : LnP) : Prop := n.2.2 = 0 ∧ (n.2.1.kind = 0 ∨ n.2.1.kind = 3)
inductive Ins : List LnP → List LnP → Prop
  | nil : Ins [] []
  | cons {x y : LnP} {l m : List LnP} : OneP x y → Ins l m → Ins (x :: l) (y :: m)
  | skip {n : LnP} {l m : List LnP} : SkipP n → Ins l m → Ins l (n :: m)
def OneD (x y : LineD) : Prop := ∃ k : Int, y = withNo x k ∧ (k = x.no ∨ k = x.no + 1)
inductive InsD : List LineD → List LineD → Prop
  | nil : InsD [] []
  | cons {x y : LineD} {l m : List LineD} : OneD x y → InsD l m → InsD (x :: l) (y :: m)
  | skip {n : LineD} {l m : List LineD} : (n.kind = 0 ∨ n.kind = 3) → InsD l m → InsD l (n :: m)
theorem ins_rd {l m : List LnP} (h : Ins l m) : ((rdP l).2 = none → (rdP m).2 = none ∧ InsD (rdP l).1 (rdP m).1) ∧ (∀ no c, (rdP l).2 = some (no, c) → ∃ no', (rdP m).2 = some (no', c) ∧ (no' = no ∨ no' = no + 1)) := by
  induction h with
  | nil => exact ⟨fun _ => ⟨rfl, .nil⟩, fun no c h => (by cases h)⟩
  | @cons x y l m h1 _ ih =>
    obtain ⟨g1, g2, g3⟩ := h1
    rw [rdP, rdP]
    by_cases hx : x.2.2 = 0
    · rw [if_pos hx, if_pos (g2.trans hx)]
      obtain ⟨e1, e2⟩ := g3 hx
      refine ⟨fun h => ?_, ih.2⟩
      obtain ⟨i1, i2⟩ := ih.1 h
      refine ⟨i1, .cons ⟨_, e2, ?_⟩ i2⟩
      rw [e1]
      omega
    · rw [if_neg hx, if_neg (by rw [g2]; exact hx)]
      refine ⟨fun h => (by cases h), fun no c h => ?_⟩
      obtain ⟨rfl, rfl⟩ : x.1 = no ∧ x.2.2 = c := by
        have := Option.some.inj h
        exact ⟨congrArg Prod.fst this, congrArg Prod.snd this⟩
      exact ⟨y.1, by rw [g2], g1⟩
  | @skip n l m h1 _ ih =>
    rw [show rdP (n :: m) = (n.2.1 :: (rdP m).1, (rdP m).2) by rw [rdP, if_pos h1.1]]
    exact ⟨fun h => ⟨(ih.1 h).1, .skip h1.2 (ih.1 h).2⟩, ih.2⟩

def wl (r : RowD) (k : Int) : RowD := { r with line := k }
theorem cell_wl (a : Nat) (f : List UInt8) (r : RowD) (k : Int) : cellP a f (wl r k) = (wl (cellP a f r).1 k, (cellP a f r).2) := by
  unfold cellP wl
  (repeat' split) <;> simp_all
theorem fold_wl (fs : List (List UInt8)) (k : Int) : ∀ (l : List Nat) (r : RowD), (foldC fs l (wl r k)).2 = (foldC fs l r).2 ∧ ((foldC fs l r).2 = 0 → (foldC fs l (wl r k)).1 = wl (foldC fs l r).1 k) ∧ ((foldC fs l r).2 ≠ 0 → (foldC fs l (wl r k)).1 = (foldC fs l r).1)
  | [], r => ⟨rfl, fun _ => rfl, fun h => absurd rfl h⟩
  | a :: l, r => by
    unfold foldC
    rw [cell_wl]
    simp only
    split
    · exact fold_wl fs k l _
    · rename_i h
      exact ⟨rfl, fun e => absurd e h, fun _ => rfl⟩
theorem scan_wl (d : LineD) (k : Int) : (scanR (withNo d k)).2 = (scanR d).2 ∧ ((scanR d).2 = 0 → (scanR (withNo d k)).1 = wl (scanR d).1 k) ∧ ((scanR d).2 ≠ 0 → (scanR (withNo d k)).1 = (scanR d).1) := by
  unfold scanR
  show (if d.kind = 2 then (zeroR, (33 : Int)) else if d.kind ≠ 1 ∨ d.fields.length ≠ 15 then (zeroR, 60) else foldC d.fields cellsL { zeroR with line := k }).2 = _ ∧ _ ∧ _
  by_cases h2 : d.kind = 2
  · rw [if_pos h2, if_pos h2, if_pos (show (withNo d k).kind = 2 from h2)]
    exact ⟨rfl, fun h => absurd h (by decide), fun _ => rfl⟩
  · rw [if_neg h2, if_neg h2, if_neg (show ¬ (withNo d k).kind = 2 from h2)]
    by_cases h1 : d.kind ≠ 1 ∨ d.fields.length ≠ 15
    · rw [if_pos h1, if_pos h1, if_pos (show (withNo d k).kind ≠ 1 ∨ (withNo d k).fields.length ≠ 15 from h1)]
      exact ⟨rfl, fun h => absurd h (by decide), fun _ => rfl⟩
    · rw [if_neg h1, if_neg h1, if_neg (show ¬ ((withNo d k).kind ≠ 1 ∨ (withNo d k).fields.length ≠ 15) from h1)]
      exact fold_wl d.fields k cellsL { zeroR with line := d.no }
theorem scan_namew (d : LineD) (k : Int) : (scanR (withNo d k)).1.name = (scanR d).1.name := by
  obtain ⟨_, h1, h2⟩ := scan_wl d k
  by_cases h : (scanR d).2 = 0
  · rw [h1 h]; rfl
  · rw [h2 h]
theorem which_wl (d : LineD) (k : Int) : whichR (withNo d k) = whichR d := by
  unfold whichR
  rw [scan_namew]
theorem plain_wl (d : LineD) (k : Int) (h : (scanR d).2 = 0) : plainR (withNo d k) = wl (plainR d) k := by
  unfold plainR
  rw [scan_namew, (scan_wl d k).2.1 h]
  rfl
theorem plain_name (d : LineD) (k : Int) : (plainR (withNo d k)).name = (plainR d).name := by
  show (halfP (scanR (withNo d k)).1.name).1 = (halfP (scanR d).1.name).1
  rw [scan_namew]
theorem plain_first (d : LineD) (k : Int) : (plainR (withNo d k)).first = (plainR d).first := by
  show (scanR (withNo d k)).1.first = (scanR d).1.first
  obtain ⟨_, h1, h2⟩ := scan_wl d k
  by_cases h : (scanR d).2 = 0
  · rw [h1 h]; rfl
  · rw [h2 h]

/-- a row with the same line or the next -/
def OneR (x y : RowD) : Prop := ∃ k : Int, y = wl x k ∧ (k = x.line ∨ k = x.line + 1)
def HeldRel : Option (LineD × RowD) → Option (LineD × RowD) → Prop
  | none, none => True
  | some x, some y => OneD x.1 y.1 ∧ OneR x.2 y.2
  | _, _ => False
structure WalkRel (s t : WalkD) : Prop where
  above : t.above = s.above
  held : HeldRel s.held t.held
theorem WalkRel.k {s t : WalkD} (h : WalkRel s t) : heldK t = heldK s := by
  have := h.held
  unfold heldK
  cases hs : s.held <;> cases ht : t.held <;> rw [hs, ht] at this <;> first | rfl | exact this.elim
theorem WalkRel.row {s t : WalkD} (h : WalkRel s t) : OneR (heldRow s) (heldRow t) := by
  have := h.held
  unfold heldRow
  cases hs : s.held <;> cases ht : t.held <;> rw [hs, ht] at this
  · exact ⟨0, rfl, .inl rfl⟩
  · exact this.elim
  · exact this.elim
  · exact this.2
theorem WalkRel.fields {s t : WalkD} (h : WalkRel s t) : (heldL t).fields = (heldL s).fields := by
  have hh := h.held
  unfold heldL
  revert hh
  cases s.held with
  | none =>
    cases t.held with
    | none => intro _; rfl
    | some y => intro hh; exact hh.elim
  | some x =>
    cases t.held with
    | none => intro hh; exact hh.elim
    | some y =>
      intro hh
      obtain ⟨k, e, _⟩ := hh.1
      show y.1.fields = x.1.fields
      rw [e]
      rfl
theorem OneR.name {x y : RowD} (h : OneR x y) : y.name = x.name := by obtain ⟨k, rfl, _⟩ := h; rfl
theorem step_same {s t : WalkD} (h : WalkRel s t) (d : LineD) (k : Int) : ∀ j, stepE t (withNo d k) j = stepE s d j
  | 0 => (scan_wl d k).1
  | 1 => by
    unfold stepE
    rw [h.k, which_wl, plain_name, h.row.name]
    rfl
  | 2 => by
    unfold stepE
    rw [plain_first, h.above]
    rfl
  | j + 3 => by
    unfold stepE
    rw [which_wl, h.fields]
    rfl
theorem ask_same {s t : WalkD} (h : WalkRel s t) (d : LineD) (k : Int) : askE t (withNo d k) = askE s d := by
  unfold askE
  rw [step_same h d k, step_same h d k, step_same h d k, step_same h d k]

def TellRel (x y : RowD × Int) : Prop := y.2 = x.2 ∧ OneR x.1 y.1
inductive All2 {α : Type} (R : α → α → Prop) : List α → List α → Prop
  | nil : All2 R [] []
  | cons {x y : α} {l m : List α} : R x y → All2 R l m → All2 R (x :: l) (y :: m)
theorem All2.app {α : Type} {R : α → α → Prop} {a b c d : List α} (h : All2 R a b) (k : All2 R c d) : All2 R (a ++ c) (b ++ d) := by
  induction h with
  | nil => exact k
  | cons h1 _ ih => exact .cons h1 ih
theorem step_rel {s t : WalkD} (h : WalkRel s t) {d d' : LineD} (hd : OneD d d') : All2 TellRel (stepR s d).1 (stepR t d').1 ∧ WalkRel (stepR s d).2 (stepR t d').2 := by
  obtain ⟨k, rfl, hk⟩ := hd
  unfold stepR
  rw [ask_same h, which_wl]
  by_cases h0 : d.kind = 0 ∨ d.kind = 3
  · rw [if_pos h0, if_pos (show (withNo d k).kind = 0 ∨ (withNo d k).kind = 3 from h0)]
    exact ⟨.nil, h⟩
  rw [if_neg h0, if_neg (show ¬ ((withNo d k).kind = 0 ∨ (withNo d k).kind = 3) from h0)]
  by_cases ha : askE s d ≠ 0
  · rw [if_pos ha, if_pos ha]
    exact ⟨.cons ⟨rfl, k, rfl, hk⟩ .nil, h⟩
  rw [if_neg ha, if_neg ha]
  have hz : (scanR d).2 = 0 := by
    have ha' : askE s d = 0 := by simpa using ha
    unfold askE at ha'
    split at ha'
    · exact absurd ha' (by assumption)
    · rename_i e; simpa [stepE] using e
  have hline : (plainR d).line = d.no := by
    show (scanR d).1.line = d.no
    have := (scan_wl d d.no).2.1 hz
    have e : withNo d d.no = d := rfl
    rw [e] at this
    rw [this]; rfl
  rw [plain_wl d k hz]
  have hP : OneR (plainR d) (wl (plainR d) k) := ⟨k, rfl, by rw [hline]; exact hk⟩
  by_cases h1 : whichR d = 1
  · rw [if_pos h1, if_pos h1]
    exact ⟨.nil, rfl, ⟨k, rfl, hk⟩, hP⟩
  rw [if_neg h1, if_neg h1]
  by_cases h2 : whichR d = 2
  · rw [if_pos h2, if_pos h2]
    obtain ⟨k2, e2, hk2⟩ := h.row
    refine ⟨.cons ⟨rfl, k2, ?_, hk2⟩ .nil, rfl, trivial⟩
    rw [e2]; rfl
  · rw [if_neg h2, if_neg h2]
    exact ⟨.cons ⟨rfl, hP⟩ .nil, rfl, h.held⟩
theorem each_rel {l m : List LineD} (h : InsD l m) : ∀ {s t : WalkD}, WalkRel s t → All2 TellRel (eachR s l) (eachR t m) := by
  induction h with
  | nil =>
    intro s t hw
    have := hw.held
    unfold eachR lastR
    cases hs : s.held <;> cases ht : t.held <;> rw [hs, ht] at this
    · exact .nil
    · exact this.elim
    · exact this.elim
    · obtain ⟨k, e, hk⟩ := this.1
      refine .cons ⟨rfl, k, ?_, hk⟩ .nil
      simp only [e]
      rfl
  | cons h1 _ ih =>
    intro s t hw
    obtain ⟨a, b⟩ := step_rel hw h1
    exact a.app (ih b)
  | @skip n l m h1 _ ih =>
    intro s t hw
    have e : stepR t n = ([], t) := by unfold stepR; rw [if_pos h1]
    rw [show eachR t (n :: m) = (stepR t n).1 ++ eachR (stepR t n).2 m from rfl, e]
    exact ih hw
theorem tell_rel {l m : List (RowD × Int)} (h : All2 TellRel l m) : ((tellR l).2 = none → (tellR m).2 = none) ∧ All2 OneR (tellR l).1 (tellR m).1 ∧ (∀ no c, (tellR l).2 = some (no, c) → ∃ no', (tellR m).2 = some (no', c) ∧ (no' = no ∨ no' = no + 1)) := by
  induction h with
  | nil => exact ⟨fun _ => rfl, .nil, fun no c h => by cases h⟩
  | @cons x y l m h1 _ ih =>
    obtain ⟨e, k, hy, hk⟩ := h1
    rw [tellR, tellR, e]
    by_cases hx : x.2 = 0
    · rw [if_pos hx, if_pos hx]
      exact ⟨ih.1, .cons ⟨k, hy, hk⟩ ih.2.1, ih.2.2⟩
    · rw [if_neg hx, if_neg hx]
      refine ⟨fun h => (by cases h), .nil, fun no c h => ?_⟩
      obtain ⟨rfl, rfl⟩ : x.1.line = no ∧ x.2 = c := by
        have := Option.some.inj h
        exact ⟨congrArg Prod.fst this, congrArg Prod.snd this⟩
      exact ⟨y.1.line, rfl, by rw [hy]; exact hk⟩
theorem ins_rows {l m : List LnP} (h : Ins l m) : ((rowsP l).2 = none → (rowsP m).2 = none ∧ All2 OneR (rowsP l).1 (rowsP m).1) ∧ (∀ no c, (rowsP l).2 = some (no, c) → ∃ no', (rowsP m).2 = some (no', c) ∧ (no' = no ∨ no' = no + 1)) := by
  obtain ⟨h1, h2⟩ := ins_rd h
  unfold rowsP
  cases hl : (rdP l).2 with
  | none =>
    obtain ⟨g1, g2⟩ := h1 hl
    rw [g1]
    simp only
    have := tell_rel (each_rel g2 (s := startW) (t := startW) ⟨rfl, trivial⟩)
    exact ⟨fun h => ⟨this.1 h, this.2.1⟩, this.2.2⟩
  | some x =>
    obtain ⟨no, c⟩ := x
    obtain ⟨no', e, hn⟩ := h2 no c hl
    rw [e]
    simp only
    refine ⟨fun h => (by cases h), fun n' c' h => ?_⟩
    obtain ⟨rfl, rfl⟩ : (no : Int) = n' ∧ c = c' := by
      have := Option.some.inj h
      exact ⟨congrArg Prod.fst this, congrArg Prod.snd this⟩
    exact ⟨_, rfl, by omega⟩
end Go.Proofs.YthjnkagepooeiaaGreatDoor
/-
  A note more in a text: its lines.
-/
namespace Go.Proofs.YthjnkagepooeiaaGreatDoor
open Go.RowKit Go.PlainAid Go.Lib Go.PHexM
set_option linter.unusedVariables false
set_option linter.unusedSimpArgs false

theorem lines_app2 (a b : ByteArray) (h0 : 0 < a.size) (hl : bN a (a.size - 1) = 10) : linesL (a ++ b) = linesL a ++ (linesI b 1 0).map (shiftL (linesL a).length a.size) := by
  rw [← linesL_I, ← linesL_I a, mark_app a b h0 hl, lines_first a b hl _ 1 (markN a) (Nat.le_refl _) (mark_le a)]
  have := lines_second a b _ 1 0 (linesI a 1 (markN a)).length (Nat.le_refl _) (Nat.zero_le _)
  rw [Nat.add_zero] at this
  rw [this]
/-- a line that is a note -/
structure NoteT (N : ByteArray) : Prop where
  long : 2 ≤ N.size
  short : N.size ≤ 4096
  first : bN N 0 = 35
  last : bN N (N.size - 1) = 10
  plain : ∀ j, j < N.size - 1 → 32 ≤ bN N j ∧ bN N j ≤ 126
theorem chk_plain (t : ByteArray) (h : ∀ j, j < t.size → 32 ≤ bN t j ∧ bN t j ≤ 126) (hs : t.size ≤ 4096) : ∀ (k pos : Nat), t.size - pos ≤ k → chk t pos (chars t pos) = (0, 0) := by
  intro k
  induction k with
  | zero => intro pos hk; rw [chars_end t pos (by omega)]; rfl
  | succ k ih =>
    intro pos hk
    by_cases hp : pos < t.size
    · have hb := h pos hp
      have hd : Utf8.decode t pos = (bN t pos, 1) := by
        rw [decode_decB t pos hp]
        unfold decB
        rw [if_pos (by omega)]
      rw [chars_step t pos hp, hd, chk, if_neg (by omega), if_neg (by omega), if_neg (by simp [ctrlB]; omega)]
      exact ih (pos + 1) (by omega)
    · rw [chars_end t pos hp]; rfl
theorem trim_hash (l : List UInt8) : hasPrefix (trimB (35 :: l)) [64] = false := by
  have h : ∃ y, trimRightS (35 :: l) [32, 9] = 35 :: y := by
    unfold trimRightS
    rw [List.reverse_cons, List.dropWhile_append]
    split
    · exact ⟨[], rfl⟩
    · rw [List.reverse_append]
      exact ⟨_, rfl⟩
  obtain ⟨y, hy⟩ := h
  unfold trimB trimS
  rw [hy]
  unfold trimLeftS
  rw [List.dropWhile_cons, if_neg (by decide)]
  rfl
theorem scan_hash (no : Int) (t : ByteArray) (l : List UInt8) (hl : L t = 35 :: l) (h : ∀ j, j < t.size → 32 ≤ bN t j ∧ bN t j ≤ 126) (hs : t.size ≤ 4096) : (scanS no t).2 = 0 ∧ ((scanS no t).1.kind = 0 ∨ (scanS no t).1.kind = 3) := by
  have hc : chkS t = (0, 0) := chk_plain t h hs _ 0 (Nat.le_refl _)
  unfold scanS
  rw [hc, hl, trim_hash]
  simp only [ne_eq, not_true_eq_false, if_false, Bool.false_eq_true]
  have hcut : (cutS t).1 = [] := by
    unfold cutS
    rw [hl, mach]
    simp [lastF]
  refine ⟨trivial, ?_⟩
  unfold plainS
  rw [if_neg (by simp [hcut])]
  split
  · exact .inr rfl
  · exact .inl rfl
theorem note_mark {N : ByteArray} (h : NoteT N) : markN N = 0 := by
  rw [markN_eq, if_neg]
  rintro ⟨_, h0, _⟩
  rw [h.first] at h0
  omega
theorem note_lines {N : ByteArray} (h : NoteT N) : linesI N 1 0 = [(1, 0, N.size - 1)] := by
  have hl := h.long
  obtain ⟨e1, e2, e3⟩ := linesI_found N 1 0 (N.size - 1) (Nat.zero_le _) (by omega) h.last (fun j _ hj => by have := h.plain j hj; omega)
  have h2 := h.plain (N.size - 1 - 1) (by omega)
  rw [e1, e2, if_neg (by omega), show N.size - 1 + 1 = N.size by omega, linesI_end]
theorem note_scan {N : ByteArray} (h : NoteT N) (no : Nat) : (scanX N (no, 0, N.size - 1)).2 = 0 ∧ ((scanX N (no, 0, N.size - 1)).1.kind = 0 ∨ (scanX N (no, 0, N.size - 1)).1.kind = 3) := by
  have hl := h.long
  have hs := h.short
  obtain ⟨t, ht⟩ : ∃ t, N.extract 0 (N.size - 1) = t := ⟨_, rfl⟩
  have hL : L t = (L N).take (N.size - 1) := by rw [← ht, L_extract]; simp
  have hsz : t.size = N.size - 1 := by
    have := congrArg List.length hL
    rw [L_len, List.length_take, L_len] at this
    omega
  have hb : ∀ j, j < N.size - 1 → bN t j = bN N j := by
    intro j hj
    have h1 := L_at t j (by omega)
    have h2 := L_at N j (by omega)
    rw [hL, List.getElem?_take, if_pos hj, h2] at h1
    unfold bN
    rw [Option.some.inj h1]
  unfold scanX
  simp only
  rw [ht]
  have h0 : L t ≠ [] := by
    intro e
    have : t.size = 0 := by rw [← L_len, e]; rfl
    omega
  obtain ⟨x, l, hxl⟩ := List.exists_cons_of_ne_nil h0
  have hx : x = 35 := by
    have h1 := L_at t 0 (by omega)
    rw [hxl] at h1
    simp at h1
    have h2 := hb 0 (by omega)
    rw [h.first] at h2
    unfold bN at h2
    rw [← h1] at h2
    exact UInt8.toNat_inj.1 h2
  subst hx
  exact scan_hash _ t l hxl (fun j hj => by rw [hb j (by omega)]; exact h.plain j (by omega)) (by omega)

theorem ins_map {α : Type} (f g : α → LnP) {m m' : List LnP} (k : Ins m m') : ∀ l : List α, (∀ x ∈ l, OneP (f x) (g x)) → Ins (l.map f ++ m) (l.map g ++ m')
  | [], _ => k
  | x :: l, h => .cons (h x (by simp)) (ins_map f g k l fun y hy => h y (by simp [hy]))
theorem ln_no (s : ByteArray) (x : Nat × Nat × Nat) (h : (scanX s x).2 = 0) : (scanX s x).1.no = (x.1 : Int) := scan_number _ _ h
theorem one_same (s t : ByteArray) (x : Nat × Nat × Nat) (h : scanX t x = scanX s x) : OneP (lnP s x) (lnP t x) := by
  refine ⟨.inl rfl, by show (scanX t x).2 = _; rw [h]; rfl, fun hz => ?_⟩
  have e := ln_no s x hz
  refine ⟨e, ?_⟩
  show (scanX t x).1 = withNo (scanX s x).1 (x.1 : Int)
  rw [h, ← e]
  rfl
theorem app_assoc (a b c : ByteArray) : a ++ b ++ c = a ++ (b ++ c) := by
  rw [← S_L (a ++ b ++ c), ← S_L (a ++ (b ++ c)), L_app, L_app, L_app, L_app, List.append_assoc]
theorem app_nil_left (a b : ByteArray) (h : a.size = 0) : a ++ b = b := by
  have : L a = [] := by
    apply List.eq_nil_of_length_eq_zero
    rw [L_len]; exact h
  rw [← S_L (a ++ b), L_app, this, List.nil_append, S_L]
theorem with_twice {x y z : LineD} {k m : Int} (h : y = withNo x k) (g : z = withNo x m) : z = withNo y m := by rw [h, g]; rfl
theorem skip_of {s t u : ByteArray} {z y : Nat × Nat × Nat} {k : Int} (e : scanX s z = scanX t z) (g : (scanX t z).2 = (scanX u y).2 ∧ ((scanX u y).2 = 0 → (scanX t z).1 = withNo (scanX u y).1 k)) (n : (scanX u y).2 = 0 ∧ ((scanX u y).1.kind = 0 ∨ (scanX u y).1.kind = 3)) : SkipP (lnP s z) := by
  unfold SkipP lnP
  dsimp only
  rw [e, g.1, g.2 n.1]
  exact n
theorem blank_ins (a b N : ByteArray) (h : NoteT N) (ha : (a.size = 0 ∧ markN b = 0) ∨ (0 < a.size ∧ bN a (a.size - 1) = 10)) : Ins ((linesL (a ++ b)).map (lnP (a ++ b))) ((linesL (a ++ N ++ b)).map (lnP (a ++ N ++ b))) := by
  have hl := h.long
  have hNL : linesL N = [(1, 0, N.size - 1)] := by rw [← linesL_I, note_mark h, note_lines h]
  rcases ha with ⟨ha, hm⟩ | ⟨h0, hl10⟩
  · rw [app_nil_left a b ha, app_nil_left a N ha, lines_app2 N b (by omega) h.last, hNL, ← linesL_I b, hm]
    refine .skip ?_ ?_
    · show (scanX (N ++ b) (1, 0, N.size - 1)).2 = 0 ∧ _
      have e : scanX (N ++ b) (1, 0, N.size - 1) = scanX N (1, 0, N.size - 1) := scanX_first N b _ (by rw [hNL]; simp)
      refine ⟨by rw [e]; exact (note_scan h 1).1, ?_⟩
      show (scanX (N ++ b) (1, 0, N.size - 1)).1.kind = 0 ∨ (scanX (N ++ b) (1, 0, N.size - 1)).1.kind = 3
      rw [e]
      exact (note_scan h 1).2
    · show Ins ((linesI b 1 0).map (lnP b)) (((linesI b 1 0).map (shiftL 1 N.size)).map (lnP (N ++ b)))
      rw [List.map_map]
      have := ins_map (lnP b) ((lnP (N ++ b)) ∘ shiftL 1 N.size) Ins.nil (linesI b 1 0) (fun y _ => ?_)
      · simpa using this
      · obtain ⟨g1, g2⟩ := scanX_second N b 1 y
        refine ⟨.inr rfl, g1, fun hz => ⟨ln_no b y hz, g2 hz⟩⟩
  · have hz : 0 < (a ++ N).size := by rw [app_size]; omega
    have hz10 : bN (a ++ N) ((a ++ N).size - 1) = 10 := by
      rw [app_size, show a.size + N.size - 1 = a.size + (N.size - 1) by omega, bN_ge_app a N _ (by omega)]
      exact h.last
    have hLN : linesL (a ++ N) = linesL a ++ [shiftL (linesL a).length a.size (1, 0, N.size - 1)] := by
      rw [lines_app2 a N h0 hl10, note_lines h]; rfl
    rw [lines_app2 (a ++ N) b hz hz10, lines_app2 a b h0 hl10, hLN]
    simp only [List.map_append, List.map_cons, List.map_nil, List.append_assoc]
    refine ins_map (lnP (a ++ b)) (lnP (a ++ N ++ b)) ?_ (linesL a) (fun x hx => ?_)
    · refine .skip ?_ ?_
      · have hm : shiftL (linesL a).length a.size (1, 0, N.size - 1) ∈ linesL (a ++ N) := by rw [hLN]; simp
        exact skip_of (scanX_first (a ++ N) b _ hm) (scanX_second a N (linesL a).length (1, 0, N.size - 1)) (note_scan h 1)
      · rw [List.map_map, List.map_map]
        have := ins_map ((lnP (a ++ b)) ∘ shiftL (linesL a).length a.size) ((lnP (a ++ N ++ b)) ∘ shiftL (linesL a ++ [shiftL (linesL a).length a.size (1, 0, N.size - 1)]).length (a ++ N).size) Ins.nil (linesI b 1 0) (fun y _ => ?_)
        · simpa using this
        · obtain ⟨f1, f2⟩ := scanX_second a b (linesL a).length y
          obtain ⟨g1, g2⟩ := scanX_second (a ++ N) b (linesL a ++ [shiftL (linesL a).length a.size (1, 0, N.size - 1)]).length y
          refine ⟨.inr ?_, g1.trans f1.symm, fun hz => ?_⟩
          · show y.1 + (linesL a ++ [shiftL (linesL a).length a.size (1, 0, N.size - 1)]).length = y.1 + (linesL a).length + 1
            simp; omega
          · have hzb : (scanX b y).2 = 0 := f1.symm.trans hz
            refine ⟨ln_no (a ++ b) _ hz, ?_⟩
            exact with_twice (f2 hzb) (g2 hzb)
    · have hm : x ∈ linesL (a ++ N) := by rw [hLN]; simp [hx]
      exact one_same _ _ x (by rw [scanX_first (a ++ N) b x hm, scanX_first a N x hx, scanX_first a b x hx])
/-- a note more: the rows are the same but for their lines, or the fault is the same but for its line -/
theorem blank_rows (a b N : ByteArray) (h : NoteT N) (ha : (a.size = 0 ∧ markN b = 0) ∨ (0 < a.size ∧ bN a (a.size - 1) = 10)) :
    ((rowsS (a ++ b)).2 = none → (rowsS (a ++ N ++ b)).2 = none ∧ All2 OneR (rowsS (a ++ b)).1 (rowsS (a ++ N ++ b)).1) ∧ (∀ no c, (rowsS (a ++ b)).2 = some (no, c) → ∃ no', (rowsS (a ++ N ++ b)).2 = some (no', c) ∧ (no' = no ∨ no' = no + 1)) := by
  rw [rows_P, rows_P]
  exact ins_rows (blank_ins a b N h ha)
end Go.Proofs.YthjnkagepooeiaaGreatDoor
/-
  Two lists of rows that are the same but for their lines; the number of a fault's line.
-/
namespace Go.Proofs.YthjnkagepooeiaaGreatDoor
open Go.RowKit Go.PlainAid Go.Lib Go.PHexM Go.Shelf
set_option linter.unusedVariables false
set_option linter.unusedSimpArgs false

theorem each_bad : ∀ (ds : List LineD) (st : WalkD) (x : RowD × Int), x ∈ eachR st ds → x.2 ≠ 0 → (∃ d ∈ ds, x.1.line = d.no) ∨ (∃ h, st.held = some h ∧ x.1.line = h.1.no)
  | [], st, x, hx, hz => by
    unfold eachR lastR at hx
    cases hh : st.held with
    | none => rw [hh] at hx; simp at hx
    | some h =>
      rw [hh] at hx
      simp only [List.mem_singleton] at hx
      subst hx
      exact .inr ⟨h, rfl, rfl⟩
  | d :: ds, st, x, hx, hz => by
    unfold eachR at hx
    have key : (x ∈ (stepR st d).1 → x.1.line = d.no) ∧ (∀ h, (stepR st d).2.held = some h → h.1 = d ∨ st.held = some h) := by
      unfold stepR
      split
      · exact ⟨fun h => by simp at h, fun h hh => .inr hh⟩
      · split
        · exact ⟨fun h => by simp only [List.mem_singleton] at h; subst h; rfl, fun h hh => .inr hh⟩
        · split
          · exact ⟨fun h => by simp at h, fun h hh => by cases hh; exact .inl rfl⟩
          · split
            · exact ⟨fun h => by simp only [List.mem_singleton] at h; subst h; exact absurd rfl hz, fun h hh => by cases hh⟩
            · exact ⟨fun h => by simp only [List.mem_singleton] at h; subst h; exact absurd rfl hz, fun h hh => .inr hh⟩
    rcases List.mem_append.1 hx with hx | hx
    · exact .inl ⟨d, by simp, key.1 hx⟩
    · rcases each_bad ds _ x hx hz with ⟨d', hd, e⟩ | ⟨h, hh, e⟩
      · exact .inl ⟨d', by simp [hd], e⟩
      · rcases key.2 h hh with rfl | hs
        · exact .inl ⟨h.1, by simp, e⟩
        · exact .inr ⟨h, hs, e⟩
theorem tell_some {l : List (RowD × Int)} {no c : Int} (h : (tellR l).2 = some (no, c)) : ∃ x ∈ l, x.2 ≠ 0 ∧ x.1.line = no := by
  induction l with
  | nil => cases h
  | cons a l ih =>
    unfold tellR at h
    split at h
    · obtain ⟨x, hx, h1, h2⟩ := ih h
      exact ⟨x, by simp [hx], h1, h2⟩
    · rename_i hn
      refine ⟨a, by simp, hn, ?_⟩
      have := Option.some.inj h
      exact congrArg Prod.fst this
theorem tell_len6 (l : List (RowD × Int)) : (tellR l).1.length ≤ l.length := by
  induction l with
  | nil => exact Nat.le_refl _
  | cons x l ih => unfold tellR; split <;> simp; omega
theorem rows_len6 (s : ByteArray) : (rowsS s).1.length ≤ s.size + 3 := by
  unfold rowsS
  split
  · simp
  · have h1 := tell_len6 (eachR startW (readS s).1)
    have h2 := each_len startW (readS s).1
    have h3 : ∀ l : List (Nat × Nat × Nat), (rdS s l).1.length ≤ l.length := by
      intro l
      induction l with
      | nil => simp [rdS]
      | cons x l ih => unfold rdS; split <;> simp <;> omega
    have h4 := h3 (linesL s)
    have h5 : (linesL s).length ≤ (extsL s).length := (List.takeWhile_sublist _).length_le
    have h6 := exts_len s
    have h7 : (readS s).1.length = (rdS s (linesL s)).1.length := rfl
    omega
theorem rd_no (s : ByteArray) : ∀ (l : List (Nat × Nat × Nat)), (rdS s l).2 = none → ∀ d ∈ (rdS s l).1, ∃ x ∈ l, d.no = (x.1 : Int)
  | [], _, d, hd => by simp [rdS] at hd
  | x :: l, h, d, hd => by
    unfold rdS at h hd
    split at h
    · rename_i hx
      rw [if_pos hx] at hd
      rcases List.mem_cons.1 hd with rfl | hd
      · exact ⟨x, by simp, scan_number _ _ hx⟩
      · obtain ⟨y, hy, e⟩ := rd_no s l h d hd
        exact ⟨y, by simp [hy], e⟩
    · cases h
theorem rd_bno (s : ByteArray) : ∀ (l : List (Nat × Nat × Nat)) (no : Nat) (c : Int), (rdS s l).2 = some (no, c) → ∃ x ∈ l, x.1 = no
  | [], no, c, h => by cases h
  | x :: l, no, c, h => by
    unfold rdS at h
    split at h
    · obtain ⟨y, hy, e⟩ := rd_bno s l no c h
      exact ⟨y, by simp [hy], e⟩
    · exact ⟨x, by simp, congrArg Prod.fst (Option.some.inj h)⟩
theorem rows_num {s : ByteArray} {no c : Int} (h : (rowsS s).2 = some (no, c)) : 0 ≤ no ∧ no ≤ (s.size : Int) + 1 := by
  have hb : ∀ x ∈ linesL s, x.1 ≤ s.size + 1 := fun x hx => (lines_mem s x hx).2.2.2
  unfold rowsS at h
  cases hr : (readS s).2 with
  | some p =>
    obtain ⟨n, k⟩ := p
    rw [hr] at h
    obtain ⟨x, hx, e⟩ := rd_bno s _ n k hr
    have e2 : (n : Int) = no := congrArg Prod.fst (Option.some.inj h)
    have := hb x hx
    omega
  | none =>
    rw [hr] at h
    obtain ⟨x, hx, hz, e⟩ := tell_some h
    rcases each_bad _ _ x hx hz with ⟨d, hd, e2⟩ | ⟨h', hh, _⟩
    · obtain ⟨y, hy, e3⟩ := rd_no s _ hr d hd
      have := hb y hy
      omega
    · cases hh

set_option maxRecDepth 100000 in
set_option maxHeartbeats 4000000 in
theorem same6_yes (x : RowD) (k : Int) (w : World) :
    Calls Tryz.prog 54 #[rowV x, rowV (wl x k)] w fun e w' => e = .returned (.bool true) ∧ Below w.heap.size w w' := by
  obtain ⟨W1, hW1⟩ : ∃ W1, (w.alloc (.cells (rowC x).toArray 29)).alloc (.cells (rowC (wl x k)).toArray 29) = W1 := ⟨_, rfl⟩
  have b1 : Below w.heap.size w W1 := by rw [← hW1]; exact ((Below.refl _ w).alloc (Nat.le_refl _) _).alloc (by simp) _
  have r1 : RowAt W1 w.heap.size x := by rw [← hW1]; exact (Below.heap_alloc _ _ _ (by simp)).trans (heap_alloc_new w _)
  have r2 : RowAt W1 (w.heap.size + 1) (wl x k) := by
    rw [← hW1]
    have h := heap_alloc_new (w.alloc (.cells (rowC x).toArray 29)) (.cells (rowC (wl x k)).toArray 29)
    rw [World.size_alloc] at h
    exact h
  obtain ⟨W2, hW2⟩ : ∃ W2, W1.setCell ⟨w.heap.size, 0, none⟩ (.int .i64 0) = W2 := ⟨_, rfl⟩
  have q1 : RowAt W2 w.heap.size (wl x 0) := by rw [← hW2]; exact r1.set (r' := wl x 0) 0 _ rfl
  have q2 : RowAt W2 (w.heap.size + 1) (wl x k) := by rw [← hW2]; exact (Below.heap_setCell _ _ _ _ (by simp)).trans r2
  have b2 : Below w.heap.size w W2 := by rw [← hW2]; exact b1.setCell (Nat.le_refl _) _
  obtain ⟨W3, hW3⟩ : ∃ W3, W2.setCell ⟨w.heap.size + 1, 0, none⟩ (.int .i64 0) = W3 := ⟨_, rfl⟩
  have p1 : RowAt W3 w.heap.size (wl x 0) := by rw [← hW3]; exact (Below.heap_setCell _ _ _ _ (by simp)).trans q1
  have p2 : RowAt W3 (w.heap.size + 1) (wl x 0) := by rw [← hW3]; exact q2.set (r' := wl x 0) 0 _ rfl
  have b3 : Below w.heap.size w W3 := by rw [← hW3]; exact b2.setCell (Nat.le_succ _) _
  have c0 := r1.cell (j := 0) rfl
  have f0 := r1.frozen 0
  have c1 := q2.cell (j := 0) rfl
  have f1 := q2.frozen 0
  have x0 := p1.cell (j := 0) rfl
  have x1 := p1.cell (j := 1) rfl
  have x2 := p1.cell (j := 2) rfl
  have x3 := p1.cell (j := 3) rfl
  have x4 := p1.cell (j := 4) rfl
  have x5 := p1.cell (j := 5) rfl
  have x6 := p1.cell (j := 6) rfl
  have x7 := p1.cell (j := 7) rfl
  have x8 := p1.cell (j := 8) rfl
  have y0 := p2.cell (j := 0) rfl
  have y1 := p2.cell (j := 1) rfl
  have y2 := p2.cell (j := 2) rfl
  have y3 := p2.cell (j := 3) rfl
  have y4 := p2.cell (j := 4) rfl
  have y5 := p2.cell (j := 5) rfl
  have y6 := p2.cell (j := 6) rfl
  have y7 := p2.cell (j := 7) rfl
  have y8 := p2.cell (j := 8) rfl
  have B3 := hide b3
  simp only [wl] at *
  clear r1 r2 q1 q2 p1 p2 b1 b2 b3
  go_enter Tryz.func54, Tryz.ntmps54
  go_wp2
  go_ret
  exact ⟨rfl, unhide B3⟩

theorem all2_len {α : Type} {R : α → α → Prop} {l m : List α} (h : All2 R l m) : m.length = l.length := by
  induction h with
  | nil => rfl
  | cons _ _ ih => simp [ih]
theorem all2_at {α : Type} {R : α → α → Prop} {l m : List α} (h : All2 R l m) : ∀ (i : Nat) (x : α), l[i]? = some x → ∃ y, m[i]? = some y ∧ R x y := by
  induction h with
  | nil => intro i x hx; simp at hx
  | cons h1 _ ih =>
    intro i x hx
    cases i with
    | zero => simp at hx; subst hx; exact ⟨_, rfl, h1⟩
    | succ i => exact ih i x (by simpa using hx)

set_option maxRecDepth 100000 in
set_option maxHeartbeats 4000000 in
theorem sameBut_yes (rs ts : List RowD) (a b : Option Addr) (n ca cb : Nat) (w : World) (h2 : All2 OneR rs ts) (hn : rs.length = n) (hnb : n ≤ 1099511627776) (ha : RwMem w a rs) (hb : RwMem w b ts) :
    Calls Tryz.prog 31 #[.slice a n ca, .slice b n cb] w fun e w' => e = .returned (.bool true) ∧ Below w.heap.size w w' := by
  have HA := hide ha
  have HB := hide hb
  have HN := hide hn
  have HAL := hide (all2_at h2)
  clear ha hb hn h2
  have hnn : ((n : Int) != (n : Int)) = false := by simp
  go_enter Tryz.func31, Tryz.ntmps31
  go_wp2
  go_loopw [5] (fun v5 wr => ∃ i : Nat, i ≤ n ∧ v5 = .int .i64 i ∧ Below w.heap.size w wr) (fun v5 _ => n - (RowKit.intOf v5).toNat)
  case atStart => exact ⟨0, Nat.zero_le _, rfl, Below.refl _ _⟩
  case round =>
    obtain ⟨i, hi, rfl, hbw⟩ := hrel
    by_cases hlt : i < n
    · obtain ⟨x, hx⟩ : ∃ x, rs[i]? = some x := ⟨_, List.getElem?_eq_getElem (by rw [unhide HN]; exact hlt)⟩
      obtain ⟨y, hy, k, rfl, _⟩ := unhide HAL i x hx
      obtain ⟨g, off, rfl, hc⟩ := ((unhide HA).below hbw) i x hx
      obtain ⟨g', off', rfl, hd⟩ := ((unhide HB).below hbw) i _ hy
      have HSM := hide (fun V => same6_yes x k V)
      have cx0 := hc 0 _ rfl
      have cx1 := hc 1 _ rfl
      have cx2 := hc 2 _ rfl
      have cx3 := hc 3 _ rfl
      have cx4 := hc 4 _ rfl
      have cx5 := hc 5 _ rfl
      have cx6 := hc 6 _ rfl
      have cx7 := hc 7 _ rfl
      have cx8 := hc 8 _ rfl
      have dx0 := hd 0 _ rfl
      have dx1 := hd 1 _ rfl
      have dx2 := hd 2 _ rfl
      have dx3 := hd 3 _ rfl
      have dx4 := hd 4 _ rfl
      have dx5 := hd 5 _ rfl
      have dx6 := hd 6 _ rfl
      have dx7 := hd 7 _ rfl
      have dx8 := hd 8 _ rfl
      simp only [Nat.add_zero, wl] at *
      have X0 := fun dq os => cell_regrown cx0 dq os
      have X1 := fun dq os => cell_regrown cx1 dq os
      have X2 := fun dq os => cell_regrown cx2 dq os
      have X3 := fun dq os => cell_regrown cx3 dq os
      have X4 := fun dq os => cell_regrown cx4 dq os
      have X5 := fun dq os => cell_regrown cx5 dq os
      have X6 := fun dq os => cell_regrown cx6 dq os
      have X7 := fun dq os => cell_regrown cx7 dq os
      have X8 := fun dq os => cell_regrown cx8 dq os
      have Y0 := fun dq os => cell_regrown dx0 dq os
      have Y1 := fun dq os => cell_regrown dx1 dq os
      have Y2 := fun dq os => cell_regrown dx2 dq os
      have Y3 := fun dq os => cell_regrown dx3 dq os
      have Y4 := fun dq os => cell_regrown dx4 dq os
      have Y5 := fun dq os => cell_regrown dx5 dq os
      have Y6 := fun dq os => cell_regrown dx6 dq os
      have Y7 := fun dq os => cell_regrown dx7 dq os
      have Y8 := fun dq os => cell_regrown dx8 dq os
      have hlt' : (i : Int) < (n : Int) := by omega
      have hq1 : IntKind.i64.wrap ((i : Int) + 1) = (i : Int) + 1 := by rw [IntKind.wrap_i64]; omega
      have HBW := hide hbw
      clear hc hd hx hy hbw
      go_wp2_with fail
      refine wp_region_quiet_below (by kernel_rfl) (by kernel_rfl) ?_
      repeat (go_big_quiet_step (first | (go_at_call 54; with_reducible exact Calls.regrown_of (unhide HSM _))))
      refine wpQuiet_nil ?_
      intro _ hw'
      obtain ⟨⟨dq, osq⟩, hw''⟩ := hw'
      subst hw''
      have hb3 : Below wr.heap.size wr (Sort.grow (redrawn wr dq) osq) := below_regrown wr dq osq
      have hb4 := (unhide HBW).trans (hb3.mono (unhide HBW).size)
      generalize Sort.grow (redrawn wr dq) osq = w3 at hb4 ⊢
      simp only [Exit.then]
      clear X0 X1 X2 X3 X4 X5 X6 X7 X8 Y0 Y1 Y2 Y3 Y4 Y5 Y6 Y7 Y8 hb3
      go_wp2
      go_roundw
      case rel => exact ⟨i + 1, by omega, by go_num, hb4⟩
      case measure => simp [RowKit.intOf]; omega
    · obtain rfl : i = n := by omega
      go_wp2
      go_ret
      exact ⟨rfl, hbw⟩
end Go.Proofs.YthjnkagepooeiaaGreatDoor
/-
  The rows of lines, told piece by piece: what is told, and how far the walk has come.
-/
namespace Go.Proofs.YthjnkagepooeiaaGreatDoor
open Go.RowKit Go.PlainAid Go.Lib Go.PHexM
set_option linter.unusedVariables false
set_option linter.unusedSimpArgs false

/-- what the lines tell, and the walk behind them -/
def runR : WalkD → List LineD → List (RowD × Int) × WalkD
  | st, [] => ([], st)
  | st, d :: ds => ((stepR st d).1 ++ (runR (stepR st d).2 ds).1, (runR (stepR st d).2 ds).2)
theorem each_run (st : WalkD) (ds : List LineD) : eachR st ds = (runR st ds).1 ++ lastR (runR st ds).2 := by
  induction ds generalizing st with
  | nil => rfl
  | cons d ds ih =>
    show (stepR st d).1 ++ eachR (stepR st d).2 ds = _
    rw [ih]
    show _ = (stepR st d).1 ++ (runR (stepR st d).2 ds).1 ++ lastR (runR (stepR st d).2 ds).2
    rw [List.append_assoc]
theorem run_app (st : WalkD) (ds es : List LineD) : runR st (ds ++ es) = ((runR st ds).1 ++ (runR (runR st ds).2 es).1, (runR (runR st ds).2 es).2) := by
  induction ds generalizing st with
  | nil => rfl
  | cons d ds ih =>
    show ((stepR st d).1 ++ (runR (stepR st d).2 (ds ++ es)).1, (runR (stepR st d).2 (ds ++ es)).2) = _
    rw [ih]
    show _ = ((stepR st d).1 ++ (runR (stepR st d).2 ds).1 ++ (runR (runR (stepR st d).2 ds).2 es).1, _)
    rw [List.append_assoc]
    rfl
/-- no line was wrong: every tell is a row -/
theorem tell_noneB {l : List (RowD × Int)} (h : (tellR l).2 = none) : (∀ x ∈ l, x.2 = 0) ∧ (tellR l).1 = l.map (·.1) := by
  induction l with
  | nil => exact ⟨fun x hx => by simp at hx, rfl⟩
  | cons a l ih =>
    unfold tellR at h ⊢
    split at h
    · rename_i ha
      obtain ⟨h1, h2⟩ := ih h
      refine ⟨fun x hx => ?_, by rw [if_pos ha]; simp [h2]⟩
      rcases List.mem_cons.1 hx with rfl | hx
      · exact ha
      · exact h1 x hx
    · cases h
theorem ask_partsB {st : WalkD} {d : LineD} (h : askE st d = 0) : (scanR d).2 = 0 ∧ nameE (heldK st == 1) (whichR d == 2) ((plainR d).name == (heldRow st).name) = 0 ∧ ¬ (plainR d).first ≤ st.above := by
  unfold askE at h
  have e0 : stepE st d 0 = (scanR d).2 := rfl
  have e1 : stepE st d 1 = nameE (heldK st == 1) (whichR d == 2) ((plainR d).name == (heldRow st).name) := rfl
  have e2 : stepE st d 2 = if (plainR d).first ≤ st.above then 62 else 0 := rfl
  rw [e0, e1, e2] at h
  split at h
  · rename_i h1; exact absurd h h1
  · rename_i h1
    split at h
    · rename_i h2; exact absurd h h2
    · rename_i h2
      refine ⟨by simpa using h1, by simpa using h2, fun h3 => ?_⟩
      rw [if_pos h3] at h
      simp at h
theorem ask_free {a a0 : Int} {d : LineD} (h : askE ⟨a0, none⟩ d = 0) (ha : a < (plainR d).first) : askE ⟨a, none⟩ d = 0 := by
  have hp := (ask_partsB h).2.2
  have e : ∀ b, ¬ (plainR d).first ≤ b → askE ⟨b, none⟩ d = (if stepE ⟨a0, none⟩ d 0 ≠ 0 then stepE ⟨a0, none⟩ d 0 else if stepE ⟨a0, none⟩ d 1 ≠ 0 then stepE ⟨a0, none⟩ d 1 else stepE ⟨a0, none⟩ d 3) := fun b hb => by
    unfold askE
    have e2 : stepE ⟨b, none⟩ d 2 = 0 := by show (if (plainR d).first ≤ b then (62 : Int) else 0) = 0; rw [if_neg hb]
    have e0 : stepE ⟨b, none⟩ d 0 = stepE ⟨a0, none⟩ d 0 := rfl
    have e1 : stepE ⟨b, none⟩ d 1 = stepE ⟨a0, none⟩ d 1 := rfl
    have e3 : stepE ⟨b, none⟩ d 3 = stepE ⟨a0, none⟩ d 3 := rfl
    rw [e0, e1, e2, e3]
    simp
  rw [e a (by omega), ← e a0 hp]
  exact h
theorem plain_point {d : LineD} (h : (scanR d).2 = 0) : (plainR d).last = (plainR d).first := by
  obtain ⟨n, _, h1, h2⟩ := scan_first h
  show (scanR d).1.last = (scanR d).1.first
  rw [h1, h2]
theorem step_cases (st : WalkD) (d : LineD) : stepR st d = ([], st) ∨ (∃ e, e ≠ 0 ∧ stepR st d = ([({ zeroR with line := d.no }, e)], st)) ∨
    (¬ (d.kind = 0 ∨ d.kind = 3) ∧ askE st d = 0 ∧ whichR d = 1 ∧ stepR st d = ([], ⟨(plainR d).first, some (d, plainR d)⟩)) ∨
    (¬ (d.kind = 0 ∨ d.kind = 3) ∧ askE st d = 0 ∧ whichR d = 2 ∧ stepR st d = ([({ heldRow st with last := (plainR d).last }, 0)], ⟨(plainR d).first, none⟩)) ∨
    (¬ (d.kind = 0 ∨ d.kind = 3) ∧ askE st d = 0 ∧ whichR d ≠ 1 ∧ whichR d ≠ 2 ∧ stepR st d = ([(plainR d, 0)], ⟨(plainR d).first, st.held⟩)) := by
  unfold stepR
  by_cases h0 : d.kind = 0 ∨ d.kind = 3
  · rw [if_pos h0]; exact .inl rfl
  · rw [if_neg h0]
    by_cases h1 : askE st d = 0
    · rw [if_neg (by simp [h1])]
      by_cases h2 : whichR d = 1
      · rw [if_pos h2]; exact .inr (.inr (.inl ⟨h0, h1, h2, rfl⟩))
      · rw [if_neg h2]
        by_cases h3 : whichR d = 2
        · rw [if_pos h3]; exact .inr (.inr (.inr (.inl ⟨h0, h1, h3, rfl⟩)))
        · rw [if_neg h3]; exact .inr (.inr (.inr (.inr ⟨h0, h1, h2, h3, rfl⟩)))
    · rw [if_pos h1]; exact .inr (.inl ⟨_, h1, rfl⟩)
theorem run_cons (st : WalkD) (d : LineD) (ds : List LineD) : runR st (d :: ds) = ((stepR st d).1 ++ (runR (stepR st d).2 ds).1, (runR (stepR st d).2 ds).2) := rfl
/-- a First that is held is told of in the end -/
theorem held_tells (ds : List LineD) : ∀ (f : Int) (h : LineD × RowD), eachR ⟨f, some h⟩ ds ≠ [] := by
  induction ds with
  | nil => intro f h e; cases e
  | cons d ds ih =>
    intro f h e
    have e' : (stepR ⟨f, some h⟩ d).1 ++ eachR (stepR ⟨f, some h⟩ d).2 ds = [] := e
    rcases step_cases ⟨f, some h⟩ d with s | ⟨c, _, s⟩ | ⟨_, _, _, s⟩ | ⟨_, _, _, s⟩ | ⟨_, _, _, _, s⟩
    · rw [s] at e'; exact ih f h e'
    · rw [s] at e'; cases e'
    · rw [s] at e'; exact ih _ _ e'
    · rw [s] at e'; cases e'
    · rw [s] at e'; cases e'
theorem none_told (ds : List LineD) : ∀ b : Int, eachR ⟨b, none⟩ ds = [] → runR ⟨b, none⟩ ds = ([], ⟨b, none⟩) := by
  induction ds with
  | nil => intro b _; rfl
  | cons d ds ih =>
    intro b e
    have e' : (stepR ⟨b, none⟩ d).1 ++ eachR (stepR ⟨b, none⟩ d).2 ds = [] := e
    rw [run_cons]
    rcases step_cases ⟨b, none⟩ d with s | ⟨c, _, s⟩ | ⟨_, _, _, s⟩ | ⟨_, _, _, s⟩ | ⟨_, _, _, _, s⟩
    · rw [s] at e' ⊢; rw [ih b e']; rfl
    · rw [s] at e'; cases e'
    · rw [s] at e'; exact absurd e' (held_tells ds _ _)
    · rw [s] at e'; cases e'
    · rw [s] at e'; cases e'
theorem run_held (ds : List LineD) : ∀ (f : Int) (h : LineD × RowD) (x : RowD), eachR ⟨f, some h⟩ ds = [(x, 0)] → x.first = h.2.first ∧ runR ⟨f, some h⟩ ds = ([(x, 0)], ⟨x.last, none⟩) := by
  induction ds with
  | nil =>
    intro f h x e
    have : (61 : Int) = 0 := congrArg Prod.snd (List.cons.inj e).1
    cases this
  | cons d ds ih =>
    intro f h x e
    have e' : (stepR ⟨f, some h⟩ d).1 ++ eachR (stepR ⟨f, some h⟩ d).2 ds = [(x, 0)] := e
    rw [run_cons]
    rcases step_cases ⟨f, some h⟩ d with s | ⟨c, hc, s⟩ | ⟨_, hz, h1, s⟩ | ⟨_, hz, h2, s⟩ | ⟨_, hz, h1, h2, s⟩
    · rw [s] at e' ⊢
      obtain ⟨k1, k2⟩ := ih f h x e'
      exact ⟨k1, by rw [k2]; rfl⟩
    · rw [s] at e'
      exact absurd (congrArg Prod.snd (List.cons.inj e').1) hc
    · have := (ask_partsB hz).2.1
      rw [h1] at this
      simp [nameE, heldK] at this
    · rw [s] at e' ⊢
      obtain ⟨k1, k2⟩ := List.cons.inj e'
      have hx : x = { h.2 with last := (plainR d).last } := (congrArg Prod.fst k1).symm
      have hn := none_told ds _ k2
      refine ⟨by rw [hx], ?_⟩
      rw [hn, hx]
      refine Prod.ext rfl ?_
      show WalkD.mk (plainR d).first none = WalkD.mk (plainR d).last none
      rw [plain_point (ask_partsB hz).1]
    · have := (ask_partsB hz).2.1
      have h2' : (whichR d == 2) = false := by simp [h2]
      rw [h2'] at this
      simp [nameE, heldK] at this
/-- the lines of one row, told behind any row that lies below it -/
theorem run_one (ds : List LineD) : ∀ (a0 a : Int) (x : RowD), eachR ⟨a0, none⟩ ds = [(x, 0)] → a < x.first → runR ⟨a, none⟩ ds = ([(x, 0)], ⟨x.last, none⟩) := by
  induction ds with
  | nil => intro a0 a x e; cases e
  | cons d ds ih =>
    intro a0 a x e ha
    have e' : (stepR ⟨a0, none⟩ d).1 ++ eachR (stepR ⟨a0, none⟩ d).2 ds = [(x, 0)] := e
    rw [run_cons]
    by_cases h0 : d.kind = 0 ∨ d.kind = 3
    · have s : ∀ st, stepR st d = ([], st) := fun st => by unfold stepR; rw [if_pos h0]
      rw [s] at e' ⊢
      rw [ih a0 a x e' ha]
      rfl
    rcases step_cases ⟨a0, none⟩ d with s | ⟨c, hc, s⟩ | ⟨_, hz, h1, s⟩ | ⟨_, hz, h2, s⟩ | ⟨_, hz, h1, h2, s⟩
    · exfalso
      unfold stepR at s
      rw [if_neg h0] at s
      by_cases k1 : askE ⟨a0, none⟩ d = 0
      · rw [if_neg (by simp [k1])] at s
        by_cases k2 : whichR d = 1
        · rw [if_pos k2] at s; have := congrArg (fun z => z.2.held.isSome) s; simp at this
        · rw [if_neg k2] at s
          by_cases k3 : whichR d = 2
          · rw [if_pos k3] at s; have := congrArg (fun z => z.1.length) s; simp at this
          · rw [if_neg k3] at s; have := congrArg (fun z => z.1.length) s; simp at this
      · rw [if_pos k1] at s; have := congrArg (fun z => z.1.length) s; simp at this
    · rw [s] at e'
      exact absurd (congrArg Prod.snd (List.cons.inj e').1) hc
    · rw [s] at e'
      obtain ⟨k1, k2⟩ := run_held ds _ _ x e'
      have hz2 := ask_free hz (show a < (plainR d).first by have : x.first = (plainR d).first := k1; omega)
      have s2 : stepR ⟨a, none⟩ d = ([], ⟨(plainR d).first, some (d, plainR d)⟩) := by unfold stepR; rw [if_neg h0, if_neg (by simp [hz2]), if_pos h1]
      rw [s2, k2]
      rfl
    · have := (ask_partsB hz).2.1
      rw [h2] at this
      simp [nameE, heldK] at this
    · rw [s] at e'
      obtain ⟨k1, k2⟩ := List.cons.inj e'
      have hx : x = plainR d := (congrArg Prod.fst k1).symm
      have hz2 := ask_free hz (show a < (plainR d).first by rw [← hx]; exact ha)
      have s2 : stepR ⟨a, none⟩ d = ([(plainR d, 0)], ⟨(plainR d).first, none⟩) := by unfold stepR; rw [if_neg h0, if_neg (by simp [hz2]), if_neg h1, if_neg h2]
      rw [s2]
      have k2' : eachR ⟨(plainR d).first, none⟩ ds = [] := k2
      rw [none_told ds _ k2', hx, plain_point (ask_partsB hz).1]
      rfl
end Go.Proofs.YthjnkagepooeiaaGreatDoor
/-
  Texts one behind the other: what is read of them.
-/
namespace Go.Proofs.YthjnkagepooeiaaGreatDoor
open Go.RowKit Go.PlainAid Go.Lib Go.PHexM
set_option linter.unusedVariables false
set_option linter.unusedSimpArgs false

theorem read_none {s : ByteArray} (h : (readS s).2 = none) : ∀ x ∈ linesL s, (scanX s x).2 = 0 := by
  rcases rd_cases s (linesL s) with hok | ⟨p, x, r, hp, h1, h2⟩
  · exact hok
  · have : (readS s).2 = some (x.1, (scanX s x).2) := by
      show (rdS s (linesL s)).2 = _
      rw [hp]; exact rd_bad s p r x h1 h2
    rw [this] at h; cases h
theorem read_all {s : ByteArray} (h : ∀ x ∈ linesL s, (scanX s x).2 = 0) : readS s = ((linesL s).map fun x => (scanX s x).1, none) := rd_ok s _ h
/-- two texts, the first of which ends in a line's end, are read one behind the other -/
theorem read_join (a b : ByteArray) (h0 : 0 < a.size) (hl : bN a (a.size - 1) = 10) (hm : markN b = 0) (ha : (readS a).2 = none) (hb : (readS b).2 = none) :
    readS (a ++ b) = ((readS a).1 ++ (readS b).1.map (fun d => withNo d (d.no + ((linesL a).length : Int))), none) := by
  have ka := read_none ha
  have kb := read_none hb
  have e := lines_app a b h0 hl hm
  have hall : ∀ x ∈ linesL (a ++ b), (scanX (a ++ b) x).2 = 0 := by
    intro x hx
    rw [e] at hx
    rcases List.mem_append.1 hx with hx | hx
    · rw [scanX_first a b x hx]; exact ka x hx
    · obtain ⟨y, hy, rfl⟩ := List.mem_map.1 hx
      rw [(scanX_second a b _ y).1]; exact kb y hy
  have e1 : (linesL a).map (fun x => (scanX (a ++ b) x).1) = (linesL a).map fun x => (scanX a x).1 := List.map_congr_left fun x hx => by rw [scanX_first a b x hx]
  have e2 : ((linesL b).map (shiftL (linesL a).length a.size)).map (fun x => (scanX (a ++ b) x).1) = ((linesL b).map fun x => (scanX b x).1).map (fun d => withNo d (d.no + ((linesL a).length : Int))) := by
    rw [List.map_map, List.map_map]
    refine List.map_congr_left fun y hy => ?_
    simp only [Function.comp_apply]
    rw [(scanX_second a b _ y).2 (kb y hy), ln_no b y (kb y hy), Int.natCast_add]
  rw [read_all hall, read_all ka, read_all kb, e, List.map_append, e1, e2]
theorem told_above (ds : List LineD) : ∀ (a0 : Int) (x : RowD), eachR ⟨a0, none⟩ ds = [(x, 0)] → a0 < x.first := by
  induction ds with
  | nil => intro a0 x e; cases e
  | cons d ds ih =>
    intro a0 x e
    have e' : (stepR ⟨a0, none⟩ d).1 ++ eachR (stepR ⟨a0, none⟩ d).2 ds = [(x, 0)] := e
    rcases step_cases ⟨a0, none⟩ d with s | ⟨c, hc, s⟩ | ⟨_, hz, h1, s⟩ | ⟨_, hz, h2, s⟩ | ⟨_, hz, h1, h2, s⟩
    · rw [s] at e'; exact ih a0 x e'
    · rw [s] at e'; exact absurd (congrArg Prod.snd (List.cons.inj e').1) hc
    · rw [s] at e'
      have k := (run_held ds _ _ x e').1
      have hp := (ask_partsB hz).2.2
      have k' : x.first = (plainR d).first := k
      have hp' : ¬ (plainR d).first ≤ a0 := hp
      omega
    · have := (ask_partsB hz).2.1
      rw [h2] at this
      simp [nameE, heldK] at this
    · rw [s] at e'
      have hx : x = plainR d := (congrArg Prod.fst (List.cons.inj e').1).symm
      have hp' : ¬ (plainR d).first ≤ a0 := (ask_partsB hz).2.2
      rw [hx]; omega
theorem ins_shift (ds : List LineD) : InsD ds (ds.map fun d => withNo d (d.no + 1)) := by
  induction ds with
  | nil => exact .nil
  | cons d ds ih => exact .cons ⟨_, rfl, .inr rfl⟩ ih
theorem shift_one {ds : List LineD} {x : RowD} (h : eachR startW ds = [(x, 0)]) : ∃ x', eachR startW (ds.map fun d => withNo d (d.no + 1)) = [(x', 0)] ∧ ∃ k, x' = wl x k := by
  have := each_rel (ins_shift ds) (s := startW) (t := startW) ⟨rfl, trivial⟩
  rw [h] at this
  generalize eachR startW (ds.map fun d => withNo d (d.no + 1)) = m at this
  cases this with
  | cons hr hn =>
    cases hn
    rename_i y
    obtain ⟨e, k, hk, _⟩ := hr
    obtain ⟨y1, y2⟩ := y
    simp only at e hk
    exact ⟨y1, by rw [e], k, hk⟩
theorem shift_many (n : Nat) {ds : List LineD} {x : RowD} (h : eachR startW ds = [(x, 0)]) : ∃ x', eachR startW (ds.map fun d => withNo d (d.no + (n : Int))) = [(x', 0)] ∧ ∃ k, x' = wl x k := by
  induction n with
  | zero =>
    refine ⟨x, ?_, x.line, rfl⟩
    have : (ds.map fun d => withNo d (d.no + ((0 : Nat) : Int))) = ds := by
      conv => rhs; rw [← List.map_id ds]
      exact List.map_congr_left fun d _ => by show withNo d (d.no + 0) = d; rw [Int.add_zero]; rfl
    rw [this]; exact h
  | succ n ih =>
    obtain ⟨x1, h1, k1, rfl⟩ := ih
    obtain ⟨x2, h2, k2, rfl⟩ := shift_one h1
    refine ⟨_, ?_, k2, rfl⟩
    rw [List.map_map] at h2
    refine Eq.trans ?_ (show _ = [(wl x k2, 0)] from h2)
    congr 1
    refine List.map_congr_left fun d _ => ?_
    simp only [Function.comp_apply]
    have e1 : (withNo d (d.no + (n : Int))).no = d.no + (n : Int) := rfl
    have e2 : ∀ k m, withNo (withNo d k) m = withNo d m := fun _ _ => rfl
    rw [e1, e2]
    congr 1
    omega
end Go.Proofs.YthjnkagepooeiaaGreatDoor
/-
  What is printed is read as it was, but for the lines' numbers.
-/
namespace Go.Proofs.YthjnkagepooeiaaGreatDoor
open Go.RowKit Go.PlainAid Go.Lib Go.PHexM Go.Shelf Go.Sort
set_option linter.unusedVariables false
set_option linter.unusedSimpArgs false

theorem line_end (r : RowD) (nm : ByteArray) (x : Int) : 0 < (lineT r nm x).size ∧ bN (lineT r nm x) ((lineT r nm x).size - 1) = 10 := by
  unfold lineT
  generalize shT x ++ ⟨#[59]⟩ ++ nm ++ ⟨#[59]⟩ ++ S r.cat ++ ⟨#[59]⟩ ++ combT r.comb ++ ⟨#[59]⟩ ++ shortS r.cls ++ ⟨#[59]⟩ ++ twinT r.twin ++ ⟨#[59, 59, 59, 59]⟩ ++ flagT r.mir = X
  have e : (X ++ (⟨#[59, 59, 59, 59, 59, 10]⟩ : ByteArray)).size = X.size + 6 := by rw [app_size]; rfl
  refine ⟨by omega, ?_⟩
  rw [e, show X.size + 6 - 1 = X.size + 5 by omega, bN_ge_app X _ 5 (by decide)]
  rfl
theorem dgt_small (r : Nat) (h : r < 16) : (dgt r).toNat < 128 := by
  have key : ∀ m : Nat, m < 16 → (dgt m).toNat < 128 := by decide +kernel
  exact key r h
theorem sh_head (x : Int) (h : 0 < (shT x).size) : bN (shT x) 0 < 128 := by
  unfold shT at h ⊢
  split
  · have hs : 0 < showLen x.toNat := by unfold showLen; (repeat' split) <;> omega
    obtain ⟨k, hk⟩ : ∃ k, showLen x.toNat = k + 1 := ⟨showLen x.toNat - 1, by omega⟩
    rw [hk, ← hexS_succ, bN_lt_app _ _ _ (by show 0 < 1; decide)]
    exact dgt_small _ (Nat.mod_lt _ (by decide))
  · rename_i hn
    rw [if_neg hn] at h
    exact absurd h (by decide)
theorem line_head (r : RowD) (nm : ByteArray) (x : Int) : bN (lineT r nm x) 0 < 128 := by
  have hb : 0 < (shT x ++ (⟨#[59]⟩ : ByteArray)).size ∧ bN (shT x ++ (⟨#[59]⟩ : ByteArray)) 0 < 128 := by
    have e : (shT x ++ (⟨#[59]⟩ : ByteArray)).size = (shT x).size + 1 := by rw [app_size]; rfl
    refine ⟨by omega, ?_⟩
    by_cases h : 0 < (shT x).size
    · rw [bN_lt_app _ _ _ h]; exact sh_head x h
    · have := bN_ge_app (shT x) (⟨#[59]⟩ : ByteArray) 0 (by decide)
      rw [show (shT x).size + 0 = 0 by omega] at this
      rw [this]; decide
  have step : ∀ (X Y : ByteArray), 0 < X.size ∧ bN X 0 < 128 → 0 < (X ++ Y).size ∧ bN (X ++ Y) 0 < 128 := fun X Y h => ⟨by rw [app_size]; omega, by rw [bN_lt_app _ _ _ h.1]; exact h.2⟩
  unfold lineT
  exact (step _ _ (step _ _ (step _ _ (step _ _ (step _ _ (step _ _ (step _ _ (step _ _ (step _ _ (step _ _ (step _ _ (step _ _ hb)))))))))))).2
theorem one_end (r : RowD) : 0 < (oneT r).size ∧ bN (oneT r) ((oneT r).size - 1) = 10 ∧ markN (oneT r) = 0 := by
  have hm : ∀ s : ByteArray, bN s 0 < 128 → markN s = 0 := fun s h => by rw [markN_eq, if_neg (by omega)]
  unfold oneT
  split
  · exact ⟨(line_end _ _ _).1, (line_end _ _ _).2, hm _ (line_head _ _ _)⟩
  · have h1 := line_end r (halfT r.name firstE) r.first
    have h2 := line_end r (halfT r.name lastE) r.last
    refine ⟨by rw [app_size]; omega, ?_, hm _ ?_⟩
    · rw [app_size, show (lineT r (halfT r.name firstE) r.first).size + (lineT r (halfT r.name lastE) r.last).size - 1 = (lineT r (halfT r.name firstE) r.first).size + ((lineT r (halfT r.name lastE) r.last).size - 1) by omega, bN_ge_app _ _ _ (by omega)]
      exact h2.2
    · rw [bN_lt_app _ _ _ h1.1]; exact line_head _ _ _
theorem ok_parts {r : RowD} {T : ByteArray} (h : okR r T = true) : ∃ x, (readS T).2 = none ∧ eachR startW (readS T).1 = [(x, 0)] ∧ x = { r with line := x.line } := by
  unfold okR at h
  split at h
  · rename_i x e
    refine ⟨x, ?_⟩
    unfold rowsS at e
    split at e
    · cases e
    · rename_i hn
      have h2 : (tellR (eachR startW (readS T).1)).2 = none := by rw [e]
      obtain ⟨k1, k2⟩ := tell_noneB h2
      rw [e] at k2
      refine ⟨hn, ?_, of_decide_eq_true h⟩
      match hl : eachR startW (readS T).1, k2, k1 with
      | [], k2, _ => cases k2
      | [y], k2, k1 =>
        obtain ⟨y1, y2⟩ := y
        have : x = y1 := (List.cons.inj k2).1
        have h0 : y2 = 0 := k1 (y1, y2) (by simp)
        rw [this, h0]
      | y :: z :: l, k2, _ => cases (List.cons.inj k2).2
  · cases h
end Go.Proofs.YthjnkagepooeiaaGreatDoor
/-
  What is printed is read as it was, but for the lines' numbers: the rows.
-/
namespace Go.Proofs.YthjnkagepooeiaaGreatDoor
open Go.RowKit Go.PlainAid Go.Lib Go.PHexM Go.Shelf Go.Sort
set_option linter.unusedVariables false
set_option linter.unusedSimpArgs false

/-- the same row, but for its line -/
def ButL (x y : RowD) : Prop := ∃ k : Int, y = wl x k
theorem wl_eq {x r : RowD} (h : x = { r with line := x.line }) : r = wl x r.line := by
  rw [h]; rfl
/-- how far the text of the first rows is read -/
structure BackAt (rs : List RowD) (i : Nat) (T : ByteArray) : Prop where
  long : 0 < T.size
  last : bN T (T.size - 1) = 10
  read : (readS T).2 = none
  run : ∃ ys : List RowD, runR startW (readS T).1 = (ys.map (fun y => (y, (0 : Int))), ⟨((rs[i - 1]?).getD zeroR).last, none⟩) ∧ All2 ButL ys (rs.take i)
theorem All2.snoc {α : Type} {R : α → α → Prop} {a b : List α} {x y : α} (h : All2 R a b) (k : R x y) : All2 R (a ++ [x]) (b ++ [y]) := h.app (.cons k .nil)
theorem back_first {rs : List RowD} {r : RowD} (hx : rs[0]? = some r) (ho : okR r (oneT r) = true) : BackAt rs 1 (oneT r) := by
  obtain ⟨e1, e2, e3⟩ := one_end r
  obtain ⟨x, h1, h2, h3⟩ := ok_parts ho
  have hr := run_one (readS (oneT r)).1 (-1) (-1) x h2 (told_above _ _ _ h2)
  refine ⟨e1, e2, h1, [x], ?_, ?_⟩
  · have hl : x.last = r.last := by rw [h3]
    show runR startW _ = ([(x, 0)], ⟨((rs[0]?).getD zeroR).last, none⟩)
    rw [hx]
    show runR ⟨-1, none⟩ _ = ([(x, 0)], ⟨r.last, none⟩)
    rw [hr, hl]
  · have ht : rs.take 1 = [r] := by
      cases rs with
      | nil => cases hx
      | cons a l => have : a = r := Option.some.inj hx; rw [this]; rfl
    rw [ht]
    exact .cons ⟨r.line, wl_eq h3⟩ .nil
theorem back_next {rs : List RowD} {i : Nat} {T : ByteArray} {r : RowD} (h : BackAt rs i T) (hi : 0 < i) (hx : rs[i]? = some r) (ho : okR r (oneT r) = true) (hf : ((rs[i - 1]?).getD zeroR).last < r.first) : BackAt rs (i + 1) (T ++ oneT r) := by
  obtain ⟨e1, e2, e3⟩ := one_end r
  obtain ⟨x, h1, h2, h3⟩ := ok_parts ho
  obtain ⟨ys, hy, ha⟩ := h.run
  have hj := read_join T (oneT r) h.long h.last e3 h.read h1
  obtain ⟨x', g1, k, rfl⟩ := shift_many (linesL T).length h2
  have hfx : x.first = r.first := by rw [h3]
  have hlx : x.last = r.last := by rw [h3]
  have hr := run_one _ (-1) ((rs[i - 1]?).getD zeroR).last (wl x k) g1 (by show _ < x.first; rw [hfx]; exact hf)
  refine ⟨by rw [app_size]; omega, ?_, by rw [hj], ys ++ [wl x k], ?_, ?_⟩
  · rw [app_size, show T.size + (oneT r).size - 1 = T.size + ((oneT r).size - 1) by omega, bN_ge_app _ _ _ (by omega)]
    exact e2
  · rw [hj, run_app, hy]
    show (_ ++ (runR ⟨((rs[i - 1]?).getD zeroR).last, none⟩ _).1, (runR ⟨((rs[i - 1]?).getD zeroR).last, none⟩ _).2) = _
    rw [hr, Nat.add_sub_cancel, hx, List.map_append]
    show (_, WalkD.mk x.last none) = (_, WalkD.mk r.last none)
    rw [hlx]
    rfl
  · have hil := (List.getElem?_eq_some_iff.1 hx).1
    have ht : rs.take (i + 1) = rs.take i ++ [r] := by
      rw [List.take_add_one, hx]; rfl
    rw [ht]
    exact ha.snoc ⟨r.line, wl_eq (x := wl x k) (by rw [h3]; rfl)⟩
theorem back_all {rs : List RowD} (h : chkR rs = 0) : ∀ i, 0 < i → i ≤ rs.length → BackAt rs i (textR rs i)
  | 0, h0, _ => by omega
  | i + 1, _, hl => by
    obtain ⟨r, hx⟩ : ∃ r, rs[i]? = some r := ⟨_, List.getElem?_eq_getElem (by omega)⟩
    have hs := chk_zero h (show i < rs.length by omega)
    have ho := st_ok hx hs
    have ht : textR rs (i + 1) = textR rs i ++ oneT r := by show textR rs i ++ oneT ((rs[i]?).getD zeroR) = _; rw [hx]; rfl
    by_cases h0 : i = 0
    · subst h0
      rw [ht, app_nil_left _ _ (show (textR rs 0).size = 0 from rfl)]
      exact back_first hx ho
    · rw [ht]
      refine back_next (back_all h i (by omega) (by omega)) (by omega) hx ho ?_
      rw [st_at hx, if_neg (by rw [ho]; decide)] at hs
      by_cases hle : 0 < i ∧ r.first ≤ ((rs[i - 1]?).getD zeroR).last
      · rw [if_pos hle] at hs; cases hs
      · omega
theorem rows_empty : rowsS ⟨#[]⟩ = ([], none) := by decide +kernel
/-- what is printed is read as it was -/
theorem back_rows {rs : List RowD} (h : chkR rs = 0) : (rowsS (textR rs rs.length)).2 = none ∧ All2 ButL (rowsS (textR rs rs.length)).1 rs := by
  by_cases h0 : rs.length = 0
  · obtain rfl := List.eq_nil_of_length_eq_zero h0
    show (rowsS ⟨#[]⟩).2 = none ∧ All2 ButL (rowsS ⟨#[]⟩).1 []
    rw [rows_empty]
    exact ⟨rfl, .nil⟩
  · have hb := back_all h rs.length (by omega) (Nat.le_refl _)
    obtain ⟨ys, hy, ha⟩ := hb.run
    rw [List.take_length] at ha
    have e : rowsS (textR rs rs.length) = (ys, none) := by
      unfold rowsS
      rw [hb.read]
      show tellR (eachR startW (readS (textR rs rs.length)).1) = _
      rw [each_run, hy]
      show tellR (ys.map (fun y => (y, (0 : Int))) ++ []) = _
      rw [List.append_nil, tell_ok _ (fun x hx => by obtain ⟨y, _, rfl⟩ := List.mem_map.1 hx; rfl), List.map_map]
      refine Prod.ext ?_ rfl
      show ys.map (Prod.fst ∘ fun y => (y, (0 : Int))) = ys
      conv => rhs; rw [← List.map_id ys]
      exact List.map_congr_left fun _ _ => rfl
    rw [e]
    exact ⟨rfl, ha⟩
end Go.Proofs.YthjnkagepooeiaaGreatDoor
/-
  The law RowsBack, walked.
-/
namespace Go.Proofs.YthjnkagepooeiaaGreatDoor
open Go.RowKit Go.PlainAid Go.Lib Go.PHexM Go.Shelf
set_option linter.unusedVariables false
set_option linter.unusedSimpArgs false

set_option maxRecDepth 100000 in
set_option maxHeartbeats 4000000 in
theorem sameButL_yes (rs ts : List RowD) (a b : Option Addr) (n ca cb : Nat) (w : World) (h2 : All2 ButL rs ts) (hn : rs.length = n) (hnb : n ≤ 1099511627776) (ha : RwMem w a rs) (hb : RwMem w b ts) :
    Calls Tryz.prog 31 #[.slice a n ca, .slice b n cb] w fun e w' => e = .returned (.bool true) ∧ Below w.heap.size w w' := by
  have HA := hide ha
  have HB := hide hb
  have HN := hide hn
  have HAL := hide (all2_at h2)
  clear ha hb hn h2
  have hnn : ((n : Int) != (n : Int)) = false := by simp
  go_enter Tryz.func31, Tryz.ntmps31
  go_wp2
  go_loopw [5] (fun v5 wr => ∃ i : Nat, i ≤ n ∧ v5 = .int .i64 i ∧ Below w.heap.size w wr) (fun v5 _ => n - (RowKit.intOf v5).toNat)
  case atStart => exact ⟨0, Nat.zero_le _, rfl, Below.refl _ _⟩
  case round =>
    obtain ⟨i, hi, rfl, hbw⟩ := hrel
    by_cases hlt : i < n
    · obtain ⟨x, hx⟩ : ∃ x, rs[i]? = some x := ⟨_, List.getElem?_eq_getElem (by rw [unhide HN]; exact hlt)⟩
      obtain ⟨y, hy, k, rfl⟩ := unhide HAL i x hx
      obtain ⟨g, off, rfl, hc⟩ := ((unhide HA).below hbw) i x hx
      obtain ⟨g', off', rfl, hd⟩ := ((unhide HB).below hbw) i _ hy
      have HSM := hide (fun V => same6_yes x k V)
      have cx0 := hc 0 _ rfl
      have cx1 := hc 1 _ rfl
      have cx2 := hc 2 _ rfl
      have cx3 := hc 3 _ rfl
      have cx4 := hc 4 _ rfl
      have cx5 := hc 5 _ rfl
      have cx6 := hc 6 _ rfl
      have cx7 := hc 7 _ rfl
      have cx8 := hc 8 _ rfl
      have dx0 := hd 0 _ rfl
      have dx1 := hd 1 _ rfl
      have dx2 := hd 2 _ rfl
      have dx3 := hd 3 _ rfl
      have dx4 := hd 4 _ rfl
      have dx5 := hd 5 _ rfl
      have dx6 := hd 6 _ rfl
      have dx7 := hd 7 _ rfl
      have dx8 := hd 8 _ rfl
      simp only [Nat.add_zero, wl] at *
      have X0 := fun dq os => cell_regrown cx0 dq os
      have X1 := fun dq os => cell_regrown cx1 dq os
      have X2 := fun dq os => cell_regrown cx2 dq os
      have X3 := fun dq os => cell_regrown cx3 dq os
      have X4 := fun dq os => cell_regrown cx4 dq os
      have X5 := fun dq os => cell_regrown cx5 dq os
      have X6 := fun dq os => cell_regrown cx6 dq os
      have X7 := fun dq os => cell_regrown cx7 dq os
      have X8 := fun dq os => cell_regrown cx8 dq os
      have Y0 := fun dq os => cell_regrown dx0 dq os
      have Y1 := fun dq os => cell_regrown dx1 dq os
      have Y2 := fun dq os => cell_regrown dx2 dq os
      have Y3 := fun dq os => cell_regrown dx3 dq os
      have Y4 := fun dq os => cell_regrown dx4 dq os
      have Y5 := fun dq os => cell_regrown dx5 dq os
      have Y6 := fun dq os => cell_regrown dx6 dq os
      have Y7 := fun dq os => cell_regrown dx7 dq os
      have Y8 := fun dq os => cell_regrown dx8 dq os
      have hlt' : (i : Int) < (n : Int) := by omega
      have hq1 : IntKind.i64.wrap ((i : Int) + 1) = (i : Int) + 1 := by rw [IntKind.wrap_i64]; omega
      have HBW := hide hbw
      clear hc hd hx hy hbw
      go_wp2_with fail
      refine wp_region_quiet_below (by kernel_rfl) (by kernel_rfl) ?_
      repeat (go_big_quiet_step (first | (go_at_call 54; with_reducible exact Calls.regrown_of (unhide HSM _))))
      refine wpQuiet_nil ?_
      intro _ hw'
      obtain ⟨⟨dq, osq⟩, hw''⟩ := hw'
      subst hw''
      have hb3 : Below wr.heap.size wr (Sort.grow (redrawn wr dq) osq) := below_regrown wr dq osq
      have hb4 := (unhide HBW).trans (hb3.mono (unhide HBW).size)
      generalize Sort.grow (redrawn wr dq) osq = w3 at hb4 ⊢
      simp only [Exit.then]
      clear X0 X1 X2 X3 X4 X5 X6 X7 X8 Y0 Y1 Y2 Y3 Y4 Y5 Y6 Y7 Y8 hb3
      go_wp2
      go_roundw
      case rel => exact ⟨i + 1, by omega, by go_num, hb4⟩
      case measure => simp [RowKit.intOf]; omega
    · obtain rfl : i = n := by omega
      go_wp2
      go_ret
      exact ⟨rfl, hbw⟩

def sumR (rs : List RowD) : Nat := (rs.map fun r => r.name.length + r.cat.length).sum
theorem text_sum (rs : List RowD) (hr : ∀ r ∈ rs, RowOk r) : ∀ i, i ≤ rs.length → (textR rs i).size ≤ 140 * i + 2 * sumR (rs.take i)
  | 0, _ => Nat.zero_le _
  | i + 1, h => by
    have ih := text_sum rs hr i (by omega)
    obtain ⟨r, hx⟩ : ∃ r, rs[i]? = some r := ⟨_, List.getElem?_eq_getElem (by omega)⟩
    have ho := hr r (List.mem_of_getElem? hx)
    have := oneT_size r ho.1 ho.2.1
    have ht : rs.take (i + 1) = rs.take i ++ [r] := by rw [List.take_add_one, hx]; rfl
    have hs : sumR (rs.take (i + 1)) = sumR (rs.take i) + (r.name.length + r.cat.length) := by rw [ht]; simp [sumR]
    unfold textR
    rw [hx, ByteArray.size_append, hs]
    show (textR rs i).size + (oneT r).size ≤ _
    omega
set_option maxRecDepth 100000 in
set_option maxHeartbeats 4000000 in
theorem back_walk6 (rs : List RowD) (a : Option Addr) (n c : Nat) (w : World) (hg : Glob w) (ht : tz16At w) (hn : rs.length = n) (hnb : n ≤ 1048576) (hr : ∀ r ∈ rs, RowOk r) (hsum : sumR rs ≤ 1048576) (hm : RwMem w a rs) :
    Calls Tryz.prog 8 #[.slice a n c] w fun e w' => e = .returned (.bool true) ∧ Below w.heap.size w w' := by
  have hz := text_sum rs hr rs.length (Nat.le_refl _)
  rw [List.take_length] at hz
  have HAW := hide (awake6_any w hg)
  have HG := hide hg
  have HT := hide ht
  have HN := hide hn
  have HM := hide hm
  have HRO := hide hr
  clear hg ht hn hm hr
  go_enter Tryz.func8, Tryz.ntmps8
  go_wp2_with fail
  refine (unhide HAW).mono ?_
  rintro e w1 ⟨rfl, hb1⟩
  have B1 := hide hb1
  have HP := hide (print6_any rs a n c w1 ((unhide HG).below hb1) (tz16_below (unhide HT) hb1) (unhide HN) (by omega) (unhide HRO) ((unhide HM).below hb1))
  obtain ⟨PT, hPT⟩ : ∃ PT, printT rs = PT := ⟨_, rfl⟩
  obtain ⟨CT, hCT⟩ : ∃ CT, chkR rs = CT := ⟨_, rfl⟩
  rw [hPT, hCT] at HP
  have HPT := hide hPT
  have HCT := hide hCT
  clear hb1 hPT hCT HAW
  go_wp2_with fail
  refine (unhide HP).mono ?_
  rintro e w2 ⟨rfl, hb2⟩
  have B2 := hide ((unhide B1).trans (hb2.mono (unhide B1).size))
  clear hb2 HP
  by_cases h0 : CT = 0
  · subst h0
    have hPE : printT rs = textR rs rs.length := by unfold printT; rw [unhide HCT, if_pos rfl]
    obtain ⟨k1, k2⟩ := back_rows (unhide HCT)
    rw [← hPE, unhide HPT] at k1 k2
    have hPs : PT.size ≤ 1073741824 := by rw [← unhide HPT, hPE]; have := unhide HN; omega
    have HR := hide (read6_any ⟨#[120]⟩ PT w2 ((unhide HG).below (unhide B2)) hPs)
    have K1 := hide k1
    have K2 := hide k2
    have hlen := all2_len k2
    rw [unhide HN] at hlen
    have HLN := hide hlen
    clear k1 k2 hPE hPs hlen hz hsum
    go_wp2_with fail
    refine (unhide HR).mono ?_
    rintro e w3 ⟨hb3, (⟨_, v, rfl, ho⟩ | ⟨no, code, fb, hf, _⟩)⟩
    rotate_left
    · rw [unhide K1] at hf; cases hf
    have B3 := hide ((unhide B2).trans (hb3.mono (unhide B2).size))
    obtain ⟨oa, oc, rfl, hoc, hom⟩ := rowsAt_mem ho
    have HS := hide (sameButL_yes _ rs oa a n oc c w3 (unhide K2) (unhide HLN).symm (by omega) hom ((unhide HM).below (unhide B3)))
    rw [← unhide HLN]
    clear ho hom hb3
    go_wp2_with fail
    refine (unhide HS).mono ?_
    rintro e w4 ⟨rfl, hb4⟩
    have hB4 := (unhide B3).trans (hb4.mono (unhide B3).size)
    go_wp2
    go_ret
    exact ⟨rfl, hB4⟩
  · have d0 : (CT != 0) = true := by simpa using h0
    have hPE : PT = ⟨#[]⟩ := by rw [← unhide HPT]; unfold printT; rw [unhide HCT, if_neg h0]
    subst hPE
    have HK := hide (check6_any rs a n c w2 ((unhide HG).below (unhide B2)) (tz16_below (unhide HT) (unhide B2)) (unhide HN) (by omega) (unhide HRO) ((unhide HM).below (unhide B2)))
    rw [unhide HCT] at HK
    clear h0 hz hsum
    go_wp2_with fail
    refine (unhide HK).mono ?_
    rintro e w3 ⟨rfl, hb3⟩
    have hB3 := (unhide B2).trans (hb3.mono (unhide B2).size)
    go_wp2
    go_ret
    exact ⟨rfl, hB3⟩
end Go.Proofs.YthjnkagepooeiaaGreatDoor
/-
  An argument that is a list of rows, with the bounds of what its rows hold.
-/
namespace Go.Proofs.YthjnkagepooeiaaGreatDoor
open Go.RowKit Go.PlainAid Go.Lib Go.PHexM Go.Shelf Go.Deep
set_option linter.unusedVariables false
set_option linter.unusedSimpArgs false

theorem u8_range {n : Int} (h : (Lit.int .u8 n).wf = true) : 0 ≤ n ∧ n ≤ 255 := by
  simp [Lit.wf] at h
  have h1 : IntKind.u8.min = 0 := by decide
  have h2 : IntKind.u8.max = 255 := by decide
  omega
theorem bulk_mem {H : Type} {l : List (DataW H)} {d : DataW H} (h : d ∈ l) : Rows.uptoBulk d ≤ Rows.uptoBulkAll l := by
  induction l with
  | nil => simp at h
  | cons x r ih =>
    simp only [Rows.uptoBulkAll]
    rcases List.mem_cons.1 h with rfl | h
    · omega
    · have := ih h; omega
theorem row_of_cells2 {H : Type} {enc : TypeId × Value → H} {W : World} {base : Nat} {sp : Nat → Bool} {held : Bool} {fuel : Nat} {cs : List Value} {x : DataW H × List MemPlace} (h : DataW.trod enc Tryz.prog W base sp held fuel 29 cs = some x) : ∃ r : RowD, cs = rowC r ∧ 0 ≤ r.comb ∧ r.comb ≤ 255 ∧ 0 ≤ r.cls ∧ r.cls ≤ 255 ∧ r.name.length + r.cat.length ≤ Rows.uptoBulk x.1 := by
  obtain ⟨f0, f1, f2, f3, f4, f5, f6, f7, f8, hu, ho, hty⟩ := rowFields
  simp only [List.cons.injEq, and_true] at ho hty
  obtain ⟨o0, o1, o2, o3, o4, o5, o6, o7, o8⟩ := ho
  obtain ⟨t0, t1, t2, t3, t4, t5, t6, t7, t8⟩ := hty
  obtain ⟨xs, k, _, hxy, hl, hxl, hf⟩ := DataW.trod_struct hu h
  rw [rowCells] at hl
  have c_api_Class : Tryz.prog.cellsOf 27 = 1 := by kernel_rfl
  have c_bool : Tryz.prog.cellsOf 4 = 1 := by kernel_rfl
  have c_int : Tryz.prog.cellsOf 3 = 1 := by kernel_rfl
  have c_int32 : Tryz.prog.cellsOf 21 = 1 := by kernel_rfl
  have c_string : Tryz.prog.cellsOf 9 = 1 := by kernel_rfl
  have c_uint8 : Tryz.prog.cellsOf 5 = 1 := by kernel_rfl
  obtain ⟨v0, v1, v2, v3, v4, v5, v6, v7, v8, rfl⟩ := list9 hl
  obtain ⟨y0, y1, y2, y3, y4, y5, y6, y7, y8, rfl⟩ := list9 (show xs.length = 9 from hxl)
  have g0 := hf 0 f0 rfl
  rw [o0, t0, c_int] at g0
  obtain ⟨n0, e0, q0, m0⟩ := DataW.trod_int Tryz.underlying3 g0
  simp at e0
  subst e0
  have g1 := hf 1 f1 rfl
  rw [o1, t1, c_int32] at g1
  obtain ⟨n1, e1, q1, m1⟩ := DataW.trod_int Tryz.underlying21 g1
  simp at e1
  subst e1
  have g2 := hf 2 f2 rfl
  rw [o2, t2, c_int32] at g2
  obtain ⟨n2, e2, q2, m2⟩ := DataW.trod_int Tryz.underlying21 g2
  simp at e2
  subst e2
  have g3 := hf 3 f3 rfl
  rw [o3, t3, c_string] at g3
  obtain ⟨n3, e3, q3, m3⟩ := DataW.trod_string Tryz.underlying9 g3
  simp at e3
  subst e3
  have g4 := hf 4 f4 rfl
  rw [o4, t4, c_string] at g4
  obtain ⟨n4, e4, q4, m4⟩ := DataW.trod_string Tryz.underlying9 g4
  simp at e4
  subst e4
  have g5 := hf 5 f5 rfl
  rw [o5, t5, c_uint8] at g5
  obtain ⟨n5, e5, q5, m5⟩ := DataW.trod_int Tryz.underlying5 g5
  simp at e5
  subst e5
  have g6 := hf 6 f6 rfl
  rw [o6, t6, c_api_Class] at g6
  obtain ⟨n6, e6, q6, m6⟩ := DataW.trod_int Tryz.underlying27 g6
  simp at e6
  subst e6
  have g7 := hf 7 f7 rfl
  rw [o7, t7, c_int32] at g7
  obtain ⟨n7, e7, q7, m7⟩ := DataW.trod_int Tryz.underlying21 g7
  simp at e7
  subst e7
  have g8 := hf 8 f8 rfl
  rw [o8, t8, c_bool] at g8
  obtain ⟨n8, e8, _⟩ := DataW.trod_bool Tryz.underlying4 g8
  simp at e8
  subst e8
  have r5 := u8_range m5
  have r6 := u8_range m6
  have p3 : y3 = (.lit (.string n3.data.toList), []) := q3
  have p4 : y4 = (.lit (.string n4.data.toList), []) := q4
  refine ⟨⟨n0, n1, n2, n3.data.toList, n4.data.toList, n5, n6, n7, n8⟩, rfl, r5.1, r5.2, r6.1, r6.2, ?_⟩
  rw [hxy]
  show n3.data.toList.length + n4.data.toList.length ≤ Rows.uptoBulk (DataW.agg [y0.1, y1.1, y2.1, y3.1, y4.1, y5.1, y6.1, y7.1, y8.1])
  rw [p3, p4]
  simp only [Rows.uptoBulk, Rows.uptoBulkAll]
  omega

theorem open_rows2 {H : Type} {enc : TypeId × Value → H} {W : World} {base : Nat} {held : Bool} {fuel : Nat} {a : Option Addr} {len cap : Nat} {x : DataW H × List MemPlace}
    (h : DataW.trod enc Tryz.prog W base (fun _ => true) held fuel 37 (Value.slice a len cap).cells.toList = some x) : ∃ rs : List RowD, rs.length = len ∧ len ≤ cap ∧ RwMem W a rs ∧ (∀ r ∈ rs, 0 ≤ r.comb ∧ r.comb ≤ 255 ∧ 0 ≤ r.cls ∧ r.cls ≤ 255 ∧ r.name.length + r.cat.length ≤ Rows.uptoBulk x.1) ∧ ((len = 0 ∧ x.1 = .nil) ∨ ∃ es sp, x.1 = .slice es sp ∧ es.length = len) := by
  rcases open_slice Tryz.underlying37 h with ⟨hcs, hx⟩ | ⟨b, l, c, m, n, D, Pl, hcs, hb, hl, hm, hmm, hx, hcell⟩
  · simp [Value.cells] at hcs
    obtain ⟨rfl, rfl, rfl⟩ := hcs
    exact ⟨[], rfl, Nat.le_refl _, fun i r e => by simp at e, fun r hr => by simp at hr, .inl ⟨rfl, by rw [hx]⟩⟩
  · simp [Value.cells] at hcs
    obtain ⟨rfl, rfl, rfl⟩ := hcs
    have hmm' : m = cap := by simpa using hmm
    subst hmm'
    have each : ∀ i, i < len → ∃ r : RowD, (∀ j v, (rowC r)[j]? = some v → W.cell? (b.add (i * 9 + j)) = some v) ∧ 0 ≤ r.comb ∧ r.comb ≤ 255 ∧ 0 ≤ r.cls ∧ r.cls ≤ 255 ∧ r.name.length + r.cat.length ≤ Rows.uptoBulk x.1 := by
      intro i hi
      obtain ⟨cs', h1, h2⟩ := hcell i (by omega)
      rw [rowCells] at h1
      obtain ⟨r, rfl, k1, k2, k3, k4, k5⟩ := row_of_cells2 h2
      obtain ⟨_, hlen, hce⟩ := World.cells?_some h1
      have hD : Rows.uptoBulk (D i) ≤ Rows.uptoBulk x.1 := by
        rw [hx]
        have hmem := bulk_mem (l := (List.range len).map D) (List.mem_map.2 ⟨i, List.mem_range.2 hi, rfl⟩)
        simp only [Rows.uptoBulk]
        omega
      refine ⟨r, fun j v hv => ?_, k1, k2, k3, k4, Nat.le_trans k5 hD⟩
      have hj := (List.getElem?_eq_some_iff.1 hv).1
      have := hce j (by simpa using hj)
      rw [add_add] at this
      rw [this, hv]
    obtain ⟨q, hq⟩ := choose_lt each
    obtain ⟨g, off, spot⟩ := b
    refine ⟨(List.range len).map q, by simp, hl, fun i r e => ?_, fun r hr => ?_, .inr ⟨_, _, by rw [hx], by simp⟩⟩
    rotate_left
    · obtain ⟨i, hi, rfl⟩ := List.mem_map.1 hr
      exact (hq i (List.mem_range.1 hi)).2
    rw [List.getElem?_map] at e
    obtain ⟨i', hi', e⟩ := Option.map_eq_some_iff.1 e
    obtain ⟨hil, rfl⟩ := List.getElem?_eq_some_iff.1 hi'
    simp only [List.length_range, List.getElem_range] at hil e
    subst e
    have hspot : spot = none := by simpa [Addr.add] using World.cell?_spot ((hq 0 (by omega)).1 0 _ rfl)
    subst hspot
    refine ⟨g, off, rfl, fun j v hv => ?_⟩
    rw [Nat.add_assoc, ← Go.WideShapes.add_plain]
    exact (hq i hil).1 j v hv
end Go.Proofs.YthjnkagepooeiaaGreatDoor
/-
  An argument that is a list of rows, with the sum of their texts.
-/
namespace Go.Proofs.YthjnkagepooeiaaGreatDoor
open Go.RowKit Go.PlainAid Go.Lib Go.PHexM Go.Shelf Go.Deep
set_option linter.unusedVariables false
set_option linter.unusedSimpArgs false

theorem sum_bulk {H : Type} (q : Nat → RowD) (D : Nat → DataW H) : ∀ l : List Nat, (∀ i ∈ l, (q i).name.length + (q i).cat.length ≤ Rows.uptoBulk (D i)) → sumR (l.map q) ≤ Rows.uptoBulkAll (l.map D)
  | [], _ => Nat.zero_le _
  | i :: l, h => by
    have h1 := h i (by simp)
    have h2 := sum_bulk q D l (fun j hj => h j (by simp [hj]))
    simp only [sumR, List.map_cons, List.sum_cons, Rows.uptoBulkAll] at h2 ⊢
    omega
theorem open_rows3 {H : Type} {enc : TypeId × Value → H} {W : World} {base : Nat} {held : Bool} {fuel : Nat} {a : Option Addr} {len cap : Nat} {x : DataW H × List MemPlace}
    (h : DataW.trod enc Tryz.prog W base (fun _ => true) held fuel 37 (Value.slice a len cap).cells.toList = some x) : ∃ rs : List RowD, rs.length = len ∧ len ≤ cap ∧ RwMem W a rs ∧ (∀ r ∈ rs, 0 ≤ r.comb ∧ r.comb ≤ 255 ∧ 0 ≤ r.cls ∧ r.cls ≤ 255 ∧ r.name.length + r.cat.length ≤ Rows.uptoBulk x.1) ∧ sumR rs ≤ Rows.uptoBulk x.1 ∧ ((len = 0 ∧ x.1 = .nil) ∨ ∃ es sp, x.1 = .slice es sp ∧ es.length = len) := by
  rcases open_slice Tryz.underlying37 h with ⟨hcs, hx⟩ | ⟨b, l, c, m, n, D, Pl, hcs, hb, hl, hm, hmm, hx, hcell⟩
  · simp [Value.cells] at hcs
    obtain ⟨rfl, rfl, rfl⟩ := hcs
    exact ⟨[], rfl, Nat.le_refl _, fun i r e => by simp at e, fun r hr => by simp at hr, Nat.zero_le _, .inl ⟨rfl, by rw [hx]⟩⟩
  · simp [Value.cells] at hcs
    obtain ⟨rfl, rfl, rfl⟩ := hcs
    have hmm' : m = cap := by simpa using hmm
    subst hmm'
    have each : ∀ i, i < len → ∃ r : RowD, (∀ j v, (rowC r)[j]? = some v → W.cell? (b.add (i * 9 + j)) = some v) ∧ 0 ≤ r.comb ∧ r.comb ≤ 255 ∧ 0 ≤ r.cls ∧ r.cls ≤ 255 ∧ r.name.length + r.cat.length ≤ Rows.uptoBulk x.1 ∧ r.name.length + r.cat.length ≤ Rows.uptoBulk (D i) := by
      intro i hi
      obtain ⟨cs', h1, h2⟩ := hcell i (by omega)
      rw [rowCells] at h1
      obtain ⟨r, rfl, k1, k2, k3, k4, k5⟩ := row_of_cells2 h2
      obtain ⟨_, hlen, hce⟩ := World.cells?_some h1
      have hD : Rows.uptoBulk (D i) ≤ Rows.uptoBulk x.1 := by
        rw [hx]
        have hmem := bulk_mem (l := (List.range len).map D) (List.mem_map.2 ⟨i, List.mem_range.2 hi, rfl⟩)
        simp only [Rows.uptoBulk]
        omega
      refine ⟨r, fun j v hv => ?_, k1, k2, k3, k4, Nat.le_trans k5 hD, k5⟩
      have hj := (List.getElem?_eq_some_iff.1 hv).1
      have := hce j (by simpa using hj)
      rw [add_add] at this
      rw [this, hv]
    obtain ⟨q, hq⟩ := choose_lt each
    obtain ⟨g, off, spot⟩ := b
    refine ⟨(List.range len).map q, by simp, hl, fun i r e => ?_, fun r hr => ?_, ?_, .inr ⟨_, _, by rw [hx], by simp⟩⟩
    rotate_left
    · obtain ⟨i, hi, rfl⟩ := List.mem_map.1 hr
      obtain ⟨_, z1, z2, z3, z4, z5, _⟩ := hq i (List.mem_range.1 hi)
      exact ⟨z1, z2, z3, z4, z5⟩
    · rw [hx]
      have hs := sum_bulk q D (List.range len) (fun i hi => (hq i (List.mem_range.1 hi)).2.2.2.2.2.2)
      show sumR _ ≤ Rows.uptoBulk (DataW.slice _ _)
      simp only [Rows.uptoBulk]
      omega
    rw [List.getElem?_map] at e
    obtain ⟨i', hi', e⟩ := Option.map_eq_some_iff.1 e
    obtain ⟨hil, rfl⟩ := List.getElem?_eq_some_iff.1 hi'
    simp only [List.length_range, List.getElem_range] at hil e
    subst e
    have hspot : spot = none := by simpa [Addr.add] using World.cell?_spot ((hq 0 (by omega)).1 0 _ rfl)
    subst hspot
    refine ⟨g, off, rfl, fun j v hv => ?_⟩
    rw [Nat.add_assoc, ← Go.WideShapes.add_plain]
    exact (hq i hil).1 j v hv
end Go.Proofs.YthjnkagepooeiaaGreatDoor
/-
  The variables that the row of RowsPrints lists (unicode.CaseRanges is one more): what the condition gives a walk, and a world that meets it.
-/
namespace Go.Proofs.YthjnkagepooeiaaGreatDoor
open Go.ChangeShapes Go.WideShapes Go.ChangeAt Go.RowKit
set_option linter.unusedVariables false

abbrev laid7 : List (String × DataW Unit) := Rows.rowsPrintsRow.laid
set_option maxRecDepth 100000 in
theorem glob_of_laid7 {W : World} (h : laidMetH Tryz.prog laid7 W) (hsh : W.ShapedOpen Tryz.prog) : Glob W := by
  refine ⟨size6 hsh, ?_, ?_, maxLen6 hsh, ?_, ?_⟩
  · obtain ⟨ps, ⟨_, _, _, _, _, _, _, _, _, _, ⟨_, _, _, _, _, _, _, _, _, _, ⟨_, _, _, _, _, _, _, _, _, _, ⟨_, _, _, _, _, _, _, _, _, _, ⟨_, _, _, _, _, _, _, _, _, _, ⟨g, t, cs, fuel, p, q, hg, ht, hv, hd, _, _⟩, _⟩, _⟩, _⟩, _⟩, _⟩, _, _⟩ := (laidMetH_iff.1 h).1
    obtain rfl := Option.some.inj ((show Tryz.prog.globalNamed "strconv.ErrSyntax" = some 1 by kernel_rfl).symm.trans hg)
    obtain rfl := Option.some.inj ((show (Tryz.prog.globals[1]?).map (·.type) = some 39 by kernel_rfl).symm.trans ht)
    obtain ⟨_, u, v, e, _, _⟩ := iface_of_trod Tryz.underlying39 hd
    refine ⟨.iface u v, ?_, .inr ⟨_, _, rfl⟩⟩
    rw [World.var?_cell hg hv 0]
    have : cs.toList[0]? = some (.iface u v) := by rw [e]; rfl
    simpa using this
  · obtain ⟨ps, ⟨_, _, _, _, _, _, _, _, _, _, ⟨_, _, _, _, _, _, _, _, _, _, ⟨_, _, _, _, _, _, _, _, _, _, ⟨_, _, _, _, _, _, _, _, _, _, ⟨g, t, cs, fuel, p, q, hg, ht, hv, hd, _, _⟩, _⟩, _⟩, _⟩, _⟩, _, _⟩ := (laidMetH_iff.1 h).1
    obtain rfl := Option.some.inj ((show Tryz.prog.globalNamed "strconv.ErrRange" = some 2 by kernel_rfl).symm.trans hg)
    obtain rfl := Option.some.inj ((show (Tryz.prog.globals[2]?).map (·.type) = some 39 by kernel_rfl).symm.trans ht)
    obtain ⟨_, u, v, e, _, _⟩ := iface_of_trod Tryz.underlying39 hd
    refine ⟨.iface u v, ?_, .inr ⟨_, _, rfl⟩⟩
    rw [World.var?_cell hg hv 0]
    have : cs.toList[0]? = some (.iface u v) := by rw [e]; rfl
    simpa using this
  · obtain ⟨ps, ⟨_, _, _, _, _, _, _, _, _, _, ⟨_, _, _, _, _, _, _, _, _, _, ⟨g, t, cs, fuel, p, q, hg, ht, hv, hd, _, _⟩, _⟩, _⟩, _, _⟩ := (laidMetH_iff.1 h).1
    obtain rfl := Option.some.inj ((show Tryz.prog.globalNamed "internal/strconv.uint64pow10" = some 3 by kernel_rfl).symm.trans hg)
    obtain rfl := Option.some.inj ((show (Tryz.prog.globals[3]?).map (·.type) = some 258 by kernel_rfl).symm.trans ht)
    have := Lib.cells_of_tab (zs := Lib.pow10Tab) (k := .u64) Tryz.underlying258 Tryz.underlying164 (by kernel_rfl) (by kernel_rfl) hd
    unfold Lib.TabIs
    rw [hv, ← this]
  · obtain ⟨name, u, ty, e1, e2, e3, e4, e5⟩ := (laidMetH_iff.1 h).2 (_, Rows.laid_errors_errorType) (List.mem_filter.2 ⟨List.mem_cons_of_mem _ (List.mem_cons_of_mem _ (List.mem_cons_of_mem _ (List.mem_cons_of_mem _ (List.mem_cons_self ..)))), rfl⟩)
    have en : name = [101, 114, 114, 111, 114] := (Option.some.inj e1).symm
    subst en
    obtain rfl := Option.some.inj (rtypeRow6.symm.trans e2)
    have hm : ty ∈ (List.range 326).filter fun t => Tryz.prog.rowNamed t [101, 114, 114, 111, 114] := List.mem_filter.2 ⟨List.mem_range.2 (by rw [← typesSize6]; exact e3), e4⟩
    rw [errorRow6] at hm
    obtain rfl := List.mem_singleton.1 hm
    have hh : typeHandle Tryz.prog 39 = .pointer (some ⟨10, 39, none⟩) := by kernel_rfl
    rw [hh] at e5
    simpa using World.var?_cell errGlobal6 e5 0

abbrev data7 : List (String × DataW Unit) := laid7.filter fun x => x.2.handleName?.isNone
noncomputable def witW7 (os : Os) : World := (baseW6 os).layVars Tryz.prog data7
theorem witW7_os (os : Os) : (witW7 os).os = os := World.layVars_os _ _ _
set_option maxRecDepth 100000 in
theorem tz16_of_laid7 {W : World} (h : laidMetH Tryz.prog laid7 W) : tz16At W := by
  obtain ⟨ps, ⟨_, _, _, _, _, _, _, _, _, _, ⟨g, t, cs, fuel, p, q, hg, ht, hv, hd, _, _⟩, _⟩, _, _⟩ := (laidMetH_iff.1 h).1
  obtain rfl := Option.some.inj ((show Tryz.prog.globalNamed "math/bits.deBruijn64tab" = some 7 by kernel_rfl).symm.trans hg)
  obtain rfl := Option.some.inj ((show (Tryz.prog.globals[7]?).map (·.type) = some 284 by kernel_rfl).symm.trans ht)
  obtain ⟨xs, m, _, ex, _, hl, hel⟩ := DataW.trod_array Tryz.underlying284 hd
  have c5 : Tryz.prog.cellsOf 5 = 1 := by kernel_rfl
  have hE := hel 15 (by omega)
  rw [c5, Nat.mul_one, List.getElem?_eq_getElem (by omega)] at hE
  obtain ⟨z, e1, e2, _⟩ := DataW.trod_int Tryz.underlying5 hE
  have e4 : (xs.map (·.1))[15]? = some (.lit (.int .u8 4)) := by rw [← (DataW.agg.inj (Prod.mk.inj ex).1)]; rfl
  rw [List.getElem?_map, List.getElem?_eq_getElem (by omega : 15 < xs.length), e2] at e4
  have hz : z = 4 := by
    simp only [Option.map_some, Option.some.injEq, DataW.lit.injEq, Lit.int.injEq, true_and] at e4
    exact e4
  unfold tz16At
  rw [World.var?_cell hg hv 15, ← hz]
  have : cs.toList[15]? = some (.int .u8 z) := by
    have h0 : ((cs.toList.drop 15).take 1)[0]? = some (.int .u8 z) := by rw [e1]; rfl
    simpa using h0
  simpa using this

set_option maxRecDepth 100000 in
theorem witW7_met (os : Os) : laidMetH Tryz.prog laid7 ((witW7 os).forCall (fun _ _ => 0) ⟨#[], #[], []⟩).memory :=
  laidMetH_of_parts (laidMet_over6 #[] (by kernel_rfl) (by kernel_rfl)) (by kernel_rfl)
end Go.Proofs.YthjnkagepooeiaaGreatDoor
