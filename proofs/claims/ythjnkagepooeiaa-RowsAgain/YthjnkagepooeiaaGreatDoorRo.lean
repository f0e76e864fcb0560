/-
  These texts, one behind the other: RwOpen, RwLaid, Bulk, RwBlM, RwBlM2, RwBlS, RwBaM, RwBaN, RwBaO, RwBaP, RwBaQ, RwLaid7, LInvM, LInvC, LInvL, LInvF, RwAgM, RwAg, RwAg2, RwAg3, RwAg4, RwAg5, RwAg6, RwAgW.
-/
import Derived.Test.YthjnkagepooeiaaGreatDoorRwA0
import Derived.Deep.Slices
import Derived.OpenShut
import Derived.Test.YthjnkagepooeiaaGreatDoorRwB
import Derived.Test.YthjnkagepooeiaaGreatDoorTie
import Derived.Test.YthjnkagepooeiaaGreatDoorCards
import Derived.Lib.LaidTab
import Derived.HandedShaped
import Derived.Shelf.Vars
import Derived.ProofKit
import Derived.ShutString
import Derived.ChangeOld
import Derived.LaidMore
import Derived.LaidLaws
import Derived.LaidHandle
import Derived.LaidSub
import Derived.Lay
import Derived.MakeChecks
import Derived.SevenTiedAt
import Derived.Stop.Joined
import Derived.Deep.DeepHandedRow
import Derived.Test.YthjnkagepooeiaaGreatDoorRows
import Derived.Test.YthjnkagepooeiaaGreatDoorRk
import Derived.Test.YthjnkagepooeiaaGreatDoorRwA1
import Derived.Lib.QuietBelow
import Derived.BigQuiet
import Derived.Laws.StructEq
import Derived.Test.YthjnkagepooeiaaGreatDoorRx
import Derived.Test.YthjnkagepooeiaaGreatDoorPr
import Derived.Test.YthjnkagepooeiaaGreatDoorLb
import Derived.Test.YthjnkagepooeiaaGreatDoorLCheck
import Derived.Test.YthjnkagepooeiaaGreatDoorUb
import Derived.Test.YthjnkagepooeiaaGreatDoorLs
import Derived.Test.YthjnkagepooeiaaGreatDoorRd
import Derived.Test.YthjnkagepooeiaaGreatDoorRwG0
import Derived.Test.YthjnkagepooeiaaGreatDoorRwRs2
/-
  An argument that is a list of rows.
-/
namespace Go.Proofs.YthjnkagepooeiaaGreatDoor
open Go.RowKit Go.PlainAid Go.Lib Go.PHexM Go.Shelf Go.Deep
set_option linter.unusedVariables false
set_option linter.unusedSimpArgs false

theorem rowFields : ∃ f0 f1 f2 f3 f4 f5 f6 f7 f8 : Field, Tryz.prog.underlying 29 = some (.struct #[f0, f1, f2, f3, f4, f5, f6, f7, f8]) ∧ [f0.offset, f1.offset, f2.offset, f3.offset, f4.offset, f5.offset, f6.offset, f7.offset, f8.offset] = [0, 1, 2, 3, 4, 5, 6, 7, 8] ∧ [f0.type, f1.type, f2.type, f3.type, f4.type, f5.type, f6.type, f7.type, f8.type] = [3, 21, 21, 9, 9, 5, 27, 21, 4] :=
  ⟨_, _, _, _, _, _, _, _, _, Tryz.underlying29, rfl, rfl⟩
theorem rowCells : Tryz.prog.cellsOf 29 = 9 := by kernel_rfl

theorem list9 {α : Type} {l : List α} (h : l.length = 9) : ∃ a b c d e f g i j : α, l = [a, b, c, d, e, f, g, i, j] := by
  obtain ⟨a, l, rfl⟩ := List.exists_cons_of_length_eq_add_one h
  obtain ⟨b, l, rfl⟩ := List.exists_cons_of_length_eq_add_one (Nat.succ.inj h)
  obtain ⟨c, l, rfl⟩ := List.exists_cons_of_length_eq_add_one (Nat.succ.inj (Nat.succ.inj h))
  obtain ⟨d, l, rfl⟩ := List.exists_cons_of_length_eq_add_one (Nat.succ.inj (Nat.succ.inj (Nat.succ.inj h)))
  obtain ⟨e, l, rfl⟩ := List.exists_cons_of_length_eq_add_one (Nat.succ.inj (Nat.succ.inj (Nat.succ.inj (Nat.succ.inj h))))
  obtain ⟨f, l, rfl⟩ := List.exists_cons_of_length_eq_add_one (Nat.succ.inj (Nat.succ.inj (Nat.succ.inj (Nat.succ.inj (Nat.succ.inj h)))))
  obtain ⟨g, l, rfl⟩ := List.exists_cons_of_length_eq_add_one (Nat.succ.inj (Nat.succ.inj (Nat.succ.inj (Nat.succ.inj (Nat.succ.inj (Nat.succ.inj h))))))
  obtain ⟨i, l, rfl⟩ := List.exists_cons_of_length_eq_add_one (Nat.succ.inj (Nat.succ.inj (Nat.succ.inj (Nat.succ.inj (Nat.succ.inj (Nat.succ.inj (Nat.succ.inj h)))))))
  obtain ⟨j, l, rfl⟩ := List.exists_cons_of_length_eq_add_one (Nat.succ.inj (Nat.succ.inj (Nat.succ.inj (Nat.succ.inj (Nat.succ.inj (Nat.succ.inj (Nat.succ.inj (Nat.succ.inj h))))))))
  obtain rfl : l = [] := List.eq_nil_of_length_eq_zero (by simp at h; simpa using h)
  exact ⟨_, _, _, _, _, _, _, _, _, rfl⟩
instance : Inhabited RowD := ⟨zeroR⟩

theorem row_of_cells {H : Type} {enc : TypeId × Value → H} {W : World} {base : Nat} {sp : Nat → Bool} {held : Bool} {fuel : Nat} {cs : List Value} {x : DataW H × List MemPlace} (h : DataW.trod enc Tryz.prog W base sp held fuel 29 cs = some x) : ∃ r : RowD, cs = rowC r := by
  obtain ⟨f0, f1, f2, f3, f4, f5, f6, f7, f8, hu, ho, hty⟩ := rowFields
  simp only [List.cons.injEq, and_true] at ho hty
  obtain ⟨o0, o1, o2, o3, o4, o5, o6, o7, o8⟩ := ho
  obtain ⟨t0, t1, t2, t3, t4, t5, t6, t7, t8⟩ := hty
  obtain ⟨xs, k, _, hxy, hl, hxl, hf⟩ := DataW.trod_struct hu h
  rw [rowCells] at hl
  have c_api_Class : Tryz.prog.cellsOf 27 = 1 := by kernel_rfl
  have c_bool : Tryz.prog.cellsOf 4 = 1 := by kernel_rfl
  have c_int : Tryz.prog.cellsOf 3 = 1 := by kernel_rfl
  have c_int32 : Tryz.prog.cellsOf 21 = 1 := by kernel_rfl
  have c_string : Tryz.prog.cellsOf 9 = 1 := by kernel_rfl
  have c_uint8 : Tryz.prog.cellsOf 5 = 1 := by kernel_rfl
  obtain ⟨v0, v1, v2, v3, v4, v5, v6, v7, v8, rfl⟩ := list9 hl
  obtain ⟨y0, y1, y2, y3, y4, y5, y6, y7, y8, rfl⟩ := list9 (show xs.length = 9 from hxl)
  have g0 := hf 0 f0 rfl
  rw [o0, t0, c_int] at g0
  obtain ⟨n0, e0, _, _⟩ := DataW.trod_int Tryz.underlying3 g0
  simp at e0
  subst e0
  have g1 := hf 1 f1 rfl
  rw [o1, t1, c_int32] at g1
  obtain ⟨n1, e1, _, _⟩ := DataW.trod_int Tryz.underlying21 g1
  simp at e1
  subst e1
  have g2 := hf 2 f2 rfl
  rw [o2, t2, c_int32] at g2
  obtain ⟨n2, e2, _, _⟩ := DataW.trod_int Tryz.underlying21 g2
  simp at e2
  subst e2
  have g3 := hf 3 f3 rfl
  rw [o3, t3, c_string] at g3
  obtain ⟨n3, e3, _, _⟩ := DataW.trod_string Tryz.underlying9 g3
  simp at e3
  subst e3
  have g4 := hf 4 f4 rfl
  rw [o4, t4, c_string] at g4
  obtain ⟨n4, e4, _, _⟩ := DataW.trod_string Tryz.underlying9 g4
  simp at e4
  subst e4
  have g5 := hf 5 f5 rfl
  rw [o5, t5, c_uint8] at g5
  obtain ⟨n5, e5, _, _⟩ := DataW.trod_int Tryz.underlying5 g5
  simp at e5
  subst e5
  have g6 := hf 6 f6 rfl
  rw [o6, t6, c_api_Class] at g6
  obtain ⟨n6, e6, _, _⟩ := DataW.trod_int Tryz.underlying27 g6
  simp at e6
  subst e6
  have g7 := hf 7 f7 rfl
  rw [o7, t7, c_int32] at g7
  obtain ⟨n7, e7, _, _⟩ := DataW.trod_int Tryz.underlying21 g7
  simp at e7
  subst e7
  have g8 := hf 8 f8 rfl
  rw [o8, t8, c_bool] at g8
  obtain ⟨n8, e8, _⟩ := DataW.trod_bool Tryz.underlying4 g8
  simp at e8
  subst e8
  exact ⟨⟨n0, n1, n2, n3.data.toList, n4.data.toList, n5, n6, n7, n8⟩, rfl⟩

theorem open_rows {H : Type} {enc : TypeId × Value → H} {W : World} {base : Nat} {held : Bool} {fuel : Nat} {a : Option Addr} {len cap : Nat} {x : DataW H × List MemPlace}
    (h : DataW.trod enc Tryz.prog W base (fun _ => true) held fuel 37 (Value.slice a len cap).cells.toList = some x) : ∃ rs : List RowD, rs.length = len ∧ len ≤ cap ∧ RwMem W a rs ∧ ((len = 0 ∧ x.1 = .nil) ∨ ∃ es sp, x.1 = .slice es sp ∧ es.length = len) := by
  rcases open_slice Tryz.underlying37 h with ⟨hcs, hx⟩ | ⟨b, l, c, m, n, D, Pl, hcs, hb, hl, hm, hmm, hx, hcell⟩
  · simp [Value.cells] at hcs
    obtain ⟨rfl, rfl, rfl⟩ := hcs
    exact ⟨[], rfl, Nat.le_refl _, fun i r e => by simp at e, .inl ⟨rfl, by rw [hx]⟩⟩
  · simp [Value.cells] at hcs
    obtain ⟨rfl, rfl, rfl⟩ := hcs
    have hmm' : m = cap := by simpa using hmm
    subst hmm'
    have each : ∀ i, i < len → ∃ r : RowD, ∀ j v, (rowC r)[j]? = some v → W.cell? (b.add (i * 9 + j)) = some v := by
      intro i hi
      obtain ⟨cs', h1, h2⟩ := hcell i (by omega)
      rw [rowCells] at h1
      obtain ⟨r, rfl⟩ := row_of_cells h2
      obtain ⟨_, hlen, hce⟩ := World.cells?_some h1
      refine ⟨r, fun j v hv => ?_⟩
      have hj := (List.getElem?_eq_some_iff.1 hv).1
      have := hce j (by simpa using hj)
      rw [add_add] at this
      rw [this, hv]
    obtain ⟨q, hq⟩ := choose_lt each
    obtain ⟨g, off, spot⟩ := b
    refine ⟨(List.range len).map q, by simp, hl, fun i r e => ?_, .inr ⟨_, _, by rw [hx], by simp⟩⟩
    rw [List.getElem?_map] at e
    obtain ⟨i', hi', e⟩ := Option.map_eq_some_iff.1 e
    obtain ⟨hil, rfl⟩ := List.getElem?_eq_some_iff.1 hi'
    simp only [List.length_range, List.getElem_range] at hil e
    subst e
    have hspot : spot = none := by simpa [Addr.add] using World.cell?_spot (hq 0 (by omega) 0 _ rfl)
    subst hspot
    refine ⟨g, off, rfl, fun j v hv => ?_⟩
    rw [Nat.add_assoc, ← Go.WideShapes.add_plain]
    exact hq i hil j v hv
end Go.Proofs.YthjnkagepooeiaaGreatDoor
/-
  The variables that the rows of this seat list: what the condition gives a walk, and a world that meets it.
-/
namespace Go.Proofs.YthjnkagepooeiaaGreatDoor
open Go.ChangeShapes Go.WideShapes Go.ChangeAt Go.RowKit
set_option linter.unusedVariables false

theorem own6 : ownKnob Tryz.prog.godebug = none := by kernel_rfl
theorem errGlobal6 : Tryz.prog.globalNamed "errors.errorType" = some 0 := by kernel_rfl
theorem rtypeRow6 : (Tryz.prog.cutTypes.find? (·.1 == "internal/reflectlite.rtype")).map (·.2) = some 147 := by kernel_rfl
theorem errorRow6 : ((List.range 326).filter fun t => Tryz.prog.rowNamed t [101, 114, 114, 111, 114]) = [39] := by kernel_rfl
theorem typesSize6 : Tryz.prog.types.size = 326 := by kernel_rfl
abbrev laid6 : List (String × DataW Unit) := Rows.rowsNamesRow.laid

theorem maxLen6 {w : World} (h : w.ShapedOpen Tryz.prog) : ∃ m, w.cell? ⟨4, 0, none⟩ = some (.int .i64 m) :=
  cell_of_shapedOpen_int (zero := #[.int .i64 0]) (t := 3) h (of_decide_eq_true (by kernel_rfl)) (by kernel_rfl) rfl (by kernel_rfl) (by kernel_rfl) Tryz.underlying3
theorem size6 {w : World} (h : w.ShapedOpen Tryz.prog) : 10 ≤ w.heap.size := by
  obtain ⟨o, _, h1, _⟩ := h.2 10 (of_decide_eq_true (by kernel_rfl)) (of_decide_eq_true (by kernel_rfl))
  exact Nat.le_of_lt (Array.getElem?_eq_some_iff.1 h1).1

set_option maxRecDepth 100000 in
theorem glob_of_laid {W : World} (h : laidMetH Tryz.prog laid6 W) (hsh : W.ShapedOpen Tryz.prog) : Glob W := by
  refine ⟨size6 hsh, ?_, ?_, maxLen6 hsh, ?_, ?_⟩
  · obtain ⟨ps, ⟨_, _, _, _, _, _, _, _, _, _, ⟨_, _, _, _, _, _, _, _, _, _, ⟨_, _, _, _, _, _, _, _, _, _, ⟨_, _, _, _, _, _, _, _, _, _, ⟨_, _, _, _, _, _, _, _, _, _, ⟨g, t, cs, fuel, p, q, hg, ht, hv, hd, _, _⟩, _⟩, _⟩, _⟩, _⟩, _⟩, _, _⟩ := (laidMetH_iff.1 h).1
    obtain rfl := Option.some.inj ((show Tryz.prog.globalNamed "strconv.ErrSyntax" = some 1 by kernel_rfl).symm.trans hg)
    obtain rfl := Option.some.inj ((show (Tryz.prog.globals[1]?).map (·.type) = some 39 by kernel_rfl).symm.trans ht)
    obtain ⟨_, u, v, e, _, _⟩ := iface_of_trod Tryz.underlying39 hd
    refine ⟨.iface u v, ?_, .inr ⟨_, _, rfl⟩⟩
    rw [World.var?_cell hg hv 0]
    have : cs.toList[0]? = some (.iface u v) := by rw [e]; rfl
    simpa using this
  · obtain ⟨ps, ⟨_, _, _, _, _, _, _, _, _, _, ⟨_, _, _, _, _, _, _, _, _, _, ⟨_, _, _, _, _, _, _, _, _, _, ⟨_, _, _, _, _, _, _, _, _, _, ⟨g, t, cs, fuel, p, q, hg, ht, hv, hd, _, _⟩, _⟩, _⟩, _⟩, _⟩, _, _⟩ := (laidMetH_iff.1 h).1
    obtain rfl := Option.some.inj ((show Tryz.prog.globalNamed "strconv.ErrRange" = some 2 by kernel_rfl).symm.trans hg)
    obtain rfl := Option.some.inj ((show (Tryz.prog.globals[2]?).map (·.type) = some 39 by kernel_rfl).symm.trans ht)
    obtain ⟨_, u, v, e, _, _⟩ := iface_of_trod Tryz.underlying39 hd
    refine ⟨.iface u v, ?_, .inr ⟨_, _, rfl⟩⟩
    rw [World.var?_cell hg hv 0]
    have : cs.toList[0]? = some (.iface u v) := by rw [e]; rfl
    simpa using this
  · obtain ⟨ps, ⟨_, _, _, _, _, _, _, _, _, _, ⟨_, _, _, _, _, _, _, _, _, _, ⟨g, t, cs, fuel, p, q, hg, ht, hv, hd, _, _⟩, _⟩, _⟩, _, _⟩ := (laidMetH_iff.1 h).1
    obtain rfl := Option.some.inj ((show Tryz.prog.globalNamed "internal/strconv.uint64pow10" = some 3 by kernel_rfl).symm.trans hg)
    obtain rfl := Option.some.inj ((show (Tryz.prog.globals[3]?).map (·.type) = some 258 by kernel_rfl).symm.trans ht)
    have := Lib.cells_of_tab (zs := Lib.pow10Tab) (k := .u64) Tryz.underlying258 Tryz.underlying164 (by kernel_rfl) (by kernel_rfl) hd
    unfold Lib.TabIs
    rw [hv, ← this]
  · obtain ⟨name, u, ty, e1, e2, e3, e4, e5⟩ := (laidMetH_iff.1 h).2 (_, Rows.laid_errors_errorType) (List.mem_filter.2 ⟨List.mem_cons_of_mem _ (List.mem_cons_of_mem _ (List.mem_cons_of_mem _ (List.mem_cons_of_mem _ (List.mem_cons_self ..)))), rfl⟩)
    have en : name = [101, 114, 114, 111, 114] := (Option.some.inj e1).symm
    subst en
    obtain rfl := Option.some.inj (rtypeRow6.symm.trans e2)
    have hm : ty ∈ (List.range 326).filter fun t => Tryz.prog.rowNamed t [101, 114, 114, 111, 114] := List.mem_filter.2 ⟨List.mem_range.2 (by rw [← typesSize6]; exact e3), e4⟩
    rw [errorRow6] at hm
    obtain rfl := List.mem_singleton.1 hm
    have hh : typeHandle Tryz.prog 39 = .pointer (some ⟨10, 39, none⟩) := by kernel_rfl
    rw [hh] at e5
    simpa using World.var?_cell errGlobal6 e5 0

/-- a world that meets the condition -/
noncomputable def baseW6 (os : Os) : World :=
  let w0 := World.holding Tryz.prog os ⟨#[], #[], []⟩
  { w0 with heap := w0.heap.modify 0 fun
      | .cells _ t frozen => .cells #[.iface 147 (.agg #[.pointer (some ⟨10, 39, none⟩)])] t frozen
      | o => o }
abbrev data6 : List (String × DataW Unit) := laid6.filter fun x => x.2.handleName?.isNone
noncomputable def witW6 (os : Os) : World := (baseW6 os).layVars Tryz.prog data6
theorem witW6_os (os : Os) : (witW6 os).os = os := World.layVars_os _ _ _
theorem laidMet_over6 {P : Program} {w0 : World} {laid : List (String × DataW Unit)} (args : Array Value) (hf : w0.layFits P laid [] = true) (hi : w0.layIfaces P laid (w0.layVars P laid) = true) :
    laidMet P laid ((w0.layVars P laid).forCall (fun _ _ => 0) ⟨#[], args, []⟩).memory := by
  have e1 : (laid.filter fun x => (laid.map (·.1)).contains x.1) = laid := List.filter_eq_self.2 fun x hx => List.contains_iff_mem.2 (List.mem_map.2 ⟨x, hx, rfl⟩)
  have e2 : (laid.filter fun x => !(laid.map (·.1)).contains x.1) = [] := List.filter_eq_nil_iff.2 fun x hx => by rw [List.contains_iff_mem.2 (List.mem_map.2 ⟨x, hx, rfl⟩)]; simp
  have h : laidMet P laid (w0.layVars P laid) := laidMet_layVars (w0 := w0) (laid.map (·.1)) [] (by rw [e1]) (by rw [e1]; exact hf) (by rw [e1]; exact hi) (by rw [e2]; exact LaidIn.none)
  exact h.of_heap (by simp [World.memory, World.forCall, Input.heap])
theorem witness_row_shaped6 {H : Type} {enc : TypeId × Value → H} {C : Checked} {os : Os} {f : FuncId} {fn : Func} {s : OpenSpec} {conds : List PathCond} {apart : Bool} {laid : List (String × DataW Unit)} (w0 : World) (args : Array Value) (hos : w0.os = os)
    (hsh : (w0.forCall (fun _ _ => 0) ⟨#[], args, []⟩).Shaped C.prog)
    (hok : Input.okWideB C.prog (w0.forCall (fun _ _ => 0) ⟨#[], args, []⟩) f ⟨#[], args, []⟩ = true)
    (hrow : s.preRow enc C.prog fn conds apart laid (w0.forCall (fun _ _ => 0) ⟨#[], args, []⟩).memory args) :
    ∃ (w : World) (tape : Tape) (i : Input), w.os = os ∧ (w.forCall tape i).Shaped C.prog ∧ i.vars = [] ∧ Input.okWide C.prog (w.forCall tape i) .any w.heap.size f i ∧
      s.preRow enc C.prog fn conds apart laid (w.forCall tape i).memory i.args ∧ ({} : Assume).holds C.prog (lone (Frame.enter C.prog f i.args .normal) [] (w.forCall tape i)) :=
  ⟨w0, fun _ _ => 0, ⟨#[], args, []⟩, hos, hsh, (Input.okWide_of_okWideB (base := 0) hok).1, (Input.okWide_of_okWideB hok).2, hrow, by
    simp only [Assume.holds]
    exact ⟨by simp, by simp, by simp, by simp, by simp⟩⟩
set_option maxRecDepth 100000 in
theorem witW6_met (os : Os) : laidMetH Tryz.prog laid6 ((witW6 os).forCall (fun _ _ => 0) ⟨#[], #[], []⟩).memory :=
  laidMetH_of_parts (laidMet_over6 #[] (by kernel_rfl) (by kernel_rfl)) (by kernel_rfl)
end Go.Proofs.YthjnkagepooeiaaGreatDoor
/-
  What a bound on the bulk of the arguments says of a text's bytes and of a list's places.
-/
namespace Go.Proofs.YthjnkagepooeiaaGreatDoor

theorem bulk_one {H : Type} (d : DataW H) : 1 ≤ Rows.uptoBulk d := by
  cases d with
  | lit l => cases l <;> simp [Rows.uptoBulk]
  | _ => simp [Rows.uptoBulk]
theorem bulk_length {H : Type} (l : List (DataW H)) : l.length ≤ Rows.uptoBulkAll l := by
  induction l with
  | nil => simp [Rows.uptoBulkAll]
  | cons x r ih => have := bulk_one x; simp only [Rows.uptoBulkAll, List.length_cons]; omega
theorem bulk_string {H : Type} (s : ByteArray) : Rows.uptoBulk (DataW.lit (H := H) (.string s.data.toList)) = s.size + 1 := by
  simp [Rows.uptoBulk]
theorem bulk_slice {H : Type} (es sp : List (DataW H)) : es.length + sp.length + 1 ≤ Rows.uptoBulk (.slice es sp) := by
  have h1 := bulk_length es
  have h2 := bulk_length sp
  simp only [Rows.uptoBulk]; omega
theorem bulk_bound {H : Type} {l : List (DataW H)} (hk : Rows.uptoSmall H l = true) : Rows.uptoBulkAll l ≤ 1048576 := of_decide_eq_true hk
theorem bulk_first {H : Type} {d : DataW H} {l : List (DataW H)} (hk : Rows.uptoSmall H (d :: l) = true) : Rows.uptoBulk d ≤ 1048576 := by
  have := bulk_bound hk; simp only [Rows.uptoBulkAll] at this; omega
theorem bulk_second {H : Type} {c d : DataW H} {l : List (DataW H)} (hk : Rows.uptoSmall H (c :: d :: l) = true) : Rows.uptoBulk d ≤ 1048576 := by
  have := bulk_bound hk; simp only [Rows.uptoBulkAll] at this; omega
end Go.Proofs.YthjnkagepooeiaaGreatDoor
/-
  A note more in a text: the same rows but for the numbers of lines, or the same fault.
-/
namespace Go.Proofs.YthjnkagepooeiaaGreatDoor
open Go.RowKit Go.PlainAid Go.Lib Go.PHexM
set_option linter.unusedVariables false
set_option linter.unusedSimpArgs false

/-- a line's number, what it is, why it is wrong -/
abbrev LnP : Type := Nat × (LineD × Int)
def rdP : List LnP → List LineD × Option (Nat × Int)
  | [] => ([], none)
  | x :: l => if x.2.2 = 0 then (x.2.1 :: (rdP l).1, (rdP l).2) else ([], some (x.1, x.2.2))
def lnP (s : ByteArray) (x : Nat × Nat × Nat) : LnP := (x.1, scanX s x)
theorem rd_P (s : ByteArray) (l : List (Nat × Nat × Nat)) : rdS s l = rdP (l.map (lnP s)) := by
  induction l with
  | nil => rfl
  | cons x l ih => rw [List.map_cons, rdS, rdP, ← ih]; rfl
def rowsP (l : List LnP) : List RowD × Option (Int × Int) := match (rdP l).2 with
  | some (no, code) => ([], some ((no : Int), code))
  | none => tellR (eachR startW (rdP l).1)
theorem rows_P (s : ByteArray) : rowsS s = rowsP ((linesL s).map (lnP s)) := by
  unfold rowsS rowsP readS
  rw [rd_P]
  rfl

/-- a line with the same number or the next -/
def OneP (x y : LnP) : Prop := (y.1 = x.1 ∨ y.1 = x.1 + 1) ∧ y.2.2 = x.2.2 ∧ (x.2.2 = 0 → x.2.1.no = (x.1 : Int) ∧ y.2.1 = withNo x.2.1 (y.1 : Int))
def SkipP (n : LnP) : Prop := n.2.2 = 0 ∧ (n.2.1.kind = 0 ∨ n.2.1.kind = 3)
inductive Ins : List LnP → List LnP → Prop
  | nil : Ins [] []
  | cons {x y : LnP} {l m : List LnP} : OneP x y → Ins l m → Ins (x :: l) (y :: m)
  | skip {n : LnP} {l m : List LnP} : SkipP n → Ins l m → Ins l (n :: m)
def OneD (x y : LineD) : Prop := ∃ k : Int, y = withNo x k ∧ (k = x.no ∨ k = x.no + 1)
inductive InsD : List LineD → List LineD → Prop
  | nil : InsD [] []
  | cons {x y : LineD} {l m : List LineD} : OneD x y → InsD l m → InsD (x :: l) (y :: m)
  | skip {n : LineD} {l m : List LineD} : (n.kind = 0 ∨ n.kind = 3) → InsD l m → InsD l (n :: m)
theorem ins_rd {l m : List LnP} (h : Ins l m) : ((rdP l).2 = none → (rdP m).2 = none ∧ InsD (rdP l).1 (rdP m).1) ∧ (∀ no c, (rdP l).2 = some (no, c) → ∃ no', (rdP m).2 = some (no', c) ∧ (no' = no ∨ no' = no + 1)) := by
  induction h with
  | nil => exact ⟨fun _ => ⟨rfl, .nil⟩, fun no c h => (by cases h)⟩
  | @cons x y l m h1 _ ih =>
    obtain ⟨g1, g2, g3⟩ := h1
    rw [rdP, rdP]
    by_cases hx : x.2.2 = 0
    · rw [if_pos hx, if_pos (g2.trans hx)]
      obtain ⟨e1, e2⟩ := g3 hx
      refine ⟨fun h => ?_, ih.2⟩
      obtain ⟨i1, i2⟩ := ih.1 h
      refine ⟨i1, .cons ⟨_, e2, ?_⟩ i2⟩
      rw [e1]
      omega
    · rw [if_neg hx, if_neg (by rw [g2]; exact hx)]
      refine ⟨fun h => (by cases h), fun no c h => ?_⟩
      obtain ⟨rfl, rfl⟩ : x.1 = no ∧ x.2.2 = c := by
        have := Option.some.inj h
        exact ⟨congrArg Prod.fst this, congrArg Prod.snd this⟩
      exact ⟨y.1, by rw [g2], g1⟩
  | @skip n l m h1 _ ih =>
    rw [show rdP (n :: m) = (n.2.1 :: (rdP m).1, (rdP m).2) by rw [rdP, if_pos h1.1]]
    exact ⟨fun h => ⟨(ih.1 h).1, .skip h1.2 (ih.1 h).2⟩, ih.2⟩

def wl (r : RowD) (k : Int) : RowD := { r with line := k }
theorem cell_wl (a : Nat) (f : List UInt8) (r : RowD) (k : Int) : cellP a f (wl r k) = (wl (cellP a f r).1 k, (cellP a f r).2) := by
  unfold cellP wl
  (repeat' split) <;> simp_all
theorem fold_wl (fs : List (List UInt8)) (k : Int) : ∀ (l : List Nat) (r : RowD), (foldC fs l (wl r k)).2 = (foldC fs l r).2 ∧ ((foldC fs l r).2 = 0 → (foldC fs l (wl r k)).1 = wl (foldC fs l r).1 k) ∧ ((foldC fs l r).2 ≠ 0 → (foldC fs l (wl r k)).1 = (foldC fs l r).1)
  | [], r => ⟨rfl, fun _ => rfl, fun h => absurd rfl h⟩
  | a :: l, r => by
    unfold foldC
    rw [cell_wl]
    simp only
    split
    · exact fold_wl fs k l _
    · rename_i h
      exact ⟨rfl, fun e => absurd e h, fun _ => rfl⟩
theorem scan_wl (d : LineD) (k : Int) : (scanR (withNo d k)).2 = (scanR d).2 ∧ ((scanR d).2 = 0 → (scanR (withNo d k)).1 = wl (scanR d).1 k) ∧ ((scanR d).2 ≠ 0 → (scanR (withNo d k)).1 = (scanR d).1) := by
  unfold scanR
  show (if d.kind = 2 then (zeroR, (33 : Int)) else if d.kind ≠ 1 ∨ d.fields.length ≠ 15 then (zeroR, 60) else foldC d.fields cellsL { zeroR with line := k }).2 = _ ∧ _ ∧ _
  by_cases h2 : d.kind = 2
  · rw [if_pos h2, if_pos h2, if_pos (show (withNo d k).kind = 2 from h2)]
    exact ⟨rfl, fun h => absurd h (by decide), fun _ => rfl⟩
  · rw [if_neg h2, if_neg h2, if_neg (show ¬ (withNo d k).kind = 2 from h2)]
    by_cases h1 : d.kind ≠ 1 ∨ d.fields.length ≠ 15
    · rw [if_pos h1, if_pos h1, if_pos (show (withNo d k).kind ≠ 1 ∨ (withNo d k).fields.length ≠ 15 from h1)]
      exact ⟨rfl, fun h => absurd h (by decide), fun _ => rfl⟩
    · rw [if_neg h1, if_neg h1, if_neg (show ¬ ((withNo d k).kind ≠ 1 ∨ (withNo d k).fields.length ≠ 15) from h1)]
      exact fold_wl d.fields k cellsL { zeroR with line := d.no }
theorem scan_namew (d : LineD) (k : Int) : (scanR (withNo d k)).1.name = (scanR d).1.name := by
  obtain ⟨_, h1, h2⟩ := scan_wl d k
  by_cases h : (scanR d).2 = 0
  · rw [h1 h]; rfl
  · rw [h2 h]
theorem which_wl (d : LineD) (k : Int) : whichR (withNo d k) = whichR d := by
  unfold whichR
  rw [scan_namew]
theorem plain_wl (d : LineD) (k : Int) (h : (scanR d).2 = 0) : plainR (withNo d k) = wl (plainR d) k := by
  unfold plainR
  rw [scan_namew, (scan_wl d k).2.1 h]
  rfl
theorem plain_name (d : LineD) (k : Int) : (plainR (withNo d k)).name = (plainR d).name := by
  show (halfP (scanR (withNo d k)).1.name).1 = (halfP (scanR d).1.name).1
  rw [scan_namew]
theorem plain_first (d : LineD) (k : Int) : (plainR (withNo d k)).first = (plainR d).first := by
  show (scanR (withNo d k)).1.first = (scanR d).1.first
  obtain ⟨_, h1, h2⟩ := scan_wl d k
  by_cases h : (scanR d).2 = 0
  · rw [h1 h]; rfl
  · rw [h2 h]

/-- a row with the same line or the next -/
def OneR (x y : RowD) : Prop := ∃ k : Int, y = wl x k ∧ (k = x.line ∨ k = x.line + 1)
def HeldRel : Option (LineD × RowD) → Option (LineD × RowD) → Prop
  | none, none => True
  | some x, some y => OneD x.1 y.1 ∧ OneR x.2 y.2
  | _, _ => False
structure WalkRel (s t : WalkD) : Prop where
  above : t.above = s.above
  held : HeldRel s.held t.held
theorem WalkRel.k {s t : WalkD} (h : WalkRel s t) : heldK t = heldK s := by
  have := h.held
  unfold heldK
  cases hs : s.held <;> cases ht : t.held <;> rw [hs, ht] at this <;> first | rfl | exact this.elim
theorem WalkRel.row {s t : WalkD} (h : WalkRel s t) : OneR (heldRow s) (heldRow t) := by
  have := h.held
  unfold heldRow
  cases hs : s.held <;> cases ht : t.held <;> rw [hs, ht] at this
  · exact ⟨0, rfl, .inl rfl⟩
  · exact this.elim
  · exact this.elim
  · exact this.2
theorem WalkRel.fields {s t : WalkD} (h : WalkRel s t) : (heldL t).fields = (heldL s).fields := by
  have hh := h.held
  unfold heldL
  revert hh
  cases s.held with
  | none =>
    cases t.held with
    | none => intro _; rfl
    | some y => intro hh; exact hh.elim
  | some x =>
    cases t.held with
    | none => intro hh; exact hh.elim
    | some y =>
      intro hh
      obtain ⟨k, e, _⟩ := hh.1
      show y.1.fields = x.1.fields
      rw [e]
      rfl
theorem OneR.name {x y : RowD} (h : OneR x y) : y.name = x.name := by obtain ⟨k, rfl, _⟩ := h; rfl
theorem step_same {s t : WalkD} (h : WalkRel s t) (d : LineD) (k : Int) : ∀ j, stepE t (withNo d k) j = stepE s d j
  | 0 => (scan_wl d k).1
  | 1 => by
    unfold stepE
    rw [h.k, which_wl, plain_name, h.row.name]
    rfl
  | 2 => by
    unfold stepE
    rw [plain_first, h.above]
    rfl
  | j + 3 => by
    unfold stepE
    rw [which_wl, h.fields]
    rfl
theorem ask_same {s t : WalkD} (h : WalkRel s t) (d : LineD) (k : Int) : askE t (withNo d k) = askE s d := by
  unfold askE
  rw [step_same h d k, step_same h d k, step_same h d k, step_same h d k]

def TellRel (x y : RowD × Int) : Prop := y.2 = x.2 ∧ OneR x.1 y.1
inductive All2 {α : Type} (R : α → α → Prop) : List α → List α → Prop
  | nil : All2 R [] []
  | cons {x y : α} {l m : List α} : R x y → All2 R l m → All2 R (x :: l) (y :: m)
theorem All2.app {α : Type} {R : α → α → Prop} {a b c d : List α} (h : All2 R a b) (k : All2 R c d) : All2 R (a ++ c) (b ++ d) := by
  induction h with
  | nil => exact k
  | cons h1 _ ih => exact .cons h1 ih
theorem step_rel {s t : WalkD} (h : WalkRel s t) {d d' : LineD} (hd : OneD d d') : All2 TellRel (stepR s d).1 (stepR t d').1 ∧ WalkRel (stepR s d).2 (stepR t d').2 := by
  obtain ⟨k, rfl, hk⟩ := hd
  unfold stepR
  rw [ask_same h, which_wl]
  by_cases h0 : d.kind = 0 ∨ d.kind = 3
  · rw [if_pos h0, if_pos (show (withNo d k).kind = 0 ∨ (withNo d k).kind = 3 from h0)]
    exact ⟨.nil, h⟩
  rw [if_neg h0, if_neg (show ¬ ((withNo d k).kind = 0 ∨ (withNo d k).kind = 3) from h0)]
  by_cases ha : askE s d ≠ 0
  · rw [if_pos ha, if_pos ha]
    exact ⟨.cons ⟨rfl, k, rfl, hk⟩ .nil, h⟩
  rw [if_neg ha, if_neg ha]
  have hz : (scanR d).2 = 0 := by
    have ha' : askE s d = 0 := by simpa using ha
    unfold askE at ha'
    split at ha'
    · exact absurd ha' (by assumption)
    · rename_i e; simpa [stepE] using e
  have hline : (plainR d).line = d.no := by
    show (scanR d).1.line = d.no
    have := (scan_wl d d.no).2.1 hz
    have e : withNo d d.no = d := rfl
    rw [e] at this
    rw [this]; rfl
  rw [plain_wl d k hz]
  have hP : OneR (plainR d) (wl (plainR d) k) := ⟨k, rfl, by rw [hline]; exact hk⟩
  by_cases h1 : whichR d = 1
  · rw [if_pos h1, if_pos h1]
    exact ⟨.nil, rfl, ⟨k, rfl, hk⟩, hP⟩
  rw [if_neg h1, if_neg h1]
  by_cases h2 : whichR d = 2
  · rw [if_pos h2, if_pos h2]
    obtain ⟨k2, e2, hk2⟩ := h.row
    refine ⟨.cons ⟨rfl, k2, ?_, hk2⟩ .nil, rfl, trivial⟩
    rw [e2]; rfl
  · rw [if_neg h2, if_neg h2]
    exact ⟨.cons ⟨rfl, hP⟩ .nil, rfl, h.held⟩
theorem each_rel {l m : List LineD} (h : InsD l m) : ∀ {s t : WalkD}, WalkRel s t → All2 TellRel (eachR s l) (eachR t m) := by
  induction h with
  | nil =>
    intro s t hw
    have := hw.held
    unfold eachR lastR
    cases hs : s.held <;> cases ht : t.held <;> rw [hs, ht] at this
    · exact .nil
    · exact this.elim
    · exact this.elim
    · obtain ⟨k, e, hk⟩ := this.1
      refine .cons ⟨rfl, k, ?_, hk⟩ .nil
      simp only [e]
      rfl
  | cons h1 _ ih =>
    intro s t hw
    obtain ⟨a, b⟩ := step_rel hw h1
    exact a.app (ih b)
  | @skip n l m h1 _ ih =>
    intro s t hw
    have e : stepR t n = ([], t) := by unfold stepR; rw [if_pos h1]
    rw [show eachR t (n :: m) = (stepR t n).1 ++ eachR (stepR t n).2 m from rfl, e]
    exact ih hw
theorem tell_rel {l m : List (RowD × Int)} (h : All2 TellRel l m) : ((tellR l).2 = none → (tellR m).2 = none) ∧ All2 OneR (tellR l).1 (tellR m).1 ∧ (∀ no c, (tellR l).2 = some (no, c) → ∃ no', (tellR m).2 = some (no', c) ∧ (no' = no ∨ no' = no + 1)) := by
  induction h with
  | nil => exact ⟨fun _ => rfl, .nil, fun no c h => by cases h⟩
  | @cons x y l m h1 _ ih =>
    obtain ⟨e, k, hy, hk⟩ := h1
    rw [tellR, tellR, e]
    by_cases hx : x.2 = 0
    · rw [if_pos hx, if_pos hx]
      exact ⟨ih.1, .cons ⟨k, hy, hk⟩ ih.2.1, ih.2.2⟩
    · rw [if_neg hx, if_neg hx]
      refine ⟨fun h => (by cases h), .nil, fun no c h => ?_⟩
      obtain ⟨rfl, rfl⟩ : x.1.line = no ∧ x.2 = c := by
        have := Option.some.inj h
        exact ⟨congrArg Prod.fst this, congrArg Prod.snd this⟩
      exact ⟨y.1.line, rfl, by rw [hy]; exact hk⟩
theorem ins_rows {l m : List LnP} (h : Ins l m) : ((rowsP l).2 = none → (rowsP m).2 = none ∧ All2 OneR (rowsP l).1 (rowsP m).1) ∧ (∀ no c, (rowsP l).2 = some (no, c) → ∃ no', (rowsP m).2 = some (no', c) ∧ (no' = no ∨ no' = no + 1)) := by
  obtain ⟨h1, h2⟩ := ins_rd h
  unfold rowsP
  cases hl : (rdP l).2 with
  | none =>
    obtain ⟨g1, g2⟩ := h1 hl
    rw [g1]
    simp only
    have := tell_rel (each_rel g2 (s := startW) (t := startW) ⟨rfl, trivial⟩)
    exact ⟨fun h => ⟨this.1 h, this.2.1⟩, this.2.2⟩
  | some x =>
    obtain ⟨no, c⟩ := x
    obtain ⟨no', e, hn⟩ := h2 no c hl
    rw [e]
    simp only
    refine ⟨fun h => (by cases h), fun n' c' h => ?_⟩
    obtain ⟨rfl, rfl⟩ : (no : Int) = n' ∧ c = c' := by
      have := Option.some.inj h
      exact ⟨congrArg Prod.fst this, congrArg Prod.snd this⟩
    exact ⟨_, rfl, by omega⟩
end Go.Proofs.YthjnkagepooeiaaGreatDoor
/-
  A note more in a text: its lines.
-/
namespace Go.Proofs.YthjnkagepooeiaaGreatDoor
open Go.RowKit Go.PlainAid Go.Lib Go.PHexM
set_option linter.unusedVariables false
set_option linter.unusedSimpArgs false

theorem lines_app2 (a b : ByteArray) (h0 : 0 < a.size) (hl : bN a (a.size - 1) = 10) : linesL (a ++ b) = linesL a ++ (linesI b 1 0).map (shiftL (linesL a).length a.size) := by
  rw [← linesL_I, ← linesL_I a, mark_app a b h0 hl, lines_first a b hl _ 1 (markN a) (Nat.le_refl _) (mark_le a)]
  have := lines_second a b _ 1 0 (linesI a 1 (markN a)).length (Nat.le_refl _) (Nat.zero_le _)
  rw [Nat.add_zero] at this
  rw [this]
/-- a line that is a note -/
structure NoteT (N : ByteArray) : Prop where
  long : 2 ≤ N.size
  short : N.size ≤ 4096
  first : bN N 0 = 35
  last : bN N (N.size - 1) = 10
  plain : ∀ j, j < N.size - 1 → 32 ≤ bN N j ∧ bN N j ≤ 126
theorem chk_plain (t : ByteArray) (h : ∀ j, j < t.size → 32 ≤ bN t j ∧ bN t j ≤ 126) (hs : t.size ≤ 4096) : ∀ (k pos : Nat), t.size - pos ≤ k → chk t pos (chars t pos) = (0, 0) := by
  intro k
  induction k with
  | zero => intro pos hk; rw [chars_end t pos (by omega)]; rfl
  | succ k ih =>
    intro pos hk
    by_cases hp : pos < t.size
    · have hb := h pos hp
      have hd : Utf8.decode t pos = (bN t pos, 1) := by
        rw [decode_decB t pos hp]
        unfold decB
        rw [if_pos (by omega)]
      rw [chars_step t pos hp, hd, chk, if_neg (by omega), if_neg (by omega), if_neg (by simp [ctrlB]; omega)]
      exact ih (pos + 1) (by omega)
    · rw [chars_end t pos hp]; rfl
theorem trim_hash (l : List UInt8) : hasPrefix (trimB (35 :: l)) [64] = false := by
  have h : ∃ y, trimRightS (35 :: l) [32, 9] = 35 :: y := by
    unfold trimRightS
    rw [List.reverse_cons, List.dropWhile_append]
    split
    · exact ⟨[], rfl⟩
    · rw [List.reverse_append]
      exact ⟨_, rfl⟩
  obtain ⟨y, hy⟩ := h
  unfold trimB trimS
  rw [hy]
  unfold trimLeftS
  rw [List.dropWhile_cons, if_neg (by decide)]
  rfl
theorem scan_hash (no : Int) (t : ByteArray) (l : List UInt8) (hl : L t = 35 :: l) (h : ∀ j, j < t.size → 32 ≤ bN t j ∧ bN t j ≤ 126) (hs : t.size ≤ 4096) : (scanS no t).2 = 0 ∧ ((scanS no t).1.kind = 0 ∨ (scanS no t).1.kind = 3) := by
  have hc : chkS t = (0, 0) := chk_plain t h hs _ 0 (Nat.le_refl _)
  unfold scanS
  rw [hc, hl, trim_hash]
  simp only [ne_eq, not_true_eq_false, if_false, Bool.false_eq_true]
  have hcut : (cutS t).1 = [] := by
    unfold cutS
    rw [hl, mach]
    simp [lastF]
  refine ⟨trivial, ?_⟩
  unfold plainS
  rw [if_neg (by simp [hcut])]
  split
  · exact .inr rfl
  · exact .inl rfl
theorem note_mark {N : ByteArray} (h : NoteT N) : markN N = 0 := by
  rw [markN_eq, if_neg]
  rintro ⟨_, h0, _⟩
  rw [h.first] at h0
  omega
theorem note_lines {N : ByteArray} (h : NoteT N) : linesI N 1 0 = [(1, 0, N.size - 1)] := by
  have hl := h.long
  obtain ⟨e1, e2, e3⟩ := linesI_found N 1 0 (N.size - 1) (Nat.zero_le _) (by omega) h.last (fun j _ hj => by have := h.plain j hj; omega)
  have h2 := h.plain (N.size - 1 - 1) (by omega)
  rw [e1, e2, if_neg (by omega), show N.size - 1 + 1 = N.size by omega, linesI_end]
theorem note_scan {N : ByteArray} (h : NoteT N) (no : Nat) : (scanX N (no, 0, N.size - 1)).2 = 0 ∧ ((scanX N (no, 0, N.size - 1)).1.kind = 0 ∨ (scanX N (no, 0, N.size - 1)).1.kind = 3) := by
  have hl := h.long
  have hs := h.short
  obtain ⟨t, ht⟩ : ∃ t, N.extract 0 (N.size - 1) = t := ⟨_, rfl⟩
  have hL : L t = (L N).take (N.size - 1) := by rw [← ht, L_extract]; simp
  have hsz : t.size = N.size - 1 := by
    have := congrArg List.length hL
    rw [L_len, List.length_take, L_len] at this
    omega
  have hb : ∀ j, j < N.size - 1 → bN t j = bN N j := by
    intro j hj
    have h1 := L_at t j (by omega)
    have h2 := L_at N j (by omega)
    rw [hL, List.getElem?_take, if_pos hj, h2] at h1
    unfold bN
    rw [Option.some.inj h1]
  unfold scanX
  simp only
  rw [ht]
  have h0 : L t ≠ [] := by
    intro e
    have : t.size = 0 := by rw [← L_len, e]; rfl
    omega
  obtain ⟨x, l, hxl⟩ := List.exists_cons_of_ne_nil h0
  have hx : x = 35 := by
    have h1 := L_at t 0 (by omega)
    rw [hxl] at h1
    simp at h1
    have h2 := hb 0 (by omega)
    rw [h.first] at h2
    unfold bN at h2
    rw [← h1] at h2
    exact UInt8.toNat_inj.1 h2
  subst hx
  exact scan_hash _ t l hxl (fun j hj => by rw [hb j (by omega)]; exact h.plain j (by omega)) (by omega)

theorem ins_map {α : Type} (f g : α → LnP) {m m' : List LnP} (k : Ins m m') : ∀ l : List α, (∀ x ∈ l, OneP (f x) (g x)) → Ins (l.map f ++ m) (l.map g ++ m')
  | [], _ => k
  | x :: l, h => .cons (h x (by simp)) (ins_map f g k l fun y hy => h y (by simp [hy]))
theorem ln_no (s : ByteArray) (x : Nat × Nat × Nat) (h : (scanX s x).2 = 0) : (scanX s x).1.no = (x.1 : Int) := scan_number _ _ h
theorem one_same (s t : ByteArray) (x : Nat × Nat × Nat) (h : scanX t x = scanX s x) : OneP (lnP s x) (lnP t x) := by
  refine ⟨.inl rfl, by show (scanX t x).2 = _; rw [h]; rfl, fun hz => ?_⟩
  have e := ln_no s x hz
  refine ⟨e, ?_⟩
  show (scanX t x).1 = withNo (scanX s x).1 (x.1 : Int)
  rw [h, ← e]
  rfl
theorem app_assoc (a b c : ByteArray) : a ++ b ++ c = a ++ (b ++ c) := by
  rw [← S_L (a ++ b ++ c), ← S_L (a ++ (b ++ c)), L_app, L_app, L_app, L_app, List.append_assoc]
theorem app_nil_left (a b : ByteArray) (h : a.size = 0) : a ++ b = b := by
  have : L a = [] := by
    apply List.eq_nil_of_length_eq_zero
    rw [L_len]; exact h
  rw [← S_L (a ++ b), L_app, this, List.nil_append, S_L]
theorem with_twice {x y z : LineD} {k m : Int} (h : y = withNo x k) (g : z = withNo x m) : z = withNo y m := by rw [h, g]; rfl
theorem skip_of {s t u : ByteArray} {z y : Nat × Nat × Nat} {k : Int} (e : scanX s z = scanX t z) (g : (scanX t z).2 = (scanX u y).2 ∧ ((scanX u y).2 = 0 → (scanX t z).1 = withNo (scanX u y).1 k)) (n : (scanX u y).2 = 0 ∧ ((scanX u y).1.kind = 0 ∨ (scanX u y).1.kind = 3)) : SkipP (lnP s z) := by
  unfold SkipP lnP
  dsimp only
  rw [e, g.1, g.2 n.1]
  exact n
theorem blank_ins (a b N : ByteArray) (h : NoteT N) (ha : (a.size = 0 ∧ markN b = 0) ∨ (0 < a.size ∧ bN a (a.size - 1) = 10)) : Ins ((linesL (a ++ b)).map (lnP (a ++ b))) ((linesL (a ++ N ++ b)).map (lnP (a ++ N ++ b))) := by
  have hl := h.long
  have hNL : linesL N = [(1, 0, N.size - 1)] := by rw [← linesL_I, note_mark h, note_lines h]
  rcases ha with ⟨ha, hm⟩ | ⟨h0, hl10⟩
  · rw [app_nil_left a b ha, app_nil_left a N ha, lines_app2 N b (by omega) h.last, hNL, ← linesL_I b, hm]
    refine .skip ?_ ?_
    · show (scanX (N ++ b) (1, 0, N.size - 1)).2 = 0 ∧ _
      have e : scanX (N ++ b) (1, 0, N.size - 1) = scanX N (1, 0, N.size - 1) := scanX_first N b _ (by rw [hNL]; simp)
      refine ⟨by rw [e]; exact (note_scan h 1).1, ?_⟩
      show (scanX (N ++ b) (1, 0, N.size - 1)).1.kind = 0 ∨ (scanX (N ++ b) (1, 0, N.size - 1)).1.kind = 3
      rw [e]
      exact (note_scan h 1).2
    · show Ins ((linesI b 1 0).map (lnP b)) (((linesI b 1 0).map (shiftL 1 N.size)).map (lnP (N ++ b)))
      rw [List.map_map]
      have := ins_map (lnP b) ((lnP (N ++ b)) ∘ shiftL 1 N.size) Ins.nil (linesI b 1 0) (fun y _ => ?_)
      · simpa using this
      · obtain ⟨g1, g2⟩ := scanX_second N b 1 y
        refine ⟨.inr rfl, g1, fun hz => ⟨ln_no b y hz, g2 hz⟩⟩
  · have hz : 0 < (a ++ N).size := by rw [app_size]; omega
    have hz10 : bN (a ++ N) ((a ++ N).size - 1) = 10 := by
      rw [app_size, show a.size + N.size - 1 = a.size + (N.size - 1) by omega, bN_ge_app a N _ (by omega)]
      exact h.last
    have hLN : linesL (a ++ N) = linesL a ++ [shiftL (linesL a).length a.size (1, 0, N.size - 1)] := by
      rw [lines_app2 a N h0 hl10, note_lines h]; rfl
    rw [lines_app2 (a ++ N) b hz hz10, lines_app2 a b h0 hl10, hLN]
    simp only [List.map_append, List.map_cons, List.map_nil, List.append_assoc]
    refine ins_map (lnP (a ++ b)) (lnP (a ++ N ++ b)) ?_ (linesL a) (fun x hx => ?_)
    · refine .skip ?_ ?_
      · have hm : shiftL (linesL a).length a.size (1, 0, N.size - 1) ∈ linesL (a ++ N) := by rw [hLN]; simp
        exact skip_of (scanX_first (a ++ N) b _ hm) (scanX_second a N (linesL a).length (1, 0, N.size - 1)) (note_scan h 1)
      · rw [List.map_map, List.map_map]
        have := ins_map ((lnP (a ++ b)) ∘ shiftL (linesL a).length a.size) ((lnP (a ++ N ++ b)) ∘ shiftL (linesL a ++ [shiftL (linesL a).length a.size (1, 0, N.size - 1)]).length (a ++ N).size) Ins.nil (linesI b 1 0) (fun y _ => ?_)
        · simpa using this
        · obtain ⟨f1, f2⟩ := scanX_second a b (linesL a).length y
          obtain ⟨g1, g2⟩ := scanX_second (a ++ N) b (linesL a ++ [shiftL (linesL a).length a.size (1, 0, N.size - 1)]).length y
          refine ⟨.inr ?_, g1.trans f1.symm, fun hz => ?_⟩
          · show y.1 + (linesL a ++ [shiftL (linesL a).length a.size (1, 0, N.size - 1)]).length = y.1 + (linesL a).length + 1
            simp; omega
          · have hzb : (scanX b y).2 = 0 := f1.symm.trans hz
            refine ⟨ln_no (a ++ b) _ hz, ?_⟩
            exact with_twice (f2 hzb) (g2 hzb)
    · have hm : x ∈ linesL (a ++ N) := by rw [hLN]; simp [hx]
      exact one_same _ _ x (by rw [scanX_first (a ++ N) b x hm, scanX_first a N x hx, scanX_first a b x hx])
/-- a note more: the rows are the same but for their lines, or the fault is the same but for its line -/
theorem blank_rows (a b N : ByteArray) (h : NoteT N) (ha : (a.size = 0 ∧ markN b = 0) ∨ (0 < a.size ∧ bN a (a.size - 1) = 10)) :
    ((rowsS (a ++ b)).2 = none → (rowsS (a ++ N ++ b)).2 = none ∧ All2 OneR (rowsS (a ++ b)).1 (rowsS (a ++ N ++ b)).1) ∧ (∀ no c, (rowsS (a ++ b)).2 = some (no, c) → ∃ no', (rowsS (a ++ N ++ b)).2 = some (no', c) ∧ (no' = no ∨ no' = no + 1)) := by
  rw [rows_P, rows_P]
  exact ins_rows (blank_ins a b N h ha)
end Go.Proofs.YthjnkagepooeiaaGreatDoor
/-
  Two lists of rows that are the same but for their lines; the number of a fault's line.
-/
namespace Go.Proofs.YthjnkagepooeiaaGreatDoor
open Go.RowKit Go.PlainAid Go.Lib Go.PHexM Go.Shelf
set_option linter.unusedVariables false
set_option linter.unusedSimpArgs false

theorem each_bad : ∀ (ds : List LineD) (st : WalkD) (x : RowD × Int), x ∈ eachR st ds → x.2 ≠ 0 → (∃ d ∈ ds, x.1.line = d.no) ∨ (∃ h, st.held = some h ∧ x.1.line = h.1.no)
  | [], st, x, hx, hz => by
    unfold eachR lastR at hx
    cases hh : st.held with
    | none => rw [hh] at hx; simp at hx
    | some h =>
      rw [hh] at hx
      simp only [List.mem_singleton] at hx
      subst hx
      exact .inr ⟨h, rfl, rfl⟩
  | d :: ds, st, x, hx, hz => by
    unfold eachR at hx
    have key : (x ∈ (stepR st d).1 → x.1.line = d.no) ∧ (∀ h, (stepR st d).2.held = some h → h.1 = d ∨ st.held = some h) := by
      unfold stepR
      split
      · exact ⟨fun h => by simp at h, fun h hh => .inr hh⟩
      · split
        · exact ⟨fun h => by simp only [List.mem_singleton] at h; subst h; rfl, fun h hh => .inr hh⟩
        · split
          · exact ⟨fun h => by simp at h, fun h hh => by cases hh; exact .inl rfl⟩
          · split
            · exact ⟨fun h => by simp only [List.mem_singleton] at h; subst h; exact absurd rfl hz, fun h hh => by cases hh⟩
            · exact ⟨fun h => by simp only [List.mem_singleton] at h; subst h; exact absurd rfl hz, fun h hh => .inr hh⟩
    rcases List.mem_append.1 hx with hx | hx
    · exact .inl ⟨d, by simp, key.1 hx⟩
    · rcases each_bad ds _ x hx hz with ⟨d', hd, e⟩ | ⟨h, hh, e⟩
      · exact .inl ⟨d', by simp [hd], e⟩
      · rcases key.2 h hh with rfl | hs
        · exact .inl ⟨h.1, by simp, e⟩
        · exact .inr ⟨h, hs, e⟩
theorem tell_some {l : List (RowD × Int)} {no c : Int} (h : (tellR l).2 = some (no, c)) : ∃ x ∈ l, x.2 ≠ 0 ∧ x.1.line = no := by
  induction l with
  | nil => cases h
  | cons a l ih =>
    unfold tellR at h
    split at h
    · obtain ⟨x, hx, h1, h2⟩ := ih h
      exact ⟨x, by simp [hx], h1, h2⟩
    · rename_i hn
      refine ⟨a, by simp, hn, ?_⟩
      have := Option.some.inj h
      exact congrArg Prod.fst this
theorem tell_len6 (l : List (RowD × Int)) : (tellR l).1.length ≤ l.length := by
  induction l with
  | nil => exact Nat.le_refl _
  | cons x l ih => unfold tellR; split <;> simp; omega
theorem rows_len6 (s : ByteArray) : (rowsS s).1.length ≤ s.size + 3 := by
  unfold rowsS
  split
  · simp
  · have h1 := tell_len6 (eachR startW (readS s).1)
    have h2 := each_len startW (readS s).1
    have h3 : ∀ l : List (Nat × Nat × Nat), (rdS s l).1.length ≤ l.length := by
      intro l
      induction l with
      | nil => simp [rdS]
      | cons x l ih => unfold rdS; split <;> simp <;> omega
    have h4 := h3 (linesL s)
    have h5 : (linesL s).length ≤ (extsL s).length := (List.takeWhile_sublist _).length_le
    have h6 := exts_len s
    have h7 : (readS s).1.length = (rdS s (linesL s)).1.length := rfl
    omega
theorem rd_no (s : ByteArray) : ∀ (l : List (Nat × Nat × Nat)), (rdS s l).2 = none → ∀ d ∈ (rdS s l).1, ∃ x ∈ l, d.no = (x.1 : Int)
  | [], _, d, hd => by simp [rdS] at hd
  | x :: l, h, d, hd => by
    unfold rdS at h hd
    split at h
    · rename_i hx
      rw [if_pos hx] at hd
      rcases List.mem_cons.1 hd with rfl | hd
      · exact ⟨x, by simp, scan_number _ _ hx⟩
      · obtain ⟨y, hy, e⟩ := rd_no s l h d hd
        exact ⟨y, by simp [hy], e⟩
    · cases h
theorem rd_bno (s : ByteArray) : ∀ (l : List (Nat × Nat × Nat)) (no : Nat) (c : Int), (rdS s l).2 = some (no, c) → ∃ x ∈ l, x.1 = no
  | [], no, c, h => by cases h
  | x :: l, no, c, h => by
    unfold rdS at h
    split at h
    · obtain ⟨y, hy, e⟩ := rd_bno s l no c h
      exact ⟨y, by simp [hy], e⟩
    · exact ⟨x, by simp, congrArg Prod.fst (Option.some.inj h)⟩
theorem rows_num {s : ByteArray} {no c : Int} (h : (rowsS s).2 = some (no, c)) : 0 ≤ no ∧ no ≤ (s.size : Int) + 1 := by
  have hb : ∀ x ∈ linesL s, x.1 ≤ s.size + 1 := fun x hx => (lines_mem s x hx).2.2.2
  unfold rowsS at h
  cases hr : (readS s).2 with
  | some p =>
    obtain ⟨n, k⟩ := p
    rw [hr] at h
    obtain ⟨x, hx, e⟩ := rd_bno s _ n k hr
    have e2 : (n : Int) = no := congrArg Prod.fst (Option.some.inj h)
    have := hb x hx
    omega
  | none =>
    rw [hr] at h
    obtain ⟨x, hx, hz, e⟩ := tell_some h
    rcases each_bad _ _ x hx hz with ⟨d, hd, e2⟩ | ⟨h', hh, _⟩
    · obtain ⟨y, hy, e3⟩ := rd_no s _ hr d hd
      have := hb y hy
      omega
    · cases hh

set_option maxRecDepth 100000 in
set_option maxHeartbeats 4000000 in
theorem same6_yes (x : RowD) (k : Int) (w : World) :
    Calls Tryz.prog 54 #[rowV x, rowV (wl x k)] w fun e w' => e = .returned (.bool true) ∧ Below w.heap.size w w' := by
  obtain ⟨W1, hW1⟩ : ∃ W1, (w.alloc (.cells (rowC x).toArray 29)).alloc (.cells (rowC (wl x k)).toArray 29) = W1 := ⟨_, rfl⟩
  have b1 : Below w.heap.size w W1 := by rw [← hW1]; exact ((Below.refl _ w).alloc (Nat.le_refl _) _).alloc (by simp) _
  have r1 : RowAt W1 w.heap.size x := by rw [← hW1]; exact (Below.heap_alloc _ _ _ (by simp)).trans (heap_alloc_new w _)
  have r2 : RowAt W1 (w.heap.size + 1) (wl x k) := by
    rw [← hW1]
    have h := heap_alloc_new (w.alloc (.cells (rowC x).toArray 29)) (.cells (rowC (wl x k)).toArray 29)
    rw [World.size_alloc] at h
    exact h
  obtain ⟨W2, hW2⟩ : ∃ W2, W1.setCell ⟨w.heap.size, 0, none⟩ (.int .i64 0) = W2 := ⟨_, rfl⟩
  have q1 : RowAt W2 w.heap.size (wl x 0) := by rw [← hW2]; exact r1.set (r' := wl x 0) 0 _ rfl
  have q2 : RowAt W2 (w.heap.size + 1) (wl x k) := by rw [← hW2]; exact (Below.heap_setCell _ _ _ _ (by simp)).trans r2
  have b2 : Below w.heap.size w W2 := by rw [← hW2]; exact b1.setCell (Nat.le_refl _) _
  obtain ⟨W3, hW3⟩ : ∃ W3, W2.setCell ⟨w.heap.size + 1, 0, none⟩ (.int .i64 0) = W3 := ⟨_, rfl⟩
  have p1 : RowAt W3 w.heap.size (wl x 0) := by rw [← hW3]; exact (Below.heap_setCell _ _ _ _ (by simp)).trans q1
  have p2 : RowAt W3 (w.heap.size + 1) (wl x 0) := by rw [← hW3]; exact q2.set (r' := wl x 0) 0 _ rfl
  have b3 : Below w.heap.size w W3 := by rw [← hW3]; exact b2.setCell (Nat.le_succ _) _
  have c0 := r1.cell (j := 0) rfl
  have f0 := r1.frozen 0
  have c1 := q2.cell (j := 0) rfl
  have f1 := q2.frozen 0
  have x0 := p1.cell (j := 0) rfl
  have x1 := p1.cell (j := 1) rfl
  have x2 := p1.cell (j := 2) rfl
  have x3 := p1.cell (j := 3) rfl
  have x4 := p1.cell (j := 4) rfl
  have x5 := p1.cell (j := 5) rfl
  have x6 := p1.cell (j := 6) rfl
  have x7 := p1.cell (j := 7) rfl
  have x8 := p1.cell (j := 8) rfl
  have y0 := p2.cell (j := 0) rfl
  have y1 := p2.cell (j := 1) rfl
  have y2 := p2.cell (j := 2) rfl
  have y3 := p2.cell (j := 3) rfl
  have y4 := p2.cell (j := 4) rfl
  have y5 := p2.cell (j := 5) rfl
  have y6 := p2.cell (j := 6) rfl
  have y7 := p2.cell (j := 7) rfl
  have y8 := p2.cell (j := 8) rfl
  have B3 := hide b3
  simp only [wl] at *
  clear r1 r2 q1 q2 p1 p2 b1 b2 b3
  go_enter Tryz.func54, Tryz.ntmps54
  go_wp2
  go_ret
  exact ⟨rfl, unhide B3⟩

theorem all2_len {α : Type} {R : α → α → Prop} {l m : List α} (h : All2 R l m) : m.length = l.length := by
  induction h with
  | nil => rfl
  | cons _ _ ih => simp [ih]
theorem all2_at {α : Type} {R : α → α → Prop} {l m : List α} (h : All2 R l m) : ∀ (i : Nat) (x : α), l[i]? = some x → ∃ y, m[i]? = some y ∧ R x y := by
  induction h with
  | nil => intro i x hx; simp at hx
  | cons h1 _ ih =>
    intro i x hx
    cases i with
    | zero => simp at hx; subst hx; exact ⟨_, rfl, h1⟩
    | succ i => exact ih i x (by simpa using hx)

set_option maxRecDepth 100000 in
set_option maxHeartbeats 4000000 in
theorem sameBut_yes (rs ts : List RowD) (a b : Option Addr) (n ca cb : Nat) (w : World) (h2 : All2 OneR rs ts) (hn : rs.length = n) (hnb : n ≤ 1099511627776) (ha : RwMem w a rs) (hb : RwMem w b ts) :
    Calls Tryz.prog 31 #[.slice a n ca, .slice b n cb] w fun e w' => e = .returned (.bool true) ∧ Below w.heap.size w w' := by
  have HA := hide ha
  have HB := hide hb
  have HN := hide hn
  have HAL := hide (all2_at h2)
  clear ha hb hn h2
  have hnn : ((n : Int) != (n : Int)) = false := by simp
  go_enter Tryz.func31, Tryz.ntmps31
  go_wp2
  go_loopw [5] (fun v5 wr => ∃ i : Nat, i ≤ n ∧ v5 = .int .i64 i ∧ Below w.heap.size w wr) (fun v5 _ => n - (RowKit.intOf v5).toNat)
  case atStart => exact ⟨0, Nat.zero_le _, rfl, Below.refl _ _⟩
  case round =>
    obtain ⟨i, hi, rfl, hbw⟩ := hrel
    by_cases hlt : i < n
    · obtain ⟨x, hx⟩ : ∃ x, rs[i]? = some x := ⟨_, List.getElem?_eq_getElem (by rw [unhide HN]; exact hlt)⟩
      obtain ⟨y, hy, k, rfl, _⟩ := unhide HAL i x hx
      obtain ⟨g, off, rfl, hc⟩ := ((unhide HA).below hbw) i x hx
      obtain ⟨g', off', rfl, hd⟩ := ((unhide HB).below hbw) i _ hy
      have HSM := hide (fun V => same6_yes x k V)
      have cx0 := hc 0 _ rfl
      have cx1 := hc 1 _ rfl
      have cx2 := hc 2 _ rfl
      have cx3 := hc 3 _ rfl
      have cx4 := hc 4 _ rfl
      have cx5 := hc 5 _ rfl
      have cx6 := hc 6 _ rfl
      have cx7 := hc 7 _ rfl
      have cx8 := hc 8 _ rfl
      have dx0 := hd 0 _ rfl
      have dx1 := hd 1 _ rfl
      have dx2 := hd 2 _ rfl
      have dx3 := hd 3 _ rfl
      have dx4 := hd 4 _ rfl
      have dx5 := hd 5 _ rfl
      have dx6 := hd 6 _ rfl
      have dx7 := hd 7 _ rfl
      have dx8 := hd 8 _ rfl
      simp only [Nat.add_zero, wl] at *
      have X0 := fun dq os => cell_regrown cx0 dq os
      have X1 := fun dq os => cell_regrown cx1 dq os
      have X2 := fun dq os => cell_regrown cx2 dq os
      have X3 := fun dq os => cell_regrown cx3 dq os
      have X4 := fun dq os => cell_regrown cx4 dq os
      have X5 := fun dq os => cell_regrown cx5 dq os
      have X6 := fun dq os => cell_regrown cx6 dq os
      have X7 := fun dq os => cell_regrown cx7 dq os
      have X8 := fun dq os => cell_regrown cx8 dq os
      have Y0 := fun dq os => cell_regrown dx0 dq os
      have Y1 := fun dq os => cell_regrown dx1 dq os
      have Y2 := fun dq os => cell_regrown dx2 dq os
      have Y3 := fun dq os => cell_regrown dx3 dq os
      have Y4 := fun dq os => cell_regrown dx4 dq os
      have Y5 := fun dq os => cell_regrown dx5 dq os
      have Y6 := fun dq os => cell_regrown dx6 dq os
      have Y7 := fun dq os => cell_regrown dx7 dq os
      have Y8 := fun dq os => cell_regrown dx8 dq os
      have hlt' : (i : Int) < (n : Int) := by omega
      have hq1 : IntKind.i64.wrap ((i : Int) + 1) = (i : Int) + 1 := by rw [IntKind.wrap_i64]; omega
      have HBW := hide hbw
      clear hc hd hx hy hbw
      go_wp2_with fail
      refine wp_region_quiet_below (by kernel_rfl) (by kernel_rfl) ?_
      repeat (go_big_quiet_step (first | (go_at_call 54; with_reducible exact Calls.regrown_of (unhide HSM _))))
      refine wpQuiet_nil ?_
      intro _ hw'
      obtain ⟨⟨dq, osq⟩, hw''⟩ := hw'
      subst hw''
      have hb3 : Below wr.heap.size wr (Sort.grow (redrawn wr dq) osq) := below_regrown wr dq osq
      have hb4 := (unhide HBW).trans (hb3.mono (unhide HBW).size)
      generalize Sort.grow (redrawn wr dq) osq = w3 at hb4 ⊢
      simp only [Exit.then]
      clear X0 X1 X2 X3 X4 X5 X6 X7 X8 Y0 Y1 Y2 Y3 Y4 Y5 Y6 Y7 Y8 hb3
      go_wp2
      go_roundw
      case rel => exact ⟨i + 1, by omega, by go_num, hb4⟩
      case measure => simp [RowKit.intOf]; omega
    · obtain rfl : i = n := by omega
      go_wp2
      go_ret
      exact ⟨rfl, hbw⟩
end Go.Proofs.YthjnkagepooeiaaGreatDoor
/-
  The rows of lines, told piece by piece: what is told, and how far the walk has come.
-/
namespace Go.Proofs.YthjnkagepooeiaaGreatDoor
open Go.RowKit Go.PlainAid Go.Lib Go.PHexM
set_option linter.unusedVariables false
set_option linter.unusedSimpArgs false

/-- what the lines tell, and the walk behind them -/
def runR : WalkD → List LineD → List (RowD × Int) × WalkD
  | st, [] => ([], st)
  | st, d :: ds => ((stepR st d).1 ++ (runR (stepR st d).2 ds).1, (runR (stepR st d).2 ds).2)
theorem each_run (st : WalkD) (ds : List LineD) : eachR st ds = (runR st ds).1 ++ lastR (runR st ds).2 := by
  induction ds generalizing st with
  | nil => rfl
  | cons d ds ih =>
    show (stepR st d).1 ++ eachR (stepR st d).2 ds = _
    rw [ih]
    show _ = (stepR st d).1 ++ (runR (stepR st d).2 ds).1 ++ lastR (runR (stepR st d).2 ds).2
    rw [List.append_assoc]
theorem run_app (st : WalkD) (ds es : List LineD) : runR st (ds ++ es) = ((runR st ds).1 ++ (runR (runR st ds).2 es).1, (runR (runR st ds).2 es).2) := by
  induction ds generalizing st with
  | nil => rfl
  | cons d ds ih =>
    show ((stepR st d).1 ++ (runR (stepR st d).2 (ds ++ es)).1, (runR (stepR st d).2 (ds ++ es)).2) = _
    rw [ih]
    show _ = ((stepR st d).1 ++ (runR (stepR st d).2 ds).1 ++ (runR (runR (stepR st d).2 ds).2 es).1, _)
    rw [List.append_assoc]
    rfl
/-- no line was wrong: every tell is a row -/
theorem tell_noneB {l : List (RowD × Int)} (h : (tellR l).2 = none) : (∀ x ∈ l, x.2 = 0) ∧ (tellR l).1 = l.map (·.1) := by
  induction l with
  | nil => exact ⟨fun x hx => by simp at hx, rfl⟩
  | cons a l ih =>
    unfold tellR at h ⊢
    split at h
    · rename_i ha
      obtain ⟨h1, h2⟩ := ih h
      refine ⟨fun x hx => ?_, by rw [if_pos ha]; simp [h2]⟩
      rcases List.mem_cons.1 hx with rfl | hx
      · exact ha
      · exact h1 x hx
    · cases h
theorem ask_partsB {st : WalkD} {d : LineD} (h : askE st d = 0) : (scanR d).2 = 0 ∧ nameE (heldK st == 1) (whichR d == 2) ((plainR d).name == (heldRow st).name) = 0 ∧ ¬ (plainR d).first ≤ st.above := by
  unfold askE at h
  have e0 : stepE st d 0 = (scanR d).2 := rfl
  have e1 : stepE st d 1 = nameE (heldK st == 1) (whichR d == 2) ((plainR d).name == (heldRow st).name) := rfl
  have e2 : stepE st d 2 = if (plainR d).first ≤ st.above then 62 else 0 := rfl
  rw [e0, e1, e2] at h
  split at h
  · rename_i h1; exact absurd h h1
  · rename_i h1
    split at h
    · rename_i h2; exact absurd h h2
    · rename_i h2
      refine ⟨by simpa using h1, by simpa using h2, fun h3 => ?_⟩
      rw [if_pos h3] at h
      simp at h
theorem ask_free {a a0 : Int} {d : LineD} (h : askE ⟨a0, none⟩ d = 0) (ha : a < (plainR d).first) : askE ⟨a, none⟩ d = 0 := by
  have hp := (ask_partsB h).2.2
  have e : ∀ b, ¬ (plainR d).first ≤ b → askE ⟨b, none⟩ d = (if stepE ⟨a0, none⟩ d 0 ≠ 0 then stepE ⟨a0, none⟩ d 0 else if stepE ⟨a0, none⟩ d 1 ≠ 0 then stepE ⟨a0, none⟩ d 1 else stepE ⟨a0, none⟩ d 3) := fun b hb => by
    unfold askE
    have e2 : stepE ⟨b, none⟩ d 2 = 0 := by show (if (plainR d).first ≤ b then (62 : Int) else 0) = 0; rw [if_neg hb]
    have e0 : stepE ⟨b, none⟩ d 0 = stepE ⟨a0, none⟩ d 0 := rfl
    have e1 : stepE ⟨b, none⟩ d 1 = stepE ⟨a0, none⟩ d 1 := rfl
    have e3 : stepE ⟨b, none⟩ d 3 = stepE ⟨a0, none⟩ d 3 := rfl
    rw [e0, e1, e2, e3]
    simp
  rw [e a (by omega), ← e a0 hp]
  exact h
theorem plain_point {d : LineD} (h : (scanR d).2 = 0) : (plainR d).last = (plainR d).first := by
  obtain ⟨n, _, h1, h2⟩ := scan_first h
  show (scanR d).1.last = (scanR d).1.first
  rw [h1, h2]
theorem step_cases (st : WalkD) (d : LineD) : stepR st d = ([], st) ∨ (∃ e, e ≠ 0 ∧ stepR st d = ([({ zeroR with line := d.no }, e)], st)) ∨
    (¬ (d.kind = 0 ∨ d.kind = 3) ∧ askE st d = 0 ∧ whichR d = 1 ∧ stepR st d = ([], ⟨(plainR d).first, some (d, plainR d)⟩)) ∨
    (¬ (d.kind = 0 ∨ d.kind = 3) ∧ askE st d = 0 ∧ whichR d = 2 ∧ stepR st d = ([({ heldRow st with last := (plainR d).last }, 0)], ⟨(plainR d).first, none⟩)) ∨
    (¬ (d.kind = 0 ∨ d.kind = 3) ∧ askE st d = 0 ∧ whichR d ≠ 1 ∧ whichR d ≠ 2 ∧ stepR st d = ([(plainR d, 0)], ⟨(plainR d).first, st.held⟩)) := by
  unfold stepR
  by_cases h0 : d.kind = 0 ∨ d.kind = 3
  · rw [if_pos h0]; exact .inl rfl
  · rw [if_neg h0]
    by_cases h1 : askE st d = 0
    · rw [if_neg (by simp [h1])]
      by_cases h2 : whichR d = 1
      · rw [if_pos h2]; exact .inr (.inr (.inl ⟨h0, h1, h2, rfl⟩))
      · rw [if_neg h2]
        by_cases h3 : whichR d = 2
        · rw [if_pos h3]; exact .inr (.inr (.inr (.inl ⟨h0, h1, h3, rfl⟩)))
        · rw [if_neg h3]; exact .inr (.inr (.inr (.inr ⟨h0, h1, h2, h3, rfl⟩)))
    · rw [if_pos h1]; exact .inr (.inl ⟨_, h1, rfl⟩)
theorem run_cons (st : WalkD) (d : LineD) (ds : List LineD) : runR st (d :: ds) = ((stepR st d).1 ++ (runR (stepR st d).2 ds).1, (runR (stepR st d).2 ds).2) := rfl
/-- a First that is held is told of in the end -/
theorem held_tells (ds : List LineD) : ∀ (f : Int) (h : LineD × RowD), eachR ⟨f, some h⟩ ds ≠ [] := by
  induction ds with
  | nil => intro f h e; cases e
  | cons d ds ih =>
    intro f h e
    have e' : (stepR ⟨f, some h⟩ d).1 ++ eachR (stepR ⟨f, some h⟩ d).2 ds = [] := e
    rcases step_cases ⟨f, some h⟩ d with s | ⟨c, _, s⟩ | ⟨_, _, _, s⟩ | ⟨_, _, _, s⟩ | ⟨_, _, _, _, s⟩
    · rw [s] at e'; exact ih f h e'
    · rw [s] at e'; cases e'
    · rw [s] at e'; exact ih _ _ e'
    · rw [s] at e'; cases e'
    · rw [s] at e'; cases e'
theorem none_told (ds : List LineD) : ∀ b : Int, eachR ⟨b, none⟩ ds = [] → runR ⟨b, none⟩ ds = ([], ⟨b, none⟩) := by
  induction ds with
  | nil => intro b _; rfl
  | cons d ds ih =>
    intro b e
    have e' : (stepR ⟨b, none⟩ d).1 ++ eachR (stepR ⟨b, none⟩ d).2 ds = [] := e
    rw [run_cons]
    rcases step_cases ⟨b, none⟩ d with s | ⟨c, _, s⟩ | ⟨_, _, _, s⟩ | ⟨_, _, _, s⟩ | ⟨_, _, _, _, s⟩
    · rw [s] at e' ⊢; rw [ih b e']; rfl
    · rw [s] at e'; cases e'
    · rw [s] at e'; exact absurd e' (held_tells ds _ _)
    · rw [s] at e'; cases e'
    · rw [s] at e'; cases e'
theorem run_held (ds : List LineD) : ∀ (f : Int) (h : LineD × RowD) (x : RowD), eachR ⟨f, some h⟩ ds = [(x, 0)] → x.first = h.2.first ∧ runR ⟨f, some h⟩ ds = ([(x, 0)], ⟨x.last, none⟩) := by
  induction ds with
  | nil =>
    intro f h x e
    have : (61 : Int) = 0 := congrArg Prod.snd (List.cons.inj e).1
    cases this
  | cons d ds ih =>
    intro f h x e
    have e' : (stepR ⟨f, some h⟩ d).1 ++ eachR (stepR ⟨f, some h⟩ d).2 ds = [(x, 0)] := e
    rw [run_cons]
    rcases step_cases ⟨f, some h⟩ d with s | ⟨c, hc, s⟩ | ⟨_, hz, h1, s⟩ | ⟨_, hz, h2, s⟩ | ⟨_, hz, h1, h2, s⟩
    · rw [s] at e' ⊢
      obtain ⟨k1, k2⟩ := ih f h x e'
      exact ⟨k1, by rw [k2]; rfl⟩
    · rw [s] at e'
      exact absurd (congrArg Prod.snd (List.cons.inj e').1) hc
    · have := (ask_partsB hz).2.1
      rw [h1] at this
      simp [nameE, heldK] at this
    · rw [s] at e' ⊢
      obtain ⟨k1, k2⟩ := List.cons.inj e'
      have hx : x = { h.2 with last := (plainR d).last } := (congrArg Prod.fst k1).symm
      have hn := none_told ds _ k2
      refine ⟨by rw [hx], ?_⟩
      rw [hn, hx]
      refine Prod.ext rfl ?_
      show WalkD.mk (plainR d).first none = WalkD.mk (plainR d).last none
      rw [plain_point (ask_partsB hz).1]
    · have := (ask_partsB hz).2.1
      have h2' : (whichR d == 2) = false := by simp [h2]
      rw [h2'] at this
      simp [nameE, heldK] at this
/-- the lines of one row, told behind any row that lies below it -/
theorem run_one (ds : List LineD) : ∀ (a0 a : Int) (x : RowD), eachR ⟨a0, none⟩ ds = [(x, 0)] → a < x.first → runR ⟨a, none⟩ ds = ([(x, 0)], ⟨x.last, none⟩) := by
  induction ds with
  | nil => intro a0 a x e; cases e
  | cons d ds ih =>
    intro a0 a x e ha
    have e' : (stepR ⟨a0, none⟩ d).1 ++ eachR (stepR ⟨a0, none⟩ d).2 ds = [(x, 0)] := e
    rw [run_cons]
    by_cases h0 : d.kind = 0 ∨ d.kind = 3
    · have s : ∀ st, stepR st d = ([], st) := fun st => by unfold stepR; rw [if_pos h0]
      rw [s] at e' ⊢
      rw [ih a0 a x e' ha]
      rfl
    rcases step_cases ⟨a0, none⟩ d with s | ⟨c, hc, s⟩ | ⟨_, hz, h1, s⟩ | ⟨_, hz, h2, s⟩ | ⟨_, hz, h1, h2, s⟩
    · exfalso
      unfold stepR at s
      rw [if_neg h0] at s
      by_cases k1 : askE ⟨a0, none⟩ d = 0
      · rw [if_neg (by simp [k1])] at s
        by_cases k2 : whichR d = 1
        · rw [if_pos k2] at s; have := congrArg (fun z => z.2.held.isSome) s; simp at this
        · rw [if_neg k2] at s
          by_cases k3 : whichR d = 2
          · rw [if_pos k3] at s; have := congrArg (fun z => z.1.length) s; simp at this
          · rw [if_neg k3] at s; have := congrArg (fun z => z.1.length) s; simp at this
      · rw [if_pos k1] at s; have := congrArg (fun z => z.1.length) s; simp at this
    · rw [s] at e'
      exact absurd (congrArg Prod.snd (List.cons.inj e').1) hc
    · rw [s] at e'
      obtain ⟨k1, k2⟩ := run_held ds _ _ x e'
      have hz2 := ask_free hz (show a < (plainR d).first by have : x.first = (plainR d).first := k1; omega)
      have s2 : stepR ⟨a, none⟩ d = ([], ⟨(plainR d).first, some (d, plainR d)⟩) := by unfold stepR; rw [if_neg h0, if_neg (by simp [hz2]), if_pos h1]
      rw [s2, k2]
      rfl
    · have := (ask_partsB hz).2.1
      rw [h2] at this
      simp [nameE, heldK] at this
    · rw [s] at e'
      obtain ⟨k1, k2⟩ := List.cons.inj e'
      have hx : x = plainR d := (congrArg Prod.fst k1).symm
      have hz2 := ask_free hz (show a < (plainR d).first by rw [← hx]; exact ha)
      have s2 : stepR ⟨a, none⟩ d = ([(plainR d, 0)], ⟨(plainR d).first, none⟩) := by unfold stepR; rw [if_neg h0, if_neg (by simp [hz2]), if_neg h1, if_neg h2]
      rw [s2]
      have k2' : eachR ⟨(plainR d).first, none⟩ ds = [] := k2
      rw [none_told ds _ k2', hx, plain_point (ask_partsB hz).1]
      rfl
end Go.Proofs.YthjnkagepooeiaaGreatDoor
/-
  Texts one behind the other: what is read of them.
-/
namespace Go.Proofs.YthjnkagepooeiaaGreatDoor
open Go.RowKit Go.PlainAid Go.Lib Go.PHexM
set_option linter.unusedVariables false
set_option linter.unusedSimpArgs false

theorem read_none {s : ByteArray} (h : (readS s).2 = none) : ∀ x ∈ linesL s, (scanX s x).2 = 0 := by
  rcases rd_cases s (linesL s) with hok | ⟨p, x, r, hp, h1, h2⟩
  · exact hok
  · have : (readS s).2 = some (x.1, (scanX s x).2) := by
      show (rdS s (linesL s)).2 = _
      rw [hp]; exact rd_bad s p r x h1 h2
    rw [this] at h; cases h
theorem read_all {s : ByteArray} (h : ∀ x ∈ linesL s, (scanX s x).2 = 0) : readS s = ((linesL s).map fun x => (scanX s x).1, none) := rd_ok s _ h
/-- two texts, the first of which ends in a line's end, are read one behind the other -/
theorem read_join (a b : ByteArray) (h0 : 0 < a.size) (hl : bN a (a.size - 1) = 10) (hm : markN b = 0) (ha : (readS a).2 = none) (hb : (readS b).2 = none) :
    readS (a ++ b) = ((readS a).1 ++ (readS b).1.map (fun d => withNo d (d.no + ((linesL a).length : Int))), none) := by
  have ka := read_none ha
  have kb := read_none hb
  have e := lines_app a b h0 hl hm
  have hall : ∀ x ∈ linesL (a ++ b), (scanX (a ++ b) x).2 = 0 := by
    intro x hx
    rw [e] at hx
    rcases List.mem_append.1 hx with hx | hx
    · rw [scanX_first a b x hx]; exact ka x hx
    · obtain ⟨y, hy, rfl⟩ := List.mem_map.1 hx
      rw [(scanX_second a b _ y).1]; exact kb y hy
  have e1 : (linesL a).map (fun x => (scanX (a ++ b) x).1) = (linesL a).map fun x => (scanX a x).1 := List.map_congr_left fun x hx => by rw [scanX_first a b x hx]
  have e2 : ((linesL b).map (shiftL (linesL a).length a.size)).map (fun x => (scanX (a ++ b) x).1) = ((linesL b).map fun x => (scanX b x).1).map (fun d => withNo d (d.no + ((linesL a).length : Int))) := by
    rw [List.map_map, List.map_map]
    refine List.map_congr_left fun y hy => ?_
    simp only [Function.comp_apply]
    rw [(scanX_second a b _ y).2 (kb y hy), ln_no b y (kb y hy), Int.natCast_add]
  rw [read_all hall, read_all ka, read_all kb, e, List.map_append, e1, e2]
theorem told_above (ds : List LineD) : ∀ (a0 : Int) (x : RowD), eachR ⟨a0, none⟩ ds = [(x, 0)] → a0 < x.first := by
  induction ds with
  | nil => intro a0 x e; cases e
  | cons d ds ih =>
    intro a0 x e
    have e' : (stepR ⟨a0, none⟩ d).1 ++ eachR (stepR ⟨a0, none⟩ d).2 ds = [(x, 0)] := e
    rcases step_cases ⟨a0, none⟩ d with s | ⟨c, hc, s⟩ | ⟨_, hz, h1, s⟩ | ⟨_, hz, h2, s⟩ | ⟨_, hz, h1, h2, s⟩
    · rw [s] at e'; exact ih a0 x e'
    · rw [s] at e'; exact absurd (congrArg Prod.snd (List.cons.inj e').1) hc
    · rw [s] at e'
      have k := (run_held ds _ _ x e').1
      have hp := (ask_partsB hz).2.2
      have k' : x.first = (plainR d).first := k
      have hp' : ¬ (plainR d).first ≤ a0 := hp
      omega
    · have := (ask_partsB hz).2.1
      rw [h2] at this
      simp [nameE, heldK] at this
    · rw [s] at e'
      have hx : x = plainR d := (congrArg Prod.fst (List.cons.inj e').1).symm
      have hp' : ¬ (plainR d).first ≤ a0 := (ask_partsB hz).2.2
      rw [hx]; omega
theorem ins_shift (ds : List LineD) : InsD ds (ds.map fun d => withNo d (d.no + 1)) := by
  induction ds with
  | nil => exact .nil
  | cons d ds ih => exact .cons ⟨_, rfl, .inr rfl⟩ ih
theorem shift_one {ds : List LineD} {x : RowD} (h : eachR startW ds = [(x, 0)]) : ∃ x', eachR startW (ds.map fun d => withNo d (d.no + 1)) = [(x', 0)] ∧ ∃ k, x' = wl x k := by
  have := each_rel (ins_shift ds) (s := startW) (t := startW) ⟨rfl, trivial⟩
  rw [h] at this
  generalize eachR startW (ds.map fun d => withNo d (d.no + 1)) = m at this
  cases this with
  | cons hr hn =>
    cases hn
    rename_i y
    obtain ⟨e, k, hk, _⟩ := hr
    obtain ⟨y1, y2⟩ := y
    simp only at e hk
    exact ⟨y1, by rw [e], k, hk⟩
theorem shift_many (n : Nat) {ds : List LineD} {x : RowD} (h : eachR startW ds = [(x, 0)]) : ∃ x', eachR startW (ds.map fun d => withNo d (d.no + (n : Int))) = [(x', 0)] ∧ ∃ k, x' = wl x k := by
  induction n with
  | zero =>
    refine ⟨x, ?_, x.line, rfl⟩
    have : (ds.map fun d => withNo d (d.no + ((0 : Nat) : Int))) = ds := by
      conv => rhs; rw [← List.map_id ds]
      exact List.map_congr_left fun d _ => by show withNo d (d.no + 0) = d; rw [Int.add_zero]; rfl
    rw [this]; exact h
  | succ n ih =>
    obtain ⟨x1, h1, k1, rfl⟩ := ih
    obtain ⟨x2, h2, k2, rfl⟩ := shift_one h1
    refine ⟨_, ?_, k2, rfl⟩
    rw [List.map_map] at h2
    refine Eq.trans ?_ (show _ = [(wl x k2, 0)] from h2)
    congr 1
    refine List.map_congr_left fun d _ => ?_
    simp only [Function.comp_apply]
    have e1 : (withNo d (d.no + (n : Int))).no = d.no + (n : Int) := rfl
    have e2 : ∀ k m, withNo (withNo d k) m = withNo d m := fun _ _ => rfl
    rw [e1, e2]
    congr 1
    omega
end Go.Proofs.YthjnkagepooeiaaGreatDoor
/-
  What is printed is read as it was, but for the lines' numbers.
-/
namespace Go.Proofs.YthjnkagepooeiaaGreatDoor
open Go.RowKit Go.PlainAid Go.Lib Go.PHexM Go.Shelf Go.Sort
set_option linter.unusedVariables false
set_option linter.unusedSimpArgs false

theorem line_end (r : RowD) (nm : ByteArray) (x : Int) : 0 < (lineT r nm x).size ∧ bN (lineT r nm x) ((lineT r nm x).size - 1) = 10 := by
  unfold lineT
  generalize shT x ++ ⟨#[59]⟩ ++ nm ++ ⟨#[59]⟩ ++ S r.cat ++ ⟨#[59]⟩ ++ combT r.comb ++ ⟨#[59]⟩ ++ shortS r.cls ++ ⟨#[59]⟩ ++ twinT r.twin ++ ⟨#[59, 59, 59, 59]⟩ ++ flagT r.mir = X
  have e : (X ++ (⟨#[59, 59, 59, 59, 59, 10]⟩ : ByteArray)).size = X.size + 6 := by rw [app_size]; rfl
  refine ⟨by omega, ?_⟩
  rw [e, show X.size + 6 - 1 = X.size + 5 by omega, bN_ge_app X _ 5 (by decide)]
  rfl
theorem dgt_small (r : Nat) (h : r < 16) : (dgt r).toNat < 128 := by
  have key : ∀ m : Nat, m < 16 → (dgt m).toNat < 128 := by decide +kernel
  exact key r h
theorem sh_head (x : Int) (h : 0 < (shT x).size) : bN (shT x) 0 < 128 := by
  unfold shT at h ⊢
  split
  · have hs : 0 < showLen x.toNat := by unfold showLen; (repeat' split) <;> omega
    obtain ⟨k, hk⟩ : ∃ k, showLen x.toNat = k + 1 := ⟨showLen x.toNat - 1, by omega⟩
    rw [hk, ← hexS_succ, bN_lt_app _ _ _ (by show 0 < 1; decide)]
    exact dgt_small _ (Nat.mod_lt _ (by decide))
  · rename_i hn
    rw [if_neg hn] at h
    exact absurd h (by decide)
theorem line_head (r : RowD) (nm : ByteArray) (x : Int) : bN (lineT r nm x) 0 < 128 := by
  have hb : 0 < (shT x ++ (⟨#[59]⟩ : ByteArray)).size ∧ bN (shT x ++ (⟨#[59]⟩ : ByteArray)) 0 < 128 := by
    have e : (shT x ++ (⟨#[59]⟩ : ByteArray)).size = (shT x).size + 1 := by rw [app_size]; rfl
    refine ⟨by omega, ?_⟩
    by_cases h : 0 < (shT x).size
    · rw [bN_lt_app _ _ _ h]; exact sh_head x h
    · have := bN_ge_app (shT x) (⟨#[59]⟩ : ByteArray) 0 (by decide)
      rw [show (shT x).size + 0 = 0 by omega] at this
      rw [this]; decide
  have step : ∀ (X Y : ByteArray), 0 < X.size ∧ bN X 0 < 128 → 0 < (X ++ Y).size ∧ bN (X ++ Y) 0 < 128 := fun X Y h => ⟨by rw [app_size]; omega, by rw [bN_lt_app _ _ _ h.1]; exact h.2⟩
  unfold lineT
  exact (step _ _ (step _ _ (step _ _ (step _ _ (step _ _ (step _ _ (step _ _ (step _ _ (step _ _ (step _ _ (step _ _ (step _ _ hb)))))))))))).2
theorem one_end (r : RowD) : 0 < (oneT r).size ∧ bN (oneT r) ((oneT r).size - 1) = 10 ∧ markN (oneT r) = 0 := by
  have hm : ∀ s : ByteArray, bN s 0 < 128 → markN s = 0 := fun s h => by rw [markN_eq, if_neg (by omega)]
  unfold oneT
  split
  · exact ⟨(line_end _ _ _).1, (line_end _ _ _).2, hm _ (line_head _ _ _)⟩
  · have h1 := line_end r (halfT r.name firstE) r.first
    have h2 := line_end r (halfT r.name lastE) r.last
    refine ⟨by rw [app_size]; omega, ?_, hm _ ?_⟩
    · rw [app_size, show (lineT r (halfT r.name firstE) r.first).size + (lineT r (halfT r.name lastE) r.last).size - 1 = (lineT r (halfT r.name firstE) r.first).size + ((lineT r (halfT r.name lastE) r.last).size - 1) by omega, bN_ge_app _ _ _ (by omega)]
      exact h2.2
    · rw [bN_lt_app _ _ _ h1.1]; exact line_head _ _ _
theorem ok_parts {r : RowD} {T : ByteArray} (h : okR r T = true) : ∃ x, (readS T).2 = none ∧ eachR startW (readS T).1 = [(x, 0)] ∧ x = { r with line := x.line } := by
  unfold okR at h
  split at h
  · rename_i x e
    refine ⟨x, ?_⟩
    unfold rowsS at e
    split at e
    · cases e
    · rename_i hn
      have h2 : (tellR (eachR startW (readS T).1)).2 = none := by rw [e]
      obtain ⟨k1, k2⟩ := tell_noneB h2
      rw [e] at k2
      refine ⟨hn, ?_, of_decide_eq_true h⟩
      match hl : eachR startW (readS T).1, k2, k1 with
      | [], k2, _ => cases k2
      | [y], k2, k1 =>
        obtain ⟨y1, y2⟩ := y
        have : x = y1 := (List.cons.inj k2).1
        have h0 : y2 = 0 := k1 (y1, y2) (by simp)
        rw [this, h0]
      | y :: z :: l, k2, _ => cases (List.cons.inj k2).2
  · cases h
end Go.Proofs.YthjnkagepooeiaaGreatDoor
/-
  What is printed is read as it was, but for the lines' numbers: the rows.
-/
namespace Go.Proofs.YthjnkagepooeiaaGreatDoor
open Go.RowKit Go.PlainAid Go.Lib Go.PHexM Go.Shelf Go.Sort
set_option linter.unusedVariables false
set_option linter.unusedSimpArgs false

/-- the same row, but for its line -/
def ButL (x y : RowD) : Prop := ∃ k : Int, y = wl x k
theorem wl_eq {x r : RowD} (h : x = { r with line := x.line }) : r = wl x r.line := by
  rw [h]; rfl
/-- how far the text of the first rows is read -/
structure BackAt (rs : List RowD) (i : Nat) (T : ByteArray) : Prop where
  long : 0 < T.size
  last : bN T (T.size - 1) = 10
  read : (readS T).2 = none
  run : ∃ ys : List RowD, runR startW (readS T).1 = (ys.map (fun y => (y, (0 : Int))), ⟨((rs[i - 1]?).getD zeroR).last, none⟩) ∧ All2 ButL ys (rs.take i)
theorem All2.snoc {α : Type} {R : α → α → Prop} {a b : List α} {x y : α} (h : All2 R a b) (k : R x y) : All2 R (a ++ [x]) (b ++ [y]) := h.app (.cons k .nil)
theorem back_first {rs : List RowD} {r : RowD} (hx : rs[0]? = some r) (ho : okR r (oneT r) = true) : BackAt rs 1 (oneT r) := by
  obtain ⟨e1, e2, e3⟩ := one_end r
  obtain ⟨x, h1, h2, h3⟩ := ok_parts ho
  have hr := run_one (readS (oneT r)).1 (-1) (-1) x h2 (told_above _ _ _ h2)
  refine ⟨e1, e2, h1, [x], ?_, ?_⟩
  · have hl : x.last = r.last := by rw [h3]
    show runR startW _ = ([(x, 0)], ⟨((rs[0]?).getD zeroR).last, none⟩)
    rw [hx]
    show runR ⟨-1, none⟩ _ = ([(x, 0)], ⟨r.last, none⟩)
    rw [hr, hl]
  · have ht : rs.take 1 = [r] := by
      cases rs with
      | nil => cases hx
      | cons a l => have : a = r := Option.some.inj hx; rw [this]; rfl
    rw [ht]
    exact .cons ⟨r.line, wl_eq h3⟩ .nil
theorem back_next {rs : List RowD} {i : Nat} {T : ByteArray} {r : RowD} (h : BackAt rs i T) (hi : 0 < i) (hx : rs[i]? = some r) (ho : okR r (oneT r) = true) (hf : ((rs[i - 1]?).getD zeroR).last < r.first) : BackAt rs (i + 1) (T ++ oneT r) := by
  obtain ⟨e1, e2, e3⟩ := one_end r
  obtain ⟨x, h1, h2, h3⟩ := ok_parts ho
  obtain ⟨ys, hy, ha⟩ := h.run
  have hj := read_join T (oneT r) h.long h.last e3 h.read h1
  obtain ⟨x', g1, k, rfl⟩ := shift_many (linesL T).length h2
  have hfx : x.first = r.first := by rw [h3]
  have hlx : x.last = r.last := by rw [h3]
  have hr := run_one _ (-1) ((rs[i - 1]?).getD zeroR).last (wl x k) g1 (by show _ < x.first; rw [hfx]; exact hf)
  refine ⟨by rw [app_size]; omega, ?_, by rw [hj], ys ++ [wl x k], ?_, ?_⟩
  · rw [app_size, show T.size + (oneT r).size - 1 = T.size + ((oneT r).size - 1) by omega, bN_ge_app _ _ _ (by omega)]
    exact e2
  · rw [hj, run_app, hy]
    show (_ ++ (runR ⟨((rs[i - 1]?).getD zeroR).last, none⟩ _).1, (runR ⟨((rs[i - 1]?).getD zeroR).last, none⟩ _).2) = _
    rw [hr, Nat.add_sub_cancel, hx, List.map_append]
    show (_, WalkD.mk x.last none) = (_, WalkD.mk r.last none)
    rw [hlx]
    rfl
  · have hil := (List.getElem?_eq_some_iff.1 hx).1
    have ht : rs.take (i + 1) = rs.take i ++ [r] := by
      rw [List.take_add_one, hx]; rfl
    rw [ht]
    exact ha.snoc ⟨r.line, wl_eq (x := wl x k) (by rw [h3]; rfl)⟩
theorem back_all {rs : List RowD} (h : chkR rs = 0) : ∀ i, 0 < i → i ≤ rs.length → BackAt rs i (textR rs i)
  | 0, h0, _ => by omega
  | i + 1, _, hl => by
    obtain ⟨r, hx⟩ : ∃ r, rs[i]? = some r := ⟨_, List.getElem?_eq_getElem (by omega)⟩
    have hs := chk_zero h (show i < rs.length by omega)
    have ho := st_ok hx hs
    have ht : textR rs (i + 1) = textR rs i ++ oneT r := by show textR rs i ++ oneT ((rs[i]?).getD zeroR) = _; rw [hx]; rfl
    by_cases h0 : i = 0
    · subst h0
      rw [ht, app_nil_left _ _ (show (textR rs 0).size = 0 from rfl)]
      exact back_first hx ho
    · rw [ht]
      refine back_next (back_all h i (by omega) (by omega)) (by omega) hx ho ?_
      rw [st_at hx, if_neg (by rw [ho]; decide)] at hs
      by_cases hle : 0 < i ∧ r.first ≤ ((rs[i - 1]?).getD zeroR).last
      · rw [if_pos hle] at hs; cases hs
      · omega
theorem rows_empty : rowsS ⟨#[]⟩ = ([], none) := by decide +kernel
/-- what is printed is read as it was -/
theorem back_rows {rs : List RowD} (h : chkR rs = 0) : (rowsS (textR rs rs.length)).2 = none ∧ All2 ButL (rowsS (textR rs rs.length)).1 rs := by
  by_cases h0 : rs.length = 0
  · obtain rfl := List.eq_nil_of_length_eq_zero h0
    show (rowsS ⟨#[]⟩).2 = none ∧ All2 ButL (rowsS ⟨#[]⟩).1 []
    rw [rows_empty]
    exact ⟨rfl, .nil⟩
  · have hb := back_all h rs.length (by omega) (Nat.le_refl _)
    obtain ⟨ys, hy, ha⟩ := hb.run
    rw [List.take_length] at ha
    have e : rowsS (textR rs rs.length) = (ys, none) := by
      unfold rowsS
      rw [hb.read]
      show tellR (eachR startW (readS (textR rs rs.length)).1) = _
      rw [each_run, hy]
      show tellR (ys.map (fun y => (y, (0 : Int))) ++ []) = _
      rw [List.append_nil, tell_ok _ (fun x hx => by obtain ⟨y, _, rfl⟩ := List.mem_map.1 hx; rfl), List.map_map]
      refine Prod.ext ?_ rfl
      show ys.map (Prod.fst ∘ fun y => (y, (0 : Int))) = ys
      conv => rhs; rw [← List.map_id ys]
      exact List.map_congr_left fun _ _ => rfl
    rw [e]
    exact ⟨rfl, ha⟩
end Go.Proofs.YthjnkagepooeiaaGreatDoor
/-
  The law RowsBack, walked.
-/
namespace Go.Proofs.YthjnkagepooeiaaGreatDoor
open Go.RowKit Go.PlainAid Go.Lib Go.PHexM Go.Shelf
set_option linter.unusedVariables false
set_option linter.unusedSimpArgs false

set_option maxRecDepth 100000 in
set_option maxHeartbeats 4000000 in
theorem sameButL_yes (rs ts : List RowD) (a b : Option Addr) (n ca cb : Nat) (w : World) (h2 : All2 ButL rs ts) (hn : rs.length = n) (hnb : n ≤ 1099511627776) (ha : RwMem w a rs) (hb : RwMem w b ts) :
    Calls Tryz.prog 31 #[.slice a n ca, .slice b n cb] w fun e w' => e = .returned (.bool true) ∧ Below w.heap.size w w' := by
  have HA := hide ha
  have HB := hide hb
  have HN := hide hn
  have HAL := hide (all2_at h2)
  clear ha hb hn h2
  have hnn : ((n : Int) != (n : Int)) = false := by simp
  go_enter Tryz.func31, Tryz.ntmps31
  go_wp2
  go_loopw [5] (fun v5 wr => ∃ i : Nat, i ≤ n ∧ v5 = .int .i64 i ∧ Below w.heap.size w wr) (fun v5 _ => n - (RowKit.intOf v5).toNat)
  case atStart => exact ⟨0, Nat.zero_le _, rfl, Below.refl _ _⟩
  case round =>
    obtain ⟨i, hi, rfl, hbw⟩ := hrel
    by_cases hlt : i < n
    · obtain ⟨x, hx⟩ : ∃ x, rs[i]? = some x := ⟨_, List.getElem?_eq_getElem (by rw [unhide HN]; exact hlt)⟩
      obtain ⟨y, hy, k, rfl⟩ := unhide HAL i x hx
      obtain ⟨g, off, rfl, hc⟩ := ((unhide HA).below hbw) i x hx
      obtain ⟨g', off', rfl, hd⟩ := ((unhide HB).below hbw) i _ hy
      have HSM := hide (fun V => same6_yes x k V)
      have cx0 := hc 0 _ rfl
      have cx1 := hc 1 _ rfl
      have cx2 := hc 2 _ rfl
      have cx3 := hc 3 _ rfl
      have cx4 := hc 4 _ rfl
      have cx5 := hc 5 _ rfl
      have cx6 := hc 6 _ rfl
      have cx7 := hc 7 _ rfl
      have cx8 := hc 8 _ rfl
      have dx0 := hd 0 _ rfl
      have dx1 := hd 1 _ rfl
      have dx2 := hd 2 _ rfl
      have dx3 := hd 3 _ rfl
      have dx4 := hd 4 _ rfl
      have dx5 := hd 5 _ rfl
      have dx6 := hd 6 _ rfl
      have dx7 := hd 7 _ rfl
      have dx8 := hd 8 _ rfl
      simp only [Nat.add_zero, wl] at *
      have X0 := fun dq os => cell_regrown cx0 dq os
      have X1 := fun dq os => cell_regrown cx1 dq os
      have X2 := fun dq os => cell_regrown cx2 dq os
      have X3 := fun dq os => cell_regrown cx3 dq os
      have X4 := fun dq os => cell_regrown cx4 dq os
      have X5 := fun dq os => cell_regrown cx5 dq os
      have X6 := fun dq os => cell_regrown cx6 dq os
      have X7 := fun dq os => cell_regrown cx7 dq os
      have X8 := fun dq os => cell_regrown cx8 dq os
      have Y0 := fun dq os => cell_regrown dx0 dq os
      have Y1 := fun dq os => cell_regrown dx1 dq os
      have Y2 := fun dq os => cell_regrown dx2 dq os
      have Y3 := fun dq os => cell_regrown dx3 dq os
      have Y4 := fun dq os => cell_regrown dx4 dq os
      have Y5 := fun dq os => cell_regrown dx5 dq os
      have Y6 := fun dq os => cell_regrown dx6 dq os
      have Y7 := fun dq os => cell_regrown dx7 dq os
      have Y8 := fun dq os => cell_regrown dx8 dq os
      have hlt' : (i : Int) < (n : Int) := by omega
      have hq1 : IntKind.i64.wrap ((i : Int) + 1) = (i : Int) + 1 := by rw [IntKind.wrap_i64]; omega
      have HBW := hide hbw
      clear hc hd hx hy hbw
      go_wp2_with fail
      refine wp_region_quiet_below (by kernel_rfl) (by kernel_rfl) ?_
      repeat (go_big_quiet_step (first | (go_at_call 54; with_reducible exact Calls.regrown_of (unhide HSM _))))
      refine wpQuiet_nil ?_
      intro _ hw'
      obtain ⟨⟨dq, osq⟩, hw''⟩ := hw'
      subst hw''
      have hb3 : Below wr.heap.size wr (Sort.grow (redrawn wr dq) osq) := below_regrown wr dq osq
      have hb4 := (unhide HBW).trans (hb3.mono (unhide HBW).size)
      generalize Sort.grow (redrawn wr dq) osq = w3 at hb4 ⊢
      simp only [Exit.then]
      clear X0 X1 X2 X3 X4 X5 X6 X7 X8 Y0 Y1 Y2 Y3 Y4 Y5 Y6 Y7 Y8 hb3
      go_wp2
      go_roundw
      case rel => exact ⟨i + 1, by omega, by go_num, hb4⟩
      case measure => simp [RowKit.intOf]; omega
    · obtain rfl : i = n := by omega
      go_wp2
      go_ret
      exact ⟨rfl, hbw⟩

def sumR (rs : List RowD) : Nat := (rs.map fun r => r.name.length + r.cat.length).sum
theorem text_sum (rs : List RowD) (hr : ∀ r ∈ rs, RowOk r) : ∀ i, i ≤ rs.length → (textR rs i).size ≤ 140 * i + 2 * sumR (rs.take i)
  | 0, _ => Nat.zero_le _
  | i + 1, h => by
    have ih := text_sum rs hr i (by omega)
    obtain ⟨r, hx⟩ : ∃ r, rs[i]? = some r := ⟨_, List.getElem?_eq_getElem (by omega)⟩
    have ho := hr r (List.mem_of_getElem? hx)
    have := oneT_size r ho.1 ho.2.1
    have ht : rs.take (i + 1) = rs.take i ++ [r] := by rw [List.take_add_one, hx]; rfl
    have hs : sumR (rs.take (i + 1)) = sumR (rs.take i) + (r.name.length + r.cat.length) := by rw [ht]; simp [sumR]
    unfold textR
    rw [hx, ByteArray.size_append, hs]
    show (textR rs i).size + (oneT r).size ≤ _
    omega
set_option maxRecDepth 100000 in
set_option maxHeartbeats 4000000 in
theorem back_walk6 (rs : List RowD) (a : Option Addr) (n c : Nat) (w : World) (hg : Glob w) (ht : tz16At w) (hn : rs.length = n) (hnb : n ≤ 1048576) (hr : ∀ r ∈ rs, RowOk r) (hsum : sumR rs ≤ 1048576) (hm : RwMem w a rs) :
    Calls Tryz.prog 8 #[.slice a n c] w fun e w' => e = .returned (.bool true) ∧ Below w.heap.size w w' := by
  have hz := text_sum rs hr rs.length (Nat.le_refl _)
  rw [List.take_length] at hz
  have HAW := hide (awake6_any w hg)
  have HG := hide hg
  have HT := hide ht
  have HN := hide hn
  have HM := hide hm
  have HRO := hide hr
  clear hg ht hn hm hr
  go_enter Tryz.func8, Tryz.ntmps8
  go_wp2_with fail
  refine (unhide HAW).mono ?_
  rintro e w1 ⟨rfl, hb1⟩
  have B1 := hide hb1
  have HP := hide (print6_any rs a n c w1 ((unhide HG).below hb1) (tz16_below (unhide HT) hb1) (unhide HN) (by omega) (unhide HRO) ((unhide HM).below hb1))
  obtain ⟨PT, hPT⟩ : ∃ PT, printT rs = PT := ⟨_, rfl⟩
  obtain ⟨CT, hCT⟩ : ∃ CT, chkR rs = CT := ⟨_, rfl⟩
  rw [hPT, hCT] at HP
  have HPT := hide hPT
  have HCT := hide hCT
  clear hb1 hPT hCT HAW
  go_wp2_with fail
  refine (unhide HP).mono ?_
  rintro e w2 ⟨rfl, hb2⟩
  have B2 := hide ((unhide B1).trans (hb2.mono (unhide B1).size))
  clear hb2 HP
  by_cases h0 : CT = 0
  · subst h0
    have hPE : printT rs = textR rs rs.length := by unfold printT; rw [unhide HCT, if_pos rfl]
    obtain ⟨k1, k2⟩ := back_rows (unhide HCT)
    rw [← hPE, unhide HPT] at k1 k2
    have hPs : PT.size ≤ 1073741824 := by rw [← unhide HPT, hPE]; have := unhide HN; omega
    have HR := hide (read6_any ⟨#[120]⟩ PT w2 ((unhide HG).below (unhide B2)) hPs)
    have K1 := hide k1
    have K2 := hide k2
    have hlen := all2_len k2
    rw [unhide HN] at hlen
    have HLN := hide hlen
    clear k1 k2 hPE hPs hlen hz hsum
    go_wp2_with fail
    refine (unhide HR).mono ?_
    rintro e w3 ⟨hb3, (⟨_, v, rfl, ho⟩ | ⟨no, code, fb, hf, _⟩)⟩
    rotate_left
    · rw [unhide K1] at hf; cases hf
    have B3 := hide ((unhide B2).trans (hb3.mono (unhide B2).size))
    obtain ⟨oa, oc, rfl, hoc, hom⟩ := rowsAt_mem ho
    have HS := hide (sameButL_yes _ rs oa a n oc c w3 (unhide K2) (unhide HLN).symm (by omega) hom ((unhide HM).below (unhide B3)))
    rw [← unhide HLN]
    clear ho hom hb3
    go_wp2_with fail
    refine (unhide HS).mono ?_
    rintro e w4 ⟨rfl, hb4⟩
    have hB4 := (unhide B3).trans (hb4.mono (unhide B3).size)
    go_wp2
    go_ret
    exact ⟨rfl, hB4⟩
  · have d0 : (CT != 0) = true := by simpa using h0
    have hPE : PT = ⟨#[]⟩ := by rw [← unhide HPT]; unfold printT; rw [unhide HCT, if_neg h0]
    subst hPE
    have HK := hide (check6_any rs a n c w2 ((unhide HG).below (unhide B2)) (tz16_below (unhide HT) (unhide B2)) (unhide HN) (by omega) (unhide HRO) ((unhide HM).below (unhide B2)))
    rw [unhide HCT] at HK
    clear h0 hz hsum
    go_wp2_with fail
    refine (unhide HK).mono ?_
    rintro e w3 ⟨rfl, hb3⟩
    have hB3 := (unhide B2).trans (hb3.mono (unhide B2).size)
    go_wp2
    go_ret
    exact ⟨rfl, hB3⟩
end Go.Proofs.YthjnkagepooeiaaGreatDoor
/-
  The variables that the row of RowsPrints lists (unicode.CaseRanges is one more): what the condition gives a walk, and a world that meets it.
-/
namespace Go.Proofs.YthjnkagepooeiaaGreatDoor
open Go.ChangeShapes Go.WideShapes Go.ChangeAt Go.RowKit
set_option linter.unusedVariables false

abbrev laid7 : List (String × DataW Unit) := Rows.rowsPrintsRow.laid
set_option maxRecDepth 100000 in
theorem glob_of_laid7 {W : World} (h : laidMetH Tryz.prog laid7 W) (hsh : W.ShapedOpen Tryz.prog) : Glob W := by
  refine ⟨size6 hsh, ?_, ?_, maxLen6 hsh, ?_, ?_⟩
  · obtain ⟨ps, ⟨_, _, _, _, _, _, _, _, _, _, ⟨_, _, _, _, _, _, _, _, _, _, ⟨_, _, _, _, _, _, _, _, _, _, ⟨_, _, _, _, _, _, _, _, _, _, ⟨_, _, _, _, _, _, _, _, _, _, ⟨g, t, cs, fuel, p, q, hg, ht, hv, hd, _, _⟩, _⟩, _⟩, _⟩, _⟩, _⟩, _, _⟩ := (laidMetH_iff.1 h).1
    obtain rfl := Option.some.inj ((show Tryz.prog.globalNamed "strconv.ErrSyntax" = some 1 by kernel_rfl).symm.trans hg)
    obtain rfl := Option.some.inj ((show (Tryz.prog.globals[1]?).map (·.type) = some 39 by kernel_rfl).symm.trans ht)
    obtain ⟨_, u, v, e, _, _⟩ := iface_of_trod Tryz.underlying39 hd
    refine ⟨.iface u v, ?_, .inr ⟨_, _, rfl⟩⟩
    rw [World.var?_cell hg hv 0]
    have : cs.toList[0]? = some (.iface u v) := by rw [e]; rfl
    simpa using this
  · obtain ⟨ps, ⟨_, _, _, _, _, _, _, _, _, _, ⟨_, _, _, _, _, _, _, _, _, _, ⟨_, _, _, _, _, _, _, _, _, _, ⟨_, _, _, _, _, _, _, _, _, _, ⟨g, t, cs, fuel, p, q, hg, ht, hv, hd, _, _⟩, _⟩, _⟩, _⟩, _⟩, _, _⟩ := (laidMetH_iff.1 h).1
    obtain rfl := Option.some.inj ((show Tryz.prog.globalNamed "strconv.ErrRange" = some 2 by kernel_rfl).symm.trans hg)
    obtain rfl := Option.some.inj ((show (Tryz.prog.globals[2]?).map (·.type) = some 39 by kernel_rfl).symm.trans ht)
    obtain ⟨_, u, v, e, _, _⟩ := iface_of_trod Tryz.underlying39 hd
    refine ⟨.iface u v, ?_, .inr ⟨_, _, rfl⟩⟩
    rw [World.var?_cell hg hv 0]
    have : cs.toList[0]? = some (.iface u v) := by rw [e]; rfl
    simpa using this
  · obtain ⟨ps, ⟨_, _, _, _, _, _, _, _, _, _, ⟨_, _, _, _, _, _, _, _, _, _, ⟨g, t, cs, fuel, p, q, hg, ht, hv, hd, _, _⟩, _⟩, _⟩, _, _⟩ := (laidMetH_iff.1 h).1
    obtain rfl := Option.some.inj ((show Tryz.prog.globalNamed "internal/strconv.uint64pow10" = some 3 by kernel_rfl).symm.trans hg)
    obtain rfl := Option.some.inj ((show (Tryz.prog.globals[3]?).map (·.type) = some 258 by kernel_rfl).symm.trans ht)
    have := Lib.cells_of_tab (zs := Lib.pow10Tab) (k := .u64) Tryz.underlying258 Tryz.underlying164 (by kernel_rfl) (by kernel_rfl) hd
    unfold Lib.TabIs
    rw [hv, ← this]
  · obtain ⟨name, u, ty, e1, e2, e3, e4, e5⟩ := (laidMetH_iff.1 h).2 (_, Rows.laid_errors_errorType) (List.mem_filter.2 ⟨List.mem_cons_of_mem _ (List.mem_cons_of_mem _ (List.mem_cons_of_mem _ (List.mem_cons_of_mem _ (List.mem_cons_self ..)))), rfl⟩)
    have en : name = [101, 114, 114, 111, 114] := (Option.some.inj e1).symm
    subst en
    obtain rfl := Option.some.inj (rtypeRow6.symm.trans e2)
    have hm : ty ∈ (List.range 326).filter fun t => Tryz.prog.rowNamed t [101, 114, 114, 111, 114] := List.mem_filter.2 ⟨List.mem_range.2 (by rw [← typesSize6]; exact e3), e4⟩
    rw [errorRow6] at hm
    obtain rfl := List.mem_singleton.1 hm
    have hh : typeHandle Tryz.prog 39 = .pointer (some ⟨10, 39, none⟩) := by kernel_rfl
    rw [hh] at e5
    simpa using World.var?_cell errGlobal6 e5 0

abbrev data7 : List (String × DataW Unit) := laid7.filter fun x => x.2.handleName?.isNone
noncomputable def witW7 (os : Os) : World := (baseW6 os).layVars Tryz.prog data7
theorem witW7_os (os : Os) : (witW7 os).os = os := World.layVars_os _ _ _
set_option maxRecDepth 100000 in
theorem tz16_of_laid7 {W : World} (h : laidMetH Tryz.prog laid7 W) : tz16At W := by
  obtain ⟨ps, ⟨_, _, _, _, _, _, _, _, _, _, ⟨g, t, cs, fuel, p, q, hg, ht, hv, hd, _, _⟩, _⟩, _, _⟩ := (laidMetH_iff.1 h).1
  obtain rfl := Option.some.inj ((show Tryz.prog.globalNamed "math/bits.deBruijn64tab" = some 7 by kernel_rfl).symm.trans hg)
  obtain rfl := Option.some.inj ((show (Tryz.prog.globals[7]?).map (·.type) = some 284 by kernel_rfl).symm.trans ht)
  obtain ⟨xs, m, _, ex, _, hl, hel⟩ := DataW.trod_array Tryz.underlying284 hd
  have c5 : Tryz.prog.cellsOf 5 = 1 := by kernel_rfl
  have hE := hel 15 (by omega)
  rw [c5, Nat.mul_one, List.getElem?_eq_getElem (by omega)] at hE
  obtain ⟨z, e1, e2, _⟩ := DataW.trod_int Tryz.underlying5 hE
  have e4 : (xs.map (·.1))[15]? = some (.lit (.int .u8 4)) := by rw [← (DataW.agg.inj (Prod.mk.inj ex).1)]; rfl
  rw [List.getElem?_map, List.getElem?_eq_getElem (by omega : 15 < xs.length), e2] at e4
  have hz : z = 4 := by
    simp only [Option.map_some, Option.some.injEq, DataW.lit.injEq, Lit.int.injEq, true_and] at e4
    exact e4
  unfold tz16At
  rw [World.var?_cell hg hv 15, ← hz]
  have : cs.toList[15]? = some (.int .u8 z) := by
    have h0 : ((cs.toList.drop 15).take 1)[0]? = some (.int .u8 z) := by rw [e1]; rfl
    simpa using h0
  simpa using this

set_option maxRecDepth 100000 in
theorem witW7_met (os : Os) : laidMetH Tryz.prog laid7 ((witW7 os).forCall (fun _ _ => 0) ⟨#[], #[], []⟩).memory :=
  laidMetH_of_parts (laidMet_over6 #[] (by kernel_rfl) (by kernel_rfl)) (by kernel_rfl)
end Go.Proofs.YthjnkagepooeiaaGreatDoor
/-
  What is cut out of a line that was put together of clean fields: the fields. (For RowsAgain, BracketsBack and their like.)
-/
namespace Go.Proofs.YthjnkagepooeiaaGreatDoor
set_option linter.unusedVariables false

def blk8 (b : UInt8) : Prop := b = 32 ∨ b = 9
instance (b : UInt8) : Decidable (blk8 b) := by unfold blk8; infer_instance
/-- what is there of a field, and the blanks behind it, once these bytes have come -/
def wk : List UInt8 → List UInt8 → List UInt8 → List UInt8 × List UInt8
  | cur, pend, [] => (cur, pend)
  | cur, pend, b :: l => if b = 32 ∨ b = 9 then (if cur = [] then wk [] [] l else wk cur (pend ++ [b]) l) else wk (cur ++ pend ++ [b]) [] l
theorem mach_wk (n : Nat) (rest : List UInt8) : ∀ (f cur pend : List UInt8), (∀ b ∈ f, b ≠ 59 ∧ b ≠ 35) → mach n cur pend (f ++ rest) = mach n (wk cur pend f).1 (wk cur pend f).2 rest := by
  intro f
  induction f with
  | nil => intro cur pend _; rfl
  | cons b f ih =>
    intro cur pend h
    have hb := h b (by simp)
    have ht : ∀ x ∈ f, x ≠ 59 ∧ x ≠ 35 := fun x hx => h x (by simp [hx])
    rw [List.cons_append, mach, wk]
    by_cases h1 : b = 32 ∨ b = 9
    · rw [if_pos h1, if_pos h1]
      by_cases h2 : cur = []
      · rw [if_pos h2, if_pos h2]; exact ih _ _ ht
      · rw [if_neg h2, if_neg h2]; exact ih _ _ ht
    · rw [if_neg h1, if_neg hb.1, if_neg hb.2, if_neg h1]; exact ih _ _ ht
theorem wk_append (f g : List UInt8) : ∀ cur pend, wk cur pend (f ++ g) = wk (wk cur pend f).1 (wk cur pend f).2 g := by
  induction f with
  | nil => intro cur pend; rfl
  | cons b f ih =>
    intro cur pend
    rw [List.cons_append, wk, wk]
    by_cases h1 : b = 32 ∨ b = 9
    · rw [if_pos h1, if_pos h1]
      by_cases h2 : cur = []
      · rw [if_pos h2, if_pos h2]; exact ih _ _
      · rw [if_neg h2, if_neg h2]; exact ih _ _
    · rw [if_neg h1, if_neg h1]; exact ih _ _
theorem wk_sum (f : List UInt8) : ∀ cur pend, cur ≠ [] → (wk cur pend f).1 ++ (wk cur pend f).2 = cur ++ pend ++ f := by
  induction f with
  | nil => intro cur pend _; simp [wk]
  | cons b f ih =>
    intro cur pend hc
    rw [wk]
    by_cases h1 : b = 32 ∨ b = 9
    · rw [if_pos h1, if_neg hc, ih _ _ hc]; simp
    · rw [if_neg h1, ih _ _ (by simp)]; simp
/-- a field that Cut tells: without ';' and '#', no blank at either end -/
structure Clean (f : List UInt8) : Prop where
  plain : ∀ b ∈ f, b ≠ 59 ∧ b ≠ 35
  head : ∀ b, f.head? = some b → ¬ blk8 b
  last : ∀ b, f.getLast? = some b → ¬ blk8 b
theorem wk_clean {f : List UInt8} (h : Clean f) : wk [] [] f = (f, []) := by
  cases f with
  | nil => rfl
  | cons b l =>
    have hb : ¬ (b = 32 ∨ b = 9) := h.head b rfl
    rw [wk, if_neg hb]
    show wk [b] [] l = (b :: l, [])
    by_cases hl : l = []
    · subst hl; rfl
    · obtain ⟨m, c, rfl⟩ : ∃ m c, l = m ++ [c] := ⟨l.dropLast, l.getLast hl, (List.dropLast_concat_getLast hl).symm⟩
      have hc : ¬ (c = 32 ∨ c = 9) := h.last c (by rw [← List.cons_append, List.getLast?_concat])
      rw [wk_append]
      have hs := wk_sum m [b] [] (by simp)
      show wk (wk [b] [] m).1 (wk [b] [] m).2 [c] = _
      rw [wk, if_neg hc, hs]
      simp [wk]
theorem mach_clean {f : List UInt8} (h : Clean f) (n : Nat) (rest : List UInt8) : mach n [] [] (f ++ 59 :: rest) = (f :: (mach (n + 1) [] [] rest).1, (mach (n + 1) [] [] rest).2) := by
  rw [mach_wk n _ f [] [] h.plain, wk_clean h]
  show mach n f [] (59 :: rest) = _
  rw [mach, if_neg (by decide), if_pos rfl]
theorem mach_cleanE {f : List UInt8} (h : Clean f) (n : Nat) (hn : 0 < n ∨ f ≠ []) : mach n [] [] f = ([f], []) := by
  have := mach_wk n [] f [] [] h.plain
  rw [List.append_nil, wk_clean h] at this
  rw [this]
  show (lastF n f, []) = _
  unfold lastF
  rw [if_pos hn]
/-- fields with ';' between them -/
def semi : List (List UInt8) → List UInt8
  | [] => []
  | [f] => f
  | f :: g :: l => f ++ 59 :: semi (g :: l)
theorem mach_semi : ∀ (fs : List (List UInt8)) (n : Nat), (∀ f ∈ fs, Clean f) → (0 < n ∨ 2 ≤ fs.length) → fs ≠ [] → mach n [] [] (semi fs) = (fs, [])
  | [], _, _, _, h => absurd rfl h
  | [f], n, hc, hn, _ => by
    have hn' : 0 < n := by
      rcases hn with h | h
      · exact h
      · simp at h
    exact mach_cleanE (hc f (by simp)) n (.inl hn')
  | f :: g :: l, n, hc, hn, _ => by
    show mach n [] [] (f ++ 59 :: semi (g :: l)) = _
    rw [mach_clean (hc f (by simp)), mach_semi (g :: l) (n + 1) (fun x hx => hc x (by simp [hx])) (.inl (by omega)) (by simp)]

/-- and the other way: each field that is told is clean -/
theorem mach_each : ∀ (l : List UInt8) (n : Nat) (cur pend : List UInt8), Clean cur → (∀ b ∈ pend, blk8 b) → (cur = [] → pend = []) → ∀ f ∈ (mach n cur pend l).1, Clean f
  | [], n, cur, pend, hc, hp, h0, f, hf => by
    unfold mach lastF at hf
    simp only at hf
    split at hf
    · rw [List.mem_singleton.1 hf]; exact hc
    · cases hf
  | b :: l, n, cur, pend, hc, hp, h0, f, hf => by
    rw [mach] at hf
    by_cases h1 : b = 32 ∨ b = 9
    · rw [if_pos h1] at hf
      by_cases h2 : cur = []
      · rw [if_pos h2] at hf
        exact mach_each l n [] [] ⟨fun b hb => (by cases hb), fun b hb => (by cases hb), fun b hb => (by cases hb)⟩ (fun b hb => by cases hb) (fun _ => rfl) f hf
      · rw [if_neg h2] at hf
        refine mach_each l n cur (pend ++ [b]) hc (fun x hx => ?_) (fun h => absurd h h2) f hf
        rcases List.mem_append.1 hx with hx | hx
        · exact hp x hx
        · rw [List.mem_singleton.1 hx]; exact h1
    · rw [if_neg h1] at hf
      by_cases h59 : b = 59
      · rw [if_pos h59] at hf
        rcases List.mem_cons.1 hf with rfl | hf
        · exact hc
        · exact mach_each l (n + 1) [] [] ⟨fun b hb => (by cases hb), fun b hb => (by cases hb), fun b hb => (by cases hb)⟩ (fun b hb => by cases hb) (fun _ => rfl) f hf
      · rw [if_neg h59] at hf
        by_cases h35 : b = 35
        · rw [if_pos h35] at hf
          unfold lastF at hf
          split at hf
          · rw [List.mem_singleton.1 hf]; exact hc
          · cases hf
        · rw [if_neg h35] at hf
          refine mach_each l n (cur ++ pend ++ [b]) [] ⟨fun x hx => ?_, fun x hx => ?_, fun x hx => ?_⟩ (fun x hx => by cases hx) (fun _ => rfl) f hf
          · rcases List.mem_append.1 hx with hx | hx
            · rcases List.mem_append.1 hx with hx | hx
              · exact hc.plain x hx
              · rcases hp x hx with rfl | rfl <;> exact ⟨by decide, by decide⟩
            · rw [List.mem_singleton.1 hx]; exact ⟨h59, h35⟩
          · cases cur with
            | nil => rw [h0 rfl] at hx; simp at hx; rw [← hx]; exact h1
            | cons c cur => exact hc.head x (by simpa using hx)
          · have : x = b := by simpa using hx.symm
            rw [this]; exact h1
end Go.Proofs.YthjnkagepooeiaaGreatDoor
/-
  Texts that lines.Check finds right: put together, and cut at what is no tail.
-/
namespace Go.Proofs.YthjnkagepooeiaaGreatDoor
set_option linter.unusedVariables false

/-- each character is one, and no control -/
def goodT (s : ByteArray) : Prop := ∀ p ∈ chars s 0, ¬ (p.2 = 65533 ∧ (Utf8.decode s p.1).2 = 1) ∧ ctrlB (p.2 : Int) = false
theorem chk_goodI (s : ByteArray) : ∀ (l : List (Nat × Nat)) (k : Nat), k + l.length ≤ 4096 → (∀ p ∈ l, ¬ (p.2 = 65533 ∧ (Utf8.decode s p.1).2 = 1) ∧ ctrlB (p.2 : Int) = false) → chk s k l = (0, 0)
  | [], _, _, _ => rfl
  | (i, r) :: l, k, hk, h => by
    have h1 := h (i, r) (by simp)
    rw [List.length_cons] at hk
    rw [chk, if_neg (by omega), if_neg h1.1, if_neg (by rw [h1.2]; decide)]
    exact chk_goodI s l (k + 1) (by omega) (fun p hp => h p (by simp [hp]))
theorem chk_invI (s : ByteArray) : ∀ (l : List (Nat × Nat)) (k : Nat), k ≤ 4096 → (chk s k l).2 = 0 → k + l.length ≤ 4096 ∧ ∀ p ∈ l, ¬ (p.2 = 65533 ∧ (Utf8.decode s p.1).2 = 1) ∧ ctrlB (p.2 : Int) = false
  | [], k, hk, _ => ⟨by simpa using hk, fun p hp => (by cases hp)⟩
  | (i, r) :: l, k, hk, h => by
    rw [chk] at h
    by_cases h1 : k = 4096
    · rw [if_pos h1] at h; cases h
    · rw [if_neg h1] at h
      by_cases h2 : r = 65533 ∧ (Utf8.decode s i).2 = 1
      · rw [if_pos h2] at h; cases h
      · rw [if_neg h2] at h
        by_cases h3 : ctrlB (r : Int) = true
        · rw [if_pos h3] at h; cases h
        · rw [if_neg h3] at h
          obtain ⟨a, b⟩ := chk_invI s l (k + 1) (by omega) h
          refine ⟨by rw [List.length_cons]; omega, fun p hp => ?_⟩
          rcases List.mem_cons.1 hp with rfl | hp
          · exact ⟨h2, by simpa using h3⟩
          · exact b p hp
theorem chkS_good {s : ByteArray} (h : goodT s) (hl : (chars s 0).length ≤ 4096) : chkS s = (0, 0) := chk_goodI s _ 0 (by omega) h
theorem chkS_inv {s : ByteArray} (h : (chkS s).2 = 0) : goodT s ∧ (chars s 0).length ≤ 4096 := by
  obtain ⟨a, b⟩ := chk_invI s _ 0 (by omega) h
  exact ⟨b, by omega⟩
theorem chars_appI {s t : ByteArray} (hb : t.size = 0 ∨ ¬ bN t 0 / 64 = 2) : chars (s ++ t) 0 = chars s 0 ++ (chars t 0).map fun p => (s.size + p.1, p.2) :=
  chars_left s t (.inr hb) s.size 0 (by omega) (by omega) (fun _ h => h)
theorem chars_ltI (s : ByteArray) : ∀ (k i : Nat), s.size - i ≤ k → ∀ p ∈ chars s i, i ≤ p.1 ∧ p.1 < s.size := by
  intro k
  induction k with
  | zero => intro i h p hp; rw [chars_end s i (by omega)] at hp; cases hp
  | succ k ih =>
    intro i h p hp
    by_cases hi : i < s.size
    · have hb := dec_bounds s i hi
      rw [chars_step s i hi] at hp
      rcases List.mem_cons.1 hp with rfl | hp
      · exact ⟨Nat.le_refl _, hi⟩
      · have := ih _ (by omega) p hp
        exact ⟨by omega, this.2⟩
    · rw [chars_end s i hi] at hp; cases hp
theorem goodT_app {s t : ByteArray} (hs : goodT s) (ht : goodT t) (hb : t.size = 0 ∨ ¬ bN t 0 / 64 = 2) : goodT (s ++ t) := by
  intro p hp
  rw [chars_appI hb] at hp
  rcases List.mem_append.1 hp with hp | hp
  · have := chars_ltI s s.size 0 (by omega) p hp
    rw [dec_left s t p.1 this.2 (.inr hb)]
    exact hs p hp
  · obtain ⟨q, hq, rfl⟩ := List.mem_map.1 hp
    have := chars_ltI t t.size 0 (by omega) q hq
    show ¬ (q.2 = 65533 ∧ (Utf8.decode (s ++ t) (s.size + q.1)).2 = 1) ∧ _
    rw [dec_right s t q.1 this.2]
    exact ht q hq
theorem goodT_parts {s t : ByteArray} (h : goodT (s ++ t)) (hb : t.size = 0 ∨ ¬ bN t 0 / 64 = 2) : goodT s ∧ goodT t := by
  constructor
  · intro p hp
    have := chars_ltI s s.size 0 (by omega) p hp
    have h1 := h p (by rw [chars_appI hb]; exact List.mem_append_left _ hp)
    rw [dec_left s t p.1 this.2 (.inr hb)] at h1
    exact h1
  · intro q hq
    have := chars_ltI t t.size 0 (by omega) q hq
    have h1 := h (s.size + q.1, q.2) (by rw [chars_appI hb]; exact List.mem_append_right _ (List.mem_map_of_mem hq))
    simp only at h1
    rw [dec_right s t q.1 this.2] at h1
    exact h1
theorem chars_len_appI {s t : ByteArray} (hb : t.size = 0 ∨ ¬ bN t 0 / 64 = 2) : (chars (s ++ t) 0).length = (chars s 0).length + (chars t 0).length := by
  rw [chars_appI hb, List.length_append, List.length_map]
theorem chars_len_leI (s : ByteArray) : ∀ (k i : Nat), s.size - i ≤ k → (chars s i).length ≤ s.size - i := by
  intro k
  induction k with
  | zero => intro i h; rw [chars_end s i (by omega)]; simp
  | succ k ih =>
    intro i h
    by_cases hi : i < s.size
    · have hb := dec_bounds s i hi
      rw [chars_step s i hi, List.length_cons]
      have := ih (i + (Utf8.decode s i).2) (by omega)
      omega
    · rw [chars_end s i hi]; simp
end Go.Proofs.YthjnkagepooeiaaGreatDoor
/-
  A line of clean fields is scanned as these fields; where the one line of a text lies.
-/
namespace Go.Proofs.YthjnkagepooeiaaGreatDoor
open Go.RowKit Go.PlainAid Go.Lib Go.Shelf
set_option linter.unusedVariables false

theorem dropWhile_keepI {α : Type} (p : α → Bool) (b : α) (hb : p b = false) : ∀ x : List α, ∃ y, (x ++ [b]).dropWhile p = y ++ [b]
  | [] => ⟨[], by simp [hb]⟩
  | a :: x => by
    rw [List.cons_append, List.dropWhile_cons]
    cases ha : p a
    · exact ⟨a :: x, by simp⟩
    · obtain ⟨y, hy⟩ := dropWhile_keepI p b hb x
      exact ⟨y, by simpa using hy⟩
theorem trim_headI (b : UInt8) (l : List UInt8) (hb : ¬ blk8 b) : ∃ l', trimB (b :: l) = b :: l' := by
  unfold trimB trimS trimLeftS trimRightS
  have hn : b ≠ 32 ∧ b ≠ 9 := ⟨fun h => hb (.inl h), fun h => hb (.inr h)⟩
  have hp : ([32, 9] : List UInt8).contains b = false := by simp [hn.1, hn.2]
  obtain ⟨y, hy⟩ := dropWhile_keepI (fun x => ([32, 9] : List UInt8).contains x) b hp l.reverse
  have e1 : (b :: l).dropWhile (fun x => ([32, 9] : List UInt8).contains x) = b :: l := by rw [List.dropWhile_cons, hp]; rfl
  refine ⟨y.reverse, ?_⟩
  first
  | (rw [e1, List.reverse_cons, hy]; simp)
  | (rw [List.reverse_cons, hy, List.reverse_append, List.reverse_singleton, List.singleton_append, List.dropWhile_cons, hp]; simp)
theorem scan_semi (no : Int) {fs : List (List UInt8)} {b : UInt8} {f0 : List UInt8} {rest : List (List UInt8)} (hf : fs = (b :: f0) :: rest) (hc : ∀ f ∈ fs, Clean f) (h2 : 2 ≤ fs.length) (h64 : b ≠ 64) (hg : (chkS (S (semi fs))).2 = 0) : scanS no (S (semi fs)) = (⟨no, 1, [], fs, []⟩, 0) := by
  have hL : L (S (semi fs)) = semi fs := rfl
  have hm := mach_semi fs 0 hc (.inr h2) (by rw [hf]; simp)
  have hcut : cutS (S (semi fs)) = (fs, []) := by unfold cutS; rw [hL]; exact hm
  obtain ⟨tl, ht⟩ : ∃ tl, semi fs = b :: tl := by
    rw [hf]
    cases rest with
    | nil => exact ⟨f0, rfl⟩
    | cons g l => exact ⟨f0 ++ 59 :: semi (g :: l), rfl⟩
  have hb : ¬ blk8 b := (hc (b :: f0) (by rw [hf]; simp)).head b rfl
  obtain ⟨l', hl'⟩ := trim_headI b tl hb
  unfold scanS
  rw [if_neg (by rw [hg]; simp), hL, ht, hl', if_neg (by simp [hasPrefix, Ne.symm h64]), ← ht]
  unfold plainS
  rw [hcut, if_pos (by rw [hf]; simp)]
theorem bN_SI (l : List UInt8) (i : Nat) (b : UInt8) (h : l[i]? = some b) : bN (S l) i = b.toNat := by
  obtain ⟨hi, e⟩ := List.getElem?_eq_some_iff.1 h
  unfold bN
  have : (S l).get! i = b := by
    show l.toArray[i]! = b
    rw [Array.getElem!_eq_getD, Array.getD_eq_getD_getElem?]
    simp [hi, e]
  rw [this]
/-- where the line of a text of one line lies -/
theorem lines_one {l : List UInt8} {b c : UInt8} (hb : l.head? = some b) (hb7 : b.toNat < 128) (hc : l.getLast? = some c) (hc13 : c ≠ 13) (h10 : ∀ x ∈ l, x ≠ 10) :
    linesL (S (l ++ [10])) = [(1, 0, l.length)] ∧ (S (l ++ [10])).extract 0 l.length = S l := by
  have hn : l ≠ [] := by intro e; rw [e] at hb; cases hb
  have hl0 : 0 < l.length := List.length_pos_iff.2 hn
  have hs : (S (l ++ [10])).size = l.length + 1 := by rw [S_size]; simp
  have at_ : ∀ j x, l[j]? = some x → bN (S (l ++ [10])) j = x.toNat := fun j x hx => bN_SI _ j x (by rw [List.getElem?_append_left (List.getElem?_eq_some_iff.1 hx).1]; exact hx)
  have e0 : bN (S (l ++ [10])) 0 = b.toNat := at_ 0 b (by rw [← List.head?_eq_getElem?]; exact hb)
  have e10 : bN (S (l ++ [10])) l.length = 10 := bN_SI _ _ 10 (by simp)
  have hm : markN (S (l ++ [10])) = 0 := by rw [markN_eq, if_neg (by omega)]
  have hj : ∀ j, 0 ≤ j → j < l.length → bN (S (l ++ [10])) j ≠ 10 := fun j _ hj => by
    have hx : l[j]? = some l[j] := List.getElem?_eq_getElem hj
    rw [at_ j _ hx]
    intro e
    exact h10 l[j] (List.getElem_mem hj) (UInt8.toNat_inj.1 (by rw [e]; rfl))
  obtain ⟨f1, f2, f3⟩ := linesI_found (S (l ++ [10])) 1 0 l.length (Nat.zero_le _) (by omega) e10 hj
  have h13 : ¬ bN (S (l ++ [10])) (l.length - 1) = 13 := by
    have hx : l[l.length - 1]? = some c := by rw [← List.getLast?_eq_getElem?]; exact hc
    rw [at_ _ _ hx]
    intro e
    exact hc13 (UInt8.toNat_inj.1 (by rw [e]; rfl))
  rw [if_neg (fun h => h13 h.2)] at f2
  refine ⟨?_, ?_⟩
  · rw [← linesL_I, hm, f1, f2, show l.length + 1 = (S (l ++ [10])).size by omega, linesI_end]
  · rw [sl_S]
    congr 1
    show ((l ++ [10]).drop 0).take (l.length - 0) = l
    simp
end Go.Proofs.YthjnkagepooeiaaGreatDoor
/-
  A field of a line that is right is right itself.
-/
namespace Go.Proofs.YthjnkagepooeiaaGreatDoor
set_option linter.unusedVariables false

def EndB (c : List UInt8) : Prop := c = [] ∨ ∃ b l, c = b :: l ∧ b.toNat < 128
def BegB (a : List UInt8) : Prop := a = [] ∨ ∃ l b, a = l ++ [b] ∧ b.toNat < 128
/-- where a field that is told lies -/
theorem mach_at : ∀ (l : List UInt8) (n : Nat) (cur pend f : List UInt8), f ∈ (mach n cur pend l).1 → (cur = [] → pend = []) → (∀ b ∈ pend, b = 32 ∨ b = 9) →
    (∃ c, cur ++ pend ++ l = f ++ c ∧ EndB c) ∨ (∃ a c, l = a ++ f ++ c ∧ a ≠ [] ∧ BegB a ∧ EndB c)
  | [], n, cur, pend, f, hf, h0, hp => by
    unfold mach lastF at hf
    simp only at hf
    split at hf
    · rw [List.mem_singleton.1 hf]
      refine .inl ⟨pend, by simp, ?_⟩
      cases pend with
      | nil => exact .inl rfl
      | cons b p => exact .inr ⟨b, p, rfl, by rcases hp b (by simp) with rfl | rfl <;> decide⟩
    · cases hf
  | b :: l, n, cur, pend, f, hf, h0, hp => by
    have here : ∀ {c : List UInt8}, b.toNat < 128 → EndB (pend ++ b :: l) := fun hb => by
      cases pend with
      | nil => exact .inr ⟨b, l, rfl, hb⟩
      | cons d p => exact .inr ⟨d, p ++ b :: l, rfl, by rcases hp d (by simp) with rfl | rfl <;> decide⟩
    rw [mach] at hf
    by_cases h1 : b = 32 ∨ b = 9
    · have hb7 : b.toNat < 128 := by rcases h1 with rfl | rfl <;> decide
      rw [if_pos h1] at hf
      by_cases h2 : cur = []
      · rw [if_pos h2] at hf
        rcases mach_at l n [] [] f hf (fun _ => rfl) (fun x hx => by cases hx) with ⟨c, e, hc⟩ | ⟨a, c, e, ha, hb, hc⟩
        · exact .inr ⟨[b], c, by rw [show l = f ++ c from e]; simp, by simp, .inr ⟨[], b, rfl, hb7⟩, hc⟩
        · refine .inr ⟨b :: a, c, by rw [e]; simp, by simp, ?_, hc⟩
          rcases hb with rfl | ⟨l', b', rfl, h⟩
          · exact absurd rfl ha
          · exact .inr ⟨b :: l', b', rfl, h⟩
      · rw [if_neg h2] at hf
        rcases mach_at l n cur (pend ++ [b]) f hf (fun h => absurd h h2) (fun x hx => by
          rcases List.mem_append.1 hx with hx | hx
          · exact hp x hx
          · rw [List.mem_singleton.1 hx]; exact h1) with ⟨c, e, hc⟩ | ⟨a, c, e, ha, hb, hc⟩
        · exact .inl ⟨c, by rw [← e]; simp, hc⟩
        · refine .inr ⟨b :: a, c, by rw [e]; simp, by simp, ?_, hc⟩
          rcases hb with rfl | ⟨l', b', rfl, h⟩
          · exact absurd rfl ha
          · exact .inr ⟨b :: l', b', rfl, h⟩
    · rw [if_neg h1] at hf
      by_cases h59 : b = 59
      · have hb7 : b.toNat < 128 := by rw [h59]; decide
        rw [if_pos h59] at hf
        rcases List.mem_cons.1 hf with rfl | hf
        · exact .inl ⟨pend ++ b :: l, by simp, here (c := []) hb7⟩
        · rcases mach_at l (n + 1) [] [] f hf (fun _ => rfl) (fun x hx => by cases hx) with ⟨c, e, hc⟩ | ⟨a, c, e, ha, hb, hc⟩
          · exact .inr ⟨[b], c, by rw [show l = f ++ c from e]; simp, by simp, .inr ⟨[], b, rfl, hb7⟩, hc⟩
          · refine .inr ⟨b :: a, c, by rw [e]; simp, by simp, ?_, hc⟩
            rcases hb with rfl | ⟨l', b', rfl, h⟩
            · exact absurd rfl ha
            · exact .inr ⟨b :: l', b', rfl, h⟩
      · rw [if_neg h59] at hf
        by_cases h35 : b = 35
        · rw [if_pos h35] at hf
          unfold lastF at hf
          split at hf
          · rw [List.mem_singleton.1 hf]
            exact .inl ⟨pend ++ b :: l, by simp, here (c := []) (by rw [h35]; decide)⟩
          · cases hf
        · rw [if_neg h35] at hf
          rcases mach_at l n (cur ++ pend ++ [b]) [] f hf (fun _ => rfl) (fun x hx => by cases hx) with ⟨c, e, hc⟩ | ⟨a, c, e, ha, hb, hc⟩
          · exact .inl ⟨c, by rw [← e]; simp, hc⟩
          · refine .inr ⟨b :: a, c, by rw [e]; simp, by simp, ?_, hc⟩
            rcases hb with rfl | ⟨l', b', rfl, h⟩
            · exact absurd rfl ha
            · exact .inr ⟨b :: l', b', rfl, h⟩
theorem S_appI (a b : List UInt8) : S (a ++ b) = S a ++ S b := by
  apply ByteArray.ext
  rw [ByteArray.data_append]
  simp
theorem bN_head (b : UInt8) (l : List UInt8) : bN (S (b :: l)) 0 = b.toNat := rfl
theorem S_pos (b : UInt8) (l : List UInt8) : 0 < (S (b :: l)).size := by rw [S_size]; simp
theorem dec_tailN (s : ByteArray) (i : Nat) (hi : i < s.size) (h : bN s i / 64 = 2) : Utf8.decode s i = (65533, 1) := by
  rw [decode_decB s i hi]
  unfold decB
  rw [if_neg (by omega), if_neg (by omega), if_neg (by omega), if_neg (by omega)]
theorem dec_lowN (s : ByteArray) (i : Nat) (hi : i < s.size) (h : bN s i < 128) : Utf8.decode s i = (bN s i, 1) := by
  rw [decode_decB s i hi]
  unfold decB
  rw [if_pos h]
/-- a right text doesn't begin with a tail -/
theorem good_head {f : List UInt8} (h : goodT (S f)) : (S f).size = 0 ∨ ¬ bN (S f) 0 / 64 = 2 := by
  cases f with
  | nil => exact .inl rfl
  | cons b l =>
    refine .inr fun ht => ?_
    have hd := dec_tailN (S (b :: l)) 0 (S_pos b l) ht
    have hm : (0, 65533) ∈ chars (S (b :: l)) 0 := by rw [chars_step _ 0 (S_pos b l), hd]; simp
    have := (h _ hm).1
    simp only at this
    rw [hd] at this
    exact this ⟨trivial, rfl⟩
theorem end_ok {c : List UInt8} (h : EndB c) : (S c).size = 0 ∨ ¬ bN (S c) 0 / 64 = 2 := by
  rcases h with rfl | ⟨b, l, rfl, h⟩
  · exact .inl rfl
  · refine .inr ?_
    rw [bN_head]; omega
theorem good_behind {z : UInt8} {f : List UInt8} (hz : z.toNat < 128) (h : goodT (S (z :: f))) : goodT (S f) := by
  have e : S (z :: f) = S [z] ++ S f := S_appI [z] f
  have hf : (S f).size = 0 ∨ ¬ bN (S f) 0 / 64 = 2 := by
    cases f with
    | nil => exact .inl rfl
    | cons b l =>
      refine .inr fun ht => ?_
      have h0 : Utf8.decode (S (z :: b :: l)) 0 = (z.toNat, 1) := by rw [dec_lowN _ 0 (S_pos _ _) (by rw [bN_head]; exact hz), bN_head]
      have hd : Utf8.decode (S (z :: b :: l)) 1 = (65533, 1) := by
        have := dec_right (S [z]) (S (b :: l)) 0 (S_pos b l)
        rw [← e] at this
        rw [show (S [z]).size + 0 = 1 from rfl] at this
        rw [this]
        exact dec_tailN _ 0 (S_pos b l) ht
      have hm : (1, 65533) ∈ chars (S (z :: b :: l)) 0 := by
        rw [chars_step _ 0 (S_pos _ _), h0]
        show (1, 65533) ∈ (0, z.toNat) :: chars (S (z :: b :: l)) 1
        rw [chars_step _ 1 (by rw [S_size]; simp), hd]
        simp
      have := (h _ hm).1
      simp only at this
      rw [hd] at this
      exact this ⟨trivial, rfl⟩
  rw [e] at h
  exact (goodT_parts h hf).2
/-- a field of a right line is right -/
theorem good_field {l f : List UInt8} (h : goodT (S l)) (hf : f ∈ (mach 0 [] [] l).1) : goodT (S f) := by
  rcases mach_at l 0 [] [] f hf (fun _ => rfl) (fun x hx => by cases hx) with ⟨c, e, hc⟩ | ⟨a, c, e, ha, hb, hc⟩
  · have e' : l = f ++ c := e
    rw [e', S_appI] at h
    exact (goodT_parts h (end_ok hc)).1
  · rw [e, S_appI] at h
    have h1 := (goodT_parts h (end_ok hc)).1
    rcases hb with rfl | ⟨l', b', rfl, hb⟩
    · exact absurd rfl ha
    · rw [List.append_assoc, List.singleton_append, S_appI] at h1
      have h2 := (goodT_parts h1 (.inr (by rw [bN_head]; omega))).2
      exact good_behind hb h2
/-- and its characters are no more than the line's -/
theorem len_field {l f : List UInt8} (h : goodT (S l)) (hf : f ∈ (mach 0 [] [] l).1) : (chars (S f) 0).length ≤ (chars (S l) 0).length := by
  rcases mach_at l 0 [] [] f hf (fun _ => rfl) (fun x hx => by cases hx) with ⟨c, e, hc⟩ | ⟨a, c, e, ha, hb, hc⟩
  · have e' : l = f ++ c := e
    rw [e', S_appI, chars_len_appI (end_ok hc)]; omega
  · have hg := good_field h hf
    rw [e, S_appI, chars_len_appI (end_ok hc), S_appI, chars_len_appI (good_head hg)]; omega
end Go.Proofs.YthjnkagepooeiaaGreatDoor
/-
  For RowsAgain: each cell that a row's line is written with is read as it was: numbers, classes, twins, flags.
-/
namespace Go.Proofs.YthjnkagepooeiaaGreatDoor
open Go.PHexM Go.Lib
set_option linter.unusedVariables false

theorem dig_dgt : ∀ d : Fin 16, dig (dgt d.1) = some d.1 := by decide +kernel
theorem digs_hexUp (i : Nat) : ∀ n a, digs (hexUp i n) a = some (a * 16 ^ i + n % 16 ^ i) := by
  induction i with
  | zero => intro n a; simp [hexUp, digs, Nat.mod_one]
  | succ i ih =>
    intro n a
    have hd := dig_dgt ⟨n / 16 ^ i % 16, Nat.mod_lt _ (by decide)⟩
    show (match dig (dgt (n / 16 ^ i % 16)) with | none => none | some d => digs (hexUp i n) (a * 16 + d)) = _
    rw [hd]
    show digs (hexUp i n) (a * 16 + n / 16 ^ i % 16) = _
    rw [ih, Nat.pow_succ, Nat.mod_mul]
    congr 1
    have e1 : (a * 16 + n / 16 ^ i % 16) * 16 ^ i = a * (16 ^ i * 16) + 16 ^ i * (n / 16 ^ i % 16) := by
      rw [Nat.add_mul, Nat.mul_assoc, Nat.mul_comm 16 (16 ^ i), Nat.mul_comm (n / 16 ^ i % 16)]
    rw [e1]
    omega
theorem dgt_ne : ∀ d : Fin 16, d.1 ≠ 0 → dgt d.1 ≠ 48 := by decide +kernel
theorem show_long (n : Nat) (h : n ≤ 1114111) : longOk (showP n) = true := by
  unfold showP showLen
  by_cases h1 : n < 65536
  · rw [if_pos h1]; unfold longOk; simp [hexUp_len]
  · rw [if_neg h1]
    by_cases h2 : n < 1048576
    · rw [if_pos h2]
      have hd : dgt (n / 16 ^ 4 % 16) ≠ 48 := dgt_ne ⟨n / 16 ^ 4 % 16, Nat.mod_lt _ (by decide)⟩ (by show n / 65536 % 16 ≠ 0; omega)
      unfold longOk
      rw [hexUp_len]
      show (decide (4 ≤ 5) && decide (5 ≤ 6) && !(decide (4 < 5) && (some (dgt (n / 16 ^ 4 % 16)) == some 48))) = true
      simp [hd]
    · rw [if_neg h2]
      have hd : dgt (n / 16 ^ 5 % 16) ≠ 48 := dgt_ne ⟨n / 16 ^ 5 % 16, Nat.mod_lt _ (by decide)⟩ (by show n / 1048576 % 16 ≠ 0; omega)
      unfold longOk
      rw [hexUp_len]
      show (decide (4 ≤ 6) && decide (6 ≤ 6) && !(decide (4 < 6) && (some (dgt (n / 16 ^ 5 % 16)) == some 48))) = true
      simp [hd]
theorem hexP_show (n : Nat) (h : n ≤ 1114111) : hexP (showP n) = some n := by
  unfold hexP
  rw [show_long n h, if_pos rfl]
  unfold showP
  rw [digs_hexUp, Nat.zero_mul, Nat.zero_add]
  have e : n % 16 ^ showLen n = n := by
    apply Nat.mod_eq_of_lt
    unfold showLen
    split
    · show n < 65536; omega
    · split
      · show n < 1048576; omega
      · show n < 16777216; omega
  rw [e]
  show (if 1114111 < n then none else some n) = some n
  rw [if_neg (by omega)]
/-- a code point's text is read as it -/
theorem hexP_shT (x : Int) (h0 : 0 ≤ x) (h1 : x ≤ 1114111) : hexP (shT x).data.toList = some x.toNat := by
  unfold shT
  rw [if_pos ⟨h0, h1⟩]
  exact hexP_show x.toNat (by omega)
theorem digs_plain : ∀ d : Fin 16, dgt d.1 ≠ 32 ∧ dgt d.1 ≠ 59 ∧ dgt d.1 ≠ 60 ∧ dgt d.1 ≠ 35 ∧ dgt d.1 ≠ 9 ∧ dgt d.1 ≠ 10 ∧ dgt d.1 ≠ 13 := by decide +kernel
theorem hexUp_mem (i : Nat) : ∀ n b, b ∈ hexUp i n → ∃ d : Fin 16, b = dgt d.1 := by
  induction i with
  | zero => intro n b h; cases h
  | succ i ih =>
    intro n b h
    rcases List.mem_cons.1 h with h | h
    · exact ⟨⟨n / 16 ^ i % 16, Nat.mod_lt _ (by decide)⟩, h⟩
    · exact ih n b h
theorem splC_one (l : List UInt8) (h : ∀ b ∈ l, b ≠ 32) : splC l = [l] := by
  induction l with
  | nil => rfl
  | cons b l ih =>
    rw [splC, if_neg (h b (by simp)), ih (fun x hx => h x (by simp [hx]))]
/-- a twin's text is read as it -/
theorem twin_back (t : Int) (h0 : 0 ≤ t) (h1 : t ≤ 1114111) : twinP 0 (twinT t).data.toList = some t := by
  unfold twinT
  by_cases ht : t = 0
  · rw [if_pos ht, ht]; rfl
  · rw [if_neg ht]
    have hx := hexP_shT t h0 h1
    have hs : (shT t).data.toList = showP t.toNat := by unfold shT; rw [if_pos ⟨h0, h1⟩]; rfl
    have hne : showP t.toNat ≠ [] := by
      intro e
      have := congrArg List.length e
      unfold showP at this
      rw [hexUp_len] at this
      unfold showLen at this
      (repeat' split at this) <;> cases this
    rw [hs] at hx ⊢
    have hp : piecesP (showP t.toNat) = [showP t.toNat] := by
      rw [pieces_spl]
      refine splC_one _ fun b hb => ?_
      obtain ⟨d, rfl⟩ := hexUp_mem _ _ _ hb
      exact (digs_plain d).1
    have htag : tagB (showP t.toNat) = false := by
      unfold tagB
      cases hl : showP t.toNat with
      | nil => rfl
      | cons b l =>
        obtain ⟨d, hd⟩ := hexUp_mem _ _ b (by show b ∈ showP t.toNat; rw [hl]; simp)
        have h60 := (digs_plain d).2.2.1
        rw [← hd] at h60
        have : Lib.hasPrefix (b :: l) [60] = false := by simp [Lib.hasPrefix, List.isPrefixOf, Ne.symm h60]
        rw [this]; rfl
    unfold twinP
    rw [if_neg hne]
    simp only [hp, List.headD_cons, htag, Bool.false_eq_true, if_false, List.cons_ne_nil, List.all_cons, List.all_nil, hx, Option.isSome_some, Bool.and_true, if_true, Bool.not_false, List.length_cons, List.length_nil, Nat.zero_add, beq_self_eq_true, Option.getD_some]
    congr 1
    omega
theorem comb_back : ∀ n : Fin 255, combP (combT (n.1 : Int)).data.toList = some n.1 := by decide +kernel
theorem flag_back (m : Bool) : flagB (flagT m).data.toList = some m := by cases m <;> rfl
/-- the class of a row that was read is written as it stood -/
theorem cls_backI {f : List UInt8} (h : clsP f ≠ 0) : shortS (clsP f) = S f := by
  unfold clsP at h ⊢
  by_cases hs : shortS (classN (looseB (S f))) = S f
  · rw [if_pos hs]; exact hs
  · rw [if_neg hs] at h; exact absurd rfl h
end Go.Proofs.YthjnkagepooeiaaGreatDoor
/-
  For RowsAgain: a line that is written of a row that was read is read as that row.
-/
namespace Go.Proofs.YthjnkagepooeiaaGreatDoor
open Go.PHexM Go.Lib
set_option linter.unusedVariables false
set_option linter.unusedSimpArgs false

theorem good_low1 (b : UInt8) (h : 32 ≤ b.toNat ∧ b.toNat < 127) : goodT (S [b]) := by
  intro p hp
  have hd : Utf8.decode (S [b]) 0 = (b.toNat, 1) := by rw [dec_lowN _ 0 (S_pos b []) (by rw [bN_head]; omega), bN_head]
  rw [chars_step _ 0 (S_pos b []), hd, chars_end _ _ (by show ¬ (0 + 1 < 1); omega)] at hp
  have : p = (0, b.toNat) := by simpa using hp
  subst this
  refine ⟨fun h' => by have := h'.1; simp only at this; omega, ?_⟩
  unfold ctrlB
  simp only
  rw [decide_eq_false (show ¬ ((b.toNat : Int) < 32) by omega), decide_eq_false (show ¬ ((b.toNat : Int) = 127) by omega)]
  rfl
theorem good_low (l : List UInt8) (h : ∀ b ∈ l, 32 ≤ b.toNat ∧ b.toNat < 127) : goodT (S l) := by
  induction l with
  | nil => intro p hp; rw [chars_end _ _ (by show ¬ (0 < 0); omega)] at hp; cases hp
  | cons b l ih =>
    have e : S (b :: l) = S [b] ++ S l := S_appI [b] l
    have hl := ih (fun x hx => h x (by simp [hx]))
    rw [e]
    exact goodT_app (good_low1 b (h b (by simp))) hl (good_head hl)
theorem good_semi : ∀ fs : List (List UInt8), (∀ f ∈ fs, goodT (S f)) → goodT (S (semi fs))
  | [], _ => good_low [] (fun b hb => by cases hb)
  | [f], h => h f (by simp)
  | f :: g :: l, h => by
    have ih := good_semi (g :: l) (fun x hx => h x (by simp [hx]))
    show goodT (S (f ++ 59 :: semi (g :: l)))
    have e : S (f ++ 59 :: semi (g :: l)) = S f ++ S (59 :: semi (g :: l)) := S_appI _ _
    have e2 : S (59 :: semi (g :: l)) = S [59] ++ S (semi (g :: l)) := S_appI [59] _
    have h2 : goodT (S (59 :: semi (g :: l))) := by rw [e2]; exact goodT_app (good_low1 59 (by decide)) ih (good_head ih)
    rw [e]
    exact goodT_app (h f (by simp)) h2 (good_head h2)
def sumC : List (List UInt8) → Nat
  | [] => 0
  | f :: l => (chars (S f) 0).length + 1 + sumC l
theorem len_semi : ∀ fs : List (List UInt8), (∀ f ∈ fs, goodT (S f)) → (chars (S (semi fs)) 0).length ≤ sumC fs
  | [], _ => by
    show (chars (S []) 0).length ≤ 0
    rw [chars_end _ _ (by show ¬ (0 < 0); omega)]; simp
  | [f], h => by show (chars (S f) 0).length ≤ (chars (S f) 0).length + 1 + 0; omega
  | f :: g :: l, h => by
    have ih := len_semi (g :: l) (fun x hx => h x (by simp [hx]))
    have hg := good_semi (g :: l) (fun x hx => h x (by simp [hx]))
    show (chars (S (f ++ 59 :: semi (g :: l))) 0).length ≤ (chars (S f) 0).length + 1 + sumC (g :: l)
    have e : S (f ++ 59 :: semi (g :: l)) = S f ++ S (59 :: semi (g :: l)) := S_appI _ _
    have e2 : S (59 :: semi (g :: l)) = S [59] ++ S (semi (g :: l)) := S_appI [59] _
    have h2 : goodT (S (59 :: semi (g :: l))) := by rw [e2]; exact goodT_app (good_low1 59 (by decide)) hg (good_head hg)
    rw [e, chars_len_appI (good_head h2), e2, chars_len_appI (good_head hg)]
    have : (chars (S [59]) 0).length ≤ 1 := chars_len_leI _ 1 0 (Nat.le_refl _)
    omega
theorem good_no10 {l : List UInt8} (h : goodT (S l)) : ∀ x ∈ l, x ≠ 10 := by
  rintro x hx rfl
  obtain ⟨a, c, rfl⟩ := List.append_of_mem hx
  have e : S (a ++ 10 :: c) = S a ++ S (10 :: c) := S_appI _ _
  have hb : (S (10 :: c)).size = 0 ∨ ¬ bN (S (10 :: c)) 0 / 64 = 2 := .inr (by rw [bN_head]; decide)
  rw [e] at h
  have h2 := (goodT_parts h hb).2
  have hd : Utf8.decode (S (10 :: c)) 0 = (10, 1) := by rw [dec_lowN _ 0 (S_pos _ _) (by rw [bN_head]; decide), bN_head]; rfl
  have hm : (0, 10) ∈ chars (S (10 :: c)) 0 := by rw [chars_step _ 0 (S_pos _ _), hd]; simp
  have := (h2 _ hm).2
  simp [ctrlB] at this
theorem count_charsI (s : ByteArray) : runeCount s = (chars s 0).length := by
  have key : ∀ f i, runeCountFrom s f i = (charsF s f i).length := by
    intro f
    induction f with
    | zero => intro i; rfl
    | succ f ih =>
      intro i
      rw [runeCountFrom, charsF]
      by_cases h : i < s.size
      · rw [if_pos h, if_pos h, List.length_cons, ih]; omega
      · rw [if_neg h, if_neg h]; rfl
  exact key s.size 0

/-! a row's cells -/
theorem fold_cons {fs : List (List UInt8)} {a : Nat} {l : List Nat} {r x : RowD} (h : foldC fs (a :: l) r = (x, 0)) : (cellP a (fs.getD a []) r).2 = 0 ∧ foldC fs l (cellP a (fs.getD a []) r).1 = (x, 0) := by
  rw [foldC] at h
  by_cases h0 : (cellP a (fs.getD a []) r).2 = 0
  · rw [if_pos h0] at h; exact ⟨h0, h⟩
  · rw [if_neg h0] at h; exact absurd (congrArg Prod.snd h) h0
theorem fold_go {fs : List (List UInt8)} {a : Nat} {l : List Nat} {r r' : RowD} (h : cellP a (fs.getD a []) r = (r', 0)) : foldC fs (a :: l) r = foldC fs l r' := by
  rw [foldC, h, if_pos rfl]
/-- what a row that was read holds -/
structure Cells (fs : List (List UInt8)) (r : RowD) (n c : Nat) (t : Int) (b : Bool) : Prop where
  first : hexP (fs.getD 0 []) = some n
  name : nameOk (fs.getD 1 []) = true
  cat : catB (fs.getD 2 []) = true
  comb : combP (fs.getD 3 []) = some c
  cls : clsP (fs.getD 4 []) ≠ 0
  twin : twinP 0 (fs.getD 5 []) = some t
  mir : flagB (fs.getD 9 []) = some b
theorem fold_parts {fs : List (List UInt8)} {r : RowD} {no : Int} (h : foldC fs cellsL { zeroR with line := no } = (r, 0)) : ∃ n c t b, Cells fs r n c t b ∧ r = ⟨no, n, n, fs.getD 1 [], fs.getD 2 [], c, clsP (fs.getD 4 []), t, b⟩ := by
  obtain ⟨h0, h⟩ := fold_cons h
  cases e0 : hexP (fs.getD 0 []) with
  | none => simp only [cellP, e0] at h0; simp at h0
  | some n =>
    have k0 : (cellP 0 (fs.getD 0 []) { zeroR with line := no }).1 = { zeroR with line := no, first := n, last := n } := by simp only [cellP, e0]; rfl
    rw [k0] at h
    obtain ⟨h1, h⟩ := fold_cons h
    have e1 : nameOk (fs.getD 1 []) = true := by
      cases e : nameOk (fs.getD 1 [])
      · simp only [cellP, e] at h1; simp at h1
      · rfl
    have k1 : (cellP 1 (fs.getD 1 []) { zeroR with line := no, first := n, last := n }).1 = { zeroR with line := no, first := n, last := n, name := fs.getD 1 [] } := by simp only [cellP, e1]; rfl
    rw [k1] at h
    obtain ⟨h2, h⟩ := fold_cons h
    have e2 : catB (fs.getD 2 []) = true := by
      cases e : catB (fs.getD 2 [])
      · simp only [cellP, e] at h2; simp at h2
      · rfl
    have k2 : (cellP 2 (fs.getD 2 []) { zeroR with line := no, first := n, last := n, name := fs.getD 1 [] }).1 = { zeroR with line := no, first := n, last := n, name := fs.getD 1 [], cat := fs.getD 2 [] } := by simp only [cellP, e2]; rfl
    rw [k2] at h
    obtain ⟨h3, h⟩ := fold_cons h
    cases e3 : combP (fs.getD 3 []) with
    | none => simp only [cellP, e3] at h3; simp at h3
    | some c =>
      have k3 : (cellP 3 (fs.getD 3 []) { zeroR with line := no, first := n, last := n, name := fs.getD 1 [], cat := fs.getD 2 [] }).1 = { zeroR with line := no, first := n, last := n, name := fs.getD 1 [], cat := fs.getD 2 [], comb := c } := by simp only [cellP, e3]; rfl
      rw [k3] at h
      obtain ⟨h4, h⟩ := fold_cons h
      have e4 : clsP (fs.getD 4 []) ≠ 0 := by
        intro e
        simp only [cellP, e] at h4
        simp at h4
      have k4 : (cellP 4 (fs.getD 4 []) { zeroR with line := no, first := n, last := n, name := fs.getD 1 [], cat := fs.getD 2 [], comb := c }).1 = { zeroR with line := no, first := n, last := n, name := fs.getD 1 [], cat := fs.getD 2 [], comb := c, cls := clsP (fs.getD 4 []) } := by
        show (if clsP (fs.getD 4 []) = 0 then _ else _ : RowD × Int).1 = _
        rw [if_neg e4]
      rw [k4] at h
      obtain ⟨h5, h⟩ := fold_cons h
      cases e5 : twinP 0 (fs.getD 5 []) with
      | none =>
        have : (cellP 5 (fs.getD 5 []) { zeroR with line := no, first := n, last := n, name := fs.getD 1 [], cat := fs.getD 2 [], comb := c, cls := clsP (fs.getD 4 []) }).2 = 65 := by
          simp only [cellP, zeroR]
          rw [e5]; rfl
        omega
      | some t =>
        have k5 : (cellP 5 (fs.getD 5 []) { zeroR with line := no, first := n, last := n, name := fs.getD 1 [], cat := fs.getD 2 [], comb := c, cls := clsP (fs.getD 4 []) }).1 = { zeroR with line := no, first := n, last := n, name := fs.getD 1 [], cat := fs.getD 2 [], comb := c, cls := clsP (fs.getD 4 []), twin := t } := by
          simp only [cellP, zeroR]
          rw [e5]; rfl
        rw [k5] at h
        obtain ⟨h6, h⟩ := fold_cons h
        cases e6 : flagB (fs.getD 9 []) with
        | none => simp only [cellP, e6] at h6; simp at h6
        | some b =>
          have k6 : (cellP 9 (fs.getD 9 []) { zeroR with line := no, first := n, last := n, name := fs.getD 1 [], cat := fs.getD 2 [], comb := c, cls := clsP (fs.getD 4 []), twin := t }).1 = ⟨no, n, n, fs.getD 1 [], fs.getD 2 [], c, clsP (fs.getD 4 []), t, b⟩ := by simp only [cellP, e6]; rfl
          rw [k6] at h
          exact ⟨n, c, t, b, ⟨e0, e1, e2, e3, e4, e5, e6⟩, (congrArg Prod.fst h).symm⟩
end Go.Proofs.YthjnkagepooeiaaGreatDoor
/-
  For RowsAgain: the line of a row that was read, written and read.
-/
namespace Go.Proofs.YthjnkagepooeiaaGreatDoor
open Go.PHexM Go.Lib
set_option linter.unusedVariables false
set_option linter.unusedSimpArgs false

/-- plain letters and digits -/
def plainB (l : List UInt8) : Bool := l.all fun b => decide (48 ≤ b.toNat) && decide (b.toNat < 127) && !(b == 59)
theorem plain_clean {l : List UInt8} (h : plainB l = true) : Clean l ∧ goodT (S l) := by
  have hb : ∀ b ∈ l, 48 ≤ b.toNat ∧ b.toNat < 127 ∧ b ≠ 59 := fun b hm => by
    have := List.all_eq_true.1 h b hm
    simp only [Bool.and_eq_true, decide_eq_true_eq, Bool.not_eq_true', beq_eq_false_iff_ne, ne_eq] at this
    exact ⟨this.1.1, this.1.2, this.2⟩
  have nb : ∀ b ∈ l, ¬ blk8 b := fun b hm e => by
    have := (hb b hm).1
    rcases e with rfl | rfl <;> simp at this
  refine ⟨⟨fun b hm => ⟨(hb b hm).2.2, fun e => ?_⟩, fun b hm => nb b (List.mem_of_mem_head? hm), fun b hm => nb b (List.mem_of_getLast? hm)⟩, good_low l fun b hm => ⟨by have := (hb b hm).1; omega, (hb b hm).2.1⟩⟩
  have := (hb b hm).1
  rw [e] at this
  simp at this
theorem nil_clean : Clean [] ∧ goodT (S []) := plain_clean rfl
theorem dgt_plain : ∀ d : Fin 16, plainB [dgt d.1] = true := by decide +kernel
theorem hexUp_plain (i : Nat) : ∀ n, plainB (hexUp i n) = true := by
  induction i with
  | zero => intro n; rfl
  | succ i ih =>
    intro n
    have h1 := dgt_plain ⟨n / 16 ^ i % 16, Nat.mod_lt _ (by decide)⟩
    have h2 := ih n
    unfold plainB at h1 h2 ⊢
    show (dgt (n / 16 ^ i % 16) :: hexUp i n).all _ = true
    rw [List.all_cons, h2, Bool.and_true]
    simpa using h1
theorem sh_plain (x : Int) : plainB (L (shT x)) = true := by
  unfold shT
  split
  · exact hexUp_plain _ _
  · rfl
theorem twin_plain (t : Int) : plainB (L (twinT t)) = true := by
  unfold twinT
  split
  · rfl
  · exact sh_plain t
theorem comb_plain : ∀ n : Fin 255, plainB (L (combT (n.1 : Int))) = true := by decide +kernel
theorem flag_plain (m : Bool) : plainB (L (flagT m)) = true := by cases m <;> decide +kernel
theorem cat_plain {l : List UInt8} (h : catB l = true) : plainB l = true ∧ l.length = 2 := by
  unfold catB at h
  split at h
  · rename_i a b
    simp only [Bool.and_eq_true, decide_eq_true_eq] at h
    refine ⟨?_, rfl⟩
    unfold plainB
    have n1 : a ≠ 59 := by intro e; rw [e] at h; simp at h
    have n2 : b ≠ 59 := by intro e; rw [e] at h; simp at h
    have e1 : (decide (48 ≤ a.toNat) && decide (a.toNat < 127) && !(a == 59)) = true := by
      rw [decide_eq_true (show 48 ≤ a.toNat by omega), decide_eq_true (show a.toNat < 127 by omega)]
      simpa using n1
    have e2 : (decide (48 ≤ b.toNat) && decide (b.toNat < 127) && !(b == 59)) = true := by
      rw [decide_eq_true (show 48 ≤ b.toNat by omega), decide_eq_true (show b.toNat < 127 by omega)]
      simpa using n2
    rw [List.all_cons, List.all_cons, List.all_nil, e1, e2]
    rfl
  · cases h
/-- the fields of a row's line, written -/
def backF (f1 : List UInt8) (r : RowD) (x : Int) : List (List UInt8) := [L (shT x), f1, r.cat, L (combT r.comb), L (shortS r.cls), L (twinT r.twin), [], [], [], L (flagT r.mir), [], [], [], [], []]
theorem lineT_semi (r : RowD) (f1 : List UInt8) (x : Int) : lineT r (S f1) x = S (semi (backF f1 r x) ++ [10]) := by
  apply ByteArray.ext
  apply Array.toList_inj.1
  unfold lineT backF
  simp [semi, ByteArray.data_append]
theorem sizeS (l : List UInt8) : (chars (S l) 0).length ≤ l.length := by
  have := chars_len_leI (S l) (S l).size 0 (by omega)
  rw [S_size] at this
  omega
theorem sizeB (s : ByteArray) (n : Nat) (h : s.size ≤ n) : (chars (S (L s)) 0).length ≤ n := by
  have := sizeS (L s)
  rw [L_len] at this
  omega
theorem short_size (c : Int) : (shortS c).size ≤ 4 := by
  by_cases h : 0 ≤ c ∧ c ≤ 23
  · have : ∀ k : Fin 24, (shortS ((k.1 : Nat) : Int)).size ≤ 4 := by decide +kernel
    have h2 := this ⟨c.toNat, by omega⟩
    simp only at h2
    rwa [show ((c.toNat : Nat) : Int) = c by omega] at h2
  · unfold shortS
    repeat rw [if_neg (by omega)]
    decide
/-- what is asked of a row that is to be written and read: f1 its name's field, f4 its class' -/
structure BackOk (r : RowD) (f1 f4 : List UInt8) (c : Nat) : Prop where
  name : nameOk f1 = true
  clean1 : Clean f1
  good1 : goodT (S f1)
  cat : catB r.cat = true
  comb : r.comb = (c : Int)
  combL : c ≤ 254
  cls : r.cls = clsP f4
  clsN : clsP f4 ≠ 0
  clean4 : Clean f4
  good4 : goodT (S f4)
  twin0 : 0 ≤ r.twin
  twin1 : r.twin ≤ 1114111
theorem back_fields {r : RowD} {f1 f4 : List UInt8} {c : Nat} (h : BackOk r f1 f4 c) (x : Int) : (∀ f ∈ backF f1 r x, Clean f) ∧ (∀ f ∈ backF f1 r x, goodT (S f)) := by
  have hsh : L (shortS r.cls) = f4 := by rw [h.cls, cls_backI h.clsN]
  have hcb := comb_plain ⟨c, by have := h.combL; omega⟩
  simp only at hcb
  have all : ∀ f ∈ backF f1 r x, Clean f ∧ goodT (S f) := by
    intro f hf
    unfold backF at hf
    simp only [List.mem_cons, List.not_mem_nil, or_false] at hf
    rcases hf with rfl | rfl | rfl | rfl | rfl | rfl | rfl | rfl | rfl | rfl | rfl | rfl | rfl | rfl | rfl
    · exact plain_clean (sh_plain x)
    · exact ⟨h.clean1, h.good1⟩
    · exact plain_clean (cat_plain h.cat).1
    · rw [h.comb]; exact plain_clean hcb
    · rw [hsh]; exact ⟨h.clean4, h.good4⟩
    · exact plain_clean (twin_plain _)
    · exact nil_clean
    · exact nil_clean
    · exact nil_clean
    · exact plain_clean (flag_plain _)
    · exact nil_clean
    · exact nil_clean
    · exact nil_clean
    · exact nil_clean
    · exact nil_clean
  exact ⟨fun f hf => (all f hf).1, fun f hf => (all f hf).2⟩
theorem sum15 {m0 m1 m2 m3 m4 m5 m9 mn : Nat} (n0 : m0 ≤ 8) (n1 : m1 ≤ 256) (n2 : m2 ≤ 2) (n3 : m3 ≤ 3) (n4 : m4 ≤ 4) (n5 : m5 ≤ 8) (n9 : m9 ≤ 1) (nn : mn ≤ 0) :
    m0 + 1 + (m1 + 1 + (m2 + 1 + (m3 + 1 + (m4 + 1 + (m5 + 1 + (mn + 1 + (mn + 1 + (mn + 1 + (m9 + 1 + (mn + 1 + (mn + 1 + (mn + 1 + (mn + 1 + (mn + 1 + 0)))))))))))))) ≤ 4096 := Nat.le_trans (Nat.add_le_add (Nat.add_le_add_right n0 1) (Nat.add_le_add (Nat.add_le_add_right n1 1) (Nat.add_le_add (Nat.add_le_add_right n2 1) (Nat.add_le_add (Nat.add_le_add_right n3 1) (Nat.add_le_add (Nat.add_le_add_right n4 1) (Nat.add_le_add (Nat.add_le_add_right n5 1) (Nat.add_le_add (Nat.add_le_add_right nn 1) (Nat.add_le_add (Nat.add_le_add_right nn 1) (Nat.add_le_add (Nat.add_le_add_right nn 1) (Nat.add_le_add (Nat.add_le_add_right n9 1) (Nat.add_le_add (Nat.add_le_add_right nn 1) (Nat.add_le_add (Nat.add_le_add_right nn 1) (Nat.add_le_add (Nat.add_le_add_right nn 1) (Nat.add_le_add (Nat.add_le_add_right nn 1) (Nat.add_le_add (Nat.add_le_add_right nn 1) (Nat.le_refl 0)))))))))))))))) (by decide)
theorem back_chars {r : RowD} {f1 f4 : List UInt8} {c : Nat} (h : BackOk r f1 f4 c) (x : Int) : (chkS (S (semi (backF f1 r x)))).2 = 0 := by
  obtain ⟨_, hg⟩ := back_fields h x
  have hl := len_semi _ hg
  have n1 : (chars (S f1) 0).length ≤ 256 := by
    have := h.name
    unfold nameOk at this
    simp only [Bool.and_eq_true, decide_eq_true_eq] at this
    rw [count_charsI] at this
    exact this.2
  have n0 : (chars (S (L (shT x))) 0).length ≤ 8 := sizeB _ _ (shT_size x)
  have n2 : (chars (S r.cat) 0).length ≤ 2 := by have := sizeS r.cat; have := (cat_plain h.cat).2; omega
  have n3 : (chars (S (L (combT r.comb))) 0).length ≤ 3 := by
    rw [h.comb]
    have : ∀ n : Fin 255, (combT (n.1 : Int)).size ≤ 3 := by decide +kernel
    exact sizeB _ _ (this ⟨c, by have := h.combL; omega⟩)
  have n4 : (chars (S (L (shortS r.cls))) 0).length ≤ 4 := sizeB _ _ (short_size _)
  have n5 : (chars (S (L (twinT r.twin))) 0).length ≤ 8 := by
    refine sizeB _ _ ?_
    unfold twinT
    split
    · decide
    · exact shT_size _
  have n9 : (chars (S (L (flagT r.mir))) 0).length ≤ 1 := sizeB _ _ (by cases r.mir <;> decide)
  have nn : (chars (S ([] : List UInt8)) 0).length ≤ 0 := sizeS []
  have hs : sumC (backF f1 r x) ≤ 4096 := by
    unfold backF
    simp only [sumC]
    exact sum15 n0 n1 n2 n3 n4 n5 n9 nn
  rw [chkS_good (good_semi _ hg) (Nat.le_trans hl hs)]
/-- the line is read -/
theorem back_read {r : RowD} {f1 f4 : List UInt8} {c : Nat} (h : BackOk r f1 f4 c) {x : Int} (h0 : 0 ≤ x) (h1 : x ≤ 1114111) :
    linesL (lineT r (S f1) x) = [(1, 0, (semi (backF f1 r x)).length)] ∧ scanX (lineT r (S f1) x) (1, 0, (semi (backF f1 r x)).length) = (⟨1, 1, [], backF f1 r x, []⟩, 0) := by
  obtain ⟨hc, hg⟩ := back_fields h x
  have hk := back_chars h x
  have hne : ∃ b l, L (shT x) = b :: l := by
    cases hL : L (shT x) with
    | nil =>
      have := hexP_shT x h0 h1
      rw [show (shT x).data.toList = [] from hL] at this
      cases this
    | cons b l => exact ⟨b, l, rfl⟩
  obtain ⟨b, l0, hb⟩ := hne
  have hbp : 48 ≤ b.toNat ∧ b.toNat < 127 := by
    have := sh_plain x
    rw [hb] at this
    unfold plainB at this
    rw [List.all_cons] at this
    simp only [Bool.and_eq_true, decide_eq_true_eq] at this
    exact this.1.1
  have hb64 : b ≠ 64 := by
    have hx := hexP_shT x h0 h1
    have hs : (shT x).data.toList = showP x.toNat := by unfold shT; rw [if_pos ⟨h0, h1⟩]; rfl
    have hm : b ∈ showP x.toNat := by rw [← hs, show (shT x).data.toList = b :: l0 from hb]; simp
    obtain ⟨d, rfl⟩ := hexUp_mem _ _ _ hm
    exact (show ∀ d : Fin 16, dgt d.1 ≠ 64 by decide +kernel) d
  have hfs : backF f1 r x = (b :: l0) :: [f1, r.cat, L (combT r.comb), L (shortS r.cls), L (twinT r.twin), [], [], [], L (flagT r.mir), [], [], [], [], []] := by unfold backF; rw [hb]
  have hhead : (semi (backF f1 r x)).head? = some b := by rw [hfs]; rfl
  have hlast : (semi (backF f1 r x)).getLast? = some 59 := by
    have e : semi (backF f1 r x) = (L (shT x) ++ 59 :: (f1 ++ 59 :: (r.cat ++ 59 :: (L (combT r.comb) ++ 59 :: (L (shortS r.cls) ++ 59 :: (L (twinT r.twin) ++ 59 :: 59 :: 59 :: 59 :: (L (flagT r.mir) ++ [59, 59, 59, 59]))))))) ++ [59] := by unfold backF; simp [semi]
    rw [e, List.getLast?_concat]
  obtain ⟨k1, k2⟩ := lines_one hhead (by omega) hlast (by decide) (good_no10 (good_semi _ hg))
  rw [lineT_semi]
  refine ⟨k1, ?_⟩
  unfold scanX
  show scanS ((1 : Nat) : Int) ((S (semi (backF f1 r x) ++ [10])).extract 0 (semi (backF f1 r x)).length) = _
  rw [k2]
  exact scan_semi 1 hfs hc (by unfold backF; simp) hb64 hk
/-- and scanned as the row -/
theorem back_scan {r : RowD} {f1 f4 : List UInt8} {c : Nat} (h : BackOk r f1 f4 c) {x : Int} (h0 : 0 ≤ x) (h1 : x ≤ 1114111) (no : Int) :
    scanR ⟨no, 1, [], backF f1 r x, []⟩ = (⟨no, x, x, f1, r.cat, r.comb, r.cls, r.twin, r.mir⟩, 0) := by
  have hsh : L (shortS r.cls) = f4 := by rw [h.cls, cls_backI h.clsN]
  have e0 := hexP_shT x h0 h1
  have e3 := comb_back ⟨c, by have := h.combL; omega⟩
  simp only at e3
  rw [← h.comb] at e3
  have e4 : clsP (L (shortS r.cls)) = r.cls := by rw [hsh, h.cls]
  have e4n : r.cls ≠ 0 := by rw [h.cls]; exact h.clsN
  have e5 := twin_back r.twin h.twin0 h.twin1
  have e6 := flag_back r.mir
  unfold scanR
  rw [if_neg (by show ¬ ((1 : Int) = 2); decide), if_neg (by show ¬ ((1 : Int) ≠ 1 ∨ (backF f1 r x).length ≠ 15); unfold backF; simp)]
  show foldC (backF f1 r x) [0, 1, 2, 3, 4, 5, 9] _ = _
  rw [fold_go (a := 0) (r' := { zeroR with line := no, first := (x.toNat : Int), last := (x.toNat : Int) }) (by show cellP 0 (L (shT x)) _ = _; simp only [cellP]; rw [show hexP (L (shT x)) = some x.toNat from e0]; rfl)]
  rw [fold_go (a := 1) (r' := { zeroR with line := no, first := (x.toNat : Int), last := (x.toNat : Int), name := f1 }) (by show cellP 1 f1 _ = _; simp only [cellP]; rw [h.name]; rfl)]
  rw [fold_go (a := 2) (r' := { zeroR with line := no, first := (x.toNat : Int), last := (x.toNat : Int), name := f1, cat := r.cat }) (by show cellP 2 r.cat _ = _; simp only [cellP]; rw [h.cat]; rfl)]
  rw [fold_go (a := 3) (r' := { zeroR with line := no, first := (x.toNat : Int), last := (x.toNat : Int), name := f1, cat := r.cat, comb := (c : Int) }) (by show cellP 3 (L (combT r.comb)) _ = _; simp only [cellP]; rw [show combP (L (combT r.comb)) = some c from e3]; rfl)]
  rw [fold_go (a := 4) (r' := { zeroR with line := no, first := (x.toNat : Int), last := (x.toNat : Int), name := f1, cat := r.cat, comb := (c : Int), cls := r.cls }) (by
    have e4' : clsP ((backF f1 r x).getD 4 []) = r.cls := e4
    show (if clsP ((backF f1 r x).getD 4 []) = 0 then _ else _ : RowD × Int) = _
    rw [if_neg (by rw [e4']; exact e4n), e4'])]
  rw [fold_go (a := 5) (r' := { zeroR with line := no, first := (x.toNat : Int), last := (x.toNat : Int), name := f1, cat := r.cat, comb := (c : Int), cls := r.cls, twin := r.twin }) (by show cellP 5 (L (twinT r.twin)) _ = _; simp only [cellP, zeroR]; rw [show twinP 0 (L (twinT r.twin)) = some r.twin from e5]; rfl)]
  rw [fold_go (a := 9) (r' := ⟨no, (x.toNat : Int), (x.toNat : Int), f1, r.cat, (c : Int), r.cls, r.twin, r.mir⟩) (by show cellP 9 (L (flagT r.mir)) _ = _; simp only [cellP]; rw [show flagB (L (flagT r.mir)) = some r.mir from e6]; rfl)]
  show (_, (0 : Int)) = _
  rw [show ((x.toNat : Nat) : Int) = x by omega, h.comb]
end Go.Proofs.YthjnkagepooeiaaGreatDoor
/-
  For RowsAgain: a row that was read is read from what is written of it.
-/
namespace Go.Proofs.YthjnkagepooeiaaGreatDoor
open Go.PHexM Go.Lib
set_option linter.unusedVariables false
set_option linter.unusedSimpArgs false

abbrev backD (no : Int) (f1 : List UInt8) (r : RowD) (x : Int) : LineD := ⟨no, 1, [], backF f1 r x, []⟩
theorem back_readS {r : RowD} {f1 f4 : List UInt8} {c : Nat} (h : BackOk r f1 f4 c) {x : Int} (h0 : 0 ≤ x) (h1 : x ≤ 1114111) : readS (lineT r (S f1) x) = ([backD 1 f1 r x], none) := by
  obtain ⟨k1, k2⟩ := back_read h h0 h1
  rw [read_all (fun y hy => by rw [k1] at hy; rw [List.mem_singleton.1 hy, k2]), k1, List.map_singleton, k2]
theorem back_plain {r : RowD} {f1 f4 : List UInt8} {c : Nat} (h : BackOk r f1 f4 c) {x : Int} (h0 : 0 ≤ x) (h1 : x ≤ 1114111) (no : Int) : plainR (backD no f1 r x) = ⟨no, x, x, (halfP f1).1, r.cat, r.comb, r.cls, r.twin, r.mir⟩ ∧ whichR (backD no f1 r x) = (halfP f1).2 ∧ (scanR (backD no f1 r x)).2 = 0 := by
  have hs := back_scan h h0 h1 no
  refine ⟨?_, ?_, by rw [hs]⟩
  · unfold plainR; rw [hs]
  · unfold whichR; rw [hs]
theorem rows_of {T : ByteArray} {ds : List LineD} {x : RowD} (h : readS T = (ds, none)) (he : eachR startW ds = [(x, 0)]) : (rowsS T).2 = none ∧ (rowsS T).1 = [x] := by
  have e : rowsS T = ([x], none) := by
    unfold rowsS
    rw [h]
    show tellR (eachR startW ds) = _
    rw [he]
    rfl
  rw [e]
  exact ⟨rfl, rfl⟩
/-- a row of one number -/
theorem back_one {r : RowD} {f4 : List UInt8} {c : Nat} (h : BackOk r r.name f4 c) (h0 : 0 ≤ r.first) (h1 : r.first ≤ 1114111) (hl : r.last = r.first) (hw : halfP r.name = (r.name, 0)) : okR r (oneT r) = true := by
  have hT : oneT r = lineT r (S r.name) r.first := by unfold oneT; rw [if_pos hl.symm]
  obtain ⟨p1, p2, p3⟩ := back_plain h h0 h1 1
  rw [hw] at p1 p2
  simp only at p1 p2
  have hask : askE startW (backD 1 r.name r r.first) = 0 := by
    unfold askE
    have s0 : stepE startW (backD 1 r.name r r.first) 0 = 0 := p3
    have s1 : stepE startW (backD 1 r.name r r.first) 1 = 0 := by
      show nameE (heldK startW == 1) (whichR (backD 1 r.name r r.first) == 2) _ = 0
      rw [p2]
      rfl
    have s2 : stepE startW (backD 1 r.name r r.first) 2 = 0 := by
      show (if (plainR (backD 1 r.name r r.first)).first ≤ startW.above then 62 else 0 : Int) = 0
      rw [p1]
      rw [if_neg (by show ¬ (r.first ≤ -1); omega)]
    have s3 : stepE startW (backD 1 r.name r r.first) 3 = 0 := by
      show (if whichR (backD 1 r.name r r.first) = 2 ∧ _ then 67 else 0 : Int) = 0
      rw [p2, if_neg (fun e => by have := e.1; simp at this)]
    rw [if_neg (by rw [s0]; simp), if_neg (by rw [s1]; simp), if_neg (by rw [s2]; simp), s3]
  have he : eachR startW [backD 1 r.name r r.first] = [(plainR (backD 1 r.name r r.first), 0)] := by
    show (stepR startW (backD 1 r.name r r.first)).1 ++ lastR (stepR startW (backD 1 r.name r r.first)).2 = _
    unfold stepR
    rw [if_neg (by show ¬ ((1 : Int) = 0 ∨ (1 : Int) = 3); decide), if_neg (by rw [hask]; simp), p2, if_neg (by decide), if_neg (by decide)]
    rfl
  obtain ⟨q2, q1⟩ := rows_of (back_readS h h0 h1) he
  rw [hT, okR_one q2 q1, p1]
  apply decide_eq_true
  cases r
  simp only at hl
  subst hl
  rfl
/-- a row of many numbers -/
theorem back_many {r : RowD} {f4 : List UInt8} {c : Nat} (ha : BackOk r ([60] ++ r.name ++ firstB) f4 c) (hb : BackOk r ([60] ++ r.name ++ lastB) f4 c) (h0 : 0 ≤ r.first) (h1 : r.last ≤ 1114111) (hl : r.first < r.last)
    (wa : halfP ([60] ++ r.name ++ firstB) = (r.name, 1)) (wb : halfP ([60] ++ r.name ++ lastB) = (r.name, 2)) : okR r (oneT r) = true := by
  have ea : halfT r.name firstE = S ([60] ++ r.name ++ firstB) := by
    show (⟨#[60]⟩ : ByteArray) ++ S r.name ++ firstE = _
    rw [S_appI, S_appI]
  have eb : halfT r.name lastE = S ([60] ++ r.name ++ lastB) := by
    show (⟨#[60]⟩ : ByteArray) ++ S r.name ++ lastE = _
    rw [S_appI, S_appI]
  have hT : oneT r = lineT r (S ([60] ++ r.name ++ firstB)) r.first ++ lineT r (S ([60] ++ r.name ++ lastB)) r.last := by
    unfold oneT
    rw [if_neg (by omega), ea, eb]
  generalize [60] ++ r.name ++ firstB = fa at *
  generalize [60] ++ r.name ++ lastB = fb at *
  have ra := back_readS ha h0 (show r.first ≤ 1114111 by omega)
  have rb := back_readS hb (show 0 ≤ r.last by omega) h1
  have la := (back_read ha h0 (show r.first ≤ 1114111 by omega)).1
  have hj : readS (oneT r) = ([backD 1 fa r r.first, backD 2 fb r r.last], none) := by
    have end1 := line_end r (S fa) r.first
    have mk : markN (lineT r (S fb) r.last) = 0 := by
      rw [markN_eq, if_neg (by have := line_head r (S fb) r.last; omega)]
    rw [hT, read_join _ _ end1.1 end1.2 mk (by rw [ra]) (by rw [rb]), ra, rb, la]
    rfl
  obtain ⟨p1, p2, p3⟩ := back_plain ha h0 (show r.first ≤ 1114111 by omega) 1
  obtain ⟨s1, s2, s3⟩ := back_plain hb (show 0 ≤ r.last by omega) h1 2
  rw [wa] at p1 p2
  rw [wb] at s1 s2
  simp only at p1 p2 s1 s2
  have hask : askE startW (backD 1 fa r r.first) = 0 := by
    unfold askE
    have t0 : stepE startW (backD 1 fa r r.first) 0 = 0 := p3
    have t1 : stepE startW (backD 1 fa r r.first) 1 = 0 := by
      show nameE (heldK startW == 1) (whichR (backD 1 fa r r.first) == 2) _ = 0
      rw [p2]
      rfl
    have t2 : stepE startW (backD 1 fa r r.first) 2 = 0 := by
      show (if (plainR (backD 1 fa r r.first)).first ≤ startW.above then 62 else 0 : Int) = 0
      rw [p1]
      rw [if_neg (by show ¬ (r.first ≤ -1); omega)]
    have t3 : stepE startW (backD 1 fa r r.first) 3 = 0 := by
      show (if whichR (backD 1 fa r r.first) = 2 ∧ _ then 67 else 0 : Int) = 0
      rw [p2, if_neg (fun e => by have := e.1; simp at this)]
    rw [if_neg (by rw [t0]; simp), if_neg (by rw [t1]; simp), if_neg (by rw [t2]; simp), t3]
  have e1 : stepR startW (backD 1 fa r r.first) = ([], ⟨r.first, some (backD 1 fa r r.first, plainR (backD 1 fa r r.first))⟩) := by
    unfold stepR
    rw [if_neg (by show ¬ ((1 : Int) = 0 ∨ (1 : Int) = 3); decide), if_neg (by rw [hask]; simp), p2, if_pos rfl, p1]
  obtain ⟨st, hst⟩ : ∃ st : WalkD, st = ⟨r.first, some (backD 1 fa r r.first, plainR (backD 1 fa r r.first))⟩ := ⟨_, rfl⟩
  rw [← hst] at e1
  have hab : askE st (backD 2 fb r r.last) = 0 := by
    unfold askE
    have t0 : stepE st (backD 2 fb r r.last) 0 = 0 := s3
    have t1 : stepE st (backD 2 fb r r.last) 1 = 0 := by
      show nameE (heldK st == 1) (whichR (backD 2 fb r r.last) == 2) ((plainR (backD 2 fb r r.last)).name == (heldRow st).name) = 0
      rw [s2, s1, hst]
      show nameE true true (r.name == (plainR (backD 1 fa r r.first)).name) = 0
      rw [p1]
      show nameE true true (r.name == r.name) = 0
      rw [beq_self_eq_true]
      rfl
    have t2 : stepE st (backD 2 fb r r.last) 2 = 0 := by
      show (if (plainR (backD 2 fb r r.last)).first ≤ st.above then 62 else 0 : Int) = 0
      rw [s1, hst]
      rw [if_neg (by show ¬ (r.last ≤ r.first); omega)]
    have t3 : stepE st (backD 2 fb r r.last) 3 = 0 := by
      show (if whichR (backD 2 fb r r.last) = 2 ∧ (backF fb r r.last).drop 2 ≠ (heldL st).fields.drop 2 then 67 else 0 : Int) = 0
      rw [hst, if_neg (fun e => e.2 rfl)]
    rw [if_neg (by rw [t0]; simp), if_neg (by rw [t1]; simp), if_neg (by rw [t2]; simp), t3]
  have e2 : stepR st (backD 2 fb r r.last) = ([({ heldRow st with last := (plainR (backD 2 fb r r.last)).last }, 0)], ⟨(plainR (backD 2 fb r r.last)).first, none⟩) := by
    unfold stepR
    rw [if_neg (by show ¬ ((1 : Int) = 0 ∨ (1 : Int) = 3); decide), if_neg (by rw [hab]; simp), s2, if_neg (by decide), if_pos rfl]
  have he : eachR startW [backD 1 fa r r.first, backD 2 fb r r.last] = [({ heldRow st with last := (plainR (backD 2 fb r r.last)).last }, 0)] := by
    show (stepR startW (backD 1 fa r r.first)).1 ++ ((stepR (stepR startW (backD 1 fa r r.first)).2 (backD 2 fb r r.last)).1 ++ lastR (stepR (stepR startW (backD 1 fa r r.first)).2 (backD 2 fb r r.last)).2) = _
    rw [e1]
    show [] ++ ((stepR st (backD 2 fb r r.last)).1 ++ lastR (stepR st (backD 2 fb r r.last)).2) = _
    rw [e2]
    rfl
  obtain ⟨q2, q1⟩ := rows_of hj he
  rw [okR_one q2 q1]
  apply decide_eq_true
  rw [s1, hst]
  show ({ plainR (backD 1 fa r r.first) with last := r.last } : RowD) = _
  rw [p1]
  rfl
end Go.Proofs.YthjnkagepooeiaaGreatDoor
/-
  For RowsAgain: each row that is read from a text is read from what is written of it.
-/
namespace Go.Proofs.YthjnkagepooeiaaGreatDoor
open Go.PHexM Go.Lib
set_option linter.unusedVariables false
set_option linter.unusedSimpArgs false

/-- a data line that was read -/
def DOk (d : LineD) : Prop := d.kind = 1 → ∀ f ∈ d.fields, Clean f ∧ goodT (S f)
theorem scan_dok (no : Int) (s : ByteArray) (h : (scanS no s).2 = 0) : DOk (scanS no s).1 := by
  unfold scanS at h ⊢
  by_cases h1 : (chkS s).2 ≠ 0
  · rw [if_pos h1] at h ⊢; exact absurd h h1
  · rw [if_neg h1] at h ⊢
    by_cases h2 : hasPrefix (trimB (L s)) [64] = true
    · rw [if_pos h2] at h ⊢
      intro hk
      unfold orderS at hk h
      split at hk
      · simp at hk
      · simp [zeroD] at hk
    · rw [if_neg h2]
      have hg := (chkS_inv (show (chkS s).2 = 0 by simpa using h1)).1
      intro hk f hf
      unfold plainS at hk hf
      simp only at hk hf
      split at hf
      · rename_i hne
        have hf' : f ∈ (mach 0 [] [] (L s)).1 := hf
        refine ⟨mach_each (L s) 0 [] [] nil_clean.1 (fun b hb => by cases hb) (fun _ => rfl) f hf', good_field (l := L s) (by rw [S_L]; exact hg) hf'⟩
      · split at hf
        · rename_i hne hm
          rw [if_neg hne, if_pos hm] at hk
          simp at hk
        · cases hf
theorem read_dok {s : ByteArray} (h : (readS s).2 = none) : ∀ d ∈ (readS s).1, DOk d := by
  intro d hd
  obtain ⟨x, hx, rfl⟩ := rd_mem s _ d hd
  have := read_none h x hx
  exact scan_dok _ _ this
theorem getD_mem {fs : List (List UInt8)} {i : Nat} (h : i < fs.length) : fs.getD i [] ∈ fs := by
  rw [List.getD_eq_getElem?_getD, List.getElem?_eq_getElem h]
  exact List.getElem_mem h
theorem scan_parts {d : LineD} (h : (scanR d).2 = 0) : d.kind = 1 ∧ d.fields.length = 15 ∧ ∃ n c t b, Cells d.fields (scanR d).1 n c t b ∧ (scanR d).1 = ⟨d.no, n, n, d.fields.getD 1 [], d.fields.getD 2 [], c, clsP (d.fields.getD 4 []), t, b⟩ := by
  unfold scanR at h ⊢
  by_cases h1 : d.kind = 2
  · rw [if_pos h1] at h; cases h
  · rw [if_neg h1] at h ⊢
    by_cases h2 : d.kind ≠ 1 ∨ d.fields.length ≠ 15
    · rw [if_pos h2] at h; cases h
    · rw [if_neg h2] at h ⊢
      have e : foldC d.fields cellsL { zeroR with line := d.no } = ((foldC d.fields cellsL { zeroR with line := d.no }).1, 0) := Prod.ext rfl h
      exact ⟨Decidable.byContradiction fun k => h2 (.inl k), Decidable.byContradiction fun k => h2 (.inr k), fold_parts e⟩
theorem comb_leI {l : List UInt8} {c : Nat} (h : combP l = some c) : c ≤ 254 := by
  unfold combP at h
  split at h
  · split at h
    · rename_i hh; cases h; exact hh.1
    · cases h
  · cases h
theorem twin_range {l : List UInt8} {t : Int} (h : twinP 0 l = some t) : 0 ≤ t ∧ t ≤ 1114111 := by
  have key : ∀ q : List UInt8, 0 ≤ (((hexP q).getD 0 : Nat) : Int) ∧ (((hexP q).getD 0 : Nat) : Int) ≤ 1114111 := fun q => by
    cases hq : hexP q with
    | none => exact ⟨by simp, by simp⟩
    | some n => have := hexP_le hq; simp only [Option.getD_some]; omega
  unfold twinP at h
  simp only at h
  by_cases hl : l = []
  · rw [if_pos hl] at h; cases h; exact ⟨by omega, by omega⟩
  · rw [if_neg hl] at h
    generalize (if tagB ((piecesP l).headD []) = true then (piecesP l).drop 1 else piecesP l) = qs at h
    by_cases hq : qs = []
    · rw [if_pos hq] at h; cases h
    · rw [if_neg hq] at h
      by_cases ha : (qs.all fun q => (hexP q).isSome) = true
      · rw [if_pos ha] at h
        by_cases hb : (!tagB ((piecesP l).headD []) && qs.length == 1) = true
        · rw [if_pos hb] at h; cases h; exact key _
        · rw [if_neg hb] at h; cases h; exact ⟨by omega, by omega⟩
      · rw [if_neg ha] at h; cases h
/-- what is to be known of a line to write it: with its own name's field, or the other half's -/
theorem back_ok {d : LineD} (hd : DOk d) (h : (scanR d).2 = 0) {r : RowD} {f1 : List UInt8} (hr : r.cat = (scanR d).1.cat ∧ r.comb = (scanR d).1.comb ∧ r.cls = (scanR d).1.cls ∧ r.twin = (scanR d).1.twin) (hn : nameOk f1 = true) (hc : Clean f1) (hg : goodT (S f1)) : ∃ f4 c, BackOk r f1 f4 c := by
  obtain ⟨k1, k2, n, c, t, b, hC, e⟩ := scan_parts h
  rw [e] at hr
  simp only at hr
  have h4 := hd k1 (d.fields.getD 4 []) (getD_mem (by omega))
  have ht := twin_range hC.twin
  exact ⟨d.fields.getD 4 [], c, hn, hc, hg, by rw [hr.1]; exact hC.cat, hr.2.1, comb_leI hC.comb, hr.2.2.1, hC.cls, h4.1, h4.2, by rw [hr.2.2.2]; exact ht.1, by rw [hr.2.2.2]; exact ht.2⟩
theorem half_noneI {l : List UInt8} (h : (halfP l).2 = 0) : halfP l = (l, 0) := by
  unfold halfP at h ⊢
  split
  · rename_i h1
    rw [if_pos h1] at h
    split
    · rename_i h2; rw [if_pos h2] at h; cases h
    · rename_i h2
      rw [if_neg h2] at h
      split
      · rename_i h3; rw [if_pos h3] at h; cases h
      · rfl
  · rfl
theorem half_of {l : List UInt8} : (halfP l).2 = 0 ∨ (halfP l).2 = 1 ∨ (halfP l).2 = 2 := by
  unfold halfP
  (repeat' split) <;> simp
theorem suffix_trim {l p : List UInt8} (h : hasSuffix l p = true) : l = trimSuffix l p ++ p := by
  unfold trimSuffix
  rw [if_pos h]
  have hs : p <:+ l := by
    have : p.isSuffixOf l = true := h
    exact List.isSuffixOf_iff_suffix.1 this
  obtain ⟨t, rfl⟩ := hs
  simp
theorem prefix_60 {l : List UInt8} (h : hasPrefix l [60] = true) : l = 60 :: l.drop 1 := by
  have : ([60] : List UInt8).isPrefixOf l = true := h
  obtain ⟨t, rfl⟩ := List.isPrefixOf_iff_prefix.1 this
  rfl
theorem half_firstI {l : List UInt8} (h : (halfP l).2 = 1) : l = [60] ++ (halfP l).1 ++ firstB := by
  unfold halfP at h ⊢
  split
  · rename_i h1
    rw [if_pos h1] at h
    split
    · rename_i h2
      show l = [60] ++ trimSuffix (l.drop 1) firstB ++ firstB
      rw [List.append_assoc, ← suffix_trim h2.1]
      exact prefix_60 h1
    · rename_i h2
      rw [if_neg h2] at h
      split at h
      · cases h
      · cases h
  · rename_i h1
    rw [if_neg h1] at h
    cases h
theorem half_lastI {l : List UInt8} (h : (halfP l).2 = 2) : l = [60] ++ (halfP l).1 ++ lastB := by
  unfold halfP at h ⊢
  split
  · rename_i h1
    rw [if_pos h1] at h
    split
    · rename_i h2
      rw [if_pos h2] at h
      cases h
    · rename_i h2
      rw [if_neg h2] at h
      split
      · rename_i h3
        show l = [60] ++ trimSuffix (l.drop 1) lastB ++ lastB
        rw [List.append_assoc, ← suffix_trim h3.1]
        exact prefix_60 h1
      · rename_i h3
        rw [if_neg h3] at h
        cases h
  · rename_i h1
    rw [if_neg h1] at h
    cases h
end Go.Proofs.YthjnkagepooeiaaGreatDoor
/-
  For RowsAgain: all rows that are read from a text may be printed.
-/
namespace Go.Proofs.YthjnkagepooeiaaGreatDoor
open Go.PHexM Go.Lib
set_option linter.unusedVariables false
set_option linter.unusedSimpArgs false

def HeldOk (st : WalkD) : Prop := match st.held with
  | none => True
  | some (d0, r0) => DOk d0 ∧ (scanR d0).2 = 0 ∧ whichR d0 = 1 ∧ r0 = plainR d0 ∧ st.above = r0.first
def wtD (d : LineD) : Nat := (d.fields.getD 1 []).length
/-- a row that may be printed -/
structure Told (x : RowD) : Prop where
  ok : okR x (oneT x) = true
  comb : 0 ≤ x.comb ∧ x.comb ≤ 255
  cls : 0 ≤ x.cls ∧ x.cls ≤ 255
  cat : x.cat.length = 2
  nm : 1 ≤ x.name.length
theorem ask_partsI {st : WalkD} {d : LineD} (h : askE st d = 0) : stepE st d 0 = 0 ∧ stepE st d 1 = 0 ∧ stepE st d 2 = 0 ∧ stepE st d 3 = 0 := by
  unfold askE at h
  by_cases h0 : stepE st d 0 = 0
  · rw [if_neg (by simpa using h0)] at h
    by_cases h1 : stepE st d 1 = 0
    · rw [if_neg (by simpa using h1)] at h
      by_cases h2 : stepE st d 2 = 0
      · rw [if_neg (by simpa using h2)] at h
        exact ⟨h0, h1, h2, h⟩
      · rw [if_pos h2] at h; exact absurd h h2
    · rw [if_pos h1] at h; exact absurd h h1
  · rw [if_pos h0] at h; exact absurd h h0
theorem cls_range (l : List UInt8) : 0 ≤ clsP l ∧ clsP l ≤ 255 := by
  unfold clsP
  split
  · have := class_range (looseB (S l)); omega
  · omega
theorem plain_parts {d : LineD} (h : (scanR d).2 = 0) : (plainR d).first = (scanR d).1.first ∧ (plainR d).last = (scanR d).1.first ∧ 0 ≤ (scanR d).1.first ∧ (scanR d).1.first ≤ 1114111 ∧ (scanR d).1.name = d.fields.getD 1 [] := by
  obtain ⟨_, _, n, c, t, b, hC, e⟩ := scan_parts h
  have hn := hexP_le hC.first
  unfold plainR
  rw [e]
  exact ⟨rfl, rfl, by simp, by simp; omega, rfl⟩
theorem half_neI {l : List UInt8} (h : (halfP l).2 = 1) : (halfP l).1 ≠ [] := by
  unfold halfP at h ⊢
  split
  · rename_i h1
    rw [if_pos h1] at h
    split
    · rename_i h2; exact h2.2
    · rename_i h2
      rw [if_neg h2] at h
      split at h
      · cases h
      · cases h
  · rename_i h1
    rw [if_neg h1] at h
    cases h
theorem name_pos {l : List UInt8} (h : nameOk l = true) : 1 ≤ l.length := by
  unfold nameOk at h
  simp only [Bool.and_eq_true, decide_eq_true_eq] at h
  rw [count_charsI] at h
  have := sizeS l
  omega
theorem told_single {d : LineD} (hd : DOk d) (h : (scanR d).2 = 0) (hw : whichR d = 0) : Told (plainR d) ∧ (plainR d).name.length ≤ wtD d := by
  obtain ⟨k1, k2, n, c, t, b, hC, e⟩ := scan_parts h
  have hname : (scanR d).1.name = d.fields.getD 1 [] := by rw [e]
  have hhalf : halfP (d.fields.getD 1 []) = (d.fields.getD 1 [], 0) := by
    refine half_noneI ?_
    unfold whichR at hw
    rw [hname] at hw
    exact hw
  have hpl : plainR d = (scanR d).1 := by
    unfold plainR
    rw [hname, hhalf]
    show { (scanR d).1 with name := d.fields.getD 1 [] } = _
    rw [← hname]
  have hf := hd k1 (d.fields.getD 1 []) (getD_mem (by omega))
  have hn := hexP_le hC.first
  rw [hpl]
  obtain ⟨f4, c', hB⟩ := back_ok hd h (r := (scanR d).1) (f1 := (scanR d).1.name) ⟨rfl, rfl, rfl, rfl⟩ (by rw [hname]; exact hC.name) (by rw [hname]; exact hf.1) (by rw [hname]; exact hf.2)
  refine ⟨⟨back_one hB (by rw [e]; simp) (by rw [e]; simp; omega) (by rw [e]) (by rw [hname]; exact hhalf), ?_, ?_, ?_, by rw [hname]; exact name_pos hC.name⟩, by rw [hname]; exact Nat.le_refl _⟩
  · rw [e]; have := comb_leI hC.comb; simp; omega
  · rw [e]; exact cls_range _
  · rw [e]; exact (cat_plain hC.cat).2
theorem told_pair {d d0 : LineD} (hd : DOk d) (h : (scanR d).2 = 0) (hw : whichR d = 2) (hd0 : DOk d0) (h0 : (scanR d0).2 = 0) (hw0 : whichR d0 = 1) (hn : (plainR d).name = (plainR d0).name) (hup : (plainR d0).first < (plainR d).first) :
    Told { plainR d0 with last := (plainR d).last } ∧ (plainR d0).name.length ≤ wtD d := by
  obtain ⟨k1, k2, n, c, t, b, hC, e⟩ := scan_parts h
  obtain ⟨j1, j2, n0, c0, t0, b0, hC0, e0⟩ := scan_parts h0
  have hname : (scanR d).1.name = d.fields.getD 1 [] := by rw [e]
  have hname0 : (scanR d0).1.name = d0.fields.getD 1 [] := by rw [e0]
  have w2 : (halfP (d.fields.getD 1 [])).2 = 2 := by unfold whichR at hw; rw [hname] at hw; exact hw
  have w1 : (halfP (d0.fields.getD 1 [])).2 = 1 := by unfold whichR at hw0; rw [hname0] at hw0; exact hw0
  have p0 : (plainR d0).name = (halfP (d0.fields.getD 1 [])).1 := by unfold plainR; rw [hname0]
  have p1 : (plainR d).name = (halfP (d.fields.getD 1 [])).1 := by unfold plainR; rw [hname]
  have ea := half_firstI w1
  have eb := half_lastI w2
  rw [← p0] at ea
  rw [← p1, hn] at eb
  have hf := hd k1 (d.fields.getD 1 []) (getD_mem (by omega))
  have hf0 := hd0 j1 (d0.fields.getD 1 []) (getD_mem (by omega))
  obtain ⟨q1, q2, q3, q4, _⟩ := plain_parts h
  obtain ⟨r1, r2, r3, r4, _⟩ := plain_parts h0
  have hr : ({ plainR d0 with last := (plainR d).last } : RowD).cat = (scanR d0).1.cat ∧ ({ plainR d0 with last := (plainR d).last } : RowD).comb = (scanR d0).1.comb ∧ ({ plainR d0 with last := (plainR d).last } : RowD).cls = (scanR d0).1.cls ∧ ({ plainR d0 with last := (plainR d).last } : RowD).twin = (scanR d0).1.twin := ⟨rfl, rfl, rfl, rfl⟩
  obtain ⟨f4, cc, hA⟩ := back_ok hd0 h0 hr (f1 := d0.fields.getD 1 []) hC0.name hf0.1 hf0.2
  obtain ⟨f4', cc', hB⟩ := back_ok hd0 h0 hr (f1 := d.fields.getD 1 []) hC.name hf.1 hf.2
  have hB' : BackOk { plainR d0 with last := (plainR d).last } (d.fields.getD 1 []) f4 cc := ⟨hB.name, hB.clean1, hB.good1, hA.cat, hA.comb, hA.combL, hA.cls, hA.clsN, hA.clean4, hA.good4, hA.twin0, hA.twin1⟩
  refine ⟨⟨?_, ?_, ?_, ?_, by show 1 ≤ (plainR d0).name.length; rw [p0]; exact List.length_pos_iff.2 (half_neI w1)⟩, ?_⟩
  · refine back_many (r := { plainR d0 with last := (plainR d).last }) (f4 := f4) (c := cc) ?_ ?_ ?_ ?_ ?_ ?_ ?_
    · show BackOk _ ([60] ++ (plainR d0).name ++ firstB) f4 cc
      rw [← ea]; exact hA
    · show BackOk _ ([60] ++ (plainR d0).name ++ lastB) f4 cc
      rw [← eb]; exact hB'
    · show 0 ≤ (plainR d0).first
      omega
    · show (plainR d).last ≤ 1114111
      omega
    · show (plainR d0).first < (plainR d).last
      omega
    · show halfP ([60] ++ (plainR d0).name ++ firstB) = ((plainR d0).name, 1)
      rw [← ea]
      exact Prod.ext p0.symm w1
    · show halfP ([60] ++ (plainR d0).name ++ lastB) = ((plainR d0).name, 2)
      rw [← eb]
      exact Prod.ext (by rw [← p1]; exact hn) w2
  · show 0 ≤ (scanR d0).1.comb ∧ (scanR d0).1.comb ≤ 255
    rw [e0]; have := comb_leI hC0.comb; simp; omega
  · show 0 ≤ (scanR d0).1.cls ∧ (scanR d0).1.cls ≤ 255
    rw [e0]; exact cls_range _
  · show (scanR d0).1.cat.length = 2
    rw [e0]; exact (cat_plain hC0.cat).2
  · unfold wtD
    have := congrArg List.length eb
    simp only [List.length_append] at this
    omega
end Go.Proofs.YthjnkagepooeiaaGreatDoor
/-
  For RowsAgain: all rows that are read from a text may be printed; how long their names are together.
-/
namespace Go.Proofs.YthjnkagepooeiaaGreatDoor
open Go.PHexM Go.Lib
set_option linter.unusedVariables false
set_option linter.unusedSimpArgs false

def nmS (l : List (RowD × Int)) : Nat := (l.map fun p => p.1.name.length).sum
def wtS (l : List LineD) : Nat := (l.map wtD).sum
theorem each_all : ∀ (ds : List LineD) (st : WalkD), (∀ d ∈ ds, DOk d) → HeldOk st → (∀ p ∈ eachR st ds, p.2 = 0) → (∀ p ∈ eachR st ds, Told p.1) ∧ nmS (eachR st ds) ≤ wtS ds
  | [], st, _, _, ha => by
    unfold eachR lastR at ha ⊢
    cases hh : st.held with
    | none => exact ⟨fun p hp => (by cases hp), Nat.le_refl _⟩
    | some x =>
      rw [hh] at ha
      exact absurd (ha _ (List.mem_singleton.2 rfl)) (by simp)
  | d :: ds, st, hd, hst, ha => by
    have hd' : ∀ x ∈ ds, DOk x := fun x hx => hd x (by simp [hx])
    have hdd := hd d (by simp)
    have hw : wtS (d :: ds) = wtD d + wtS ds := by simp [wtS]
    rw [hw]
    rw [eachR] at ha ⊢
    unfold stepR at ha ⊢
    by_cases h1 : d.kind = 0 ∨ d.kind = 3
    · rw [if_pos h1] at ha ⊢
      have ih := each_all ds st hd' hst (by simpa using ha)
      exact ⟨by simpa using ih.1, by have := ih.2; simp only [List.nil_append]; omega⟩
    · rw [if_neg h1] at ha ⊢
      by_cases h2 : askE st d = 0
      · rw [if_neg (by simpa using h2)] at ha ⊢
        obtain ⟨s0, s1, s2, s3⟩ := ask_partsI h2
        have s0' : (scanR d).2 = 0 := s0
        by_cases h3 : whichR d = 1
        · rw [if_pos h3] at ha ⊢
          have ih := each_all ds ⟨(plainR d).first, some (d, plainR d)⟩ hd' ⟨hdd, s0', h3, rfl, rfl⟩ (by simpa using ha)
          exact ⟨by simpa using ih.1, by have := ih.2; simp only [List.nil_append]; omega⟩
        · rw [if_neg h3] at ha ⊢
          by_cases h4 : whichR d = 2
          · rw [if_pos h4] at ha ⊢
            obtain ⟨⟨d0, r0⟩, hh⟩ := name_zero s1 h4
            have hst' : DOk d0 ∧ (scanR d0).2 = 0 ∧ whichR d0 = 1 ∧ r0 = plainR d0 ∧ st.above = r0.first := by
              unfold HeldOk at hst
              rw [hh] at hst
              exact hst
            obtain ⟨g1, g2, g3, g4, g5⟩ := hst'
            have hrow : heldRow st = plainR d0 := by unfold heldRow; rw [hh]; exact g4
            have hnm : (plainR d).name = (plainR d0).name := by
              have s1' : nameE (heldK st == 1) (whichR d == 2) ((plainR d).name == (heldRow st).name) = 0 := s1
              rw [h4, hrow, show heldK st = 1 by unfold heldK; rw [hh]] at s1'
              unfold nameE at s1'
              cases hb : ((plainR d).name == (plainR d0).name)
              · rw [hb] at s1'; simp at s1'
              · exact eq_of_beq hb
            have hup : (plainR d0).first < (plainR d).first := by
              have s2' : (if (plainR d).first ≤ st.above then 62 else 0 : Int) = 0 := s2
              by_cases hle : (plainR d).first ≤ st.above
              · rw [if_pos hle] at s2'; cases s2'
              · rw [g5, g4] at hle; omega
            obtain ⟨t1, t2⟩ := told_pair hdd s0' h4 g1 g2 g3 hnm hup
            rw [hrow] at ha ⊢
            have ih := each_all ds ⟨(plainR d).first, none⟩ hd' trivial (fun p hp => ha p (List.mem_append_right _ hp))
            refine ⟨fun p hp => ?_, ?_⟩
            · rcases List.mem_append.1 hp with hp | hp
              · rw [List.mem_singleton.1 hp]; exact t1
              · exact ih.1 p hp
            · have i2 := ih.2
              unfold nmS at i2 ⊢
              rw [List.map_append, List.sum_append]
              simp only [List.map_cons, List.map_nil, List.sum_cons, List.sum_nil]
              omega
          · rw [if_neg h4] at ha ⊢
            have hw0 : whichR d = 0 := by
              have := half_of (l := (scanR d).1.name)
              unfold whichR at h3 h4 ⊢
              rcases this with h | h | h
              · exact h
              · exact absurd h h3
              · exact absurd h h4
            have hheld : st.held = none := by
              cases hh : st.held with
              | none => rfl
              | some x =>
                have s1' : nameE (heldK st == 1) (whichR d == 2) ((plainR d).name == (heldRow st).name) = 0 := s1
                rw [hw0, show heldK st = 1 by unfold heldK; rw [hh]] at s1'
                simp [nameE] at s1'
            obtain ⟨t1, t2⟩ := told_single hdd s0' hw0
            have ih := each_all ds ⟨(plainR d).first, st.held⟩ hd' (by unfold HeldOk; rw [hheld]; trivial) (fun p hp => ha p (List.mem_append_right _ hp))
            refine ⟨fun p hp => ?_, ?_⟩
            · rcases List.mem_append.1 hp with hp | hp
              · rw [List.mem_singleton.1 hp]; exact t1
              · exact ih.1 p hp
            · have i2 := ih.2
              unfold nmS at i2 ⊢
              rw [List.map_append, List.sum_append]
              simp only [List.map_cons, List.map_nil, List.sum_cons, List.sum_nil]
              omega
      · rw [if_pos (by simpa using h2)] at ha
        exact absurd (ha (_, askE st d) (List.mem_append_left _ (List.mem_singleton.2 rfl))) h2

theorem lines_nextI (s : ByteArray) (no a : Nat) (h : a < s.size) : linesI s no a = (no, a, endTo s a) :: (if hasEnd s a = true then linesI s (no + 1) (endNext s a) else []) := by
  unfold linesI
  rw [extsI_step s no a (by omega), List.takeWhile_cons, if_pos (by simp; omega)]
  split <;> simp
theorem lines_sum (s : ByteArray) : ∀ (k no i : Nat), s.size - i ≤ k → i ≤ s.size → ((linesI s no i).map fun x => x.2.2 - x.2.1).sum ≤ s.size - i := by
  intro k
  induction k with
  | zero =>
    intro no i h1 h2
    obtain rfl : i = s.size := by omega
    rw [linesI_end]; simp
  | succ k ih =>
    intro no i h1 h2
    by_cases h3 : i < s.size
    · have hb := end_bounds s i h2
      rw [lines_nextI s no i h3]
      by_cases he : hasEnd s i = true
      · rw [if_pos he]
        have := ih (no + 1) (endNext s i) (by have := hb.2.2.2.2.1 he; omega) hb.2.2.2.1
        simp only [List.map_cons, List.sum_cons]
        omega
      · rw [if_neg he]
        simp only [List.map_cons, List.map_nil, List.sum_cons, List.sum_nil]
        omega
    · obtain rfl : i = s.size := by omega
      rw [linesI_end]; simp
theorem sum_le {α : Type} (f g : α → Nat) : ∀ l : List α, (∀ x ∈ l, f x ≤ g x) → (l.map f).sum ≤ (l.map g).sum
  | [], _ => by simp
  | a :: l, h => by
    have := sum_le f g l (fun x hx => h x (by simp [hx]))
    have h1 := h a (by simp)
    simp only [List.map_cons, List.sum_cons]
    omega
theorem wt_scan (s : ByteArray) (x : Nat × Nat × Nat) : wtD (scanX s x).1 ≤ x.2.2 - x.2.1 := by
  unfold wtD
  by_cases h : 1 < (scanX s x).1.fields.length
  · have hm := getD_mem h
    have := scan_field_le (no := (x.1 : Nat)) (s := s.extract x.2.1 x.2.2) hm
    have hs : (s.extract x.2.1 x.2.2).size ≤ x.2.2 - x.2.1 := by simp [ByteArray.size_extract]; omega
    omega
  · rw [List.getD_eq_getElem?_getD, List.getElem?_eq_none (by omega)]
    simp
/-- all that is read from a text: each row may be printed, and their names are no longer than the text -/
theorem rows_told {s : ByteArray} (h : (rowsS s).2 = none) : (∀ r ∈ (rowsS s).1, Told r) ∧ ((rowsS s).1.map fun r => r.name.length).sum ≤ s.size := by
  have hr : (readS s).2 = none := by
    cases hr : (readS s).2 with
    | none => rfl
    | some z => unfold rowsS at h; rw [hr] at h; cases h
  have e : rowsS s = tellR (eachR startW (readS s).1) := by unfold rowsS; rw [hr]
  rw [e] at h ⊢
  have hall : ∀ p ∈ eachR startW (readS s).1, p.2 = 0 := by
    intro p hp
    refine Decidable.byContradiction fun hne => ?_
    have key : ∀ l : List (RowD × Int), p ∈ l → (tellR l).2 ≠ none := by
      intro l
      induction l with
      | nil => intro h; cases h
      | cons a l ih =>
        intro hm
        unfold tellR
        by_cases ha : a.2 = 0
        · rw [if_pos ha]
          rcases List.mem_cons.1 hm with rfl | hm
          · exact absurd ha hne
          · exact ih hm
        · rw [if_neg ha]; simp
    exact key _ hp h
  obtain ⟨t1, t2⟩ := each_all (readS s).1 startW (read_dok hr) trivial hall
  rw [tell_ok _ hall]
  refine ⟨fun r hr => ?_, ?_⟩
  · obtain ⟨p, hp, rfl⟩ := List.mem_map.1 hr
    exact t1 p hp
  · rw [List.map_map]
    refine Nat.le_trans t2 ?_
    unfold wtS
    rw [read_all (read_none hr), List.map_map]
    refine Nat.le_trans (sum_le _ (fun x : Nat × Nat × Nat => x.2.2 - x.2.1) _ (fun x _ => wt_scan s x)) ?_
    rw [← linesL_I]
    have hmk : markN s ≤ s.size := by
      rw [markN_eq]
      split
      · rename_i hh; exact hh.1
      · omega
    have := lines_sum s s.size 1 (markN s) (by omega) hmk
    omega
end Go.Proofs.YthjnkagepooeiaaGreatDoor
/-
  The law RowsAgain, walked.
-/
namespace Go.Proofs.YthjnkagepooeiaaGreatDoor
open Go.RowKit Go.PlainAid Go.Lib Go.PHexM Go.Shelf
set_option linter.unusedVariables false
set_option linter.unusedSimpArgs false

theorem rise_at : ∀ (rs : List RowD) (a : Int), Rise a rs → ∀ (i : Nat) (r : RowD), 0 < i → rs[i]? = some r → ((rs[i - 1]?).getD zeroR).last < r.first
  | [], _, _, i, r, _, h => by simp at h
  | x :: l, a, hR, i, r, h0, h => by
    obtain ⟨_, _, _, hl⟩ := hR
    match i, h0 with
    | 1, _ =>
      simp only [List.getElem?_cons_succ] at h
      cases l with
      | nil => simp at h
      | cons y l =>
        simp only [List.getElem?_cons_zero, Option.some.injEq] at h
        subst h
        exact hl.1
    | i + 2, _ =>
      simp only [List.getElem?_cons_succ] at h
      have := rise_at l x.last hl (i + 1) r (by omega) h
      simpa using this
theorem chk_all {rs : List RowD} (ht : ∀ r ∈ rs, Told r) (hR : Rise (-1) rs) : chkR rs = 0 := by
  have key : ∀ i, i ≤ rs.length → chkR rs = chkGo rs (rs.length - i) i := by
    intro i
    induction i with
    | zero => intro _; rfl
    | succ i ih =>
      intro hi
      obtain ⟨r, hx⟩ : ∃ r, rs[i]? = some r := ⟨_, List.getElem?_eq_getElem (by omega)⟩
      refine chk_good (ih (by omega)) (by omega) ?_
      rw [st_at hx, if_neg (by rw [(ht r (List.mem_of_getElem? hx)).ok]; decide), if_neg ?_]
      rintro ⟨h0, hle⟩
      have := rise_at rs (-1) hR i r h0 hx
      omega
  rw [key rs.length (Nat.le_refl _), Nat.sub_self]
  rfl
theorem sum_mem {l : List RowD} {r : RowD} (h : r ∈ l) : r.name.length ≤ (l.map fun r => r.name.length).sum := by
  induction l with
  | nil => cases h
  | cons a l ih =>
    simp only [List.map_cons, List.sum_cons]
    rcases List.mem_cons.1 h with rfl | h
    · omega
    · have := ih h; omega
theorem sum_all {l : List RowD} (h : ∀ r ∈ l, Told r) : l.length ≤ (l.map fun r => r.name.length).sum ∧ sumR l = (l.map fun r => r.name.length).sum + 2 * l.length := by
  induction l with
  | nil => exact ⟨Nat.le_refl _, rfl⟩
  | cons a l ih =>
    have ha := h a (by simp)
    obtain ⟨i1, i2⟩ := ih (fun r hr => h r (by simp [hr]))
    have h1 := ha.nm
    have h2 := ha.cat
    unfold sumR at i2 ⊢
    simp only [List.map_cons, List.sum_cons, List.length_cons]
    exact ⟨by omega, by omega⟩

set_option maxRecDepth 100000 in
set_option maxHeartbeats 4000000 in
theorem again_walk (s : ByteArray) (w : World) (hg : Glob w) (ht : tz16At w) (hs : s.size ≤ 1048576) :
    Calls Tryz.prog 9 #[.string s] w fun e w' => e = .returned (.bool true) ∧ Below w.heap.size w w' := by
  have HAW := hide (awake6_any w hg)
  have HG := hide hg
  have HT := hide ht
  clear hg ht
  go_enter Tryz.func9, Tryz.ntmps9
  go_wp2_with fail
  refine (unhide HAW).mono ?_
  rintro e w1 ⟨rfl, hb1⟩
  have B1 := hide hb1
  have HR := hide (read6_any ⟨#[120]⟩ s w1 ((unhide HG).below hb1) (by omega))
  clear hb1 HAW
  go_wp2_with fail
  refine (unhide HR).mono ?_
  rintro e w2 ⟨hb2, (⟨hno, v, rfl, ho⟩ | ⟨no, code, fb, hf, rfl, _, _⟩)⟩
  · have B2 := hide ((unhide B1).trans (hb2.mono (unhide B1).size))
    obtain ⟨k1, k2⟩ := rows_told hno
    have hch := chk_all k1 (rows_rise hno)
    obtain ⟨n1, n2⟩ := sum_all k1
    obtain ⟨a, c, rfl, hc, hm⟩ := rowsAt_mem ho
    obtain ⟨rs, hrs⟩ : ∃ rs, (rowsS s).1 = rs := ⟨_, rfl⟩
    rw [hrs] at k1 k2 hch n1 n2 hm hc ⊢
    obtain ⟨n, hn⟩ : ∃ n, rs.length = n := ⟨_, rfl⟩
    have hro : ∀ r ∈ rs, RowOk r := fun r hr => by
      have h := k1 r hr
      have h2 := sum_mem hr
      have h3 := h.cat
      exact ⟨h.comb.1, h.comb.2, h.cls.1, h.cls.2, by omega⟩
    have hz := text_sum rs hro rs.length (Nat.le_refl _)
    rw [List.take_length] at hz
    have hPE : printT rs = textR rs rs.length := by unfold printT; rw [hch, if_pos rfl]
    obtain ⟨q1, q2⟩ := back_rows hch
    rw [← hPE] at q1 q2 hz
    have HP := hide (print6_any rs a n c w2 ((unhide HG).below (unhide B2)) (tz16_below (unhide HT) (unhide B2)) hn (by omega) hro hm)
    rw [hch] at HP
    have hPs : (printT rs).size ≤ 1073741824 := by omega
    have hlen := all2_len q2
    rw [hn] at hlen ⊢
    have hnb : n ≤ 1048576 := by omega
    generalize printT rs = PT at *
    have K1 := hide q1
    have K2 := hide q2
    have HLN := hide hlen
    have HM := hide hm
    have HRO := hide hro
    have HN := hide hn
    have HCH := hide hch
    have HPS := hide hPs
    clear HR k1 k2 hch n1 n2 hc hm ho hro hz hPE q1 q2 hPs hlen hn hrs hb2 hno
    go_wp2_with fail
    refine (unhide HP).mono ?_
    rintro e w3 ⟨rfl, hb3⟩
    have B3 := hide ((unhide B2).trans (hb3.mono (unhide B2).size))
    have HM3 := hide ((unhide HM).below hb3)
    have HR := hide (read6_any ⟨#[121]⟩ PT w3 ((unhide HG).below (unhide B3)) (unhide HPS))
    clear hb3 HP HM
    go_wp2_with fail
    refine (unhide HR).mono ?_
    rintro e w4 ⟨hb4, (⟨_, v, rfl, ho⟩ | ⟨no, code, fb, hf, _⟩)⟩
    rotate_left
    · rw [unhide K1] at hf; cases hf
    have B4 := hide ((unhide B3).trans (hb4.mono (unhide B3).size))
    have HM4 := hide ((unhide HM3).below hb4)
    obtain ⟨oa, oc, rfl, hoc, hom⟩ := rowsAt_mem ho
    have HS := hide (sameButL_yes _ rs oa a n oc c w4 (unhide K2) (unhide HLN).symm (by omega) hom (unhide HM4))
    rw [← unhide HLN]
    clear ho hom hb4 HR HM3
    go_wp2_with fail
    refine (unhide HS).mono ?_
    rintro e w5 ⟨rfl, hb5⟩
    have B5 := hide ((unhide B4).trans (hb5.mono (unhide B4).size))
    have HK := hide (check6_any rs a n c w5 ((unhide HG).below (unhide B5)) (tz16_below (unhide HT) (unhide B5)) (unhide HN) (by omega) (unhide HRO) ((unhide HM4).below hb5))
    rw [unhide HCH] at HK
    clear hb5 HS
    go_wp2_with fail
    refine (unhide HK).mono ?_
    rintro e w6 ⟨rfl, hb6⟩
    have hB6 := (unhide B5).trans (hb6.mono (unhide B5).size)
    go_wp2
    go_ret
    exact ⟨rfl, hB6⟩
  · have hB2 := (unhide B1).trans (hb2.mono (unhide B1).size)
    clear hf HR
    go_wp2
    go_ret
    exact ⟨rfl, hB2⟩
end Go.Proofs.YthjnkagepooeiaaGreatDoor
