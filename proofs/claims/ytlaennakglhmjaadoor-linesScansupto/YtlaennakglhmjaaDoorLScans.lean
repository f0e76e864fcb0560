/-
  LinesScans: what a line is, or the error, is the document's, in memory of its own, for every number and every line of at most 1048574 bytes; the listed variables of Go's library hold what its text lays.
-/
import Derived.Test.YtlaennakglhmjaaDoorLSame2
import Derived.Test.YtlaennakglhmjaaDoorRScan
import Derived.Test.YtlaennakglhmjaaDoorLUpto
namespace Go.Proofs.YtlaennakglhmjaaDoor.linesScans
open Go.ChangeShapes Go.WideShapes Go.ChangeAt Go.RowKit
open Go.ChangeMaps (open_string shut_string)
set_option linter.unusedVariables false

set_option maxRecDepth 100000 in
set_option maxHeartbeats 2000000 in
theorem walk (no : Int) (s : ByteArray) (w : World) (hg : errTypeAt w) (hs : s.size ≤ 1048576) :
    Calls Tryd.prog 6 #[.int .i64 no, .string s] w fun e w' => e = .returned (.bool true) ∧ Below w.heap.size w w' := by
  have H1 := fun w => scan_any no s w (by omega)
  have H2 := fun w => refScan_any no s w (by omega)
  have hlen := scan_len no s
  generalize (scanS no s).1 = d at H1 H2 hlen
  generalize (scanS no s).2 = K at H1 H2
  have h1 := hide H1
  have h2 := hide H2
  clear H1 H2
  have hl : d.fields.length ≤ 1099511627776 := by omega
  go_enter Tryd.func6, Tryd.ntmps6
  go_wp2_with fail
  refine (unhide h1 _).mono ?_
  rintro e w1 ⟨va, rfl, ha, hb1⟩
  obtain ⟨A1, hA1⟩ : ∃ A1, w1.alloc (.cells #[.int .i64 d.no, .int .u8 d.kind, .string (S d.name), va, .string (S d.note)] 47) = A1 := ⟨_, rfl⟩
  obtain ⟨aa, ca, rfl, ta⟩ := texts_row ha
  go_wp2_with fail
  refine (unhide h1 _).mono ?_
  rintro e w2 ⟨vb, rfl, hb, hb2⟩
  obtain ⟨A2, hA2⟩ : ∃ A2, w2.alloc (.cells #[.int .i64 d.no, .int .u8 d.kind, .string (S d.name), vb, .string (S d.note)] 47) = A2 := ⟨_, rfl⟩
  obtain ⟨ab, cb, rfl, tb⟩ := texts_row hb
  go_wp2_with fail
  refine (unhide h2 _).mono ?_
  rintro e w3 ⟨vc, rfl, hc, hb3⟩
  obtain ⟨A3, hA3⟩ : ∃ A3, w3.alloc (.cells #[.int .i64 d.no, .int .u8 d.kind, .string (S d.name), vc, .string (S d.note)] 47) = A3 := ⟨_, rfl⟩
  obtain ⟨ac, cc, rfl, tc⟩ := texts_row hc
  have sA1 : A1.heap.size = w1.heap.size + 1 := by rw [← hA1]; simp
  have sA2 : A2.heap.size = w2.heap.size + 1 := by rw [← hA2]; simp
  have sA3 : A3.heap.size = w3.heap.size + 1 := by rw [← hA3]; simp
  have z1 := hb1.size
  have z2 := hb2.size
  have z3 := hb3.size
  have B1 : Below w.heap.size w A1 := by rw [← hA1]; exact hb1.alloc hb1.size _
  have B12 : Below A1.heap.size A1 A2 := by rw [← hA2]; exact hb2.alloc hb2.size _
  have B23 : Below A2.heap.size A2 A3 := by rw [← hA3]; exact hb3.alloc hb3.size _
  have B13 : Below A1.heap.size A1 A3 := B12.trans (B23.mono B12.size)
  have BA : Below w.heap.size w A3 := B1.trans (B13.mono B1.size)
  -- what stands in memory there
  have ra : TextsAt A3 w.heap.size (.slice aa d.fields.length ca) d.fields := rowB (by rw [← hA1]; exact World.ownsRow.alloc ha _) B13
  have rb : TextsAt A3 A1.heap.size (.slice ab d.fields.length cb) d.fields := rowB (by rw [← hA2]; exact World.ownsRow.alloc hb _) B23
  have rc : TextsAt A3 A2.heap.size (.slice ac d.fields.length cc) d.fields := by rw [← hA3]; exact World.ownsRow.alloc hc _
  have g5 : A3.heap[w1.heap.size]? = some (.cells #[.int .i64 d.no, .int .u8 d.kind, .string (S d.name), .slice aa d.fields.length ca, .string (S d.note)] 47) := blkB (by rw [← hA1]; exact heap_alloc_new w1 _) B13
  have g7 : A3.heap[w2.heap.size]? = some (.cells #[.int .i64 d.no, .int .u8 d.kind, .string (S d.name), .slice ab d.fields.length cb, .string (S d.note)] 47) := blkB (by rw [← hA2]; exact heap_alloc_new w2 _) B23
  have g9 : A3.heap[w3.heap.size]? = some (.cells #[.int .i64 d.no, .int .u8 d.kind, .string (S d.name), .slice ac d.fields.length cc, .string (S d.note)] 47) := by rw [← hA3]; exact heap_alloc_new w3 _
  have la : ∀ k, (Value.slice aa d.fields.length ca).ownBlock = some k → k < w1.heap.size := fun k e => (World.ownsRow.lt ha k e).2
  have lb : ∀ k, (Value.slice ab d.fields.length cb).ownBlock = some k → A1.heap.size ≤ k := fun k e => (World.ownsRow.lt rb k e).1
  have lc : ∀ k, (Value.slice ac d.fields.length cc).ownBlock = some k → A2.heap.size ≤ k := fun k e => (World.ownsRow.lt rc k e).1
  have NE1 : Hid ((Value.slice ab d.fields.length cb).ownBlock = none ∨ (Value.slice ab d.fields.length cb).ownBlock ≠ (Value.slice aa d.fields.length ca).ownBlock) := by
    show _ ∨ _
    cases h : (Value.slice ab d.fields.length cb).ownBlock with
    | none => exact .inl rfl
    | some k => exact .inr fun e => by have := lb k h; have := la k e.symm; omega
  have NE2 : Hid ((Value.slice ac d.fields.length cc).ownBlock = none ∨ (Value.slice ac d.fields.length cc).ownBlock ≠ (Value.slice aa d.fields.length ca).ownBlock) := by
    show _ ∨ _
    cases h : (Value.slice ac d.fields.length cc).ownBlock with
    | none => exact .inl rfl
    | some k => exact .inr fun e => by have := lc k h; have := la k e.symm; omega
  have NE3 : Hid (∀ k, w1.heap.size ≤ k → some k ≠ (Value.slice aa d.fields.length ca).ownBlock) := fun k hk e => by have := la k e.symm; omega
  obtain ⟨_, _, ea, ta3⟩ := texts_row ra
  obtain ⟨rfl, rfl⟩ : aa = _ ∧ ca = _ := by simpa using ea
  obtain ⟨_, _, ec, tc3⟩ := texts_row rc
  obtain ⟨rfl, rfl⟩ : ac = _ ∧ cc = _ := by simpa using ec
  have HS1 := hide (refSame_yes d aa ac ca cc A3 hl ta3 tc3)
  dsimp only [lineV] at HS1
  obtain ⟨p0, p1, p2, p3, p4, -, -, -, -, -⟩ := box5 g5
  obtain ⟨q0, q1, q2, q3, q4, -, -, -, -, -⟩ := box5 g9
  have HG5 := hide g5
  have HG7 := hide g7
  have HG9 := hide g9
  have HRA := hide ra
  have HRB := hide rb
  have HRC := hide rc
  have HBA := hide BA
  have hlt5 : w1.heap.size < A3.heap.size := by omega
  have hlt7 : w2.heap.size < A3.heap.size := by omega
  have hlt9 : w3.heap.size < A3.heap.size := by omega
  have h57 : w.heap.size ≤ w1.heap.size ∧ w1.heap.size ≤ w2.heap.size ∧ w2.heap.size ≤ w3.heap.size := by omega
  clear hA1 hA2 ha hb hc ta tb tc hb1 hb2 hb3 B1 B12 B23 B13 BA ra rb rc g5 g7 g9 la lb lc ea ec ta3 tc3 sA1 sA2 sA3 z1 z2 z3
  have hz := (unhide HBA).size
  go_wp2_with fail
  refine (unhide HS1).mono ?_
  rintro e w4 ⟨rfl, hb4⟩
  clear p0 p1 p2 p3 p4 q0 q1 q2 q3 q4 hA3
  have ra4 := rowB (unhide HRA) hb4
  have hB4 : Below w.heap.size w w4 := (unhide HBA).trans (hb4.mono hz)
  have g5 := blkB (unhide HG5) hb4
  obtain ⟨p0, p1, p2, p3, p4, -, -, -, -, -⟩ := box5 g5
  have HSP := hide (spoil_any w.heap.size (.slice aa d.fields.length ca) d.fields.length _ w4 hl (by have := hb4.size; omega) ra4)
  go_wp2_with fail
  refine (unhide HSP).mono ?_
  rintro e w5 ⟨⟨u, rfl⟩, hgr⟩
  clear p0 p1 p2 p3 p4
  have hB5 : Below w.heap.size w w5 := belowG hB4 hB4.size ra4 hgr
  have rb5 : TextsAt w5 A1.heap.size (.slice ab d.fields.length cb) d.fields := World.ownsRow.kept (rowB (unhide HRB) hb4) hgr NE1.out
  have rc5 : TextsAt w5 A2.heap.size (.slice ac d.fields.length cc) d.fields := World.ownsRow.kept (rowB (unhide HRC) hb4) hgr NE2.out
  have z4 := hb4.size
  have g7 := (hgr.block w2.heap.size (by omega) (NE3.out _ (by omega))).trans (blkB (unhide HG7) hb4)
  have g9 := (hgr.block w3.heap.size (by omega) (NE3.out _ (by omega))).trans (blkB (unhide HG9) hb4)
  obtain ⟨p0, p1, p2, p3, p4, -, -, -, -, -⟩ := box5 g7
  obtain ⟨q0, q1, q2, q3, q4, -, -, -, -, -⟩ := box5 g9
  obtain ⟨_, _, eb, tb5⟩ := texts_row rb5
  obtain ⟨rfl, rfl⟩ : ab = _ ∧ cb = _ := by simpa using eb
  obtain ⟨_, _, ec, tc5⟩ := texts_row rc5
  obtain ⟨rfl, rfl⟩ : ac = _ ∧ cc = _ := by simpa using ec
  have HS2 := hide (refSame_yes d ab ac cb cc w5 hl tb5 tc5)
  dsimp only [lineV] at HS2
  have HB5 := hide hB5
  clear hB4 hB5 rb5 rc5 tb5 tc5 eb ec hgr hb4 g5 g7 g9 ra4
  go_wp2_with fail
  refine (unhide HS2).mono ?_
  rintro e w6 ⟨rfl, hb6⟩
  clear p0 p1 p2 p3 p4 q0 q1 q2 q3 q4
  have hB6 : Below w.heap.size w w6 := (unhide HB5).trans (hb6.mono (unhide HB5).size)
  have HG6 := hide (errType_below hg hB6)
  go_wp2_with (go_at_call 13; refine (awake_any _ (unhide HG6)).mono ?_; rintro e w7 ⟨rfl, hb7⟩)
  go_ret
  exact ⟨rfl, hB6.trans (hb7.mono hB6.size)⟩

theorem laidOut : laidOutB Tryd.prog = true := by kernel_rfl

set_option maxRecDepth 100000 in
theorem contract (H : Type) (enc : TypeId × Value → H) (W : World) (base : Nat) (args : Array Value) (ds gs : List (DataW H)) (before : List MemPlace)
    (hval : ∀ (j : Nat) t v, Tryd.f6.params[j]? = some t → args[j]? = some v → Value.okWide Tryd.prog W .any base t v)
    (hW : DataW.Whole enc Tryd.prog Tryd.f6.params.toList Rows.linesScansSpec.vars false W args.toList ds gs before) (hk : Rows.uptoSmall H (ds ++ gs) = true) (hL : laidMetH Tryd.prog laid3 W) :
    Calls Tryd.prog 6 args W fun e W' => ∃ v, e = .returned v ∧ Rows.linesScansSpec.post enc Tryd.prog Tryd.f6 false true false false W args v W' := by
  have hW' := hW
  obtain ⟨p, q, hA0, hV, rfl, hfz, hnd⟩ := hW
  have hA : DataW.TrodAll enc Tryd.prog W 0 (fun _ => true) true Tryd.f6.params.toList args.toList ds p := hA0
  rw [Tryd.params6] at hA hval
  obtain ⟨v0, vs0, d0, ds0, p0, q0, hargs, rfl, rfl, h0, r0⟩ := trodAll_cons hA
  obtain ⟨v1, vs1, d1, ds1, p1, q1, rfl, rfl, rfl, h1, r1⟩ := trodAll_cons r0
  obtain ⟨rfl, rfl, rfl⟩ := trodAll_nil r1
  obtain rfl : args = #[v0, v1] := by cases args; simp_all
  obtain ⟨rfl, rfl⟩ := trodVars_none hV
  obtain ⟨a0, rfl, hd0, rfl, w0⟩ := open_int Tryd.underlying3 (hval 0 3 v0 rfl rfl) h0
  obtain ⟨a1, rfl, rfl, rfl, w1⟩ := open_string Tryd.underlying9 (hval 1 9 v1 rfl rfl) h1
  have hk' : Rows.uptoSmall H [d0, .lit (.string a1.data.toList)] = true := hk
  have hb := bulk_bound hk'
  simp only [Rows.uptoBulkAll] at hb
  rw [bulk_string a1] at hb
  have c1 : a1.size ≤ 1048576 := by omega
  clear hA0
  have hwk := walk a0 a1 W (errType_of_laid hL) c1
  subst hd0
  refine hwk.mono fun e W' ⟨he, bel⟩ => ?_
  subst he
  exact ⟨_, rfl, _, _, _, [], _, [], hW', trodAll_mk1 (shut_bool Tryd.underlying4 _), (trodAll_cons_mk (shut_int Tryd.underlying3 w0) (trodAll_cons_mk (shut_string Tryd.underlying9 w1) trodAll_mk0)), rfl, bel.frame _, fun h => by cases h⟩

set_option maxRecDepth 100000 in
theorem lifted (os : Os) (started : os.Started) (H : Type) (enc : TypeId × Value → H) (F : Stop.Interp) :
    ReturnsInHanded {} Tryd.checked os 6 .any ((Rows.OpenSpec.upto Rows.linesScansSpec).preRow enc Tryd.prog Tryd.f6 Rows.linesScansUptoRow.domain false Rows.linesScansUptoRow.laid) (((Rows.OpenSpec.upto Rows.linesScansSpec).at F).post enc Tryd.prog Tryd.f6 false true false false) := by
  refine returnsInHanded_of_row (C := Tryd.checked) (s := Rows.OpenSpec.upto Rows.linesScansSpec) own3 started (by kernel_rfl) Tryd.func6
    (witness_row_shaped (enc := enc) (C := Tryd.checked) (witW os) #[.int .i64 0, .string ByteArray.empty] (witW_os os) (World.shaped_of_ZipB (by kernel_rfl) (by kernel_rfl)) (by kernel_rfl)
      (OpenSpec.preRow_of_cond 8 (x := ([.lit (.int .i64 0), .lit (.string [])], [], [])) (by kernel_rfl) (by kernel_rfl) (fun k hk => by cases hk; kernel_rfl) (by kernel_rfl) (laidMetH_of_parts (laidMet_over _ (by kernel_rfl) (by kernel_rfl)) (by kernel_rfl)))) ?_
  intro W base args ds gs before hval hW _ hcond _ hL _ _
  exact contract H enc W base args ds gs before hval hW (hcond _ rfl) hL

theorem over : Rows.LinesScansUptoSaid :=
  OpenClaim.holds_of_cond 6 Tryd.f6 rfl rfl rfl rfl rfl rfl rfl ⟨rfl, rfl, rfl, rfl, rfl⟩ rfl rfl rfl rfl rfl (by kernel_rfl) Tryd.func6 (by kernel_rfl)
    (of_decide_eq_true (by kernel_rfl)) (by unfold Func.isWrapper; first | (rw [if_pos (by decide +kernel)]; kernel_rfl) | (rw [if_neg (by decide +kernel)]; exact ⟨rfl, rfl⟩))
    (fun os started H enc _ F => by rw [OpenClaim.pre_eq_preRow]; exact lifted os started H enc F)

end Go.Proofs.YtlaennakglhmjaaDoor.linesScans
namespace Go.Proofs.YtlaennakglhmjaaDoor
theorem linesScans_uptocard : Rows.LinesScansUptoCardSaid :=
  Claim7.holds_tied_plain_at .later [] [.data, .handle, .pinned] true _ true linesScans.over (fun _ h => by cases h) (by kernel_rfl) (fun _ h => by cases h) linesScansUpto_row_tie rfl ⟨rfl, rfl⟩ (by kernel_rfl) rfl
    (fun f fn hf hfn => by
      obtain rfl : f = 6 := Option.some.inj ((show Tryd.prog.funcNamed Rows.linesScansUptoRow.func = some 6 by kernel_rfl).symm.trans hf) |>.symm
      obtain rfl : fn = Tryd.f6 := (Option.some.inj (Tryd.func6.symm.trans hfn)).symm
      refine ⟨by kernel_rfl, fun j t ht => ?_⟩
      rw [Tryd.params6] at ht
      have hm := Array.mem_of_getElem? ht
      have hm' : t ∈ [3, 9] := Array.mem_toList_iff.2 hm
      simp only [List.mem_cons, List.not_mem_nil, or_false] at hm'
      rcases hm' with rfl | rfl
      · exact (show Tryd.prog.wantsStandIn 3 = false by kernel_rfl)
      · exact (show Tryd.prog.wantsStandIn 9 = false by kernel_rfl))
    (by kernel_rfl)
end Go.Proofs.YtlaennakglhmjaaDoor

