/-
  LinesCuts: the fields and the note of any bytes are the document's, in memory of their own, for every line of at most 1048575 bytes; the listed variables of Go's library hold what its text lays.
-/
import Derived.Test.YtlaennakglhmjaaDoorLSame
import Derived.Test.YtlaennakglhmjaaDoorLUpto
namespace Go.Proofs.YtlaennakglhmjaaDoor
open Go.RowKit Go.PlainAid Go.Lib Go.Shelf
theorem mach_len : ∀ (l : List UInt8) (n : Nat) (cur pend : List UInt8), (mach n cur pend l).1.length ≤ l.length + 1
  | [], n, cur, pend => by simp only [mach, lastF]; split <;> simp
  | b :: l, n, cur, pend => by
    unfold mach
    have h1 := mach_len l n [] []
    have h2 := mach_len l n cur (pend ++ [b])
    have h3 := mach_len l (n + 1) [] []
    have h4 := mach_len l n (cur ++ pend ++ [b]) []
    have h5 : (lastF n cur).length ≤ 1 := by unfold lastF; split <;> simp
    (repeat' split) <;> simp only [List.length_cons] <;> omega
theorem cut_len (s : ByteArray) : (cutS s).1.length ≤ s.size + 1 := by
  have := mach_len (L s) 0 [] []
  rw [L_len] at this; exact this
end Go.Proofs.YtlaennakglhmjaaDoor
namespace Go.Proofs.YtlaennakglhmjaaDoor.linesCuts
open Go.ChangeShapes Go.WideShapes Go.ChangeAt Go.RowKit
open Go.ChangeMaps (open_string shut_string)
set_option linter.unusedVariables false

set_option maxRecDepth 100000 in
set_option maxHeartbeats 1000000 in
theorem walk (s : ByteArray) (w : World) (hg : errTypeAt w) (hs : s.size ≤ 1048576) :
    Calls Tryd.prog 5 #[.string s] w fun e w' => e = .returned (.bool true) ∧ Below w.heap.size w w' := by
  have H1 := fun w => cut_any s w (by omega)
  have H2 := fun w => refCut_any s w (by omega)
  have hlen := cut_len s
  generalize (cutS s).1 = F at H1 H2 hlen
  generalize (cutS s).2 = M at H1 H2
  have h1 := hide H1
  have h2 := hide H2
  clear H1 H2
  go_enter Tryd.func5, Tryd.ntmps5
  go_wp2_with fail
  refine (unhide h1 _).mono ?_
  rintro e w1 ⟨va, rfl, ha, hb1⟩
  go_wp2_with fail
  refine (unhide h1 _).mono ?_
  rintro e w2 ⟨vb, rfl, hb, hb2⟩
  go_wp2_with fail
  refine (unhide h2 _).mono ?_
  rintro e w3 ⟨vc, rfl, hc, hb3⟩
  have hB3 : Below w.heap.size w w3 := (hb1.trans (hb2.mono hb1.size)).trans (hb3.mono (Nat.le_trans hb1.size hb2.size))
  have ha3 : TextsAt w3 w.heap.size va F := rowB (rowB ha hb2) hb3
  have hb3' : TextsAt w3 w1.heap.size vb F := rowB hb hb3
  have hc3 : TextsAt w3 w2.heap.size vc F := hc
  have hneb : ∀ k, va.ownBlock = some k → k < w1.heap.size := fun k e => (World.ownsRow.lt ha k e).2
  obtain ⟨aa, ca, rfl, ta⟩ := texts_row ha3
  obtain ⟨ab, cb, rfl, tb⟩ := texts_row hb3'
  obtain ⟨ac, cc, rfl, tc⟩ := texts_row hc3
  have HS1 := hide (sameTexts_yes aa ac F.length ca cc F w3 rfl (by omega) ta tc)
  have hz1 := hb1.size
  have hz2 := hb2.size
  have hz3 := hb3.size
  have hnB : ∀ k, (Value.slice ab F.length cb).ownBlock = some k → w1.heap.size ≤ k := fun k e => (World.ownsRow.lt hb3' k e).1
  have hnC : ∀ k, (Value.slice ac F.length cc).ownBlock = some k → w2.heap.size ≤ k := fun k e => (World.ownsRow.lt hc3 k e).1
  have NE1 : Hid ((Value.slice ab F.length cb).ownBlock = none ∨ (Value.slice ab F.length cb).ownBlock ≠ (Value.slice aa F.length ca).ownBlock) := by
    show _ ∨ _
    cases h : (Value.slice ab F.length cb).ownBlock with
    | none => exact .inl rfl
    | some k => exact .inr fun e => by have := hnB k h; have := hneb k e.symm; omega
  have NE2 : Hid ((Value.slice ac F.length cc).ownBlock = none ∨ (Value.slice ac F.length cc).ownBlock ≠ (Value.slice aa F.length ca).ownBlock) := by
    show _ ∨ _
    cases h : (Value.slice ac F.length cc).ownBlock with
    | none => exact .inl rfl
    | some k => exact .inr fun e => by have := hnC k h; have := hneb k e.symm; omega
  have HA3 := hide ha3
  have HB3 := hide hb3'
  have HC3 := hide hc3
  have HBel := hide hB3
  clear ha hb hc ha3 hb3' hc3 ta tb tc hb1 hb2 hb3 hneb hnB hnC hB3
  go_wp2_with (go_at_call 22; refine (unhide HS1).mono ?_; rintro e w4 ⟨rfl, hb4⟩)
  have HSP := hide (spoil_any w.heap.size (.slice aa F.length ca) F.length _ w4 (by omega) (by have := hb4.size; omega) (rowB (unhide HA3) hb4))
  refine (unhide HSP).mono ?_
  rintro e w5 ⟨⟨u, rfl⟩, hgr⟩
  have hB4 : Below w.heap.size w w4 := (unhide HBel).trans (hb4.mono (unhide HBel).size)
  have hB5 : Below w.heap.size w w5 := belowG hB4 hB4.size (rowB (unhide HA3) hb4) hgr
  have tb5 : TextsAt w5 w1.heap.size (.slice ab F.length cb) F := World.ownsRow.kept (rowB (unhide HB3) hb4) hgr NE1.out
  have tc5 : TextsAt w5 w2.heap.size (.slice ac F.length cc) F := World.ownsRow.kept (rowB (unhide HC3) hb4) hgr NE2.out
  obtain ⟨_, _, eb, tb6⟩ := texts_row tb5
  obtain ⟨_, _, ec, tc6⟩ := texts_row tc5
  obtain ⟨rfl, rfl⟩ : ab = _ ∧ cb = _ := by simpa using eb
  obtain ⟨rfl, rfl⟩ : ac = _ ∧ cc = _ := by simpa using ec
  have HS2 := hide (sameTexts_yes ab ac F.length cb cc F w5 rfl (by omega) tb6 tc6)
  have HB5 := hide hB5
  clear hB4 hB5 tb5 tc5 tb6 tc6 eb ec hgr hb4
  go_wp2_with fail
  refine (unhide HS2).mono ?_
  rintro e w6 ⟨rfl, hb6⟩
  have hB6 : Below w.heap.size w w6 := (unhide HB5).trans (hb6.mono (unhide HB5).size)
  have hg6 : errTypeAt w6 := errType_below hg hB6
  have HG6 := hide hg6
  go_wp2_with (go_at_call 13; refine (awake_any _ (unhide HG6)).mono ?_; rintro e w7 ⟨rfl, hb7⟩)
  go_ret
  exact ⟨rfl, hB6.trans (hb7.mono hB6.size)⟩

theorem laidOut : laidOutB Tryd.prog = true := by kernel_rfl

set_option maxRecDepth 100000 in
theorem contract (H : Type) (enc : TypeId × Value → H) (W : World) (base : Nat) (args : Array Value) (ds gs : List (DataW H)) (before : List MemPlace)
    (hval : ∀ (j : Nat) t v, Tryd.f5.params[j]? = some t → args[j]? = some v → Value.okWide Tryd.prog W .any base t v)
    (hW : DataW.Whole enc Tryd.prog Tryd.f5.params.toList Rows.linesCutsSpec.vars false W args.toList ds gs before) (hk : Rows.uptoSmall H (ds ++ gs) = true) (hL : laidMetH Tryd.prog laid3 W) :
    Calls Tryd.prog 5 args W fun e W' => ∃ v, e = .returned v ∧ Rows.linesCutsSpec.post enc Tryd.prog Tryd.f5 false true false false W args v W' := by
  have hW' := hW
  obtain ⟨p, q, hA0, hV, rfl, hfz, hnd⟩ := hW
  have hA : DataW.TrodAll enc Tryd.prog W 0 (fun _ => true) true Tryd.f5.params.toList args.toList ds p := hA0
  rw [Tryd.params5] at hA hval
  obtain ⟨v0, vs0, d0, ds0, p0, q0, hargs, rfl, rfl, h0, r0⟩ := trodAll_cons hA
  obtain ⟨rfl, rfl, rfl⟩ := trodAll_nil r0
  obtain rfl : args = #[v0] := by cases args; simp_all
  obtain ⟨rfl, rfl⟩ := trodVars_none hV
  obtain ⟨a0, rfl, rfl, rfl, w0⟩ := open_string Tryd.underlying9 (hval 0 9 v0 rfl rfl) h0
  have hk' : Rows.uptoSmall H [.lit (.string a0.data.toList)] = true := hk
  have hb := bulk_bound hk'
  simp only [Rows.uptoBulkAll] at hb
  rw [bulk_string a0] at hb
  have c0 : a0.size ≤ 1048576 := by omega
  clear hA0
  have hwk := walk a0 W (errType_of_laid hL) c0
  refine hwk.mono fun e W' ⟨he, bel⟩ => ?_
  subst he
  exact ⟨_, rfl, _, _, _, [], _, [], hW', trodAll_mk1 (shut_bool Tryd.underlying4 _), (trodAll_cons_mk (shut_string Tryd.underlying9 w0) trodAll_mk0), rfl, bel.frame _, fun h => by cases h⟩

set_option maxRecDepth 100000 in
theorem lifted (os : Os) (started : os.Started) (H : Type) (enc : TypeId × Value → H) (F : Stop.Interp) :
    ReturnsInHanded {} Tryd.checked os 5 .any ((Rows.OpenSpec.upto Rows.linesCutsSpec).preRow enc Tryd.prog Tryd.f5 Rows.linesCutsUptoRow.domain false Rows.linesCutsUptoRow.laid) (((Rows.OpenSpec.upto Rows.linesCutsSpec).at F).post enc Tryd.prog Tryd.f5 false true false false) := by
  refine returnsInHanded_of_row (C := Tryd.checked) (s := Rows.OpenSpec.upto Rows.linesCutsSpec) own3 started (by kernel_rfl) Tryd.func5
    (witness_row_shaped (enc := enc) (C := Tryd.checked) (witW os) #[.string ByteArray.empty] (witW_os os) (World.shaped_of_ZipB (by kernel_rfl) (by kernel_rfl)) (by kernel_rfl)
      (OpenSpec.preRow_of_cond 8 (x := ([.lit (.string [])], [], [])) (by kernel_rfl) (by kernel_rfl) (fun k hk => by cases hk; kernel_rfl) (by kernel_rfl) (laidMetH_of_parts (laidMet_over _ (by kernel_rfl) (by kernel_rfl)) (by kernel_rfl)))) ?_
  intro W base args ds gs before hval hW _ hcond _ hL _ _
  exact contract H enc W base args ds gs before hval hW (hcond _ rfl) hL

theorem over : Rows.LinesCutsUptoSaid :=
  OpenClaim.holds_of_cond 5 Tryd.f5 rfl rfl rfl rfl rfl rfl rfl ⟨rfl, rfl, rfl, rfl, rfl⟩ rfl rfl rfl rfl rfl (by kernel_rfl) Tryd.func5 (by kernel_rfl)
    (of_decide_eq_true (by kernel_rfl)) (by unfold Func.isWrapper; first | (rw [if_pos (by decide +kernel)]; kernel_rfl) | (rw [if_neg (by decide +kernel)]; exact ⟨rfl, rfl⟩))
    (fun os started H enc _ F => by rw [OpenClaim.pre_eq_preRow]; exact lifted os started H enc F)

end Go.Proofs.YtlaennakglhmjaaDoor.linesCuts
namespace Go.Proofs.YtlaennakglhmjaaDoor
theorem linesCuts_uptocard : Rows.LinesCutsUptoCardSaid :=
  Claim7.holds_tied_plain_at .later [] [.data, .handle, .pinned] true _ true linesCuts.over (fun _ h => by cases h) (by kernel_rfl) (fun _ h => by cases h) linesCutsUpto_row_tie rfl ⟨rfl, rfl⟩ (by kernel_rfl) rfl
    (fun f fn hf hfn => by
      obtain rfl : f = 5 := Option.some.inj ((show Tryd.prog.funcNamed Rows.linesCutsUptoRow.func = some 5 by kernel_rfl).symm.trans hf) |>.symm
      obtain rfl : fn = Tryd.f5 := (Option.some.inj (Tryd.func5.symm.trans hfn)).symm
      refine ⟨by kernel_rfl, fun j t ht => ?_⟩
      rw [Tryd.params5] at ht
      have hm := Array.mem_of_getElem? ht
      have hm' : t ∈ [9] := Array.mem_toList_iff.2 hm
      simp only [List.mem_cons, List.not_mem_nil, or_false] at hm'
      rcases hm' with rfl
      · exact (show Tryd.prog.wantsStandIn 9 = false by kernel_rfl))
    (by kernel_rfl)
end Go.Proofs.YtlaennakglhmjaaDoor

