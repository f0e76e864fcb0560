/-
  TrieNil: what no trie answers.
-/
import Derived.Test.YtcipfhnpfccbmaaTrAw
import Derived.Test.YtcipfhnpfccbmaaTrNs
import Derived.ProofKit
import Derived.OpenShut
import Derived.ShutString
import Derived.ChangeOld
namespace Go.Proofs.Ytcipfhnpfccbmaa.trieNil
open Go.ChangeShapes Go.WideShapes Go.ChangeAt Go.RowKit Go.PlainAid Go.Lib Go.ChangeMaps Go.PRow Go.TrM Go.SeqM
attribute [local go_sem] Oper.semAt_some
set_option linter.unusedVariables false
set_option linter.unusedSimpArgs false

theorem ref_none : (refP []).2 = 0 := by decide
theorem at_z (w : World) (r : Int) : Calls Try.prog 29 #[.pointer none, .int .i32 r] w fun e w' => e = .returned (.int .u8 0) ∧ w' = w := VU.at_nil w r
set_option maxRecDepth 100000 in
set_option maxHeartbeats 4000000 in
theorem walk (r v : Int) (w : World) (hv0 : 0 ≤ v) (hv1 : v ≤ 255) : Calls Try.prog 4 #[.int .i32 r, .int .u8 v] w fun e w' => e = .returned (.bool true) ∧ Below w.heap.size w w' := by
  have hF : ∀ f, Fence.wide.fn f := fun _ => trivial
  have hq1 : ∀ (W : World) (b : Nat), (binOp .eql 56 (.func (.func 62) #[] #[.pointer (some ⟨b, 0, none⟩)]) .nilFunc).run Try.prog W = .ok (.bool false) W := fun W b => by kernel_rfl
  have hq2 : ∀ (W : World) (b c : Nat), (binOp .eql 59 (.func (.func 64) #[] #[.pointer (some ⟨b, 0, none⟩), .pointer (some ⟨c, 0, none⟩)]) .nilFunc).run Try.prog W = .ok (.bool false) W := fun W b c => by kernel_rfl
  refine (callsIn_wide (n := 16)).1 ?_
  refine callsIn_of_wp_marks Try.func4 rfl trivial ?_ rfl
  simp only [Try.ntmps4, List.size_toArray, List.length_cons, List.length_nil, Nat.reduceAdd, Nat.reduceSub, Array.replicate_succ, Array.replicate_zero, List.push_toArray, List.append_toArray, List.nil_append, List.cons_append]
  gi_wp2_with fail
  refine (callsIn_wide.2 (VK.awake_any w)).mono ?_
  rintro e w1 ⟨rfl, hb1⟩
  have HB1 := hide hb1
  clear hb1
  gi_wp2_with fail
  refine (callsIn_wide.2 (VU.blocks_nil w1)).mono ?_
  rintro e w2 ⟨rfl, hw2⟩
  obtain rfl : w1 = w2 := hw2.symm
  gi_wp2_with fail
  refine (callsIn_wide.2 (VU.parts_nil w1)).mono ?_
  rintro e w2 ⟨rfl, hb2⟩
  have HB2 := hide ((unhide HB1).trans (hb2.mono (unhide HB1).size))
  clear hb2
  gi_wp2_with fail
  obtain ⟨W3, hW3⟩ : ∃ W3, W3 = (w2.alloc (.cells #[.slice none 0 0, .slice none 0 0, .slice none 0 0] 27)).alloc (.cells #[.int .i64 0] 3) := ⟨_, rfl⟩
  have hB3 : Below w2.heap.size w2 W3 := by rw [hW3]; exact ((Below.refl _ w2).alloc (Nat.le_refl _) _).alloc (by simp) _
  have hp3 : W3.heap[w2.heap.size]? = some (.cells #[.slice none 0 0, .slice none 0 0, .slice none 0 0] 27 (0, 0)) := by rw [hW3]; exact VU.heap_al (World.alloc_heap_new w2 _) _
  have hn3 : W3.heap[w2.heap.size + 1]? = some (.cells #[.int .i64 0] 3 (0, 0)) := by rw [hW3]; exact VU.heap_at _ _ (by simp)
  have hs3 : W3.heap.size = w2.heap.size + 2 := by rw [hW3]; simp
  rw [← hW3]
  clear hW3
  have HS3 := hide (And.intro hB3 (And.intro hp3 (And.intro hn3 hs3)))
  clear hB3 hp3 hn3 hs3
  refine (callsIn_wide.2 (VU.spans_nil W3)).mono ?_
  rintro e W4 ⟨rfl, hW4⟩
  have HW4 := hide hW4
  clear hW4
  gi_wp2_with fail
  refine (callsIn_wide.2 (VU.spans_nil W4)).mono ?_
  rintro e W5 ⟨rfl, hW5⟩
  have HW5 := hide hW5
  clear hW5
  gi_wp2_with fail
  obtain ⟨hB3, hp3, hn3, hs3⟩ := unhide HS3
  have hB5 : Below W3.heap.size W3 W5 := by rw [unhide HW5, unhide HW4]; exact ((Below.refl _ W3).alloc (Nat.le_refl _) _).alloc (by simp) _
  have hb5 : W5.heap[W4.heap.size]? = some (.cells #[.pointer none] 29 (0, 0)) := by rw [unhide HW5]; exact World.alloc_heap_new W4 _
  have hs4 : W4.heap.size = W3.heap.size + 1 := by rw [unhide HW4]; simp
  have hs5 : W5.heap.size = W4.heap.size + 1 := by rw [unhide HW5]; simp
  have hp5 := (hB5.block _ (by omega)).trans hp3
  have hn5 := (hB5.block _ (by omega)).trans hn3
  have hBw := (unhide HB2)
  have hsw := hBw.size
  have hB25 := hB3.trans (hB5.mono hB3.size)
  have HSZ := hide (And.intro hs3 (And.intro hs4 (And.intro hs5 hsw)))
  have HS5 := hide (And.intro hB25 (And.intro hp5 hn5))
  clear hB3 hp3 hn3 HS3 HW4 HW5 hB5
  refine range4G (by omega) (gf := 62) (lb := #[.pointer (some ⟨W4.heap.size, 0, none⟩)]) rfl (enters_of Try.func62 (by kernel_rfl) rfl)
    (VU.spans_gives _ W4.heap.size W5 hb5) (Below.refl _ _) (fun x => nomatch x)
    (fun pre V => V.heap[w2.heap.size]? = some (.cells #[.slice none 0 0, .slice none 0 0, .slice none 0 0] 27 (0, 0)) ∧ V.heap[w2.heap.size + 1]? = some (.cells #[.int .i64 0] 3 (0, 0)) ∧ Below w2.heap.size w2 V)
    (fun c pre V => False) ((own_block _ _ _ rfl).and ((own_block _ _ _ rfl).and (ownFrom_below (Nat.le_refl _) (by omega)))) (fun c => own_pure _ _) (CalmR.none _ _ _) ⟨hp5, hn5, hB25⟩ (fun x => nomatch x) ?assign ?body ?done ?stop
  case assign => intro l2 x; exact nomatch x
  case body => intro l2 pre x; exact nomatch x
  case stop =>
    rintro D c pre V hD hSp
    exact hSp.elim
  case done =>
    rintro D xs V hD rfl ⟨hpV, hnV, hBV⟩ hK
    have HV := hide (And.intro hpV (And.intro hnV (And.intro hBV (And.intro hK hD))))
    clear hpV hnV hBV hK hp5 hn5 hB25 hb5 HS5
    simp only [Exit.inBlock]
    gi_wp2_with fail
    refine (callsIn_wide.2 (VU.where_nil V v)).mono ?_
    rintro e W6 ⟨rfl, hW6⟩
    have HW6 := hide hW6
    clear hW6
    gi_wp2_with fail
    refine (callsIn_wide.2 (VU.where_nil W6 v)).mono ?_
    rintro e W7 ⟨rfl, hW7⟩
    have HW7 := hide hW7
    clear hW7
    gi_wp2_with fail
    obtain ⟨hpV, hnV, hBV, hK, _⟩ := unhide HV
    obtain ⟨hs3, hs4, hs5, _⟩ := unhide HSZ
    have hDV := (Array.getElem?_eq_some_iff.1 hK).1
    have hB7 : Below V.heap.size V W7 := by rw [unhide HW7, unhide HW6]; exact ((((Below.refl _ V).alloc (Nat.le_refl _) _).alloc (by simp) _).alloc (by simp; omega) _).alloc (by simp; omega) _
    have hb7 : W7.heap[W6.heap.size]? = some (.cells #[.pointer none] 29 (0, 0)) := by rw [unhide HW7]; exact VU.heap_al (World.alloc_heap_new W6 _) _
    have hs6 : W6.heap.size = V.heap.size + 2 := by rw [unhide HW6]; simp
    have hs7 : W7.heap.size = W6.heap.size + 2 := by rw [unhide HW7]; simp
    have hp7 := (hB7.block _ (by omega)).trans hpV
    have hn7 := (hB7.block _ (by omega)).trans hnV
    have hK7 := (hB7.block _ hDV).trans hK
    have hB27 := hBV.trans (hB7.mono hBV.size)
    have HSZ2 := hide (And.intro hs6 (And.intro hs7 hDV))
    clear HW6 HW7 hB7 hpV hnV hBV hK
    refine range4G (by omega) (gf := 64) (lb := #[.pointer (some ⟨W6.heap.size, 0, none⟩), .pointer (some ⟨W6.heap.size + 1, 0, none⟩)]) rfl (enters_of Try.func64 (by kernel_rfl) rfl)
      (VU.where_gives _ W6.heap.size (W6.heap.size + 1) v (by omega) W7 hb7) (Below.refl _ _) (fun x => nomatch x)
      (fun pre V => (V.heap[w2.heap.size]? = some (.cells #[.slice none 0 0, .slice none 0 0, .slice none 0 0] 27 (0, 0)) ∧ V.heap[w2.heap.size + 1]? = some (.cells #[.int .i64 0] 3 (0, 0))) ∧ Below W7.heap.size W7 V)
      (fun c pre V => False) (((own_block _ _ _ rfl).and (own_block _ _ _ rfl)).and (ownFrom_below (Nat.le_refl _) (Nat.le_refl _))) (fun c => own_pure _ _) (CalmR.none _ _ _) ⟨⟨hp7, hn7⟩, Below.refl _ _⟩ (fun x => nomatch x) ?assign2 ?body2 ?done2 ?stop2
    case assign2 => intro l2 x; exact nomatch x
    case body2 => intro l2 pre x; exact nomatch x
    case stop2 =>
      rintro D2 c pre V2 hD2 hSp
      exact hSp.elim
    case done2 =>
      rintro D2 xs X hD2 rfl ⟨⟨hpX, hnX⟩, hBX⟩ hK2
      have hKX := (hBX.block D (by omega)).trans hK7
      have hB2X := hB27.trans (hBX.mono hB27.size)
      have HX := hide (And.intro hpX (And.intro hnX (And.intro hB2X (And.intro hKX (And.intro hK2 hD2)))))
      clear hpX hnX hB2X hKX hBX hK2 hp7 hn7 hB27 hb7 hK7 HV hs3 hs4 hs5 hs6 hs7
      simp only [Exit.inBlock]
      gi_wp2_with fail
      refine callsIn_wide.2 (VK.build_any _ v hv0 (by omega) none 0 [] 0 rfl (by omega) (Nat.le_refl _) (fun p hp => by cases hp) X (fun h => by simp at h) (hide fun _ Y bt vt vm vl hT hbY hbt => ?_) (hide fun h => absurd ref_none h))
      obtain ⟨hpX, hnX, hBX, hKX, hK2, hD2'⟩ := unhide HX
      have hsX := hBX.size
      have lt1 := (Array.getElem?_eq_some_iff.1 hpX).1
      have lt2 := (Array.getElem?_eq_some_iff.1 hnX).1
      have hpY := (hbY.block _ lt1).trans hpX
      have hnY := (hbY.block _ lt2).trans hnX
      have hKY := (hbY.block _ (Array.getElem?_eq_some_iff.1 hKX).1).trans hKX
      have hK2Y := (hbY.block _ (Array.getElem?_eq_some_iff.1 hK2).1).trans hK2
      have hBY := hBX.trans (hbY.mono hsX)
      have r0 : Y.cell? ⟨w2.heap.size, 0, none⟩ = some (.slice none 0 0) := by simp [World.cell?, hpY]
      have r1 : Y.cell? ⟨w2.heap.size, 1, none⟩ = some (.slice none 0 0) := by simp [World.cell?, hpY]
      have r2 : Y.cell? ⟨w2.heap.size, 2, none⟩ = some (.slice none 0 0) := by simp [World.cell?, hpY]
      have rn : Y.cell? ⟨w2.heap.size + 1, 0, none⟩ = some (.int .i64 0) := by simp [World.cell?, hnY]
      have HY := hide (And.intro hBY (And.intro hKY hK2Y))
      have HLN := hide (VU.same_ln Y _ bt vt vm vl _ hT)
      have HMN := hide (VU.map_none Y _ bt vt vm vl _ hT)
      clear hpX hnX hBX hKX hK2 hD2' hpY hnY hKY hK2Y hBY hT hbY HX lt1 lt2 hsX
      gi_wp2_with fail
      refine (callsIn_wide.2 (VU.same_nl Y _)).mono ?_
      rintro e Z ⟨rfl, hZ⟩
      obtain rfl : Y = Z := hZ.symm
      clear hZ
      gi_wp2_with fail
      refine (callsIn_wide.2 (unhide HLN)).mono ?_
      rintro e Z ⟨rfl, hZ⟩
      obtain rfl : Y = Z := hZ.symm
      clear hZ
      gi_wp2_with fail
      refine (callsIn_wide.2 (VU.same_nl Y _)).mono ?_
      rintro e Z ⟨rfl, hZ⟩
      obtain rfl : Y = Z := hZ.symm
      clear hZ
      gi_wp2_with fail
      refine (callsIn_wide.2 (VU.mapS_nil Y _)).mono ?_
      rintro e Z ⟨rfl, hZ⟩
      obtain rfl : Y = Z := hZ.symm
      clear hZ
      gi_wp2_with fail
      refine (callsIn_wide.2 (unhide HMN)).mono ?_
      rintro e Z ⟨rfl, hZ⟩
      obtain rfl : Y = Z := hZ.symm
      clear hZ
      gi_wp2_with fail
      refine (callsIn_wide.2 (VU.fill_none Y)).mono ?_
      rintro e Z ⟨rfl, hZ⟩
      obtain rfl : Y = Z := hZ.symm
      clear hZ
      gi_wp2_with fail
      refine (callsIn_wide.2 (at_z Y r)).mono ?_
      rintro e Z ⟨rfl, hZ⟩
      obtain rfl : Y = Z := hZ.symm
      clear hZ
      gi_wp2_with fail
      refine (callsIn_wide.2 (VK.awake_any Y)).mono ?_
      rintro e Z ⟨rfl, hbZ⟩
      have HZ := hide hbZ
      clear hbZ
      gi_wp2
      obtain ⟨hBY, hKY, hK2Y⟩ := unhide HY
      have hbZ := unhide HZ
      have hs27 : w2.heap.size ≤ D := by have := unhide HSZ; omega
      have hs28 : w2.heap.size ≤ D2 := by have := unhide HSZ; have := unhide HSZ2; omega
      have hne : D ≠ D2 := by have := unhide HSZ2; omega
      have hKZ := (hbZ.block _ (Array.getElem?_eq_some_iff.1 hKY).1).trans hKY
      have hK2Z := (hbZ.block _ (Array.getElem?_eq_some_iff.1 hK2Y).1).trans hK2Y
      have hKZ2 : (Z.putObj D2 (.deferred none)).heap[D]? = some (.deferred (some [])) := (World.putObj_heap_other hne).trans hKZ
      have hBZ := hBY.trans (hbZ.mono hBY.size)
      refine ⟨by simp, .inl ⟨_, _, rfl, run_takeDeferred hK2Z, ?_⟩⟩
      refine ⟨by simp, .inl ⟨_, _, rfl, run_takeDeferred hKZ2, ?_⟩⟩
      refine ⟨_, results_tmp rfl _ _ _, rfl, (unhide HB2).trans ((below_put (below_put hBZ hs28 _) hs27 _).mono (unhide HB2).size)⟩
theorem wf_u8 {n : Int} (h : (Lit.int .u8 n).wf = true) : 0 ≤ n ∧ n ≤ 255 := by
  unfold Lit.wf at h
  rw [Bool.and_eq_true] at h
  have h1 := of_decide_eq_true h.1
  have h2 := of_decide_eq_true h.2
  exact ⟨h1, h2⟩
theorem own : ownKnob Try.prog.godebug = none := by kernel_rfl
theorem laidOut : laidOutB Try.prog = true := by kernel_rfl

set_option maxRecDepth 100000 in
theorem contract (H : Type) (enc : TypeId × Value → H) (W : World) (base : Nat) (args : Array Value) (ds gs : List (DataW H)) (before : List MemPlace)
    (hval : ∀ (j : Nat) t v, Try.f4.params[j]? = some t → args[j]? = some v → Value.okWide Try.prog W .any base t v)
    (hW : DataW.Whole enc Try.prog Try.f4.params.toList Rows.trieNilSpec.vars false W args.toList ds gs before) :
    Calls Try.prog 4 args W fun e W' => ∃ v, e = .returned v ∧ Rows.trieNilSpec.post enc Try.prog Try.f4 false true false false W args v W' := by
  have hW' := hW
  obtain ⟨p, q, hA0, hV, rfl, hfz, hnd⟩ := hW
  have hA : DataW.TrodAll enc Try.prog W 0 (fun _ => true) true Try.f4.params.toList args.toList ds p := hA0
  rw [Try.params4] at hA hval
  obtain ⟨v0, vs0, d0, ds0, p0, q0, hargs, rfl, rfl, h0, r0⟩ := trodAll_cons hA
  obtain ⟨v1, vs1, d1, ds1, p1, q1, rfl, rfl, rfl, h1, r1⟩ := trodAll_cons r0
  obtain ⟨rfl, rfl, rfl⟩ := trodAll_nil r1
  obtain rfl : args = #[v0, v1] := by cases args; simp_all
  obtain ⟨rfl, rfl⟩ := trodVars_none hV
  obtain ⟨a0, rfl, hd0, rfl, w0⟩ := open_int Try.underlying21 (hval 0 21 v0 rfl rfl) h0
  obtain ⟨a1, rfl, hd1, rfl, w1⟩ := open_int Try.underlying5 (hval 1 5 v1 rfl rfl) h1
  have x1 : 0 ≤ a1 ∧ a1 ≤ 255 := wf_u8 w1
  clear hA0
  have hwk := walk a0 a1 W x1.1 x1.2
  subst hd0
  subst hd1
  refine hwk.mono fun e W' ⟨he, bel⟩ => ?_
  subst he
  exact ⟨_, rfl, _, _, _, [], _, [], hW', trodAll_mk1 (shut_bool Try.underlying4 _), (trodAll_cons_mk (shut_int Try.underlying21 w0) (trodAll_cons_mk (shut_int Try.underlying5 w1) trodAll_mk0)), rfl, bel.frame _, fun h => by cases h⟩

set_option maxRecDepth 100000 in
theorem lifted (os : Os) (started : os.Started) (H : Type) (enc : TypeId × Value → H) :
    ReturnsInHanded {} Try.checked os 4 .any (Rows.trieNilSpec.pre6 enc Try.prog Try.f4 Rows.trieNilRow.domain false) (Rows.trieNilSpec.post enc Try.prog Try.f4 false true false false) := by
  refine returnsInHanded_of_change (C := Try.checked) own started (by kernel_rfl) Try.func4
    (ChangeSpec.witness6 (enc := enc) (C := Try.checked) false ⟨#[], #[.int .i32 0, .int .u8 0], []⟩ 8 (by kernel_rfl) (by kernel_rfl) (by kernel_rfl) (by kernel_rfl)) ?_
  intro W base args ds gs before hval hW hcnd _
  exact contract H enc W base args ds gs before hval hW

theorem over : Rows.trieNilRow.holds Try.pinned (OpenSpec.ofChange Rows.trieNilSpec) :=
  OpenClaim.holds_of_wide 4 Try.f4 rfl rfl rfl rfl rfl rfl rfl ⟨rfl, rfl, rfl, rfl, rfl⟩ rfl rfl rfl rfl rfl (by kernel_rfl) Try.func4 (by kernel_rfl)
    (of_decide_eq_true (by kernel_rfl)) (by unfold Func.isWrapper; first | (rw [if_pos (by decide +kernel)]; kernel_rfl) | (rw [if_neg (by decide +kernel)]; exact ⟨rfl, rfl⟩))
    (fun os started H enc _ => lifted os started H enc)

end Go.Proofs.Ytcipfhnpfccbmaa.trieNil
namespace Go.Proofs.Ytcipfhnpfccbmaa
theorem trieNil_holds : Rows.TrieNilSaid := trieNil.over
end Go.Proofs.Ytcipfhnpfccbmaa

