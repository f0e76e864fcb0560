/-
  LinesEach: a text's lines, told whole, left early, and told again, are the document's, for every text of at most 1048574 bytes; the listed variables of Go's library hold what its text lays.
-/
import Derived.Test.YtlaennakglhmjaaDoorLTold
import Derived.Test.YtlaennakglhmjaaDoorLUpto
import Derived.LoopNIn
namespace Go.Proofs.YtlaennakglhmjaaDoor
open Go.RowKit Go.PlainAid Go.Lib Go.Shelf Go.Seq2 Go.Seq3
attribute [local go_sem] Oper.semAt_some
set_option linter.unusedVariables false

theorem each_some (f : Nat) (x : Value) (w : World) (h : f = 36) : (binOp .eql 26 (.func (.func f) #[] #[x]) .nilFunc).run Tryd.prog w = .ok (.bool false) w := by subst h; kernel_rfl
theorem blkE {w w' : World} {b : Nat} {o : Obj} (h : w.heap[b]? = some o) (hb : Below w.heap.size w w') : w'.heap[b]? = some o := (hb.block b (Array.getElem?_eq_some_iff.1 h).1).trans h
def EachI (w4 : World) (s : ByteArray) (T : Nat) (Ds : List Nat) (pre : List (Nat × Nat × Nat)) (V : World) : Prop :=
  pre.length ≤ s.size ∧ ToldAt V w4.heap.size w4.heap.size s pre ∧ (∀ D ∈ Ds, D < T ∧ V.heap[D]? = some (.deferred (some []))) ∧ Below w4.heap.size w4 V
theorem eachI_own (w4 : World) (s : ByteArray) (T : Nat) (Ds : List Nat) (hT : w4.heap.size < T) : OwnFrom T (EachI w4 s T Ds) := by
  intro st A B row hx hg hr
  obtain ⟨e1, e2, e3, e4⟩ := hx
  refine ⟨e1, e2.grown hg (fun r e => ⟨by have := (hr r e).1; omega, (hr r e).2⟩), fun D hD => ⟨(e3 D hD).1, ?_⟩, ownFrom_below (β := Unit) (Nat.le_refl _) (by omega) () A B row e4 hg hr⟩
  have h1 := (e3 D hD).2
  exact (hg.block D (Array.getElem?_eq_some_iff.1 h1).1 (fun e => by have := (hr D e.symm).1; have := (e3 D hD).1; omega)).trans h1

set_option maxRecDepth 100000 in
set_option maxHeartbeats 4000000 in
theorem eachs_any (s : ByteArray) (few : Int) (w : World) (hg : errTypeAt w) (hs : s.size ≤ 1048576) :
    Calls Tryd.prog 3 #[.string s, .int .i64 few] w fun e w' => e = .returned (.bool true) ∧ Below w.heap.size w w' := by
  refine (callsIn_wide (n := 12)).1 ?_
  refine callsIn_of_wp_marks Tryd.func3 rfl trivial ?_ rfl
  simp only [Tryd.ntmps3, List.size_toArray, List.length_cons, List.length_nil, Nat.reduceAdd, Nat.reduceSub, Array.replicate_succ, Array.replicate_zero, List.push_toArray, List.append_toArray, List.nil_append, List.cons_append]
  have hF : ∀ f, Fence.wide.fn f := fun _ => trivial
  obtain ⟨i0, hi0, hz0, hz1, hz2⟩ := info_parts infoTold
  have HAW := hide (callsIn_wide (n := 11) |>.2 (awake_any w hg))
  have HPI := hide (fun w => callsIn_wide (n := 11) |>.2 (refPieces_any s w (by omega)))
  have HEA := hide (fun w => callsIn_wide (n := 11) |>.2 (each_in s w))
  have HAL := hide (fun w => callsIn_wide (n := 11) |>.2 (all_any s few w (by omega)))
  have hws := fun x w => each_some _ x w rfl
  have hll := lines_len s
  gi_wp2_with (gi_at_call 13; refine (unhide HAW).mono ?_; rintro e w1 ⟨rfl, hb1⟩)
  refine (unhide HPI _).mono ?_
  rintro e w2 ⟨vp, rfl, hrp, hb2⟩
  obtain ⟨pa, pc, rfl, -⟩ := pi_row hrp
  have HRP := hide hrp
  clear hrp
  gi_wp2_with fail
  refine (unhide HEA _).mono ?_
  rintro e w3 ⟨rfl, hw3⟩
  subst hw3
  -- TAIL
  obtain ⟨N, hN⟩ : ∃ N, (linesL s).length = N := ⟨_, rfl⟩
  rw [hN] at hll
  rw [hN]
  by_cases q1 : 1 ≤ few
  · have d1 : decide ((1 : Int) ≤ few) = true := decide_eq_true q1
    by_cases q2 : few < (N : Int)
    · have d2 : decide (few < (N : Int)) = true := decide_eq_true q2
      obtain ⟨M, hM0⟩ : ∃ M : Nat, few = (M : Int) := ⟨few.toNat, by omega⟩
      subst hM0
      gi_wp2_with fail
      refine (unhide HAL _).mono ?_
      rintro e w4 ⟨va, rfl, hra, hb4⟩
      have hM : nOf s (M : Int) = M := by unfold nOf; rw [hN, if_pos ⟨q1, q2⟩]; omega
      rw [hM] at hra
      obtain ⟨aa, ac, rfl, -⟩ := to_row hra (by rw [List.length_take]; omega)
      have HRP4 := hide (rowB (World.ownsRow.alloc (unhide HRP) (.cells #[.string s] 9)) hb4)
      have HRA := hide hra
      clear hra
      have hz1' := hb1.size
      have hz2' := hb2.size
      have hz4' := hb4.size
      have hbs4 : Boxed w4 w2.heap.size 9 (.string s) := boxed_below2 (Boxed.new w2 _ _) hb4
      have hB4 : Below w.heap.size w w4 := (((hb1.trans (hb2.mono hb1.size)).alloc (by omega) _).trans (hb4.mono (by simp; omega)))
      simp only [World.size_alloc] at hz4'
      generalize hBs : w2.heap.size = Bs at *
      obtain ⟨W0, hW0⟩ : ∃ W0, w4.alloc (Obj.cells #[Value.slice none 0 0] 28) = W0 := ⟨_, rfl⟩
      have b9 : Boxed W0 w4.heap.size 28 (.slice none 0 0) := by rw [← hW0]; exact Boxed.new w4 _ _
      have hB0 : Below w4.heap.size w4 W0 := by rw [← hW0]; exact (Below.refl _ _).alloc (Nat.le_refl _) _
      have hs0 : w4.heap.size < W0.heap.size := by rw [← hW0]; simp
      have hse := set_same b9
      have c9 := b9.cell
      have f9 := b9.frozen
      gi_wp2
      refine wpIn_loop_rounds 3 ?_
      rw [roundsIn_succ]
      gi_wp2
      refine range3G (by omega) (gf := 36) (lb := #[.pointer (some ⟨Bs, 0, none⟩)]) rfl (enters_of Tryd.func36 (by kernel_rfl) rfl)
        (each_gives s (by omega) _ Bs (by omega) w4 hbs4) hB0 (fun _ => rfl)
        (EachI w4 s W0.heap.size []) (fun _ _ _ => False) (eachI_own w4 s _ _ hs0) (fun c st A B row hx hg hr => hx)
        ⟨by simp, ⟨.slice none 0 0, b9, by simpa [toldCs] using World.ownsRow_nil W0 _ _ _⟩, (by intro D hD; cases hD), hB0⟩
        ?a1M ?assign1M ?body1M ?done1M ?stop1M
      case assign1M =>
        intro l x W K hK
        gi_wp2
        exact hK
      case stop1M =>
        rintro D c pre V hD hSp h hK
        exact h.elim
      case body1M =>
        rintro l pre x V hl hsz2 ⟨r, hr⟩ ⟨hpl, ⟨v, hv, hrow⟩, hDs, hB⟩ hSp
        have hlen : pre.length + 1 ≤ s.size := by
          have h1 := hSp.length_le
          have h2 := lines_len s
          simp at h1; omega
        have c2 := hv.cell
        have hle := hB.size
        obtain ⟨va, vc, rfl⟩ := row_slice2 hrow
        have HSN := hide (toldCs_snoc s pre x)
        have HDS := hide hDs
        clear hSp hDs
        generalize s.extract x.2.1 x.2.2 = T at *
        generalize x.1 = X at *
        gi_wp2_with (gi_at_builtin; refine wpListIn_append_own _ rfl _ _ 28 rfl w4.heap.size 31 i0 (.agg #[.int .i64 0, .string ⟨#[]⟩]) 2 24 Tryd.underlying28 hi0 hz0 hz1 hz2 rfl (by decide) _ _ _ rfl (hrow.alloc _) ⟨V.heap.size, 0, none⟩ 1 1 [.int .i64 (X : Nat), .string T] rfl rfl (cell_two_new _ _ _ _) (by simp [Value.oneCell']) (by unfold maxLen; omega) (by omega) (by simp; omega) ?_; intro v' w1 hown' hgrow _; obtain ⟨g', cap', rfl⟩ := ownsRow_succ hown'; obtain ⟨hv1, hv2, hr2, hk2, hb2⟩ := hv.appended (by decide) hrow hle (by omega) hown' hgrow; have hc1 := hv1.cell; have hf1 := hv1.frozen)
        exact ⟨hk2.from _, ⟨hk2.walks, fun k t y hk1 ht hb => ((hb.alloc _).kept hgrow (hb.not_row (by rcases ht with rfl | rfl <;> decide) hrow)).other (by omega) _⟩, by simp; omega, ⟨_, hv2, by rw [unhide HSN, List.length_append]; exact hr2⟩, fun D hD => ⟨(unhide HDS D hD).1, hk2.same D _ (unhide HDS D hD).2 rfl⟩, hB.trans hb2⟩
      case done1M =>
        rintro D1 xs V1 hD1 hS ⟨_, ⟨v, hv, hrow⟩, hDs, hB1⟩ hK1
        subst hS
        obtain ⟨ta, tc, rfl⟩ := row_slice2 hrow
        have c1 := hv.cell
        have f1 := hv.frozen
        gi_wp2
        rw [roundsIn_succ]
        obtain ⟨W2, hW2⟩ : ∃ W2, V1.setCell ⟨w4.heap.size, 0, none⟩ (.slice none 0 0) = W2 := ⟨_, rfl⟩
        have b92 : Boxed W2 w4.heap.size 28 (.slice none 0 0) := by rw [← hW2]; exact hv.set _
        have hB2w : Below w4.heap.size w4 W2 := by rw [← hW2]; exact hB1.setCell (p := ⟨w4.heap.size, 0, none⟩) (Nat.le_refl _) _
        have hK12 : W2.heap[D1]? = some (.deferred (some [])) := by rw [← hW2]; exact (KeepsOthers.setCell V1 ⟨w4.heap.size, 0, none⟩ (.slice none 0 0)).same D1 _ hK1 rfl
        have hD1s : D1 < W2.heap.size := (Array.getElem?_eq_some_iff.1 hK12).1
        have hs2 : w4.heap.size < W2.heap.size := b92.lt
        gi_wp2
        clear hv hrow hDs hK1 c1 f1
        refine range3G (by omega) (gf := 36) (lb := #[.pointer (some ⟨Bs, 0, none⟩)]) rfl (enters_of Tryd.func36 (by kernel_rfl) rfl)
          (each_gives s (by omega) _ Bs (by omega) w4 hbs4) hB2w (fun _ => rfl)
          (EachI w4 s W2.heap.size [D1]) (fun _ _ _ => False) (eachI_own w4 s _ _ hs2) (fun c st A B row hx hg hr => hx)
          ⟨by simp, ⟨.slice none 0 0, b92, by simpa [toldCs] using World.ownsRow_nil W2 _ _ _⟩, (by intro D hD; rw [List.mem_singleton.1 hD]; exact ⟨hD1s, hK12⟩), hB2w⟩
          ?a2M ?assign2M ?body2M ?done2M ?stop2M
        case assign2M =>
          intro l x W K hK
          gi_wp2
          exact hK
        case stop2M =>
          rintro D c pre V hD hSp h hK
          exact h.elim
        case body2M =>
          rintro l pre x V hl hsz2 ⟨r, hr⟩ ⟨hpl, ⟨v, hv, hrow⟩, hDs, hB⟩ hSp
          have hlen : pre.length + 1 ≤ s.size := by
            have h1 := hSp.length_le
            have h2 := lines_len s
            simp at h1; omega
          have c2 := hv.cell
          have hle := hB.size
          obtain ⟨va, vc, rfl⟩ := row_slice2 hrow
          have HSN := hide (toldCs_snoc s pre x)
          have HDS := hide hDs
          clear hSp hDs
          generalize s.extract x.2.1 x.2.2 = T at *
          generalize x.1 = X at *
          gi_wp2_with (gi_at_builtin; refine wpListIn_append_own _ rfl _ _ 28 rfl w4.heap.size 31 i0 (.agg #[.int .i64 0, .string ⟨#[]⟩]) 2 24 Tryd.underlying28 hi0 hz0 hz1 hz2 rfl (by decide) _ _ _ rfl (hrow.alloc _) ⟨V.heap.size, 0, none⟩ 1 1 [.int .i64 (X : Nat), .string T] rfl rfl (cell_two_new _ _ _ _) (by simp [Value.oneCell']) (by unfold maxLen; omega) (by omega) (by simp; omega) ?_; intro v' w1 hown' hgrow _; obtain ⟨g', cap', rfl⟩ := ownsRow_succ hown'; obtain ⟨hv1, hv2, hr2, hk2, hb2⟩ := hv.appended (by decide) hrow hle (by omega) hown' hgrow; have hc1 := hv1.cell; have hf1 := hv1.frozen)
          exact ⟨hk2.from _, ⟨hk2.walks, fun k t y hk1 ht hb => ((hb.alloc _).kept hgrow (hb.not_row (by rcases ht with rfl | rfl <;> decide) hrow)).other (by omega) _⟩, by simp; omega, ⟨_, hv2, by rw [unhide HSN, List.length_append]; exact hr2⟩, fun D hD => ⟨(unhide HDS D hD).1, hk2.same D _ (unhide HDS D hD).2 rfl⟩, hB.trans hb2⟩
        case done2M =>
          rintro D2 xs V2 hD2 hS ⟨_, ⟨v2, hv2, hrow2⟩, hDs, hBV2⟩ hK2
          subst hS
          obtain ⟨ta2, tc2, rfl⟩ := row_slice2 hrow2
          have c12 := hv2.cell
          gi_wp2
          rw [roundsIn_succ]
          have tA := to_row (rowB (unhide HRA) hBV2) (by rw [List.length_take]; omega)
          have pA := pi_row (rowB (unhide HRP4) hBV2)
          have tB := to_row hrow2 rfl
          obtain ⟨_, _, ea, tA⟩ := tA
          obtain ⟨rfl, rfl⟩ : aa = _ ∧ ac = _ := by simpa using ea
          obtain ⟨_, _, ep, pA⟩ := pA
          obtain ⟨rfl, rfl⟩ : pa = _ ∧ pc = _ := by simpa using ep
          obtain ⟨_, _, et, tB⟩ := tB
          obtain ⟨rfl, rfl⟩ : ta2 = _ ∧ tc2 = _ := by simpa using et
          rw [hN] at hv2 hrow2
          have HS1 := hide (callsIn_wide (n := 11) |>.2 (sameTold_yes s aa pa M ac N pc V2 (by omega) (by omega) hN.symm tA pA))
          have HS2 : Hid (∀ V3, Below V2.heap.size V2 V3 → CallsIn Fence.wide 11 Tryd.prog 17 #[.slice ta2 N tc2, .string s, .slice pa N pc, .int .i64 (N : Nat)] V3 fun e w' => e = .returned (.bool true) ∧ Below V3.heap.size V3 w') := fun V3 hb => by
            have tB' := to_row (rowB hrow2 hb) hN.symm
            have pA' := pi_row (rowB (rowB (unhide HRP4) hBV2) hb)
            obtain ⟨_, _, et', tB'⟩ := tB'
            obtain ⟨rfl, rfl⟩ : ta2 = _ ∧ tc2 = _ := by simpa using et'
            obtain ⟨_, _, ep', pA'⟩ := pA'
            obtain ⟨rfl, rfl⟩ : pa = _ ∧ pc = _ := by simpa using ep'
            exact callsIn_wide.2 (sameTold_yes s ta2 pa N tc2 N pc V3 (by omega) (Nat.le_refl _) hN.symm (by rw [← hN, List.take_of_length_le (Nat.le_refl _)]; exact tB') pA')
          have hKd1 := (hDs D1 (by simp)).2
          have hBfin : Below w.heap.size w V2 := hB4.trans (hBV2.mono hB4.size)
          have HBF := hide hBfin
          have HV2 := hide hv2
          clear ea ep et tA pA tB hDs c12 hBfin
          have c12 := (unhide HV2).cell
          gi_wp2_with fail
          refine (unhide HS1).mono ?_
          rintro e V3 ⟨rfl, hb3⟩
          have c13 := (boxed_below2 (unhide HV2) hb3).cell
          have HS3 := hide (unhide HS2 V3 hb3)
          gi_wp2_with fail
          refine (unhide HS3).mono ?_
          rintro e V4 ⟨rfl, hb5⟩
          have k1 := blkE (blkE hKd1 hb3) hb5
          have k2 := blkE (blkE hK2 hb3) hb5
          have hB5 : Below w.heap.size w V4 := ((unhide HBF).trans (hb3.mono (unhide HBF).size)).trans (hb5.mono (by have := (unhide HBF).size; have := hb3.size; omega))
          gi_wp2
          have hne12 : D1 ≠ D2 := by have := hD1s; omega
          have k1' : (V4.putObj D2 (.deferred none)).heap[D1]? = some (.deferred (some [])) := (World.putObj_heap_other hne12).trans k1
          refine ⟨by simp, .inl ⟨_, _, rfl, run_takeDeferred k2, by simp, .inl ⟨_, _, rfl, run_takeDeferred k1', ?_⟩⟩⟩
          exact ⟨_, results_tmp rfl _ _ _, rfl, (hB5.trans (belowK_b (w := w) (Nat.le_refl _) _ D2 _ _ (by omega) k2 rfl rfl)).trans (belowK_b (w := w) (Nat.le_refl _) _ D1 _ _ (by omega) k1' rfl rfl)⟩
    · have d2 : decide (few < (N : Int)) = false := decide_eq_false q2
      gi_wp2_with fail
      refine (unhide HAL _).mono ?_
      rintro e w4 ⟨va, rfl, hra, hb4⟩
      have hM : nOf s few = N := by unfold nOf; rw [hN, if_neg (fun h => by omega)]
      rw [hM] at hra
      obtain ⟨aa, ac, rfl, -⟩ := to_row hra (by rw [List.length_take]; omega)
      have HRP4 := hide (rowB (World.ownsRow.alloc (unhide HRP) (.cells #[.string s] 9)) hb4)
      have HRA := hide hra
      clear hra
      have hz1' := hb1.size
      have hz2' := hb2.size
      have hz4' := hb4.size
      have hbs4 : Boxed w4 w2.heap.size 9 (.string s) := boxed_below2 (Boxed.new w2 _ _) hb4
      have hB4 : Below w.heap.size w w4 := (((hb1.trans (hb2.mono hb1.size)).alloc (by omega) _).trans (hb4.mono (by simp; omega)))
      simp only [World.size_alloc] at hz4'
      generalize hBs : w2.heap.size = Bs at *
      obtain ⟨W0, hW0⟩ : ∃ W0, w4.alloc (Obj.cells #[Value.slice none 0 0] 28) = W0 := ⟨_, rfl⟩
      have b9 : Boxed W0 w4.heap.size 28 (.slice none 0 0) := by rw [← hW0]; exact Boxed.new w4 _ _
      have hB0 : Below w4.heap.size w4 W0 := by rw [← hW0]; exact (Below.refl _ _).alloc (Nat.le_refl _) _
      have hs0 : w4.heap.size < W0.heap.size := by rw [← hW0]; simp
      have hse := set_same b9
      have c9 := b9.cell
      have f9 := b9.frozen
      gi_wp2
      refine wpIn_loop_rounds 3 ?_
      rw [roundsIn_succ]
      gi_wp2
      refine range3G (by omega) (gf := 36) (lb := #[.pointer (some ⟨Bs, 0, none⟩)]) rfl (enters_of Tryd.func36 (by kernel_rfl) rfl)
        (each_gives s (by omega) _ Bs (by omega) w4 hbs4) hB0 (fun _ => rfl)
        (EachI w4 s W0.heap.size []) (fun _ _ _ => False) (eachI_own w4 s _ _ hs0) (fun c st A B row hx hg hr => hx)
        ⟨by simp, ⟨.slice none 0 0, b9, by simpa [toldCs] using World.ownsRow_nil W0 _ _ _⟩, (by intro D hD; cases hD), hB0⟩
        ?a1L ?assign1L ?body1L ?done1L ?stop1L
      case assign1L =>
        intro l x W K hK
        gi_wp2
        exact hK
      case stop1L =>
        rintro D c pre V hD hSp h hK
        exact h.elim
      case body1L =>
        rintro l pre x V hl hsz2 ⟨r, hr⟩ ⟨hpl, ⟨v, hv, hrow⟩, hDs, hB⟩ hSp
        have hlen : pre.length + 1 ≤ s.size := by
          have h1 := hSp.length_le
          have h2 := lines_len s
          simp at h1; omega
        have c2 := hv.cell
        have hle := hB.size
        obtain ⟨va, vc, rfl⟩ := row_slice2 hrow
        have HSN := hide (toldCs_snoc s pre x)
        have HDS := hide hDs
        clear hSp hDs
        generalize s.extract x.2.1 x.2.2 = T at *
        generalize x.1 = X at *
        gi_wp2_with (gi_at_builtin; refine wpListIn_append_own _ rfl _ _ 28 rfl w4.heap.size 31 i0 (.agg #[.int .i64 0, .string ⟨#[]⟩]) 2 24 Tryd.underlying28 hi0 hz0 hz1 hz2 rfl (by decide) _ _ _ rfl (hrow.alloc _) ⟨V.heap.size, 0, none⟩ 1 1 [.int .i64 (X : Nat), .string T] rfl rfl (cell_two_new _ _ _ _) (by simp [Value.oneCell']) (by unfold maxLen; omega) (by omega) (by simp; omega) ?_; intro v' w1 hown' hgrow _; obtain ⟨g', cap', rfl⟩ := ownsRow_succ hown'; obtain ⟨hv1, hv2, hr2, hk2, hb2⟩ := hv.appended (by decide) hrow hle (by omega) hown' hgrow; have hc1 := hv1.cell; have hf1 := hv1.frozen)
        exact ⟨hk2.from _, ⟨hk2.walks, fun k t y hk1 ht hb => ((hb.alloc _).kept hgrow (hb.not_row (by rcases ht with rfl | rfl <;> decide) hrow)).other (by omega) _⟩, by simp; omega, ⟨_, hv2, by rw [unhide HSN, List.length_append]; exact hr2⟩, fun D hD => ⟨(unhide HDS D hD).1, hk2.same D _ (unhide HDS D hD).2 rfl⟩, hB.trans hb2⟩
      case done1L =>
        rintro D1 xs V1 hD1 hS ⟨_, ⟨v, hv, hrow⟩, hDs, hB1⟩ hK1
        subst hS
        obtain ⟨ta, tc, rfl⟩ := row_slice2 hrow
        have c1 := hv.cell
        have f1 := hv.frozen
        gi_wp2
        rw [roundsIn_succ]
        obtain ⟨W2, hW2⟩ : ∃ W2, V1.setCell ⟨w4.heap.size, 0, none⟩ (.slice none 0 0) = W2 := ⟨_, rfl⟩
        have b92 : Boxed W2 w4.heap.size 28 (.slice none 0 0) := by rw [← hW2]; exact hv.set _
        have hB2w : Below w4.heap.size w4 W2 := by rw [← hW2]; exact hB1.setCell (p := ⟨w4.heap.size, 0, none⟩) (Nat.le_refl _) _
        have hK12 : W2.heap[D1]? = some (.deferred (some [])) := by rw [← hW2]; exact (KeepsOthers.setCell V1 ⟨w4.heap.size, 0, none⟩ (.slice none 0 0)).same D1 _ hK1 rfl
        have hD1s : D1 < W2.heap.size := (Array.getElem?_eq_some_iff.1 hK12).1
        have hs2 : w4.heap.size < W2.heap.size := b92.lt
        gi_wp2
        clear hv hrow hDs hK1 c1 f1
        refine range3G (by omega) (gf := 36) (lb := #[.pointer (some ⟨Bs, 0, none⟩)]) rfl (enters_of Tryd.func36 (by kernel_rfl) rfl)
          (each_gives s (by omega) _ Bs (by omega) w4 hbs4) hB2w (fun _ => rfl)
          (EachI w4 s W2.heap.size [D1]) (fun _ _ _ => False) (eachI_own w4 s _ _ hs2) (fun c st A B row hx hg hr => hx)
          ⟨by simp, ⟨.slice none 0 0, b92, by simpa [toldCs] using World.ownsRow_nil W2 _ _ _⟩, (by intro D hD; rw [List.mem_singleton.1 hD]; exact ⟨hD1s, hK12⟩), hB2w⟩
          ?a2L ?assign2L ?body2L ?done2L ?stop2L
        case assign2L =>
          intro l x W K hK
          gi_wp2
          exact hK
        case stop2L =>
          rintro D c pre V hD hSp h hK
          exact h.elim
        case body2L =>
          rintro l pre x V hl hsz2 ⟨r, hr⟩ ⟨hpl, ⟨v, hv, hrow⟩, hDs, hB⟩ hSp
          have hlen : pre.length + 1 ≤ s.size := by
            have h1 := hSp.length_le
            have h2 := lines_len s
            simp at h1; omega
          have c2 := hv.cell
          have hle := hB.size
          obtain ⟨va, vc, rfl⟩ := row_slice2 hrow
          have HSN := hide (toldCs_snoc s pre x)
          have HDS := hide hDs
          clear hSp hDs
          generalize s.extract x.2.1 x.2.2 = T at *
          generalize x.1 = X at *
          gi_wp2_with (gi_at_builtin; refine wpListIn_append_own _ rfl _ _ 28 rfl w4.heap.size 31 i0 (.agg #[.int .i64 0, .string ⟨#[]⟩]) 2 24 Tryd.underlying28 hi0 hz0 hz1 hz2 rfl (by decide) _ _ _ rfl (hrow.alloc _) ⟨V.heap.size, 0, none⟩ 1 1 [.int .i64 (X : Nat), .string T] rfl rfl (cell_two_new _ _ _ _) (by simp [Value.oneCell']) (by unfold maxLen; omega) (by omega) (by simp; omega) ?_; intro v' w1 hown' hgrow _; obtain ⟨g', cap', rfl⟩ := ownsRow_succ hown'; obtain ⟨hv1, hv2, hr2, hk2, hb2⟩ := hv.appended (by decide) hrow hle (by omega) hown' hgrow; have hc1 := hv1.cell; have hf1 := hv1.frozen)
          exact ⟨hk2.from _, ⟨hk2.walks, fun k t y hk1 ht hb => ((hb.alloc _).kept hgrow (hb.not_row (by rcases ht with rfl | rfl <;> decide) hrow)).other (by omega) _⟩, by simp; omega, ⟨_, hv2, by rw [unhide HSN, List.length_append]; exact hr2⟩, fun D hD => ⟨(unhide HDS D hD).1, hk2.same D _ (unhide HDS D hD).2 rfl⟩, hB.trans hb2⟩
        case done2L =>
          rintro D2 xs V2 hD2 hS ⟨_, ⟨v2, hv2, hrow2⟩, hDs, hBV2⟩ hK2
          subst hS
          obtain ⟨ta2, tc2, rfl⟩ := row_slice2 hrow2
          have c12 := hv2.cell
          gi_wp2
          rw [roundsIn_succ]
          have tA := to_row (rowB (unhide HRA) hBV2) (by rw [List.length_take]; omega)
          have pA := pi_row (rowB (unhide HRP4) hBV2)
          have tB := to_row hrow2 rfl
          obtain ⟨_, _, ea, tA⟩ := tA
          obtain ⟨rfl, rfl⟩ : aa = _ ∧ ac = _ := by simpa using ea
          obtain ⟨_, _, ep, pA⟩ := pA
          obtain ⟨rfl, rfl⟩ : pa = _ ∧ pc = _ := by simpa using ep
          obtain ⟨_, _, et, tB⟩ := tB
          obtain ⟨rfl, rfl⟩ : ta2 = _ ∧ tc2 = _ := by simpa using et
          rw [hN] at hv2 hrow2
          have HS1 := hide (callsIn_wide (n := 11) |>.2 (sameTold_yes s aa pa N ac N pc V2 (by omega) (by omega) hN.symm tA pA))
          have HS2 : Hid (∀ V3, Below V2.heap.size V2 V3 → CallsIn Fence.wide 11 Tryd.prog 17 #[.slice ta2 N tc2, .string s, .slice pa N pc, .int .i64 (N : Nat)] V3 fun e w' => e = .returned (.bool true) ∧ Below V3.heap.size V3 w') := fun V3 hb => by
            have tB' := to_row (rowB hrow2 hb) hN.symm
            have pA' := pi_row (rowB (rowB (unhide HRP4) hBV2) hb)
            obtain ⟨_, _, et', tB'⟩ := tB'
            obtain ⟨rfl, rfl⟩ : ta2 = _ ∧ tc2 = _ := by simpa using et'
            obtain ⟨_, _, ep', pA'⟩ := pA'
            obtain ⟨rfl, rfl⟩ : pa = _ ∧ pc = _ := by simpa using ep'
            exact callsIn_wide.2 (sameTold_yes s ta2 pa N tc2 N pc V3 (by omega) (Nat.le_refl _) hN.symm (by rw [← hN, List.take_of_length_le (Nat.le_refl _)]; exact tB') pA')
          have hKd1 := (hDs D1 (by simp)).2
          have hBfin : Below w.heap.size w V2 := hB4.trans (hBV2.mono hB4.size)
          have HBF := hide hBfin
          have HV2 := hide hv2
          clear ea ep et tA pA tB hDs c12 hBfin
          have c12 := (unhide HV2).cell
          gi_wp2_with fail
          refine (unhide HS1).mono ?_
          rintro e V3 ⟨rfl, hb3⟩
          have c13 := (boxed_below2 (unhide HV2) hb3).cell
          have HS3 := hide (unhide HS2 V3 hb3)
          gi_wp2_with fail
          refine (unhide HS3).mono ?_
          rintro e V4 ⟨rfl, hb5⟩
          have k1 := blkE (blkE hKd1 hb3) hb5
          have k2 := blkE (blkE hK2 hb3) hb5
          have hB5 : Below w.heap.size w V4 := ((unhide HBF).trans (hb3.mono (unhide HBF).size)).trans (hb5.mono (by have := (unhide HBF).size; have := hb3.size; omega))
          gi_wp2
          have hne12 : D1 ≠ D2 := by have := hD1s; omega
          have k1' : (V4.putObj D2 (.deferred none)).heap[D1]? = some (.deferred (some [])) := (World.putObj_heap_other hne12).trans k1
          refine ⟨by simp, .inl ⟨_, _, rfl, run_takeDeferred k2, by simp, .inl ⟨_, _, rfl, run_takeDeferred k1', ?_⟩⟩⟩
          exact ⟨_, results_tmp rfl _ _ _, rfl, (hB5.trans (belowK_b (w := w) (Nat.le_refl _) _ D2 _ _ (by omega) k2 rfl rfl)).trans (belowK_b (w := w) (Nat.le_refl _) _ D1 _ _ (by omega) k1' rfl rfl)⟩
  · have d1 : decide ((1 : Int) ≤ few) = false := decide_eq_false q1
    gi_wp2_with fail
    refine (unhide HAL _).mono ?_
    rintro e w4 ⟨va, rfl, hra, hb4⟩
    have hM : nOf s few = N := by unfold nOf; rw [if_neg (fun h => by omega), hN]
    rw [hM] at hra
    obtain ⟨aa, ac, rfl, -⟩ := to_row hra (by rw [List.length_take]; omega)
    have HRP4 := hide (rowB (World.ownsRow.alloc (unhide HRP) (.cells #[.string s] 9)) hb4)
    have HRA := hide hra
    clear hra
    have hz1' := hb1.size
    have hz2' := hb2.size
    have hz4' := hb4.size
    have hbs4 : Boxed w4 w2.heap.size 9 (.string s) := boxed_below2 (Boxed.new w2 _ _) hb4
    have hB4 : Below w.heap.size w w4 := (((hb1.trans (hb2.mono hb1.size)).alloc (by omega) _).trans (hb4.mono (by simp; omega)))
    simp only [World.size_alloc] at hz4'
    generalize hBs : w2.heap.size = Bs at *
    obtain ⟨W0, hW0⟩ : ∃ W0, w4.alloc (Obj.cells #[Value.slice none 0 0] 28) = W0 := ⟨_, rfl⟩
    have b9 : Boxed W0 w4.heap.size 28 (.slice none 0 0) := by rw [← hW0]; exact Boxed.new w4 _ _
    have hB0 : Below w4.heap.size w4 W0 := by rw [← hW0]; exact (Below.refl _ _).alloc (Nat.le_refl _) _
    have hs0 : w4.heap.size < W0.heap.size := by rw [← hW0]; simp
    have hse := set_same b9
    have c9 := b9.cell
    have f9 := b9.frozen
    gi_wp2
    refine wpIn_loop_rounds 3 ?_
    rw [roundsIn_succ]
    gi_wp2
    refine range3G (by omega) (gf := 36) (lb := #[.pointer (some ⟨Bs, 0, none⟩)]) rfl (enters_of Tryd.func36 (by kernel_rfl) rfl)
      (each_gives s (by omega) _ Bs (by omega) w4 hbs4) hB0 (fun _ => rfl)
      (EachI w4 s W0.heap.size []) (fun _ _ _ => False) (eachI_own w4 s _ _ hs0) (fun c st A B row hx hg hr => hx)
      ⟨by simp, ⟨.slice none 0 0, b9, by simpa [toldCs] using World.ownsRow_nil W0 _ _ _⟩, (by intro D hD; cases hD), hB0⟩
      ?a1N ?assign1N ?body1N ?done1N ?stop1N
    case assign1N =>
      intro l x W K hK
      gi_wp2
      exact hK
    case stop1N =>
      rintro D c pre V hD hSp h hK
      exact h.elim
    case body1N =>
      rintro l pre x V hl hsz2 ⟨r, hr⟩ ⟨hpl, ⟨v, hv, hrow⟩, hDs, hB⟩ hSp
      have hlen : pre.length + 1 ≤ s.size := by
        have h1 := hSp.length_le
        have h2 := lines_len s
        simp at h1; omega
      have c2 := hv.cell
      have hle := hB.size
      obtain ⟨va, vc, rfl⟩ := row_slice2 hrow
      have HSN := hide (toldCs_snoc s pre x)
      have HDS := hide hDs
      clear hSp hDs
      generalize s.extract x.2.1 x.2.2 = T at *
      generalize x.1 = X at *
      gi_wp2_with (gi_at_builtin; refine wpListIn_append_own _ rfl _ _ 28 rfl w4.heap.size 31 i0 (.agg #[.int .i64 0, .string ⟨#[]⟩]) 2 24 Tryd.underlying28 hi0 hz0 hz1 hz2 rfl (by decide) _ _ _ rfl (hrow.alloc _) ⟨V.heap.size, 0, none⟩ 1 1 [.int .i64 (X : Nat), .string T] rfl rfl (cell_two_new _ _ _ _) (by simp [Value.oneCell']) (by unfold maxLen; omega) (by omega) (by simp; omega) ?_; intro v' w1 hown' hgrow _; obtain ⟨g', cap', rfl⟩ := ownsRow_succ hown'; obtain ⟨hv1, hv2, hr2, hk2, hb2⟩ := hv.appended (by decide) hrow hle (by omega) hown' hgrow; have hc1 := hv1.cell; have hf1 := hv1.frozen)
      exact ⟨hk2.from _, ⟨hk2.walks, fun k t y hk1 ht hb => ((hb.alloc _).kept hgrow (hb.not_row (by rcases ht with rfl | rfl <;> decide) hrow)).other (by omega) _⟩, by simp; omega, ⟨_, hv2, by rw [unhide HSN, List.length_append]; exact hr2⟩, fun D hD => ⟨(unhide HDS D hD).1, hk2.same D _ (unhide HDS D hD).2 rfl⟩, hB.trans hb2⟩
    case done1N =>
      rintro D1 xs V1 hD1 hS ⟨_, ⟨v, hv, hrow⟩, hDs, hB1⟩ hK1
      subst hS
      obtain ⟨ta, tc, rfl⟩ := row_slice2 hrow
      have c1 := hv.cell
      have f1 := hv.frozen
      gi_wp2
      rw [roundsIn_succ]
      obtain ⟨W2, hW2⟩ : ∃ W2, V1.setCell ⟨w4.heap.size, 0, none⟩ (.slice none 0 0) = W2 := ⟨_, rfl⟩
      have b92 : Boxed W2 w4.heap.size 28 (.slice none 0 0) := by rw [← hW2]; exact hv.set _
      have hB2w : Below w4.heap.size w4 W2 := by rw [← hW2]; exact hB1.setCell (p := ⟨w4.heap.size, 0, none⟩) (Nat.le_refl _) _
      have hK12 : W2.heap[D1]? = some (.deferred (some [])) := by rw [← hW2]; exact (KeepsOthers.setCell V1 ⟨w4.heap.size, 0, none⟩ (.slice none 0 0)).same D1 _ hK1 rfl
      have hD1s : D1 < W2.heap.size := (Array.getElem?_eq_some_iff.1 hK12).1
      have hs2 : w4.heap.size < W2.heap.size := b92.lt
      gi_wp2
      clear hv hrow hDs hK1 c1 f1
      refine range3G (by omega) (gf := 36) (lb := #[.pointer (some ⟨Bs, 0, none⟩)]) rfl (enters_of Tryd.func36 (by kernel_rfl) rfl)
        (each_gives s (by omega) _ Bs (by omega) w4 hbs4) hB2w (fun _ => rfl)
        (EachI w4 s W2.heap.size [D1]) (fun _ _ _ => False) (eachI_own w4 s _ _ hs2) (fun c st A B row hx hg hr => hx)
        ⟨by simp, ⟨.slice none 0 0, b92, by simpa [toldCs] using World.ownsRow_nil W2 _ _ _⟩, (by intro D hD; rw [List.mem_singleton.1 hD]; exact ⟨hD1s, hK12⟩), hB2w⟩
        ?a2N ?assign2N ?body2N ?done2N ?stop2N
      case assign2N =>
        intro l x W K hK
        gi_wp2
        exact hK
      case stop2N =>
        rintro D c pre V hD hSp h hK
        exact h.elim
      case body2N =>
        rintro l pre x V hl hsz2 ⟨r, hr⟩ ⟨hpl, ⟨v, hv, hrow⟩, hDs, hB⟩ hSp
        have hlen : pre.length + 1 ≤ s.size := by
          have h1 := hSp.length_le
          have h2 := lines_len s
          simp at h1; omega
        have c2 := hv.cell
        have hle := hB.size
        obtain ⟨va, vc, rfl⟩ := row_slice2 hrow
        have HSN := hide (toldCs_snoc s pre x)
        have HDS := hide hDs
        clear hSp hDs
        generalize s.extract x.2.1 x.2.2 = T at *
        generalize x.1 = X at *
        gi_wp2_with (gi_at_builtin; refine wpListIn_append_own _ rfl _ _ 28 rfl w4.heap.size 31 i0 (.agg #[.int .i64 0, .string ⟨#[]⟩]) 2 24 Tryd.underlying28 hi0 hz0 hz1 hz2 rfl (by decide) _ _ _ rfl (hrow.alloc _) ⟨V.heap.size, 0, none⟩ 1 1 [.int .i64 (X : Nat), .string T] rfl rfl (cell_two_new _ _ _ _) (by simp [Value.oneCell']) (by unfold maxLen; omega) (by omega) (by simp; omega) ?_; intro v' w1 hown' hgrow _; obtain ⟨g', cap', rfl⟩ := ownsRow_succ hown'; obtain ⟨hv1, hv2, hr2, hk2, hb2⟩ := hv.appended (by decide) hrow hle (by omega) hown' hgrow; have hc1 := hv1.cell; have hf1 := hv1.frozen)
        exact ⟨hk2.from _, ⟨hk2.walks, fun k t y hk1 ht hb => ((hb.alloc _).kept hgrow (hb.not_row (by rcases ht with rfl | rfl <;> decide) hrow)).other (by omega) _⟩, by simp; omega, ⟨_, hv2, by rw [unhide HSN, List.length_append]; exact hr2⟩, fun D hD => ⟨(unhide HDS D hD).1, hk2.same D _ (unhide HDS D hD).2 rfl⟩, hB.trans hb2⟩
      case done2N =>
        rintro D2 xs V2 hD2 hS ⟨_, ⟨v2, hv2, hrow2⟩, hDs, hBV2⟩ hK2
        subst hS
        obtain ⟨ta2, tc2, rfl⟩ := row_slice2 hrow2
        have c12 := hv2.cell
        gi_wp2
        rw [roundsIn_succ]
        have tA := to_row (rowB (unhide HRA) hBV2) (by rw [List.length_take]; omega)
        have pA := pi_row (rowB (unhide HRP4) hBV2)
        have tB := to_row hrow2 rfl
        obtain ⟨_, _, ea, tA⟩ := tA
        obtain ⟨rfl, rfl⟩ : aa = _ ∧ ac = _ := by simpa using ea
        obtain ⟨_, _, ep, pA⟩ := pA
        obtain ⟨rfl, rfl⟩ : pa = _ ∧ pc = _ := by simpa using ep
        obtain ⟨_, _, et, tB⟩ := tB
        obtain ⟨rfl, rfl⟩ : ta2 = _ ∧ tc2 = _ := by simpa using et
        rw [hN] at hv2 hrow2
        have HS1 := hide (callsIn_wide (n := 11) |>.2 (sameTold_yes s aa pa N ac N pc V2 (by omega) (by omega) hN.symm tA pA))
        have HS2 : Hid (∀ V3, Below V2.heap.size V2 V3 → CallsIn Fence.wide 11 Tryd.prog 17 #[.slice ta2 N tc2, .string s, .slice pa N pc, .int .i64 (N : Nat)] V3 fun e w' => e = .returned (.bool true) ∧ Below V3.heap.size V3 w') := fun V3 hb => by
          have tB' := to_row (rowB hrow2 hb) hN.symm
          have pA' := pi_row (rowB (rowB (unhide HRP4) hBV2) hb)
          obtain ⟨_, _, et', tB'⟩ := tB'
          obtain ⟨rfl, rfl⟩ : ta2 = _ ∧ tc2 = _ := by simpa using et'
          obtain ⟨_, _, ep', pA'⟩ := pA'
          obtain ⟨rfl, rfl⟩ : pa = _ ∧ pc = _ := by simpa using ep'
          exact callsIn_wide.2 (sameTold_yes s ta2 pa N tc2 N pc V3 (by omega) (Nat.le_refl _) hN.symm (by rw [← hN, List.take_of_length_le (Nat.le_refl _)]; exact tB') pA')
        have hKd1 := (hDs D1 (by simp)).2
        have hBfin : Below w.heap.size w V2 := hB4.trans (hBV2.mono hB4.size)
        have HBF := hide hBfin
        have HV2 := hide hv2
        clear ea ep et tA pA tB hDs c12 hBfin
        have c12 := (unhide HV2).cell
        gi_wp2_with fail
        refine (unhide HS1).mono ?_
        rintro e V3 ⟨rfl, hb3⟩
        have c13 := (boxed_below2 (unhide HV2) hb3).cell
        have HS3 := hide (unhide HS2 V3 hb3)
        gi_wp2_with fail
        refine (unhide HS3).mono ?_
        rintro e V4 ⟨rfl, hb5⟩
        have k1 := blkE (blkE hKd1 hb3) hb5
        have k2 := blkE (blkE hK2 hb3) hb5
        have hB5 : Below w.heap.size w V4 := ((unhide HBF).trans (hb3.mono (unhide HBF).size)).trans (hb5.mono (by have := (unhide HBF).size; have := hb3.size; omega))
        gi_wp2
        have hne12 : D1 ≠ D2 := by have := hD1s; omega
        have k1' : (V4.putObj D2 (.deferred none)).heap[D1]? = some (.deferred (some [])) := (World.putObj_heap_other hne12).trans k1
        refine ⟨by simp, .inl ⟨_, _, rfl, run_takeDeferred k2, by simp, .inl ⟨_, _, rfl, run_takeDeferred k1', ?_⟩⟩⟩
        exact ⟨_, results_tmp rfl _ _ _, rfl, (hB5.trans (belowK_b (w := w) (Nat.le_refl _) _ D2 _ _ (by omega) k2 rfl rfl)).trans (belowK_b (w := w) (Nat.le_refl _) _ D1 _ _ (by omega) k1' rfl rfl)⟩
end Go.Proofs.YtlaennakglhmjaaDoor
namespace Go.Proofs.YtlaennakglhmjaaDoor.linesEach
open Go.ChangeShapes Go.WideShapes Go.ChangeAt Go.RowKit
open Go.ChangeMaps (open_string shut_string)
set_option linter.unusedVariables false
theorem walk (s : ByteArray) (few : Int) (w : World) (hg : errTypeAt w) (hs : s.size ≤ 1048576) :
    Calls Tryd.prog 3 #[.string s, .int .i64 few] w fun e w' => e = .returned (.bool true) ∧ Below w.heap.size w w' := eachs_any s few w hg hs

theorem laidOut : laidOutB Tryd.prog = true := by kernel_rfl

set_option maxRecDepth 100000 in
theorem contract (H : Type) (enc : TypeId × Value → H) (W : World) (base : Nat) (args : Array Value) (ds gs : List (DataW H)) (before : List MemPlace)
    (hval : ∀ (j : Nat) t v, Tryd.f3.params[j]? = some t → args[j]? = some v → Value.okWide Tryd.prog W .any base t v)
    (hW : DataW.Whole enc Tryd.prog Tryd.f3.params.toList Rows.linesEachSpec.vars false W args.toList ds gs before) (hk : Rows.uptoSmall H (ds ++ gs) = true) (hL : laidMetH Tryd.prog laid3 W) :
    Calls Tryd.prog 3 args W fun e W' => ∃ v, e = .returned v ∧ Rows.linesEachSpec.post enc Tryd.prog Tryd.f3 false true false false W args v W' := by
  have hW' := hW
  obtain ⟨p, q, hA0, hV, rfl, hfz, hnd⟩ := hW
  have hA : DataW.TrodAll enc Tryd.prog W 0 (fun _ => true) true Tryd.f3.params.toList args.toList ds p := hA0
  rw [Tryd.params3] at hA hval
  obtain ⟨v0, vs0, d0, ds0, p0, q0, hargs, rfl, rfl, h0, r0⟩ := trodAll_cons hA
  obtain ⟨v1, vs1, d1, ds1, p1, q1, rfl, rfl, rfl, h1, r1⟩ := trodAll_cons r0
  obtain ⟨rfl, rfl, rfl⟩ := trodAll_nil r1
  obtain rfl : args = #[v0, v1] := by cases args; simp_all
  obtain ⟨rfl, rfl⟩ := trodVars_none hV
  obtain ⟨a0, rfl, rfl, rfl, w0⟩ := open_string Tryd.underlying9 (hval 0 9 v0 rfl rfl) h0
  obtain ⟨a1, rfl, hd1, rfl, w1⟩ := open_int Tryd.underlying3 (hval 1 3 v1 rfl rfl) h1
  have hk' : Rows.uptoSmall H [.lit (.string a0.data.toList), d1] = true := hk
  have hb := bulk_bound hk'
  simp only [Rows.uptoBulkAll] at hb
  rw [bulk_string a0] at hb
  have c0 : a0.size ≤ 1048576 := by omega
  clear hA0
  have hwk := walk a0 a1 W (errType_of_laid hL) c0
  subst hd1
  refine hwk.mono fun e W' ⟨he, bel⟩ => ?_
  subst he
  exact ⟨_, rfl, _, _, _, [], _, [], hW', trodAll_mk1 (shut_bool Tryd.underlying4 _), (trodAll_cons_mk (shut_string Tryd.underlying9 w0) (trodAll_cons_mk (shut_int Tryd.underlying3 w1) trodAll_mk0)), rfl, bel.frame _, fun h => by cases h⟩

set_option maxRecDepth 100000 in
theorem lifted (os : Os) (started : os.Started) (H : Type) (enc : TypeId × Value → H) (F : Stop.Interp) :
    ReturnsInHanded {} Tryd.checked os 3 .any ((Rows.OpenSpec.upto Rows.linesEachSpec).preRow enc Tryd.prog Tryd.f3 Rows.linesEachUptoRow.domain false Rows.linesEachUptoRow.laid) (((Rows.OpenSpec.upto Rows.linesEachSpec).at F).post enc Tryd.prog Tryd.f3 false true false false) := by
  refine returnsInHanded_of_row (C := Tryd.checked) (s := Rows.OpenSpec.upto Rows.linesEachSpec) own3 started (by kernel_rfl) Tryd.func3
    (witness_row_shaped (enc := enc) (C := Tryd.checked) (witW os) #[.string ByteArray.empty, .int .i64 0] (witW_os os) (World.shaped_of_ZipB (by kernel_rfl) (by kernel_rfl)) (by kernel_rfl)
      (OpenSpec.preRow_of_cond 8 (x := ([.lit (.string []), .lit (.int .i64 0)], [], [])) (by kernel_rfl) (by kernel_rfl) (fun k hk => by cases hk; kernel_rfl) (by kernel_rfl) (laidMetH_of_parts (laidMet_over _ (by kernel_rfl) (by kernel_rfl)) (by kernel_rfl)))) ?_
  intro W base args ds gs before hval hW _ hcond _ hL _ _
  exact contract H enc W base args ds gs before hval hW (hcond _ rfl) hL

theorem over : Rows.LinesEachUptoSaid :=
  OpenClaim.holds_of_cond 3 Tryd.f3 rfl rfl rfl rfl rfl rfl rfl ⟨rfl, rfl, rfl, rfl, rfl⟩ rfl rfl rfl rfl rfl (by kernel_rfl) Tryd.func3 (by kernel_rfl)
    (of_decide_eq_true (by kernel_rfl)) (by unfold Func.isWrapper; first | (rw [if_pos (by decide +kernel)]; kernel_rfl) | (rw [if_neg (by decide +kernel)]; exact ⟨rfl, rfl⟩))
    (fun os started H enc _ F => by rw [OpenClaim.pre_eq_preRow]; exact lifted os started H enc F)

end Go.Proofs.YtlaennakglhmjaaDoor.linesEach
namespace Go.Proofs.YtlaennakglhmjaaDoor
theorem linesEach_uptocard : Rows.LinesEachUptoCardSaid :=
  Claim7.holds_tied_plain_at .later [] [.data, .handle, .pinned] true _ true linesEach.over (fun _ h => by cases h) (by kernel_rfl) (fun _ h => by cases h) linesEachUpto_row_tie rfl ⟨rfl, rfl⟩ (by kernel_rfl) rfl
    (fun f fn hf hfn => by
      obtain rfl : f = 3 := Option.some.inj ((show Tryd.prog.funcNamed Rows.linesEachUptoRow.func = some 3 by kernel_rfl).symm.trans hf) |>.symm
      obtain rfl : fn = Tryd.f3 := (Option.some.inj (Tryd.func3.symm.trans hfn)).symm
      refine ⟨by kernel_rfl, fun j t ht => ?_⟩
      rw [Tryd.params3] at ht
      have hm := Array.mem_of_getElem? ht
      have hm' : t ∈ [9, 3] := Array.mem_toList_iff.2 hm
      simp only [List.mem_cons, List.not_mem_nil, or_false] at hm'
      rcases hm' with rfl | rfl
      · exact (show Tryd.prog.wantsStandIn 9 = false by kernel_rfl)
      · exact (show Tryd.prog.wantsStandIn 3 = false by kernel_rfl))
    (by kernel_rfl)
end Go.Proofs.YtlaennakglhmjaaDoor

