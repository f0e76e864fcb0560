/-
  WordsLists: Classes of every text and Write of every classes are the document's, in memory of their own. The condition: the text and the list have together at most 1048576 bytes and places (a bulk of at most 1048576).
-/
import Derived.Test.YtkpmcojoiijonaaBulk
import Derived.Test.YtkpmcojoiijonaaWoLi1
import Derived.ProofKit
import Derived.OpenShut
import Derived.ShutString
import Derived.ChangeOld
namespace Go.Proofs.Ytkpmcojoiijonaa.wordsLists
open Go.ChangeShapes Go.WideShapes Go.ChangeAt Go.RowKit Go.PlainAid Go.Lib Go.ChangeMaps
set_option linter.unusedVariables false

theorem clsL_len (s : ByteArray) : (clsL s).length ≤ s.size := by
  have := words_len s
  unfold clsL
  split
  · simp
  · rw [List.length_map]; exact this
theorem row_some {W : World} {base : Nat} {e : TypeId} {a : Option Addr} {n c : Nat} {xs : List Value} (h : W.ownsRow base e 1 (.slice a n c) n xs) (h0 : 0 < n) : ∃ g, a = some ⟨g, 0, none⟩ ∧ n ≤ c ∧ c ≤ 9223372036854775807 ∧ base ≤ g := by
  rcases h.2 with ⟨_, h⟩ | ⟨g', cap', cur, h, h0, _, h1, h2, _⟩
  · omega
  · simp only [Value.slice.injEq] at h
    unfold maxLen at h2
    exact ⟨g', h.1, by rw [h.2.2]; exact h1, by rw [h.2.2]; exact h2, h0⟩
theorem full_of {W : World} {base : Nat} {zs : List Int} {g m c n : Nat} (h : W.ownsRow base 34 1 (.slice (some ⟨g, 0, none⟩) n c) n (zs.map (Value.int .u8) ++ [.int .u8 77, .int .u8 78])) (hn : n = m + 2) (hm : zs.length = m) :
    ReadsB W (some ⟨g, 0, none⟩) zs ∧ W.cell? ⟨g, m, none⟩ = some (.int .u8 77) ∧ W.cell? ⟨g, m + 1, none⟩ = some (.int .u8 78) ∧ m + 2 ≤ c ∧ c ≤ 9223372036854775807 ∧ g < W.heap.size := by
  subst hn
  subst hm
  have h0 := h.cellAt zs.length (by omega)
  have h1 := h.cellAt (zs.length + 1) (by omega)
  refine ⟨?_, h0.trans (by simp), h1.trans (by simp), ?_⟩
  · intro k hk
    refine ⟨g, 0, rfl, ?_⟩
    rw [Nat.zero_add, h.cellAt k (by omega), List.getElem?_append_left (by simpa using hk)]
    simp [List.getD, List.getElem?_eq_getElem hk]
  · obtain ⟨g', e, h2, h3, _⟩ := row_some h (by omega)
    exact ⟨h2, h3, (h.lt g rfl).2⟩
set_option maxRecDepth 100000 in
set_option maxHeartbeats 4000000 in
theorem walk (s : ByteArray) (a1 : Option Addr) (zs : List Int) (cap : Nat) (w : World) (hs : s.size ≤ 1048576) (hrd : ReadsB w a1 zs) (hfi : FitsB zs) (hlc : zs.length ≤ cap) (hcap : cap ≤ 1048576) :
    Calls Try.prog 8 #[.string s, .slice a1 zs.length cap] w fun e w' => e = .returned (.bool true) ∧ Below w.heap.size w w' := by
  obtain ⟨i0, hi, hz0, hz1, hz2⟩ := info_parts infoClass
  have hcl := clsL_len s
  have HC := hide (fun w => classes_any s w (by omega))
  have HRC := hide (fun w => rClasses_any s w (by omega))
  have HRD := hide hrd
  have HWR := hide (fun (w : World) (x : Option Addr) (c : Nat) (h : ReadsB w x zs) => write_any x c zs w h hfi (by omega))
  have HRW := hide (fun (w : World) (h : ReadsB w a1 zs) => rWrite_any a1 cap zs w h hfi (by omega))
  have HSZ := hide (fun (w : World) (x : Option Addr) (c : Nat) (h : ReadsB w x zs) (h' : ReadsB w a1 zs) => sameC_yes x a1 c cap zs.length zs w rfl h h' (by omega))
  have hSU := fun (w : World) (x y : Option Addr) (c c' : Nat) (h : ReadsB w x (clsL s)) (h' : ReadsB w y (clsL s)) => sameC_yes x y c c' (clsL s).length (clsL s) w rfl h h' (by omega)
  have HSU := hide hSU
  clear hSU hrd hfi
  generalize clsL s = us at *
  generalize clsP s = P at *
  generalize clsE s = E at *
  generalize hn : us.length = n at *
  have HN := hide hn
  clear hn
  generalize hm : zs.length = m at *
  have HM := hide hm
  clear hm
  have q1 : ((P : Int) != (P : Int)) = false := by simp
  have q2 : (E != E) = false := by simp
  go_enter Try.func8, Try.ntmps8
  go_wp2_with fail
  refine (unhide HC _).mono ?_
  rintro e w1 ⟨v1, rfl, hr1, hb1⟩
  obtain ⟨aa, ac, rfl⟩ := row_sliceC hr1
  have HR1 := hide hr1
  clear hr1
  go_wp2_with fail
  refine (unhide HC _).mono ?_
  rintro e w2 ⟨v2, rfl, hr2, hb2⟩
  obtain ⟨ba, bc, rfl⟩ := row_sliceC hr2
  have HR2 := hide hr2
  clear hr2
  go_wp2_with fail
  refine (unhide HRC _).mono ?_
  rintro e w3 ⟨v3, rfl, hr3, hb3⟩
  obtain ⟨wa, wc, rfl⟩ := row_sliceC hr3
  have HR3 := hide hr3
  clear hr3
  have A3 := hide (row_belowC (row_belowC (unhide HR1) hb2) hb3)
  have B3 := hide (row_belowC (unhide HR2) hb3)
  go_wp2_with fail
  refine (unhide HSU _ _ _ _ _ (readsB_own (unhide A3)) (readsB_own (unhide HR3))).mono ?_
  rintro e w4 ⟨rfl, hb4⟩
  go_wp2_with fail
  refine (unhide HSU _ _ _ _ _ ((readsB_own (unhide B3)).below hb4) ((readsB_own (unhide HR3)).below hb4)).mono ?_
  rintro e w5 ⟨rfl, hb5⟩
  have hb35 := below2 hb4 hb5
  have A5 := hide (row_belowC (unhide A3) hb35)
  have B5 := hide (row_belowC (unhide B3) hb35)
  have W5 := hide (row_belowC (unhide HR3) hb35)
  have hB5 : Below w.heap.size w w5 := below2 (below2 (below2 hb1 hb2) hb3) hb35
  have hlA : ∀ g, (Value.slice aa n ac).ownBlock = some g → g < w1.heap.size := fun g e => ((unhide HR1).lt g e).2
  have AB := hide (awayB_rows (us := us) (unhide B5) hlA)
  have AW := hide (awayB_rows (us := us) (unhide W5) (fun g e => Nat.lt_of_lt_of_le (hlA g e) hb2.size))
  clear hb1 hb2 hb3 hb4 hb5 hb35 HR1 HR2 HR3 A3 B3 hlA
  go_wp2
  go_loopw [14] (fun v14 wr => ∃ (k : Nat) (xs : List Value), k ≤ n ∧ v14 = .int .i64 k ∧ wr.ownsRow w.heap.size 34 1 (.slice aa n ac) n xs ∧ ReadsB wr ba us ∧ ReadsB wr wa us ∧ Below w.heap.size w wr) (fun v14 _ => n - (RowKit.intOf v14).toNat)
  case atStart => exact ⟨0, _, Nat.zero_le _, rfl, unhide A5, readsB_own (unhide B5), readsB_own (unhide W5), hB5⟩
  case round =>
    obtain ⟨k, xs, hk, rfl, hrow, hrb, hrw, hB⟩ := hrel
    by_cases hlt : k < n
    · obtain ⟨g, hg, hc1, hc2, hgb⟩ := row_some hrow (by omega)
      subst hg
      have f1 := hrow.frozenAt k
      obtain ⟨y, c1⟩ : ∃ y, wr.cell? ⟨g, k, none⟩ = some y := by
        rw [hrow.cellAt k (by omega)]
        exact ⟨_, List.getElem?_eq_getElem (by rw [hrow.1]; omega)⟩
      have hst := hrow.stored k (.int .u8 99)
      have HST := hide hst.1
      have HRB := hide (hrb.grown hst.2 (unhide AB))
      have HRW2 := hide (hrw.grown hst.2 (unhide AW))
      have HBB := hide (hB.setCell (p := ⟨g, k, none⟩) hgb (.int .u8 99))
      clear hst hrow hrb hrw hB
      go_wp2
      go_roundw
      case rel => exact ⟨k + 1, _, by omega, by go_num, unhide HST, unhide HRB, unhide HRW2, unhide HBB⟩
      case measure => simp [RowKit.intOf]; omega
    · obtain rfl : k = n := by omega
      clear A5 B5 W5 hB5
      go_wp2
      go_loopw [5, 15] (fun v5 v15 wr2 => ∃ (j : Nat) (xs : List Value), j ≤ 40 ∧ v15 = .int .i64 j ∧ wr2.ownsRow w.heap.size 34 1 v5 (k + j) xs ∧ ReadsB wr2 ba us ∧ ReadsB wr2 wa us ∧ AwayB v5 ba us ∧ AwayB v5 wa us ∧ Below w.heap.size w wr2) (fun _ v15 _ => 40 - (RowKit.intOf v15).toNat)
      case atStart => exact ⟨0, xs, by omega, rfl, hrow, hrb, hrw, unhide AB, unhide AW, hB⟩
      case round =>
        clear hrow hrb hrw hB
        obtain ⟨j, xs, hj, rfl, hrow, hrb, hrw, hab, haw, hB⟩ := hrel
        obtain ⟨va, vc, rfl⟩ := row_sliceC hrow
        have hBs := hB.size
        by_cases hlt2 : j < 40
        · have HAB := hide hab
          have HAW := hide haw
          have HRB := hide hrb
          have HRW2 := hide hrw
          clear hab haw hrb hrw
          go_wp2_with (at_builtin; refine wpList_append_own_at _ rfl _ _ 48 rfl w.heap.size 34 i0 (.int .u8 0) 1 1 Try.underlying48 hi hz0 hz1 hz2 rfl (by decide) _ _ _ rfl (hrow.alloc _) ⟨wr.heap.size, 0, none⟩ 1 1 [.int .u8 98] rfl rfl (cell_one_new _ _ _) (by simp [Value.oneCell']) (by unfold maxLen; omega) (by omega) (by simp; omega) ?_; intro v' w6 hown' hgrow _ hvb)
          have hB2 := (hB.alloc hBs _).grown hgrow (by simp; omega) (own_base hrow)
          have hrb1 := (unhide HRB).below ((Below.refl _ wr).alloc (Nat.le_refl _) (.cells #[.int .u8 98] 34))
          have hrw1 := (unhide HRW2).below ((Below.refl _ wr).alloc (Nat.le_refl _) (.cells #[.int .u8 98] 34))
          have z1 := hrb1.grown hgrow (unhide HAB)
          have z2 := hrw1.grown hgrow (unhide HAW)
          have z3 := (unhide HAB).next hrb1 hvb (Nat.le_refl _)
          have z4 := (unhide HAW).next hrw1 hvb (Nat.le_refl _)
          go_roundw
          case rel => exact ⟨j + 1, _, by omega, by go_num, hown', z1, z2, z3, z4, hB2⟩
          case measure => simp [RowKit.intOf]; omega
        · obtain rfl : j = 40 := by omega
          obtain ⟨vf, w6, hap, hown6, hg6⟩ := appC wr wr.heap.size zs a1 cap ((unhide HRD).below hB) (by rw [unhide HM]; omega) (Nat.le_refl _)
          rw [unhide HM] at hap hown6
          have hb6 : Below wr.heap.size wr w6 := (Below.refl _ _).grown hg6 (Nat.le_refl _) (fun k e => by cases e)
          have hs6 := hb6.size
          obtain ⟨fa, fc, rfl⟩ := row_sliceC hown6
          have HAP := hide hap
          have HRBr := hide hrb
          have HRWr := hide hrw
          have HB6 := hide (below2 hB hb6)
          clear hap hg6 hrb hrw hab haw hrow
          go_wp2_with (first
            | (at_builtin; refine wpList_append_run wr rfl _ _ 48 rfl _ _ rfl rfl _ _ (unhide HAP) ?_)
            | (at_builtin; refine wpList_append_own_at _ rfl _ _ 48 rfl wr.heap.size 34 i0 (.int .u8 0) 1 1 Try.underlying48 hi hz0 hz1 hz2 rfl (by decide) _ _ _ rfl (hown6.alloc _) ⟨w6.heap.size, 0, none⟩ 2 2 [.int .u8 77, .int .u8 78] rfl rfl (cell_two_new _ _ _ _) (by simp [Value.oneCell']) (by unfold maxLen; omega) (by omega) (by simp; omega) ?_; intro v7 w7 hown7 hgrow7 _ _; obtain ⟨g7, cap7, rfl⟩ := ownsRow_succ hown7; obtain ⟨rF, cF1, cF2, hcp, hcm, gF⟩ := full_of hown7 rfl (unhide HM); have HRF := hide rF; have HC1 := hide cF1; have HC2 := hide cF2; clear rF cF1 cF2)
            | fail)
          replace hgrow7 : World.grownBy _ w7 (Value.slice fa m fc).ownBlock := hgrow7
          have hb67 : Below wr.heap.size wr w7 := (hb6.alloc hs6 _).grown hgrow7 (by simp; omega) (own_base hown6)
          have hB7 : Below w.heap.size w w7 := below2 hB hb67
          have HRB7 := hide ((unhide HRBr).below hb67)
          have HRW7 := hide ((unhide HRWr).below hb67)
          clear hown7 hgrow7 hown6 hb6 hs6 HB6 hb67 hB HRBr HRWr
          generalize wrS zs = T at *
          generalize wrE zs = F at *
          have t1 : (T.toList == T.toList) = true := by simp
          have t2 : (F == F) = true := by simp
          refine (unhide HWR _ _ _ (unhide HRF)).mono ?_
          rintro e w8 ⟨rfl, hb8⟩
          go_wp2_with fail
          refine (unhide HRW _ ((unhide HRD).below (below2 hB7 hb8))).mono ?_
          rintro e w9 ⟨rfl, hb9⟩
          have hb79 := below2 hb8 hb9
          clear hb8 hb9
          go_wp2_with fail
          refine (unhide HSU _ _ _ _ _ ((unhide HRB7).below hb79) ((unhide HRW7).below hb79)).mono ?_
          rintro e w10 ⟨rfl, hb10⟩
          have hb7a := below2 hb79 hb10
          clear hb79 hb10
          have e40 : (((k + 40 : Nat) : Int) == (k : Int) + 40) = true := by simp
          go_wp2_with fail
          refine (unhide HSZ _ _ _ ((unhide HRF).below hb7a) ((unhide HRD).below (below2 hB7 hb7a))).mono ?_
          rintro e w11 ⟨rfl, hb11⟩
          have hb7b := below2 hb7a hb11
          clear hb7a hb11
          have k1 := (hb7b.cell (p := ⟨g7, m, none⟩) gF).trans (unhide HC1)
          have k2 := (hb7b.cell (p := ⟨g7, m + 1, none⟩) gF).trans (unhide HC2)
          go_wp2_with fail
          refine (awake_any _).mono ?_
          rintro e w12 ⟨rfl, hb12⟩
          go_wp2
          go_ret
          exact ⟨rfl, below2 (below2 hB7 hb7b) hb12⟩

theorem own : ownKnob Try.prog.godebug = none := by kernel_rfl
theorem laidOut : laidOutB Try.prog = true := by kernel_rfl

set_option maxRecDepth 100000 in
theorem contract (H : Type) (enc : TypeId × Value → H) (W : World) (base : Nat) (args : Array Value) (ds gs : List (DataW H)) (before : List MemPlace)
    (hval : ∀ (j : Nat) t v, Try.f8.params[j]? = some t → args[j]? = some v → Value.okWide Try.prog W .any base t v)
    (hW : DataW.Whole enc Try.prog Try.f8.params.toList Rows.wordsListsSpec.vars false W args.toList ds gs before) (hk : Rows.uptoSmall H (ds ++ gs) = true) :
    Calls Try.prog 8 args W fun e W' => ∃ v, e = .returned v ∧ Rows.wordsListsSpec.post enc Try.prog Try.f8 false true false false W args v W' := by
  have hW' := hW
  obtain ⟨p, q, hA0, hV, rfl, hfz, hnd⟩ := hW
  have hA : DataW.TrodAll enc Try.prog W 0 (fun _ => true) true Try.f8.params.toList args.toList ds p := hA0
  rw [Try.params8] at hA hval
  obtain ⟨v0, vs0, d0, ds0, p0, q0, hargs, rfl, rfl, h0, r0⟩ := trodAll_cons hA
  obtain ⟨v1, vs1, d1, ds1, p1, q1, rfl, rfl, rfl, h1, r1⟩ := trodAll_cons r0
  obtain ⟨rfl, rfl, rfl⟩ := trodAll_nil r1
  obtain rfl : args = #[v0, v1] := by cases args; simp_all
  obtain ⟨rfl, rfl⟩ := trodVars_none hV
  obtain ⟨a0, rfl, rfl, rfl, w0⟩ := open_string Try.underlying9 (hval 0 9 v0 rfl rfl) h0
  obtain ⟨a1, len1, cap1, rfl⟩ := okWide_slice Try.underlying48 (hval 1 48 v1 rfl rfl)
  have k1 := h1
  have lt1 : ∀ x ∈ p1, x.block < W.heap.size := by obtain ⟨m, hm⟩ := k1; exact DataW.trod_lt m _ _ _ hm
  have hk' : Rows.uptoSmall H [.lit (.string a0.data.toList), d1] = true := hk
  have hb := bulk_bound hk'
  simp only [Rows.uptoBulkAll] at hb
  rw [bulk_string a0] at hb
  have c0 : a0.size ≤ 1048576 := by omega
  obtain ⟨z1, w1, c1, wf1⟩ : ∃ zs : List Int, ((a1 = none ∧ len1 = 0 ∧ cap1 = 0 ∧ zs = []) ∨ ∃ x, a1 = some x ∧ len1 ≤ cap1 ∧ cap1 ≤ maxLen ∧ zs.length = cap1 ∧ (∀ i, i < zs.length → W.cell? (x.add i) = some (.int .u8 (zs.getD i 0)))) ∧ cap1 ≤ 1048576 ∧ (∀ n ∈ zs, (Lit.int .u8 n).wf = true) := by
    obtain ⟨fuel, hf⟩ := h1
    rcases open_ints Try.underlying48 Try.underlying34 (by kernel_rfl) hf with ⟨hcs, _⟩ | ⟨x, l, c, zs, hcs, _, hl, hm, hz, hx, hcell, hwz⟩
    · simp [Value.cells] at hcs
      obtain ⟨rfl, rfl, rfl⟩ := hcs
      exact ⟨[], .inl ⟨rfl, rfl, rfl, rfl⟩, by omega, by simp⟩
    · simp [Value.cells] at hcs
      obtain ⟨rfl, rfl, rfl⟩ := hcs
      have hz' : zs.length = cap1 := by simpa using hz
      refine ⟨zs, .inr ⟨_, rfl, hl, hm, hz', hcell⟩, ?_, hwz⟩
      have hd : d1 = .slice (lits .u8 (zs.take len1)) (lits .u8 (zs.drop len1)) := by simp only [Prod.mk.injEq] at hx; exact hx.1
      rw [hd] at hb
      have h2 := bulk_slice (H := H) (lits .u8 (zs.take len1)) (lits .u8 (zs.drop len1))
      have e1 : (lits (H := H) .u8 (zs.take len1)).length = (zs.take len1).length := by simp [lits]
      have e2 : (lits (H := H) .u8 (zs.drop len1)).length = (zs.drop len1).length := by simp [lits]
      rw [e1, e2, List.length_take, List.length_drop] at h2
      omega
  have hlc1 : len1 ≤ cap1 := by rcases w1 with ⟨_, h, h', _⟩ | ⟨_, _, h, _⟩ <;> omega
  have hzc1 : z1.length = cap1 := w1.elim (fun ⟨_, _, h, h'⟩ => by rw [h', h]; rfl) (fun ⟨_, _, _, _, h, _⟩ => h)
  have hle1 : (z1.take len1).length = len1 := by rw [List.length_take]; omega
  have hrd1 : ReadsB W a1 (z1.take len1) := by
    intro i hi
    rw [hle1] at hi
    rcases w1 with ⟨_, h, _⟩ | ⟨x, h1, h2, h3, h4, h5⟩
    · omega
    · obtain ⟨b, off, rfl, hc⟩ := ints_at h5 (by omega)
      refine ⟨b, off, h1, (hc i (by omega)).trans ?_⟩
      simp [List.getD, hi]
  have hfi1 : FitsB (z1.take len1) := by
    intro x hx
    exact wf_u8 (wf1 x (List.mem_of_mem_take hx))
  clear hA0
  have hwk := walk a0 a1 (z1.take len1) cap1 W c0 hrd1 hfi1 (by rw [hle1]; omega) c1
  rw [hle1] at hwk
  refine hwk.mono fun e W' ⟨he, bel⟩ => ?_
  subst he
  exact ⟨_, rfl, _, _, _, [], _, [], hW', trodAll_mk1 (shut_bool Try.underlying4 _), (trodAll_cons_mk (shut_string Try.underlying9 w0) (trodAll_cons_mk (Below.trod laidOut (by kernel_rfl) (of_decide_eq_true (by kernel_rfl)) k1 bel lt1) trodAll_mk0)), rfl, bel.frame _, fun h => by cases h⟩

set_option maxRecDepth 100000 in
theorem lifted (os : Os) (started : os.Started) (H : Type) (enc : TypeId × Value → H) (F : Stop.Interp) :
    ReturnsInHanded {} Try.checked os 8 .any ((Rows.OpenSpec.upto Rows.wordsListsSpec).pre6 enc Try.prog Try.f8 Rows.wordsListsUptoRow.domain false) (((Rows.OpenSpec.upto Rows.wordsListsSpec).at F).post enc Try.prog Try.f8 false true false false) := by
  refine returnsInHanded_of_cond (C := Try.checked) (s := Rows.OpenSpec.upto Rows.wordsListsSpec) (k := Rows.uptoSmall) rfl own started (by kernel_rfl) Try.func8
    (OpenSpec.witness (enc := enc) (C := Try.checked) (s := Rows.OpenSpec.upto Rows.wordsListsSpec) (k := Rows.uptoSmall) rfl false ⟨#[], #[.string ByteArray.empty, .slice none 0 0], []⟩ 8 (by kernel_rfl) (by kernel_rfl) (by kernel_rfl)
      (x := ([.lit (.string []), .nil], [], [])) (by kernel_rfl) rfl (by kernel_rfl)) ?_
  intro W base args ds gs before hval hW _ hk _
  exact contract H enc W base args ds gs before hval hW hk

theorem over : Rows.wordsListsUptoRow.holds Try.pinned (Rows.OpenSpec.upto Rows.wordsListsSpec) :=
  OpenClaim.holds_of_cond 8 Try.f8 rfl rfl rfl rfl rfl rfl rfl ⟨rfl, rfl, rfl, rfl, rfl⟩ rfl rfl rfl rfl rfl (by kernel_rfl) Try.func8 (by kernel_rfl)
    (of_decide_eq_true (by kernel_rfl)) (by unfold Func.isWrapper; first | (rw [if_pos (by decide +kernel)]; kernel_rfl) | (rw [if_neg (by decide +kernel)]; exact ⟨rfl, rfl⟩))
    (fun os started H enc _ F => lifted os started H enc F)

end Go.Proofs.Ytkpmcojoiijonaa.wordsLists
namespace Go.Proofs.Ytkpmcojoiijonaa
theorem wordsLists_upto : Rows.WordsListsUptoSaid := wordsLists.over
end Go.Proofs.Ytkpmcojoiijonaa

