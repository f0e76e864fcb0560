/-
  The law RowsBlank, walked.
-/
import Derived.Test.YthjnkagepooeiaaGreatDoorRwBlS
import Derived.Test.YthjnkagepooeiaaGreatDoorRwA
import Derived.Test.YthjnkagepooeiaaGreatDoorMixW
namespace Go.Proofs.YthjnkagepooeiaaGreatDoor
open Go.RowKit Go.PlainAid Go.Lib Go.PHexM Go.Shelf
set_option linter.unusedVariables false
set_option linter.unusedSimpArgs false

abbrev hashB : ByteArray := ⟨#[35, 32]⟩
abbrev endB : ByteArray := ⟨#[10]⟩
def noteN (t : ByteArray) : ByteArray := hashB ++ t ++ endB
theorem note_join (a t b : ByteArray) : a ++ hashB ++ t ++ endB ++ b = a ++ noteN t ++ b := by
  unfold noteN
  rw [app_assoc, app_assoc, app_assoc, app_assoc, app_assoc, app_assoc]
theorem noteT_of (t : ByteArray) (h : ∀ j, j < t.size → 32 ≤ bN t j ∧ bN t j ≤ 126) (hs : t.size ≤ 1000) : NoteT (noteN t) := by
  have e1 : (hashB ++ t).size = t.size + 2 := by rw [app_size]; show 2 + t.size = _; omega
  have e2 : (noteN t).size = t.size + 3 := by unfold noteN; rw [app_size, e1]; rfl
  have b0 : ∀ j, j < 2 → bN (noteN t) j = bN hashB j := fun j hj => by
    unfold noteN
    rw [bN_lt_app _ _ _ (by omega), bN_lt_app _ _ _ (by show j < 2; omega)]
  have b1 : ∀ j, j < t.size → bN (noteN t) (2 + j) = bN t j := fun j hj => by
    unfold noteN
    rw [bN_lt_app _ _ _ (by omega)]
    exact bN_ge_app hashB t j hj
  have b2 : bN (noteN t) (t.size + 2) = 10 := by
    unfold noteN
    have := bN_ge_app (hashB ++ t) endB 0 (by decide)
    rw [e1] at this
    exact this
  refine ⟨by omega, by omega, b0 0 (by omega), by rw [e2]; exact b2, fun j hj => ?_⟩
  rw [e2] at hj
  by_cases h0 : j < 2
  · rw [b0 j h0]
    match j, h0 with
    | 0, _ => decide
    | 1, _ => decide
  · have := b1 (j - 2) (by omega)
    rw [show 2 + (j - 2) = j by omega] at this
    rw [this]
    exact h (j - 2) (by omega)
theorem mark_take (b : ByteArray) (h : 3 ≤ b.size) : ((b.extract 0 3).toList == [239, 187, 191]) = decide (0 < markN b) := by
  have e : (b.extract 0 3).toList = (L b).take 3 := by
    rw [ByteArray.toList_eq]
    show L (b.extract 0 3) = _
    rw [L_extract]; simp
  rw [e]
  unfold markN
  by_cases hp : hasPrefix (L b) [239, 187, 191] = true
  · rw [if_pos hp]
    obtain ⟨t, ht⟩ := List.isPrefixOf_iff_prefix.1 hp
    rw [← ht]
    simp
  · rw [if_neg hp]
    have : ¬ (L b).take 3 = [239, 187, 191] := fun he => hp (List.isPrefixOf_iff_prefix.2 ⟨(L b).drop 3, by rw [← he]; exact List.take_append_drop 3 _⟩)
    simpa using this
theorem blkB {w w' : World} {b : Nat} {o : Obj} (h : w.heap[b]? = some o) (hb : Below w.heap.size w w') : w'.heap[b]? = some o := (hb.block b (Array.getElem?_eq_some_iff.1 h).1).trans h

set_option maxRecDepth 100000 in
set_option maxHeartbeats 4000000 in
theorem blank_walk (a b t : ByteArray) (w : World) (hg : Glob w) (hs : a.size + b.size + t.size ≤ 1073741000) :
    Calls Tryz.prog 11 #[.string a, .string b, .string t] w fun e w' => e = .returned (.bool true) ∧ Below w.heap.size w w' := by
  have HG := hide hg
  clear hg
  go_enter Tryz.func11, Tryz.ntmps11
  go_wp2_with fail
  refine (awake6_any w (unhide HG)).mono ?_
  rintro e w1 ⟨rfl, hb1⟩
  have HB1 := hide hb1
  clear hb1
  go_wp2
  go_loopw [7] (fun v7 wr => ∃ i : Nat, i ≤ t.size ∧ v7 = .int .i64 i ∧ Hid (∀ j, j < i → 32 ≤ bN t j ∧ bN t j ≤ 126) ∧ wr = w1) (fun v7 _ => t.size - (RowKit.intOf v7).toNat)
  case atStart => exact ⟨0, Nat.zero_le _, rfl, fun j hj => by omega, rfl⟩
  case round =>
    obtain ⟨i, hi, rfl, HP, rfl⟩ := hrel
    by_cases hlt : i < t.size
    · have hlt' : (i : Int) < (t.size : Int) := by omega
      have hv : (t[i]'hlt).toNat = bN t i := by rw [bN, get_in t _ hlt]
      have hq1 : IntKind.i64.wrap ((i : Int) + 1) = (i : Int) + 1 := by rw [IntKind.wrap_i64]; omega
      obtain ⟨x, hx⟩ : ∃ x, bN t i = x := ⟨_, rfl⟩
      rw [hx] at hv
      have HX := hide hx
      clear hx
      by_cases c1 : x < 32
      · have c1' : (x : Int) < 32 := by omega
        clear c1
        go_wp2
        go_ret
        exact ⟨rfl, unhide HB1⟩
      by_cases c2 : 126 < x
      · have c1' : ¬ (x : Int) < 32 := by omega
        have c2' : (126 : Int) < (x : Int) := by omega
        clear c1 c2
        go_wp2
        go_ret
        exact ⟨rfl, unhide HB1⟩
      · have c1' : ¬ (x : Int) < 32 := by omega
        have c2' : ¬ (126 : Int) < (x : Int) := by omega
        have HP2 : Hid (∀ j, j < i + 1 → 32 ≤ bN t j ∧ bN t j ≤ 126) := fun j hj => by
          by_cases hji : j < i
          · exact unhide HP j hji
          · obtain rfl : j = i := by omega
            rw [unhide HX]; omega
        clear c1 c2
        go_wp2
        go_roundw
        case rel => exact ⟨i + 1, by omega, by go_num, unhide HP2, trivial⟩
        case measure => simp [RowKit.intOf]; omega
    · obtain rfl : i = t.size := by omega
      -- what holds where the texts are read
      have REST : Hid ((a.size = 0 ∧ markN b = 0) ∨ (0 < a.size ∧ bN a (a.size - 1) = 10)) ∨ True := .inr trivial
      have hsum1 : (a ++ b).size = a.size + b.size := ByteArray.size_append
      have hsum2 : (a ++ noteN t ++ b).size = a.size + b.size + t.size + 3 := by
        unfold noteN
        rw [app_size, app_size, app_size, app_size]
        show a.size + (2 + t.size + 1) + b.size = _
        omega
      have HR1 := hide (fun w hg => read6_any ⟨#[120]⟩ (a ++ b) w hg (by omega))
      have HR2 := hide (fun w hg => by have := read6_any ⟨#[120]⟩ (a ++ noteN t ++ b) w hg (by omega); rw [← note_join] at this; exact this)
      clear REST hsum2
      by_cases h1000 : 1000 < t.size
      · have h1' : (1000 : Int) < (t.size : Int) := by omega
        have h1d : decide ((1000 : Int) < (t.size : Int)) = true := decide_eq_true h1'
        go_wp2
        go_ret
        exact ⟨rfl, unhide HB1⟩
      have h1' : ¬ (1000 : Int) < (t.size : Int) := by omega
      have h1d : decide ((1000 : Int) < (t.size : Int)) = false := decide_eq_false h1'
      have HNT := hide (noteT_of t (unhide HP) (by omega))
      have hcase : (a.size = 0 ∧ b.size < 3) ∨ (a.size = 0 ∧ 3 ≤ b.size ∧ 0 < markN b) ∨ (a.size = 0 ∧ 3 ≤ b.size ∧ ¬ 0 < markN b) ∨ (0 < a.size ∧ bN a (a.size - 1) ≠ 10) ∨ (0 < a.size ∧ bN a (a.size - 1) = 10) := by omega
      rcases hcase with ⟨h0, h3⟩ | ⟨h0, h3, hm⟩ | ⟨h0, h3, hm⟩ | ⟨h0, hl⟩ | ⟨h0, hl⟩
      · -- a is empty, b is short
        have hcond : (a.size = 0 ∧ markN b = 0) ∨ (0 < a.size ∧ bN a (a.size - 1) = 10) := .inl ⟨h0, by
          rw [markN_eq, if_neg (by omega)]⟩
        have dX : a.toList.isEmpty = true := by rw [toList_empty]; exact decide_eq_true h0
        have d0 : ((a.size : Int) == 0) = true := beq_iff_eq.2 (by omega)
        have d3 : decide ((3 : Int) ≤ (b.size : Int)) = false := decide_eq_false (by omega)
        have hBR := blank_rows a b (noteN t) (unhide HNT) hcond
        rw [← note_join] at hBR
        have HBR := hide hBR
        clear hBR hcond
        go_wp2_with fail
        refine (unhide HR1 wr ((unhide HG).below (unhide HB1))).mono ?_
        rintro e w2 ⟨hb2, hr1⟩
        have B2 := hide ((unhide HB1).trans (hb2.mono (unhide HB1).size))
        rcases hr1 with ⟨hn1, v1, rfl, hrow1⟩ | ⟨no, code, fb, hf1, rfl, hfb1, hfc1⟩
        · obtain ⟨hn2, hall⟩ := (unhide HBR).1 hn1
          have hlen : (rowsS (a ++ b)).1.length ≤ 1099511627776 := by
            have := rows_len6 (a ++ b)
            omega
          obtain ⟨xa, xc, rfl, hxc, hm1⟩ := rowsAt_mem hrow1
          have hla := all2_len hall
          have HALL := hide hall
          have HM1 := hide hm1
          have HN2 := hide hn2
          clear hn1 hrow1 hm1 hall hn2
          go_wp2_with fail
          refine (unhide HR2 w2 ((unhide HG).below (unhide B2))).mono ?_
          rintro e w3 ⟨hb3, hr2⟩
          rcases hr2 with ⟨hn2, v2, rfl, hrow2⟩ | ⟨no2, code2, fb2, hf2, rfl, hfb2, hfc2⟩
          rotate_left
          · rw [unhide HN2] at hf2
            cases hf2
          obtain ⟨ya, yc, rfl, hyc, hm2⟩ := rowsAt_mem hrow2
          rw [hla]
          have B3 := hide ((unhide B2).trans (hb3.mono (unhide B2).size))
          have HSB := hide (sameBut_yes _ _ xa ya _ xc yc w3 (unhide HALL) rfl hlen ((unhide HM1).below hb3) hm2)
          generalize (rowsS (a ++ b)).1.length = nn at *
          clear hm2 hrow2 hb3 hb2 hla HM1 HALL HN2 hn2
          go_wp2_with (go_at_call 31; refine (unhide HSB).mono ?_; rintro e w4 ⟨rfl, hb4⟩)
          go_ret
          exact ⟨rfl, (unhide B3).trans (hb4.mono (unhide B3).size)⟩
        · obtain ⟨no', hf2', hno'⟩ := (unhide HBR).2 no code hf1
          have hnb := rows_num hf1
          have HF2 := hide hf2'
          have HFC1 := hide hfc1
          clear hf1 hfc1 hf2'
          go_wp2_with fail
          refine (unhide HR2 w2 ((unhide HG).below (unhide B2))).mono ?_
          rintro e w4 ⟨hb4, hr2⟩
          rcases hr2 with ⟨hn2, _⟩ | ⟨no3, code3, fb3, hf3, rfl, hfb3, hfc3⟩
          · rw [unhide HF2] at hn2
            cases hn2
          rw [unhide HF2] at hf3
          obtain ⟨rfl, rfl⟩ : no' = no3 ∧ code = code3 := by
            have := Option.some.inj hf3
            exact ⟨congrArg Prod.fst this, congrArg Prod.snd this⟩
          have hB4 : Below w.heap.size w w4 := (unhide B2).trans (hb4.mono (unhide B2).size)
          have HFC14 := hide (blkB (unhide HFC1) hb4)
          have HFC3 := hide hfc3
          have hg4 := ((unhide HG).below hB4).err
          have hno2 : no ≤ 2000000000 := by omega
          clear HR1 HR2 HF2 hf3 hfc3 HFC1 hb4 hb2 HBR
          go_wp2_with fail
          obtain ⟨W5, hW5⟩ : ∃ W5, (w4.alloc (.cells #[.pointer none] 44)).alloc (.cells #[.pointer none] 44) = W5 := ⟨_, rfl⟩
          have bel5 : Below w4.heap.size w4 W5 := by rw [← hW5]; exact ((Below.refl _ w4).alloc (Nat.le_refl _) _).alloc (by simp) _
          have bx1 : Boxed W5 w4.heap.size 44 (.pointer none) := by rw [← hW5]; exact (Boxed.new w4 _ _).alloc _
          have bx2 : Boxed W5 (w4.heap.size + 1) 44 (.pointer none) := by rw [← hW5]; simpa [Boxed] using Boxed.new (w4.alloc (.cells #[.pointer none] 44)) 44 (.pointer none)
          have BX2 := hide bx2
          have BEL5 := hide bel5
          have errB : ∀ V, Below w4.heap.size w4 V → errTypeAt V := fun V hV => (hV.cell (World.block_lt_of_cell? _ _ hg4)).trans hg4
          have ERR := hide errB
          have HAS1 := hide (fun n => as_any ⟨fb, 0, none⟩ w4.heap.size (W5.drewN n) (errB _ (below_drewN bel5 n)) bx1)
          have hlt5 := bx2.lt
          rw [hW5]
          clear bel5 bx1 bx2 hW5 errB
          refine MixW.start (by kernel_rfl) ?_
          refine MixW.seg (C := fun w' => ∃ n, w' = W5.drewN n) 0 2 49 (by kernel_rfl) ⟨1, rfl⟩ ?_
          simp only [Nat.reduceAdd, List.take_succ_cons, List.take_zero, List.drop_zero]
          repeat (go_big_quiet_step (fail))
          refine wpQuiet_nil ?_
          rintro _ ⟨n1, rfl⟩
          refine MixW.loud 2 2 47 _ _ (by decide) (by kernel_rfl) ?_
          simp only [Nat.reduceAdd, List.drop_succ_cons, List.drop_zero, List.take_succ_cons, List.take_zero]
          go_wp2_with fail
          refine (unhide HAS1 n1).mono ?_
          rintro e w6 ⟨rfl, hbx6, hold6, hbel6⟩
          have bel6 := hbel6 w4.heap.size w4 (Nat.le_refl _) (below_drewN (unhide BEL5) n1)
          have bx6 : Boxed w6 (w4.heap.size + 1) 44 (.pointer none) := (hold6 _ hlt5 (by omega)).trans (unhide BX2)
          have HAS2 := hide (fun n => as_any ⟨fb3, 0, none⟩ (w4.heap.size + 1) (w6.drewN n) (unhide ERR _ (below_drewN bel6 n)) bx6)
          have HBX6 := hide hbx6
          have BEL6 := hide bel6
          clear hbx6 hold6 hbel6 bel6 bx6 HAS1 BX2 BEL5
          go_wp2_with fail
          show wpAny _ _ _ _ 47 _ _ _
          refine MixW.seg (C := fun w' => ∃ n, w' = w6.drewN n) 4 2 45 (by kernel_rfl) ⟨0, rfl⟩ ?_
          simp only [Nat.reduceAdd, List.take_succ_cons, List.take_zero, List.drop_succ_cons, List.drop_zero]
          repeat (go_big_quiet_step (fail))
          refine wpQuiet_nil ?_
          rintro _ ⟨n2, rfl⟩
          refine MixW.loud 1 6 44 _ _ (by decide) (by kernel_rfl) ?_
          simp only [Nat.reduceAdd, List.drop_succ_cons, List.drop_zero, List.take_succ_cons, List.take_zero]
          go_wp2_with fail
          refine (unhide HAS2 n2).mono ?_
          rintro e w7 ⟨rfl, hbx7, hold7, hbel7⟩
          have bel7 : Below w4.heap.size w4 w7 := hbel7 w4.heap.size w4 (Nat.le_succ _) (below_drewN (unhide BEL6) n2)
          have bx7 : Boxed w7 w4.heap.size 44 (.pointer (some ⟨fb, 0, none⟩)) := (hold7 _ (unhide HBX6).lt (by omega)).trans (unhide HBX6)
          have c1 := bx7.cell
          have c2 := hbx7.cell
          have z1 := blkB (unhide HFC14) bel7
          have z3 := blkB (unhide HFC3) bel7
          have r1 : w7.cell? ⟨fb, 1, none⟩ = some (.int .i64 no) := by simp [World.cell?, z1]
          have r2 : w7.cell? ⟨fb, 2, none⟩ = some (.int .i64 code) := by simp [World.cell?, z1]
          have r3 : w7.cell? ⟨fb3, 1, none⟩ = some (.int .i64 no') := by simp [World.cell?, z3]
          have r4 : w7.cell? ⟨fb3, 2, none⟩ = some (.int .i64 code) := by simp [World.cell?, z3]
          have hB7 : Below w.heap.size w w7 := hB4.trans (bel7.mono hB4.size)
          have hq2 : IntKind.i64.wrap (no + 1) = no + 1 := by rw [IntKind.wrap_i64]; omega
          clear bel7 bx7 hbx7 hold7 hbel7 z1 z3 HAS2 HBX6 BEL6 hB4 HFC14 HFC3
          go_wp2_with fail
          show wpAny _ _ _ _ 44 _ _ _
          refine MixW.last (C := fun w' => ∃ n, w' = w7.drewN n) 7 44 (by decide) (by kernel_rfl) (by kernel_rfl) ⟨0, rfl⟩ ?_
          simp only [List.drop_succ_cons, List.drop_zero]
          rcases hno' with rfl | rfl
          · have e1 : (no' == no') = true := by simp
            repeat (go_big_quiet_step (fail))
            refine wpQuiet_nil ?_
            rintro _ ⟨n3, rfl⟩
            go_wp2
            go_ret
            exact ⟨rfl, below_drewN hB7 n3⟩
          · have e1 : (no + 1 == no) = false := beq_eq_false_iff_ne.2 (by omega)
            have e2 : (no + 1 == no + 1) = true := by simp
            repeat (go_big_quiet_step (fail))
            refine wpQuiet_nil ?_
            rintro _ ⟨n3, rfl⟩
            go_wp2
            go_ret
            exact ⟨rfl, below_drewN hB7 n3⟩
      · -- a is empty, b has the mark
        have dX : a.toList.isEmpty = true := by rw [toList_empty]; exact decide_eq_true h0
        have d0 : ((a.size : Int) == 0) = true := beq_iff_eq.2 (by omega)
        have d3 : decide ((3 : Int) ≤ (b.size : Int)) = true := decide_eq_true (by omega)
        have d4 := mark_take b h3
        rw [decide_eq_true hm] at d4
        have h3' : (3 : Int) ≤ (b.size : Int) := by omega
        go_wp2
        go_ret
        exact ⟨rfl, unhide HB1⟩
      · -- a is empty, b has no mark
        have hcond : (a.size = 0 ∧ markN b = 0) ∨ (0 < a.size ∧ bN a (a.size - 1) = 10) := .inl ⟨h0, by omega⟩
        have dX : a.toList.isEmpty = true := by rw [toList_empty]; exact decide_eq_true h0
        have d0 : ((a.size : Int) == 0) = true := beq_iff_eq.2 (by omega)
        have d3 : decide ((3 : Int) ≤ (b.size : Int)) = true := decide_eq_true (by omega)
        have d4 := mark_take b h3
        rw [decide_eq_false hm] at d4
        have h3' : (3 : Int) ≤ (b.size : Int) := by omega
        have hBR := blank_rows a b (noteN t) (unhide HNT) hcond
        rw [← note_join] at hBR
        have HBR := hide hBR
        clear hBR hcond
        go_wp2_with fail
        refine (unhide HR1 wr ((unhide HG).below (unhide HB1))).mono ?_
        rintro e w2 ⟨hb2, hr1⟩
        have B2 := hide ((unhide HB1).trans (hb2.mono (unhide HB1).size))
        rcases hr1 with ⟨hn1, v1, rfl, hrow1⟩ | ⟨no, code, fb, hf1, rfl, hfb1, hfc1⟩
        · obtain ⟨hn2, hall⟩ := (unhide HBR).1 hn1
          have hlen : (rowsS (a ++ b)).1.length ≤ 1099511627776 := by
            have := rows_len6 (a ++ b)
            omega
          obtain ⟨xa, xc, rfl, hxc, hm1⟩ := rowsAt_mem hrow1
          have hla := all2_len hall
          have HALL := hide hall
          have HM1 := hide hm1
          have HN2 := hide hn2
          clear hn1 hrow1 hm1 hall hn2
          go_wp2_with fail
          refine (unhide HR2 w2 ((unhide HG).below (unhide B2))).mono ?_
          rintro e w3 ⟨hb3, hr2⟩
          rcases hr2 with ⟨hn2, v2, rfl, hrow2⟩ | ⟨no2, code2, fb2, hf2, rfl, hfb2, hfc2⟩
          rotate_left
          · rw [unhide HN2] at hf2
            cases hf2
          obtain ⟨ya, yc, rfl, hyc, hm2⟩ := rowsAt_mem hrow2
          rw [hla]
          have B3 := hide ((unhide B2).trans (hb3.mono (unhide B2).size))
          have HSB := hide (sameBut_yes _ _ xa ya _ xc yc w3 (unhide HALL) rfl hlen ((unhide HM1).below hb3) hm2)
          generalize (rowsS (a ++ b)).1.length = nn at *
          clear hm2 hrow2 hb3 hb2 hla HM1 HALL HN2 hn2
          go_wp2_with (go_at_call 31; refine (unhide HSB).mono ?_; rintro e w4 ⟨rfl, hb4⟩)
          go_ret
          exact ⟨rfl, (unhide B3).trans (hb4.mono (unhide B3).size)⟩
        · obtain ⟨no', hf2', hno'⟩ := (unhide HBR).2 no code hf1
          have hnb := rows_num hf1
          have HF2 := hide hf2'
          have HFC1 := hide hfc1
          clear hf1 hfc1 hf2'
          go_wp2_with fail
          refine (unhide HR2 w2 ((unhide HG).below (unhide B2))).mono ?_
          rintro e w4 ⟨hb4, hr2⟩
          rcases hr2 with ⟨hn2, _⟩ | ⟨no3, code3, fb3, hf3, rfl, hfb3, hfc3⟩
          · rw [unhide HF2] at hn2
            cases hn2
          rw [unhide HF2] at hf3
          obtain ⟨rfl, rfl⟩ : no' = no3 ∧ code = code3 := by
            have := Option.some.inj hf3
            exact ⟨congrArg Prod.fst this, congrArg Prod.snd this⟩
          have hB4 : Below w.heap.size w w4 := (unhide B2).trans (hb4.mono (unhide B2).size)
          have HFC14 := hide (blkB (unhide HFC1) hb4)
          have HFC3 := hide hfc3
          have hg4 := ((unhide HG).below hB4).err
          have hno2 : no ≤ 2000000000 := by omega
          clear HR1 HR2 HF2 hf3 hfc3 HFC1 hb4 hb2 HBR
          go_wp2_with fail
          obtain ⟨W5, hW5⟩ : ∃ W5, (w4.alloc (.cells #[.pointer none] 44)).alloc (.cells #[.pointer none] 44) = W5 := ⟨_, rfl⟩
          have bel5 : Below w4.heap.size w4 W5 := by rw [← hW5]; exact ((Below.refl _ w4).alloc (Nat.le_refl _) _).alloc (by simp) _
          have bx1 : Boxed W5 w4.heap.size 44 (.pointer none) := by rw [← hW5]; exact (Boxed.new w4 _ _).alloc _
          have bx2 : Boxed W5 (w4.heap.size + 1) 44 (.pointer none) := by rw [← hW5]; simpa [Boxed] using Boxed.new (w4.alloc (.cells #[.pointer none] 44)) 44 (.pointer none)
          have BX2 := hide bx2
          have BEL5 := hide bel5
          have errB : ∀ V, Below w4.heap.size w4 V → errTypeAt V := fun V hV => (hV.cell (World.block_lt_of_cell? _ _ hg4)).trans hg4
          have ERR := hide errB
          have HAS1 := hide (fun n => as_any ⟨fb, 0, none⟩ w4.heap.size (W5.drewN n) (errB _ (below_drewN bel5 n)) bx1)
          have hlt5 := bx2.lt
          rw [hW5]
          clear bel5 bx1 bx2 hW5 errB
          refine MixW.start (by kernel_rfl) ?_
          refine MixW.seg (C := fun w' => ∃ n, w' = W5.drewN n) 0 2 49 (by kernel_rfl) ⟨1, rfl⟩ ?_
          simp only [Nat.reduceAdd, List.take_succ_cons, List.take_zero, List.drop_zero]
          repeat (go_big_quiet_step (fail))
          refine wpQuiet_nil ?_
          rintro _ ⟨n1, rfl⟩
          refine MixW.loud 2 2 47 _ _ (by decide) (by kernel_rfl) ?_
          simp only [Nat.reduceAdd, List.drop_succ_cons, List.drop_zero, List.take_succ_cons, List.take_zero]
          go_wp2_with fail
          refine (unhide HAS1 n1).mono ?_
          rintro e w6 ⟨rfl, hbx6, hold6, hbel6⟩
          have bel6 := hbel6 w4.heap.size w4 (Nat.le_refl _) (below_drewN (unhide BEL5) n1)
          have bx6 : Boxed w6 (w4.heap.size + 1) 44 (.pointer none) := (hold6 _ hlt5 (by omega)).trans (unhide BX2)
          have HAS2 := hide (fun n => as_any ⟨fb3, 0, none⟩ (w4.heap.size + 1) (w6.drewN n) (unhide ERR _ (below_drewN bel6 n)) bx6)
          have HBX6 := hide hbx6
          have BEL6 := hide bel6
          clear hbx6 hold6 hbel6 bel6 bx6 HAS1 BX2 BEL5
          go_wp2_with fail
          show wpAny _ _ _ _ 47 _ _ _
          refine MixW.seg (C := fun w' => ∃ n, w' = w6.drewN n) 4 2 45 (by kernel_rfl) ⟨0, rfl⟩ ?_
          simp only [Nat.reduceAdd, List.take_succ_cons, List.take_zero, List.drop_succ_cons, List.drop_zero]
          repeat (go_big_quiet_step (fail))
          refine wpQuiet_nil ?_
          rintro _ ⟨n2, rfl⟩
          refine MixW.loud 1 6 44 _ _ (by decide) (by kernel_rfl) ?_
          simp only [Nat.reduceAdd, List.drop_succ_cons, List.drop_zero, List.take_succ_cons, List.take_zero]
          go_wp2_with fail
          refine (unhide HAS2 n2).mono ?_
          rintro e w7 ⟨rfl, hbx7, hold7, hbel7⟩
          have bel7 : Below w4.heap.size w4 w7 := hbel7 w4.heap.size w4 (Nat.le_succ _) (below_drewN (unhide BEL6) n2)
          have bx7 : Boxed w7 w4.heap.size 44 (.pointer (some ⟨fb, 0, none⟩)) := (hold7 _ (unhide HBX6).lt (by omega)).trans (unhide HBX6)
          have c1 := bx7.cell
          have c2 := hbx7.cell
          have z1 := blkB (unhide HFC14) bel7
          have z3 := blkB (unhide HFC3) bel7
          have r1 : w7.cell? ⟨fb, 1, none⟩ = some (.int .i64 no) := by simp [World.cell?, z1]
          have r2 : w7.cell? ⟨fb, 2, none⟩ = some (.int .i64 code) := by simp [World.cell?, z1]
          have r3 : w7.cell? ⟨fb3, 1, none⟩ = some (.int .i64 no') := by simp [World.cell?, z3]
          have r4 : w7.cell? ⟨fb3, 2, none⟩ = some (.int .i64 code) := by simp [World.cell?, z3]
          have hB7 : Below w.heap.size w w7 := hB4.trans (bel7.mono hB4.size)
          have hq2 : IntKind.i64.wrap (no + 1) = no + 1 := by rw [IntKind.wrap_i64]; omega
          clear bel7 bx7 hbx7 hold7 hbel7 z1 z3 HAS2 HBX6 BEL6 hB4 HFC14 HFC3
          go_wp2_with fail
          show wpAny _ _ _ _ 44 _ _ _
          refine MixW.last (C := fun w' => ∃ n, w' = w7.drewN n) 7 44 (by decide) (by kernel_rfl) (by kernel_rfl) ⟨0, rfl⟩ ?_
          simp only [List.drop_succ_cons, List.drop_zero]
          rcases hno' with rfl | rfl
          · have e1 : (no' == no') = true := by simp
            repeat (go_big_quiet_step (fail))
            refine wpQuiet_nil ?_
            rintro _ ⟨n3, rfl⟩
            go_wp2
            go_ret
            exact ⟨rfl, below_drewN hB7 n3⟩
          · have e1 : (no + 1 == no) = false := beq_eq_false_iff_ne.2 (by omega)
            have e2 : (no + 1 == no + 1) = true := by simp
            repeat (go_big_quiet_step (fail))
            refine wpQuiet_nil ?_
            rintro _ ⟨n3, rfl⟩
            go_wp2
            go_ret
            exact ⟨rfl, below_drewN hB7 n3⟩
      · -- a does not end with an end
        have dX : a.toList.isEmpty = false := by rw [toList_empty]; exact decide_eq_false (by omega)
        have hlt2 : a.size - 1 < a.size := by omega
        have tn : ((a.size : Int) - 1).toNat = a.size - 1 := by omega
        have hv : (a[a.size - 1]'hlt2).toNat = bN a (a.size - 1) := by rw [bN, get_in a _ hlt2]
        have d10 : ((bN a (a.size - 1) : Int) != 10) = true := by simp; omega
        go_wp2
        go_ret
        exact ⟨rfl, unhide HB1⟩
      · -- a ends with an end
        have hcond : (a.size = 0 ∧ markN b = 0) ∨ (0 < a.size ∧ bN a (a.size - 1) = 10) := .inr ⟨h0, hl⟩
        have dX : a.toList.isEmpty = false := by rw [toList_empty]; exact decide_eq_false (by omega)
        have hlt2 : a.size - 1 < a.size := by omega
        have tn : ((a.size : Int) - 1).toNat = a.size - 1 := by omega
        have hv : (a[a.size - 1]'hlt2).toNat = bN a (a.size - 1) := by rw [bN, get_in a _ hlt2]
        have d10 : ((bN a (a.size - 1) : Int) != 10) = false := by simp; omega
        have d0 : ((a.size : Int) == 0) = false := beq_eq_false_iff_ne.2 (by omega)
        have hBR := blank_rows a b (noteN t) (unhide HNT) hcond
        rw [← note_join] at hBR
        have HBR := hide hBR
        clear hBR hcond
        go_wp2_with fail
        refine (unhide HR1 wr ((unhide HG).below (unhide HB1))).mono ?_
        rintro e w2 ⟨hb2, hr1⟩
        have B2 := hide ((unhide HB1).trans (hb2.mono (unhide HB1).size))
        rcases hr1 with ⟨hn1, v1, rfl, hrow1⟩ | ⟨no, code, fb, hf1, rfl, hfb1, hfc1⟩
        · obtain ⟨hn2, hall⟩ := (unhide HBR).1 hn1
          have hlen : (rowsS (a ++ b)).1.length ≤ 1099511627776 := by
            have := rows_len6 (a ++ b)
            omega
          obtain ⟨xa, xc, rfl, hxc, hm1⟩ := rowsAt_mem hrow1
          have hla := all2_len hall
          have HALL := hide hall
          have HM1 := hide hm1
          have HN2 := hide hn2
          clear hn1 hrow1 hm1 hall hn2
          go_wp2_with fail
          refine (unhide HR2 w2 ((unhide HG).below (unhide B2))).mono ?_
          rintro e w3 ⟨hb3, hr2⟩
          rcases hr2 with ⟨hn2, v2, rfl, hrow2⟩ | ⟨no2, code2, fb2, hf2, rfl, hfb2, hfc2⟩
          rotate_left
          · rw [unhide HN2] at hf2
            cases hf2
          obtain ⟨ya, yc, rfl, hyc, hm2⟩ := rowsAt_mem hrow2
          rw [hla]
          have B3 := hide ((unhide B2).trans (hb3.mono (unhide B2).size))
          have HSB := hide (sameBut_yes _ _ xa ya _ xc yc w3 (unhide HALL) rfl hlen ((unhide HM1).below hb3) hm2)
          generalize (rowsS (a ++ b)).1.length = nn at *
          clear hm2 hrow2 hb3 hb2 hla HM1 HALL HN2 hn2
          go_wp2_with (go_at_call 31; refine (unhide HSB).mono ?_; rintro e w4 ⟨rfl, hb4⟩)
          go_ret
          exact ⟨rfl, (unhide B3).trans (hb4.mono (unhide B3).size)⟩
        · obtain ⟨no', hf2', hno'⟩ := (unhide HBR).2 no code hf1
          have hnb := rows_num hf1
          have HF2 := hide hf2'
          have HFC1 := hide hfc1
          clear hf1 hfc1 hf2'
          go_wp2_with fail
          refine (unhide HR2 w2 ((unhide HG).below (unhide B2))).mono ?_
          rintro e w4 ⟨hb4, hr2⟩
          rcases hr2 with ⟨hn2, _⟩ | ⟨no3, code3, fb3, hf3, rfl, hfb3, hfc3⟩
          · rw [unhide HF2] at hn2
            cases hn2
          rw [unhide HF2] at hf3
          obtain ⟨rfl, rfl⟩ : no' = no3 ∧ code = code3 := by
            have := Option.some.inj hf3
            exact ⟨congrArg Prod.fst this, congrArg Prod.snd this⟩
          have hB4 : Below w.heap.size w w4 := (unhide B2).trans (hb4.mono (unhide B2).size)
          have HFC14 := hide (blkB (unhide HFC1) hb4)
          have HFC3 := hide hfc3
          have hg4 := ((unhide HG).below hB4).err
          have hno2 : no ≤ 2000000000 := by omega
          clear HR1 HR2 HF2 hf3 hfc3 HFC1 hb4 hb2 HBR
          go_wp2_with fail
          obtain ⟨W5, hW5⟩ : ∃ W5, (w4.alloc (.cells #[.pointer none] 44)).alloc (.cells #[.pointer none] 44) = W5 := ⟨_, rfl⟩
          have bel5 : Below w4.heap.size w4 W5 := by rw [← hW5]; exact ((Below.refl _ w4).alloc (Nat.le_refl _) _).alloc (by simp) _
          have bx1 : Boxed W5 w4.heap.size 44 (.pointer none) := by rw [← hW5]; exact (Boxed.new w4 _ _).alloc _
          have bx2 : Boxed W5 (w4.heap.size + 1) 44 (.pointer none) := by rw [← hW5]; simpa [Boxed] using Boxed.new (w4.alloc (.cells #[.pointer none] 44)) 44 (.pointer none)
          have BX2 := hide bx2
          have BEL5 := hide bel5
          have errB : ∀ V, Below w4.heap.size w4 V → errTypeAt V := fun V hV => (hV.cell (World.block_lt_of_cell? _ _ hg4)).trans hg4
          have ERR := hide errB
          have HAS1 := hide (fun n => as_any ⟨fb, 0, none⟩ w4.heap.size (W5.drewN n) (errB _ (below_drewN bel5 n)) bx1)
          have hlt5 := bx2.lt
          rw [hW5]
          clear bel5 bx1 bx2 hW5 errB
          refine MixW.start (by kernel_rfl) ?_
          refine MixW.seg (C := fun w' => ∃ n, w' = W5.drewN n) 0 2 49 (by kernel_rfl) ⟨1, rfl⟩ ?_
          simp only [Nat.reduceAdd, List.take_succ_cons, List.take_zero, List.drop_zero]
          repeat (go_big_quiet_step (fail))
          refine wpQuiet_nil ?_
          rintro _ ⟨n1, rfl⟩
          refine MixW.loud 2 2 47 _ _ (by decide) (by kernel_rfl) ?_
          simp only [Nat.reduceAdd, List.drop_succ_cons, List.drop_zero, List.take_succ_cons, List.take_zero]
          go_wp2_with fail
          refine (unhide HAS1 n1).mono ?_
          rintro e w6 ⟨rfl, hbx6, hold6, hbel6⟩
          have bel6 := hbel6 w4.heap.size w4 (Nat.le_refl _) (below_drewN (unhide BEL5) n1)
          have bx6 : Boxed w6 (w4.heap.size + 1) 44 (.pointer none) := (hold6 _ hlt5 (by omega)).trans (unhide BX2)
          have HAS2 := hide (fun n => as_any ⟨fb3, 0, none⟩ (w4.heap.size + 1) (w6.drewN n) (unhide ERR _ (below_drewN bel6 n)) bx6)
          have HBX6 := hide hbx6
          have BEL6 := hide bel6
          clear hbx6 hold6 hbel6 bel6 bx6 HAS1 BX2 BEL5
          go_wp2_with fail
          show wpAny _ _ _ _ 47 _ _ _
          refine MixW.seg (C := fun w' => ∃ n, w' = w6.drewN n) 4 2 45 (by kernel_rfl) ⟨0, rfl⟩ ?_
          simp only [Nat.reduceAdd, List.take_succ_cons, List.take_zero, List.drop_succ_cons, List.drop_zero]
          repeat (go_big_quiet_step (fail))
          refine wpQuiet_nil ?_
          rintro _ ⟨n2, rfl⟩
          refine MixW.loud 1 6 44 _ _ (by decide) (by kernel_rfl) ?_
          simp only [Nat.reduceAdd, List.drop_succ_cons, List.drop_zero, List.take_succ_cons, List.take_zero]
          go_wp2_with fail
          refine (unhide HAS2 n2).mono ?_
          rintro e w7 ⟨rfl, hbx7, hold7, hbel7⟩
          have bel7 : Below w4.heap.size w4 w7 := hbel7 w4.heap.size w4 (Nat.le_succ _) (below_drewN (unhide BEL6) n2)
          have bx7 : Boxed w7 w4.heap.size 44 (.pointer (some ⟨fb, 0, none⟩)) := (hold7 _ (unhide HBX6).lt (by omega)).trans (unhide HBX6)
          have c1 := bx7.cell
          have c2 := hbx7.cell
          have z1 := blkB (unhide HFC14) bel7
          have z3 := blkB (unhide HFC3) bel7
          have r1 : w7.cell? ⟨fb, 1, none⟩ = some (.int .i64 no) := by simp [World.cell?, z1]
          have r2 : w7.cell? ⟨fb, 2, none⟩ = some (.int .i64 code) := by simp [World.cell?, z1]
          have r3 : w7.cell? ⟨fb3, 1, none⟩ = some (.int .i64 no') := by simp [World.cell?, z3]
          have r4 : w7.cell? ⟨fb3, 2, none⟩ = some (.int .i64 code) := by simp [World.cell?, z3]
          have hB7 : Below w.heap.size w w7 := hB4.trans (bel7.mono hB4.size)
          have hq2 : IntKind.i64.wrap (no + 1) = no + 1 := by rw [IntKind.wrap_i64]; omega
          clear bel7 bx7 hbx7 hold7 hbel7 z1 z3 HAS2 HBX6 BEL6 hB4 HFC14 HFC3
          go_wp2_with fail
          show wpAny _ _ _ _ 44 _ _ _
          refine MixW.last (C := fun w' => ∃ n, w' = w7.drewN n) 7 44 (by decide) (by kernel_rfl) (by kernel_rfl) ⟨0, rfl⟩ ?_
          simp only [List.drop_succ_cons, List.drop_zero]
          rcases hno' with rfl | rfl
          · have e1 : (no' == no') = true := by simp
            repeat (go_big_quiet_step (fail))
            refine wpQuiet_nil ?_
            rintro _ ⟨n3, rfl⟩
            go_wp2
            go_ret
            exact ⟨rfl, below_drewN hB7 n3⟩
          · have e1 : (no + 1 == no) = false := beq_eq_false_iff_ne.2 (by omega)
            have e2 : (no + 1 == no + 1) = true := by simp
            repeat (go_big_quiet_step (fail))
            refine wpQuiet_nil ?_
            rintro _ ⟨n3, rfl⟩
            go_wp2
            go_ret
            exact ⟨rfl, below_drewN hB7 n3⟩
end Go.Proofs.YthjnkagepooeiaaGreatDoor
