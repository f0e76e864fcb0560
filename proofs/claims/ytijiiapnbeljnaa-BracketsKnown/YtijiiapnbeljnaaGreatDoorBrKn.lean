/-
  The law BracketsKnown, walked.
-/
import Derived.Test.YtijiiapnbeljnaaGreatDoorBrKm
import Derived.Maps.AppendAt
import Derived.Deep.Upon
namespace Go.Proofs.YtijiiapnbeljnaaGreatDoor
open Go.RowKit Go.PlainAid Go.Lib Go.Shelf Go.PHexM
set_option linter.unusedVariables false
set_option linter.unusedSimpArgs false

abbrev rndO : Obj := .cells #[.int .i32 40, .int .i32 41, .int .u8 1, .int .i32 41, .int .i32 40, .int .u8 2] 26
set_option maxHeartbeats 4000000 in
set_option maxRecDepth 100000 in
theorem known_walk (w : World) (hg : ErrT w) (ht : tz16At w) : Calls Tryz.prog 9 #[] w fun e w' => e = .returned (.bool true) ∧ Below w.heap.size w w' := by
  have hme := methodError
  have HG := hide hg
  have HTZ := hide ht
  have HR := hide round_any
  have HB0 : Hid (Below w.heap.size w w) := Below.refl _ _
  clear hg ht
  go_enter Tryz.func9, Tryz.ntmps9
  go_wp2_with fail
  refine (unhide HR _).mono ?_
  rintro e w1 ⟨rfl, h⟩
  have hb1 : Below w.heap.size w w1 := by rw [h]; exact below_alloc _ _
  have hh1 : w1.heap[w.heap.size]? = some rndO := by rw [h]; exact heap_alloc_new w _
  have HN := hide (new_no (rows := [⟨40, 41, 1⟩]) (nn := 1) (c := 2) w1 (brMem_blk hh1 rfl) (Array.getElem?_eq_some_iff.1 hh1).1 rfl (by omega) (by decide) ((unhide HG).below hb1) kn1)
  have HB1 := hide hb1
  clear h hh1 hb1 HB0
  go_wp2_with fail
  refine (unhide HN).mono ?_
  rintro e w2 ⟨rfl, hb2⟩
  have HB2 := hide ((unhide HB1).trans (hb2.mono (unhide HB1).size))
  clear hb2 HN HB1
  go_wp2_with fail
  obtain ⟨w3, h⟩ : ∃ w3, w2.alloc (.cells #[.int .i32 40, .int .i32 40, .int .u8 1] 26) = w3 := ⟨_, rfl⟩
  have hb3 : Below w2.heap.size w2 w3 := by rw [← h]; exact below_alloc _ _
  have hh3 : w3.heap[w2.heap.size]? = some (.cells #[.int .i32 40, .int .i32 40, .int .u8 1] 26 (0, 0)) := by rw [← h]; exact heap_alloc_new w2 _
  rw [h]
  have HB3 := hide ((unhide HB2).trans (hb3.mono (unhide HB2).size))
  have HN := hide (new_no (rows := [⟨40, 40, 1⟩]) (nn := 1) (c := 1) w3 (brMem_blk hh3 rfl) (Array.getElem?_eq_some_iff.1 hh3).1 rfl (by omega) (by decide) ((unhide HG).below (unhide HB3)) kn2)
  clear h hh3 hb3 HB2
  refine (unhide HN).mono ?_
  rintro e w4 ⟨rfl, hb4⟩
  have HB4 := hide ((unhide HB3).trans (hb4.mono (unhide HB3).size))
  clear hb4 HN HB3
  go_upto_region 3 with fail
  go_cut [7, 8, 9] from 42 to 53 (fun v7 v8 v9 wx => v7 = .pointer none ∧ v8 = .int .i64 1 ∧ v9 = .int .i64 81 ∧ Hid (Below w.heap.size w wx))
  case first =>
    have HN3 : Hid (∀ V, Below w.heap.size w V → Calls Tryz.prog 10 #[.slice (some ⟨V.heap.size, 0, none⟩) 2 2] (V.alloc (.cells #[.int .i32 40, .int .i32 41, .int .u8 1, .int .i32 40, .int .i32 41, .int .u8 1] 26)) fun e w' => e = .returned (.tuple #[.pointer none, .int .i64 1, .int .i64 81]) ∧ Below w.heap.size w w') := fun V hb => by
      have hba := hb.trans ((below_alloc V (.cells #[.int .i32 40, .int .i32 41, .int .u8 1, .int .i32 40, .int .i32 41, .int .u8 1] 26)).mono hb.size)
      refine (new_no (rows := [⟨40, 41, 1⟩, ⟨40, 41, 1⟩]) (nn := 2) (c := 2) _ (brMem_blk (heap_alloc_new V _) rfl) (by simp) rfl (by omega) (by decide) ((unhide HG).below hba) kn3).mono ?_
      rintro e w' ⟨h1, h2⟩
      exact ⟨h1, hba.trans (h2.mono hba.size)⟩
    have H1 : Hid (∀ V, V = w4.drew.alloc rndO → Below w.heap.size w V ∧ V.heap[w4.heap.size]? = some rndO ∧ V.heap.size = w4.heap.size + 1) := fun V h => by
      subst h
      exact ⟨(unhide HB4).trans (Below.mono (B := w4.heap.size) (((Below.refl _ w4).trans (c := w4.drew) ⟨rfl, rfl, rfl, Nat.le_refl _, fun _ _ => rfl⟩).alloc (Nat.le_refl _) _) (unhide HB4).size), heap_alloc_new w4.drew _, by simp⟩
    have H2 : Hid (∀ V V', Below w.heap.size w V → V.heap[w4.heap.size]? = some rndO → V' = V.alloc rndO → Below w.heap.size w V' ∧ V'.heap[w4.heap.size]? = some rndO ∧ V'.heap[V.heap.size]? = some rndO) := fun V V' hb h1 h => by
      subst h
      exact ⟨hb.trans ((below_alloc V _).mono hb.size), (Below.heap_alloc _ _ _ (Array.getElem?_eq_some_iff.1 h1).1).trans h1, heap_alloc_new V _⟩
    have HC : Hid (∀ (V : World) g, V.heap[g]? = some rndO → V.cell? ⟨g, 0, none⟩ = some (.int .i32 40) ∧ V.cell? ⟨g, 1, none⟩ = some (.int .i32 41) ∧ V.cell? ⟨g, 2, none⟩ = some (.int .u8 1)) := fun V g h => by simp [World.cell?, h]
    clear HB4
    have tok : True := trivial
    go_region_with (first
      | (go_at_call 27; have _t := tok; with_reducible refine (unhide HR _).mono ?_; rintro e V1 ⟨rfl, hV1⟩; obtain ⟨hbV1, hhV1, hsV1⟩ := unhide H1 V1 hV1; clear hV1 hsV1; obtain ⟨ca0, ca1, ca2⟩ := unhide HC _ _ hhV1; clear tok)
      | (go_at_call 27; with_reducible refine (unhide HR _).mono ?_; rintro e V2 ⟨rfl, hV2⟩; obtain ⟨hbV2, hhA, hhB⟩ := unhide H2 V1 V2 hbV1 hhV1 hV2; clear hV2; obtain ⟨cb0, cb1, cb2⟩ := unhide HC _ _ hhA; obtain ⟨cc0, cc1, cc2⟩ := unhide HC _ _ hhB)
      | (go_at_call 10; with_reducible refine (unhide HN3 _ hbV2).mono ?_; rintro e w5 ⟨rfl, hb5⟩))
    all_goals (go_wp2_with fail; go_meet; exact ⟨rfl, rfl, rfl, hb5⟩)
  case rest =>
    obtain ⟨rfl, rfl, rfl, HB5⟩ := hcut
    clear HB4
    go_wp2_with fail
    refine (parse_yes (by decide) wc ((unhide HG).below (unhide HB5)) kn5).mono ?_
    rintro e w6 ⟨B6, rfl, hb6⟩
    have HB6 := hide ((unhide HB5).trans (hb6.mono (unhide HB5).size))
    clear hb6 HB5
    go_wp2_with fail
    refine (parse_no (by decide) w6 ((unhide HG).below (unhide HB6)) kn7).mono ?_
    rintro e w7 ⟨f7, rfl, hf7, hb7⟩
    have HB7 := hide ((unhide HB6).trans (hb7.mono (unhide HB6).size))
    have HF7 := hide hf7
    clear hb7 HB6 hf7
    go_wp2_with fail
    refine (parse_no (by decide) w7 ((unhide HG).below (unhide HB7)) kn8).mono ?_
    rintro e w8 ⟨f8, rfl, hf8, hb8⟩
    have HB8 := hide ((unhide HB7).trans (hb8.mono (unhide HB7).size))
    have HF78 := hide ((hb8.block f7 (Array.getElem?_eq_some_iff.1 (unhide HF7)).1).trans (unhide HF7))
    have HF8 := hide hf8
    clear hb8 HB7 hf8 HF7
    have HE1 : Hid (Calls Tryz.prog 248 #[.pointer (some ⟨f7, 0, none⟩)] w8 fun e w' => e = .returned (.string ⟨#[102, 58, 49, 58, 32, 101, 114, 114, 111, 114, 32, 56, 48]⟩) ∧ Below w8.heap.size w8 w') := by
      have := fault_file ⟨#[102]⟩ (by decide +kernel) (by decide) 1 80 (by decide) (by decide) f7 w8 (unhide HF78)
      rwa [show ((⟨#[102]⟩ : ByteArray) ++ ⟨#[58]⟩ ++ decS 1 ++ ⟨#[58, 32]⟩ ++ errnoS 80) = ⟨#[102, 58, 49, 58, 32, 101, 114, 114, 111, 114, 32, 56, 48]⟩ by decide +kernel] at this
    have HE2 : Hid (∀ V, Below w8.heap.size w8 V → Calls Tryz.prog 248 #[.pointer (some ⟨f8, 0, none⟩)] V fun e w' => e = .returned (.string ⟨#[108, 105, 110, 101, 32, 50, 58, 32, 101, 114, 114, 111, 114, 32, 53, 49]⟩) ∧ Below V.heap.size V w') := fun V hb => by
      have := fault_none 2 51 (by decide) (by decide) f8 V ((hb.block f8 (Array.getElem?_eq_some_iff.1 (unhide HF8)).1).trans (unhide HF8))
      rwa [show ((⟨#[108, 105, 110, 101, 32]⟩ : ByteArray) ++ decS 2 ++ ⟨#[58, 32]⟩ ++ errnoS 51) = ⟨#[108, 105, 110, 101, 32, 50, 58, 32, 101, 114, 114, 111, 114, 32, 53, 49]⟩ by decide +kernel] at this
    clear HF78 HF8
    go_wp2_with fail
    refine (unhide HE1).mono ?_
    rintro e w9 ⟨rfl, hb9⟩
    have HB9 := hide ((unhide HB8).trans (hb9.mono (unhide HB8).size))
    have HE3 := hide (unhide HE2 w9 hb9)
    clear hb9 HE1 HE2 HB8
    go_wp2_with fail
    refine (unhide HE3).mono ?_
    rintro e w10 ⟨rfl, hb10⟩
    have HB10 := hide ((unhide HB9).trans (hb10.mono (unhide HB9).size))
    clear hb10 HE3 HB9 hme
    go_wp2_with fail
    refine (unhide HR _).mono ?_
    rintro e w11 ⟨rfl, h⟩
    obtain ⟨i0, hi0, hz0, hz1, hz2⟩ := info_parts infoBr
    have hb11 : Below w10.heap.size w10 w11 := by rw [h]; exact below_alloc _ _
    have hh11 : w11.heap[w10.heap.size]? = some rndO := by rw [h]; exact heap_alloc_new w10 _
    have HB11 := hide ((unhide HB10).trans (hb11.mono (unhide HB10).size))
    have hown : w11.ownsRow w10.heap.size 26 3 (.slice (some ⟨w10.heap.size, 0, none⟩) 2 2) 2 (brsC rnd) := ⟨rfl, .inr ⟨_, _, _, rfl, Nat.le_refl _, hh11, Nat.le_refl _, by decide, rfl, rfl⟩⟩
    have hs11 : w10.heap.size ≤ w11.heap.size := hb11.size
    have hsw : w.heap.size ≤ w10.heap.size := (unhide HB10).size
    clear h hb11 hh11 HR
    go_wp2_with (at_builtin; refine wpList_append_own_at _ rfl _ _ 22 rfl w10.heap.size 26 i0 _ 3 12 Tryz.underlying22 hi0 hz0 hz1 hz2 rfl (by decide) _ _ _ rfl (hown.alloc _) ⟨w11.heap.size, 0, none⟩ 4 4 (brsC [⟨9001, 9002, 1⟩, ⟨9002, 9001, 2⟩, ⟨12296, 12297, 1⟩, ⟨12297, 12296, 2⟩]) rfl rfl (cells_new _ _ _) (by simp [Value.oneCell']) (by decide) (by decide) (by simp; omega) ?_; intro v'' w12 hown12 hgrow12 _ _; replace hgrow12 : World.grownBy _ w12 (Value.slice (some ⟨w10.heap.size, 0, none⟩) 2 2).ownBlock := hgrow12; have HO := hide hown12; have HGR := hide hgrow12; clear hown12 hgrow12)
    obtain ⟨g12, c12, rfl, hm12, hg12⟩ := brs_mem (l := kn6) (n := 2 + 4) rfl (unhide HO) (by decide)
    have HB12 : Hid (Below w.heap.size w w12) := ((unhide HB11).alloc (unhide HB11).size _).grown (unhide HGR) (by simp; omega) (fun k e => by cases e; exact hsw)
    have HN := hide (new_yes (rows := kn6) (nn := 2 + 4) (c := c12) w12 hm12 hg12 rfl (by omega) kn6_ok ((unhide HG).below (unhide HB12)) kn4)
    clear HO HGR hm12 hg12 hown hs11 hsw HB10 HB11 hi0 hz0 hz1 hz2
    refine (unhide HN).mono ?_
    rintro e w13 ⟨B, rfl, hbk, hb13⟩
    have HB13 := hide ((unhide HB12).trans (hb13.mono (unhide HB12).size))
    have HK13 := hide hbk
    clear hb13 hbk HN HB12
    go_wp2_with fail
    obtain ⟨w14, h⟩ : ∃ w14, w13.alloc (.cells #[.int .i32 9001, .int .i32 12296, .int .i32 9002, .int .i32 12297] 40) = w14 := ⟨_, rfl⟩
    have hb14 : Below w13.heap.size w13 w14 := by rw [← h]; exact below_alloc _ _
    have hh14 : w14.heap[w13.heap.size]? = some (.cells #[.int .i32 9001, .int .i32 12296, .int .i32 9002, .int .i32 12297] 40 (0, 0)) := by rw [← h]; exact heap_alloc_new w13 _
    rw [h]
    have HB14 := hide ((unhide HB13).trans (hb14.mono (unhide HB13).size))
    have HK14 := hide ((unhide HK13).below hb14)
    have HT := hide (twins_yes (B := B) (rows := kn6) (tw := []) (l := [(9001, 12296), (9002, 12297)]) (nn := 2) (c := 2) w14 (unhide HK14) (twMem_blk hh14 (fun i x hx => by
      match i, hx with
      | 0, hx => cases hx; exact ⟨rfl, rfl⟩
      | 1, hx => cases hx; exact ⟨rfl, rfl⟩
      | i + 2, hx => simp at hx)) kn6_ok rfl (by omega) (by decide) kn9)
    clear h hb14 hh14 HB13 HK13
    refine (unhide HT).mono ?_
    rintro e w15 ⟨T, rfl, hbt, hb15⟩
    have HB15 := hide ((unhide HB14).trans (hb15.mono (unhide HB14).size))
    have HK15 := hide ((unhide HK14).below hb15)
    have HT15 := hide hbt
    clear hb15 hbt HT HB14 HK14
    go_wp2_with fail
    obtain ⟨w16, h⟩ : ∃ w16, w15.alloc (.cells #[.int .i32 9001, .int .i32 12296] 40) = w16 := ⟨_, rfl⟩
    have hb16 : Below w15.heap.size w15 w16 := by rw [← h]; exact below_alloc _ _
    have hh16 : w16.heap[w15.heap.size]? = some (.cells #[.int .i32 9001, .int .i32 12296] 40 (0, 0)) := by rw [← h]; exact heap_alloc_new w15 _
    rw [h]
    have HB16 := hide ((unhide HB15).trans (hb16.mono (unhide HB15).size))
    have HK16 := hide ((unhide HK15).below hb16)
    have HT16 := hide ((unhide HT15).below hb16)
    have HT := hide (twins_no (B := B) (rows := kn6) (tw := []) (l := [(9001, 12296)]) (nn := 1) (c := 1) w16 (unhide HK16) (twMem_blk hh16 (fun i x hx => by
      match i, hx with
      | 0, hx => cases hx; exact ⟨rfl, rfl⟩
      | i + 1, hx => simp at hx)) kn6_ok rfl (by omega) (by decide) kn10)
    clear h hb16 hh16 HB15 HK15 HT15
    refine (unhide HT).mono ?_
    rintro e w17 ⟨rfl, hb17⟩
    have HB17 := hide ((unhide HB16).trans (hb17.mono (unhide HB16).size))
    have HK17 := hide ((unhide HK16).below hb17)
    have HT17 := hide ((unhide HT16).below hb17)
    clear hb17 HT HB16 HK16 HT16
    go_wp2_with fail
    obtain ⟨w18, h⟩ : ∃ w18, w17.alloc (.cells #[.int .i32 65, .int .i32 66] 40) = w18 := ⟨_, rfl⟩
    have hb18 : Below w17.heap.size w17 w18 := by rw [← h]; exact below_alloc _ _
    have hh18 : w18.heap[w17.heap.size]? = some (.cells #[.int .i32 65, .int .i32 66] 40 (0, 0)) := by rw [← h]; exact heap_alloc_new w17 _
    rw [h]
    have HB18 := hide ((unhide HB17).trans (hb18.mono (unhide HB17).size))
    have HK18 := hide ((unhide HK17).below hb18)
    have HT18 := hide ((unhide HT17).below hb18)
    have HT := hide (twins_yes (B := B) (rows := kn6) (tw := []) (l := [(65, 66)]) (nn := 1) (c := 1) w18 (unhide HK18) (twMem_blk hh18 (fun i x hx => by
      match i, hx with
      | 0, hx => cases hx; exact ⟨rfl, rfl⟩
      | i + 1, hx => simp at hx)) kn6_ok rfl (by omega) (by decide) kn11)
    clear h hb18 hh18 HB17 HK17 HT17
    refine (unhide HT).mono ?_
    rintro e w19 ⟨U, rfl, _, hb19⟩
    have HB19 := hide ((unhide HB18).trans (hb19.mono (unhide HB18).size))
    have HK19 := hide ((unhide HK18).below hb19)
    have HT19 := hide ((unhide HT18).below hb19)
    clear hb19 HT HB18 HK18 HT18
    have hT1 := twin_book T kn6 _ 9001 (by decide) w19 (unhide HT19)
    rw [kn12] at hT1
    have hM1 := matches_book T kn6 _ kn6_ok 9001 12297 (by decide) (by decide) w19 (unhide HT19)
    rw [kn13] at hM1
    have hM2 := fun V (hb : Below w19.heap.size w19 V) => matches_book T kn6 _ kn6_ok 12296 9002 (by decide) (by decide) V ((unhide HT19).below hb)
    rw [kn14] at hM2
    have hM3 := fun V (hb : Below w19.heap.size w19 V) => matches_book B kn6 _ kn6_ok 9001 12297 (by decide) (by decide) V ((unhide HK19).below hb)
    rw [kn15] at hM3
    have HT1 := hide hT1
    have HM1 := hide hM1
    have HM2 := hide hM2
    have HM3 := hide hM3
    clear hT1 hM1 hM2 hM3 HT19 HK19
    go_wp2_with fail
    refine (unhide HT1).mono ?_
    rintro e V ⟨rfl, h⟩
    cases h
    go_wp2_with fail
    refine (unhide HM1).mono ?_
    rintro e w20 ⟨rfl, hb20⟩
    have HB20 := hide hb20
    clear hb20 HM1 HT1
    go_wp2_with fail
    refine (unhide HM2 _ (unhide HB20)).mono ?_
    rintro e w21 ⟨rfl, hb21⟩
    have HB21 := hide ((unhide HB20).trans (hb21.mono (unhide HB20).size))
    clear hb21 HM2 HB20
    go_wp2_with fail
    refine (unhide HM3 _ (unhide HB21)).mono ?_
    rintro e w22 ⟨rfl, hb22⟩
    have HB22 := hide ((unhide HB19).trans (((unhide HB21).trans (hb22.mono (unhide HB21).size)).mono (unhide HB19).size))
    clear hb22 HM3 HB21
    go_wp2_with fail
    refine (awake8_any _ ((unhide HG).below (unhide HB22)) (tz16_below (unhide HTZ) (unhide HB22))).mono ?_
    rintro e w23 ⟨rfl, hb23⟩
    have HB23 := hide ((unhide HB22).trans (hb23.mono (unhide HB22).size))
    clear hb23 HB22
    go_wp2
    go_ret
    exact ⟨rfl, unhide HB23⟩
end Go.Proofs.YtijiiapnbeljnaaGreatDoor
