/-
  The law MirrorsReads, walked.
-/
import Derived.Test.YtnabbahdmajfpaaGreatDoorMrRr
import Derived.Test.YtnabbahdmajfpaaGreatDoorMrOfW
import Derived.Laws.OwnMore
import Derived.Maps.AppendAt
namespace Go.Proofs.YtnabbahdmajfpaaGreatDoor
open Go.RowKit Go.PlainAid Go.Lib Go.PHexM Go.Shelf
set_option linter.unusedVariables false
set_option linter.unusedSimpArgs false

theorem mirs_lenR (s : ByteArray) : (mirsS s).1.length ≤ s.size + 1 := by
  unfold mirsS
  split
  · simp
  · split
    · simp
    · split
      · exact Nat.le_trans (tell_len _) (readS_len s)
      · simp
/-- what lies from a block on is kept -/
def HiM (B : Nat) (A C : World) : Prop := A.heap.size ≤ C.heap.size ∧ ∀ j, B ≤ j → j < A.heap.size → C.heap[j]? = A.heap[j]?
theorem HiM.refl (B : Nat) (A : World) : HiM B A A := ⟨Nat.le_refl _, fun _ _ _ => rfl⟩
theorem HiM.grown {B : Nat} {A C D : World} {row : Option Nat} (h : HiM B A C) (hg : C.grownBy D row) (hr : ∀ j, row = some j → j < B ∨ A.heap.size ≤ j) : HiM B A D :=
  ⟨Nat.le_trans h.1 hg.size, fun j h1 h2 => (hg.block j (Nat.lt_of_lt_of_le h2 h.1) (fun e => by have := hr j e.symm; omega)).trans (h.2 j h1 h2)⟩
theorem HiM.setCell {B : Nat} {A C : World} (h : HiM B A C) (g j : Nat) (u : Value) (hb : g < B) : HiM B A (C.setCell ⟨g, j, none⟩ u) :=
  ⟨by have := h.1; simpa using this, fun k h1 h2 => (Below.heap_setCell C ⟨g, j, none⟩ _ _ (show k ≠ g by omega)).trans (h.2 k h1 h2)⟩
theorem MrMem.hi {A C : World} {B : Nat} {a : Option Addr} {l : List MirD} (h : MrMem A a l) (hk : HiM B A C) (hf : ∀ g off, a = some ⟨g, off, none⟩ → B ≤ g) : MrMem C a l := fun i x hx => by
  obtain ⟨g, off, e, hc⟩ := h i x hx
  refine ⟨g, off, e, fun j v hv => ?_⟩
  have h1 := hc j v hv
  exact (World.cell?_of_block (hk.2 g (hf g off e) (World.block_lt_of_cell? _ _ h1))).trans h1
theorem four_own {w : World} {base g cap n : Nat} {xs : List Value} (h : w.ownsRow base 27 4 (.slice (some ⟨g, 0, none⟩) n cap) n xs) (i : Nat) (u0 u1 u2 u3 : Value) :
    ∃ ys, ((((w.setCell ⟨g, i * 4, none⟩ u0).setCell ⟨g, i * 4 + 1, none⟩ u1).setCell ⟨g, i * 4 + 2, none⟩ u2).setCell ⟨g, i * 4 + 3, none⟩ u3).ownsRow base 27 4 (.slice (some ⟨g, 0, none⟩) n cap) n ys :=
  ⟨_, ((((h.stored _ u0).1.stored _ u1).1.stored _ u2).1.stored _ u3).1⟩
theorem four_hi {B : Nat} {A C : World} (h : HiM B A C) (g i : Nat) (u0 u1 u2 u3 : Value) (hb : g < B) : HiM B A ((((C.setCell ⟨g, i * 4, none⟩ u0).setCell ⟨g, i * 4 + 1, none⟩ u1).setCell ⟨g, i * 4 + 2, none⟩ u2).setCell ⟨g, i * 4 + 3, none⟩ u3) :=
  ((((h.setCell g _ u0 hb).setCell g _ u1 hb).setCell g _ u2 hb).setCell g _ u3 hb)
theorem four_below {B : Nat} {A C : World} (h : Below B A C) (g i : Nat) (u0 u1 u2 u3 : Value) (hb : B ≤ g) : Below B A ((((C.setCell ⟨g, i * 4, none⟩ u0).setCell ⟨g, i * 4 + 1, none⟩ u1).setCell ⟨g, i * 4 + 2, none⟩ u2).setCell ⟨g, i * 4 + 3, none⟩ u3) :=
  ((((h.setCell (p := ⟨g, _, none⟩) hb u0).setCell (p := ⟨g, _, none⟩) hb u1).setCell (p := ⟨g, _, none⟩) hb u2).setCell (p := ⟨g, _, none⟩) hb u3)
theorem blkM {w w' : World} {b : Nat} {o : Obj} (h : w.heap[b]? = some o) (hb : Below w.heap.size w w') : w'.heap[b]? = some o := (hb.block b (Array.getElem?_eq_some_iff.1 h).1).trans h

set_option maxRecDepth 100000 in
set_option maxHeartbeats 4000000 in
theorem reads9_walk (file s : ByteArray) (w : World) (hg : errTypeAt w) (hs : s.size ≤ 1073741824) :
    Calls Tryz.prog 5 #[.string file, .string s] w fun e w' => e = .returned (.bool true) ∧ Below w.heap.size w w' := by
  obtain ⟨i0, hi0, hz0, hz1, hz2⟩ := info_parts infoMir
  have HG := hide hg
  have HR1 := hide (fun w => read9_any file s w hs)
  have HR2 := hide (fun w => refRead9_any s w hs)
  have HAW := hide (awake9_any w hg)
  clear hg
  by_cases hbig : 32768 < s.size
  · have hbig' : (32768 : Int) < (s.size : Int) := by omega
    go_enter Tryz.func5, Tryz.ntmps5
    go_wp2_with (go_at_call 15; with_reducible refine (unhide HAW).mono ?_; rintro e w1 ⟨rfl, hb⟩)
    go_ret
    exact ⟨rfl, hb⟩
  have hbig' : ¬ (32768 : Int) < (s.size : Int) := by omega
  clear HAW
  go_enter Tryz.func5, Tryz.ntmps5
  go_wp2_with fail
  refine (unhide HR1 w).mono ?_
  rintro e w1 ⟨hb1, hr1⟩
  have B1 := hide hb1
  rcases hr1 with ⟨hn1, v1, rfl, ho1⟩ | ⟨no, code, fb, hf1, rfl, hfb1, hfc1⟩
  · obtain ⟨oa, oc, rfl⟩ := row_slice2 ho1
    have hlen : (mirsS s).1.length ≤ 1073741825 := by
      have := mirs_lenR s
      omega
    obtain ⟨n, hn⟩ : ∃ n, (mirsS s).1.length = n := ⟨_, rfl⟩
    have HOG : Hid (∀ g off, oa = some ⟨g, off, none⟩ → g < w1.heap.size) := by
      rintro g off rfl
      rcases ho1.2 with ⟨e, _⟩ | ⟨g', cap, cur, e, _, hh, _⟩
      · cases e
      · simp at e
        obtain ⟨⟨rfl, rfl⟩, _⟩ := e
        exact (Array.getElem?_eq_some_iff.1 hh).1
    have HO1 := hide ho1
    have HN1 := hide hn1
    clear ho1 hn1 hb1
    rw [hn]
    go_wp2_with fail
    refine (unhide HR1 w1).mono ?_
    rintro e w2 ⟨hb2, hr2⟩
    rcases hr2 with ⟨_, v2, rfl, ho2⟩ | ⟨no2, code2, fb2, hf2, _⟩
    rotate_left
    · rw [unhide HN1] at hf2; cases hf2
    have ho2b := ho2.2
    obtain ⟨ba, bc, rfl, hbc, hbm⟩ := mirsAt_mem ho2
    have hbg : ∀ g off, ba = some ⟨g, off, none⟩ → w1.heap.size ≤ g := by
      rintro g off rfl
      rcases ho2b with ⟨e, _⟩ | ⟨g', cap, cur, e, hb', _⟩
      · cases e
      · simp at e
        obtain ⟨⟨rfl, rfl⟩, _⟩ := e
        exact hb'
    have B2 := hide ((unhide B1).trans (hb2.mono (unhide B1).size))
    have HO2 := hide (rowB (unhide HO1) hb2)
    have HBM := hide hbm
    have HBG := hide hbg
    have s2 := hb2.size
    clear ho2 ho2b hbm hb2 hbg HO1
    rw [hn]
    go_wp2_with fail
    refine (unhide HR2 w2).mono ?_
    rintro e w3 ⟨hb3, (⟨_, v3, rfl, ho3⟩ | ⟨no3, code3, hf3, _, _⟩)⟩
    rotate_left
    · rw [unhide HN1] at hf3; cases hf3
    have ho3b := ho3.2
    obtain ⟨ca, cc, rfl, hcc, hcm⟩ := mirsAt_mem ho3
    have hcg : ∀ g off, ca = some ⟨g, off, none⟩ → w2.heap.size ≤ g := by
      rintro g off rfl
      rcases ho3b with ⟨e, _⟩ | ⟨g', cap, cur, e, hb', _⟩
      · cases e
      · simp at e
        obtain ⟨⟨rfl, rfl⟩, _⟩ := e
        exact hb'
    have B3 := hide ((unhide B2).trans (hb3.mono (unhide B2).size))
    have HO3 := hide (rowB (unhide HO2) hb3)
    have HBM3 := hide ((unhide HBM).below hb3)
    have HCM3 := hide hcm
    have s3 := hb3.size
    have oam := mirsAt_mem (show MirsAt w3 w.heap.size (.slice oa (mirsS s).1.length oc) (mirsS s).1 from by have := unhide HO3; exact this)
    obtain ⟨oa', oc', e', _, hom⟩ := oam
    simp only [Value.slice.injEq] at e'
    obtain ⟨rfl, _, rfl⟩ := e'
    have HSR := hide (sameMirrors_yes _ oa ca n oc cc w3 hn (by omega) hom (unhide HCM3))
    have HN := hide hn
    rw [hn] at HO3
    clear ho3 ho3b hcm hb3 hom HO2 HR1 HR2
    rw [hn]
    go_wp2_with fail
    refine (unhide HSR).mono ?_
    rintro e w4 ⟨rfl, hb4⟩
    have B4 := hide ((unhide B3).trans (hb4.mono (unhide B3).size))
    have HO4 := hide (rowB (unhide HO3) hb4)
    have HBM4 := hide ((unhide HBM3).below hb4)
    have HCM4 := hide ((unhide HCM3).below hb4)
    have s4 := hb4.size
    have HCG := hide hcg
    clear hb4 HBM3 HCM3 HO3 hcg HSR HBM
    go_wp2
    go_loopw [13] (fun v13 wr => ∃ (i : Nat) (xs : List Value), i ≤ n ∧ v13 = .int .i64 (i : Nat) ∧ wr.ownsRow w.heap.size 27 4 (.slice oa n oc) n xs ∧ HiM w1.heap.size w4 wr ∧ Below w.heap.size w wr) (fun v13 _ => n - (RowKit.intOf v13).toNat)
    case atStart => exact ⟨0, _, Nat.zero_le _, rfl, unhide HO4, HiM.refl _ _, unhide B4⟩
    case round =>
      obtain ⟨i, xs, hi, rfl, hown, hkh, hB⟩ := hrel
      by_cases hlt : i < n
      · obtain ⟨g, c', he, hc1, hc2, hgb, hgl⟩ := row_form hown (by omega)
        obtain ⟨rfl, rfl⟩ : oa = some ⟨g, 0, none⟩ ∧ oc = c' := by simpa using he
        have hg1 : g < w1.heap.size := unhide HOG g 0 rfl
        have hlt' : (i : Int) < (n : Int) := by omega
        have hq1 : IntKind.i64.wrap ((i : Int) + 1) = (i : Int) + 1 := by rw [IntKind.wrap_i64]; omega
        have hlen := hown.1
        obtain ⟨y0, hy0⟩ : ∃ y, xs[i * 4]? = some y := ⟨_, List.getElem?_eq_getElem (by omega)⟩
        have q0 : wr.cell? ⟨g, i * 4, none⟩ = some y0 := (hown.cellAt (i * 4) (by omega)).trans hy0
        have f0 := hown.frozenAt (i * 4)
        clear hy0
        obtain ⟨y1, hy1⟩ : ∃ y, xs[i * 4 + 1]? = some y := ⟨_, List.getElem?_eq_getElem (by omega)⟩
        have q1 : wr.cell? ⟨g, i * 4 + 1, none⟩ = some y1 := (hown.cellAt (i * 4 + 1) (by omega)).trans hy1
        have f1 := hown.frozenAt (i * 4 + 1)
        clear hy1
        obtain ⟨y2, hy2⟩ : ∃ y, xs[i * 4 + 2]? = some y := ⟨_, List.getElem?_eq_getElem (by omega)⟩
        have q2 : wr.cell? ⟨g, i * 4 + 2, none⟩ = some y2 := (hown.cellAt (i * 4 + 2) (by omega)).trans hy2
        have f2 := hown.frozenAt (i * 4 + 2)
        clear hy2
        obtain ⟨y3, hy3⟩ : ∃ y, xs[i * 4 + 3]? = some y := ⟨_, List.getElem?_eq_getElem (by omega)⟩
        have q3 : wr.cell? ⟨g, i * 4 + 3, none⟩ = some y3 := (hown.cellAt (i * 4 + 3) (by omega)).trans hy3
        have f3 := hown.frozenAt (i * 4 + 3)
        clear hy3
        have HST := hide (four_own hown i (.int .i64 (-1)) (.int .i32 0) (.int .i32 0) (.bool false))
        have HKH := hide (four_hi hkh g i (.int .i64 (-1)) (.int .i32 0) (.int .i32 0) (.bool false) hg1)
        have HBW := hide (four_below hB g i (.int .i64 (-1)) (.int .i32 0) (.int .i32 0) (.bool false) hgb)
        have hm1 : maxLen = 9223372036854775807 := rfl
        rw [hm1] at hc2
        clear hown hkh hB he
        go_wp2
        go_roundw
        case rel =>
          obtain ⟨ys, hys⟩ := unhide HST
          exact ⟨i + 1, ys, by omega, by go_num, hys, unhide HKH, unhide HBW⟩
        case measure => simp [RowKit.intOf]; omega
      · obtain rfl : i = n := by omega
        go_wp2
        go_loopw [5, 108] (fun v5 v104 wr2 => ∃ (k : Nat) (ys : List Value) (V : Value), k ≤ 40 ∧ v5 = V ∧ v104 = .int .i64 (k : Nat) ∧ wr2.ownsRow w.heap.size 27 4 V (i + k) ys ∧ (∀ j, V.ownBlock = some j → j < w1.heap.size ∨ w4.heap.size ≤ j) ∧ HiM w1.heap.size w4 wr2 ∧ Below w.heap.size w wr2) (fun _ v104 _ => 40 - (RowKit.intOf v104).toNat)
        case atStart =>
          refine ⟨0, xs, _, by omega, rfl, rfl, hown, fun j e => .inl ?_, hkh, hB⟩
          cases oa with
          | none => cases e
          | some ad =>
            obtain ⟨g, off, p⟩ := ad
            have he : g = j := Option.some.inj e
            subst he
            rcases hown.2 with ⟨e2, _⟩ | ⟨g', cap, cur, e2, _⟩
            · cases e2
            · simp only [Value.slice.injEq, Option.some.injEq, Addr.mk.injEq] at e2
              obtain ⟨⟨rfl, rfl, rfl⟩, _⟩ := e2
              exact unhide HOG _ _ rfl
        case round =>
          clear hown hkh hB
          obtain ⟨k, ys, V, hk, hV, rfl, hown, hor, hkh, hB⟩ := hrel
          subst hV
          by_cases hlt2 : k < 40
          · have d0 : decide ((k : Int) < 40) = true := decide_eq_true (by omega)
            have d0' : (k : Int) < 40 := by omega
            obtain ⟨a2, c2, rfl⟩ := row_slice2 hown
            have hsz : w.heap.size ≤ wr.heap.size := hB.size
            go_wp2_with (at_builtin; refine wpList_append_own_at _ rfl _ _ 35 rfl w.heap.size 27 i0 (.agg #[.int .i64 0, .int .i32 0, .int .i32 0, .bool false]) 4 24 Tryz.underlying35 hi0 hz0 hz1 hz2 rfl (by decide) _ _ _ rfl (hown.alloc _) ⟨wr.heap.size, 0, none⟩ 1 1 (mirC ⟨-2, 0, 0, false⟩) rfl rfl (cells_newM wr ⟨-2, 0, 0, false⟩ _) (by simp [Value.oneCell']) (by unfold maxLen; omega) (by omega) (by simp; omega) ?_; intro v' w5 hown' hgrow hnil hat)
            have HK2 := hide ((hkh.grown (World.grownBy_alloc wr _ none) (fun j e => by cases e)).grown hgrow (fun j e => hor j e))
            have HO2 : Hid (∀ j, v'.ownBlock = some j → j < w1.heap.size ∨ w4.heap.size ≤ j) := by
              intro j e
              rcases hat with h | h
              · exact hor j (h.symm.trans e)
              · rw [h] at e; have := Option.some.inj e; have := hkh.1; simp at *; right; omega
            have HB2 := hide (belowG (hB.alloc hB.size _) (by simp; omega) (hown.alloc _) hgrow)
            clear hgrow hat hnil
            go_roundw
            case rel => exact ⟨k + 1, _, _, by omega, rfl, by go_num, hown', HO2.out, unhide HK2, unhide HB2⟩
            case measure => simp [RowKit.intOf]; omega
          · obtain rfl : k = 40 := by omega
            obtain ⟨a2, c2, rfl⟩ := row_slice2 hown
            have HS2 := hide (sameMirrors_yes _ ba ca i bc cc wr (unhide HN) (by omega) ((unhide HBM4).hi hkh (unhide HBG)) ((unhide HCM4).hi hkh (fun g off e => Nat.le_trans s2 (unhide HCG g off e))))
            have HBW := hide hB
            have hq2 : IntKind.i64.wrap ((i : Int) + 40) = (i : Int) + 40 := by rw [IntKind.wrap_i64]; omega
            clear hown hor hkh hB
            go_wp2_with fail
            refine (unhide HS2).mono ?_
            rintro e w6 ⟨rfl, hb6⟩
            have hB6 : Below w.heap.size w w6 := (unhide HBW).trans (hb6.mono (unhide HBW).size)
            have HG6 := hide (err_below (unhide HG) hB6)
            go_wp2_with (go_at_call 15; refine (awake9_any _ (unhide HG6)).mono ?_; rintro e w7 ⟨rfl, hb7⟩)
            go_ret
            exact ⟨rfl, hB6.trans (hb7.mono hB6.size)⟩
  · have HFC1 := hide hfc1
    have HF1 := hide hf1
    clear hfc1 hf1
    go_wp2_with fail
    refine (unhide HR1 w1).mono ?_
    rintro e w2 ⟨hb2, hr2⟩
    rcases hr2 with ⟨h, _⟩ | ⟨no2, code2, fb2, _, rfl, _, _⟩
    · rw [unhide HF1] at h; cases h
    go_wp2_with fail
    refine (unhide HR2 w2).mono ?_
    rintro e w3 ⟨hb3, hr3⟩
    rcases hr3 with ⟨h, _⟩ | ⟨no3, code3, hf, hc0, rfl⟩
    · rw [unhide HF1] at h; cases h
    rw [unhide HF1] at hf
    obtain ⟨rfl, rfl⟩ : no = no3 ∧ code = code3 := by
      have := Option.some.inj hf
      exact ⟨congrArg Prod.fst this, congrArg Prod.snd this⟩
    clear hf
    have dC : (code != 0) = true := by simpa using hc0
    have s1 : w.heap.size ≤ w1.heap.size := hb1.size
    have s2 : w1.heap.size ≤ w2.heap.size := hb2.size
    have hB3 : Below w.heap.size w w3 := (hb1.trans (hb2.mono s1)).trans (hb3.mono (Nat.le_trans s1 s2))
    have HFC3 := hide (blkM (blkM (unhide HFC1) hb2) hb3)
    have hg3 := err_below (unhide HG) hB3
    clear HR1 HR2 HFC1 HF1 hb1 hb2 hb3 hfb1
    go_wp2_with fail
    obtain ⟨W5, hW5⟩ : ∃ W5, w3.alloc (.cells #[.pointer none] 53) = W5 := ⟨_, rfl⟩
    have bel5 : Below w3.heap.size w3 W5 := by rw [← hW5]; exact (Below.refl _ w3).alloc (Nat.le_refl _) _
    have bx1 : Boxed W5 w3.heap.size 53 (.pointer none) := by rw [← hW5]; exact Boxed.new w3 _ _
    have BEL5 := hide bel5
    have HAS1 := hide (as_any ⟨fb, 0, none⟩ w3.heap.size W5 (err_below hg3 bel5) bx1)
    rw [hW5]
    clear bel5 bx1 hW5
    refine (unhide HAS1).mono ?_
    rintro e w6 ⟨rfl, hbx6, hold6, hbel6⟩
    have bel6 : Below w3.heap.size w3 w6 := hbel6 w3.heap.size w3 (Nat.le_refl _) (unhide BEL5)
    have c1 := hbx6.cell
    have z1 := blkM (unhide HFC3) bel6
    have r0 : w6.cell? ⟨fb, 0, none⟩ = some (.string file) := by simp [World.cell?, z1]
    have r1 : w6.cell? ⟨fb, 1, none⟩ = some (.int .i64 no) := by simp [World.cell?, z1]
    have r2 : w6.cell? ⟨fb, 2, none⟩ = some (.int .i64 code) := by simp [World.cell?, z1]
    have hB6 : Below w.heap.size w w6 := hB3.trans (bel6.mono hB3.size)
    have HG7 := hide (err_below (unhide HG) hB6)
    clear bel6 hbx6 hold6 hbel6 z1 HAS1 BEL5 hB3 HFC3
    go_wp2_with fail
    refine (awake9_any _ (unhide HG7)).mono ?_
    rintro e w8 ⟨rfl, hb8⟩
    go_wp2
    go_ret
    exact ⟨rfl, hB6.trans (hb8.mono hB6.size)⟩
end Go.Proofs.YtnabbahdmajfpaaGreatDoor
