/-
  The document's Scan (furrowref03), for every line.
-/
import Derived.Test.YtlaennakglhmjaaGreatDoorRNamed
namespace Go.Proofs.YtlaennakglhmjaaGreatDoor
open Go.RowKit Go.PlainAid Go.Lib Go.Shelf
set_option linter.unusedVariables false

abbrev lineBlk (no : Int) : Obj := .cells #[.int .i64 no, .int .u8 0, .string ⟨#[]⟩, .slice none 0 0, .string ⟨#[]⟩] 41
theorem blkB {w w' : World} {b : Nat} {o : Obj} (h : w.heap[b]? = some o) (hb : Below w.heap.size w w') : w'.heap[b]? = some o := (hb.block b (Array.getElem?_eq_some_iff.1 h).1).trans h

theorem set_other {W : World} {b k off : Nat} {v : Value} {o : Obj} (h : W.heap[k]? = some o) (hne : k ≠ b) : (W.setCell ⟨b, off, none⟩ v).heap[k]? = some o := (heap_setCell_other _ _ _ _ hne).trans h
/-- one cell of a line written ahead of a call -/
theorem kind_set {W : World} {b4 b8 : Nat} {no : Int} {B : Nat} {w0 : World} (k : Int) (g4 : W.heap[b4]? = some zeroBlk) (g8 : W.heap[b8]? = some (lineBlk no)) (hne : b4 ≠ b8) (hB : Below B w0 W) (hb : B ≤ b8) :
    ∃ V, W.setCell ⟨b8, 1, none⟩ (.int .u8 k) = V ∧ ∀ w3, Below V.heap.size V w3 → w3.heap[b4]? = some zeroBlk ∧ w3.heap[b8]? = some (.cells #[.int .i64 no, .int .u8 k, .string ⟨#[]⟩, .slice none 0 0, .string ⟨#[]⟩] 41) ∧ Below B w0 w3 ∧ b8 < V.heap.size ∧ V.heap.size ≤ w3.heap.size := by
  refine ⟨_, rfl, fun w3 hb3 => ⟨blkB (set_other g4 hne) hb3, blkB (heap_setCell_same W b8 1 _ _ _ g8) hb3, (hB.setCell (p := ⟨b8, 1, none⟩) hb _).trans (hb3.mono (by have := (Array.getElem?_eq_some_iff.1 g8).1; simp; omega)), by have := (Array.getElem?_eq_some_iff.1 g8).1; simpa using this, hb3.size⟩⟩

theorem name_set {W : World} {b4 b8 : Nat} {no : Int} {B : Nat} {w0 : World} (nm : Value) (g4 : W.heap[b4]? = some zeroBlk) (g8 : W.heap[b8]? = some (lineBlk no)) (hne : b4 ≠ b8) (hB : Below B w0 W) (hb : B ≤ b8) :
    ∃ V, (W.setCell ⟨b8, 1, none⟩ (.int .u8 2)).setCell ⟨b8, 2, none⟩ nm = V ∧ ∀ w3, Below V.heap.size V w3 → w3.heap[b4]? = some zeroBlk ∧ w3.heap[b8]? = some (.cells #[.int .i64 no, .int .u8 2, nm, .slice none 0 0, .string ⟨#[]⟩] 41) ∧ Below B w0 w3 ∧ b8 < V.heap.size ∧ V.heap.size ≤ w3.heap.size := by
  refine ⟨_, rfl, fun w3 hb3 => ⟨blkB (set_other (set_other g4 hne) hne) hb3, blkB (heap_setCell_same _ b8 2 _ _ _ (heap_setCell_same W b8 1 _ _ _ g8)) hb3, ((hB.setCell (p := ⟨b8, 1, none⟩) hb _).setCell (p := ⟨b8, 2, none⟩) hb _).trans (hb3.mono (by have := (Array.getElem?_eq_some_iff.1 g8).1; simp; omega)), by have := (Array.getElem?_eq_some_iff.1 g8).1; simpa using this, hb3.size⟩⟩

set_option maxRecDepth 100000 in
set_option maxHeartbeats 4000000 in
theorem refScan_any (no : Int) (s : ByteArray) (w : World) (hs : s.size ≤ 1099511627776) :
    Calls Tryz.prog 19 #[.int .i64 no, .string s] w fun e w' => ∃ v, e = .returned (.tuple #[lineV (scanS no s).1 v, .int .i64 (scanS no s).2]) ∧ TextsAt w' w.heap.size v (scanS no s).1.fields ∧ Below w.heap.size w w' := by
  have HK0 := fun w => refCheck_any s w hs
  have HB0 : Hid (∀ w1, Below (w.alloc zeroBlk).heap.size (w.alloc zeroBlk) w1 → w1.heap[w.heap.size]? = some zeroBlk ∧ Below w.heap.size w w1) := fun w1 hb1 =>
    ⟨(hb1.block w.heap.size (by simp)).trans (heap_alloc_new w _), ((Below.refl _ w).alloc (Nat.le_refl _) _).trans (hb1.mono (by simp))⟩
  rw [scan_doc]
  obtain ⟨K1, K2, hKK⟩ : ∃ K1 K2, chkS s = (K1, K2) := ⟨_, _, rfl⟩
  simp only [hKK] at HK0 ⊢
  clear hKK
  have HK := hide HK0
  clear HK0
  by_cases k1 : K2 = 0
  case neg =>
    rw [if_pos k1]
    have d1 : (K2 != 0) = true := by simpa using k1
    go_enter Tryz.func19, Tryz.ntmps19
    go_wp2_with fail
    refine (unhide HK _).mono ?_
    rintro e w1 ⟨rfl, hb1⟩
    have h1 := unhide HB0 w1 hb1
    obtain ⟨c0, c1, c2, c3, c4, f0, f1, f2, f3, f4⟩ := box5 h1.1
    have H1 := hide h1
    clear h1 hb1 k1
    go_wp2
    obtain ⟨W5, hW5, hb5, hB5, hr5, -, -⟩ := set5 (unhide H1).1 (.int .i64 0) (.int .u8 0) (.string ⟨#[]⟩) (.slice none 0 0) (.string ⟨#[]⟩)
    rw [hW5]
    refine bodyPost_ret (results_line rfl _ _ _ _ _ _ _ _ rfl hb5) rfl ?_
    exact ⟨.slice none 0 0, rfl, World.ownsRow_nil _ _ _ _, hB5 _ _ (unhide H1).2 (Nat.le_refl _)⟩
  case pos =>
    subst k1
    rw [if_neg (by simp)]
    have HP := hide (fun w => refParts_any s w hs)
    have hub := until_le 35 (L s)
    rw [L_len] at hub
    have ht1 := trimB_le (untilB 35 (L s)).1
    have ht2 := trimB_le (untilB 35 (L s)).2.1
    unfold docScan
    generalize trimB (untilB 35 (L s)).1 = Hd at *
    generalize trimB (untilB 35 (L s)).2.1 = Nt at *
    have hhl : Hd.length ≤ s.size := by omega
    have hnl : Nt.length ≤ s.size := by omega
    clear ht1 ht2 hub
    -- up to the call of Parts, and what stands in memory then
    have START : Hid (∀ w1 : World, w1.heap[w.heap.size]? = some zeroBlk ∧ Below w.heap.size w w1 → ∀ w2 : World, Below (w1.alloc (lineBlk no)).heap.size (w1.alloc (lineBlk no)) w2 → w2.heap[w.heap.size]? = some zeroBlk ∧ w2.heap[w1.heap.size]? = some (lineBlk no) ∧ Below w.heap.size w w2 ∧ w.heap.size < w1.heap.size) := fun w1 h1 w2 hb2 =>
      ⟨blkB ((Below.heap_alloc w1 (lineBlk no) w.heap.size (Array.getElem?_eq_some_iff.1 h1.1).1).trans h1.1) hb2, blkB (heap_alloc_new w1 _) hb2, (h1.2.alloc h1.2.size _).trans (hb2.mono (by have := h1.2.size; simp; omega)), (Array.getElem?_eq_some_iff.1 h1.1).1⟩
    by_cases kh : Hd = []
    · subst kh
      rw [if_pos rfl]
      have hsz := S_size Nt
      have hex : (S Nt).extract 0 9 = S (Nt.take 9) := by rw [← S_L ((S Nt).extract 0 9), ext_head, L_S]
      cases k3 : hasPrefix Nt missingL with
      | false =>
        rw [if_neg (by simp)]
        go_enter Tryz.func19, Tryz.ntmps19
        go_wp2_with fail
        refine (unhide HK _).mono ?_
        rintro e w1 ⟨rfl, hb1⟩
        have H1 := hide (unhide HB0 w1 hb1)
        clear hb1
        go_wp2_with fail
        refine (unhide HP _).mono ?_
        rintro e w2 ⟨rfl, hb2⟩
        obtain ⟨g4, g8, hB2, hlt⟩ := unhide START w1 (unhide H1) w2 hb2
        clear hb2
        generalize w1.heap.size = b8 at *
        obtain ⟨c0, c1, c2, c3, c4, f0, f1, f2, f3, f4⟩ := box5 g4
        obtain ⟨e0, e1, e2, e3, e4, x0, x1, x2, x3, x4⟩ := box5 g8
        have G4 := hide g4
        have G8 := hide g8
        clear g4 g8
        have hne : w.heap.size ≠ b8 := by omega
        have hne' : b8 ≠ w.heap.size := by omega
        by_cases hn9 : 9 ≤ Nt.length
        · have d9 : (9 : Int) ≤ (Nt.length : Int) := by omega
          have dm : ¬ Nt.take 9 = missingL := by
            intro h
            have : hasPrefix Nt missingL = true := by
              unfold hasPrefix; rw [List.isPrefixOf_iff_prefix]
              exact ⟨Nt.drop 9, by rw [← h, List.take_append_drop]⟩
            rw [k3] at this; cases this
          have dm2 : (List.take 9 Nt == [64, 109, 105, 115, 115, 105, 110, 103, 58]) = false := by simpa using dm
          go_wp2
          obtain ⟨W5, hW5, hb5, hB5, hr5, -, -⟩ := set5 (set_other (off := 4) (v := .string (S Nt)) (set_other (off := 1) (v := .int .u8 0) (unhide G4) hne) hne) (.int .i64 no) (.int .u8 0) (.string ⟨#[]⟩) (.slice none 0 0) (.string (S Nt))
          rw [hW5]
          refine bodyPost_ret (results_line rfl _ _ _ _ _ _ _ _ rfl hb5) rfl ?_
          exact ⟨.slice none 0 0, rfl, World.ownsRow_nil _ _ _ _, hB5 _ _ ((hB2.setCell (p := ⟨b8, 1, none⟩) (by show _ ≤ b8; omega) _).setCell (p := ⟨b8, 4, none⟩) (by show _ ≤ b8; omega) _) (Nat.le_refl _)⟩
        · have d9 : ¬ (9 : Int) ≤ (Nt.length : Int) := by omega
          go_wp2
          obtain ⟨W5, hW5, hb5, hB5, hr5, -, -⟩ := set5 (set_other (off := 4) (v := .string (S Nt)) (set_other (off := 1) (v := .int .u8 0) (unhide G4) hne) hne) (.int .i64 no) (.int .u8 0) (.string ⟨#[]⟩) (.slice none 0 0) (.string (S Nt))
          rw [hW5]
          refine bodyPost_ret (results_line rfl _ _ _ _ _ _ _ _ rfl hb5) rfl ?_
          exact ⟨.slice none 0 0, rfl, World.ownsRow_nil _ _ _ _, hB5 _ _ ((hB2.setCell (p := ⟨b8, 1, none⟩) (by show _ ≤ b8; omega) _).setCell (p := ⟨b8, 4, none⟩) (by show _ ≤ b8; omega) _) (Nat.le_refl _)⟩
      | true =>
        rw [if_pos rfl]
        obtain ⟨D, hD⟩ := List.isPrefixOf_iff_prefix.1 k3
        have hl9 : Nt.length = 9 + D.length := by rw [← hD, List.length_append]; rfl
        have d9 : (9 : Int) ≤ (Nt.length : Int) := by omega
        have dm2 : (List.take 9 Nt == [64, 109, 105, 115, 115, 105, 110, 103, 58]) = true := by rw [← hD]; simp
        have hdr : Nt.drop 9 = D := by rw [← hD]; simp
        have hex9 : (S Nt).extract 9 Nt.length = S D := by rw [← hdr, ← hsz, ← S_L ((S Nt).extract 9 (S Nt).size), ext_tail, L_S]
        rw [hdr]
        have HCd := hide (fun w => refCut_any (S D) w (by rw [S_size]; omega))
        rw [cut_doc, L_S] at HCd
        generalize (docCut D).1 = C1 at *
        generalize (docCut D).2 = C2 at *
        clear hdr hl9 hD k3
        go_enter Tryz.func19, Tryz.ntmps19
        go_wp2_with fail
        refine (unhide HK _).mono ?_
        rintro e w1 ⟨rfl, hb1⟩
        have H1 := hide (unhide HB0 w1 hb1)
        clear hb1
        go_wp2_with fail
        refine (unhide HP _).mono ?_
        rintro e w2 ⟨rfl, hb2⟩
        obtain ⟨g4, g8, hB2, hlt⟩ := unhide START w1 (unhide H1) w2 hb2
        clear hb2
        generalize w1.heap.size = b8 at *
        obtain ⟨c0, c1, c2, c3, c4, f0, f1, f2, f3, f4⟩ := box5 g4
        obtain ⟨e0, e1, e2, e3, e4, x0, x1, x2, x3, x4⟩ := box5 g8
        have G4 := hide g4
        have G8 := hide g8
        clear g4 g8
        have hne : w.heap.size ≠ b8 := by omega
        have hne' : b8 ≠ w.heap.size := by omega
        obtain ⟨V, hV, hV3⟩ := kind_set 3 (unhide G4) (unhide G8) hne hB2 (by omega)
        have HV := hide hV
        have HV3 := hide hV3
        clear hV hV3
        go_wp2_with fail
        rw [unhide HV]
        refine (unhide HCd V).mono ?_
        rintro e w3 ⟨v, rfl, hrow, hb3⟩
        obtain ⟨g4, g8, hB3, hlt3, hsz3⟩ := unhide HV3 w3 hb3
        clear hb3 HV HV3 G4 G8 c0 c1 c2 c3 c4 f0 f1 f2 f3 f4 e0 e1 e2 e3 e4 x0 x1 x2 x3 x4
        obtain ⟨c0, c1, c2, c3, c4, f0, f1, f2, f3, f4⟩ := box5 g4
        obtain ⟨e0, e1, e2, e3, e4, x0, x1, x2, x3, x4⟩ := box5 g8
        obtain ⟨a, c, rfl⟩ := row_slice2 hrow
        have G4 := hide g4
        have HR := hide hrow
        clear g4 g8 hrow
        go_wp2
        obtain ⟨W5, hW5, hb5, hB5, hr5, -, -⟩ := set5 (set_other (off := 4) (v := .string (S C2)) (set_other (off := 3) (v := .slice a C1.length c) (unhide G4) hne) hne) (.int .i64 no) (.int .u8 3) (.string ⟨#[]⟩) (.slice a C1.length c) (.string (S C2))
        rw [hW5]
        refine bodyPost_ret (results_line rfl _ _ _ _ _ _ _ _ rfl hb5) rfl ?_
        exact ⟨_, rfl, row_base (hr5 _ _ _ _ _ _ (row_set (row_set (unhide HR) hlt3 _) hlt3 _) (by omega)) (by omega), hB5 _ _ ((hB3.setCell (p := ⟨b8, 3, none⟩) (by show _ ≤ b8; omega) _).setCell (p := ⟨b8, 4, none⟩) (by show _ ≤ b8; omega) _) (Nat.le_refl _)⟩
    · rw [if_neg kh]
      have hem : Hd.isEmpty = false := by simpa using kh
      have hsz := S_size Hd
      have h0 : 0 < (S Hd).size := by rw [hsz]; exact List.length_pos_iff.2 kh
      have hv : ((S Hd)[0]'h0).toNat = bN (S Hd) 0 := by rw [bN, get_in (S Hd) 0 h0]
      have hb0 : (Hd[0]? = some 64) ↔ bN (S Hd) 0 = 64 := by
        have := L_at (S Hd) 0 h0
        rw [L_S] at this
        rw [this]
        unfold bN
        exact ⟨fun h => by rw [Option.some.inj h]; rfl, fun h => by rw [UInt8.toNat.inj (show ((S Hd).get! 0).toNat = (64 : UInt8).toNat from h)]⟩
      by_cases k64 : Hd[0]? = some 64
      · rw [if_pos k64]
        have k64' : bN (S Hd) 0 = 64 := hb0.1 k64
        have d64 : ((bN (S Hd) 0 : Int) == 64) = true := by simp; omega
        have hd1 : (Hd.drop 1).length ≤ Hd.length := by simp
        have hex1 : (S Hd).extract 1 Hd.length = S (Hd.drop 1) := by rw [← hsz, ← S_L ((S Hd).extract 1 (S Hd).size), ext_tail, L_S]
        have hpos : 1 ≤ Hd.length := List.length_pos_iff.2 kh
        have hu := until_le 58 (Hd.drop 1)
        have HUt := hide (fun w => refUntil_any (S (Hd.drop 1)) 58 w (by rw [S_size]; omega))
        rw [L_S] at HUt
        generalize Hd.drop 1 = T1 at *
        generalize untilB 58 T1 = U at *
        obtain ⟨U1, U2, U3⟩ := U
        simp only [] at hu HUt ⊢
        have HNm := hide (fun w => refNamed_any (S U1) w (by rw [S_size]; omega))
        rw [L_S] at HNm
        have HFd := hide (fun w => refFields_any (S U2) w (by rw [S_size]; omega))
        rw [L_S] at HFd
        clear hb0 k64
        cases U3 with
        | false =>
          rw [Bool.false_and, if_neg (by simp)]
          go_enter Tryz.func19, Tryz.ntmps19
          go_wp2_with fail
          refine (unhide HK _).mono ?_
          rintro e w1 ⟨rfl, hb1⟩
          have H1 := hide (unhide HB0 w1 hb1)
          clear hb1
          go_wp2_with fail
          refine (unhide HP _).mono ?_
          rintro e w2 ⟨rfl, hb2⟩
          obtain ⟨g4, g8, hB2, hlt⟩ := unhide START w1 (unhide H1) w2 hb2
          clear hb2
          generalize w1.heap.size = b8 at *
          obtain ⟨c0, c1, c2, c3, c4, f0, f1, f2, f3, f4⟩ := box5 g4
          obtain ⟨e0, e1, e2, e3, e4, x0, x1, x2, x3, x4⟩ := box5 g8
          have G4 := hide g4
          have G8 := hide g8
          clear g4 g8
          have hne : w.heap.size ≠ b8 := by omega
          have hne' : b8 ≠ w.heap.size := by omega
          go_wp2_with fail
          refine (unhide HUt _).mono ?_
          rintro e w3 ⟨rfl, hb3⟩
          have g4 := blkB (unhide G4) hb3
          have g8 := blkB (unhide G8) hb3
          have hBz := hB2.trans (hb3.mono hB2.size)
          clear hb3 G4 G8 hB2 c0 c1 c2 c3 c4 f0 f1 f2 f3 f4 e0 e1 e2 e3 e4 x0 x1 x2 x3 x4
          obtain ⟨c0, c1, c2, c3, c4, f0, f1, f2, f3, f4⟩ := box5 g4
          obtain ⟨e0, e1, e2, e3, e4, x0, x1, x2, x3, x4⟩ := box5 g8
          have G5 := hide g4
          have G6 := hide g8
          clear g4 g8
          go_wp2
          obtain ⟨W5, hW5, hb5, hB5, hr5, -, -⟩ := set5 (unhide G5) (.int .i64 0) (.int .u8 0) (.string ⟨#[]⟩) (.slice none 0 0) (.string ⟨#[]⟩)
          rw [hW5]
          refine bodyPost_ret (results_line rfl _ _ _ _ _ _ _ _ rfl hb5) rfl ?_
          exact ⟨.slice none 0 0, rfl, World.ownsRow_nil _ _ _ _, hB5 _ _ hBz (Nat.le_refl _)⟩
        | true =>
          cases hnm : namedB U1 with
          | false =>
            rw [hnm] at HNm
            rw [Bool.true_and, if_neg (by simp)]
            go_enter Tryz.func19, Tryz.ntmps19
            go_wp2_with fail
            refine (unhide HK _).mono ?_
            rintro e w1 ⟨rfl, hb1⟩
            have H1 := hide (unhide HB0 w1 hb1)
            clear hb1
            go_wp2_with fail
            refine (unhide HP _).mono ?_
            rintro e w2 ⟨rfl, hb2⟩
            obtain ⟨g4, g8, hB2, hlt⟩ := unhide START w1 (unhide H1) w2 hb2
            clear hb2
            generalize w1.heap.size = b8 at *
            obtain ⟨c0, c1, c2, c3, c4, f0, f1, f2, f3, f4⟩ := box5 g4
            obtain ⟨e0, e1, e2, e3, e4, x0, x1, x2, x3, x4⟩ := box5 g8
            have G4 := hide g4
            have G8 := hide g8
            clear g4 g8
            have hne : w.heap.size ≠ b8 := by omega
            have hne' : b8 ≠ w.heap.size := by omega
            go_wp2_with fail
            refine (unhide HUt _).mono ?_
            rintro e w3 ⟨rfl, hb3⟩
            have g4 := blkB (unhide G4) hb3
            have g8 := blkB (unhide G8) hb3
            have hBz := hB2.trans (hb3.mono hB2.size)
            clear hb3 G4 G8 hB2 c0 c1 c2 c3 c4 f0 f1 f2 f3 f4 e0 e1 e2 e3 e4 x0 x1 x2 x3 x4
            obtain ⟨c0, c1, c2, c3, c4, f0, f1, f2, f3, f4⟩ := box5 g4
            obtain ⟨e0, e1, e2, e3, e4, x0, x1, x2, x3, x4⟩ := box5 g8
            have G5 := hide g4
            have G6 := hide g8
            clear g4 g8
            go_wp2_with fail
            refine (unhide HNm _).mono ?_
            rintro e w4 ⟨rfl, rfl⟩
            go_wp2
            obtain ⟨W5, hW5, hb5, hB5, hr5, -, -⟩ := set5 (unhide G5) (.int .i64 0) (.int .u8 0) (.string ⟨#[]⟩) (.slice none 0 0) (.string ⟨#[]⟩)
            rw [hW5]
            refine bodyPost_ret (results_line rfl _ _ _ _ _ _ _ _ rfl hb5) rfl ?_
            exact ⟨.slice none 0 0, rfl, World.ownsRow_nil _ _ _ _, hB5 _ _ hBz (Nat.le_refl _)⟩
          | true =>
            rw [hnm] at HNm
            rw [Bool.true_and, if_pos rfl]
            go_enter Tryz.func19, Tryz.ntmps19
            go_wp2_with fail
            refine (unhide HK _).mono ?_
            rintro e w1 ⟨rfl, hb1⟩
            have H1 := hide (unhide HB0 w1 hb1)
            clear hb1
            go_wp2_with fail
            refine (unhide HP _).mono ?_
            rintro e w2 ⟨rfl, hb2⟩
            obtain ⟨g4, g8, hB2, hlt⟩ := unhide START w1 (unhide H1) w2 hb2
            clear hb2
            generalize w1.heap.size = b8 at *
            obtain ⟨c0, c1, c2, c3, c4, f0, f1, f2, f3, f4⟩ := box5 g4
            obtain ⟨e0, e1, e2, e3, e4, x0, x1, x2, x3, x4⟩ := box5 g8
            have G4 := hide g4
            have G8 := hide g8
            clear g4 g8
            have hne : w.heap.size ≠ b8 := by omega
            have hne' : b8 ≠ w.heap.size := by omega
            go_wp2_with fail
            refine (unhide HUt _).mono ?_
            rintro e w3 ⟨rfl, hb3⟩
            have g4 := blkB (unhide G4) hb3
            have g8 := blkB (unhide G8) hb3
            have hBz := hB2.trans (hb3.mono hB2.size)
            clear hb3 G4 G8 hB2 c0 c1 c2 c3 c4 f0 f1 f2 f3 f4 e0 e1 e2 e3 e4 x0 x1 x2 x3 x4
            obtain ⟨c0, c1, c2, c3, c4, f0, f1, f2, f3, f4⟩ := box5 g4
            obtain ⟨e0, e1, e2, e3, e4, x0, x1, x2, x3, x4⟩ := box5 g8
            have G5 := hide g4
            have G6 := hide g8
            clear g4 g8
            go_wp2_with fail
            refine (unhide HNm _).mono ?_
            rintro e w4 ⟨rfl, rfl⟩
            obtain ⟨V, hV, hV3⟩ := name_set (.string (S U1)) (unhide G5) (unhide G6) hne hBz (by omega)
            have HV := hide hV
            have HV3 := hide hV3
            clear hV hV3
            go_wp2_with fail
            rw [unhide HV]
            refine (unhide HFd V).mono ?_
            rintro e w3 ⟨v, rfl, hrow, hb3⟩
            obtain ⟨g4, g8, hB3, hlt3, hsz3⟩ := unhide HV3 w3 hb3
            clear hb3 HV HV3 G5 G6 c0 c1 c2 c3 c4 f0 f1 f2 f3 f4 e0 e1 e2 e3 e4 x0 x1 x2 x3 x4
            obtain ⟨c0, c1, c2, c3, c4, f0, f1, f2, f3, f4⟩ := box5 g4
            obtain ⟨e0, e1, e2, e3, e4, x0, x1, x2, x3, x4⟩ := box5 g8
            obtain ⟨a, c, rfl⟩ := row_slice2 hrow
            have G4 := hide g4
            have HR := hide hrow
            clear g4 g8 hrow
            go_wp2
            obtain ⟨W5, hW5, hb5, hB5, hr5, -, -⟩ := set5 (set_other (off := 4) (v := .string (S Nt)) (set_other (off := 3) (v := .slice a (fieldsB U2).length c) (unhide G4) hne) hne) (.int .i64 no) (.int .u8 2) (.string (S U1)) (.slice a (fieldsB U2).length c) (.string (S Nt))
            rw [hW5]
            refine bodyPost_ret (results_line rfl _ _ _ _ _ _ _ _ rfl hb5) rfl ?_
            exact ⟨_, rfl, row_base (hr5 _ _ _ _ _ _ (row_set (row_set (unhide HR) hlt3 _) hlt3 _) (by omega)) (by omega), hB5 _ _ ((hB3.setCell (p := ⟨b8, 3, none⟩) (by show _ ≤ b8; omega) _).setCell (p := ⟨b8, 4, none⟩) (by show _ ≤ b8; omega) _) (Nat.le_refl _)⟩
      · rw [if_neg k64]
        have k64' : ¬ bN (S Hd) 0 = 64 := fun h => k64 (hb0.2 h)
        have d64 : ((bN (S Hd) 0 : Int) == 64) = false := by simp; omega
        have HFd := hide (fun w => refFields_any (S Hd) w (by omega))
        rw [L_S] at HFd
        clear hb0 k64 k64'
        go_enter Tryz.func19, Tryz.ntmps19
        go_wp2_with fail
        refine (unhide HK _).mono ?_
        rintro e w1 ⟨rfl, hb1⟩
        have H1 := hide (unhide HB0 w1 hb1)
        clear hb1
        go_wp2_with fail
        refine (unhide HP _).mono ?_
        rintro e w2 ⟨rfl, hb2⟩
        obtain ⟨g4, g8, hB2, hlt⟩ := unhide START w1 (unhide H1) w2 hb2
        clear hb2
        generalize w1.heap.size = b8 at *
        obtain ⟨c0, c1, c2, c3, c4, f0, f1, f2, f3, f4⟩ := box5 g4
        obtain ⟨e0, e1, e2, e3, e4, x0, x1, x2, x3, x4⟩ := box5 g8
        have G4 := hide g4
        have G8 := hide g8
        clear g4 g8
        have hne : w.heap.size ≠ b8 := by omega
        have hne' : b8 ≠ w.heap.size := by omega
        obtain ⟨V, hV, hV3⟩ := kind_set 1 (unhide G4) (unhide G8) hne hB2 (by omega)
        have HV := hide hV
        have HV3 := hide hV3
        clear hV hV3
        go_wp2_with fail
        rw [unhide HV]
        refine (unhide HFd V).mono ?_
        rintro e w3 ⟨v, rfl, hrow, hb3⟩
        obtain ⟨g4, g8, hB3, hlt3, hsz3⟩ := unhide HV3 w3 hb3
        clear hb3 HV HV3 G4 G8 c0 c1 c2 c3 c4 f0 f1 f2 f3 f4 e0 e1 e2 e3 e4 x0 x1 x2 x3 x4
        obtain ⟨c0, c1, c2, c3, c4, f0, f1, f2, f3, f4⟩ := box5 g4
        obtain ⟨e0, e1, e2, e3, e4, x0, x1, x2, x3, x4⟩ := box5 g8
        obtain ⟨a, c, rfl⟩ := row_slice2 hrow
        have G4 := hide g4
        have HR := hide hrow
        clear g4 g8 hrow
        go_wp2
        obtain ⟨W5, hW5, hb5, hB5, hr5, -, -⟩ := set5 (set_other (off := 4) (v := .string (S Nt)) (set_other (off := 3) (v := .slice a (fieldsB Hd).length c) (unhide G4) hne) hne) (.int .i64 no) (.int .u8 1) (.string ⟨#[]⟩) (.slice a (fieldsB Hd).length c) (.string (S Nt))
        rw [hW5]
        refine bodyPost_ret (results_line rfl _ _ _ _ _ _ _ _ rfl hb5) rfl ?_
        exact ⟨_, rfl, row_base (hr5 _ _ _ _ _ _ (row_set (row_set (unhide HR) hlt3 _) hlt3 _) (by omega)) (by omega), hB5 _ _ ((hB3.setCell (p := ⟨b8, 3, none⟩) (by show _ ≤ b8; omega) _).setCell (p := ⟨b8, 4, none⟩) (by show _ ≤ b8; omega) _) (Nat.le_refl _)⟩

end Go.Proofs.YtlaennakglhmjaaGreatDoor
