/-
  These texts, one behind the other: RCheck, RNamed, RScan.
-/
import Derived.Test.YtnabbahdmajfpaaGreatDoorRChars
import Derived.Test.YtnabbahdmajfpaaGreatDoorRk
/-
  The document's Check (furrowref03), for every line: the same as Check of package lines.
-/
namespace Go.Proofs.YtnabbahdmajfpaaGreatDoor
open Go.RowKit Go.PlainAid Go.Lib Go.Shelf
set_option linter.unusedVariables false

theorem isB_iff (s : ByteArray) (i : Nat) (hi : i < s.size) : isB s i = !decide ((Utf8.decode s i).1 = 65533 ∧ (Utf8.decode s i).2 = 1) := by
  unfold isB
  rcases dec_why s i hi with ⟨_, x, n, h2, h3, h4, _⟩ | ⟨_, h⟩
  · rw [h2]
    by_cases hx : x = 65533
    · subst hx
      have : n = 3 := by have : bytesN ((65533 : Nat) : Int) = 3 := by decide
                         omega
      subst this; rfl
    · have h1 : ¬ (x = 65533 ∧ n = 1) := fun h => hx h.1
      rw [decide_eq_false h1, decide_eq_true (show (x, n).1 ≠ 65533 from hx)]; rfl
  · rw [h]; rfl
theorem plF_get (s : ByteArray) : ∀ (f i k : Nat), s.size - i ≤ f → ∀ x, (plF s i)[k]? = some x → x < s.size ∧ (plF s i).drop k = plF s x := by
  intro f
  induction f with
  | zero => intro i k h x hx; rw [plF_end s i (by omega)] at hx; simp at hx
  | succ f ih =>
    intro i k h x hx
    by_cases hi : i < s.size
    · have hb := dec_bounds s i hi
      cases k with
      | zero =>
        rw [plF_step s i hi] at hx
        obtain rfl : i = x := by simpa using hx
        exact ⟨hi, rfl⟩
      | succ k =>
        rw [plF_step s i hi] at hx ⊢
        exact ih _ k (by omega) x (by simpa using hx)
    · rw [plF_end s i hi] at hx; simp at hx
theorem chk_step (s : ByteArray) (k x : Nat) (hx : x < s.size) : chk s k (chars s x) = if k = 4096 then (k, 32) else if isB s x = false then (k, 30) else if ctrlB ((Utf8.decode s x).1 : Int) = true then (k, 31) else chk s (k + 1) (chars s (x + (Utf8.decode s x).2)) := by
  rw [chars_step s x hx, isB_iff s x hx]
  show (if k = 4096 then (k, 32) else if (Utf8.decode s x).1 = 65533 ∧ (Utf8.decode s x).2 = 1 then (k, 30) else if ctrlB ((Utf8.decode s x).1 : Int) = true then (k, 31) else chk s (k + 1) (chars s (x + (Utf8.decode s x).2))) = _
  by_cases h : (Utf8.decode s x).1 = 65533 ∧ (Utf8.decode s x).2 = 1
  · simp only [h, and_self, decide_true, Bool.not_true, if_true]
  · simp only [h, decide_false, Bool.not_false, if_false, Bool.true_eq_false]

set_option maxRecDepth 100000 in
set_option maxHeartbeats 2000000 in
theorem refCheck_any (s : ByteArray) (w : World) (hs : s.size ≤ 1099511627776) :
    Calls Tryz.prog 85 #[.string s] w fun e w' => e = .returned (.tuple #[.int .i64 ((chkS s).1 : Nat), .int .i64 (chkS s).2]) ∧ Below w.heap.size w w' := by
  have hcl := plF_len s
  obtain ⟨A, hA⟩ : ∃ A, chkS s = A := ⟨_, rfl⟩
  rw [hA]
  have HA : Hid (chk s 0 (chars s 0) = A) := hA
  clear hA
  have H2 := hide (fun w => refChars_any s w hs)
  go_enter Tryz.func85, Tryz.ntmps85
  go_wp2_with fail
  refine (unhide H2 _).mono ?_
  rintro e w1 ⟨v, rfl, hrow, hb1⟩
  obtain ⟨a, c, rfl, _, hat⟩ := cc_row hrow
  have HAT := hide hat
  clear hrow hat H2
  obtain ⟨N, hN⟩ : ∃ N, (plF s 0).length = N := ⟨_, rfl⟩
  rw [hN] at hcl
  rw [hN]
  have HN := hide hN
  clear hN
  go_wp2
  go_loopw [5] (fun v5 wr => ∃ k pos : Nat, v5 = .int .i64 (k : Nat) ∧ k ≤ N ∧ Hid ((plF s 0).drop k = plF s pos) ∧ Hid (chk s k (chars s pos) = A) ∧ wr = w1) (fun v5 _ => N - (RowKit.intOf v5).toNat)
  case atStart => exact ⟨0, 0, rfl, Nat.zero_le _, rfl, HA, rfl⟩
  case round =>
    obtain ⟨k, pos, rfl, hk, HD, HC, rfl⟩ := hrel
    by_cases hlt : k < N
    · obtain ⟨x, hx⟩ : ∃ x, (plF s 0)[k]? = some x := ⟨_, List.getElem?_eq_getElem (by rw [unhide HN]; exact hlt)⟩
      obtain ⟨hxs, hdr⟩ := plF_get s s.size 0 k (by omega) x hx
      have hpx : plF s pos = plF s x := HD.out.symm.trans hdr
      obtain rfl : pos = x := by
        have h1 : (plF s pos)[0]? = some x := by rw [hpx, plF_step s x hxs]; rfl
        rcases Nat.lt_or_ge pos s.size with h | h
        · rw [plF_step s pos h] at h1; simpa using h1
        · rw [plF_end s pos (by omega)] at h1; simp at h1
      obtain ⟨g, rfl, _, _, y2, y3⟩ := unhide HAT k pos hx
      have HC2 := hide ((chk_step s k pos hxs).symm.trans HC.out)
      have HD2 : Hid ((plF s 0).drop (k + 1) = plF s (pos + (Utf8.decode s pos).2)) := by
        show _ = _
        rw [← List.drop_drop, hdr, plF_step s pos hxs]; rfl
      clear hdr hpx hx HC HD
      generalize (Utf8.decode s pos).1 = R at *
      generalize (Utf8.decode s pos).2 = D at *
      generalize isB s pos = I at *
      by_cases k1 : k = 4096
      · have d1 : ((k : Int) == 4096) = true := by simp; omega
        have HE : Hid (A = (k, 32)) := by show _ = _; rw [← unhide HC2, if_pos k1]
        go_wp2
        go_ret2
        exact ⟨by rw [HE.out]; rfl, hb1⟩
      · have d1 : ((k : Int) == 4096) = false := by simp; omega
        cases I with
        | false =>
          have HE : Hid (A = (k, 30)) := by show _ = _; rw [← unhide HC2, if_neg k1, if_pos rfl]
          go_wp2
          go_ret2
          exact ⟨by rw [HE.out]; rfl, hb1⟩
        | true =>
          have HC3 := hide (unhide HC2)
          clear HC2
          by_cases c1 : R < 32
          · have d2 : decide ((R : Int) < 32) = true := decide_eq_true (by omega)
            have d2' : (R : Int) < 32 := by omega
            by_cases c2 : R = 9
            · have d3 : ((R : Int) != 9) = false := by simp; omega
              have d4 : ((R : Int) == 127) = false := by simp; omega
              have HE : Hid (chk s (k + 1) (chars s (pos + D)) = A) := by
                show _ = _
                rw [← unhide HC3, if_neg k1, if_neg (by simp), if_neg (by subst c2; decide)]
              go_wp2
              go_roundw
              case rel => exact ⟨k + 1, pos + D, by go_num, by omega, HD2, HE, trivial⟩
              case measure => simp [RowKit.intOf]; omega
            · have d3 : ((R : Int) != 9) = true := by simp; omega
              have HE : Hid (A = (k, 31)) := by
                show _ = _
                rw [← unhide HC3, if_neg k1, if_neg (by simp), if_pos]
                unfold ctrlB
                rw [d2, decide_eq_true (show (R : Int) ≠ 9 by omega)]; rfl
              go_wp2
              go_ret2
              exact ⟨by rw [HE.out]; rfl, hb1⟩
          · have d2 : decide ((R : Int) < 32) = false := decide_eq_false (by omega)
            have d2' : ¬ (R : Int) < 32 := by omega
            by_cases c2 : R = 127
            · have d3 : ((R : Int) == 127) = true := by simp; omega
              have HE : Hid (A = (k, 31)) := by
                show _ = _
                rw [← unhide HC3, if_neg k1, if_neg (by simp), if_pos (by subst c2; decide)]
              go_wp2
              go_ret2
              exact ⟨by rw [HE.out]; rfl, hb1⟩
            · have d3 : ((R : Int) == 127) = false := by simp; omega
              have HE : Hid (chk s (k + 1) (chars s (pos + D)) = A) := by
                show _ = _
                rw [← unhide HC3, if_neg k1, if_neg (by simp), if_neg]
                unfold ctrlB
                rw [d2, decide_eq_false (show ¬ (R : Int) = 127 by omega)]; simp
              go_wp2
              go_roundw
              case rel => exact ⟨k + 1, pos + D, by go_num, by omega, HD2, HE, trivial⟩
              case measure => simp [RowKit.intOf]; omega
    · obtain rfl : k = N := by omega
      have HE : Hid (A = (0, 0)) := by
        show _ = _
        have h1 := HD.out
        rw [List.drop_of_length_le (by rw [unhide HN]; exact Nat.le_refl _)] at h1
        have h2 : chars s pos = [] := by
          have := congrArg List.length h1
          unfold plF at this; simp only [List.length_nil, List.length_map] at this
          exact List.length_eq_zero_iff.1 this.symm
        have := HC.out
        rw [h2] at this; exact this.symm
      go_wp2
      go_ret2
      exact ⟨by rw [HE.out]; rfl, hb1⟩
end Go.Proofs.YtnabbahdmajfpaaGreatDoor
/-
  The document's named (furrowref03), for every text.
-/
namespace Go.Proofs.YtnabbahdmajfpaaGreatDoor
open Go.RowKit Go.PlainAid Go.Lib Go.Shelf
set_option linter.unusedVariables false

theorem nameSign_iff (r : Int) : nameSignB r = true ↔ (65 ≤ r ∧ r ≤ 90) ∨ (97 ≤ r ∧ r ≤ 122) ∨ (48 ≤ r ∧ r ≤ 57) ∨ r = 95 ∨ r = 45 := by
  unfold nameSignB; simp [or_assoc]
theorem nameSign_no (r : Int) : nameSignB r = false ↔ ¬ ((65 ≤ r ∧ r ≤ 90) ∨ (97 ≤ r ∧ r ≤ 122) ∨ (48 ≤ r ∧ r ≤ 57) ∨ r = 95 ∨ r = 45) := by
  rw [← nameSign_iff]; simp
theorem named_some (s : ByteArray) (i : Nat) (hi : i < s.size) (h : nameSignB (bN s i : Int) = false) : namedB (L s) = false := by
  unfold namedB
  rw [Bool.and_eq_false_iff]
  left
  rw [List.all_eq_false]
  exact ⟨s.get! i, List.mem_of_getElem? (L_at s i hi), by rw [show ((s.get! i).toNat : Int) = (bN s i : Int) from rfl, h]; simp⟩
theorem named_all (s : ByteArray) (h : ∀ i, i < s.size → nameSignB (bN s i : Int) = true) : namedB (L s) = decide (0 < s.size) := by
  unfold namedB
  have : (L s).all (fun b => nameSignB (b.toNat : Int)) = true := by
    rw [List.all_eq_true]
    intro b hb
    obtain ⟨i, hi⟩ := List.mem_iff_getElem?.1 hb
    have hlt : i < s.size := by have := (List.getElem?_eq_some_iff.1 hi).1; rwa [L_len] at this
    rw [L_at s i hlt] at hi
    rw [← Option.some.inj hi]; exact h i hlt
  rw [this, Bool.true_and, Bool.eq_iff_iff]
  simp only [decide_eq_true_eq, ne_eq]
  rw [← L_len, List.length_pos_iff]

set_option maxRecDepth 100000 in
set_option maxHeartbeats 2000000 in
theorem refNamed_any (s : ByteArray) (w : World) (hs : s.size ≤ 1099511627776) :
    Calls Tryz.prog 89 #[.string s] w fun e w' => e = .returned (.bool (namedB (L s))) ∧ w = w' := by
  obtain ⟨A, hA⟩ : ∃ A, namedB (L s) = A := ⟨_, rfl⟩
  rw [hA]
  have HA := hide hA
  clear hA
  go_enter Tryz.func89, Tryz.ntmps89
  go_wp2
  go_loopw [3] (fun v3 wr => ∃ i : Nat, v3 = .int .i64 (i : Nat) ∧ i ≤ s.size ∧ Hid (∀ j, j < i → nameSignB (bN s j : Int) = true) ∧ w = wr) (fun v3 _ => s.size - (RowKit.intOf v3).toNat)
  case atStart => exact ⟨0, rfl, Nat.zero_le _, (by intro j hj; omega), rfl⟩
  case round =>
    obtain ⟨i, rfl, hi, HN, hw1⟩ := hrel
    subst hw1
    by_cases hlt : i < s.size
    · have hv : (s[i]'hlt).toNat = bN s i := by rw [bN, get_in s i hlt]
      cases hn : nameSignB (bN s i : Int) with
      | true =>
        have HN2 : Hid (∀ j, j < i + 1 → nameSignB (bN s j : Int) = true) := by
          intro j hj
          rcases Nat.lt_succ_iff_lt_or_eq.1 hj with h | h
          · exact HN.out j h
          · rw [h]; exact hn
        have hn' := (nameSign_iff _).1 hn
        clear hn
        generalize bN s i = b at *
        have HR : Hid (∀ w2 : World, w = w2 → (∃ k : Nat, Value.int .i64 ((i : Int) + 1) = .int .i64 (k : Nat) ∧ k ≤ s.size ∧ Hid (∀ j, j < k → nameSignB (bN s j : Int) = true) ∧ w = w2)) := fun w2 h => ⟨i + 1, by go_num, by omega, HN2, h⟩
        go_wp2
        all_goals first
          | (exfalso; simp only [beq_iff_eq, beq_eq_false_iff_ne, ne_eq, Bool.not_eq_true', Bool.not_eq_false'] at *; omega)
          | (go_roundw
             case rel => obtain ⟨k, x1, x2, x3, _⟩ := unhide HR _ rfl; exact ⟨k, x1, x2, x3, trivial⟩
             case measure => simp [RowKit.intOf]; omega)
      | false =>
        have HE : Hid (A = false) := (unhide HA).symm.trans (named_some s i hlt hn)
        have hn' := (nameSign_no _).1 hn
        clear hn
        generalize bN s i = b at *
        go_wp2
        all_goals first
          | (exfalso; simp only [decide_eq_true_eq, decide_eq_false_iff_not, beq_iff_eq, beq_eq_false_iff_ne, ne_eq, Bool.not_eq_true', Bool.not_eq_false'] at *; omega)
          | (go_ret
             exact ⟨by rw [HE.out]; rfl, rfl⟩)
    · obtain rfl : i = s.size := by omega
      have HE : Hid (A = decide (0 < s.size)) := (unhide HA).symm.trans (named_all s HN.out)
      go_wp2
      go_ret
      refine ⟨ret_bool ?_, rfl⟩
      rw [HE.out, toList_empty]
      rcases Nat.eq_zero_or_pos s.size with h | h
      · rw [decide_eq_true h, decide_eq_false (by omega)]; rfl
      · rw [decide_eq_false (by omega), decide_eq_true h]; rfl

end Go.Proofs.YtnabbahdmajfpaaGreatDoor
/-
  The document's Scan (furrowref03), for every line.
-/
namespace Go.Proofs.YtnabbahdmajfpaaGreatDoor
open Go.RowKit Go.PlainAid Go.Lib Go.Shelf
set_option linter.unusedVariables false

abbrev lineBlk (no : Int) : Obj := .cells #[.int .i64 no, .int .u8 0, .string ⟨#[]⟩, .slice none 0 0, .string ⟨#[]⟩] 25
theorem blkB {w w' : World} {b : Nat} {o : Obj} (h : w.heap[b]? = some o) (hb : Below w.heap.size w w') : w'.heap[b]? = some o := (hb.block b (Array.getElem?_eq_some_iff.1 h).1).trans h

theorem set_other {W : World} {b k off : Nat} {v : Value} {o : Obj} (h : W.heap[k]? = some o) (hne : k ≠ b) : (W.setCell ⟨b, off, none⟩ v).heap[k]? = some o := (heap_setCell_other _ _ _ _ hne).trans h
/-- one cell of a line written ahead of a call -/
theorem kind_set {W : World} {b4 b8 : Nat} {no : Int} {B : Nat} {w0 : World} (k : Int) (g4 : W.heap[b4]? = some zeroBlk) (g8 : W.heap[b8]? = some (lineBlk no)) (hne : b4 ≠ b8) (hB : Below B w0 W) (hb : B ≤ b8) :
    ∃ V, W.setCell ⟨b8, 1, none⟩ (.int .u8 k) = V ∧ ∀ w3, Below V.heap.size V w3 → w3.heap[b4]? = some zeroBlk ∧ w3.heap[b8]? = some (.cells #[.int .i64 no, .int .u8 k, .string ⟨#[]⟩, .slice none 0 0, .string ⟨#[]⟩] 25) ∧ Below B w0 w3 ∧ b8 < V.heap.size ∧ V.heap.size ≤ w3.heap.size := by
  refine ⟨_, rfl, fun w3 hb3 => ⟨blkB (set_other g4 hne) hb3, blkB (heap_setCell_same W b8 1 _ _ _ g8) hb3, (hB.setCell (p := ⟨b8, 1, none⟩) hb _).trans (hb3.mono (by have := (Array.getElem?_eq_some_iff.1 g8).1; simp; omega)), by have := (Array.getElem?_eq_some_iff.1 g8).1; simpa using this, hb3.size⟩⟩

theorem name_set {W : World} {b4 b8 : Nat} {no : Int} {B : Nat} {w0 : World} (nm : Value) (g4 : W.heap[b4]? = some zeroBlk) (g8 : W.heap[b8]? = some (lineBlk no)) (hne : b4 ≠ b8) (hB : Below B w0 W) (hb : B ≤ b8) :
    ∃ V, (W.setCell ⟨b8, 1, none⟩ (.int .u8 2)).setCell ⟨b8, 2, none⟩ nm = V ∧ ∀ w3, Below V.heap.size V w3 → w3.heap[b4]? = some zeroBlk ∧ w3.heap[b8]? = some (.cells #[.int .i64 no, .int .u8 2, nm, .slice none 0 0, .string ⟨#[]⟩] 25) ∧ Below B w0 w3 ∧ b8 < V.heap.size ∧ V.heap.size ≤ w3.heap.size := by
  refine ⟨_, rfl, fun w3 hb3 => ⟨blkB (set_other (set_other g4 hne) hne) hb3, blkB (heap_setCell_same _ b8 2 _ _ _ (heap_setCell_same W b8 1 _ _ _ g8)) hb3, ((hB.setCell (p := ⟨b8, 1, none⟩) hb _).setCell (p := ⟨b8, 2, none⟩) hb _).trans (hb3.mono (by have := (Array.getElem?_eq_some_iff.1 g8).1; simp; omega)), by have := (Array.getElem?_eq_some_iff.1 g8).1; simpa using this, hb3.size⟩⟩

set_option maxRecDepth 100000 in
set_option maxHeartbeats 4000000 in
theorem refScan3_any (no : Int) (s : ByteArray) (w : World) (hs : s.size ≤ 1099511627776) :
    Calls Tryz.prog 65 #[.int .i64 no, .string s] w fun e w' => ∃ v, e = .returned (.tuple #[lineV (scanS no s).1 v, .int .i64 (scanS no s).2]) ∧ TextsAt w' w.heap.size v (scanS no s).1.fields ∧ Below w.heap.size w w' := by
  have HK0 := fun w => refCheck_any s w hs
  have HB0 : Hid (∀ w1, Below (w.alloc zeroBlk).heap.size (w.alloc zeroBlk) w1 → w1.heap[w.heap.size]? = some zeroBlk ∧ Below w.heap.size w w1) := fun w1 hb1 =>
    ⟨(hb1.block w.heap.size (by simp)).trans (heap_alloc_new w _), ((Below.refl _ w).alloc (Nat.le_refl _) _).trans (hb1.mono (by simp))⟩
  rw [scan_doc]
  obtain ⟨K1, K2, hKK⟩ : ∃ K1 K2, chkS s = (K1, K2) := ⟨_, _, rfl⟩
  simp only [hKK] at HK0 ⊢
  clear hKK
  have HK := hide HK0
  clear HK0
  by_cases k1 : K2 = 0
  case neg =>
    rw [if_pos k1]
    have d1 : (K2 != 0) = true := by simpa using k1
    go_enter Tryz.func65, Tryz.ntmps65
    go_wp2_with fail
    refine (unhide HK _).mono ?_
    rintro e w1 ⟨rfl, hb1⟩
    have h1 := unhide HB0 w1 hb1
    obtain ⟨c0, c1, c2, c3, c4, f0, f1, f2, f3, f4⟩ := box5 h1.1
    have H1 := hide h1
    clear h1 hb1 k1
    go_wp2
    obtain ⟨W5, hW5, hb5, hB5, hr5, -, -⟩ := set5 (unhide H1).1 (.int .i64 0) (.int .u8 0) (.string ⟨#[]⟩) (.slice none 0 0) (.string ⟨#[]⟩)
    rw [hW5]
    refine bodyPost_ret (results_line rfl _ _ _ _ _ _ _ _ rfl hb5) rfl ?_
    exact ⟨.slice none 0 0, rfl, World.ownsRow_nil _ _ _ _, hB5 _ _ (unhide H1).2 (Nat.le_refl _)⟩
  case pos =>
    subst k1
    rw [if_neg (by simp)]
    have HP := hide (fun w => refParts_any s w hs)
    have hub := until_le 35 (L s)
    rw [L_len] at hub
    have ht1 := trimB_le (untilB 35 (L s)).1
    have ht2 := trimB_le (untilB 35 (L s)).2.1
    unfold docScan
    generalize trimB (untilB 35 (L s)).1 = Hd at *
    generalize trimB (untilB 35 (L s)).2.1 = Nt at *
    have hhl : Hd.length ≤ s.size := by omega
    have hnl : Nt.length ≤ s.size := by omega
    clear ht1 ht2 hub
    -- up to the call of Parts, and what stands in memory then
    have START : Hid (∀ w1 : World, w1.heap[w.heap.size]? = some zeroBlk ∧ Below w.heap.size w w1 → ∀ w2 : World, Below (w1.alloc (lineBlk no)).heap.size (w1.alloc (lineBlk no)) w2 → w2.heap[w.heap.size]? = some zeroBlk ∧ w2.heap[w1.heap.size]? = some (lineBlk no) ∧ Below w.heap.size w w2 ∧ w.heap.size < w1.heap.size) := fun w1 h1 w2 hb2 =>
      ⟨blkB ((Below.heap_alloc w1 (lineBlk no) w.heap.size (Array.getElem?_eq_some_iff.1 h1.1).1).trans h1.1) hb2, blkB (heap_alloc_new w1 _) hb2, (h1.2.alloc h1.2.size _).trans (hb2.mono (by have := h1.2.size; simp; omega)), (Array.getElem?_eq_some_iff.1 h1.1).1⟩
    by_cases kh : Hd = []
    · subst kh
      rw [if_pos rfl]
      have hsz := S_size Nt
      have hex : (S Nt).extract 0 9 = S (Nt.take 9) := by rw [← S_L ((S Nt).extract 0 9), ext_head, L_S]
      cases k3 : hasPrefix Nt missingL with
      | false =>
        rw [if_neg (by simp)]
        go_enter Tryz.func65, Tryz.ntmps65
        go_wp2_with fail
        refine (unhide HK _).mono ?_
        rintro e w1 ⟨rfl, hb1⟩
        have H1 := hide (unhide HB0 w1 hb1)
        clear hb1
        go_wp2_with fail
        refine (unhide HP _).mono ?_
        rintro e w2 ⟨rfl, hb2⟩
        obtain ⟨g4, g8, hB2, hlt⟩ := unhide START w1 (unhide H1) w2 hb2
        clear hb2
        generalize w1.heap.size = b8 at *
        obtain ⟨c0, c1, c2, c3, c4, f0, f1, f2, f3, f4⟩ := box5 g4
        obtain ⟨e0, e1, e2, e3, e4, x0, x1, x2, x3, x4⟩ := box5 g8
        have G4 := hide g4
        have G8 := hide g8
        clear g4 g8
        have hne : w.heap.size ≠ b8 := by omega
        have hne' : b8 ≠ w.heap.size := by omega
        by_cases hn9 : 9 ≤ Nt.length
        · have d9 : (9 : Int) ≤ (Nt.length : Int) := by omega
          have dm : ¬ Nt.take 9 = missingL := by
            intro h
            have : hasPrefix Nt missingL = true := by
              unfold hasPrefix; rw [List.isPrefixOf_iff_prefix]
              exact ⟨Nt.drop 9, by rw [← h, List.take_append_drop]⟩
            rw [k3] at this; cases this
          have dm2 : (List.take 9 Nt == [64, 109, 105, 115, 115, 105, 110, 103, 58]) = false := by simpa using dm
          go_wp2
          obtain ⟨W5, hW5, hb5, hB5, hr5, -, -⟩ := set5 (set_other (off := 4) (v := .string (S Nt)) (set_other (off := 1) (v := .int .u8 0) (unhide G4) hne) hne) (.int .i64 no) (.int .u8 0) (.string ⟨#[]⟩) (.slice none 0 0) (.string (S Nt))
          rw [hW5]
          refine bodyPost_ret (results_line rfl _ _ _ _ _ _ _ _ rfl hb5) rfl ?_
          exact ⟨.slice none 0 0, rfl, World.ownsRow_nil _ _ _ _, hB5 _ _ ((hB2.setCell (p := ⟨b8, 1, none⟩) (by show _ ≤ b8; omega) _).setCell (p := ⟨b8, 4, none⟩) (by show _ ≤ b8; omega) _) (Nat.le_refl _)⟩
        · have d9 : ¬ (9 : Int) ≤ (Nt.length : Int) := by omega
          go_wp2
          obtain ⟨W5, hW5, hb5, hB5, hr5, -, -⟩ := set5 (set_other (off := 4) (v := .string (S Nt)) (set_other (off := 1) (v := .int .u8 0) (unhide G4) hne) hne) (.int .i64 no) (.int .u8 0) (.string ⟨#[]⟩) (.slice none 0 0) (.string (S Nt))
          rw [hW5]
          refine bodyPost_ret (results_line rfl _ _ _ _ _ _ _ _ rfl hb5) rfl ?_
          exact ⟨.slice none 0 0, rfl, World.ownsRow_nil _ _ _ _, hB5 _ _ ((hB2.setCell (p := ⟨b8, 1, none⟩) (by show _ ≤ b8; omega) _).setCell (p := ⟨b8, 4, none⟩) (by show _ ≤ b8; omega) _) (Nat.le_refl _)⟩
      | true =>
        rw [if_pos rfl]
        obtain ⟨D, hD⟩ := List.isPrefixOf_iff_prefix.1 k3
        have hl9 : Nt.length = 9 + D.length := by rw [← hD, List.length_append]; rfl
        have d9 : (9 : Int) ≤ (Nt.length : Int) := by omega
        have dm2 : (List.take 9 Nt == [64, 109, 105, 115, 115, 105, 110, 103, 58]) = true := by rw [← hD]; simp
        have hdr : Nt.drop 9 = D := by rw [← hD]; simp
        have hex9 : (S Nt).extract 9 Nt.length = S D := by rw [← hdr, ← hsz, ← S_L ((S Nt).extract 9 (S Nt).size), ext_tail, L_S]
        rw [hdr]
        have HCd := hide (fun w => refCut_any (S D) w (by rw [S_size]; omega))
        rw [cut_doc, L_S] at HCd
        generalize (docCut D).1 = C1 at *
        generalize (docCut D).2 = C2 at *
        clear hdr hl9 hD k3
        go_enter Tryz.func65, Tryz.ntmps65
        go_wp2_with fail
        refine (unhide HK _).mono ?_
        rintro e w1 ⟨rfl, hb1⟩
        have H1 := hide (unhide HB0 w1 hb1)
        clear hb1
        go_wp2_with fail
        refine (unhide HP _).mono ?_
        rintro e w2 ⟨rfl, hb2⟩
        obtain ⟨g4, g8, hB2, hlt⟩ := unhide START w1 (unhide H1) w2 hb2
        clear hb2
        generalize w1.heap.size = b8 at *
        obtain ⟨c0, c1, c2, c3, c4, f0, f1, f2, f3, f4⟩ := box5 g4
        obtain ⟨e0, e1, e2, e3, e4, x0, x1, x2, x3, x4⟩ := box5 g8
        have G4 := hide g4
        have G8 := hide g8
        clear g4 g8
        have hne : w.heap.size ≠ b8 := by omega
        have hne' : b8 ≠ w.heap.size := by omega
        obtain ⟨V, hV, hV3⟩ := kind_set 3 (unhide G4) (unhide G8) hne hB2 (by omega)
        have HV := hide hV
        have HV3 := hide hV3
        clear hV hV3
        go_wp2_with fail
        rw [unhide HV]
        refine (unhide HCd V).mono ?_
        rintro e w3 ⟨v, rfl, hrow, hb3⟩
        obtain ⟨g4, g8, hB3, hlt3, hsz3⟩ := unhide HV3 w3 hb3
        clear hb3 HV HV3 G4 G8 c0 c1 c2 c3 c4 f0 f1 f2 f3 f4 e0 e1 e2 e3 e4 x0 x1 x2 x3 x4
        obtain ⟨c0, c1, c2, c3, c4, f0, f1, f2, f3, f4⟩ := box5 g4
        obtain ⟨e0, e1, e2, e3, e4, x0, x1, x2, x3, x4⟩ := box5 g8
        obtain ⟨a, c, rfl⟩ := row_slice2 hrow
        have G4 := hide g4
        have HR := hide hrow
        clear g4 g8 hrow
        go_wp2
        obtain ⟨W5, hW5, hb5, hB5, hr5, -, -⟩ := set5 (set_other (off := 4) (v := .string (S C2)) (set_other (off := 3) (v := .slice a C1.length c) (unhide G4) hne) hne) (.int .i64 no) (.int .u8 3) (.string ⟨#[]⟩) (.slice a C1.length c) (.string (S C2))
        rw [hW5]
        refine bodyPost_ret (results_line rfl _ _ _ _ _ _ _ _ rfl hb5) rfl ?_
        exact ⟨_, rfl, row_base (hr5 _ _ _ _ _ _ (row_set (row_set (unhide HR) hlt3 _) hlt3 _) (by omega)) (by omega), hB5 _ _ ((hB3.setCell (p := ⟨b8, 3, none⟩) (by show _ ≤ b8; omega) _).setCell (p := ⟨b8, 4, none⟩) (by show _ ≤ b8; omega) _) (Nat.le_refl _)⟩
    · rw [if_neg kh]
      have hem : Hd.isEmpty = false := by simpa using kh
      have hsz := S_size Hd
      have h0 : 0 < (S Hd).size := by rw [hsz]; exact List.length_pos_iff.2 kh
      have hv : ((S Hd)[0]'h0).toNat = bN (S Hd) 0 := by rw [bN, get_in (S Hd) 0 h0]
      have hb0 : (Hd[0]? = some 64) ↔ bN (S Hd) 0 = 64 := by
        have := L_at (S Hd) 0 h0
        rw [L_S] at this
        rw [this]
        unfold bN
        exact ⟨fun h => by rw [Option.some.inj h]; rfl, fun h => by rw [UInt8.toNat.inj (show ((S Hd).get! 0).toNat = (64 : UInt8).toNat from h)]⟩
      by_cases k64 : Hd[0]? = some 64
      · rw [if_pos k64]
        have k64' : bN (S Hd) 0 = 64 := hb0.1 k64
        have d64 : ((bN (S Hd) 0 : Int) == 64) = true := by simp; omega
        have hd1 : (Hd.drop 1).length ≤ Hd.length := by simp
        have hex1 : (S Hd).extract 1 Hd.length = S (Hd.drop 1) := by rw [← hsz, ← S_L ((S Hd).extract 1 (S Hd).size), ext_tail, L_S]
        have hpos : 1 ≤ Hd.length := List.length_pos_iff.2 kh
        have hu := until_le 58 (Hd.drop 1)
        have HUt := hide (fun w => refUntil_any (S (Hd.drop 1)) 58 w (by rw [S_size]; omega))
        rw [L_S] at HUt
        generalize Hd.drop 1 = T1 at *
        generalize untilB 58 T1 = U at *
        obtain ⟨U1, U2, U3⟩ := U
        simp only [] at hu HUt ⊢
        have HNm := hide (fun w => refNamed_any (S U1) w (by rw [S_size]; omega))
        rw [L_S] at HNm
        have HFd := hide (fun w => refFields_any (S U2) w (by rw [S_size]; omega))
        rw [L_S] at HFd
        clear hb0 k64
        cases U3 with
        | false =>
          rw [Bool.false_and, if_neg (by simp)]
          go_enter Tryz.func65, Tryz.ntmps65
          go_wp2_with fail
          refine (unhide HK _).mono ?_
          rintro e w1 ⟨rfl, hb1⟩
          have H1 := hide (unhide HB0 w1 hb1)
          clear hb1
          go_wp2_with fail
          refine (unhide HP _).mono ?_
          rintro e w2 ⟨rfl, hb2⟩
          obtain ⟨g4, g8, hB2, hlt⟩ := unhide START w1 (unhide H1) w2 hb2
          clear hb2
          generalize w1.heap.size = b8 at *
          obtain ⟨c0, c1, c2, c3, c4, f0, f1, f2, f3, f4⟩ := box5 g4
          obtain ⟨e0, e1, e2, e3, e4, x0, x1, x2, x3, x4⟩ := box5 g8
          have G4 := hide g4
          have G8 := hide g8
          clear g4 g8
          have hne : w.heap.size ≠ b8 := by omega
          have hne' : b8 ≠ w.heap.size := by omega
          go_wp2_with fail
          refine (unhide HUt _).mono ?_
          rintro e w3 ⟨rfl, hb3⟩
          have g4 := blkB (unhide G4) hb3
          have g8 := blkB (unhide G8) hb3
          have hBz := hB2.trans (hb3.mono hB2.size)
          clear hb3 G4 G8 hB2 c0 c1 c2 c3 c4 f0 f1 f2 f3 f4 e0 e1 e2 e3 e4 x0 x1 x2 x3 x4
          obtain ⟨c0, c1, c2, c3, c4, f0, f1, f2, f3, f4⟩ := box5 g4
          obtain ⟨e0, e1, e2, e3, e4, x0, x1, x2, x3, x4⟩ := box5 g8
          have G5 := hide g4
          have G6 := hide g8
          clear g4 g8
          go_wp2
          obtain ⟨W5, hW5, hb5, hB5, hr5, -, -⟩ := set5 (unhide G5) (.int .i64 0) (.int .u8 0) (.string ⟨#[]⟩) (.slice none 0 0) (.string ⟨#[]⟩)
          rw [hW5]
          refine bodyPost_ret (results_line rfl _ _ _ _ _ _ _ _ rfl hb5) rfl ?_
          exact ⟨.slice none 0 0, rfl, World.ownsRow_nil _ _ _ _, hB5 _ _ hBz (Nat.le_refl _)⟩
        | true =>
          cases hnm : namedB U1 with
          | false =>
            rw [hnm] at HNm
            rw [Bool.true_and, if_neg (by simp)]
            go_enter Tryz.func65, Tryz.ntmps65
            go_wp2_with fail
            refine (unhide HK _).mono ?_
            rintro e w1 ⟨rfl, hb1⟩
            have H1 := hide (unhide HB0 w1 hb1)
            clear hb1
            go_wp2_with fail
            refine (unhide HP _).mono ?_
            rintro e w2 ⟨rfl, hb2⟩
            obtain ⟨g4, g8, hB2, hlt⟩ := unhide START w1 (unhide H1) w2 hb2
            clear hb2
            generalize w1.heap.size = b8 at *
            obtain ⟨c0, c1, c2, c3, c4, f0, f1, f2, f3, f4⟩ := box5 g4
            obtain ⟨e0, e1, e2, e3, e4, x0, x1, x2, x3, x4⟩ := box5 g8
            have G4 := hide g4
            have G8 := hide g8
            clear g4 g8
            have hne : w.heap.size ≠ b8 := by omega
            have hne' : b8 ≠ w.heap.size := by omega
            go_wp2_with fail
            refine (unhide HUt _).mono ?_
            rintro e w3 ⟨rfl, hb3⟩
            have g4 := blkB (unhide G4) hb3
            have g8 := blkB (unhide G8) hb3
            have hBz := hB2.trans (hb3.mono hB2.size)
            clear hb3 G4 G8 hB2 c0 c1 c2 c3 c4 f0 f1 f2 f3 f4 e0 e1 e2 e3 e4 x0 x1 x2 x3 x4
            obtain ⟨c0, c1, c2, c3, c4, f0, f1, f2, f3, f4⟩ := box5 g4
            obtain ⟨e0, e1, e2, e3, e4, x0, x1, x2, x3, x4⟩ := box5 g8
            have G5 := hide g4
            have G6 := hide g8
            clear g4 g8
            go_wp2_with fail
            refine (unhide HNm _).mono ?_
            rintro e w4 ⟨rfl, rfl⟩
            go_wp2
            obtain ⟨W5, hW5, hb5, hB5, hr5, -, -⟩ := set5 (unhide G5) (.int .i64 0) (.int .u8 0) (.string ⟨#[]⟩) (.slice none 0 0) (.string ⟨#[]⟩)
            rw [hW5]
            refine bodyPost_ret (results_line rfl _ _ _ _ _ _ _ _ rfl hb5) rfl ?_
            exact ⟨.slice none 0 0, rfl, World.ownsRow_nil _ _ _ _, hB5 _ _ hBz (Nat.le_refl _)⟩
          | true =>
            rw [hnm] at HNm
            rw [Bool.true_and, if_pos rfl]
            go_enter Tryz.func65, Tryz.ntmps65
            go_wp2_with fail
            refine (unhide HK _).mono ?_
            rintro e w1 ⟨rfl, hb1⟩
            have H1 := hide (unhide HB0 w1 hb1)
            clear hb1
            go_wp2_with fail
            refine (unhide HP _).mono ?_
            rintro e w2 ⟨rfl, hb2⟩
            obtain ⟨g4, g8, hB2, hlt⟩ := unhide START w1 (unhide H1) w2 hb2
            clear hb2
            generalize w1.heap.size = b8 at *
            obtain ⟨c0, c1, c2, c3, c4, f0, f1, f2, f3, f4⟩ := box5 g4
            obtain ⟨e0, e1, e2, e3, e4, x0, x1, x2, x3, x4⟩ := box5 g8
            have G4 := hide g4
            have G8 := hide g8
            clear g4 g8
            have hne : w.heap.size ≠ b8 := by omega
            have hne' : b8 ≠ w.heap.size := by omega
            go_wp2_with fail
            refine (unhide HUt _).mono ?_
            rintro e w3 ⟨rfl, hb3⟩
            have g4 := blkB (unhide G4) hb3
            have g8 := blkB (unhide G8) hb3
            have hBz := hB2.trans (hb3.mono hB2.size)
            clear hb3 G4 G8 hB2 c0 c1 c2 c3 c4 f0 f1 f2 f3 f4 e0 e1 e2 e3 e4 x0 x1 x2 x3 x4
            obtain ⟨c0, c1, c2, c3, c4, f0, f1, f2, f3, f4⟩ := box5 g4
            obtain ⟨e0, e1, e2, e3, e4, x0, x1, x2, x3, x4⟩ := box5 g8
            have G5 := hide g4
            have G6 := hide g8
            clear g4 g8
            go_wp2_with fail
            refine (unhide HNm _).mono ?_
            rintro e w4 ⟨rfl, rfl⟩
            obtain ⟨V, hV, hV3⟩ := name_set (.string (S U1)) (unhide G5) (unhide G6) hne hBz (by omega)
            have HV := hide hV
            have HV3 := hide hV3
            clear hV hV3
            go_wp2_with fail
            rw [unhide HV]
            refine (unhide HFd V).mono ?_
            rintro e w3 ⟨v, rfl, hrow, hb3⟩
            obtain ⟨g4, g8, hB3, hlt3, hsz3⟩ := unhide HV3 w3 hb3
            clear hb3 HV HV3 G5 G6 c0 c1 c2 c3 c4 f0 f1 f2 f3 f4 e0 e1 e2 e3 e4 x0 x1 x2 x3 x4
            obtain ⟨c0, c1, c2, c3, c4, f0, f1, f2, f3, f4⟩ := box5 g4
            obtain ⟨e0, e1, e2, e3, e4, x0, x1, x2, x3, x4⟩ := box5 g8
            obtain ⟨a, c, rfl⟩ := row_slice2 hrow
            have G4 := hide g4
            have HR := hide hrow
            clear g4 g8 hrow
            go_wp2
            obtain ⟨W5, hW5, hb5, hB5, hr5, -, -⟩ := set5 (set_other (off := 4) (v := .string (S Nt)) (set_other (off := 3) (v := .slice a (fieldsB U2).length c) (unhide G4) hne) hne) (.int .i64 no) (.int .u8 2) (.string (S U1)) (.slice a (fieldsB U2).length c) (.string (S Nt))
            rw [hW5]
            refine bodyPost_ret (results_line rfl _ _ _ _ _ _ _ _ rfl hb5) rfl ?_
            exact ⟨_, rfl, row_base (hr5 _ _ _ _ _ _ (row_set (row_set (unhide HR) hlt3 _) hlt3 _) (by omega)) (by omega), hB5 _ _ ((hB3.setCell (p := ⟨b8, 3, none⟩) (by show _ ≤ b8; omega) _).setCell (p := ⟨b8, 4, none⟩) (by show _ ≤ b8; omega) _) (Nat.le_refl _)⟩
      · rw [if_neg k64]
        have k64' : ¬ bN (S Hd) 0 = 64 := fun h => k64 (hb0.2 h)
        have d64 : ((bN (S Hd) 0 : Int) == 64) = false := by simp; omega
        have HFd := hide (fun w => refFields_any (S Hd) w (by omega))
        rw [L_S] at HFd
        clear hb0 k64 k64'
        go_enter Tryz.func65, Tryz.ntmps65
        go_wp2_with fail
        refine (unhide HK _).mono ?_
        rintro e w1 ⟨rfl, hb1⟩
        have H1 := hide (unhide HB0 w1 hb1)
        clear hb1
        go_wp2_with fail
        refine (unhide HP _).mono ?_
        rintro e w2 ⟨rfl, hb2⟩
        obtain ⟨g4, g8, hB2, hlt⟩ := unhide START w1 (unhide H1) w2 hb2
        clear hb2
        generalize w1.heap.size = b8 at *
        obtain ⟨c0, c1, c2, c3, c4, f0, f1, f2, f3, f4⟩ := box5 g4
        obtain ⟨e0, e1, e2, e3, e4, x0, x1, x2, x3, x4⟩ := box5 g8
        have G4 := hide g4
        have G8 := hide g8
        clear g4 g8
        have hne : w.heap.size ≠ b8 := by omega
        have hne' : b8 ≠ w.heap.size := by omega
        obtain ⟨V, hV, hV3⟩ := kind_set 1 (unhide G4) (unhide G8) hne hB2 (by omega)
        have HV := hide hV
        have HV3 := hide hV3
        clear hV hV3
        go_wp2_with fail
        rw [unhide HV]
        refine (unhide HFd V).mono ?_
        rintro e w3 ⟨v, rfl, hrow, hb3⟩
        obtain ⟨g4, g8, hB3, hlt3, hsz3⟩ := unhide HV3 w3 hb3
        clear hb3 HV HV3 G4 G8 c0 c1 c2 c3 c4 f0 f1 f2 f3 f4 e0 e1 e2 e3 e4 x0 x1 x2 x3 x4
        obtain ⟨c0, c1, c2, c3, c4, f0, f1, f2, f3, f4⟩ := box5 g4
        obtain ⟨e0, e1, e2, e3, e4, x0, x1, x2, x3, x4⟩ := box5 g8
        obtain ⟨a, c, rfl⟩ := row_slice2 hrow
        have G4 := hide g4
        have HR := hide hrow
        clear g4 g8 hrow
        go_wp2
        obtain ⟨W5, hW5, hb5, hB5, hr5, -, -⟩ := set5 (set_other (off := 4) (v := .string (S Nt)) (set_other (off := 3) (v := .slice a (fieldsB Hd).length c) (unhide G4) hne) hne) (.int .i64 no) (.int .u8 1) (.string ⟨#[]⟩) (.slice a (fieldsB Hd).length c) (.string (S Nt))
        rw [hW5]
        refine bodyPost_ret (results_line rfl _ _ _ _ _ _ _ _ rfl hb5) rfl ?_
        exact ⟨_, rfl, row_base (hr5 _ _ _ _ _ _ (row_set (row_set (unhide HR) hlt3 _) hlt3 _) (by omega)) (by omega), hB5 _ _ ((hB3.setCell (p := ⟨b8, 3, none⟩) (by show _ ≤ b8; omega) _).setCell (p := ⟨b8, 4, none⟩) (by show _ ≤ b8; omega) _) (Nat.le_refl _)⟩

end Go.Proofs.YtnabbahdmajfpaaGreatDoor
