/-
  The document's Check (furrowref03), for every line: the same as Check of package lines.
-/
import Derived.Test.YtlaennakglhmjaaGreatDoorRChars
namespace Go.Proofs.YtlaennakglhmjaaGreatDoor
open Go.RowKit Go.PlainAid Go.Lib Go.Shelf
set_option linter.unusedVariables false

theorem isB_iff (s : ByteArray) (i : Nat) (hi : i < s.size) : isB s i = !decide ((Utf8.decode s i).1 = 65533 ∧ (Utf8.decode s i).2 = 1) := by
  unfold isB
  rcases dec_why s i hi with ⟨_, x, n, h2, h3, h4, _⟩ | ⟨_, h⟩
  · rw [h2]
    by_cases hx : x = 65533
    · subst hx
      have : n = 3 := by have : bytesN ((65533 : Nat) : Int) = 3 := by decide
                         omega
      subst this; rfl
    · have h1 : ¬ (x = 65533 ∧ n = 1) := fun h => hx h.1
      rw [decide_eq_false h1, decide_eq_true (show (x, n).1 ≠ 65533 from hx)]; rfl
  · rw [h]; rfl
theorem plF_get (s : ByteArray) : ∀ (f i k : Nat), s.size - i ≤ f → ∀ x, (plF s i)[k]? = some x → x < s.size ∧ (plF s i).drop k = plF s x := by
  intro f
  induction f with
  | zero => intro i k h x hx; rw [plF_end s i (by omega)] at hx; simp at hx
  | succ f ih =>
    intro i k h x hx
    by_cases hi : i < s.size
    · have hb := dec_bounds s i hi
      cases k with
      | zero =>
        rw [plF_step s i hi] at hx
        obtain rfl : i = x := by simpa using hx
        exact ⟨hi, rfl⟩
      | succ k =>
        rw [plF_step s i hi] at hx ⊢
        exact ih _ k (by omega) x (by simpa using hx)
    · rw [plF_end s i hi] at hx; simp at hx
theorem chk_step (s : ByteArray) (k x : Nat) (hx : x < s.size) : chk s k (chars s x) = if k = 4096 then (k, 32) else if isB s x = false then (k, 30) else if ctrlB ((Utf8.decode s x).1 : Int) = true then (k, 31) else chk s (k + 1) (chars s (x + (Utf8.decode s x).2)) := by
  rw [chars_step s x hx, isB_iff s x hx]
  show (if k = 4096 then (k, 32) else if (Utf8.decode s x).1 = 65533 ∧ (Utf8.decode s x).2 = 1 then (k, 30) else if ctrlB ((Utf8.decode s x).1 : Int) = true then (k, 31) else chk s (k + 1) (chars s (x + (Utf8.decode s x).2))) = _
  by_cases h : (Utf8.decode s x).1 = 65533 ∧ (Utf8.decode s x).2 = 1
  · simp only [h, and_self, decide_true, Bool.not_true, if_true]
  · simp only [h, decide_false, Bool.not_false, if_false, Bool.true_eq_false]

set_option maxRecDepth 100000 in
set_option maxHeartbeats 2000000 in
theorem refCheck_any (s : ByteArray) (w : World) (hs : s.size ≤ 1099511627776) :
    Calls Tryz.prog 35 #[.string s] w fun e w' => e = .returned (.tuple #[.int .i64 ((chkS s).1 : Nat), .int .i64 (chkS s).2]) ∧ Below w.heap.size w w' := by
  have hcl := plF_len s
  obtain ⟨A, hA⟩ : ∃ A, chkS s = A := ⟨_, rfl⟩
  rw [hA]
  have HA : Hid (chk s 0 (chars s 0) = A) := hA
  clear hA
  have H2 := hide (fun w => refChars_any s w hs)
  go_enter Tryz.func35, Tryz.ntmps35
  go_wp2_with fail
  refine (unhide H2 _).mono ?_
  rintro e w1 ⟨v, rfl, hrow, hb1⟩
  obtain ⟨a, c, rfl, _, hat⟩ := cc_row hrow
  have HAT := hide hat
  clear hrow hat H2
  obtain ⟨N, hN⟩ : ∃ N, (plF s 0).length = N := ⟨_, rfl⟩
  rw [hN] at hcl
  rw [hN]
  have HN := hide hN
  clear hN
  go_wp2
  go_loopw [5] (fun v5 wr => ∃ k pos : Nat, v5 = .int .i64 (k : Nat) ∧ k ≤ N ∧ Hid ((plF s 0).drop k = plF s pos) ∧ Hid (chk s k (chars s pos) = A) ∧ wr = w1) (fun v5 _ => N - (RowKit.intOf v5).toNat)
  case atStart => exact ⟨0, 0, rfl, Nat.zero_le _, rfl, HA, rfl⟩
  case round =>
    obtain ⟨k, pos, rfl, hk, HD, HC, rfl⟩ := hrel
    by_cases hlt : k < N
    · obtain ⟨x, hx⟩ : ∃ x, (plF s 0)[k]? = some x := ⟨_, List.getElem?_eq_getElem (by rw [unhide HN]; exact hlt)⟩
      obtain ⟨hxs, hdr⟩ := plF_get s s.size 0 k (by omega) x hx
      have hpx : plF s pos = plF s x := HD.out.symm.trans hdr
      obtain rfl : pos = x := by
        have h1 : (plF s pos)[0]? = some x := by rw [hpx, plF_step s x hxs]; rfl
        rcases Nat.lt_or_ge pos s.size with h | h
        · rw [plF_step s pos h] at h1; simpa using h1
        · rw [plF_end s pos (by omega)] at h1; simp at h1
      obtain ⟨g, rfl, _, _, y2, y3⟩ := unhide HAT k pos hx
      have HC2 := hide ((chk_step s k pos hxs).symm.trans HC.out)
      have HD2 : Hid ((plF s 0).drop (k + 1) = plF s (pos + (Utf8.decode s pos).2)) := by
        show _ = _
        rw [← List.drop_drop, hdr, plF_step s pos hxs]; rfl
      clear hdr hpx hx HC HD
      generalize (Utf8.decode s pos).1 = R at *
      generalize (Utf8.decode s pos).2 = D at *
      generalize isB s pos = I at *
      by_cases k1 : k = 4096
      · have d1 : ((k : Int) == 4096) = true := by simp; omega
        have HE : Hid (A = (k, 32)) := by show _ = _; rw [← unhide HC2, if_pos k1]
        go_wp2
        go_ret2
        exact ⟨by rw [HE.out]; rfl, hb1⟩
      · have d1 : ((k : Int) == 4096) = false := by simp; omega
        cases I with
        | false =>
          have HE : Hid (A = (k, 30)) := by show _ = _; rw [← unhide HC2, if_neg k1, if_pos rfl]
          go_wp2
          go_ret2
          exact ⟨by rw [HE.out]; rfl, hb1⟩
        | true =>
          have HC3 := hide (unhide HC2)
          clear HC2
          by_cases c1 : R < 32
          · have d2 : decide ((R : Int) < 32) = true := decide_eq_true (by omega)
            have d2' : (R : Int) < 32 := by omega
            by_cases c2 : R = 9
            · have d3 : ((R : Int) != 9) = false := by simp; omega
              have d4 : ((R : Int) == 127) = false := by simp; omega
              have HE : Hid (chk s (k + 1) (chars s (pos + D)) = A) := by
                show _ = _
                rw [← unhide HC3, if_neg k1, if_neg (by simp), if_neg (by subst c2; decide)]
              go_wp2
              go_roundw
              case rel => exact ⟨k + 1, pos + D, by go_num, by omega, HD2, HE, trivial⟩
              case measure => simp [RowKit.intOf]; omega
            · have d3 : ((R : Int) != 9) = true := by simp; omega
              have HE : Hid (A = (k, 31)) := by
                show _ = _
                rw [← unhide HC3, if_neg k1, if_neg (by simp), if_pos]
                unfold ctrlB
                rw [d2, decide_eq_true (show (R : Int) ≠ 9 by omega)]; rfl
              go_wp2
              go_ret2
              exact ⟨by rw [HE.out]; rfl, hb1⟩
          · have d2 : decide ((R : Int) < 32) = false := decide_eq_false (by omega)
            have d2' : ¬ (R : Int) < 32 := by omega
            by_cases c2 : R = 127
            · have d3 : ((R : Int) == 127) = true := by simp; omega
              have HE : Hid (A = (k, 31)) := by
                show _ = _
                rw [← unhide HC3, if_neg k1, if_neg (by simp), if_pos (by subst c2; decide)]
              go_wp2
              go_ret2
              exact ⟨by rw [HE.out]; rfl, hb1⟩
            · have d3 : ((R : Int) == 127) = false := by simp; omega
              have HE : Hid (chk s (k + 1) (chars s (pos + D)) = A) := by
                show _ = _
                rw [← unhide HC3, if_neg k1, if_neg (by simp), if_neg]
                unfold ctrlB
                rw [d2, decide_eq_false (show ¬ (R : Int) = 127 by omega)]; simp
              go_wp2
              go_roundw
              case rel => exact ⟨k + 1, pos + D, by go_num, by omega, HD2, HE, trivial⟩
              case measure => simp [RowKit.intOf]; omega
    · obtain rfl : k = N := by omega
      have HE : Hid (A = (0, 0)) := by
        show _ = _
        have h1 := HD.out
        rw [List.drop_of_length_le (by rw [unhide HN]; exact Nat.le_refl _)] at h1
        have h2 : chars s pos = [] := by
          have := congrArg List.length h1
          unfold plF at this; simp only [List.length_nil, List.length_map] at this
          exact List.length_eq_zero_iff.1 this.symm
        have := HC.out
        rw [h2] at this; exact this.symm
      go_wp2
      go_ret2
      exact ⟨by rw [HE.out]; rfl, hb1⟩
end Go.Proofs.YtlaennakglhmjaaGreatDoor
