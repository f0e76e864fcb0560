/-
  The fields of a row's line, read one by one: all but what a character is made of.
-/
import Derived.Test.YthjnkagepooeiaaGreatDoorRwF
namespace Go.Proofs.YthjnkagepooeiaaGreatDoor
open Go.RowKit Go.PlainAid Go.Lib Go.PHexM
set_option linter.unusedVariables false
set_option linter.unusedSimpArgs false

/-- how a field's reading ends -/
def ReadPost (b : Nat) (r : RowD) (a : Nat) (f : List UInt8) (w : World) (e : Ending) (w' : World) : Prop := e = .returned (.int .i64 (cellP a f r).2) ∧ RBox w' b (cellP a f r).1 ∧ But b w w'
theorem readPost_of {b : Nat} {r : RowD} {a : Nat} {f : List UInt8} {w w' : World} {c : Int} {r' : RowD} (hc : cellP a f r = (r', c)) (hb : RBox w' b r') (hm : But b w w') : ReadPost b r a f w (.returned (.int .i64 c)) w' := by
  unfold ReadPost; rw [hc]; exact ⟨rfl, hb, hm⟩

theorem readPoint_any (b : Nat) (r : RowD) (f : List UInt8) (w : World) (h : RBox w b r) :
    Calls Tryz.prog 55 #[.pointer (some ⟨b, 0, none⟩), .string (S f)] w (ReadPost b r 0 f w) := by
  have HX := hide (hex_any (S f) w)
  have c1 := h.cell (j := 1) rfl
  have c2 := h.cell (j := 2) rfl
  have f1 := h.frozen 1
  have f2 := h.frozen 2
  obtain ⟨n, k, hn, hcell⟩ : ∃ n k : Int, hexV (S f).data.toList = .tuple #[.int .i32 n, .int .i64 k] ∧ cellP 0 f r = ({ r with first := n, last := n }, k) := by
    cases hx : hexP f with
    | none => exact ⟨0, 40, hexV_none hx, by simp [cellP, hx]⟩
    | some m => exact ⟨m, 0, hexV_some hx, by simp [cellP, hx]⟩
  rw [hn] at HX
  have HC := hide hcell
  have HB := hide h
  clear hn hcell h
  go_enter Tryz.func55, Tryz.ntmps55
  go_wp2_with (go_at_call 83; refine (unhide HX).mono ?_; rintro e w' ⟨rfl, rfl⟩)
  go_ret
  exact readPost_of (unhide HC) (((unhide HB).set (r' := { r with first := n }) 1 _ rfl).set (r' := { r with first := n, last := n }) 2 _ rfl) ((But.set _).trans (But.set _))

theorem readFlag_any (b : Nat) (r : RowD) (f : List UInt8) (w : World) (h : RBox w b r) :
    Calls Tryz.prog 61 #[.pointer (some ⟨b, 0, none⟩), .string (S f)] w (ReadPost b r 9 f w) := by
  have c8 := h.cell (j := 8) rfl
  have f8 := h.frozen 8
  by_cases h1 : f = [89]
  · subst h1
    have HB := hide h
    clear h
    go_enter Tryz.func61, Tryz.ntmps61
    go_wp2
    go_ret
    exact readPost_of rfl ((unhide HB).set 8 _ rfl) (But.set _)
  · by_cases h2 : f = [78]
    · subst h2
      have HB := hide h
      clear h
      go_enter Tryz.func61, Tryz.ntmps61
      go_wp2
      go_ret
      exact readPost_of rfl ((unhide HB).set 8 _ rfl) (But.set _)
    · have HB := hide h
      have e1 : (f != [89]) = true := by simpa using h1
      have e2 : (f != [78]) = true := by simpa using h2
      have e3 : (f == [89]) = false := by simpa using h1
      have e4 : (f == [78]) = false := by simpa using h2
      have HC : Hid (cellP 9 f r = (r, 66)) := by show _ = _; simp [cellP, flagB, h1, h2]
      clear h h1 h2
      go_enter Tryz.func61, Tryz.ntmps61
      go_wp2
      go_ret
      exact readPost_of (unhide HC) (unhide HB) (But.of_below (Below.refl _ _))

theorem below_iter (w : World) (s : ByteArray) (pos : Nat) : Below w.heap.size w (w.iter s pos) := by unfold World.iter; exact (Below.refl _ w).alloc (Nat.le_refl _) _
theorem readName_any (b : Nat) (r : RowD) (f : List UInt8) (w : World) (h : RBox w b r) (hf : f.length ≤ 1073741824) :
    Calls Tryz.prog 56 #[.pointer (some ⟨b, 0, none⟩), .string (S f)] w (ReadPost b r 1 f w) := by
  have HX := hide (Tryz.utf8_RuneCountInString (S f) w (by have := S_size f; omega))
  have HB := hide h
  obtain ⟨n, hn⟩ : ∃ n, runeCount (S f) = n := ⟨_, rfl⟩
  rw [hn] at HX
  have HN := hide hn
  clear h hn
  by_cases h1 : n < 1
  · have h1' : (n : Int) < 1 := by omega
    have HC : Hid (cellP 1 f r = (r, 61)) := by
      show _ = _
      have := unhide HN
      unfold cellP nameOk; rw [this]; simp; omega
    clear HN h1
    go_enter Tryz.func56, Tryz.ntmps56
    go_wp2_with (go_at_call 84; refine (unhide HX).mono ?_; rintro e w' ⟨rfl, pos, hw⟩; have hb : Below w.heap.size w w' := (by rw [hw]; exact below_iter _ _ _); clear hw)
    go_ret
    exact readPost_of (unhide HC) ((unhide HB).below hb) (But.of_below hb)
  · by_cases h2 : 256 < n
    · have h1' : ¬ (n : Int) < 1 := by omega
      have h2' : (256 : Int) < (n : Int) := by omega
      have HC : Hid (cellP 1 f r = (r, 61)) := by
        show _ = _
        have := unhide HN
        unfold cellP nameOk; rw [this]; simp; omega
      clear HN h1 h2
      go_enter Tryz.func56, Tryz.ntmps56
      go_wp2_with (go_at_call 84; refine (unhide HX).mono ?_; rintro e w' ⟨rfl, pos, hw⟩; have hb : Below w.heap.size w w' := (by rw [hw]; exact below_iter _ _ _); clear hw)
      go_ret
      exact readPost_of (unhide HC) ((unhide HB).below hb) (But.of_below hb)
    · have h1' : ¬ (n : Int) < 1 := by omega
      have h2' : ¬ (256 : Int) < (n : Int) := by omega
      have HC : Hid (cellP 1 f r = ({ r with name := f }, 0)) := by
        show _ = _
        have := unhide HN
        unfold cellP nameOk; rw [this]; simp; omega
      clear HN h1 h2
      go_enter Tryz.func56, Tryz.ntmps56
      go_wp2_with (go_at_call 84; refine (unhide HX).mono ?_; rintro e w' ⟨rfl, pos, hw⟩; have hb : Below w.heap.size w w' := (by rw [hw]; exact below_iter _ _ _); clear hw; have hB1 := (unhide HB).below hb; have c3 := hB1.cell (j := 3) rfl; have f3 := hB1.frozen 3; have HB1 := hide hB1; clear hB1)
      go_ret
      exact readPost_of (unhide HC) ((unhide HB1).set 3 _ rfl) ((But.of_below hb).trans (But.set _))

theorem readClass_any (b : Nat) (r : RowD) (f : List UInt8) (w : World) (h : RBox w b r) (hf : f.length ≤ 1073741824) :
    Calls Tryz.prog 59 #[.pointer (some ⟨b, 0, none⟩), .string (S f)] w (ReadPost b r 4 f w) := by
  have HX := hide (class_any (S f) w (by have := S_size f; omega))
  have HB := hide h
  obtain ⟨c, hc⟩ : ∃ c, classN (looseB (S f)) = c := ⟨_, rfl⟩
  rw [hc] at HX
  have hP : clsP f = if shortS c = S f then c else 0 := by unfold clsP; rw [hc]
  clear h hc
  by_cases h0 : c = 0
  · subst h0
    have HC : Hid (cellP 4 f r = (r, 50)) := by show _ = _; unfold cellP; rw [hP]; simp
    clear hP
    have e0 : noneE 0 = 50 := rfl
    rw [e0] at HX
    go_enter Tryz.func59, Tryz.ntmps59
    go_wp2_with (go_at_call 87; refine (unhide HX).mono ?_; rintro e w' ⟨rfl, hb⟩)
    go_ret
    exact readPost_of (unhide HC) ((unhide HB).below hb) (But.of_below hb)
  · have e0 : noneE c = 0 := by unfold noneE; rw [if_neg h0]
    rw [e0] at HX
    have HS := hide (fun w => shortW_any c w)
    have hst := Go.Switch.str_test (shortS c) (S f)
    by_cases h1 : shortS c = S f
    · have HC : Hid (cellP 4 f r = ({ r with cls := c }, 0)) := by show _ = _; unfold cellP; rw [hP, if_pos h1]; simp [h0]
      rw [h1] at HS
      clear hP h1 hst h0 e0
      go_enter Tryz.func59, Tryz.ntmps59
      go_wp2_with (first | (go_at_call 87; refine (unhide HX).mono ?_; rintro e w' ⟨rfl, hb⟩; have hB1 := (unhide HB).below hb; have c6 := hB1.cell (j := 6) rfl; have f6 := hB1.frozen 6; have HB1 := hide hB1; clear hB1) | (go_at_call 88; refine (unhide HS _).mono ?_; rintro e w2 ⟨rfl, rfl⟩))
      go_ret
      exact readPost_of (unhide HC) ((unhide HB1).set 6 _ rfl) ((But.of_below hb).trans (But.set _))
    · have HC : Hid (cellP 4 f r = (r, 50)) := by show _ = _; unfold cellP; rw [hP, if_neg h1]; simp
      have hne : ((shortS c).toList == f) = false := by
        rw [decide_eq_false h1, Go.Lib.toList_data (S f)] at hst
        exact hst
      clear hP h1 hst h0 e0
      generalize shortS c = T at *
      go_enter Tryz.func59, Tryz.ntmps59
      go_wp2_with (first | (go_at_call 87; refine (unhide HX).mono ?_; rintro e w' ⟨rfl, hb⟩) | (go_at_call 88; refine (unhide HS _).mono ?_; rintro e w2 ⟨rfl, rfl⟩))
      go_ret
      exact readPost_of (unhide HC) ((unhide HB).below hb) (But.of_below hb)

theorem readCategory_any (b : Nat) (r : RowD) (f : List UInt8) (w : World) (h : RBox w b r) :
    Calls Tryz.prog 57 #[.pointer (some ⟨b, 0, none⟩), .string (S f)] w (ReadPost b r 2 f w) := by
  have c4 := h.cell (j := 4) rfl
  have f4 := h.frozen 4
  have HB := hide h
  clear h
  by_cases hl : f.length = 2
  · obtain ⟨x, y, rfl⟩ : ∃ x y, f = [x, y] := by
      match f, hl with
      | [x, y], _ => exact ⟨x, y, rfl⟩
    clear hl
    have g0 : ∀ h : 0 < (S [x, y]).size, (S [x, y])[0]'h = x := fun _ => rfl
    have g1 : ∀ h : 1 < (S [x, y]).size, (S [x, y])[1]'h = y := fun _ => rfl
    have hP : cellP 2 [x, y] r = if (decide (65 ≤ x.toNat) && decide (x.toNat ≤ 90) && decide (97 ≤ y.toNat) && decide (y.toNat ≤ 122)) = true then ({ r with cat := [x, y] }, 0) else (r, 63) := rfl
    by_cases a1 : x.toNat < 65
    · have a1' : (x.toNat : Int) < 65 := by omega
      have HC : Hid (cellP 2 [x, y] r = (r, 63)) := by show _ = _; rw [hP, if_neg (by simp; omega)]
      clear hP a1
      go_enter Tryz.func57, Tryz.ntmps57
      go_wp2
      go_ret
      exact readPost_of (unhide HC) (unhide HB) (But.of_below (Below.refl _ _))
    by_cases a2 : 90 < x.toNat
    · have a1' : ¬ (x.toNat : Int) < 65 := by omega
      have a2' : (90 : Int) < (x.toNat : Int) := by omega
      have HC : Hid (cellP 2 [x, y] r = (r, 63)) := by show _ = _; rw [hP, if_neg (by simp; omega)]
      clear hP a1 a2
      go_enter Tryz.func57, Tryz.ntmps57
      go_wp2
      go_ret
      exact readPost_of (unhide HC) (unhide HB) (But.of_below (Below.refl _ _))
    by_cases a3 : y.toNat < 97
    · have a1' : ¬ (x.toNat : Int) < 65 := by omega
      have a2' : ¬ (90 : Int) < (x.toNat : Int) := by omega
      have a3' : (y.toNat : Int) < 97 := by omega
      have HC : Hid (cellP 2 [x, y] r = (r, 63)) := by show _ = _; rw [hP, if_neg (by simp; omega)]
      clear hP a1 a2 a3
      go_enter Tryz.func57, Tryz.ntmps57
      go_wp2
      go_ret
      exact readPost_of (unhide HC) (unhide HB) (But.of_below (Below.refl _ _))
    by_cases a4 : 122 < y.toNat
    · have a1' : ¬ (x.toNat : Int) < 65 := by omega
      have a2' : ¬ (90 : Int) < (x.toNat : Int) := by omega
      have a3' : ¬ (y.toNat : Int) < 97 := by omega
      have a4' : (122 : Int) < (y.toNat : Int) := by omega
      have HC : Hid (cellP 2 [x, y] r = (r, 63)) := by show _ = _; rw [hP, if_neg (by simp; omega)]
      clear hP a1 a2 a3 a4
      go_enter Tryz.func57, Tryz.ntmps57
      go_wp2
      go_ret
      exact readPost_of (unhide HC) (unhide HB) (But.of_below (Below.refl _ _))
    · have a1' : ¬ (x.toNat : Int) < 65 := by omega
      have a2' : ¬ (90 : Int) < (x.toNat : Int) := by omega
      have a3' : ¬ (y.toNat : Int) < 97 := by omega
      have a4' : ¬ (122 : Int) < (y.toNat : Int) := by omega
      have HC : Hid (cellP 2 [x, y] r = ({ r with cat := [x, y] }, 0)) := by show _ = _; rw [hP, if_pos (by simp; omega)]
      clear hP a1 a2 a3 a4
      go_enter Tryz.func57, Tryz.ntmps57
      go_wp2
      go_ret
      exact readPost_of (unhide HC) ((unhide HB).set 4 _ rfl) (But.set _)
  · have hl' : ((f.length : Int) != 2) = true := by simp; omega
    have HC : Hid (cellP 2 f r = (r, 63)) := by
      show _ = _
      have : catB f = false := by
        match f, hl with
        | [], _ => rfl
        | [x], _ => rfl
        | x :: y :: z :: l, _ => rfl
      simp [cellP, this]
    clear hl
    go_enter Tryz.func57, Tryz.ntmps57
    go_wp2
    go_ret
    exact readPost_of (unhide HC) (unhide HB) (But.of_below (Below.refl _ _))
end Go.Proofs.YthjnkagepooeiaaGreatDoor
