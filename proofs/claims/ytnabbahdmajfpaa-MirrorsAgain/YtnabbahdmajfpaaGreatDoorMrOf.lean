/-
  Of of package mirrors, and the document's Of, for every list.
-/
import Derived.Test.YtnabbahdmajfpaaGreatDoorMrC
namespace Go.Proofs.YtnabbahdmajfpaaGreatDoor
open Go.RowKit Go.PlainAid Go.Maps
set_option linter.unusedVariables false
set_option linter.unusedSimpArgs false

theorem drop_atM {l : List MirD} {i : Nat} {x : MirD} (hx : l[i]? = some x) : l.drop i = x :: l.drop (i + 1) := by
  have hil := (List.getElem?_eq_some_iff.1 hx).1
  rw [List.drop_eq_getElem_cons hil]
  congr 1
  exact (List.getElem?_eq_some_iff.1 hx).2
set_option maxRecDepth 100000 in
set_option maxHeartbeats 2000000 in
theorem of9_any (l : List MirD) (a : Option Addr) (n c : Nat) (r : Int) (w : World) (hn : l.length = n) (hnb : n ≤ 1099511627776) (hm : MrMem w a l) :
    Calls Tryz.prog 27 #[.slice a n c, .int .i32 r] w fun e w' => e = .returned (.tuple #[.int .i32 ((ofM l r).getD r), .bool (ofM l r).isSome]) ∧ Below w.heap.size w w' := by
  have HN := hideM hn
  have HM := hideM hm
  clear hn hm
  go_enter Tryz.func27, Tryz.ntmps27
  go_wp2
  go_loopw [10] (fun v10 wr => ∃ i : Nat, v10 = .int .i64 i ∧ i ≤ n ∧ Hid (ofM l r = ofM (l.drop i) r) ∧ Below w.heap.size w wr) (fun v10 _ => n - (RowKit.intOf v10).toNat)
  case atStart => exact ⟨0, rfl, Nat.zero_le _, by show _ = _; simp, Below.refl _ _⟩
  case round =>
    obtain ⟨i, rfl, hi, HF, hB⟩ := hrel
    by_cases hlt : i < n
    · obtain ⟨x, hx⟩ : ∃ x, l[i]? = some x := ⟨_, List.getElem?_eq_getElem (by rw [unhideM HN]; exact hlt)⟩
      obtain ⟨g, off, rfl, hc⟩ := ((unhideM HM).below hB) i x hx
      have cx0 := hc 0 _ rfl
      have cx1 := hc 1 _ rfl
      have cx2 := hc 2 _ rfl
      have cx3 := hc 3 _ rfl
      simp only [Nat.add_zero] at cx0
      have hlt' : (i : Int) < (n : Int) := by omega
      have hq1 : IntKind.i64.wrap ((i : Int) + 1) = (i : Int) + 1 := by rw [IntKind.wrap_i64]; omega
      have hfe := unhideM HF
      rw [drop_atM hx, of_cons] at hfe
      obtain ⟨V, hV⟩ : ∃ V, wr.alloc (.cells #[.int .i64 x.line, .int .i32 x.frm, .int .i32 x.to, .bool x.best] 27) = V := ⟨_, rfl⟩
      have hVb : Below wr.heap.size wr V := by rw [← hV]; exact (Below.refl _ wr).alloc (Nat.le_refl _) _
      have vM : V.heap[wr.heap.size]? = some (.cells #[.int .i64 x.line, .int .i32 x.frm, .int .i32 x.to, .bool x.best] 27 (0, 0)) := by rw [← hV]; exact heap_alloc_new wr _
      obtain ⟨v0, v1, v2, v3⟩ := MBox.cells vM
      have hbw : Below w.heap.size w V := hB.trans (hVb.mono hB.size)
      by_cases hr : x.frm = r
      · rw [if_pos hr] at hfe
        have HFF := hideM hfe
        have d1 : (x.frm == r) = true := by simpa using hr
        clear hc hx HF hfe hB hVb vM hr
        go_wp2
        go_ret2
        exact ⟨by rw [unhideM HFF]; rfl, hbw⟩
      · rw [if_neg hr] at hfe
        have HFF := hideM hfe
        have d1 : (x.frm == r) = false := by simpa using hr
        clear hc hx HF hfe hB hVb vM hr
        go_wp2
        go_roundw
        case rel => exact ⟨i + 1, by go_num, by omega, HFF, hbw⟩
        case measure => simp [RowKit.intOf]; omega
    · obtain rfl : i = n := by omega
      have hF' := unhideM HF
      rw [List.drop_eq_nil_of_le (by rw [unhideM HN]; exact Nat.le_refl _)] at hF'
      have HFF : Hid (ofM l r = none) := hF'
      clear hF' HF
      go_wp2
      go_ret2
      exact ⟨by rw [unhideM HFF]; rfl, hB⟩

set_option maxRecDepth 100000 in
set_option maxHeartbeats 2000000 in
theorem refOf_any (l : List MirD) (a : Option Addr) (n c : Nat) (r : Int) (w : World) (hn : l.length = n) (hnb : n ≤ 1099511627776) (hm : MrMem w a l) :
    Calls Tryz.prog 28 #[.slice a n c, .int .i32 r] w fun e w' => e = .returned (.tuple #[.int .i32 ((ofM l r).getD r), .bool (ofM l r).isSome]) ∧ w' = w := by
  have HN := hideM hn
  have HM := hideM hm
  clear hn hm
  go_enter Tryz.func28, Tryz.ntmps28
  go_wp2
  go_loopw [6] (fun v6 wr => ∃ i : Nat, v6 = .int .i64 i ∧ i ≤ n ∧ Hid (ofM l r = ofM (l.drop i) r) ∧ wr = w) (fun v6 _ => n - (RowKit.intOf v6).toNat)
  case atStart => exact ⟨0, rfl, Nat.zero_le _, by show _ = _; simp, rfl⟩
  case round =>
    obtain ⟨i, rfl, hi, HF, rfl⟩ := hrel
    by_cases hlt : i < n
    · obtain ⟨x, hx⟩ : ∃ x, l[i]? = some x := ⟨_, List.getElem?_eq_getElem (by rw [unhideM HN]; exact hlt)⟩
      obtain ⟨g, off, rfl, hc⟩ := (unhideM HM) i x hx
      have cx1 := hc 1 _ rfl
      have cx2 := hc 2 _ rfl
      have hlt' : (i : Int) < (n : Int) := by omega
      have hq1 : IntKind.i64.wrap ((i : Int) + 1) = (i : Int) + 1 := by rw [IntKind.wrap_i64]; omega
      have hfe := unhideM HF
      rw [drop_atM hx, of_cons] at hfe
      by_cases hr : x.frm = r
      · rw [if_pos hr] at hfe
        have HFF := hideM hfe
        have d1 : (x.frm == r) = true := by simpa using hr
        clear hc hx HF hfe hr
        go_wp2
        go_ret2
        exact ⟨by rw [unhideM HFF]; rfl, rfl⟩
      · rw [if_neg hr] at hfe
        have HFF := hideM hfe
        have d1 : (x.frm == r) = false := by simpa using hr
        clear hc hx HF hfe hr
        go_wp2
        go_roundw
        case rel => exact ⟨i + 1, by go_num, by omega, HFF, trivial⟩
        case measure => simp [RowKit.intOf]; omega
    · obtain rfl : i = n := by omega
      have hF' := unhideM HF
      rw [List.drop_eq_nil_of_le (by rw [unhideM HN]; exact Nat.le_refl _)] at hF'
      have HFF : Hid (ofM l r = none) := hF'
      clear hF' HF
      go_wp2
      go_ret2
      exact ⟨by rw [unhideM HFF]; rfl, rfl⟩
end Go.Proofs.YtnabbahdmajfpaaGreatDoor
