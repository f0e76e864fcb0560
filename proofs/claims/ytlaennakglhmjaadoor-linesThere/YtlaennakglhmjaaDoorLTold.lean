/-
  The law's sameTold (furrowlaw03): what was told is what the document's pieces are.
-/
import Derived.Test.YtlaennakglhmjaaDoorLAll
import Derived.Test.YtlaennakglhmjaaDoorRPieces
import Derived.BigQuiet
namespace Go.Proofs.YtlaennakglhmjaaDoor
open Go.RowKit Go.PlainAid Go.Lib Go.Shelf
set_option linter.unusedVariables false

def ToAt (w : World) (s : ByteArray) (a : Option Addr) (l : List (Nat × Nat × Nat)) : Prop := ∀ (i : Nat) (x : Nat × Nat × Nat), l[i]? = some x → ∃ g, a = some ⟨g, 0, none⟩ ∧ w.cell? ⟨g, i * 2, none⟩ = some (.int .i64 (x.1 : Nat)) ∧ w.cell? ⟨g, i * 2 + 1, none⟩ = some (.string (s.extract x.2.1 x.2.2))
def PiAt (w : World) (s : ByteArray) (a : Option Addr) (l : List (Nat × Nat × Nat)) : Prop := ∀ (i : Nat) (x : Nat × Nat × Nat), l[i]? = some x → ∃ g, a = some ⟨g, 0, none⟩ ∧ w.cell? ⟨g, i * 3, none⟩ = some (.int .i64 (x.2.1 : Nat)) ∧ w.cell? ⟨g, i * 3 + 1, none⟩ = some (.int .i64 (x.2.2 : Nat)) ∧ w.cell? ⟨g, i * 3 + 2, none⟩ = some (.int .i64 (endNext s x.2.1 : Nat))
theorem to_at (s : ByteArray) : ∀ (l : List (Nat × Nat × Nat)) (i : Nat) (x : Nat × Nat × Nat), l[i]? = some x → (toldCs s l)[i * 2]? = some (.int .i64 (x.1 : Nat)) ∧ (toldCs s l)[i * 2 + 1]? = some (.string (s.extract x.2.1 x.2.2)) := by
  intro l
  induction l with
  | nil => intro i x h; simp at h
  | cons y l ih =>
    intro i x h
    cases i with
    | zero =>
      obtain rfl : y = x := by simpa using h
      exact ⟨rfl, rfl⟩
    | succ i =>
      have := ih i x (by simpa using h)
      have e1 : (i + 1) * 2 = i * 2 + 1 + 1 := by omega
      rw [e1]
      exact this
theorem pi_at (s : ByteArray) : ∀ (l : List (Nat × Nat × Nat)) (i : Nat) (x : Nat × Nat × Nat), l[i]? = some x → (pieceCs s l)[i * 3]? = some (.int .i64 (x.2.1 : Nat)) ∧ (pieceCs s l)[i * 3 + 1]? = some (.int .i64 (x.2.2 : Nat)) ∧ (pieceCs s l)[i * 3 + 2]? = some (.int .i64 (endNext s x.2.1 : Nat)) := by
  intro l
  induction l with
  | nil => intro i x h; simp at h
  | cons y l ih =>
    intro i x h
    cases i with
    | zero =>
      obtain rfl : y = x := by simpa using h
      exact ⟨rfl, rfl, rfl⟩
    | succ i =>
      have := ih i x (by simpa using h)
      have e1 : (i + 1) * 3 = i * 3 + 1 + 1 + 1 := by omega
      rw [e1]
      exact this
theorem to_row {w : World} {base : Nat} {s : ByteArray} {v : Value} {n : Nat} {l : List (Nat × Nat × Nat)} (h : w.ownsRow base 31 2 v n (toldCs s l)) (hn : n = l.length) : ∃ a c, v = .slice a n c ∧ ToAt w s a l := by
  rcases h.2 with ⟨rfl, h0⟩ | ⟨g, cap, cur, rfl, _, hg, _⟩
  · refine ⟨none, 0, by rw [h0], fun i x hx => ?_⟩
    have := (List.getElem?_eq_some_iff.1 hx).1
    omega
  · refine ⟨_, _, rfl, fun i x hx => ⟨g, rfl, ?_, ?_⟩⟩ <;> have hi := (List.getElem?_eq_some_iff.1 hx).1
    · exact (h.cellAt _ (by omega)).trans (to_at s l i x hx).1
    · exact (h.cellAt _ (by omega)).trans (to_at s l i x hx).2
theorem pi_row {w : World} {base : Nat} {s : ByteArray} {v : Value} {l : List (Nat × Nat × Nat)} (h : w.ownsRow base 61 3 v l.length (pieceCs s l)) : ∃ a c, v = .slice a l.length c ∧ PiAt w s a l := by
  rcases h.2 with ⟨rfl, h0⟩ | ⟨g, cap, cur, rfl, _, hg, _⟩
  · refine ⟨none, 0, by rw [h0], fun i x hx => ?_⟩
    have := (List.getElem?_eq_some_iff.1 hx).1
    omega
  · refine ⟨_, _, rfl, fun i x hx => ⟨g, rfl, ?_, ?_, ?_⟩⟩ <;> have hi := (List.getElem?_eq_some_iff.1 hx).1
    · exact (h.cellAt _ (by omega)).trans (pi_at s l i x hx).1
    · exact (h.cellAt _ (by omega)).trans (pi_at s l i x hx).2.1
    · exact (h.cellAt _ (by omega)).trans (pi_at s l i x hx).2.2

set_option maxRecDepth 100000 in
set_option maxHeartbeats 2000000 in
theorem sameTold_yes (s : ByteArray) (a b : Option Addr) (n ca m cb : Nat) (w : World) (hs : s.size ≤ 1099511627776) (hn : n ≤ m) (hm : m = (linesL s).length) (ha : ToAt w s a ((linesL s).take n)) (hb : PiAt w s b (linesL s)) :
    Calls Tryd.prog 17 #[.slice a n ca, .string s, .slice b m cb, .int .i64 (n : Nat)] w fun e w' => e = .returned (.bool true) ∧ Below w.heap.size w w' := by
  have hll := lines_len s
  have HA := hide ha
  have HB := hide hb
  have HM := hide hm
  have hml : m ≤ s.size := by omega
  clear ha hb hm
  have hnn : ((n : Int) != (n : Int)) = false := by simp
  go_enter Tryd.func17, Tryd.ntmps17
  go_wp2
  go_loopw [9] (fun v9 wr => ∃ i k : Nat, i ≤ n ∧ v9 = .int .i64 i ∧ wr = w.drewN k) (fun v9 _ => n - (RowKit.intOf v9).toNat)
  case atStart => exact ⟨0, 0, Nat.zero_le _, rfl, rfl⟩
  case round =>
    obtain ⟨i, k, hi, rfl, rfl⟩ := hrel
    obtain ⟨WX, hWX⟩ : ∃ WX, w.drewN k = WX := ⟨_, rfl⟩
    by_cases hlt : i < n
    · obtain ⟨x, hx⟩ : ∃ x, (linesL s)[i]? = some x := ⟨_, List.getElem?_eq_getElem (by rw [← unhide HM]; omega)⟩
      have hx' : ((linesL s).take n)[i]? = some x := by rw [List.getElem?_take, if_pos hlt]; exact hx
      obtain ⟨g, rfl, p0, p1⟩ := unhide HA i x hx'
      obtain ⟨g', rfl, r0, r1, _⟩ := unhide HB i x hx
      have hno := lines_no s i x hx
      have hmem := lines_mem s x (List.mem_of_getElem? hx)
      obtain ⟨X, F, T⟩ := x
      simp only [] at p0 p1 r0 r1 hno hmem
      subst hno
      have q0 : WX.cell? ⟨g, i * 2, none⟩ = some (.int .i64 ((i : Int) + 1)) := by rw [← hWX]; exact p0
      have q1 : WX.cell? ⟨g, i * 2 + 1, none⟩ = some (.string (s.extract F T)) := by rw [← hWX]; exact p1
      have q2 : WX.cell? ⟨g', i * 3, none⟩ = some (.int .i64 (F : Nat)) := by rw [← hWX]; exact r0
      have q3 : WX.cell? ⟨g', i * 3 + 1, none⟩ = some (.int .i64 (T : Nat)) := by rw [← hWX]; exact r1
      have dn : ((i : Int) + 1 != (i : Int) + 1) = false := by simp
      have hFT : (F : Int) ≤ (T : Int) := by omega
      have hTs : (T : Int) ≤ (s.size : Int) := by omega
      rw [hWX]
      have HWX := hide hWX
      clear hWX p0 p1 r0 r1 hx hx'
      go_wp2
      go_quiet (fail)
      go_wp2
      go_roundw
      case rel => exact ⟨i + 1, k + nq, by omega, by go_num, by rw [← unhide HWX]; exact World.drewN_drewN _ _ _⟩
      case measure => simp [RowKit.intOf]; omega
    · rw [hWX]
      have HWX := hide hWX
      clear hWX
      obtain rfl : i = n := by omega
      go_wp2
      go_ret
      exact ⟨rfl, by rw [← unhide HWX]; exact below_drewN (Below.refl _ _) k⟩
end Go.Proofs.YtlaennakglhmjaaDoor
