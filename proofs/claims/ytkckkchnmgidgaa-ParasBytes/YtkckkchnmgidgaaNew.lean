/-
  New of package utf: the places of a text, in memory of their own.
-/
import Derived.Test.YtkckkchnmgidgaaRunes
import Derived.RangeFuncBox
import Derived.Maps.AppendAt
namespace Go.Proofs.Ytkckkchnmgidgaa
open Go.RowKit Go.PlainAid Go.Lib
attribute [local go_sem] World.iter

theorem infoInt : (Try.prog.info? 3).map (fun i => (i.zero, i.size, i.bytes)) = some (some (.int .i64 0), 1, 8) := by kernel_rfl

/-- the values of the byte places of characters -/
def posVals (l : List (Nat × Nat)) : List Value := l.map fun p => .int .i64 (p.1 : Nat)
/-- what the places of a text keep: where each character begins, and the end -/
def startVals (s : ByteArray) : List Value := posVals (chars s 0) ++ [.int .i64 s.size]

theorem not_iter {w : World} {base : Nat} {e : TypeId} {size : Nat} {v : Value} {n : Nat} {xs : List Value} (h : w.ownsRow base e size v n xs) {k : Nat} {s : ByteArray} {p : Nat} (hk : w.heap[k]? = some (.stringIter s p)) : v.ownBlock ≠ some k := by
  intro e1
  rcases h.2 with ⟨rfl, _⟩ | ⟨g, cap, cur, rfl, _, hg, _⟩
  · simp [Value.ownBlock] at e1
  · simp [Value.ownBlock] at e1
    subst e1
    rw [hk] at hg; cases hg
theorem grownBy_iterAt (w : World) (k : Nat) (s : ByteArray) (p : Nat) : w.grownBy (w.iterAt k s p) (some k) :=
  ⟨rfl, rfl, rfl, by rw [iterAt_size]; exact Nat.le_refl _, fun j _ hj => iterAt_other w k j s p (fun e => hj (by rw [e]))⟩
theorem row_iterAt {w : World} {base : Nat} {e : TypeId} {size : Nat} {v : Value} {n : Nat} {xs : List Value} (h : w.ownsRow base e size v n xs) {k : Nat} {s : ByteArray} {p : Nat} (hk : w.heap[k]? = some (.stringIter s p)) (p' : Nat) : (w.iterAt k s p').ownsRow base e size v n xs :=
  h.kept (grownBy_iterAt w k s p') (.inr (not_iter h hk))
theorem own_base {w : World} {base : Nat} {e : TypeId} {size : Nat} {v : Value} {n : Nat} {xs : List Value} (h : w.ownsRow base e size v n xs) : ∀ k, v.ownBlock = some k → base ≤ k := fun k e1 => (h.lt k e1).1

theorem posVals_snoc (l : List (Nat × Nat)) (x : Nat × Nat) : posVals (l ++ [x]) = posVals l ++ [.int .i64 (x.1 : Nat)] := by simp [posVals]
/-- an iterator's block lies on behind an append to a row -/
theorem iter_grown {W w4 : World} {base : Nat} {e : TypeId} {size : Nat} {v : Value} {n : Nat} {xs : List Value} (h : W.ownsRow base e size v n xs) {tmp : Obj} (hg : (W.alloc tmp).grownBy w4 v.ownBlock) {k : Nat} {s : ByteArray} {p : Nat} (hk : W.heap[k]? = some (.stringIter s p)) : w4.heap[k]? = some (.stringIter s p) := by
  have hlt : k < W.heap.size := (Array.getElem?_eq_some_iff.1 hk).1
  refine (hg.block k (by simp; omega) (fun e => not_iter h hk e.symm)).trans ?_
  exact (Below.heap_alloc W tmp k hlt).trans hk
theorem below_grown {a W w4 : World} {B : Nat} {e : TypeId} {size : Nat} {v : Value} {n : Nat} {xs : List Value} (hB : Below B a W) (hB' : B ≤ W.heap.size) (h : W.ownsRow B e size v n xs) {tmp : Obj} (hg : (W.alloc tmp).grownBy w4 v.ownBlock) : Below B a w4 :=
  (hB.alloc hB' tmp).grown hg (by simp; omega) (own_base h)

set_option maxRecDepth 100000 in
set_option maxHeartbeats 1000000 in
theorem new_any (s : ByteArray) (w : World) (hs : s.size ≤ 4398046511104) :
    Calls Try.prog 49 #[.string s] w fun e w' => ∃ b v, e = .returned (.pointer (some ⟨b, 0, none⟩)) ∧ w.heap.size ≤ b ∧ w'.heap[b]? = some (.cells #[.string s, v] 103) ∧
      w'.ownsRow w.heap.size 3 1 v ((chars s 0).length + 1) (startVals s) ∧ Below w.heap.size w w' := by
  have hcl := chars_length s 0
  have hsm : s.size ≤ maxLen := by unfold maxLen; omega
  obtain ⟨i0, hi, hz0, hz1, hz2⟩ := info_parts infoInt
  generalize hL : (chars s 0).length = L at *
  have HL : Hid ((chars s 0).length = L) := hL
  clear hL
  go_enter Try.func49, Try.ntmps49
  go_wp2_with fail
  refine (count_any s _ hsm).mono ?_
  rintro e w1 ⟨rfl, hb1⟩
  rw [HL.out]
  obtain ⟨w2, hmk, hown, hgr⟩ := run_make_own (P := Try.prog) w1 w.heap.size 48 3 i0 (.int .i64 0) 1 Try.underlying48 hi hz0 hz1 .i64 .i64 (L + 1) (by rw [hz2]; omega) (by unfold maxLen; omega) hb1.size
  have ec : ((L + 1 : Nat) : Int) = (L : Int) + 1 := by omega
  rw [ec] at hmk
  clear ec
  have hb2 : Below w.heap.size w w2 := hb1.grown hgr hb1.size (fun k e => by cases e)
  go_wp2
  go_loopw [3] (fun v wr => ∃ (pos : Nat) (pre : List (Nat × Nat)), Hid (pre ++ chars s pos = chars s 0) ∧ wr.ownsRow w.heap.size 3 1 v pre.length (posVals pre) ∧ wr.heap[w2.heap.size]? = some (.stringIter s pos) ∧ Below w.heap.size w wr) (fun _ wr => s.size - wr.iterPos w2.heap.size)
  case atStart => exact ⟨0, [], rfl, hown.alloc _, heap_alloc_new w2 _, hb2.alloc hb2.size _⟩
  case round =>
    rename_i v3
    clear hmk hown hgr
    obtain ⟨pos, pre, HP, hrow, hit, hB⟩ := hrel
    by_cases hlt : pos < s.size
    · have hnx := fun ty => run_next_any_at (P := Try.prog) wr w2.heap.size s pos ty hit hlt
      have hb := dec_bounds s pos hlt
      have HP2 : Hid (pre ++ [(pos, (Utf8.decode s pos).1)] ++ chars s (pos + (Utf8.decode s pos).2) = chars s 0) := by
        show _ = _
        rw [← HP.out, chars_step s pos hlt]; simp
      have hpl : pre.length + 1 ≤ L := by
        have := congrArg List.length HP2.out
        rw [HL.out] at this; simp at this; omega
      have hrow2 := row_iterAt hrow hit (pos + (Utf8.decode s pos).2)
      have hit2 := iterAt_heap wr w2.heap.size s pos (pos + (Utf8.decode s pos).2) hit
      have hB2 : Below w.heap.size w (wr.iterAt w2.heap.size s (pos + (Utf8.decode s pos).2)) := below_iterAt hB hb2.size s _
      have hmeas : s.size - (pos + (Utf8.decode s pos).2) < s.size - wr.iterPos w2.heap.size := by rw [iterPos_of hit]; omega
      generalize hW3 : wr.iterAt w2.heap.size s (pos + (Utf8.decode s pos).2) = W3 at *
      clear hW3
      go_wp2_with (at_builtin; refine wpList_append_own _ rfl _ _ 48 rfl w.heap.size 3 i0 (.int .i64 0) 1 8 Try.underlying48 hi hz0 hz1 hz2 rfl (by decide) _ _ _ rfl (hrow2.alloc _) ⟨W3.heap.size, 0, none⟩ 1 1 [.int .i64 (pos : Nat)] rfl rfl (cell_one_new _ _ _) (by simp [Value.oneCell']) (by unfold maxLen; omega) (by omega) (by have := hB2.size; simp; omega) ?_; intro v' w4 hown' hgrow _)
      go_roundw
      case rel => exact ⟨pos + (Utf8.decode s pos).2, pre ++ [(pos, (Utf8.decode s pos).1)], HP2, by rw [posVals_snoc, List.length_append]; exact hown', iter_grown hrow2 hgrow hit2, below_grown hB2 (Nat.le_trans hb2.size (Nat.le_of_lt (by have := (Array.getElem?_eq_some_iff.1 hit2).1; omega))) hrow2 hgrow⟩
      case measure => rw [iterPos_of (iter_grown hrow2 hgrow hit2)]; exact hmeas
    · have hnx := fun ty => run_next_end_at (P := Try.prog) wr w2.heap.size s pos ty hit hlt
      have hpe : pre = chars s 0 := by have := HP.out; rw [chars_end s pos hlt] at this; simpa using this
      have hpl : pre.length = L := by rw [hpe]; exact HL.out
      rw [hpl] at hrow
      have HPE : Hid (pre = chars s 0) := hpe
      clear hpe hpl HP
      go_wp2_with (at_builtin; refine wpList_append_own _ rfl _ _ 48 rfl w.heap.size 3 i0 (.int .i64 0) 1 8 Try.underlying48 hi hz0 hz1 hz2 rfl (by decide) _ _ _ rfl (hrow.alloc _) ⟨wr.heap.size, 0, none⟩ 1 1 [.int .i64 (s.size : Nat)] rfl rfl (cell_one_new _ _ _) (by simp [Value.oneCell']) (by unfold maxLen; omega) (by omega) (by have := hB.size; simp; omega) ?_; intro v' w4 hown' hgrow _; obtain ⟨g', cap', rfl⟩ := ownsRow_succ hown')
      go_ret
      refine ⟨w4.heap.size, _, rfl, ?_, heap_alloc_new w4 _, ?_, ?_⟩
      · have := (below_grown hB hB.size hrow hgrow).size; omega
      · rw [HPE.out] at hown'; exact hown'.alloc _
      · exact (below_grown hB hB.size hrow hgrow).alloc (below_grown hB hB.size hrow hgrow).size _

end Go.Proofs.Ytkckkchnmgidgaa
