/-
  Parse of package brackets, for every text.
-/
import Derived.Test.YtijiiapnbeljnaaGreatDoorBrN
import Derived.Test.YtijiiapnbeljnaaGreatDoorBrL
namespace Go.Proofs.YtijiiapnbeljnaaGreatDoor
open Go.RowKit Go.PlainAid Go.Lib Go.Shelf Go.Seq4
set_option linter.unusedVariables false
set_option linter.unusedSimpArgs false

set_option maxRecDepth 100000 in
set_option maxHeartbeats 1000000 in
theorem parse8_any (file s : ByteArray) (hs : s.size ≤ 1073741824) (w : World) (hg : ErrT w) :
    Calls Tryz.prog 17 #[.string file, .string s] w fun e w' => Below w.heap.size w w' ∧
      ((gathP (linedL s) = none ∧ ∃ B, e = .returned (.tuple #[.pointer (some ⟨B, 0, none⟩), .nilIface]) ∧ Book w' B ((linedL s).map (·.row)) [] ∧ w.heap.size ≤ B) ∨
       (∃ no why fb, gathP (linedL s) = some (no, why) ∧ e = .returned (.tuple #[.pointer none, .iface 91 (.pointer (some ⟨fb, 0, none⟩))]) ∧ w.heap.size ≤ fb ∧ w'.heap[fb]? = some (.cells #[.string file, .int .i64 no, .int .i64 why] 93 (0, 0)))) := by
  obtain ⟨W1, hW1⟩ : ∃ W1, w.alloc (.cells #[.string s] 9) = W1 := ⟨_, rfl⟩
  have hb1 : Below w.heap.size w W1 := by rw [← hW1]; exact below_alloc _ _
  have hx1 : Boxed W1 w.heap.size 9 (.string s) := by rw [← hW1]; exact heap_alloc_new w _
  have HPL := hide (lined_any s w)
  rw [hW1] at HPL
  have HGA := hide (gather_any 67 #[.pointer (some ⟨w.heap.size, 0, none⟩)] (linedL s) 6 (fun _ => False) W1 (enters_of Tryz.func67 (by kernel_rfl) rfl)
    (fun k hk => hk.elim) (fun n hn => lined_gives s hs w.heap.size W1 hx1 n (by omega)) (lined_ok s) (by have := lined_len s; omega))
  have HB1 := hide hb1
  have HG := hide (hg.below hb1)
  clear hg hx1 hb1 hW1
  cases hgp : gathP (linedL s) with
  | none =>
    have HG1 := hide ((unhide HGA).mono (R' := fun e w' => ∃ B, e = .returned (.tuple #[.pointer (some ⟨B, 0, none⟩), .nilIface]) ∧ Book w' B ((linedL s).map (·.row)) [] ∧ W1.heap.size ≤ B ∧ Below W1.heap.size W1 w') (by
      rintro e w' ⟨hb, (⟨_, B, h1, h2, h3⟩ | ⟨no, why, rb, h, _⟩)⟩
      · exact ⟨B, h1, h2, h3, hb⟩
      · rw [hgp] at h; cases h))
    clear HGA hgp
    go_enter Tryz.func17, Tryz.ntmps17
    go_wp2_with (first | (go_at_call 43; with_reducible refine (unhide HPL).mono ?_; rintro e w' ⟨rfl, h⟩; cases h) | (go_at_call 28; with_reducible refine (unhide HG1).mono ?_; clear HG1 HPL; rintro e w2 ⟨B, rfl, hbk, hB, hb2⟩) | (go_at_call 30; with_reducible refine (as_nil _ _).mono ?_; rintro e w3 ⟨rfl, rfl⟩))
    go_ret2
    have hb1 := unhide HB1
    exact ⟨hb1.trans ((hb2.mono hb1.size).alloc (Nat.le_trans hb1.size hb2.size) _), .inl ⟨trivial, B, rfl, hbk.below (below_alloc _ _), Nat.le_trans hb1.size hB⟩⟩
  | some nw =>
    obtain ⟨no, why⟩ := nw
    have HG1 := hide ((unhide HGA).mono (R' := fun e w' => ∃ rb, e = .returned (.tuple #[.pointer none, .iface 70 (.pointer (some ⟨rb, 0, none⟩))]) ∧ W1.heap.size ≤ rb ∧ w'.heap[rb]? = some (.cells #[.int .i64 no, .int .i64 why] 74 (0, 0)) ∧ Below W1.heap.size W1 w') (by
      rintro e w' ⟨hb, (⟨h, _⟩ | ⟨no', why', rb, h, h1, h2, h3⟩)⟩
      · rw [hgp] at h; cases h
      · rw [hgp] at h; cases h
        exact ⟨rb, h1, h2, h3, hb⟩))
    have HAS : Hid (∀ w2 rb, Below W1.heap.size W1 w2 → w2.heap[rb]? = some (.cells #[.int .i64 no, .int .i64 why] 74 (0, 0)) → Calls Tryz.prog 30 #[.iface 70 (.pointer (some ⟨rb, 0, none⟩)), .iface 72 (.pointer (some ⟨w2.heap.size, 0, none⟩))] (w2.alloc (.cells #[.pointer none] 70)) fun ev w3 => ev = .returned (.bool true) ∧ Below w2.heap.size w2 w3 ∧ w3.cell? ⟨w2.heap.size, 0, none⟩ = some (.pointer (some ⟨rb, 0, none⟩)) ∧ w3.cell? ⟨rb, 0, none⟩ = some (.int .i64 no) ∧ w3.cell? ⟨rb, 1, none⟩ = some (.int .i64 why)) := fun w2 rb hb2 hrb => by
      obtain ⟨U, hU⟩ : ∃ U, w2.alloc (.cells #[.pointer none] 70) = U := ⟨_, rfl⟩
      have hbU : Below w2.heap.size w2 U := by rw [← hU]; exact below_alloc _ _
      have bxU : Boxed U w2.heap.size 70 (.pointer none) := by rw [← hU]; exact heap_alloc_new w2 _
      have lU := bxU.lt
      rw [hU]
      refine (asr_hit ⟨rb, 0, none⟩ ⟨w2.heap.size, 0, none⟩ (.pointer none) U ((unhide HG).below (hb2.trans (hbU.mono hb2.size))) bxU.cell bxU.frozen).mono ?_
      rintro e w3 ⟨rfl, rfl⟩
      have hlt := (Array.getElem?_eq_some_iff.1 hrb).1
      generalize hX : (((U.alloc (.cells #[.pointer (some ⟨w2.heap.size, 0, none⟩)] 72)).alloc _).alloc _).alloc _ = X
      have hbX : Below U.heap.size U X := by rw [← hX]; exact ((((Below.refl _ U).alloc (Nat.le_refl _) _).alloc (by simp) _).alloc (by simp; omega) _).alloc (by simp; omega) _
      have hb3 := hbU.trans (hbX.mono hbU.size)
      have bxX : Boxed X w2.heap.size 70 (.pointer none) := (hbX.block _ bxU.lt).trans bxU
      refine ⟨rfl, hb3.setCell (by simp) _, (bxX.set _).cell, ?_, ?_⟩
      · have : (X.setCell ⟨w2.heap.size, 0, none⟩ (.pointer (some ⟨rb, 0, none⟩))).heap[rb]? = _ := (Below.heap_setCell _ _ _ _ (by simp; omega)).trans ((hb3.block rb hlt).trans hrb)
        simp [World.cell?, this]
      · have : (X.setCell ⟨w2.heap.size, 0, none⟩ (.pointer (some ⟨rb, 0, none⟩))).heap[rb]? = _ := (Below.heap_setCell _ _ _ _ (by simp; omega)).trans ((hb3.block rb hlt).trans hrb)
        simp [World.cell?, this]
    clear HGA hgp
    go_enter Tryz.func17, Tryz.ntmps17
    go_wp2_with (first | (go_at_call 43; with_reducible refine (unhide HPL).mono ?_; rintro e w' ⟨rfl, h⟩; cases h) | (go_at_call 28; with_reducible refine (unhide HG1).mono ?_; clear HG1 HPL; rintro e w2 ⟨rb, rfl, hrb0, hrb, hb2⟩; have HB2 := hide hb2; have HRB := hide hrb; clear hb2 hrb) | (go_at_call 30; with_reducible refine (unhide HAS _ _ (unhide HB2) (unhide HRB)).mono ?_; rintro e w3 ⟨rfl, hb3, c1, c2, c3⟩))
    go_region_held (fun X => X.cell? ⟨w2.heap.size, 0, none⟩ = some (.pointer (some ⟨rb, 0, none⟩)) ∧ X.cell? ⟨rb, 0, none⟩ = some (.int .i64 no) ∧ X.cell? ⟨rb, 1, none⟩ = some (.int .i64 why))
      (first | exact ⟨c1, c2, c3⟩ | go_keep) (fail)
    all_goals go_wp2
    all_goals go_ret2
    all_goals
      have hb1 := unhide HB1
      have hb2 := unhide HB2
      have hbw := hb1.trans ((hb2.trans (hb3.mono hb2.size)).mono hb1.size)
      exact ⟨(hbw.alloc hbw.size _).trans ⟨rfl, rfl, rfl, Nat.le_refl _, fun _ _ => rfl⟩, .inr ⟨no, why, w3.heap.size, rfl, rfl, hbw.size, heap_alloc_new w3 _⟩⟩
end Go.Proofs.YtijiiapnbeljnaaGreatDoor
