/-
  lent and kept of furrowlaw02: units as new memory with two marks behind them, and whether all is as it was.
-/
import Derived.Test.YtghcheoholkpbaaWApp
namespace Go.Proofs.Ytghcheoholkpbaa
open Go.RowKit Go.PlainAid Go.Lib
set_option linter.unusedVariables false

/-- units that are lent: two marks behind them -/
def Lent (w : World) (B g cap : Nat) (us : List Int) : Prop := w.ownsRow B 22 1 (.slice (some ⟨g, 0, none⟩) (us.length + 2) cap) (us.length + 2) (u16s (us ++ [7, 8]))
theorem row_caps {w : World} {base : Nat} {e : TypeId} {size : Nat} {a : Option Addr} {n c : Nat} {xs : List Value} (h : w.ownsRow base e size (.slice a n c) n xs) : n ≤ c ∧ c ≤ maxLen := by
  rcases h.2 with ⟨h0, h1⟩ | ⟨g', cap', cur, hv, _, _, hc, hm, _⟩
  · obtain ⟨_, _, rfl⟩ : a = none ∧ n = 0 ∧ c = 0 := by simpa using h0
    exact ⟨by omega, Nat.zero_le _⟩
  · obtain ⟨_, rfl⟩ : a = some ⟨g', 0, none⟩ ∧ c = cap' := by simpa using hv
    exact ⟨hc, hm⟩
theorem Lent.reads {w : World} {B g cap : Nat} {us : List Int} (h : Lent w B g cap us) : ReadsU w (some ⟨g, 0, none⟩) us := (readsU_own (n := us.length + 2) h).front
theorem Lent.caps {w : World} {B g cap : Nat} {us : List Int} (h : Lent w B g cap us) : us.length + 2 ≤ cap ∧ cap ≤ maxLen := row_caps h
theorem Lent.below {w w' : World} {B g cap : Nat} {us : List Int} (h : Lent w B g cap us) (hb : Below w.heap.size w w') : Lent w' B g cap us := rowBelow h hb
theorem Lent.marks {w : World} {B g cap : Nat} {us : List Int} (h : Lent w B g cap us) : w.cell? ⟨g, us.length, none⟩ = some (.int .u16 7) ∧ w.cell? ⟨g, us.length + 1, none⟩ = some (.int .u16 8) := by
  have h' : w.ownsRow B 22 1 (.slice (some ⟨g, 0, none⟩) (us.length + 2) cap) (us.length + 2) (u16s (us ++ [7, 8])) := h
  have h0 := h'.cellAt us.length (by omega)
  have h1 := h'.cellAt (us.length + 1) (by omega)
  refine ⟨h0.trans ?_, h1.trans ?_⟩
  · simp
  · simp

set_option maxRecDepth 100000 in
set_option maxHeartbeats 1000000 in
theorem lent_any (w : World) (a : Option Addr) (c : Nat) (us : List Int) (h : ReadsU w a us) (hn : us.length ≤ 1099511627776) :
    Calls Try.prog 29 #[.slice a us.length c] w fun e w' => ∃ g cap, e = .returned (.slice (some ⟨g, 0, none⟩) us.length cap) ∧ Lent w' w.heap.size g cap us ∧ Below w.heap.size w w' := by
  obtain ⟨i0, hi, hz0, hz1, hz2⟩ := info_parts infoUnit
  obtain ⟨v1, w1, hap, hown1, hgrow1, _⟩ := appU w w.heap.size (.slice none 0 0) 0 [] us a c (World.ownsRow_nil _ _ _ _) h (by omega) (Nat.le_refl _)
  have hB1 : Below w.heap.size w w1 := (Below.refl _ _).grown hgrow1 (Nat.le_refl _) (fun k e => by simp [Value.ownBlock] at e)
  rw [Nat.zero_add, List.nil_append] at hown1
  obtain ⟨a1, c1, rfl⟩ := row_is hown1
  have HUA := hide (u16s_append us [7, 8])
  have HL : Hid (∀ g cap w', w'.ownsRow w.heap.size 22 1 (.slice (some ⟨g, 0, none⟩) (us.length + 2) cap) (us.length + 2) (u16s us ++ [.int .u16 7, .int .u16 8]) → Lent w' w.heap.size g cap us) := fun g cap w' h => by unfold Lent; rw [unhide HUA]; exact h
  have hle := hB1.size
  generalize us.length = n at *
  clear hgrow1 h HUA
  have HAP := hide hap
  clear hap
  go_enter Try.func29, Try.ntmps29
  go_wp2_with (first
    | (at_builtin; refine wpList_append_run w rfl _ _ 31 rfl _ _ rfl rfl _ _ (unhide HAP) ?_)
    | (at_builtin; refine wpList_append_own_at _ rfl _ _ 31 rfl w.heap.size 22 i0 (.int .u16 0) 1 2 Try.underlying31 hi hz0 hz1 hz2 rfl (by decide) _ _ _ rfl (hown1.alloc _) ⟨w1.heap.size, 0, none⟩ 2 2 [.int .u16 7, .int .u16 8] rfl rfl (cell_two_new _ _ _ _) (by simp [Value.oneCell']) (by unfold maxLen; omega) (by omega) (by simp; omega) ?_; intro v2 w2 hown2 hgrow2 _ _; obtain ⟨g2, cap2, rfl⟩ := ownsRow_succ hown2; have hcp := row_caps hown2; obtain ⟨hcp, hcm⟩ := hcp))
  go_ret
  exact ⟨g2, cap2, rfl, unhide HL _ _ _ hown2, belowGrown (hB1.alloc hle _) (by simp; omega) (hown1.alloc _) hgrow2⟩

set_option maxRecDepth 100000 in
set_option maxHeartbeats 1000000 in
theorem kept_any (w : World) (B g cap : Nat) (a : Option Addr) (c : Nat) (us : List Int) (hl : Lent w B g cap us) (h : ReadsU w a us) (hn : us.length ≤ 1099511627776) :
    Calls Try.prog 36 #[.slice (some ⟨g, 0, none⟩) us.length cap, .slice a us.length c] w fun e w' => e = .returned (.bool true) ∧ Below w.heap.size w w' := by
  have HS := hide (rSame_any (some ⟨g, 0, none⟩) a cap c us us w hl.reads h hn)
  have hdt : decide (us = us) = true := by simp
  rw [hdt] at HS
  obtain ⟨hc1, hc2⟩ := hl.caps
  unfold maxLen at hc2
  have HM := hide (fun w' (hb : Below w.heap.size w w') => (hl.below hb).marks)
  clear hdt hl h
  generalize us.length = n at *
  go_enter Try.func36, Try.ntmps36
  go_wp2_with fail
  refine (unhide HS).mono ?_
  rintro e w1 ⟨rfl, hb1⟩
  obtain ⟨m1, m2⟩ := unhide HM w1 hb1
  go_wp2
  go_ret
  exact ⟨rfl, hb1⟩

end Go.Proofs.Ytghcheoholkpbaa
