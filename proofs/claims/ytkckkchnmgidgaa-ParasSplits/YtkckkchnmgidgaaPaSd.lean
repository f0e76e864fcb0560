/-
  Split of the document; two lists of pieces that are the same.
-/
import Derived.Test.YtkckkchnmgidgaaPaCo
import Derived.Deep.LoopGhost
namespace Go.Proofs.Ytkckkchnmgidgaa
open Go.RowKit Go.PlainAid Go.Lib
set_option linter.unusedVariables false
set_option maxRecDepth 100000
set_option maxHeartbeats 2000000

theorem rSplit_no (a b : Option Addr) (n c m d : Nat) (w : World) (h : n ≠ 0 ∧ n ≠ m) : Calls Try.prog 25 #[.slice a n c, .slice b m d] w fun e w' => e = .returned (.tuple #[.slice none 0 0, .int .i64 2]) ∧ w' = w := by
  have h1 : ((n : Int) != 0) = true := by simp; exact h.1
  have h2 : ((n : Int) != (m : Int)) = true := by simp; have := h.2; omega
  have h3 : (n != 0) = true := by simpa using h.1
  have h4 : (n != m) = true := by simpa using h.2
  go_enter Try.func25, Try.ntmps25
  go_wp2
  go_ret2
  exact ⟨rfl, rfl⟩
theorem pcs_step (l : List (Nat × Nat)) (p : Nat × Nat) : pcsC (l ++ [p]) = pcsC l ++ [.int .i64 (p.1 : Nat), .int .i64 (p.2 : Nat)] := by simp [pcsC]
/-- when the separator at place k has the character behind it too -/
theorem goes_cases (rs cs : List Int) (n m k : Nat) (hn : rs.length = n) (hm : cs.length = m) (hnm : n = 0 ∨ n = m) :
    (goesB rs cs k = true ∧ 0 < n ∧ n = m ∧ cA rs k = 13 ∧ k + 1 < n ∧ cA rs (k + 1) = 10 ∧ cA cs (k + 1) = 11) ∨
    (goesB rs cs k = false ∧ (n = 0 ∨ (0 < n ∧ n = m ∧ cA rs k ≠ 13) ∨ (0 < n ∧ n = m ∧ cA rs k = 13 ∧ ¬ k + 1 < n) ∨ (0 < n ∧ n = m ∧ cA rs k = 13 ∧ k + 1 < n ∧ cA rs (k + 1) ≠ 10) ∨
      (0 < n ∧ n = m ∧ cA rs k = 13 ∧ k + 1 < n ∧ cA rs (k + 1) = 10 ∧ cA cs (k + 1) ≠ 11))) := by
  unfold goesB
  rw [hn]
  by_cases h0 : n = 0
  · exact .inr ⟨by simp [h0], .inl h0⟩
  have h1 : 0 < n := by omega
  have h2 : n = m := by omega
  by_cases h3 : cA rs k = 13
  · by_cases h4 : k + 1 < n
    · by_cases h5 : cA rs (k + 1) = 10
      · by_cases h6 : cA cs (k + 1) = 11
        · exact .inl ⟨by simp [h3, h4, h5, h6], h1, h2, h3, h4, h5, h6⟩
        · exact .inr ⟨by simp [h6], .inr (.inr (.inr (.inr ⟨h1, h2, h3, h4, h5, h6⟩)))⟩
      · exact .inr ⟨by simp [h5], .inr (.inr (.inr (.inl ⟨h1, h2, h3, h4, h5⟩)))⟩
    · exact .inr ⟨by simp [h4], .inr (.inr (.inl ⟨h1, h2, h3, h4⟩))⟩
  · exact .inr ⟨by simp [h3], .inr (.inl ⟨h1, h2, h3⟩)⟩
theorem rSplit_any (a b : Option Addr) (n c m d : Nat) (rs cs : List Int) (w : World) (hn : rs.length = n) (hm : cs.length = m) (ha : Reads w a rs) (hb : ReadsB w b cs) (hnm : n = 0 ∨ n = m) (hmm : m ≤ 1099511627776) :
    Calls Try.prog 25 #[.slice a n c, .slice b m d] w fun e w' => ∃ v, e = .returned (.tuple #[v, .int .i64 0]) ∧ w'.ownsRow w.heap.size 46 2 v (splitL rs cs).length (pcsC (splitL rs cs)) ∧ Below w.heap.size w w' := by
  obtain ⟨i0, hi, hz0, hz1, hz2⟩ := info_parts infoPiece
  have HA := hide ha
  have HB := hide hb
  have HN := hide hn
  have HM := hide hm
  have hq : ((n : Int) != 0) = true → ((n : Int) != (m : Int)) = false := by
    intro h; have : n ≠ 0 := by simpa using h
    simp; omega
  have hq2 : (n != 0) = true → (n != m) = false := by
    intro h; have : n ≠ 0 := by simpa using h
    simp; omega
  have HGC := hide (fun k => goes_cases rs cs n m k hn hm hnm)
  have HSL := hide (fun k => stS_len rs cs k)
  have HSE := hide (fun k => stS_le rs cs k)
  have HE : Hid (splitL rs cs = if (stS rs cs m).1 < m then (stS rs cs m).2 ++ [((stS rs cs m).1, m)] else (stS rs cs m).2) := by
    show _ = _; rw [← hm]; rfl
  clear ha hb hn hm
  have main : ∀ z : Bool, ((n : Int) != 0) = z → (n != 0) = z → Calls Try.prog 25 #[.slice a n c, .slice b m d] w fun e w' => ∃ v, e = .returned (.tuple #[v, .int .i64 0]) ∧ w'.ownsRow w.heap.size 46 2 v (splitL rs cs).length (pcsC (splitL rs cs)) ∧ Below w.heap.size w w' := by
    intro z hz3 hz4
    have h5 : z = true → ((n : Int) != (m : Int)) = false := fun h => hq (by rw [hz3, h])
    have h6 : z = true → (n != m) = false := fun h => hq2 (by rw [hz4, h])
    cases z
    all_goals
      first | (have h7 := h5 rfl; have h8 := h6 rfl) | skip
      clear h5 h6 hq hq2
      go_enter Try.func25, Try.ntmps25
      go_wp2
      go_loopg [6, 7, 8] m (fun g v6 v7 v8 wx => ∃ k : Nat, k + g = m ∧ v8 = .int .i64 k ∧ v7 = .int .i64 ((stS rs cs k).1 : Nat) ∧ wx.ownsRow w.heap.size 46 2 v6 (stS rs cs k).2.length (pcsC (stS rs cs k).2) ∧ Below w.heap.size w wx)
      case atStart => exact ⟨0, by omega, rfl, rfl, World.ownsRow_nil _ _ _ _, Below.refl _ _⟩
      case round =>
        obtain ⟨k, hkg, rfl, rfl, hrow, hB⟩ := hrel
        have hk : k ≤ m := by omega
        obtain ⟨fr, hfr⟩ : ∃ fr, fr = (stS rs cs k).1 := ⟨_, rfl⟩
        have hle := unhide HSE k
        have hln := unhide HSL k
        rw [← hfr] at hle hln ⊢
        by_cases hlt : k < m
        · obtain ⟨bb, off, rfl, c1⟩ := (unhide HB).below hB k (by rw [unhide HM]; exact hlt)
          have HST : Hid (stS rs cs (k + 1) = if sepB rs cs k = true then (k + 1, (stS rs cs k).2 ++ [(fr, k + 1)]) else stS rs cs k) := by show _ = _; rw [stS, hfr]
          have HS : Hid (sepB rs cs k = (cA cs k == 11 && !goesB rs cs k)) := rfl
          have HFR := hide hfr
          have hgc := unhide HGC k
          have HROW := hide hrow
          have HBB := hide hB
          have hplen : (stS rs cs k).2.length + 1 ≤ 1099511627776 := by omega
          have cR : ∀ j, j < n → ∃ b' o', a = some ⟨b', o', none⟩ ∧ wr.cell? ⟨b', o' + j, none⟩ = some (.int .i32 (cA rs j)) := fun j hj => (unhide HA).below hB j (by rw [unhide HN]; exact hj)
          have cC : ∀ j, j < m → wr.cell? ⟨bb, off + j, none⟩ = some (.int .u8 (cA cs j)) := fun j hj => by
            obtain ⟨b2, o2, e2, c2⟩ := (unhide HB).below hB j (by rw [unhide HM]; exact hj)
            cases e2; exact c2
          clear hfr hrow hB
          obtain ⟨x, hx⟩ : ∃ x, cA cs k = x := ⟨_, rfl⟩
          rw [hx] at c1 HS
          by_cases h11 : x = 11
          · subst h11
            rcases hgc with ⟨hg, g1, g2, g3, g4, g5, g6⟩ | ⟨hg, hno⟩
            · have hst : stS rs cs (k + 1) = stS rs cs k := by rw [unhide HST, unhide HS, hg]; rfl
              obtain ⟨b', o', rfl, d1⟩ := cR k (by omega)
              obtain ⟨b2, o2, e2, d2⟩ := cR (k + 1) g4
              cases e2
              have d3 := cC (k + 1) (by omega)
              rw [g3] at d1
              rw [g5] at d2
              rw [g6] at d3
              have HST2 := hide hst
              clear hst HST cR cC hg
              subst g2
              go_wp2
              go_roundg (gk - 1)
              case rel => exact ⟨k + 1, by omega, by go_num, by rw [unhide HST2, unhide HFR], by rw [unhide HST2]; exact unhide HROW, unhide HBB⟩
              case measure => omega
            · have hst : stS rs cs (k + 1) = (k + 1, (stS rs cs k).2 ++ [(fr, k + 1)]) := by rw [unhide HST, unhide HS, hg]; rfl
              have HST2 := hide hst
              clear hst HST hg
              obtain ⟨ra, rc, rfl⟩ := row_is (unhide HROW)
              rcases hno with h0 | ⟨g1, g2, g3⟩ | ⟨g1, g2, g3, g4⟩ | ⟨g1, g2, g3, g4, g5⟩ | ⟨g1, g2, g3, g4, g5, g6⟩
              · subst h0
                clear cR cC
                go_wp2_with (at_builtin; refine wpList_append_own_at _ rfl _ _ 39 rfl w.heap.size 46 i0 (.agg #[.int .i64 0, .int .i64 0]) 2 16 Try.underlying39 hi hz0 hz1 hz2 rfl (by decide) _ _ _ rfl ((unhide HROW).alloc _) ⟨_, 0, none⟩ 1 1 [.int .i64 (fr : Nat), .int .i64 ((k : Int) + 1)] rfl rfl (cells_new _ _ _) (by simp [Value.oneCell']) (by unfold maxLen; omega) (by omega) (by have := (unhide HBB).size; simp; omega) ?_; intro v5 w5 hown5 hgrow5 _ _; obtain ⟨g5, c5, rfl⟩ := ownsRow_succ hown5; have HO := hide (And.intro hown5 hgrow5); clear hown5 hgrow5)
                go_roundg (gk - 1)
                case rel => exact ⟨k + 1, by omega, by go_num, by rw [unhide HST2]; rfl, by rw [unhide HST2, pcs_step, List.length_append]; exact (unhide HO).1, belowGrown ((unhide HBB).alloc (unhide HBB).size _) (by have := (unhide HBB).size; simp; omega) ((unhide HROW).alloc _) (unhide HO).2⟩
                case measure => omega
              · obtain ⟨b', o', rfl, d1⟩ := cR k (by omega)
                generalize cA rs k = y at *
                have e1 : (y == 13) = false := by simpa using g3
                clear cR cC g3
                subst g2
                go_wp2_with (at_builtin; refine wpList_append_own_at _ rfl _ _ 39 rfl w.heap.size 46 i0 (.agg #[.int .i64 0, .int .i64 0]) 2 16 Try.underlying39 hi hz0 hz1 hz2 rfl (by decide) _ _ _ rfl ((unhide HROW).alloc _) ⟨_, 0, none⟩ 1 1 [.int .i64 (fr : Nat), .int .i64 ((k : Int) + 1)] rfl rfl (cells_new _ _ _) (by simp [Value.oneCell']) (by unfold maxLen; omega) (by omega) (by have := (unhide HBB).size; simp; omega) ?_; intro v5 w5 hown5 hgrow5 _ _; obtain ⟨g5, c5, rfl⟩ := ownsRow_succ hown5; have HO := hide (And.intro hown5 hgrow5); clear hown5 hgrow5)
                go_roundg (gk - 1)
                case rel => exact ⟨k + 1, by omega, by go_num, by rw [unhide HST2]; rfl, by rw [unhide HST2, pcs_step, List.length_append]; exact (unhide HO).1, belowGrown ((unhide HBB).alloc (unhide HBB).size _) (by have := (unhide HBB).size; simp; omega) ((unhide HROW).alloc _) (unhide HO).2⟩
                case measure => omega
              · obtain ⟨b', o', rfl, d1⟩ := cR k (by omega)
                rw [g3] at d1
                clear cR cC
                subst g2
                go_wp2_with (at_builtin; refine wpList_append_own_at _ rfl _ _ 39 rfl w.heap.size 46 i0 (.agg #[.int .i64 0, .int .i64 0]) 2 16 Try.underlying39 hi hz0 hz1 hz2 rfl (by decide) _ _ _ rfl ((unhide HROW).alloc _) ⟨_, 0, none⟩ 1 1 [.int .i64 (fr : Nat), .int .i64 ((k : Int) + 1)] rfl rfl (cells_new _ _ _) (by simp [Value.oneCell']) (by unfold maxLen; omega) (by omega) (by have := (unhide HBB).size; simp; omega) ?_; intro v5 w5 hown5 hgrow5 _ _; obtain ⟨g5, c5, rfl⟩ := ownsRow_succ hown5; have HO := hide (And.intro hown5 hgrow5); clear hown5 hgrow5)
                go_roundg (gk - 1)
                case rel => exact ⟨k + 1, by omega, by go_num, by rw [unhide HST2]; rfl, by rw [unhide HST2, pcs_step, List.length_append]; exact (unhide HO).1, belowGrown ((unhide HBB).alloc (unhide HBB).size _) (by have := (unhide HBB).size; simp; omega) ((unhide HROW).alloc _) (unhide HO).2⟩
                case measure => omega
              · obtain ⟨b', o', rfl, d1⟩ := cR k (by omega)
                obtain ⟨b2, o2, e2, d2⟩ := cR (k + 1) g4
                cases e2
                rw [g3] at d1
                generalize cA rs (k + 1) = y at *
                have e1 : (y == 10) = false := by simpa using g5
                clear cR cC g5
                subst g2
                go_wp2_with (at_builtin; refine wpList_append_own_at _ rfl _ _ 39 rfl w.heap.size 46 i0 (.agg #[.int .i64 0, .int .i64 0]) 2 16 Try.underlying39 hi hz0 hz1 hz2 rfl (by decide) _ _ _ rfl ((unhide HROW).alloc _) ⟨_, 0, none⟩ 1 1 [.int .i64 (fr : Nat), .int .i64 ((k : Int) + 1)] rfl rfl (cells_new _ _ _) (by simp [Value.oneCell']) (by unfold maxLen; omega) (by omega) (by have := (unhide HBB).size; simp; omega) ?_; intro v5 w5 hown5 hgrow5 _ _; obtain ⟨g5, c5, rfl⟩ := ownsRow_succ hown5; have HO := hide (And.intro hown5 hgrow5); clear hown5 hgrow5)
                go_roundg (gk - 1)
                case rel => exact ⟨k + 1, by omega, by go_num, by rw [unhide HST2]; rfl, by rw [unhide HST2, pcs_step, List.length_append]; exact (unhide HO).1, belowGrown ((unhide HBB).alloc (unhide HBB).size _) (by have := (unhide HBB).size; simp; omega) ((unhide HROW).alloc _) (unhide HO).2⟩
                case measure => omega
              · obtain ⟨b', o', rfl, d1⟩ := cR k (by omega)
                obtain ⟨b2, o2, e2, d2⟩ := cR (k + 1) g4
                cases e2
                have d3 := cC (k + 1) (by omega)
                rw [g3] at d1
                rw [g5] at d2
                generalize cA cs (k + 1) = y at *
                have e1 : (y == 11) = false := by simpa using g6
                clear cR cC g6
                subst g2
                go_wp2_with (at_builtin; refine wpList_append_own_at _ rfl _ _ 39 rfl w.heap.size 46 i0 (.agg #[.int .i64 0, .int .i64 0]) 2 16 Try.underlying39 hi hz0 hz1 hz2 rfl (by decide) _ _ _ rfl ((unhide HROW).alloc _) ⟨_, 0, none⟩ 1 1 [.int .i64 (fr : Nat), .int .i64 ((k : Int) + 1)] rfl rfl (cells_new _ _ _) (by simp [Value.oneCell']) (by unfold maxLen; omega) (by omega) (by have := (unhide HBB).size; simp; omega) ?_; intro v5 w5 hown5 hgrow5 _ _; obtain ⟨g5, c5, rfl⟩ := ownsRow_succ hown5; have HO := hide (And.intro hown5 hgrow5); clear hown5 hgrow5)
                go_roundg (gk - 1)
                case rel => exact ⟨k + 1, by omega, by go_num, by rw [unhide HST2]; rfl, by rw [unhide HST2, pcs_step, List.length_append]; exact (unhide HO).1, belowGrown ((unhide HBB).alloc (unhide HBB).size _) (by have := (unhide HBB).size; simp; omega) ((unhide HROW).alloc _) (unhide HO).2⟩
                case measure => omega
          · have hst : stS rs cs (k + 1) = stS rs cs k := by
              rw [unhide HST, unhide HS]
              have : (x == 11) = false := by simpa using h11
              rw [this]; rfl
            have HST2 := hide hst
            clear hst HST cR cC hgc
            go_wp2
            go_roundg (gk - 1)
            case rel => exact ⟨k + 1, by omega, by go_num, by rw [unhide HST2, unhide HFR], by rw [unhide HST2]; exact unhide HROW, unhide HBB⟩
            case measure => omega
        · obtain rfl : k = m := by omega
          have HROW := hide hrow
          have HBB := hide hB
          have HFR := hide hfr
          have hplen : (stS rs cs k).2.length ≤ 1099511627776 := by have h1 := unhide HSL k; have h2 := unhide HSE k; omega
          clear hrow hB hfr
          obtain ⟨ra, rc, rfl⟩ := row_is (unhide HROW)
          by_cases hf : fr < k
          · have hsp : splitL rs cs = (stS rs cs k).2 ++ [(fr, k)] := by rw [unhide HE, ← unhide HFR, if_pos hf]
            have HSP := hide hsp
            clear hsp
            go_wp2_with (at_builtin; refine wpList_append_own_at _ rfl _ _ 39 rfl w.heap.size 46 i0 (.agg #[.int .i64 0, .int .i64 0]) 2 16 Try.underlying39 hi hz0 hz1 hz2 rfl (by decide) _ _ _ rfl ((unhide HROW).alloc _) ⟨_, 0, none⟩ 1 1 [.int .i64 (fr : Nat), .int .i64 (k : Nat)] rfl rfl (cells_new _ _ _) (by simp [Value.oneCell']) (by unfold maxLen; omega) (by omega) (by have := (unhide HBB).size; simp; omega) ?_; intro v5 w5 hown5 hgrow5 _ _; obtain ⟨g5, c5, rfl⟩ := ownsRow_succ hown5; have HO := hide (And.intro hown5 hgrow5); clear hown5 hgrow5)
            go_ret2
            exact ⟨_, rfl, by rw [unhide HSP, pcs_step, List.length_append]; exact (unhide HO).1, belowGrown ((unhide HBB).alloc (unhide HBB).size _) (by have := (unhide HBB).size; simp; omega) ((unhide HROW).alloc _) (unhide HO).2⟩
          · have hsp : splitL rs cs = (stS rs cs k).2 := by rw [unhide HE, ← unhide HFR, if_neg hf]
            have HSP := hide hsp
            clear hsp
            go_wp2
            go_ret2
            exact ⟨_, rfl, by rw [unhide HSP]; exact unhide HROW, unhide HBB⟩
  exact main _ rfl (by cases h : (n != 0) <;> simp at h ⊢ <;> omega)
end Go.Proofs.Ytkckkchnmgidgaa
