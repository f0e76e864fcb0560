/-
  UtfPlaces: two texts' places, asked in turns, answer as the document does: for all texts and all lists of questions.
-/
import Derived.Test.YtgffibonikcecaaAskedB
import Derived.Test.YtgffibonikcecaaAskedC
import Derived.Test.YtgffibonikcecaaLives
import Derived.ProofKit
import Derived.OpenShut
import Derived.ShutString
import Derived.ChangeOld
import Derived.JoinedCond
namespace Go.Proofs.Ytgffibonikcecaa
open Go.RowKit Go.PlainAid Go.Lib
set_option linter.unusedVariables false

theorem asked_any (w : World) (p : Value) (s : ByteArray) (hs : s.size ≤ 65536) (hP : IsPlaces w p s) (d a b : Int) (ha : a ≤ 9223372036854775807) :
    Calls Try.prog 37 #[p, .string s, askV d a b] w fun e w' => e = .returned (.bool true) ∧ Below w.heap.size w w' := by
  by_cases h0 : d = 0
  · subst h0; exact asked0 w p s hs hP a b
  by_cases h1 : d = 1
  · subst h1; exact asked1 w p s hs hP a b
  by_cases h2 : d = 2
  · subst h2; exact asked2 w p s hs hP a b
  by_cases h3 : d = 3
  · subst h3; exact asked3 w p s hs hP a b
  by_cases h4 : d = 4
  · subst h4; exact asked4 w p s hs hP a b
  by_cases h5 : d = 5
  · subst h5; exact asked5 w p s hs hP a b ha
  exact askedX w p s hs hP d a b (by omega)

theorem beyond_any (s : ByteArray) (m : Int) (w : World) (hs : s.size ≤ maxLen) : Calls Try.prog 35 #[.string s, .int .i64 m] w fun e w' => e = .returned (.bool (decide (65536 < (s.size : Int)) || decide (4096 < m))) ∧ w' = w := by
  unfold maxLen at hs
  cases h1 : decide (65536 < (s.size : Int))
  · cases h2 : decide (4096 < m)
    all_goals
      go_enter Try.func35, Try.ntmps35
      go_wp2
      go_ret
      exact ⟨rfl, rfl⟩
  · go_enter Try.func35, Try.ntmps35
    go_wp2
    go_ret
    exact ⟨rfl, rfl⟩

/-- a list of questions in memory -/
def Asks (w : World) (a : Option Addr) (n : Nat) : Prop :=
  ∀ i, i < n → ∃ (b off : Nat) (d y z : Int), a = some ⟨b, off, none⟩ ∧ w.cell? ⟨b, off + i * 3, none⟩ = some (.int .i64 d) ∧ w.cell? ⟨b, off + i * 3 + 1, none⟩ = some (.int .i64 y) ∧ w.cell? ⟨b, off + i * 3 + 2, none⟩ = some (.int .i64 z) ∧ y ≤ 9223372036854775807
theorem Asks.below {w W : World} {a : Option Addr} {n : Nat} (h : Asks w a n) (hb : Below w.heap.size w W) : Asks W a n := by
  intro i hi
  obtain ⟨b, off, d, y, z, e0, e1, e2, e3, e4⟩ := h i hi
  exact ⟨b, off, d, y, z, e0, (hb.cell (p := ⟨b, off + i * 3, none⟩) (World.block_lt_of_cell? w _ e1)).trans e1, (hb.cell (p := ⟨b, off + i * 3 + 1, none⟩) (World.block_lt_of_cell? w _ e2)).trans e2, (hb.cell (p := ⟨b, off + i * 3 + 2, none⟩) (World.block_lt_of_cell? w _ e3)).trans e3, e4⟩

namespace utfPlaces
open Go.ChangeShapes Go.WideShapes Go.ChangeAt Go.Shelf
open Go.ChangeMaps (open_string shut_string)
theorem below2 {a b c : World} (h : Below a.heap.size a b) (k : Below b.heap.size b c) : Below a.heap.size a c := h.trans (k.mono h.size)

set_option maxRecDepth 100000 in
set_option maxHeartbeats 4000000 in
theorem walk (s t : ByteArray) (a1 : Option Addr) (n1 c1 : Nat) (a2 : Option Addr) (n2 c2 : Nat) (w : World) (hs : s.size ≤ maxLen) (ht : t.size ≤ maxLen) (h1 : Asks w a1 n1) (h2 : Asks w a2 n2) (hn1 : n1 ≤ maxLen) (hn2 : n2 ≤ maxLen) :
    Calls Try.prog 6 #[.string s, .string t, .slice a1 n1 c1, .slice a2 n2 c2] w fun e w' => e = .returned (.bool true) ∧ Below w.heap.size w w' := by
  have HE1 := hide (fun W => beyond_any s (n1 : Int) W hs)
  have HE2 := hide (fun W => beyond_any t (n2 : Int) W ht)
  have hc : ((decide (65536 < (s.size : Int)) || decide (4096 < (n1 : Int))) = true) ∨ (((decide (65536 < (s.size : Int)) || decide (4096 < (n1 : Int))) = false) ∧ ((decide (65536 < (t.size : Int)) || decide (4096 < (n2 : Int))) = true)) ∨ (((decide (65536 < (s.size : Int)) || decide (4096 < (n1 : Int))) = false) ∧ ((decide (65536 < (t.size : Int)) || decide (4096 < (n2 : Int))) = false)) := by
    cases (decide (65536 < (s.size : Int)) || decide (4096 < (n1 : Int))) <;> cases (decide (65536 < (t.size : Int)) || decide (4096 < (n2 : Int))) <;> simp
  have H1 := hide h1
  have H2 := hide h2
  unfold maxLen at hs ht hn1 hn2
  clear h1 h2
  rcases hc with e1 | ⟨e1, e2⟩ | ⟨e1, e2⟩
  · rw [e1] at HE1
    clear e1
    go_enter Try.func6, Try.ntmps6
    go_wp2_with (first
      | (go_at_call 35; refine (unhide HE1 _).mono ?_; rintro e w' ⟨rfl, rfl⟩)
      | (go_at_call 19; refine (lives_any _).mono ?_; rintro e w1 ⟨rfl, hb1⟩))
    go_ret
    exact ⟨rfl, hb1⟩
  · rw [e1] at HE1
    rw [e2] at HE2
    clear e1 e2
    go_enter Try.func6, Try.ntmps6
    go_wp2_with fail
    refine (unhide HE1 _).mono ?_
    rintro e w' ⟨rfl, rfl⟩
    go_wp2_with fail
    refine (unhide HE2 _).mono ?_
    rintro e w' ⟨rfl, rfl⟩
    go_wp2_with (go_at_call 19; refine (lives_any _).mono ?_; rintro e w1 ⟨rfl, hb1⟩)
    go_ret
    exact ⟨rfl, hb1⟩
  · have g1 : s.size ≤ 65536 ∧ n1 ≤ 4096 := by simp at e1; omega
    have g2 : t.size ≤ 65536 ∧ n2 ≤ 4096 := by simp at e2; omega
    rw [e1] at HE1
    rw [e2] at HE2
    clear e1 e2
    go_enter Try.func6, Try.ntmps6
    go_wp2_with fail
    refine (unhide HE1 _).mono ?_
    rintro e w' ⟨rfl, rfl⟩
    go_wp2_with fail
    refine (unhide HE2 _).mono ?_
    rintro e w' ⟨rfl, rfl⟩
    clear HE1 HE2
    go_wp2_with fail
    refine (new_places s _ (by omega)).mono ?_
    rintro e w1 ⟨bp, rfl, hP1, hb1⟩
    go_wp2_with fail
    refine (new_places t _ (by omega)).mono ?_
    rintro e w2 ⟨bq, rfl, hQ2, hb2⟩
    have hP2 := hP1.below hb2
    have hB2 := below2 hb1 hb2
    clear hP1 hb1 hb2
    go_wp2_with fail
    refine (lives_any _).mono ?_
    rintro e w3 ⟨rfl, hb3⟩
    have HP3 := hide (hP2.below hb3)
    have HQ3 := hide (hQ2.below hb3)
    have hB3 := below2 hB2 hb3
    have HA1 := hide ((unhide H1).below hB3)
    have HA2 := hide ((unhide H2).below hB3)
    clear hP2 hQ2 hb3 hB2 H1 H2
    go_wp2
    go_loopw [11] (fun v11 wr => ∃ i : Nat, i ≤ 4096 ∧ (i ≤ n1 ∨ i ≤ n2) ∧ v11 = .int .i64 i ∧ Below w'.heap.size w' wr ∧ Hid (IsPlaces wr (.pointer (some ⟨bp, 0, none⟩)) s) ∧ Hid (IsPlaces wr (.pointer (some ⟨bq, 0, none⟩)) t) ∧ Hid (Asks wr a1 n1) ∧ Hid (Asks wr a2 n2)) (fun v11 _ => 4097 - (intOf v11).toNat)
    case atStart => exact ⟨0, by omega, .inl (Nat.zero_le _), rfl, hB3, HP3, HQ3, HA1, HA2⟩
    case round =>
      clear HP3 HQ3 HA1 HA2 hB3
      obtain ⟨i, hi, hin, rfl, hB, HP, HQ, HA1, HA2⟩ := hrel
      by_cases k1 : i < n1
      · obtain ⟨b, off, d, y, z, rfl, y0, y1, y2, hy⟩ := unhide HA1 i k1
        have HK1 := hide (asked_any wr (.pointer (some ⟨bp, 0, none⟩)) s g1.1 (unhide HP) d y z hy)
        by_cases k2 : i < n2
        · go_wp2_with fail
          refine (unhide HK1).mono ?_
          rintro e W1 ⟨rfl, hbW⟩
          have HP1 := hide ((unhide HP).below hbW)
          have HQ1 := hide ((unhide HQ).below hbW)
          have HB1 := hide ((unhide HA1).below hbW)
          have HB2 := hide ((unhide HA2).below hbW)
          have hB1 := below2 hB hbW
          clear hbW HP HQ HA1 HA2 hB HK1 y0 y1 y2
          obtain ⟨b', off', d', y', z', rfl, x0, x1, x2, hy'⟩ := unhide HB2 i k2
          have HK2 := hide (asked_any W1 (.pointer (some ⟨bq, 0, none⟩)) t g2.1 (unhide HQ1) d' y' z' hy')
          go_wp2_with fail
          refine (unhide HK2).mono ?_
          rintro e W2 ⟨rfl, hbW⟩
          have HP2 := hide ((unhide HP1).below hbW)
          have HQ2 := hide ((unhide HQ1).below hbW)
          have HC1 := hide ((unhide HB1).below hbW)
          have HC2 := hide ((unhide HB2).below hbW)
          have hB2 := below2 hB1 hbW
          clear hbW HP1 HQ1 HB1 HB2 hB1 HK2 x0 x1 x2
          go_wp2
          go_roundw
          case rel => exact ⟨i + 1, by omega, by omega, by go_num, hB2, HP2, HQ2, HC1, HC2⟩
          case measure => simp [intOf]; omega
        · go_wp2_with fail
          refine (unhide HK1).mono ?_
          rintro e W1 ⟨rfl, hbW⟩
          have HP1 := hide ((unhide HP).below hbW)
          have HQ1 := hide ((unhide HQ).below hbW)
          have HB1 := hide ((unhide HA1).below hbW)
          have HB2 := hide ((unhide HA2).below hbW)
          have hB1 := below2 hB hbW
          clear hbW HP HQ HA1 HA2 hB HK1 y0 y1 y2
          go_wp2
          go_roundw
          case rel => exact ⟨i + 1, by omega, by omega, by go_num, hB1, HP1, HQ1, HB1, HB2⟩
          case measure => simp [intOf]; omega
      · by_cases k2 : i < n2
        · obtain ⟨b', off', d', y', z', rfl, x0, x1, x2, hy'⟩ := unhide HA2 i k2
          have HK2 := hide (asked_any wr (.pointer (some ⟨bq, 0, none⟩)) t g2.1 (unhide HQ) d' y' z' hy')
          go_wp2_with fail
          refine (unhide HK2).mono ?_
          rintro e W2 ⟨rfl, hbW⟩
          have HP2 := hide ((unhide HP).below hbW)
          have HQ2 := hide ((unhide HQ).below hbW)
          have HC1 := hide ((unhide HA1).below hbW)
          have HC2 := hide ((unhide HA2).below hbW)
          have hB2 := below2 hB hbW
          clear hbW HP HQ HA1 HA2 hB HK2 x0 x1 x2
          go_wp2
          go_roundw
          case rel => exact ⟨i + 1, by omega, by omega, by go_num, hB2, HP2, HQ2, HC1, HC2⟩
          case measure => simp [intOf]; omega
        · have HK1 := hide (asked_any wr (.pointer (some ⟨bp, 0, none⟩)) s g1.1 (unhide HP) 9 0 0 (by omega))
          go_wp2_with fail
          refine (unhide HK1).mono ?_
          rintro e W1 ⟨rfl, hbW⟩
          have HQ1 := hide ((unhide HQ).below hbW)
          have hB1 := below2 hB hbW
          have HK2 := hide (asked_any W1 (.pointer (some ⟨bq, 0, none⟩)) t g2.1 (unhide HQ1) 9 0 0 (by omega))
          clear hbW HP HQ HA1 HA2 hB HK1
          go_wp2_with fail
          refine (unhide HK2).mono ?_
          rintro e W2 ⟨rfl, hbW⟩
          go_wp2
          go_ret
          exact ⟨rfl, below2 hB1 hbW⟩

end utfPlaces
end Go.Proofs.Ytgffibonikcecaa
