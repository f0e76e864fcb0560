/-
  The law's naive: the value of a number by a plain look through the spans.
-/
import Derived.Test.YtokillomaemocaaTrQo
import Derived.Deep.LoopGhost
namespace Go.Proofs.Ytokillomaemocaa.VK
open Go.RowKit Go.PlainAid Go.Lib Go.PRow Go.TrM
set_option linter.unusedVariables false
set_option linter.unusedSimpArgs false
theorem valF_first {rest : Int} {ps : List (Pc Int)} {r i : Nat} {p : Pc Int} (hp : ps[i]? = some p) (h1 : p.lo ≤ (r : Int)) (h2 : (r : Int) ≤ p.hi) (hj : ∀ j q, j < i → ps[j]? = some q → ¬ (q.lo ≤ (r : Int) ∧ (r : Int) ≤ q.hi)) : valF rest ps r = p.val := by
  have hf : ps.find? (fun p => decide (p.lo ≤ (r : Int)) && decide ((r : Int) ≤ p.hi)) = some p := by
    obtain ⟨hi, he⟩ := List.getElem?_eq_some_iff.1 hp
    rw [List.find?_eq_some_iff_getElem]
    refine ⟨by simp [h1, h2], i, hi, he, fun j hji => ?_⟩
    have := hj j _ hji (List.getElem?_eq_getElem (by omega))
    simp only [Bool.not_eq_true', Bool.and_eq_false_iff, decide_eq_false_iff_not]
    by_cases hq : (ps[j]'(by omega)).lo ≤ (r : Int)
    · exact .inr fun h => this ⟨hq, h⟩
    · exact .inl hq
  unfold valF
  rw [hf]
theorem valF_none {rest : Int} {ps : List (Pc Int)} {r : Nat} (hj : ∀ (j : Nat) q, ps[j]? = some q → ¬ (q.lo ≤ (r : Int) ∧ (r : Int) ≤ q.hi)) : valF rest ps r = rest := by
  refine valF_out fun p hp => ?_
  obtain ⟨j, hj'⟩ := List.mem_iff_getElem?.1 hp
  exact hj j p hj'
set_option maxRecDepth 100000 in
set_option maxHeartbeats 4000000 in
theorem naive_any (rest : Int) (a : Option Addr) (cap : Nat) (ps : List (Pc Int)) (n : Nat) (hn : ps.length = n) (hn2 : n ≤ 1000000) (w : World) (h : SpAt w a ps) (r : Nat) (hr : r < 1114112) :
    Calls Try.prog 30 #[.int .u8 rest, .slice a n cap, .int .i32 (r : Int)] w fun e w' => e = .returned (.int .u8 (valF rest ps r)) ∧ w' = w := by
  have HN := hide hn
  have HS := hide h
  have q0 : ¬ (r : Int) < 0 := by omega
  have q1 : ¬ 1114111 < (r : Int) := by omega
  clear h hn
  go_enter Try.func30, Try.ntmps30
  go_wp2_with fail
  go_loopg [7] n (fun kx v7 wr => ∃ i : Nat, v7 = .int .i64 (i : Int) ∧ i ≤ n ∧ kx = n - i ∧ Hid (∀ (j : Nat) q, j < i → ps[j]? = some q → ¬ (q.lo ≤ (r : Int) ∧ (r : Int) ≤ q.hi)) ∧ Hid (wr = w))
  case atStart => exact ⟨0, rfl, Nat.zero_le _, rfl, fun j q hj => absurd hj (Nat.not_lt_zero _), hide rfl⟩
  case round =>
    obtain ⟨i, rfl, hi, rfl, HJ, HB⟩ := hrel
    by_cases hlt : i < n
    · obtain ⟨p, hp⟩ : ∃ p, ps[i]? = some p := ⟨_, List.getElem?_eq_getElem (by rw [unhide HN]; exact hlt)⟩
      obtain ⟨g, off, rfl, hg, c0, c1, c2⟩ := (show SpAt wr a ps by rw [unhide HB]; exact unhide HS).get hp
      have q2 : (i : Int) < (n : Int) := by omega
      have q3 : IntKind.i64.wrap ((i : Int) + 1) = (i : Int) + 1 := by rw [IntKind.wrap_i64]; omega
      have HP := hide hp
      clear hp hg
      by_cases h1 : p.lo ≤ (r : Int)
      · by_cases h2 : (r : Int) ≤ p.hi
        · have e1 : decide (p.lo ≤ (r : Int)) = true := decide_eq_true h1
          have e2 : decide ((r : Int) ≤ p.hi) = true := decide_eq_true h2
          go_wp2_with fail
          go_ret
          exact ⟨by rw [valF_first (unhide HP) h1 h2 (unhide HJ)]; rfl, unhide HB⟩
        · have e1 : decide (p.lo ≤ (r : Int)) = true := decide_eq_true h1
          have e2 : decide ((r : Int) ≤ p.hi) = false := decide_eq_false h2
          go_wp2_with fail
          go_roundg (n - (i + 1))
          case measure => omega
          case rel =>
            refine ⟨i + 1, by simp, by omega, rfl, fun j q hj hq => ?_, HB⟩
            rcases Nat.lt_or_ge j i with hji | hji
            · exact unhide HJ j q hji hq
            · obtain rfl : j = i := by omega
              rw [unhide HP] at hq
              cases hq
              exact fun h => by have := h.2; omega
      · have e1 : decide (p.lo ≤ (r : Int)) = false := decide_eq_false h1
        go_wp2_with fail
        go_roundg (n - (i + 1))
        case measure => omega
        case rel =>
          refine ⟨i + 1, by simp, by omega, rfl, fun j q hj hq => ?_, HB⟩
          rcases Nat.lt_or_ge j i with hji | hji
          · exact unhide HJ j q hji hq
          · obtain rfl : j = i := by omega
            rw [unhide HP] at hq
            cases hq
            exact fun h => by have := h.1; omega
    · obtain rfl : i = n := by omega
      go_wp2_with fail
      go_ret
      exact ⟨by rw [valF_none (fun j q hq => unhide HJ j q (by have := (List.getElem?_eq_some_iff.1 hq).1; rw [unhide HN] at this; exact this) hq)]; rfl, unhide HB⟩
end Go.Proofs.Ytokillomaemocaa.VK
