/-
  Split of paras.
-/
import Derived.Test.YtkckkchnmgidgaaPaCo
namespace Go.Proofs.Ytkckkchnmgidgaa
open Go.RowKit Go.PlainAid Go.Lib Go.Seq4
set_option linter.unusedVariables false
set_option maxRecDepth 100000
set_option maxHeartbeats 1000000

theorem split_no (a b : Option Addr) (n c m d : Nat) (w : World) (h : n ≠ 0 ∧ n ≠ m) : Calls Try.prog 24 #[.slice a n c, .slice b m d] w fun e w' => e = .returned (.tuple #[.slice none 0 0, .int .i64 2]) ∧ w' = w := by
  have h1 : ((n : Int) != 0) = true := by simp; exact h.1
  have h2 : ((n : Int) != (m : Int)) = true := by simp; have := h.2; omega
  have h3 : (n != 0) = true := by simpa using h.1
  have h4 : (n != m) = true := by simpa using h.2
  go_enter Try.func24, Try.ntmps24
  go_wp2
  go_ret2
  exact ⟨rfl, rfl⟩
theorem split_any (a b : Option Addr) (n c m d : Nat) (rs cs : List Int) (w : World) (hn : rs.length = n) (hm : cs.length = m) (ha : Reads w a rs) (hb : ReadsB w b cs) (hnm : n = 0 ∨ n = m) (hmm : m ≤ 1099511627776) :
    Calls Try.prog 24 #[.slice a n c, .slice b m d] w fun e w' => ∃ v, e = .returned (.tuple #[v, .int .i64 0]) ∧ w'.ownsRow w.heap.size 46 2 v (splitL rs cs).length (pcsC (splitL rs cs)) ∧ Below w.heap.size w w' := by
  have HC : Hid (Calls Try.prog 46 #[.func (.func 55) #[] #[.pointer (some ⟨w.heap.size + 1, 0, none⟩), .pointer (some ⟨w.heap.size, 0, none⟩)]] ((w.alloc (.cells #[.slice a n c] 26)).alloc (.cells #[.slice b m d] 29))
      fun e w' => ∃ v, e = .returned v ∧ w'.ownsRow w.heap.size 46 2 v (splitL rs cs).length (pcsC (splitL rs cs)) ∧ Below w.heap.size w w') := by
    subst hn hm
    obtain ⟨W2, hW2⟩ : ∃ W2, (w.alloc (.cells #[.slice a rs.length c] 26)).alloc (.cells #[.slice b cs.length d] 29) = W2 := ⟨_, rfl⟩
    have hb2 : Below w.heap.size w W2 := by rw [← hW2]; exact ((Below.refl _ w).alloc (Nat.le_refl _) _).alloc (by simp) _
    have hs2 : W2.heap.size = w.heap.size + 2 := by rw [← hW2]; simp
    have x1 : W2.heap[w.heap.size]? = some (.cells #[.slice a rs.length c] 26 (0, 0)) := by
      rw [← hW2]; exact (Below.heap_alloc _ _ _ (by simp)).trans (World.alloc_heap_new w _)
    have x2 : W2.heap[w.heap.size + 1]? = some (.cells #[.slice b cs.length d] 29 (0, 0)) := by
      rw [← hW2]
      have := World.alloc_heap_new (w.alloc (.cells #[.slice a rs.length c] 26)) (.cells #[.slice b cs.length d] 29)
      rwa [World.size_alloc] at this
    have hH : HoldP W2 W2.heap.size (w.heap.size + 1) w.heap.size a b c d rs cs :=
      ⟨x2, x1, hb.below hb2, ha.below hb2, by omega, by omega, fun hz x hx => by have := hb.lt hz hx; omega, fun hz x hx => by have := ha.lt hz hx; omega⟩
    rw [hW2]
    refine (collect_any W2.heap.size (w.heap.size + 1) w.heap.size a b c d rs cs hnm hmm W2 hH (Nat.le_refl _)).mono ?_
    rintro e w' ⟨hb', v, rfl, hr⟩
    exact ⟨v, rfl, row_mono hr (by omega), hb2.trans (hb'.mono (by omega))⟩
  have HP := hide (paragraphs_any (.slice a n c) (.slice b m d) ⟨_, _, _, rfl⟩ ⟨_, _, _, rfl⟩ w)
  clear ha hb
  by_cases h0 : n = 0
  · subst h0
    clear hn hm
    go_enter Try.func24, Try.ntmps24
    go_wp2_with (first | (go_at_call 47; with_reducible refine (unhide HP).mono ?_; rintro e w' ⟨rfl, rfl⟩) | (go_at_call 46; with_reducible refine (unhide HC).mono ?_; rintro e w' ⟨v, rfl, hr, hb⟩; have HR := hide (And.intro hr hb); clear hr hb))
    go_ret2
    exact ⟨v, rfl, (unhide HR).1, (unhide HR).2⟩
  · have hz : ((n : Int) != 0) = true := by simpa using h0
    have hz2 : (n != 0) = true := by simpa using h0
    obtain rfl : n = m := by omega
    have hq : ((n : Int) != (n : Int)) = false := by simp
    have hq2 : (n != n) = false := by simp
    clear hn hm
    go_enter Try.func24, Try.ntmps24
    go_wp2_with (first | (go_at_call 47; with_reducible refine (unhide HP).mono ?_; rintro e w' ⟨rfl, rfl⟩) | (go_at_call 46; with_reducible refine (unhide HC).mono ?_; rintro e w' ⟨v, rfl, hr, hb⟩; have HR := hide (And.intro hr hb); clear hr hb))
    all_goals go_ret2
    all_goals exact ⟨v, rfl, (unhide HR).1, (unhide HR).2⟩
end Go.Proofs.Ytkckkchnmgidgaa
