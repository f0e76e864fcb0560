/-
  ShowSpan of every range: the program's.
-/
import Derived.Test.YtebppdcnfbflkaaDoorPShow
namespace Go.Proofs.YtebppdcnfbflkaaDoor
open Go.RowKit Go.PlainAid Go.Lib Go.Shelf Go.PHexM
set_option linter.unusedVariables false

/-- the text of a range that may be -/
def spanS (a b : Nat) : ByteArray := if a = b then hexS (showLen a) a else hexS (showLen a) a ++ ⟨#[46, 46]⟩ ++ hexS (showLen b) b

set_option maxRecDepth 100000 in
theorem showSpan_no (lo hi : Int) (hm : mayB lo hi = false) (w : World) :
    Calls Tryd.prog 13 #[.agg #[.int .i32 lo, .int .i32 hi]] w fun e w' => e = .returned (.tuple #[.string ⟨#[]⟩, .int .i64 41]) ∧ Below w.heap.size w w' := by
  have HM : Hid (∀ W, Calls Tryd.prog 9 #[.agg #[.int .i32 lo, .int .i32 hi]] W fun e w' => e = .returned (.bool false) ∧ w' = W.alloc (.cells #[.int .i32 lo, .int .i32 hi] 23)) := fun W => by
    have := may_any lo hi W
    rwa [hm] at this
  clear hm
  go_enter Tryd.func13, Tryd.ntmps13
  go_wp2_with (go_at_call 9; refine (unhide HM _).mono ?_; rintro e w' ⟨rfl, rfl⟩)
  go_ret2
  exact ⟨rfl, ((Below.refl w.heap.size w).alloc (Nat.le_refl _) _).alloc (by simp) _⟩

set_option maxRecDepth 100000 in
set_option maxHeartbeats 1000000 in
theorem showSpan_yes (a b : Nat) (hab : a ≤ b) (hb : b ≤ 1114111) (w : World) (hg : tz16At w) :
    Calls Tryd.prog 13 #[.agg #[.int .i32 (a : Int), .int .i32 (b : Int)]] w fun e w' => e = .returned (.tuple #[.string (spanS a b), .int .i64 0]) ∧ Below w.heap.size w w' := by
  obtain ⟨S0, hS0⟩ : ∃ S0, S0 = spanS a b := ⟨_, rfl⟩
  rw [← hS0]
  have HS0 := hide hS0
  clear hS0
  have hgB : 6 < w.heap.size := World.block_lt_of_cell? _ _ hg
  have HM : Hid (∀ W, Calls Tryd.prog 9 #[.agg #[.int .i32 (a : Int), .int .i32 (b : Int)]] W fun e w' => e = .returned (.bool true) ∧ w' = W.alloc (.cells #[.int .i32 (a : Int), .int .i32 (b : Int)] 23)) := fun W => by
    have := may_any a b W
    rwa [show mayB a b = true from mayB_iff.2 ⟨by omega, by omega, by omega⟩] at this
  have HG := hide hg
  clear hg
  have b1 := ((Below.refl w.heap.size w).alloc (Nat.le_refl _) (.cells #[.int .i32 (a : Int), .int .i32 (b : Int)] 23)).alloc (by simp) (.cells #[.int .i32 (a : Int), .int .i32 (b : Int)] 23)
  have x1 : ((w.alloc (.cells #[.int .i32 (a : Int), .int .i32 (b : Int)] 23)).alloc (.cells #[.int .i32 (a : Int), .int .i32 (b : Int)] 23)).heap[w.heap.size]? = some (.cells #[.int .i32 (a : Int), .int .i32 (b : Int)] 23 (0, 0)) := by
    rw [Below.heap_alloc _ _ _ (by simp)]
    exact heap_alloc_new w _
  have HB1 := hide b1
  have HX1 := hide x1
  clear b1 x1
  go_enter Tryd.func13, Tryd.ntmps13
  go_wp2_with fail
  refine (unhide HM _).mono ?_
  rintro e w' ⟨rfl, h⟩
  subst h
  generalize (w.alloc (.cells #[.int .i32 (a : Int), .int .i32 (b : Int)] 23)).alloc (.cells #[.int .i32 (a : Int), .int .i32 (b : Int)] 23) = W at HB1 HX1 ⊢
  have d0 : W.cell? ⟨w.heap.size, 0, none⟩ = some (.int .i32 (a : Int)) := by simp [World.cell?, unhide HX1]
  have HS := hide (show_any a (by omega) W (((unhide HB1).cell hgB).trans (unhide HG)))
  go_wp2_with fail
  refine (unhide HS).mono ?_
  rintro e W2 ⟨rfl, hb2⟩
  have hlt : w.heap.size < W.heap.size := (Array.getElem?_eq_some_iff.1 (unhide HX1)).1
  have HX2 := hide ((hb2.block w.heap.size hlt).trans (unhide HX1))
  have HB2 := hide ((unhide HB1).trans (hb2.mono (unhide HB1).size))
  clear hb2 d0
  have d0 : W2.cell? ⟨w.heap.size, 0, none⟩ = some (.int .i32 (a : Int)) := by simp [World.cell?, unhide HX2]
  have d1 : W2.cell? ⟨w.heap.size, 1, none⟩ = some (.int .i32 (b : Int)) := by simp [World.cell?, unhide HX2]
  have hAz := hexS_size (showLen a) a
  have hA6 : showLen a ≤ 6 := by unfold showLen; split; omega; split <;> omega
  obtain ⟨A, hA⟩ : ∃ A, A = hexS (showLen a) a := ⟨_, rfl⟩
  rw [← hA] at hAz ⊢
  have HA := hide hA
  clear hA
  by_cases hq : a = b
  · have HE : Hid (S0 = A) := by show _ = _; rw [unhide HS0, unhide HA, spanS, if_pos hq]
    subst hq
    go_wp2
    go_ret2
    exact ⟨by rw [unhide HE]; rfl, unhide HB2⟩
  · have hq' : ¬ (a : Int) = (b : Int) := by omega
    have HSb := hide (show_any b hb W2 (((unhide HB2).cell hgB).trans (unhide HG)))
    go_wp2_with fail
    refine (unhide HSb).mono ?_
    rintro e W3 ⟨rfl, hb3⟩
    have HB3 := hide ((unhide HB2).trans (hb3.mono (unhide HB2).size))
    clear hb3
    have hBz := hexS_size (showLen b) b
    have hB6 : showLen b ≤ 6 := by unfold showLen; split; omega; split <;> omega
    obtain ⟨Bs, hBs⟩ : ∃ Bs, Bs = hexS (showLen b) b := ⟨_, rfl⟩
    rw [← hBs] at hBz ⊢
    have HE : Hid (S0 = A ++ ⟨#[46, 46]⟩ ++ Bs) := by show _ = _; rw [unhide HS0, unhide HA, hBs, spanS, if_neg hq]
    clear hBs
    have hAB : (A ++ (⟨#[46, 46]⟩ : ByteArray)).size ≤ 8 := by
      rw [ByteArray.size_append, hAz]; show showLen a + 2 ≤ 8; omega
    go_wp2
    go_ret2
    exact ⟨by rw [unhide HE]; rfl, unhide HB3⟩
end Go.Proofs.YtebppdcnfbflkaaDoor
