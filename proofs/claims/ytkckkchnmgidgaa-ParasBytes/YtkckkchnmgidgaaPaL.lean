/-
  Level, First of paras.
-/
import Derived.Test.YtkckkchnmgidgaaPaF
namespace Go.Proofs.Ytkckkchnmgidgaa
open Go.RowKit Go.PlainAid Go.Lib
set_option linter.unusedVariables false
set_option maxRecDepth 100000
set_option maxHeartbeats 2000000

def levV (cs : List Int) (b : Int) : Value := .tuple #[.int .i8 (levelL cs b).1, .int .i64 (levelL cs b).2]
theorem lev_auto (cs : List Int) : levelL cs (-1) = match frst 0 cs with | some j => if cA cs j = 1 then (0, 0) else (1, 0) | none => (0, 0) := by
  unfold levelL
  rw [if_neg (by decide), if_neg (by decide), if_pos rfl, fcls_frst]
  cases frst 0 cs <;> rfl
theorem level_any (a : Option Addr) (n c : Nat) (cs : List Int) (b : Int) (w : World) (hl : cs.length = n) (h : ReadsB w a cs) (hn : n ≤ 1099511627776) :
    Calls Try.prog 33 #[.slice a n c, .int .i8 b] w fun e w' => e = .returned (levV cs b) ∧ Below w.heap.size w w' := by
  by_cases h0 : b = 0
  · subst h0
    go_enter Try.func33, Try.ntmps33
    go_wp2
    go_ret2
    exact ⟨rfl, Below.refl _ _⟩
  by_cases h1 : b = 1
  · subst h1
    go_enter Try.func33, Try.ntmps33
    go_wp2
    go_ret2
    exact ⟨rfl, Below.refl _ _⟩
  by_cases h2 : b = -1
  · subst h2
    have HF := hide (firstStrong_any a n c cs w hl h hn)
    have HA := hide h
    have HL := hide (lev_auto cs)
    have HJ := hide (fun j (hj : frst 0 cs = some j) => frst_lt cs 0 j hj)
    have HV : Hid (levV cs (-1) = levV cs (-1)) := rfl
    rw [hl] at HJ
    clear h hl h0 h1
    generalize hV : levV cs (-1) = V at *
    have HV2 := hide hV
    clear hV
    cases hf : frst 0 cs with
    | none =>
      have HV3 : Hid (V = .tuple #[.int .i8 0, .int .i64 0]) := by
        show _ = _
        rw [← unhide HV2, levV, unhide HL, hf]
      rw [hf] at HF
      clear hf
      go_enter Try.func33, Try.ntmps33
      go_wp2_with (go_at_call 52; refine (unhide HF).mono ?_; rintro e w' ⟨rfl, hb⟩; dsimp only [optV])
      go_ret2
      exact ⟨by rw [unhide HV3]; rfl, hb⟩
    | some j =>
      have hj := unhide HJ j hf
      obtain ⟨bk, off, rfl, c1⟩ := unhide HA j (by have := frst_lt cs 0 j hf; exact this)
      have HB := hide (fun (w' : World) (hb : Below w.heap.size w w') => (hb.cell (p := ⟨bk, off + j, none⟩) (World.block_lt_of_cell? w _ c1)).trans c1)
      rw [hf] at HF
      clear c1
      by_cases hc : cA cs j = 1
      · have HV3 : Hid (V = .tuple #[.int .i8 0, .int .i64 0]) := by
          show _ = _
          rw [← unhide HV2, levV, unhide HL, hf]; simp only [hc, if_true]
        rw [hc] at HB
        clear hf hc
        go_enter Try.func33, Try.ntmps33
        go_wp2_with (go_at_call 52; refine (unhide HF).mono ?_; rintro e w' ⟨rfl, hb⟩; dsimp only [optV]; have c2 := unhide HB w' hb)
        go_ret2
        exact ⟨by rw [unhide HV3]; rfl, hb⟩
      · have HV3 : Hid (V = .tuple #[.int .i8 1, .int .i64 0]) := by
          show _ = _
          rw [← unhide HV2, levV, unhide HL, hf]; simp only [hc, if_false]
        generalize cA cs j = x at *
        clear hf
        go_enter Try.func33, Try.ntmps33
        go_wp2_with (go_at_call 52; refine (unhide HF).mono ?_; rintro e w' ⟨rfl, hb⟩; dsimp only [optV]; have c2 := unhide HB w' hb)
        go_ret2
        exact ⟨by rw [unhide HV3]; rfl, hb⟩
  · have HV : Hid (levV cs b = .tuple #[.int .i8 0, .int .i64 2]) := by
      show _ = _
      unfold levV levelL
      rw [if_neg h0, if_neg h1, if_neg h2]
    go_enter Try.func33, Try.ntmps33
    go_wp2
    go_ret2
    exact ⟨by rw [unhide HV]; rfl, Below.refl _ _⟩
end Go.Proofs.Ytkckkchnmgidgaa
