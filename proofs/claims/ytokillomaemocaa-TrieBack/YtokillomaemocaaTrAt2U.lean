/-
  The value of a number.
-/
import Derived.Test.YtokillomaemocaaTrAtU
import Derived.BigQuiet
import Derived.Deep.QuietTactic
namespace Go.Proofs.Ytokillomaemocaa.VU
open Go.RowKit Go.PlainAid Go.Lib Go.PRow Go.Maps Go.TrM
set_option linter.unusedVariables false
set_option linter.unusedSimpArgs false
/-- the number that is asked -/
def atN (r : Int) : Nat := if 0 ≤ r ∧ r ≤ 1114111 then r.toNat else 65533
set_option maxRecDepth 100000 in
set_option maxHeartbeats 4000000 in
theorem at_any (w : World) (B bt : Nat) (vt vm vl : Value) (vs : List El) (h : TrAt w B bt vt vm vl vs) (r : Int) (x : El) (hx : vs[atN r]? = some x) :
    Calls Try.prog 29 #[.pointer (some ⟨bt, 0, none⟩), .int .i32 r] w fun e w' => e = .returned (enc x) ∧ Below w.heap.size w w' := by
  obtain ⟨c0, c1, c2⟩ := cellT h.ht
  have hn : atN r < 1114112 := by unfold atN; split <;> omega
  have hN : (0 ≤ r ∧ r ≤ 1114111 ∧ r = (atN r : Int)) ∨ (r < 0 ∧ atN r = 65533) ∨ (0 ≤ r ∧ 1114111 < r ∧ atN r = 65533) := by
    unfold atN
    split <;> omega
  obtain ⟨hlc, hll⟩ := low_cell h.len hn hx
  obtain ⟨gl, cl, rfl, hcl, _, hd⟩ := h.rl.cell hlc
  have HAB := hideA (absent_any w B bt vt vm _ vs h)
  have HLO := hideA (fun W (hW : Below w.heap.size w W) => low_any W B bt vt vm _ vs (h.below hW) (atN r) hn)
  have hlt : lowP vs (atN r / 64) * 64 + atN r % 64 < (partsV vs).low.length := (List.getElem?_eq_some_iff.1 hlc).1
  generalize atN r = n at *
  generalize lowP vs (n / 64) = l at *
  generalize (partsV vs).low.length = L at *
  have q1 : IntKind.i64.wrap ((l : Int) * 64) = (l : Int) * 64 := by rw [IntKind.wrap_i64]; omega
  have q2 : IntKind.i64.wrap ((l : Int) * 64 + (n : Int) % 64) = (l : Int) * 64 + (n : Int) % 64 := by rw [IntKind.wrap_i64]; omega
  have q4 : (l : Int) * 64 + (n : Int) % 64 < (L : Int) := by omega
  have X2 := fun dq os => cell_regrown c2 dq os
  have XD := fun dq os => cell_regrown hd dq os
  clear hlc hcl h hx
  rcases hN with ⟨k1, k2, rfl⟩ | ⟨k1, rfl⟩ | ⟨k1, k2, rfl⟩
  · go_enter Try.func29, Try.ntmps29
    go_wp2_with fail
    refine (unhideA HAB).mono ?_
    rintro e w1 ⟨rfl, rfl⟩
    go_wp2_with fail
    refine wp_region_quiet_below (by kernel_rfl) (by kernel_rfl) ?_
    clear HAB c0 c1 c2 hd
    iterate 7 (go_big_quiet_step (fail))
    go_big_quiet_step (first | (go_at_call 68; exact Calls.regrown_of (unhideA HLO _ (below_regrown _ _ _))))
    iterate 8 (go_big_quiet_step (fail))
    refine wpQuiet_nil ?_
    intro _ hw'
    obtain ⟨⟨dq, osq⟩, hw''⟩ := hw'
    subst hw''
    have HB5 := hideA (below_regrown w1 dq osq)
    clear X2 XD HLO
    go_wp2
    go_ret
    exact ⟨rfl, unhideA HB5⟩
  · clear hd
    have XD2 : ∀ (dq : Nat) (os : Array Obj), (Sort.grow (redrawn w dq) os).cell? ⟨gl, l * 64 + 61, none⟩ = some (enc x) := XD
    have HLO2 : Hid (∀ W : World, Below w.heap.size w W → Calls Try.prog 68 #[.pointer (some ⟨bt, 0, none⟩), .int .i32 65533] W fun e w' => e = .returned (.int .i64 (l : Int)) ∧ Below W.heap.size W w') := HLO
    have q5 : IntKind.i64.wrap ((l : Int) * 64 + 61) = (l : Int) * 64 + 61 := by rw [IntKind.wrap_i64]; omega
    have q6 : (l : Int) * 64 + 61 < (L : Int) := by omega
    clear q2 q4 XD HLO hlt hn
    go_enter Try.func29, Try.ntmps29
    go_wp2_with fail
    refine (unhideA HAB).mono ?_
    rintro e w1 ⟨rfl, rfl⟩
    go_wp2_with fail
    refine wp_region_quiet_below (by kernel_rfl) (by kernel_rfl) ?_
    clear HAB c0 c1 c2
    iterate 7 (go_big_quiet_step (fail))
    go_big_quiet_step (first | (go_at_call 68; exact Calls.regrown_of (unhideA HLO2 _ (below_regrown _ _ _))))
    iterate 8 (go_big_quiet_step (fail))
    refine wpQuiet_nil ?_
    intro _ hw'
    obtain ⟨⟨dq, osq⟩, hw''⟩ := hw'
    subst hw''
    have HB5 := hideA (below_regrown w1 dq osq)
    clear X2 XD2 HLO2
    go_wp2
    go_ret
    exact ⟨rfl, unhideA HB5⟩
  · have k3 : ¬ r < 0 := by omega
    clear hd
    have XD2 : ∀ (dq : Nat) (os : Array Obj), (Sort.grow (redrawn w dq) os).cell? ⟨gl, l * 64 + 61, none⟩ = some (enc x) := XD
    have HLO2 : Hid (∀ W : World, Below w.heap.size w W → Calls Try.prog 68 #[.pointer (some ⟨bt, 0, none⟩), .int .i32 65533] W fun e w' => e = .returned (.int .i64 (l : Int)) ∧ Below W.heap.size W w') := HLO
    have q5 : IntKind.i64.wrap ((l : Int) * 64 + 61) = (l : Int) * 64 + 61 := by rw [IntKind.wrap_i64]; omega
    have q6 : (l : Int) * 64 + 61 < (L : Int) := by omega
    clear q2 q4 XD HLO hlt hn
    go_enter Try.func29, Try.ntmps29
    go_wp2_with fail
    refine (unhideA HAB).mono ?_
    rintro e w1 ⟨rfl, rfl⟩
    go_wp2_with fail
    refine wp_region_quiet_below (by kernel_rfl) (by kernel_rfl) ?_
    clear HAB c0 c1 c2
    iterate 7 (go_big_quiet_step (fail))
    go_big_quiet_step (first | (go_at_call 68; exact Calls.regrown_of (unhideA HLO2 _ (below_regrown _ _ _))))
    iterate 8 (go_big_quiet_step (fail))
    refine wpQuiet_nil ?_
    intro _ hw'
    obtain ⟨⟨dq, osq⟩, hw''⟩ := hw'
    subst hw''
    have HB5 := hideA (below_regrown w1 dq osq)
    clear X2 XD2 HLO2
    go_wp2
    go_ret
    exact ⟨rfl, unhideA HB5⟩
end Go.Proofs.Ytokillomaemocaa.VU
