/-
  The characters of units, one by one: first, last of package wide.
-/
import Derived.Test.YtghcheoholkpbaaWRow
import Derived.Deep.QuietTactic
import Derived.BigQuiet
namespace Go.Proofs.Ytghcheoholkpbaa
open Go.RowKit Go.PlainAid Go.Lib Go.Shelf
set_option linter.unusedVariables false

theorem cellU {W : World} {b off : Nat} {us : List Int} (h : ReadsU W (some ⟨b, off, none⟩) us) (k : Nat) (hk : k < us.length) : W.cell? ⟨b, off + k, none⟩ = some (.int .u16 (uA us k)) := by
  obtain ⟨b', off', e, hc⟩ := h k hk
  obtain ⟨rfl, rfl⟩ : b = b' ∧ off = off' := by simpa using e
  exact hc

set_option maxRecDepth 100000 in
set_option maxHeartbeats 1000000 in
theorem wfirst_two (W : World) (b off : Nat) (m c : Nat) (x y : Int) (c0 : W.cell? ⟨b, off, none⟩ = some (.int .u16 x)) (c1 : W.cell? ⟨b, off + 1, none⟩ = some (.int .u16 y)) (f0 : 0 ≤ x) (f1 : x ≤ 65535) (hm : 1 < m) (hm2 : m ≤ 4398046511104) :
    Calls Try.prog 75 #[.slice (some ⟨b, off, none⟩) m c] W fun e w' => e = .returned (.int .i32 (if highB x && lowB y then joinN x y else aloneN x)) ∧ ∃ n, w' = W.drewN n := by
  have hmi : (1 : Int) < m := by omega
  cases hp : (highB x && lowB y)
  · have HP := hide hp
    go_enter Try.func75, Try.ntmps75
    go_wp2
    go_quiet ((go_at_call 16; exact Calls.quiet_of_same (join_no _ _ _ (unhide HP))))
    go_wp2_with (go_at_call 84; refine (alone_any _ _ f0 f1).mono ?_; rintro e w' ⟨rfl, rfl⟩)
    go_ret
    exact ⟨rfl, _, rfl⟩
  · have hq : highB x = true ∧ lowB y = true := by simpa using hp
    have HP := hide hq
    go_enter Try.func75, Try.ntmps75
    go_wp2
    go_quiet ((go_at_call 16; exact Calls.quiet_of_same (join_yes _ _ _ (unhide HP).1 (unhide HP).2)))
    go_wp2
    go_ret
    exact ⟨rfl, _, rfl⟩
theorem wfirst_one (W : World) (b off : Nat) (c : Nat) (x : Int) (c0 : W.cell? ⟨b, off, none⟩ = some (.int .u16 x)) (f0 : 0 ≤ x) (f1 : x ≤ 65535) :
    Calls Try.prog 75 #[.slice (some ⟨b, off, none⟩) 1 c] W fun e w' => e = .returned (.int .i32 (aloneN x)) ∧ w' = W := by
  go_enter Try.func75, Try.ntmps75
  go_wp2_with (go_at_call 84; refine (alone_any _ _ f0 f1).mono ?_; rintro e w' ⟨rfl, rfl⟩)
  go_ret
  exact ⟨rfl, rfl⟩
theorem wfirst_any (W : World) (b off : Nat) (us : List Int) (i c : Nat) (hf : Fits us) (h : ReadsU W (some ⟨b, off, none⟩) us) (hi : i < us.length) (hn : us.length ≤ 4398046511104) :
    Calls Try.prog 75 #[.slice (some ⟨b, off + i, none⟩) (us.length - i) c] W fun e w' => e = .returned (.int .i32 (rA us i)) ∧ ∃ n, w' = W.drewN n := by
  have c0 := cellU h i hi
  obtain ⟨f0, f1⟩ := hf.at i
  by_cases h2 : i + 1 < us.length
  · have c1 := cellU h (i + 1) h2
    refine (wfirst_two W b (off + i) (us.length - i) c (uA us i) (uA us (i + 1)) c0 c1 f0 f1 (by omega) (by omega)).mono ?_
    rintro e w' ⟨rfl, hw⟩
    refine ⟨ret_int ?_, hw⟩
    unfold rA pairAt
    simp [h2]
  · have e1 : us.length - i = 1 := by omega
    rw [e1]
    refine (wfirst_one W b (off + i) c (uA us i) c0 f0 f1).mono ?_
    rintro e w' ⟨rfl, rfl⟩
    refine ⟨ret_int ?_, 0, rfl⟩
    unfold rA pairAt
    simp [h2]

set_option maxRecDepth 100000 in
set_option maxHeartbeats 1000000 in
theorem wlast_two (W : World) (b off : Nat) (e c : Nat) (x y : Int) (c0 : W.cell? ⟨b, off + e, none⟩ = some (.int .u16 x)) (c1 : W.cell? ⟨b, off + (e + 1), none⟩ = some (.int .u16 y)) (f0 : 0 ≤ y) (f1 : y ≤ 65535) (hm2 : e ≤ 4398046511104) :
    Calls Try.prog 79 #[.slice (some ⟨b, off, none⟩) (e + 2) c] W fun r w' => r = .returned (.int .i32 (if highB x && lowB y then joinN x y else aloneN y)) ∧ ∃ n, w' = W.drewN n := by
  have hmi : (0 : Int) < (e : Int) + 1 := by omega
  cases hp : (highB x && lowB y)
  · have HP := hide hp
    go_enter Try.func79, Try.ntmps79
    go_wp2
    go_quiet ((go_at_call 16; exact Calls.quiet_of_same (join_no _ _ _ (unhide HP))))
    go_wp2_with (go_at_call 84; refine (alone_any _ _ f0 f1).mono ?_; rintro e w' ⟨rfl, rfl⟩)
    go_ret
    exact ⟨rfl, _, rfl⟩
  · have hq : highB x = true ∧ lowB y = true := by simpa using hp
    have HP := hide hq
    go_enter Try.func79, Try.ntmps79
    go_wp2
    go_quiet ((go_at_call 16; exact Calls.quiet_of_same (join_yes _ _ _ (unhide HP).1 (unhide HP).2)))
    go_wp2
    go_ret
    exact ⟨rfl, _, rfl⟩
theorem wlast_one (W : World) (b off : Nat) (c : Nat) (x : Int) (c0 : W.cell? ⟨b, off, none⟩ = some (.int .u16 x)) (f0 : 0 ≤ x) (f1 : x ≤ 65535) :
    Calls Try.prog 79 #[.slice (some ⟨b, off, none⟩) 1 c] W fun e w' => e = .returned (.int .i32 (aloneN x)) ∧ w' = W := by
  go_enter Try.func79, Try.ntmps79
  go_wp2_with (go_at_call 84; refine (alone_any _ _ f0 f1).mono ?_; rintro e w' ⟨rfl, rfl⟩)
  go_ret
  exact ⟨rfl, rfl⟩
theorem wlast_any (W : World) (b off : Nat) (us : List Int) (e c : Nat) (hf : Fits us) (h : ReadsU W (some ⟨b, off, none⟩) us) (h0 : 0 < e) (he : e ≤ us.length) (hn : us.length ≤ 4398046511104) :
    Calls Try.prog 79 #[.slice (some ⟨b, off, none⟩) e c] W fun r w' => r = .returned (.int .i32 (lastR us e)) ∧ ∃ n, w' = W.drewN n := by
  obtain ⟨k, rfl⟩ : ∃ k, e = k + 1 := ⟨e - 1, by omega⟩
  obtain ⟨f0, f1⟩ := hf.at k
  cases k with
  | zero =>
    refine (wlast_one W b off c (uA us 0) (cellU h 0 (by omega)) f0 f1).mono ?_
    rintro e w' ⟨rfl, rfl⟩
    exact ⟨rfl, 0, rfl⟩
  | succ k =>
    refine (wlast_two W b off k c (uA us k) (uA us (k + 1)) (cellU h k (by omega)) (cellU h (k + 1) (by omega)) f0 f1 (by omega)).mono ?_
    rintro e w' ⟨rfl, hw⟩
    refine ⟨ret_int ?_, hw⟩
    unfold lastR
    simp

end Go.Proofs.Ytghcheoholkpbaa
