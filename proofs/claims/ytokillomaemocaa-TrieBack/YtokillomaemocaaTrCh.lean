/-
  slices.Chunk of a row of numbers, 64 at a time.
-/
import Derived.Test.YtokillomaemocaaTrQe
import Derived.Test.YtokillomaemocaaSeqM
import Derived.LoopIn
import Derived.ControlIn
import Derived.BigFrameIn
import Derived.BigGuardIn
import Derived.BigRegionIn
import Derived.Lib.QuietBelow
namespace Go.Proofs.Ytokillomaemocaa
open Go.RowKit Go.PlainAid Go.Lib Go.PRow Go.Maps Go.TrM Go.SeqM
attribute [local go_sem] Oper.semAt_some
set_option linter.unusedVariables false
set_option linter.unusedSimpArgs false
theorem hideC {p : Prop} (h : p) : Hid p := h
theorem unhideC {p : Prop} (h : Hid p) : p := h
def chE (g : Nat) (k : Nat) : Array Value := #[.slice (some ⟨g, 64 * k, none⟩) 64 64]
set_option maxRecDepth 100000 in
set_option maxHeartbeats 2000000 in
theorem chunk_in (b1 b2 g cap kk n l : Nat) (hn : 2 ≤ n) (hkk : kk ≤ 1048576) (hcap : 64 * kk ≤ cap) (hcm : cap ≤ maxLen) (J Jx : List Nat → World → Prop) (W : World)
    (hY : ∀ pre x W1, J pre W1 → (∃ j, j ≤ kk ∧ pre ++ [x] = List.range j) → W.heap.size + 0 ≤ W1.heap.size → YieldAt Fence.wide (n - 1) Try.prog l (chE g x) W1 fun e W' =>
      (e = .returned (.bool true) ∧ J (pre ++ [x]) W' ∧ Kp4 0 (fun k => k = b1 ∨ k = b2) W.heap.size W1 W') ∨ (e = .returned (.bool false) ∧ Jx (pre ++ [x]) W' ∧ KeepsFrom W.heap.size W1 W'))
    (hJ : OwnFrom W.heap.size J) (h1 : W.heap[b1]? = some (.cells #[.slice (some ⟨g, 0, none⟩) (64 * kk) cap] 24 (0, 0))) (h2 : W.heap[b2]? = some (.cells #[.int .i64 64] 3 (0, 0))) (h0 : J [] W) :
    CallsIn Fence.wide n Try.prog 121 #[.func (.yield l) #[] #[], .pointer (some ⟨b1, 0, none⟩), .pointer (some ⟨b2, 0, none⟩)] W fun e W' => (∃ v, e = .returned v) ∧
      ((∃ xs, xs = List.range kk ∧ J xs W') ∨ (∃ pre, (∃ j, j ≤ kk ∧ pre = List.range j) ∧ Jx pre W')) := by
  have HYY := hideC hY
  unfold maxLen at hcm
  clear hY
  refine callsIn_of_wp Try.func121 rfl trivial ?_ rfl
  simp only [Try.ntmps121, List.size_toArray, List.length_cons, List.length_nil, Nat.reduceAdd, Nat.reduceSub, Array.replicate_succ, Array.replicate_zero, List.push_toArray, List.append_toArray, List.nil_append, List.cons_append]
  have hn1 : 1 ≤ n := by omega
  have hn2 : 1 ≤ n - 1 := by omega
  have hF : ∀ f, Fence.wide.fn f := fun _ => trivial
  gi_wp2
  gi_loopw [4] (fun v4 wr => ∃ k : Nat, v4 = .int .i64 ((64 * k : Nat) : Int) ∧ k ≤ kk ∧ wr.heap[b1]? = some (.cells #[.slice (some ⟨g, 0, none⟩) (64 * kk) cap] 24 (0, 0)) ∧ wr.heap[b2]? = some (.cells #[.int .i64 64] 3 (0, 0)) ∧ W.heap.size ≤ wr.heap.size ∧ J (List.range k) wr)
    (fun v4 _ => 64 * kk - (RowKit.intOf v4).toNat)
  case atStart => exact ⟨0, by simp, Nat.zero_le _, h1, h2, Nat.le_refl _, h0⟩
  case round =>
    obtain ⟨k, rfl, hk, hb1, hb2, hsz, hJ1⟩ := hrel
    have c1 : wr.cell? ⟨b1, 0, none⟩ = some (.slice (some ⟨g, 0, none⟩) (64 * kk) cap) := by simp [World.cell?, hb1]
    have c2 : wr.cell? ⟨b2, 0, none⟩ = some (.int .i64 64) := by simp [World.cell?, hb2]
    by_cases hlt : k < kk
    · have HS : Hid (List.range k ++ [k] = List.range (k + 1)) := (List.range_succ).symm
      have HY1 := hideC (fun (X : World) (hX : J (List.range k) X) (hs : W.heap.size ≤ X.heap.size) => unhideC HYY (List.range k) k X hX ⟨k + 1, hlt, unhideC HS⟩ hs)
      have HJ1 := hideC hJ1
      have HJ := hideC hJ
      have HB := hideC (And.intro hb1 hb2)
      obtain ⟨i, hi⟩ : ∃ i, i = 64 * k := ⟨_, rfl⟩
      obtain ⟨L, hL⟩ : ∃ L, L = 64 * kk := ⟨_, rfl⟩
      rw [← hi]
      rw [← hL] at c1 hcap
      have h64 : i + 64 ≤ L := by omega
      have HI := hideC (And.intro hi hL)
      clear hi hL hJ1 hJ hb1 hb2
      have hm1 : ¬ ((L - i : Nat) : Int) < 64 := by omega
      have hm2 : (i : Int) < (L : Int) := by omega
      gi_wp2
      refine wpIn_wide.2 ?_
      go_quiet (fail)
      have hJq : J (List.range k) (wr.drewN nq) := unhideC HJ _ wr (wr.drewN nq) none (unhideC HJ1) (grown_drewN _ _ _) (fun r e => by cases e)
      have d1 : (wr.drewN nq).heap[b1]? = some (.cells #[.slice (some ⟨g, 0, none⟩) (64 * kk) cap] 24 (0, 0)) := (unhideC HB).1
      have d2 : (wr.drewN nq).heap[b2]? = some (.cells #[.int .i64 64] 3 (0, 0)) := (unhideC HB).2
      have e1 : (wr.drewN nq).cell? ⟨b1, 0, none⟩ = some (.slice (some ⟨g, 0, none⟩) L cap) := c1
      have hszq : W.heap.size ≤ (wr.drewN nq).heap.size := hsz
      generalize wr.drewN nq = W1 at *
      obtain ⟨fn, tmps, assign, body, hy, hR⟩ := unhideC HY1 W1 hJq hszq
      have hii : i + 64 - i = 64 := by omega
      dsimp only [chE] at hy
      rw [← (unhideC HI).1] at hy
      have HD := hideC (And.intro d1 d2)
      clear c1 c2 d1 d2 hJq
      gi_wp2
      refine hR.mono ?_
      rintro e W5 (⟨rfl, hJ5, hk5⟩ | ⟨rfl, hJx5, hk5⟩)
      · have g1 := hk5.2.2 b1 _ (.inr (.inl rfl)) rfl (unhideC HD).1
        have g2 := hk5.2.2 b2 _ (.inr (.inr rfl)) rfl (unhideC HD).2
        have f2 : W5.cell? ⟨b2, 0, none⟩ = some (.int .i64 64) := by simp [World.cell?, g2]
        have hsz5 : W.heap.size ≤ W5.heap.size := Nat.le_trans hszq hk5.1.size
        rw [unhideC HS] at hJ5
        have HG := hideC (And.intro g1 (And.intro g2 hJ5))
        clear g1 g2 hJ5
        gi_wp2
        go_roundw
        case rel => exact ⟨k + 1, by rw [(unhideC HI).1]; congr 1, by omega, (unhideC HG).1, (unhideC HG).2.1, hsz5, (unhideC HG).2.2⟩
        case measure => have := unhideC HI; simp [RowKit.intOf]; omega
      · gi_wp2
        refine bodyPost_ret (results_none rfl _ _ _) rfl ?_
        exact ⟨⟨_, rfl⟩, .inr ⟨_, ⟨k + 1, by omega, unhideC HS⟩, hJx5⟩⟩
    · obtain rfl : k = kk := by omega
      have HJ2 := hideC hJ1
      clear hJ1 hb1 hb2
      gi_wp2
      refine bodyPost_end (results_none rfl _ _ _) rfl ?_
      exact ⟨⟨_, rfl⟩, .inl ⟨_, rfl, unhideC HJ2⟩⟩
theorem chunk_gives (b1 b2 g cap kk : Nat) (hkk : kk ≤ 1048576) (hcap : 64 * kk ≤ cap) (hcm : cap ≤ maxLen) (w : World) (h1 : w.heap[b1]? = some (.cells #[.slice (some ⟨g, 0, none⟩) (64 * kk) cap] 24 (0, 0))) (h2 : w.heap[b2]? = some (.cells #[.int .i64 64] 3 (0, 0))) (n : Nat) (hn : 2 ≤ n) :
    Gives4 n Try.prog 121 #[.pointer (some ⟨b1, 0, none⟩), .pointer (some ⟨b2, 0, none⟩)] (chE g) 0 (fun k => k = b1 ∨ k = b2) 0 0 (fun xs => xs = List.range kk) (fun pre => ∃ j, j ≤ kk ∧ pre = List.range j) w :=
  fun l J Jx W hW hJ hJx hcalm hY h0 => chunk_in b1 b2 g cap kk n l hn hkk hcap hcm J Jx W hY hJ ((hW.block b1 (Array.getElem?_eq_some_iff.1 h1).1).trans h1) ((hW.block b2 (Array.getElem?_eq_some_iff.1 h2).1).trans h2) h0
theorem chunk_any (v : Value) (hv : ∃ a n c, v = .slice a n c) (w : World) : Calls Try.prog 94 #[v, .int .i64 64] w fun e w' => e = .returned (.func (.func 121) #[] #[.pointer (some ⟨w.heap.size, 0, none⟩), .pointer (some ⟨w.heap.size + 1, 0, none⟩)]) ∧ w' = (w.alloc (.cells #[v] 24)).alloc (.cells #[.int .i64 64] 3) := by
  obtain ⟨a, n, c, rfl⟩ := hv
  go_enter Try.func94, Try.ntmps94
  go_wp2
  go_ret
  exact ⟨rfl, rfl⟩
end Go.Proofs.Ytokillomaemocaa
