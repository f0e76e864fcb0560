/-
  Rows of a book of two rows: an iterator.
-/
import Derived.Test.YtijiiapnbeljnaaGreatDoorBrV
import Derived.Test.YtijiiapnbeljnaaGreatDoorSeq5
namespace Go.Proofs.YtijiiapnbeljnaaGreatDoor
open Go.RowKit Go.PlainAid Go.Lib Go.Shelf
open Go.Seq5 (Gives4 Kp4 KpR CalmR)
attribute [local go_sem] Oper.semAt_some
set_option linter.unusedVariables false
set_option linter.unusedSimpArgs false

theorem BrMap.look1 {w : World} {m : Nat} {l : List BrD} (h : BrMap w m l) {r : Int} (hr : i32Ok r) :
    (Instr.lookup 81 (.map (some m)) (.int .i32 r) false).run Tryz.prog w = .ok (brV ((findB l r).getD zeroB)) w := by
  obtain ⟨v, ps, hrun, hv⟩ := World.ownsMap.lookup h keyedR Tryz.underlying81 (zeroBr w) (brR_mk zeroB) (keyR hr)
  rw [(rowsD_all l).2.2] at hv
  have : v = brV ((findB l r).getD zeroB) := by
    cases hf : findB l r with
    | none => rw [hf] at hv; exact brR_inv hv
    | some x => rw [hf] at hv; exact brR_inv hv
  rw [this] at hrun
  exact hrun
theorem BrMap.walks {w w' : World} {m : Nat} {l : List BrD} (h : BrMap w m l) (hk : KeepsWalks w w') : BrMap w' m l := by
  obtain ⟨es, c, hb, r⟩ := h
  exact ⟨es, c, hk.same m _ hb rfl, r⟩
theorem BrMap.drew {w : World} {m : Nat} {l : List BrD} (h : BrMap w m l) (n : Nat) : BrMap (w.drewN n) m l := h
abbrev roBs (Bs bk : Nat) (k : Nat) : Prop := k = Bs ∨ k = bk

set_option maxRecDepth 100000 in
set_option maxHeartbeats 2000000 in
theorem rows1_in (p q : BrD) (hpq : p.at_ < q.at_) (hp : i32Ok p.at_) (hq : i32Ok q.at_) (rows : List BrD) (hfp : findB rows p.at_ = some p) (hfq : findB rows q.at_ = some q) (hrs : ∀ x, (findB rows x).isSome = true ↔ x = p.at_ ∨ x = q.at_) (hlen : rows.length ≤ 1099511627776)
    (n l Bs bk m : Nat) (tv : Value) (hn : 2 ≤ n) (J Jx : List BrD → World → Prop) (W : World)
    (hY : ∀ pre x W1, J pre W1 → (pre ++ [x]) <+: [p, q] → W.heap.size + 0 ≤ W1.heap.size → YieldAt Fence.wide (n - 1) Tryz.prog l #[brV x] W1 fun e W' =>
      (e = .returned (.bool true) ∧ J (pre ++ [x]) W' ∧ Kp4 0 (roBs Bs bk) W.heap.size W1 W') ∨ (e = .returned (.bool false) ∧ Jx (pre ++ [x]) W' ∧ KeepsFrom W.heap.size W1 W'))
    (hJ : OwnFrom W.heap.size J) (hBs : Boxed W Bs 27 (.pointer (some ⟨bk, 0, none⟩))) (hbk : W.heap[bk]? = some (.cells #[.map (some m), tv] 85 (0, 0))) (hmp : BrMap W m rows) (h0 : J [] W) :
    CallsIn Fence.wide n Tryz.prog 49 #[.func (.yield l) #[] #[], .pointer (some ⟨Bs, 0, none⟩)] W fun e W' => (∃ v, e = .returned v) ∧
      ((∃ xs, xs = [p, q] ∧ J xs W') ∨ (∃ pre, pre <+: [p, q] ∧ Jx pre W')) := by
  have HYY := hide hY
  clear hY
  have hF : ∀ f, Fence.wide.fn f := fun _ => trivial
  have hn1 : 1 ≤ n := by omega
  have hn2 : 1 ≤ n - 1 := by omega
  obtain ⟨W1, hW1⟩ : ∃ W1, W.alloc (.cells #[.map (some m)] 81) = W1 := ⟨_, rfl⟩
  have hb1 : Below W.heap.size W W1 := by rw [← hW1]; exact below_alloc _ _
  have bx1 : Boxed W1 W.heap.size 81 (.map (some m)) := by rw [← hW1]; exact heap_alloc_new W _
  have HMA := hide (made_book bk m tv W hbk)
  have HKE := hide (keys_any m W)
  rw [hW1] at HKE
  have HSO := hide (sorted2_any p q hpq rows hrs hlen W.heap.size m W1 bx1.cell (hmp.below hb1))
  have c0 := hBs.cell
  have cb : W.cell? ⟨bk, 0, none⟩ = some (.map (some m)) := by simp [World.cell?, hbk]
  have HST := hide (⟨hb1, hBs, hbk, hmp, h0⟩ : _ ∧ _ ∧ _ ∧ _ ∧ _)
  clear hb1 bx1 hBs hbk hmp h0 hW1
  refine callsIn_of_wp Tryz.func49 rfl trivial ?_ rfl
  simp only [Tryz.ntmps49, List.size_toArray, List.length_cons, List.length_nil, Nat.reduceAdd, Nat.reduceSub, Array.replicate_succ, Array.replicate_zero, List.push_toArray, List.append_toArray, List.nil_append, List.cons_append]
  gi_wp2_with (first | (gi_at_call 37; with_reducible refine CallsIn.mono (callsIn_wide.2 (unhide HMA)) ?_; rintro e w' ⟨rfl, h⟩; have h' := h.symm; subst h') | (gi_at_call 51; with_reducible refine CallsIn.mono (callsIn_wide.2 (unhide HKE)) ?_; rintro e w' ⟨rfl, h⟩; cases h) | (gi_at_call 50; with_reducible refine CallsIn.mono (callsIn_wide.2 (unhide HSO)) ?_; rintro e w2 ⟨hb2, g, cap, rfl, d0, d1, hgB, L, hgL⟩))
  obtain ⟨hb1, hBs, hbk, hmp, h0⟩ := unhide HST
  have hbw := hb1.trans (hb2.mono hb1.size)
  have hJ0 : J [] w2 := hJ [] W w2 none h0 ⟨hbw.os, hbw.tape, hbw.output, hbw.size, fun k hk _ => hbw.block k hk⟩ (fun r e => by cases e)
  have hgB' : W.heap.size ≤ g := Nat.le_trans hb1.size hgB
  have st0 : Boxed w2 Bs 27 (.pointer (some ⟨bk, 0, none⟩)) ∧ w2.heap[bk]? = some (.cells #[.map (some m), tv] 85 (0, 0)) ∧ BrMap w2 m rows ∧ w2.heap[g]? = some (.cells L 21 (0, 0)) ∧ W.heap.size ≤ w2.heap.size :=
    ⟨(hbw.block _ hBs.lt).trans hBs, (hbw.block _ (Array.getElem?_eq_some_iff.1 hbk).1).trans hbk, hmp.below hbw, hgL, hbw.size⟩
  have hL0 : L[0]? = some (.int .i32 p.at_) := by simpa [World.cell?, hgL] using d0
  have hL1 : L[1]? = some (.int .i32 q.at_) := by simpa [World.cell?, hgL] using d1
  clear HST HMA HKE HSO hb1 hBs hbk hmp h0 hbw d0 d1 hgL hb2 c0 cb
  gi_loopw [15] (fun v15 wr => ∃ i : Nat, v15 = .int .i64 (i : Nat) ∧ i ≤ 2 ∧ Boxed wr Bs 27 (.pointer (some ⟨bk, 0, none⟩)) ∧ wr.heap[bk]? = some (.cells #[.map (some m), tv] 85 (0, 0)) ∧ BrMap wr m rows ∧ wr.heap[g]? = some (.cells L 21 (0, 0)) ∧ W.heap.size ≤ wr.heap.size ∧ J ([p, q].take i) wr)
    (fun v15 _ => 2 - (RowKit.intOf v15).toNat)
  case atStart => exact ⟨0, rfl, by omega, st0.1, st0.2.1, st0.2.2.1, st0.2.2.2.1, st0.2.2.2.2, hJ0⟩
  case round =>
    obtain ⟨i, rfl, hi, s1, s2, s3, s4, s5, hJ1⟩ := hrel
    have one : ∀ (x : BrD), i < 2 → [p, q][i]? = some x → findB rows x.at_ = some x → i32Ok x.at_ → L[i]? = some (.int .i32 x.at_) → ∀ XX : Prop, (wr.cell? ⟨g, i, none⟩ = some (.int .i32 x.at_) → wr.cell? ⟨Bs, 0, none⟩ = some (.pointer (some ⟨bk, 0, none⟩)) → wr.cell? ⟨bk, 0, none⟩ = some (.map (some m)) → (Instr.lookup 81 (.map (some m)) (.int .i32 x.at_) false).run Tryz.prog wr = .ok (brV x) wr → XX) → XX := by
      intro x hi2 hx hfx hxo hLx XX hXX
      refine hXX (by simp [World.cell?, s4, hLx]) s1.cell (by simp [World.cell?, s2]) ?_
      have := s3.look1 hxo
      rw [hfx] at this
      exact this
    have step : ∀ (x : BrD) W3, [p, q].take i ++ [x] = [p, q].take (i + 1) → J ([p, q].take i ++ [x]) W3 → Kp4 0 (roBs Bs bk) W.heap.size wr W3 → Boxed W3 Bs 27 (.pointer (some ⟨bk, 0, none⟩)) ∧ W3.heap[bk]? = some (.cells #[.map (some m), tv] 85 (0, 0)) ∧ BrMap W3 m rows ∧ W3.heap[g]? = some (.cells L 21 (0, 0)) ∧ W.heap.size ≤ W3.heap.size ∧ J ([p, q].take (i + 1)) W3 := by
      intro x W3 hx hj hk
      exact ⟨hk.2.2 Bs _ (.inr (.inl (.inl rfl))) rfl s1, hk.2.2 bk _ (.inr (.inl (.inr rfl))) rfl s2, s3.walks hk.2.1, hk.2.2 g _ (.inr (.inr ⟨hgB', _, _, rfl⟩)) rfl s4, Nat.le_trans s5 hk.1.size, by rw [← hx]; exact hj⟩
    match i, hi with
    | 0, _ =>
      refine one p (by omega) rfl hfp hp hL0 _ fun k0 k1 k2 k3 => ?_
      have hYA := unhide HYY [] p wr hJ1 ⟨[q], rfl⟩ s5
      obtain ⟨fn, tmps, assign, body, hy, hR⟩ := hYA
      have HST := hide (step p)
      clear one step s1 s2 s3 s4
      gi_wp2
      refine hR.mono ?_
      rintro e W3 (⟨rfl, hj, hk⟩ | ⟨rfl, hj, hk⟩)
      · obtain ⟨t1, t2, t3, t4, t5, t6⟩ := unhide HST W3 rfl hj hk
        clear HST
        gi_wp2
        go_roundw
        case rel => exact ⟨1, rfl, by omega, t1, t2, t3, t4, t5, t6⟩
        case measure => simp [RowKit.intOf]
      · gi_wp2
        refine bodyPost_ret (results_none rfl _ _ _) rfl ?_
        exact ⟨⟨_, rfl⟩, .inr ⟨_, ⟨[q], rfl⟩, hj⟩⟩
    | 1, _ =>
      refine one q (by omega) rfl hfq hq hL1 _ fun k0 k1 k2 k3 => ?_
      have hYA := unhide HYY [p] q wr hJ1 ⟨[], rfl⟩ s5
      obtain ⟨fn, tmps, assign, body, hy, hR⟩ := hYA
      have HST := hide (step q)
      clear one step s1 s2 s3 s4
      gi_wp2
      refine hR.mono ?_
      rintro e W3 (⟨rfl, hj, hk⟩ | ⟨rfl, hj, hk⟩)
      · obtain ⟨t1, t2, t3, t4, t5, t6⟩ := unhide HST W3 rfl hj hk
        clear HST
        gi_wp2
        go_roundw
        case rel => exact ⟨2, rfl, by omega, t1, t2, t3, t4, t5, t6⟩
        case measure => simp [RowKit.intOf]
      · gi_wp2
        refine bodyPost_ret (results_none rfl _ _ _) rfl ?_
        exact ⟨⟨_, rfl⟩, .inr ⟨_, ⟨[], rfl⟩, hj⟩⟩
    | 2, _ =>
      clear one step
      gi_wp2
      refine bodyPost_end (results_none rfl _ _ _) rfl ?_
      exact ⟨⟨_, rfl⟩, .inl ⟨_, rfl, hJ1⟩⟩
theorem rows_gives (p q : BrD) (hpq : p.at_ < q.at_) (hp : i32Ok p.at_) (hq : i32Ok q.at_) (rows : List BrD) (hfp : findB rows p.at_ = some p) (hfq : findB rows q.at_ = some q) (hrs : ∀ x, (findB rows x).isSome = true ↔ x = p.at_ ∨ x = q.at_) (hlen : rows.length ≤ 1099511627776)
    (Bs bk m : Nat) (tv : Value) (w : World) (hBs : Boxed w Bs 27 (.pointer (some ⟨bk, 0, none⟩))) (hbk : w.heap[bk]? = some (.cells #[.map (some m), tv] 85 (0, 0))) (hmp : BrMap w m rows) (n : Nat) (hn : 2 ≤ n) :
    Gives4 n Tryz.prog 49 #[.pointer (some ⟨Bs, 0, none⟩)] (fun x : BrD => #[brV x]) 0 (roBs Bs bk) 0 0 (fun xs => xs = [p, q]) (fun pre => pre <+: [p, q]) w :=
  fun l J Jx W hW hJ hJx hcalm hY h0 => rows1_in p q hpq hp hq rows hfp hfq hrs hlen n l Bs bk m tv hn J Jx W hY hJ ((hW.block Bs hBs.lt).trans hBs) ((hW.block bk (Array.getElem?_eq_some_iff.1 hbk).1).trans hbk) (hmp.below hW) h0
theorem rows_any (v : Option Addr) (w : World) : Calls Tryz.prog 21 #[.pointer v] w fun e w' => e = .returned (.func (.func 49) #[] #[.pointer (some ⟨w.heap.size, 0, none⟩)]) ∧ w' = w.alloc (.cells #[.pointer v] 27) := by
  cases v with
  | none =>
    go_enter Tryz.func21, Tryz.ntmps21
    go_wp2
    go_ret
    exact ⟨rfl, rfl⟩
  | some a =>
    go_enter Tryz.func21, Tryz.ntmps21
    go_wp2
    go_ret
    exact ⟨rfl, rfl⟩
end Go.Proofs.YtijiiapnbeljnaaGreatDoor
