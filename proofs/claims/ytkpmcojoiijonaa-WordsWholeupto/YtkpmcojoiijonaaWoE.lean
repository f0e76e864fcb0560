/-
  Each of package words: an iterator that tells the words of a text, whatever the loop's body does with them.
-/
import Derived.Test.YtkpmcojoiijonaaWoD
import Derived.Test.YtkpmcojoiijonaaSeq3
import Derived.Test.YtkpmcojoiijonaaSpots
namespace Go.Proofs.Ytkpmcojoiijonaa
open Go.RowKit Go.PlainAid Go.Lib Go.Shelf Go.Seq2 Go.Seq3
attribute [local go_sem] World.iter
attribute [local go_sem] Oper.semAt_some
set_option linter.unusedVariables false

abbrev wordVals (s : ByteArray) (x : Nat × Nat) : Array Value := #[.int .i64 (x.1 : Nat), .string (s.extract x.1 x.2)]
abbrev strT (t : TypeId) : Prop := t = 9

theorem weach_in (s : ByteArray) (w : World) :
    Calls Try.prog 17 #[.string s] w fun e w' => e = .returned (.func (.func 40) #[] #[.pointer (some ⟨w.heap.size, 0, none⟩)]) ∧ w' = w.alloc (.cells #[.string s] 9) := by
  go_enter Try.func17, Try.ntmps17
  go_wp2
  go_ret
  exact ⟨rfl, rfl⟩

theorem wordsG_end (s : ByteArray) (pos f : Nat) (b : Bool) (h : ¬ pos < s.size) : wordsG s (chars s pos) f b = if b then [(f, s.size)] else [] := by
  rw [chars_end s pos h]; cases b <;> rfl
theorem wordsG_step (s : ByteArray) (pos f : Nat) (b : Bool) (h : pos < s.size) : wordsG s (chars s pos) f b =
    if blankB (((Utf8.decode s pos).1 : Nat) : Int) then (if b then (f, pos) :: wordsG s (chars s (pos + (Utf8.decode s pos).2)) f false else wordsG s (chars s (pos + (Utf8.decode s pos).2)) f false)
    else (if b then wordsG s (chars s (pos + (Utf8.decode s pos).2)) f true else wordsG s (chars s (pos + (Utf8.decode s pos).2)) pos true) := by
  rw [chars_step s pos h]
  cases b <;> rw [wordsG] <;> simp

set_option maxRecDepth 100000 in
set_option maxHeartbeats 2000000 in
theorem weach1_in (s : ByteArray) (hs : s.size ≤ 140737488355328) (n l Bs : Nat) (hn : 2 ≤ n) (J Jx : List (Nat × Nat) → World → Prop) (W : World)
    (hY : ∀ pre x W1, J pre W1 → (pre ++ [x]) <+: wordsL s → YieldAt Fence.wide (n - 1) Try.prog l (wordVals s x) W1 fun e W' =>
      (e = .returned (.bool true) ∧ J (pre ++ [x]) W' ∧ Kp2 0 (fun k => k = Bs) strT W.heap.size W1 W') ∨ (e = .returned (.bool false) ∧ Jx (pre ++ [x]) W' ∧ KeepsFrom W.heap.size W1 W'))
    (hJ : OwnFrom W.heap.size J) (hBs : Boxed W Bs 9 (.string s)) (h0 : J [] W) :
    CallsIn Fence.wide n Try.prog 40 #[.func (.yield l) #[] #[], .pointer (some ⟨Bs, 0, none⟩)] W fun e W' => (∃ v, e = .returned v) ∧
      ((∃ xs, xs = wordsL s ∧ J xs W') ∨ (∃ pre, pre <+: wordsL s ∧ Jx pre W')) := by
  have hn1 : 1 ≤ n := by omega
  have hn2 : 1 ≤ n - 1 := by omega
  have HX : Hid (wordsG s (chars s 0) 0 false = wordsL s) := rfl
  have HYY := hide hY
  clear hY
  refine callsIn_of_wp Try.func40 rfl trivial ?_ rfl
  simp only [Try.ntmps40, List.size_toArray, List.length_cons, List.length_nil, Nat.reduceAdd, Nat.reduceSub, Array.replicate_succ, Array.replicate_zero, List.push_toArray, List.append_toArray, List.nil_append, List.cons_append]
  have hc := hBs.cell
  have hF : ∀ f, Fence.wide.fn f := fun _ => trivial
  gi_wp2
  gi_loopw [3, 4] (fun v3 v4 wr => ∃ (pos f : Nat) (b : Bool) (pre : List (Nat × Nat)), v3 = .int .i64 (f : Nat) ∧ v4 = .bool b ∧ f ≤ pos ∧ pos ≤ s.size ∧ Hid (pre ++ wordsG s (chars s pos) f b = wordsL s) ∧ wr.heap[W.heap.size]? = some (.stringIter s pos) ∧ Boxed wr Bs 9 (.string s) ∧ J pre wr)
    (fun _ _ wr => s.size - wr.iterPos W.heap.size)
  case atStart =>
    exact ⟨0, 0, false, [], rfl, rfl, Nat.le_refl _, Nat.zero_le _, HX, heap_alloc_new W _, hBs.alloc _, hJ.alloc _ h0⟩
  case round =>
    obtain ⟨pos, f, b, pre, rfl, rfl, hfp, hps, HP, hit, hbx, hJs⟩ := hrel
    by_cases hlt : pos < s.size
    · have hnx := fun ty => run_next_any_at (P := Try.prog) wr W.heap.size s pos ty hit hlt
      have hb := dec_bounds s pos hlt
      have hst := wordsG_step s pos f b hlt
      have hit2 := iterAt_heap wr W.heap.size s pos (pos + (Utf8.decode s pos).2) hit
      have hbx2 := iterAt_boxed (p' := pos + (Utf8.decode s pos).2) hit hbx
      have hc2 := hbx2.cell
      have hJ2 : J pre (wr.iterAt W.heap.size s (pos + (Utf8.decode s pos).2)) := hJ _ _ _ (some W.heap.size) hJs (grownBy_iterAt wr W.heap.size s _) (fun r e => by cases e; exact ⟨Nat.le_refl _, _, hit, rfl⟩)
      have hmeas : s.size - (pos + (Utf8.decode s pos).2) < s.size - wr.iterPos W.heap.size := by rw [iterPos_of hit]; omega
      generalize hW3 : wr.iterAt W.heap.size s (pos + (Utf8.decode s pos).2) = W3 at *
      clear hW3
      have hBl := fun w => callsIn_wide (n := n - 1) |>.2 (blank_any (((Utf8.decode s pos).1 : Nat) : Int) w)
      cases hbl : blankB (((Utf8.decode s pos).1 : Nat) : Int) with
      | true =>
        rw [hbl] at hst hBl
        simp only [if_true] at hst
        have HB := hide hBl
        clear hBl hbl
        cases b with
        | true =>
          have HS : Hid (pre ++ [(f, pos)] ++ wordsG s (chars s (pos + (Utf8.decode s pos).2)) f false = wordsL s) := by
            show _ = _
            rw [← HP.out, hst]; simp
          obtain ⟨fn, tmps, assign, body, hy, hR⟩ := unhide HYY pre (f, pos) W3 hJ2 ⟨_, HS.out⟩
          dsimp only [wordVals] at hy
          clear hst HP
          gi_wp2_with (gi_at_call 13; refine (unhide HB W3).mono ?_; rintro e w' ⟨rfl, hw⟩; obtain rfl : W3 = w' := hw.symm)
          refine hR.mono ?_
          rintro e W5 (⟨rfl, hJ5, hk5⟩ | ⟨rfl, hJx5, hk5⟩)
          · have hit5 := walks_iter hk5.2.1 hit2
            have hbx5 := hk5.2.2 Bs _ _ (.inr rfl) rfl hbx2
            gi_wp2
            go_roundw
            case rel => exact ⟨_, f, false, _, rfl, rfl, by omega, hb.2.2, HS, hit5, hbx5, hJ5⟩
            case measure => rw [iterPos_of hit5]; exact hmeas
          · gi_wp2
            refine bodyPost_ret (results_none rfl _ _ _) rfl ?_
            exact ⟨⟨_, rfl⟩, .inr ⟨_, ⟨_, HS.out⟩, hJx5⟩⟩
        | false =>
          have HS : Hid (pre ++ wordsG s (chars s (pos + (Utf8.decode s pos).2)) f false = wordsL s) := by
            show _ = _
            rw [← HP.out, hst]; simp
          clear hst HP
          gi_wp2_with (gi_at_call 13; refine (unhide HB W3).mono ?_; rintro e w' ⟨rfl, hw⟩; obtain rfl : W3 = w' := hw.symm)
          go_roundw
          case rel => exact ⟨_, f, false, _, rfl, rfl, by omega, hb.2.2, HS, hit2, hbx2, hJ2⟩
          case measure => rw [iterPos_of hit2]; exact hmeas
      | false =>
        rw [hbl] at hst hBl
        simp only [Bool.false_eq_true, if_false] at hst
        have HB := hide hBl
        clear hBl hbl
        cases b with
        | true =>
          have HS : Hid (pre ++ wordsG s (chars s (pos + (Utf8.decode s pos).2)) f true = wordsL s) := by
            show _ = _
            rw [← HP.out, hst]; simp
          clear hst HP
          gi_wp2_with (gi_at_call 13; refine (unhide HB W3).mono ?_; rintro e w' ⟨rfl, hw⟩; obtain rfl : W3 = w' := hw.symm)
          go_roundw
          case rel => exact ⟨_, f, true, _, rfl, rfl, by omega, hb.2.2, HS, hit2, hbx2, hJ2⟩
          case measure => rw [iterPos_of hit2]; exact hmeas
        | false =>
          have HS : Hid (pre ++ wordsG s (chars s (pos + (Utf8.decode s pos).2)) pos true = wordsL s) := by
            show _ = _
            rw [← HP.out, hst]; simp
          clear hst HP
          gi_wp2_with (gi_at_call 13; refine (unhide HB W3).mono ?_; rintro e w' ⟨rfl, hw⟩; obtain rfl : W3 = w' := hw.symm)
          go_roundw
          case rel => exact ⟨_, pos, true, _, rfl, rfl, by omega, hb.2.2, HS, hit2, hbx2, hJ2⟩
          case measure => rw [iterPos_of hit2]; exact hmeas
    · have hnx := fun ty => run_next_end_at (P := Try.prog) wr W.heap.size s pos ty hit hlt
      have hen := wordsG_end s pos f b hlt
      have hc2 := hbx.cell
      cases b with
      | true =>
        have HS : Hid (pre ++ [(f, s.size)] = wordsL s) := by
          show _ = _
          rw [← HP.out, hen]; rfl
        obtain ⟨fn, tmps, assign, body, hy, hR⟩ := unhide HYY pre (f, s.size) wr hJs ⟨[], by rw [List.append_nil]; exact HS.out⟩
        dsimp only [wordVals] at hy
        clear hen HP
        gi_wp2
        refine hR.mono ?_
        rintro e W5 (⟨rfl, hJ5, hk5⟩ | ⟨rfl, hJx5, hk5⟩)
        · gi_wp2
          go_end0
          exact ⟨⟨_, rfl⟩, .inl ⟨_, HS.out, hJ5⟩⟩
        · gi_wp2
          go_end0
          exact ⟨⟨_, rfl⟩, .inr ⟨_, ⟨[], by rw [List.append_nil]; exact HS.out⟩, hJx5⟩⟩
      | false =>
        have HS : Hid (pre = wordsL s) := by
          show _ = _
          rw [← HP.out, hen]; simp
        clear hen HP
        gi_wp2
        go_end0
        exact ⟨⟨_, rfl⟩, .inl ⟨_, HS.out, hJs⟩⟩

theorem weach_gives (s : ByteArray) (hs : s.size ≤ 140737488355328) (n Bs : Nat) (hn : 2 ≤ n) (w : World) (hBs : Boxed w Bs 9 (.string s)) :
    Gives3 n Try.prog 40 #[.pointer (some ⟨Bs, 0, none⟩)] (wordVals s) 0 (fun k => k = Bs) strT (fun xs => xs = wordsL s) (fun pre => pre <+: wordsL s) w :=
  fun l J Jx W hW hJ hJx hY h0 => weach1_in s hs n l Bs hn J Jx W hY hJ ((hW.block Bs hBs.lt).trans hBs) h0
end Go.Proofs.Ytkpmcojoiijonaa
