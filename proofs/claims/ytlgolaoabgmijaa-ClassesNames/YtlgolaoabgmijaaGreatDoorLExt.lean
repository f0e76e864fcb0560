/-
  extents of package lines: an iterator that tells where each line of a text lies.
-/
import Derived.Test.YtlgolaoabgmijaaGreatDoorLs
import Derived.Test.YtlgolaoabgmijaaGreatDoorSq
namespace Go.Proofs.YtlgolaoabgmijaaGreatDoor
open Go.RowKit Go.PlainAid Go.Lib Go.Shelf Go.Seq2 Go.Seq3
attribute [local go_sem] Oper.semAt_some
set_option linter.unusedVariables false

/-- how many bytes the mark has -/
def markN (s : ByteArray) : Nat := if hasPrefix (L s) [239, 187, 191] = true then 3 else 0
theorem mark_le (s : ByteArray) : markN s ≤ s.size := by
  unfold markN
  split
  · rename_i h
    have := (List.isPrefixOf_iff_prefix.1 h).length_le
    rw [L_len] at this; exact this
  · exact Nat.zero_le _
/-- where the lines lie, from the one with the number no on, which begins at i: their numbers, beginnings, ends -/
def exts (s : ByteArray) : Nat → Nat → Nat → List (Nat × Nat × Nat)
  | 0, _, _ => []
  | f + 1, no, i => (no, i, endTo s i) :: (if hasEnd s i = true then exts s f (no + 1) (endNext s i) else [])
def extsI (s : ByteArray) (no i : Nat) : List (Nat × Nat × Nat) := exts s (s.size + 1 - i) no i
def extsL (s : ByteArray) : List (Nat × Nat × Nat) := extsI s 1 (markN s)
theorem exts_any (s : ByteArray) : ∀ (f g no i : Nat), i ≤ s.size → s.size + 1 - i ≤ f → s.size + 1 - i ≤ g → exts s f no i = exts s g no i := by
  intro f
  induction f with
  | zero => intro g no i hi h; omega
  | succ f ih =>
    intro g no i hi h1 h2
    cases g with
    | zero => omega
    | succ g =>
      unfold exts
      have hb := end_bounds s i hi
      split
      · rename_i he
        have := hb.2.2.2.2.1 he
        rw [ih g (no + 1) (endNext s i) hb.2.2.2.1 (by omega) (by omega)]
      · rfl
theorem extsI_step (s : ByteArray) (no i : Nat) (hi : i ≤ s.size) : extsI s no i = (no, i, endTo s i) :: (if hasEnd s i = true then extsI s (no + 1) (endNext s i) else []) := by
  unfold extsI
  rw [show s.size + 1 - i = (s.size - i) + 1 by omega]
  show (no, i, endTo s i) :: _ = _
  congr 1
  split
  · rename_i he
    have hb := end_bounds s i hi
    have := hb.2.2.2.2.1 he
    exact exts_any s _ _ _ _ hb.2.2.2.1 (by omega) (by omega)
  · rfl
abbrev extVals (x : Nat × Nat × Nat) : Array Value := #[.int .i64 (x.1 : Nat), .agg #[.int .i64 (x.2.1 : Nat), .int .i64 (x.2.2 : Nat)]]
abbrev allT (t : TypeId) : Prop := True

theorem extents_in (s : ByteArray) (w : World) :
    Calls Tryz.prog 87 #[.string s] w fun e w' => e = .returned (.func (.func 126) #[] #[.pointer (some ⟨w.heap.size, 0, none⟩)]) ∧ w' = w.alloc (.cells #[.string s] 9) := by
  go_enter Tryz.func87, Tryz.ntmps87
  go_wp2
  go_ret
  exact ⟨rfl, rfl⟩

set_option maxRecDepth 100000 in
set_option maxHeartbeats 2000000 in
theorem ext1_in (s : ByteArray) (hs : s.size ≤ 140737488355328) (n l Bs : Nat) (hn : 2 ≤ n) (J Jx : List (Nat × Nat × Nat) → World → Prop) (W : World)
    (hY : ∀ pre x W1, J pre W1 → (pre ++ [x]) <+: extsL s → YieldAt Fence.wide (n - 1) Tryz.prog l (extVals x) W1 fun e W' =>
      (e = .returned (.bool true) ∧ J (pre ++ [x]) W' ∧ Kp2 0 (fun k => k = Bs) allT W.heap.size W1 W') ∨ (e = .returned (.bool false) ∧ Jx (pre ++ [x]) W' ∧ KeepsFrom W.heap.size W1 W'))
    (hBs : Boxed W Bs 9 (.string s)) (h0 : J [] W) :
    CallsIn Fence.wide n Tryz.prog 126 #[.func (.yield l) #[] #[], .pointer (some ⟨Bs, 0, none⟩)] W fun e W' => (∃ v, e = .returned v) ∧
      ((∃ xs, xs = extsL s ∧ J xs W') ∨ (∃ pre, pre <+: extsL s ∧ Jx pre W')) := by
  have hmx : s.size ≤ maxLen := by unfold maxLen; omega
  have hn1 : 1 ≤ n := by omega
  have hn2 : 1 ≤ n - 1 := by omega
  have hE := fun i w (hi : i ≤ s.size) => callsIn_wide (n := n - 1) |>.2 (lineEnd_any s i w hmx hi)
  have HE := hide hE
  clear hE
  have hml := mark_le s
  have hP := fun w => Tryz.strings_HasPrefix s ⟨#[239, 187, 191]⟩ w
  have HX : Hid (extsI s 1 (markN s) = extsL s) := rfl
  have HYY := hide hY
  clear hY
  refine callsIn_of_wp Tryz.func126 rfl trivial ?_ rfl
  simp only [Tryz.ntmps126, List.size_toArray, List.length_cons, List.length_nil, Nat.reduceAdd, Nat.reduceSub, Array.replicate_succ, Array.replicate_zero, List.push_toArray, List.append_toArray, List.nil_append, List.cons_append]
  have hc := hBs.cell
  have hF : ∀ f, Fence.wide.fn f := fun _ => trivial
  cases hm : hasPrefix (L s) [239, 187, 191] with
  | true =>
    have hP' : ∀ w, CallsIn Fence.wide (n - 1) Tryz.prog 127 #[.string s, .string ⟨#[239, 187, 191]⟩] w fun e w' => e = .returned (.bool true) ∧ w = w' := fun w => callsIn_wide.2 ((hP w).mono fun e w' ⟨a, b⟩ => ⟨by rw [a]; exact congrArg _ (congrArg _ hm), b.symm⟩)
    have hmk : markN s = 3 := by unfold markN; rw [hm]; rfl
    rw [hmk] at HX hml
    have HP := hide hP'
    clear hP hP' hm hmk
    gi_wp2_with (gi_at_call 127; refine (unhide HP _).mono ?_; rintro e w' ⟨rfl, rfl⟩)

    gi_loopw [3, 4] (fun v3 v4 wr => ∃ (i no : Nat) (pre : List (Nat × Nat × Nat)), v3 = .int .i64 (i : Nat) ∧ v4 = .int .i64 (no : Nat) ∧ i ≤ s.size ∧ no ≤ i + 1 ∧ Hid (pre ++ extsI s no i = extsL s) ∧ Boxed wr Bs 9 (.string s) ∧ J pre wr)
      (fun v3 _ _ => s.size + 1 - (RowKit.intOf v3).toNat)
    case atStart => exact ⟨3, 1, [], rfl, rfl, hml, by omega, HX, hBs, h0⟩
    case round =>
      obtain ⟨i, no, pre, rfl, rfl, hi, hno, HP, hbx, hJ⟩ := hrel
      have hb := end_bounds s i hi
      have cb := hbx.cell
      have HS : Hid (pre ++ [(no, i, endTo s i)] ++ (if hasEnd s i = true then extsI s (no + 1) (endNext s i) else []) = extsL s) := by
        show _ = _
        rw [← HP.out, extsI_step s no i hi]; simp
      obtain ⟨fn, tmps, assign, body, hy, hR⟩ := unhide HYY pre (no, i, endTo s i) wr hJ ⟨_, HS.out⟩
      dsimp only [extVals] at hy
      have hLE := unhide HE i wr hi
      obtain ⟨b1, b2, b3, b4, b5, b6⟩ := hb
      generalize hT : endTo s i = T at *
      generalize hN : endNext s i = N at *
      cases hh : hasEnd s i with
      | true =>
        rw [hh] at hLE HS b5
        simp only [if_true] at HS
        have b5' := b5 rfl
        clear b5 b6 hh hT hN HP
        gi_wp2_with (gi_at_call 128; refine hLE.mono ?_; rintro e w' ⟨rfl, h⟩; cases h)
        refine hR.mono ?_
        rintro e W5 (⟨rfl, hJ5, hk5⟩ | ⟨rfl, hJx5, hk5⟩)
        · have hbx5 := hk5.2.2 Bs _ _ (.inr rfl) trivial hbx
          gi_wp2
          go_roundw
          case rel => exact ⟨N, no + 1, _, rfl, by go_num, b4, by omega, HS, hbx5, hJ5⟩
          case measure => simp [RowKit.intOf]; omega
        · gi_wp2
          refine bodyPost_ret (results_none rfl _ _ _) rfl ?_
          exact ⟨⟨_, rfl⟩, .inr ⟨_, ⟨_, HS.out⟩, hJx5⟩⟩
      | false =>
        rw [hh] at hLE HS
        simp only [Bool.false_eq_true, if_false, List.append_nil] at HS
        clear b5 b6 hh hT hN HP
        gi_wp2_with (gi_at_call 128; refine hLE.mono ?_; rintro e w' ⟨rfl, h⟩; cases h)
        refine hR.mono ?_
        rintro e W5 (⟨rfl, hJ5, hk5⟩ | ⟨rfl, hJx5, hk5⟩)
        · gi_wp2
          refine bodyPost_ret (results_none rfl _ _ _) rfl ?_
          exact ⟨⟨_, rfl⟩, .inl ⟨_, HS.out, hJ5⟩⟩
        · gi_wp2
          refine bodyPost_ret (results_none rfl _ _ _) rfl ?_
          exact ⟨⟨_, rfl⟩, .inr ⟨_, ⟨[], by rw [List.append_nil]; exact HS.out⟩, hJx5⟩⟩
  | false =>
    have hP' : ∀ w, CallsIn Fence.wide (n - 1) Tryz.prog 127 #[.string s, .string ⟨#[239, 187, 191]⟩] w fun e w' => e = .returned (.bool false) ∧ w = w' := fun w => callsIn_wide.2 ((hP w).mono fun e w' ⟨a, b⟩ => ⟨by rw [a]; exact congrArg _ (congrArg _ hm), b.symm⟩)
    have hmk : markN s = 0 := by unfold markN; rw [hm]; rfl
    rw [hmk] at HX hml
    have HP := hide hP'
    clear hP hP' hm hmk
    gi_wp2_with (gi_at_call 127; refine (unhide HP _).mono ?_; rintro e w' ⟨rfl, rfl⟩)
    gi_loopw [3, 4] (fun v3 v4 wr => ∃ (i no : Nat) (pre : List (Nat × Nat × Nat)), v3 = .int .i64 (i : Nat) ∧ v4 = .int .i64 (no : Nat) ∧ i ≤ s.size ∧ no ≤ i + 1 ∧ Hid (pre ++ extsI s no i = extsL s) ∧ Boxed wr Bs 9 (.string s) ∧ J pre wr)
      (fun v3 _ _ => s.size + 1 - (RowKit.intOf v3).toNat)
    case atStart => exact ⟨0, 1, [], rfl, rfl, hml, by omega, HX, hBs, h0⟩
    case round =>
      obtain ⟨i, no, pre, rfl, rfl, hi, hno, HP, hbx, hJ⟩ := hrel
      have hb := end_bounds s i hi
      have cb := hbx.cell
      have HS : Hid (pre ++ [(no, i, endTo s i)] ++ (if hasEnd s i = true then extsI s (no + 1) (endNext s i) else []) = extsL s) := by
        show _ = _
        rw [← HP.out, extsI_step s no i hi]; simp
      obtain ⟨fn, tmps, assign, body, hy, hR⟩ := unhide HYY pre (no, i, endTo s i) wr hJ ⟨_, HS.out⟩
      dsimp only [extVals] at hy
      have hLE := unhide HE i wr hi
      obtain ⟨b1, b2, b3, b4, b5, b6⟩ := hb
      generalize hT : endTo s i = T at *
      generalize hN : endNext s i = N at *
      cases hh : hasEnd s i with
      | true =>
        rw [hh] at hLE HS b5
        simp only [if_true] at HS
        have b5' := b5 rfl
        clear b5 b6 hh hT hN HP
        gi_wp2_with (gi_at_call 128; refine hLE.mono ?_; rintro e w' ⟨rfl, h⟩; cases h)
        refine hR.mono ?_
        rintro e W5 (⟨rfl, hJ5, hk5⟩ | ⟨rfl, hJx5, hk5⟩)
        · have hbx5 := hk5.2.2 Bs _ _ (.inr rfl) trivial hbx
          gi_wp2
          go_roundw
          case rel => exact ⟨N, no + 1, _, rfl, by go_num, b4, by omega, HS, hbx5, hJ5⟩
          case measure => simp [RowKit.intOf]; omega
        · gi_wp2
          refine bodyPost_ret (results_none rfl _ _ _) rfl ?_
          exact ⟨⟨_, rfl⟩, .inr ⟨_, ⟨_, HS.out⟩, hJx5⟩⟩
      | false =>
        rw [hh] at hLE HS
        simp only [Bool.false_eq_true, if_false, List.append_nil] at HS
        clear b5 b6 hh hT hN HP
        gi_wp2_with (gi_at_call 128; refine hLE.mono ?_; rintro e w' ⟨rfl, h⟩; cases h)
        refine hR.mono ?_
        rintro e W5 (⟨rfl, hJ5, hk5⟩ | ⟨rfl, hJx5, hk5⟩)
        · gi_wp2
          refine bodyPost_ret (results_none rfl _ _ _) rfl ?_
          exact ⟨⟨_, rfl⟩, .inl ⟨_, HS.out, hJ5⟩⟩
        · gi_wp2
          refine bodyPost_ret (results_none rfl _ _ _) rfl ?_
          exact ⟨⟨_, rfl⟩, .inr ⟨_, ⟨[], by rw [List.append_nil]; exact HS.out⟩, hJx5⟩⟩

theorem ext_gives (s : ByteArray) (hs : s.size ≤ 140737488355328) (n Bs : Nat) (hn : 2 ≤ n) (w : World) (hBs : Boxed w Bs 9 (.string s)) :
    Gives3 n Tryz.prog 126 #[.pointer (some ⟨Bs, 0, none⟩)] extVals 0 (fun k => k = Bs) allT (fun xs => xs = extsL s) (fun pre => pre <+: extsL s) w :=
  fun l J Jx W hW hJ hJx hY h0 => ext1_in s hs n l Bs hn J Jx W hY ((hW.block Bs hBs.lt).trans hBs) h0

theorem extsI_mem (s : ByteArray) : ∀ (k no i : Nat), s.size - i ≤ k → i ≤ s.size → no ≤ i + 1 → ∀ x ∈ extsI s no i, i ≤ x.2.1 ∧ x.2.1 ≤ x.2.2 ∧ x.2.2 ≤ s.size ∧ no ≤ x.1 ∧ x.1 ≤ s.size + 1 ∧ x.2.2 = endTo s x.2.1 := by
  intro k
  induction k with
  | zero =>
    intro no i hk hi hno x hx
    have hb := end_bounds s i hi
    rw [extsI_step s no i hi] at hx
    rcases List.mem_cons.1 hx with rfl | hx
    · exact ⟨Nat.le_refl _, hb.1, hb.2.1, Nat.le_refl _, by show no ≤ _; omega, rfl⟩
    · split at hx
      · rename_i he; have := hb.2.2.2.2.1 he; omega
      · cases hx
  | succ k ih =>
    intro no i hk hi hno x hx
    have hb := end_bounds s i hi
    rw [extsI_step s no i hi] at hx
    rcases List.mem_cons.1 hx with rfl | hx
    · exact ⟨Nat.le_refl _, hb.1, hb.2.1, Nat.le_refl _, by show no ≤ _; omega, rfl⟩
    · split at hx
      · rename_i he
        have h5 := hb.2.2.2.2.1 he
        have := ih (no + 1) (endNext s i) (by omega) hb.2.2.2.1 (by omega) x hx
        omega
      · cases hx
theorem exts_mem (s : ByteArray) (x : Nat × Nat × Nat) (hx : x ∈ extsL s) : x.2.1 ≤ x.2.2 ∧ x.2.2 ≤ s.size ∧ 1 ≤ x.1 ∧ x.1 ≤ s.size + 1 := by
  have := extsI_mem s _ 1 (markN s) (Nat.le_refl _) (mark_le s) (by omega) x hx
  omega

theorem extsI_len (s : ByteArray) : ∀ (k no i : Nat), s.size - i ≤ k → i ≤ s.size → (extsI s no i).length ≤ s.size + 1 - i := by
  intro k
  induction k with
  | zero =>
    intro no i hk hi
    have hb := end_bounds s i hi
    rw [extsI_step s no i hi]
    split
    · rename_i he; have := hb.2.2.2.2.1 he; omega
    · simp; omega
  | succ k ih =>
    intro no i hk hi
    have hb := end_bounds s i hi
    rw [extsI_step s no i hi]
    split
    · rename_i he
      have h5 := hb.2.2.2.2.1 he
      have := ih (no + 1) (endNext s i) (by omega) hb.2.2.2.1
      simp only [List.length_cons]; omega
    · simp; omega
theorem exts_len (s : ByteArray) : (extsL s).length ≤ s.size + 1 := by
  have := extsI_len s _ 1 (markN s) (Nat.le_refl _) (mark_le s)
  show (extsI s 1 (markN s)).length ≤ _
  omega

end Go.Proofs.YtlgolaoabgmijaaGreatDoor
