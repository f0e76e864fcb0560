/-
  These texts, one behind the other: LExt, QuietIn, LEach.
-/
import Derived.Test.YthgaadjkjnibaaaGreatDoorLs
import Derived.Test.YthgaadjkjnibaaaGreatDoorSq
/-
  extents of package lines: an iterator that tells where each line of a text lies.
-/
namespace Go.Proofs.YthgaadjkjnibaaaGreatDoor
open Go.RowKit Go.PlainAid Go.Lib Go.Shelf Go.Seq2 Go.Seq3
attribute [local go_sem] Oper.semAt_some
set_option linter.unusedVariables false

/-- how many bytes the mark has -/
def markN (s : ByteArray) : Nat := if hasPrefix (L s) [239, 187, 191] = true then 3 else 0
theorem mark_le (s : ByteArray) : markN s ≤ s.size := by
  unfold markN
  split
  · rename_i h
    have := (List.isPrefixOf_iff_prefix.1 h).length_le
    rw [L_len] at this; exact this
  · exact Nat.zero_le _
/-- where the lines lie, from the one with the number no on, which begins at i: their numbers, beginnings, ends -/
def exts (s : ByteArray) : Nat → Nat → Nat → List (Nat × Nat × Nat)
  | 0, _, _ => []
  | f + 1, no, i => (no, i, endTo s i) :: (if hasEnd s i = true then exts s f (no + 1) (endNext s i) else [])
def extsI (s : ByteArray) (no i : Nat) : List (Nat × Nat × Nat) := exts s (s.size + 1 - i) no i
def extsL (s : ByteArray) : List (Nat × Nat × Nat) := extsI s 1 (markN s)
theorem exts_any (s : ByteArray) : ∀ (f g no i : Nat), i ≤ s.size → s.size + 1 - i ≤ f → s.size + 1 - i ≤ g → exts s f no i = exts s g no i := by
  intro f
  induction f with
  | zero => intro g no i hi h; omega
  | succ f ih =>
    intro g no i hi h1 h2
    cases g with
    | zero => omega
    | succ g =>
      unfold exts
      have hb := end_bounds s i hi
      split
      · rename_i he
        have := hb.2.2.2.2.1 he
        rw [ih g (no + 1) (endNext s i) hb.2.2.2.1 (by omega) (by omega)]
      · rfl
theorem extsI_step (s : ByteArray) (no i : Nat) (hi : i ≤ s.size) : extsI s no i = (no, i, endTo s i) :: (if hasEnd s i = true then extsI s (no + 1) (endNext s i) else []) := by
  unfold extsI
  rw [show s.size + 1 - i = (s.size - i) + 1 by omega]
  show (no, i, endTo s i) :: _ = _
  congr 1
  split
  · rename_i he
    have hb := end_bounds s i hi
    have := hb.2.2.2.2.1 he
    exact exts_any s _ _ _ _ hb.2.2.2.1 (by omega) (by omega)
  · rfl
abbrev extVals (x : Nat × Nat × Nat) : Array Value := #[.int .i64 (x.1 : Nat), .agg #[.int .i64 (x.2.1 : Nat), .int .i64 (x.2.2 : Nat)]]
abbrev allT (t : TypeId) : Prop := True

theorem extents_in (s : ByteArray) (w : World) :
    Calls Tryz.prog 51 #[.string s] w fun e w' => e = .returned (.func (.func 78) #[] #[.pointer (some ⟨w.heap.size, 0, none⟩)]) ∧ w' = w.alloc (.cells #[.string s] 9) := by
  go_enter Tryz.func51, Tryz.ntmps51
  go_wp2
  go_ret
  exact ⟨rfl, rfl⟩

set_option maxRecDepth 100000 in
set_option maxHeartbeats 2000000 in
theorem ext1_in (s : ByteArray) (hs : s.size ≤ 140737488355328) (n l Bs : Nat) (hn : 2 ≤ n) (J Jx : List (Nat × Nat × Nat) → World → Prop) (W : World)
    (hY : ∀ pre x W1, J pre W1 → (pre ++ [x]) <+: extsL s → YieldAt Fence.wide (n - 1) Tryz.prog l (extVals x) W1 fun e W' =>
      (e = .returned (.bool true) ∧ J (pre ++ [x]) W' ∧ Kp2 0 (fun k => k = Bs) allT W.heap.size W1 W') ∨ (e = .returned (.bool false) ∧ Jx (pre ++ [x]) W' ∧ KeepsFrom W.heap.size W1 W'))
    (hBs : Boxed W Bs 9 (.string s)) (h0 : J [] W) :
    CallsIn Fence.wide n Tryz.prog 78 #[.func (.yield l) #[] #[], .pointer (some ⟨Bs, 0, none⟩)] W fun e W' => (∃ v, e = .returned v) ∧
      ((∃ xs, xs = extsL s ∧ J xs W') ∨ (∃ pre, pre <+: extsL s ∧ Jx pre W')) := by
  have hmx : s.size ≤ maxLen := by unfold maxLen; omega
  have hn1 : 1 ≤ n := by omega
  have hn2 : 1 ≤ n - 1 := by omega
  have hE := fun i w (hi : i ≤ s.size) => callsIn_wide (n := n - 1) |>.2 (lineEnd_any s i w hmx hi)
  have HE := hide hE
  clear hE
  have hml := mark_le s
  have hP := fun w => Tryz.strings_HasPrefix s ⟨#[239, 187, 191]⟩ w
  have HX : Hid (extsI s 1 (markN s) = extsL s) := rfl
  have HYY := hide hY
  clear hY
  refine callsIn_of_wp Tryz.func78 rfl trivial ?_ rfl
  simp only [Tryz.ntmps78, List.size_toArray, List.length_cons, List.length_nil, Nat.reduceAdd, Nat.reduceSub, Array.replicate_succ, Array.replicate_zero, List.push_toArray, List.append_toArray, List.nil_append, List.cons_append]
  have hc := hBs.cell
  have hF : ∀ f, Fence.wide.fn f := fun _ => trivial
  cases hm : hasPrefix (L s) [239, 187, 191] with
  | true =>
    have hP' : ∀ w, CallsIn Fence.wide (n - 1) Tryz.prog 79 #[.string s, .string ⟨#[239, 187, 191]⟩] w fun e w' => e = .returned (.bool true) ∧ w = w' := fun w => callsIn_wide.2 ((hP w).mono fun e w' ⟨a, b⟩ => ⟨by rw [a]; exact congrArg _ (congrArg _ hm), b.symm⟩)
    have hmk : markN s = 3 := by unfold markN; rw [hm]; rfl
    rw [hmk] at HX hml
    have HP := hide hP'
    clear hP hP' hm hmk
    gi_wp2_with (gi_at_call 79; refine (unhide HP _).mono ?_; rintro e w' ⟨rfl, rfl⟩)

    gi_loopw [3, 4] (fun v3 v4 wr => ∃ (i no : Nat) (pre : List (Nat × Nat × Nat)), v3 = .int .i64 (i : Nat) ∧ v4 = .int .i64 (no : Nat) ∧ i ≤ s.size ∧ no ≤ i + 1 ∧ Hid (pre ++ extsI s no i = extsL s) ∧ Boxed wr Bs 9 (.string s) ∧ J pre wr)
      (fun v3 _ _ => s.size + 1 - (RowKit.intOf v3).toNat)
    case atStart => exact ⟨3, 1, [], rfl, rfl, hml, by omega, HX, hBs, h0⟩
    case round =>
      obtain ⟨i, no, pre, rfl, rfl, hi, hno, HP, hbx, hJ⟩ := hrel
      have hb := end_bounds s i hi
      have cb := hbx.cell
      have HS : Hid (pre ++ [(no, i, endTo s i)] ++ (if hasEnd s i = true then extsI s (no + 1) (endNext s i) else []) = extsL s) := by
        show _ = _
        rw [← HP.out, extsI_step s no i hi]; simp
      obtain ⟨fn, tmps, assign, body, hy, hR⟩ := unhide HYY pre (no, i, endTo s i) wr hJ ⟨_, HS.out⟩
      dsimp only [extVals] at hy
      have hLE := unhide HE i wr hi
      obtain ⟨b1, b2, b3, b4, b5, b6⟩ := hb
      generalize hT : endTo s i = T at *
      generalize hN : endNext s i = N at *
      cases hh : hasEnd s i with
      | true =>
        rw [hh] at hLE HS b5
        simp only [if_true] at HS
        have b5' := b5 rfl
        clear b5 b6 hh hT hN HP
        gi_wp2_with (gi_at_call 80; refine hLE.mono ?_; rintro e w' ⟨rfl, h⟩; cases h)
        refine hR.mono ?_
        rintro e W5 (⟨rfl, hJ5, hk5⟩ | ⟨rfl, hJx5, hk5⟩)
        · have hbx5 := hk5.2.2 Bs _ _ (.inr rfl) trivial hbx
          gi_wp2
          go_roundw
          case rel => exact ⟨N, no + 1, _, rfl, by go_num, b4, by omega, HS, hbx5, hJ5⟩
          case measure => simp [RowKit.intOf]; omega
        · gi_wp2
          refine bodyPost_ret (results_none rfl _ _ _) rfl ?_
          exact ⟨⟨_, rfl⟩, .inr ⟨_, ⟨_, HS.out⟩, hJx5⟩⟩
      | false =>
        rw [hh] at hLE HS
        simp only [Bool.false_eq_true, if_false, List.append_nil] at HS
        clear b5 b6 hh hT hN HP
        gi_wp2_with (gi_at_call 80; refine hLE.mono ?_; rintro e w' ⟨rfl, h⟩; cases h)
        refine hR.mono ?_
        rintro e W5 (⟨rfl, hJ5, hk5⟩ | ⟨rfl, hJx5, hk5⟩)
        · gi_wp2
          refine bodyPost_ret (results_none rfl _ _ _) rfl ?_
          exact ⟨⟨_, rfl⟩, .inl ⟨_, HS.out, hJ5⟩⟩
        · gi_wp2
          refine bodyPost_ret (results_none rfl _ _ _) rfl ?_
          exact ⟨⟨_, rfl⟩, .inr ⟨_, ⟨[], by rw [List.append_nil]; exact HS.out⟩, hJx5⟩⟩
  | false =>
    have hP' : ∀ w, CallsIn Fence.wide (n - 1) Tryz.prog 79 #[.string s, .string ⟨#[239, 187, 191]⟩] w fun e w' => e = .returned (.bool false) ∧ w = w' := fun w => callsIn_wide.2 ((hP w).mono fun e w' ⟨a, b⟩ => ⟨by rw [a]; exact congrArg _ (congrArg _ hm), b.symm⟩)
    have hmk : markN s = 0 := by unfold markN; rw [hm]; rfl
    rw [hmk] at HX hml
    have HP := hide hP'
    clear hP hP' hm hmk
    gi_wp2_with (gi_at_call 79; refine (unhide HP _).mono ?_; rintro e w' ⟨rfl, rfl⟩)
    gi_loopw [3, 4] (fun v3 v4 wr => ∃ (i no : Nat) (pre : List (Nat × Nat × Nat)), v3 = .int .i64 (i : Nat) ∧ v4 = .int .i64 (no : Nat) ∧ i ≤ s.size ∧ no ≤ i + 1 ∧ Hid (pre ++ extsI s no i = extsL s) ∧ Boxed wr Bs 9 (.string s) ∧ J pre wr)
      (fun v3 _ _ => s.size + 1 - (RowKit.intOf v3).toNat)
    case atStart => exact ⟨0, 1, [], rfl, rfl, hml, by omega, HX, hBs, h0⟩
    case round =>
      obtain ⟨i, no, pre, rfl, rfl, hi, hno, HP, hbx, hJ⟩ := hrel
      have hb := end_bounds s i hi
      have cb := hbx.cell
      have HS : Hid (pre ++ [(no, i, endTo s i)] ++ (if hasEnd s i = true then extsI s (no + 1) (endNext s i) else []) = extsL s) := by
        show _ = _
        rw [← HP.out, extsI_step s no i hi]; simp
      obtain ⟨fn, tmps, assign, body, hy, hR⟩ := unhide HYY pre (no, i, endTo s i) wr hJ ⟨_, HS.out⟩
      dsimp only [extVals] at hy
      have hLE := unhide HE i wr hi
      obtain ⟨b1, b2, b3, b4, b5, b6⟩ := hb
      generalize hT : endTo s i = T at *
      generalize hN : endNext s i = N at *
      cases hh : hasEnd s i with
      | true =>
        rw [hh] at hLE HS b5
        simp only [if_true] at HS
        have b5' := b5 rfl
        clear b5 b6 hh hT hN HP
        gi_wp2_with (gi_at_call 80; refine hLE.mono ?_; rintro e w' ⟨rfl, h⟩; cases h)
        refine hR.mono ?_
        rintro e W5 (⟨rfl, hJ5, hk5⟩ | ⟨rfl, hJx5, hk5⟩)
        · have hbx5 := hk5.2.2 Bs _ _ (.inr rfl) trivial hbx
          gi_wp2
          go_roundw
          case rel => exact ⟨N, no + 1, _, rfl, by go_num, b4, by omega, HS, hbx5, hJ5⟩
          case measure => simp [RowKit.intOf]; omega
        · gi_wp2
          refine bodyPost_ret (results_none rfl _ _ _) rfl ?_
          exact ⟨⟨_, rfl⟩, .inr ⟨_, ⟨_, HS.out⟩, hJx5⟩⟩
      | false =>
        rw [hh] at hLE HS
        simp only [Bool.false_eq_true, if_false, List.append_nil] at HS
        clear b5 b6 hh hT hN HP
        gi_wp2_with (gi_at_call 80; refine hLE.mono ?_; rintro e w' ⟨rfl, h⟩; cases h)
        refine hR.mono ?_
        rintro e W5 (⟨rfl, hJ5, hk5⟩ | ⟨rfl, hJx5, hk5⟩)
        · gi_wp2
          refine bodyPost_ret (results_none rfl _ _ _) rfl ?_
          exact ⟨⟨_, rfl⟩, .inl ⟨_, HS.out, hJ5⟩⟩
        · gi_wp2
          refine bodyPost_ret (results_none rfl _ _ _) rfl ?_
          exact ⟨⟨_, rfl⟩, .inr ⟨_, ⟨[], by rw [List.append_nil]; exact HS.out⟩, hJx5⟩⟩

theorem ext_gives (s : ByteArray) (hs : s.size ≤ 140737488355328) (n Bs : Nat) (hn : 2 ≤ n) (w : World) (hBs : Boxed w Bs 9 (.string s)) :
    Gives3 n Tryz.prog 78 #[.pointer (some ⟨Bs, 0, none⟩)] extVals 0 (fun k => k = Bs) allT (fun xs => xs = extsL s) (fun pre => pre <+: extsL s) w :=
  fun l J Jx W hW hJ hJx hY h0 => ext1_in s hs n l Bs hn J Jx W hY ((hW.block Bs hBs.lt).trans hBs) h0

theorem extsI_mem (s : ByteArray) : ∀ (k no i : Nat), s.size - i ≤ k → i ≤ s.size → no ≤ i + 1 → ∀ x ∈ extsI s no i, i ≤ x.2.1 ∧ x.2.1 ≤ x.2.2 ∧ x.2.2 ≤ s.size ∧ no ≤ x.1 ∧ x.1 ≤ s.size + 1 ∧ x.2.2 = endTo s x.2.1 := by
  intro k
  induction k with
  | zero =>
    intro no i hk hi hno x hx
    have hb := end_bounds s i hi
    rw [extsI_step s no i hi] at hx
    rcases List.mem_cons.1 hx with rfl | hx
    · exact ⟨Nat.le_refl _, hb.1, hb.2.1, Nat.le_refl _, by show no ≤ _; omega, rfl⟩
    · split at hx
      · rename_i he; have := hb.2.2.2.2.1 he; omega
      · cases hx
  | succ k ih =>
    intro no i hk hi hno x hx
    have hb := end_bounds s i hi
    rw [extsI_step s no i hi] at hx
    rcases List.mem_cons.1 hx with rfl | hx
    · exact ⟨Nat.le_refl _, hb.1, hb.2.1, Nat.le_refl _, by show no ≤ _; omega, rfl⟩
    · split at hx
      · rename_i he
        have h5 := hb.2.2.2.2.1 he
        have := ih (no + 1) (endNext s i) (by omega) hb.2.2.2.1 (by omega) x hx
        omega
      · cases hx
theorem exts_mem (s : ByteArray) (x : Nat × Nat × Nat) (hx : x ∈ extsL s) : x.2.1 ≤ x.2.2 ∧ x.2.2 ≤ s.size ∧ 1 ≤ x.1 ∧ x.1 ≤ s.size + 1 := by
  have := extsI_mem s _ 1 (markN s) (Nat.le_refl _) (mark_le s) (by omega) x hx
  omega

theorem extsI_len (s : ByteArray) : ∀ (k no i : Nat), s.size - i ≤ k → i ≤ s.size → (extsI s no i).length ≤ s.size + 1 - i := by
  intro k
  induction k with
  | zero =>
    intro no i hk hi
    have hb := end_bounds s i hi
    rw [extsI_step s no i hi]
    split
    · rename_i he; have := hb.2.2.2.2.1 he; omega
    · simp; omega
  | succ k ih =>
    intro no i hk hi
    have hb := end_bounds s i hi
    rw [extsI_step s no i hi]
    split
    · rename_i he
      have h5 := hb.2.2.2.2.1 he
      have := ih (no + 1) (endNext s i) (by omega) hb.2.2.2.1
      simp only [List.length_cons]; omega
    · simp; omega
theorem exts_len (s : ByteArray) : (extsL s).length ≤ s.size + 1 := by
  have := extsI_len s _ 1 (markN s) (Nat.le_refl _) (mark_le s)
  show (extsI s 1 (markN s)).length ≤ _
  omega

end Go.Proofs.YthgaadjkjnibaaaGreatDoor
/-
  A region that draws its order, within a round of a loop over an iterator, all of whose operations only read: one walk of the text's order serves every order.
-/
namespace Go.Reads
open Go
variable {n : Nat} {P : Program} {C : World → Prop} {lr : Nat} {ops : Array Oper}

theorem opIn_quiet {Q' : Exit → Act → World → Prop} {i : Nat} {a : Act} {K : Act → Prop} {K' : Act → World → Prop} {w : World} (hdf : ∀ (i : Nat) (o : Oper), ops[i]? = some o → ∀ c, o.op ≠ .defer c) (hC : C w) (h : ∀ a w', C w' → K a → K' a w') (hh : qOp P ops C i K a) :
    wpOpIn (Fence.wide.inRound lr) n P ops Q' i K' a w := by
  unfold qOp at hh
  unfold wpOpIn
  split
  · rename_i ho; simp only [ho] at hh; exact h _ _ hC hh
  · rename_i o ho
    simp only [ho] at hh
    split
    · rename_i hw; simp only [hw, if_true] at hh; exact op_quiet (hdf i o ho) hC h hh
    · rename_i hw; simp only [hw] at hh; exact ⟨fun _ _ => trivial, h _ _ hC hh⟩

theorem anyIn_quiet {Q : Act → Prop} {Q' : Exit → Act → World → Prop} {md : Region.Mode} (hdf : ∀ (i : Nat) (o : Oper), ops[i]? = some o → ∀ c, o.op ≠ .defer c) (hQ : ∀ a w, C w → Q a → Q' .normal a w) : ∀ (fuel : Nat) (listed : Array Bool) (a : Act) (w : World), C w →
    wpAnyQ P md ops C Q fuel listed a → wpAnyIn (Fence.wide.inRound lr) n P md ops Q' fuel listed a w
  | 0, _, _, _, hw, h => ⟨h.1, hQ _ _ hw h.2⟩
  | fuel + 1, _, _, _, hw, h => ⟨fun h0 => hQ _ _ hw (h.1 h0), fun i hi => opIn_quiet hdf hw (fun a' w' hw' => anyIn_quiet hdf hQ fuel _ a' w' hw') (h.2 i hi)⟩

def noDefer (l : List Oper) : Bool := l.all fun o => match o.op with | .defer _ => false | _ => true

theorem wpIn_region_quiet {rid : Nat} {Q : Exit → Act → World → Prop} {a : Act} {w : World} {l : List Oper} (hm : P.follows .mixedOrders = true) (hB : Region.lexB .any l.toArray = true) (hd : noDefer l = true)
    (h : wpQuiet P l.toArray (fun w' => ∃ n, w' = w.drewN n) (fun a' => ∀ w', (∃ n, w' = w.drewN n) → Q .normal a' w') l a) :
    (Code.region rid l.toArray true).wpIn (Fence.wide.inRound lr) n P Q a w := by
  simp only [Region.lexB, Bool.and_eq_true] at hB
  have hdf : ∀ (i : Nat) (o : Oper), l.toArray[i]? = some o → ∀ c, o.op ≠ .defer c := by
    intro i o ho c e
    have hmem : o ∈ l := List.mem_of_getElem? (by simpa using ho)
    have := List.all_eq_true.1 hd o hmem
    rw [e] at this; simp at this
  refine wpIn_region_any hm (anyIn_quiet (C := fun w' => ∃ n, w' = w.drewN n) (Q := fun a' => ∀ w', (∃ n, w' = w.drewN n) → Q .normal a' w') hdf (fun _ w' hw' h => h w' hw') _ _ _ _ ⟨1, rfl⟩ ?_)
  have := wpAnyQ_lex (C := fun w' => ∃ n, w' = w.drewN n) (md := .any) hB.1 l 0 (Array.replicate l.toArray.size false) a (by simp) (by simpa using hB.2) h
  simpa using this

end Go.Reads
/-
  Each of package lines: an iterator that tells the lines of a text, whatever the loop's body does with them.
-/
namespace Go.Proofs.YthgaadjkjnibaaaGreatDoor
open Go.RowKit Go.PlainAid Go.Lib Go.Shelf Go.Seq2 Go.Seq3
attribute [local go_sem] Oper.semAt_some
set_option linter.unusedVariables false

/-- a text's lines: their numbers, beginnings, ends -/
def linesL (s : ByteArray) : List (Nat × Nat × Nat) := (extsL s).takeWhile fun x => x.2.1 != s.size
abbrev lineVals (s : ByteArray) (x : Nat × Nat × Nat) : Array Value := #[.int .i64 (x.1 : Nat), .string (s.extract x.2.1 x.2.2)]
abbrev eachT (t : TypeId) : Prop := t = 9 ∨ t = 108
theorem tw_append {α : Type} (p : α → Bool) (l m : List α) (h : ∀ x ∈ l, p x = true) : (l ++ m).takeWhile p = l ++ m.takeWhile p := by
  induction l with
  | nil => rfl
  | cons a l ih => rw [List.cons_append, List.takeWhile_cons, if_pos (h a (by simp)), ih (fun x hx => h x (by simp [hx]))]; rfl
theorem lines_stop (s : ByteArray) (pre : List (Nat × Nat × Nat)) (x : Nat × Nat × Nat) (h : (pre ++ [x]) <+: extsL s) (ha : ∀ y ∈ pre, y.2.1 ≠ s.size) (hx : x.2.1 = s.size) : pre = linesL s := by
  obtain ⟨r, hr⟩ := h
  unfold linesL
  rw [← hr, List.append_assoc, tw_append _ _ _ (fun y hy => by simpa using ha y hy), List.singleton_append, List.takeWhile_cons, if_neg (by simpa using hx), List.append_nil]
theorem lines_go (s : ByteArray) (pre : List (Nat × Nat × Nat)) (h : pre <+: extsL s) (ha : ∀ y ∈ pre, y.2.1 ≠ s.size) : pre <+: linesL s := by
  obtain ⟨r, hr⟩ := h
  unfold linesL
  rw [← hr, tw_append _ _ _ (fun y hy => by simpa using ha y hy)]
  exact List.prefix_append _ _
theorem lines_all (s : ByteArray) (ha : ∀ y ∈ extsL s, y.2.1 ≠ s.size) : extsL s = linesL s := by
  unfold linesL
  have := tw_append (fun x : Nat × Nat × Nat => x.2.1 != s.size) (extsL s) [] (fun y hy => by simpa using ha y hy)
  simpa using this.symm

theorem each_in (s : ByteArray) (w : World) :
    Calls Tryz.prog 28 #[.string s] w fun e w' => e = .returned (.func (.func 50) #[] #[.pointer (some ⟨w.heap.size, 0, none⟩)]) ∧ w' = w.alloc (.cells #[.string s] 9) := by
  go_enter Tryz.func28, Tryz.ntmps28
  go_wp2
  go_ret
  exact ⟨rfl, rfl⟩
theorem box2 {W : World} {b : Nat} {x y : Value} {t : TypeId} (h : W.heap[b]? = some (.cells #[x, y] t)) :
    W.cell? ⟨b, 0, none⟩ = some x ∧ W.cell? ⟨b, 1, none⟩ = some y := by
  refine ⟨?_, ?_⟩ <;> simp [World.cell?, h]
theorem boxed_eq {W : World} {b : Nat} {t t' : TypeId} {x y : Value} (h : Boxed W b t x) (h' : Boxed W b t' y) : t = t' ∧ x = y := by
  have h1 : W.heap[b]? = _ := h
  have h2 : W.heap[b]? = _ := h'
  rw [h1] at h2
  simp only [Option.some.injEq, Obj.cells.injEq] at h2
  exact ⟨h2.2.1, by simpa using h2.1⟩

set_option maxRecDepth 100000 in
set_option maxHeartbeats 4000000 in
theorem each1_in (s : ByteArray) (hs : s.size ≤ 140737488355328) (n l Bs : Nat) (hn : 5 ≤ n) (J Jx : List (Nat × Nat × Nat) → World → Prop) (W : World)
    (hY : ∀ pre x W1, J pre W1 → (pre ++ [x]) <+: linesL s → YieldAt Fence.wide (n - 1) Tryz.prog l (lineVals s x) W1 fun e W' =>
      (e = .returned (.bool true) ∧ J (pre ++ [x]) W' ∧ Kp2 2 (fun k => k = Bs) eachT W.heap.size W1 W') ∨ (e = .returned (.bool false) ∧ Jx (pre ++ [x]) W' ∧ KeepsFrom W.heap.size W1 W'))
    (hJ : OwnFrom W.heap.size J) (hJx : OwnFrom W.heap.size Jx) (hBs : Boxed W Bs 9 (.string s)) (h0 : J [] W) :
    CallsIn Fence.wide n Tryz.prog 50 #[.func (.yield l) #[] #[], .pointer (some ⟨Bs, 0, none⟩)] W fun e W' => (∃ v, e = .returned v) ∧
      ((∃ xs, xs = linesL s ∧ J xs W') ∨ (∃ pre, pre <+: linesL s ∧ Jx pre W')) := by
  refine callsIn_of_wp_marks Tryz.func50 rfl trivial ?_ rfl
  simp only [Tryz.ntmps50, List.size_toArray, List.length_cons, List.length_nil, Nat.reduceAdd, Nat.reduceSub, Array.replicate_succ, Array.replicate_zero, List.push_toArray, List.append_toArray, List.nil_append, List.cons_append]
  have hn1 : 1 ≤ n := by omega
  have hn2 : 1 ≤ n - 1 - 1 := by omega
  have hc2 := (hBs.alloc (Obj.cells #[Value.func (Fn.yield l) #[] #[]] 108)).cell
  have hF : ∀ f, Fence.wide.fn f := fun _ => trivial
  have HYY := hide hY
  clear hY
  gi_wp2_with (gi_at_call 51; refine (callsIn_wide.2 (extents_in s _)).mono ?_; rintro e w' ⟨rfl, rfl⟩)
  obtain ⟨W0, hW0⟩ : ∃ W0, (W.alloc (Obj.cells #[Value.func (Fn.yield l) #[] #[]] 108)).alloc (Obj.cells #[Value.string s] 9) = W0 := ⟨_, rfl⟩
  have by0 : Boxed W0 W.heap.size 108 (.func (.yield l) #[] #[]) := by rw [← hW0]; exact (Boxed.new W _ _).alloc _
  have bq0 : Boxed W0 (W.heap.size + 1) 9 (.string s) := by rw [← hW0]; simpa using Boxed.new (W.alloc (Obj.cells #[Value.func (Fn.yield l) #[] #[]] 108)) 9 (.string s)
  have bs0 : Boxed W0 Bs 9 (.string s) := by rw [← hW0]; exact (hBs.alloc _).alloc _
  have hJ0 : J [] W0 := by rw [← hW0]; exact hJ.alloc _ (hJ.alloc _ h0)
  have hsz : W0.heap.size = W.heap.size + 2 := by rw [← hW0]; simp
  have hlt := hBs.lt
  rw [hW0]
  clear hW0 hc2
  refine range3 (by omega) (gf := 78) (lb := #[.pointer (some ⟨W.heap.size + 1, 0, none⟩)]) rfl (enters_of Tryz.func78 (by kernel_rfl) rfl)
    (ext_gives s hs _ (W.heap.size + 1) (by omega) W0 bq0) (Below.refl _ _) (fun _ => rfl)
    (fun pre V => J pre V ∧ (∀ y ∈ pre, y.2.1 ≠ s.size) ∧ V.heap[W.heap.size]? = some (.cells #[.func (.yield l) #[] #[]] 108) ∧ V.heap[W.heap.size + 1]? = some (.cells #[.string s] 9) ∧ V.heap[Bs]? = some (.cells #[.string s] 9) ∧ W0.heap.size ≤ V.heap.size)
    (fun c pre V => c = .ret ∧ ((∃ qs, qs = linesL s ∧ J qs V) ∨ (pre <+: linesL s ∧ Jx pre V)))
    (OwnFrom.and (fun st A B row hx hg hr => OwnFrom.le hJ (by omega) st A B row hx hg hr) ((own_pure _ _).and ((own_block _ _ _ rfl).and ((own_block _ _ _ rfl).and ((own_block _ _ _ rfl).and (fun _ _ _ _ hs hg _ => Nat.le_trans hs hg.size))))))
    (fun c st A B row hx hg hr => by
        obtain ⟨hc, hx⟩ := hx
        rcases hx with ⟨qs, e1, e2⟩ | ⟨e1, e2⟩
        · exact ⟨hc, .inl ⟨qs, e1, OwnFrom.le hJ (by omega) qs A B row e2 hg hr⟩⟩
        · exact ⟨hc, .inr ⟨e1, OwnFrom.le hJx (by omega) st A B row e2 hg hr⟩⟩)
    ⟨hJ0, by simp, by0, bq0, bs0, Nat.le_refl _⟩
    (fun x a' V => ∃ Bx, V.heap[Bx]? = some (.cells #[.int .i64 (x.2.1 : Nat), .int .i64 (x.2.2 : Nat)] 113) ∧ W.heap.size + 1 < Bx ∧ a' = { tmps := #[.func (.yield l) #[] #[], .pointer (some ⟨Bs, 0, none⟩), .pointer (some ⟨W.heap.size, 0, none⟩), .int .i64 (x.1 : Nat), .pointer (some ⟨Bx, 0, none⟩), .string s, .func (.func 78) #[] #[.pointer (some ⟨W.heap.size + 1, 0, none⟩)], .int .i64 (x.1 : Nat), .agg #[.int .i64 (x.2.1 : Nat), .int .i64 (x.2.2 : Nat)], undef, undef, undef, undef, undef, undef, undef, undef, undef, undef, undef, undef, undef, undef, undef], defers := [] })
    (fun x a' st A B row hx hg hr => by
        obtain ⟨Bx, h1, h2, h3⟩ := hx
        exact ⟨Bx, own_block (β := Unit) _ _ _ rfl () A B row h1 hg hr, h2, h3⟩) ?assign ?body ?done ?stop
  case assign =>
    rintro l2 pre x V K hsz2 ⟨h1, h2, h3, h4, h5, h6⟩ hK
    gi_wp2
    exact hK _ _ ((KeepsOthers.alloc _ _).from _) ⟨KeepsWalks.alloc _ _, fun k t v _ _ h => h.alloc _⟩ ⟨hJ.alloc _ h1, h2, (Below.heap_alloc V _ _ (by omega)).trans h3, (Below.heap_alloc V _ _ (by omega)).trans h4, (Below.heap_alloc V _ _ (by omega)).trans h5, by simp; omega⟩ ⟨V.heap.size, heap_alloc_new V _, by omega, rfl⟩
  case body =>
    rintro l2 pre x a' V hl hsz2 ⟨r, hr⟩ ⟨h1, h2, h3, h4, h5, h6⟩ ⟨Bx, hx1, hx2, rfl⟩ hSp
    obtain ⟨c0, c1⟩ := box2 hx1
    have y0 := (show Boxed V W.heap.size 108 (.func (.yield l) #[] #[]) from h3).cell
    have s0 := (show Boxed V Bs 9 (.string s) from h5).cell
    have hm := exts_mem s x (hSp.subset (by simp))
    obtain ⟨m1, m2, m3, m4⟩ := hm
    by_cases hz : x.2.1 = s.size
    · have hze : ((x.2.1 : Int) == (s.size : Int)) = true := by simp; omega
      have HZ := hide hz
      have HS := hide hSp
      have H2 := hide h2
      clear hz hSp h2
      gi_wp2
      exact ⟨KeepsFrom.refl _ _, rfl, .inl ⟨pre, lines_stop s pre x (unhide HS) (unhide H2) (unhide HZ), h1⟩⟩
    · have hze : ((x.2.1 : Int) == (s.size : Int)) = false := by simp; omega
      have hall : ∀ y ∈ pre ++ [x], y.2.1 ≠ s.size := by
        intro y hy
        rcases List.mem_append.1 hy with h | h
        · exact h2 y h
        · rw [List.mem_singleton.1 h]; exact hz
      have HALL := hide hall
      have HGO := hide (lines_go s (pre ++ [x]) hSp hall)
      clear hz hSp h2 hall
      gi_wp2
      refine Reads.wpIn_region_reads 8 (by kernel_rfl) (by kernel_rfl) (by kernel_rfl) ?_
      simp only [List.take_succ_cons, List.take_zero, List.drop_succ_cons, List.drop_zero]
      repeat (go_big_quiet_step (fail))
      refine wpQuiet_nil ?_
      intro _ hw'
      obtain ⟨nr, hw''⟩ := hw'
      subst hw''
      obtain ⟨fn, tmps, assign, body, hy, hR⟩ := yieldIn (m := n - 1 - 1 - 1) (lr := l2) (unhide HYY pre x (V.drewN nr) (OwnFrom.le hJ (Nat.le_refl _) pre V _ none h1 (grown_drewN _ _ _) (fun r e => by cases e)) HGO.out)
      dsimp only [lineVals] at hy
      gi_wp2
      refine hR.mono ?_
      rintro e V5 (⟨rfl, hJ5, hk5⟩ | ⟨rfl, hJx5, hk5⟩)
      · gi_wp2
        have hKF : KeepsFrom W.heap.size V V5 := KeepsFrom.trans (⟨Nat.le_refl _, fun _ _ _ h _ => h⟩ : KeepsFrom W.heap.size V (V.drewN nr)) hk5.1
        have b3 := hk5.2.2 W.heap.size _ _ (.inl ⟨Nat.le_refl _, by omega⟩) (.inr rfl) (show Boxed (V.drewN nr) W.heap.size 108 (.func (.yield l) #[] #[]) from h3)
        have b4 := hk5.2.2 (W.heap.size + 1) _ _ (.inl ⟨by omega, by omega⟩) (.inl rfl) (show Boxed (V.drewN nr) (W.heap.size + 1) 9 (.string s) from h4)
        have b5 := hk5.2.2 Bs _ _ (.inr rfl) (.inl rfl) (show Boxed (V.drewN nr) Bs 9 (.string s) from h5)
        refine ⟨⟨hKF.size, fun k o hB => hKF.same k o (by omega)⟩, ⟨?_, fun k t v hk _ hb => ?_⟩, hJ5, unhide HALL, b3, b4, b5, ?_⟩
        · exact KeepsWalks.trans (⟨Nat.le_refl _, fun _ _ h _ => h⟩ : KeepsWalks V (V.drewN nr)) hk5.2.1
        · obtain rfl : k = W.heap.size + 1 := by rcases hk with h | h; omega; exact h
          obtain ⟨rfl, rfl⟩ := boxed_eq hb (show Boxed V (W.heap.size + 1) 9 (.string s) from h4)
          exact b4
        · have := hKF.size; omega
      · gi_wp2
        have hKF : KeepsFrom W.heap.size V V5 := KeepsFrom.trans (⟨Nat.le_refl _, fun _ _ _ h _ => h⟩ : KeepsFrom W.heap.size V (V.drewN nr)) hk5
        exact ⟨⟨hKF.size, fun k o hB => hKF.same k o (by omega)⟩, rfl, .inr ⟨HGO.out, hJx5⟩⟩
  case done =>
    rintro D xs V hD hS ⟨h1, h2, h3, h4, h5, h6⟩ hK
    subst hS
    gi_wp2
    refine ⟨by simp, .inl ⟨_, _, rfl, run_takeDeferred hK, ?_⟩⟩
    refine ⟨_, results_none rfl _ _ _, ⟨_, rfl⟩, .inl ⟨extsL s, lines_all s h2, ?_⟩⟩
    exact hJ _ V _ (some D) h1 (grownBy_putObj' V D _) (fun r e => by cases e; exact ⟨by omega, _, hK, rfl⟩)
  case stop =>
    rintro D c pre V hD hSp ⟨rfl, hx⟩ hK
    gi_wp2
    refine ⟨by simp, .inl ⟨_, _, rfl, run_takeDeferred hK, ?_⟩⟩
    refine ⟨_, results_none rfl _ _ _, ⟨_, rfl⟩, ?_⟩
    rcases hx with ⟨qs, e1, e2⟩ | ⟨e1, e2⟩
    · exact .inl ⟨qs, e1, hJ _ V _ (some D) e2 (grownBy_putObj' V D _) (fun r e => by cases e; exact ⟨by omega, _, hK, rfl⟩)⟩
    · exact .inr ⟨pre, e1, hJx _ V _ (some D) e2 (grownBy_putObj' V D _) (fun r e => by cases e; exact ⟨by omega, _, hK, rfl⟩)⟩

theorem each_gives (s : ByteArray) (hs : s.size ≤ 140737488355328) (n Bs : Nat) (hn : 5 ≤ n) (w : World) (hBs : Boxed w Bs 9 (.string s)) :
    Gives3 n Tryz.prog 50 #[.pointer (some ⟨Bs, 0, none⟩)] (lineVals s) 2 (fun k => k = Bs) eachT (fun xs => xs = linesL s) (fun pre => pre <+: linesL s) w :=
  fun l J Jx W hW hJ hJx hY h0 => each1_in s hs n l Bs hn J Jx W hY hJ hJx ((hW.block Bs hBs.lt).trans hBs) h0

end Go.Proofs.YthgaadjkjnibaaaGreatDoor
