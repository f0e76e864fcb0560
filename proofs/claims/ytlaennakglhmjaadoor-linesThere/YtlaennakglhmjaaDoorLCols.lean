/-
  columns of package lines: an iterator that tells the place of each column of a line.
-/
import Derived.Test.YtlaennakglhmjaaDoorRChars
import Derived.Test.YtlaennakglhmjaaDoorLExt
namespace Go.Proofs.YtlaennakglhmjaaDoor
open Go.RowKit Go.PlainAid Go.Lib Go.Shelf
attribute [local go_sem] World.iter
attribute [local go_sem] Oper.semAt_some
set_option linter.unusedVariables false

/-- the columns from c on, the characters of which begin at the places l of the line that lies from f to t -/
def colsF (f t : Nat) : Nat → List Nat → List (Nat × Nat)
  | c, [] => [(c, t)]
  | c, i :: l => (c, f + i) :: colsF f t (c + 1) l
def colsL (s : ByteArray) (f t : Nat) : List (Nat × Nat) := colsF f t 1 (plF (s.extract f t) 0)
theorem colsF_len (f t : Nat) : ∀ (l : List Nat) (c : Nat), (colsF f t c l).length = l.length + 1
  | [], c => rfl
  | i :: l, c => by simp [colsF, colsF_len f t l (c + 1)]
abbrev extBlk (f t : Nat) : Obj := .cells #[.int .i64 (f : Nat), .int .i64 (t : Nat)] 82
abbrev colVals (x : Nat × Nat) : Array Value := #[.int .i64 (x.1 : Nat), .int .i64 (x.2 : Nat)]
/-- what a round of a loop over columns leaves as it is -/
def KpC (Bs Be f t : Nat) (s : ByteArray) (W W' : World) : Prop := KeepsWalks W W' ∧ (Boxed W Bs 9 (.string s) → Boxed W' Bs 9 (.string s)) ∧ (W.heap[Be]? = some (extBlk f t) → W'.heap[Be]? = some (extBlk f t))
theorem kpC_t {Bs Be f t : Nat} {s : ByteArray} {A B C : World} (h : KpC Bs Be f t s A B) (k : KpC Bs Be f t s B C) : KpC Bs Be f t s A C := ⟨h.1.trans k.1, fun x => k.2.1 (h.2.1 x), fun x => k.2.2 (h.2.2 x)⟩
theorem kpC_b {Bs Be f t : Nat} {s : ByteArray} {w : World} (W : World) (l : Nat) (o o' : Obj) (_ : w.heap.size ≤ l) (h : W.heap[l]? = some o) (hc : o.isCells = false) (hw : o.isWalk = false) : KpC Bs Be f t s W (W.putObj l o') := by
  refine ⟨KeepsWalks.putObj _ h hw, fun hb => ?_, fun hb => ?_⟩
  · have hne : Bs ≠ l := by rintro rfl; rw [show W.heap[Bs]? = _ from hb] at h; cases h; cases hc
    exact (World.putObj_heap_other hne).trans hb
  · have hne : Be ≠ l := by rintro rfl; rw [hb] at h; cases h; cases hc
    exact (World.putObj_heap_other hne).trans hb

theorem columns_in (s : ByteArray) (f t : Nat) (w : World) :
    Calls Tryd.prog 48 #[.string s, .agg #[.int .i64 (f : Nat), .int .i64 (t : Nat)]] w fun e w' => e = .returned (.func (.func 63) #[] #[.pointer (some ⟨w.heap.size, 0, none⟩), .pointer (some ⟨w.heap.size + 1, 0, none⟩)]) ∧ w' = (w.alloc (.cells #[.string s] 9)).alloc (extBlk f t) := by
  go_enter Tryd.func48, Tryd.ntmps48
  go_wp2
  go_ret
  exact ⟨rfl, rfl⟩

theorem ext2 {W : World} {b : Nat} {f t : Nat} (h : W.heap[b]? = some (extBlk f t)) : W.cell? ⟨b, 0, none⟩ = some (.int .i64 (f : Nat)) ∧ W.cell? ⟨b, 1, none⟩ = some (.int .i64 (t : Nat)) := by
  refine ⟨?_, ?_⟩ <;> simp [World.cell?, h]

set_option maxRecDepth 100000 in
set_option maxHeartbeats 2000000 in
theorem cols1_in (s : ByteArray) (f t : Nat) (hs : s.size ≤ 1099511627776) (hft : f ≤ t) (hts : t ≤ s.size) (n l Bs Be : Nat) (hn : 1 ≤ n) (J Jx : List (Nat × Nat) → World → Prop)
    (hY : ∀ pre x W, J pre W → pre.length < s.size + 1 → YieldAt Fence.wide (n - 1) Tryd.prog l (colVals x) W fun e W' =>
      (e = .returned (.bool true) ∧ J (pre ++ [x]) W' ∧ KpC Bs Be f t s W W') ∨ (e = .returned (.bool false) ∧ Jx (pre ++ [x]) W'))
    (W : World) (hJ : AbidesFrom W.heap.size J) (hBs : Boxed W Bs 9 (.string s)) (hBe : W.heap[Be]? = some (extBlk f t)) (h0 : J [] W) :
    CallsIn Fence.wide n Tryd.prog 63 #[.func (.yield l) #[] #[], .pointer (some ⟨Bs, 0, none⟩), .pointer (some ⟨Be, 0, none⟩)] W fun e W' => (∃ v, e = .returned v) ∧
      ((∃ xs, xs = colsL s f t ∧ J xs W') ∨ (∃ pre, pre <+: colsL s f t ∧ Jx pre W')) := by
  refine callsIn_of_wp Tryd.func63 rfl trivial ?_ rfl
  simp only [Tryd.ntmps63, List.size_toArray, List.length_cons, List.length_nil, Nat.reduceAdd, Nat.reduceSub, Array.replicate_succ, Array.replicate_zero, List.push_toArray, List.append_toArray, List.nil_append, List.cons_append]
  have hc := hBs.cell
  obtain ⟨y0, y1⟩ := ext2 hBe
  have hF : ∀ f, Fence.wide.fn f := fun _ => trivial
  have hxs : (s.extract f t).size = t - f := by rw [← L_len, L_extract, List.length_take, List.length_drop, L_len]; omega
  have hpl := plF_len (s.extract f t)
  have hcl : (colsL s f t).length = (plF (s.extract f t) 0).length + 1 := colsF_len f t _ 1
  have H0 : Hid (([] : List (Nat × Nat)) ++ colsF f t (0 + 1) (plF (s.extract f t) 0) = colsL s f t) := rfl
  obtain ⟨X, hX⟩ : ∃ X, s.extract f t = X := ⟨_, rfl⟩
  rw [hX] at hxs hpl hcl H0
  gi_wp2
  gi_loopw [4] (fun v4 wr => ∃ (pos : Nat) (pre : List (Nat × Nat)), v4 = .int .i64 ((pre.length : Int) + 1) ∧ Hid (pre ++ colsF f t (pre.length + 1) (plF X pos) = colsL s f t) ∧ wr.heap[W.heap.size]? = some (.stringIter X pos) ∧ Boxed wr Bs 9 (.string s) ∧ wr.heap[Be]? = some (extBlk f t) ∧ J pre wr)
    (fun _ wr => X.size - wr.iterPos W.heap.size)
  case atStart =>
    exact ⟨0, [], rfl, H0, heap_alloc_new W _, hBs.alloc _, (Below.heap_alloc _ _ _ (Array.getElem?_eq_some_iff.1 hBe).1).trans hBe, hJ _ _ _ none h0 (World.grownBy_alloc W _ none) (fun r e => by cases e)⟩
  case round =>
    clear hc y0 y1
    obtain ⟨pos, pre, rfl, HP, hit, hbs, hbe, hJs⟩ := hrel
    have hplen : pre.length < s.size + 1 := by
      have := congrArg List.length HP.out
      rw [List.length_append, colsF_len, hcl] at this; omega
    by_cases hlt : pos < X.size
    · have hnx := fun ty => run_next_any_at (P := Tryd.prog) wr W.heap.size X pos ty hit hlt
      have hb := dec_bounds X pos hlt
      have hit2 := iterAt_heap wr W.heap.size X pos (pos + (Utf8.decode X pos).2) hit
      have hJ2 : J pre (wr.iterAt W.heap.size X (pos + (Utf8.decode X pos).2)) := hJ _ _ _ (some W.heap.size) hJs (grownBy_iterAt wr W.heap.size X _) (fun r e => by cases e; exact ⟨Nat.le_refl _, _, hit, rfl⟩)
      have hneS : Bs ≠ W.heap.size := by rintro rfl; rw [show wr.heap[W.heap.size]? = _ from hbs] at hit; cases hit
      have hneE : Be ≠ W.heap.size := by rintro rfl; rw [hbe] at hit; cases hit
      have hbs2 : Boxed (wr.iterAt W.heap.size X (pos + (Utf8.decode X pos).2)) Bs 9 (.string s) := ((grownBy_iterAt wr W.heap.size X (pos + (Utf8.decode X pos).2)).block Bs hbs.lt (by simpa using hneS)).trans hbs
      have hbe2 : (wr.iterAt W.heap.size X (pos + (Utf8.decode X pos).2)).heap[Be]? = some (extBlk f t) := ((grownBy_iterAt wr W.heap.size X (pos + (Utf8.decode X pos).2)).block Be (Array.getElem?_eq_some_iff.1 hbe).1 (by simpa using hneE)).trans hbe
      have HP2 : Hid ((pre ++ [(pre.length + 1, f + pos)]) ++ colsF f t ((pre ++ [(pre.length + 1, f + pos)]).length + 1) (plF X (pos + (Utf8.decode X pos).2)) = colsL s f t) := by
        show _ = _
        rw [← HP.out, plF_step X pos hlt]; simp [colsF]
      have hmeas : X.size - (pos + (Utf8.decode X pos).2) < X.size - wr.iterPos W.heap.size := by rw [iterPos_of hit]; omega
      generalize hW3 : wr.iterAt W.heap.size X (pos + (Utf8.decode X pos).2) = W3 at *
      clear hW3
      obtain ⟨y0, y1⟩ := ext2 hbe2
      obtain ⟨fn, tmps, assign, body, hy, hR⟩ := hY pre (pre.length + 1, f + pos) _ hJ2 hplen
      dsimp only [colVals] at hy
      have hy' : ∀ (a b : Int), a = ((pre.length + 1 : Nat) : Int) → b = ((f + pos : Nat) : Int) → _ := fun a b ha hb => by rw [← ha, ← hb] at hy; exact hy
      have hy2 := hy' ((pre.length : Int) + 1) ((f : Int) + (pos : Int)) (by omega) (by omega)
      clear hy hy'
      gi_wp2
      refine hR.mono ?_
      rintro e W5 (⟨rfl, hJ5, hk5⟩ | ⟨rfl, hJx5⟩)
      · have hit5 := walks_iter hk5.1 hit2
        gi_wp2
        go_roundw
        case rel => exact ⟨_, _, by simp, HP2, hit5, hk5.2.1 hbs2, hk5.2.2 hbe2, hJ5⟩
        case measure => rw [iterPos_of hit5]; exact hmeas
      · gi_wp2
        refine bodyPost_ret (results_none rfl _ _ _) rfl ?_
        exact ⟨⟨_, rfl⟩, .inr ⟨_, ⟨_, HP2.out⟩, hJx5⟩⟩
    · have hnx := fun ty => run_next_end_at (P := Tryd.prog) wr W.heap.size X pos ty hit hlt
      have HE : Hid (pre ++ [(pre.length + 1, t)] = colsL s f t) := by
        show _ = _
        have := HP.out
        rw [plF_end X pos hlt] at this; exact this
      obtain ⟨y0, y1⟩ := ext2 hbe
      obtain ⟨fn, tmps, assign, body, hy, hR⟩ := hY pre (pre.length + 1, t) _ hJs hplen
      dsimp only [colVals] at hy
      have hy' : ∀ (a : Int), a = ((pre.length + 1 : Nat) : Int) → _ := fun a ha => by rw [← ha] at hy; exact hy
      have hy2 := hy' ((pre.length : Int) + 1) (by omega)
      clear hy hy'
      gi_wp2
      refine hR.mono ?_
      rintro e W5 (⟨rfl, hJ5, hk5⟩ | ⟨rfl, hJx5⟩)
      · gi_wp2
        go_end0
        exact ⟨⟨_, rfl⟩, .inl ⟨_, HE.out, hJ5⟩⟩
      · gi_wp2
        go_end0
        exact ⟨⟨_, rfl⟩, .inr ⟨_, ⟨[], by rw [List.append_nil]; exact HE.out⟩, hJx5⟩⟩

theorem cols_stops (s : ByteArray) (f t : Nat) (hs : s.size ≤ 1099511627776) (hft : f ≤ t) (hts : t ≤ s.size) (n Bs Be : Nat) (hn : 1 ≤ n) (w : World) (hBs : Boxed w Bs 9 (.string s)) (hBe : w.heap[Be]? = some (extBlk f t)) :
    SeqStopsK Fence.wide n Tryd.prog 63 #[.pointer (some ⟨Bs, 0, none⟩), .pointer (some ⟨Be, 0, none⟩)] colVals (KpC Bs Be f t s) (fun xs => xs = colsL s f t) (fun pre => pre <+: colsL s f t) (s.size + 1) w :=
  fun l J Jx W hW hJ _ hY h0 => cols1_in s f t hs hft hts n l Bs Be hn J Jx hY W hJ ((hW.block Bs hBs.lt).trans hBs) ((hW.block Be (Array.getElem?_eq_some_iff.1 hBe).1).trans hBe) h0

end Go.Proofs.YtlaennakglhmjaaDoor
