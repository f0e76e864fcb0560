/-
  Mathematics: the bytes of the paragraphs are together the text; what is mended has the same runes.
-/
import Derived.Test.YtkckkchnmgidgaaPaE
import Derived.Test.YtkckkchnmgidgaaStart
import Derived.Test.YtkckkchnmgidgaaMend
import Derived.Deep.LoopGhost
import Derived.Laws.StructEq
namespace Go.Proofs.Ytkckkchnmgidgaa
open Go.RowKit Go.PlainAid Go.Lib Go.Seq4
set_option linter.unusedVariables false

/-- where the last piece so far ends -/
def lastE (pre : List (Nat × Nat)) : Nat := ((pre.getLast?).map (·.2)).getD 0
theorem lastE_snoc (pre : List (Nat × Nat)) (x : Nat × Nat) : lastE (pre ++ [x]) = x.2 := by simp [lastE]
theorem first_is (l cs : List Int) (pre : List (Nat × Nat)) (x : Nat × Nat) (h : pre ++ [x] <+: splitL l cs) : x.1 = lastE pre ∧ x.1 < x.2 ∧ x.2 ≤ cs.length := by
  obtain ⟨t, ht⟩ := h
  have h1 := (split_ok l cs).1
  rw [← ht] at h1
  have h2 := h1 pre.length x (by simp)
  refine ⟨?_, h2.lt, h2.le⟩
  rw [h2.fr]
  by_cases h0 : pre = []
  · subst h0; rfl
  · have hl : pre.length ≠ 0 := fun e => h0 (List.length_eq_zero_iff.1 e)
    rw [if_neg hl]
    unfold lastE
    rw [List.getLast?_eq_getElem?, List.append_assoc, List.getElem?_append_left (by omega)]
theorem last_is (l cs : List Int) : lastE (splitL l cs) = cs.length := (split_ok l cs).2
theorem extract_joinP (s : ByteArray) (a b c : Nat) (h1 : a ≤ b) (h2 : b ≤ c) (h3 : c ≤ s.size) : s.extract a b ++ s.extract b c = s.extract a c := by
  apply ByteArray.ext
  simp only [ByteArray.data_append, ByteArray.data_extract]
  rw [Array.extract_append_extract]
  congr 1 <;> omega
theorem whole_step (s : ByteArray) (a b : Nat) (h : a ≤ b) (hb : b ≤ (chars s 0).length) : s.extract 0 (startN s a) ++ s.extract (startN s a) (startN s b) = s.extract 0 (startN s b) :=
  extract_joinP s 0 _ _ (Nat.zero_le _) (start_le s a b h hb) (start_size s b hb)
theorem whole_end (s : ByteArray) : s.extract 0 (startN s (chars s 0).length) = s := by
  rw [start_len]
  apply ByteArray.ext
  simp
theorem runes_mend (s : ByteArray) : runesL (mendB s) = runesL s := by
  have h := (mend_chars s).1
  unfold runesL
  have : ∀ l : List (Nat × Nat), l.map (fun p => ((p.2 : Nat) : Int)) = (l.map (·.2)).map fun n => ((n : Nat) : Int) := fun l => by simp
  rw [this, this, h]

/-- between two rounds of the first loop: the pieces so far in a box, their bytes in another; all cells from ahead of the loop but these two lie as they were -/
def IB1 (W wl : World) (s : ByteArray) (bx bw q : Nat) (pre : List (Nat × Nat)) (V : World) : Prop :=
  (∃ v, V.heap[bx]? = some (.cells #[v] 39 (0, 0)) ∧ V.ownsRow q 46 2 v pre.length (pcsC pre)) ∧ V.heap[bw]? = some (.cells #[.string (s.extract 0 (startN s (lastE pre)))] 9 (0, 0)) ∧
    (∀ k (o : Obj), k < wl.heap.size → k ≠ bx → k ≠ bw → o.isCells = true → wl.heap[k]? = some o → V.heap[k]? = some o) ∧ Below W.heap.size W V ∧ wl.heap.size ≤ V.heap.size
theorem own_IB1 (W wl : World) (s : ByteArray) (bx bw q : Nat) (h : W.heap.size ≤ wl.heap.size) : OwnFrom wl.heap.size (IB1 W wl s bx bw q) := by
  rintro pre A C row ⟨⟨v, e2, e3⟩, e4, e5, e6, e7⟩ hg hr
  have kc : ∀ {g : Nat} {o : Obj}, A.heap[g]? = some o → o.isCells = true → C.heap[g]? = some o := fun h ho => (grownBy_keeps_cells hg (fun r e => (hr r e).2) h ho).trans h
  exact ⟨⟨v, kc e2 rfl, row_keptB e3 fun g cur hh _ _ => (kc hh rfl).trans hh.symm⟩, kc e4 rfl, fun k o h1 h2 h3 h4 h5 => kc (e5 k o h1 h2 h3 h4 h5) h4, e6.grown hg (Nat.le_trans h e7) (fun k e => Nat.le_trans h (hr k e).1), Nat.le_trans e7 hg.size⟩
/-- the same for the second loop; and the first loop's mark -/
def IB2 (W wl : World) (DK : Nat) (bx q : Nat) (pre : List (Nat × Nat)) (V : World) : Prop :=
  (∃ v, V.heap[bx]? = some (.cells #[v] 39 (0, 0)) ∧ V.ownsRow q 46 2 v pre.length (pcsC pre)) ∧
    (∀ k (o : Obj), k < wl.heap.size → k ≠ bx → o.isCells = true → wl.heap[k]? = some o → V.heap[k]? = some o) ∧ Below W.heap.size W V ∧ wl.heap.size ≤ V.heap.size ∧ V.heap[DK]? = some (.deferred (some []))
theorem own_IB2 (W wl : World) (DK bx q : Nat) (h : W.heap.size ≤ wl.heap.size) (hD : DK < wl.heap.size) : OwnFrom wl.heap.size (IB2 W wl DK bx q) := by
  rintro pre A C row ⟨⟨v, e2, e3⟩, e5, e6, e7, e8⟩ hg hr
  have kc : ∀ {g : Nat} {o : Obj}, A.heap[g]? = some o → o.isCells = true → C.heap[g]? = some o := fun h ho => (grownBy_keeps_cells hg (fun r e => (hr r e).2) h ho).trans h
  exact ⟨⟨v, kc e2 rfl, row_keptB e3 fun g cur hh _ _ => (kc hh rfl).trans hh.symm⟩, fun k o h1 h2 h4 h5 => kc (e5 k o h1 h2 h4 h5) h4, e6.grown hg (Nat.le_trans h e7) (fun k e => Nat.le_trans h (hr k e).1), Nat.le_trans e7 hg.size, keep_below hD e8 hg (fun r e => (hr r e).1)⟩
/-- a list of pieces in memory -/
def ReadsP (w : World) (a : Option Addr) (ps : List (Nat × Nat)) : Prop := ∀ (i : Nat) p, ps[i]? = some p → ∃ g off, a = some ⟨g, off, none⟩ ∧ w.cell? ⟨g, off + i * 2, none⟩ = some (.int .i64 (p.1 : Nat)) ∧ w.cell? ⟨g, off + i * 2 + 1, none⟩ = some (.int .i64 (p.2 : Nat))
theorem flat2 : ∀ (l : List (Nat × Nat)) (i : Nat) (p : Nat × Nat), l[i]? = some p → (pcsC l)[i * 2]? = some (.int .i64 (p.1 : Nat)) ∧ (pcsC l)[i * 2 + 1]? = some (.int .i64 (p.2 : Nat)) := by
  intro l
  induction l with
  | nil => intro i p h; simp at h
  | cons q l ih =>
    intro i p h
    have e : pcsC (q :: l) = .int .i64 (q.1 : Nat) :: .int .i64 (q.2 : Nat) :: pcsC l := by simp [pcsC]
    rw [e]
    cases i with
    | zero =>
      have : q = p := by simpa using h
      subst this
      exact ⟨rfl, rfl⟩
    | succ i =>
      have := ih i p (by simpa using h)
      rw [show (i + 1) * 2 = i * 2 + 1 + 1 by omega]
      simpa using this
theorem row_readsP {w : World} {B L : Nat} {a : Option Addr} {c : Nat} {ps : List (Nat × Nat)} (h : w.ownsRow B 46 2 (.slice a L c) L (pcsC ps)) : ReadsP w a ps := by
  intro i p hp
  have hpl : (pcsC ps).length = L * 2 := h.1
  have hlen : ps.length * 2 = (pcsC ps).length := by
    have : ∀ l : List (Nat × Nat), l.length * 2 = (pcsC l).length := by
      intro l
      induction l with
      | nil => rfl
      | cons q l ih =>
        have e : pcsC (q :: l) = .int .i64 (q.1 : Nat) :: .int .i64 (q.2 : Nat) :: pcsC l := by simp [pcsC]
        rw [e]; simp only [List.length_cons]; omega
    exact this ps
  have hi : i < ps.length := (List.getElem?_eq_some_iff.1 hp).1
  obtain ⟨g, rfl⟩ := row_at h (by omega)
  obtain ⟨h1, h2⟩ := flat2 ps i p hp
  have e1 := h.cells rfl (i * 2) _ h1
  have e2 := h.cells rfl (i * 2 + 1) _ h2
  rw [addr_add] at e1 e2
  exact ⟨g, 0, rfl, e1, e2⟩
set_option maxRecDepth 100000 in
set_option maxHeartbeats 2000000 in
theorem samePieces_yes (ps : List (Nat × Nat)) (a b : Option Addr) (n ca cb : Nat) (w : World) (hn : ps.length = n) (hnb : n ≤ 1099511627776) (ha : ReadsP w a ps) (hb : ReadsP w b ps) :
    Calls Try.prog 26 #[.slice a n ca, .slice b n cb] w fun e w' => e = .returned (.bool true) ∧ Below w.heap.size w w' := by
  have HA := hide ha
  have HB := hide hb
  have HN := hide hn
  clear ha hb hn
  have hnn : ((n : Int) != (n : Int)) = false := by simp
  go_enter Try.func26, Try.ntmps26
  go_wp2
  go_loopw [5] (fun v5 wr => ∃ i m : Nat, i ≤ n ∧ v5 = .int .i64 i ∧ wr = w.drewN m) (fun v5 _ => n - (RowKit.intOf v5).toNat)
  case atStart => exact ⟨0, 0, Nat.zero_le _, rfl, rfl⟩
  case round =>
    obtain ⟨i, m, hi, rfl, rfl⟩ := hrel
    obtain ⟨WX, hWX⟩ : ∃ WX, w.drewN m = WX := ⟨_, rfl⟩
    by_cases hlt : i < n
    · obtain ⟨x, hx⟩ : ∃ x, ps[i]? = some x := ⟨_, List.getElem?_eq_getElem (by rw [unhide HN]; exact hlt)⟩
      obtain ⟨g, off, rfl, c0, c1⟩ := unhide HA i x hx
      obtain ⟨g', off', rfl, d0, d1⟩ := unhide HB i x hx
      obtain ⟨x1, x2⟩ := x
      simp only at c0 c1 d0 d1
      have cx0 : WX.cell? ⟨g, off + i * 2, none⟩ = some (.int .i64 (x1 : Nat)) := by rw [← hWX]; exact c0
      have cx1 : WX.cell? ⟨g, off + i * 2 + 1, none⟩ = some (.int .i64 (x2 : Nat)) := by rw [← hWX]; exact c1
      have dx0 : WX.cell? ⟨g', off' + i * 2, none⟩ = some (.int .i64 (x1 : Nat)) := by rw [← hWX]; exact d0
      have dx1 : WX.cell? ⟨g', off' + i * 2 + 1, none⟩ = some (.int .i64 (x2 : Nat)) := by rw [← hWX]; exact d1
      have hlt' : (i : Int) < (n : Int) := by omega
      rw [hWX]
      have HWX := hide hWX
      clear hWX hx c0 c1 d0 d1
      go_wp2
      go_quiet (fail)
      go_wp2
      go_roundw
      case rel => exact ⟨i + 1, m + nq, by omega, by go_num, by rw [← unhide HWX]; exact World.drewN_drewN _ _ _⟩
      case measure => simp [RowKit.intOf]; omega
    · rw [hWX]
      have HWX := hide hWX
      clear hWX
      obtain rfl : i = n := by omega
      go_wp2
      go_ret
      exact ⟨rfl, by rw [← unhide HWX]; exact below_drewN (Below.refl _ _) m⟩
end Go.Proofs.Ytkckkchnmgidgaa
