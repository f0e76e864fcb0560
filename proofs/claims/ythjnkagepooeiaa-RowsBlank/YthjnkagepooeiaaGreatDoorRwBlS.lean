/-
  Two lists of rows that are the same but for their lines; the number of a fault's line.
-/
import Derived.Test.YthjnkagepooeiaaGreatDoorRwBlM2
import Derived.Test.YthjnkagepooeiaaGreatDoorRwA0
import Derived.Lib.QuietBelow
import Derived.BigQuiet
import Derived.Laws.StructEq
namespace Go.Proofs.YthjnkagepooeiaaGreatDoor
open Go.RowKit Go.PlainAid Go.Lib Go.PHexM Go.Shelf
set_option linter.unusedVariables false
set_option linter.unusedSimpArgs false

theorem each_bad : ∀ (ds : List LineD) (st : WalkD) (x : RowD × Int), x ∈ eachR st ds → x.2 ≠ 0 → (∃ d ∈ ds, x.1.line = d.no) ∨ (∃ h, st.held = some h ∧ x.1.line = h.1.no)
  | [], st, x, hx, hz => by
    unfold eachR lastR at hx
    cases hh : st.held with
    | none => rw [hh] at hx; simp at hx
    | some h =>
      rw [hh] at hx
      simp only [List.mem_singleton] at hx
      subst hx
      exact .inr ⟨h, rfl, rfl⟩
  | d :: ds, st, x, hx, hz => by
    unfold eachR at hx
    have key : (x ∈ (stepR st d).1 → x.1.line = d.no) ∧ (∀ h, (stepR st d).2.held = some h → h.1 = d ∨ st.held = some h) := by
      unfold stepR
      split
      · exact ⟨fun h => by simp at h, fun h hh => .inr hh⟩
      · split
        · exact ⟨fun h => by simp only [List.mem_singleton] at h; subst h; rfl, fun h hh => .inr hh⟩
        · split
          · exact ⟨fun h => by simp at h, fun h hh => by cases hh; exact .inl rfl⟩
          · split
            · exact ⟨fun h => by simp only [List.mem_singleton] at h; subst h; exact absurd rfl hz, fun h hh => by cases hh⟩
            · exact ⟨fun h => by simp only [List.mem_singleton] at h; subst h; exact absurd rfl hz, fun h hh => .inr hh⟩
    rcases List.mem_append.1 hx with hx | hx
    · exact .inl ⟨d, by simp, key.1 hx⟩
    · rcases each_bad ds _ x hx hz with ⟨d', hd, e⟩ | ⟨h, hh, e⟩
      · exact .inl ⟨d', by simp [hd], e⟩
      · rcases key.2 h hh with rfl | hs
        · exact .inl ⟨h.1, by simp, e⟩
        · exact .inr ⟨h, hs, e⟩
theorem tell_some {l : List (RowD × Int)} {no c : Int} (h : (tellR l).2 = some (no, c)) : ∃ x ∈ l, x.2 ≠ 0 ∧ x.1.line = no := by
  induction l with
  | nil => cases h
  | cons a l ih =>
    unfold tellR at h
    split at h
    · obtain ⟨x, hx, h1, h2⟩ := ih h
      exact ⟨x, by simp [hx], h1, h2⟩
    · rename_i hn
      refine ⟨a, by simp, hn, ?_⟩
      have := Option.some.inj h
      exact congrArg Prod.fst this
theorem tell_len6 (l : List (RowD × Int)) : (tellR l).1.length ≤ l.length := by
  induction l with
  | nil => exact Nat.le_refl _
  | cons x l ih => unfold tellR; split <;> simp; omega
theorem rows_len6 (s : ByteArray) : (rowsS s).1.length ≤ s.size + 3 := by
  unfold rowsS
  split
  · simp
  · have h1 := tell_len6 (eachR startW (readS s).1)
    have h2 := each_len startW (readS s).1
    have h3 : ∀ l : List (Nat × Nat × Nat), (rdS s l).1.length ≤ l.length := by
      intro l
      induction l with
      | nil => simp [rdS]
      | cons x l ih => unfold rdS; split <;> simp <;> omega
    have h4 := h3 (linesL s)
    have h5 : (linesL s).length ≤ (extsL s).length := (List.takeWhile_sublist _).length_le
    have h6 := exts_len s
    have h7 : (readS s).1.length = (rdS s (linesL s)).1.length := rfl
    omega
theorem rd_no (s : ByteArray) : ∀ (l : List (Nat × Nat × Nat)), (rdS s l).2 = none → ∀ d ∈ (rdS s l).1, ∃ x ∈ l, d.no = (x.1 : Int)
  | [], _, d, hd => by simp [rdS] at hd
  | x :: l, h, d, hd => by
    unfold rdS at h hd
    split at h
    · rename_i hx
      rw [if_pos hx] at hd
      rcases List.mem_cons.1 hd with rfl | hd
      · exact ⟨x, by simp, scan_number _ _ hx⟩
      · obtain ⟨y, hy, e⟩ := rd_no s l h d hd
        exact ⟨y, by simp [hy], e⟩
    · cases h
theorem rd_bno (s : ByteArray) : ∀ (l : List (Nat × Nat × Nat)) (no : Nat) (c : Int), (rdS s l).2 = some (no, c) → ∃ x ∈ l, x.1 = no
  | [], no, c, h => by cases h
  | x :: l, no, c, h => by
    unfold rdS at h
    split at h
    · obtain ⟨y, hy, e⟩ := rd_bno s l no c h
      exact ⟨y, by simp [hy], e⟩
    · exact ⟨x, by simp, congrArg Prod.fst (Option.some.inj h)⟩
theorem rows_num {s : ByteArray} {no c : Int} (h : (rowsS s).2 = some (no, c)) : 0 ≤ no ∧ no ≤ (s.size : Int) + 1 := by
  have hb : ∀ x ∈ linesL s, x.1 ≤ s.size + 1 := fun x hx => (lines_mem s x hx).2.2.2
  unfold rowsS at h
  cases hr : (readS s).2 with
  | some p =>
    obtain ⟨n, k⟩ := p
    rw [hr] at h
    obtain ⟨x, hx, e⟩ := rd_bno s _ n k hr
    have e2 : (n : Int) = no := congrArg Prod.fst (Option.some.inj h)
    have := hb x hx
    omega
  | none =>
    rw [hr] at h
    obtain ⟨x, hx, hz, e⟩ := tell_some h
    rcases each_bad _ _ x hx hz with ⟨d, hd, e2⟩ | ⟨h', hh, _⟩
    · obtain ⟨y, hy, e3⟩ := rd_no s _ hr d hd
      have := hb y hy
      omega
    · cases hh

set_option maxRecDepth 100000 in
set_option maxHeartbeats 4000000 in
theorem same6_yes (x : RowD) (k : Int) (w : World) :
    Calls Tryz.prog 54 #[rowV x, rowV (wl x k)] w fun e w' => e = .returned (.bool true) ∧ Below w.heap.size w w' := by
  obtain ⟨W1, hW1⟩ : ∃ W1, (w.alloc (.cells (rowC x).toArray 29)).alloc (.cells (rowC (wl x k)).toArray 29) = W1 := ⟨_, rfl⟩
  have b1 : Below w.heap.size w W1 := by rw [← hW1]; exact ((Below.refl _ w).alloc (Nat.le_refl _) _).alloc (by simp) _
  have r1 : RowAt W1 w.heap.size x := by rw [← hW1]; exact (Below.heap_alloc _ _ _ (by simp)).trans (heap_alloc_new w _)
  have r2 : RowAt W1 (w.heap.size + 1) (wl x k) := by
    rw [← hW1]
    have h := heap_alloc_new (w.alloc (.cells (rowC x).toArray 29)) (.cells (rowC (wl x k)).toArray 29)
    rw [World.size_alloc] at h
    exact h
  obtain ⟨W2, hW2⟩ : ∃ W2, W1.setCell ⟨w.heap.size, 0, none⟩ (.int .i64 0) = W2 := ⟨_, rfl⟩
  have q1 : RowAt W2 w.heap.size (wl x 0) := by rw [← hW2]; exact r1.set (r' := wl x 0) 0 _ rfl
  have q2 : RowAt W2 (w.heap.size + 1) (wl x k) := by rw [← hW2]; exact (Below.heap_setCell _ _ _ _ (by simp)).trans r2
  have b2 : Below w.heap.size w W2 := by rw [← hW2]; exact b1.setCell (Nat.le_refl _) _
  obtain ⟨W3, hW3⟩ : ∃ W3, W2.setCell ⟨w.heap.size + 1, 0, none⟩ (.int .i64 0) = W3 := ⟨_, rfl⟩
  have p1 : RowAt W3 w.heap.size (wl x 0) := by rw [← hW3]; exact (Below.heap_setCell _ _ _ _ (by simp)).trans q1
  have p2 : RowAt W3 (w.heap.size + 1) (wl x 0) := by rw [← hW3]; exact q2.set (r' := wl x 0) 0 _ rfl
  have b3 : Below w.heap.size w W3 := by rw [← hW3]; exact b2.setCell (Nat.le_succ _) _
  have c0 := r1.cell (j := 0) rfl
  have f0 := r1.frozen 0
  have c1 := q2.cell (j := 0) rfl
  have f1 := q2.frozen 0
  have x0 := p1.cell (j := 0) rfl
  have x1 := p1.cell (j := 1) rfl
  have x2 := p1.cell (j := 2) rfl
  have x3 := p1.cell (j := 3) rfl
  have x4 := p1.cell (j := 4) rfl
  have x5 := p1.cell (j := 5) rfl
  have x6 := p1.cell (j := 6) rfl
  have x7 := p1.cell (j := 7) rfl
  have x8 := p1.cell (j := 8) rfl
  have y0 := p2.cell (j := 0) rfl
  have y1 := p2.cell (j := 1) rfl
  have y2 := p2.cell (j := 2) rfl
  have y3 := p2.cell (j := 3) rfl
  have y4 := p2.cell (j := 4) rfl
  have y5 := p2.cell (j := 5) rfl
  have y6 := p2.cell (j := 6) rfl
  have y7 := p2.cell (j := 7) rfl
  have y8 := p2.cell (j := 8) rfl
  have B3 := hide b3
  simp only [wl] at *
  clear r1 r2 q1 q2 p1 p2 b1 b2 b3
  go_enter Tryz.func54, Tryz.ntmps54
  go_wp2
  go_ret
  exact ⟨rfl, unhide B3⟩

theorem all2_len {α : Type} {R : α → α → Prop} {l m : List α} (h : All2 R l m) : m.length = l.length := by
  induction h with
  | nil => rfl
  | cons _ _ ih => simp [ih]
theorem all2_at {α : Type} {R : α → α → Prop} {l m : List α} (h : All2 R l m) : ∀ (i : Nat) (x : α), l[i]? = some x → ∃ y, m[i]? = some y ∧ R x y := by
  induction h with
  | nil => intro i x hx; simp at hx
  | cons h1 _ ih =>
    intro i x hx
    cases i with
    | zero => simp at hx; subst hx; exact ⟨_, rfl, h1⟩
    | succ i => exact ih i x (by simpa using hx)

set_option maxRecDepth 100000 in
set_option maxHeartbeats 4000000 in
theorem sameBut_yes (rs ts : List RowD) (a b : Option Addr) (n ca cb : Nat) (w : World) (h2 : All2 OneR rs ts) (hn : rs.length = n) (hnb : n ≤ 1099511627776) (ha : RwMem w a rs) (hb : RwMem w b ts) :
    Calls Tryz.prog 31 #[.slice a n ca, .slice b n cb] w fun e w' => e = .returned (.bool true) ∧ Below w.heap.size w w' := by
  have HA := hide ha
  have HB := hide hb
  have HN := hide hn
  have HAL := hide (all2_at h2)
  clear ha hb hn h2
  have hnn : ((n : Int) != (n : Int)) = false := by simp
  go_enter Tryz.func31, Tryz.ntmps31
  go_wp2
  go_loopw [5] (fun v5 wr => ∃ i : Nat, i ≤ n ∧ v5 = .int .i64 i ∧ Below w.heap.size w wr) (fun v5 _ => n - (RowKit.intOf v5).toNat)
  case atStart => exact ⟨0, Nat.zero_le _, rfl, Below.refl _ _⟩
  case round =>
    obtain ⟨i, hi, rfl, hbw⟩ := hrel
    by_cases hlt : i < n
    · obtain ⟨x, hx⟩ : ∃ x, rs[i]? = some x := ⟨_, List.getElem?_eq_getElem (by rw [unhide HN]; exact hlt)⟩
      obtain ⟨y, hy, k, rfl, _⟩ := unhide HAL i x hx
      obtain ⟨g, off, rfl, hc⟩ := ((unhide HA).below hbw) i x hx
      obtain ⟨g', off', rfl, hd⟩ := ((unhide HB).below hbw) i _ hy
      have HSM := hide (fun V => same6_yes x k V)
      have cx0 := hc 0 _ rfl
      have cx1 := hc 1 _ rfl
      have cx2 := hc 2 _ rfl
      have cx3 := hc 3 _ rfl
      have cx4 := hc 4 _ rfl
      have cx5 := hc 5 _ rfl
      have cx6 := hc 6 _ rfl
      have cx7 := hc 7 _ rfl
      have cx8 := hc 8 _ rfl
      have dx0 := hd 0 _ rfl
      have dx1 := hd 1 _ rfl
      have dx2 := hd 2 _ rfl
      have dx3 := hd 3 _ rfl
      have dx4 := hd 4 _ rfl
      have dx5 := hd 5 _ rfl
      have dx6 := hd 6 _ rfl
      have dx7 := hd 7 _ rfl
      have dx8 := hd 8 _ rfl
      simp only [Nat.add_zero, wl] at *
      have X0 := fun dq os => cell_regrown cx0 dq os
      have X1 := fun dq os => cell_regrown cx1 dq os
      have X2 := fun dq os => cell_regrown cx2 dq os
      have X3 := fun dq os => cell_regrown cx3 dq os
      have X4 := fun dq os => cell_regrown cx4 dq os
      have X5 := fun dq os => cell_regrown cx5 dq os
      have X6 := fun dq os => cell_regrown cx6 dq os
      have X7 := fun dq os => cell_regrown cx7 dq os
      have X8 := fun dq os => cell_regrown cx8 dq os
      have Y0 := fun dq os => cell_regrown dx0 dq os
      have Y1 := fun dq os => cell_regrown dx1 dq os
      have Y2 := fun dq os => cell_regrown dx2 dq os
      have Y3 := fun dq os => cell_regrown dx3 dq os
      have Y4 := fun dq os => cell_regrown dx4 dq os
      have Y5 := fun dq os => cell_regrown dx5 dq os
      have Y6 := fun dq os => cell_regrown dx6 dq os
      have Y7 := fun dq os => cell_regrown dx7 dq os
      have Y8 := fun dq os => cell_regrown dx8 dq os
      have hlt' : (i : Int) < (n : Int) := by omega
      have hq1 : IntKind.i64.wrap ((i : Int) + 1) = (i : Int) + 1 := by rw [IntKind.wrap_i64]; omega
      have HBW := hide hbw
      clear hc hd hx hy hbw
      go_wp2_with fail
      refine wp_region_quiet_below (by kernel_rfl) (by kernel_rfl) ?_
      repeat (go_big_quiet_step (first | (go_at_call 54; with_reducible exact Calls.regrown_of (unhide HSM _))))
      refine wpQuiet_nil ?_
      intro _ hw'
      obtain ⟨⟨dq, osq⟩, hw''⟩ := hw'
      subst hw''
      have hb3 : Below wr.heap.size wr (Sort.grow (redrawn wr dq) osq) := below_regrown wr dq osq
      have hb4 := (unhide HBW).trans (hb3.mono (unhide HBW).size)
      generalize Sort.grow (redrawn wr dq) osq = w3 at hb4 ⊢
      simp only [Exit.then]
      clear X0 X1 X2 X3 X4 X5 X6 X7 X8 Y0 Y1 Y2 Y3 Y4 Y5 Y6 Y7 Y8 hb3
      go_wp2
      go_roundw
      case rel => exact ⟨i + 1, by omega, by go_num, hb4⟩
      case measure => simp [RowKit.intOf]; omega
    · obtain rfl : i = n := by omega
      go_wp2
      go_ret
      exact ⟨rfl, hbw⟩
end Go.Proofs.YthjnkagepooeiaaGreatDoor
