/-
  The law RowsOne, walked.
-/
import Derived.Test.YthjnkagepooeiaaGreatDoorRwRu
import Derived.Test.YthjnkagepooeiaaGreatDoorRwPt
import Derived.Test.YthjnkagepooeiaaGreatDoorRwA
import Derived.BigQuiet
namespace Go.Proofs.YthjnkagepooeiaaGreatDoor
open Go.RowKit Go.PlainAid Go.Lib Go.PHexM Go.Shelf Go.Seq4
attribute [local go_sem] Oper.semAt_some
set_option linter.unusedVariables false
set_option linter.unusedSimpArgs false

theorem fnNil6 (f : Nat) (cap : Array Value) (w : World) : Sem.run Tryz.prog (binOp BinOp.eql 63 (.func (.func f) #[] cap) .nilFunc) w = .ok (.bool false) w := by
  have he : Sem.run Tryz.prog (Op.equal 63 (.func (.func f) #[] cap) .nilFunc) w = .ok false w := by
    unfold Op.equal Op.maxDepth
    rw [show (10000 : Nat) = 9999 + 1 from rfl]
    unfold Op.equalIn
    simp [go_sem]
  simp [binOp, go_sem, he]
theorem tell_len (l : List (RowD × Int)) : (tellR l).1.length ≤ l.length := by
  induction l with
  | nil => exact Nat.le_refl _
  | cons x l ih => unfold tellR; split <;> simp; omega
theorem rows_len (s : ByteArray) : (rowsS s).1.length ≤ s.size + 3 := by
  unfold rowsS
  split
  · simp
  · have h1 := tell_len (eachR startW (readS s).1)
    have h2 := each_len startW (readS s).1
    have h3 : ∀ l : List (Nat × Nat × Nat), (rdS s l).1.length ≤ l.length := by
      intro l
      induction l with
      | nil => simp [rdS]
      | cons x l ih => unfold rdS; split <;> simp <;> omega
    have h4 := h3 (linesL s)
    have h5 : (linesL s).length ≤ (extsL s).length := (List.takeWhile_sublist _).length_le
    have h6 := exts_len s
    have h7 : (readS s).1.length = (rdS s (linesL s)).1.length := rfl
    omega
/-- what holds between two numbers of the loop -/
def OneI (w : World) (r : Int) (a : Option Addr) (rs : List RowD) (b7 b8 : Nat) (pre : List (Int × RowD)) (V : World) : Prop :=
  Boxed V b7 21 (.int .i32 (lastN pre)) ∧ Boxed V b8 4 (.bool (thereB r pre)) ∧ Boxed V w.heap.size 21 (.int .i32 r) ∧ Boxed V (w.heap.size + 1) 4 (.bool false) ∧ RwMem V a rs ∧ Below w.heap.size w V
theorem own_OneI {B : Nat} (w : World) (r : Int) (a : Option Addr) (rs : List RowD) (b7 b8 : Nat) (hB : w.heap.size ≤ B) : OwnFrom B (OneI w r a rs b7 b8) := by
  rintro s A C row ⟨e1, e2, e3, e4, e5, e6⟩ hg hr
  have kc : ∀ {g : Nat} {o : Obj}, A.heap[g]? = some o → o.isCells = true → C.heap[g]? = some o := fun h ho => (grownBy_keeps_cells hg (fun r e => (hr r e).2) h ho).trans h
  exact ⟨kc e1 rfl, kc e2 rfl, kc e3 rfl, kc e4 rfl, e5.kept fun g off _ o ho hx => kc hx ho, e6.grown hg (by have := e6.size; omega) (fun k e => by have := (hr k e).1; omega)⟩

set_option maxRecDepth 100000 in
set_option maxHeartbeats 4000000 in
theorem one_walk (s : ByteArray) (r : Int) (w : World) (hg : Glob w) (hs : s.size ≤ 1073741824) :
    Calls Tryz.prog 10 #[.string s, .int .i32 r] w fun e w' => e = .returned (.bool true) ∧ Below w.heap.size w w' := by
  obtain ⟨Wa, hWa⟩ : ∃ Wa, (w.alloc (Obj.cells #[Value.int IntKind.i32 r] 21)).alloc (Obj.cells #[Value.bool false] 4) = Wa := ⟨_, rfl⟩
  have hba : Below w.heap.size w Wa := by rw [← hWa]; exact ((Below.refl _ w).alloc (Nat.le_refl _) _).alloc (by simp) _
  have hsa : Wa.heap.size = w.heap.size + 2 := by rw [← hWa]; simp
  have a0 : Boxed Wa w.heap.size 21 (.int .i32 r) := by rw [← hWa]; exact (Below.heap_alloc _ _ _ (by simp)).trans (heap_alloc_new w _)
  have a1 : Boxed Wa (w.heap.size + 1) 4 (.bool false) := by
    rw [← hWa]
    have h := heap_alloc_new (w.alloc (Obj.cells #[Value.int IntKind.i32 r] 21)) (Obj.cells #[Value.bool false] 4)
    rw [World.size_alloc] at h; exact h
  refine (callsIn_wide (n := 9)).1 ?_
  refine callsIn_of_wp_marks Tryz.func10 rfl trivial ?_ rfl
  simp only [Tryz.ntmps10, List.size_toArray, List.length_cons, List.length_nil, Nat.reduceAdd, Nat.reduceSub, Array.replicate_succ, Array.replicate_zero, List.push_toArray, List.append_toArray, List.nil_append, List.cons_append]
  have hF : ∀ f, Fence.wide.fn f := fun _ => trivial
  have HG := hide hg
  have A0 := hide a0
  have A1 := hide a1
  have HBA := hide hba
  clear hg a0 a1 hba
  gi_wp2_with fail
  clear hWa
  refine (callsIn_wide.2 (awake6_any Wa ((unhide HG).below (unhide HBA)))).mono ?_
  rintro e w1 ⟨rfl, hb1⟩
  have B1 := hide ((unhide HBA).trans (hb1.mono (unhide HBA).size))
  have p10 := hide ((hb1.block _ (by omega)).trans (unhide A0) : Boxed w1 w.heap.size 21 (.int .i32 r))
  have p11 := hide ((hb1.block _ (by omega)).trans (unhide A1) : Boxed w1 (w.heap.size + 1) 4 (.bool false))
  have s1 := hb1.size
  clear hb1
  gi_wp2_with fail
  refine (callsIn_wide.2 (read6_any ⟨#[120]⟩ s w1 ((unhide HG).below (unhide B1)) hs)).mono ?_
  rintro e w2 ⟨hb2, (⟨hnone, v, rfl, hrow⟩ | ⟨no, code, fb, hsome, rfl, hfb, hfc⟩)⟩
  rotate_left
  · have B2 := hide ((unhide B1).trans (hb2.mono (unhide B1).size))
    have p20 : Boxed w2 w.heap.size 21 (.int .i32 r) := (hb2.block _ (by omega)).trans (unhide p10)
    have p21 : Boxed w2 (w.heap.size + 1) 4 (.bool false) := (hb2.block _ (by omega)).trans (unhide p11)
    have q1 := p21.cell
    have q2 := p21.frozen
    have P3 := hide (p21.set (.bool true))
    clear hb2 hfc hsome p20 p21
    gi_wp2
    have q3 := (unhide P3).cell
    exact ⟨.bool true, by simp [results, Tryz.f10, go_sem, q3], rfl, (unhide B2).setCell (by simp) _⟩
  have hrise := rows_rise hnone
  have hlen : (rowsS s).1.length ≤ 1099511627776 := by have := rows_len s; omega
  generalize (rowsS s).1 = rs at *
  obtain ⟨a, c, rfl, hc, hm2⟩ := rowsAt_mem hrow
  obtain ⟨n, hn⟩ : ∃ n, rs.length = n := ⟨_, rfl⟩
  have b2 := (unhide B1).trans (hb2.mono (unhide B1).size)
  have p20 : Boxed w2 w.heap.size 21 (.int .i32 r) := (hb2.block _ (by omega)).trans (unhide p10)
  have p21 : Boxed w2 (w.heap.size + 1) 4 (.bool false) := (hb2.block _ (by omega)).trans (unhide p11)
  have s2 := hb2.size
  rw [hn] at hlen hc
  have HPT := hide (callsIn_wide (n := 9 - 1) |>.2 (points_any rs a n c w2 hn hlen hm2))
  rw [hn]
  generalize ptsR rs 0 = m at *
  have HN := hide hn
  have HR := hide hrise
  have HM2 := hide hm2
  have B2 := hide b2
  have P20 := hide p20
  have P21 := hide p21
  clear hb2 hnone hrow hrise hn hm2 b2 p20 p21 p10 p11 B1
  have hfn := fnNil6 82
  by_cases hmb : 4194304 < m
  · have hmb' : (4194304 : Int) < (m : Int) := by omega
    gi_wp2_with fail
    refine (unhide HPT).mono ?_
    rintro e w3 ⟨rfl, hb3⟩
    have p31 : Boxed w3 (w.heap.size + 1) 4 (.bool false) := (hb3.block _ (by omega)).trans (unhide P21)
    have q1 := p31.cell
    have q2 := p31.frozen
    have P3 := hide (p31.set (.bool true))
    have B3 := hide ((unhide B2).trans (hb3.mono (unhide B2).size))
    clear p31 hb3
    gi_wp2
    have q3 := (unhide P3).cell
    exact ⟨.bool true, by simp [results, Tryz.f10, go_sem, q3], rfl, (unhide B3).setCell (by simp) _⟩
  have hmb' : ¬ (4194304 : Int) < (m : Int) := by omega
  gi_wp2_with fail
  refine (unhide HPT).mono ?_
  rintro e w3 ⟨rfl, hb3⟩
  obtain ⟨W4, hW4⟩ : ∃ W4, (w3.alloc (Obj.cells #[Value.int IntKind.i32 (-1)] 21)).alloc (Obj.cells #[Value.bool false] 4) = W4 := ⟨_, rfl⟩
  have b34 : Below w3.heap.size w3 W4 := by rw [← hW4]; exact ((Below.refl _ w3).alloc (Nat.le_refl _) _).alloc (by simp) _
  have s4 : W4.heap.size = w3.heap.size + 2 := by rw [← hW4]; simp
  have s3 := hb3.size
  have d0 : Boxed W4 w3.heap.size 21 (.int .i32 (-1)) := by rw [← hW4]; exact (Below.heap_alloc _ _ _ (by simp)).trans (heap_alloc_new w3 _)
  have d1 : Boxed W4 (w3.heap.size + 1) 4 (.bool false) := by
    rw [← hW4]
    have h := heap_alloc_new (w3.alloc (Obj.cells #[Value.int IntKind.i32 (-1)] 21)) (Obj.cells #[Value.bool false] 4)
    rw [World.size_alloc] at h; exact h
  have b24 : Below w2.heap.size w2 W4 := hb3.trans (b34.mono hb3.size)
  have HR1 := hide (fun V hm => callsIn_wide (n := 9 - 1) |>.2 (runes6_any rs a n c V (unhide HN) hc hlen hm))
  have D0 := hide d0
  have D1 := hide d1
  have B24 := hide b24
  have f0 := d1.cell
  have f1 := d1.frozen
  have f2 := set_same d1
  clear hb3 b34 d0 d1 b24 HPT
  gi_wp2_with fail
  clear hW4 f0 f1 f2
  refine (unhide HR1 W4 ((unhide HM2).below (unhide B24))).mono ?_
  rintro e w5 ⟨Bs1, rfl, -, hb5⟩
  have B25 := hide ((unhide B24).trans (hb5.mono (unhide B24).size))
  have D05 := hide ((hb5.block _ (by omega)).trans (unhide D0) : Boxed w5 w3.heap.size 21 (.int .i32 (-1)))
  have D15 := hide ((hb5.block _ (by omega)).trans (unhide D1) : Boxed w5 (w3.heap.size + 1) 4 (.bool false))
  have s5 := hb5.size
  clear hb5 B24 D0 D1
  gi_wp2_with fail
  refine (unhide HR1 w5 ((unhide HM2).below (unhide B25))).mono ?_
  rintro e w6 ⟨Bs, rfl, hRA, hb6⟩
  have b26 := (unhide B25).trans (hb6.mono (unhide B25).size)
  have d06 : Boxed w6 w3.heap.size 21 (.int .i32 (-1)) := (hb6.block _ (by omega)).trans (unhide D05)
  have d16 : Boxed w6 (w3.heap.size + 1) 4 (.bool false) := (hb6.block _ (by omega)).trans (unhide D15)
  have s6 := hb6.size
  have b6 := (unhide B2).trans (b26.mono (unhide B2).size)
  have e0 : Boxed w6 w.heap.size 21 (.int .i32 r) := (b26.block _ (by omega)).trans (unhide P20)
  have e1 : Boxed w6 (w.heap.size + 1) 4 (.bool false) := (b26.block _ (by omega)).trans (unhide P21)
  have m6 := (unhide HM2).below b26
  have hsb := (unhide B2).size
  have hI0 : OneI w r a rs w3.heap.size (w3.heap.size + 1) [] w6 := ⟨d06, d16, e0, e1, m6, b6⟩
  have HI0 := hide hI0
  clear hb6 b26 d06 d16 b6 e0 e1 m6 hI0 B25 D05 D15 P20 P21
  gi_wp2
  refine range4B (by omega) (gf := 82) (lb := #[.pointer (some ⟨Bs, 0, none⟩)]) rfl (enters_of Tryz.func82 (by kernel_rfl) rfl)
    (runes_gives rs w5.heap.size Bs _ (fun k => k ≠ w3.heap.size ∧ k ≠ w3.heap.size + 1) (by omega) w6 hRA (by rw [unhide HN]; exact hlen) (fun k hk => by omega) (fun k hk _ => by omega)) (Below.refl _ _) (fun _ => rfl)
    (OneI w r a rs w3.heap.size (w3.heap.size + 1)) (fun c pre V => False)
    (own_OneI w r a rs _ _ (by omega)) (fun c => fun _ _ _ _ h _ _ => h) (CalmR.none _ _ _) (unhide HI0)
    (fun x => .cells (rowC x.2).toArray 29 (0, 0)) (fun _ => rfl) ?fr ?assign ?body ?done ?stop
  case assign =>
    intro l2 x V K hK
    gi_wp2
    generalize hBx : V.heap.size = Bx
    exact hK Bx hBx.symm
  case stop =>
    rintro D c pre V hD hSp h hK
    exact h.elim
  case body =>
    rintro l2 pre x Bx V hl hsz2 ⟨rr, hrr⟩ ⟨i1, i2, i3, i4, i5, i6⟩ hx1 hx2 hSp
    obtain ⟨xn, xr⟩ := x
    simp only at hx1
    obtain ⟨t1, t2, t3⟩ := rise_next (unhide HR) hSp
    simp only at t1 t2 t3
    have bX : Blk V Bx (rowC xr) 29 := hx1
    have cx1 := bX.cell (j := 1) rfl
    have cx2 := bX.cell (j := 2) rfl
    have z1 := i1.cell
    have y1 := i1.frozen
    have z2 := i2.cell
    have y2 := i2.frozen
    have z3 := i3.cell
    have g1 : Boxed (V.setCell ⟨w3.heap.size, 0, none⟩ (.int .i32 xn)) (w3.heap.size + 1) 4 (.bool (thereB r pre)) := i2.other (by omega) _
    have g2 : Boxed (V.setCell ⟨w3.heap.size, 0, none⟩ (.int .i32 xn)) w.heap.size 21 (.int .i32 r) := i3.other (by omega) _
    have z4 := g1.cell
    have y4 := g1.frozen
    have z5 := g2.cell
    have q1 : ¬ xn ≤ lastN pre := by omega
    have q2 : ¬ xn < xr.first := by omega
    have q3 : ¬ xr.last < xn := by omega
    have q1' : decide (xn ≤ lastN pre) = false := decide_eq_false q1
    have q2' : decide (xn < xr.first) = false := decide_eq_false q2
    have hth := there_snoc r pre (xn, xr)
    have hln := lastN_snoc pre (xn, xr)
    simp only at hth hln
    have fin : ∀ b, b = thereB r (pre ++ [(xn, xr)]) → KeepsFrom w6.heap.size V ((V.setCell ⟨w3.heap.size, 0, none⟩ (.int .i32 xn)).setCell ⟨w3.heap.size + 1, 0, none⟩ (.bool b)) ∧ KpR 0 (fun k => k ≠ w3.heap.size ∧ k ≠ w3.heap.size + 1) (w6.heap.size + 2) V ((V.setCell ⟨w3.heap.size, 0, none⟩ (.int .i32 xn)).setCell ⟨w3.heap.size + 1, 0, none⟩ (.bool b)) ∧ OneI w r a rs w3.heap.size (w3.heap.size + 1) (pre ++ [(xn, xr)]) ((V.setCell ⟨w3.heap.size, 0, none⟩ (.int .i32 xn)).setCell ⟨w3.heap.size + 1, 0, none⟩ (.bool b)) := by
      rintro b rfl
      have ko : KeepsOthers V ((V.setCell ⟨w3.heap.size, 0, none⟩ (.int .i32 xn)).setCell ⟨w3.heap.size + 1, 0, none⟩ (.bool (thereB r (pre ++ [(xn, xr)])))) := (KeepsOthers.setCell _ _ _).trans (KeepsOthers.setCell _ _ _)
      have oth : ∀ k, k ≠ w3.heap.size → k ≠ w3.heap.size + 1 → ((V.setCell ⟨w3.heap.size, 0, none⟩ (.int .i32 xn)).setCell ⟨w3.heap.size + 1, 0, none⟩ (.bool (thereB r (pre ++ [(xn, xr)])))).heap[k]? = V.heap[k]? := fun k h1 h2 => (Below.heap_setCell _ _ _ _ h2).trans (Below.heap_setCell _ _ _ _ h1)
      refine ⟨ko.from _, ⟨ko.walks, fun k o hk ho hx => ?_⟩, ?_, ?_, ?_, ?_, ?_, ?_⟩
      · rcases hk with hk | hk
        · omega
        · exact (oth k hk.1 hk.2).trans hx
      · rw [hln]
        exact (i1.set _).other (by omega) _
      · exact g1.set _
      · exact (i3.other (by omega) _).other (by omega) _
      · exact (i4.other (by omega) _).other (by omega) _
      · intro i x hx
        obtain ⟨g, off, e, hc⟩ := i5 i x hx
        obtain ⟨g', off', e', hc'⟩ := (unhide HM2) i x hx
        have hlt : g' < w2.heap.size := World.block_lt_of_cell? _ _ (hc' 0 _ rfl)
        rw [e'] at e
        simp only [Option.some.injEq, Addr.mk.injEq] at e
        obtain ⟨rfl, rfl, _⟩ := e
        exact ⟨g', off', e', fun j v hv => (World.cell?_of_block (oth g' (by omega) (by omega))).trans (hc j v hv)⟩
      · exact (i6.setCell (by simp; omega) _).setCell (by simp; omega) _
    have FIN := hide fin
    have HTH := hide hth
    clear fin hth hln i1 i2 i3 i4 i5 i6 bX hx1 g1 g2 t1 t2 t3
    cases hb : thereB r pre with
    | true =>
      rw [hb] at z2 z4
      have hT : Hid (true = thereB r (pre ++ [(xn, xr)])) := by
        show _ = _
        rw [unhide HTH, hb]; rfl
      clear hb
      gi_wp2
      exact unhide FIN _ (unhide hT)
    | false =>
      rw [hb] at z2 z4
      have hT : Hid ((xn == r) = thereB r (pre ++ [(xn, xr)])) := by
        show _ = _
        rw [unhide HTH, hb]; rfl
      clear hb
      gi_wp2
      exact unhide FIN _ (unhide hT)
  case done =>
    rintro D xs V hD hS ⟨i1, i2, i3, i4, i5, i6⟩ hK
    subst hS
    obtain ⟨k1, k2, k3⟩ := rise_count (r := r) (unhide HR) (Int.le_refl _)
    rw [k3] at i2
    have HFI := hide (fun V hm => callsIn_wide (n := 9 - 1) |>.2 (find_any rs a n c r V (unhide HN) hlen hm))
    have z3 := i3.cell
    have I2 := hide i2
    have I3 := hide i3
    have I4 := hide i4
    have I5 := hide i5
    have I6 := hide i6
    have HK := hide hK
    have HC := hide (⟨k1, k2⟩ : _ ∧ _)
    have hVs := i6.size
    have lD := (Array.getElem?_eq_some_iff.1 hK).1
    clear i1 i2 i3 i4 i5 i6 hK k1 k2 k3 HI0 HR1 hRA z3
    gi_wp2
    gi_loopw [11, 12] (fun v11 v12 wr => ∃ i h m : Nat, v12 = .int .i64 i ∧ v11 = .int .i64 h ∧ i ≤ n ∧ Hid (hasN r (rs.take i) = h) ∧ wr = V.drewN m) (fun _ v12 _ => n - (RowKit.intOf v12).toNat)
    case atStart => exact ⟨0, 0, 0, rfl, rfl, Nat.zero_le _, rfl, rfl⟩
    case round =>
      obtain ⟨i, h, q, rfl, rfl, hi, HH, rfl⟩ := hrel
      obtain ⟨WX, hWX⟩ : ∃ WX, V.drewN q = WX := ⟨_, rfl⟩
      have hbx : Below V.heap.size V WX := by rw [← hWX]; exact below_drewN (Below.refl _ _) q
      have x3 : Boxed WX w.heap.size 21 (.int .i32 r) := (hbx.block _ (unhide I3).lt).trans (unhide I3)
      have z3 := x3.cell
      by_cases hlt : i < n
      · obtain ⟨x, hx⟩ : ∃ x, rs[i]? = some x := ⟨_, List.getElem?_eq_getElem (by rw [unhide HN]; exact hlt)⟩
        obtain ⟨g, off, rfl, hcl⟩ := ((unhide I5).below hbx) i x hx
        have cx1 := hcl 1 _ rfl
        have cx2 := hcl 2 _ rfl
        have hlt' : (i : Int) < (n : Int) := by omega
        have hq1 : IntKind.i64.wrap ((i : Int) + 1) = (i : Int) + 1 := by rw [IntKind.wrap_i64]; omega
        have hts : hasN r (rs.take (i + 1)) = h + (if hasB r x = true then 1 else 0) := by
          rw [← unhide HH]
          unfold hasN
          rw [List.take_add_one, hx, List.filter_append, List.length_append]
          congr 1
          show (List.filter (hasB r) [x]).length = _
          rw [List.filter_cons]
          split <;> simp_all
        have hhn : h ≤ n := by
          rw [← unhide HH]
          unfold hasN
          exact Nat.le_trans (List.length_filter_le _ _) (by rw [List.length_take]; omega)
        have hq2 : IntKind.i64.wrap ((h : Int) + 1) = (h : Int) + 1 := by rw [IntKind.wrap_i64]; omega
        rw [hWX]
        have HWX := hide hWX
        by_cases b1 : x.first ≤ r
        · have d1 : decide (x.first ≤ r) = true := decide_eq_true b1
          by_cases b2 : r ≤ x.last
          · have d2 : decide (r ≤ x.last) = true := decide_eq_true b2
            have hh2 : Hid (hasN r (rs.take (i + 1)) = h + 1) := by
              show _ = _
              rw [hts, if_pos (by simp [hasB, b1, b2])]
            clear hts hcl hx hWX hbx x3 HH b1 b2
            gi_wp2
            refine wpIn_wide.2 ?_
            go_quiet (fail)
            gi_wp2
            go_roundw
            case rel => exact ⟨i + 1, h + 1, q + nq, by go_num, by go_num, by omega, unhide hh2, by rw [← unhide HWX]; exact World.drewN_drewN _ _ _⟩
            case measure => simp [RowKit.intOf]; omega
          · have d2 : decide (r ≤ x.last) = false := decide_eq_false b2
            have hh2 : Hid (hasN r (rs.take (i + 1)) = h) := by
              show _ = _
              rw [hts, if_neg (by simp [hasB, b2])]; rfl
            clear hts hcl hx hWX hbx x3 HH b1 b2
            gi_wp2
            refine wpIn_wide.2 ?_
            go_quiet (fail)
            gi_wp2
            go_roundw
            case rel => exact ⟨i + 1, h, q + nq, by go_num, rfl, by omega, unhide hh2, by rw [← unhide HWX]; exact World.drewN_drewN _ _ _⟩
            case measure => simp [RowKit.intOf]; omega
        · have d1 : decide (x.first ≤ r) = false := decide_eq_false b1
          have hh2 : Hid (hasN r (rs.take (i + 1)) = h) := by
            show _ = _
            rw [hts, if_neg (by simp [hasB, b1])]; rfl
          clear hts hcl hx hWX hbx x3 HH b1
          gi_wp2
          refine wpIn_wide.2 ?_
          go_quiet (fail)
          gi_wp2
          go_roundw
          case rel => exact ⟨i + 1, h, q + nq, by go_num, rfl, by omega, unhide hh2, by rw [← unhide HWX]; exact World.drewN_drewN _ _ _⟩
          case measure => simp [RowKit.intOf]; omega
      · obtain rfl : i = n := by omega
        have hta : rs.take i = rs := List.take_of_length_le (by rw [unhide HN]; exact Nat.le_refl _)
        have hh := unhide HH
        rw [hta] at hh
        obtain ⟨f1, f2⟩ := unhide HC
        have i2 := unhide I2
        rw [hh] at f1 f2 i2
        have B6 := hide ((unhide I6).trans (hbx.mono (unhide I6).size))
        have x2 : Boxed WX (w3.heap.size + 1) 4 (.bool (h == 1)) := (hbx.block _ i2.lt).trans i2
        have x4 : Boxed WX (w.heap.size + 1) 4 (.bool false) := (hbx.block _ (unhide I4).lt).trans (unhide I4)
        have xD : WX.heap[D]? = some (.deferred (some [])) := (hbx.block _ lD).trans (unhide HK)
        have m5 := (unhide I5).below hbx
        have sX := hbx.size
        rw [f2] at HFI
        generalize (findR rs r).getD zeroR = fr at *
        have hle : (h : Int) ≤ 1 := by omega
        have X2 := hide x2
        have X4 := hide x4
        have XD := hide xD
        have M5 := hide m5
        rw [hWX]
        clear hta hh HH HC i2 hbx x2 x4 xD m5 hWX x3 f1 f2 I2 I3 I4 I5 I6 HK
        gi_wp2_with fail
        refine (unhide HFI WX (unhide M5)).mono ?_
        rintro e w7 ⟨rfl, hb7⟩
        have s7 := hb7.size
        obtain ⟨W8, hW8⟩ : ∃ W8, w7.alloc (.cells #[.int .i64 fr.line, .int .i32 fr.first, .int .i32 fr.last, .string (S fr.name), .string (S fr.cat), .int .u8 fr.comb, .int .u8 fr.cls, .int .i32 fr.twin, .bool fr.mir] 29) = W8 := ⟨_, rfl⟩
        have b78 : Below w7.heap.size w7 W8 := by rw [← hW8]; exact (Below.refl _ w7).alloc (Nat.le_refl _) _
        have bX8 : Below WX.heap.size WX W8 := hb7.trans (b78.mono hb7.size)
        have x2 : Boxed W8 (w3.heap.size + 1) 4 (.bool (h == 1)) := (bX8.block _ (unhide X2).lt).trans (unhide X2)
        have x4 : Boxed W8 (w.heap.size + 1) 4 (.bool false) := (bX8.block _ (unhide X4).lt).trans (unhide X4)
        have xD : W8.heap[D]? = some (.deferred (some [])) := (bX8.block _ (Array.getElem?_eq_some_iff.1 (unhide XD)).1).trans (unhide XD)
        have z2 := x2.cell
        have z4 := x4.cell
        have y4 := x4.frozen
        have B8 := hide ((unhide B6).trans (bX8.mono (unhide B6).size))
        have R8 := hide (x4.set (.bool true))
        have hDne : D ≠ w.heap.size + 1 := by omega
        have XD8 : Hid ((W8.setCell ⟨w.heap.size + 1, 0, none⟩ (.bool true)).heap[D]? = some (.deferred (some []))) := (Below.heap_setCell _ _ _ _ hDne).trans xD
        clear hb7 b78 bX8 x2 x4 xD
        have h01 : h = 0 ∨ h = 1 := by omega
        rcases h01 with rfl | rfl
        all_goals (
          gi_wp2
          refine ⟨by simp, .inl ⟨_, _, rfl, run_takeDeferred (unhide XD8), ?_⟩⟩
          have yy : Boxed ((W8.setCell ⟨w.heap.size + 1, 0, none⟩ (.bool true)).putObj D (.deferred none)) (w.heap.size + 1) _ _ := (World.putObj_heap_other (fun e => hDne e.symm)).trans (unhide R8)
          have qq := yy.cell
          have b9 := (unhide B8).setCell (p := ⟨w.heap.size + 1, 0, none⟩) (by simp) (.bool true)
          exact ⟨.bool true, by simp [results, Tryz.f10, go_sem, qq], rfl, b9.grown (grownBy_putObj' _ D _) b9.size (fun k e => by cases e; omega)⟩)
end Go.Proofs.YthjnkagepooeiaaGreatDoor
