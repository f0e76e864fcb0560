/-
  The law RowsRunes, walked.
-/
import Derived.Test.YthjnkagepooeiaaGreatDoorRwRu
import Derived.Test.YthjnkagepooeiaaGreatDoorRwRunM
import Derived.Test.YthjnkagepooeiaaGreatDoorRwPt
import Derived.Test.YthjnkagepooeiaaGreatDoorRwKe
import Derived.Test.YthjnkagepooeiaaGreatDoorRwA
import Derived.Test.YthjnkagepooeiaaGreatDoorQuietIn
import Derived.BigQuiet
import Derived.BigRegion
import Derived.Laws.StructEq
namespace Go.Proofs.YthjnkagepooeiaaGreatDoor
open Go.RowKit Go.PlainAid Go.Lib Go.PHexM Go.Shelf Go.Seq4
attribute [local go_sem] Oper.semAt_some
set_option linter.unusedVariables false
set_option linter.unusedSimpArgs false

theorem fnNil7 (f : Nat) (cap : Array Value) (w : World) : Sem.run Tryz.prog (binOp BinOp.eql 63 (.func (.func f) #[] cap) .nilFunc) w = .ok (.bool false) w := by
  have he : Sem.run Tryz.prog (Op.equal 63 (.func (.func f) #[] cap) .nilFunc) w = .ok false w := by
    unfold Op.equal Op.maxDepth
    rw [show (10000 : Nat) = 9999 + 1 from rfl]
    unfold Op.equalIn
    simp [go_sem]
  simp [binOp, go_sem, he]
theorem own_below {β : Type} {B t : Nat} (w : World) (hB : w.heap.size ≤ B) : OwnFrom B (fun (_ : β) V => Below w.heap.size w V) :=
  fun s A C row h hg hr => h.grown hg (by have := h.size; omega) (fun k e => by have := (hr k e).1; omega)
theorem own_boxF {β : Type} (B b : Nat) (T : TypeId) (f : β → Value) : OwnFrom B (fun x V => Boxed V b T (f x)) :=
  fun x _ _ _ hs hg hr => (grownBy_keeps_cells hg (fun r e => (hr r e).2) hs rfl).trans hs
/-- how many have come -/
def FewI (w4 : World) (b7 : Nat) (few : Int) (pre : List (Int × RowD)) (V : World) : Prop := Boxed V b7 3 (.int .i64 (pre.length : Nat)) ∧ (few < 1 ∨ (pre.length : Int) < few) ∧ Below w4.heap.size w4 V
def FewX (w4 : World) (b7 : Nat) (few : Int) (pre : List (Int × RowD)) (V : World) : Prop := Boxed V b7 3 (.int .i64 (pre.length : Nat)) ∧ (1 ≤ few ∧ (pre.length : Int) = few) ∧ Below w4.heap.size w4 V
theorem own_FewI {B : Nat} (w4 : World) (b7 : Nat) (few : Int) (hB : w4.heap.size ≤ B) : OwnFrom B (FewI w4 b7 few) := by
  rintro s A C row ⟨e1, e2, e3⟩ hg hr
  exact ⟨(grownBy_keeps_cells hg (fun r e => (hr r e).2) e1 rfl).trans e1, e2, e3.grown hg (by have := e3.size; omega) (fun k e => by have := (hr k e).1; omega)⟩
theorem own_FewX {B : Nat} (w4 : World) (b7 : Nat) (few : Int) (hB : w4.heap.size ≤ B) : OwnFrom B (FewX w4 b7 few) := by
  rintro s A C row ⟨e1, e2, e3⟩ hg hr
  exact ⟨(grownBy_keeps_cells hg (fun r e => (hr r e).2) e1 rfl).trans e1, e2, e3.grown hg (by have := e3.size; omega) (fun k e => by have := (hr k e).1; omega)⟩
/-- where the second walk stands -/
def StI (w6 : World) (rs : List RowD) (b9 b10 : Nat) (pre : List (Int × RowD)) (V : World) : Prop :=
  ∃ (k : Nat) (next : Int), Boxed V b9 3 (.int .i64 k) ∧ Boxed V b10 21 (.int .i32 next) ∧ ((pre = [] ∧ k = 0 ∧ next = -1) ∨ StR rs pre k next) ∧ Below w6.heap.size w6 V
theorem own_StI {B : Nat} (w6 : World) (rs : List RowD) (b9 b10 : Nat) (hB : w6.heap.size ≤ B) : OwnFrom B (StI w6 rs b9 b10) := by
  rintro s A C row ⟨k, next, e1, e2, e3, e4⟩ hg hr
  have kc : ∀ {g : Nat} {o : Obj}, A.heap[g]? = some o → o.isCells = true → C.heap[g]? = some o := fun h ho => (grownBy_keeps_cells hg (fun r e => (hr r e).2) h ho).trans h
  exact ⟨k, next, kc e1 rfl, kc e2 rfl, e3, e4.grown hg (by have := e4.size; omega) (fun k e => by have := (hr k e).1; omega)⟩
/-- how many rounds are left at most -/
def leftK (n b9 b10 : Nat) (wr : World) : Nat := match wr.cell? ⟨b10, 0, none⟩ with
  | some (.int _ z) => (match wr.cell? ⟨b9, 0, none⟩ with | some (.int _ k) => if z < 0 then n + 1 else n - k.toNat | _ => 0)
  | _ => 0
theorem leftK_eq {n b9 b10 : Nat} {wr : World} {k : Nat} {z : Int} (h9 : Boxed wr b9 3 (.int .i64 k)) (h10 : Boxed wr b10 21 (.int .i32 z)) : leftK n b9 b10 wr = if z < 0 then n + 1 else n - k := by
  unfold leftK
  rw [h10.cell, h9.cell]
  simp

/-- two boxes may have changed, all else is as it was -/
structure But2 (b9 b10 : Nat) (V W : World) : Prop where
  os : W.os = V.os
  tape : W.tape = V.tape
  output : W.output = V.output
  size : W.heap.size = V.heap.size
  keep : KeepsOthers V W
  block : ∀ j, j ≠ b9 → j ≠ b10 → W.heap[j]? = V.heap[j]?
theorem But2.refl (b9 b10 : Nat) (V : World) : But2 b9 b10 V V := ⟨rfl, rfl, rfl, rfl, KeepsOthers.refl _, fun _ _ _ => rfl⟩
theorem But2.drew {b9 b10 : Nat} {V W : World} (h : But2 b9 b10 V W) : But2 b9 b10 V W.drew := ⟨h.os, h.tape, h.output, h.size, h.keep.trans (KeepsOthers.drew _), h.block⟩
theorem But2.drewN {b9 b10 : Nat} {V W : World} (h : But2 b9 b10 V W) (n : Nat) : But2 b9 b10 V (W.drewN n) := ⟨h.os, h.tape, h.output, h.size, ⟨h.keep.size, h.keep.same⟩, h.block⟩
theorem But2.set {b9 b10 k : Nat} {V W : World} (h : But2 b9 b10 V W) (hk : k = b9 ∨ k = b10) (v : Value) : But2 b9 b10 V (W.setCell ⟨k, 0, none⟩ v) :=
  ⟨h.os, h.tape, h.output, by simpa using h.size, h.keep.trans (KeepsOthers.setCell _ _ _), fun j h1 h2 => (Below.heap_setCell _ _ _ _ (by show j ≠ k; omega)).trans (h.block j h1 h2)⟩
theorem But2.below {b9 b10 B : Nat} {w V W : World} (h : But2 b9 b10 V W) (hb : Below B w V) (h9 : B ≤ b9) (h10 : B ≤ b10) : Below B w W :=
  ⟨h.os.trans hb.os, h.tape.trans hb.tape, h.output.trans hb.output, by rw [h.size]; exact hb.size, fun k hk => (h.block k (by omega) (by omega)).trans (hb.block k hk)⟩
theorem box_but2 {b9 b10 b : Nat} {V W : World} {T : TypeId} {v : Value} (h : Boxed V b T v) (hb : But2 b9 b10 V W) (h9 : b ≠ b9) (h10 : b ≠ b10) : Boxed W b T v := (hb.block b h9 h10).trans h

set_option maxRecDepth 100000 in
set_option maxHeartbeats 8000000 in
theorem runes_walk (rs : List RowD) (a : Option Addr) (n c : Nat) (few : Int) (w : World) (hg : Glob w) (hn : rs.length = n) (hc : n ≤ c) (hnb : n ≤ 1048576) (h : RwMem w a rs) :
    Calls Tryz.prog 7 #[.slice a n c, .int .i64 few] w fun e w' => e = .returned (.bool true) ∧ Below w.heap.size w w' := by
  obtain ⟨Wa, hWa⟩ : ∃ Wa, ((w.alloc (Obj.cells #[Value.slice a n c] 37)).alloc (Obj.cells #[Value.int IntKind.i64 few] 3)).alloc (Obj.cells #[Value.bool false] 4) = Wa := ⟨_, rfl⟩
  have hba : Below w.heap.size w Wa := by rw [← hWa]; exact (((Below.refl _ w).alloc (Nat.le_refl _) _).alloc (by simp) _).alloc (by simp; omega) _
  have hsa : Wa.heap.size = w.heap.size + 3 := by rw [← hWa]; simp
  have a0 : Boxed Wa w.heap.size 37 (.slice a n c) := by rw [← hWa]; exact (Below.heap_alloc _ _ _ (by simp; omega)).trans ((Below.heap_alloc _ _ _ (by simp)).trans (heap_alloc_new w _))
  have a1 : Boxed Wa (w.heap.size + 1) 3 (.int .i64 few) := by
    rw [← hWa]; refine (Below.heap_alloc _ _ _ (by simp)).trans ?_
    have h := heap_alloc_new (w.alloc (Obj.cells #[Value.slice a n c] 37)) (Obj.cells #[Value.int IntKind.i64 few] 3)
    rw [World.size_alloc] at h; exact h
  have a2 : Boxed Wa (w.heap.size + 1 + 1) 4 (.bool false) := by
    rw [← hWa]
    have h := heap_alloc_new ((w.alloc (Obj.cells #[Value.slice a n c] 37)).alloc (Obj.cells #[Value.int IntKind.i64 few] 3)) (Obj.cells #[Value.bool false] 4)
    rw [World.size_alloc, World.size_alloc] at h; exact h
  refine (callsIn_wide (n := 9)).1 ?_
  refine callsIn_of_wp_marks Tryz.func7 rfl trivial ?_ rfl
  simp only [Tryz.ntmps7, List.size_toArray, List.length_cons, List.length_nil, Nat.reduceAdd, Nat.reduceSub, Array.replicate_succ, Array.replicate_zero, List.push_toArray, List.append_toArray, List.nil_append, List.cons_append]
  have hF : ∀ f, Fence.wide.fn f := fun _ => trivial
  have HG := hide hg
  have HM := hide h
  have HN := hide hn
  have A0 := hide a0
  have A1 := hide a1
  have A2 := hide a2
  have HBA := hide hba
  have hnb2 : n ≤ 1099511627776 := by omega
  have HPT := hide (fun V hm => callsIn_wide (n := 9 - 1) |>.2 (points_any rs a n c V hn hnb2 hm))
  have HPL := hide (pts_len rs 0)
  generalize ptsR rs 0 = m at *
  clear hg a0 a1 a2 hba h hn
  gi_wp2_with fail
  clear hWa
  refine (callsIn_wide.2 (awake6_any Wa ((unhide HG).below (unhide HBA)))).mono ?_
  rintro e w1 ⟨rfl, hb1⟩
  have b1 := (unhide HBA).trans (hb1.mono (unhide HBA).size)
  have p0 : Boxed w1 w.heap.size 37 (.slice a n c) := (hb1.block _ (by omega)).trans (unhide A0)
  have p1 : Boxed w1 (w.heap.size + 1) 3 (.int .i64 few) := (hb1.block _ (by omega)).trans (unhide A1)
  have p2 : Boxed w1 (w.heap.size + 1 + 1) 4 (.bool false) := (hb1.block _ (by omega)).trans (unhide A2)
  have s1 := hb1.size
  have z0 := p0.cell
  have B1 := hide b1
  have P0 := hide p0
  have P1 := hide p1
  have P2 := hide p2
  clear hb1 b1 p0 p1 p2 A0 A1 A2
  gi_wp2_with fail
  refine (unhide HPT w1 ((unhide HM).below (unhide B1))).mono ?_
  rintro e w2 ⟨rfl, hb2⟩
  clear z0
  have s2 := hb2.size
  have B12 := hide hb2
  have B2 := hide ((unhide B1).trans (hb2.mono (unhide B1).size))
  clear hb2
  have p22 : Boxed w2 (w.heap.size + 1 + 1) 4 (.bool false) := ((unhide B12).block _ (by omega)).trans (unhide P2)
  have p20 : Boxed w2 w.heap.size 37 (.slice a n c) := ((unhide B12).block _ (by omega)).trans (unhide P0)
  have p21 : Boxed w2 (w.heap.size + 1) 3 (.int .i64 few) := ((unhide B12).block _ (by omega)).trans (unhide P1)
  have Q0 := hide p20
  have Q1 := hide p21
  have Q2 := hide p22
  clear p20 p21 p22 P0 P1 P2 B12
  have hfn := fnNil7 82
  by_cases hmb : 4194304 < m
  · have hmb' : (4194304 : Int) < (m : Int) := by omega
    gi_wp2_with fail
    refine (callsIn_wide.2 (awake6_any w2 ((unhide HG).below (unhide B2)))).mono ?_
    rintro e w3 ⟨rfl, hb3⟩
    have p32 : Boxed w3 (w.heap.size + 1 + 1) 4 (.bool false) := (hb3.block _ (by omega)).trans (unhide Q2)
    have q1 := p32.cell
    have q2 := p32.frozen
    have P3 := hide (p32.set (.bool true))
    have B3 := hide ((unhide B2).trans (hb3.mono (unhide B2).size))
    clear p32 hb3
    gi_wp2
    have q3 := (unhide P3).cell
    exact ⟨.bool true, by simp [results, Tryz.f7, go_sem, q3], rfl, (unhide B3).setCell (by simp; omega) _⟩
  have hmb' : ¬ (4194304 : Int) < (m : Int) := by omega
  have hlm : m = (runesR rs).length := by have := unhide HPL (by omega); omega
  have HLM := hide hlm
  have z0 := (unhide Q0).cell
  clear HPL hlm
  have HLE := hide (callsIn_wide (n := 9 - 1) |>.2 (lent_any rs a n c w2 (unhide HN) hc hnb2 ((unhide HM).below (unhide B2))))
  gi_wp2_with fail
  refine (unhide HLE).mono ?_
  rintro e w3 ⟨v3, rfl, ⟨g, cap, rfl, hc1, hc2, hgb, hm3⟩, hb3⟩
  have s3 := hb3.size
  have HM3 := hide hm3
  have HB3 := hide hb3
  clear hb3 hm3 z0 HLE
  have HRU := hide (callsIn_wide (n := 9 - 1) |>.2 (runes6_any rs (some ⟨g, 0, none⟩) n cap w3 (unhide HN) (by omega) hnb2 (unhide HM3).left))
  gi_wp2_with fail
  refine (unhide HRU).mono ?_
  rintro e w4 ⟨Bs, rfl, hRA, hb4⟩
  have s4 := hb4.size
  have b24 : Below w2.heap.size w2 w4 := (unhide HB3).trans (hb4.mono (unhide HB3).size)
  have HB24 := hide b24
  have B4 := hide ((unhide B2).trans (b24.mono (unhide B2).size))
  have R0 : Hid (Boxed w4 w.heap.size 37 (.slice a n c)) := (b24.block _ (unhide Q0).lt).trans (unhide Q0)
  have R1 : Hid (Boxed w4 (w.heap.size + 1) 3 (.int .i64 few)) := (b24.block _ (unhide Q1).lt).trans (unhide Q1)
  have R2 : Hid (Boxed w4 (w.heap.size + 1 + 1) 4 (.bool false)) := (b24.block _ (unhide Q2).lt).trans (unhide Q2)
  have HM4 := hide ((unhide HM3).below hb4)
  have HBs : Bs < w4.heap.size := by obtain ⟨_, _, _, h2, _⟩ := hRA; exact h2.lt
  have HRA := hide hRA
  clear hb4 b24 HRU HB3 HM3 Q0 Q1 Q2 hRA HB24
  obtain ⟨W5, hW5⟩ : ∃ W5, w4.alloc (Obj.cells #[Value.int IntKind.i64 0] 3) = W5 := ⟨_, rfl⟩
  have b45 : Below w4.heap.size w4 W5 := by rw [← hW5]; exact (Below.refl _ w4).alloc (Nat.le_refl _) _
  have s5 : W5.heap.size = w4.heap.size + 1 := by rw [← hW5]; simp
  have d7 : Boxed W5 w4.heap.size 3 (.int .i64 0) := by rw [← hW5]; exact heap_alloc_new w4 _
  have f0 := d7.cell
  have f1 := d7.frozen
  have f2 := set_same d7
  have HI0 : Hid (FewI w4 w4.heap.size few [] W5) := ⟨d7, by simp; omega, b45⟩
  have HB45 := hide b45
  clear d7 b45
  gi_wp2
  clear hW5 f0 f1 f2
  obtain ⟨K, hK⟩ : ∃ K : Int, (if 1 ≤ few then min few (m : Int) else (m : Int)) = K := ⟨_, rfl⟩
  have hsw := (unhide B4).size
  refine range4J (k := 0) (by omega) (gf := 82) (lb := #[.pointer (some ⟨Bs, 0, none⟩)]) rfl (enters_of Tryz.func82 (by kernel_rfl) rfl)
    (runes_gives rs w3.heap.size Bs _ (fun k => k ≠ w4.heap.size) (by omega) W5 ((unhide HRA).below (unhide HB45)) (by rw [unhide HN]; exact hnb2) (fun k hk => by omega) (fun k hk _ => by omega)) (Below.refl _ _) (fun _ => rfl)
    (FewI w4 w4.heap.size few) (FewX w4 w4.heap.size few) (fun V => Boxed V w4.heap.size 3 (.int .i64 K) ∧ Below w4.heap.size w4 V)
    (own_FewI w4 _ few (by omega)) (own_FewX w4 _ few (by omega)) (CalmR.none _ _ _) (unhide HI0) ?act ?assign ?body ?m1 ?m2 ?ex ?join
  case m1 =>
    rintro xs V rfl ⟨i1, i2, i3⟩
    rw [← unhide HLM] at i1 i2
    have e : K = (m : Int) := by rw [← hK]; split <;> omega
    rw [e]
    exact ⟨i1, i3⟩
  case m2 =>
    rintro pre V hp ⟨i1, i2, i3⟩
    have hle := hp.length_le
    rw [← unhide HLM] at hle
    have e : K = (pre.length : Int) := by rw [← hK, if_pos i2.1]; omega
    rw [e]
    exact ⟨i1, i3⟩
  case ex =>
    intro a' V h
    exact wpIn_exit (by simpa [Exit.inBlock] using h)
  case assign =>
    intro l2 x V K hK
    gi_wp2
    exact hK
  case body =>
    rintro l2 pre x V hl hsz2 ⟨rr, hrr⟩ ⟨i1, i2, i3⟩ hSp
    have S5 := hide s5
    have hle := hSp.length_le
    rw [← unhide HLM, List.length_append] at hle
    have hpl : pre.length + 1 ≤ 4194304 := by simp at hle; omega
    have hap : (pre ++ [x]).length = pre.length + 1 := by simp
    have r1 : Boxed V (w.heap.size + 1) 3 (.int .i64 few) := (i3.block _ (unhide R1).lt).trans (unhide R1)
    have z1 := i1.cell
    have y1 := i1.frozen
    have hq1 : IntKind.i64.wrap ((pre.length : Int) + 1) = (pre.length : Int) + 1 := by rw [IntKind.wrap_i64]; omega
    have g1 : Boxed (V.setCell ⟨w4.heap.size, 0, none⟩ (.int .i64 ((pre.length : Int) + 1))) w4.heap.size 3 (.int .i64 ((pre.length : Int) + 1)) := i1.set _
    have g2 : Boxed (V.setCell ⟨w4.heap.size, 0, none⟩ (.int .i64 ((pre.length : Int) + 1))) (w.heap.size + 1) 3 (.int .i64 few) := r1.other (by omega) _
    have z2 := g1.cell
    have z3 := g2.cell
    have ko : KeepsOthers V (V.setCell ⟨w4.heap.size, 0, none⟩ (.int .i64 ((pre.length : Int) + 1))) := KeepsOthers.setCell _ _ _
    have hbx : Boxed (V.setCell ⟨w4.heap.size, 0, none⟩ (.int .i64 ((pre.length : Int) + 1))) w4.heap.size 3 (.int .i64 ((pre ++ [x]).length : Nat)) := by rw [hap]; exact g1
    have bl : Below w4.heap.size w4 (V.setCell ⟨w4.heap.size, 0, none⟩ (.int .i64 ((pre.length : Int) + 1))) := i3.setCell (Nat.le_refl _) _
    have kpr : KpR 0 (fun k => k ≠ w4.heap.size) (W5.heap.size + 2) V (V.setCell ⟨w4.heap.size, 0, none⟩ (.int .i64 ((pre.length : Int) + 1))) := ⟨ko.walks, fun k o hk ho hx => by
      rcases hk with hk | hk
      · omega
      · exact (Below.heap_setCell _ _ _ _ hk).trans hx⟩
    by_cases hf : (pre.length : Int) + 1 = few
    · have hf' : ((pre.length : Int) + 1 == few) = true := by simpa using hf
      have FIN : Hid (KeepsFrom W5.heap.size V (V.setCell ⟨w4.heap.size, 0, none⟩ (.int .i64 ((pre.length : Int) + 1))) ∧ FewX w4 w4.heap.size few (pre ++ [x]) (V.setCell ⟨w4.heap.size, 0, none⟩ (.int .i64 ((pre.length : Int) + 1)))) := ⟨ko.from _, hbx, by rw [hap]; omega, bl⟩
      clear hap hf ko hbx bl kpr g1 g2 i1 i2 i3 r1 s5
      gi_wp2
      exact ⟨(unhide FIN).1, rfl, (unhide FIN).2⟩
    · have hf' : ((pre.length : Int) + 1 == few) = false := by simpa using hf
      have FIN : Hid (KeepsFrom W5.heap.size V (V.setCell ⟨w4.heap.size, 0, none⟩ (.int .i64 ((pre.length : Int) + 1))) ∧ KpR 0 (fun k => k ≠ w4.heap.size) (W5.heap.size + 2) V (V.setCell ⟨w4.heap.size, 0, none⟩ (.int .i64 ((pre.length : Int) + 1))) ∧ FewI w4 w4.heap.size few (pre ++ [x]) (V.setCell ⟨w4.heap.size, 0, none⟩ (.int .i64 ((pre.length : Int) + 1)))) := ⟨ko.from _, kpr, hbx, by rw [hap]; omega, bl⟩
      clear hap hf ko hbx bl kpr g1 g2 i1 i2 i3 r1 s5
      gi_wp2
      exact unhide FIN
  case join =>
    rintro D V hD ⟨i1, i3⟩ hKD
    have v0 : Boxed V w.heap.size 37 (.slice a n c) := (i3.block _ (unhide R0).lt).trans (unhide R0)
    have v1 : Boxed V (w.heap.size + 1) 3 (.int .i64 few) := (i3.block _ (unhide R1).lt).trans (unhide R1)
    have v2 : Boxed V (w.heap.size + 1 + 1) 4 (.bool false) := (i3.block _ (unhide R2).lt).trans (unhide R2)
    have bV := (unhide B4).trans (i3.mono (unhide B4).size)
    have sV := i3.size
    have lD := (Array.getElem?_eq_some_iff.1 hKD).1
    have z0 := v0.cell
    have HPV := hide (unhide HPT V ((unhide HM).below bV))
    have V0 := hide v0
    have V1 := hide v1
    have V2 := hide v2
    have V7 := hide i1
    have I3 := hide i3
    have HKD := hide hKD
    clear v0 v1 v2 i1 i3 hKD bV HI0
    gi_wp2_with fail
    refine (unhide HPV).mono ?_
    rintro e w6 ⟨rfl, hb6⟩
    have s6 := hb6.size
    have e0 : Boxed w6 w.heap.size 37 (.slice a n c) := (hb6.block _ (unhide V0).lt).trans (unhide V0)
    have e1 : Boxed w6 (w.heap.size + 1) 3 (.int .i64 few) := (hb6.block _ (unhide V1).lt).trans (unhide V1)
    have e2 : Boxed w6 (w.heap.size + 1 + 1) 4 (.bool false) := (hb6.block _ (unhide V2).lt).trans (unhide V2)
    have e7 : Boxed w6 w4.heap.size 3 (.int .i64 K) := (hb6.block _ (unhide V7).lt).trans (unhide V7)
    have k6 := (hb6.block _ lD).trans (unhide HKD)
    have b46 : Below w4.heap.size w4 w6 := (unhide I3).trans (hb6.mono (unhide I3).size)
    have c1 := e1.cell
    have c7 := e7.cell
    have E0 := hide e0
    have E2 := hide e2
    have HK6 := hide k6
    have B46 := hide b46
    clear hb6 e0 e1 e2 e7 k6 b46 V0 V1 V2 V7 I3 HKD HPV z0
    obtain ⟨W7, hW7⟩ : ∃ W7, (w6.alloc (Obj.cells #[Value.int IntKind.i64 0] 3)).alloc (Obj.cells #[Value.int IntKind.i32 (-1)] 21) = W7 := ⟨_, rfl⟩
    have b67 : Below w6.heap.size w6 W7 := by rw [← hW7]; exact ((Below.refl _ w6).alloc (Nat.le_refl _) _).alloc (by simp) _
    have s7 : W7.heap.size = w6.heap.size + 2 := by rw [← hW7]; simp
    have d9 : Boxed W7 w6.heap.size 3 (.int .i64 0) := by rw [← hW7]; exact (Below.heap_alloc _ _ _ (by simp)).trans (heap_alloc_new w6 _)
    have d10 : Boxed W7 (w6.heap.size + 1) 21 (.int .i32 (-1)) := by
      rw [← hW7]
      have h := heap_alloc_new (w6.alloc (Obj.cells #[Value.int IntKind.i64 0] 3)) (Obj.cells #[Value.int IntKind.i32 (-1)] 21)
      rw [World.size_alloc] at h; exact h
    have HS0 : Hid (StI w6 rs w6.heap.size (w6.heap.size + 1) [] W7) := ⟨0, -1, d9, d10, .inl ⟨rfl, rfl, rfl⟩, b67⟩
    have HRA7 := hide ((unhide HRA).below (Below.trans (unhide B46) (b67.mono (unhide B46).size)))
    have B67 := hide b67
    clear d9 d10 b67
    have hcond : (1 ≤ few ∧ K = min few (m : Int)) ∨ (few < 1 ∧ K = (m : Int)) := by
      rw [← hK]
      by_cases hf1 : 1 ≤ few
      · exact .inl ⟨hf1, if_pos hf1⟩
      · exact .inr ⟨by omega, if_neg hf1⟩
    clear hK
    rcases hcond with ⟨hf1, rfl⟩ | ⟨hf1, rfl⟩
    · have hd1 : decide ((1 : Int) ≤ few) = true := decide_eq_true hf1
      have hd2 : decide (few < 1) = false := decide_eq_false (by omega)
      have hd3 : decide (few ≥ 1) = true := decide_eq_true hf1
      gi_wp2
      clear hW7 c1 c7
      refine range4B (by omega) (gf := 82) (lb := #[.pointer (some ⟨Bs, 0, none⟩)]) rfl (enters_of Tryz.func82 (by kernel_rfl) rfl)
        (runes_gives rs w3.heap.size Bs _ (fun k => k ≠ w6.heap.size ∧ k ≠ w6.heap.size + 1) (by omega) W7 (unhide HRA7) (by rw [unhide HN]; exact hnb2) (fun k hk => by omega) (fun k hk _ => by omega)) (Below.refl _ _) (fun _ => rfl)
        (StI w6 rs w6.heap.size (w6.heap.size + 1)) (fun c pre V => False)
        (own_StI w6 rs _ _ (by omega)) (fun c => fun _ _ _ _ h _ _ => h) (CalmR.none _ _ _) (unhide HS0)
        (fun x => .cells (rowC x.2).toArray 29 (0, 0)) (fun _ => rfl) ?frA ?assignA ?bodyA ?doneA ?stopA
      case assignA =>
        intro l2 x V K hK
        gi_wp2
        generalize hBx : V.heap.size = Bx
        exact hK Bx hBx.symm
      case stopA =>
        rintro D c pre V hD hSp h hK
        exact h.elim
      case bodyA =>
        rintro l2 pre x Bx V hl hsz2 ⟨rr, hrr⟩ ⟨k, next, i9, i10, ist, ib⟩ hx1 hx2 hSp
        obtain ⟨xn, xr⟩ := x
        simp only at hx1
        have v0 : Boxed V w.heap.size 37 (.slice a n c) := (ib.block _ (unhide E0).lt).trans (unhide E0)
        have b4V : Below w4.heap.size w4 V := (unhide B46).trans (ib.mono (unhide B46).size)
        have bV : Below w.heap.size w V := (unhide B4).trans (b4V.mono (unhide B4).size)
        have mV := (unhide HM).below bV
        obtain ⟨g', off', hga⟩ : ∃ g' off', a = some ⟨g', off', none⟩ := by
          have h0 := hSp.length_le
          simp only [List.length_append, List.length_cons, List.length_nil] at h0
          cases hrs : rs with
          | nil => rw [hrs] at h0; simp [runesR] at h0
          | cons y l =>
            obtain ⟨g2, o2, e2, _⟩ := (unhide HM) 0 y (by rw [hrs]; rfl)
            exact ⟨g2, o2, e2⟩
        have hgl : g' < w.heap.size := by
          have h0 := hSp.length_le
          simp only [List.length_append, List.length_cons, List.length_nil] at h0
          cases hrs : rs with
          | nil => rw [hrs] at h0; simp [runesR] at h0
          | cons y l =>
            obtain ⟨g2, o2, e2, hc2⟩ := (unhide HM) 0 y (by rw [hrs]; rfl)
            rw [hga] at e2
            simp only [Option.some.injEq, Addr.mk.injEq] at e2
            obtain ⟨rfl, rfl, _⟩ := e2
            exact World.block_lt_of_cell? _ _ (hc2 0 _ rfl)
        have hrow : ∀ (wr : World) (i : Nat) (x : RowD), But2 w6.heap.size (w6.heap.size + 1) V wr → rs[i]? = some x → ∀ j v, (rowC x)[j]? = some v → wr.cell? ⟨g', off' + i * 9 + j, none⟩ = some v := fun wr i x hb hx j v hv => by
          obtain ⟨g2, o2, e, hc'⟩ := mV i x hx
          rw [hga] at e
          simp only [Option.some.injEq, Addr.mk.injEq] at e
          obtain ⟨rfl, rfl, _⟩ := e
          exact (World.cell?_of_block (hb.block g' (by omega) (by omega))).trans (hc' j v hv)
        have HROW := hide hrow
        have V0 : Hid (Boxed V w.heap.size 37 (.slice (some ⟨g', off', none⟩) n c)) := by rw [← hga]; exact v0
        have HIB := hide ib
        have hbx : Blk V Bx (rowC xr) 29 := hx1
        have HBX := hide hbx
        have HSP := hide hSp
        have hsV := ib.size
        clear hrow v0 b4V bV mV ib hbx hx1 hSp
        gi_wp2
        gi_loopw [56] (fun v56 wr => ∃ (k : Nat) (next : Int), Boxed wr w6.heap.size 3 (.int .i64 k) ∧ Boxed wr (w6.heap.size + 1) 21 (.int .i32 next) ∧ ((pre = [] ∧ k = 0 ∧ next = -1) ∨ StR rs pre k next) ∧ But2 w6.heap.size (w6.heap.size + 1) V wr) (fun _ wr => leftK n w6.heap.size (w6.heap.size + 1) wr)
        case atStart => exact ⟨k, next, i9, i10, ist, But2.refl _ _ _⟩
        case round =>
          clear i9 i10 ist
          obtain ⟨k, next, i9, i10, ist, hbt⟩ := hrel
          have hmk := leftK_eq (n := n) i9 i10
          have HMK := hide hmk
          clear hmk
          have f0 : Boxed wr w.heap.size 37 (.slice (some ⟨g', off', none⟩) n c) := box_but2 (unhide V0) hbt (by omega) (by omega)
          have z0 := f0.cell
          have z9 := i9.cell
          have y9 := i9.frozen
          have z10 := i10.cell
          have y10 := i10.frozen
          clear f0
          rcases ist with ⟨hp0, rfl, rfl⟩ | hst
          · subst hp0
            obtain ⟨x', hx', hst⟩ := st_first (unhide HSP)
            have hn0 : 0 < n := by rw [← unhide HN]; exact (List.getElem?_eq_some_iff.1 hx').1
            have hn0' : (0 : Int) < (n : Int) := by omega
            gi_wp2
            refine Reads.wpIn_region_quiet (by kernel_rfl) (by kernel_rfl) (by kernel_rfl) ?_
            repeat (go_big_quiet_step (fail))
            refine wpQuiet_nil ?_
            intro _ hw'
            obtain ⟨nq, hw''⟩ := hw'
            subst hw''
            have hbt2 := hbt.drewN nq
            have j9 : Boxed (wr.drewN nq) w6.heap.size 3 (.int .i64 (0 : Nat)) := i9
            have j10 : Boxed (wr.drewN nq) (w6.heap.size + 1) 21 (.int .i32 (-1)) := i10
            clear z0 z9 y9 z10 y10 i9 i10 hbt
            generalize wr.drewN nq = w2 at *
            obtain ⟨lo, hlo⟩ : ∃ lo, max x'.first 0 = lo := ⟨_, rfl⟩
            obtain ⟨hi2, hhi⟩ : ∃ h, min x'.last 1114111 = h := ⟨_, rfl⟩
            have hnx : nextF x' = if hi2 < lo then 1114112 else lo := by unfold nextF hiR loR; rw [hlo, hhi]
            have HST := hide hst
            clear hst
            have cx1 := unhide HROW w2 0 x' hbt2 hx' 1 _ rfl
            simp only [Nat.zero_mul, Nat.add_zero] at cx1
            have f0 : Boxed w2 w.heap.size 37 (.slice (some ⟨g', off', none⟩) n c) := box_but2 (unhide V0) hbt2 (by omega) (by omega)
            have z0 := f0.cell
            have z9 := j9.cell
            have y9 := j9.frozen
            have z10 := j10.cell
            have y10 := j10.frozen
            clear f0
            obtain ⟨W3, hW3⟩ : ∃ W3, w2.setCell ⟨w6.heap.size + 1, 0, none⟩ (.int .i32 lo) = W3 := ⟨_, rfl⟩
            have hbt3 : But2 w6.heap.size (w6.heap.size + 1) V W3 := by rw [← hW3]; exact hbt2.set (.inr rfl) _
            have l9 : Boxed W3 w6.heap.size 3 (.int .i64 (0 : Nat)) := by rw [← hW3]; exact j9.other (by omega) _
            have l10 : Boxed W3 (w6.heap.size + 1) 21 (.int .i32 lo) := by rw [← hW3]; exact j10.set _
            have cx2 := unhide HROW W3 0 x' hbt3 hx' 2 _ rfl
            simp only [Nat.zero_mul, Nat.add_zero] at cx2
            have f3 : Boxed W3 w.heap.size 37 (.slice (some ⟨g', off', none⟩) n c) := box_but2 (unhide V0) hbt3 (by omega) (by omega)
            have u0 := f3.cell
            have u9 := l9.cell
            have u10 := l10.cell
            clear f3
            have L9 := hide l9
            have L10 := hide l10
            have HBT3 := hide hbt3
            clear l9 l10 hbt3  j9 j10 hbt2
            by_cases hov : hi2 < lo
            · have hd : decide (hi2 < lo) = true := decide_eq_true hov
              rw [if_pos hov] at hnx
              gi_wp2
              refine Reads.wpIn_region_quiet (by kernel_rfl) (by kernel_rfl) (by kernel_rfl) ?_
              repeat (go_big_quiet_step (fail))
              refine wpQuiet_nil ?_
              intro _ hw'
              obtain ⟨nq, hw''⟩ := hw'
              subst hw''
              have k9 : Boxed (W3.drewN nq) w6.heap.size 3 (.int .i64 (0 : Nat)) := unhide L9
              have k10 : Boxed (W3.drewN nq) (w6.heap.size + 1) 21 (.int .i32 lo) := unhide L10
              have hbt5 := (unhide HBT3).drewN nq
              clear hW3  z0 z9 y9 z10 y10 u0 u9 u10 cx1 cx2
              generalize W3.drewN nq = w5 at *
              have t10 := k10.cell
              have s10 := k10.frozen
              have m9 : Boxed (w5.setCell ⟨w6.heap.size + 1, 0, none⟩ (.int .i32 1114112)) w6.heap.size 3 (.int .i64 (0 : Nat)) := k9.other (by omega) _
              have m10 : Boxed (w5.setCell ⟨w6.heap.size + 1, 0, none⟩ (.int .i32 1114112)) (w6.heap.size + 1) 21 (.int .i32 1114112) := k10.set _
              have hbt6 := hbt5.set (k := w6.heap.size + 1) (.inr rfl) (.int .i32 1114112)
              have hmk2 : leftK n w6.heap.size (w6.heap.size + 1) (w5.setCell ⟨w6.heap.size + 1, 0, none⟩ (.int .i32 1114112)) = n - 0 := (leftK_eq (n := n) (k := 0) m9 m10).trans (if_neg (by omega))
              have HM6 := hide (⟨m9, m10, hbt6, hmk2⟩ : _ ∧ _ ∧ _ ∧ _)
              have HNX := hide hnx
              clear m9 m10 hbt6 hmk2 k9 k10 hbt5 hnx
              gi_wp2
              obtain ⟨m9, m10, hbt6, hmk2⟩ := unhide HM6
              have hst := unhide HST
              rw [unhide HNX] at hst
              exact ⟨⟨0, 1114112, m9, m10, .inr hst, hbt6⟩, by rw [hmk2, unhide HMK]; simp⟩
            · have hd : decide (hi2 < lo) = false := decide_eq_false hov
              rw [if_neg hov] at hnx
              gi_wp2
              refine Reads.wpIn_region_quiet (by kernel_rfl) (by kernel_rfl) (by kernel_rfl) ?_
              repeat (go_big_quiet_step (fail))
              refine wpQuiet_nil ?_
              intro _ hw'
              obtain ⟨nq, hw''⟩ := hw'
              subst hw''
              have k9 : Boxed (W3.drewN nq) w6.heap.size 3 (.int .i64 (0 : Nat)) := unhide L9
              have k10 : Boxed (W3.drewN nq) (w6.heap.size + 1) 21 (.int .i32 lo) := unhide L10
              have hbt5 := (unhide HBT3).drewN nq
              clear hW3  z0 z9 y9 z10 y10 u0 u9 u10 cx1 cx2
              generalize W3.drewN nq = w5 at *
              have hlo0 : 0 ≤ lo := by omega
              have hmk2 : leftK n w6.heap.size (w6.heap.size + 1) w5 = n - 0 := (leftK_eq (n := n) (k := 0) k9 k10).trans (if_neg (by omega))
              have HM6 := hide (⟨k9, k10, hbt5, hmk2⟩ : _ ∧ _ ∧ _ ∧ _)
              have HNX := hide hnx
              clear k9 k10 hbt5 hmk2 hnx
              gi_wp2
              obtain ⟨m9, m10, hbt6, hmk2⟩ := unhide HM6
              have hst := unhide HST
              rw [unhide HNX] at hst
              exact ⟨⟨0, lo, m9, m10, .inr hst, hbt6⟩, by rw [hmk2, unhide HMK]; simp⟩
          · obtain ⟨hn1, hn2, hn3⟩ := st_range hst
            rw [unhide HN] at hn3
            obtain ⟨xk, hxk⟩ : ∃ x, rs[k]? = some x := ⟨_, List.getElem?_eq_getElem (by rw [unhide HN]; exact hn3)⟩
            have ck2 := unhide HROW wr k xk hbt hxk 2 _ rfl
            have hk3 : (k : Int) < (n : Int) := by omega
            have hd0 : decide (next < 0) = false := decide_eq_false (by omega)
            obtain ⟨hk2, hhk⟩ : ∃ h, min xk.last 1114111 = h := ⟨_, rfl⟩
            have hhk' : hiR xk = hk2 := hhk
            by_cases ho : hk2 < next
            · have hd1 : decide (hk2 < next) = true := decide_eq_true ho
              obtain ⟨x', hx', hst⟩ := st_over hst hxk (by rw [hhk']; exact ho) (unhide HSP)
              have hk4 : k + 1 < n := by rw [← unhide HN]; exact (List.getElem?_eq_some_iff.1 hx').1
              have hk4' : (k : Int) + 1 < (n : Int) := by omega
              clear hhk'
              gi_wp2
              refine Reads.wpIn_region_quiet (by kernel_rfl) (by kernel_rfl) (by kernel_rfl) ?_
              repeat (go_big_quiet_step (fail))
              refine wpQuiet_nil ?_
              intro _ hw'
              obtain ⟨nq, hw''⟩ := hw'
              subst hw''
              have hbt2 := hbt.drewN nq
              have j9 : Boxed (wr.drewN nq) w6.heap.size 3 (.int .i64 k) := i9
              have j10 : Boxed (wr.drewN nq) (w6.heap.size + 1) 21 (.int .i32 next) := i10
              clear z0 z9 y9 z10 y10 i9 i10 hbt ck2 hxk
              generalize wr.drewN nq = w2 at *
              obtain ⟨lo, hlo⟩ : ∃ lo, max x'.first 0 = lo := ⟨_, rfl⟩
              obtain ⟨hi2, hhi⟩ : ∃ h, min x'.last 1114111 = h := ⟨_, rfl⟩
              have hnx : nextF x' = if hi2 < lo then 1114112 else lo := by unfold nextF hiR loR; rw [hlo, hhi]
              have HST := hide hst
              clear hst
              have hq1 : IntKind.i64.wrap ((k : Int) + 1) = (k : Int) + 1 := by rw [IntKind.wrap_i64]; omega
              obtain ⟨Wb, hWb⟩ : ∃ Wb, w2.setCell ⟨w6.heap.size, 0, none⟩ (.int .i64 ((k : Int) + 1)) = Wb := ⟨_, rfl⟩
              have hbtb : But2 w6.heap.size (w6.heap.size + 1) V Wb := by rw [← hWb]; exact hbt2.set (.inl rfl) _
              have b9 : Boxed Wb w6.heap.size 3 (.int .i64 ((k : Int) + 1)) := by rw [← hWb]; exact j9.set _
              have b10 : Boxed Wb (w6.heap.size + 1) 21 (.int .i32 next) := by rw [← hWb]; exact j10.other (by omega) _
              have fb : Boxed Wb w.heap.size 37 (.slice (some ⟨g', off', none⟩) n c) := box_but2 (unhide V0) hbtb (by omega) (by omega)
              have zb0 := fb.cell
              have zb9 := b9.cell
              have yb10 := b10.frozen
              have zb10 := b10.cell
              clear fb
              have cx1 := unhide HROW Wb (k + 1) x' hbtb hx' 1 _ rfl
              have f0 : Boxed w2 w.heap.size 37 (.slice (some ⟨g', off', none⟩) n c) := box_but2 (unhide V0) hbt2 (by omega) (by omega)
              have z0 := f0.cell
              have z9 := j9.cell
              have y9 := j9.frozen
              have z10 := j10.cell
              have y10 := j10.frozen
              clear f0
              obtain ⟨W3, hW3⟩ : ∃ W3, Wb.setCell ⟨w6.heap.size + 1, 0, none⟩ (.int .i32 lo) = W3 := ⟨_, rfl⟩
              have hbt3 : But2 w6.heap.size (w6.heap.size + 1) V W3 := by rw [← hW3]; exact hbtb.set (.inr rfl) _
              have l9 : Boxed W3 w6.heap.size 3 (.int .i64 ((k : Int) + 1)) := by rw [← hW3]; exact b9.other (by omega) _
              have l10 : Boxed W3 (w6.heap.size + 1) 21 (.int .i32 lo) := by rw [← hW3]; exact b10.set _
              have cx2 := unhide HROW W3 (k + 1) x' hbt3 hx' 2 _ rfl
              have f3 : Boxed W3 w.heap.size 37 (.slice (some ⟨g', off', none⟩) n c) := box_but2 (unhide V0) hbt3 (by omega) (by omega)
              have u0 := f3.cell
              have u9 := l9.cell
              have u10 := l10.cell
              clear f3
              have L9 := hide l9
              have L10 := hide l10
              have HBT3 := hide hbt3
              clear l9 l10 hbt3 b9 b10 hbtb j9 j10 hbt2
              by_cases hov : hi2 < lo
              · have hd : decide (hi2 < lo) = true := decide_eq_true hov
                rw [if_pos hov] at hnx
                gi_wp2
                refine Reads.wpIn_region_quiet (by kernel_rfl) (by kernel_rfl) (by kernel_rfl) ?_
                repeat (go_big_quiet_step (fail))
                refine wpQuiet_nil ?_
                intro _ hw'
                obtain ⟨nq, hw''⟩ := hw'
                subst hw''
                have k9 : Boxed (W3.drewN nq) w6.heap.size 3 (.int .i64 ((k : Int) + 1)) := unhide L9
                have k10 : Boxed (W3.drewN nq) (w6.heap.size + 1) 21 (.int .i32 lo) := unhide L10
                have hbt5 := (unhide HBT3).drewN nq
                clear hW3 hWb zb0 zb9 zb10 yb10 z0 z9 y9 z10 y10 u0 u9 u10 cx1 cx2
                generalize W3.drewN nq = w5 at *
                have t10 := k10.cell
                have s10 := k10.frozen
                have m9 : Boxed (w5.setCell ⟨w6.heap.size + 1, 0, none⟩ (.int .i32 1114112)) w6.heap.size 3 (.int .i64 ((k : Int) + 1)) := k9.other (by omega) _
                have m10 : Boxed (w5.setCell ⟨w6.heap.size + 1, 0, none⟩ (.int .i32 1114112)) (w6.heap.size + 1) 21 (.int .i32 1114112) := k10.set _
                have hbt6 := hbt5.set (k := w6.heap.size + 1) (.inr rfl) (.int .i32 1114112)
                have hmk2 : leftK n w6.heap.size (w6.heap.size + 1) (w5.setCell ⟨w6.heap.size + 1, 0, none⟩ (.int .i32 1114112)) = n - (k + 1) := (leftK_eq (n := n) (k := k + 1) m9 m10).trans (if_neg (by omega))
                have HM6 := hide (⟨m9, m10, hbt6, hmk2⟩ : _ ∧ _ ∧ _ ∧ _)
                have HNX := hide hnx
                clear m9 m10 hbt6 hmk2 k9 k10 hbt5 hnx
                gi_wp2
                obtain ⟨m9, m10, hbt6, hmk2⟩ := unhide HM6
                have hst := unhide HST
                rw [unhide HNX] at hst
                exact ⟨⟨k + 1, 1114112, m9, m10, .inr hst, hbt6⟩, by rw [hmk2, unhide HMK]; rw [if_neg (by omega)]; omega⟩
              · have hd : decide (hi2 < lo) = false := decide_eq_false hov
                rw [if_neg hov] at hnx
                gi_wp2
                refine Reads.wpIn_region_quiet (by kernel_rfl) (by kernel_rfl) (by kernel_rfl) ?_
                repeat (go_big_quiet_step (fail))
                refine wpQuiet_nil ?_
                intro _ hw'
                obtain ⟨nq, hw''⟩ := hw'
                subst hw''
                have k9 : Boxed (W3.drewN nq) w6.heap.size 3 (.int .i64 ((k : Int) + 1)) := unhide L9
                have k10 : Boxed (W3.drewN nq) (w6.heap.size + 1) 21 (.int .i32 lo) := unhide L10
                have hbt5 := (unhide HBT3).drewN nq
                clear hW3 hWb zb0 zb9 zb10 yb10 z0 z9 y9 z10 y10 u0 u9 u10 cx1 cx2
                generalize W3.drewN nq = w5 at *
                have hlo0 : 0 ≤ lo := by omega
                have hmk2 : leftK n w6.heap.size (w6.heap.size + 1) w5 = n - (k + 1) := (leftK_eq (n := n) (k := k + 1) k9 k10).trans (if_neg (by omega))
                have HM6 := hide (⟨k9, k10, hbt5, hmk2⟩ : _ ∧ _ ∧ _ ∧ _)
                have HNX := hide hnx
                clear k9 k10 hbt5 hmk2 hnx
                gi_wp2
                obtain ⟨m9, m10, hbt6, hmk2⟩ := unhide HM6
                have hst := unhide HST
                rw [unhide HNX] at hst
                exact ⟨⟨k + 1, lo, m9, m10, .inr hst, hbt6⟩, by rw [hmk2, unhide HMK]; rw [if_neg (by omega)]; omega⟩
            · have hd1 : decide (hk2 < next) = false := decide_eq_false ho
              obtain ⟨hy, hle, hst2⟩ := st_here hst hxk (by rw [hhk']; exact ho) (unhide HSP)
              obtain ⟨rfl, rfl⟩ : xn = next ∧ xr = xk := by simpa using hy
              clear hy hhk' hst
              gi_wp2
              refine Reads.wpIn_region_quiet (by kernel_rfl) (by kernel_rfl) (by kernel_rfl) ?_
              repeat (go_big_quiet_step (fail))
              refine wpQuiet_nil ?_
              intro _ hw'
              obtain ⟨nq, hw''⟩ := hw'
              subst hw''
              have hbt2 := hbt.drewN nq
              have j9 : Boxed (wr.drewN nq) w6.heap.size 3 (.int .i64 k) := i9
              have j10 : Boxed (wr.drewN nq) (w6.heap.size + 1) 21 (.int .i32 xn) := i10
              clear z0 z9 y9 z10 y10 i9 i10 hbt ck2
              generalize wr.drewN nq = w2 at *
              have f0 : Boxed w2 w.heap.size 37 (.slice (some ⟨g', off', none⟩) n c) := box_but2 (unhide V0) hbt2 (by omega) (by omega)
              have z0 := f0.cell
              have z9 := j9.cell
              have z10 := j10.cell
              have bx2 : Blk w2 Bx (rowC xr) 29 := (hbt2.block Bx (by omega) (by omega)).trans (unhide HBX)
              have ck0 := unhide HROW w2 k xr hbt2 hxk 0 _ rfl
              have bk0 := bx2.cell (j := 0) rfl
              have ck1 := unhide HROW w2 k xr hbt2 hxk 1 _ rfl
              have bk1 := bx2.cell (j := 1) rfl
              have ck2 := unhide HROW w2 k xr hbt2 hxk 2 _ rfl
              have bk2 := bx2.cell (j := 2) rfl
              have ck3 := unhide HROW w2 k xr hbt2 hxk 3 _ rfl
              have bk3 := bx2.cell (j := 3) rfl
              have ck4 := unhide HROW w2 k xr hbt2 hxk 4 _ rfl
              have bk4 := bx2.cell (j := 4) rfl
              have ck5 := unhide HROW w2 k xr hbt2 hxk 5 _ rfl
              have bk5 := bx2.cell (j := 5) rfl
              have ck6 := unhide HROW w2 k xr hbt2 hxk 6 _ rfl
              have bk6 := bx2.cell (j := 6) rfl
              have ck7 := unhide HROW w2 k xr hbt2 hxk 7 _ rfl
              have bk7 := bx2.cell (j := 7) rfl
              have ck8 := unhide HROW w2 k xr hbt2 hxk 8 _ rfl
              have bk8 := bx2.cell (j := 8) rfl
              simp only [Nat.add_zero] at ck0
              have hxx : (xn != xn) = false := by simp
              clear f0 bx2
              gi_wp2
              refine Reads.wpIn_region_quiet (by kernel_rfl) (by kernel_rfl) (by kernel_rfl) ?_
              repeat (go_big_quiet_step (fail))
              refine wpQuiet_nil ?_
              intro _ hw'
              obtain ⟨nq, hw''⟩ := hw'
              subst hw''
              have hbt3 := hbt2.drewN nq
              have l9 : Boxed (w2.drewN nq) w6.heap.size 3 (.int .i64 k) := j9
              have l10 : Boxed (w2.drewN nq) (w6.heap.size + 1) 21 (.int .i32 xn) := j10
              clear z0 z9 z10 hbt2 j9 j10 ck0 bk0 ck1 bk1 ck2 bk2 ck3 bk3 ck4 bk4 ck5 bk5 ck6 bk6 ck7 bk7 ck8 bk8
              generalize w2.drewN nq = w3' at *
              have z10 := l10.cell
              have y10 := l10.frozen
              have hq2 : IntKind.i32.wrap (xn + 1) = xn + 1 := by rw [IntKind.wrap_i32]; omega
              have hbt4 := hbt3.set (k := w6.heap.size + 1) (.inr rfl) (.int .i32 (xn + 1))
              have m9 : Boxed (w3'.setCell ⟨w6.heap.size + 1, 0, none⟩ (.int .i32 (xn + 1))) w6.heap.size 3 (.int .i64 k) := l9.other (by omega) _
              have m10 : Boxed (w3'.setCell ⟨w6.heap.size + 1, 0, none⟩ (.int .i32 (xn + 1))) (w6.heap.size + 1) 21 (.int .i32 (xn + 1)) := l10.set _
              have FIN : Hid (KeepsFrom W7.heap.size V (w3'.setCell ⟨w6.heap.size + 1, 0, none⟩ (.int .i32 (xn + 1))) ∧ KpR 0 (fun k => k ≠ w6.heap.size ∧ k ≠ w6.heap.size + 1) (W7.heap.size + 2) V (w3'.setCell ⟨w6.heap.size + 1, 0, none⟩ (.int .i32 (xn + 1))) ∧ StI w6 rs w6.heap.size (w6.heap.size + 1) (pre ++ [(xn, xr)]) (w3'.setCell ⟨w6.heap.size + 1, 0, none⟩ (.int .i32 (xn + 1)))) :=
                ⟨hbt4.keep.from _, ⟨hbt4.keep.walks, fun j o hk ho hx => by
                  rcases hk with hk | hk
                  · omega
                  · exact (hbt4.block j hk.1 hk.2).trans hx⟩, k, xn + 1, m9, m10, .inr hst2, hbt4.below (unhide HIB) (Nat.le_refl _) (Nat.le_succ _)⟩
              clear hbt3 hbt4 m9 m10 l9 l10 hst2 s7
              gi_wp2
              exact unhide FIN
      case doneA =>
        rintro D2 xs V2 hD2 hS ⟨k, next, i9, i10, ist, ib⟩ hK2
        subst hS
        have v0 : Boxed V2 w.heap.size 37 (.slice a n c) := (ib.block _ (unhide E0).lt).trans (unhide E0)
        have v2 : Boxed V2 (w.heap.size + 1 + 1) 4 (.bool false) := (ib.block _ (unhide E2).lt).trans (unhide E2)
        have kD : V2.heap[D]? = some (.deferred (some [])) := (ib.block _ (by omega)).trans (unhide HK6)
        have b4V : Below w4.heap.size w4 V2 := (unhide B46).trans (ib.mono (unhide B46).size)
        have bV : Below w.heap.size w V2 := (unhide B4).trans (b4V.mono (unhide B4).size)
        have HKP := hide (callsIn_wide (n := 9 - 1) |>.2 (kept_yes rs g cap a n c V2 (unhide HN) hnb2 hc1 hc2 ((unhide HM4).below b4V) ((unhide HM).below bV)))
        have z0 := v0.cell
        have sV2 := ib.size
        have lD2 := (Array.getElem?_eq_some_iff.1 hK2).1
        have lDD : D < V2.heap.size := by omega
        have VV2 := hide v2
        have KD := hide kD
        have KD2 := hide hK2
        have BV := hide bV
        clear i9 i10 ist ib v0 v2 kD hK2 b4V bV
        gi_wp2_with fail
        refine (unhide HKP).mono ?_
        rintro e w8 ⟨rfl, hb8⟩
        have s8 := hb8.size
        have B8 := hide ((unhide BV).trans (hb8.mono (unhide BV).size))
        have x2 : Hid (Boxed w8 (w.heap.size + 1 + 1) 4 (.bool false)) := (hb8.block _ (unhide VV2).lt).trans (unhide VV2)
        have xD : Hid (w8.heap[D]? = some (.deferred (some []))) := (hb8.block _ lDD).trans (unhide KD)
        have xD2 : Hid (w8.heap[D2]? = some (.deferred (some []))) := (hb8.block _ lD2).trans (unhide KD2)
        clear hb8 z0 HKP
        gi_wp2_with fail
        refine (callsIn_wide.2 (awake6_any w8 ((unhide HG).below (unhide B8)))).mono ?_
        rintro e w9 ⟨rfl, hb9⟩
        have B9 := hide ((unhide B8).trans (hb9.mono (unhide B8).size))
        have y2 : Boxed w9 (w.heap.size + 1 + 1) 4 (.bool false) := (hb9.block _ (unhide x2).lt).trans (unhide x2)
        have yD : w9.heap[D]? = some (.deferred (some [])) := (hb9.block _ (by omega)).trans (unhide xD)
        have yD2 : w9.heap[D2]? = some (.deferred (some [])) := (hb9.block _ (by omega)).trans (unhide xD2)
        have q2 := y2.cell
        have f2 := y2.frozen
        have R9 := hide (y2.set (.bool true))
        have hDne : D ≠ w.heap.size + 1 + 1 := by omega
        have hDne2 : D2 ≠ w.heap.size + 1 + 1 := by omega
        have hDD : D ≠ D2 := by omega
        have XD : Hid ((w9.setCell ⟨w.heap.size + 1 + 1, 0, none⟩ (.bool true)).heap[D]? = some (.deferred (some []))) := (Below.heap_setCell _ _ _ _ hDne).trans yD
        have XD2 : Hid ((w9.setCell ⟨w.heap.size + 1 + 1, 0, none⟩ (.bool true)).heap[D2]? = some (.deferred (some []))) := (Below.heap_setCell _ _ _ _ hDne2).trans yD2
        clear hb9 y2 yD yD2
        gi_wp2
        refine ⟨by simp, .inl ⟨_, _, rfl, run_takeDeferred (unhide XD2), by simp, .inl ⟨_, _, rfl, run_takeDeferred ((World.putObj_heap_other hDD).trans (unhide XD)), ?_⟩⟩⟩
        have yy : Boxed (((w9.setCell ⟨w.heap.size + 1 + 1, 0, none⟩ (.bool true)).putObj D2 (.deferred none)).putObj D (.deferred none)) (w.heap.size + 1 + 1) _ _ := (World.putObj_heap_other (fun e => hDne e.symm)).trans ((World.putObj_heap_other (fun e => hDne2 e.symm)).trans (unhide R9))
        have qq := yy.cell
        have b9 := (unhide B9).setCell (p := ⟨w.heap.size + 1 + 1, 0, none⟩) (by simp; omega) (.bool true)
        have b10 := below_put b9 (D := D2) (by omega) (.deferred none)
        have b11 := below_put b10 (D := D) (by omega) (.deferred none)
        exact ⟨.bool true, by simp [results, Tryz.f7, go_sem, qq], rfl, b11⟩
    · have hd1 : decide ((1 : Int) ≤ few) = false := decide_eq_false (by omega)
      have hd2 : decide (few < 1) = true := decide_eq_true hf1
      have hd3 : decide (few ≥ 1) = false := decide_eq_false (by omega)
      gi_wp2
      clear hW7 c1 c7
      refine range4B (by omega) (gf := 82) (lb := #[.pointer (some ⟨Bs, 0, none⟩)]) rfl (enters_of Tryz.func82 (by kernel_rfl) rfl)
        (runes_gives rs w3.heap.size Bs _ (fun k => k ≠ w6.heap.size ∧ k ≠ w6.heap.size + 1) (by omega) W7 (unhide HRA7) (by rw [unhide HN]; exact hnb2) (fun k hk => by omega) (fun k hk _ => by omega)) (Below.refl _ _) (fun _ => rfl)
        (StI w6 rs w6.heap.size (w6.heap.size + 1)) (fun c pre V => False)
        (own_StI w6 rs _ _ (by omega)) (fun c => fun _ _ _ _ h _ _ => h) (CalmR.none _ _ _) (unhide HS0)
        (fun x => .cells (rowC x.2).toArray 29 (0, 0)) (fun _ => rfl) ?frB ?assignB ?bodyB ?doneB ?stopB
      case assignB =>
        intro l2 x V K hK
        gi_wp2
        generalize hBx : V.heap.size = Bx
        exact hK Bx hBx.symm
      case stopB =>
        rintro D c pre V hD hSp h hK
        exact h.elim
      case bodyB =>
        rintro l2 pre x Bx V hl hsz2 ⟨rr, hrr⟩ ⟨k, next, i9, i10, ist, ib⟩ hx1 hx2 hSp
        obtain ⟨xn, xr⟩ := x
        simp only at hx1
        have v0 : Boxed V w.heap.size 37 (.slice a n c) := (ib.block _ (unhide E0).lt).trans (unhide E0)
        have b4V : Below w4.heap.size w4 V := (unhide B46).trans (ib.mono (unhide B46).size)
        have bV : Below w.heap.size w V := (unhide B4).trans (b4V.mono (unhide B4).size)
        have mV := (unhide HM).below bV
        obtain ⟨g', off', hga⟩ : ∃ g' off', a = some ⟨g', off', none⟩ := by
          have h0 := hSp.length_le
          simp only [List.length_append, List.length_cons, List.length_nil] at h0
          cases hrs : rs with
          | nil => rw [hrs] at h0; simp [runesR] at h0
          | cons y l =>
            obtain ⟨g2, o2, e2, _⟩ := (unhide HM) 0 y (by rw [hrs]; rfl)
            exact ⟨g2, o2, e2⟩
        have hgl : g' < w.heap.size := by
          have h0 := hSp.length_le
          simp only [List.length_append, List.length_cons, List.length_nil] at h0
          cases hrs : rs with
          | nil => rw [hrs] at h0; simp [runesR] at h0
          | cons y l =>
            obtain ⟨g2, o2, e2, hc2⟩ := (unhide HM) 0 y (by rw [hrs]; rfl)
            rw [hga] at e2
            simp only [Option.some.injEq, Addr.mk.injEq] at e2
            obtain ⟨rfl, rfl, _⟩ := e2
            exact World.block_lt_of_cell? _ _ (hc2 0 _ rfl)
        have hrow : ∀ (wr : World) (i : Nat) (x : RowD), But2 w6.heap.size (w6.heap.size + 1) V wr → rs[i]? = some x → ∀ j v, (rowC x)[j]? = some v → wr.cell? ⟨g', off' + i * 9 + j, none⟩ = some v := fun wr i x hb hx j v hv => by
          obtain ⟨g2, o2, e, hc'⟩ := mV i x hx
          rw [hga] at e
          simp only [Option.some.injEq, Addr.mk.injEq] at e
          obtain ⟨rfl, rfl, _⟩ := e
          exact (World.cell?_of_block (hb.block g' (by omega) (by omega))).trans (hc' j v hv)
        have HROW := hide hrow
        have V0 : Hid (Boxed V w.heap.size 37 (.slice (some ⟨g', off', none⟩) n c)) := by rw [← hga]; exact v0
        have HIB := hide ib
        have hbx : Blk V Bx (rowC xr) 29 := hx1
        have HBX := hide hbx
        have HSP := hide hSp
        have hsV := ib.size
        clear hrow v0 b4V bV mV ib hbx hx1 hSp
        gi_wp2
        gi_loopw [56] (fun v56 wr => ∃ (k : Nat) (next : Int), Boxed wr w6.heap.size 3 (.int .i64 k) ∧ Boxed wr (w6.heap.size + 1) 21 (.int .i32 next) ∧ ((pre = [] ∧ k = 0 ∧ next = -1) ∨ StR rs pre k next) ∧ But2 w6.heap.size (w6.heap.size + 1) V wr) (fun _ wr => leftK n w6.heap.size (w6.heap.size + 1) wr)
        case atStart => exact ⟨k, next, i9, i10, ist, But2.refl _ _ _⟩
        case round =>
          clear i9 i10 ist
          obtain ⟨k, next, i9, i10, ist, hbt⟩ := hrel
          have hmk := leftK_eq (n := n) i9 i10
          have HMK := hide hmk
          clear hmk
          have f0 : Boxed wr w.heap.size 37 (.slice (some ⟨g', off', none⟩) n c) := box_but2 (unhide V0) hbt (by omega) (by omega)
          have z0 := f0.cell
          have z9 := i9.cell
          have y9 := i9.frozen
          have z10 := i10.cell
          have y10 := i10.frozen
          clear f0
          rcases ist with ⟨hp0, rfl, rfl⟩ | hst
          · subst hp0
            obtain ⟨x', hx', hst⟩ := st_first (unhide HSP)
            have hn0 : 0 < n := by rw [← unhide HN]; exact (List.getElem?_eq_some_iff.1 hx').1
            have hn0' : (0 : Int) < (n : Int) := by omega
            gi_wp2
            refine Reads.wpIn_region_quiet (by kernel_rfl) (by kernel_rfl) (by kernel_rfl) ?_
            repeat (go_big_quiet_step (fail))
            refine wpQuiet_nil ?_
            intro _ hw'
            obtain ⟨nq, hw''⟩ := hw'
            subst hw''
            have hbt2 := hbt.drewN nq
            have j9 : Boxed (wr.drewN nq) w6.heap.size 3 (.int .i64 (0 : Nat)) := i9
            have j10 : Boxed (wr.drewN nq) (w6.heap.size + 1) 21 (.int .i32 (-1)) := i10
            clear z0 z9 y9 z10 y10 i9 i10 hbt
            generalize wr.drewN nq = w2 at *
            obtain ⟨lo, hlo⟩ : ∃ lo, max x'.first 0 = lo := ⟨_, rfl⟩
            obtain ⟨hi2, hhi⟩ : ∃ h, min x'.last 1114111 = h := ⟨_, rfl⟩
            have hnx : nextF x' = if hi2 < lo then 1114112 else lo := by unfold nextF hiR loR; rw [hlo, hhi]
            have HST := hide hst
            clear hst
            have cx1 := unhide HROW w2 0 x' hbt2 hx' 1 _ rfl
            simp only [Nat.zero_mul, Nat.add_zero] at cx1
            have f0 : Boxed w2 w.heap.size 37 (.slice (some ⟨g', off', none⟩) n c) := box_but2 (unhide V0) hbt2 (by omega) (by omega)
            have z0 := f0.cell
            have z9 := j9.cell
            have y9 := j9.frozen
            have z10 := j10.cell
            have y10 := j10.frozen
            clear f0
            obtain ⟨W3, hW3⟩ : ∃ W3, w2.setCell ⟨w6.heap.size + 1, 0, none⟩ (.int .i32 lo) = W3 := ⟨_, rfl⟩
            have hbt3 : But2 w6.heap.size (w6.heap.size + 1) V W3 := by rw [← hW3]; exact hbt2.set (.inr rfl) _
            have l9 : Boxed W3 w6.heap.size 3 (.int .i64 (0 : Nat)) := by rw [← hW3]; exact j9.other (by omega) _
            have l10 : Boxed W3 (w6.heap.size + 1) 21 (.int .i32 lo) := by rw [← hW3]; exact j10.set _
            have cx2 := unhide HROW W3 0 x' hbt3 hx' 2 _ rfl
            simp only [Nat.zero_mul, Nat.add_zero] at cx2
            have f3 : Boxed W3 w.heap.size 37 (.slice (some ⟨g', off', none⟩) n c) := box_but2 (unhide V0) hbt3 (by omega) (by omega)
            have u0 := f3.cell
            have u9 := l9.cell
            have u10 := l10.cell
            clear f3
            have L9 := hide l9
            have L10 := hide l10
            have HBT3 := hide hbt3
            clear l9 l10 hbt3  j9 j10 hbt2
            by_cases hov : hi2 < lo
            · have hd : decide (hi2 < lo) = true := decide_eq_true hov
              rw [if_pos hov] at hnx
              gi_wp2
              refine Reads.wpIn_region_quiet (by kernel_rfl) (by kernel_rfl) (by kernel_rfl) ?_
              repeat (go_big_quiet_step (fail))
              refine wpQuiet_nil ?_
              intro _ hw'
              obtain ⟨nq, hw''⟩ := hw'
              subst hw''
              have k9 : Boxed (W3.drewN nq) w6.heap.size 3 (.int .i64 (0 : Nat)) := unhide L9
              have k10 : Boxed (W3.drewN nq) (w6.heap.size + 1) 21 (.int .i32 lo) := unhide L10
              have hbt5 := (unhide HBT3).drewN nq
              clear hW3  z0 z9 y9 z10 y10 u0 u9 u10 cx1 cx2
              generalize W3.drewN nq = w5 at *
              have t10 := k10.cell
              have s10 := k10.frozen
              have m9 : Boxed (w5.setCell ⟨w6.heap.size + 1, 0, none⟩ (.int .i32 1114112)) w6.heap.size 3 (.int .i64 (0 : Nat)) := k9.other (by omega) _
              have m10 : Boxed (w5.setCell ⟨w6.heap.size + 1, 0, none⟩ (.int .i32 1114112)) (w6.heap.size + 1) 21 (.int .i32 1114112) := k10.set _
              have hbt6 := hbt5.set (k := w6.heap.size + 1) (.inr rfl) (.int .i32 1114112)
              have hmk2 : leftK n w6.heap.size (w6.heap.size + 1) (w5.setCell ⟨w6.heap.size + 1, 0, none⟩ (.int .i32 1114112)) = n - 0 := (leftK_eq (n := n) (k := 0) m9 m10).trans (if_neg (by omega))
              have HM6 := hide (⟨m9, m10, hbt6, hmk2⟩ : _ ∧ _ ∧ _ ∧ _)
              have HNX := hide hnx
              clear m9 m10 hbt6 hmk2 k9 k10 hbt5 hnx
              gi_wp2
              obtain ⟨m9, m10, hbt6, hmk2⟩ := unhide HM6
              have hst := unhide HST
              rw [unhide HNX] at hst
              exact ⟨⟨0, 1114112, m9, m10, .inr hst, hbt6⟩, by rw [hmk2, unhide HMK]; simp⟩
            · have hd : decide (hi2 < lo) = false := decide_eq_false hov
              rw [if_neg hov] at hnx
              gi_wp2
              refine Reads.wpIn_region_quiet (by kernel_rfl) (by kernel_rfl) (by kernel_rfl) ?_
              repeat (go_big_quiet_step (fail))
              refine wpQuiet_nil ?_
              intro _ hw'
              obtain ⟨nq, hw''⟩ := hw'
              subst hw''
              have k9 : Boxed (W3.drewN nq) w6.heap.size 3 (.int .i64 (0 : Nat)) := unhide L9
              have k10 : Boxed (W3.drewN nq) (w6.heap.size + 1) 21 (.int .i32 lo) := unhide L10
              have hbt5 := (unhide HBT3).drewN nq
              clear hW3  z0 z9 y9 z10 y10 u0 u9 u10 cx1 cx2
              generalize W3.drewN nq = w5 at *
              have hlo0 : 0 ≤ lo := by omega
              have hmk2 : leftK n w6.heap.size (w6.heap.size + 1) w5 = n - 0 := (leftK_eq (n := n) (k := 0) k9 k10).trans (if_neg (by omega))
              have HM6 := hide (⟨k9, k10, hbt5, hmk2⟩ : _ ∧ _ ∧ _ ∧ _)
              have HNX := hide hnx
              clear k9 k10 hbt5 hmk2 hnx
              gi_wp2
              obtain ⟨m9, m10, hbt6, hmk2⟩ := unhide HM6
              have hst := unhide HST
              rw [unhide HNX] at hst
              exact ⟨⟨0, lo, m9, m10, .inr hst, hbt6⟩, by rw [hmk2, unhide HMK]; simp⟩
          · obtain ⟨hn1, hn2, hn3⟩ := st_range hst
            rw [unhide HN] at hn3
            obtain ⟨xk, hxk⟩ : ∃ x, rs[k]? = some x := ⟨_, List.getElem?_eq_getElem (by rw [unhide HN]; exact hn3)⟩
            have ck2 := unhide HROW wr k xk hbt hxk 2 _ rfl
            have hk3 : (k : Int) < (n : Int) := by omega
            have hd0 : decide (next < 0) = false := decide_eq_false (by omega)
            obtain ⟨hk2, hhk⟩ : ∃ h, min xk.last 1114111 = h := ⟨_, rfl⟩
            have hhk' : hiR xk = hk2 := hhk
            by_cases ho : hk2 < next
            · have hd1 : decide (hk2 < next) = true := decide_eq_true ho
              obtain ⟨x', hx', hst⟩ := st_over hst hxk (by rw [hhk']; exact ho) (unhide HSP)
              have hk4 : k + 1 < n := by rw [← unhide HN]; exact (List.getElem?_eq_some_iff.1 hx').1
              have hk4' : (k : Int) + 1 < (n : Int) := by omega
              clear hhk'
              gi_wp2
              refine Reads.wpIn_region_quiet (by kernel_rfl) (by kernel_rfl) (by kernel_rfl) ?_
              repeat (go_big_quiet_step (fail))
              refine wpQuiet_nil ?_
              intro _ hw'
              obtain ⟨nq, hw''⟩ := hw'
              subst hw''
              have hbt2 := hbt.drewN nq
              have j9 : Boxed (wr.drewN nq) w6.heap.size 3 (.int .i64 k) := i9
              have j10 : Boxed (wr.drewN nq) (w6.heap.size + 1) 21 (.int .i32 next) := i10
              clear z0 z9 y9 z10 y10 i9 i10 hbt ck2 hxk
              generalize wr.drewN nq = w2 at *
              obtain ⟨lo, hlo⟩ : ∃ lo, max x'.first 0 = lo := ⟨_, rfl⟩
              obtain ⟨hi2, hhi⟩ : ∃ h, min x'.last 1114111 = h := ⟨_, rfl⟩
              have hnx : nextF x' = if hi2 < lo then 1114112 else lo := by unfold nextF hiR loR; rw [hlo, hhi]
              have HST := hide hst
              clear hst
              have hq1 : IntKind.i64.wrap ((k : Int) + 1) = (k : Int) + 1 := by rw [IntKind.wrap_i64]; omega
              obtain ⟨Wb, hWb⟩ : ∃ Wb, w2.setCell ⟨w6.heap.size, 0, none⟩ (.int .i64 ((k : Int) + 1)) = Wb := ⟨_, rfl⟩
              have hbtb : But2 w6.heap.size (w6.heap.size + 1) V Wb := by rw [← hWb]; exact hbt2.set (.inl rfl) _
              have b9 : Boxed Wb w6.heap.size 3 (.int .i64 ((k : Int) + 1)) := by rw [← hWb]; exact j9.set _
              have b10 : Boxed Wb (w6.heap.size + 1) 21 (.int .i32 next) := by rw [← hWb]; exact j10.other (by omega) _
              have fb : Boxed Wb w.heap.size 37 (.slice (some ⟨g', off', none⟩) n c) := box_but2 (unhide V0) hbtb (by omega) (by omega)
              have zb0 := fb.cell
              have zb9 := b9.cell
              have yb10 := b10.frozen
              have zb10 := b10.cell
              clear fb
              have cx1 := unhide HROW Wb (k + 1) x' hbtb hx' 1 _ rfl
              have f0 : Boxed w2 w.heap.size 37 (.slice (some ⟨g', off', none⟩) n c) := box_but2 (unhide V0) hbt2 (by omega) (by omega)
              have z0 := f0.cell
              have z9 := j9.cell
              have y9 := j9.frozen
              have z10 := j10.cell
              have y10 := j10.frozen
              clear f0
              obtain ⟨W3, hW3⟩ : ∃ W3, Wb.setCell ⟨w6.heap.size + 1, 0, none⟩ (.int .i32 lo) = W3 := ⟨_, rfl⟩
              have hbt3 : But2 w6.heap.size (w6.heap.size + 1) V W3 := by rw [← hW3]; exact hbtb.set (.inr rfl) _
              have l9 : Boxed W3 w6.heap.size 3 (.int .i64 ((k : Int) + 1)) := by rw [← hW3]; exact b9.other (by omega) _
              have l10 : Boxed W3 (w6.heap.size + 1) 21 (.int .i32 lo) := by rw [← hW3]; exact b10.set _
              have cx2 := unhide HROW W3 (k + 1) x' hbt3 hx' 2 _ rfl
              have f3 : Boxed W3 w.heap.size 37 (.slice (some ⟨g', off', none⟩) n c) := box_but2 (unhide V0) hbt3 (by omega) (by omega)
              have u0 := f3.cell
              have u9 := l9.cell
              have u10 := l10.cell
              clear f3
              have L9 := hide l9
              have L10 := hide l10
              have HBT3 := hide hbt3
              clear l9 l10 hbt3 b9 b10 hbtb j9 j10 hbt2
              by_cases hov : hi2 < lo
              · have hd : decide (hi2 < lo) = true := decide_eq_true hov
                rw [if_pos hov] at hnx
                gi_wp2
                refine Reads.wpIn_region_quiet (by kernel_rfl) (by kernel_rfl) (by kernel_rfl) ?_
                repeat (go_big_quiet_step (fail))
                refine wpQuiet_nil ?_
                intro _ hw'
                obtain ⟨nq, hw''⟩ := hw'
                subst hw''
                have k9 : Boxed (W3.drewN nq) w6.heap.size 3 (.int .i64 ((k : Int) + 1)) := unhide L9
                have k10 : Boxed (W3.drewN nq) (w6.heap.size + 1) 21 (.int .i32 lo) := unhide L10
                have hbt5 := (unhide HBT3).drewN nq
                clear hW3 hWb zb0 zb9 zb10 yb10 z0 z9 y9 z10 y10 u0 u9 u10 cx1 cx2
                generalize W3.drewN nq = w5 at *
                have t10 := k10.cell
                have s10 := k10.frozen
                have m9 : Boxed (w5.setCell ⟨w6.heap.size + 1, 0, none⟩ (.int .i32 1114112)) w6.heap.size 3 (.int .i64 ((k : Int) + 1)) := k9.other (by omega) _
                have m10 : Boxed (w5.setCell ⟨w6.heap.size + 1, 0, none⟩ (.int .i32 1114112)) (w6.heap.size + 1) 21 (.int .i32 1114112) := k10.set _
                have hbt6 := hbt5.set (k := w6.heap.size + 1) (.inr rfl) (.int .i32 1114112)
                have hmk2 : leftK n w6.heap.size (w6.heap.size + 1) (w5.setCell ⟨w6.heap.size + 1, 0, none⟩ (.int .i32 1114112)) = n - (k + 1) := (leftK_eq (n := n) (k := k + 1) m9 m10).trans (if_neg (by omega))
                have HM6 := hide (⟨m9, m10, hbt6, hmk2⟩ : _ ∧ _ ∧ _ ∧ _)
                have HNX := hide hnx
                clear m9 m10 hbt6 hmk2 k9 k10 hbt5 hnx
                gi_wp2
                obtain ⟨m9, m10, hbt6, hmk2⟩ := unhide HM6
                have hst := unhide HST
                rw [unhide HNX] at hst
                exact ⟨⟨k + 1, 1114112, m9, m10, .inr hst, hbt6⟩, by rw [hmk2, unhide HMK]; rw [if_neg (by omega)]; omega⟩
              · have hd : decide (hi2 < lo) = false := decide_eq_false hov
                rw [if_neg hov] at hnx
                gi_wp2
                refine Reads.wpIn_region_quiet (by kernel_rfl) (by kernel_rfl) (by kernel_rfl) ?_
                repeat (go_big_quiet_step (fail))
                refine wpQuiet_nil ?_
                intro _ hw'
                obtain ⟨nq, hw''⟩ := hw'
                subst hw''
                have k9 : Boxed (W3.drewN nq) w6.heap.size 3 (.int .i64 ((k : Int) + 1)) := unhide L9
                have k10 : Boxed (W3.drewN nq) (w6.heap.size + 1) 21 (.int .i32 lo) := unhide L10
                have hbt5 := (unhide HBT3).drewN nq
                clear hW3 hWb zb0 zb9 zb10 yb10 z0 z9 y9 z10 y10 u0 u9 u10 cx1 cx2
                generalize W3.drewN nq = w5 at *
                have hlo0 : 0 ≤ lo := by omega
                have hmk2 : leftK n w6.heap.size (w6.heap.size + 1) w5 = n - (k + 1) := (leftK_eq (n := n) (k := k + 1) k9 k10).trans (if_neg (by omega))
                have HM6 := hide (⟨k9, k10, hbt5, hmk2⟩ : _ ∧ _ ∧ _ ∧ _)
                have HNX := hide hnx
                clear k9 k10 hbt5 hmk2 hnx
                gi_wp2
                obtain ⟨m9, m10, hbt6, hmk2⟩ := unhide HM6
                have hst := unhide HST
                rw [unhide HNX] at hst
                exact ⟨⟨k + 1, lo, m9, m10, .inr hst, hbt6⟩, by rw [hmk2, unhide HMK]; rw [if_neg (by omega)]; omega⟩
            · have hd1 : decide (hk2 < next) = false := decide_eq_false ho
              obtain ⟨hy, hle, hst2⟩ := st_here hst hxk (by rw [hhk']; exact ho) (unhide HSP)
              obtain ⟨rfl, rfl⟩ : xn = next ∧ xr = xk := by simpa using hy
              clear hy hhk' hst
              gi_wp2
              refine Reads.wpIn_region_quiet (by kernel_rfl) (by kernel_rfl) (by kernel_rfl) ?_
              repeat (go_big_quiet_step (fail))
              refine wpQuiet_nil ?_
              intro _ hw'
              obtain ⟨nq, hw''⟩ := hw'
              subst hw''
              have hbt2 := hbt.drewN nq
              have j9 : Boxed (wr.drewN nq) w6.heap.size 3 (.int .i64 k) := i9
              have j10 : Boxed (wr.drewN nq) (w6.heap.size + 1) 21 (.int .i32 xn) := i10
              clear z0 z9 y9 z10 y10 i9 i10 hbt ck2
              generalize wr.drewN nq = w2 at *
              have f0 : Boxed w2 w.heap.size 37 (.slice (some ⟨g', off', none⟩) n c) := box_but2 (unhide V0) hbt2 (by omega) (by omega)
              have z0 := f0.cell
              have z9 := j9.cell
              have z10 := j10.cell
              have bx2 : Blk w2 Bx (rowC xr) 29 := (hbt2.block Bx (by omega) (by omega)).trans (unhide HBX)
              have ck0 := unhide HROW w2 k xr hbt2 hxk 0 _ rfl
              have bk0 := bx2.cell (j := 0) rfl
              have ck1 := unhide HROW w2 k xr hbt2 hxk 1 _ rfl
              have bk1 := bx2.cell (j := 1) rfl
              have ck2 := unhide HROW w2 k xr hbt2 hxk 2 _ rfl
              have bk2 := bx2.cell (j := 2) rfl
              have ck3 := unhide HROW w2 k xr hbt2 hxk 3 _ rfl
              have bk3 := bx2.cell (j := 3) rfl
              have ck4 := unhide HROW w2 k xr hbt2 hxk 4 _ rfl
              have bk4 := bx2.cell (j := 4) rfl
              have ck5 := unhide HROW w2 k xr hbt2 hxk 5 _ rfl
              have bk5 := bx2.cell (j := 5) rfl
              have ck6 := unhide HROW w2 k xr hbt2 hxk 6 _ rfl
              have bk6 := bx2.cell (j := 6) rfl
              have ck7 := unhide HROW w2 k xr hbt2 hxk 7 _ rfl
              have bk7 := bx2.cell (j := 7) rfl
              have ck8 := unhide HROW w2 k xr hbt2 hxk 8 _ rfl
              have bk8 := bx2.cell (j := 8) rfl
              simp only [Nat.add_zero] at ck0
              have hxx : (xn != xn) = false := by simp
              clear f0 bx2
              gi_wp2
              refine Reads.wpIn_region_quiet (by kernel_rfl) (by kernel_rfl) (by kernel_rfl) ?_
              repeat (go_big_quiet_step (fail))
              refine wpQuiet_nil ?_
              intro _ hw'
              obtain ⟨nq, hw''⟩ := hw'
              subst hw''
              have hbt3 := hbt2.drewN nq
              have l9 : Boxed (w2.drewN nq) w6.heap.size 3 (.int .i64 k) := j9
              have l10 : Boxed (w2.drewN nq) (w6.heap.size + 1) 21 (.int .i32 xn) := j10
              clear z0 z9 z10 hbt2 j9 j10 ck0 bk0 ck1 bk1 ck2 bk2 ck3 bk3 ck4 bk4 ck5 bk5 ck6 bk6 ck7 bk7 ck8 bk8
              generalize w2.drewN nq = w3' at *
              have z10 := l10.cell
              have y10 := l10.frozen
              have hq2 : IntKind.i32.wrap (xn + 1) = xn + 1 := by rw [IntKind.wrap_i32]; omega
              have hbt4 := hbt3.set (k := w6.heap.size + 1) (.inr rfl) (.int .i32 (xn + 1))
              have m9 : Boxed (w3'.setCell ⟨w6.heap.size + 1, 0, none⟩ (.int .i32 (xn + 1))) w6.heap.size 3 (.int .i64 k) := l9.other (by omega) _
              have m10 : Boxed (w3'.setCell ⟨w6.heap.size + 1, 0, none⟩ (.int .i32 (xn + 1))) (w6.heap.size + 1) 21 (.int .i32 (xn + 1)) := l10.set _
              have FIN : Hid (KeepsFrom W7.heap.size V (w3'.setCell ⟨w6.heap.size + 1, 0, none⟩ (.int .i32 (xn + 1))) ∧ KpR 0 (fun k => k ≠ w6.heap.size ∧ k ≠ w6.heap.size + 1) (W7.heap.size + 2) V (w3'.setCell ⟨w6.heap.size + 1, 0, none⟩ (.int .i32 (xn + 1))) ∧ StI w6 rs w6.heap.size (w6.heap.size + 1) (pre ++ [(xn, xr)]) (w3'.setCell ⟨w6.heap.size + 1, 0, none⟩ (.int .i32 (xn + 1)))) :=
                ⟨hbt4.keep.from _, ⟨hbt4.keep.walks, fun j o hk ho hx => by
                  rcases hk with hk | hk
                  · omega
                  · exact (hbt4.block j hk.1 hk.2).trans hx⟩, k, xn + 1, m9, m10, .inr hst2, hbt4.below (unhide HIB) (Nat.le_refl _) (Nat.le_succ _)⟩
              clear hbt3 hbt4 m9 m10 l9 l10 hst2 s7
              gi_wp2
              exact unhide FIN
      case doneB =>
        rintro D2 xs V2 hD2 hS ⟨k, next, i9, i10, ist, ib⟩ hK2
        subst hS
        have v0 : Boxed V2 w.heap.size 37 (.slice a n c) := (ib.block _ (unhide E0).lt).trans (unhide E0)
        have v2 : Boxed V2 (w.heap.size + 1 + 1) 4 (.bool false) := (ib.block _ (unhide E2).lt).trans (unhide E2)
        have kD : V2.heap[D]? = some (.deferred (some [])) := (ib.block _ (by omega)).trans (unhide HK6)
        have b4V : Below w4.heap.size w4 V2 := (unhide B46).trans (ib.mono (unhide B46).size)
        have bV : Below w.heap.size w V2 := (unhide B4).trans (b4V.mono (unhide B4).size)
        have HKP := hide (callsIn_wide (n := 9 - 1) |>.2 (kept_yes rs g cap a n c V2 (unhide HN) hnb2 hc1 hc2 ((unhide HM4).below b4V) ((unhide HM).below bV)))
        have z0 := v0.cell
        have sV2 := ib.size
        have lD2 := (Array.getElem?_eq_some_iff.1 hK2).1
        have lDD : D < V2.heap.size := by omega
        have VV2 := hide v2
        have KD := hide kD
        have KD2 := hide hK2
        have BV := hide bV
        clear i9 i10 ist ib v0 v2 kD hK2 b4V bV
        gi_wp2_with fail
        refine (unhide HKP).mono ?_
        rintro e w8 ⟨rfl, hb8⟩
        have s8 := hb8.size
        have B8 := hide ((unhide BV).trans (hb8.mono (unhide BV).size))
        have x2 : Hid (Boxed w8 (w.heap.size + 1 + 1) 4 (.bool false)) := (hb8.block _ (unhide VV2).lt).trans (unhide VV2)
        have xD : Hid (w8.heap[D]? = some (.deferred (some []))) := (hb8.block _ lDD).trans (unhide KD)
        have xD2 : Hid (w8.heap[D2]? = some (.deferred (some []))) := (hb8.block _ lD2).trans (unhide KD2)
        clear hb8 z0 HKP
        gi_wp2_with fail
        refine (callsIn_wide.2 (awake6_any w8 ((unhide HG).below (unhide B8)))).mono ?_
        rintro e w9 ⟨rfl, hb9⟩
        have B9 := hide ((unhide B8).trans (hb9.mono (unhide B8).size))
        have y2 : Boxed w9 (w.heap.size + 1 + 1) 4 (.bool false) := (hb9.block _ (unhide x2).lt).trans (unhide x2)
        have yD : w9.heap[D]? = some (.deferred (some [])) := (hb9.block _ (by omega)).trans (unhide xD)
        have yD2 : w9.heap[D2]? = some (.deferred (some [])) := (hb9.block _ (by omega)).trans (unhide xD2)
        have q2 := y2.cell
        have f2 := y2.frozen
        have R9 := hide (y2.set (.bool true))
        have hDne : D ≠ w.heap.size + 1 + 1 := by omega
        have hDne2 : D2 ≠ w.heap.size + 1 + 1 := by omega
        have hDD : D ≠ D2 := by omega
        have XD : Hid ((w9.setCell ⟨w.heap.size + 1 + 1, 0, none⟩ (.bool true)).heap[D]? = some (.deferred (some []))) := (Below.heap_setCell _ _ _ _ hDne).trans yD
        have XD2 : Hid ((w9.setCell ⟨w.heap.size + 1 + 1, 0, none⟩ (.bool true)).heap[D2]? = some (.deferred (some []))) := (Below.heap_setCell _ _ _ _ hDne2).trans yD2
        clear hb9 y2 yD yD2
        gi_wp2
        refine ⟨by simp, .inl ⟨_, _, rfl, run_takeDeferred (unhide XD2), by simp, .inl ⟨_, _, rfl, run_takeDeferred ((World.putObj_heap_other hDD).trans (unhide XD)), ?_⟩⟩⟩
        have yy : Boxed (((w9.setCell ⟨w.heap.size + 1 + 1, 0, none⟩ (.bool true)).putObj D2 (.deferred none)).putObj D (.deferred none)) (w.heap.size + 1 + 1) _ _ := (World.putObj_heap_other (fun e => hDne e.symm)).trans ((World.putObj_heap_other (fun e => hDne2 e.symm)).trans (unhide R9))
        have qq := yy.cell
        have b9 := (unhide B9).setCell (p := ⟨w.heap.size + 1 + 1, 0, none⟩) (by simp; omega) (.bool true)
        have b10 := below_put b9 (D := D2) (by omega) (.deferred none)
        have b11 := below_put b10 (D := D) (by omega) (.deferred none)
        exact ⟨.bool true, by simp [results, Tryz.f7, go_sem, qq], rfl, b11⟩
end Go.Proofs.YthjnkagepooeiaaGreatDoor
