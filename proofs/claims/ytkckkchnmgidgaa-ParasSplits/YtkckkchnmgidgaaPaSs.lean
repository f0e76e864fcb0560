/-
  ParasSplits: the paragraphs of any runes and classes are the document's, in memory of their own, and the lists are left as they were. The condition: the lists hold together at most 1048576 values (a bulk of at most 1048576).
-/
import Derived.Test.YtkckkchnmgidgaaBulk
import Derived.Test.YtkckkchnmgidgaaPaAw
import Derived.Test.YtkckkchnmgidgaaPaSd
import Derived.Deep.LoopGhost
import Derived.Laws.StructEq
import Derived.ProofKit
import Derived.OpenShut
import Derived.ShutString
import Derived.ChangeOld
namespace Go.Proofs.Ytkckkchnmgidgaa.parasSplits
open Go.ChangeShapes Go.WideShapes Go.ChangeAt Go.RowKit Go.PlainAid Go.Lib Go.ChangeMaps
set_option linter.unusedVariables false

/-- a list of pieces in memory -/
def ReadsP (w : World) (a : Option Addr) (ps : List (Nat × Nat)) : Prop := ∀ (i : Nat) p, ps[i]? = some p → ∃ g off, a = some ⟨g, off, none⟩ ∧ w.cell? ⟨g, off + i * 2, none⟩ = some (.int .i64 (p.1 : Nat)) ∧ w.cell? ⟨g, off + i * 2 + 1, none⟩ = some (.int .i64 (p.2 : Nat))
theorem flat2 : ∀ (l : List (Nat × Nat)) (i : Nat) (p : Nat × Nat), l[i]? = some p → (pcsC l)[i * 2]? = some (.int .i64 (p.1 : Nat)) ∧ (pcsC l)[i * 2 + 1]? = some (.int .i64 (p.2 : Nat)) := by
  intro l
  induction l with
  | nil => intro i p h; simp at h
  | cons q l ih =>
    intro i p h
    have e : pcsC (q :: l) = .int .i64 (q.1 : Nat) :: .int .i64 (q.2 : Nat) :: pcsC l := by simp [pcsC]
    rw [e]
    cases i with
    | zero =>
      have : q = p := by simpa using h
      subst this
      exact ⟨rfl, rfl⟩
    | succ i =>
      have := ih i p (by simpa using h)
      rw [show (i + 1) * 2 = i * 2 + 1 + 1 by omega]
      simpa using this
theorem row_readsP {w : World} {B L : Nat} {a : Option Addr} {c : Nat} {ps : List (Nat × Nat)} (h : w.ownsRow B 46 2 (.slice a L c) L (pcsC ps)) : ReadsP w a ps := by
  intro i p hp
  have hpl : (pcsC ps).length = L * 2 := h.1
  have hlen : ps.length * 2 = (pcsC ps).length := by
    have : ∀ l : List (Nat × Nat), l.length * 2 = (pcsC l).length := by
      intro l
      induction l with
      | nil => rfl
      | cons q l ih =>
        have e : pcsC (q :: l) = .int .i64 (q.1 : Nat) :: .int .i64 (q.2 : Nat) :: pcsC l := by simp [pcsC]
        rw [e]; simp only [List.length_cons]; omega
    exact this ps
  have hi : i < ps.length := (List.getElem?_eq_some_iff.1 hp).1
  obtain ⟨g, rfl⟩ := row_at h (by omega)
  obtain ⟨h1, h2⟩ := flat2 ps i p hp
  have e1 := h.cells rfl (i * 2) _ h1
  have e2 := h.cells rfl (i * 2 + 1) _ h2
  rw [addr_add] at e1 e2
  exact ⟨g, 0, rfl, e1, e2⟩
set_option maxRecDepth 100000 in
set_option maxHeartbeats 2000000 in
theorem samePieces_yes (ps : List (Nat × Nat)) (a b : Option Addr) (n ca cb : Nat) (w : World) (hn : ps.length = n) (hnb : n ≤ 1099511627776) (ha : ReadsP w a ps) (hb : ReadsP w b ps) :
    Calls Try.prog 26 #[.slice a n ca, .slice b n cb] w fun e w' => e = .returned (.bool true) ∧ Below w.heap.size w w' := by
  have HA := hide ha
  have HB := hide hb
  have HN := hide hn
  clear ha hb hn
  have hnn : ((n : Int) != (n : Int)) = false := by simp
  go_enter Try.func26, Try.ntmps26
  go_wp2
  go_loopw [5] (fun v5 wr => ∃ i m : Nat, i ≤ n ∧ v5 = .int .i64 i ∧ wr = w.drewN m) (fun v5 _ => n - (RowKit.intOf v5).toNat)
  case atStart => exact ⟨0, 0, Nat.zero_le _, rfl, rfl⟩
  case round =>
    obtain ⟨i, m, hi, rfl, rfl⟩ := hrel
    obtain ⟨WX, hWX⟩ : ∃ WX, w.drewN m = WX := ⟨_, rfl⟩
    by_cases hlt : i < n
    · obtain ⟨x, hx⟩ : ∃ x, ps[i]? = some x := ⟨_, List.getElem?_eq_getElem (by rw [unhide HN]; exact hlt)⟩
      obtain ⟨g, off, rfl, c0, c1⟩ := unhide HA i x hx
      obtain ⟨g', off', rfl, d0, d1⟩ := unhide HB i x hx
      obtain ⟨x1, x2⟩ := x
      simp only at c0 c1 d0 d1
      have cx0 : WX.cell? ⟨g, off + i * 2, none⟩ = some (.int .i64 (x1 : Nat)) := by rw [← hWX]; exact c0
      have cx1 : WX.cell? ⟨g, off + i * 2 + 1, none⟩ = some (.int .i64 (x2 : Nat)) := by rw [← hWX]; exact c1
      have dx0 : WX.cell? ⟨g', off' + i * 2, none⟩ = some (.int .i64 (x1 : Nat)) := by rw [← hWX]; exact d0
      have dx1 : WX.cell? ⟨g', off' + i * 2 + 1, none⟩ = some (.int .i64 (x2 : Nat)) := by rw [← hWX]; exact d1
      have hlt' : (i : Int) < (n : Int) := by omega
      rw [hWX]
      have HWX := hide hWX
      clear hWX hx c0 c1 d0 d1
      go_wp2
      go_quiet (fail)
      go_wp2
      go_roundw
      case rel => exact ⟨i + 1, m + nq, by omega, by go_num, by rw [← unhide HWX]; exact World.drewN_drewN _ _ _⟩
      case measure => simp [RowKit.intOf]; omega
    · rw [hWX]
      have HWX := hide hWX
      clear hWX
      obtain rfl : i = n := by omega
      go_wp2
      go_ret
      exact ⟨rfl, by rw [← unhide HWX]; exact below_drewN (Below.refl _ _) m⟩
theorem cur_set {w : World} {g : Nat} {cur : Array Value} {T : TypeId} (h : w.heap[g]? = some (.cells cur T (0, 0))) (k : Nat) (v : Value) : ∃ cur', (w.setCell ⟨g, k, none⟩ v).heap[g]? = some (.cells cur' T (0, 0)) ∧ cur'.size = cur.size := by
  rw [setCell_eq_setRow w g k _ _ _ v h, setRow_heap w g _ _ _ _ h]
  exact ⟨_, rfl, by simp⟩
set_option maxRecDepth 100000 in
set_option maxHeartbeats 4000000 in
theorem walk (a : Option Addr) (rs : List Int) (c : Nat) (b : Option Addr) (cs : List Int) (d : Nat) (W : World) (hr : Reads W a rs) (hlc : rs.length ≤ c) (hc : c ≤ 1048576) (hk : ReadsB W b cs) (hf : FitsB cs) (hld : cs.length ≤ d) (hd : d ≤ 1048576) :
    Calls Try.prog 4 #[.slice a rs.length c, .slice b cs.length d] W fun e w' => e = .returned (.bool true) ∧ Below W.heap.size W w' := by
  have HAW := hide (fun w => awake_any w)
  have HR := hide hr
  have HK := hide hk
  have HLI := hide (lentRunes_any W a rs.length c rs rfl hr (by omega))
  have HLB := hide (fun (w : World) (h : ReadsB w b cs) => lent_any w b cs.length d cs rfl h (by omega))
  have HKI := hide (fun (w : World) (B g c' : Nat) (h : LentI w B g c' rs) (h2 : Reads w a rs) => keptRunes_any w B g c' a rs.length c rs rfl h h2 (by omega))
  have HKB := hide (fun (w : World) (B g c' : Nat) (h : Lent w B g c' cs) (h2 : ReadsB w b cs) => kept_any w B g c' b cs.length d cs rfl h h2 (by omega))
  obtain ⟨ps, E, hpl, HS, HD⟩ : ∃ (ps : List (Nat × Nat)) (E : Int), ps.length ≤ 1099511627776 ∧
      Hid (∀ (w : World) (x y : Option Addr) (c d : Nat), Reads w x rs → ReadsB w y cs → Calls Try.prog 24 #[.slice x rs.length c, .slice y cs.length d] w fun e w' => ∃ v, e = .returned (.tuple #[v, .int .i64 E]) ∧ w'.ownsRow w.heap.size 46 2 v ps.length (pcsC ps) ∧ Below w.heap.size w w') ∧
      Hid (∀ (w : World), Reads w a rs → ReadsB w b cs → Calls Try.prog 25 #[.slice a rs.length c, .slice b cs.length d] w fun e w' => ∃ v, e = .returned (.tuple #[v, .int .i64 E]) ∧ w'.ownsRow w.heap.size 46 2 v ps.length (pcsC ps) ∧ Below w.heap.size w w') := by
    by_cases hno : rs.length ≠ 0 ∧ rs.length ≠ cs.length
    · refine ⟨[], 2, by simp, fun w x y c d _ _ => (split_no x y _ c _ d w hno).mono ?_, fun w _ _ => (rSplit_no a b _ c _ d w hno).mono ?_⟩
      · rintro e w' ⟨rfl, rfl⟩; exact ⟨_, rfl, World.ownsRow_nil _ _ _ _, Below.refl _ _⟩
      · rintro e w' ⟨rfl, rfl⟩; exact ⟨_, rfl, World.ownsRow_nil _ _ _ _, Below.refl _ _⟩
    · have hle := splitL_len rs cs
      exact ⟨splitL rs cs, 0, by omega, fun w x y c d h1 h2 => split_any x y _ c _ d rs cs w rfl rfl h1 h2 (by omega) (by omega), fun w h1 h2 => rSplit_any a b _ c _ d rs cs w rfl rfl h1 h2 (by omega) (by omega)⟩
  have HSP := hide (fun (w : World) (x y : Option Addr) (cx cy : Nat) (h1 : ReadsP w x ps) (h2 : ReadsP w y ps) => samePieces_yes ps x y ps.length cx cy w rfl hpl h1 h2)
  generalize rs.length = n at *
  generalize cs.length = m at *
  generalize hL : ps.length = L at *
  have HL := hide hL
  clear hr hk hL
  go_enter Try.func4, Try.ntmps4
  go_wp2_with fail
  refine (unhide HLI).mono ?_
  rintro e w1 ⟨g1, c1, rfl, q1, q2, hl1, hb1⟩
  have HI1 := hide hl1
  have HB1 := hide hb1
  clear hl1 hb1
  go_wp2_with fail
  refine (unhide HLB _ ((unhide HK).below (unhide HB1))).mono ?_
  rintro e w2 ⟨g2, c2, rfl, q3, q4, hl2, hb2⟩
  have HI2 := hide ((unhide HI1).below hb2)
  have HJ2 := hide hl2
  have HB2 := hide ((unhide HB1).trans (hb2.mono (unhide HB1).size))
  clear hl2 hb2
  go_wp2_with fail
  refine (unhide HS _ _ _ _ _ (unhide HI2).reads (unhide HJ2).reads).mono ?_
  rintro e w3 ⟨va, rfl, hr3, hb3⟩
  have HI3 := hide ((unhide HI2).below hb3)
  have HJ3 := hide ((unhide HJ2).below hb3)
  have HA3 := hide hr3
  have HGA : Hid (∀ y, va.ownBlock = some y → W.heap.size ≤ y ∧ y < w3.heap.size) := fun y e => ⟨Nat.le_trans (unhide HB2).size (hr3.lt y e).1, (hr3.lt y e).2⟩
  have HB3 := hide ((unhide HB2).trans (hb3.mono (unhide HB2).size))
  clear hr3 hb3
  go_wp2_with fail
  refine (unhide HS _ _ _ _ _ (unhide HI3).reads (unhide HJ3).reads).mono ?_
  rintro e w4 ⟨vb, rfl, hr4, hb4⟩
  have HI4 := hide ((unhide HI3).below hb4)
  have HJ4 := hide ((unhide HJ3).below hb4)
  have HA4 := hide (rowBelow (unhide HA3) hb4)
  have HR4 := hide hr4
  have Z34 : Hid (w3.heap.size ≤ w4.heap.size) := hb4.size
  have HB4 := hide ((unhide HB3).trans (hb4.mono (unhide HB3).size))
  clear hr4 hb4
  go_wp2_with fail
  refine (unhide HD _ ((unhide HR).below (unhide HB4)) ((unhide HK).below (unhide HB4))).mono ?_
  rintro e w5 ⟨vw, rfl, hr5, hb5⟩
  have HI5 := hide ((unhide HI4).below hb5)
  have HJ5 := hide ((unhide HJ4).below hb5)
  have HA5 := hide (rowBelow (unhide HA4) hb5)
  have HR5 := hide (rowBelow (unhide HR4) hb5)
  have HW5 := hide hr5
  have HB5 := hide ((unhide HB4).trans (hb5.mono (unhide HB4).size))
  clear hr5 hb5
  obtain ⟨pa, ca, rfl⟩ := row_is (unhide HA5)
  obtain ⟨pw, cw, rfl⟩ := row_is (unhide HW5)
  have hEE : ((E : Int) != E) = false := by simp
  go_wp2_with fail
  refine (unhide HSP _ _ _ _ _ (row_readsP (unhide HA5)) (row_readsP (unhide HW5))).mono ?_
  rintro e w6 ⟨rfl, hb6⟩
  have HI6 := hide ((unhide HI5).below hb6)
  have HJ6 := hide ((unhide HJ5).below hb6)
  have HA6 := hide (rowBelow (unhide HA5) hb6)
  have HR6 := hide (rowBelow (unhide HR5) hb6)
  have HW6 := hide (rowBelow (unhide HW5) hb6)
  have HB6 := hide ((unhide HB5).trans (hb6.mono (unhide HB5).size))
  clear hb6
  go_wp2_with fail
  refine (unhide HKI _ _ _ _ (unhide HI6) ((unhide HR).below (unhide HB6))).mono ?_
  rintro e w7 ⟨rfl, hb7⟩
  have HJ7 := hide ((unhide HJ6).below hb7)
  have HA7 := hide (rowBelow (unhide HA6) hb7)
  have HR7 := hide (rowBelow (unhide HR6) hb7)
  have HW7 := hide (rowBelow (unhide HW6) hb7)
  have HB7 := hide ((unhide HB6).trans (hb7.mono (unhide HB6).size))
  clear hb7
  go_wp2_with fail
  refine (unhide HKB _ _ _ _ (unhide HJ7) ((unhide HK).below (unhide HB7))).mono ?_
  rintro e w8 ⟨rfl, hb8⟩
  have HA8 := hide (rowBelow (unhide HA7) hb8)
  have HR8 := hide (rowBelow (unhide HR7) hb8)
  have HW8 := hide (rowBelow (unhide HW7) hb8)
  have HB8 := hide ((unhide HB7).trans (hb8.mono (unhide HB7).size))
  clear hb8
  obtain ⟨pb, cb, rfl⟩ := row_is (unhide HR8)
  have HCU : Hid (∀ ga, pa = some ⟨ga, 0, none⟩ → W.heap.size ≤ ga ∧ ga < w3.heap.size) := fun ga e => by subst e; exact unhide HGA ga rfl
  have HC0 : Hid (0 < L → ∃ ga cur, pa = some ⟨ga, 0, none⟩ ∧ w8.heap[ga]? = some (.cells cur 46 (0, 0)) ∧ L * 2 ≤ cur.size) := by
    intro h0
    rcases (unhide HA8).2 with ⟨h1, _⟩ | ⟨g', cap', cur, hv, hbb, hg, hnc, hcm, hcs, htk⟩
    · obtain ⟨_, h2, _⟩ : pa = none ∧ L = 0 ∧ ca = 0 := by simpa using h1
      omega
    · obtain ⟨rfl, rfl⟩ : pa = some ⟨g', 0, none⟩ ∧ ca = cap' := by simpa using hv
      refine ⟨g', cur, rfl, hg, ?_⟩
      have := (unhide HA8).1
      have h9 : (cur.toList.take (L * 2)).length = L * 2 := by rw [htk]; exact this
      rw [List.length_take] at h9
      have h10 : cur.toList.length = cur.size := by simp
      omega
  go_wp2
  go_loopg [13] L (fun g v13 wx => ∃ i : Nat, i + g = L ∧ v13 = .int .i64 (i : Nat) ∧ wx.ownsRow w3.heap.size 46 2 (.slice pb L cb) L (pcsC ps) ∧ wx.ownsRow w4.heap.size 46 2 (.slice pw L cw) L (pcsC ps) ∧ Below W.heap.size W wx ∧
    (0 < L → ∃ ga cur, pa = some ⟨ga, 0, none⟩ ∧ wx.heap[ga]? = some (.cells cur 46 (0, 0)) ∧ L * 2 ≤ cur.size))
  case atStart => exact ⟨0, by omega, rfl, unhide HR8, unhide HW8, unhide HB8, unhide HC0⟩
  case round =>
    obtain ⟨i, hig, rfl, hb, hw, hB, hcu⟩ := hrel
    by_cases hlt : i < L
    · obtain ⟨ga, cur, rfl, hg, hsz⟩ := hcu (by omega)
      obtain ⟨ge1, ge2⟩ := unhide HCU ga rfl
      have cc : ∀ j, j < cur.size → ∃ v, wr.cell? ⟨ga, j, none⟩ = some v := fun j hj => ⟨cur[j], by simp [World.cell?, hg, hj]⟩
      obtain ⟨o1, c1'⟩ := cc (i * 2) (by omega)
      obtain ⟨o2, c2'⟩ := cc (i * 2 + 1) (by omega)
      have f1 : wr.frozen? ⟨ga, i * 2, none⟩ = false := by simp [World.frozen?, hg]
      have f2 : wr.frozen? ⟨ga, i * 2 + 1, none⟩ = false := by simp [World.frozen?, hg]
      obtain ⟨cur1, hg1, hs1⟩ := cur_set hg (i * 2) (.int .i64 (-1))
      obtain ⟨cur2, hg2, hs2⟩ := cur_set hg1 (i * 2 + 1) (.int .i64 (-1))
      have hb1 := row_other (row_other hb ge2 (i * 2) (.int .i64 (-1))) ge2 (i * 2 + 1) (.int .i64 (-1))
      have hw1 := row_other (row_other hw (Nat.lt_of_lt_of_le ge2 (unhide Z34)) (i * 2) (.int .i64 (-1))) (Nat.lt_of_lt_of_le ge2 (unhide Z34)) (i * 2 + 1) (.int .i64 (-1))
      have hB1 := (hB.setCell (p := ⟨ga, i * 2, none⟩) ge1 (.int .i64 (-1))).setCell (p := ⟨ga, i * 2 + 1, none⟩) ge1 (.int .i64 (-1))
      have HB9 := hide hB1
      have HR9 := hide hb1
      have HW9 := hide hw1
      have HC9 := hide (And.intro hg2 (And.intro hs1 (And.intro hs2 hsz)))
      clear cc hg hg1 hg2 hs1 hs2 hb hw hB hcu hb1 hw1 hB1
      go_wp2
      go_roundg (gk - 1)
      case measure => omega
      case rel =>
        obtain ⟨z1, z2, z3, z4⟩ := unhide HC9
        exact ⟨i + 1, by omega, by go_num, unhide HR9, unhide HW9, unhide HB9, fun _ => ⟨ga, cur2, rfl, z1, by omega⟩⟩
    · have HB9 := hide hB
      have HRb := hide (row_readsP hb)
      have HRw := hide (row_readsP hw)
      clear hb hw hB hcu
      go_wp2_with fail
      refine (unhide HSP _ _ _ _ _ (unhide HRb) (unhide HRw)).mono ?_
      rintro e x1 ⟨rfl, hx1⟩
      have HX1 := hide ((unhide HB9).trans (hx1.mono (unhide HB9).size))
      clear hx1
      go_wp2_with fail
      refine (unhide HAW _).mono ?_
      rintro e x2 ⟨rfl, hx2⟩
      have HX2 := hide ((unhide HX1).trans (hx2.mono (unhide HX1).size))
      clear hx2
      go_wp2
      go_ret
      exact ⟨rfl, unhide HX2⟩

theorem own : ownKnob Try.prog.godebug = none := by kernel_rfl
theorem laidOut : laidOutB Try.prog = true := by kernel_rfl

set_option maxRecDepth 100000 in
theorem contract (H : Type) (enc : TypeId × Value → H) (W : World) (base : Nat) (args : Array Value) (ds gs : List (DataW H)) (before : List MemPlace)
    (hval : ∀ (j : Nat) t v, Try.f4.params[j]? = some t → args[j]? = some v → Value.okWide Try.prog W .any base t v)
    (hW : DataW.Whole enc Try.prog Try.f4.params.toList Rows.parasSplitsSpec.vars false W args.toList ds gs before) (hk : Rows.uptoSmall H (ds ++ gs) = true) :
    Calls Try.prog 4 args W fun e W' => ∃ v, e = .returned v ∧ Rows.parasSplitsSpec.post enc Try.prog Try.f4 false true false false W args v W' := by
  have hW' := hW
  obtain ⟨p, q, hA0, hV, rfl, hfz, hnd⟩ := hW
  have hA : DataW.TrodAll enc Try.prog W 0 (fun _ => true) true Try.f4.params.toList args.toList ds p := hA0
  rw [Try.params4] at hA hval
  obtain ⟨v0, vs0, d0, ds0, p0, q0, hargs, rfl, rfl, h0, r0⟩ := trodAll_cons hA
  obtain ⟨v1, vs1, d1, ds1, p1, q1, rfl, rfl, rfl, h1, r1⟩ := trodAll_cons r0
  obtain ⟨rfl, rfl, rfl⟩ := trodAll_nil r1
  obtain rfl : args = #[v0, v1] := by cases args; simp_all
  obtain ⟨rfl, rfl⟩ := trodVars_none hV
  obtain ⟨a0, len0, cap0, rfl⟩ := okWide_slice Try.underlying26 (hval 0 26 v0 rfl rfl)
  have k0 := h0
  have lt0 : ∀ x ∈ p0, x.block < W.heap.size := by obtain ⟨m, hm⟩ := k0; exact DataW.trod_lt m _ _ _ hm
  obtain ⟨a1, len1, cap1, rfl⟩ := okWide_slice Try.underlying29 (hval 1 29 v1 rfl rfl)
  have k1 := h1
  have lt1 : ∀ x ∈ p1, x.block < W.heap.size := by obtain ⟨m, hm⟩ := k1; exact DataW.trod_lt m _ _ _ hm
  have hk' : Rows.uptoSmall H [d0, d1] = true := hk
  have hb := bulk_bound hk'
  simp only [Rows.uptoBulkAll] at hb
  obtain ⟨z0, w0, c0, wf0⟩ : ∃ zs : List Int, ((a0 = none ∧ len0 = 0 ∧ cap0 = 0 ∧ zs = []) ∨ ∃ x, a0 = some x ∧ len0 ≤ cap0 ∧ cap0 ≤ maxLen ∧ zs.length = cap0 ∧ (∀ i, i < zs.length → W.cell? (x.add i) = some (.int .i32 (zs.getD i 0)))) ∧ cap0 ≤ 1048576 ∧ (∀ n ∈ zs, (Lit.int .i32 n).wf = true) := by
    obtain ⟨fuel, hf⟩ := h0
    rcases open_ints Try.underlying26 Try.underlying21 (by kernel_rfl) hf with ⟨hcs, _⟩ | ⟨x, l, c, zs, hcs, _, hl, hm, hz, hx, hcell, hwz⟩
    · simp [Value.cells] at hcs
      obtain ⟨rfl, rfl, rfl⟩ := hcs
      exact ⟨[], .inl ⟨rfl, rfl, rfl, rfl⟩, by omega, by simp⟩
    · simp [Value.cells] at hcs
      obtain ⟨rfl, rfl, rfl⟩ := hcs
      have hz' : zs.length = cap0 := by simpa using hz
      refine ⟨zs, .inr ⟨_, rfl, hl, hm, hz', hcell⟩, ?_, hwz⟩
      have hd : d0 = .slice (lits .i32 (zs.take len0)) (lits .i32 (zs.drop len0)) := by simp only [Prod.mk.injEq] at hx; exact hx.1
      rw [hd] at hb
      have h2 := bulk_slice (H := H) (lits .i32 (zs.take len0)) (lits .i32 (zs.drop len0))
      have e1 : (lits (H := H) .i32 (zs.take len0)).length = (zs.take len0).length := by simp [lits]
      have e2 : (lits (H := H) .i32 (zs.drop len0)).length = (zs.drop len0).length := by simp [lits]
      rw [e1, e2, List.length_take, List.length_drop] at h2
      omega
  have hlc0 : len0 ≤ cap0 := by rcases w0 with ⟨_, h, h', _⟩ | ⟨_, _, h, _⟩ <;> omega
  have hzc0 : z0.length = cap0 := w0.elim (fun ⟨_, _, h, h'⟩ => by rw [h', h]; rfl) (fun ⟨_, _, _, _, h, _⟩ => h)
  have hle0 : (z0.take len0).length = len0 := by rw [List.length_take]; omega
  have hrd0 : Reads W a0 (z0.take len0) := by
    intro i hi
    rw [hle0] at hi
    rcases w0 with ⟨_, h, _⟩ | ⟨x, h1, h2, h3, h4, h5⟩
    · omega
    · obtain ⟨b, off, rfl, hc⟩ := ints_at h5 (by omega)
      refine ⟨b, off, h1, (hc i (by omega)).trans ?_⟩
      simp [List.getD, hi]
  obtain ⟨z1, w1, c1, wf1⟩ : ∃ zs : List Int, ((a1 = none ∧ len1 = 0 ∧ cap1 = 0 ∧ zs = []) ∨ ∃ x, a1 = some x ∧ len1 ≤ cap1 ∧ cap1 ≤ maxLen ∧ zs.length = cap1 ∧ (∀ i, i < zs.length → W.cell? (x.add i) = some (.int .u8 (zs.getD i 0)))) ∧ cap1 ≤ 1048576 ∧ (∀ n ∈ zs, (Lit.int .u8 n).wf = true) := by
    obtain ⟨fuel, hf⟩ := h1
    rcases open_ints Try.underlying29 Try.underlying22 (by kernel_rfl) hf with ⟨hcs, _⟩ | ⟨x, l, c, zs, hcs, _, hl, hm, hz, hx, hcell, hwz⟩
    · simp [Value.cells] at hcs
      obtain ⟨rfl, rfl, rfl⟩ := hcs
      exact ⟨[], .inl ⟨rfl, rfl, rfl, rfl⟩, by omega, by simp⟩
    · simp [Value.cells] at hcs
      obtain ⟨rfl, rfl, rfl⟩ := hcs
      have hz' : zs.length = cap1 := by simpa using hz
      refine ⟨zs, .inr ⟨_, rfl, hl, hm, hz', hcell⟩, ?_, hwz⟩
      have hd : d1 = .slice (lits .u8 (zs.take len1)) (lits .u8 (zs.drop len1)) := by simp only [Prod.mk.injEq] at hx; exact hx.1
      rw [hd] at hb
      have h2 := bulk_slice (H := H) (lits .u8 (zs.take len1)) (lits .u8 (zs.drop len1))
      have e1 : (lits (H := H) .u8 (zs.take len1)).length = (zs.take len1).length := by simp [lits]
      have e2 : (lits (H := H) .u8 (zs.drop len1)).length = (zs.drop len1).length := by simp [lits]
      rw [e1, e2, List.length_take, List.length_drop] at h2
      omega
  have hlc1 : len1 ≤ cap1 := by rcases w1 with ⟨_, h, h', _⟩ | ⟨_, _, h, _⟩ <;> omega
  have hzc1 : z1.length = cap1 := w1.elim (fun ⟨_, _, h, h'⟩ => by rw [h', h]; rfl) (fun ⟨_, _, _, _, h, _⟩ => h)
  have hle1 : (z1.take len1).length = len1 := by rw [List.length_take]; omega
  have hrd1 : ReadsB W a1 (z1.take len1) := by
    intro i hi
    rw [hle1] at hi
    rcases w1 with ⟨_, h, _⟩ | ⟨x, h1, h2, h3, h4, h5⟩
    · omega
    · obtain ⟨b, off, rfl, hc⟩ := ints_at h5 (by omega)
      refine ⟨b, off, h1, (hc i (by omega)).trans ?_⟩
      simp [cA, List.getD, hi]
  have hfi1 : FitsB (z1.take len1) := by
    intro x hx
    exact wf_u8 (wf1 x (List.mem_of_mem_take hx))
  clear hA0
  have hwk := walk a0 (z0.take len0) cap0 a1 (z1.take len1) cap1 W hrd0 (by rw [hle0]; omega) c0 hrd1 hfi1 (by rw [hle1]; omega) c1
  rw [hle0] at hwk
  rw [hle1] at hwk
  refine hwk.mono fun e W' ⟨he, bel⟩ => ?_
  subst he
  exact ⟨_, rfl, _, _, _, [], _, [], hW', trodAll_mk1 (shut_bool Try.underlying4 _), (trodAll_cons_mk (Below.trod laidOut (by kernel_rfl) (of_decide_eq_true (by kernel_rfl)) k0 bel lt0) (trodAll_cons_mk (Below.trod laidOut (by kernel_rfl) (of_decide_eq_true (by kernel_rfl)) k1 bel lt1) trodAll_mk0)), rfl, bel.frame _, fun h => by cases h⟩

set_option maxRecDepth 100000 in
theorem lifted (os : Os) (started : os.Started) (H : Type) (enc : TypeId × Value → H) (F : Stop.Interp) :
    ReturnsInHanded {} Try.checked os 4 .any ((Rows.OpenSpec.upto Rows.parasSplitsSpec).pre6 enc Try.prog Try.f4 Rows.parasSplitsUptoRow.domain false) (((Rows.OpenSpec.upto Rows.parasSplitsSpec).at F).post enc Try.prog Try.f4 false true false false) := by
  refine returnsInHanded_of_cond (C := Try.checked) (s := Rows.OpenSpec.upto Rows.parasSplitsSpec) (k := Rows.uptoSmall) rfl own started (by kernel_rfl) Try.func4
    (OpenSpec.witness (enc := enc) (C := Try.checked) (s := Rows.OpenSpec.upto Rows.parasSplitsSpec) (k := Rows.uptoSmall) rfl false ⟨#[], #[.slice none 0 0, .slice none 0 0], []⟩ 8 (by kernel_rfl) (by kernel_rfl) (by kernel_rfl)
      (x := ([.nil, .nil], [], [])) (by kernel_rfl) rfl (by kernel_rfl)) ?_
  intro W base args ds gs before hval hW _ hk _
  exact contract H enc W base args ds gs before hval hW hk

theorem over : Rows.parasSplitsUptoRow.holds Try.pinned (Rows.OpenSpec.upto Rows.parasSplitsSpec) :=
  OpenClaim.holds_of_cond 4 Try.f4 rfl rfl rfl rfl rfl rfl rfl ⟨rfl, rfl, rfl, rfl, rfl⟩ rfl rfl rfl rfl rfl (by kernel_rfl) Try.func4 (by kernel_rfl)
    (of_decide_eq_true (by kernel_rfl)) (by unfold Func.isWrapper; first | (rw [if_pos (by decide +kernel)]; kernel_rfl) | (rw [if_neg (by decide +kernel)]; exact ⟨rfl, rfl⟩))
    (fun os started H enc _ F => lifted os started H enc F)

end Go.Proofs.Ytkckkchnmgidgaa.parasSplits
namespace Go.Proofs.Ytkckkchnmgidgaa
theorem parasSplits_upto : Rows.ParasSplitsUptoSaid := parasSplits.over
end Go.Proofs.Ytkckkchnmgidgaa

