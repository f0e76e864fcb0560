/-
  The laws MirrorsBack and MirrorsAgain, walked.
-/
import Derived.Test.YtnabbahdmajfpaaGreatDoorMrBm
import Derived.Test.YtnabbahdmajfpaaGreatDoorMrPr2
import Derived.Test.YtnabbahdmajfpaaGreatDoorMrOfW
import Derived.Lib.QuietBelow
namespace Go.Proofs.YtnabbahdmajfpaaGreatDoor
open Go.RowKit Go.PlainAid Go.Lib Go.PHexM Go.Shelf
set_option linter.unusedVariables false
set_option linter.unusedSimpArgs false

/-- mirrors that are alike, but for their lines -/
def ButM (x y : MirD) : Prop := x.frm = y.frm ∧ x.to = y.to ∧ x.best = y.best
set_option maxRecDepth 100000 in
theorem same9_yes (x y : MirD) (w : World) (h : ButM x y) : Calls Tryz.prog 54 #[mirV x, mirV y] w fun e w' => e = .returned (.bool true) ∧ Below w.heap.size w w' := by
  obtain ⟨x0, x1, x2, x3⟩ := x
  obtain ⟨y0, y1, y2, y3⟩ := y
  obtain ⟨h1, h2, h3⟩ := h
  simp only at h1 h2 h3
  subst h1 h2 h3
  obtain ⟨W, hW⟩ : ∃ W, (w.alloc (.cells #[.int .i64 x0, .int .i32 x1, .int .i32 x2, .bool x3] 27)).alloc (.cells #[.int .i64 y0, .int .i32 x1, .int .i32 x2, .bool x3] 27) = W := ⟨_, rfl⟩
  have hb : Below w.heap.size w W := by rw [← hW]; exact ((Below.refl _ w).alloc (Nat.le_refl _) _).alloc (by simp) _
  have m1 : MirAt W w.heap.size ⟨x0, x1, x2, x3⟩ := by rw [← hW]; exact (Below.heap_alloc _ _ _ (by simp)).trans (heap_alloc_new w _)
  have m2 : MirAt W (w.heap.size + 1) ⟨y0, x1, x2, x3⟩ := by
    rw [← hW]
    have h := heap_alloc_new (w.alloc (.cells #[.int .i64 x0, .int .i32 x1, .int .i32 x2, .bool x3] 27)) (.cells #[.int .i64 y0, .int .i32 x1, .int .i32 x2, .bool x3] 27)
    rw [World.size_alloc] at h; exact h
  obtain ⟨W1, hW1⟩ : ∃ W1, W.setCell ⟨w.heap.size, 0, none⟩ (.int .i64 0) = W1 := ⟨_, rfl⟩
  have n1 : MirAt W1 w.heap.size ⟨0, x1, x2, x3⟩ := by rw [← hW1]; exact m1.set 0 _ rfl
  have n2 : MirAt W1 (w.heap.size + 1) ⟨y0, x1, x2, x3⟩ := by rw [← hW1]; exact (Below.heap_setCell _ _ _ _ (by simp)).trans m2
  have hb1 : Below w.heap.size w W1 := by rw [← hW1]; exact hb.setCell (Nat.le_refl _) _
  obtain ⟨W2, hW2⟩ : ∃ W2, W1.setCell ⟨w.heap.size + 1, 0, none⟩ (.int .i64 0) = W2 := ⟨_, rfl⟩
  have o1 : MirAt W2 w.heap.size ⟨0, x1, x2, x3⟩ := by rw [← hW2]; exact (Below.heap_setCell _ _ _ _ (by simp)).trans n1
  have o2 : MirAt W2 (w.heap.size + 1) ⟨0, x1, x2, x3⟩ := by rw [← hW2]; exact n2.set 0 _ rfl
  have hb2 : Below w.heap.size w W2 := by rw [← hW2]; exact hb1.setCell (Nat.le_succ _) _
  have a0 := m1.cell (j := 0) rfl
  have af := m1.frozen 0
  have b0 := n2.cell (j := 0) rfl
  have bf := n2.frozen 0
  have c0 := o1.cell (j := 0) rfl
  have c1 := o1.cell (j := 1) rfl
  have c2 := o1.cell (j := 2) rfl
  have c3 := o1.cell (j := 3) rfl
  have d0 := o2.cell (j := 0) rfl
  have d1 := o2.cell (j := 1) rfl
  have d2 := o2.cell (j := 2) rfl
  have d3 := o2.cell (j := 3) rfl
  have HB2 := hide hb2
  clear hb hb1 hb2 m1 m2 n1 n2 o1 o2
  go_enter Tryz.func54, Tryz.ntmps54
  go_wp2
  go_ret
  exact ⟨by simp, unhide HB2⟩

set_option maxRecDepth 100000 in
set_option maxHeartbeats 4000000 in
theorem sameBut9_yes (l m : List MirD) (a b : Option Addr) (n ca cb : Nat) (w : World) (h2 : ∀ (i : Nat) x, l[i]? = some x → ∃ y, m[i]? = some y ∧ ButM x y) (hn : l.length = n) (hnb : n ≤ 1099511627776) (ha : MrMem w a l) (hb : MrMem w b m) :
    Calls Tryz.prog 31 #[.slice a n ca, .slice b n cb] w fun e w' => e = .returned (.bool true) ∧ Below w.heap.size w w' := by
  have HA := hide ha
  have HB := hide hb
  have HN := hide hn
  have HAL := hide h2
  clear ha hb hn h2
  have hnn : ((n : Int) != (n : Int)) = false := by simp
  go_enter Tryz.func31, Tryz.ntmps31
  go_wp2
  go_loopw [5] (fun v5 wr => ∃ i : Nat, i ≤ n ∧ v5 = .int .i64 i ∧ Below w.heap.size w wr) (fun v5 _ => n - (RowKit.intOf v5).toNat)
  case atStart => exact ⟨0, Nat.zero_le _, rfl, Below.refl _ _⟩
  case round =>
    obtain ⟨i, hi, rfl, hbw⟩ := hrel
    by_cases hlt : i < n
    · obtain ⟨x, hx⟩ : ∃ x, l[i]? = some x := ⟨_, List.getElem?_eq_getElem (by rw [unhide HN]; exact hlt)⟩
      obtain ⟨y, hy, hxy⟩ := unhide HAL i x hx
      obtain ⟨g, off, rfl, hc⟩ := ((unhide HA).below hbw) i x hx
      obtain ⟨g', off', rfl, hd⟩ := ((unhide HB).below hbw) i y hy
      have HSM := hide (fun V => same9_yes x y V hxy)
      have cx0 := hc 0 _ rfl
      have cx1 := hc 1 _ rfl
      have cx2 := hc 2 _ rfl
      have cx3 := hc 3 _ rfl
      have dx0 := hd 0 _ rfl
      have dx1 := hd 1 _ rfl
      have dx2 := hd 2 _ rfl
      have dx3 := hd 3 _ rfl
      simp only [Nat.add_zero] at cx0 dx0
      have X0 := fun dq os => cell_regrown cx0 dq os
      have X1 := fun dq os => cell_regrown cx1 dq os
      have X2 := fun dq os => cell_regrown cx2 dq os
      have X3 := fun dq os => cell_regrown cx3 dq os
      have Y0 := fun dq os => cell_regrown dx0 dq os
      have Y1 := fun dq os => cell_regrown dx1 dq os
      have Y2 := fun dq os => cell_regrown dx2 dq os
      have Y3 := fun dq os => cell_regrown dx3 dq os
      have hlt' : (i : Int) < (n : Int) := by omega
      have hq1 : IntKind.i64.wrap ((i : Int) + 1) = (i : Int) + 1 := by rw [IntKind.wrap_i64]; omega
      have HBW := hide hbw
      clear hc hd hx hy hbw hxy
      go_wp2_with fail
      refine wp_region_quiet_below (by kernel_rfl) (by kernel_rfl) ?_
      repeat (go_big_quiet_step (first | (go_at_call 54; with_reducible exact Calls.regrown_of (unhide HSM _))))
      refine wpQuiet_nil ?_
      intro _ hw'
      obtain ⟨⟨dq, osq⟩, hw''⟩ := hw'
      subst hw''
      have hb3 : Below wr.heap.size wr (Sort.grow (redrawn wr dq) osq) := below_regrown wr dq osq
      have hb4 := (unhide HBW).trans (hb3.mono (unhide HBW).size)
      generalize Sort.grow (redrawn wr dq) osq = w3 at hb4 ⊢
      simp only [Exit.then]
      clear X0 X1 X2 X3 Y0 Y1 Y2 Y3 hb3
      go_wp2
      go_roundw
      case rel => exact ⟨i + 1, by omega, by go_num, hb4⟩
      case measure => simp [RowKit.intOf]; omega
    · obtain rfl : i = n := by omega
      go_wp2
      go_ret
      exact ⟨rfl, hbw⟩
theorem rel_but (l : List MirD) (k : Nat) : ∀ (i : Nat) x, (relM l k)[i]? = some x → ∃ y, l[i]? = some y ∧ ButM x y := by
  intro i x hx
  rw [relM_at] at hx
  obtain ⟨y, hy, rfl⟩ := Option.map_eq_some_iff.1 hx
  exact ⟨y, hy, rfl, rfl, rfl⟩

set_option maxRecDepth 100000 in
set_option maxHeartbeats 2000000 in
theorem back9_walk (l : List MirD) (a : Option Addr) (n c : Nat) (w : World) (hg : errTypeAt w) (htz : tz16At w) (hn : l.length = n) (hnb : n ≤ 1048576) (hok : ∀ x ∈ l, MirOk x) (h : MrMem w a l) :
    Calls Tryz.prog 8 #[.slice a n c] w fun e w' => e = .returned (.bool true) ∧ Below w.heap.size w w' := by
  have HAW := hide (awake9_any w hg)
  have HPR := hide (fun V (hb : Below w.heap.size w V) => print9_any l a n c V (tz16_belowM htz hb) hn (by omega) hok (h.below hb))
  have HM := hide h
  have HN := hide hn
  have hsz := textM_size l l.length
  rw [hn] at hsz
  obtain ⟨cc, hcc⟩ : ∃ cc, (chkM l).2 = cc := ⟨_, rfl⟩
  obtain ⟨T, hT⟩ : ∃ T, printM l = T := ⟨_, rfl⟩
  rw [hcc, hT] at HPR
  by_cases h0 : cc = 0
  · subst h0
    have hTe : T = textM l l.length := by rw [← hT]; unfold printM; rw [if_pos hcc]
    have hbk := back_M hcc
    rw [← hTe] at hbk
    have hTs : T.size ≤ 1073741824 := by rw [hTe, hn]; omega
    have HRD := hide (fun V => read9_any ⟨#[120]⟩ T V hTs)
    have HBK := hide hbk
    have HRL : Hid ((relM l 0).length = n) := by show _ = _; rw [relM_len]; exact hn
    clear hcc hT hTe hbk hTs hsz hg htz hn hok h
    go_enter Tryz.func8, Tryz.ntmps8
    go_wp2_with fail
    refine (unhide HAW).mono ?_
    rintro e w1 ⟨rfl, hb1⟩
    go_wp2_with fail
    refine (unhide HPR _ hb1).mono ?_
    rintro e w2 ⟨rfl, hb2⟩
    have HB2 := hide (hb1.trans (hb2.mono hb1.size))
    clear hb1 hb2 HAW HPR
    go_wp2_with fail
    refine (unhide HRD _).mono ?_
    rintro e w3 ⟨hb3, (⟨_, v, rfl, ho⟩ | ⟨no, code, fb, hf, _⟩)⟩
    rotate_left
    · rw [unhide HBK] at hf; cases hf
    rw [unhide HBK] at ho
    have HB3 := hide ((unhide HB2).trans (hb3.mono (unhide HB2).size))
    obtain ⟨oa, oc, rfl, hoc, hom⟩ := mirsAt_mem ho
    have HS := hide (sameBut9_yes (relM l 0) l oa a n oc c w3 (rel_but l 0) (unhide HRL) (by omega) hom ((unhide HM).below (unhide HB3)))
    simp only
    rw [unhide HRL]
    clear ho hom hb3 HRD HBK
    go_wp2_with fail
    refine (unhide HS).mono ?_
    rintro e w4 ⟨rfl, hb4⟩
    have hB4 := (unhide HB3).trans (hb4.mono (unhide HB3).size)
    go_wp2
    go_ret
    exact ⟨rfl, hB4⟩
  · have dk : (cc != 0) = true := by simpa using h0
    have dk' : (cc == 0) = false := by simpa using h0
    have hTe : T = ⟨#[]⟩ := by rw [← hT]; unfold printM; rw [if_neg (by rw [hcc]; exact h0)]; rfl
    subst hTe
    clear hcc hT hsz hg htz hn hok h h0
    go_enter Tryz.func8, Tryz.ntmps8
    go_wp2_with fail
    refine (unhide HAW).mono ?_
    rintro e w1 ⟨rfl, hb1⟩
    go_wp2_with fail
    refine (unhide HPR _ hb1).mono ?_
    rintro e w2 ⟨rfl, hb2⟩
    go_wp2
    go_ret
    exact ⟨rfl, hb1.trans (hb2.mono hb1.size)⟩
/-- what Read answers may be -/
theorem mirs_ok {s : ByteArray} (h : (mirsS s).2 = none) : (chkM (mirsS s).1).2 = 0 ∧ ∀ x ∈ (mirsS s).1, MirOk x := by
  unfold mirsS at h ⊢
  cases h1 : (readS s).2 with
  | some p => rw [h1] at h; cases h
  | none =>
    rw [h1] at h
    simp only at h ⊢
    cases h2 : (tellM (readS s).1).2 with
    | some p => rw [h2] at h; cases h
    | none =>
      rw [h2] at h
      simp only at h ⊢
      by_cases hc : (chkM (tellM (readS s).1).1).2 = 0
      · rw [if_pos hc]; exact ⟨hc, tell_mirOk _⟩
      · rw [if_neg hc] at h; cases h
theorem mirs_lenM (s : ByteArray) : (mirsS s).1.length ≤ s.size + 1 := by
  unfold mirsS
  split
  · simp
  · split
    · simp
    · split
      · exact Nat.le_trans (tell_len _) (readS_len s)
      · simp

set_option maxRecDepth 100000 in
set_option maxHeartbeats 2000000 in
theorem again9_walk (s : ByteArray) (w : World) (hg : errTypeAt w) (htz : tz16At w) (hs : s.size ≤ 1048576) :
    Calls Tryz.prog 9 #[.string s] w fun e w' => e = .returned (.bool true) ∧ Below w.heap.size w w' := by
  have HAW := hide (awake9_any w hg)
  have HR1 := hide (fun V => read9_any ⟨#[120]⟩ s V (by omega))
  have HZ := hide htz
  clear hg htz
  go_enter Tryz.func9, Tryz.ntmps9
  go_wp2_with fail
  refine (unhide HAW).mono ?_
  rintro e w1 ⟨rfl, hb1⟩
  have HB1 := hide hb1
  clear hb1 HAW
  go_wp2_with fail
  refine (unhide HR1 _).mono ?_
  rintro e w2 ⟨hb2, (⟨hno, v, rfl, ho⟩ | ⟨no, code, fb, hf, rfl, _, _⟩)⟩
  · obtain ⟨hck, hok⟩ := mirs_ok hno
    have hlen := mirs_lenM s
    obtain ⟨a, c, rfl, hlc, hm⟩ := mirsAt_mem ho
    obtain ⟨l, hl⟩ : ∃ l, (mirsS s).1 = l := ⟨_, rfl⟩
    rw [hl] at hck hok hlen hm hlc ⊢
    obtain ⟨n, hn⟩ : ∃ n, l.length = n := ⟨_, rfl⟩
    have HB2 := hide ((unhide HB1).trans (hb2.mono (unhide HB1).size))
    have hsz := textM_size l l.length
    rw [hn] at hsz hlen
    have hprint : printM l = textM l l.length := by unfold printM; rw [if_pos hck]
    have hbk := back_M hck
    obtain ⟨T, hT⟩ : ∃ T, textM l l.length = T := ⟨_, rfl⟩
    rw [hT] at hprint hbk
    have hTs : T.size ≤ 1073741824 := by rw [← hT, hn]; omega
    have hP := print9_any l a n c w2 (tz16_belowM (unhide HZ) (unhide HB2)) hn (by omega) hok hm
    rw [hprint, hck] at hP
    have HP := hide hP
    have HRD := hide (fun V => read9_any ⟨#[121]⟩ T V hTs)
    have HBK := hide hbk
    have HRL : Hid ((relM l 0).length = n) := by show _ = _; rw [relM_len]; exact hn
    have HM := hide hm
    rw [hn]
    clear hno ho hl hck hok hlc hm hb2 hsz hprint hbk hT hTs hP HR1 hn HB1
    go_wp2_with fail
    refine (unhide HP).mono ?_
    rintro e w3 ⟨rfl, hb3⟩
    have HB3 := hide ((unhide HB2).trans (hb3.mono (unhide HB2).size))
    have HM3 := hide ((unhide HM).below hb3)
    clear hb3 HP HM HB2
    go_wp2_with fail
    refine (unhide HRD _).mono ?_
    rintro e w4 ⟨hb4, (⟨_, v, rfl, ho⟩ | ⟨no, code, fb, hf, _⟩)⟩
    rotate_left
    · rw [unhide HBK] at hf; cases hf
    rw [unhide HBK] at ho
    have HB4 := hide ((unhide HB3).trans (hb4.mono (unhide HB3).size))
    obtain ⟨oa, oc, rfl, hoc, hom⟩ := mirsAt_mem ho
    have HS := hide (sameBut9_yes (relM l 0) l oa a n oc c w4 (rel_but l 0) (unhide HRL) (by omega) hom ((unhide HM3).below hb4))
    simp only
    rw [unhide HRL]
    clear ho hom hb4 HRD HBK HB3 HM3
    go_wp2_with fail
    refine (unhide HS).mono ?_
    rintro e w5 ⟨rfl, hb5⟩
    have hB5 := (unhide HB4).trans (hb5.mono (unhide HB4).size)
    go_wp2
    go_ret
    exact ⟨rfl, hB5⟩
  · have hB2 := (unhide HB1).trans (hb2.mono (unhide HB1).size)
    clear hf HR1 hb2
    go_wp2
    go_ret
    exact ⟨rfl, hB2⟩
end Go.Proofs.YtnabbahdmajfpaaGreatDoor
