/-
  Print of package mirrors, and the document's Print, for every list: the loops.
-/
import Derived.Test.YtnabbahdmajfpaaGreatDoorMrPr
namespace Go.Proofs.YtnabbahdmajfpaaGreatDoor
open Go.RowKit Go.PlainAid Go.Lib Go.PHexM Go.Shelf
set_option linter.unusedVariables false
set_option linter.unusedSimpArgs false

theorem isB_belowM {T e : TypeId} {B b : Nat} {bs : List Value} {W W' : World} (h : Lib.IsBuilder T e B b bs W) (hb : Below W.heap.size W W') : Lib.IsBuilder T e B b bs W' := by
  have k : ∀ p, Lib.BuilderAt T e B b p bs W → Lib.BuilderAt T e B b p bs W' := fun p h => by
    have hlt := h.lt
    obtain ⟨hB, v, hv, hown, hne⟩ := h
    exact ⟨hB, v, (hb.block b hlt).trans hv, hown.kept (row := none) ⟨hb.os, hb.tape, hb.output, hb.size, fun k hk _ => hb.block k hk⟩ (Classical.em _), hne⟩
  exact h.elim (fun x => .inl (k _ x)) (fun x => .inr (k _ x))
theorem textM_at {l : List MirD} {i : Nat} {x : MirD} (hx : l[i]? = some x) : textM l (i + 1) = textM l i ++ writM x := by
  show textM l i ++ writM (l.getD i zeroM) = _
  rw [getD_at hx]

set_option maxRecDepth 100000 in
set_option maxHeartbeats 4000000 in
theorem print9_any (l : List MirD) (a : Option Addr) (n c : Nat) (w : World) (hg : tz16At w) (hn : l.length = n) (hnb : n ≤ 1073741825) (hok : ∀ x ∈ l, MirOk x) (hm : MrMem w a l) :
    Calls Tryz.prog 20 #[.slice a n c] w fun e w' => e = .returned (.tuple #[.string (printM l), .int .i64 (chkM l).2]) ∧ Below w.heap.size w w' := by
  have HC := hide (check9_any l a n c w hn (by omega) hok hm)
  have HPT := hide (fun h => ok_points (l := l) h)
  have HN := hide hn
  have HM := hide hm
  have HG := hide hg
  have HPR : Hid (printM l = if (chkM l).2 = 0 then textM l l.length else ByteArray.empty) := rfl
  obtain ⟨cp, hcp⟩ : ∃ cp, (chkM l).1 = cp := ⟨_, rfl⟩
  obtain ⟨cc, hcc⟩ : ∃ cc, (chkM l).2 = cc := ⟨_, rfl⟩
  rw [hcp, hcc] at HC
  rw [hcc] at HPT HPR ⊢
  clear hcp hcc hn hm hg hok
  by_cases hc0 : cc = 0
  · subst hc0
    have hpt := unhide HPT rfl
    have hpr := unhide HPR
    rw [if_pos rfl, unhide HN] at hpr
    have HP2 := hide hpt
    have HPE := hide hpr
    clear hpt hpr HPT HPR
    go_enter Tryz.func20, Tryz.ntmps20
    go_wp2_with fail
    refine (unhide HC).mono ?_
    rintro e w1 ⟨rfl, hb1⟩
    obtain ⟨W2, hW2⟩ : ∃ W2, w1.alloc (.cells #[.pointer none, .slice none 0 0] 78) = W2 := ⟨_, rfl⟩
    have hb2 : Below w1.heap.size w1 W2 := by rw [← hW2]; exact (Below.refl _ w1).alloc (Nat.le_refl _) _
    have hB0 : Lib.IsBuilder 78 5 w1.heap.size w1.heap.size (Lib.strCells (textM l 0)) W2 := .inl ⟨Nat.le_refl _, .slice none 0 0, by rw [← hW2]; exact heap_alloc_new w1 _, ⟨rfl, .inl ⟨rfl, rfl⟩⟩, by simp [Value.ownBlock]⟩
    have HB0 := hide hB0
    have HB1 := hide hb1
    have HB2 := hide hb2
    have hs1 := hb1.size
    clear hB0 hb1 hb2 HC
    go_wp2
    clear hW2
    go_loopw [19] (fun v19 wr => ∃ i : Nat, i ≤ n ∧ v19 = .int .i64 (i : Nat) ∧ Hid (Lib.IsBuilder 78 5 w1.heap.size w1.heap.size (Lib.strCells (textM l i)) wr) ∧ Hid (Below w1.heap.size w1 wr)) (fun v19 _ => n - (RowKit.intOf v19).toNat)
    case atStart => exact ⟨0, Nat.zero_le _, rfl, unhide HB0, unhide HB2⟩
    case round =>
      obtain ⟨i, hi, rfl, HBD, HB⟩ := hrel
      have hBw : Below w.heap.size w wr := (unhide HB1).trans ((unhide HB).mono hs1)
      by_cases hlt : i < n
      · obtain ⟨x, hx⟩ : ∃ x, l[i]? = some x := ⟨_, List.getElem?_eq_getElem (by rw [unhide HN]; exact hlt)⟩
        obtain ⟨g, off, rfl, hc⟩ := ((unhide HM).below hBw) i x hx
        have cx0 := hc 0 _ rfl
        have cx1 := hc 1 _ rfl
        have cx2 := hc 2 _ rfl
        have cx3 := hc 3 _ rfl
        simp only [Nat.add_zero] at cx0
        have hlt' : (i : Int) < (n : Int) := by omega
        have hq1 : IntKind.i64.wrap ((i : Int) + 1) = (i : Int) + 1 := by rw [IntKind.wrap_i64]; omega
        obtain ⟨V, hV⟩ : ∃ V, wr.alloc (.cells #[.int .i64 x.line, .int .i32 x.frm, .int .i32 x.to, .bool x.best] 27) = V := ⟨_, rfl⟩
        have hVb : Below wr.heap.size wr V := by rw [← hV]; exact (Below.refl _ wr).alloc (Nat.le_refl _) _
        have vM : MirAt V wr.heap.size x := by rw [← hV]; exact heap_alloc_new wr _
        have v0 := vM.cell (j := 0) rfl
        have v1 := vM.cell (j := 1) rfl
        have v2 := vM.cell (j := 2) rfl
        have v3 := vM.cell (j := 3) rfl
        have hBV := hBw.trans (hVb.mono hBw.size)
        obtain ⟨p1, p2⟩ := unhide HP2 x (List.mem_of_getElem? hx)
        have HWR := hide (written9_any x V (tz16_belowM (unhide HG) hBV) p1 p2)
        have HTX : Hid (textM l (i + 1) = textM l i ++ writM x) := textM_at hx
        have HV1 := hide ((unhide HB).trans (hVb.mono (unhide HB).size))
        have HBV := hide (isB_belowM (unhide HBD) hVb)
        have hz1 := textM_size l i
        have hz2 := writM_size x
        obtain ⟨T, hT⟩ : ∃ T, writM x = T := ⟨_, rfl⟩
        rw [hT] at HWR HTX hz2
        clear hc hx vM hVb hBV hBw HBD HB p1 p2 hT
        go_wp2_with fail
        refine (unhide HWR).mono ?_
        rintro e w3 ⟨rfl, hb3⟩
        have B3 := hide ((unhide HV1).trans (hb3.mono (unhide HV1).size))
        have HWS := hide (Tryz.Builder_WriteString w1.heap.size w1.heap.size _ T w3 (isB_belowM (unhide HBV) hb3) (by rw [Lib.strCells_length]; omega) (unhide B3).size)
        clear hb3 hV
        go_wp2_with fail
        refine (unhide HWS).mono ?_
        rintro e w5 ⟨rfl, hbd, hb5⟩
        have HBD5 : Hid (Lib.IsBuilder 78 5 w1.heap.size w1.heap.size (Lib.strCells (textM l (i + 1))) w5) := by
          show Lib.IsBuilder _ _ _ _ _ _
          rw [unhide HTX, strCells_appM]
          exact .inr hbd
        have B5 := hide ((unhide B3).trans hb5)
        clear hbd hb5
        go_wp2
        go_roundw
        case rel => exact ⟨i + 1, by omega, by go_num, unhide HBD5, unhide B5⟩
        case measure => simp [RowKit.intOf]; omega
      · obtain rfl : i = n := by omega
        have hss := Tryz.Builder_String_any w1.heap.size w1.heap.size (textM l i).data.toList wr (unhide HBD) (unhide HB).size
        have e : (⟨(textM l i).data.toList.toArray⟩ : ByteArray) = textM l i := by simp
        rw [e] at hss
        have HSS := hide hss
        clear hss e HBD
        go_wp2_with fail
        refine (unhide HSS).mono ?_
        rintro e w5 ⟨rfl, hb5⟩
        go_wp2
        go_ret2
        rw [unhide HPE]
        exact ⟨rfl, (unhide HB1).trans (((unhide HB).trans hb5).mono hs1)⟩
  · have dk : (cc != 0) = true := by simpa using hc0
    have dk' : (cc == 0) = false := by simpa using hc0
    have hpr := unhide HPR
    rw [if_neg hc0] at hpr
    have HPE := hide hpr
    clear hpr HPR HPT hc0
    go_enter Tryz.func20, Tryz.ntmps20
    go_wp2_with (go_at_call 18; with_reducible refine (unhide HC).mono ?_; rintro e w1 ⟨rfl, hb1⟩)
    go_ret2
    rw [unhide HPE]
    exact ⟨rfl, hb1⟩

set_option maxRecDepth 100000 in
set_option maxHeartbeats 4000000 in
theorem refPrint9_any (l : List MirD) (a : Option Addr) (n c : Nat) (w : World) (hn : l.length = n) (hnb : n ≤ 1073741825) (hm : MrMem w a l) :
    Calls Tryz.prog 21 #[.slice a n c] w fun e w' => e = .returned (.tuple #[.string (printM l), .int .i64 (chkM l).2]) ∧ Below w.heap.size w w' := by
  have HC := hide (refCheck9_any l a n c w hn (by omega) hm)
  have HPT := hide (fun h => ok_points (l := l) h)
  have HN := hide hn
  have HM := hide hm
  have HPR : Hid (printM l = if (chkM l).2 = 0 then textM l l.length else ByteArray.empty) := rfl
  obtain ⟨cp, hcp⟩ : ∃ cp, (chkM l).1 = cp := ⟨_, rfl⟩
  obtain ⟨cc, hcc⟩ : ∃ cc, (chkM l).2 = cc := ⟨_, rfl⟩
  rw [hcp, hcc] at HC
  rw [hcc] at HPT HPR ⊢
  clear hcp hcc hn hm
  by_cases hc0 : cc = 0
  · subst hc0
    have hpt := unhide HPT rfl
    have hpr := unhide HPR
    rw [if_pos rfl, unhide HN] at hpr
    have HP2 := hide hpt
    have HPE := hide hpr
    clear hpt hpr HPT HPR
    go_enter Tryz.func21, Tryz.ntmps21
    go_wp2_with fail
    refine (unhide HC).mono ?_
    rintro e w1 ⟨rfl, hb1⟩
    have HB1 := hide hb1
    clear hb1 HC
    go_wp2
    go_loopw [6, 7] (fun v6 v7 wr => ∃ i : Nat, i ≤ n ∧ v7 = .int .i64 (i : Nat) ∧ v6 = .string (textM l i) ∧ Hid (Below w.heap.size w wr)) (fun _ v7 _ => n - (RowKit.intOf v7).toNat)
    case atStart => exact ⟨0, Nat.zero_le _, rfl, rfl, unhide HB1⟩
    case round =>
      obtain ⟨i, hi, rfl, rfl, HB⟩ := hrel
      by_cases hlt : i < n
      · obtain ⟨x, hx⟩ : ∃ x, l[i]? = some x := ⟨_, List.getElem?_eq_getElem (by rw [unhide HN]; exact hlt)⟩
        obtain ⟨g, off, rfl, hc⟩ := ((unhide HM).below (unhide HB)) i x hx
        have cx1 := hc 1 _ rfl
        have hlt' : (i : Int) < (n : Int) := by omega
        have hq1 : IntKind.i64.wrap ((i : Int) + 1) = (i : Int) + 1 := by rw [IntKind.wrap_i64]; omega
        obtain ⟨p1, p2⟩ := unhide HP2 x (List.mem_of_getElem? hx)
        have HTX : Hid (textM l (i + 1) = textM l i ++ ((if x.best then headM x ++ bestN else headM x) ++ ⟨#[10]⟩)) := textM_at hx
        have hz1 := textM_size l i
        obtain ⟨y, hy⟩ : ∃ y, textM l i = y := ⟨_, rfl⟩
        have HKP : Hid (∀ V, Below w.heap.size w V → V.cell? ⟨g, off + i * 4 + 2, none⟩ = some (.int .i32 x.to) ∧ V.cell? ⟨g, off + i * 4 + 3, none⟩ = some (.bool x.best)) := fun V hV => by
          obtain ⟨g', off', e, hc'⟩ := ((unhide HM).below hV) i x hx
          simp only [Option.some.injEq, Addr.mk.injEq, and_true] at e
          obtain ⟨rfl, rfl⟩ := e
          exact ⟨hc' 2 _ rfl, hc' 3 _ rfl⟩
        obtain ⟨x0, x1, x2, x3⟩ := x
        simp only at cx1 p1 p2 HTX HKP
        obtain ⟨A, rfl, hA⟩ := pt_nat p1
        obtain ⟨B, rfl, hB⟩ := pt_nat p2
        have hh : headM ⟨x0, (A : Nat), (B : Nat), x3⟩ = hexS (showLen A) A ++ ⟨#[59, 32]⟩ ++ hexS (showLen B) B := rfl
        rw [hh, hy] at HTX
        rw [hy] at hz1 ⊢
        have HSA := hide (fun V => refShow_any A hA V)
        have HSB := hide (fun V => refShow_any B hB V)
        have s1 := hexS_size (showLen A) A
        have s2 := hexS_size (showLen B) B
        have l1 := showLen_leM A
        have l2 := showLen_leM B
        generalize hexS (showLen A) A = P at *
        generalize hexS (showLen B) B = Q at *
        have e2 : (⟨#[59, 32]⟩ : ByteArray).size = 2 := rfl
        have y1 : ¬ 9223372036854775807 < P.size + 2 := by omega
        have y2 : ¬ 9223372036854775807 < P.size + 2 + Q.size := by omega
        have y3 : ¬ 9223372036854775807 < y.size + (P.size + 2 + Q.size) := by omega
        have y4 : ¬ 9223372036854775807 < y.size + (P.size + 2 + Q.size) + 13 := by omega
        have y5 : ¬ 9223372036854775807 < y.size + (P.size + 2 + Q.size) + 13 + 1 := by omega
        have y6 : ¬ 9223372036854775807 < y.size + (P.size + 2 + Q.size) + 1 := by omega
        clear hc hx p1 p2 hh hy
        go_wp2_with fail
        refine (unhide HSA _).mono ?_
        rintro e w3 ⟨rfl, hb3⟩
        have hB3 := (unhide HB).trans (hb3.mono (unhide HB).size)
        obtain ⟨k2, _⟩ := unhide HKP _ hB3
        have HB3 := hide hB3
        clear hb3 hB3
        go_wp2_with fail
        refine (unhide HSB _).mono ?_
        rintro e w4 ⟨rfl, hb4⟩
        have hB4 := (unhide HB3).trans (hb4.mono (unhide HB3).size)
        obtain ⟨_, k3⟩ := unhide HKP _ hB4
        have HB4 := hide hB4
        clear hb4 hB4 k2 HKP
        cases x3 with
        | true =>
          have HTY : Hid (y ++ (P ++ ⟨#[59, 32]⟩ ++ Q) ++ bestN ++ ⟨#[10]⟩ = textM l (i + 1)) := by
            show _ = _
            rw [unhide HTX]
            simp only [if_true, app_assoc]
          go_wp2
          go_roundw
          case rel => exact ⟨i + 1, by omega, by go_num, by rw [← unhide HTY], unhide HB4⟩
          case measure => simp [RowKit.intOf]; omega
        | false =>
          have HTY : Hid (y ++ (P ++ ⟨#[59, 32]⟩ ++ Q) ++ ⟨#[10]⟩ = textM l (i + 1)) := by
            show _ = _
            rw [unhide HTX]
            simp only [Bool.false_eq_true, if_false, app_assoc]
          go_wp2
          go_roundw
          case rel => exact ⟨i + 1, by omega, by go_num, by rw [← unhide HTY], unhide HB4⟩
          case measure => simp [RowKit.intOf]; omega
      · obtain rfl : i = n := by omega
        go_wp2
        go_ret2
        rw [unhide HPE]
        exact ⟨rfl, unhide HB⟩
  · have dk : (cc != 0) = true := by simpa using hc0
    have dk' : (cc == 0) = false := by simpa using hc0
    have hpr := unhide HPR
    rw [if_neg hc0] at hpr
    have HPE := hide hpr
    clear hpr HPR HPT hc0
    go_enter Tryz.func21, Tryz.ntmps21
    go_wp2_with (go_at_call 19; with_reducible refine (unhide HC).mono ?_; rintro e w1 ⟨rfl, hb1⟩)
    go_ret2
    rw [unhide HPE]
    exact ⟨rfl, hb1⟩
end Go.Proofs.YtnabbahdmajfpaaGreatDoor
