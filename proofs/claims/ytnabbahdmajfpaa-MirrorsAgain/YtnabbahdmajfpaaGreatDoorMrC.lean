/-
  Check of package mirrors, for every list.
-/
import Derived.Test.YtnabbahdmajfpaaGreatDoorMrA
namespace Go.Proofs.YtnabbahdmajfpaaGreatDoor
open Go.RowKit Go.PlainAid Go.Maps
set_option linter.unusedVariables false
set_option linter.unusedSimpArgs false

def MirOk (x : MirD) : Prop := i32OkM x.frm ∧ i32OkM x.to
theorem MBox.cells {w : World} {b : Nat} {x : MirD} (h : w.heap[b]? = some (.cells #[.int .i64 x.line, .int .i32 x.frm, .int .i32 x.to, .bool x.best] 27 (0, 0))) :
    w.cell? ⟨b, 0, none⟩ = some (.int .i64 x.line) ∧ w.cell? ⟨b, 1, none⟩ = some (.int .i32 x.frm) ∧ w.cell? ⟨b, 2, none⟩ = some (.int .i32 x.to) ∧ w.cell? ⟨b, 3, none⟩ = some (.bool x.best) := by
  simp [World.cell?, h]
theorem wrong_why {l : List MirD} {i : Nat} {x : MirD} (hx : l[i]? = some x) (h : whyM x ≠ 0) : wrongM l i = whyM x := by
  unfold wrongM; rw [getD_at hx, if_pos h]
theorem wrong_no {l : List MirD} {i : Nat} {x : MirD} (hx : l[i]? = some x) (h : whyM x = 0) : wrongM l i = if againM l i then 92 else 0 := by
  unfold wrongM; rw [getD_at hx, if_neg (by simp [h])]

set_option maxRecDepth 100000 in
set_option maxHeartbeats 4000000 in
theorem check9_any (l : List MirD) (a : Option Addr) (n c : Nat) (w : World) (hn : l.length = n) (hnb : n ≤ 1099511627776) (hok : ∀ x ∈ l, MirOk x) (hm : MrMem w a l) :
    Calls Tryz.prog 18 #[.slice a n c] w fun e w' => e = .returned (.tuple #[.int .i64 ((chkM l).1 : Nat), .int .i64 (chkM l).2]) ∧ Below w.heap.size w w' := by
  have HN := hideM hn
  have HM := hideM hm
  have HOK := hideM hok
  have HFI := hideM (finder_any l a n c w hn hnb (fun x hx => (hok x hx).1) hm)
  clear hn hm hok
  go_enter Tryz.func18, Tryz.ntmps18
  go_wp2_with (go_at_call 36; refine (unhideM HFI).mono ?_; rintro e w1 ⟨pb, rfl, hfa, hpb, hb1⟩)
  clear HFI
  have HFA := hideM hfa
  have HFD := hideM (fun (V : World) (hb : Below w1.heap.size w1 V) (r : Int) (hr : i32OkM r) => find1_any l pb r hr V ((unhideM HFA).below hb))
  clear hfa HFA
  go_loopw [18] (fun v18 wr => ∃ (i : Nat), v18 = .int .i64 i ∧ i ≤ n ∧ Hid (∀ k, k < i → wrongM l k = 0) ∧ Below w1.heap.size w1 wr) (fun v18 _ => n - (RowKit.intOf v18).toNat)
  case atStart => exact ⟨0, rfl, Nat.zero_le _, fun k hk => by omega, Below.refl _ _⟩
  case round =>
    obtain ⟨i, rfl, hi, HW, hB⟩ := hrel
    have hBw : Below w.heap.size w wr := hb1.trans (hB.mono hb1.size)
    by_cases hlt : i < n
    · obtain ⟨x, hx⟩ : ∃ x, l[i]? = some x := ⟨_, List.getElem?_eq_getElem (by rw [unhideM HN]; exact hlt)⟩
      obtain ⟨g, off, rfl, hc⟩ := ((unhideM HM).below hBw) i x hx
      have cx0 := hc 0 _ rfl
      have cx1 := hc 1 _ rfl
      have cx2 := hc 2 _ rfl
      have cx3 := hc 3 _ rfl
      simp only [Nat.add_zero] at cx0
      have hlt' : (i : Int) < (n : Int) := by omega
      have hq1 : IntKind.i64.wrap ((i : Int) + 1) = (i : Int) + 1 := by rw [IntKind.wrap_i64]; omega
      have hxo : MirOk x := unhideM HOK x (List.mem_of_getElem? hx)
      obtain ⟨V, hV⟩ : ∃ V, wr.alloc (.cells #[.int .i64 x.line, .int .i32 x.frm, .int .i32 x.to, .bool x.best] 27) = V := ⟨_, rfl⟩
      have hVb : Below wr.heap.size wr V := by rw [← hV]; exact (Below.refl _ wr).alloc (Nat.le_refl _) _
      have vM : V.heap[wr.heap.size]? = some (.cells #[.int .i64 x.line, .int .i32 x.frm, .int .i32 x.to, .bool x.best] 27 (0, 0)) := by rw [← hV]; exact heap_alloc_new wr _
      obtain ⟨v0, v1, v2, v3⟩ := MBox.cells vM
      have HVM := hideM vM
      have HWH := hideM (whyWrongM_any x V)
      have HB := hideM (⟨hB.trans (hVb.mono hB.size), hBw.trans (hVb.mono hBw.size)⟩ : Below w1.heap.size w1 V ∧ Below w.heap.size w V)
      have HLT : Hid (i < l.length) := by show _ < _; rw [unhideM HN]; exact hlt
      by_cases hy : whyM x = 0
      · obtain ⟨k, hk, hki, hag⟩ := again_idx hx
        have HWN := hideM (wrong_no hx hy)
        rw [hag] at HWN
        have hfd := fun V hb => unhideM HFD V hb x.frm hxo.1
        rw [hk] at hfd
        simp only [Option.getD_some, Option.isSome_some] at hfd
        have HFX := hideM hfd
        rw [hy] at HWH
        have HR2 : Hid (∀ w2, Below V.heap.size V w2 → w2.cell? ⟨wr.heap.size, 1, none⟩ = some (.int .i32 x.frm) ∧ Below w1.heap.size w1 w2 ∧ Below w.heap.size w w2) := fun w2 hb2 =>
          ⟨(MBox.cells ((hb2.block _ (Array.getElem?_eq_some_iff.1 (unhideM HVM)).1).trans (unhideM HVM))).2.1, (unhideM HB).1.trans (hb2.mono (unhideM HB).1.size), (unhideM HB).2.trans (hb2.mono (unhideM HB).2.size)⟩
        clear hc hx hag hfd hy hxo hVb vM hB hBw hk
        by_cases hka : k < i
        · have hka' : (k : Int) < (i : Int) := by omega
          have HE : Hid (chkM l = (i, 92)) := by
            have e := unhideM HWN
            rw [decide_eq_true hka] at e
            have := chk_wrong (unhideM HLT) (unhideM HW) (by rw [e]; decide)
            rwa [e] at this
          clear HWN HW
          go_wp2_with (first | (go_at_call 37; with_reducible refine (unhideM HWH).mono ?_; rintro e w2 ⟨rfl, hb2⟩; obtain ⟨q1, hbq, hbw⟩ := unhideM HR2 _ hb2) | (with_reducible refine (unhideM HFX _ hbq).mono ?_; rintro e w3 ⟨rfl, rfl⟩))
          go_ret2
          exact ⟨by rw [unhideM HE]; rfl, hbw⟩
        · have hka' : ¬ (k : Int) < (i : Int) := by omega
          have HW2 : Hid (∀ k, k < i + 1 → wrongM l k = 0) := fun j hj => by
            by_cases h : j < i
            · exact unhideM HW j h
            · obtain rfl : j = i := by omega
              have e := unhideM HWN
              rw [decide_eq_false hka] at e
              exact e
          clear HWN HW
          go_wp2_with (first | (go_at_call 37; with_reducible refine (unhideM HWH).mono ?_; rintro e w2 ⟨rfl, hb2⟩; obtain ⟨q1, hbq, hbw⟩ := unhideM HR2 _ hb2) | (with_reducible refine (unhideM HFX _ hbq).mono ?_; rintro e w3 ⟨rfl, rfl⟩))
          go_roundw
          case rel => exact ⟨i + 1, by go_num, by omega, HW2, hbq⟩
          case measure => simp [RowKit.intOf]; omega
      · have HE := hideM (chk_wrong (unhideM HLT) (unhideM HW) (by rw [wrong_why hx hy]; exact hy))
        rw [wrong_why hx hy] at HE
        generalize whyM x = y at *
        have dy : (y != 0) = true := by simpa using hy
        have dy' : (y == 0) = false := by simpa using hy
        clear hc hx hy hxo hVb vM hB hBw HW
        go_wp2_with (go_at_call 37; with_reducible refine (unhideM HWH).mono ?_; rintro e w2 ⟨rfl, hb2⟩)
        go_ret2
        exact ⟨by rw [unhideM HE]; rfl, (unhideM HB).2.trans (hb2.mono (unhideM HB).2.size)⟩
    · obtain rfl : i = n := by omega
      have HWA : Hid (∀ k, k < l.length → wrongM l k = 0) := by show ∀ _, _; rw [unhideM HN]; exact unhideM HW
      clear HW
      go_wp2
      go_loopw [43] (fun v43 wr => ∃ (j : Nat), v43 = .int .i64 j ∧ j ≤ i ∧ Hid (∀ k, k < j → twistM l k = 0) ∧ Below w1.heap.size w1 wr) (fun v43 _ => i - (RowKit.intOf v43).toNat)
      case atStart => exact ⟨0, rfl, Nat.zero_le _, fun k hk => by omega, hB⟩
      case round =>
        clear hBw hB
        obtain ⟨j, rfl, hj, HT, hB⟩ := hrel
        have hBw : Below w.heap.size w wr := hb1.trans (hB.mono hb1.size)
        by_cases hlt : j < i
        · obtain ⟨x, hx⟩ : ∃ x, l[j]? = some x := ⟨_, List.getElem?_eq_getElem (by rw [unhideM HN]; exact hlt)⟩
          obtain ⟨g, off, rfl, hc⟩ := ((unhideM HM).below hBw) j x hx
          have cx0 := hc 0 _ rfl
          have cx1 := hc 1 _ rfl
          have cx2 := hc 2 _ rfl
          have cx3 := hc 3 _ rfl
          simp only [Nat.add_zero] at cx0
          have hlt' : (j : Int) < (i : Int) := by omega
          have hq1 : IntKind.i64.wrap ((j : Int) + 1) = (j : Int) + 1 := by rw [IntKind.wrap_i64]; omega
          have hxo : MirOk x := unhideM HOK x (List.mem_of_getElem? hx)
          obtain ⟨V, hV⟩ : ∃ V, wr.alloc (.cells #[.int .i64 x.line, .int .i32 x.frm, .int .i32 x.to, .bool x.best] 27) = V := ⟨_, rfl⟩
          have hVb : Below wr.heap.size wr V := by rw [← hV]; exact (Below.refl _ wr).alloc (Nat.le_refl _) _
          have vM : V.heap[wr.heap.size]? = some (.cells #[.int .i64 x.line, .int .i32 x.frm, .int .i32 x.to, .bool x.best] 27 (0, 0)) := by rw [← hV]; exact heap_alloc_new wr _
          obtain ⟨v0, v1, v2, v3⟩ := MBox.cells vM
          have hbq : Below w1.heap.size w1 V := hB.trans (hVb.mono hB.size)
          have hbw : Below w.heap.size w V := hBw.trans (hVb.mono hBw.size)
          have HLT : Hid (j < l.length) := by show _ < _; rw [unhideM HN]; exact hlt
          have hbk := back_idx (unhideM HWA) hx
          have hfd := unhideM HFD V hbq x.to hxo.2
          have HTW : Hid (twistM l j = if backM l j then 0 else 90) := rfl
          have HTY : Hid (twistM l j = 0 → ∀ k, k < j + 1 → twistM l k = 0) := fun h0 k hk => by
            by_cases h : k < j
            · exact unhideM HT k h
            · obtain rfl : k = j := by omega
              exact h0
          have HTN : Hid (twistM l j ≠ 0 → chkM l = (j, 90)) := fun h => chk_twist (unhideM HWA) (unhideM HLT) (unhideM HT) h
          cases hk : idxM l x.to with
          | none =>
            rw [hk] at hbk hfd
            simp only [Option.getD_none, Option.isSome_none] at hfd
            have HE : Hid (chkM l = (j, 90)) := unhideM HTN (by rw [unhideM HTW, hbk]; simp)
            have HFX := hideM hfd
            clear hc hx hfd hbk hk HTW HTY HTN HT hxo vM hVb hB hBw
            go_wp2_with (with_reducible refine (unhideM HFX).mono ?_; rintro e w3 ⟨rfl, rfl⟩)
            go_quiet (fail)
            all_goals go_wp2
            all_goals go_ret2
            all_goals exact ⟨by rw [unhideM HE]; rfl, below_drewN hbw _⟩
          | some b =>
            obtain ⟨z, hz, _, _⟩ := idx_some hk
            have hbl := idx_lt hk
            rw [hk] at hbk hfd
            have hbk' : backM l j = decide ((l.getD b zeroM).to = x.frm) := hbk
            rw [getD_at hz] at hbk'
            simp only [Option.getD_some, Option.isSome_some] at hfd
            obtain ⟨g', off', eg, hc'⟩ := ((unhideM HM).below hbw) b z hz
            simp only [Option.some.injEq, Addr.mk.injEq, and_true] at eg
            obtain ⟨rfl, rfl⟩ := eg
            have cz2 := hc' 2 _ rfl
            have hbi : b < i := by rw [← unhideM HN]; exact hbl
            have hbi' : (b : Int) < (i : Int) := by omega
            have HFX := hideM hfd
            by_cases ht : z.to = x.frm
            · have HT2 := hideM (unhideM HTY (by rw [unhideM HTW, hbk', decide_eq_true ht]; rfl))
              have dt : (z.to != x.frm) = false := by simpa using ht
              have dt' : (z.to == x.frm) = true := by simpa using ht
              clear hc hc' hx hfd hbk hbk' hk HTW HTY HTN HT hxo vM hVb hB hBw ht hz hbl
              go_wp2_with (with_reducible refine (unhideM HFX).mono ?_; rintro e w3 ⟨rfl, rfl⟩)
              go_quiet (fail)
              all_goals go_wp2
              go_roundw
              case rel => exact ⟨j + 1, by go_num, by omega, HT2, below_drewN hbq _⟩
              case measure => simp [RowKit.intOf]; omega
            · have HE : Hid (chkM l = (j, 90)) := unhideM HTN (by rw [unhideM HTW, hbk', decide_eq_false ht]; decide)
              have dt : (z.to != x.frm) = true := by simpa using ht
              have dt' : (z.to == x.frm) = false := by simpa using ht
              clear hc hc' hx hfd hbk hbk' hk HTW HTY HTN HT hxo vM hVb hB hBw ht hz hbl
              go_wp2_with (with_reducible refine (unhideM HFX).mono ?_; rintro e w3 ⟨rfl, rfl⟩)
              go_quiet (fail)
              all_goals go_wp2
              all_goals go_ret2
              all_goals exact ⟨by rw [unhideM HE]; rfl, below_drewN hbw _⟩
        · obtain rfl : j = i := by omega
          have HE : Hid (chkM l = (0, 0)) := chk_ok (unhideM HWA) (by rw [unhideM HN]; exact unhideM HT)
          clear HT
          go_wp2
          go_ret2
          exact ⟨by rw [unhideM HE]; rfl, hBw⟩
end Go.Proofs.YtnabbahdmajfpaaGreatDoor
