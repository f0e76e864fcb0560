/-
  LinesThere: places lead there and back, and rise, for every text; the listed variables of Go's library hold what its text lays.
-/
import Derived.Test.YtlaennakglhmjaaDoorRThM
import Derived.Test.YtlaennakglhmjaaDoorLUpto
namespace Go.Proofs.YtlaennakglhmjaaDoor
open Go.RowKit Go.PlainAid Go.Lib Go.Shelf
set_option linter.unusedVariables false

theorem infoBool : (Tryd.prog.info? 4).map (fun i => (i.zero, i.size, i.bytes)) = some (some (.bool false), 1, 1) := by kernel_rfl
/-- the law's list of bools: true only where a column begins -/
def BR (s : ByteArray) (B g n : Nat) (W : World) : Prop := ∃ xs : List Value, W.ownsRow B 4 1 (.slice (some ⟨g, 0, none⟩) n n) n xs ∧ ∀ (i : Nat) (v : Value), xs[i]? = some v → ∃ b, v = .bool b ∧ (b = true → BeginsAt s i)
theorem BR.at {s : ByteArray} {B g n : Nat} {W : World} (h : BR s B g n W) (i : Nat) (hi : i < n) : ∃ b, W.cell? ⟨g, i, none⟩ = some (.bool b) ∧ W.frozen? ⟨g, i, none⟩ = false ∧ (b = true → BeginsAt s i) := by
  obtain ⟨xs, h1, h2⟩ := h
  obtain ⟨v, hv⟩ : ∃ v, xs[i]? = some v := ⟨_, List.getElem?_eq_getElem (by have := h1.1; omega)⟩
  obtain ⟨b, rfl, hb⟩ := h2 i v hv
  exact ⟨b, (h1.cellAt i (by omega)).trans hv, h1.frozenAt i, hb⟩
theorem BR.set {s : ByteArray} {B g n : Nat} {W : World} (h : BR s B g n W) (i : Nat) (hb : BeginsAt s i) : BR s B g n (W.setCell ⟨g, i, none⟩ (.bool true)) := by
  obtain ⟨xs, h1, h2⟩ := h
  refine ⟨_, (h1.stored i (.bool true)).1, fun j v hj => ?_⟩
  by_cases hij : j = i
  · subst hij
    rcases Nat.lt_or_ge j xs.length with hl | hl
    · rw [List.getElem?_set_self hl] at hj
      exact ⟨true, (Option.some.inj hj).symm, fun _ => hb⟩
    · rw [List.set_eq_of_length_le hl] at hj
      exact h2 j v hj
  · rw [List.getElem?_set_ne (by omega)] at hj
    exact h2 j v hj
theorem BR.below {s : ByteArray} {B g n : Nat} {W W' : World} (h : BR s B g n W) (hb : Below W.heap.size W W') : BR s B g n W' := by
  obtain ⟨xs, h1, h2⟩ := h
  exact ⟨xs, rowB h1 hb, h2⟩
theorem BR.ge {s : ByteArray} {B g n : Nat} {W : World} (h : BR s B g n W) : B ≤ g ∧ g < W.heap.size := by
  obtain ⟨xs, h1, _⟩ := h
  exact h1.lt g rfl
/-- all that was there stays, the list aside -/
def Kb (g : Nat) (A W : World) : Prop := A.heap.size ≤ W.heap.size ∧ ∀ k, k < A.heap.size → k ≠ g → W.heap[k]? = A.heap[k]?
theorem Kb.refl (g : Nat) (A : World) : Kb g A A := ⟨Nat.le_refl _, fun _ _ _ => rfl⟩
theorem Kb.below {g : Nat} {A W W' : World} (h : Kb g A W) (hb : Below W.heap.size W W') : Kb g A W' := ⟨Nat.le_trans h.1 hb.size, fun k hk hne => (hb.block k (Nat.lt_of_lt_of_le hk h.1)).trans (h.2 k hk hne)⟩
theorem Kb.set {g : Nat} {A W : World} (h : Kb g A W) (i : Nat) (v : Value) : Kb g A (W.setCell ⟨g, i, none⟩ v) := ⟨by simpa using h.1, fun k hk hne => (heap_setCell_other _ _ _ _ hne).trans (h.2 k hk hne)⟩
theorem Kb.trans {g : Nat} {A W U : World} (h : Kb g A W) (k : Kb g W U) : Kb g A U := ⟨Nat.le_trans h.1 k.1, fun j hj hne => (k.2 j (Nat.lt_of_lt_of_le hj h.1) hne).trans (h.2 j hj hne)⟩
theorem Kb.cell {g : Nat} {A W : World} (h : Kb g A W) {b o : Nat} {v : Value} (hb : b ≠ g) (hc : A.cell? ⟨b, o, none⟩ = some v) : W.cell? ⟨b, o, none⟩ = some v := by
  have hlt : b < A.heap.size := by
    refine Decidable.byContradiction fun hn => ?_
    have : A.heap[b]? = none := Array.getElem?_eq_none (by omega)
    simp [World.cell?, this] at hc
  simpa [World.cell?, h.2 b hlt hb] using hc

set_option maxRecDepth 100000 in
set_option maxHeartbeats 4000000 in
theorem there_any (s : ByteArray) (w : World) (hg : errTypeAt w) (hs : s.size ≤ 9223372036854775807) :
    Calls Tryd.prog 10 #[.string s] w fun e w' => e = .returned (.bool true) ∧ Below w.heap.size w w' := by
  have HAW := hide (awake_any w hg)
  by_cases hbig : 2000 < s.size
  · have d1 : decide ((2000 : Int) < (s.size : Int)) = true := decide_eq_true (by omega)
    have d1' : (2000 : Int) < (s.size : Int) := by omega
    go_enter Tryd.func10, Tryd.ntmps10
    go_wp2_with (go_at_call 13; refine (unhide HAW).mono ?_; rintro e w1 ⟨rfl, hb1⟩)
    go_ret
    exact ⟨rfl, hb1⟩
  · have d1 : decide ((2000 : Int) < (s.size : Int)) = false := decide_eq_false (by omega)
    have d1' : ¬ (2000 : Int) < (s.size : Int) := by omega
    have hs2 : s.size ≤ 2000 := by omega
    obtain ⟨i0, hi0, hz0, hz1, hz2⟩ := info_parts infoBool
    have HPI := hide (fun w => refPieces_any s w (by omega))
    have hll := lines_len s
    go_enter Tryd.func10, Tryd.ntmps10
    go_wp2_with fail
    refine (unhide HAW).mono ?_
    rintro e w1 ⟨rfl, hb1⟩
    obtain ⟨w2, hmk, hown, hgr⟩ := run_make_full (P := Tryd.prog) w1 w.heap.size 59 4 i0 (.bool false) 1 Tryd.underlying59 hi0 hz0 hz1 .i64 .i64 (s.size + 1) (by rw [hz2]; omega) (by unfold maxLen; omega) hb1.size
    have hmk' : (Instr.makeSlice 59 (.int .i64 ((s.size : Int) + 1)) (.int .i64 ((s.size : Int) + 1))).run Tryd.prog w1 = .ok (.slice (some ⟨w1.heap.size, 0, none⟩) (s.size + 1) (s.size + 1)) w2 := hmk
    have hBR : BR s w.heap.size w1.heap.size (s.size + 1) w2 := by
      refine ⟨_, hown, fun i v hv => ?_⟩
      have := List.mem_of_getElem? hv
      have he : v = .bool false := by
        rw [show (Value.bool false).cells = #[.bool false] from rfl, toList_madeCells_one] at this
        exact List.eq_of_mem_replicate this
      exact ⟨false, he, fun h => by cases h⟩
    have hB2 : Below w.heap.size w w2 := hb1.grown hgr hb1.size (fun k e => by cases e)
    clear hmk hown hgr
    generalize w1.heap.size = g at *
    obtain ⟨b0, t0, u0, -⟩ := hBR.at s.size (by omega)
    have hBR2 := hBR.set s.size (begins_end s)
    have hB3 : Below w.heap.size w (w2.setCell ⟨g, s.size, none⟩ (.bool true)) := hB2.setCell (p := ⟨g, s.size, none⟩) hBR.ge.1 _
    obtain ⟨W3, hW3⟩ : ∃ W3, w2.setCell ⟨g, s.size, none⟩ (.bool true) = W3 := ⟨_, rfl⟩
    rw [hW3] at hBR2 hB3
    go_wp2_with fail
    refine (unhide HPI _).mono ?_
    rintro e w4 ⟨vp, rfl, hrow, hb4⟩
    have hpne : ∀ g', vp.ownBlock = some g' → g' ≠ g := fun g' e => by have := (World.ownsRow.lt hrow g' e).1; have := hBR2.ge.2; omega
    obtain ⟨pa, pc, rfl, hpat⟩ := pi_row hrow
    have hBR4 := hBR2.below hb4
    have hB4 : Below w.heap.size w w4 := hB3.trans (hb4.mono hB3.size)
    obtain ⟨N, hN⟩ : ∃ N, (linesL s).length = N := ⟨_, rfl⟩
    rw [hN] at hll hpne
    rw [hN]
    have HPA := hide hpat
    have HN := hide hN
    have HNE := hide hpne
    have hgl : w.heap.size ≤ g := hBR.ge.1
    clear hN hpat hpne hrow hb4 hBR2 hW3 hB2 hBR t0 u0 hb1 hmk' hB3
    go_wp2
    go_loopw [31] (fun v31 wr => ∃ j : Nat, v31 = .int .i64 (j : Nat) ∧ j ≤ N ∧ BR s w.heap.size g (s.size + 1) wr ∧ Kb g w4 wr ∧ Below w.heap.size w wr) (fun v31 _ => N - (RowKit.intOf v31).toNat)
    case atStart => exact ⟨0, rfl, Nat.zero_le _, hBR4, Kb.refl _ _, hB4⟩
    case round =>
      clear hBR4 hB4
      obtain ⟨j, rfl, hj, hbr, hkb, hB⟩ := hrel
      by_cases hlt : j < N
      · obtain ⟨x, hx⟩ : ∃ x, (linesL s)[j]? = some x := ⟨_, List.getElem?_eq_getElem (by rw [unhide HN]; exact hlt)⟩
        have hxm : x ∈ extsL s := (List.takeWhile_sublist _).subset (List.mem_of_getElem? hx)
        have hme := exts_mem s x hxm
        obtain ⟨gp, rfl, p0, p1, p2⟩ := unhide HPA j x hx
        have hgp : gp ≠ g := unhide HNE gp rfl
        obtain ⟨EX, EF, ET⟩ := x
        simp only [] at p0 p1 p2 hme
        have c0 := hkb.cell hgp p0
        have c1 := hkb.cell hgp p1
        have c2 := hkb.cell hgp p2
        generalize endNext s EF = NX at *
        have hEl : (EF : Int) ≤ (ET : Int) := by omega
        have hEs : (ET : Int) ≤ (s.size : Int) := by omega
        have hxs : (s.extract EF ET).size = ET - EF := by rw [← L_len, L_extract, List.length_take, List.length_drop, L_len]; omega
        have HCN := hide (fun (k y : Nat) => cols_at EF ET (plF (s.extract EF ET) 0) 1 k)
        have HMEM : Hid (∀ (y : Nat × Nat), y ∈ colsL s EF ET → BeginsAt s y.2) := fun y hy => ⟨_, hxm, y, hy, rfl⟩
        have HCH := hide (fun w => refChars_any (s.extract EF ET) w (by omega))
        have hpl := plF_len (s.extract EF ET)
        have HCL : Hid (colsL s EF ET = colsF EF ET 1 (plF (s.extract EF ET) 0)) := rfl
        obtain ⟨X, hX⟩ : ∃ X, s.extract EF ET = X := ⟨_, rfl⟩
        rw [hX] at hxs HCN HCH hpl HCL
        clear p0 p1 p2 hx hxm
        obtain ⟨wo, hwo⟩ : ∃ wo : World, wo = wr := ⟨_, rfl⟩
        subst hwo
        go_wp2_with fail
        refine (unhide HCH _).mono ?_
        rintro e w5 ⟨vc, rfl, hrowc, hb5⟩
        have hA : Below wo.heap.size wo (wo.alloc (.cells #[.int .i64 (EF : Nat), .int .i64 (ET : Nat), .int .i64 (NX : Nat)] 61)) := (Below.refl _ _).alloc (Nat.le_refl _) _
        have hbx : w5.heap[wo.heap.size]? = some (.cells #[.int .i64 (EF : Nat), .int .i64 (ET : Nat), .int .i64 (NX : Nat)] 61) := (hb5.block _ (by simp)).trans (heap_alloc_new wo _)
        have hbr5 := (hbr.below hA).below hb5
        have hkb5 := (hkb.below hA).below hb5
        have hB5 : Below w.heap.size w w5 := (hB.trans (hA.mono hB.size)).trans (hb5.mono (by have := hB.size; simp; omega))
        have hbg : wo.heap.size ≠ g := by have := hbr.ge.2; omega
        have hcne : ∀ g', vc.ownBlock = some g' → g' ≠ g := fun g' e => by have h1 := (World.ownsRow.lt hrowc g' e).1; simp only [World.size_alloc] at h1; have h2 := hbr.ge.2; omega
        obtain ⟨ca, cc, rfl, -, hcat⟩ := cc_row hrowc
        obtain ⟨n, hn⟩ : ∃ n, (plF X 0).length = n := ⟨_, rfl⟩
        rw [hn] at hpl hcne
        rw [hn]
        have HCA := hide hcat
        have HNN := hide hn
        have HCE := hide hcne
        have HBX := hide hbx
        have hb5l : wo.heap.size < w5.heap.size := (Array.getElem?_eq_some_iff.1 hbx).1
        clear hn hcat hcne hrowc hbx hb5 hA hbr hkb hB c0 c1 c2
        generalize wo.heap.size = b5 at *
        go_wp2
        go_loopw [43] (fun v43 U => ∃ k : Nat, v43 = .int .i64 (k : Nat) ∧ k ≤ n ∧ BR s w.heap.size g (s.size + 1) U ∧ Kb g w5 U ∧ Below w.heap.size w U) (fun v43 _ => n - (RowKit.intOf v43).toNat)
        case atStart => exact ⟨0, rfl, Nat.zero_le _, hbr5, Kb.refl _ _, hB5⟩
        case round =>
          clear hbr5 hB5
          obtain ⟨k, rfl, hk, hbr, hkb, hB⟩ := hrel
          have hbx : wr.heap[b5]? = some (.cells #[.int .i64 (EF : Nat), .int .i64 (ET : Nat), .int .i64 (NX : Nat)] 61) := (hkb.2 b5 hb5l hbg).trans (unhide HBX)
          obtain ⟨z0, z1, z2⟩ := box3 hbx
          by_cases hlt2 : k < n
          · obtain ⟨y, hy⟩ : ∃ y, (plF X 0)[k]? = some y := ⟨_, List.getElem?_eq_getElem (by rw [unhide HNN]; exact hlt2)⟩
            obtain ⟨gc, rfl, y0, y1, y2, y3⟩ := unhide HCA k y hy
            have hgc := unhide HCE gc rfl
            have c0 := hkb.cell hgc y0
            have c1 := hkb.cell hgc y1
            have c2 := hkb.cell hgc y2
            have c3 := hkb.cell hgc y3
            have hyl := plF_up X k y hy
            have hbeg : BeginsAt s (EF + y) := by
              have h1 := unhide HCN k y
              have h2 := List.getElem?_eq_some_iff.1 hy
              rw [dif_pos h2.1, h2.2] at h1
              exact HMEM.out (1 + k, EF + y) (by rw [HCL.out]; exact List.mem_of_getElem? h1)
            have hix : ((EF : Int) + (y : Int)).toNat = EF + y := by omega
            have hil : EF + y < s.size + 1 := by omega
            obtain ⟨bb, t0, u0, -⟩ := hbr.at (EF + y) hil
            have gz := fun o => (box3 ((Below.heap_alloc wr o b5 (Array.getElem?_eq_some_iff.1 hbx).1).trans hbx)).1
            have hal : ∀ o, Below wr.heap.size wr (wr.alloc o) := fun o => (Below.refl _ _).alloc (Nat.le_refl _) _
            have hglt := hbr.ge.2
            have t1 : ∀ o, (wr.alloc o).cell? ⟨g, EF + y, none⟩ = some (.bool bb) := fun o => ((hal o).cell (p := ⟨g, EF + y, none⟩) hglt).trans t0
            have u1 : ∀ o, (wr.alloc o).frozen? ⟨g, EF + y, none⟩ = false := fun o => by
              obtain ⟨xs, q1, _⟩ := hbr.below (hal o)
              exact q1.frozenAt _
            have hal2 : ∀ o, Below (wr.setCell ⟨g, EF + y, none⟩ (.bool true)).heap.size (wr.setCell ⟨g, EF + y, none⟩ (.bool true)) ((wr.setCell ⟨g, EF + y, none⟩ (.bool true)).alloc o) := fun o => (Below.refl _ _).alloc (Nat.le_refl _) _
            have FIN := hide (fun o => (⟨(hbr.set (EF + y) hbeg).below (hal2 o), (hkb.set (EF + y) (.bool true)).below (hal2 o), (hB.setCell (p := ⟨g, EF + y, none⟩) hgl (.bool true)).trans ((hal2 o).mono (by have := hB.size; simpa using this))⟩ : BR s w.heap.size g (s.size + 1) ((wr.setCell ⟨g, EF + y, none⟩ (.bool true)).alloc o) ∧ Kb g w5 ((wr.setCell ⟨g, EF + y, none⟩ (.bool true)).alloc o) ∧ Below w.heap.size w ((wr.setCell ⟨g, EF + y, none⟩ (.bool true)).alloc o)))
            clear hal2
            clear hbr hkb hB hal hy y0 y1 y2 y3 hbeg hbx
            generalize (Utf8.decode X y).1 = R at *
            generalize (Utf8.decode X y).2 = Dw at *
            generalize isB X y = Ib at *
            go_wp2
            go_roundw
            case rel => exact ⟨k + 1, by go_num, by omega, (unhide FIN _).1, (unhide FIN _).2.1, (unhide FIN _).2.2⟩
            case measure => simp [RowKit.intOf]; omega
          · obtain rfl : k = n := by omega
            have hbeg : BeginsAt s ET := by
              have h1 := unhide HCN (plF X 0).length 0
              rw [dif_neg (by omega), if_pos rfl] at h1
              exact HMEM.out (1 + (plF X 0).length, ET) (by rw [HCL.out]; exact List.mem_of_getElem? h1)
            have hil : ET < s.size + 1 := by omega
            obtain ⟨bb, t0, u0, -⟩ := hbr.at ET hil
            have FIN := hide (⟨hbr.set ET hbeg, (hkb5.trans hkb).set ET (.bool true), hB.setCell (p := ⟨g, ET, none⟩) hgl (.bool true)⟩ : BR s w.heap.size g (s.size + 1) (wr.setCell ⟨g, ET, none⟩ (.bool true)) ∧ Kb g w4 (wr.setCell ⟨g, ET, none⟩ (.bool true)) ∧ Below w.heap.size w (wr.setCell ⟨g, ET, none⟩ (.bool true)))
            clear hbr hkb hB hbeg hbx
            go_wp2
            go_roundw
            case rel => exact ⟨j + 1, by go_num, by omega, (unhide FIN).1, (unhide FIN).2.1, (unhide FIN).2.2⟩
            case measure => simp [RowKit.intOf]; omega
      · obtain rfl : j = N := by omega
        have HWH := hide (fun (i : Nat) (W : World) (hi : i ≤ s.size) => where_any s (i : Nat) W (by omega) (by omega) (by omega))
        have HPL := hide (fun (l c : Int) (W : World) => place_any3 s l c W (by omega))
        have HMK := hide (fun W => (refMarked_any s W (by unfold maxLen; omega)).mono fun e w' (h : _ ∧ w' = W) => (⟨h.1, h.2.symm⟩ : _ ∧ W = w'))
        have HTH := hide (there s)
        have HUP := hide (fun (i : Nat) => where_up s i (i + 1) (by omega))
        have HPO := hide (where_pos s)
        obtain ⟨w9, hw9⟩ : ∃ w9 : World, w9 = wr := ⟨_, rfl⟩
        subst hw9
        generalize markN s = mk at *
        go_wp2
        go_loopw [8, 9, 10] (fun v8 v9 v10 W => ∃ (i pl pc : Nat), v10 = .int .i64 (i : Nat) ∧ v8 = .int .i64 (pl : Nat) ∧ v9 = .int .i64 (pc : Nat) ∧ i ≤ s.size + 1 ∧ Hid (i ≤ s.size → pl < (whereE s (i : Nat)).1 ∨ (pl = (whereE s (i : Nat)).1 ∧ pc ≤ whereC s (i : Nat))) ∧ Below w9.heap.size w9 W) (fun _ _ v10 _ => s.size + 1 - (RowKit.intOf v10).toNat)
        case atStart =>
          refine ⟨0, 1, 1, rfl, rfl, rfl, Nat.zero_le _, fun _ => ?_, Below.refl _ _⟩
          have := unhide HPO 0
          omega
        case round =>
          obtain ⟨i, pl, pc, rfl, rfl, rfl, hi, HV, hBl⟩ := hrel
          by_cases hlt3 : i ≤ s.size
          · have hle : (i : Int) ≤ (s.size : Int) := by omega
            obtain ⟨at', ha1, ha2, ha3⟩ := unhide HTH i hlt3
            have hv := HV.out hlt3
            have hpo := unhide HPO i
            have hup := unhide HUP i
            have HW := hide (fun W => unhide HWH i W hlt3)
            have HP := hide (fun W => unhide HPL ((whereE s (i : Nat)).1 : Nat) (whereC s (i : Nat) : Nat) W)
            rw [ha1] at HP
            clear ha1 HV
            have HUPI := hide hup
            clear hup
            generalize (whereE s ((i : Nat) : Int)).1 = LN at *
            generalize whereC s ((i : Nat) : Int) = CN at *
            go_wp2_with fail
            refine (unhide HW _).mono ?_
            rintro e W1 ⟨rfl, hb1⟩
            have e1 : decide ((LN : Int) < (pl : Int)) = false := decide_eq_false (by omega)
            have e1' : ¬ (LN : Int) < (pl : Int) := by omega
            have e2 : decide ((LN : Int) < 1) = false := decide_eq_false (by omega)
            have e2' : ¬ (LN : Int) < 1 := by omega
            have e3 : decide ((CN : Int) < 1) = false := decide_eq_false (by omega)
            have e3' : ¬ (CN : Int) < 1 := by omega
            by_cases heq : LN = pl
            · have e4 : ((LN : Int) == (pl : Int)) = true := by simp; omega
              have e5 : decide ((CN : Int) < (pc : Int)) = false := decide_eq_false (by omega)
              have e5' : ¬ (CN : Int) < (pc : Int) := by omega
              have HQ := hide heq
              clear heq
              go_wp2_with fail
              refine (unhide HP _).mono ?_
              rintro e W2 ⟨rfl, hb2⟩
              have hB2 : Below w9.heap.size w9 W2 := (hBl.trans (hb1.mono hBl.size)).trans (hb2.mono (Nat.le_trans hBl.size hb1.size))
              obtain ⟨bb, t0, u0, hbeg⟩ := (hbr.below hB2).at i (by omega)
              have HNXT : Hid (i + 1 ≤ s.size → LN < (whereE s ((i + 1 : Nat) : Int)).1 ∨ (LN = (whereE s ((i + 1 : Nat) : Int)).1 ∧ CN ≤ whereC s ((i + 1 : Nat) : Int))) := fun _ => unhide HUPI
              clear hb1 hb2 hBl
              have dA : bb = true → ((at' : Int) != (i : Int)) = false := fun h => by have := ha2 (hbeg h); subst this; simp
              by_cases hmk : mk ≤ i
              · have dm : decide ((mk : Int) ≤ (i : Int)) = true := decide_eq_true (by omega)
                have dm' : (mk : Int) ≤ (i : Int) := by omega
                have hai := ha3 hmk
                have dg : decide ((i : Int) < (at' : Int)) = false := decide_eq_false (by omega)
                have dg' : ¬ (i : Int) < (at' : Int) := by omega
                cases bb with
                | true =>
                  have dA' := dA rfl
                  clear dA hbeg ha2 ha3
                  go_wp2_with (go_at_call 31; refine (unhide HMK _).mono ?_; rintro e W3 ⟨rfl, rfl⟩)
                  go_roundw
                  case rel => exact ⟨i + 1, LN, CN, by go_num, rfl, rfl, by omega, HNXT, hB2⟩
                  case measure => simp [RowKit.intOf]; omega
                | false =>
                  clear dA hbeg ha2 ha3
                  go_wp2_with (go_at_call 31; refine (unhide HMK _).mono ?_; rintro e W3 ⟨rfl, rfl⟩)
                  go_roundw
                  case rel => exact ⟨i + 1, LN, CN, by go_num, rfl, rfl, by omega, HNXT, hB2⟩
                  case measure => simp [RowKit.intOf]; omega
              · have dm : decide ((mk : Int) ≤ (i : Int)) = false := decide_eq_false (by omega)
                have dm' : ¬ (mk : Int) ≤ (i : Int) := by omega
                cases bb with
                | true =>
                  have dA' := dA rfl
                  clear dA hbeg ha2 ha3
                  go_wp2_with (go_at_call 31; refine (unhide HMK _).mono ?_; rintro e W3 ⟨rfl, rfl⟩)
                  go_roundw
                  case rel => exact ⟨i + 1, LN, CN, by go_num, rfl, rfl, by omega, HNXT, hB2⟩
                  case measure => simp [RowKit.intOf]; omega
                | false =>
                  clear dA hbeg ha2 ha3
                  go_wp2_with (go_at_call 31; refine (unhide HMK _).mono ?_; rintro e W3 ⟨rfl, rfl⟩)
                  go_roundw
                  case rel => exact ⟨i + 1, LN, CN, by go_num, rfl, rfl, by omega, HNXT, hB2⟩
                  case measure => simp [RowKit.intOf]; omega
            · have e4 : ((LN : Int) == (pl : Int)) = false := by simp; omega
              go_wp2_with fail
              refine (unhide HP _).mono ?_
              rintro e W2 ⟨rfl, hb2⟩
              have hB2 : Below w9.heap.size w9 W2 := (hBl.trans (hb1.mono hBl.size)).trans (hb2.mono (Nat.le_trans hBl.size hb1.size))
              obtain ⟨bb, t0, u0, hbeg⟩ := (hbr.below hB2).at i (by omega)
              have HNXT : Hid (i + 1 ≤ s.size → LN < (whereE s ((i + 1 : Nat) : Int)).1 ∨ (LN = (whereE s ((i + 1 : Nat) : Int)).1 ∧ CN ≤ whereC s ((i + 1 : Nat) : Int))) := fun _ => unhide HUPI
              clear hb1 hb2 hBl
              have dA : bb = true → ((at' : Int) != (i : Int)) = false := fun h => by have := ha2 (hbeg h); subst this; simp
              by_cases hmk : mk ≤ i
              · have dm : decide ((mk : Int) ≤ (i : Int)) = true := decide_eq_true (by omega)
                have dm' : (mk : Int) ≤ (i : Int) := by omega
                have hai := ha3 hmk
                have dg : decide ((i : Int) < (at' : Int)) = false := decide_eq_false (by omega)
                have dg' : ¬ (i : Int) < (at' : Int) := by omega
                cases bb with
                | true =>
                  have dA' := dA rfl
                  clear dA hbeg ha2 ha3
                  go_wp2_with (go_at_call 31; refine (unhide HMK _).mono ?_; rintro e W3 ⟨rfl, rfl⟩)
                  go_roundw
                  case rel => exact ⟨i + 1, LN, CN, by go_num, rfl, rfl, by omega, HNXT, hB2⟩
                  case measure => simp [RowKit.intOf]; omega
                | false =>
                  clear dA hbeg ha2 ha3
                  go_wp2_with (go_at_call 31; refine (unhide HMK _).mono ?_; rintro e W3 ⟨rfl, rfl⟩)
                  go_roundw
                  case rel => exact ⟨i + 1, LN, CN, by go_num, rfl, rfl, by omega, HNXT, hB2⟩
                  case measure => simp [RowKit.intOf]; omega
              · have dm : decide ((mk : Int) ≤ (i : Int)) = false := decide_eq_false (by omega)
                have dm' : ¬ (mk : Int) ≤ (i : Int) := by omega
                cases bb with
                | true =>
                  have dA' := dA rfl
                  clear dA hbeg ha2 ha3
                  go_wp2_with (go_at_call 31; refine (unhide HMK _).mono ?_; rintro e W3 ⟨rfl, rfl⟩)
                  go_roundw
                  case rel => exact ⟨i + 1, LN, CN, by go_num, rfl, rfl, by omega, HNXT, hB2⟩
                  case measure => simp [RowKit.intOf]; omega
                | false =>
                  clear dA hbeg ha2 ha3
                  go_wp2_with (go_at_call 31; refine (unhide HMK _).mono ?_; rintro e W3 ⟨rfl, rfl⟩)
                  go_roundw
                  case rel => exact ⟨i + 1, LN, CN, by go_num, rfl, rfl, by omega, HNXT, hB2⟩
                  case measure => simp [RowKit.intOf]; omega
          · have hle : ¬ (i : Int) ≤ (s.size : Int) := by omega
            go_wp2
            go_ret
            exact ⟨rfl, hB.trans (hBl.mono hB.size)⟩
end Go.Proofs.YtlaennakglhmjaaDoor
namespace Go.Proofs.YtlaennakglhmjaaDoor.linesThere
open Go.ChangeShapes Go.WideShapes Go.ChangeAt Go.RowKit
open Go.ChangeMaps (open_string shut_string)
set_option linter.unusedVariables false
theorem walk (s : ByteArray) (w : World) (hg : errTypeAt w) (hs : s.size ≤ maxLen) :
    Calls Tryd.prog 10 #[.string s] w fun e w' => e = .returned (.bool true) ∧ Below w.heap.size w w' := there_any s w hg hs

theorem laidOut : laidOutB Tryd.prog = true := by kernel_rfl

set_option maxRecDepth 100000 in
theorem contract (H : Type) (enc : TypeId × Value → H) (W : World) (base : Nat) (args : Array Value) (ds gs : List (DataW H)) (before : List MemPlace)
    (hval : ∀ (j : Nat) t v, Tryd.f10.params[j]? = some t → args[j]? = some v → Value.okWide Tryd.prog W .any base t v)
    (hW : DataW.Whole enc Tryd.prog Tryd.f10.params.toList Rows.linesThereSpec.vars false W args.toList ds gs before) (hL : laidMetH Tryd.prog laid3 W) :
    Calls Tryd.prog 10 args W fun e W' => ∃ v, e = .returned v ∧ Rows.linesThereSpec.post enc Tryd.prog Tryd.f10 false true false false W args v W' := by
  have hW' := hW
  obtain ⟨p, q, hA0, hV, rfl, hfz, hnd⟩ := hW
  have hA : DataW.TrodAll enc Tryd.prog W 0 (fun _ => true) true Tryd.f10.params.toList args.toList ds p := hA0
  rw [Tryd.params10] at hA hval
  obtain ⟨v0, vs0, d0, ds0, p0, q0, hargs, rfl, rfl, h0, r0⟩ := trodAll_cons hA
  obtain ⟨rfl, rfl, rfl⟩ := trodAll_nil r0
  obtain rfl : args = #[v0] := by cases args; simp_all
  obtain ⟨rfl, rfl⟩ := trodVars_none hV
  obtain ⟨a0, rfl, rfl, rfl, w0⟩ := open_string Tryd.underlying9 (hval 0 9 v0 rfl rfl) h0
  clear hA0
  have hwk := walk a0 W (errType_of_laid hL) w0
  refine hwk.mono fun e W' ⟨he, bel⟩ => ?_
  subst he
  exact ⟨_, rfl, _, _, _, [], _, [], hW', trodAll_mk1 (shut_bool Tryd.underlying4 _), (trodAll_cons_mk (shut_string Tryd.underlying9 w0) trodAll_mk0), rfl, bel.frame _, fun h => by cases h⟩

set_option maxRecDepth 100000 in
theorem lifted (os : Os) (started : os.Started) (H : Type) (enc : TypeId × Value → H) (F : Stop.Interp) :
    ReturnsInHanded {} Tryd.checked os 10 .any ((OpenSpec.ofChange Rows.linesThereSpec).preRow enc Tryd.prog Tryd.f10 Rows.linesThereRow.domain false Rows.linesThereRow.laid) (((OpenSpec.ofChange Rows.linesThereSpec).at F).post enc Tryd.prog Tryd.f10 false true false false) := by
  refine returnsInHanded_of_row (C := Tryd.checked) (s := OpenSpec.ofChange Rows.linesThereSpec) own3 started (by kernel_rfl) Tryd.func10
    (witness_row_shaped (enc := enc) (C := Tryd.checked) (witW os) #[.string ByteArray.empty] (witW_os os) (World.shaped_of_ZipB (by kernel_rfl) (by kernel_rfl)) (by kernel_rfl)
      (OpenSpec.preRow_of_cond 8 (x := ([.lit (.string [])], [], [])) (by kernel_rfl) (by kernel_rfl) (fun k hk => by cases hk) (by kernel_rfl) (laidMetH_of_parts (laidMet_over _ (by kernel_rfl) (by kernel_rfl)) (by kernel_rfl)))) ?_
  intro W base args ds gs before hval hW _ hcond _ hL _ _
  exact contract H enc W base args ds gs before hval hW hL

theorem over : Rows.LinesThereSaid :=
  OpenClaim.holds_of_cond 10 Tryd.f10 rfl rfl rfl rfl rfl rfl rfl ⟨rfl, rfl, rfl, rfl, rfl⟩ rfl rfl rfl rfl rfl (by kernel_rfl) Tryd.func10 (by kernel_rfl)
    (of_decide_eq_true (by kernel_rfl)) (by unfold Func.isWrapper; first | (rw [if_pos (by decide +kernel)]; kernel_rfl) | (rw [if_neg (by decide +kernel)]; exact ⟨rfl, rfl⟩))
    (fun os started H enc _ F => by rw [OpenClaim.pre_eq_preRow]; exact lifted os started H enc F)

end Go.Proofs.YtlaennakglhmjaaDoor.linesThere
namespace Go.Proofs.YtlaennakglhmjaaDoor
theorem linesThere_card : Rows.LinesThereCardSaid :=
  Claim7.holds_tied_plain_at .later [] [.data, .handle, .pinned] true _ true linesThere.over (fun _ h => by cases h) (by kernel_rfl) (fun _ h => by cases h) linesThere_row_tie rfl ⟨rfl, rfl⟩ (by kernel_rfl) rfl
    (fun f fn hf hfn => by
      obtain rfl : f = 10 := Option.some.inj ((show Tryd.prog.funcNamed Rows.linesThereRow.func = some 10 by kernel_rfl).symm.trans hf) |>.symm
      obtain rfl : fn = Tryd.f10 := (Option.some.inj (Tryd.func10.symm.trans hfn)).symm
      refine ⟨by kernel_rfl, fun j t ht => ?_⟩
      rw [Tryd.params10] at ht
      have hm := Array.mem_of_getElem? ht
      have hm' : t ∈ [9] := Array.mem_toList_iff.2 hm
      simp only [List.mem_cons, List.not_mem_nil, or_false] at hm'
      rcases hm' with rfl
      · exact (show Tryd.prog.wantsStandIn 9 = false by kernel_rfl))
    (by kernel_rfl)
end Go.Proofs.YtlaennakglhmjaaDoor

