/-
  WideReads: what units stand for, where the first lone one is, forward and backward, is the document's, and new memory: for arguments of at most 1048576 values in all.
-/
import Derived.Test.YtghcheoholkpbaaWEach
import Derived.Test.YtghcheoholkpbaaBulk
import Derived.ProofKit
import Derived.OpenShut
import Derived.ShutString
import Derived.ChangeOld
import Derived.JoinedCond
namespace Go.Proofs.Ytghcheoholkpbaa.wideReads
open Go.ChangeShapes Go.WideShapes Go.ChangeAt Go.RowKit Go.PlainAid Go.Lib
open Go.ChangeMaps (open_string shut_string)
set_option linter.unusedVariables false

theorem sameRunes_one (a b : Option Addr) (ca cb : Nat) (zs : List Int) (w : World) (ha : Reads w a zs) (hb : Reads w b zs) (hn : zs.length ≤ 1099511627776) :
    Calls Try.prog 24 #[.slice a zs.length ca, .slice b zs.length cb] w fun e w' => e = .returned (.bool true) ∧ Below w.heap.size w w' := by
  have HS := hide (same_yes a b ca cb zs w ha hb hn)
  go_enter Try.func24, Try.ntmps24
  go_wp2_with fail
  refine (unhide HS).mono ?_
  rintro e w1 ⟨rfl, hb1⟩
  go_wp2
  go_ret
  exact ⟨rfl, hb1⟩
theorem set_i (l : List Int) (i : Nat) (v : Int) : (i32l l).set i (.int .i32 v) = i32l (l.set i v) := by simp [List.map_set]
theorem i32l_append (l m : List Int) : i32l (l ++ m) = i32l l ++ i32l m := by simp
theorem rowI_len {w : World} {base : Nat} {e : TypeId} {v : Value} {n : Nat} {zs : List Int} (h : w.ownsRow base e 1 v n (i32l zs)) : zs.length = n := by have := h.1; simpa using this

set_option maxRecDepth 100000 in
set_option maxHeartbeats 8000000 in
theorem walk (a : Option Addr) (us : List Int) (cap : Nat) (most : Int) (w : World) (hrd : ReadsU w a us) (hf : Fits us) (hc : us.length ≤ cap) (hc2 : cap ≤ 1048576) :
    Calls Try.prog 5 #[.slice a us.length cap, .int .i64 most] w fun e w' => e = .returned (.bool true) ∧ Below w.heap.size w w' := by
  have hwr := wrunes_len us
  have HM := hide (rMarks_any us a cap w hf (by omega) hrd)
  have HLN := hide (fun w (h : ReadsU w a us) => lent_any w a cap us h (by omega))
  have HWR := hide (fun (w : World) (g c : Nat) (h : ReadsU w (some ⟨g, 0, none⟩) us) (h1 : us.length ≤ c) (h2 : c ≤ maxLen) => wrunes_any us (some ⟨g, 0, none⟩) c w hf (by omega) h1 h2 h)
  have HRR := hide (fun (w : World) (h : ReadsU w a us) => rMRunes_any us a cap w hf (by omega) h)
  have HCK := hide (fun (w : World) (g c : Nat) (h : ReadsU w (some ⟨g, 0, none⟩) us) (h1 : us.length ≤ c) (h2 : c ≤ maxLen) => wcheck_any us (some ⟨g, 0, none⟩) c w hf (by omega) h1 h2 h)
  have HRC := hide (fun (w : World) (h : ReadsU w a us) => rMCheck_any us a cap w hf (by omega) h)
  have HTX := hide (fun (w : World) (g c : Nat) (h : ReadsU w (some ⟨g, 0, none⟩) us) (h1 : us.length ≤ c) (h2 : c ≤ maxLen) => wtext_any us (some ⟨g, 0, none⟩) c w hf (by omega) h1 h2 h)
  have HEN := hide (fun (w : World) (x : Option Addr) (c : Nat) (h : Reads w x (wrunes us)) => refEncode_any x c (wrunes us) w h (by omega))
  have HSM := hide (fun (w : World) (x y : Option Addr) (c c' : Nat) (h : Reads w x (wrunes us)) (h' : Reads w y (wrunes us)) => sameRunes_one x y c c' (wrunes us) w h h' (by omega))
  have HKP := hide (fun (w : World) (B g c : Nat) (h : Lent w B g c us) (h' : ReadsU w a us) => kept_any w B g c a cap us h h' (by omega))
  have HEA := hide (fun (w : World) (g c : Nat) (h : ReadsU w (some ⟨g, 0, none⟩) us) => each_any w g 0 c us h (by omega))
  have HBA := hide (fun (w : World) (g c : Nat) (h : ReadsU w (some ⟨g, 0, none⟩) us) => back_any w g 0 c us h (by omega))
  have HGF := hide (fun (w : World) (v : Value) (ga : Option Addr) (gc : Nat) (most : Int) (h : ItOver w 74 us v) (h' : MarksAt w us ga (wplaces us 0)) => goesF_it w v us ga gc most hf (by omega) h h')
  have HGB := hide (fun (w : World) (v : Value) (ga : Option Addr) (gc : Nat) (most : Int) (h : ItOver w 78 us v) (h' : MarksAt w us ga (wplaces us 0)) => goesB_it w v us ga gc most hf (by omega) h h')
  have HLC := hide (fun (w : World) (B g c : Nat) (h : Lent w B g c us) => h.caps)
  have HRD := hide hrd
  have hm' : (wrunes us).length ≤ 1048576 := by omega
  clear hf hrd hwr
  generalize us.length = n at *
  generalize hml : (wrunes us).length = m at *
  have HML := hide hml
  clear hml
  generalize (wplaces us 0).length = M at *
  generalize hTT : runesBytes (wrunes us) = T at *
  clear hTT
  have qT : (T.toList == T.toList) = true := by simp
  obtain ⟨p1, hp1⟩ : ∃ p, (chkR us).1 = p := ⟨_, rfl⟩
  obtain ⟨p2, hp2⟩ : ∃ p, (chkR us).2 = p := ⟨_, rfl⟩
  rw [hp1, hp2] at HCK HRC
  clear hp1 hp2
  have qp1 : (p1 != p1) = false := by simp
  have qp2 : (p2 != p2) = false := by simp
  go_enter Try.func5, Try.ntmps5
  go_wp2_with fail
  refine (unhide HM).mono ?_
  rintro e w1 ⟨vm, rfl, hrm, hb1⟩
  obtain ⟨ma, mc, rfl, hmn, hmarks⟩ := mc_row hrm
  clear HM hrm hmn
  go_wp2_with fail
  refine (unhide HLN w1 ((unhide HRD).below hb1)).mono ?_
  rintro e w2 ⟨g, lc, rfl, hlent, hb2⟩
  obtain ⟨hlc1, hlc2⟩ := unhide HLC _ _ _ _ hlent
  have hlc1' : n ≤ lc := by omega
  have hM2 := hmarks.below hb2
  have hB2 : Below w.heap.size w w2 := hb1.trans (hb2.mono hb1.size)
  clear hmarks hb1 hb2 HLN
  have HLE := hide (fun (W : World) (h : Below w2.heap.size w2 W) => hlent.below h)
  have HLR := hide (fun (W : World) (h : Below w2.heap.size w2 W) => (hlent.below h).reads)
  have HMK := hide (fun (W : World) (h : Below w2.heap.size w2 W) => hM2.below h)
  have HUR := hide (fun (W : World) (h : Below w2.heap.size w2 W) => (unhide HRD).below (hB2.trans (h.mono hB2.size)))
  clear hlent hM2
  go_wp2_with fail
  refine (unhide HWR w2 g lc (unhide HLR _ (Below.refl _ _)) hlc1' hlc2).mono ?_
  rintro e w3 ⟨va, rfl, hra, hb3⟩
  go_wp2_with fail
  refine (unhide HWR w3 g lc (unhide HLR _ hb3) hlc1' hlc2).mono ?_
  rintro e w4 ⟨vb, rfl, hrb, hb4⟩
  have hb24 := hb3.trans (hb4.mono hb3.size)
  go_wp2_with fail
  refine (unhide HRR w4 (unhide HUR _ hb24)).mono ?_
  rintro e w5 ⟨vw, rfl, hrw, hb5⟩
  have hb25 := hb24.trans (hb5.mono hb24.size)
  have hra4 := rowBelow hra hb4
  have hra5 := rowBelow hra4 hb5
  have hrb5 := rowBelow hrb hb5
  have hneB := rows_ne (v := va) hrb (fun g e => (hra.lt g e).2)
  have hneW := rows_ne (v := va) hrw (fun g e => (hra4.lt g e).2)
  have hz3 := hb3.size
  clear hra hra4 hrb hb3 hb4 hb5 hb24 HWR HRR
  obtain ⟨aa, ac, rfl⟩ := row_is hra5
  obtain ⟨ba, bc, rfl⟩ := row_is hrb5
  obtain ⟨wa, wc, rfl⟩ := row_is hrw
  have HRA := hide (fun (W : World) (h : Below w5.heap.size w5 W) => rowBelow hra5 h)
  have HRB := hide (fun (W : World) (h : Below w5.heap.size w5 W) => rowBelow hrb5 h)
  have HRWW := hide (fun (W : World) (h : Below w5.heap.size w5 W) => rowBelow hrw h)
  have HNE := hide hneB
  have HNW := hide hneW
  clear hra5 hrb5 hrw hneB hneW
  go_wp2_with fail
  refine (unhide HCK w5 g lc (unhide HLR _ hb25) hlc1' hlc2).mono ?_
  rintro e w6 ⟨rfl, hb6⟩
  go_wp2_with fail
  refine (unhide HRC w6 (unhide HUR _ (hb25.trans (hb6.mono hb25.size)))).mono ?_
  rintro e w7 ⟨rfl, hb7⟩
  have h57 := hb6.trans (hb7.mono hb6.size)
  clear hb6 hb7 HCK HRC
  go_wp2_with fail
  refine (unhide HSM w7 aa wa ac wc (reads_own (unhide HRA _ h57)) (reads_own (unhide HRWW _ h57))).mono ?_
  rintro e w8 ⟨rfl, hb8⟩
  have h58 := h57.trans (hb8.mono h57.size)
  clear hb8 h57
  go_wp2_with fail
  refine (unhide HTX w8 g lc (unhide HLR _ (hb25.trans (h58.mono hb25.size))) hlc1' hlc2).mono ?_
  rintro e w9 ⟨rfl, hb9⟩
  have h59 := h58.trans (hb9.mono h58.size)
  clear hb9 h58
  go_wp2_with fail
  refine (unhide HEN w9 wa wc (reads_own (unhide HRWW _ h59))).mono ?_
  rintro e w10 ⟨rfl, hb10⟩
  have h510 := h59.trans (hb10.mono h59.size)
  clear hb10 h59
  go_wp2_with fail
  refine (unhide HKP w10 _ g lc (unhide HLE _ (hb25.trans (h510.mono hb25.size))) (unhide HUR _ (hb25.trans (h510.mono hb25.size)))).mono ?_
  rintro e w11 ⟨rfl, hb11⟩
  have h511 := h510.trans (hb11.mono h510.size)
  clear hb11 h510 HTX HEN
  have hra := unhide HRA _ h511
  have hrb := unhide HRB _ h511
  have hrw := unhide HRWW _ h511
  have h211 := hb25.trans (h511.mono hb25.size)
  have hz211 := h211.size
  clear HRA HRB HRWW h511 hb25
  have hxl := rowI_len hra
  have HXL := hide hxl
  have HRB := hide hrb
  have HRW := hide hrw
  clear hrb hrw hxl
  obtain ⟨i0, hi0, hy0, hy1, hy2⟩ := info_parts infoRune
  go_wp2
  go_loopw [14] (fun v14 wr => ∃ (i : Nat) (ys : List Int), i ≤ m ∧ v14 = .int .i64 i ∧ ys.length = m ∧ wr.ownsRow w2.heap.size 21 1 (.slice aa m ac) m (i32l ys) ∧ w11.grownBy wr (Value.slice aa m ac).ownBlock) (fun v14 _ => m - (intOf v14).toNat)
  case atStart => exact ⟨0, _, Nat.zero_le _, rfl, unhide HXL, hra, grown_below (Below.refl _ _) _⟩
  case round =>
    clear hra
    obtain ⟨i, ys, hi, rfl, hyl, hrow, hG⟩ := hrel
    by_cases hlt : i < m
    · obtain ⟨ag, rfl⟩ := row_at hrow (by omega)
      have c0 := hrow.cellAt i (by omega)
      rw [List.getElem?_map, List.getElem?_eq_getElem (by omega)] at c0
      have c1 := hrow.frozenAt i
      obtain ⟨s1, s2⟩ := hrow.stored i (.int .i32 (-9))
      rw [set_i] at s1
      have hG2 := hG.trans (show wr.grownBy _ (Value.slice (some ⟨ag, 0, none⟩) m ac).ownBlock from s2)
      clear s2 hrow hG
      go_wp2
      go_roundw
      case rel => exact ⟨i + 1, _, by omega, by go_num, by simp [hyl], s1, hG2⟩
      case measure => simp [intOf]; omega
    · obtain rfl : i = m := by omega
      clear hlt hi hyl
      go_wp2
      go_loopw [7, 15] (fun v7 v15 wr => ∃ (k : Nat) (ys : List Int), k ≤ 40 ∧ v15 = .int .i64 k ∧ wr.ownsRow w2.heap.size 21 1 v7 (i + k) (i32l ys) ∧ w11.grownBy wr (Value.slice aa i ac).ownBlock ∧ (v7.ownBlock = (Value.slice aa i ac).ownBlock ∨ ∃ x, v7.ownBlock = some x ∧ w11.heap.size ≤ x)) (fun _ v15 _ => 40 - (intOf v15).toNat)
      case atStart => exact ⟨0, ys, by omega, rfl, hrow, hG, .inl rfl⟩
      case round =>
        have HAB := hide (fun (x : Nat) (e : (Value.slice aa i ac).ownBlock = some x) => (hrow.lt x e).1)
        clear hrow hG
        obtain ⟨k, zs', hk, rfl, hrow, hG, hV⟩ := hrel
        have hGs := hG.size
        by_cases hlt : k < 40
        · obtain ⟨a9, c9, rfl⟩ := row_is hrow
          have HX := hide (i32l_append zs' [-9])
          go_wp2_with (at_builtin; refine wpList_append_own_at _ rfl _ _ 30 rfl w2.heap.size 21 i0 (.int .i32 0) 1 4 Try.underlying30 hi0 hy0 hy1 hy2 rfl (by decide) _ _ _ rfl (hrow.alloc _) ⟨wr.heap.size, 0, none⟩ 1 1 [.int .i32 (-9)] rfl rfl (cell_one_new _ _ _) (by simp [Value.oneCell']) (by unfold maxLen; omega) (by omega) (by simp; omega) ?_; intro v' w4 hown' hgrowx hx0 hblkx)
          have hgrow : (wr.alloc (.cells #[.int .i32 (-9)] 21)).grownBy w4 (Value.slice a9 (i + k) c9).ownBlock := hgrowx
          have hblk : v'.ownBlock = (Value.slice a9 (i + k) c9).ownBlock ∨ v'.ownBlock = some (wr.heap.size + 1) := by
            rcases hblkx with h | h
            · exact .inl h
            · exact .inr (by rw [h]; simp)
          clear hgrowx hblkx hx0
          have hG4 : w11.grownBy w4 (Value.slice aa i ac).ownBlock := grown_on (hG.trans (World.grownBy_alloc wr (.cells #[.int .i32 (-9)] 21) _)) hgrow (fun x hx => by
            rcases hV with h | ⟨y, h, hy⟩
            · exact .inl h
            · right
              rw [hx] at h
              have e : x = y := by simpa using h
              omega)
          have hV4 : v'.ownBlock = (Value.slice aa i ac).ownBlock ∨ ∃ x, v'.ownBlock = some x ∧ w11.heap.size ≤ x := by
            rcases hblk with h | h
            · rw [h]; exact hV
            · exact .inr ⟨_, h, by omega⟩
          clear hgrow hblk hG hV
          go_roundw
          case rel => exact ⟨k + 1, _, by omega, by go_num, by rw [unhide HX]; exact hown', hG4, hV4⟩
          case measure => simp [intOf]; omega
        · obtain rfl : k = 40 := by omega
          obtain ⟨a9, c9, rfl⟩ := row_is hrow
          clear hlt hk hV hrow
          have hb2 : Below w2.heap.size w2 wr := h211.grown hG hz211 (fun x e => unhide HAB x e)
          have hrb := (unhide HRB).kept hG (unhide HNE)
          have hrw := (unhide HRW).kept hG (unhide HNW)
          clear hG HAB HRB HRW HNE HNW
          go_wp2_with fail
          refine (unhide HSM wr ba wa bc wc (reads_own hrb) (reads_own hrw)).mono ?_
          rintro e w12 ⟨rfl, hb12⟩
          have h12 := hb2.trans (hb12.mono hb2.size)
          clear hb12 hb2 hrb hrw HSM
          go_wp2_with fail
          refine (unhide HEA w12 g lc (unhide HLR _ h12)).mono ?_
          rintro e w13 ⟨vo, rfl, hio, hb13⟩
          have h13 := h12.trans (hb13.mono h12.size)
          clear hb13 h12
          go_wp2_with fail
          refine (unhide HBA w13 g lc (unhide HLR _ h13)).mono ?_
          rintro e w14 ⟨vk, rfl, hik, hb14⟩
          have hio := hio.below hb14
          have h14 := h13.trans (hb14.mono h13.size)
          clear hb14 h13
          have HIO := hide (fun (W : World) (h : Below w14.heap.size w14 W) => hio.below h)
          have HIK := hide (fun (W : World) (h : Below w14.heap.size w14 W) => hik.below h)
          clear hio hik
          go_wp2
          go_loopw [18] (fun v18 wr => ∃ k : Nat, k ≤ 2 ∧ v18 = .int .i64 k ∧ Below w14.heap.size w14 wr) (fun v18 _ => 2 - (intOf v18).toNat)
          case atStart => exact ⟨0, by omega, rfl, Below.refl _ _⟩
          case round =>
            rename_i wq _
            obtain ⟨k, hk, rfl, hq0⟩ := hrel
            by_cases hlt : k < 2
            · go_wp2_with fail
              refine (unhide HGF _ vo ma mc most (unhide HIO _ hq0) (unhide HMK _ (h14.trans (hq0.mono h14.size)))).mono ?_
              rintro e q1 ⟨rfl, hr1⟩
              have hq1 := hq0.trans (hr1.mono hq0.size)
              clear hr1 hq0
              go_wp2_with fail
              refine (unhide HGB _ vk ma mc most (unhide HIK _ hq1) (unhide HMK _ (h14.trans (hq1.mono h14.size)))).mono ?_
              rintro e q2 ⟨rfl, hr2⟩
              have hq2 := hq1.trans (hr2.mono hq1.size)
              clear hr2 hq1
              go_wp2_with fail
              refine (unhide HGF _ vo ma mc (-1) (unhide HIO _ hq2) (unhide HMK _ (h14.trans (hq2.mono h14.size)))).mono ?_
              rintro e q3 ⟨rfl, hr3⟩
              have hq3 := hq2.trans (hr3.mono hq2.size)
              clear hr3 hq2
              go_wp2_with fail
              refine (unhide HGB _ vk ma mc (-1) (unhide HIK _ hq3) (unhide HMK _ (h14.trans (hq3.mono h14.size)))).mono ?_
              rintro e q4 ⟨rfl, hr4⟩
              have hq4 := hq3.trans (hr4.mono hq3.size)
              clear hr4 hq3
              go_wp2
              go_roundw
              case rel => exact ⟨k + 1, by omega, by go_num, hq4⟩
              case measure => simp [intOf]; omega
            · obtain rfl : k = 2 := by omega
              have h15 := h14.trans (hq0.mono h14.size)
              clear hlt hk hq0
              have ql : (((i + 40 : Nat) : Int) == (i : Int) + 40) = true := by simp
              go_wp2_with fail
              refine (unhide HKP _ _ g lc (unhide HLE _ h15) (unhide HUR _ h15)).mono ?_
              rintro e w16 ⟨rfl, hb16⟩
              have h16 := h15.trans (hb16.mono h15.size)
              clear hb16 h15
              go_wp2_with fail
              refine (awake_any _).mono ?_
              rintro e w17 ⟨rfl, hb17⟩
              have h17 := h16.trans (hb17.mono h16.size)
              go_wp2
              go_ret
              exact ⟨rfl, hB2.trans (h17.mono hB2.size)⟩
theorem own : ownKnob Try.prog.godebug = none := by kernel_rfl
theorem laidOut : laidOutB Try.prog = true := by kernel_rfl

set_option maxRecDepth 100000 in
theorem contract (H : Type) (enc : TypeId × Value → H) (W : World) (base : Nat) (args : Array Value) (ds gs : List (DataW H)) (before : List MemPlace)
    (hval : ∀ (j : Nat) t v, Try.f5.params[j]? = some t → args[j]? = some v → Value.okWide Try.prog W .any base t v)
    (hW : DataW.Whole enc Try.prog Try.f5.params.toList Rows.wideReadsSpec.vars false W args.toList ds gs before) (hk : Rows.uptoSmall H (ds ++ gs) = true) :
    Calls Try.prog 5 args W fun e W' => ∃ v, e = .returned v ∧ Rows.wideReadsSpec.post enc Try.prog Try.f5 false true false false W args v W' := by
  have hW' := hW
  obtain ⟨p, q, hA0, hV, rfl, hfz, hnd⟩ := hW
  have hA : DataW.TrodAll enc Try.prog W 0 (fun _ => true) true Try.f5.params.toList args.toList ds p := hA0
  rw [Try.params5] at hA hval
  obtain ⟨v0, vs0, d0, ds0, p0, q0, hargs, rfl, rfl, h0, r0⟩ := trodAll_cons hA
  obtain ⟨v1, vs1, d1, ds1, p1, q1, rfl, rfl, rfl, h1, r1⟩ := trodAll_cons r0
  obtain ⟨rfl, rfl, rfl⟩ := trodAll_nil r1
  obtain rfl : args = #[v0, v1] := by cases args; simp_all
  obtain ⟨rfl, rfl⟩ := trodVars_none hV
  obtain ⟨a0, len0, cap0, rfl⟩ := okWide_slice Try.underlying31 (hval 0 31 v0 rfl rfl)
  have k0 := h0
  have lt0 : ∀ x ∈ p0, x.block < W.heap.size := by obtain ⟨m, hm⟩ := k0; exact DataW.trod_lt m _ _ _ hm
  obtain ⟨a1, rfl, hd1, rfl, w1⟩ := open_int Try.underlying3 (hval 1 3 v1 rfl rfl) h1
  have hk' : Rows.uptoSmall H [d0, d1] = true := hk
  have hb := bulk_bound hk'
  simp only [Rows.uptoBulkAll] at hb
  obtain ⟨z0, w0, c0, wf0⟩ : ∃ zs : List Int, ((a0 = none ∧ len0 = 0 ∧ cap0 = 0 ∧ zs = []) ∨ ∃ x, a0 = some x ∧ len0 ≤ cap0 ∧ cap0 ≤ maxLen ∧ zs.length = cap0 ∧ (∀ i, i < zs.length → W.cell? (x.add i) = some (.int .u16 (zs.getD i 0)))) ∧ cap0 ≤ 1048576 ∧ (∀ n ∈ zs, (Lit.int .u16 n).wf = true) := by
    obtain ⟨fuel, hf⟩ := h0
    rcases open_ints Try.underlying31 Try.underlying22 (by kernel_rfl) hf with ⟨hcs, _⟩ | ⟨x, l, c, zs, hcs, _, hl, hm, hz, hx, hcell, hwz⟩
    · simp [Value.cells] at hcs
      obtain ⟨rfl, rfl, rfl⟩ := hcs
      exact ⟨[], .inl ⟨rfl, rfl, rfl, rfl⟩, by omega, by simp⟩
    · simp [Value.cells] at hcs
      obtain ⟨rfl, rfl, rfl⟩ := hcs
      have hz' : zs.length = cap0 := by simpa using hz
      refine ⟨zs, .inr ⟨_, rfl, hl, hm, hz', hcell⟩, ?_, hwz⟩
      have hd : d0 = .slice (lits .u16 (zs.take len0)) (lits .u16 (zs.drop len0)) := by simp only [Prod.mk.injEq] at hx; exact hx.1
      rw [hd] at hb
      have h2 := bulk_slice (H := H) (lits .u16 (zs.take len0)) (lits .u16 (zs.drop len0))
      have e1 : (lits (H := H) .u16 (zs.take len0)).length = (zs.take len0).length := by simp [lits]
      have e2 : (lits (H := H) .u16 (zs.drop len0)).length = (zs.drop len0).length := by simp [lits]
      rw [e1, e2, List.length_take, List.length_drop] at h2
      omega
  have hlc0 : len0 ≤ cap0 := by rcases w0 with ⟨_, h, h', _⟩ | ⟨_, _, h, _⟩ <;> omega
  have hzc0 : z0.length = cap0 := w0.elim (fun ⟨_, _, h, h'⟩ => by rw [h', h]; rfl) (fun ⟨_, _, _, _, h, _⟩ => h)
  have hle0 : (z0.take len0).length = len0 := by rw [List.length_take]; omega
  have hrd0 : ReadsU W a0 (z0.take len0) := by
    intro i hi
    rw [hle0] at hi
    rcases w0 with ⟨_, h, _⟩ | ⟨x, h1, h2, h3, h4, h5⟩
    · omega
    · obtain ⟨b, off, rfl, hc⟩ := ints_at h5 (by omega)
      refine ⟨b, off, h1, (hc i (by omega)).trans ?_⟩
      simp [uA, List.getD, hi]
  have hfi0 : Fits (z0.take len0) := by
    intro x hx
    exact wf_u16 (wf0 x (List.mem_of_mem_take hx))
  clear hA0
  have hwk := walk a0 (z0.take len0) cap0 a1 W hrd0 hfi0 (by rw [hle0]; omega) c0
  rw [hle0] at hwk
  subst hd1
  refine hwk.mono fun e W' ⟨he, bel⟩ => ?_
  subst he
  exact ⟨_, rfl, _, _, _, [], _, [], hW', trodAll_mk1 (shut_bool Try.underlying4 _), (trodAll_cons_mk (Below.trod laidOut (by kernel_rfl) (of_decide_eq_true (by kernel_rfl)) k0 bel lt0) (trodAll_cons_mk (shut_int Try.underlying3 w1) trodAll_mk0)), rfl, bel.frame _, fun h => by cases h⟩

set_option maxRecDepth 100000 in
theorem lifted (os : Os) (started : os.Started) (H : Type) (enc : TypeId × Value → H) (F : Stop.Interp) :
    ReturnsInHanded {} Try.checked os 5 .any ((Rows.OpenSpec.upto Rows.wideReadsSpec).pre6 enc Try.prog Try.f5 Rows.wideReadsUptoRow.domain false) (((Rows.OpenSpec.upto Rows.wideReadsSpec).at F).post enc Try.prog Try.f5 false true false false) := by
  refine returnsInHanded_of_cond (C := Try.checked) (s := Rows.OpenSpec.upto Rows.wideReadsSpec) (k := Rows.uptoSmall) rfl own started (by kernel_rfl) Try.func5
    (OpenSpec.witness (enc := enc) (C := Try.checked) (s := Rows.OpenSpec.upto Rows.wideReadsSpec) (k := Rows.uptoSmall) rfl false ⟨#[], #[.slice none 0 0, .int .i64 0], []⟩ 8 (by kernel_rfl) (by kernel_rfl) (by kernel_rfl)
      (x := ([.nil, .lit (.int .i64 0)], [], [])) (by kernel_rfl) rfl (by kernel_rfl)) ?_
  intro W base args ds gs before hval hW _ hk _
  exact contract H enc W base args ds gs before hval hW hk

theorem over : Rows.wideReadsUptoRow.holds Try.pinned (Rows.OpenSpec.upto Rows.wideReadsSpec) :=
  OpenClaim.holds_of_cond 5 Try.f5 rfl rfl rfl rfl rfl rfl rfl ⟨rfl, rfl, rfl, rfl, rfl⟩ rfl rfl rfl rfl rfl (by kernel_rfl) Try.func5 (by kernel_rfl)
    (of_decide_eq_true (by kernel_rfl)) (by unfold Func.isWrapper; first | (rw [if_pos (by decide +kernel)]; kernel_rfl) | (rw [if_neg (by decide +kernel)]; exact ⟨rfl, rfl⟩))
    (fun os started H enc _ F => lifted os started H enc F)

end Go.Proofs.Ytghcheoholkpbaa.wideReads
namespace Go.Proofs.Ytghcheoholkpbaa
theorem wideReads_upto : Rows.WideReadsUptoSaid := wideReads.over
end Go.Proofs.Ytghcheoholkpbaa

