/-
  ParasClasses: the classes of any runes by any props (that may be) are the document's, runes of any text are those of the conversion, in memory of their own. The condition: the bulk of props, runes and text is at most 1048576.
-/
import Derived.Test.YtkckkchnmgidgaaBulk
import Derived.Test.YtkckkchnmgidgaaPaAw
import Derived.Test.YtkckkchnmgidgaaPaOq
import Derived.Test.YtkckkchnmgidgaaPaRc
import Derived.Test.YtkckkchnmgidgaaPaMy
import Derived.ProofKit
import Derived.OpenShut
import Derived.ShutString
import Derived.ChangeOld
namespace Go.Proofs.Ytkckkchnmgidgaa.parasClasses
open Go.ChangeShapes Go.WideShapes Go.ChangeAt Go.RowKit Go.PlainAid Go.Lib Go.ChangeMaps
set_option linter.unusedVariables false

theorem blk_row {w : World} {B g n : Nat} {l : List Value} (h : Blk w g l 22) (hn : l.length = n) (hm : n ≤ 1099511627776) (hB : B ≤ g) : w.ownsRow B 22 1 (.slice (some ⟨g, 0, none⟩) n n) n l := by
  subst hn
  exact ⟨by omega, .inr ⟨g, l.length, l.toArray, rfl, hB, h, Nat.le_refl _, by unfold maxLen; omega, by simp, by simp⟩⟩
/-- a list that lies in another block than a value's row -/
def AwayB (v : Value) (b : Option Addr) (zs : List Int) : Prop := zs ≠ [] → ∀ x, b = some x → some x.block ≠ v.ownBlock
theorem AwayB.next {w : World} {b : Option Addr} {zs : List Int} {v v' : Value} {H : Nat} (h : ReadsB w b zs) (ha : AwayB v b zs) (hv : v'.ownBlock = v.ownBlock ∨ v'.ownBlock = some H) (hH : w.heap.size ≤ H) : AwayB v' b zs := by
  intro hz x hx
  rcases hv with hv | hv
  · rw [hv]; exact ha hz x hx
  · rw [hv]; intro e
    have := h.lt hz hx
    have e2 : x.block = H := by simpa using e
    omega
theorem awayB_rows {W : World} {base : Nat} {e : TypeId} {a : Option Addr} {n c : Nat} {xs : List Value} {v : Value} {us : List Int} (q : W.ownsRow base e 1 (.slice a n c) n xs) (hl : ∀ g, v.ownBlock = some g → g < base) : AwayB v a us := by
  intro _ x hx e
  have h1 := hl _ e.symm
  have h2 := (q.lt x.block (by rw [hx]; rfl)).1
  omega
theorem classesL_len (rest : Int) (l : List CharD) (rs : List Int) : (classesL rest l rs).length = rs.length := by simp [classesL]
set_option maxRecDepth 100000 in
set_option maxHeartbeats 4000000 in
theorem walk (rest : Int) (pa : Option Addr) (pn pc : Nat) (l : List CharD) (a : Option Addr) (rs : List Int) (c : Nat) (s : ByteArray) (W : World) (hpl : l.length = pn) (hpn : pn ≤ 1048576) (hp : ReadsC W pa l) (hr : Reads W a rs) (hlc : rs.length ≤ c) (hc : c ≤ 1048576) (hs : s.size ≤ 1048576) :
    Calls Try.prog 3 #[propsV rest pa pn pc, .slice a rs.length c, .string s] W fun e w' => e = .returned (.bool true) ∧ Below W.heap.size W w' := by
  obtain ⟨i0, hi, hz0, hz1, hz2⟩ := info_parts infoClass
  have HAW := hide (fun w => awake_any w)
  have HR := hide hr
  have HMAY := hide (fun (w : World) (hb : Below W.heap.size W w) => may_any rest pa pn pc l w hpl (hp.below hb) (by omega))
  have HCL := hide (fun (w : World) (g c' : Nat) (hb : Below W.heap.size W w) (h : Reads w (some ⟨g, 0, none⟩) rs) => classes_any rest pa pn pc l rs.length c' (some ⟨g, 0, none⟩) rs w hpl (hp.below hb) (by omega) rfl h (by omega))
  have HNI := hide (fun (w : World) (n c' : Nat) (x : Option Addr) => classes_nil n c' x w)
  have HRC := hide (fun (w : World) (hb : Below W.heap.size W w) => rClasses_any rest pa pn pc l a rs.length c rs w hpl (hp.below hb) (by omega) rfl (hr.below hb) (by omega))
  have HLI := hide (fun (w : World) (hb : Below W.heap.size W w) => lentRunes_any w a rs.length c rs rfl (hr.below hb) (by omega))
  have HKI := hide (fun (w : World) (B g c' : Nat) (h : LentI w B g c' rs) (h2 : Reads w a rs) => keptRunes_any w B g c' a rs.length c rs rfl h h2 (by omega))
  have HSM := hide (fun (w : World) (x y : Option Addr) (cx cy : Nat) (h1 : ReadsB w x (classesL rest l rs)) (h2 : ReadsB w y (classesL rest l rs)) => same_yes x y cx cy rs.length (classesL rest l rs) w (classesL_len rest l rs) h1 h2 (by omega))
  have hrl : (runesL s).length ≤ 1048576 := by rw [runesL_len]; have := chars_length s 0; omega
  have HRU := hide (fun w => paRunes_any s w (by omega))
  have HCV := hide (fun w => conv_runes s w (by omega))
  rw [runeVals_L, ← runesL_len] at HCV
  have HSR := hide (fun (w : World) (x y : Option Addr) (cx cy : Nat) (h1 : Reads w x (runesL s)) (h2 : Reads w y (runesL s)) => sameRunes_yes x y cx cy (runesL s).length (runesL s) w rfl h1 h2 (by omega))
  have hun := classesL_len rest l rs
  generalize classesL rest l rs = us at *
  have hn : rs.length ≤ 1048576 := by omega
  generalize rs.length = n at *
  generalize runesL s = ts at *
  have HTM : Hid (ts.length = ts.length) := rfl
  generalize hm : ts.length = m at *
  have HUN := hide hun
  have HM := hide hm
  clear HTM hr hpl hp hun hm hlc hc hs hpn
  unfold propsV at *
  obtain ⟨W2, hW2⟩ : ∃ W2, W.alloc (.cells #[.int .u8 rest, .slice pa pn pc] 25) = W2 := ⟨_, rfl⟩
  have hb0 : Below W.heap.size W W2 := by rw [← hW2]; exact (Below.refl _ W).alloc (Nat.le_refl _) _
  have x0 : Blk W2 W.heap.size [.int .u8 rest, .slice pa pn pc] 25 := by rw [← hW2]; exact Blk.new W [.int .u8 rest, .slice pa pn pc] _
  have HW2 := hide hW2
  have HX0 := hide x0
  have HB0 := hide hb0
  have d0 := x0.cell (j := 0) rfl
  have d1 := x0.cell (j := 1) rfl
  clear hW2 x0 hb0
  go_enter Try.func3, Try.ntmps3
  go_wp2_with fail
  rw [unhide HW2]
  go_wp2_with fail
  refine (unhide HMAY _ (unhide HB0)).mono ?_
  rintro e w1 ⟨⟨z, rfl⟩, hb1⟩
  have HX1 := hide ((unhide HX0).below hb1)
  have HB1 := hide ((unhide HB0).trans (hb1.mono (unhide HB0).size))
  clear hb1 d0 d1
  cases z
  · go_wp2_with fail
    refine (unhide HAW _).mono ?_
    rintro e w2 ⟨rfl, hb2⟩
    have HB2 := hide ((unhide HB1).trans (hb2.mono (unhide HB1).size))
    clear hb2
    go_wp2
    go_ret
    exact ⟨rfl, unhide HB2⟩
  · go_wp2_with fail
    refine (unhide HLI _ (unhide HB1)).mono ?_
    rintro e w2 ⟨g2, c2, rfl, q1, q2, hl2, hb2⟩
    have HI2 := hide hl2
    have HX2 := hide ((unhide HX1).below hb2)
    have HB2 := hide ((unhide HB1).trans (hb2.mono (unhide HB1).size))
    clear hl2 hb2
    have d0 := (unhide HX2).cell (j := 0) rfl
    have d1 := (unhide HX2).cell (j := 1) rfl
    go_wp2_with fail
    refine (unhide HCL _ _ _ (unhide HB2) (unhide HI2).reads).mono ?_
    rintro e w3 ⟨rfl, hk3, hb3⟩
    have HI3 := hide ((unhide HI2).below hb3)
    have HX3 := hide ((unhide HX2).below hb3)
    have HK3 := hide hk3
    have HB3 := hide ((unhide HB2).trans (hb3.mono (unhide HB2).size))
    clear hk3 hb3 d0 d1
    have d0 := (unhide HX3).cell (j := 0) rfl
    have d1 := (unhide HX3).cell (j := 1) rfl
    go_wp2_with fail
    refine (unhide HCL _ _ _ (unhide HB3) (unhide HI3).reads).mono ?_
    rintro e w4 ⟨rfl, hk4, hb4⟩
    have HI4 := hide ((unhide HI3).below hb4)
    have HX4 := hide ((unhide HX3).below hb4)
    have HK4 := hide ((unhide HK3).below hb4)
    have HJ4 := hide hk4
    have HB4 := hide ((unhide HB3).trans (hb4.mono (unhide HB3).size))
    clear hk4 hb4 d0 d1
    go_wp2_with fail
    refine (unhide HNI _ _ _ _).mono ?_
    rintro e w4b ⟨rfl, rfl⟩
    have d0 := (unhide HX4).cell (j := 0) rfl
    have d1 := (unhide HX4).cell (j := 1) rfl
    go_wp2_with fail
    refine (unhide HRC _ (unhide HB4)).mono ?_
    rintro e w5 ⟨vw, rfl, hr5, hb5⟩
    obtain ⟨wa, wc, rfl⟩ := row_is hr5
    have HI5 := hide ((unhide HI4).below hb5)
    have HK5 := hide ((unhide HK4).below hb5)
    have HJ5 := hide ((unhide HJ4).below hb5)
    have HW5 := hide hr5
    have HB5 := hide ((unhide HB4).trans (hb5.mono (unhide HB4).size))
    have Z4 : Hid (w3.heap.size < w4b.heap.size) := (unhide HJ4).lt
    clear hr5 hb5 d0 d1 HI4 HK4 HJ4 HX4 HX3 HI3 HX2 HI2
    go_wp2_with fail
    refine (unhide HSM _ _ _ _ _ (unhide HK5).readsB (readsB_own (unhide HW5))).mono ?_
    rintro e w6 ⟨rfl, hb6⟩
    have HI6 := hide ((unhide HI5).below hb6)
    have HK6 := hide ((unhide HK5).below hb6)
    have HJ6 := hide ((unhide HJ5).below hb6)
    have HW6 := hide (rowBelow (unhide HW5) hb6)
    have HB6 := hide ((unhide HB5).trans (hb6.mono (unhide HB5).size))
    clear hb6 HI5 HK5 HJ5 HW5
    go_wp2_with fail
    refine (unhide HKI _ _ _ _ (unhide HI6) ((unhide HR).below (unhide HB6))).mono ?_
    rintro e w7 ⟨rfl, hb7⟩
    have HA7 := hide (blk_row (B := W.heap.size) (n := n) ((unhide HK6).below hb7) (by rw [List.length_map]; exact unhide HUN) (by omega) (unhide HB2).size)
    have HJ7 := hide ((unhide HJ6).below hb7)
    have HW7 := hide (rowBelow (unhide HW6) hb7)
    have HB7 := hide ((unhide HB6).trans (hb7.mono (unhide HB6).size))
    have Z2 : Hid (w2.heap.size < w3.heap.size) := (unhide HK3).lt
    have AB : Hid (AwayB (.slice (some ⟨w2.heap.size, 0, none⟩) n n) (some ⟨w3.heap.size, 0, none⟩) us) := by
      intro _ x hx e
      obtain rfl := Option.some.inj hx
      have e2 : w3.heap.size = w2.heap.size := by simpa [Value.ownBlock] using e
      have := unhide Z2
      omega
    have AW : Hid (AwayB (.slice (some ⟨w2.heap.size, 0, none⟩) n n) wa us) := awayB_rows (unhide HW7) (fun g e => by
      have e2 : w2.heap.size = g := by simpa [Value.ownBlock] using e
      have := unhide Z2
      have := unhide Z4
      omega)
    have Z7 : Hid (W.heap.size ≤ w2.heap.size) := (unhide HB2).size
    clear hb7 HI6 HK6 HJ6 HW6
    go_wp2
    go_loopw [15] (fun v15 wr => ∃ (k : Nat) (xs : List Value), k ≤ n ∧ v15 = .int .i64 k ∧ wr.ownsRow W.heap.size 22 1 (.slice (some ⟨w2.heap.size, 0, none⟩) n n) n xs ∧ ReadsB wr (some ⟨w3.heap.size, 0, none⟩) us ∧ ReadsB wr wa us ∧ Below W.heap.size W wr) (fun v15 _ => n - (RowKit.intOf v15).toNat)
    case atStart => exact ⟨0, _, Nat.zero_le _, rfl, unhide HA7, (unhide HJ7).readsB, readsB_own (unhide HW7), unhide HB7⟩
    case round =>
      obtain ⟨k, xs, hk, rfl, hrow, hrb, hrw, hB⟩ := hrel
      by_cases hlt : k < n
      · have f1 := hrow.frozenAt k
        obtain ⟨y, c1⟩ : ∃ y, wr.cell? ⟨w2.heap.size, k, none⟩ = some y := by
          rw [hrow.cellAt k (by omega)]
          exact ⟨_, List.getElem?_eq_getElem (by rw [hrow.1]; omega)⟩
        have hst := hrow.stored k (.int .u8 99)
        have HST := hide hst.1
        have HRB := hide (hrb.grown hst.2 (unhide AB))
        have HRW2 := hide (hrw.grown hst.2 (unhide AW))
        have HBB := hide (hB.setCell (p := ⟨w2.heap.size, k, none⟩) (unhide Z7) (.int .u8 99))
        clear hst hrow hrb hrw hB
        go_wp2
        go_roundw
        case rel => exact ⟨k + 1, _, by omega, by go_num, unhide HST, unhide HRB, unhide HRW2, unhide HBB⟩
        case measure => simp [RowKit.intOf]; omega
      · obtain rfl : k = n := by omega
        clear HA7 HJ7 HW7 HB7
        go_wp2
        go_loopw [8, 78] (fun v8 v78 wr2 => ∃ (j : Nat) (xs : List Value), j ≤ 40 ∧ v78 = .int .i64 j ∧ wr2.ownsRow W.heap.size 22 1 v8 (k + j) xs ∧ ReadsB wr2 (some ⟨w3.heap.size, 0, none⟩) us ∧ ReadsB wr2 wa us ∧ AwayB v8 (some ⟨w3.heap.size, 0, none⟩) us ∧ AwayB v8 wa us ∧ Below W.heap.size W wr2) (fun _ v78 _ => 40 - (RowKit.intOf v78).toNat)
        case atStart => exact ⟨0, xs, by omega, rfl, hrow, hrb, hrw, unhide AB, unhide AW, hB⟩
        case round =>
          clear hrow hrb hrw hB
          obtain ⟨j, xs, hj, rfl, hrow, hrb, hrw, hab, haw, hB⟩ := hrel
          obtain ⟨va, vc, rfl⟩ := row_is hrow
          have hBs := hB.size
          by_cases hlt2 : j < 40
          · have HAB := hide hab
            have HAW2 := hide haw
            have HRB := hide hrb
            have HRW2 := hide hrw
            clear hab haw hrb hrw
            go_wp2_with (at_builtin; refine wpList_append_own_at _ rfl _ _ 29 rfl W.heap.size 22 i0 (.int .u8 0) 1 1 Try.underlying29 hi hz0 hz1 hz2 rfl (by decide) _ _ _ rfl (hrow.alloc _) ⟨wr.heap.size, 0, none⟩ 1 1 [.int .u8 98] rfl rfl (cells_new _ _ _) (by simp [Value.oneCell']) (by unfold maxLen; omega) (by omega) (by simp; omega) ?_; intro v' w6 hown' hgrow _ hvb)
            have hB2 := (hB.alloc hBs _).grown hgrow (by simp; omega) (fun y e => (hrow.lt y e).1)
            have hrb1 := (unhide HRB).below ((Below.refl _ wr).alloc (Nat.le_refl _) (.cells #[.int .u8 98] 22))
            have hrw1 := (unhide HRW2).below ((Below.refl _ wr).alloc (Nat.le_refl _) (.cells #[.int .u8 98] 22))
            have z1 := hrb1.grown hgrow (unhide HAB)
            have z2 := hrw1.grown hgrow (unhide HAW2)
            have z3 := (unhide HAB).next hrb1 hvb (Nat.le_refl _)
            have z4 := (unhide HAW2).next hrw1 hvb (Nat.le_refl _)
            go_roundw
            case rel => exact ⟨j + 1, _, by omega, by go_num, hown', z1, z2, z3, z4, hB2⟩
            case measure => simp [RowKit.intOf]; omega
          · obtain rfl : j = 40 := by omega
            have HRB := hide hrb
            have HRW2 := hide hrw
            have HBr := hide hB
            clear hab haw hrow hrb hrw hB
            have e40 : (((k + 40 : Nat) : Int) != (k : Int) + 40) = false := by simp
            have e41 : (((k : Int) + 40) != (k : Int) + 40) = false := by simp
            go_wp2_with fail
            refine (unhide HSM _ _ _ _ _ (unhide HRB) (unhide HRW2)).mono ?_
            rintro e w8 ⟨rfl, hb8⟩
            have HB8 := hide ((unhide HBr).trans (hb8.mono (unhide HBr).size))
            clear hb8
            go_wp2_with fail
            refine (unhide HRU _).mono ?_
            rintro e w9 ⟨xc, rfl, hx9, hb9⟩
            have HX9 := hide hx9
            have HB9 := hide ((unhide HB8).trans (hb9.mono (unhide HB8).size))
            clear hx9 hb9
            go_wp2_with fail
            refine (unhide HRU _).mono ?_
            rintro e w10 ⟨yc, rfl, hy10, hb10⟩
            have HX10 := hide (rowBelow (unhide HX9) hb10)
            have HY10 := hide hy10
            have HB10 := hide ((unhide HB9).trans (hb10.mono (unhide HB9).size))
            have Z9 : Hid (w8.heap.size < w9.heap.size) := ((unhide HX9).lt w8.heap.size rfl).2
            have Z8 : Hid (W.heap.size ≤ w8.heap.size) := (unhide HB8).size
            clear hy10 hb10
            obtain ⟨ec, w11, hconv, hown11, hb11⟩ := unhide HCV w10
            have HX11 := hide (rowBelow (unhide HX10) hb11)
            have HY11 := hide (rowBelow (unhide HY10) hb11)
            have HE11 := hide (reads_own hown11)
            have HB11 := hide ((unhide HB10).trans (hb11.mono (unhide HB10).size))
            clear hown11 hb11
            go_wp2_with fail
            refine (unhide HSR _ _ _ _ _ (reads_own (unhide HX11)) (unhide HE11)).mono ?_
            rintro e w12 ⟨rfl, hb12⟩
            have HX12 := hide (rowBelow (unhide HX11) hb12)
            have HY12 := hide (reads_own (rowBelow (unhide HY11) hb12))
            have HB12 := hide ((unhide HB11).trans (hb12.mono (unhide HB11).size))
            clear hb12 hconv
            go_wp2
            go_loopw [18] (fun v18 wq => ∃ (i : Nat) (xs : List Value), i ≤ m ∧ v18 = .int .i64 i ∧ wq.ownsRow w8.heap.size 21 1 (.slice (some ⟨w8.heap.size, 0, none⟩) m xc) m xs ∧ Reads wq (some ⟨w9.heap.size, 0, none⟩) ts ∧ Below W.heap.size W wq) (fun v18 _ => m - (RowKit.intOf v18).toNat)
            case atStart => exact ⟨0, _, Nat.zero_le _, rfl, unhide HX12, unhide HY12, unhide HB12⟩
            case round =>
              obtain ⟨i, xs, hi', rfl, hrow, hry, hB⟩ := hrel
              by_cases hlt3 : i < m
              · have f1 := hrow.frozenAt i
                obtain ⟨y, c1⟩ : ∃ y, wr.cell? ⟨w8.heap.size, i, none⟩ = some y := by
                  rw [hrow.cellAt i (by omega)]
                  exact ⟨_, List.getElem?_eq_getElem (by rw [hrow.1]; omega)⟩
                have hst := hrow.stored i (.int .i32 (-9))
                have HST := hide hst.1
                have HRY := hide (hry.grown hst.2 (fun _ x hx e => by
                  obtain rfl := Option.some.inj hx
                  have e2 : w9.heap.size = w8.heap.size := by simpa [Value.ownBlock] using e
                  have := unhide Z9
                  omega))
                have HBB := hide (hB.setCell (p := ⟨w8.heap.size, i, none⟩) (unhide Z8) (.int .i32 (-9)))
                clear hst hrow hry hB
                go_wp2
                go_roundw
                case rel => exact ⟨i + 1, _, by omega, by go_num, unhide HST, unhide HRY, unhide HBB⟩
                case measure => simp [RowKit.intOf]; omega
              · obtain rfl : i = m := by omega
                obtain ⟨ec2, w13, hconv, hown13, hb13⟩ := unhide HCV wr
                have HY13 := hide (hry.below hb13)
                have HE13 := hide (reads_own hown13)
                have HB13 := hide (hB.trans (hb13.mono hB.size))
                clear hown13 hb13 hrow hry hB
                go_wp2_with fail
                refine (unhide HSR _ _ _ _ _ (unhide HY13) (unhide HE13)).mono ?_
                rintro e w14 ⟨rfl, hb14⟩
                have HB14 := hide ((unhide HB13).trans (hb14.mono (unhide HB13).size))
                clear hb14 hconv
                go_wp2_with fail
                refine (unhide HAW _).mono ?_
                rintro e w15 ⟨rfl, hb15⟩
                have HB15 := hide ((unhide HB14).trans (hb15.mono (unhide HB14).size))
                clear hb15
                go_wp2
                go_ret
                exact ⟨rfl, unhide HB15⟩

theorem own : ownKnob Try.prog.godebug = none := by kernel_rfl
theorem laidOut : laidOutB Try.prog = true := by kernel_rfl

set_option maxRecDepth 100000 in
theorem contract (H : Type) (enc : TypeId × Value → H) (W : World) (base : Nat) (args : Array Value) (ds gs : List (DataW H)) (before : List MemPlace)
    (hval : ∀ (j : Nat) t v, Try.f3.params[j]? = some t → args[j]? = some v → Value.okWide Try.prog W .any base t v)
    (hW : DataW.Whole enc Try.prog Try.f3.params.toList Rows.parasClassesSpec.vars false W args.toList ds gs before) (hk : Rows.uptoSmall H (ds ++ gs) = true) :
    Calls Try.prog 3 args W fun e W' => ∃ v, e = .returned v ∧ Rows.parasClassesSpec.post enc Try.prog Try.f3 false true false false W args v W' := by
  have hW' := hW
  obtain ⟨p, q, hA0, hV, rfl, hfz, hnd⟩ := hW
  have hA : DataW.TrodAll enc Try.prog W 0 (fun _ => true) true Try.f3.params.toList args.toList ds p := hA0
  rw [Try.params3] at hA hval
  obtain ⟨v0, vs0, d0, ds0, p0, q0, hargs, rfl, rfl, h0, r0⟩ := trodAll_cons hA
  obtain ⟨v1, vs1, d1, ds1, p1, q1, rfl, rfl, rfl, h1, r1⟩ := trodAll_cons r0
  obtain ⟨v2, vs2, d2, ds2, p2, q2, rfl, rfl, rfl, h2, r2⟩ := trodAll_cons r1
  obtain ⟨rfl, rfl, rfl⟩ := trodAll_nil r2
  obtain rfl : args = #[v0, v1, v2] := by cases args; simp_all
  obtain ⟨rfl, rfl⟩ := trodVars_none hV
  obtain ⟨a1, len1, cap1, rfl⟩ := okWide_slice Try.underlying26 (hval 1 26 v1 rfl rfl)
  have k1 := h1
  have lt1 : ∀ x ∈ p1, x.block < W.heap.size := by obtain ⟨m, hm⟩ := k1; exact DataW.trod_lt m _ _ _ hm
  obtain ⟨a2, rfl, rfl, rfl, w2⟩ := open_string Try.underlying9 (hval 2 9 v2 rfl rfl) h2
  have hk' : Rows.uptoSmall H [d0, d1, .lit (.string a2.data.toList)] = true := hk
  have hb := bulk_bound hk'
  simp only [Rows.uptoBulkAll] at hb
  have k0 := h0
  have lt0 : ∀ x ∈ p0, x.block < W.heap.size := by obtain ⟨m, hm⟩ := k0; exact DataW.trod_lt m _ _ _ hm
  obtain ⟨rest0, a0, n0, c0, l0, rfl, hl0, hn0, hp0⟩ := open_props (hval 0 25 v0 rfl rfl) h0 (by omega)
  rw [bulk_string a2] at hb
  have c2 : a2.size ≤ 1048576 := by omega
  obtain ⟨z1, w1, c1, wf1⟩ : ∃ zs : List Int, ((a1 = none ∧ len1 = 0 ∧ cap1 = 0 ∧ zs = []) ∨ ∃ x, a1 = some x ∧ len1 ≤ cap1 ∧ cap1 ≤ maxLen ∧ zs.length = cap1 ∧ (∀ i, i < zs.length → W.cell? (x.add i) = some (.int .i32 (zs.getD i 0)))) ∧ cap1 ≤ 1048576 ∧ (∀ n ∈ zs, (Lit.int .i32 n).wf = true) := by
    obtain ⟨fuel, hf⟩ := h1
    rcases open_ints Try.underlying26 Try.underlying21 (by kernel_rfl) hf with ⟨hcs, _⟩ | ⟨x, l, c, zs, hcs, _, hl, hm, hz, hx, hcell, hwz⟩
    · simp [Value.cells] at hcs
      obtain ⟨rfl, rfl, rfl⟩ := hcs
      exact ⟨[], .inl ⟨rfl, rfl, rfl, rfl⟩, by omega, by simp⟩
    · simp [Value.cells] at hcs
      obtain ⟨rfl, rfl, rfl⟩ := hcs
      have hz' : zs.length = cap1 := by simpa using hz
      refine ⟨zs, .inr ⟨_, rfl, hl, hm, hz', hcell⟩, ?_, hwz⟩
      have hd : d1 = .slice (lits .i32 (zs.take len1)) (lits .i32 (zs.drop len1)) := by simp only [Prod.mk.injEq] at hx; exact hx.1
      rw [hd] at hb
      have h2 := bulk_slice (H := H) (lits .i32 (zs.take len1)) (lits .i32 (zs.drop len1))
      have e1 : (lits (H := H) .i32 (zs.take len1)).length = (zs.take len1).length := by simp [lits]
      have e2 : (lits (H := H) .i32 (zs.drop len1)).length = (zs.drop len1).length := by simp [lits]
      rw [e1, e2, List.length_take, List.length_drop] at h2
      omega
  have hlc1 : len1 ≤ cap1 := by rcases w1 with ⟨_, h, h', _⟩ | ⟨_, _, h, _⟩ <;> omega
  have hzc1 : z1.length = cap1 := w1.elim (fun ⟨_, _, h, h'⟩ => by rw [h', h]; rfl) (fun ⟨_, _, _, _, h, _⟩ => h)
  have hle1 : (z1.take len1).length = len1 := by rw [List.length_take]; omega
  have hrd1 : Reads W a1 (z1.take len1) := by
    intro i hi
    rw [hle1] at hi
    rcases w1 with ⟨_, h, _⟩ | ⟨x, h1, h2, h3, h4, h5⟩
    · omega
    · obtain ⟨b, off, rfl, hc⟩ := ints_at h5 (by omega)
      refine ⟨b, off, h1, (hc i (by omega)).trans ?_⟩
      simp [List.getD, hi]
  clear hA0
  have hwk := walk rest0 a0 n0 c0 l0 a1 (z1.take len1) cap1 a2 W hl0 hn0 hp0 hrd1 (by rw [hle1]; omega) c1 c2
  rw [hle1] at hwk
  refine hwk.mono fun e W' ⟨he, bel⟩ => ?_
  subst he
  exact ⟨_, rfl, _, _, _, [], _, [], hW', trodAll_mk1 (shut_bool Try.underlying4 _), (trodAll_cons_mk (Below.trod laidOut (by kernel_rfl) (of_decide_eq_true (by kernel_rfl)) k0 bel lt0) (trodAll_cons_mk (Below.trod laidOut (by kernel_rfl) (of_decide_eq_true (by kernel_rfl)) k1 bel lt1) (trodAll_cons_mk (shut_string Try.underlying9 w2) trodAll_mk0))), rfl, bel.frame _, fun h => by cases h⟩

set_option maxRecDepth 100000 in
theorem lifted (os : Os) (started : os.Started) (H : Type) (enc : TypeId × Value → H) (F : Stop.Interp) :
    ReturnsInHanded {} Try.checked os 3 .any ((Rows.OpenSpec.upto Rows.parasClassesSpec).pre6 enc Try.prog Try.f3 Rows.parasClassesUptoRow.domain false) (((Rows.OpenSpec.upto Rows.parasClassesSpec).at F).post enc Try.prog Try.f3 false true false false) := by
  refine returnsInHanded_of_cond (C := Try.checked) (s := Rows.OpenSpec.upto Rows.parasClassesSpec) (k := Rows.uptoSmall) rfl own started (by kernel_rfl) Try.func3
    (OpenSpec.witness (enc := enc) (C := Try.checked) (s := Rows.OpenSpec.upto Rows.parasClassesSpec) (k := Rows.uptoSmall) rfl false ⟨#[], #[.agg #[.int .u8 0, .slice none 0 0], .slice none 0 0, .string ByteArray.empty], []⟩ 8 (by kernel_rfl) (by kernel_rfl) (by kernel_rfl)
      (x := ([.agg [.lit (.int .u8 0), .nil], .nil, .lit (.string [])], [], [])) (by kernel_rfl) rfl (by kernel_rfl)) ?_
  intro W base args ds gs before hval hW _ hk _
  exact contract H enc W base args ds gs before hval hW hk

theorem over : Rows.parasClassesUptoRow.holds Try.pinned (Rows.OpenSpec.upto Rows.parasClassesSpec) :=
  OpenClaim.holds_of_cond 3 Try.f3 rfl rfl rfl rfl rfl rfl rfl ⟨rfl, rfl, rfl, rfl, rfl⟩ rfl rfl rfl rfl rfl (by kernel_rfl) Try.func3 (by kernel_rfl)
    (of_decide_eq_true (by kernel_rfl)) (by unfold Func.isWrapper; first | (rw [if_pos (by decide +kernel)]; kernel_rfl) | (rw [if_neg (by decide +kernel)]; exact ⟨rfl, rfl⟩))
    (fun os started H enc _ F => lifted os started H enc F)

end Go.Proofs.Ytkckkchnmgidgaa.parasClasses
namespace Go.Proofs.Ytkckkchnmgidgaa
theorem parasClasses_upto : Rows.ParasClassesUptoSaid := parasClasses.over
end Go.Proofs.Ytkckkchnmgidgaa

