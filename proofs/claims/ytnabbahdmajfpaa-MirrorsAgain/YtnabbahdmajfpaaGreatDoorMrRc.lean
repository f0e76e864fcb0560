/-
  The document's Check, for every list.
-/
import Derived.Test.YtnabbahdmajfpaaGreatDoorMrC
namespace Go.Proofs.YtnabbahdmajfpaaGreatDoor
open Go.RowKit Go.PlainAid Go.Maps
set_option linter.unusedVariables false
set_option linter.unusedSimpArgs false

theorem memDrew {w : World} {a : Option Addr} {l : List MirD} (h : MrMem w a l) (m : Nat) : MrMem (w.drewN m) a l := h.below (below_drewN (Below.refl _ _) m)
theorem mem_at {w : World} {g off : Nat} {l : List MirD} (h : MrMem w (some ⟨g, off, none⟩) l) {k : Nat} {y : MirD} (hy : l[k]? = some y) : w.cell? ⟨g, off + k * 4 + 1, none⟩ = some (.int .i32 y.frm) ∧ w.cell? ⟨g, off + k * 4 + 2, none⟩ = some (.int .i32 y.to) := by
  obtain ⟨g', off', e, hc⟩ := h k y hy
  simp only [Option.some.injEq, Addr.mk.injEq, and_true] at e
  obtain ⟨rfl, rfl⟩ := e
  exact ⟨hc 1 _ rfl, hc 2 _ rfl⟩
def backT (l : List MirD) (x : MirD) (k : Nat) : Bool := (l.take k).any fun y => decide (y.frm = x.to) && decide (y.to = x.frm)
theorem backT_succ {l : List MirD} {x y : MirD} {k : Nat} (hy : l[k]? = some y) : backT l x (k + 1) = (backT l x k || (decide (y.frm = x.to) && decide (y.to = x.frm))) := by
  unfold backT
  rw [List.take_add_one, hy, List.any_append]
  simp
theorem backT_all {l : List MirD} {i : Nat} {x : MirD} (hx : l[i]? = some x) : backT l x l.length = backM l i := by
  unfold backT backM
  rw [List.take_length, getD_at hx]

set_option maxRecDepth 100000 in
set_option maxHeartbeats 4000000 in
theorem refCheck9_any (l : List MirD) (a : Option Addr) (n c : Nat) (w : World) (hn : l.length = n) (hnb : n ≤ 1099511627776) (hm : MrMem w a l) :
    Calls Tryz.prog 19 #[.slice a n c] w fun e w' => e = .returned (.tuple #[.int .i64 ((chkM l).1 : Nat), .int .i64 (chkM l).2]) ∧ Below w.heap.size w w' := by
  have HN := hideM hn
  have HM := hideM hm
  have HPT := hideM refPoint_any
  clear hn hm
  go_enter Tryz.func19, Tryz.ntmps19
  go_wp2
  go_loopw [4] (fun v4 wr => ∃ (i m : Nat), v4 = .int .i64 i ∧ i ≤ n ∧ Hid (∀ k, k < i → wrongM l k = 0) ∧ wr = w.drewN m) (fun v4 _ => n - (RowKit.intOf v4).toNat)
  case atStart => exact ⟨0, 0, rfl, Nat.zero_le _, fun k hk => by omega, rfl⟩
  case round =>
    obtain ⟨i, m, rfl, hi, HW, rfl⟩ := hrel
    obtain ⟨WX, hWX⟩ : ∃ WX, w.drewN m = WX := ⟨_, rfl⟩
    have hMX : MrMem WX a l := by rw [← hWX]; exact memDrew (unhideM HM) m
    rw [hWX]
    have HWX := hideM hWX
    clear hWX
    by_cases hlt : i < n
    · obtain ⟨x, hx⟩ : ∃ x, l[i]? = some x := ⟨_, List.getElem?_eq_getElem (by rw [unhideM HN]; exact hlt)⟩
      obtain ⟨g, off, rfl, hc⟩ := hMX i x hx
      have cx1 := hc 1 _ rfl
      have cx2 := hc 2 _ rfl
      have hlt' : (i : Int) < (n : Int) := by omega
      have hq1 : IntKind.i64.wrap ((i : Int) + 1) = (i : Int) + 1 := by rw [IntKind.wrap_i64]; omega
      have HLT : Hid (i < l.length) := by show _ < _; rw [unhideM HN]; exact hlt
      have HBW : Hid (Below w.heap.size w WX) := by show Below _ _ _; rw [← unhideM HWX]; exact below_drewN (Below.refl _ _) m
      have hwy : whyM x = if isPtM x.frm && isPtM x.to then (if x.frm = x.to then 91 else 0) else 2 := rfl
      have hP1 := fun V => unhideM HPT x.frm V
      have hP2 := fun V => unhideM HPT x.to V
      have tok : True := trivial
      cases h1 : isPtM x.frm with
      | false =>
        have HE : Hid (chkM l = (i, 2)) := by
          have e : whyM x = 2 := by rw [hwy, h1]; rfl
          have := chk_wrong (unhideM HLT) (unhideM HW) (by rw [wrong_why hx (by rw [e]; decide), e]; decide)
          rwa [wrong_why hx (by rw [e]; decide), e] at this
        rw [h1] at hP1
        have HP1 := hideM hP1
        clear hP1 hP2 hwy h1 hc hx hMX HW
        go_wp2_with (go_at_call 38; with_reducible refine (unhideM HP1 _).mono ?_; rintro e w' ⟨rfl, hw⟩; obtain rfl : WX = w' := hw.symm)
        go_ret2
        exact ⟨by rw [unhideM HE]; rfl, unhideM HBW⟩
      | true =>
        cases h2 : isPtM x.to with
        | false =>
          have HE : Hid (chkM l = (i, 2)) := by
            have e : whyM x = 2 := by rw [hwy, h1, h2]; rfl
            have := chk_wrong (unhideM HLT) (unhideM HW) (by rw [wrong_why hx (by rw [e]; decide), e]; decide)
            rwa [wrong_why hx (by rw [e]; decide), e] at this
          rw [h1] at hP1
          rw [h2] at hP2
          have HP1 := hideM hP1
          have HP2 := hideM hP2
          clear hP1 hP2 hwy h1 h2 hc hx hMX HW
          go_wp2_with (first | (go_at_call 38; have _t := tok; with_reducible refine (unhideM HP1 _).mono ?_; rintro e w' ⟨rfl, hw⟩; obtain rfl : WX = w' := hw.symm; clear tok) | (go_at_call 38; with_reducible refine (unhideM HP2 _).mono ?_; rintro e w' ⟨rfl, hw⟩; obtain rfl : WX = w' := hw.symm))
          go_ret2
          exact ⟨by rw [unhideM HE]; rfl, unhideM HBW⟩
        | true =>
          rw [h1, h2] at hwy
          simp only [Bool.and_self, if_true] at hwy
          rw [h1] at hP1
          rw [h2] at hP2
          have HP1 := hideM hP1
          have HP2 := hideM hP2
          by_cases h3 : x.frm = x.to
          · have HE : Hid (chkM l = (i, 91)) := by
              rw [if_pos h3] at hwy
              have := chk_wrong (unhideM HLT) (unhideM HW) (by rw [wrong_why hx (by rw [hwy]; decide), hwy]; decide)
              rwa [wrong_why hx (by rw [hwy]; decide), hwy] at this
            have d3 : (x.frm == x.to) = true := by simpa using h3
            clear hP1 hP2 hwy h1 h2 hc hx hMX HW h3
            go_wp2_with (first | (go_at_call 38; have _t := tok; with_reducible refine (unhideM HP1 _).mono ?_; rintro e w' ⟨rfl, hw⟩; obtain rfl : WX = w' := hw.symm; clear tok) | (go_at_call 38; with_reducible refine (unhideM HP2 _).mono ?_; rintro e w' ⟨rfl, hw⟩; obtain rfl : WX = w' := hw.symm))
            go_quiet (fail)
            go_wp2
            go_ret2
            exact ⟨by rw [unhideM HE]; rfl, below_drewN (unhideM HBW) _⟩
          · have d3 : (x.frm == x.to) = false := by simpa using h3
            rw [if_neg h3] at hwy
            have HWN := hideM (wrong_no hx hwy)
            have HX := hideM hx
            clear hP1 hP2 hwy h1 h2 hc hx h3 hMX
            go_wp2_with (first | (go_at_call 38; have _t := tok; with_reducible refine (unhideM HP1 _).mono ?_; rintro e w' ⟨rfl, hw⟩; obtain rfl : WX = w' := hw.symm; clear tok) | (go_at_call 38; with_reducible refine (unhideM HP2 _).mono ?_; rintro e w' ⟨rfl, hw⟩; obtain rfl : WX = w' := hw.symm))
            go_quiet (fail)
            go_wp2
            go_loopw [5] (fun v5 wr => ∃ (k q : Nat), v5 = .int .i64 k ∧ k ≤ i ∧ Hid (∀ y ∈ l.take k, y.frm ≠ x.frm) ∧ wr = w.drewN q) (fun v5 _ => i - (RowKit.intOf v5).toNat)
            case atStart => exact ⟨0, m + nq, rfl, Nat.zero_le _, fun y hy => by simp at hy, by rw [← unhideM HWX]; exact World.drewN_drewN _ _ _⟩
            case round =>
              obtain ⟨k, q, rfl, hk, HD, rfl⟩ := hrel
              obtain ⟨WY, hWY⟩ : ∃ WY, w.drewN q = WY := ⟨_, rfl⟩
              have hMY : MrMem WY (some ⟨g, off, none⟩) l := by rw [← hWY]; exact memDrew (unhideM HM) q
              rw [hWY]
              have HWY := hideM hWY
              have HBY : Hid (Below w.heap.size w WY) := by show Below _ _ _; rw [← hWY]; exact below_drewN (Below.refl _ _) q
              clear hWY
              by_cases hki : k < i
              · obtain ⟨y, hy⟩ : ∃ y, l[k]? = some y := ⟨_, List.getElem?_eq_getElem (by have := unhideM HLT; omega)⟩
                obtain ⟨cy1, _⟩ := mem_at hMY hy
                obtain ⟨cx1', _⟩ := mem_at hMY (unhideM HX)
                have hki' : (k : Int) < (i : Int) := by omega
                have hkn : (k : Int) < (n : Int) := by omega
                have hq2 : IntKind.i64.wrap ((k : Int) + 1) = (k : Int) + 1 := by rw [IntKind.wrap_i64]; omega
                by_cases hyx : y.frm = x.frm
                · have HE : Hid (chkM l = (i, 92)) := by
                    have ha : againM l i = true := by
                      unfold againM
                      rw [getD_at (unhideM HX), List.any_eq_true]
                      refine ⟨y, ?_, by simpa using hyx⟩
                      rw [List.mem_take_iff_getElem]
                      have := (List.getElem?_eq_some_iff.1 hy).1
                      exact ⟨k, by omega, (List.getElem?_eq_some_iff.1 hy).2⟩
                    have e := unhideM HWN
                    rw [ha] at e
                    have := chk_wrong (unhideM HLT) (unhideM HW) (by rw [e]; decide)
                    rwa [e] at this
                  have d4 : (y.frm == x.frm) = true := by simpa using hyx
                  clear hMY hy hyx HD
                  go_wp2
                  go_quiet (fail)
                  go_wp2
                  go_ret2
                  exact ⟨by rw [unhideM HE]; rfl, below_drewN (unhideM HBY) _⟩
                · have d4 : (y.frm == x.frm) = false := by simpa using hyx
                  have HD2 : Hid (∀ z ∈ l.take (k + 1), z.frm ≠ x.frm) := fun z hz => by
                    rw [List.take_add_one, hy] at hz
                    rcases List.mem_append.1 hz with hz | hz
                    · exact unhideM HD z hz
                    · simp at hz; subst hz; exact hyx
                  clear hMY hy hyx HD
                  go_wp2
                  go_quiet (fail)
                  go_wp2
                  go_roundw
                  case rel => exact ⟨k + 1, q + nq, by go_num, by omega, HD2, by rw [← unhideM HWY]; exact World.drewN_drewN _ _ _⟩
                  case measure => simp [RowKit.intOf]; omega
              · obtain rfl : k = i := by omega
                have HW2 : Hid (∀ j, j < k + 1 → wrongM l j = 0) := fun j hj => by
                  by_cases h : j < k
                  · exact unhideM HW j h
                  · obtain rfl : j = k := by omega
                    have ha : againM l j = false := by
                      unfold againM
                      rw [getD_at (unhideM HX), List.any_eq_false]
                      intro z hz
                      simpa using unhideM HD z hz
                    rw [unhideM HWN, ha]; rfl
                clear HD hMY
                go_wp2
                go_roundw
                case rel => exact ⟨k + 1, q, by go_num, by omega, HW2, (unhideM HWY).symm⟩
                case measure => simp [RowKit.intOf]; omega
    · obtain rfl : i = n := by omega
      have HWA : Hid (∀ k, k < l.length → wrongM l k = 0) := by show ∀ _, _; rw [unhideM HN]; exact unhideM HW
      clear HW hMX
      go_wp2
      go_loopw [6] (fun v6 wr => ∃ (j q : Nat), v6 = .int .i64 j ∧ j ≤ i ∧ Hid (∀ k, k < j → twistM l k = 0) ∧ wr = w.drewN q) (fun v6 _ => i - (RowKit.intOf v6).toNat)
      case atStart => exact ⟨0, m, rfl, Nat.zero_le _, fun k hk => by omega, (unhideM HWX).symm⟩
      case round =>
        obtain ⟨j, q, rfl, hj, HT, rfl⟩ := hrel
        obtain ⟨WY, hWY⟩ : ∃ WY, w.drewN q = WY := ⟨_, rfl⟩
        rw [hWY]
        have HWY := hideM hWY
        have HBY : Hid (Below w.heap.size w WY) := by show Below _ _ _; rw [← hWY]; exact below_drewN (Below.refl _ _) q
        have hMY : MrMem WY a l := by rw [← hWY]; exact memDrew (unhideM HM) q
        clear hWY
        by_cases hlt : j < i
        · obtain ⟨x, hx⟩ : ∃ x, l[j]? = some x := ⟨_, List.getElem?_eq_getElem (by rw [unhideM HN]; exact hlt)⟩
          obtain ⟨g, off, rfl, _⟩ := hMY j x hx
          have hlt' : (j : Int) < (i : Int) := by omega
          have hq1 : IntKind.i64.wrap ((j : Int) + 1) = (j : Int) + 1 := by rw [IntKind.wrap_i64]; omega
          have HX := hideM hx
          clear hx hMY
          go_wp2
          go_loopw [7, 8] (fun v7 v8 wr => ∃ (k r : Nat), v8 = .int .i64 k ∧ k ≤ i ∧ v7 = .bool (backT l x k) ∧ wr = w.drewN r) (fun _ v8 _ => i - (RowKit.intOf v8).toNat)
          case atStart => exact ⟨0, q, rfl, Nat.zero_le _, rfl, (unhideM HWY).symm⟩
          case round =>
            obtain ⟨k, r, rfl, hk, rfl, rfl⟩ := hrel
            obtain ⟨WZ, hWZ⟩ : ∃ WZ, w.drewN r = WZ := ⟨_, rfl⟩
            rw [hWZ]
            have HWZ := hideM hWZ
            have HBZ : Hid (Below w.heap.size w WZ) := by show Below _ _ _; rw [← hWZ]; exact below_drewN (Below.refl _ _) r
            have hMZ : MrMem WZ (some ⟨g, off, none⟩) l := by rw [← hWZ]; exact memDrew (unhideM HM) r
            clear hWZ
            by_cases hki : k < i
            · obtain ⟨y, hy⟩ : ∃ y, l[k]? = some y := ⟨_, List.getElem?_eq_getElem (by rw [unhideM HN]; exact hki)⟩
              obtain ⟨cy1, cy2⟩ := mem_at hMZ hy
              obtain ⟨cx1, cx2⟩ := mem_at hMZ (unhideM HX)
              have hki' : (k : Int) < (i : Int) := by omega
              have hq2 : IntKind.i64.wrap ((k : Int) + 1) = (k : Int) + 1 := by rw [IntKind.wrap_i64]; omega
              have hbs := backT_succ (x := x) hy
              cases hbk : backT l x k with
              | true =>
                rw [hbk, Bool.true_or] at hbs
                have HBS := hideM hbs
                clear hMZ hy hbs hbk
                go_wp2
                go_quiet (fail)
                go_wp2
                go_roundw
                case rel => exact ⟨k + 1, r + nq, by go_num, by omega, by rw [unhideM HBS], by rw [← unhideM HWZ]; exact World.drewN_drewN _ _ _⟩
                case measure => simp [RowKit.intOf]; omega
              | false =>
                rw [hbk, Bool.false_or] at hbs
                by_cases h1 : y.frm = x.to
                · have d1 : (y.frm == x.to) = true := by simpa using h1
                  rw [decide_eq_true h1, Bool.true_and] at hbs
                  have hbs' : backT l x (k + 1) = (y.to == x.frm) := by rw [hbs]; cases h : decide (y.to = x.frm) <;> simp_all
                  obtain ⟨b, hb⟩ : ∃ b, (y.to == x.frm) = b := ⟨_, rfl⟩
                  rw [hb] at hbs'
                  have HBS := hideM hbs'
                  clear hMZ hy hbs hbs' hbk h1
                  go_wp2
                  go_quiet (fail)
                  go_wp2
                  go_roundw
                  case rel => exact ⟨k + 1, r + nq, by go_num, by omega, by rw [unhideM HBS], by rw [← unhideM HWZ]; exact World.drewN_drewN _ _ _⟩
                  case measure => simp [RowKit.intOf]; omega
                · have d1 : (y.frm == x.to) = false := by simpa using h1
                  rw [decide_eq_false h1, Bool.false_and] at hbs
                  have HBS := hideM hbs
                  clear hMZ hy hbs hbk h1
                  go_wp2
                  go_quiet (fail)
                  go_wp2
                  go_roundw
                  case rel => exact ⟨k + 1, r + nq, by go_num, by omega, by rw [unhideM HBS], by rw [← unhideM HWZ]; exact World.drewN_drewN _ _ _⟩
                  case measure => simp [RowKit.intOf]; omega
            · obtain rfl : k = i := by omega
              have hball : backT l x k = backM l j := by
                have := backT_all (unhideM HX)
                rwa [unhideM HN] at this
              rw [hball]
              have HLT : Hid (j < l.length) := by show _ < _; rw [unhideM HN]; exact hlt
              cases hb : backM l j with
              | true =>
                have HT2 : Hid (∀ p, p < j + 1 → twistM l p = 0) := fun p hp => by
                  by_cases h : p < j
                  · exact unhideM HT p h
                  · obtain rfl : p = j := by omega
                    unfold twistM; rw [hb]; rfl
                clear hball hb HT hMZ
                go_wp2
                go_roundw
                case rel => exact ⟨j + 1, r, by go_num, by omega, HT2, (unhideM HWZ).symm⟩
                case measure => simp [RowKit.intOf]; omega
              | false =>
                have HE : Hid (chkM l = (j, 90)) := chk_twist (unhideM HWA) (unhideM HLT) (unhideM HT) (by unfold twistM; rw [hb]; decide)
                clear hball hb HT hMZ
                go_wp2
                go_ret2
                exact ⟨by rw [unhideM HE]; rfl, unhideM HBZ⟩
        · obtain rfl : j = i := by omega
          have HE : Hid (chkM l = (0, 0)) := chk_ok (unhideM HWA) (by rw [unhideM HN]; exact unhideM HT)
          clear HT hMY
          go_wp2
          go_ret2
          exact ⟨by rw [unhideM HE]; rfl, unhideM HBY⟩
end Go.Proofs.YtnabbahdmajfpaaGreatDoor
