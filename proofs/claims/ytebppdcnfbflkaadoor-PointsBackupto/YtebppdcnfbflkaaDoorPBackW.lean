/-
  PointsBack: the law's walk.
-/
import Derived.Test.YtebppdcnfbflkaaDoorPBackM
import Derived.Test.YtebppdcnfbflkaaDoorPTexts
import Derived.Deep.Cut
namespace Go.Proofs.YtebppdcnfbflkaaDoor
open Go.RowKit Go.PlainAid Go.Lib Go.Shelf Go.PHexM
set_option linter.unusedVariables false

theorem show_back (r : Int) : ∃ (S : ByteArray) (e : Int),
    (∀ W, tz16At W → Calls Tryd.prog 7 #[.int .i32 r] W fun x w' => x = .returned (.tuple #[.string S, .int .i64 e]) ∧ Below W.heap.size W w') ∧
    (e = 0 → 4 ≤ S.size ∧ ∀ W, Calls Tryd.prog 5 #[.string S] W fun x w' => x = .returned (.tuple #[.int .i32 r, .int .i64 0]) ∧ w' = W) := by
  by_cases h : r < 0 ∨ 1114111 < r
  · exact ⟨_, _, fun W _ => (show_no r h W).mono fun x w' ⟨e1, e2⟩ => ⟨e1, by rw [e2]; exact Below.refl _ _⟩, fun h => by cases h⟩
  · obtain ⟨n, rfl⟩ : ∃ n : Nat, r = n := ⟨r.toNat, by omega⟩
    refine ⟨_, _, fun W hg => show_any n (by omega) W hg, fun _ => ⟨?_, fun W => ?_⟩⟩
    · rw [hexS_size]; unfold showLen; split <;> (try split) <;> omega
    · have := hex_any (hexS (showLen n) n) W
      rwa [show hexV (hexS (showLen n) n).data.toList = .tuple #[.int .i32 (n : Int), .int .i64 0] from hexV_some (hex_show (by omega))] at this
theorem showSpan_back (m lo hi : Int) : ∃ (S : ByteArray) (e : Int),
    (∀ W, tz16At W → Calls Tryd.prog 13 #[.agg #[.int .i32 lo, .int .i32 hi]] W fun x w' => x = .returned (.tuple #[.string S, .int .i64 e]) ∧ Below W.heap.size W w') ∧
    ((e == 0) = mayB lo hi) ∧
    (e = 0 → ∀ W, W.cell? ⟨2, 0, none⟩ = some (.int .i64 m) → Calls Tryd.prog 11 #[.string S] W fun x w' => x = .returned (spanE lo hi 0) ∧ Below W.heap.size W w') := by
  cases h : mayB lo hi with
  | false => exact ⟨_, _, fun W _ => showSpan_no lo hi h W, rfl, fun h => by cases h⟩
  | true =>
    obtain ⟨h1, h2, h3⟩ := mayB_iff.1 h
    obtain ⟨a, rfl⟩ : ∃ n : Nat, lo = n := ⟨lo.toNat, by omega⟩
    obtain ⟨b, rfl⟩ : ∃ n : Nat, hi = n := ⟨hi.toNat, by omega⟩
    refine ⟨_, _, fun W hg => showSpan_yes a b (by omega) (by omega) W hg, rfl, fun _ W hm => ?_⟩
    have hsz : (spanS a b).size ≤ 14 := by
      have e : (spanS a b).size = (spanS a b).data.toList.length := by simp
      have l : ∀ n, (showP n).length ≤ 6 := fun n => by rw [showP, hexUp_len]; unfold showLen; split <;> (try split) <;> omega
      have := l a; have := l b
      rw [e, spanS_list]
      split
      · omega
      · simp only [List.length_append, List.length_cons, List.length_nil]; omega
    have := span_any m (spanS a b) W (by omega) hm
    rwa [span_show (by omega) (by omega)] at this
theorem hex_back (s : ByteArray) : ∃ (x e : Int),
    (∀ W, Calls Tryd.prog 5 #[.string s] W fun y w' => y = .returned (.tuple #[.int .i32 x, .int .i64 e]) ∧ w' = W) ∧
    (e = 0 → ∀ W, tz16At W → Calls Tryd.prog 7 #[.int .i32 x] W fun y w' => y = .returned (.tuple #[.string s, .int .i64 0]) ∧ Below W.heap.size W w') := by
  cases h : hexP s.data.toList with
  | none =>
    refine ⟨0, 40, fun W => ?_, fun h => by cases h⟩
    have := hex_any s W
    rwa [hexV_none h] at this
  | some n =>
    refine ⟨n, 0, fun W => ?_, fun _ W hg => ?_⟩
    · have := hex_any s W
      rwa [hexV_some h] at this
    · have := show_any n (hexP_parts h).2.2 W hg
      rwa [show hexS (showLen n) n = s by
        apply ByteArray.ext; apply Array.toList_inj.1; exact show_hex h] at this
theorem span_back (m : Int) (s : ByteArray) (hs : s.size < 4294967281) : ∃ (x y e : Int),
    (∀ W, W.cell? ⟨2, 0, none⟩ = some (.int .i64 m) → Calls Tryd.prog 11 #[.string s] W fun z w' => z = .returned (spanE x y e) ∧ Below W.heap.size W w') ∧
    (e = 0 → (x ≠ y ∨ s.size ≤ 6) → ∀ W, tz16At W → Calls Tryd.prog 13 #[.agg #[.int .i32 x, .int .i32 y]] W fun z w' => z = .returned (.tuple #[.string s, .int .i64 0]) ∧ Below W.heap.size W w') := by
  obtain ⟨x, y, e, h⟩ := spanV_form s.data.toList
  refine ⟨x, y, e, fun W hm => ?_, ?_⟩
  · have := span_any m s W hs hm
    rwa [h] at this
  · rintro rfl hc W hg
    obtain ⟨a, b, rfl, rfl, hab, hb, hS⟩ := show_span h
    have := showSpan_yes a b hab hb W hg
    rwa [show spanS a b = s by
      apply ByteArray.ext; apply Array.toList_inj.1; exact hS (by simpa using hc)] at this

/-- the law's own memory: the range's box -/
def BkW (w W : World) (lo hi : Int) : Prop := Below w.heap.size w W ∧ W.heap[w.heap.size]? = some (.cells #[.int .i32 lo, .int .i32 hi] 23 (0, 0))
theorem BkW.next {w W V : World} {lo hi : Int} (h : BkW w W lo hi) (hb : Below W.heap.size W V) : BkW w V lo hi :=
  ⟨h.1.trans (hb.mono h.1.size), (hb.block w.heap.size (Array.getElem?_eq_some_iff.1 h.2).1).trans h.2⟩
theorem BkW.c0 {w W : World} {lo hi : Int} (h : BkW w W lo hi) : W.cell? ⟨w.heap.size, 0, none⟩ = some (.int .i32 lo) := by simp [World.cell?, h.2]
theorem BkW.c1 {w W : World} {lo hi : Int} (h : BkW w W lo hi) : W.cell? ⟨w.heap.size, 1, none⟩ = some (.int .i32 hi) := by simp [World.cell?, h.2]

set_option maxRecDepth 100000 in
set_option maxHeartbeats 4000000 in
theorem back_walk (m : Int) (r lo hi : Int) (s : ByteArray) (w : World) (hs : s.size < 4294967281) (hm : w.cell? ⟨2, 0, none⟩ = some (.int .i64 m)) (hg : tz16At w) :
    Calls Tryd.prog 4 #[.int .i32 r, .agg #[.int .i32 lo, .int .i32 hi], .string s] w fun e w' => e = .returned (.bool true) ∧ Below w.heap.size w w' := by
  have hmB : 2 < w.heap.size := World.block_lt_of_cell? _ _ hm
  have hgB : 6 < w.heap.size := World.block_lt_of_cell? _ _ hg
  obtain ⟨S, e1, hS1, hS2⟩ := show_back r
  obtain ⟨T, e2, hT1, hT2, hT3⟩ := showSpan_back m lo hi
  obtain ⟨x, e3, hX1, hX2⟩ := hex_back s
  obtain ⟨sx, sy, e4, hY1, hY2⟩ := span_back m s hs
  have HG : Hid (∀ V, BkW w V lo hi → tz16At V) := fun V hV => (hV.1.cell hgB).trans hg
  have HM : Hid (∀ V, BkW w V lo hi → V.cell? ⟨2, 0, none⟩ = some (.int .i64 m)) := fun V hV => (hV.1.cell hmB).trans hm
  have HMy : Hid (∀ V : World, Calls Tryd.prog 9 #[.agg #[.int .i32 lo, .int .i32 hi]] V fun e w' => e = .returned (.bool (mayB lo hi)) ∧ Below V.heap.size V w') := fun V => (may_any lo hi V).mono fun e w' ⟨h1, h2⟩ => ⟨h1, by rw [h2]; exact (Below.refl _ V).alloc (Nat.le_refl _) _⟩
  have HS1 := hide hS1
  have HS2 := hide hS2
  have HT1 := hide hT1
  have HT2 := hide hT2
  have HT3 := hide hT3
  have HX1 := hide hX1
  have HX2 := hide hX2
  have HY1 := hide hY1
  have HY2 := hide hY2
  clear hS1 hS2 hT1 hT2 hT3 hX1 hX2 hY1 hY2 hm hg hmB hgB hs
  have b0 := (Below.refl w.heap.size w).alloc (Nat.le_refl _) (.cells #[.int .i32 lo, .int .i32 hi] 23)
  have x0 : (w.alloc (.cells #[.int .i32 lo, .int .i32 hi] 23)).heap[w.heap.size]? = some (.cells #[.int .i32 lo, .int .i32 hi] 23 (0, 0)) := heap_alloc_new w _
  have I0 : Hid (BkW w (w.alloc (.cells #[.int .i32 lo, .int .i32 hi] 23)) lo hi) := ⟨b0, x0⟩
  clear b0 x0
  go_enter Tryd.func4, Tryd.ntmps4
  go_wp2_with fail
  generalize w.alloc (.cells #[.int .i32 lo, .int .i32 hi] 23) = W at I0 ⊢
  refine (unhide HS1 W (unhide HG W (unhide I0))).mono ?_
  rintro e W1 ⟨rfl, hb1⟩
  have I1 := hide ((unhide I0).next hb1)
  clear hb1 I0 HS1
  go_upto_if 26 with fail
  go_cut [8] from 9 (fun v8 wx => v8 = .int .i64 e1 ∧ Hid (BkW w wx lo hi))
  case first =>
    by_cases h : e1 = 0
    · obtain ⟨k1, k2⟩ := unhide HS2 h
      subst h
      have k3 : ¬ ((S.size : Int) < 4) := by omega
      have K2 := hide k2
      clear k1 k2
      go_wp2_with fail
      refine (unhide K2 _).mono ?_
      rintro e w' ⟨rfl, h⟩
      obtain rfl : W1 = w' := h.symm
      go_wp2_with fail
      go_meet
      case rel => exact ⟨rfl, I1⟩
    · have hb : (e1 == 0) = false := by simp [h]
      go_wp2_with fail
      go_meet
      case rel => exact ⟨rfl, I1⟩
  case rest =>
    obtain ⟨rfl, I2⟩ := hcut
    clear I1 HS2
    have c0 := (unhide I2).c0
    have c1 := (unhide I2).c1
    go_wp2_with fail
    refine (unhide HT1 wc (unhide HG wc (unhide I2))).mono ?_
    rintro e W2 ⟨rfl, hb2⟩
    have I3 := hide ((unhide I2).next hb2)
    clear hb2 I2 HT1 c0 c1
    go_upto_if 50 with fail
    go_cut [8] from 9 (fun v8 wx => v8 = .int .i64 e2 ∧ Hid (BkW w wx lo hi))
    case first =>
      by_cases h : e2 = 0
      · have k2 := unhide HT3 h
        subst h
        have K2 := hide (k2 W2 (unhide HM W2 (unhide I3)))
        clear k2
        go_wp2_with fail
        refine (unhide K2).mono ?_
        rintro e W3 ⟨rfl, hb3⟩
        have I4 := (unhide I3).next hb3
        have I5 := hide (I4.next ((Below.refl W3.heap.size W3).alloc (Nat.le_refl _) (.cells #[.int .i32 lo, .int .i32 hi] 23)))
        have x5 : (W3.alloc (.cells #[.int .i32 lo, .int .i32 hi] 23)).heap[W3.heap.size]? = some (.cells #[.int .i32 lo, .int .i32 hi] 23 (0, 0)) := heap_alloc_new W3 _
        have d0 := (unhide I5).c0
        have d1 := (unhide I5).c1
        have X5 := hide x5
        clear hb3 I4 K2 x5
        go_wp2_with fail
        go_meet
        case rel => exact ⟨rfl, I5⟩
      · have hb : (e2 == 0) = false := by simp [h]
        go_wp2_with fail
        go_meet
        case rel => exact ⟨rfl, I3⟩
    case rest =>
      obtain ⟨rfl, I4⟩ := hcut
      clear I3 HT3
      go_wp2_with fail
      refine (unhide HX1 _).mono ?_
      rintro e w' ⟨rfl, h⟩
      obtain rfl : wc = w' := h.symm
      go_upto_if 69 with fail
      go_cut [8] from 9 (fun v8 wx => v8 = .int .i64 e2 ∧ Hid (BkW w wx lo hi))
      case first =>
        by_cases h : e3 = 0
        · have k2 := unhide HX2 h
          subst h
          have K2 := hide (k2 wc (unhide HG wc (unhide I4)))
          clear k2
          go_wp2_with fail
          refine (unhide K2).mono ?_
          rintro e W3 ⟨rfl, hb3⟩
          have I5 := hide ((unhide I4).next hb3)
          clear hb3 K2
          go_wp2_with fail
          go_meet
          case rel => exact ⟨rfl, I5⟩
        · have hb : (e3 == 0) = false := by simp [h]
          go_wp2_with fail
          go_meet
          case rel => exact ⟨rfl, I4⟩
      case rest =>
        rename_i wd
        obtain ⟨rfl, I5⟩ := hcut
        clear I4 HX1 HX2
        go_wp2_with fail
        refine (unhide HY1 _ (unhide HM _ (unhide I5))).mono ?_
        rintro e W3 ⟨rfl, hb3⟩
        have I6 := (unhide I5).next hb3
        have I7 := hide (I6.next ((Below.refl W3.heap.size W3).alloc (Nat.le_refl _) (.cells #[.int .i32 sx, .int .i32 sy] 23)))
        have x7 : (W3.alloc (.cells #[.int .i32 sx, .int .i32 sy] 23)).heap[W3.heap.size]? = some (.cells #[.int .i32 sx, .int .i32 sy] 23 (0, 0)) := heap_alloc_new W3 _
        have X7 := hide x7
        clear hb3 I6 x7 I5
        go_upto_region 17 with fail
        generalize W3.alloc (.cells #[.int .i32 sx, .int .i32 sy] 23) = W7 at I7 X7 ⊢
        generalize W3.heap.size = n7 at X7 ⊢
        have p0 : W7.cell? ⟨n7, 0, none⟩ = some (.int .i32 sx) := by simp [World.cell?, unhide X7]
        have p1 : W7.cell? ⟨n7, 1, none⟩ = some (.int .i32 sy) := by simp [World.cell?, unhide X7]
        go_cut [14, 100] from 18 (fun v14 v100 wx => (∃ b : Bool, v100 = .bool b ∧ (b = true → e4 = 0 ∧ (sx ≠ sy ∨ s.size ≤ 6))) ∧ wx = W7)
        case first =>
          go_wp2
          all_goals go_meet
          all_goals (case rel => exact ⟨⟨_, rfl, fun h => by first | (exact absurd h (by decide)) | (simp at h; done) | (exact ⟨by assumption, by first | (exact .inl (by assumption)) | (exact .inr (by omega)) ⟩) | (have h' := of_decide_eq_true h; exact ⟨by assumption, .inr (by omega)⟩)⟩, rfl⟩)
        case rest =>
          obtain ⟨⟨b, rfl, hbc⟩, rfl⟩ := hcut
          have HBC := hide hbc
          clear hbc
          go_upto_if 100 with fail
          go_cut [8] from 9 (fun v8 wx => v8 = .int .i64 e2 ∧ Hid (BkW w wx lo hi))
          case first =>
            cases b with
            | true =>
              obtain ⟨h1, h2⟩ := unhide HBC rfl
              have K2 := hide (unhide HY2 h1 h2 wc (unhide HG wc (unhide I7)))
              clear h1 h2
              go_wp2_with fail
              refine (unhide K2).mono ?_
              rintro e W8 ⟨rfl, hb8⟩
              have I8 := hide ((unhide I7).next hb8)
              clear hb8 K2 p0 p1 X7
              go_wp2_with fail
              go_meet
              case rel => exact ⟨rfl, I8⟩
            | false =>
              go_wp2_with fail
              go_meet
              case rel => exact ⟨rfl, I7⟩
          case rest =>
            obtain ⟨rfl, I8⟩ := hcut
            clear I7 X7 p0 p1 HBC HY1 HY2
            have c0 := (unhide I8).c0
            have c1 := (unhide I8).c1
            have hE := unhide HT2
            have HLv : Hid (∀ V, BkW w V lo hi → Calls Tryd.prog 15 #[] V fun e w' => e = .returned (.bool true) ∧ Below V.heap.size V w') := fun V hV => lives_any m V (unhide HM V hV)
            generalize mayB lo hi = my at HMy hE
            cases my with
            | true =>
              obtain rfl : e2 = 0 := by simpa using hE
              clear hE
              go_wp2_with fail
              refine (unhide HMy _).mono ?_
              rintro e W9 ⟨rfl, hb9⟩
              have I9 := hide ((unhide I8).next hb9)
              clear hb9 c0 c1
              go_wp2_with fail
              refine (unhide HLv _ (unhide I9)).mono ?_
              rintro e Wa ⟨rfl, hba⟩
              have Ia := hide ((unhide I9).next hba)
              clear hba
              go_wp2_with fail
              go_ret
              exact ⟨rfl, (unhide Ia).1⟩
            | false =>
              have hb : (e2 == 0) = false := hE
              have hb' : ¬ e2 = 0 := by simpa using hE
              clear hE
              go_wp2_with fail
              refine (unhide HMy _).mono ?_
              rintro e W9 ⟨rfl, hb9⟩
              have I9 := hide ((unhide I8).next hb9)
              clear hb9 c0 c1
              go_wp2_with fail
              refine (unhide HLv _ (unhide I9)).mono ?_
              rintro e Wa ⟨rfl, hba⟩
              have Ia := hide ((unhide I9).next hba)
              clear hba
              go_wp2_with fail
              go_ret
              exact ⟨rfl, (unhide Ia).1⟩
end Go.Proofs.YtebppdcnfbflkaaDoor
