/-
  The law BracketsPairs, walked. Made by mkpairs.py.
-/
import Derived.Test.YtijiiapnbeljnaaGreatDoorTw
import Derived.Test.YtijiiapnbeljnaaGreatDoorBrAw
namespace Go.Proofs.YtijiiapnbeljnaaGreatDoor
open Go.RowKit Go.PlainAid Go.Lib Go.Shelf Go.PHexM
set_option linter.unusedVariables false
set_option linter.unusedSimpArgs false

theorem gath_ne {l : List ItD} {no why : Int} (h : gathP l = some (no, why)) : why ≠ 0 := by
  have key : ∀ (l : List ItD) (R : List BrD), bad1 R l = some (no, why) → why ≠ 0 := by
    intro l
    induction l with
    | nil => intro R h; cases h
    | cons t l ih =>
      intro R h
      rw [bad1] at h
      by_cases h0 : badOf R t = 0
      · rw [if_pos h0] at h; exact ih _ h
      · rw [if_neg h0] at h
        simp only [Option.some.injEq, Prod.mk.injEq] at h
        rw [← h.2]; exact h0
  unfold gathP at h
  cases h1 : bad1 [] l with
  | some e => rw [h1] at h; simp only [Option.some.injEq] at h; rw [h] at h1; exact key _ _ h1
  | none =>
    rw [h1] at h
    unfold bad2 at h
    obtain ⟨t, _, e⟩ := Option.map_eq_some_iff.1 h
    simp only [Prod.mk.injEq] at e
    omega
theorem twn_ok {tw : List (Int × Int)} (h : ∀ t ∈ tw, i32Ok t.1 ∧ i32Ok t.2) {r : Int} (hr : i32Ok r) : i32Ok (twnP tw r) := by
  unfold twnP
  cases hf : findT tw (knownP r) with
  | none => exact known_ok r hr
  | some z => exact (h _ (findT_mem hf)).2

set_option maxHeartbeats 8000000 in
set_option maxRecDepth 100000 in
theorem pairs_walk (rows : List BrD) (a0 : Option Addr) (n0 c0 : Nat) (l : List (Int × Int)) (a1 : Option Addr) (n1 c1 : Nat) (q : Int) (w : World) (hn0 : rows.length = n0) (hnb0 : n0 ≤ 1099511627776) (hm0 : BrMem w a0 rows) (ha0 : ∀ k off, a0 = some ⟨k, off, none⟩ → k < w.heap.size) (hok0 : ∀ x ∈ rows, BrOk x)
    (hn1 : l.length = n1) (hnb1 : n1 ≤ 1099511627776) (hok1 : ∀ t ∈ l, i32Ok t.1 ∧ i32Ok t.2) (hm1 : TwMem w a1 l) (oq : i32Ok q) (hg : ErrT w) (ht : tz16At w) :
    Calls Tryz.prog 8 #[.slice a0 n0 c0, .slice a1 n1 c1, .int .i32 q] w fun e w' => e = .returned (.bool true) ∧ Below w.heap.size w w' := by
  have HN := hideB (new8_any rows a0 n0 c0 hn0 hnb0 w hm0 ha0 hok0 hg)
  have HTWN : Hid (∀ (V : World) (B : Nat) (hb : Below w.heap.size w V) (h : Book V B rows []), Calls Tryz.prog 15 #[.pointer (some ⟨B, 0, none⟩), .slice a1 n1 c1] V fun e w' => Below V.heap.size V w' ∧
      ((∃ k : Nat, badT rows (twinsL rows l) l = some k ∧ e = .returned (.tuple #[.pointer none, .int .i64 k, .int .i64 83])) ∨
        (badT rows (twinsL rows l) l = none ∧ ∃ B' : Nat, e = .returned (.tuple #[.pointer (some ⟨B', 0, none⟩), .int .i64 0, .int .i64 0]) ∧ Book w' B' rows (twinsL rows l)))) := fun V B hb h => twins_any B rows [] hok0 l a1 n1 c1 hn1 hnb1 hok1 V h (hm1.below hb)
  have HL0 := hideB hn0
  have HBM := hideB hm0
  have HRS := hideB hok0
  have HO1 := hideB hok1
  have HG := hideB hg
  have HTZ := hideB ht
  clear hn0 hm0 ha0 hok0 hn1 hnb1 hok1 hm1 hg ht
  go_enter Tryz.func8, Tryz.ntmps8
  go_wp2_with fail
  refine (unhideB HN).mono ?_
  rintro e w1 ⟨hb1, (⟨hgn, B, rfl, hbk, _⟩ | ⟨no, why, hgs, rfl⟩)⟩
  · have HB1 := hideB hb1
    have HBK1 := hideB hbk
    have HGN := hideB hgn
    clear hb1 hbk hgn HN
    go_wp2_with fail
    refine (unhideB HTWN _ B (unhideB HB1) (unhideB HBK1)).mono ?_
    rintro e w2 ⟨hb2, (⟨k, hbad, rfl⟩ | ⟨hbad, B', rfl, hbk2⟩)⟩
    · have HPA : Hid (∀ x ∈ rows, PairF rows [] x) := fun x hx => pair_all (unhideB HGN) (fun t ht => by cases ht) hx
      have HBK : Hid (Book w2 B rows [] ∧ Below w.heap.size w w2) := ⟨(unhideB HBK1).below hb2, (unhideB HB1).trans (hb2.mono (unhideB HB1).size)⟩
      have HTO : Hid (∀ t ∈ ([] : List (Int × Int)), i32Ok t.1 ∧ i32Ok t.2) := fun t ht => by cases ht
      clear hb2 hbad HGN HBK1 HB1 HTWN
      generalize hTW : ([] : List (Int × Int)) = TW at *
      generalize hBB : B = BB at *
      clear hTW hBB
      go_wp2
      go_loopw [12] (fun v12 wr => ∃ i : Nat, v12 = .int .i64 i ∧ i ≤ n0 ∧ Hid (Book wr BB rows TW ∧ Below w.heap.size w wr)) (fun v12 _ => n0 - (RowKit.intOf v12).toNat)
      case atStart => exact ⟨0, rfl, Nat.zero_le _, HBK⟩
      case round =>
        obtain ⟨i, rfl, hi, HI⟩ := hrel
        by_cases hlt : i < n0
        · obtain ⟨x, hx⟩ : ∃ x, rows[i]? = some x := ⟨_, List.getElem?_eq_getElem (by rw [unhideB HL0]; exact hlt)⟩
          obtain ⟨k1, k4⟩ := unhideB HI
          obtain ⟨g, off, rfl, hc⟩ := ((unhideB HBM).below k4) i x hx
          have hxm := List.mem_of_getElem? hx
          have hP : PairF rows TW x := unhideB HPA x hxm
          have hxo := unhideB HRS x hxm
          obtain ⟨x1, x2, x3⟩ := x
          have cx0 := hc 0 _ rfl
          have cx1 := hc 1 _ rfl
          have cx2 := hc 2 _ rfl
          simp only [Nat.add_zero] at cx0 cx1 cx2
          have hlt' : (i : Int) < (n0 : Int) := by omega
          have hq1 : IntKind.i64.wrap ((i : Int) + 1) = (i : Int) + 1 := by rw [IntKind.wrap_i64]; omega
          obtain ⟨W1, hW1⟩ : ∃ W1, wr.alloc (.cells #[.int .i32 x1, .int .i32 x2, .int .u8 x3] 26) = W1 := ⟨_, rfl⟩
          have hb2 : Below wr.heap.size wr W1 := by rw [← hW1]; exact (Below.refl _ wr).alloc (Nat.le_refl _) _
          have eX : W1.heap[wr.heap.size]? = some (.cells #[.int .i32 x1, .int .i32 x2, .int .u8 x3] 26 (0, 0)) := by rw [← hW1]; exact heap_alloc_new wr _
          have lX : wr.heap.size < W1.heap.size := by rw [← hW1]; simp
          have HK : Hid (∀ V, Below W1.heap.size W1 V → (V.cell? ⟨wr.heap.size, 0, none⟩ = some (.int .i32 x1) ∧ V.cell? ⟨wr.heap.size, 1, none⟩ = some (.int .i32 x2) ∧ V.cell? ⟨wr.heap.size, 2, none⟩ = some (.int .u8 x3)) ∧ Book V BB rows TW ∧ Below w.heap.size w V) := fun V hb => by
            have e := (hb.block _ lX).trans eX
            have hbb := hb2.trans (hb.mono hb2.size)
            exact ⟨⟨by simp [World.cell?, e], by simp [World.cell?, e], by simp [World.cell?, e]⟩, k1.below hbb, k4.trans (hbb.mono k4.size)⟩
          obtain ⟨ox1, ox2, ox3⟩ := hxo
          simp only at ox1 ox2 ox3
          have ott := twn_ok (unhideB HTO) ox1
          obtain ⟨b1, b2, b3, b4, b5⟩ := hP
          simp only at b1 b2 b3 b4 b5
          have hM1 := mat1 (⟨b1, b2, b3, b4, b5⟩ : PairF rows TW ⟨x1, x2, x3⟩)
          have hM2 := mat2 (⟨b1, b2, b3, b4, b5⟩ : PairF rows TW ⟨x1, x2, x3⟩)
          have hM3 := fun h => mat3 (rows := rows) (tw := TW) (x := ⟨x1, x2, x3⟩) (q := q) h
          simp only at hM1 hM2 hM3
          have hB1 := fun V (hb : Below W1.heap.size W1 V) => bracket_book BB rows TW x1 ox1 V (unhideB HK V hb).2.1
          have hB2 := fun V (hb : Below W1.heap.size W1 V) => bracket_book BB rows TW x2 ox2 V (unhideB HK V hb).2.1
          have hB3 := fun V (hb : Below W1.heap.size W1 V) => bracket_book BB rows TW (twnP TW x1) ott V (unhideB HK V hb).2.1
          have hB4 := fun V (hb : Below W1.heap.size W1 V) => bracket_book BB rows TW q oq V (unhideB HK V hb).2.1
          have hT1 := fun V (hb : Below W1.heap.size W1 V) => twin_book BB rows TW x1 ox1 V (unhideB HK V hb).2.1
          have hT2 := fun V (hb : Below W1.heap.size W1 V) => twin_book BB rows TW (twnP TW x1) ott V (unhideB HK V hb).2.1
          have hT3 := fun V (hb : Below W1.heap.size W1 V) => twin_book BB rows TW x2 ox2 V (unhideB HK V hb).2.1
          have hN1 := fun V (hb : Below W1.heap.size W1 V) => matches_book BB rows TW (unhideB HRS) x1 x2 ox1 ox2 V (unhideB HK V hb).2.1
          have hN2 := fun V (hb : Below W1.heap.size W1 V) => matches_book BB rows TW (unhideB HRS) x2 x1 ox2 ox1 V (unhideB HK V hb).2.1
          have hN3 := fun V (hb : Below W1.heap.size W1 V) => matches_book BB rows TW (unhideB HRS) x1 q ox1 oq V (unhideB HK V hb).2.1
          have hN4 := fun V (hb : Below W1.heap.size W1 V) => matches_book BB rows TW (unhideB HRS) q x1 oq ox1 V (unhideB HK V hb).2.1
          rw [b1] at hB1
          rw [b2] at hB2
          rw [b3] at hB3
          rw [b4] at hT2
          rw [hM1] at hN1
          rw [hM2] at hN2
          obtain ⟨v1, v2, hv⟩ : ∃ v1 v2, brkP rows q = (v1, v2) := ⟨_, _, rfl⟩
          rw [hv] at hB4 hM3
          generalize twnP TW x1 = tt at *
          generalize twnP TW x2 = tp at *
          have hbc : Below W1.heap.size W1 W1 := Below.refl _ _
          obtain ⟨y0, y1, y2⟩ := (unhideB HK _ hbc).1
          have HW1 := hideB hW1
          have HB1 := hideB hB1
          have HB2 := hideB hB2
          have HB3 := hideB hB3
          have HB4 := hideB hB4
          have HT1 := hideB hT1
          have HT2 := hideB hT2
          have HT3 := hideB hT3
          have HM1 := hideB hN1
          have HM2 := hideB hN2
          clear HI k1 k4 hc hx hxm hb2 eX lX b1 b2 b3 b4 hM1 hM2 hv hB1 hB2 hB3 hB4 hT1 hT2 hT3 hN1 hN2 ott ox1 ox2 ox3
          by_cases h0 : v2 = 0
          · subst h0
            obtain ⟨hm3, hm4⟩ := hM3 rfl
            rw [hm3] at hN3
            rw [hm4] at hN4
            have HM3 := hideB hN3
            have HM4 := hideB hN4
            clear hm3 hm4 hM3 hN3 hN4
            rcases b5 with rfl | rfl
            all_goals
              simp only [oppP, decide_true, decide_false, reduceCtorEq, if_true, if_false, Int.reduceEq] at HB1 HB2 HB3 HM1 HM2
              go_wp2_with (first  | (go_at_call 20; with_reducible refine (unhideB HB1 _ hbc).mono ?_; rintro e V ⟨rfl, hb⟩; have hbc := hbc.trans (hb.mono hbc.size); obtain ⟨y0, y1, y2⟩ := (unhideB HK _ hbc).1; clear hb)  | (go_at_call 20; with_reducible refine (unhideB HB2 _ hbc).mono ?_; rintro e V ⟨rfl, hb⟩; have hbc := hbc.trans (hb.mono hbc.size); obtain ⟨y0, y1, y2⟩ := (unhideB HK _ hbc).1; clear hb)  | (go_at_call 20; with_reducible refine (unhideB HB3 _ hbc).mono ?_; rintro e V ⟨rfl, hb⟩; have hbc := hbc.trans (hb.mono hbc.size); obtain ⟨y0, y1, y2⟩ := (unhideB HK _ hbc).1; clear hb)  | (go_at_call 20; with_reducible refine (unhideB HB4 _ hbc).mono ?_; rintro e V ⟨rfl, hb⟩; have hbc := hbc.trans (hb.mono hbc.size); obtain ⟨y0, y1, y2⟩ := (unhideB HK _ hbc).1; clear hb)  | (go_at_call 22; with_reducible refine (unhideB HT1 _ hbc).mono ?_; rintro e V ⟨rfl, h⟩; cases h)  | (go_at_call 22; with_reducible refine (unhideB HT2 _ hbc).mono ?_; rintro e V ⟨rfl, h⟩; cases h)  | (go_at_call 22; with_reducible refine (unhideB HT3 _ hbc).mono ?_; rintro e V ⟨rfl, h⟩; cases h)  | (go_at_call 23; with_reducible refine (unhideB HM1 _ hbc).mono ?_; rintro e V ⟨rfl, hb⟩; have hbc := hbc.trans (hb.mono hbc.size); obtain ⟨y0, y1, y2⟩ := (unhideB HK _ hbc).1; clear hb)  | (go_at_call 23; with_reducible refine (unhideB HM2 _ hbc).mono ?_; rintro e V ⟨rfl, hb⟩; have hbc := hbc.trans (hb.mono hbc.size); obtain ⟨y0, y1, y2⟩ := (unhideB HK _ hbc).1; clear hb)  | (go_at_call 23; with_reducible refine (unhideB HM3 _ hbc).mono ?_; rintro e V ⟨rfl, hb⟩; have hbc := hbc.trans (hb.mono hbc.size); obtain ⟨y0, y1, y2⟩ := (unhideB HK _ hbc).1; clear hb)  | (go_at_call 23; with_reducible refine (unhideB HM4 _ hbc).mono ?_; rintro e V ⟨rfl, hb⟩; have hbc := hbc.trans (hb.mono hbc.size); obtain ⟨y0, y1, y2⟩ := (unhideB HK _ hbc).1; clear hb))
              go_roundw
              case rel => exact ⟨i + 1, by go_num, by omega, (unhideB HK _ hbc).2⟩
              case measure => simp [RowKit.intOf]; omega
          · have d0 : (v2 == 0) = false := by simpa using h0
            clear hM3 h0
            have HM3 := hideB hN3
            have HM4 := hideB hN4
            clear hN3 hN4
            rcases b5 with rfl | rfl
            all_goals
              simp only [oppP, decide_true, decide_false, reduceCtorEq, if_true, if_false, Int.reduceEq] at HB1 HB2 HB3 HM1 HM2
              go_wp2_with (first  | (go_at_call 20; with_reducible refine (unhideB HB1 _ hbc).mono ?_; rintro e V ⟨rfl, hb⟩; have hbc := hbc.trans (hb.mono hbc.size); obtain ⟨y0, y1, y2⟩ := (unhideB HK _ hbc).1; clear hb)  | (go_at_call 20; with_reducible refine (unhideB HB2 _ hbc).mono ?_; rintro e V ⟨rfl, hb⟩; have hbc := hbc.trans (hb.mono hbc.size); obtain ⟨y0, y1, y2⟩ := (unhideB HK _ hbc).1; clear hb)  | (go_at_call 20; with_reducible refine (unhideB HB3 _ hbc).mono ?_; rintro e V ⟨rfl, hb⟩; have hbc := hbc.trans (hb.mono hbc.size); obtain ⟨y0, y1, y2⟩ := (unhideB HK _ hbc).1; clear hb)  | (go_at_call 20; with_reducible refine (unhideB HB4 _ hbc).mono ?_; rintro e V ⟨rfl, hb⟩; have hbc := hbc.trans (hb.mono hbc.size); obtain ⟨y0, y1, y2⟩ := (unhideB HK _ hbc).1; clear hb)  | (go_at_call 22; with_reducible refine (unhideB HT1 _ hbc).mono ?_; rintro e V ⟨rfl, h⟩; cases h)  | (go_at_call 22; with_reducible refine (unhideB HT2 _ hbc).mono ?_; rintro e V ⟨rfl, h⟩; cases h)  | (go_at_call 22; with_reducible refine (unhideB HT3 _ hbc).mono ?_; rintro e V ⟨rfl, h⟩; cases h)  | (go_at_call 23; with_reducible refine (unhideB HM1 _ hbc).mono ?_; rintro e V ⟨rfl, hb⟩; have hbc := hbc.trans (hb.mono hbc.size); obtain ⟨y0, y1, y2⟩ := (unhideB HK _ hbc).1; clear hb)  | (go_at_call 23; with_reducible refine (unhideB HM2 _ hbc).mono ?_; rintro e V ⟨rfl, hb⟩; have hbc := hbc.trans (hb.mono hbc.size); obtain ⟨y0, y1, y2⟩ := (unhideB HK _ hbc).1; clear hb)  | (go_at_call 23; with_reducible refine (unhideB HM3 _ hbc).mono ?_; rintro e V ⟨rfl, hb⟩; have hbc := hbc.trans (hb.mono hbc.size); obtain ⟨y0, y1, y2⟩ := (unhideB HK _ hbc).1; clear hb)  | (go_at_call 23; with_reducible refine (unhideB HM4 _ hbc).mono ?_; rintro e V ⟨rfl, hb⟩; have hbc := hbc.trans (hb.mono hbc.size); obtain ⟨y0, y1, y2⟩ := (unhideB HK _ hbc).1; clear hb))
              go_roundw
              case rel => exact ⟨i + 1, by go_num, by omega, (unhideB HK _ hbc).2⟩
              case measure => simp [RowKit.intOf]; omega
        · obtain rfl : n0 = i := by omega
          obtain ⟨k1, k4⟩ := unhideB HI
          have HAW := hideB (awake8_any wr ((unhideB HG).below k4) (tz16_below (unhideB HTZ) k4))
          have HK4 := hideB k4
          clear HI k1 k4
          go_wp2_with (go_at_call 14; with_reducible refine (unhideB HAW).mono ?_; rintro e w9 ⟨rfl, hb9⟩)
          go_ret
          exact ⟨rfl, (unhideB HK4).trans (hb9.mono (unhideB HK4).size)⟩
    · have HPA : Hid (∀ x ∈ rows, PairF rows (twinsL rows l) x) := fun x hx => pair_all (unhideB HGN) (twins_all hbad) hx
      have HBK : Hid (Book w2 B' rows (twinsL rows l) ∧ Below w.heap.size w w2) := ⟨hbk2, (unhideB HB1).trans (hb2.mono (unhideB HB1).size)⟩
      have HTO : Hid (∀ t ∈ twinsL rows l, i32Ok t.1 ∧ i32Ok t.2) := fun t ht => by
        rcases foldT_mem rows l [] t ht with h | h
        · cases h
        · exact unhideB HO1 t h
      clear hb2 hbad hbk2 HGN HBK1 HB1 HTWN
      generalize hTW : twinsL rows l = TW at *
      generalize hBB : B' = BB at *
      clear hTW hBB
      go_wp2
      go_loopw [12] (fun v12 wr => ∃ i : Nat, v12 = .int .i64 i ∧ i ≤ n0 ∧ Hid (Book wr BB rows TW ∧ Below w.heap.size w wr)) (fun v12 _ => n0 - (RowKit.intOf v12).toNat)
      case atStart => exact ⟨0, rfl, Nat.zero_le _, HBK⟩
      case round =>
        obtain ⟨i, rfl, hi, HI⟩ := hrel
        by_cases hlt : i < n0
        · obtain ⟨x, hx⟩ : ∃ x, rows[i]? = some x := ⟨_, List.getElem?_eq_getElem (by rw [unhideB HL0]; exact hlt)⟩
          obtain ⟨k1, k4⟩ := unhideB HI
          obtain ⟨g, off, rfl, hc⟩ := ((unhideB HBM).below k4) i x hx
          have hxm := List.mem_of_getElem? hx
          have hP : PairF rows TW x := unhideB HPA x hxm
          have hxo := unhideB HRS x hxm
          obtain ⟨x1, x2, x3⟩ := x
          have cx0 := hc 0 _ rfl
          have cx1 := hc 1 _ rfl
          have cx2 := hc 2 _ rfl
          simp only [Nat.add_zero] at cx0 cx1 cx2
          have hlt' : (i : Int) < (n0 : Int) := by omega
          have hq1 : IntKind.i64.wrap ((i : Int) + 1) = (i : Int) + 1 := by rw [IntKind.wrap_i64]; omega
          obtain ⟨W1, hW1⟩ : ∃ W1, wr.alloc (.cells #[.int .i32 x1, .int .i32 x2, .int .u8 x3] 26) = W1 := ⟨_, rfl⟩
          have hb2 : Below wr.heap.size wr W1 := by rw [← hW1]; exact (Below.refl _ wr).alloc (Nat.le_refl _) _
          have eX : W1.heap[wr.heap.size]? = some (.cells #[.int .i32 x1, .int .i32 x2, .int .u8 x3] 26 (0, 0)) := by rw [← hW1]; exact heap_alloc_new wr _
          have lX : wr.heap.size < W1.heap.size := by rw [← hW1]; simp
          have HK : Hid (∀ V, Below W1.heap.size W1 V → (V.cell? ⟨wr.heap.size, 0, none⟩ = some (.int .i32 x1) ∧ V.cell? ⟨wr.heap.size, 1, none⟩ = some (.int .i32 x2) ∧ V.cell? ⟨wr.heap.size, 2, none⟩ = some (.int .u8 x3)) ∧ Book V BB rows TW ∧ Below w.heap.size w V) := fun V hb => by
            have e := (hb.block _ lX).trans eX
            have hbb := hb2.trans (hb.mono hb2.size)
            exact ⟨⟨by simp [World.cell?, e], by simp [World.cell?, e], by simp [World.cell?, e]⟩, k1.below hbb, k4.trans (hbb.mono k4.size)⟩
          obtain ⟨ox1, ox2, ox3⟩ := hxo
          simp only at ox1 ox2 ox3
          have ott := twn_ok (unhideB HTO) ox1
          obtain ⟨b1, b2, b3, b4, b5⟩ := hP
          simp only at b1 b2 b3 b4 b5
          have hM1 := mat1 (⟨b1, b2, b3, b4, b5⟩ : PairF rows TW ⟨x1, x2, x3⟩)
          have hM2 := mat2 (⟨b1, b2, b3, b4, b5⟩ : PairF rows TW ⟨x1, x2, x3⟩)
          have hM3 := fun h => mat3 (rows := rows) (tw := TW) (x := ⟨x1, x2, x3⟩) (q := q) h
          simp only at hM1 hM2 hM3
          have hB1 := fun V (hb : Below W1.heap.size W1 V) => bracket_book BB rows TW x1 ox1 V (unhideB HK V hb).2.1
          have hB2 := fun V (hb : Below W1.heap.size W1 V) => bracket_book BB rows TW x2 ox2 V (unhideB HK V hb).2.1
          have hB3 := fun V (hb : Below W1.heap.size W1 V) => bracket_book BB rows TW (twnP TW x1) ott V (unhideB HK V hb).2.1
          have hB4 := fun V (hb : Below W1.heap.size W1 V) => bracket_book BB rows TW q oq V (unhideB HK V hb).2.1
          have hT1 := fun V (hb : Below W1.heap.size W1 V) => twin_book BB rows TW x1 ox1 V (unhideB HK V hb).2.1
          have hT2 := fun V (hb : Below W1.heap.size W1 V) => twin_book BB rows TW (twnP TW x1) ott V (unhideB HK V hb).2.1
          have hT3 := fun V (hb : Below W1.heap.size W1 V) => twin_book BB rows TW x2 ox2 V (unhideB HK V hb).2.1
          have hN1 := fun V (hb : Below W1.heap.size W1 V) => matches_book BB rows TW (unhideB HRS) x1 x2 ox1 ox2 V (unhideB HK V hb).2.1
          have hN2 := fun V (hb : Below W1.heap.size W1 V) => matches_book BB rows TW (unhideB HRS) x2 x1 ox2 ox1 V (unhideB HK V hb).2.1
          have hN3 := fun V (hb : Below W1.heap.size W1 V) => matches_book BB rows TW (unhideB HRS) x1 q ox1 oq V (unhideB HK V hb).2.1
          have hN4 := fun V (hb : Below W1.heap.size W1 V) => matches_book BB rows TW (unhideB HRS) q x1 oq ox1 V (unhideB HK V hb).2.1
          rw [b1] at hB1
          rw [b2] at hB2
          rw [b3] at hB3
          rw [b4] at hT2
          rw [hM1] at hN1
          rw [hM2] at hN2
          obtain ⟨v1, v2, hv⟩ : ∃ v1 v2, brkP rows q = (v1, v2) := ⟨_, _, rfl⟩
          rw [hv] at hB4 hM3
          generalize twnP TW x1 = tt at *
          generalize twnP TW x2 = tp at *
          have hbc : Below W1.heap.size W1 W1 := Below.refl _ _
          obtain ⟨y0, y1, y2⟩ := (unhideB HK _ hbc).1
          have HW1 := hideB hW1
          have HB1 := hideB hB1
          have HB2 := hideB hB2
          have HB3 := hideB hB3
          have HB4 := hideB hB4
          have HT1 := hideB hT1
          have HT2 := hideB hT2
          have HT3 := hideB hT3
          have HM1 := hideB hN1
          have HM2 := hideB hN2
          clear HI k1 k4 hc hx hxm hb2 eX lX b1 b2 b3 b4 hM1 hM2 hv hB1 hB2 hB3 hB4 hT1 hT2 hT3 hN1 hN2 ott ox1 ox2 ox3
          by_cases h0 : v2 = 0
          · subst h0
            obtain ⟨hm3, hm4⟩ := hM3 rfl
            rw [hm3] at hN3
            rw [hm4] at hN4
            have HM3 := hideB hN3
            have HM4 := hideB hN4
            clear hm3 hm4 hM3 hN3 hN4
            rcases b5 with rfl | rfl
            all_goals
              simp only [oppP, decide_true, decide_false, reduceCtorEq, if_true, if_false, Int.reduceEq] at HB1 HB2 HB3 HM1 HM2
              go_wp2_with (first  | (go_at_call 20; with_reducible refine (unhideB HB1 _ hbc).mono ?_; rintro e V ⟨rfl, hb⟩; have hbc := hbc.trans (hb.mono hbc.size); obtain ⟨y0, y1, y2⟩ := (unhideB HK _ hbc).1; clear hb)  | (go_at_call 20; with_reducible refine (unhideB HB2 _ hbc).mono ?_; rintro e V ⟨rfl, hb⟩; have hbc := hbc.trans (hb.mono hbc.size); obtain ⟨y0, y1, y2⟩ := (unhideB HK _ hbc).1; clear hb)  | (go_at_call 20; with_reducible refine (unhideB HB3 _ hbc).mono ?_; rintro e V ⟨rfl, hb⟩; have hbc := hbc.trans (hb.mono hbc.size); obtain ⟨y0, y1, y2⟩ := (unhideB HK _ hbc).1; clear hb)  | (go_at_call 20; with_reducible refine (unhideB HB4 _ hbc).mono ?_; rintro e V ⟨rfl, hb⟩; have hbc := hbc.trans (hb.mono hbc.size); obtain ⟨y0, y1, y2⟩ := (unhideB HK _ hbc).1; clear hb)  | (go_at_call 22; with_reducible refine (unhideB HT1 _ hbc).mono ?_; rintro e V ⟨rfl, h⟩; cases h)  | (go_at_call 22; with_reducible refine (unhideB HT2 _ hbc).mono ?_; rintro e V ⟨rfl, h⟩; cases h)  | (go_at_call 22; with_reducible refine (unhideB HT3 _ hbc).mono ?_; rintro e V ⟨rfl, h⟩; cases h)  | (go_at_call 23; with_reducible refine (unhideB HM1 _ hbc).mono ?_; rintro e V ⟨rfl, hb⟩; have hbc := hbc.trans (hb.mono hbc.size); obtain ⟨y0, y1, y2⟩ := (unhideB HK _ hbc).1; clear hb)  | (go_at_call 23; with_reducible refine (unhideB HM2 _ hbc).mono ?_; rintro e V ⟨rfl, hb⟩; have hbc := hbc.trans (hb.mono hbc.size); obtain ⟨y0, y1, y2⟩ := (unhideB HK _ hbc).1; clear hb)  | (go_at_call 23; with_reducible refine (unhideB HM3 _ hbc).mono ?_; rintro e V ⟨rfl, hb⟩; have hbc := hbc.trans (hb.mono hbc.size); obtain ⟨y0, y1, y2⟩ := (unhideB HK _ hbc).1; clear hb)  | (go_at_call 23; with_reducible refine (unhideB HM4 _ hbc).mono ?_; rintro e V ⟨rfl, hb⟩; have hbc := hbc.trans (hb.mono hbc.size); obtain ⟨y0, y1, y2⟩ := (unhideB HK _ hbc).1; clear hb))
              go_roundw
              case rel => exact ⟨i + 1, by go_num, by omega, (unhideB HK _ hbc).2⟩
              case measure => simp [RowKit.intOf]; omega
          · have d0 : (v2 == 0) = false := by simpa using h0
            clear hM3 h0
            have HM3 := hideB hN3
            have HM4 := hideB hN4
            clear hN3 hN4
            rcases b5 with rfl | rfl
            all_goals
              simp only [oppP, decide_true, decide_false, reduceCtorEq, if_true, if_false, Int.reduceEq] at HB1 HB2 HB3 HM1 HM2
              go_wp2_with (first  | (go_at_call 20; with_reducible refine (unhideB HB1 _ hbc).mono ?_; rintro e V ⟨rfl, hb⟩; have hbc := hbc.trans (hb.mono hbc.size); obtain ⟨y0, y1, y2⟩ := (unhideB HK _ hbc).1; clear hb)  | (go_at_call 20; with_reducible refine (unhideB HB2 _ hbc).mono ?_; rintro e V ⟨rfl, hb⟩; have hbc := hbc.trans (hb.mono hbc.size); obtain ⟨y0, y1, y2⟩ := (unhideB HK _ hbc).1; clear hb)  | (go_at_call 20; with_reducible refine (unhideB HB3 _ hbc).mono ?_; rintro e V ⟨rfl, hb⟩; have hbc := hbc.trans (hb.mono hbc.size); obtain ⟨y0, y1, y2⟩ := (unhideB HK _ hbc).1; clear hb)  | (go_at_call 20; with_reducible refine (unhideB HB4 _ hbc).mono ?_; rintro e V ⟨rfl, hb⟩; have hbc := hbc.trans (hb.mono hbc.size); obtain ⟨y0, y1, y2⟩ := (unhideB HK _ hbc).1; clear hb)  | (go_at_call 22; with_reducible refine (unhideB HT1 _ hbc).mono ?_; rintro e V ⟨rfl, h⟩; cases h)  | (go_at_call 22; with_reducible refine (unhideB HT2 _ hbc).mono ?_; rintro e V ⟨rfl, h⟩; cases h)  | (go_at_call 22; with_reducible refine (unhideB HT3 _ hbc).mono ?_; rintro e V ⟨rfl, h⟩; cases h)  | (go_at_call 23; with_reducible refine (unhideB HM1 _ hbc).mono ?_; rintro e V ⟨rfl, hb⟩; have hbc := hbc.trans (hb.mono hbc.size); obtain ⟨y0, y1, y2⟩ := (unhideB HK _ hbc).1; clear hb)  | (go_at_call 23; with_reducible refine (unhideB HM2 _ hbc).mono ?_; rintro e V ⟨rfl, hb⟩; have hbc := hbc.trans (hb.mono hbc.size); obtain ⟨y0, y1, y2⟩ := (unhideB HK _ hbc).1; clear hb)  | (go_at_call 23; with_reducible refine (unhideB HM3 _ hbc).mono ?_; rintro e V ⟨rfl, hb⟩; have hbc := hbc.trans (hb.mono hbc.size); obtain ⟨y0, y1, y2⟩ := (unhideB HK _ hbc).1; clear hb)  | (go_at_call 23; with_reducible refine (unhideB HM4 _ hbc).mono ?_; rintro e V ⟨rfl, hb⟩; have hbc := hbc.trans (hb.mono hbc.size); obtain ⟨y0, y1, y2⟩ := (unhideB HK _ hbc).1; clear hb))
              go_roundw
              case rel => exact ⟨i + 1, by go_num, by omega, (unhideB HK _ hbc).2⟩
              case measure => simp [RowKit.intOf]; omega
        · obtain rfl : n0 = i := by omega
          obtain ⟨k1, k4⟩ := unhideB HI
          have HAW := hideB (awake8_any wr ((unhideB HG).below k4) (tz16_below (unhideB HTZ) k4))
          have HK4 := hideB k4
          clear HI k1 k4
          go_wp2_with (go_at_call 14; with_reducible refine (unhideB HAW).mono ?_; rintro e w9 ⟨rfl, hb9⟩)
          go_ret
          exact ⟨rfl, (unhideB HK4).trans (hb9.mono (unhideB HK4).size)⟩
  · have hne := gath_ne hgs
    have d1 : (why != 0) = true := by simpa using hne
    have HAW := hideB (awake8_any w1 ((unhideB HG).below hb1) (tz16_below (unhideB HTZ) hb1))
    have HK4 := hideB hb1
    clear hgs hb1 hne HN HTWN
    go_wp2_with (go_at_call 14; with_reducible refine (unhideB HAW).mono ?_; rintro e w9 ⟨rfl, hb9⟩)
    go_ret
    exact ⟨rfl, (unhideB HK4).trans (hb9.mono (unhideB HK4).size)⟩
end Go.Proofs.YtijiiapnbeljnaaGreatDoor
