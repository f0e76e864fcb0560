/-
  fresh of furrowlaw01: two answers that are the wanted runes and memory of their own.
-/
import Derived.Test.YtjkchpjopgpeeaaRefB
import Derived.Test.YtjkchpjopgpeeaaRefSpots
import Derived.Maps.AppendAt
namespace Go.Proofs.Ytjkchpjopgpeeaa
open Go.RowKit Go.PlainAid Go.Lib
set_option linter.unusedVariables false

abbrev i32s (l : List Int) : List Value := l.map (Value.int .i32)
theorem row_some {w : World} {base : Nat} {a : Option Addr} {n c : Nat} {xs : List Value} (h : w.ownsRow base 21 1 (.slice a n c) n xs) (hn : 0 < n) : ∃ g, a = some ⟨g, 0, none⟩ := by
  rcases h.2 with ⟨h0, _⟩ | ⟨g, cap, cur, h0, _⟩
  · obtain ⟨_, h1, _⟩ : a = none ∧ n = 0 ∧ c = 0 := by simpa using h0
    omega
  · obtain ⟨h1, _⟩ : a = some ⟨g, 0, none⟩ ∧ c = cap := by simpa using h0
    exact ⟨g, h1⟩
theorem row_slice {w : World} {base : Nat} {v : Value} {n : Nat} {xs : List Value} (h : w.ownsRow base 21 1 v n xs) : ∃ a c, v = .slice a n c := by
  rcases h.2 with ⟨rfl, h0⟩ | ⟨g, cap, cur, rfl, _⟩
  · exact ⟨_, _, by rw [h0]⟩
  · exact ⟨_, _, rfl⟩
/-- a list in memory stays where another block is turned -/
theorem Reads.grown {w W : World} {a : Option Addr} {zs : List Int} {row : Option Nat} (h : Reads w a zs) (hg : w.grownBy W row) (hne : ∀ x, a = some x → some x.block ≠ row) : Reads W a zs := by
  intro k hk
  obtain ⟨b, off, h1, h2⟩ := h k hk
  exact ⟨b, off, h1, hg.cell h2 (show some b ≠ row from hne _ h1)⟩
theorem set_at (l : List Int) (i : Nat) (v : Int) (h : i < l.length) : (i32s l).set i (.int .i32 v) = i32s (l.set i v) := by simp [List.map_set]
theorem below_row {w W W' : World} {B : Nat} {row : Option Nat} (h : Below B w W) (hg : W.grownBy W' row) (hB : B ≤ W.heap.size) (hr : ∀ k, row = some k → B ≤ k) : Below B w W' := h.grown hg hB hr

theorem apart_symm {x y : Option Nat} (h : x = none ∨ x ≠ y) : y = none ∨ y ≠ x := by
  rcases h with rfl | h
  · cases y with
    | none => exact .inl rfl
    | some k => exact .inr (by simp)
  · exact .inr (Ne.symm h)
theorem front_at (xs : List Int) (n k i : Nat) (c d : Int) (hl : xs.length = n) (hx : ∀ k, k < n → xs[k]? = some c) (hi : i < n) : (i32s xs ++ List.replicate k (Value.int .i32 d))[i]? = some (.int .i32 c) := by
  rw [List.getElem?_append_left (by simp; omega), List.getElem?_map, hx i hi]; rfl
theorem back_at (xs : List Int) (n k i : Nat) (d : Int) (hl : xs.length = n) (hi : n ≤ i) (hi' : i < n + k) : (i32s xs ++ List.replicate k (Value.int .i32 d))[i]? = some (.int .i32 d) := by
  rw [List.getElem?_append_right (by simp; omega), List.getElem?_replicate, if_pos (by simp; omega)]

/-- two rows of runes that are apart, and a list that is apart from both -/
structure Apart (w : World) (B : Nat) (va vb : Value) (n : Nat) (xs ys : List Int) (aw : Option Addr) (zs : List Int) : Prop where
  a : w.ownsRow B 21 1 va n (i32s xs)
  b : w.ownsRow B 21 1 vb n (i32s ys)
  ab : va.ownBlock = none ∨ va.ownBlock ≠ vb.ownBlock
  w : Reads w aw zs
  wa : ∀ x, aw = some x → some x.block ≠ va.ownBlock
  wb : ∀ x, aw = some x → some x.block ≠ vb.ownBlock
theorem Apart.below {w W : World} {B : Nat} {va vb : Value} {n : Nat} {xs ys : List Int} {aw : Option Addr} {zs : List Int} (h : Apart w B va vb n xs ys aw zs) (hb : Below w.heap.size w W) : Apart W B va vb n xs ys aw zs :=
  ⟨row_below2 h.a hb, row_below2 h.b hb, h.ab, h.w.below hb, h.wa, h.wb⟩

set_option maxRecDepth 100000 in
set_option maxHeartbeats 4000000 in
theorem fresh_any (w : World) (B : Nat) (va vb : Value) (n : Nat) (aw : Option Addr) (cw : Nat) (zs : List Int) (hn : zs.length = n) (hnb : n ≤ 1099511627776) (hB : B ≤ w.heap.size) (h : Apart w B va vb n zs zs aw zs) :
    Calls Try.prog 12 #[va, vb, .slice aw n cw] w fun e w' => e = .returned (.bool true) ∧ Below B w w' := by
  obtain ⟨a, ca, rfl⟩ := row_slice h.a
  obtain ⟨b, cb, rfl⟩ := row_slice h.b
  have HS1 := hide (fun W (h : Apart W B (.slice a n ca) (.slice b n cb) n zs zs aw zs) => same_yes a aw ca cw zs W (reads_own (n := n) (c := ca) h.a) h.w (by omega))
  have HS2 := hide (fun W (h : Apart W B (.slice a n ca) (.slice b n cb) n zs zs aw zs) => same_yes b aw cb cw zs W (reads_own (n := n) (c := cb) h.b) h.w (by omega))
  rw [hn] at HS1 HS2
  have HN := hide hn
  clear hn
  go_enter Try.func12, Try.ntmps12
  go_wp2_with fail
  refine (unhide HS1 _ h).mono ?_
  rintro e w1 ⟨rfl, hb1⟩
  have h1 := h.below hb1
  have hB1 : Below B w w1 := hb1.mono hB
  clear hb1 h HS1
  go_wp2_with fail
  refine (unhide HS2 _ h1).mono ?_
  rintro e w2 ⟨rfl, hb2⟩
  have h2 := h1.below hb2
  have hB2 : Below B w w2 := hB1.trans (hb2.mono (Nat.le_trans hB hB1.size))
  clear hb2 h1 HS2 hB1
  have hz2 := hB2.size
  have hBz : B ≤ w2.heap.size := by omega
  go_wp2
  go_loopw [7] (fun v7 wr => ∃ (i : Nat) (xs : List Int), i ≤ n ∧ v7 = .int .i64 i ∧ xs.length = n ∧ Hid (∀ k, k < i → xs[k]? = some (-7)) ∧ Apart wr B (.slice a n ca) (.slice b n cb) n xs zs aw zs ∧ Below B w wr ∧ B ≤ wr.heap.size) (fun v7 _ => n - (intOf v7).toNat)
  case atStart => exact ⟨0, zs, Nat.zero_le _, rfl, unhide HN, hide (fun k hk => by omega), h2, hB2, hBz⟩
  case round =>
    clear h2 hB2 hz2 hBz
    obtain ⟨i, xs, hi, rfl, hxl, HX, hA, hB2, hBz⟩ := hrel
    by_cases hlt : i < n
    · obtain ⟨g, rfl⟩ := row_some hA.a (by omega)
      have c0 := hA.a.cellAt i (by omega)
      rw [List.getElem?_map, List.getElem?_eq_getElem (by omega)] at c0
      have c1 := hA.a.frozenAt i
      obtain ⟨s1, s2⟩ := hA.a.stored i (.int .i32 (-7))
      rw [set_at xs i (-7) (by omega)] at s1
      have hA2 : Apart (wr.setCell ⟨g, i, none⟩ (.int .i32 (-7))) B (.slice (some ⟨g, 0, none⟩) n ca) (.slice b n cb) n (xs.set i (-7)) zs aw zs :=
        ⟨s1, hA.b.kept s2 (.inr (by have := hA.ab; simp [Value.ownBlock] at this ⊢; exact fun e => this e.symm)), hA.ab, hA.w.grown s2 (fun x hx => by have := hA.wa x hx; simpa [Value.ownBlock] using this), hA.wa, hA.wb⟩
      have hB3 := below_row hB2 s2 hBz (fun k e => by cases e; exact (hA.a.lt g rfl).1)
      have hBz3 : B ≤ (wr.setCell ⟨g, i, none⟩ (.int .i32 (-7))).heap.size := Nat.le_trans hBz s2.size
      have HX2 : Hid (∀ k, k < i + 1 → (xs.set i (-7))[k]? = some (-7)) := by
        intro k hk
        rw [List.getElem?_set]
        by_cases hik : i = k
        · subst hik; rw [if_pos rfl, if_pos (by omega)]
        · rw [if_neg hik]; exact unhide HX k (by omega)
      clear s1 s2 hA HX
      go_wp2
      go_roundw
      case rel => exact ⟨i + 1, _, by omega, by go_num, by simp [hxl], HX2, hA2, hB3, hBz3⟩
      case measure => simp [intOf]; omega
    · obtain rfl : i = n := by omega
      have HXN := HX
      clear HX hlt hi
      have HXL := hide hxl
      clear hxl
      go_wp2
      go_loopw [8] (fun v8 wr => ∃ (j : Nat) (ys : List Int), j ≤ i ∧ v8 = .int .i64 j ∧ Hid (ys.length = i) ∧ Hid (∀ k, k < j → ys[k]? = some (-8)) ∧ Hid (∀ k, j ≤ k → k < i → ys[k]? = zs[k]?) ∧ Apart wr B (.slice a i ca) (.slice b i cb) i xs ys aw zs ∧ Below B w wr ∧ B ≤ wr.heap.size) (fun v8 _ => i - (intOf v8).toNat)
      case atStart => exact ⟨0, zs, Nat.zero_le _, rfl, HN, hide (fun k hk => by omega), hide (fun k _ _ => rfl), hA, hB2, hBz⟩
      case round =>
        clear hA hB2 hBz
        obtain ⟨j, ys, hj, rfl, HYL, HY, HZ, hA, hB2, hBz⟩ := hrel
        by_cases hlt : j < i
        · obtain ⟨g, rfl⟩ := row_some hA.b (by omega)
          have hzj : ys[j]? = zs[j]? := unhide HZ j (Nat.le_refl _) hlt
          have hjz : j < zs.length := by rw [unhide HN]; exact hlt
          obtain ⟨b', off', rfl, cw0⟩ := hA.w j hjz
          have c0 := hA.b.cellAt j (by omega)
          rw [List.getElem?_map, hzj, List.getElem?_eq_getElem hjz] at c0
          have hzd : zs.getD j 0 = zs[j] := by rw [List.getD_eq_getElem?_getD, List.getElem?_eq_getElem hjz]; rfl
          rw [hzd] at cw0
          generalize zs[j] = z at *
          have c0' : wr.cell? ⟨g, j, none⟩ = some (.int .i32 z) := c0
          have dz : ((z : Int) != z) = false := by simp
          clear c0 hzj hzd
          go_wp2
          go_quiet (fail)
          have hA1 : Apart (wr.drewN nq) B (.slice a i ca) (.slice (some ⟨g, 0, none⟩) i cb) i xs ys (some ⟨b', off', none⟩) zs := hA.below ⟨rfl, rfl, rfl, Nat.le_refl _, fun _ _ => rfl⟩
          have hB3 : Below B w (wr.drewN nq) := below_drewN hB2 nq
          have hBz3 : B ≤ (wr.drewN nq).heap.size := hBz
          clear hA hB2 hBz c0' cw0 dz
          generalize wr.drewN nq = W2 at *
          have c1 := hA1.b.frozenAt j
          have c0 := hA1.b.cellAt j (by omega)
          rw [List.getElem?_map, List.getElem?_eq_getElem (by rw [unhide HYL]; exact hlt)] at c0
          obtain ⟨s1, s2⟩ := hA1.b.stored j (.int .i32 (-8))
          rw [set_at ys j (-8) (by rw [unhide HYL]; exact hlt)] at s1
          have hA2 : Apart (W2.setCell ⟨g, j, none⟩ (.int .i32 (-8))) B (.slice a i ca) (.slice (some ⟨g, 0, none⟩) i cb) i xs (ys.set j (-8)) (some ⟨b', off', none⟩) zs :=
            ⟨hA1.a.kept s2 (by rcases hA1.ab with h | h; · exact .inl h
                               · exact .inr (by simpa [Value.ownBlock] using h)), s1, hA1.ab, hA1.w.grown s2 (fun x hx => by have := hA1.wb x hx; simpa [Value.ownBlock] using this), hA1.wa, hA1.wb⟩
          have hB4 := below_row hB3 s2 hBz3 (fun k e => by cases e; exact (hA1.b.lt g rfl).1)
          have hBz4 : B ≤ (W2.setCell ⟨g, j, none⟩ (.int .i32 (-8))).heap.size := Nat.le_trans hBz3 s2.size
          have HY2 : Hid (∀ k, k < j + 1 → (ys.set j (-8))[k]? = some (-8)) := by
            intro k hk
            rw [List.getElem?_set]
            by_cases hik : j = k
            · subst hik; rw [if_pos rfl, if_pos (by rw [unhide HYL]; exact hlt)]
            · rw [if_neg hik]; exact unhide HY k (by omega)
          have HZ2 : Hid (∀ k, j + 1 ≤ k → k < i → (ys.set j (-8))[k]? = zs[k]?) := by
            intro k hk hk'
            rw [List.getElem?_set, if_neg (by omega)]; exact unhide HZ k (by omega) hk'
          have HYL2 : Hid ((ys.set j (-8)).length = i) := by show _ = _; rw [List.length_set]; exact unhide HYL
          clear s1 s2 hA1 HY HZ
          go_wp2
          go_roundw
          case rel => exact ⟨j + 1, _, by omega, by go_num, HYL2, HY2, HZ2, hA2, hB4, hBz4⟩
          case measure => simp [intOf]; omega
        · obtain rfl : j = i := by omega
          obtain ⟨i0, hi0, hz0, hz1, hz2⟩ := info_parts infoRune
          have hap : (Value.slice a j ca).ownBlock = none ∨ (Value.slice a j ca).ownBlock ≠ (Value.slice b j cb).ownBlock := hA.ab
          have hra := hA.a
          have hrb := hA.b
          clear hA HZ hlt hj
          go_wp2
          go_loopw [9, 10, 11] (fun v9 v10 v11 wr => ∃ k : Nat, k ≤ 40 ∧ v11 = .int .i64 k ∧ wr.ownsRow B 21 1 v9 (j + k) (i32s xs ++ List.replicate k (.int .i32 1)) ∧ wr.ownsRow B 21 1 v10 (j + k) (i32s ys ++ List.replicate k (.int .i32 2)) ∧ (v9.ownBlock = none ∨ v9.ownBlock ≠ v10.ownBlock) ∧ Below B w wr ∧ B ≤ wr.heap.size) (fun _ _ v11 _ => 40 - (intOf v11).toNat)
          case atStart => exact ⟨0, by omega, rfl, by simpa using hra, by simpa using hrb, hap, hB2, hBz⟩
          case round =>
            clear hra hrb hap hB2 hBz
            obtain ⟨k, hk, rfl, hra, hrb, hap, hB2, hBz⟩ := hrel
            by_cases hlt : k < 40
            · obtain ⟨a9, c9, rfl⟩ := row_slice hra
              obtain ⟨a10, c10, rfl⟩ := row_slice hrb
              have HX1 : Hid (i32s xs ++ List.replicate k (Value.int .i32 1) ++ [.int .i32 1] = i32s xs ++ List.replicate (k + 1) (.int .i32 1)) := by show _ = _; rw [List.append_assoc, ← List.replicate_succ']
              have HY1 : Hid (i32s ys ++ List.replicate k (Value.int .i32 2) ++ [.int .i32 2] = i32s ys ++ List.replicate (k + 1) (.int .i32 2)) := by show _ = _; rw [List.append_assoc, ← List.replicate_succ']
              go_wp2_with (first
                | (at_builtin; refine wpList_append_own_at _ rfl _ _ 38 rfl B 21 i0 (.int .i32 0) 1 4 Try.underlying38 hi0 hz0 hz1 hz2 rfl (by decide) _ _ _ rfl (hra.alloc _) ⟨wr.heap.size, 0, none⟩ 1 1 [.int .i32 1] rfl rfl (cell_one_new _ _ _) (by simp [Value.oneCell']) (by unfold maxLen; omega) (by omega) (by simp; omega) ?_; intro v' w4 hown' hgrowx hx0 hblkx)
                | (at_builtin; refine wpList_append_own_at _ rfl _ _ 38 rfl B 21 i0 (.int .i32 0) 1 4 Try.underlying38 hi0 hz0 hz1 hz2 rfl (by decide) _ _ _ rfl (((hrb.alloc (.cells #[.int .i32 1] 21)).kept (show (wr.alloc (.cells #[.int .i32 1] 21)).grownBy w4 (Value.slice a9 (j + k) c9).ownBlock from hgrowx) (apart_symm hap)).alloc _) ⟨w4.heap.size, 0, none⟩ 1 1 [.int .i32 2] rfl rfl (cell_one_new _ _ _) (by simp [Value.oneCell']) (by unfold maxLen; omega) (by omega) (by have := hgrowx.size; simp at this ⊢; omega) ?_; intro v2 w5 hown2 hgrowy hx1 hblky))
              have hgrow : (wr.alloc (.cells #[.int .i32 1] 21)).grownBy w4 (Value.slice a9 (j + k) c9).ownBlock := hgrowx
              have hgrow2 : (w4.alloc (.cells #[.int .i32 2] 21)).grownBy w5 (Value.slice a10 (j + k) c10).ownBlock := hgrowy
              have hblk : v'.ownBlock = (Value.slice a9 (j + k) c9).ownBlock ∨ v'.ownBlock = some (wr.heap.size + 1) := by
                rcases hblkx with h | h
                · exact .inl h
                · exact .inr (by rw [h]; simp)
              have hblk2 : v2.ownBlock = (Value.slice a10 (j + k) c10).ownBlock ∨ v2.ownBlock = some (w4.heap.size + 1) := by
                rcases hblky with h | h
                · exact .inl h
                · exact .inr (by rw [h]; simp)
              clear hgrowx hgrowy hblkx hblky hx0 hx1
              have hrb4 := (hrb.alloc (.cells #[.int .i32 1] 21)).kept hgrow (apart_symm hap)
              have hap4 : v'.ownBlock = none ∨ v'.ownBlock ≠ (Value.slice a10 (j + k) c10).ownBlock := by
                rcases hblk with h | h
                · rw [h]; exact hap
                · right; rw [h]; intro e; have := (hrb.lt _ e.symm).2; omega
              have hB4 := below_grown2 (hB2.alloc hBz (.cells #[.int .i32 1] 21)) (by simp; omega) (hra.alloc _) hgrow
              have hBz4 : B ≤ w4.heap.size := by have := hgrow.size; simp at this; omega
              have hra5 := (hown'.alloc (.cells #[.int .i32 2] 21)).kept hgrow2 hap4
              have hap5 : v'.ownBlock = none ∨ v'.ownBlock ≠ v2.ownBlock := by
                rcases hblk2 with h | h
                · rw [h]; exact hap4
                · right; rw [h]; intro e; have := (hown'.lt _ e).2; omega
              have hB5 := below_grown2 (hB4.alloc hBz4 (.cells #[.int .i32 2] 21)) (by simp; omega) (hrb4.alloc _) hgrow2
              have hBz5 : B ≤ w5.heap.size := by have := hgrow2.size; simp at this; omega
              go_roundw
              case rel => exact ⟨k + 1, by omega, by go_num, by rw [← unhide HX1]; exact hra5, by rw [← unhide HY1]; exact hown2, hap5, hB5, hBz5⟩
              case measure => simp [intOf]; omega
            · obtain rfl : k = 40 := by omega
              obtain ⟨a9, c9, rfl⟩ := row_slice hra
              obtain ⟨a10, c10, rfl⟩ := row_slice hrb
              obtain ⟨g9, rfl⟩ := row_some hra (by omega)
              obtain ⟨g10, rfl⟩ := row_some hrb (by omega)
              have HCX : Hid (∀ i, i < j + 40 → wr.cell? ⟨g9, i, none⟩ = some (.int .i32 (if i < j then -7 else 1)) ∧ wr.cell? ⟨g10, i, none⟩ = some (.int .i32 (if i < j then -8 else 2))) := by
                intro i hi
                rw [hra.cellAt i (by omega), hrb.cellAt i (by omega)]
                by_cases h : i < j
                · rw [if_pos h, if_pos h, front_at xs j 40 i (-7) 1 (unhide HXL) (unhide HXN) h, front_at ys j 40 i (-8) 2 (unhide HYL) (unhide HY) h]; exact ⟨rfl, rfl⟩
                · rw [if_neg h, if_neg h, back_at xs j 40 i 1 (unhide HXL) (by omega) hi, back_at ys j 40 i 2 (unhide HYL) (by omega) hi]; exact ⟨rfl, rfl⟩
              clear hra hrb hap hlt hk
              go_wp2
              go_loop [12] (fun v12 => ∃ i : Nat, i ≤ j + 40 ∧ v12 = .int .i64 i) (fun v12 => j + 40 - (intOf v12).toNat)
              case atStart => exact ⟨0, by omega, rfl⟩
              case round =>
                obtain ⟨i, hi, rfl⟩ := hrel
                by_cases hlt : i < j + 40
                · obtain ⟨x0, y0⟩ := unhide HCX i hlt
                  by_cases hij : i < j
                  · rw [if_pos hij] at x0 y0
                    have d1 : decide ((j : Int) ≤ (i : Int)) = false := decide_eq_false (by omega)
                    go_wp2
                    go_round
                    case rel => exact ⟨i + 1, by omega, by go_num⟩
                    case measure => simp [intOf]; omega
                  · rw [if_neg hij] at x0 y0
                    have d1 : decide ((i : Int) < (j : Int)) = false := decide_eq_false (by omega)
                    go_wp2
                    go_round
                    case rel => exact ⟨i + 1, by omega, by go_num⟩
                    case measure => simp [intOf]; omega
                · go_wp2
                  go_ret
                  exact ⟨rfl, hB2⟩

end Go.Proofs.Ytjkchpjopgpeeaa
