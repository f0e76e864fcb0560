/-
  apart of furrowlaw02: an answer's memory is its own; and FromRunes of the document.
-/
import Derived.Test.YtghcheoholkpbaaWSame
import Derived.Test.YtghcheoholkpbaaWRefA
namespace Go.Proofs.Ytghcheoholkpbaa
open Go.RowKit Go.PlainAid Go.Lib
set_option linter.unusedVariables false

theorem rSame_yes (a b : Option Addr) (ca cb : Nat) (us : List Int) (w : World) (ha : ReadsU w a us) (hb : ReadsU w b us) (hn : us.length ≤ 1099511627776) :
    Calls Try.prog 23 #[.slice a us.length ca, .slice b us.length cb] w fun e w' => e = .returned (.bool true) ∧ Below w.heap.size w w' := by
  have h := rSame_any a b ca cb us us w ha hb hn
  rw [decide_eq_true (rfl : us = us)] at h
  exact h
theorem sameU_yes (a b : Option Addr) (ca cb : Nat) (us : List Int) (w : World) (ha : ReadsU w a us) (hb : ReadsU w b us) (hn : us.length ≤ 1099511627776) :
    Calls Try.prog 49 #[.slice a us.length ca, .slice b us.length cb] w fun e w' => e = .returned (.bool true) ∧ Below w.heap.size w w' := by
  have h := sameU_any a b ca cb us us w ha hb hn
  rw [decide_eq_true (rfl : us = us)] at h
  exact h
/-- a list that lies in another block than a value's row -/
def Away (v : Value) (b : Option Addr) (zs : List Int) : Prop := zs ≠ [] → ∀ x, b = some x → some x.block ≠ v.ownBlock
theorem ReadsU.grownA {w W : World} {b : Option Addr} {zs : List Int} {v : Value} (h : ReadsU w b zs) (hg : w.grownBy W v.ownBlock) (ha : Away v b zs) : ReadsU W b zs := by
  by_cases hz : zs = []
  · subst hz; intro k hk; simp at hk
  · exact h.grown hg (ha hz)
theorem ReadsU.lt {w : World} {b : Option Addr} {zs : List Int} (h : ReadsU w b zs) (hz : zs ≠ []) {x : Addr} (hx : b = some x) : x.block < w.heap.size := by
  obtain ⟨b', off, e, hc⟩ := h 0 (List.length_pos_iff.2 hz)
  rw [hx] at e
  obtain rfl : x = ⟨b', off, none⟩ := by simpa using e
  exact World.block_lt_of_cell? w _ hc
theorem Away.next {w : World} {b : Option Addr} {zs : List Int} {v v' : Value} {H : Nat} (h : ReadsU w b zs) (ha : Away v b zs) (hv : v'.ownBlock = v.ownBlock ∨ v'.ownBlock = some H) (hH : w.heap.size ≤ H) : Away v' b zs := by
  intro hz x hx
  rcases hv with hv | hv
  · rw [hv]; exact ha hz x hx
  · rw [hv]; intro e
    have := h.lt hz hx
    have e2 : x.block = H := by simpa using e
    omega
theorem away_own {w : World} {base : Nat} {e : TypeId} {v : Value} {n : Nat} {xs : List Value} (hr : w.ownsRow base e 1 v n xs) {w0 : World} {b : Option Addr} {zs : List Int} (h : ReadsU w0 b zs) (hb : w0.heap.size ≤ base) : Away v b zs := by
  intro hz x hx e
  have h1 := h.lt hz hx
  have := (hr.lt _ e.symm).1
  omega
theorem grown_on {a b c : World} {row r2 : Option Nat} (h : a.grownBy b row) (k : b.grownBy c r2) (hr : ∀ x, r2 = some x → r2 = row ∨ a.heap.size ≤ x) : a.grownBy c row :=
  ⟨k.os.trans h.os, k.tape.trans h.tape, k.output.trans h.output, Nat.le_trans h.size k.size, fun i hi hne => (k.block i (by have := h.size; omega) (fun e => by
    rcases hr i e.symm with h' | h'
    · exact hne (e.trans h')
    · omega)).trans (h.block i hi hne)⟩
theorem grown_below {a b : World} (h : Below a.heap.size a b) (row : Option Nat) : a.grownBy b row := ⟨h.os, h.tape, h.output, h.size, fun i hi _ => h.block i hi⟩
theorem away_rows {W : World} {base : Nat} {e : TypeId} {a : Option Addr} {n c : Nat} {xs : List Value} {v : Value} {us : List Int} (q : W.ownsRow base e 1 (.slice a n c) n xs) (hl : ∀ g, v.ownBlock = some g → g < base) : Away v a us := by
  intro _ x hx e
  have h1 := hl _ e.symm
  have h2 := (q.lt x.block (by rw [hx]; rfl)).1
  omega
theorem rows_ne {W : World} {base : Nat} {e : TypeId} {v9 : Value} {n : Nat} {xs : List Value} {v : Value} (q : W.ownsRow base e 1 v9 n xs) (hl : ∀ g, v.ownBlock = some g → g < base) : v9.ownBlock = none ∨ v9.ownBlock ≠ v.ownBlock := by
  cases h : v9.ownBlock with
  | none => exact .inl rfl
  | some g =>
    right
    intro e
    have h1 := hl g e.symm
    have h2 := (q.lt g h).1
    omega
theorem set_u (l : List Int) (i : Nat) (v : Int) : (u16s l).set i (.int .u16 v) = u16s (l.set i v) := by simp [List.map_set]

set_option maxRecDepth 100000 in
set_option maxHeartbeats 2000000 in
theorem apart_any (w : World) (B : Nat) (va : Value) (n : Nat) (xs : List Int) (b aw : Option Addr) (cb cw : Nat) (zs : List Int) (hrow : w.ownsRow B 22 1 va n (u16s xs)) (hn : zs.length = n) (hnb : n ≤ 1099511627776) (hB : B ≤ w.heap.size)
    (hb : ReadsU w b zs) (hw : ReadsU w aw zs) (ab : Away va b zs) (aa : Away va aw zs) :
    Calls Try.prog 27 #[va, .slice b n cb, .slice aw n cw] w fun e w' => e = .returned (.bool true) ∧ Below B w w' ∧ w.grownBy w' va.ownBlock := by
  obtain ⟨a, ca, rfl⟩ := row_is hrow
  have HS := hide (fun W (h : ReadsU W b zs) (h' : ReadsU W aw zs) => rSame_any b aw cb cw zs zs W h h' (by omega))
  have hdt : decide (zs = zs) = true := by simp
  rw [hdt, hn] at HS
  clear hdt
  have HN := hide hn
  clear hn
  have hxl := row_len hrow
  go_enter Try.func27, Try.ntmps27
  go_wp2
  go_loopw [7] (fun v7 wr => ∃ (i : Nat) (ys : List Int), i ≤ n ∧ v7 = .int .i64 i ∧ ys.length = n ∧ wr.ownsRow B 22 1 (.slice a n ca) n (u16s ys) ∧ ReadsU wr b zs ∧ ReadsU wr aw zs ∧ Below B w wr ∧ B ≤ wr.heap.size ∧ w.grownBy wr (Value.slice a n ca).ownBlock) (fun v7 _ => n - (intOf v7).toNat)
  case atStart => exact ⟨0, xs, Nat.zero_le _, rfl, hxl, hrow, hb, hw, Below.refl _ _, hB, grown_below (Below.refl _ _) _⟩
  case round =>
    clear hrow hb hw hB hxl
    obtain ⟨i, ys, hi, rfl, hyl, hrow, hb, hw, hBel, hB, hG⟩ := hrel
    by_cases hlt : i < n
    · obtain ⟨g, rfl⟩ := row_at hrow (by omega)
      have c0 := hrow.cellAt i (by omega)
      rw [List.getElem?_map, List.getElem?_eq_getElem (by omega)] at c0
      have c1 := hrow.frozenAt i
      obtain ⟨s1, s2⟩ := hrow.stored i (.int .u16 9)
      rw [set_u] at s1
      have hb2 := hb.grownA (v := .slice (some ⟨g, 0, none⟩) n ca) s2 ab
      have hw2 := hw.grownA (v := .slice (some ⟨g, 0, none⟩) n ca) s2 aa
      have hB2 := hBel.grown s2 hB (fun k e => by cases e; exact (hrow.lt g rfl).1)
      have hB3 : B ≤ (wr.setCell ⟨g, i, none⟩ (.int .u16 9)).heap.size := Nat.le_trans hB s2.size
      have hG2 := hG.trans (show wr.grownBy _ (Value.slice (some ⟨g, 0, none⟩) n ca).ownBlock from s2)
      clear s2 hrow hb hw hBel hG
      go_wp2
      go_roundw
      case rel => exact ⟨i + 1, _, by omega, by go_num, by simp [hyl], s1, hb2, hw2, hB2, hB3, hG2⟩
      case measure => simp [intOf]; omega
    · obtain rfl : i = n := by omega
      clear hlt hi hyl
      go_wp2
      go_loopw [0, 8] (fun v0 v8 wr => ∃ (k : Nat) (ys : List Int), k ≤ 40 ∧ v8 = .int .i64 k ∧ wr.ownsRow B 22 1 v0 (i + k) (u16s ys) ∧ ReadsU wr b zs ∧ ReadsU wr aw zs ∧ Away v0 b zs ∧ Away v0 aw zs ∧ Below B w wr ∧ B ≤ wr.heap.size ∧ w.grownBy wr (Value.slice a i ca).ownBlock ∧ (v0.ownBlock = (Value.slice a i ca).ownBlock ∨ ∃ x, v0.ownBlock = some x ∧ w.heap.size ≤ x)) (fun _ v8 _ => 40 - (intOf v8).toNat)
      case atStart => exact ⟨0, ys, by omega, rfl, hrow, hb, hw, ab, aa, hBel, hB, hG, .inl rfl⟩
      case round =>
        clear hrow hb hw hBel hB ab aa hG
        obtain ⟨k, zs', hk, rfl, hrow, hb, hw, ab, aa, hBel, hB, hG, hV⟩ := hrel
        by_cases hlt : k < 40
        · obtain ⟨i0, hi0, hz0, hz1, hz2⟩ := info_parts infoUnit
          obtain ⟨a9, c9, rfl⟩ := row_is hrow
          have HX := hide (u16s_append zs' [9])
          go_wp2_with (at_builtin; refine wpList_append_own_at _ rfl _ _ 31 rfl B 22 i0 (.int .u16 0) 1 2 Try.underlying31 hi0 hz0 hz1 hz2 rfl (by decide) _ _ _ rfl (hrow.alloc _) ⟨wr.heap.size, 0, none⟩ 1 1 [.int .u16 9] rfl rfl (cell_one_new _ _ _) (by simp [Value.oneCell']) (by unfold maxLen; omega) (by omega) (by simp; omega) ?_; intro v' w4 hown' hgrowx hx0 hblkx)
          have hgrow : (wr.alloc (.cells #[.int .u16 9] 22)).grownBy w4 (Value.slice a9 (i + k) c9).ownBlock := hgrowx
          have hblk : v'.ownBlock = (Value.slice a9 (i + k) c9).ownBlock ∨ v'.ownBlock = some (wr.heap.size + 1) := by
            rcases hblkx with h | h
            · exact .inl h
            · exact .inr (by rw [h]; simp)
          clear hgrowx hblkx hx0
          have hbA : ReadsU (wr.alloc (.cells #[.int .u16 9] 22)) b zs := hb.below (by go_grown)
          have hwA : ReadsU (wr.alloc (.cells #[.int .u16 9] 22)) aw zs := hw.below (by go_grown)
          have hb4 := hbA.grownA hgrow ab
          have hw4 := hwA.grownA hgrow aa
          have ab4 := ab.next hb hblk (by omega)
          have aa4 := aa.next hw hblk (by omega)
          have hB4 := belowGrown (hBel.alloc hB (.cells #[.int .u16 9] 22)) (by simp; omega) (hrow.alloc _) hgrow
          have hBz4 : B ≤ w4.heap.size := by have := hgrow.size; simp at this; omega
          have hG4 : w.grownBy w4 (Value.slice a i ca).ownBlock := grown_on (hG.trans (World.grownBy_alloc wr (.cells #[.int .u16 9] 22) _)) hgrow (fun x hx => by
            rcases hV with h | ⟨y, h, hy⟩
            · exact .inl h
            · right
              rw [hx] at h
              have e : x = y := by simpa using h
              omega)
          have hwz := hG.size
          have hV4 : v'.ownBlock = (Value.slice a i ca).ownBlock ∨ ∃ x, v'.ownBlock = some x ∧ w.heap.size ≤ x := by
            rcases hblk with h | h
            · rw [h]; exact hV
            · exact .inr ⟨_, h, by omega⟩
          clear hV hG
          have HV4 := hide hV4
          clear hV4
          go_roundw
          case rel => exact ⟨k + 1, zs' ++ [9], by omega, by go_num, by rw [unhide HX]; exact hown', hb4, hw4, ab4, aa4, hB4, hBz4, hG4, unhide HV4⟩
          case measure => simp [intOf]; omega
        · obtain rfl : k = 40 := by omega
          obtain ⟨a9, c9, rfl⟩ := row_is hrow
          have hq : (((i + 40 : Nat) : Int) == (i : Int) + 40) = true := by simp
          have HSS := hide (unhide HS wr hb hw)
          clear hrow hlt hk hV
          go_wp2_with fail
          refine (unhide HSS).mono ?_
          rintro e w5 ⟨rfl, hb5⟩
          go_wp2
          go_ret
          exact ⟨rfl, hBel.trans (hb5.mono hB), hG.trans (grown_below hb5 _)⟩

end Go.Proofs.Ytghcheoholkpbaa
