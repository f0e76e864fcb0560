/-
  The law RowsScans, walked.
-/
import Derived.Test.YthjnkagepooeiaaGreatDoorRwRs2
import Derived.Test.YthjnkagepooeiaaGreatDoorRwTw
import Derived.Test.YthjnkagepooeiaaGreatDoorRwA
import Derived.BigQuiet
import Derived.Laws.StructEq
namespace Go.Proofs.YthjnkagepooeiaaGreatDoor
open Go.RowKit Go.PlainAid Go.Lib Go.PHexM Go.Shelf
set_option linter.unusedVariables false
set_option linter.unusedSimpArgs false

theorem TxP.txG {w : World} {a : Option Addr} {l : List (List UInt8)} (h : TxP w a l) : TxG w a l := fun i x hx => by
  obtain ⟨g, o, e, _, hc⟩ := h i x hx
  exact ⟨g, o, e, hc⟩
theorem row_txG {w : World} {base g cap n : Nat} {l : List (List UInt8)} (h : w.ownsRow base 9 1 (.slice (some ⟨g, 0, none⟩) n cap) n (strVs (l.map S))) : ∀ (i : Nat) (x : List UInt8), l[i]? = some x → w.cell? ⟨g, i, none⟩ = some (.string (S x)) := by
  intro i x hx
  rcases h.2 with ⟨e, _⟩ | ⟨g', cap', cur, e, hb, hh, h3, h4, h5, h6⟩
  · cases e
  · simp at e
    obtain ⟨rfl, rfl⟩ := e
    have e1 : (strVs (l.map S))[i]? = some (.string (S x)) := by simp [strVs, hx]
    rw [← h6, List.getElem?_take] at e1
    split at e1
    · simpa [World.cell?, hh] using e1
    · cases e1
theorem line_new (w : World) (x0 x1 x2 x3 x4 : Value) (t : TypeId) : ∃ V, w.alloc (.cells #[x0, x1, x2, x3, x4] t) = V ∧ Below w.heap.size w V ∧ V.heap.size = w.heap.size + 1 ∧ V.heap[w.heap.size]? = some (.cells #[x0, x1, x2, x3, x4] t (0, 0)) :=
  ⟨_, rfl, (Below.refl _ w).alloc (Nat.le_refl _) _, by simp, heap_alloc_new w _⟩

set_option maxRecDepth 100000 in
set_option maxHeartbeats 4000000 in
theorem scans_walk (d : LineD) (a : Option Addr) (n c : Nat) (w : World) (hg : Glob w) (hn : d.fields.length = n) (hc : n ≤ c) (hb : n ≤ 1099511627776) (h : TxP w a d.fields) (hs : ∀ x ∈ d.fields, x.length ≤ 1073741824) :
    Calls Tryz.prog 3 #[lineV d (.slice a n c)] w fun e w' => e = .returned (.bool true) ∧ Below w.heap.size w w' := by
  obtain ⟨W1, hW1, bW1, sW1, lW1⟩ := line_new w (.int .i64 d.no) (.int .u8 d.kind) (.string (S d.name)) (.slice a n c) (.string (S d.note)) 25
  have HTW := hide (twin6_any d a n c W1 hn hc hb (h.below bW1))
  have HS1 := hide (fun fa fc V (hg : Glob V) hT => by have := scan6_any d fa fc V hg hT hs; rw [hn] at this; exact this)
  have HS2 := hide (fun fa fc V hT => by have := refScan_any d fa fc V hT hs; rw [hn] at this; exact this)
  obtain ⟨R, hR⟩ : ∃ R, (scanR d).1 = R := ⟨_, rfl⟩
  obtain ⟨k, hk⟩ : ∃ k, (scanR d).2 = k := ⟨_, rfl⟩
  rw [hR, hk] at HS1 HS2
  have hTG := h.txG
  have HF : Hid (∀ (V : World), Below w.heap.size w V → TxG V a d.fields) := fun V hV => hTG.below hV
  have HG := hide hg
  have HN := hide hn
  obtain ⟨c0, c1, c2, c3, c4, -, -, -, -, -⟩ := box5 lW1
  have LW1 := hide lW1
  have BW1 := hide bW1
  clear hg h hTG hR hk hs hn
  obtain ⟨no, kind, name, fields, note⟩ := d
  simp only [lineV] at *
  go_enter Tryz.func3, Tryz.ntmps3
  go_wp2_with fail
  clear hW1
  refine (unhide HTW).mono ?_
  rintro e w2 ⟨g, cap, rfl, hrow, hb2⟩
  have hcell := row_txG hrow
  obtain ⟨hcp1, hcp2, hgb⟩ : n + 1 ≤ cap ∧ cap ≤ 9223372036854775807 ∧ W1.heap.size ≤ g := by
    obtain ⟨_, _, he, k1, k2, k3, _⟩ := row_form hrow (by omega)
    obtain ⟨rfl, rfl⟩ : g = _ ∧ cap = _ := by simpa using he
    unfold maxLen at k2
    exact ⟨k1, k2, k3⟩
  have hmk : w2.cell? ⟨g, n, none⟩ = some (.string (S markL)) := hcell n markL (by rw [List.getElem?_append_right (by rw [unhide HN]; exact Nat.le_refl _), unhide HN, Nat.sub_self]; rfl)
  have hcf : ∀ (i : Nat) (x : List UInt8), fields[i]? = some x → w2.cell? ⟨g, i, none⟩ = some (.string (S x)) := fun i x hx => hcell i x (by rw [List.getElem?_append_left (List.getElem?_eq_some_iff.1 hx).1]; exact hx)
  have bw2 : Below w.heap.size w w2 := (unhide BW1).trans (hb2.mono (by omega))
  have l2 := (hb2.block w.heap.size (by omega)).trans (unhide LW1)
  have s2 := hb2.size
  obtain ⟨W3, hW3, bW3, sW3, lW3⟩ := line_new w2 (.int .i64 no) (.int .u8 kind) (.string (S name)) (.slice (some ⟨g, 0, none⟩) n cap) (.string (S note)) 25
  have b3 := bw2.trans (bW3.mono bw2.size)
  have f3 : ∀ (i : Nat) (x : List UInt8), fields[i]? = some x → W3.cell? ⟨g, i, none⟩ = some (.string (S x)) := fun i x hx => (bW3.cell (World.block_lt_of_cell? _ _ (hcf i x hx))).trans (hcf i x hx)
  have m3 := (bW3.cell (World.block_lt_of_cell? _ _ hmk)).trans hmk
  have k3 := (bW3.block w.heap.size (by omega)).trans l2
  have t3 : TxG W3 (some ⟨g, 0, none⟩) fields := fun i x hx => ⟨g, 0, rfl, by rw [Nat.zero_add]; exact f3 i x hx⟩
  have HSC := hide (unhide HS1 (some ⟨g, 0, none⟩) cap W3 ((unhide HG).below b3) t3)
  obtain ⟨d0, d1, d2, d3, d4, -, -, -, -, -⟩ := box5 lW3
  have F3 := hide f3
  have M3 := hide m3
  have K3 := hide k3
  have L3 := hide lW3
  have B3 := hide b3
  clear hrow hb2 hcell hmk hcf bw2 l2 bW3 f3 m3 k3 t3 lW3 b3 c0 c1 c2 c3 c4 HTW
  go_wp2_with fail
  clear hW3
  refine (unhide HSC).mono ?_
  rintro e w4 ⟨rfl, hb4⟩
  have s4 := hb4.size
  obtain ⟨W5, hW5⟩ : ∃ W5, w4.alloc (.cells #[.int .i64 R.line, .int .i32 R.first, .int .i32 R.last, .string (S R.name), .string (S R.cat), .int .u8 R.comb, .int .u8 R.cls, .int .i32 R.twin, .bool R.mir] 29) = W5 := ⟨_, rfl⟩
  have bW5 : Below w4.heap.size w4 W5 := by rw [← hW5]; exact (Below.refl _ w4).alloc (Nat.le_refl _) _
  have rW5 : RowAt W5 w4.heap.size R := by rw [← hW5]; exact heap_alloc_new w4 _
  have sW5 : W5.heap.size = w4.heap.size + 1 := by rw [← hW5]; simp
  have b35 : Below W3.heap.size W3 W5 := hb4.trans (bW5.mono hb4.size)
  have b5 := (unhide B3).trans (b35.mono (unhide B3).size)
  have k5 := (b35.block w.heap.size (by omega)).trans (unhide K3)
  obtain ⟨c0, c1, c2, c3, c4, -, -, -, -, -⟩ := box5 k5
  have HSD := hide (unhide HS2 a c W5 (unhide HF W5 b5))
  have RW5 := hide rW5
  have B35 := hide b35
  have B5 := hide b5
  have K5 := hide k5
  clear hb4 bW5 rW5 b35 b5 k5 HSC d0 d1 d2 d3 d4
  go_wp2_with fail
  clear hW5
  refine (unhide HSD).mono ?_
  rintro e w6 ⟨rfl, hb6⟩
  have s6 := hb6.size
  obtain ⟨W7, hW7⟩ : ∃ W7, w6.alloc (.cells #[.int .i64 R.line, .int .i32 R.first, .int .i32 R.last, .string (S R.name), .string (S R.cat), .int .u8 R.comb, .int .u8 R.cls, .int .i32 R.twin, .bool R.mir] 29) = W7 := ⟨_, rfl⟩
  have bW7 : Below w6.heap.size w6 W7 := by rw [← hW7]; exact (Below.refl _ w6).alloc (Nat.le_refl _) _
  have rW7 : RowAt W7 w6.heap.size R := by rw [← hW7]; exact heap_alloc_new w6 _
  have b57 : Below W5.heap.size W5 W7 := hb6.trans (bW7.mono hb6.size)
  have qW5 : RowAt W7 w4.heap.size R := (unhide RW5).below b57
  have b37 : Below W3.heap.size W3 W7 := (unhide B35).trans (b57.mono (unhide B35).size)
  have b7 := (unhide B5).trans (b57.mono (unhide B5).size)
  have k7 := (b57.block w.heap.size (by omega)).trans (unhide K5)
  have l7 := (b37.block w2.heap.size (by omega)).trans (unhide L3)
  have m7 := (b37.cell (World.block_lt_of_cell? _ _ (unhide M3))).trans (unhide M3)
  have hq1 : IntKind.i64.wrap ((n : Int) + 1) = (n : Int) + 1 := by rw [IntKind.wrap_i64]; omega
  have hkk : (k != k) = false := by simp
  have F7 : Hid (∀ (i : Nat) (x : List UInt8), fields[i]? = some x → W7.cell? ⟨g, i, none⟩ = some (.string (S x))) := fun i x hx => (b37.cell (World.block_lt_of_cell? _ _ (unhide F3 i x hx))).trans (unhide F3 i x hx)
  have G7 := hide (unhide HF W7 b7)
  obtain ⟨e0, e1, e2, e3, e4, -, -, -, -, -⟩ := box5 k7
  obtain ⟨d0, d1, d2, d3, d4, -, -, -, -, -⟩ := box5 l7
  have x0 := qW5.cell (j := 0) rfl
  have x1 := qW5.cell (j := 1) rfl
  have x2 := qW5.cell (j := 2) rfl
  have x3 := qW5.cell (j := 3) rfl
  have x4 := qW5.cell (j := 4) rfl
  have x5 := qW5.cell (j := 5) rfl
  have x6 := qW5.cell (j := 6) rfl
  have x7 := qW5.cell (j := 7) rfl
  have x8 := qW5.cell (j := 8) rfl
  have y0 := rW7.cell (j := 0) rfl
  have y1 := rW7.cell (j := 1) rfl
  have y2 := rW7.cell (j := 2) rfl
  have y3 := rW7.cell (j := 3) rfl
  have y4 := rW7.cell (j := 4) rfl
  have y5 := rW7.cell (j := 5) rfl
  have y6 := rW7.cell (j := 6) rfl
  have y7 := rW7.cell (j := 7) rfl
  have y8 := rW7.cell (j := 8) rfl
  have hW7' := hide hW7
  have B7 := hide b7
  have K7 := hide k7
  have L7 := hide l7
  clear hb6 bW7 rW7 b57 qW5 b37 b7 k7 l7 HSD c0 c1 c2 c3 c4
  go_wp2
  clear hW7
  go_quiet (fail)
  clear x0 x1 x2 x3 x4 x5 x6 x7 x8 y0 y1 y2 y3 y4 y5 y6 y7 y8 m7
  go_wp2
  go_loopw [8] (fun v8 wr => ∃ i m : Nat, i ≤ n ∧ v8 = .int .i64 i ∧ wr = W7.drewN m) (fun v8 _ => n - (RowKit.intOf v8).toNat)
  case atStart => exact ⟨0, _, Nat.zero_le _, rfl, rfl⟩
  case round =>
    obtain ⟨i, m, hi, rfl, rfl⟩ := hrel
    obtain ⟨WX, hWX⟩ : ∃ WX, W7.drewN m = WX := ⟨_, rfl⟩
    have hbx : Below W7.heap.size W7 WX := by rw [← hWX]; exact below_drewN (Below.refl _ _) m
    have sx : W7.heap.size = WX.heap.size := by rw [← hWX]; rfl
    have kx := (hbx.block w.heap.size (by have := (Array.getElem?_eq_some_iff.1 (unhide K7)).1; exact this)).trans (unhide K7)
    have lx := (hbx.block w2.heap.size (by have := (Array.getElem?_eq_some_iff.1 (unhide L7)).1; exact this)).trans (unhide L7)
    obtain ⟨u0, u1, u2, u3, u4, -, -, -, -, -⟩ := box5 kx
    obtain ⟨v0, v1, v2, v3, v4, -, -, -, -, -⟩ := box5 lx
    by_cases hlt : i < n
    · obtain ⟨x, hx⟩ : ∃ x, fields[i]? = some x := ⟨_, List.getElem?_eq_getElem (by have := unhide HN; omega)⟩
      have ci := (hbx.cell (World.block_lt_of_cell? _ _ (unhide F7 i x hx))).trans (unhide F7 i x hx)
      obtain ⟨ga, oa, rfl, ca⟩ := (unhide G7) i x hx
      have ci2 := (hbx.cell (World.block_lt_of_cell? _ _ ca)).trans ca
      have hlt' : (i : Int) < (n : Int) := by omega
      have hq2 : IntKind.i64.wrap ((i : Int) + 1) = (i : Int) + 1 := by rw [IntKind.wrap_i64]; omega
      have hlc : (i : Int) < (cap : Int) := by omega
      rw [hWX]
      have HWX := hide hWX
      clear hWX hbx kx lx ca hx e0 e1 e2 e3 e4 d0 d1 d2 d3 d4 sx
      go_wp2
      go_quiet (fail)
      go_wp2
      go_roundw
      case rel => exact ⟨i + 1, m + nq, by omega, by go_num, by rw [← unhide HWX]; exact World.drewN_drewN _ _ _⟩
      case measure => simp [RowKit.intOf]; omega
    · obtain rfl : i = n := by omega
      have bx := (unhide B7).trans (hbx.mono (unhide B7).size)
      rw [hWX]
      have BX := hide bx
      clear hWX hbx kx lx e0 e1 e2 e3 e4 d0 d1 d2 d3 d4 sx bx
      go_wp2_with fail
      refine (awake6_any _ ((unhide HG).below (unhide BX))).mono ?_
      rintro e w9 ⟨rfl, hb9⟩
      have B9 := hide ((unhide BX).trans (hb9.mono (unhide BX).size))
      clear hb9
      go_wp2
      go_ret
      exact ⟨rfl, unhide B9⟩
end Go.Proofs.YthjnkagepooeiaaGreatDoor
