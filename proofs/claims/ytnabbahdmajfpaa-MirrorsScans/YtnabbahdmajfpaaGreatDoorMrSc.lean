/-
  The law MirrorsScans, walked.
-/
import Derived.Test.YtnabbahdmajfpaaGreatDoorMrRs
import Derived.Test.YtnabbahdmajfpaaGreatDoorMrOL
import Derived.Test.YtnabbahdmajfpaaGreatDoorMrOfW
namespace Go.Proofs.YtnabbahdmajfpaaGreatDoor
open Go.RowKit Go.PlainAid Go.Lib Go.PHexM Go.Shelf
set_option linter.unusedVariables false
set_option linter.unusedSimpArgs false

theorem TxP.txM {w : World} {a : Option Addr} {l : List (List UInt8)} (h : TxP w a l) : TxM w a l := fun i x hx => by
  obtain ⟨g, o, e, _, hc⟩ := h i x hx
  exact ⟨g, o, e, hc⟩
theorem row_txM {w : World} {base g cap n : Nat} {l : List (List UInt8)} (h : w.ownsRow base 9 1 (.slice (some ⟨g, 0, none⟩) n cap) n (strVs (l.map S))) : ∀ (i : Nat) (x : List UInt8), l[i]? = some x → w.cell? ⟨g, i, none⟩ = some (.string (S x)) := by
  intro i x hx
  rcases h.2 with ⟨e, _⟩ | ⟨g', cap', cur, e, hb, hh, h3, h4, h5, h6⟩
  · cases e
  · simp at e
    obtain ⟨rfl, rfl⟩ := e
    have e1 : (strVs (l.map S))[i]? = some (.string (S x)) := by simp [strVs, hx]
    rw [← h6, List.getElem?_take] at e1
    split at e1
    · simpa [World.cell?, hh] using e1
    · cases e1
theorem line_newM (w : World) (x0 x1 x2 x3 x4 : Value) (t : TypeId) : ∃ V, w.alloc (.cells #[x0, x1, x2, x3, x4] t) = V ∧ Below w.heap.size w V ∧ V.heap.size = w.heap.size + 1 ∧ V.heap[w.heap.size]? = some (.cells #[x0, x1, x2, x3, x4] t (0, 0)) :=
  ⟨_, rfl, (Below.refl _ w).alloc (Nat.le_refl _) _, by simp, heap_alloc_new w _⟩
/-- a line copied into a box of its own, its fields replaced -/
theorem own_line (w5 : World) (L0 : Nat) (x0 x1 x2 x3 x4 v : Value) (q : w5.heap[L0]? = some (.cells #[x0, x1, x2, x3, x4] 25 (0, 0))) : ∃ W6 W7, w5.alloc (.cells #[x0, x1, x2, x3, x4] 25) = W6 ∧ W6.setCell ⟨w5.heap.size, 3, none⟩ v = W7 ∧ Below w5.heap.size w5 W7 ∧ W7.heap.size = w5.heap.size + 1 ∧
    W7.heap[w5.heap.size]? = some (.cells #[x0, x1, x2, v, x4] 25 (0, 0)) ∧ W7.heap[L0]? = some (.cells #[x0, x1, x2, x3, x4] 25 (0, 0)) ∧
    (W6.cell? ⟨L0, 0, none⟩ = some x0 ∧ W6.cell? ⟨L0, 1, none⟩ = some x1 ∧ W6.cell? ⟨L0, 2, none⟩ = some x2 ∧ W6.cell? ⟨L0, 3, none⟩ = some x3 ∧ W6.cell? ⟨L0, 4, none⟩ = some x4) ∧
    (W6.cell? ⟨w5.heap.size, 0, none⟩ = some x0 ∧ W6.cell? ⟨w5.heap.size, 1, none⟩ = some x1 ∧ W6.cell? ⟨w5.heap.size, 2, none⟩ = some x2 ∧ W6.cell? ⟨w5.heap.size, 3, none⟩ = some x3 ∧ W6.cell? ⟨w5.heap.size, 4, none⟩ = some x4 ∧ W6.frozen? ⟨w5.heap.size, 3, none⟩ = false) ∧
    (W7.cell? ⟨w5.heap.size, 0, none⟩ = some x0 ∧ W7.cell? ⟨w5.heap.size, 1, none⟩ = some x1 ∧ W7.cell? ⟨w5.heap.size, 2, none⟩ = some x2 ∧ W7.cell? ⟨w5.heap.size, 3, none⟩ = some v ∧ W7.cell? ⟨w5.heap.size, 4, none⟩ = some x4) ∧
    (W7.cell? ⟨L0, 0, none⟩ = some x0 ∧ W7.cell? ⟨L0, 1, none⟩ = some x1 ∧ W7.cell? ⟨L0, 2, none⟩ = some x2 ∧ W7.cell? ⟨L0, 3, none⟩ = some x3 ∧ W7.cell? ⟨L0, 4, none⟩ = some x4) := by
  obtain ⟨W6, hW6, hb6, l6, n6⟩ := line_newM w5 x0 x1 x2 x3 x4 25
  have hlt := (Array.getElem?_eq_some_iff.1 q).1
  have p1 := (hb6.block _ hlt).trans q
  have s1 : (W6.setCell ⟨w5.heap.size, 3, none⟩ v).heap[w5.heap.size]? = some (.cells #[x0, x1, x2, v, x4] 25 (0, 0)) := by rw [heap_setCell_same _ _ _ _ _ _ n6]; rfl
  have s2 : (W6.setCell ⟨w5.heap.size, 3, none⟩ v).heap[L0]? = some (.cells #[x0, x1, x2, x3, x4] 25 (0, 0)) := (Below.heap_setCell _ _ _ _ (by simp; omega)).trans p1
  obtain ⟨a0, a1, a2, a3, a4, -⟩ := box5 p1
  obtain ⟨b0, b1, b2, b3, b4, -, -, -, f3, -⟩ := box5 n6
  obtain ⟨c0, c1, c2, c3, c4, -⟩ := box5 s1
  obtain ⟨d0, d1, d2, d3, d4, -⟩ := box5 s2
  exact ⟨W6, _, hW6, rfl, hb6.setCell (Nat.le_refl _) _, by simp [l6], s1, s2, ⟨a0, a1, a2, a3, a4⟩, ⟨b0, b1, b2, b3, b4, f3⟩, ⟨c0, c1, c2, c3, c4⟩, ⟨d0, d1, d2, d3, d4⟩⟩
abbrev markB : List UInt8 := [109, 97, 114, 107]

set_option maxRecDepth 100000 in
set_option maxHeartbeats 4000000 in
theorem scans9_walk (d : LineD) (a : Option Addr) (n c : Nat) (w : World) (hg : errTypeAt w) (hn : d.fields.length = n) (hc : n ≤ c) (hb : n ≤ 1099511627776) (h : TxP w a d.fields) :
    Calls Tryz.prog 3 #[lineV d (.slice a n c)] w fun e w' => e = .returned (.bool true) ∧ Below w.heap.size w w' := by
  obtain ⟨i0, hi0, hz0, hz1, hz2⟩ := info_parts infoStr
  have HS1 := hide (fun fa fc V hT => by have := scan9_any d fa fc V hT; rw [hn] at this; exact this)
  have HS2 := hide (fun fa fc V hT => by have := refScan9_any d fa fc V hT; rw [hn] at this; exact this)
  obtain ⟨R, hR⟩ : ∃ R, (scanM d).1 = R := ⟨_, rfl⟩
  obtain ⟨k, hk⟩ : ∃ k, (scanM d).2 = k := ⟨_, rfl⟩
  rw [hR, hk] at HS1 HS2
  have HF : Hid (∀ (V : World), Below w.heap.size w V → TxM V a d.fields) := fun V hV => h.txM.below hV
  have HG := hide hg
  have HN := hide hn
  obtain ⟨no, kind, name, fields, note⟩ := d
  simp only [lineV] at *
  obtain ⟨W1, hW1⟩ : ∃ W1, w.alloc (.cells #[.int .i64 no, .int .u8 kind, .string (S name), .slice a n c, .string (S note)] 25) = W1 := ⟨_, rfl⟩
  have bW1 : Below w.heap.size w W1 := by rw [← hW1]; exact (Below.refl _ w).alloc (Nat.le_refl _) _
  have sW1 : W1.heap.size = w.heap.size + 1 := by rw [← hW1]; simp
  have lW1 : W1.heap[w.heap.size]? = some (.cells #[.int .i64 no, .int .u8 kind, .string (S name), .slice a n c, .string (S note)] 25 (0, 0)) := by rw [← hW1]; exact heap_alloc_new w _
  obtain ⟨c0, c1, c2, c3, c4, -, -, -, -, -⟩ := box5 lW1
  have HTX := hide (h.below bW1)
  have LW1 := hide lW1
  have BW1 := hide bW1
  clear hg h hR hk hn lW1 bW1
  go_enter Tryz.func3, Tryz.ntmps3
  go_wp2_with (at_builtin; first | (refine wpList_append_tp rfl _ _ 23 rfl W1.heap.size 9 i0 (.string ⟨#[]⟩) 16 Tryz.underlying23 hi0 hz0 hz1 hz2 rfl _ 0 [] rfl (World.ownsRow_nil W1 _ _ _) _ _ _ fields rfl (unhide HN) hc (unhide HTX) (by unfold maxLen; omega) (by omega) (Nat.le_refl _) ?_; intro v' w4 hown hgrow; rw [Nat.zero_add, List.nil_append] at hown; obtain ⟨fa, fc, rfl⟩ := row_slice2 hown; replace hgrow : W1.grownBy w4 none := hgrow; have hs4 : W1.heap.size ≤ w4.heap.size := hgrow.size) | (refine wpList_append_own_at _ rfl _ _ 23 rfl W1.heap.size 9 i0 (.string ⟨#[]⟩) 1 16 Tryz.underlying23 hi0 hz0 hz1 hz2 rfl (by decide) _ _ _ rfl (hown.alloc _) ⟨w4.heap.size, 0, none⟩ 1 1 [.string ⟨#[109, 97, 114, 107]⟩] rfl rfl (cell_one_new _ _ _) (by simp [Value.oneCell']) (by unfold maxLen; omega) (by omega) (by simp; omega) ?_; intro v'' w5 hown5 hgrow5 _ _; replace hgrow5 : World.grownBy _ w5 (Value.slice fa n fc).ownBlock := hgrow5; obtain ⟨g', cap', rfl⟩ := ownsRow_succ hown5; have hk5 : ∀ k, k < W1.heap.size → w5.heap[k]? = W1.heap[k]? := (fun k hk => (hgrow5.block k (by simp; omega) (fun e => by have := (hown.lt k e.symm).1; omega)).trans ((Below.heap_alloc _ _ _ (by omega)).trans (hgrow.block k hk (by simp)))); have q1 := (hk5 _ (by omega)).trans (unhide LW1); obtain ⟨e0, e1, e2, e3, e4, -, -, -, -, -⟩ := box5 q1; obtain ⟨_, _, he, hcc1, hcc2, hgb, _⟩ := row_form hown5 (by omega); obtain ⟨rfl, rfl⟩ : g' = _ ∧ cap' = _ := (by simpa using he); have hm1 : maxLen = 9223372036854775807 := rfl; rw [hm1] at hcc2; obtain ⟨W6, W7, hW6, hW7, hb7, hs7, n7, t7, ⟨o0, o1, o2, o3, o4⟩, ⟨y0, y1, y2, y3, y4, z3⟩, ⟨x0, x1, x2, x3, x4⟩, ⟨t0, t1, t2, t3, t4⟩⟩ := own_line w5 w.heap.size (.int .i64 no) (.int .u8 kind) (.string (S name)) (.slice a n c) (.string (S note)) (.slice (some ⟨g', 0, none⟩) n cap') q1))
  have hB4 : Below w.heap.size w w4 := belowG (e := 9) (size := 1) (v := .slice none 0 0) (unhide BW1) (unhide BW1).size (World.ownsRow_nil W1 w.heap.size _ _) hgrow
  have hB5 : Below w.heap.size w w5 := belowG (hB4.alloc hB4.size _) (by have := hB4.size; simp; omega) (row_base (hown.alloc _) (by omega)) hgrow5
  have hB7 : Below w.heap.size w W7 := hB5.trans (hb7.mono hB5.size)
  have hrow : W7.ownsRow W1.heap.size 9 1 (.slice (some ⟨g', 0, none⟩) (n + 1) cap') (n + 1) (strVs ((fields ++ [markB]).map S)) := by
    have e : strVs ((fields ++ [markB]).map S) = strVs (fields.map S) ++ [.string ⟨#[109, 97, 114, 107]⟩] := by simp [strVs]
    rw [e]; exact rowB hown5 hb7
  have hcl := row_txM hrow
  have HKE : Hid (∀ V, Below W7.heap.size W7 V → V.heap[w.heap.size]? = some (.cells #[.int .i64 no, .int .u8 kind, .string (S name), .slice a n c, .string (S note)] 25 (0, 0)) ∧ (∀ (i : Nat) (x : List UInt8), (fields ++ [markB])[i]? = some x → V.cell? ⟨g', i, none⟩ = some (.string (S x))) ∧ Below w.heap.size w V) := fun V hb =>
    ⟨(hb.block _ (Array.getElem?_eq_some_iff.1 t7).1).trans t7, fun i x hx => (hb.cell (World.block_lt_of_cell? _ _ (hcl i x hx))).trans (hcl i x hx), hB7.trans (hb.mono hB7.size)⟩
  have htm : TxM W7 (some ⟨g', 0, none⟩) fields := fun i x hx => ⟨g', 0, rfl, by rw [Nat.zero_add]; exact hcl i x (by rw [List.getElem?_append_left (List.getElem?_eq_some_iff.1 hx).1]; exact hx)⟩
  have HSC := hide (unhide HS1 (some ⟨g', 0, none⟩) cap' W7 htm)
  clear hcl hrow htm hown hown5 hgrow hgrow5 hk5 q1 hB4 hB5 hB7 n7 t7 hb7 hW6 hW7 o0 o1 o2 o3 o4 y0 y1 y2 y3 y4 z3 x0 x1 x2 x3 x4 t0 t1 t2 t3 t4 c0 c1 c2 c3 c4 e0 e1 e2 e3 e4 HS1 HTX LW1 BW1 hW1
  refine (unhide HSC).mono ?_
  rintro e w8 ⟨rfl, hb8⟩
  obtain ⟨V8, hV8⟩ : ∃ V8, w8.alloc (.cells #[.int .i64 R.line, .int .i32 R.frm, .int .i32 R.to, .bool R.best] 27) = V8 := ⟨_, rfl⟩
  have b8 : Below w8.heap.size w8 V8 := by rw [← hV8]; exact (Below.refl _ w8).alloc (Nat.le_refl _) _
  have m8 : MirAt V8 w8.heap.size R := by rw [← hV8]; exact heap_alloc_new w8 _
  have hb78 : Below W7.heap.size W7 V8 := hb8.trans (b8.mono hb8.size)
  obtain ⟨l8, r8, hB8⟩ := unhide HKE V8 hb78
  obtain ⟨c0, c1, c2, c3, c4, -, -, -, -, -⟩ := box5 l8
  have HSR := hide (unhide HS2 a c V8 (unhide HF V8 hB8))
  have M8 := hide m8
  have HB78 := hide hb78
  clear HSC HS2 hb8 b8 hb78 l8 r8 hB8
  go_wp2_with fail
  refine (unhide HSR).mono ?_
  rintro e w9 ⟨rfl, hb9⟩
  obtain ⟨V9, hV9⟩ : ∃ V9, w9.alloc (.cells #[.int .i64 R.line, .int .i32 R.frm, .int .i32 R.to, .bool R.best] 27) = V9 := ⟨_, rfl⟩
  have b9 : Below w9.heap.size w9 V9 := by rw [← hV9]; exact (Below.refl _ w9).alloc (Nat.le_refl _) _
  have m9 : MirAt V9 w9.heap.size R := by rw [← hV9]; exact heap_alloc_new w9 _
  have m8' : MirAt V9 w8.heap.size R := ((unhide M8).below hb9).below b9
  have hb79 : Below W7.heap.size W7 V9 := (unhide HB78).trans ((hb9.trans (b9.mono hb9.size)).mono (unhide HB78).size)
  have HBV := hide hb79
  have M9 := hide m9
  have M8' := hide m8'
  clear hb9 b9 m9 m8' hb79 HSR M8 m8 HB78 hV8 c0 c1 c2 c3 c4
  go_wp2
  clear hV9
  go_loopw [9] (fun v9 wr => ∃ i m : Nat, i ≤ n ∧ v9 = .int .i64 i ∧ wr = V9.drewN m) (fun v9 _ => n - (RowKit.intOf v9).toNat)
  case atStart => exact ⟨0, 0, Nat.zero_le _, rfl, rfl⟩
  case round =>
    obtain ⟨i, m, hi, rfl, rfl⟩ := hrel
    obtain ⟨WX, hWX⟩ : ∃ WX, V9.drewN m = WX := ⟨_, rfl⟩
    have hbx : Below V9.heap.size V9 WX := by rw [← hWX]; exact below_drewN (Below.refl _ _) m
    have hb7x := (unhide HBV).trans (hbx.mono (unhide HBV).size)
    obtain ⟨lx, rx, hBx⟩ := unhide HKE WX hb7x
    obtain ⟨c0, c1, c2, c3, c4, -, -, -, -, -⟩ := box5 lx
    rw [hWX]
    have HWX := hide hWX
    clear hWX
    by_cases hlt : i < n
    · obtain ⟨x, hx⟩ : ∃ x, fields[i]? = some x := ⟨_, List.getElem?_eq_getElem (by rw [unhide HN]; exact hlt)⟩
      have cf := rx i x (by rw [List.getElem?_append_left (List.getElem?_eq_some_iff.1 hx).1]; exact hx)
      obtain ⟨g, off, rfl, cl⟩ := (unhide HF WX hBx) i x hx
      have hlt' : (i : Int) < (n : Int) := by omega
      have hlt2 : (i : Int) < (n : Int) + 1 := by omega
      have hq1 : IntKind.i64.wrap ((i : Int) + 1) = (i : Int) + 1 := by rw [IntKind.wrap_i64]; omega
      clear lx rx hx hbx hb7x hBx c0 c1 c2 c4
      go_wp2
      go_quiet (fail)
      go_wp2
      go_roundw
      case rel => exact ⟨i + 1, m + nq, by omega, by go_num, by rw [← unhide HWX]; exact World.drewN_drewN _ _ _⟩
      case measure => simp [RowKit.intOf]; omega
    · obtain rfl : i = n := by omega
      have cm := rx i markB (by rw [List.getElem?_append_right (by rw [unhide HN]; exact Nat.le_refl _), unhide HN, Nat.sub_self]; rfl)
      have hlt2 : (i : Int) < (i : Int) + 1 := by omega
      have mx9 := (unhide M9).below hbx
      have mx8 := (unhide M8').below hbx
      have a0 := mx8.cell (j := 0) rfl
      have a1 := mx8.cell (j := 1) rfl
      have a2 := mx8.cell (j := 2) rfl
      have a3 := mx8.cell (j := 3) rfl
      have d0 := mx9.cell (j := 0) rfl
      have d1 := mx9.cell (j := 1) rfl
      have d2 := mx9.cell (j := 2) rfl
      have d3 := mx9.cell (j := 3) rfl
      have dk : (k == k) = true := by simp
      have HAW := hide (awake9_any WX (err_below (unhide HG) hBx))
      have HBX := hide hBx
      clear lx rx hbx hb7x hBx c0 c1 c2 c4 mx9 mx8
      go_wp2_with fail
      refine (unhide HAW).mono ?_
      rintro e w10 ⟨rfl, hb10⟩
      go_wp2
      go_ret
      exact ⟨rfl, (unhide HBX).trans (hb10.mono (unhide HBX).size)⟩
end Go.Proofs.YtnabbahdmajfpaaGreatDoor
