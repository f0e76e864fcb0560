/-
  The document's Scan, walked.
-/
import Derived.Test.YthjnkagepooeiaaGreatDoorRwRs
import Derived.Test.YthjnkagepooeiaaGreatDoorRwA0
namespace Go.Proofs.YthjnkagepooeiaaGreatDoor
open Go.RowKit Go.PlainAid Go.Lib Go.PHexM Go.Shelf
set_option linter.unusedVariables false
set_option linter.unusedSimpArgs false

/-- what Scan says, by the fields that are read -/
structure ScanD (d : LineD) (R : RowD × Int) (f0 f1 f2 f3 f4 f5 f9 : List UInt8) : Prop where
  s40 : hexP f0 = none → R = (zeroR, 40)
  s61 : ∀ n, hexP f0 = some n → nameOk f1 = false → R = (zeroR, 61)
  s63 : ∀ n, hexP f0 = some n → nameOk f1 = true → catB f2 = false → R = (zeroR, 63)
  s64 : ∀ n, hexP f0 = some n → nameOk f1 = true → catB f2 = true → combP f3 = none → R = (zeroR, 64)
  s50 : ∀ n u, hexP f0 = some n → nameOk f1 = true → catB f2 = true → combP f3 = some u → clsP f4 = 0 → R = (zeroR, 50)
  s65 : ∀ n u, hexP f0 = some n → nameOk f1 = true → catB f2 = true → combP f3 = some u → clsP f4 ≠ 0 → twinP 0 f5 = none → R = (zeroR, 65)
  s66 : ∀ n u t, hexP f0 = some n → nameOk f1 = true → catB f2 = true → combP f3 = some u → clsP f4 ≠ 0 → twinP 0 f5 = some t → flagB f9 = none → R = (zeroR, 66)
  sok : ∀ n u t b, hexP f0 = some n → nameOk f1 = true → catB f2 = true → combP f3 = some u → clsP f4 ≠ 0 → twinP 0 f5 = some t → flagB f9 = some b → R = (⟨d.no, n, n, f1, f2, u, clsP f4, t, b⟩, 0)
theorem scanD {d : LineD} (hk : d.kind = 1) (hl : d.fields.length = 15) : ScanD d (scanR d) (d.fields.getD 0 []) (d.fields.getD 1 []) (d.fields.getD 2 []) (d.fields.getD 3 []) (d.fields.getD 4 []) (d.fields.getD 5 []) (d.fields.getD 9 []) :=
  ⟨fun h => scan_40 hk hl h, fun n h h1 => scan_61 hk hl h h1, fun n h h1 h2 => scan_63 hk hl h h1 h2, fun n h h1 h2 h3 => scan_64 hk hl h h1 h2 h3, fun n u h h1 h2 h3 h4 => scan_50 hk hl h h1 h2 h3 h4, fun n u h h1 h2 h3 h4 h5 => scan_65 hk hl h h1 h2 h3 h4 h5, fun n u t h h1 h2 h3 h4 h5 h9 => scan_66 hk hl h h1 h2 h3 h4 h5 h9, fun n u t b h h1 h2 h3 h4 h5 h9 => scan_ok hk hl h h1 h2 h3 h4 h5 h9⟩
theorem rowAt_drew {X : World} {b : Nat} {r : RowD} (h : RowAt X b r) : RowAt X.drew b r := h
theorem below_drew {B : Nat} {w X : World} (h : Below B w X) : Below B w X.drew := h.trans ⟨rfl, rfl, rfl, Nat.le_refl _, fun _ _ => rfl⟩
theorem class_range (t : ByteArray) : 0 ≤ classN t ∧ classN t ≤ 23 := by
  by_cases h : ∃ k : Nat, 1 ≤ k ∧ k ≤ 23 ∧ (t = looseB (shortS (k : Int)) ∨ t = looseB (longS (k : Int)))
  · obtain ⟨k, h0, h1, hh⟩ := h
    rw [cls_yes t k h0 h1 hh]
    omega
  · rw [cls_no t fun k h0 h1 => ⟨fun e => h ⟨k, h0, h1, .inl e⟩, fun e => h ⟨k, h0, h1, .inr e⟩⟩]
    omega
theorem comb_le {l : List UInt8} {u : Nat} (h : combP l = some u) : u ≤ 254 := by
  unfold combP at h
  split at h
  · split at h
    · rename_i k; cases h; exact k.1
    · cases h
  · cases h

set_option maxRecDepth 100000 in
set_option maxHeartbeats 8000000 in
theorem refScan_any (d : LineD) (fa : Option Addr) (fc : Nat) (w : World) (hT : TxG w fa d.fields) (hs : ∀ x ∈ d.fields, x.length ≤ 1073741824) :
    Calls Tryz.prog 15 #[lineV d (.slice fa d.fields.length fc)] w fun e w' => e = .returned (.tuple #[rowV (scanR d).1, .int .i64 (scanR d).2]) ∧ Below w.heap.size w w' := by
  obtain ⟨no, kind, name, fields, note⟩ := d
  simp only at hT hs ⊢
  obtain ⟨R, hR⟩ : ∃ R, scanR ⟨no, kind, name, fields, note⟩ = R := ⟨_, rfl⟩
  by_cases hk2 : kind = 2
  · rw [hR]
    have HR := hide hR
    clear hR
    subst hk2
    go_enter Tryz.func15, Tryz.ntmps15
    go_wp2
    refine bodyPost_ret (rscan_results (r := zeroR) rfl rfl (rowAt_new w _ zeroR)) rfl ?_
    rw [← unhide HR]
    exact ⟨rfl, ((Below.refl _ w).alloc (Nat.le_refl _) _).alloc (by simp) _⟩
  have hk2' : (kind == 2) = false := by simpa using hk2
  by_cases hk1 : kind = 1
  case neg =>
    have hk1' : (kind == 1) = false := by simpa using hk1
    have hk1'' : (kind != 1) = true := by simpa using hk1
    have HSC : Hid (R = (zeroR, 60)) := by
      show _ = _
      rw [← hR]; simp [scanR, hk1, hk2]
    rw [hR]
    clear hk2 hk1 hR
    go_enter Tryz.func15, Tryz.ntmps15
    go_wp2
    refine bodyPost_ret (rscan_results (r := zeroR) rfl rfl (rowAt_new w _ zeroR)) rfl ?_
    rw [unhide HSC]
    exact ⟨rfl, ((Below.refl _ w).alloc (Nat.le_refl _) _).alloc (by simp) _⟩
  subst hk1
  by_cases hl : fields.length = 15
  case neg =>
    have hl' : ((fields.length : Int) == 15) = false := by simp; omega
    have hl2 : ((fields.length : Int) != 15) = true := by simp; omega
    have HSC : Hid (R = (zeroR, 60)) := by
      show _ = _
      rw [← hR]; simp [scanR, hl]
    rw [hR]
    clear hk2 hl hR
    go_enter Tryz.func15, Tryz.ntmps15
    go_wp2
    refine bodyPost_ret (rscan_results (r := zeroR) rfl rfl (rowAt_new w _ zeroR)) rfl ?_
    rw [unhide HSC]
    exact ⟨rfl, ((Below.refl _ w).alloc (Nat.le_refl _) _).alloc (by simp) _⟩
  have hSD := scanD (d := ⟨no, 1, name, fields, note⟩) rfl hl
  rw [hR] at hSD
  rw [hR]
  simp only at hSD
  have hat : ∀ i, i < 15 → fields[i]? = some (fields.getD i []) := fun i hi => by
    rw [List.getD_eq_getElem?_getD, List.getElem?_eq_getElem (by omega)]; rfl
  have hsz : ∀ i, i < 15 → (fields.getD i []).length ≤ 1073741824 := fun i hi => hs _ (List.mem_of_getElem? (hat i hi))
  obtain ⟨g, off, rfl, _⟩ := hT 0 _ (hat 0 (by omega))
  have hC : ∀ V, Below w.heap.size w V → ∀ i, i < 15 → V.cell? ⟨g, off + i, none⟩ = some (.string (S (fields.getD i []))) := fun V hV i hi => by
    obtain ⟨g', off', e, hc⟩ := hT.below hV i _ (hat i hi)
    simp only [Option.some.injEq, Addr.mk.injEq] at e
    obtain ⟨rfl, rfl, _⟩ := e
    exact hc
  rw [hl]
  have z0 := hsz 0 (by omega)
  have C0 : Hid (∀ V, Below w.heap.size w V → V.cell? ⟨g, off, none⟩ = some (.string (S (fields.getD 0 [])))) := fun V hV => hC V hV 0 (by omega)
  have z1 := hsz 1 (by omega)
  have C1 : Hid (∀ V, Below w.heap.size w V → V.cell? ⟨g, off + 1, none⟩ = some (.string (S (fields.getD 1 [])))) := fun V hV => hC V hV 1 (by omega)
  have z2 := hsz 2 (by omega)
  have C2 : Hid (∀ V, Below w.heap.size w V → V.cell? ⟨g, off + 2, none⟩ = some (.string (S (fields.getD 2 [])))) := fun V hV => hC V hV 2 (by omega)
  have z3 := hsz 3 (by omega)
  have C3 : Hid (∀ V, Below w.heap.size w V → V.cell? ⟨g, off + 3, none⟩ = some (.string (S (fields.getD 3 [])))) := fun V hV => hC V hV 3 (by omega)
  have z4 := hsz 4 (by omega)
  have C4 : Hid (∀ V, Below w.heap.size w V → V.cell? ⟨g, off + 4, none⟩ = some (.string (S (fields.getD 4 [])))) := fun V hV => hC V hV 4 (by omega)
  have z5 := hsz 5 (by omega)
  have C5 : Hid (∀ V, Below w.heap.size w V → V.cell? ⟨g, off + 5, none⟩ = some (.string (S (fields.getD 5 [])))) := fun V hV => hC V hV 5 (by omega)
  have z9 := hsz 9 (by omega)
  have C9 : Hid (∀ V, Below w.heap.size w V → V.cell? ⟨g, off + 9, none⟩ = some (.string (S (fields.getD 9 [])))) := fun V hV => hC V hV 9 (by omega)
  generalize fields.getD 0 [] = f0 at *
  generalize fields.getD 1 [] = f1 at *
  generalize fields.getD 2 [] = f2 at *
  generalize fields.getD 3 [] = f3 at *
  generalize fields.getD 4 [] = f4 at *
  generalize fields.getD 5 [] = f5 at *
  generalize fields.getD 9 [] = f9 at *
  have HSD := hide hSD
  clear hSD hat hsz hC hT hs hR hk2 hk2'
  obtain ⟨W0, hW0⟩ : ∃ W0, (w.alloc (Obj.cells #[Value.int IntKind.i64 no, Value.int IntKind.u8 1, Value.string (S name), Value.slice (some ⟨g, off, none⟩) 15 fc, Value.string (S note)] 25)).alloc (Obj.cells #[Value.int IntKind.i64 0, Value.int IntKind.i32 0, Value.int IntKind.i32 0, Value.string ⟨#[]⟩, Value.string ⟨#[]⟩, Value.int IntKind.u8 0, Value.int IntKind.u8 0, Value.int IntKind.i32 0, Value.bool false] 29) = W0 := ⟨_, rfl⟩
  have b0 : Below w.heap.size w W0 := by rw [← hW0]; exact ((Below.refl _ w).alloc (Nat.le_refl _) _).alloc (by simp) _
  have s0 : W0.heap.size = w.heap.size + 2 := by rw [← hW0]; simp
  have r0 : RowAt W0 (w.heap.size + 1) zeroR := by rw [← hW0]; exact rowAt_new w _ zeroR
  have lb : W0.heap[w.heap.size]? = some (.cells #[Value.int IntKind.i64 no, Value.int IntKind.u8 1, Value.string (S name), Value.slice (some ⟨g, off, none⟩) 15 fc, Value.string (S note)] 25 (0, 0)) := by
    rw [← hW0]; exact (Below.heap_alloc _ _ _ (by simp)).trans (heap_alloc_new w _)
  have l0 : W0.cell? ⟨w.heap.size, 0, none⟩ = some (.int .i64 no) := by simp [World.cell?, lb]
  have l1 : W0.cell? ⟨w.heap.size, 1, none⟩ = some (.int .u8 1) := by simp [World.cell?, lb]
  have l3 : W0.cell? ⟨w.heap.size, 3, none⟩ = some (.slice (some ⟨g, off, none⟩) 15 fc) := by simp [World.cell?, lb]
  have k0 := unhide C0 W0 b0
  have LB := hide lb
  have RB0 := hide r0
  have B0 := hide b0
  clear lb r0 b0
  go_enter Tryz.func15, Tryz.ntmps15
  go_wp2_with fail
  clear hW0 l1 l3
  have HX0 : Calls Tryz.prog 33 #[.string (S f0)] W0 fun e w' => e = .returned (hexV f0) ∧ w' = W0 := refRead_any4 (S f0) W0
  cases hx0 : hexP f0 with
  | none =>
    rw [hexV_none hx0] at HX0
    have HS := hide ((unhide HSD).s40 hx0)
    clear hx0
    refine HX0.mono ?_
    rintro e w' ⟨rfl, hw⟩
    obtain rfl : W0 = w' := hw.symm
    clear HX0
    have rv := unhide RB0
    have tc0 := rv.cell (j := 0) rfl
    have tf0 := rv.frozen 0
    have tc1 := rv.cell (j := 1) rfl
    have tf1 := rv.frozen 1
    have tc2 := rv.cell (j := 2) rfl
    have tf2 := rv.frozen 2
    have tc3 := rv.cell (j := 3) rfl
    have tf3 := rv.frozen 3
    have tc4 := rv.cell (j := 4) rfl
    have tf4 := rv.frozen 4
    have tc5 := rv.cell (j := 5) rfl
    have tf5 := rv.frozen 5
    have tc6 := rv.cell (j := 6) rfl
    have tf6 := rv.frozen 6
    have tc7 := rv.cell (j := 7) rfl
    have tf7 := rv.frozen 7
    have tc8 := rv.cell (j := 8) rfl
    have tf8 := rv.frozen 8
    have se0 := set_sameAt (j := 0) (v := Value.int IntKind.i64 0) rv rfl
    have se1 := set_sameAt (j := 1) (v := Value.int IntKind.i32 0) rv rfl
    have se2 := set_sameAt (j := 2) (v := Value.int IntKind.i32 0) rv rfl
    have se3 := set_sameAt (j := 3) (v := Value.string ⟨#[]⟩) rv rfl
    have se4 := set_sameAt (j := 4) (v := Value.string ⟨#[]⟩) rv rfl
    have se5 := set_sameAt (j := 5) (v := Value.int IntKind.u8 0) rv rfl
    have se6 := set_sameAt (j := 6) (v := Value.int IntKind.u8 0) rv rfl
    have se7 := set_sameAt (j := 7) (v := Value.int IntKind.i32 0) rv rfl
    have se8 := set_sameAt (j := 8) (v := Value.bool false) rv rfl
    clear rv
    go_wp2
    refine bodyPost_ret (rscan_results (r := zeroR) rfl rfl (unhide RB0)) rfl ?_
    rw [unhide HS]
    exact ⟨rfl, unhide B0⟩
  | some n0 =>
    rw [hexV_some hx0] at HX0
    have HX := hide hx0
    have hn0 : n0 ≤ 1114111 := by
      unfold hexP at hx0
      split at hx0
      · split at hx0
        · cases hx0
        · split at hx0
          · cases hx0
          · cases hx0; omega
      · cases hx0
    clear hx0
    refine HX0.mono ?_
    rintro e w' ⟨rfl, hw⟩
    obtain rfl : W0 = w' := hw.symm
    clear HX0 k0
    have k1 := unhide C1 W0 (unhide B0)
    have HCH := hide (refChars_any (S f1) W0 (by have := S_size f1; omega))
    have HNO := hide (name_ok f1)
    go_wp2_with fail
    refine (unhide HCH).mono ?_
    rintro e w1 ⟨v1, rfl, hrow1, hb1⟩
    obtain ⟨ca, cc, rfl⟩ := row_slice2 hrow1
    generalize (plF (S f1) 0).length = N1 at *
    have hB1 : Below w.heap.size w w1 := (unhide B0).trans (hb1.mono (unhide B0).size)
    have RB1 := hide ((unhide RB0).below hb1)
    have s1 : w.heap.size + 2 ≤ w1.heap.size := by have := hb1.size; omega
    have LB1 := hide ((hb1.block w.heap.size (by omega)).trans (unhide LB))
    have B1 := hide hB1
    clear hrow1 hb1 HCH k1 hB1 l0
    by_cases n1 : N1 < 1
    · have n1' : (N1 : Int) < 1 := by omega
      have n1'' : decide ((N1 : Int) < 1) = true := decide_eq_true n1'
      have HS := hide ((unhide HSD).s61 n0 (unhide HX) (by rw [unhide HNO]; simp; omega))
      clear n1
      have rv := unhide RB1
      have tc0 := rv.cell (j := 0) rfl
      have tf0 := rv.frozen 0
      have tc1 := rv.cell (j := 1) rfl
      have tf1 := rv.frozen 1
      have tc2 := rv.cell (j := 2) rfl
      have tf2 := rv.frozen 2
      have tc3 := rv.cell (j := 3) rfl
      have tf3 := rv.frozen 3
      have tc4 := rv.cell (j := 4) rfl
      have tf4 := rv.frozen 4
      have tc5 := rv.cell (j := 5) rfl
      have tf5 := rv.frozen 5
      have tc6 := rv.cell (j := 6) rfl
      have tf6 := rv.frozen 6
      have tc7 := rv.cell (j := 7) rfl
      have tf7 := rv.frozen 7
      have tc8 := rv.cell (j := 8) rfl
      have tf8 := rv.frozen 8
      have se0 := set_sameAt (j := 0) (v := Value.int IntKind.i64 0) rv rfl
      have se1 := set_sameAt (j := 1) (v := Value.int IntKind.i32 0) rv rfl
      have se2 := set_sameAt (j := 2) (v := Value.int IntKind.i32 0) rv rfl
      have se3 := set_sameAt (j := 3) (v := Value.string ⟨#[]⟩) rv rfl
      have se4 := set_sameAt (j := 4) (v := Value.string ⟨#[]⟩) rv rfl
      have se5 := set_sameAt (j := 5) (v := Value.int IntKind.u8 0) rv rfl
      have se6 := set_sameAt (j := 6) (v := Value.int IntKind.u8 0) rv rfl
      have se7 := set_sameAt (j := 7) (v := Value.int IntKind.i32 0) rv rfl
      have se8 := set_sameAt (j := 8) (v := Value.bool false) rv rfl
      clear rv
      go_wp2
      refine bodyPost_ret (rscan_results (r := zeroR) rfl rfl (unhide RB1)) rfl ?_
      rw [unhide HS]
      exact ⟨rfl, unhide B1⟩
    by_cases n2 : 256 < N1
    · have n1' : ¬ (N1 : Int) < 1 := by omega
      have n1'' : decide ((N1 : Int) < 1) = false := decide_eq_false n1'
      have n2' : (256 : Int) < (N1 : Int) := by omega
      have HS := hide ((unhide HSD).s61 n0 (unhide HX) (by rw [unhide HNO]; simp; omega))
      clear n1 n2
      have rv := unhide RB1
      have tc0 := rv.cell (j := 0) rfl
      have tf0 := rv.frozen 0
      have tc1 := rv.cell (j := 1) rfl
      have tf1 := rv.frozen 1
      have tc2 := rv.cell (j := 2) rfl
      have tf2 := rv.frozen 2
      have tc3 := rv.cell (j := 3) rfl
      have tf3 := rv.frozen 3
      have tc4 := rv.cell (j := 4) rfl
      have tf4 := rv.frozen 4
      have tc5 := rv.cell (j := 5) rfl
      have tf5 := rv.frozen 5
      have tc6 := rv.cell (j := 6) rfl
      have tf6 := rv.frozen 6
      have tc7 := rv.cell (j := 7) rfl
      have tf7 := rv.frozen 7
      have tc8 := rv.cell (j := 8) rfl
      have tf8 := rv.frozen 8
      have se0 := set_sameAt (j := 0) (v := Value.int IntKind.i64 0) rv rfl
      have se1 := set_sameAt (j := 1) (v := Value.int IntKind.i32 0) rv rfl
      have se2 := set_sameAt (j := 2) (v := Value.int IntKind.i32 0) rv rfl
      have se3 := set_sameAt (j := 3) (v := Value.string ⟨#[]⟩) rv rfl
      have se4 := set_sameAt (j := 4) (v := Value.string ⟨#[]⟩) rv rfl
      have se5 := set_sameAt (j := 5) (v := Value.int IntKind.u8 0) rv rfl
      have se6 := set_sameAt (j := 6) (v := Value.int IntKind.u8 0) rv rfl
      have se7 := set_sameAt (j := 7) (v := Value.int IntKind.i32 0) rv rfl
      have se8 := set_sameAt (j := 8) (v := Value.bool false) rv rfl
      clear rv
      go_wp2
      refine bodyPost_ret (rscan_results (r := zeroR) rfl rfl (unhide RB1)) rfl ?_
      rw [unhide HS]
      exact ⟨rfl, unhide B1⟩
    have n1' : ¬ (N1 : Int) < 1 := by omega
    have n1'' : decide ((N1 : Int) < 1) = false := decide_eq_false n1'
    have n2' : ¬ (256 : Int) < (N1 : Int) := by omega
    have HN1 : Hid (nameOk f1 = true) := by
      show _ = _
      rw [unhide HNO]; simp; omega
    clear n1 n2 HNO
    have k2 := unhide C2 w1 (unhide B1)
    have k3 := unhide C3 w1 (unhide B1)
    by_cases hl2 : f2.length = 2
    case neg =>
      have hl2' : ((f2.length : Int) != 2) = true := by simp; omega
      have hl2'' : ((f2.length : Int) == 2) = false := by simp; omega
      have HS := hide ((unhide HSD).s63 n0 (unhide HX) (unhide HN1) (by
        unfold catB
        match f2, hl2 with
        | [], _ => rfl
        | [a], _ => rfl
        | [a, b], h => exact absurd rfl h
        | a :: b :: c :: l, _ => rfl))
      clear hl2
      have rv := unhide RB1
      have tc0 := rv.cell (j := 0) rfl
      have tf0 := rv.frozen 0
      have tc1 := rv.cell (j := 1) rfl
      have tf1 := rv.frozen 1
      have tc2 := rv.cell (j := 2) rfl
      have tf2 := rv.frozen 2
      have tc3 := rv.cell (j := 3) rfl
      have tf3 := rv.frozen 3
      have tc4 := rv.cell (j := 4) rfl
      have tf4 := rv.frozen 4
      have tc5 := rv.cell (j := 5) rfl
      have tf5 := rv.frozen 5
      have tc6 := rv.cell (j := 6) rfl
      have tf6 := rv.frozen 6
      have tc7 := rv.cell (j := 7) rfl
      have tf7 := rv.frozen 7
      have tc8 := rv.cell (j := 8) rfl
      have tf8 := rv.frozen 8
      have se0 := set_sameAt (j := 0) (v := Value.int IntKind.i64 0) rv rfl
      have se1 := set_sameAt (j := 1) (v := Value.int IntKind.i32 0) rv rfl
      have se2 := set_sameAt (j := 2) (v := Value.int IntKind.i32 0) rv rfl
      have se3 := set_sameAt (j := 3) (v := Value.string ⟨#[]⟩) rv rfl
      have se4 := set_sameAt (j := 4) (v := Value.string ⟨#[]⟩) rv rfl
      have se5 := set_sameAt (j := 5) (v := Value.int IntKind.u8 0) rv rfl
      have se6 := set_sameAt (j := 6) (v := Value.int IntKind.u8 0) rv rfl
      have se7 := set_sameAt (j := 7) (v := Value.int IntKind.i32 0) rv rfl
      have se8 := set_sameAt (j := 8) (v := Value.bool false) rv rfl
      clear rv
      go_wp2
      refine bodyPost_ret (rscan_results (r := zeroR) rfl rfl (unhide RB1)) rfl ?_
      rw [unhide HS]
      exact ⟨rfl, unhide B1⟩
    obtain ⟨x, y, rfl⟩ : ∃ x y, f2 = [x, y] := by
      match f2, hl2 with
      | [x, y], _ => exact ⟨x, y, rfl⟩
    clear hl2
    have g0 : ∀ h : 0 < (S [x, y]).size, (S [x, y])[0]'h = x := fun _ => rfl
    have g1 : ∀ h : 1 < (S [x, y]).size, (S [x, y])[1]'h = y := fun _ => rfl
    have hcat : catB [x, y] = (decide (65 ≤ x.toNat) && decide (x.toNat ≤ 90) && decide (97 ≤ y.toNat) && decide (y.toNat ≤ 122)) := rfl
    by_cases a0 : x.toNat < 65
    · have q0 : (x.toNat : Int) < 65 := by omega
      have HS := hide ((unhide HSD).s63 n0 (unhide HX) (unhide HN1) (by rw [hcat]; simp; omega))
      clear hcat a0
      have rv := unhide RB1
      have tc0 := rv.cell (j := 0) rfl
      have tf0 := rv.frozen 0
      have tc1 := rv.cell (j := 1) rfl
      have tf1 := rv.frozen 1
      have tc2 := rv.cell (j := 2) rfl
      have tf2 := rv.frozen 2
      have tc3 := rv.cell (j := 3) rfl
      have tf3 := rv.frozen 3
      have tc4 := rv.cell (j := 4) rfl
      have tf4 := rv.frozen 4
      have tc5 := rv.cell (j := 5) rfl
      have tf5 := rv.frozen 5
      have tc6 := rv.cell (j := 6) rfl
      have tf6 := rv.frozen 6
      have tc7 := rv.cell (j := 7) rfl
      have tf7 := rv.frozen 7
      have tc8 := rv.cell (j := 8) rfl
      have tf8 := rv.frozen 8
      have se0 := set_sameAt (j := 0) (v := Value.int IntKind.i64 0) rv rfl
      have se1 := set_sameAt (j := 1) (v := Value.int IntKind.i32 0) rv rfl
      have se2 := set_sameAt (j := 2) (v := Value.int IntKind.i32 0) rv rfl
      have se3 := set_sameAt (j := 3) (v := Value.string ⟨#[]⟩) rv rfl
      have se4 := set_sameAt (j := 4) (v := Value.string ⟨#[]⟩) rv rfl
      have se5 := set_sameAt (j := 5) (v := Value.int IntKind.u8 0) rv rfl
      have se6 := set_sameAt (j := 6) (v := Value.int IntKind.u8 0) rv rfl
      have se7 := set_sameAt (j := 7) (v := Value.int IntKind.i32 0) rv rfl
      have se8 := set_sameAt (j := 8) (v := Value.bool false) rv rfl
      clear rv
      go_wp2
      refine bodyPost_ret (rscan_results (r := zeroR) rfl rfl (unhide RB1)) rfl ?_
      rw [unhide HS]
      exact ⟨rfl, unhide B1⟩
    by_cases a1 : 90 < x.toNat
    · have q1 : (90 : Int) < (x.toNat : Int) := by omega
      have q0 : ¬ (x.toNat : Int) < 65 := by omega
      have HS := hide ((unhide HSD).s63 n0 (unhide HX) (unhide HN1) (by rw [hcat]; simp; omega))
      clear hcat a0 a1
      have rv := unhide RB1
      have tc0 := rv.cell (j := 0) rfl
      have tf0 := rv.frozen 0
      have tc1 := rv.cell (j := 1) rfl
      have tf1 := rv.frozen 1
      have tc2 := rv.cell (j := 2) rfl
      have tf2 := rv.frozen 2
      have tc3 := rv.cell (j := 3) rfl
      have tf3 := rv.frozen 3
      have tc4 := rv.cell (j := 4) rfl
      have tf4 := rv.frozen 4
      have tc5 := rv.cell (j := 5) rfl
      have tf5 := rv.frozen 5
      have tc6 := rv.cell (j := 6) rfl
      have tf6 := rv.frozen 6
      have tc7 := rv.cell (j := 7) rfl
      have tf7 := rv.frozen 7
      have tc8 := rv.cell (j := 8) rfl
      have tf8 := rv.frozen 8
      have se0 := set_sameAt (j := 0) (v := Value.int IntKind.i64 0) rv rfl
      have se1 := set_sameAt (j := 1) (v := Value.int IntKind.i32 0) rv rfl
      have se2 := set_sameAt (j := 2) (v := Value.int IntKind.i32 0) rv rfl
      have se3 := set_sameAt (j := 3) (v := Value.string ⟨#[]⟩) rv rfl
      have se4 := set_sameAt (j := 4) (v := Value.string ⟨#[]⟩) rv rfl
      have se5 := set_sameAt (j := 5) (v := Value.int IntKind.u8 0) rv rfl
      have se6 := set_sameAt (j := 6) (v := Value.int IntKind.u8 0) rv rfl
      have se7 := set_sameAt (j := 7) (v := Value.int IntKind.i32 0) rv rfl
      have se8 := set_sameAt (j := 8) (v := Value.bool false) rv rfl
      clear rv
      go_wp2
      refine bodyPost_ret (rscan_results (r := zeroR) rfl rfl (unhide RB1)) rfl ?_
      rw [unhide HS]
      exact ⟨rfl, unhide B1⟩
    by_cases a2 : y.toNat < 97
    · have q2 : (y.toNat : Int) < 97 := by omega
      have q0 : ¬ (x.toNat : Int) < 65 := by omega
      have q1 : ¬ (90 : Int) < (x.toNat : Int) := by omega
      have HS := hide ((unhide HSD).s63 n0 (unhide HX) (unhide HN1) (by rw [hcat]; simp; omega))
      clear hcat a0 a1 a2
      have rv := unhide RB1
      have tc0 := rv.cell (j := 0) rfl
      have tf0 := rv.frozen 0
      have tc1 := rv.cell (j := 1) rfl
      have tf1 := rv.frozen 1
      have tc2 := rv.cell (j := 2) rfl
      have tf2 := rv.frozen 2
      have tc3 := rv.cell (j := 3) rfl
      have tf3 := rv.frozen 3
      have tc4 := rv.cell (j := 4) rfl
      have tf4 := rv.frozen 4
      have tc5 := rv.cell (j := 5) rfl
      have tf5 := rv.frozen 5
      have tc6 := rv.cell (j := 6) rfl
      have tf6 := rv.frozen 6
      have tc7 := rv.cell (j := 7) rfl
      have tf7 := rv.frozen 7
      have tc8 := rv.cell (j := 8) rfl
      have tf8 := rv.frozen 8
      have se0 := set_sameAt (j := 0) (v := Value.int IntKind.i64 0) rv rfl
      have se1 := set_sameAt (j := 1) (v := Value.int IntKind.i32 0) rv rfl
      have se2 := set_sameAt (j := 2) (v := Value.int IntKind.i32 0) rv rfl
      have se3 := set_sameAt (j := 3) (v := Value.string ⟨#[]⟩) rv rfl
      have se4 := set_sameAt (j := 4) (v := Value.string ⟨#[]⟩) rv rfl
      have se5 := set_sameAt (j := 5) (v := Value.int IntKind.u8 0) rv rfl
      have se6 := set_sameAt (j := 6) (v := Value.int IntKind.u8 0) rv rfl
      have se7 := set_sameAt (j := 7) (v := Value.int IntKind.i32 0) rv rfl
      have se8 := set_sameAt (j := 8) (v := Value.bool false) rv rfl
      clear rv
      go_wp2
      refine bodyPost_ret (rscan_results (r := zeroR) rfl rfl (unhide RB1)) rfl ?_
      rw [unhide HS]
      exact ⟨rfl, unhide B1⟩
    by_cases a3 : 122 < y.toNat
    · have q3 : (122 : Int) < (y.toNat : Int) := by omega
      have q0 : ¬ (x.toNat : Int) < 65 := by omega
      have q1 : ¬ (90 : Int) < (x.toNat : Int) := by omega
      have q2 : ¬ (y.toNat : Int) < 97 := by omega
      have HS := hide ((unhide HSD).s63 n0 (unhide HX) (unhide HN1) (by rw [hcat]; simp; omega))
      clear hcat a0 a1 a2 a3
      have rv := unhide RB1
      have tc0 := rv.cell (j := 0) rfl
      have tf0 := rv.frozen 0
      have tc1 := rv.cell (j := 1) rfl
      have tf1 := rv.frozen 1
      have tc2 := rv.cell (j := 2) rfl
      have tf2 := rv.frozen 2
      have tc3 := rv.cell (j := 3) rfl
      have tf3 := rv.frozen 3
      have tc4 := rv.cell (j := 4) rfl
      have tf4 := rv.frozen 4
      have tc5 := rv.cell (j := 5) rfl
      have tf5 := rv.frozen 5
      have tc6 := rv.cell (j := 6) rfl
      have tf6 := rv.frozen 6
      have tc7 := rv.cell (j := 7) rfl
      have tf7 := rv.frozen 7
      have tc8 := rv.cell (j := 8) rfl
      have tf8 := rv.frozen 8
      have se0 := set_sameAt (j := 0) (v := Value.int IntKind.i64 0) rv rfl
      have se1 := set_sameAt (j := 1) (v := Value.int IntKind.i32 0) rv rfl
      have se2 := set_sameAt (j := 2) (v := Value.int IntKind.i32 0) rv rfl
      have se3 := set_sameAt (j := 3) (v := Value.string ⟨#[]⟩) rv rfl
      have se4 := set_sameAt (j := 4) (v := Value.string ⟨#[]⟩) rv rfl
      have se5 := set_sameAt (j := 5) (v := Value.int IntKind.u8 0) rv rfl
      have se6 := set_sameAt (j := 6) (v := Value.int IntKind.u8 0) rv rfl
      have se7 := set_sameAt (j := 7) (v := Value.int IntKind.i32 0) rv rfl
      have se8 := set_sameAt (j := 8) (v := Value.bool false) rv rfl
      clear rv
      go_wp2
      refine bodyPost_ret (rscan_results (r := zeroR) rfl rfl (unhide RB1)) rfl ?_
      rw [unhide HS]
      exact ⟨rfl, unhide B1⟩
    have q0 : ¬ (x.toNat : Int) < 65 := by omega
    have q1 : ¬ (90 : Int) < (x.toNat : Int) := by omega
    have q2 : ¬ (y.toNat : Int) < 97 := by omega
    have q3 : ¬ (122 : Int) < (y.toNat : Int) := by omega
    have HCT : Hid (catB [x, y] = true) := by
      show _ = _
      rw [hcat]; simp; omega
    clear hcat a0 a1 a2 a3
    have HX3 : Calls Tryz.prog 35 #[.string (S f3)] w1 fun e w' => e = .returned (.int .i64 (numD f3)) ∧ w' = w1 := refNumber_any (S f3) w1
    rw [num_comb] at HX3
    go_wp2_with fail
    clear q0 q1 q2 q3 g0 g1 k2
    cases hx3 : combP f3 with
    | none =>
      rw [hx3] at HX3
      have HS := hide ((unhide HSD).s64 n0 (unhide HX) (unhide HN1) (unhide HCT) hx3)
      clear hx3
      refine HX3.mono ?_
      rintro e w' ⟨rfl, hw⟩
      obtain rfl : w1 = w' := hw.symm
      clear HX3
      dsimp only
      have rv := unhide RB1
      have tc0 := rv.cell (j := 0) rfl
      have tf0 := rv.frozen 0
      have tc1 := rv.cell (j := 1) rfl
      have tf1 := rv.frozen 1
      have tc2 := rv.cell (j := 2) rfl
      have tf2 := rv.frozen 2
      have tc3 := rv.cell (j := 3) rfl
      have tf3 := rv.frozen 3
      have tc4 := rv.cell (j := 4) rfl
      have tf4 := rv.frozen 4
      have tc5 := rv.cell (j := 5) rfl
      have tf5 := rv.frozen 5
      have tc6 := rv.cell (j := 6) rfl
      have tf6 := rv.frozen 6
      have tc7 := rv.cell (j := 7) rfl
      have tf7 := rv.frozen 7
      have tc8 := rv.cell (j := 8) rfl
      have tf8 := rv.frozen 8
      have se0 := set_sameAt (j := 0) (v := Value.int IntKind.i64 0) rv rfl
      have se1 := set_sameAt (j := 1) (v := Value.int IntKind.i32 0) rv rfl
      have se2 := set_sameAt (j := 2) (v := Value.int IntKind.i32 0) rv rfl
      have se3 := set_sameAt (j := 3) (v := Value.string ⟨#[]⟩) rv rfl
      have se4 := set_sameAt (j := 4) (v := Value.string ⟨#[]⟩) rv rfl
      have se5 := set_sameAt (j := 5) (v := Value.int IntKind.u8 0) rv rfl
      have se6 := set_sameAt (j := 6) (v := Value.int IntKind.u8 0) rv rfl
      have se7 := set_sameAt (j := 7) (v := Value.int IntKind.i32 0) rv rfl
      have se8 := set_sameAt (j := 8) (v := Value.bool false) rv rfl
      clear rv
      go_wp2
      refine bodyPost_ret (rscan_results (r := zeroR) rfl rfl (unhide RB1)) rfl ?_
      rw [unhide HS]
      exact ⟨rfl, unhide B1⟩
    | some u3 =>
      rw [hx3] at HX3
      dsimp only at HX3
      have HU := hide hx3
      have hu3 := comb_le hx3
      clear hx3
      refine HX3.mono ?_
      rintro e w' ⟨rfl, hw⟩
      obtain rfl : w1 = w' := hw.symm
      clear HX3 k3
      have k4 := unhide C4 w1 (unhide B1)
      have HCL := hide (rClass_any (S f4) w1 (by have := S_size f4; omega))
      have hcr := class_range (looseB (S f4))
      have hP : clsP f4 = if shortS (classN (looseB (S f4))) = S f4 then classN (looseB (S f4)) else 0 := rfl
      obtain ⟨c, hc⟩ : ∃ c, classN (looseB (S f4)) = c := ⟨_, rfl⟩
      rw [hc] at HCL hcr hP
      clear hc
      go_wp2_with fail
      refine (unhide HCL).mono ?_
      rintro e w2 ⟨rfl, hb2⟩
      have hB2 : Below w.heap.size w w2 := (unhide B1).trans (hb2.mono (unhide B1).size)
      have RB2 := hide ((unhide RB1).below hb2)
      have s2 : w.heap.size + 2 ≤ w2.heap.size := by have := hb2.size; omega
      have LB2 := hide ((hb2.block w.heap.size (by omega)).trans (unhide LB1))
      have B2 := hide hB2
      have k4 := unhide C4 w2 hB2
      clear hb2 HCL hB2 s1
      by_cases h0 : c = 0
      · subst h0
        have HS := hide ((unhide HSD).s50 n0 u3 (unhide HX) (unhide HN1) (unhide HCT) (unhide HU) (by rw [hP]; simp))
        clear hP hcr
        go_wp2
        go_quiet (fail)
        have B3 := hide (below_drewN (unhide B2) nq)
        have RB3 : Hid (RowAt (w2.drewN nq) (w.heap.size + 1) zeroR) := unhide RB2
        generalize w2.drewN nq = w3 at *
        have rv := unhide RB3
        have tc0 := rv.cell (j := 0) rfl
        have tf0 := rv.frozen 0
        have tc1 := rv.cell (j := 1) rfl
        have tf1 := rv.frozen 1
        have tc2 := rv.cell (j := 2) rfl
        have tf2 := rv.frozen 2
        have tc3 := rv.cell (j := 3) rfl
        have tf3 := rv.frozen 3
        have tc4 := rv.cell (j := 4) rfl
        have tf4 := rv.frozen 4
        have tc5 := rv.cell (j := 5) rfl
        have tf5 := rv.frozen 5
        have tc6 := rv.cell (j := 6) rfl
        have tf6 := rv.frozen 6
        have tc7 := rv.cell (j := 7) rfl
        have tf7 := rv.frozen 7
        have tc8 := rv.cell (j := 8) rfl
        have tf8 := rv.frozen 8
        have se0 := set_sameAt (j := 0) (v := Value.int IntKind.i64 0) rv rfl
        have se1 := set_sameAt (j := 1) (v := Value.int IntKind.i32 0) rv rfl
        have se2 := set_sameAt (j := 2) (v := Value.int IntKind.i32 0) rv rfl
        have se3 := set_sameAt (j := 3) (v := Value.string ⟨#[]⟩) rv rfl
        have se4 := set_sameAt (j := 4) (v := Value.string ⟨#[]⟩) rv rfl
        have se5 := set_sameAt (j := 5) (v := Value.int IntKind.u8 0) rv rfl
        have se6 := set_sameAt (j := 6) (v := Value.int IntKind.u8 0) rv rfl
        have se7 := set_sameAt (j := 7) (v := Value.int IntKind.i32 0) rv rfl
        have se8 := set_sameAt (j := 8) (v := Value.bool false) rv rfl
        clear rv
        go_wp2
        refine bodyPost_ret (rscan_results (r := zeroR) rfl rfl (unhide RB3)) rfl ?_
        rw [unhide HS]
        exact ⟨rfl, unhide B3⟩
      have d0 : decide (c < 1) = false := decide_eq_false (by omega)
      have d1 : decide (c > 23) = false := decide_eq_false (by omega)
      have d1' : decide (23 < c) = false := decide_eq_false (by omega)
      have y4 := fun dq os => cell_regrown k4 dq os
      have HSH := hide (fun V => rShort_any c V (by omega) (by omega))
      have hst := Go.Switch.str_test (shortS c) (S f4)
      by_cases h1 : shortS c = S f4
      case neg =>
        have HS := hide ((unhide HSD).s50 n0 u3 (unhide HX) (unhide HN1) (unhide HCT) (unhide HU) (by rw [hP, if_neg h1]))
        have hne : ((shortS c).toList == f4) = false := by
          rw [decide_eq_false h1, Go.Lib.toList_data (S f4)] at hst
          exact hst
        clear hP h1 hst
        generalize shortS c = T at *
        go_wp2_with fail
        refine wp_region_quiet_below (by kernel_rfl) (by kernel_rfl) ?_
        repeat (go_big_quiet_step (first | (go_at_call 37; with_reducible exact Calls.regrown_of (unhide HSH _))))
        refine wpQuiet_nil ?_
        intro _ hw'
        obtain ⟨⟨dq, osq⟩, hw''⟩ := hw'
        subst hw''
        have hb3 : Below w2.heap.size w2 (Sort.grow (redrawn w2 dq) osq) := below_regrown w2 dq osq
        generalize Sort.grow (redrawn w2 dq) osq = w3 at hb3 ⊢
        simp only [Exit.then]
        have B3 := hide ((unhide B2).trans (hb3.mono (unhide B2).size))
        have RB3 := hide ((unhide RB2).below hb3)
        clear y4 hb3
        have rv := unhide RB3
        have tc0 := rv.cell (j := 0) rfl
        have tf0 := rv.frozen 0
        have tc1 := rv.cell (j := 1) rfl
        have tf1 := rv.frozen 1
        have tc2 := rv.cell (j := 2) rfl
        have tf2 := rv.frozen 2
        have tc3 := rv.cell (j := 3) rfl
        have tf3 := rv.frozen 3
        have tc4 := rv.cell (j := 4) rfl
        have tf4 := rv.frozen 4
        have tc5 := rv.cell (j := 5) rfl
        have tf5 := rv.frozen 5
        have tc6 := rv.cell (j := 6) rfl
        have tf6 := rv.frozen 6
        have tc7 := rv.cell (j := 7) rfl
        have tf7 := rv.frozen 7
        have tc8 := rv.cell (j := 8) rfl
        have tf8 := rv.frozen 8
        have se0 := set_sameAt (j := 0) (v := Value.int IntKind.i64 0) rv rfl
        have se1 := set_sameAt (j := 1) (v := Value.int IntKind.i32 0) rv rfl
        have se2 := set_sameAt (j := 2) (v := Value.int IntKind.i32 0) rv rfl
        have se3 := set_sameAt (j := 3) (v := Value.string ⟨#[]⟩) rv rfl
        have se4 := set_sameAt (j := 4) (v := Value.string ⟨#[]⟩) rv rfl
        have se5 := set_sameAt (j := 5) (v := Value.int IntKind.u8 0) rv rfl
        have se6 := set_sameAt (j := 6) (v := Value.int IntKind.u8 0) rv rfl
        have se7 := set_sameAt (j := 7) (v := Value.int IntKind.i32 0) rv rfl
        have se8 := set_sameAt (j := 8) (v := Value.bool false) rv rfl
        clear rv
        go_wp2
        refine bodyPost_ret (rscan_results (r := zeroR) rfl rfl (unhide RB3)) rfl ?_
        rw [unhide HS]
        exact ⟨rfl, unhide B3⟩
      have HCP : Hid (clsP f4 = c) := by
        show _ = _
        rw [hP, if_pos h1]
      rw [h1] at HSH
      clear hP h1 hst
      go_wp2_with fail
      refine wp_region_quiet_below (by kernel_rfl) (by kernel_rfl) ?_
      repeat (go_big_quiet_step (first | (go_at_call 37; with_reducible exact Calls.regrown_of (unhide HSH _))))
      refine wpQuiet_nil ?_
      intro _ hw'
      obtain ⟨⟨dq, osq⟩, hw''⟩ := hw'
      subst hw''
      have hb3 : Below w2.heap.size w2 (Sort.grow (redrawn w2 dq) osq) := below_regrown w2 dq osq
      generalize Sort.grow (redrawn w2 dq) osq = w3 at hb3 ⊢
      simp only [Exit.then]
      have B3 := hide ((unhide B2).trans (hb3.mono (unhide B2).size))
      have RB3 := hide ((unhide RB2).below hb3)
      have s3 : w.heap.size + 2 ≤ w3.heap.size := by have := hb3.size; omega
      have LB3 := hide ((hb3.block w.heap.size (by omega)).trans (unhide LB2))
      have k5 := unhide C5 w3 (unhide B3)
      clear y4 hb3 s2 k4
      have HMA := hide (refMade_any (S f5) w3 (by have := S_size f5; omega))
      have hLS : L (S f5) = f5 := rfl
      rw [hLS] at HMA
      clear hLS
      go_wp2_with fail
      refine (unhide HMA).mono ?_
      rintro e w4 ⟨rfl, hb4⟩
      have B4 := hide ((unhide B3).trans (hb4.mono (unhide B3).size))
      have RB4 := hide ((unhide RB3).below hb4)
      have LB4 := hide ((hb4.block w.heap.size (by omega)).trans (unhide LB3))
      clear hb4 HMA k5 s3
      cases h5 : twinP 0 f5 with
      | none =>
        have HS := hide ((unhide HSD).s65 n0 u3 (unhide HX) (unhide HN1) (unhide HCT) (unhide HU) (by rw [unhide HCP]; exact h0) h5)
        clear h5
        dsimp only [madeV]
        have rv := unhide RB4
        have tc0 := rv.cell (j := 0) rfl
        have tf0 := rv.frozen 0
        have tc1 := rv.cell (j := 1) rfl
        have tf1 := rv.frozen 1
        have tc2 := rv.cell (j := 2) rfl
        have tf2 := rv.frozen 2
        have tc3 := rv.cell (j := 3) rfl
        have tf3 := rv.frozen 3
        have tc4 := rv.cell (j := 4) rfl
        have tf4 := rv.frozen 4
        have tc5 := rv.cell (j := 5) rfl
        have tf5 := rv.frozen 5
        have tc6 := rv.cell (j := 6) rfl
        have tf6 := rv.frozen 6
        have tc7 := rv.cell (j := 7) rfl
        have tf7 := rv.frozen 7
        have tc8 := rv.cell (j := 8) rfl
        have tf8 := rv.frozen 8
        have se0 := set_sameAt (j := 0) (v := Value.int IntKind.i64 0) rv rfl
        have se1 := set_sameAt (j := 1) (v := Value.int IntKind.i32 0) rv rfl
        have se2 := set_sameAt (j := 2) (v := Value.int IntKind.i32 0) rv rfl
        have se3 := set_sameAt (j := 3) (v := Value.string ⟨#[]⟩) rv rfl
        have se4 := set_sameAt (j := 4) (v := Value.string ⟨#[]⟩) rv rfl
        have se5 := set_sameAt (j := 5) (v := Value.int IntKind.u8 0) rv rfl
        have se6 := set_sameAt (j := 6) (v := Value.int IntKind.u8 0) rv rfl
        have se7 := set_sameAt (j := 7) (v := Value.int IntKind.i32 0) rv rfl
        have se8 := set_sameAt (j := 8) (v := Value.bool false) rv rfl
        clear rv
        go_wp2
        refine bodyPost_ret (rscan_results (r := zeroR) rfl rfl (unhide RB4)) rfl ?_
        rw [unhide HS]
        exact ⟨rfl, unhide B4⟩
      | some t5 =>
        dsimp only [madeV]
        have HT5 := hide h5
        clear h5
        have k9 := unhide C9 w4 (unhide B4)
        have k1 := unhide C1 w4 (unhide B4)
        have k2 := unhide C2 w4 (unhide B4)
        have l0 : w4.cell? ⟨w.heap.size, 0, none⟩ = some (.int .i64 no) := by simp [World.cell?, unhide LB4]
        by_cases hy : f9 = [89]
        · subst hy
          have HS := hide ((unhide HSD).sok n0 u3 t5 true (unhide HX) (unhide HN1) (unhide HCT) (unhide HU) (by rw [unhide HCP]; exact h0) (unhide HT5) rfl)
          have rv := unhide RB4
          have hw5 : IntKind.u8.wrap (u3 : Int) = (u3 : Int) := by rw [IntKind.wrap_u8]; omega
          have tc0 := rv.cell (j := 0) rfl
          have tf0 := rv.frozen 0
          have tc1 := rv.cell (j := 1) rfl
          have tf1 := rv.frozen 1
          have tc2 := rv.cell (j := 2) rfl
          have tf2 := rv.frozen 2
          have tc3 := rv.cell (j := 3) rfl
          have tf3 := rv.frozen 3
          have tc4 := rv.cell (j := 4) rfl
          have tf4 := rv.frozen 4
          have tc5 := rv.cell (j := 5) rfl
          have tf5 := rv.frozen 5
          have tc6 := rv.cell (j := 6) rfl
          have tf6 := rv.frozen 6
          have tc7 := rv.cell (j := 7) rfl
          have tf7 := rv.frozen 7
          have tc8 := rv.cell (j := 8) rfl
          have tf8 := rv.frozen 8
          clear rv
          go_wp2
          go_region
          all_goals go_wp2
          all_goals (
            refine bodyPost_ret (rscan_results (r := ⟨no, n0, n0, f1, [x, y], u3, c, t5, true⟩) rfl rfl (rowAt_drew (rowAt_copy (unhide RB4) ⟨no, n0, n0, f1, [x, y], u3, c, t5, true⟩))) rfl ?_
            rw [unhide HS, unhide HCP]
            exact ⟨rfl, below_drew (below_copy (unhide B4) (Nat.le_succ _) ⟨no, n0, n0, f1, [x, y], u3, c, t5, true⟩)⟩)
        by_cases hno : f9 = [78]
        · subst hno
          have HS := hide ((unhide HSD).sok n0 u3 t5 false (unhide HX) (unhide HN1) (unhide HCT) (unhide HU) (by rw [unhide HCP]; exact h0) (unhide HT5) rfl)
          clear hy
          have rv := unhide RB4
          have hw5 : IntKind.u8.wrap (u3 : Int) = (u3 : Int) := by rw [IntKind.wrap_u8]; omega
          have tc0 := rv.cell (j := 0) rfl
          have tf0 := rv.frozen 0
          have tc1 := rv.cell (j := 1) rfl
          have tf1 := rv.frozen 1
          have tc2 := rv.cell (j := 2) rfl
          have tf2 := rv.frozen 2
          have tc3 := rv.cell (j := 3) rfl
          have tf3 := rv.frozen 3
          have tc4 := rv.cell (j := 4) rfl
          have tf4 := rv.frozen 4
          have tc5 := rv.cell (j := 5) rfl
          have tf5 := rv.frozen 5
          have tc6 := rv.cell (j := 6) rfl
          have tf6 := rv.frozen 6
          have tc7 := rv.cell (j := 7) rfl
          have tf7 := rv.frozen 7
          have tc8 := rv.cell (j := 8) rfl
          have tf8 := rv.frozen 8
          clear rv
          go_wp2
          go_region
          all_goals go_wp2
          all_goals (
            refine bodyPost_ret (rscan_results (r := ⟨no, n0, n0, f1, [x, y], u3, c, t5, false⟩) rfl rfl (rowAt_drew (rowAt_copy (unhide RB4) ⟨no, n0, n0, f1, [x, y], u3, c, t5, false⟩))) rfl ?_
            rw [unhide HS, unhide HCP]
            exact ⟨rfl, below_drew (below_copy (unhide B4) (Nat.le_succ _) ⟨no, n0, n0, f1, [x, y], u3, c, t5, false⟩)⟩)
        have HS := hide ((unhide HSD).s66 n0 u3 t5 (unhide HX) (unhide HN1) (unhide HCT) (unhide HU) (by rw [unhide HCP]; exact h0) (unhide HT5) (by unfold flagB; rw [if_neg hy, if_neg hno]))
        have hy' : (f9 == [89]) = false := by simpa using hy
        have hn' : (f9 == [78]) = false := by simpa using hno
        clear hy hno
        have rv := unhide RB4
        have tc0 := rv.cell (j := 0) rfl
        have tf0 := rv.frozen 0
        have tc1 := rv.cell (j := 1) rfl
        have tf1 := rv.frozen 1
        have tc2 := rv.cell (j := 2) rfl
        have tf2 := rv.frozen 2
        have tc3 := rv.cell (j := 3) rfl
        have tf3 := rv.frozen 3
        have tc4 := rv.cell (j := 4) rfl
        have tf4 := rv.frozen 4
        have tc5 := rv.cell (j := 5) rfl
        have tf5 := rv.frozen 5
        have tc6 := rv.cell (j := 6) rfl
        have tf6 := rv.frozen 6
        have tc7 := rv.cell (j := 7) rfl
        have tf7 := rv.frozen 7
        have tc8 := rv.cell (j := 8) rfl
        have tf8 := rv.frozen 8
        have se0 := set_sameAt (j := 0) (v := Value.int IntKind.i64 0) rv rfl
        have se1 := set_sameAt (j := 1) (v := Value.int IntKind.i32 0) rv rfl
        have se2 := set_sameAt (j := 2) (v := Value.int IntKind.i32 0) rv rfl
        have se3 := set_sameAt (j := 3) (v := Value.string ⟨#[]⟩) rv rfl
        have se4 := set_sameAt (j := 4) (v := Value.string ⟨#[]⟩) rv rfl
        have se5 := set_sameAt (j := 5) (v := Value.int IntKind.u8 0) rv rfl
        have se6 := set_sameAt (j := 6) (v := Value.int IntKind.u8 0) rv rfl
        have se7 := set_sameAt (j := 7) (v := Value.int IntKind.i32 0) rv rfl
        have se8 := set_sameAt (j := 8) (v := Value.bool false) rv rfl
        clear rv
        go_wp2
        refine bodyPost_ret (rscan_results (r := zeroR) rfl rfl (unhide RB4)) rfl ?_
        rw [unhide HS]
        exact ⟨rfl, unhide B4⟩
end Go.Proofs.YthjnkagepooeiaaGreatDoor
