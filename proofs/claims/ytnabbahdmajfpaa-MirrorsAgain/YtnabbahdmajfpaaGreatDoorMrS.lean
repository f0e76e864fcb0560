/-
  Scan of package mirrors, for every line.
-/
import Derived.Test.YtnabbahdmajfpaaGreatDoorMrLe
import Derived.Test.YtnabbahdmajfpaaGreatDoorLRead
import Derived.Test.YtnabbahdmajfpaaGreatDoorRwHex
import Derived.Test.YtnabbahdmajfpaaGreatDoorMx
import Derived.BigQuiet
namespace Go.Proofs.YtnabbahdmajfpaaGreatDoor
open Go.RowKit Go.PlainAid Go.Lib Go.PHexM Go.Shelf
set_option linter.unusedVariables false
set_option linter.unusedSimpArgs false

abbrev bestB : List UInt8 := [91, 66, 69, 83, 84, 32, 70, 73, 84, 93]
/-- what Scan says of a line -/
def scanM (d : LineD) : MirD × Int :=
  if d.kind = 2 then (zeroM, 33) else if d.kind = 1 ∧ d.fields.length = 2 then
    (match hexP (d.fields.getD 0 []), hexP (d.fields.getD 1 []) with
      | some a, some b => (⟨d.no, (a : Nat), (b : Nat), hasPrefix d.note bestB⟩, 0)
      | _, _ => (zeroM, 40))
  else (zeroM, 60)
theorem hexP_le {l : List UInt8} {n : Nat} (h : hexP l = some n) : n ≤ 1114111 := by
  unfold hexP at h
  split at h
  · cases hd : digs l 0 with
    | none => rw [hd] at h; cases h
    | some m =>
      rw [hd] at h
      by_cases hm : 1114111 < m
      · simp [hm] at h
      · simp [hm] at h; omega
  · cases h
theorem scanM_ok (d : LineD) : MirOk (scanM d).1 := by
  have z : MirOk zeroM := ⟨⟨by decide, by decide⟩, ⟨by decide, by decide⟩⟩
  unfold scanM
  split
  · exact z
  · split
    · split
      · rename_i a b h1 h2
        have := hexP_le h1
        have := hexP_le h2
        exact ⟨⟨by show (-2147483648 : Int) ≤ (a : Nat); omega, by show ((a : Nat) : Int) ≤ _; omega⟩, ⟨by show (-2147483648 : Int) ≤ (b : Nat); omega, by show ((b : Nat) : Int) ≤ _; omega⟩⟩
      · exact z
    · exact z
/-- texts in memory, wherever they lie -/
def TxM (w : World) (a : Option Addr) (l : List (List UInt8)) : Prop := ∀ (i : Nat) (x : List UInt8), l[i]? = some x → ∃ g off, a = some ⟨g, off, none⟩ ∧ w.cell? ⟨g, off + i, none⟩ = some (.string (S x))
theorem TxM.below {w w' : World} {a : Option Addr} {l : List (List UInt8)} (h : TxM w a l) (hb : Below w.heap.size w w') : TxM w' a l := fun i x hx => by
  obtain ⟨g, off, rfl, hc⟩ := h i x hx
  exact ⟨g, off, rfl, (hb.cell (World.block_lt_of_cell? _ _ hc)).trans hc⟩
def MirAt (w : World) (b : Nat) (x : MirD) : Prop := w.heap[b]? = some (.cells (mirC x).toArray 27 (0, 0))
theorem MirAt.below {w w' : World} {b : Nat} {x : MirD} (h : MirAt w b x) (hb : Below w.heap.size w w') : MirAt w' b x := (hb.block b (Array.getElem?_eq_some_iff.1 h).1).trans h
theorem MirAt.lt {w : World} {b : Nat} {x : MirD} (h : MirAt w b x) : b < w.heap.size := (Array.getElem?_eq_some_iff.1 h).1
theorem MirAt.cell {w : World} {b : Nat} {x : MirD} (h : MirAt w b x) {j : Nat} {v : Value} (hj : (mirC x)[j]? = some v) : w.cell? ⟨b, j, none⟩ = some v := by
  have h' : w.heap[b]? = _ := h
  simp only [World.cell?, h']
  simpa using hj
theorem MirAt.frozen {w : World} {b : Nat} {x : MirD} (h : MirAt w b x) (j : Nat) : w.frozen? ⟨b, j, none⟩ = false := by
  have h' : w.heap[b]? = _ := h
  simp [World.frozen?, h']
theorem MirAt.set {w : World} {b : Nat} {x x' : MirD} (h : MirAt w b x) (j : Nat) (v : Value) (hr : (mirC x).toArray.setIfInBounds j v = (mirC x').toArray) : MirAt (w.setCell ⟨b, j, none⟩ v) b x' := by
  show (w.setCell ⟨b, j, none⟩ v).heap[b]? = _
  rw [setCell_eq_setRow w b j _ _ _ v h, setRow_heap w b _ _ _ _ h, hr]
theorem MirAt.same {W : World} {b j : Nat} {x : MirD} {v : Value} (h : MirAt W b x) (hv : (mirC x)[j]? = some v) : W.setCell ⟨b, j, none⟩ v = W := by
  have hb : W.heap[b]? = some (.cells (mirC x).toArray 27 (0, 0)) := h
  rw [setCell_eq_setRow W b j _ _ _ v hb]
  have e : (mirC x).toArray.setIfInBounds j v = (mirC x).toArray := by
    apply Array.ext_getElem?
    intro i
    rw [Array.getElem?_setIfInBounds]
    split
    · rename_i e; subst e
      have : (mirC x).toArray[j]? = some v := by simpa using hv
      rw [this, if_pos (Array.getElem?_eq_some_iff.1 this).1]
    · rfl
  rw [e]
  have key : ∀ f : Obj → Obj, f (.cells (mirC x).toArray 27 (0, 0)) = .cells (mirC x).toArray 27 (0, 0) → W.heap.modify b f = W.heap := by
    intro f hf
    apply Array.ext_getElem?
    intro i
    rw [Array.getElem?_modify]
    split
    · rename_i e; subst e; rw [hb]; simp [hf]
    · rfl
  unfold World.setRow
  rw [key _ rfl]
/-- a mirror copied into its place, cell by cell -/
theorem MirAt.copy {X : World} {b : Nat} {x0 : MirD} (h : MirAt X b x0) (x : MirD) : MirAt ((((X.setCell ⟨b, 0, none⟩ (.int .i64 x.line)).setCell ⟨b, 1, none⟩ (.int .i32 x.frm)).setCell ⟨b, 2, none⟩ (.int .i32 x.to)).setCell ⟨b, 3, none⟩ (.bool x.best)) b x :=
  (((h.set (x' := { x0 with line := x.line }) 0 _ rfl).set (x' := { x0 with line := x.line, frm := x.frm }) 1 _ rfl).set (x' := { x0 with line := x.line, frm := x.frm, to := x.to }) 2 _ rfl).set (x' := { x0 with line := x.line, frm := x.frm, to := x.to, best := x.best }) 3 _ rfl
theorem below_copyM {X w : World} {B b : Nat} (h : Below B w X) (hb : B ≤ b) (x : MirD) : Below B w ((((X.setCell ⟨b, 0, none⟩ (.int .i64 x.line)).setCell ⟨b, 1, none⟩ (.int .i32 x.frm)).setCell ⟨b, 2, none⟩ (.int .i32 x.to)).setCell ⟨b, 3, none⟩ (.bool x.best)) := ((((h.setCell hb _).setCell hb _).setCell hb _).setCell hb _)
set_option maxRecDepth 100000 in
theorem scan9_results {tmps : Array Value} {w : World} {b : Nat} {x : MirD} {k : Int} (h2 : tmps.getD 2 undef = .pointer (some ⟨b, 0, none⟩)) (h3 : tmps.getD 3 undef = .int .i64 k) (h : MirAt w b x) : (results Tryz.f13 tmps).run Tryz.prog w = .ok (.tuple #[mirV x, .int .i64 k]) w := by
  have c0 := h.cell (j := 0) rfl
  have c1 := h.cell (j := 1) rfl
  have c2 := h.cell (j := 2) rfl
  have c3 := h.cell (j := 3) rfl
  have h2' : tmps[2]?.getD undef = .pointer (some ⟨b, 0, none⟩) := by simpa using h2
  have h3' : tmps[3]?.getD undef = .int .i64 k := by simpa using h3
  simp [results, Tryz.results13, go_sem, h2', h3', c0, c1, c2, c3]

set_option maxRecDepth 100000 in
set_option maxHeartbeats 4000000 in
theorem scan9_any (d : LineD) (fa : Option Addr) (fc : Nat) (w : World) (hT : TxM w fa d.fields) :
    Calls Tryz.prog 13 #[lineV d (.slice fa d.fields.length fc)] w fun e w' => e = .returned (.tuple #[mirV (scanM d).1, .int .i64 (scanM d).2]) ∧ Below w.heap.size w w' := by
  obtain ⟨no, kind, name, fields, note⟩ := d
  simp only at hT ⊢
  obtain ⟨R, hR⟩ : ∃ R, scanM ⟨no, kind, name, fields, note⟩ = R := ⟨_, rfl⟩
  rw [hR]
  have HR := hide hR
  clear hR
  obtain ⟨W0, hW0⟩ : ∃ W0, (w.alloc (.cells #[.int .i64 no, .int .u8 kind, .string (S name), .slice fa fields.length fc, .string (S note)] 25)).alloc (.cells (mirC zeroM).toArray 27) = W0 := ⟨_, rfl⟩
  have hs0 : W0.heap.size = w.heap.size + 2 := by rw [← hW0]; simp
  have hb0 : Below w.heap.size w W0 := by rw [← hW0]; exact ((Below.refl _ w).alloc (Nat.le_refl _) _).alloc (by simp) _
  have lb : W0.heap[w.heap.size]? = some (.cells #[.int .i64 no, .int .u8 kind, .string (S name), .slice fa fields.length fc, .string (S note)] 25 (0, 0)) := by
    rw [← hW0]; exact (Below.heap_alloc _ _ _ (by simp)).trans (heap_alloc_new w _)
  have mb : MirAt W0 (w.heap.size + 1) zeroM := by
    rw [← hW0]
    have h := heap_alloc_new (w.alloc (.cells #[.int .i64 no, .int .u8 kind, .string (S name), .slice fa fields.length fc, .string (S note)] 25)) (.cells (mirC zeroM).toArray 27)
    rw [World.size_alloc] at h; exact h
  have hW0' : (w.alloc (.cells #[.int .i64 no, .int .u8 kind, .string (S name), .slice fa fields.length fc, .string (S note)] 25)).alloc (.cells #[.int .i64 0, .int .i32 0, .int .i32 0, .bool false] 27) = W0 := hW0
  clear hW0
  obtain ⟨q0, q1, q2, q3, q4, -, -, -, -, -⟩ := box5 lb
  have m0 := mb.cell (j := 0) rfl
  have m1 := mb.cell (j := 1) rfl
  have m2 := mb.cell (j := 2) rfl
  have m3 := mb.cell (j := 3) rfl
  have f0 := mb.frozen 0
  have f1 := mb.frozen 1
  have f2 := mb.frozen 2
  have f3 := mb.frozen 3
  have s0 : W0.setCell ⟨w.heap.size + 1, 0, none⟩ (.int .i64 0) = W0 := mb.same (j := 0) rfl
  have s1 : W0.setCell ⟨w.heap.size + 1, 1, none⟩ (.int .i32 0) = W0 := mb.same (j := 1) rfl
  have s2 : W0.setCell ⟨w.heap.size + 1, 2, none⟩ (.int .i32 0) = W0 := mb.same (j := 2) rfl
  have s3 : W0.setCell ⟨w.heap.size + 1, 3, none⟩ (.bool false) = W0 := mb.same (j := 3) rfl
  have HT := hide (hT.below hb0)
  have HMB := hide mb
  have HB0 := hide hb0
  clear lb mb hb0 hT
  by_cases hk2 : kind = 2
  · subst hk2
    go_enter Tryz.func13, Tryz.ntmps13
    go_wp2
    refine bodyPost_ret (scan9_results (x := zeroM) rfl rfl (unhide HMB)) rfl ?_
    rw [← unhide HR]
    exact ⟨rfl, unhide HB0⟩
  have hk2' : (kind == 2) = false := by simpa using hk2
  by_cases hk1 : kind = 1
  · subst hk1
    by_cases hl : fields.length = 2
    · obtain ⟨a, b, rfl⟩ : ∃ a b, fields = [a, b] := by
        match fields, hl with
        | [a, b], _ => exact ⟨a, b, rfl⟩
      obtain ⟨g, off, rfl, hca⟩ := unhide HT 0 a rfl
      obtain ⟨g', off', e', hcb⟩ := unhide HT 1 b rfl
      simp only [Option.some.injEq, Addr.mk.injEq, and_true] at e'
      obtain ⟨rfl, rfl⟩ := e'
      rw [Nat.add_zero] at hca
      simp only [List.length_cons, List.length_nil] at *
      have hRe : R = (match hexP a, hexP b with | some x, some y => (⟨no, (x : Nat), (y : Nat), hasPrefix note bestB⟩, 0) | _, _ => (zeroM, 40)) := by rw [← unhide HR]; rfl
      have HXA := hide (fun w => hex_any (S a) w)
      have HXB := hide (fun w => hex_any (S b) w)
      have ea : (S a).data.toList = a := by simp
      have eb : (S b).data.toList = b := by simp
      rw [ea] at HXA
      rw [eb] at HXB
      clear ea eb hk2 hl HT HR
      cases ha : hexP a with
      | none =>
        rw [ha] at hRe
        rw [hexV_none ha] at HXA
        have HRE := hide hRe
        clear hRe ha
        go_enter Tryz.func13, Tryz.ntmps13
        go_wp2_with (go_at_call 32; with_reducible refine (unhide HXA _).mono ?_; rintro e w' ⟨rfl, rfl⟩)
        refine bodyPost_ret (scan9_results (x := zeroM) rfl rfl (unhide HMB)) rfl ?_
        rw [unhide HRE]
        exact ⟨rfl, unhide HB0⟩
      | some x =>
        rw [ha] at hRe
        rw [hexV_some ha] at HXA
        cases hb : hexP b with
        | none =>
          rw [hb] at hRe
          rw [hexV_none hb] at HXB
          have HRE := hide hRe
          clear hRe ha hb
          have tok : True := trivial
          go_enter Tryz.func13, Tryz.ntmps13
          go_wp2_with (first | (go_at_call 32; have _t := tok; with_reducible refine (unhide HXA _).mono ?_; rintro e w' ⟨rfl, rfl⟩; clear tok) | (go_at_call 32; with_reducible refine (unhide HXB _).mono ?_; rintro e w' ⟨rfl, rfl⟩))
          refine bodyPost_ret (scan9_results (x := zeroM) rfl rfl (unhide HMB)) rfl ?_
          rw [unhide HRE]
          exact ⟨rfl, unhide HB0⟩
        | some y =>
          rw [hb] at hRe
          rw [hexV_some hb] at HXB
          have HRE := hide hRe
          have HP := hide (fun w => Tryz.strings_HasPrefix (S note) ⟨#[91, 66, 69, 83, 84, 32, 70, 73, 84, 93]⟩ w)
          have en : (S note).data.toList = note := by simp
          rw [en] at HP
          clear hRe ha hb en
          obtain ⟨B, hB⟩ : ∃ B, hasPrefix note bestB = B := ⟨_, rfl⟩
          rw [hB] at HRE
          have HP' : Hid (∀ w, Calls Tryz.prog 33 #[.string (S note), .string ⟨#[91, 66, 69, 83, 84, 32, 70, 73, 84, 93]⟩] w fun e w' => e = .returned (.bool B) ∧ w' = w) := by rw [← hB]; exact unhide HP
          clear HP hB
          have tok : True := trivial
          go_enter Tryz.func13, Tryz.ntmps13
          go_wp2_with (first | (go_at_call 32; have _t := tok; with_reducible refine (unhide HXA _).mono ?_; rintro e w' ⟨rfl, hw⟩; obtain rfl : W0 = w' := hw.symm; clear tok) | (go_at_call 32; with_reducible refine (unhide HXB _).mono ?_; rintro e w' ⟨rfl, hw⟩; obtain rfl : W0 = w' := hw.symm))
          have HM1 : Hid (∀ n, (W0.drewN n).cell? ⟨w.heap.size + 1, 0, none⟩ = some (.int .i64 0) ∧ MirAt (W0.drewN n) (w.heap.size + 1) zeroM ∧ Below w.heap.size w (W0.drewN n)) := fun n => ⟨m0, unhide HMB, below_drewN (unhide HB0) n⟩
          refine MixW.start (by kernel_rfl) ?_
          refine MixW.seg (C := fun w' => ∃ n, w' = W0.drewN n) 0 8 2 (by kernel_rfl) ⟨1, rfl⟩ ?_
          simp only [Nat.reduceAdd, List.take_succ_cons, List.take_zero, List.drop_zero]
          repeat (go_big_quiet_step ((go_at_call 33; with_reducible exact Calls.quiet_of_same (unhide HP' _))))
          refine wpQuiet_nil ?_
          rintro _ ⟨q, rfl⟩
          obtain ⟨z0, z1, z2⟩ := unhide HM1 q
          have y1 := z1.cell (j := 1) rfl
          have y2 := z1.cell (j := 2) rfl
          have y3 := z1.cell (j := 3) rfl
          have x0 := z1.frozen 0
          have x1 := z1.frozen 1
          have x2 := z1.frozen 2
          have x3 := z1.frozen 3
          have Z1 := hide z1
          have Z2 := hide z2
          clear z1 z2 s0 s1 s2 s3
          generalize hX : W0.drewN q = X at *
          have HF : ∃ Y, (((X.setCell ⟨w.heap.size + 1, 0, none⟩ (.int .i64 no)).setCell ⟨w.heap.size + 1, 1, none⟩ (.int .i32 (x : Nat))).setCell ⟨w.heap.size + 1, 2, none⟩ (.int .i32 (y : Nat))).setCell ⟨w.heap.size + 1, 3, none⟩ (.bool B) = Y ∧ MirAt Y (w.heap.size + 1) ⟨no, (x : Nat), (y : Nat), B⟩ ∧ Below w.heap.size w Y := ⟨_, rfl, (unhide Z1).copy ⟨no, (x : Nat), (y : Nat), B⟩, below_copyM (unhide Z2) (Nat.le_succ _) ⟨no, (x : Nat), (y : Nat), B⟩⟩
          obtain ⟨Y, hY, hY1, hY2⟩ := HF
          have HY1 := hide hY1
          have HY2 := hide hY2
          clear hY1 hY2
          refine MixW.loud 1 8 1 _ _ (by decide) (by kernel_rfl) ?_
          simp only [Nat.reduceAdd, List.drop_succ_cons, List.drop_zero, List.take_succ_cons, List.take_zero]
          go_wp2_with fail
          clear hY
          show wpAny _ _ _ _ 1 _ _ _
          refine MixW.last (C := fun w' => w' = Y) 9 1 (by decide) (by kernel_rfl) (by kernel_rfl) rfl ?_
          simp only [List.drop_succ_cons, List.drop_zero]
          repeat (go_big_quiet_step (fail))
          refine wpQuiet_nil ?_
          intro w6 hw6
          obtain rfl : Y = w6 := hw6.symm
          simp only [Exit.then]
          go_wp2
          refine bodyPost_ret (scan9_results (x := ⟨no, (x : Nat), (y : Nat), B⟩) rfl rfl (unhide HY1)) rfl ?_
          rw [unhide HRE]
          exact ⟨rfl, unhide HY2⟩
    · have HRE : Hid (R = (zeroM, 60)) := by show _ = _; rw [← unhide HR]; simp [scanM, hl]
      generalize fields.length = n at *
      have hl' : ((n : Int) != 2) = true := by simpa using fun e => hl (by omega)
      have hl2 : ((n : Int) == 2) = false := by simpa using fun e => hl (by omega)
      clear HR hl
      go_enter Tryz.func13, Tryz.ntmps13
      go_wp2
      refine bodyPost_ret (scan9_results (x := zeroM) rfl rfl (unhide HMB)) rfl ?_
      rw [unhide HRE]
      exact ⟨rfl, unhide HB0⟩
  · have hk1' : (kind == 1) = false := by simpa using hk1
    have hk1'' : (kind != 1) = true := by simpa using hk1
    have HRE : Hid (R = (zeroM, 60)) := by show _ = _; rw [← unhide HR]; simp [scanM, hk1, hk2]
    clear HR hk1 hk2
    go_enter Tryz.func13, Tryz.ntmps13
    go_wp2
    refine bodyPost_ret (scan9_results (x := zeroM) rfl rfl (unhide HMB)) rfl ?_
    rw [unhide HRE]
    exact ⟨rfl, unhide HB0⟩
end Go.Proofs.YtnabbahdmajfpaaGreatDoor
