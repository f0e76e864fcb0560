/-
  Scan of package rows, for every line.
-/
import Derived.Test.YthjnkagepooeiaaGreatDoorRwP
import Derived.Test.YthjnkagepooeiaaGreatDoorMixW
import Derived.Laws.EntriesVeiled
namespace Go.Proofs.YthjnkagepooeiaaGreatDoor
open Go.RowKit Go.PlainAid Go.Lib Go.PHexM Go.Shelf
set_option linter.unusedVariables false
set_option linter.unusedSimpArgs false

/-- texts in memory, wherever they lie -/
def TxG (w : World) (a : Option Addr) (l : List (List UInt8)) : Prop := ∀ (i : Nat) (x : List UInt8), l[i]? = some x → ∃ g off, a = some ⟨g, off, none⟩ ∧ w.cell? ⟨g, off + i, none⟩ = some (.string (S x))
theorem TxG.below {w w' : World} {a : Option Addr} {l : List (List UInt8)} (h : TxG w a l) (hb : Below w.heap.size w w') : TxG w' a l := fun i x hx => by
  obtain ⟨g, off, rfl, hc⟩ := h i x hx
  exact ⟨g, off, rfl, (hb.cell (World.block_lt_of_cell? _ _ hc)).trans hc⟩
theorem TxG.but {b : Nat} {w w' : World} {a : Option Addr} {l : List (List UInt8)} (h : TxG w a l) (hb : But b w w') (hn : ∀ g off, a = some ⟨g, off, none⟩ → g ≠ b) : TxG w' a l := fun i x hx => by
  obtain ⟨g, off, rfl, hc⟩ := h i x hx
  refine ⟨g, off, rfl, ?_⟩
  have hlt := World.block_lt_of_cell? _ _ hc
  simp only [World.cell?, hb.block g hlt (hn g off rfl)] at hc ⊢
  exact hc

/-- the fields that are read, each with what reads it -/
def cellF : List (Nat × Nat) := [(0, 55), (1, 56), (2, 57), (3, 58), (4, 59), (5, 60), (9, 61)]
def cellO (b : Nat) : Obj := .cells #[.int .i64 0, Value.func (.func 55) #[.pointer (some ⟨b, 0, none⟩)] #[], .int .i64 1, Value.func (.func 56) #[.pointer (some ⟨b, 0, none⟩)] #[], .int .i64 2, Value.func (.func 57) #[.pointer (some ⟨b, 0, none⟩)] #[], .int .i64 3, Value.func (.func 58) #[.pointer (some ⟨b, 0, none⟩)] #[], .int .i64 4, Value.func (.func 59) #[.pointer (some ⟨b, 0, none⟩)] #[], .int .i64 5, Value.func (.func 60) #[.pointer (some ⟨b, 0, none⟩)] #[], .int .i64 9, Value.func (.func 61) #[.pointer (some ⟨b, 0, none⟩)] #[]] 75
theorem cells_any (b : Nat) (w : World) : Calls Tryz.prog 32 #[.pointer (some ⟨b, 0, none⟩)] w fun e w' => e = .returned (.slice (some ⟨w.heap.size, 0, none⟩) 7 7) ∧ w' = w.alloc (cellO b) := by
  go_enter Tryz.func32, Tryz.ntmps32
  go_wp2
  go_ret
  exact ⟨rfl, rfl⟩
theorem cellF_at {i a F : Nat} (h : cellF[i]? = some (a, F)) : (∀ args w, (callFunc F args).run Tryz.prog w = .ok (.enter F args) w) ∧ a < 15 ∧
    ∀ b r f w, RBox w b r → Glob w → f.length ≤ 1073741824 → Calls Tryz.prog F #[.pointer (some ⟨b, 0, none⟩), .string (S f)] w (ReadPost b r a f w) := by
  match i, h with
  | 0, h => cases h; exact ⟨enters_of Tryz.func55 (by kernel_rfl) rfl, by decide, fun b r f w h1 h2 h3 => readPoint_any b r f w h1⟩
  | 1, h => cases h; exact ⟨enters_of Tryz.func56 (by kernel_rfl) rfl, by decide, fun b r f w h1 h2 h3 => readName_any b r f w h1 h3⟩
  | 2, h => cases h; exact ⟨enters_of Tryz.func57 (by kernel_rfl) rfl, by decide, fun b r f w h1 h2 h3 => readCategory_any b r f w h1⟩
  | 3, h => cases h; exact ⟨enters_of Tryz.func58 (by kernel_rfl) rfl, by decide, fun b r f w h1 h2 h3 => readCombining_any b r f w h1 h2 h3⟩
  | 4, h => cases h; exact ⟨enters_of Tryz.func59 (by kernel_rfl) rfl, by decide, fun b r f w h1 h2 h3 => readClass_any b r f w h1 h3⟩
  | 5, h => cases h; exact ⟨enters_of Tryz.func60 (by kernel_rfl) rfl, by decide, fun b r f w h1 h2 h3 => readParts_any b r f w h1 h2 h3⟩
  | 6, h => cases h; exact ⟨enters_of Tryz.func61 (by kernel_rfl) rfl, by decide, fun b r f w h1 h2 h3 => readFlag_any b r f w h1⟩
  | i + 7, h => simp [cellF] at h
theorem cellO_at {w : World} {g b i a F : Nat} (h : cellF[i]? = some (a, F)) (hg : w.heap[g]? = some (cellO b)) : w.cell? ⟨g, i * 2, none⟩ = some (.int .i64 a) ∧ w.cell? ⟨g, i * 2 + 1, none⟩ = some (Value.func (.func F) #[.pointer (some ⟨b, 0, none⟩)] #[]) := by
  simp only [World.cell?, hg]
  match i, h with
  | 0, h => cases h; exact ⟨rfl, rfl⟩
  | 1, h => cases h; exact ⟨rfl, rfl⟩
  | 2, h => cases h; exact ⟨rfl, rfl⟩
  | 3, h => cases h; exact ⟨rfl, rfl⟩
  | 4, h => cases h; exact ⟨rfl, rfl⟩
  | 5, h => cases h; exact ⟨rfl, rfl⟩
  | 6, h => cases h; exact ⟨rfl, rfl⟩
  | i + 7, h => simp [cellF] at h
theorem fold_drop (fs : List (List UInt8)) {i a F : Nat} (h : cellF[i]? = some (a, F)) (r : RowD) :
    foldC fs (cellsL.drop i) r = if (cellP a (fs.getD a []) r).2 = 0 then foldC fs (cellsL.drop (i + 1)) (cellP a (fs.getD a []) r).1 else (zeroR, (cellP a (fs.getD a []) r).2) := by
  match i, h with
  | 0, h => cases h; rfl
  | 1, h => cases h; rfl
  | 2, h => cases h; rfl
  | 3, h => cases h; rfl
  | 4, h => cases h; rfl
  | 5, h => cases h; rfl
  | 6, h => cases h; rfl
  | i + 7, h => simp [cellF] at h

/-- a row in a block of its own -/
def RowAt (w : World) (b : Nat) (r : RowD) : Prop := w.heap[b]? = some (.cells (rowC r).toArray 29 (0, 0))
theorem RowAt.below {w w' : World} {b : Nat} {r : RowD} (h : RowAt w b r) (hb : Below w.heap.size w w') : RowAt w' b r := (hb.block b (Array.getElem?_eq_some_iff.1 h).1).trans h
theorem RowAt.lt {w : World} {b : Nat} {r : RowD} (h : RowAt w b r) : b < w.heap.size := (Array.getElem?_eq_some_iff.1 h).1
theorem RowAt.cell {w : World} {b : Nat} {r : RowD} (h : RowAt w b r) {j : Nat} {v : Value} (hj : (rowC r)[j]? = some v) : w.cell? ⟨b, j, none⟩ = some v := by
  have h' : w.heap[b]? = _ := h
  simp only [World.cell?, h']
  simpa using hj
theorem RowAt.frozen {w : World} {b : Nat} {r : RowD} (h : RowAt w b r) (j : Nat) : w.frozen? ⟨b, j, none⟩ = false := by
  have h' : w.heap[b]? = _ := h
  simp [World.frozen?, h']
theorem RowAt.set {w : World} {b : Nat} {r r' : RowD} (h : RowAt w b r) (j : Nat) (v : Value) (hr : (rowC r).toArray.setIfInBounds j v = (rowC r').toArray) : RowAt (w.setCell ⟨b, j, none⟩ v) b r' := by
  show (w.setCell ⟨b, j, none⟩ v).heap[b]? = _
  rw [setCell_eq_setRow w b j _ _ _ v h, setRow_heap w b _ _ _ _ h, hr]

theorem rowAt_new (w : World) (o : Obj) (r : RowD) : RowAt ((w.alloc o).alloc (.cells (rowC r).toArray 29)) (w.heap.size + 1) r := by
  have h := heap_alloc_new (w.alloc o) (.cells (rowC r).toArray 29)
  rw [World.size_alloc] at h
  exact h

theorem set_sameAt {W : World} {b j : Nat} {r : RowD} {v : Value} (h : RowAt W b r) (hv : (rowC r)[j]? = some v) : W.setCell ⟨b, j, none⟩ v = W := by
  have hb : W.heap[b]? = some (.cells (rowC r).toArray 29 (0, 0)) := h
  rw [setCell_eq_setRow W b j _ _ _ v hb]
  have e : (rowC r).toArray.setIfInBounds j v = (rowC r).toArray := by
    apply Array.ext_getElem?
    intro i
    rw [Array.getElem?_setIfInBounds]
    split
    · rename_i e; subst e
      have : (rowC r).toArray[j]? = some v := by simpa using hv
      rw [this, if_pos (Array.getElem?_eq_some_iff.1 this).1]
    · rfl
  rw [e]
  have key : ∀ f : Obj → Obj, f (.cells (rowC r).toArray 29 (0, 0)) = .cells (rowC r).toArray 29 (0, 0) → W.heap.modify b f = W.heap := by
    intro f hf
    apply Array.ext_getElem?
    intro i
    rw [Array.getElem?_modify]
    split
    · rename_i e; subst e; rw [hb]; simp [hf]
    · rfl
  unfold World.setRow
  rw [key _ rfl]

set_option maxRecDepth 100000 in
theorem scan_results {tmps : Array Value} {w : World} {b : Nat} {r : RowD} {k : Int} (h2 : tmps.getD 2 undef = .pointer (some ⟨b, 0, none⟩)) (h3 : tmps.getD 3 undef = .int .i64 k) (h : RowAt w b r) : (results Tryz.f14 tmps).run Tryz.prog w = .ok (.tuple #[rowV r, .int .i64 k]) w := by
  have c0 := h.cell (j := 0) rfl
  have c1 := h.cell (j := 1) rfl
  have c2 := h.cell (j := 2) rfl
  have c3 := h.cell (j := 3) rfl
  have c4 := h.cell (j := 4) rfl
  have c5 := h.cell (j := 5) rfl
  have c6 := h.cell (j := 6) rfl
  have c7 := h.cell (j := 7) rfl
  have c8 := h.cell (j := 8) rfl
  have h2' : tmps[2]?.getD undef = .pointer (some ⟨b, 0, none⟩) := by simpa using h2
  have h3' : tmps[3]?.getD undef = .int .i64 k := by simpa using h3
  simp [results, Tryz.results14, go_sem, h2', h3', c0, c1, c2, c3, c4, c5, c6, c7, c8]

set_option maxRecDepth 100000 in
set_option maxHeartbeats 4000000 in
theorem scan6_any (d : LineD) (fa : Option Addr) (fc : Nat) (w : World) (hg : Glob w) (hT : TxG w fa d.fields) (hs : ∀ x ∈ d.fields, x.length ≤ 1073741824) :
    Calls Tryz.prog 14 #[lineV d (.slice fa d.fields.length fc)] w fun e w' => e = .returned (.tuple #[rowV (scanR d).1, .int .i64 (scanR d).2]) ∧ Below w.heap.size w w' := by
  obtain ⟨no, kind, name, fields, note⟩ := d
  simp only at hT hs ⊢
  obtain ⟨R, hR⟩ : ∃ R, scanR ⟨no, kind, name, fields, note⟩ = R := ⟨_, rfl⟩
  rw [hR]
  have HR := hide hR
  clear hR
  by_cases hk2 : kind = 2
  · subst hk2
    go_enter Tryz.func14, Tryz.ntmps14
    go_wp2
    refine bodyPost_ret (scan_results (r := zeroR) rfl rfl (rowAt_new w _ zeroR)) rfl ?_
    rw [← unhide HR]
    exact ⟨rfl, ((Below.refl _ w).alloc (Nat.le_refl _) _).alloc (by simp) _⟩
  have hk2' : (kind == 2) = false := by simpa using hk2
  by_cases hk1 : kind = 1
  · subst hk1
    by_cases hl : fields.length = 15
    · have HSC : Hid (R = foldC fields cellsL { zeroR with line := no }) := by
        show _ = _
        rw [← unhide HR]; simp [scanR, hl]
      obtain ⟨nf, hnf⟩ : ∃ nf, fields.length = nf := ⟨_, rfl⟩
      rw [hnf] at hl ⊢
      subst hl
      have HNF := hide hnf
      have HT := hide hT
      have HS := hide hs
      have HG := hide hg
      clear hnf hT hs hg hk2 hk2'
      go_enter Tryz.func14, Tryz.ntmps14
      go_wp2_with fail
      refine (cells_any _ _).mono ?_
      rintro e w' ⟨rfl, rfl⟩
      obtain ⟨W0, hW0⟩ : ∃ W0, (((w.alloc (Obj.cells #[Value.int IntKind.i64 no, Value.int IntKind.u8 1, Value.string (S name), Value.slice fa 15 fc, Value.string (S note)] 25)).alloc (Obj.cells #[Value.int IntKind.i64 0, Value.int IntKind.i32 0, Value.int IntKind.i32 0, Value.string ⟨#[]⟩, Value.string ⟨#[]⟩, Value.int IntKind.u8 0, Value.int IntKind.u8 0, Value.int IntKind.i32 0, Value.bool false] 29)).alloc (Obj.cells #[Value.int IntKind.i64 no, Value.int IntKind.i32 0, Value.int IntKind.i32 0, Value.string ⟨#[]⟩, Value.string ⟨#[]⟩, Value.int IntKind.u8 0, Value.int IntKind.u8 0, Value.int IntKind.i32 0, Value.bool false] 70)).alloc (cellO (w.heap.size + 1 + 1)) = W0 := ⟨_, rfl⟩
      have hs0 : W0.heap.size = w.heap.size + 4 := by rw [← hW0]; simp
      have hb0 : Below w.heap.size w W0 := by rw [← hW0]; exact ((((Below.refl _ w).alloc (Nat.le_refl _) _).alloc (by simp) _).alloc (by simp; omega) _).alloc (by simp; omega) _
      have lb : W0.heap[w.heap.size]? = some (.cells #[Value.int IntKind.i64 no, Value.int IntKind.u8 1, Value.string (S name), Value.slice fa 15 fc, Value.string (S note)] 25 (0, 0)) := by
        rw [← hW0]; exact (Below.heap_alloc _ _ _ (by simp; omega)).trans ((Below.heap_alloc _ _ _ (by simp; omega)).trans ((Below.heap_alloc _ _ _ (by simp)).trans (heap_alloc_new w _)))
      have rb : RowAt W0 (w.heap.size + 1) zeroR := by
        rw [← hW0]; exact (Below.heap_alloc _ _ _ (by simp)).trans ((Below.heap_alloc _ _ _ (by simp)).trans (rowAt_new w _ zeroR))
      have bb : RBox W0 (w.heap.size + 1 + 1) { zeroR with line := no } := by
        rw [← hW0]; refine (Below.heap_alloc _ _ _ (by simp)).trans ?_
        have h := heap_alloc_new ((w.alloc (Obj.cells #[Value.int IntKind.i64 no, Value.int IntKind.u8 1, Value.string (S name), Value.slice fa 15 fc, Value.string (S note)] 25)).alloc (Obj.cells #[Value.int IntKind.i64 0, Value.int IntKind.i32 0, Value.int IntKind.i32 0, Value.string ⟨#[]⟩, Value.string ⟨#[]⟩, Value.int IntKind.u8 0, Value.int IntKind.u8 0, Value.int IntKind.i32 0, Value.bool false] 29)) (Obj.cells #[Value.int IntKind.i64 no, Value.int IntKind.i32 0, Value.int IntKind.i32 0, Value.string ⟨#[]⟩, Value.string ⟨#[]⟩, Value.int IntKind.u8 0, Value.int IntKind.u8 0, Value.int IntKind.i32 0, Value.bool false] 70)
        rw [World.size_alloc, World.size_alloc] at h
        exact h
      have cb : W0.heap[w.heap.size + 3]? = some (cellO (w.heap.size + 1 + 1)) := by
        rw [← hW0]
        have h := heap_alloc_new (((w.alloc (Obj.cells #[Value.int IntKind.i64 no, Value.int IntKind.u8 1, Value.string (S name), Value.slice fa 15 fc, Value.string (S note)] 25)).alloc (Obj.cells #[Value.int IntKind.i64 0, Value.int IntKind.i32 0, Value.int IntKind.i32 0, Value.string ⟨#[]⟩, Value.string ⟨#[]⟩, Value.int IntKind.u8 0, Value.int IntKind.u8 0, Value.int IntKind.i32 0, Value.bool false] 29)).alloc (Obj.cells #[Value.int IntKind.i64 no, Value.int IntKind.i32 0, Value.int IntKind.i32 0, Value.string ⟨#[]⟩, Value.string ⟨#[]⟩, Value.int IntKind.u8 0, Value.int IntKind.u8 0, Value.int IntKind.i32 0, Value.bool false] 70)) (cellO (w.heap.size + 1 + 1))
        rw [World.size_alloc, World.size_alloc, World.size_alloc] at h
        exact h
      rw [hW0]
      simp only [World.size_alloc]
      have e3 : w.heap.size + 1 + 1 + 1 = w.heap.size + 3 := rfl
      clear hW0
      have LB := hide lb
      have RB := hide rb
      have CB := hide cb
      have HB0 := hide hb0
      clear lb rb cb hb0
      go_wp2
      generalize hbb : w.heap.size + 1 + 1 = bb0 at *
      go_loopw [28] (fun v28 wr => ∃ (i : Nat) (r : RowD), v28 = .int .i64 i ∧ i ≤ 7 ∧ RBox wr bb0 r ∧ Hid (foldC fields cellsL { zeroR with line := no } = foldC fields (cellsL.drop i) r) ∧ But bb0 W0 wr) (fun v28 _ => 7 - (RowKit.intOf v28).toNat)
      case atStart => exact ⟨0, _, rfl, by omega, bb, rfl, But.of_below (Below.refl _ _)⟩
      case round =>
        obtain ⟨i, r, rfl, hi, hbx, HFD, hbt⟩ := hrel
        have hbb' : w.heap.size + 2 = bb0 := hbb
        have hgw : Glob wr := ((unhide HG).below (unhide HB0)).but hbt (by have := (unhide HG).size; omega)
        have lbw : wr.heap[w.heap.size]? = some (.cells #[Value.int IntKind.i64 no, Value.int IntKind.u8 1, Value.string (S name), Value.slice fa 15 fc, Value.string (S note)] 25 (0, 0)) := (hbt.block _ (by omega) (by omega)).trans (unhide LB)
        have rbw : RowAt wr (w.heap.size + 1) zeroR := (hbt.block _ (by omega) (by omega)).trans (unhide RB)
        have cbw : wr.heap[w.heap.size + 3]? = some (cellO bb0) := (hbt.block _ (by omega) (by omega)).trans (unhide CB)
        rw [show w.heap.size + 3 = bb0 + 1 by omega] at cbw
        have hBw : Below w.heap.size w wr := hbt.below (unhide HB0) (by omega) (by omega)
        by_cases hlt : i < 7
        · have hlt' : (i : Int) < 7 := by omega
          obtain ⟨⟨a, F⟩, haF⟩ : ∃ x, cellF[i]? = some x := ⟨_, List.getElem?_eq_getElem (by simpa [cellF] using hlt)⟩
          obtain ⟨eF, ha15, HCF⟩ := cellF_at haF
          obtain ⟨k0, k1⟩ := cellO_at haF cbw
          obtain ⟨x, hx⟩ : ∃ x, fields[a]? = some x := ⟨_, List.getElem?_eq_getElem (by rw [unhide HNF]; exact ha15)⟩
          obtain ⟨g, off, rfl, hcx⟩ := ((unhide HT).below hBw) a x hx
          have l3 : wr.cell? ⟨w.heap.size, 3, none⟩ = some (.slice (some ⟨g, off, none⟩) 15 fc) := by simp [World.cell?, lbw]
          have ha15' : (a : Int) < 15 := by omega
          have hfd := fold_drop fields haF r
          have hxs := unhide HS x (List.mem_of_getElem? hx)
          have hgx : fields.getD a [] = x := by rw [List.getD_eq_getElem?_getD, hx]; rfl
          rw [hgx] at hfd
          obtain ⟨cr, ce, hCP⟩ : ∃ cr ce, cellP a x r = (cr, ce) := ⟨_, _, rfl⟩
          rw [hCP] at hfd
          simp only at hfd
          have HCP := hide hCP
          clear hCP
          have hFD := unhide HFD
          obtain ⟨V, hV⟩ : ∃ V, wr.alloc (.cells #[.int .i64 a, Value.func (.func F) #[.pointer (some ⟨bb0, 0, none⟩)] #[]] 75) = V := ⟨_, rfl⟩
          have hVb : Below wr.heap.size wr V := by rw [← hV]; exact (Below.refl _ wr).alloc (Nat.le_refl _) _
          have hVc : V.heap[wr.heap.size]? = some (.cells #[.int .i64 a, Value.func (.func F) #[.pointer (some ⟨bb0, 0, none⟩)] #[]] 75 (0, 0)) := by rw [← hV]; exact heap_alloc_new wr _
          have v0 : V.cell? ⟨wr.heap.size, 0, none⟩ = some (.int .i64 a) := by simp [World.cell?, hVc]
          have v1 : V.cell? ⟨wr.heap.size, 1, none⟩ = some (Value.func (.func F) #[.pointer (some ⟨bb0, 0, none⟩)] #[]) := by simp [World.cell?, hVc]
          have v3 : V.cell? ⟨w.heap.size, 3, none⟩ = some (.slice (some ⟨g, off, none⟩) 15 fc) := (hVb.cell (World.block_lt_of_cell? _ _ l3)).trans l3
          have vx : V.cell? ⟨g, off + a, none⟩ = some (.string (S x)) := (hVb.cell (World.block_lt_of_cell? _ _ hcx)).trans hcx
          have HVB := hide hVb
          have HCC := hide (fun n => HCF bb0 r x (V.drewN n) (hbx.below (below_drewN hVb n)) (hgw.below (below_drewN hVb n)) hxs)
          have HX := hide (⟨hfd, hFD, hbt, rbw, hBw⟩ : _ ∧ _ ∧ _ ∧ _ ∧ _)
          clear hfd hFD hbt rbw lbw cbw hBw HCF hgx hxs hcx l3 hVb hVc haF hx hgw hbx
          go_wp2_with fail
          clear hV k0 k1
          refine MixW.start (by kernel_rfl) ?_
          refine MixW.seg (C := fun w' => ∃ n, w' = V.drewN n) 0 8 2 (by kernel_rfl) ⟨1, rfl⟩ ?_
          simp only [Nat.reduceAdd, List.take_succ_cons, List.take_zero, List.drop_zero]
          repeat (go_big_quiet_step (fail))
          refine wpQuiet_nil ?_
          rintro _ ⟨q, rfl⟩
          refine MixW.loud 1 8 1 _ _ (by decide) (by kernel_rfl) ?_
          simp only [Nat.reduceAdd, List.drop_succ_cons, List.drop_zero, List.take_succ_cons, List.take_zero]
          go_wp2_with fail
          refine (unhide HCC q).mono ?_
          rintro e w5 ⟨rfl, hbx5, hbt5⟩
          rw [unhide HCP] at hbx5 ⊢
          simp only at hbx5 ⊢
          obtain ⟨hfd, hFD, hbt, rbw, hBw⟩ := unhide HX
          have hbt' : But bb0 W0 w5 := hbt.trans ((But.of_below (below_drewN (unhide HVB) q)).trans hbt5)
          have rb5 : RowAt w5 (w.heap.size + 1) zeroR := (hbt'.block _ (by omega) (by omega)).trans (unhide RB)
          have hB5 : Below w.heap.size w w5 := hbt'.below (unhide HB0) (by omega) (by omega)
          go_wp2_with fail
          show wpAny _ _ _ _ 1 _ _ _
          refine MixW.last (C := fun w' => w' = w5) 9 1 (by decide) (by kernel_rfl) (by kernel_rfl) rfl ?_
          simp only [List.drop_succ_cons, List.drop_zero]
          repeat (go_big_quiet_step (fail))
          refine wpQuiet_nil ?_
          intro w6 hw6
          obtain rfl : w5 = w6 := hw6.symm
          simp only [Exit.then]
          have HBX5 := hide hbx5
          have HBT := hide hbt'
          have HB5 := hide hB5
          have RB5 := hide rb5
          clear hbx5 hbt' hB5 hbt hbt5 hBw rbw v0 v1 v3 vx HCC hFD
          by_cases hce : ce = 0
          · subst hce
            rw [if_pos rfl] at hfd
            have HF := hide hfd
            clear hfd rb5
            go_wp2
            go_roundw
            case rel => exact ⟨i + 1, cr, by go_num, by omega, unhide HBX5, (unhide HFD).trans (unhide HF), unhide HBT⟩
            case measure => simp [RowKit.intOf]; omega
          · have hce' : (ce != 0) = true := by simpa using hce
            have hce2 : (ce == 0) = false := by simpa using hce
            rw [if_neg hce] at hfd
            have HF := hide hfd
            clear hfd hce
            have se0 := set_sameAt (j := 0) (v := Value.int IntKind.i64 0) rb5 rfl
            have fe0 := rb5.frozen 0
            have ze0 := rb5.cell (j := 0) (v := Value.int IntKind.i64 0) rfl
            have se1 := set_sameAt (j := 1) (v := Value.int IntKind.i32 0) rb5 rfl
            have fe1 := rb5.frozen 1
            have ze1 := rb5.cell (j := 1) (v := Value.int IntKind.i32 0) rfl
            have se2 := set_sameAt (j := 2) (v := Value.int IntKind.i32 0) rb5 rfl
            have fe2 := rb5.frozen 2
            have ze2 := rb5.cell (j := 2) (v := Value.int IntKind.i32 0) rfl
            have se3 := set_sameAt (j := 3) (v := Value.string ⟨#[]⟩) rb5 rfl
            have fe3 := rb5.frozen 3
            have ze3 := rb5.cell (j := 3) (v := Value.string ⟨#[]⟩) rfl
            have se4 := set_sameAt (j := 4) (v := Value.string ⟨#[]⟩) rb5 rfl
            have fe4 := rb5.frozen 4
            have ze4 := rb5.cell (j := 4) (v := Value.string ⟨#[]⟩) rfl
            have se5 := set_sameAt (j := 5) (v := Value.int IntKind.u8 0) rb5 rfl
            have fe5 := rb5.frozen 5
            have ze5 := rb5.cell (j := 5) (v := Value.int IntKind.u8 0) rfl
            have se6 := set_sameAt (j := 6) (v := Value.int IntKind.u8 0) rb5 rfl
            have fe6 := rb5.frozen 6
            have ze6 := rb5.cell (j := 6) (v := Value.int IntKind.u8 0) rfl
            have se7 := set_sameAt (j := 7) (v := Value.int IntKind.i32 0) rb5 rfl
            have fe7 := rb5.frozen 7
            have ze7 := rb5.cell (j := 7) (v := Value.int IntKind.i32 0) rfl
            have se8 := set_sameAt (j := 8) (v := Value.bool false) rb5 rfl
            have fe8 := rb5.frozen 8
            have ze8 := rb5.cell (j := 8) (v := Value.bool false) rfl
            clear rb5
            go_wp2
            refine bodyPost_ret (scan_results (r := zeroR) rfl rfl (unhide RB5)) rfl ?_
            rw [unhide HSC, unhide HFD, unhide HF]
            exact ⟨rfl, unhide HB5⟩
        · obtain rfl : i = 7 := by omega
          have hend : foldC fields (cellsL.drop 7) r = (r, 0) := rfl
          have hRr : R = (r, 0) := (unhide HSC).trans ((unhide HFD).trans hend)
          have HRR := hide hRr
          have hrb : Below w.heap.size w wr := hBw
          have rc0 := hbx.cell (j := 0) rfl
          have tc0 := rbw.cell (j := 0) rfl
          have tf0 := rbw.frozen 0
          have rc1 := hbx.cell (j := 1) rfl
          have tc1 := rbw.cell (j := 1) rfl
          have tf1 := rbw.frozen 1
          have rc2 := hbx.cell (j := 2) rfl
          have tc2 := rbw.cell (j := 2) rfl
          have tf2 := rbw.frozen 2
          have rc3 := hbx.cell (j := 3) rfl
          have tc3 := rbw.cell (j := 3) rfl
          have tf3 := rbw.frozen 3
          have rc4 := hbx.cell (j := 4) rfl
          have tc4 := rbw.cell (j := 4) rfl
          have tf4 := rbw.frozen 4
          have rc5 := hbx.cell (j := 5) rfl
          have tc5 := rbw.cell (j := 5) rfl
          have tf5 := rbw.frozen 5
          have rc6 := hbx.cell (j := 6) rfl
          have tc6 := rbw.cell (j := 6) rfl
          have tf6 := rbw.frozen 6
          have rc7 := hbx.cell (j := 7) rfl
          have tc7 := rbw.cell (j := 7) rfl
          have tf7 := rbw.frozen 7
          have rc8 := hbx.cell (j := 8) rfl
          have tc8 := rbw.cell (j := 8) rfl
          have tf8 := rbw.frozen 8
          have HBX := hide hbx
          have HRB := hide rbw
          have HBW := hide hBw
          clear hbx rbw hBw hrb hRr hend cbw lbw hbt hgw
          go_wp2
          have rbw := unhide HRB
          have hBw := unhide HBW
          refine bodyPost_ret (scan_results (r := r) rfl rfl (((((((((rbw.set (r' := { zeroR with line := r.line }) 0 _ rfl).set (r' := { zeroR with line := r.line, first := r.first }) 1 _ rfl).set (r' := { zeroR with line := r.line, first := r.first, last := r.last }) 2 _ rfl).set (r' := { zeroR with line := r.line, first := r.first, last := r.last, name := r.name }) 3 _ rfl).set (r' := { zeroR with line := r.line, first := r.first, last := r.last, name := r.name, cat := r.cat }) 4 _ rfl).set (r' := { zeroR with line := r.line, first := r.first, last := r.last, name := r.name, cat := r.cat, comb := r.comb }) 5 _ rfl).set (r' := { zeroR with line := r.line, first := r.first, last := r.last, name := r.name, cat := r.cat, comb := r.comb, cls := r.cls }) 6 _ rfl).set (r' := { zeroR with line := r.line, first := r.first, last := r.last, name := r.name, cat := r.cat, comb := r.comb, cls := r.cls, twin := r.twin }) 7 _ rfl).set (r' := { zeroR with line := r.line, first := r.first, last := r.last, name := r.name, cat := r.cat, comb := r.comb, cls := r.cls, twin := r.twin, mir := r.mir }) 8 _ rfl)) rfl ?_
          rw [unhide HRR]
          exact ⟨rfl, (((((((((hBw.setCell (by simp) _).setCell (by simp) _).setCell (by simp) _).setCell (by simp) _).setCell (by simp) _).setCell (by simp) _).setCell (by simp) _).setCell (by simp) _).setCell (by simp) _)⟩
    · have hl' : ((fields.length : Int) == 15) = false := by simp; omega
      have hl2 : ((fields.length : Int) != 15) = true := by simp; omega
      have HSC : Hid (R = (zeroR, 60)) := by
        show _ = _
        rw [← unhide HR]; simp [scanR, hl]
      clear hk2 hl
      go_enter Tryz.func14, Tryz.ntmps14
      go_wp2
      refine bodyPost_ret (scan_results (r := zeroR) rfl rfl (rowAt_new w _ zeroR)) rfl ?_
      rw [unhide HSC]
      exact ⟨rfl, ((Below.refl _ w).alloc (Nat.le_refl _) _).alloc (by simp) _⟩
  · have hk1' : (kind == 1) = false := by simpa using hk1
    have hk1'' : (kind != 1) = true := by simpa using hk1
    have HSC : Hid (R = (zeroR, 60)) := by
      show _ = _
      rw [← unhide HR]; simp [scanR, hk1, hk2]
    clear hk2 hk1
    go_enter Tryz.func14, Tryz.ntmps14
    go_wp2
    refine bodyPost_ret (scan_results (r := zeroR) rfl rfl (rowAt_new w _ zeroR)) rfl ?_
    rw [unhide HSC]
    exact ⟨rfl, ((Below.refl _ w).alloc (Nat.le_refl _) _).alloc (by simp) _⟩
end Go.Proofs.YthjnkagepooeiaaGreatDoor
