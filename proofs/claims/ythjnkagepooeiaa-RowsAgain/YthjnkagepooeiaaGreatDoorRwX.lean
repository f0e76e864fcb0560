/-
  The walk over the lines: a line is scanned; whether a Last says what its First says; a line is taken.
-/
import Derived.Test.YthjnkagepooeiaaGreatDoorRwW
namespace Go.Proofs.YthjnkagepooeiaaGreatDoor
open Go.RowKit Go.PlainAid Go.Lib Go.PHexM Go.Shelf
set_option linter.unusedVariables false
set_option linter.unusedSimpArgs false

theorem cell_name (N a : Nat) (f : List UInt8) (r : RowD) (hf : f.length ≤ N) (hr : r.name.length ≤ N) : (cellP a f r).1.name.length ≤ N := by
  unfold cellP
  split
  · split <;> exact hr
  · split
    · split
      · exact hf
      · exact hr
    · split
      · split <;> exact hr
      · split
        · split <;> exact hr
        · split
          · split <;> exact hr
          · split
            · split <;> exact hr
            · split <;> exact hr
theorem fold_name (N : Nat) (fs : List (List UInt8)) (hf : ∀ x ∈ fs, x.length ≤ N) : ∀ (l : List Nat) (r : RowD), r.name.length ≤ N → (foldC fs l r).1.name.length ≤ N := by
  intro l
  induction l with
  | nil => intro r hr; exact hr
  | cons a l ih =>
    intro r hr
    unfold foldC
    split
    · refine ih _ (cell_name N a _ r ?_ hr)
      rw [List.getD_eq_getElem?_getD]
      cases h : fs[a]? with
      | none => simp
      | some x => exact hf x (List.mem_of_getElem? h)
    · simp [zeroR]
theorem scan_name (d : LineD) (N : Nat) (hf : ∀ x ∈ d.fields, x.length ≤ N) : (scanR d).1.name.length ≤ N := by
  unfold scanR
  split
  · simp [zeroR]
  · split
    · simp [zeroR]
    · exact fold_name N d.fields hf _ _ (by simp [zeroR])

set_option maxRecDepth 100000 in
set_option maxHeartbeats 4000000 in
theorem wscan_any (wb eb : Nat) (d : LineD) (fa : Option Addr) (fc : Nat) (w : World) (hg : Glob w) (hT : TxG w fa d.fields) (hs : ∀ x ∈ d.fields, x.length ≤ 1073741824) (he : Blk w eb (entC d (.slice fa d.fields.length fc) zeroR 0) 133) :
    Calls Tryz.prog 69 #[.pointer (some ⟨wb, 0, none⟩), .pointer (some ⟨eb, 0, none⟩)] w fun e w' => e = .returned (.int .i64 (scanR d).2) ∧ Blk w' eb (entC d (.slice fa d.fields.length fc) (plainR d) (whichR d)) 133 ∧ But eb w w' := by
  have HSC := hide (scan6_any d fa fc w hg hT hs)
  have hnl := scan_name d 1073741824 hs
  obtain ⟨ρ, k, hρ⟩ : ∃ ρ k, scanR d = (ρ, k) := ⟨_, _, rfl⟩
  rw [hρ] at HSC hnl
  have HH := hide (fun V => halfName_any ρ.name V hnl)
  obtain ⟨hn, hk, hhn⟩ : ∃ hn hk, halfP ρ.name = (hn, hk) := ⟨_, _, rfl⟩
  rw [hhn] at HH
  have hpl : plainR d = { ρ with name := hn } := by unfold plainR; rw [hρ]; simp only; rw [hhn]
  have hwh : whichR d = hk := by unfold whichR; rw [hρ]; simp only; rw [hhn]
  rw [hpl, hwh, hρ]
  simp only at HSC HH ⊢
  have HE := hide he
  have ce0 := he.cell (j := 0) rfl
  have ce1 := he.cell (j := 1) rfl
  have ce2 := he.cell (j := 2) rfl
  have ce3 := he.cell (j := 3) rfl
  have ce4 := he.cell (j := 4) rfl
  clear he hg hT hs hnl hρ hhn hpl hwh
  obtain ⟨dno, dk, dn, df, dt⟩ := d
  simp only at HSC HE ce0 ce1 ce2 ce3 ce4 ⊢
  generalize df.length = nf at *
  go_enter Tryz.func69, Tryz.ntmps69
  go_wp2_with fail
  refine (unhide HSC).mono ?_
  rintro e w1 ⟨rfl, hb1⟩
  go_wp2_with fail
  obtain ⟨V, hV⟩ : ∃ V, w1.alloc (.cells (rowC ρ).toArray 29) = V := ⟨_, rfl⟩
  have hVb : Below w1.heap.size w1 V := by rw [← hV]; exact (Below.refl _ w1).alloc (Nat.le_refl _) _
  have bR : Blk V w1.heap.size (rowC ρ) 29 := by rw [← hV]; exact Blk.new w1 _ _
  have bE := ((unhide HE).below hb1).below hVb
  have hBV := hb1.trans (hVb.mono hb1.size)
  refine Eq.subst (motive := fun X => Calls _ _ _ X _) hV.symm ?_
  refine (unhide HH V).mono ?_
  rintro e V' ⟨rfl, rfl⟩
  clear hV
  have hne : w1.heap.size ≠ eb := by have := ((unhide HE).below hb1).lt; omega
  have hne' : eb ≠ w1.heap.size := fun e => hne e.symm
  have br0 := bR.cell (j := 0) rfl
  have fr0 := bR.frozen 0
  have br1 := bR.cell (j := 1) rfl
  have fr1 := bR.frozen 1
  have br2 := bR.cell (j := 2) rfl
  have fr2 := bR.frozen 2
  have br3 := bR.cell (j := 3) rfl
  have fr3 := bR.frozen 3
  have br4 := bR.cell (j := 4) rfl
  have fr4 := bR.frozen 4
  have br5 := bR.cell (j := 5) rfl
  have fr5 := bR.frozen 5
  have br6 := bR.cell (j := 6) rfl
  have fr6 := bR.frozen 6
  have br7 := bR.cell (j := 7) rfl
  have fr7 := bR.frozen 7
  have br8 := bR.cell (j := 8) rfl
  have fr8 := bR.frozen 8
  have be5 := bE.cell (j := 5) rfl
  have fe5 := bE.frozen 5
  have be6 := bE.cell (j := 6) rfl
  have fe6 := bE.frozen 6
  have be7 := bE.cell (j := 7) rfl
  have fe7 := bE.frozen 7
  have be8 := bE.cell (j := 8) rfl
  have fe8 := bE.frozen 8
  have be9 := bE.cell (j := 9) rfl
  have fe9 := bE.frozen 9
  have be10 := bE.cell (j := 10) rfl
  have fe10 := bE.frozen 10
  have be11 := bE.cell (j := 11) rfl
  have fe11 := bE.frozen 11
  have be12 := bE.cell (j := 12) rfl
  have fe12 := bE.frozen 12
  have be13 := bE.cell (j := 13) rfl
  have fe13 := bE.frozen 13
  have be14 := bE.cell (j := 14) rfl
  have fe14 := bE.frozen 14
  have BR := hide bR
  have BE := hide bE
  have HBV := hide hBV
  have hsz := hb1.size
  clear bR bE hBV hVb hb1
  generalize w1.heap.size = rb at *
  go_wp2
  go_ret
  have bR := unhide BR
  have bE := unhide BE
  refine ⟨rfl, ?_, ?_⟩
  · exact (((((((((((bE.other hne' _ _).set 14 _ rfl).set 5 _ rfl).set 6 _ rfl).set 7 _ rfl).set 8 _ rfl).set 9 _ rfl).set 10 _ rfl).set 11 _ rfl).set 12 _ rfl).set 13 _ rfl)
  · exact (((((((((((But.of_below ((unhide HBV).setCell (by show w.heap.size ≤ rb; exact hsz) _)).trans (But.set _)).trans (But.set _)).trans (But.set _)).trans (But.set _)).trans (But.set _)).trans (But.set _)).trans (But.set _)).trans (But.set _)).trans (But.set _)).trans (But.set _))

set_option maxRecDepth 100000 in
theorem take_results {tmps : Array Value} {w : World} {b : Nat} {r : RowD} {k : Bool} (h2 : tmps.getD 4 undef = .pointer (some ⟨b, 0, none⟩)) (h3 : tmps.getD 5 undef = .bool k) (h : RowAt w b r) : (results Tryz.f73 tmps).run Tryz.prog w = .ok (.tuple #[rowV r, .bool k]) w := by
  have c0 := h.cell (j := 0) rfl
  have c1 := h.cell (j := 1) rfl
  have c2 := h.cell (j := 2) rfl
  have c3 := h.cell (j := 3) rfl
  have c4 := h.cell (j := 4) rfl
  have c5 := h.cell (j := 5) rfl
  have c6 := h.cell (j := 6) rfl
  have c7 := h.cell (j := 7) rfl
  have c8 := h.cell (j := 8) rfl
  have h2' : tmps[4]?.getD undef = .pointer (some ⟨b, 0, none⟩) := by simpa using h2
  have h3' : tmps[5]?.getD undef = .bool k := by simpa using h3
  simp [results, Tryz.results73, go_sem, h2', h3', c0, c1, c2, c3, c4, c5, c6, c7, c8]

theorem rowAt_two (X : World) (o : Obj) (r : RowD) (n : Nat) (hn : X.heap.size = n) : RowAt ((X.alloc o).alloc (.cells (rowC r).toArray 29)) (n + 1) r := by
  rw [← hn]; exact rowAt_new X o r
theorem rowAt_three (X : World) (o o' : Obj) (r : RowD) (n : Nat) (hn : X.heap.size = n) : RowAt (((X.alloc o).alloc (.cells (rowC r).toArray 29)).alloc o') (n + 1) r := by
  rw [← hn]; exact (Below.heap_alloc _ _ _ (by simp)).trans (rowAt_new X o r)

set_option maxRecDepth 100000 in
set_option maxHeartbeats 4000000 in
theorem take_first (wb : Nat) (a : Int) (d d' : LineD) (fv fv' : Value) (r r' : RowD) (k' : Int) (w : World) (hw : Blk w wb (walkC a d' fv' r' k') 135) (hfv : ∃ x n c, fv = .slice x n c) (hfv' : ∃ x n c, fv' = .slice x n c) :
    Calls Tryz.prog 73 #[.pointer (some ⟨wb, 0, none⟩), .agg (entC d fv r 1).toArray] w fun e w' => e = .returned (.tuple #[rowV zeroR, .bool false]) ∧ Blk w' wb (walkC r.first d fv r 1) 135 ∧ But wb w w' := by
  obtain ⟨x, n, c, rfl⟩ := hfv
  obtain ⟨x', n', c', rfl⟩ := hfv'
  have bw0 := hw.cell (j := 0) rfl
  have fw0 := hw.frozen 0
  have bw1 := hw.cell (j := 1) rfl
  have fw1 := hw.frozen 1
  have bw2 := hw.cell (j := 2) rfl
  have fw2 := hw.frozen 2
  have bw3 := hw.cell (j := 3) rfl
  have fw3 := hw.frozen 3
  have bw4 := hw.cell (j := 4) rfl
  have fw4 := hw.frozen 4
  have bw5 := hw.cell (j := 5) rfl
  have fw5 := hw.frozen 5
  have bw6 := hw.cell (j := 6) rfl
  have fw6 := hw.frozen 6
  have bw7 := hw.cell (j := 7) rfl
  have fw7 := hw.frozen 7
  have bw8 := hw.cell (j := 8) rfl
  have fw8 := hw.frozen 8
  have bw9 := hw.cell (j := 9) rfl
  have fw9 := hw.frozen 9
  have bw10 := hw.cell (j := 10) rfl
  have fw10 := hw.frozen 10
  have bw11 := hw.cell (j := 11) rfl
  have fw11 := hw.frozen 11
  have bw12 := hw.cell (j := 12) rfl
  have fw12 := hw.frozen 12
  have bw13 := hw.cell (j := 13) rfl
  have fw13 := hw.frozen 13
  have bw14 := hw.cell (j := 14) rfl
  have fw14 := hw.frozen 14
  have bw15 := hw.cell (j := 15) rfl
  have fw15 := hw.frozen 15
  have HW := hide hw
  have hlt := hw.lt
  clear hw
  go_enter Tryz.func73, Tryz.ntmps73
  go_wp2
  have hw := unhide HW
  refine bodyPost_ret (take_results (r := zeroR) rfl rfl (rowAt_two _ _ zeroR _ (by simp))) rfl ⟨rfl, ?_, ?_⟩
  · exact (((((((((((((((((hw.set 0 _ rfl).set 1 _ rfl).set 2 _ rfl).set 3 _ rfl).set 4 _ rfl).set 5 _ rfl).set 6 _ rfl).set 7 _ rfl).set 8 _ rfl).set 9 _ rfl).set 10 _ rfl).set 11 _ rfl).set 12 _ rfl).set 13 _ rfl).set 14 _ rfl).set 15 _ rfl).alloc _).alloc _
  · exact (((((((((((((((((But.set _).trans (But.set _)).trans (But.set _)).trans (But.set _)).trans (But.set _)).trans (But.set _)).trans (But.set _)).trans (But.set _)).trans (But.set _)).trans (But.set _)).trans (But.set _)).trans (But.set _)).trans (But.set _)).trans (But.set _)).trans (But.set _)).trans (But.set _)).trans (But.alloc _ _)).trans (But.alloc _ _)

set_option maxRecDepth 100000 in
set_option maxHeartbeats 4000000 in
theorem take_last (wb : Nat) (a : Int) (d d' : LineD) (fv fv' : Value) (r r' : RowD) (k' : Int) (w : World) (hw : Blk w wb (walkC a d' fv' r' k') 135) (hfv : ∃ x n c, fv = .slice x n c) (hfv' : ∃ x n c, fv' = .slice x n c) :
    Calls Tryz.prog 73 #[.pointer (some ⟨wb, 0, none⟩), .agg (entC d fv r 2).toArray] w fun e w' => e = .returned (.tuple #[rowV { r' with last := r.last }, .bool true]) ∧ Blk w' wb (walkC r.first zeroD (.slice none 0 0) zeroR 0) 135 ∧ But wb w w' := by
  obtain ⟨x, n, c, rfl⟩ := hfv
  obtain ⟨x', n', c', rfl⟩ := hfv'
  have bw0 := hw.cell (j := 0) rfl
  have fw0 := hw.frozen 0
  have bw1 := hw.cell (j := 1) rfl
  have fw1 := hw.frozen 1
  have bw2 := hw.cell (j := 2) rfl
  have fw2 := hw.frozen 2
  have bw3 := hw.cell (j := 3) rfl
  have fw3 := hw.frozen 3
  have bw4 := hw.cell (j := 4) rfl
  have fw4 := hw.frozen 4
  have bw5 := hw.cell (j := 5) rfl
  have fw5 := hw.frozen 5
  have bw6 := hw.cell (j := 6) rfl
  have fw6 := hw.frozen 6
  have bw7 := hw.cell (j := 7) rfl
  have fw7 := hw.frozen 7
  have bw8 := hw.cell (j := 8) rfl
  have fw8 := hw.frozen 8
  have bw9 := hw.cell (j := 9) rfl
  have fw9 := hw.frozen 9
  have bw10 := hw.cell (j := 10) rfl
  have fw10 := hw.frozen 10
  have bw11 := hw.cell (j := 11) rfl
  have fw11 := hw.frozen 11
  have bw12 := hw.cell (j := 12) rfl
  have fw12 := hw.frozen 12
  have bw13 := hw.cell (j := 13) rfl
  have fw13 := hw.frozen 13
  have bw14 := hw.cell (j := 14) rfl
  have fw14 := hw.frozen 14
  have bw15 := hw.cell (j := 15) rfl
  have fw15 := hw.frozen 15
  have HW := hide hw
  have hlt := hw.lt
  have hlt1 : wb < w.heap.size + 1 := by omega
  have hlt2 : wb < w.heap.size + 1 + 1 := by omega
  have hlt3 : wb < w.heap.size + 1 + 1 + 1 := by omega
  clear hw
  go_enter Tryz.func73, Tryz.ntmps73
  go_wp2
  have hw := unhide HW
  refine bodyPost_ret (take_results (r := { r' with last := r.last }) rfl rfl (rowAt_three _ _ _ { r' with last := r.last } _ (by simp))) rfl ⟨rfl, ?_, ?_⟩
  · exact ((((((((((((((((((hw.set 0 _ rfl).set 1 _ rfl).set 2 _ rfl).set 3 _ rfl).set 4 _ rfl).set 5 _ rfl).set 6 _ rfl).set 7 _ rfl).set 8 _ rfl).set 9 _ rfl).set 10 _ rfl).set 11 _ rfl).set 12 _ rfl).set 13 _ rfl).set 14 _ rfl).set 15 _ rfl).alloc _).alloc _).alloc _
  · exact ((((((((((((((((((But.set _).trans (But.set _)).trans (But.set _)).trans (But.set _)).trans (But.set _)).trans (But.set _)).trans (But.set _)).trans (But.set _)).trans (But.set _)).trans (But.set _)).trans (But.set _)).trans (But.set _)).trans (But.set _)).trans (But.set _)).trans (But.set _)).trans (But.set _)).trans (But.alloc _ _)).trans (But.alloc _ _)).trans (But.alloc _ _)

set_option maxRecDepth 100000 in
set_option maxHeartbeats 4000000 in
theorem take_row (wb : Nat) (a : Int) (d d' : LineD) (fv fv' : Value) (r r' : RowD) (k k' : Int) (w : World) (hw : Blk w wb (walkC a d' fv' r' k') 135) (hfv : ∃ x n c, fv = .slice x n c) (hfv' : ∃ x n c, fv' = .slice x n c) (h1 : (k == 1) = false) (h2 : (k == 2) = false) :
    Calls Tryz.prog 73 #[.pointer (some ⟨wb, 0, none⟩), .agg (entC d fv r k).toArray] w fun e w' => e = .returned (.tuple #[rowV r, .bool true]) ∧ Blk w' wb (walkC r.first d' fv' r' k') 135 ∧ But wb w w' := by
  obtain ⟨x, n, c, rfl⟩ := hfv
  obtain ⟨x', n', c', rfl⟩ := hfv'
  have bw0 := hw.cell (j := 0) rfl
  have fw0 := hw.frozen 0
  have bw1 := hw.cell (j := 1) rfl
  have fw1 := hw.frozen 1
  have bw2 := hw.cell (j := 2) rfl
  have fw2 := hw.frozen 2
  have bw3 := hw.cell (j := 3) rfl
  have fw3 := hw.frozen 3
  have bw4 := hw.cell (j := 4) rfl
  have fw4 := hw.frozen 4
  have bw5 := hw.cell (j := 5) rfl
  have fw5 := hw.frozen 5
  have bw6 := hw.cell (j := 6) rfl
  have fw6 := hw.frozen 6
  have bw7 := hw.cell (j := 7) rfl
  have fw7 := hw.frozen 7
  have bw8 := hw.cell (j := 8) rfl
  have fw8 := hw.frozen 8
  have bw9 := hw.cell (j := 9) rfl
  have fw9 := hw.frozen 9
  have bw10 := hw.cell (j := 10) rfl
  have fw10 := hw.frozen 10
  have bw11 := hw.cell (j := 11) rfl
  have fw11 := hw.frozen 11
  have bw12 := hw.cell (j := 12) rfl
  have fw12 := hw.frozen 12
  have bw13 := hw.cell (j := 13) rfl
  have fw13 := hw.frozen 13
  have bw14 := hw.cell (j := 14) rfl
  have fw14 := hw.frozen 14
  have bw15 := hw.cell (j := 15) rfl
  have fw15 := hw.frozen 15
  have HW := hide hw
  have hlt := hw.lt
  clear hw
  go_enter Tryz.func73, Tryz.ntmps73
  go_wp2
  have hw := unhide HW
  refine bodyPost_ret (take_results (r := r) rfl rfl (rowAt_two _ _ r _ (by simp))) rfl ⟨rfl, ?_, ?_⟩
  · exact ((hw.set 0 _ rfl).alloc _).alloc _
  · exact ((But.set _).trans (But.alloc _ _)).trans (But.alloc _ _)
end Go.Proofs.YthjnkagepooeiaaGreatDoor
