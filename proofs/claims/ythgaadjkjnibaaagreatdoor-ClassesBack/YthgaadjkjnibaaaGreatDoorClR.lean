/-
  What the lines of each kind do to a table.
-/
import Derived.Test.YthgaadjkjnibaaaGreatDoorClT
import Derived.Test.YthgaadjkjnibaaaGreatDoorMx
namespace Go.Proofs.YthgaadjkjnibaaaGreatDoor
open Go.RowKit Go.PlainAid Go.Lib Go.PHexM Go.Shelf Go.PRow
set_option linter.unusedVariables false
set_option linter.unusedSimpArgs false

/-- how a line's step ends -/
def StepEnd (B bt bN bC : Nat) (w : World) (r : TabD × Int) (e : Ending) (w' : World) : Prop :=
  e = .returned (.int .i64 r.2) ∧ (∃ vN vC vM, TabP w' B bt bN bC vN vC vM r.1) ∧ Below B w w' ∧ Keep7 w w'
theorem StepEnd.no {B bt bN bC : Nat} {w w' : World} {vN vC vM : Value} {t : TabD} (h : TabP w B bt bN bC vN vC vM t) (c : Int) (hB : B ≤ w.heap.size) (hb : Below w.heap.size w w') : StepEnd B bt bN bC w (t, c) (.returned (.int .i64 c)) w' :=
  ⟨rfl, ⟨vN, vC, vM, h.below hb⟩, hb.mono hB, keep_below hb⟩

theorem takeBlank_any (d : LineD) (v : Value) (B bt bN bC : Nat) (vN vC vM : Value) (t : TabD) (w : World) (h : TabP w B bt bN bC vN vC vM t) (hB : B ≤ w.heap.size) :
    Calls Tryz.prog 33 #[.pointer (some ⟨bt, 0, none⟩), lineV d v] w (StepEnd B bt bN bC w (t, 0)) := by
  refine Calls.mono (R := fun e w' => e = .returned (.int .i64 0) ∧ Below w.heap.size w w') ?_ (by rintro e w' ⟨rfl, hb⟩; exact StepEnd.no h 0 hB hb)
  go_enter Tryz.func33, Tryz.ntmps33
  go_wp2
  go_ret
  exact ⟨rfl, by go_grown⟩
theorem takeOrder_any (d : LineD) (v : Value) (B bt bN bC : Nat) (vN vC vM : Value) (t : TabD) (w : World) (h : TabP w B bt bN bC vN vC vM t) (hB : B ≤ w.heap.size) :
    Calls Tryz.prog 35 #[.pointer (some ⟨bt, 0, none⟩), lineV d v] w (StepEnd B bt bN bC w (t, 33)) := by
  refine Calls.mono (R := fun e w' => e = .returned (.int .i64 33) ∧ Below w.heap.size w w') ?_ (by rintro e w' ⟨rfl, hb⟩; exact StepEnd.no h 33 hB hb)
  go_enter Tryz.func35, Tryz.ntmps35
  go_wp2
  go_ret
  exact ⟨rfl, by go_grown⟩

set_option maxRecDepth 100000 in
set_option maxHeartbeats 2000000 in
theorem takeNaming_any (d : LineD) (fa : Option Addr) (fc : Nat) (B bt bN bC : Nat) (vN vC vM : Value) (t : TabD) (w : World) (h : TabP w B bt bN bC vN vC vM t) (hB : B ≤ w.heap.size) (hm : MaxAt w) (hT : TxT w fa d.fields) (hs : ∀ x ∈ d.fields, x.length ≤ 1073741824) :
    Calls Tryz.prog 34 #[.pointer (some ⟨bt, 0, none⟩), lineV d (.slice fa d.fields.length fc)] w (StepEnd B bt bN bC w (nameT t d (scanT d 70))) := by
  obtain ⟨W0, hW0⟩ : ∃ W0, w.alloc (.cells #[.int .i64 d.no, .int .u8 d.kind, .string (S d.name), .slice fa d.fields.length fc, .string (S d.note)] 53) = W0 := ⟨_, rfl⟩
  have hB0 : Below w.heap.size w W0 := by rw [← hW0]; go_grown
  have bL : W0.heap[w.heap.size]? = some (.cells #[.int .i64 d.no, .int .u8 d.kind, .string (S d.name), .slice fa d.fields.length fc, .string (S d.note)] 53 (0, 0)) := by rw [← hW0]; exact heap_alloc_new w _
  have HSC := hide (scan7_any d 70 fa fc W0 (hm.below hB0) (hT.below hB0) hs)
  have hmay : (scanT d 70).2.2.2 = 0 → mayB (scanT d 70).1 (scanT d 70).2.1 = true := scanT_may d 70 (by decide)
  generalize scanT d 70 = sc at *
  obtain ⟨lo, hi, c, er⟩ := sc
  simp only at hmay
  obtain ⟨Q, hQ⟩ : ∃ Q, StepEnd B bt bN bC w (nameT t d (lo, hi, c, er)) = Q := ⟨_, rfl⟩
  rw [hQ]
  have HQ := hide hQ
  clear hQ
  have c0 : W0.cell? ⟨w.heap.size, 0, none⟩ = some (.int .i64 d.no) := cellH bL rfl
  have c1 : W0.cell? ⟨w.heap.size, 1, none⟩ = some (.int .u8 d.kind) := cellH bL rfl
  have c2 : W0.cell? ⟨w.heap.size, 2, none⟩ = some (.string (S d.name)) := cellH bL rfl
  have c3 : W0.cell? ⟨w.heap.size, 3, none⟩ = some (.slice fa d.fields.length fc) := cellH bL rfl
  have c4 : W0.cell? ⟨w.heap.size, 4, none⟩ = some (.string (S d.note)) := cellH bL rfl
  have HB0 := hide hB0
  have HBL := hide bL
  have HT := hide h
  clear hT hs hm bL hB0 h
  by_cases h0 : er = 0
  · subst h0
    have hm1 := hmay rfl
    clear hmay
    go_enter Tryz.func34, Tryz.ntmps34
    go_wp2_with fail
    refine (unhide HSC).mono ?_
    rintro e w1 ⟨rfl, hb1⟩
    clear c0 c1 c2 c3 c4 hW0
    obtain ⟨W2, hW2⟩ : ∃ W2, w1.alloc (.cells #[.int .i32 lo, .int .i32 hi] 32) = W2 := ⟨_, rfl⟩
    have hb2 : Below W0.heap.size W0 W2 := by rw [← hW2]; exact hb1.alloc hb1.size _
    have hx2 : W2.heap[w1.heap.size]? = some (.cells #[.int .i32 lo, .int .i32 hi] 32 (0, 0)) := by rw [← hW2]; exact heap_alloc_new w1 _
    have hL2 := (hb2.block _ (Array.getElem?_eq_some_iff.1 (unhide HBL)).1).trans (unhide HBL)
    have hbw2 : Below w.heap.size w W2 := (unhide HB0).trans (hb2.mono (unhide HB0).size)
    have hT2 := (unhide HT).below hbw2
    have y0 : W2.cell? ⟨w1.heap.size, 0, none⟩ = some (.int .i32 lo) := cellH hx2 rfl
    have y1 : W2.cell? ⟨w1.heap.size, 1, none⟩ = some (.int .i32 hi) := cellH hx2 rfl
    have z0 : W2.cell? ⟨w.heap.size, 0, none⟩ = some (.int .i64 d.no) := cellH hL2 rfl
    have t0 : W2.cell? ⟨bt, 0, none⟩ = some (.pointer (some ⟨bN, 0, none⟩)) := cellH hT2.tab rfl
    have HBW2 := hide hbw2
    have HT2 := hide hT2
    have HPUT := hide (fun n => VN.put_may bN vN B t.ns (unhide HT).ok.1 lo hi hm1 (c, d.no) (W2.drewN n) (hT2.mN.below (below_drewN (Below.refl _ W2) n)) (by have := hbw2.size; show B ≤ W2.heap.size; omega) (hT2.rN.below (below_drewN (Below.refl _ W2) n)))
    clear hb2 hx2 hL2 hbw2 hT2 hb1
    go_wp2
    refine MixW.start (by kernel_rfl) ?_
    refine MixW.seg (C := fun w' => ∃ n, w' = W2.drewN n) 0 9 2 (by kernel_rfl) ⟨1, rfl⟩ ?_
    simp only [Nat.reduceAdd, List.take_succ_cons, List.take_zero, List.drop_zero]
    repeat (go_big_quiet_step (fail))
    refine wpQuiet_nil ?_
    rintro _ ⟨q, rfl⟩
    refine MixW.loud 1 9 1 _ _ (by decide) (by kernel_rfl) ?_
    simp only [Nat.reduceAdd, List.drop_succ_cons, List.drop_zero, List.take_succ_cons, List.take_zero]
    go_wp2_with fail
    refine (unhide HPUT q).mono ?_
    intro e w5 hE
    have HEND : Hid (∃ k : Int, e = .returned (.int .i64 k) ∧ Q (.returned (.int .i64 k)) w5) := by
      show ∃ k, _ ∧ _
      rw [← unhide HQ]
      unfold VN.PutEnd VN.meetsP at hE
      have hsz := (unhide HBW2).size
      have hBd : Below W2.heap.size W2 (W2.drewN q) := below_drewN (Below.refl _ W2) q
      by_cases hmt : frI t.ns lo < upI t.ns hi
      · rw [if_pos (by simpa using hmt)] at hE
        refine ⟨42, hE.1, ?_⟩
        have e1 : nameT t d (lo, hi, c, 0) = (t, 42) := by
          unfold nameT
          rw [if_neg (by simp), if_pos hmt]
        rw [e1]
        have hb5 : Below W2.heap.size (W2.drewN q) w5 := hE.2
        exact StepEnd.no (unhide HT) 42 hB ((unhide HBW2).trans ((hBd.trans hb5).mono hsz))
      · rw [if_neg (by simpa using hmt)] at hE
        obtain ⟨he, v', hr', hm'⟩ := hE
        refine ⟨0, he, ?_⟩
        have e1 : nameT t d (lo, hi, c, 0) = ({ t with ns := repP t.ns lo hi [⟨lo, hi, (c, d.no)⟩] }, 0) := by
          unfold nameT
          rw [if_neg (by simp), if_neg hmt]
        rw [e1]
        have hmm := mayB_iff.1 hm1
        obtain ⟨h1, h2, h3⟩ := (((unhide HT2).below hBd).put hr' hm' (rep_ok (unhide HT).ok.1 hmm.1 hmm.2.1 hmm.2.2 (.inr ⟨_, rfl⟩)) (by show B ≤ W2.heap.size; omega))
        have hbq := (unhide HBW2).trans (hBd.mono hsz)
        exact ⟨rfl, ⟨_, _, _, h1⟩, (hbq.mono hB).trans h2, (keep_below hbq).trans h3⟩
    clear hE
    obtain ⟨k, rfl, hk⟩ := unhide HEND
    clear HEND
    go_wp2_with fail
    show wpAny _ _ _ _ 1 _ _ _
    refine MixW.last (C := fun w' => w' = w5) 10 1 (by decide) (by kernel_rfl) (by kernel_rfl) rfl ?_
    simp only [List.drop_succ_cons, List.drop_zero]
    repeat (go_big_quiet_step (fail))
    refine wpQuiet_nil ?_
    intro w6 hw6
    obtain rfl : w5 = w6 := hw6.symm
    simp only [Exit.then]
    go_wp2
    exact hk
  · have dn : (er == 0) = false := by simpa using h0
    have dn' : (er != 0) = true := by simpa using h0
    have e1 : nameT t d (lo, hi, c, er) = (t, er) := by
      unfold nameT
      rw [if_pos (by simpa using h0)]
    have HE1 := hide e1
    clear hmay h0 e1
    go_enter Tryz.func34, Tryz.ntmps34
    go_wp2_with fail
    refine (unhide HSC).mono ?_
    rintro e w1 ⟨rfl, hb1⟩
    go_wp2
    rw [← unhide HQ, unhide HE1]
    exact StepEnd.no (unhide HT) er hB ((unhide HB0).trans ((hb1.alloc hb1.size _).mono (unhide HB0).size))
end Go.Proofs.YthgaadjkjnibaaaGreatDoor
