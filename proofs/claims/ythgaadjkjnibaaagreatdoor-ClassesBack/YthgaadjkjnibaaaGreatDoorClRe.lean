/-
  Read of package classes, for every text: the walk.
-/
import Derived.Test.YthgaadjkjnibaaaGreatDoorClRd
namespace Go.Proofs.YthgaadjkjnibaaaGreatDoor
open Go.RowKit Go.PlainAid Go.Lib Go.PHexM Go.Shelf Go.PRow
set_option linter.unusedVariables false
set_option linter.unusedSimpArgs false

set_option maxRecDepth 100000 in
set_option maxHeartbeats 4000000 in
theorem read7_any (file s : ByteArray) (w : World) (hs : s.size ≤ 1073741824) (hm : MaxAt w) :
    Calls Tryz.prog 5 #[.string file, .string s] w (ReadPT file s w) := by
  have HRD := hide (read_any file s w hs)
  obtain ⟨Q, hQ⟩ : ∃ Q, ReadPT file s w = Q := ⟨_, rfl⟩
  rw [hQ]
  have HQ := hide hQ
  clear hQ
  go_enter Tryz.func5, Tryz.ntmps5
  go_wp2_with fail
  refine (unhide HRD).mono ?_
  rintro e w1 ⟨hb1, (⟨hnone, va, rfl, ps, hps, hrl⟩ | ⟨no, code, fb, hsome, rfl, hfb, hfc⟩)⟩
  · obtain ⟨a, c, rfl, hline⟩ := rowL_line7 hrl
    obtain ⟨n, hn⟩ : ∃ n, ps.length = n := ⟨_, rfl⟩
    have hnb : n ≤ 1073741825 := by
      have h1 := readS_len7 s
      rw [← hps, List.length_map, hn] at h1
      omega
    rw [hn]
    have hfl : ∀ p ∈ ps, (p.1.kind = 0 ∨ p.1.kind = 1 ∨ p.1.kind = 2 ∨ p.1.kind = 3) ∧ ∀ x ∈ p.1.fields, x.length ≤ 1073741824 := fun p hp =>
      have hd : p.1 ∈ (readS s).1 := by rw [← hps]; exact List.mem_map_of_mem hp
      ⟨read_kind7 hd, fun x hx => Nat.le_trans (read_field_le7 hd hx) hs⟩
    have HN := hide hn
    have HLN := hide hline
    have HPS := hide hps
    have HNONE := hide hnone
    have HB1 := hide hb1
    have HFL := hide hfl
    have hs1 := hb1.size
    clear hn hline hps hrl hnone HRD hb1 hfl
    go_wp2_with fail
    refine (empty_any w1).mono ?_
    rintro e w2 ⟨bt, bN, bC, rfl, hTE, hb2⟩
    go_wp2_with fail
    refine (takes_any bt w2).mono ?_
    rintro e w3 ⟨rfl, hw3⟩
    have hb23 : Below w2.heap.size w2 w3 := by rw [hw3]; exact (Below.refl _ w2).alloc (Nat.le_refl _) _
    have hk3 : w3.heap[w2.heap.size]? = some (.cells (takesC bt) 55 (0, 0)) := by rw [hw3]; exact heap_alloc_new w2 _
    have hb3 : Below w1.heap.size w1 w3 := hb2.trans (hb23.mono hb2.size)
    have hTE3 : ∃ vN vC vM, TabP w3 w1.heap.size bt bN bC vN vC vM emptyT := by obtain ⟨x, y, z, h⟩ := hTE; exact ⟨x, y, z, h.below hb23⟩
    have HS3 := hide (⟨hk3, hb3, hTE3⟩ : _ ∧ _ ∧ _)
    have hb2s := hb2.size
    clear hw3 hb23 hTE hb2 hTE3 hb3 hk3
    go_wp2
    go_loopw [27] (fun v27 wr => ∃ (i : Nat) (T : TabD), v27 = .int .i64 i ∧ i ≤ n ∧ T.ms.length ≤ i ∧ Hid (tellT emptyT (ps.map (·.1)) = tellT T ((ps.drop i).map (·.1))) ∧ Hid (∃ vN vC vM, TabP wr w1.heap.size bt bN bC vN vC vM T) ∧ Below w1.heap.size w1 wr ∧ wr.heap[w2.heap.size]? = some (.cells (takesC bt) 55 (0, 0))) (fun v27 _ => n - (RowKit.intOf v27).toNat)
    case atStart => exact ⟨0, emptyT, rfl, Nat.zero_le _, Nat.le_refl _, by show _ = _; simp, (unhide HS3).2.2, (unhide HS3).2.1, (unhide HS3).1⟩
    case round =>
      obtain ⟨i, T, rfl, hi, hml, HT, HTP, hB, hTK⟩ := hrel
      have hBw : Below w.heap.size w wr := (unhide HB1).trans (hB.mono hs1)
      by_cases hlt : i < n
      · obtain ⟨⟨d, v⟩, hx⟩ : ∃ x, ps[i]? = some x := ⟨_, List.getElem?_eq_getElem (by rw [unhide HN]; exact hlt)⟩
        obtain ⟨g, fa, fc, rfl, hv, htx, hc⟩ := unhide HLN i (d, v) hx
        simp only at hv htx hc
        subst hv
        obtain ⟨hkd, hfs⟩ := unhide HFL (d, _) (List.mem_of_getElem? hx)
        simp only at hkd hfs
        have hc' : ∀ j u, [Value.int .i64 d.no, .int .u8 d.kind, .string (S d.name), .slice fa d.fields.length fc, .string (S d.note)][j]? = some u → wr.cell? ⟨g, i * 5 + j, none⟩ = some u := fun j u hu => (hB.cell (World.block_lt_of_cell? _ _ (hc j u hu))).trans (hc j u hu)
        have cx0 := hc' 0 _ rfl
        have cx1 := hc' 1 _ rfl
        have cx2 := hc' 2 _ rfl
        have cx3 := hc' 3 _ rfl
        have cx4 := hc' 4 _ rfl
        simp only [Nat.add_zero] at cx0
        have hlt' : (i : Int) < (n : Int) := by omega
        have hq1 : IntKind.i64.wrap ((i : Int) + 1) = (i : Int) + 1 := by rw [IntKind.wrap_i64]; omega
        have hdr : (ps.drop i).map (·.1) = d :: (ps.drop (i + 1)).map (·.1) := by
          have hil := (List.getElem?_eq_some_iff.1 hx).1
          rw [List.drop_eq_getElem_cons hil, (List.getElem?_eq_some_iff.1 hx).2]
          rfl
        obtain ⟨V, hV⟩ : ∃ V, wr.alloc (.cells #[.int .i64 d.no, .int .u8 d.kind, .string (S d.name), .slice fa d.fields.length fc, .string (S d.note)] 53) = V := ⟨_, rfl⟩
        have hVb : Below wr.heap.size wr V := by rw [← hV]; exact (Below.refl _ wr).alloc (Nat.le_refl _) _
        have vM : V.heap[wr.heap.size]? = some (.cells #[.int .i64 d.no, .int .u8 d.kind, .string (S d.name), .slice fa d.fields.length fc, .string (S d.note)] 53 (0, 0)) := by rw [← hV]; exact heap_alloc_new wr _
        obtain ⟨v0, v1, v2, v3, v4, -, -, -, -, -⟩ := box5 vM
        have hBV : Below w1.heap.size w1 V := hB.trans (hVb.mono hB.size)
        have hBVw : Below w.heap.size w V := hBw.trans (hVb.mono hBw.size)
        have hTV := (hVb.block _ (Array.getElem?_eq_some_iff.1 hTK).1).trans hTK
        obtain ⟨vN, vC, vMs, hTP⟩ := unhide HTP
        have hTPV := hTP.below hVb
        have hszV := hBV.size
        have HHT := unhide HT
        rw [hdr] at HHT
        have kN0 : V.cell? ⟨w2.heap.size, 0, none⟩ = some (.func (.func 33) #[.pointer (some ⟨bt, 0, none⟩)] #[]) := cellH hTV rfl
        have kN1 : V.cell? ⟨w2.heap.size, 1, none⟩ = some (.func (.func 34) #[.pointer (some ⟨bt, 0, none⟩)] #[]) := cellH hTV rfl
        have kN2 : V.cell? ⟨w2.heap.size, 2, none⟩ = some (.func (.func 35) #[.pointer (some ⟨bt, 0, none⟩)] #[]) := cellH hTV rfl
        have kN3 : V.cell? ⟨w2.heap.size, 3, none⟩ = some (.func (.func 36) #[.pointer (some ⟨bt, 0, none⟩)] #[]) := cellH hTV rfl
        have hD : ∀ q, Below V.heap.size V (V.drewN q) := fun q => below_drewN (Below.refl _ V) q
        have hmV := hm.below hBVw
        have htV := (htx.below hB).below hVb
        have NEXT : Hid (∀ q (w5 : World), StepEnd w1.heap.size bt bN bC (V.drewN q) (stepT T d) (.returned (.int .i64 (stepT T d).2)) w5 → Below w.heap.size w w5 ∧ Below w1.heap.size w1 w5 ∧ w5.heap[w2.heap.size]? = some (.cells (takesC bt) 55 (0, 0)) ∧ w5.heap[wr.heap.size]? = some (.cells #[.int .i64 d.no, .int .u8 d.kind, .string (S d.name), .slice fa d.fields.length fc, .string (S d.note)] 53 (0, 0)) ∧ ∃ vN vC vM, TabP w5 w1.heap.size bt bN bC vN vC vM (stepT T d).1) := fun q w5 h => by
          obtain ⟨-, h2, h3, h4⟩ := h
          have hb15 : Below w1.heap.size w1 w5 := (hBV.trans ((hD q).mono hszV)).trans h3
          exact ⟨(unhide HB1).trans (hb15.mono hs1), hb15, h4.block _ _ _ (((hD q).block _ (Array.getElem?_eq_some_iff.1 hTV).1).trans hTV) (by decide), h4.block _ _ _ (((hD q).block _ (Array.getElem?_eq_some_iff.1 vM).1).trans vM) (by decide), h2⟩
        have hNO : ∀ k, (stepT T d).2 = k → k ≠ 0 → (tabS s).2 = some (d.no, k) := fun k hk h0 => by
          unfold tabS
          rw [unhide HNONE, ← unhide HPS, HHT, tellT_no _ _ _ (by rw [hk]; exact h0), hk]
        have hYES : (stepT T d).2 = 0 → Hid (tellT emptyT (ps.map (·.1)) = tellT (stepT T d).1 ((ps.drop (i + 1)).map (·.1))) := fun h0 => by
          rw [tellT_yes _ _ _ h0] at HHT
          exact HHT
        have hln := step_len7 T d
        have HNO := hide hNO
        have HYES := hide hYES
        have HLN2 := hide hln
        rcases hkd with hkd | hkd | hkd | hkd
        · -- the kind 0
          have hst : stepT T d = (T, 0) := by unfold stepT; rw [hkd]; rfl
          have HST := hide (fun q => takeBlank_any d (.slice fa d.fields.length fc) w1.heap.size bt bN bC vN vC vMs T (V.drewN q) (hTPV.below (hD q)) hszV)
          simp only [lineV, hkd] at HST
          rw [hkd] at v1 cx1 hV vM
          have HVM := hide vM
          clear hc hc' hx hdr HT HHT hVb vM hBV hBVw hB hBw hTK hTV htx hTP hTPV hNO hYES hln hmV htV hfs hD
          go_wp2_with fail
          clear hV cx0 cx1 cx2 cx3 cx4
          refine MixW.start (by kernel_rfl) ?_
          refine MixW.seg (C := fun w' => ∃ n, w' = V.drewN n) 0 6 2 (by kernel_rfl) ⟨1, rfl⟩ ?_
          simp only [Nat.reduceAdd, List.take_succ_cons, List.take_zero, List.drop_zero]
          repeat (go_big_quiet_step (fail))
          refine wpQuiet_nil ?_
          rintro _ ⟨q, rfl⟩
          refine MixW.loud 1 6 1 _ _ (by decide) (by kernel_rfl) ?_
          simp only [Nat.reduceAdd, List.drop_succ_cons, List.drop_zero, List.take_succ_cons, List.take_zero]
          go_wp2_with fail
          refine (unhide HST q).mono ?_
          intro e w5 hE
          obtain ⟨k, hk⟩ : ∃ k, (stepT T d).2 = k := ⟨_, rfl⟩
          have he := hE.1
          rw [← hst] at he hE
          obtain ⟨g1, g2, g3, g4, g5⟩ := unhide NEXT q w5 (by rw [← he]; exact hE)
          rw [hk] at he
          subst he
          have HG5 := hide g5
          have l5 : w5.cell? ⟨wr.heap.size, 0, none⟩ = some (.int .i64 d.no) := cellH g4 rfl
          have l5' : ∀ o, (w5.alloc o).cell? ⟨wr.heap.size, 0, none⟩ = some (.int .i64 d.no) := fun o => (World.cell?_alloc_lt _ _ ⟨wr.heap.size, 0, none⟩ (Array.getElem?_eq_some_iff.1 g4).1).trans l5
          clear hE g5 g4 hst kN0 kN1 kN2 kN3 v0 v1 v2 v3 v4
          go_wp2_with fail
          show wpAny _ _ _ _ 1 _ _ _
          refine MixW.last (C := fun w' => w' = w5) 7 1 (by decide) (by kernel_rfl) (by kernel_rfl) rfl ?_
          simp only [List.drop_succ_cons, List.drop_zero]
          repeat (go_big_quiet_step (fail))
          refine wpQuiet_nil ?_
          intro w6 hw6
          obtain rfl : w5 = w6 := hw6.symm
          simp only [Exit.then]
          by_cases hk0 : k = 0
          · subst hk0
            have HT2 := unhide HYES hk
            have hl2 : (stepT T d).1.ms.length ≤ i + 1 := by have := unhide HLN2; omega
            clear hk
            go_wp2
            go_roundw
            case rel => exact ⟨i + 1, (stepT T d).1, by go_num, by omega, hl2, HT2, unhide HG5, g2, g3⟩
            case measure => simp [RowKit.intOf]; omega
          · have dk : (k != 0) = true := by simpa using hk0
            have dk' : (k == 0) = false := by simpa using hk0
            have HF : Hid ((tabS s).2 = some (d.no, k)) := unhide HNO k hk hk0
            have FIN : Hid (∀ X : World, X.heap = (w5.alloc (.cells #[.string file, .int .i64 d.no, .int .i64 k] 58)).heap → X.os = w5.os → X.tape = w5.tape → X.output = w5.output → Q (.returned (.tuple #[.pointer none, .iface 56 (.pointer (some ⟨w5.heap.size, 0, none⟩))])) X) := fun X h1 h2 h3 h4 => by
              rw [← unhide HQ]
              have hA := g1.alloc g1.size (.cells #[.string file, .int .i64 d.no, .int .i64 k] 58)
              refine ReadPT.fault ⟨h2.trans g1.os, h3.trans g1.tape, h4.trans g1.output, by rw [h1]; exact hA.size, fun j hj => by rw [h1]; exact hA.block j hj⟩ (unhide HF) g1.size ?_
              unfold FaultAt
              rw [h1]
              exact heap_alloc_new w5 _
            clear g1 g2 g3 hk hk0
            go_wp2
            go_region
            all_goals go_wp2
            all_goals exact unhide FIN _ rfl rfl rfl rfl
        · -- the kind 1
          have hst : stepT T d = nameT T d (scanT d 70) := by unfold stepT; rw [hkd]; rfl
          have HST := hide (fun q => takeNaming_any d fa fc w1.heap.size bt bN bC vN vC vMs T (V.drewN q) (hTPV.below (hD q)) hszV (hmV.below (hD q)) (htV.below (hD q)) hfs)
          simp only [lineV, hkd] at HST
          rw [hkd] at v1 cx1 hV vM
          have HVM := hide vM
          clear hc hc' hx hdr HT HHT hVb vM hBV hBVw hB hBw hTK hTV htx hTP hTPV hNO hYES hln hmV htV hfs hD
          go_wp2_with fail
          clear hV cx0 cx1 cx2 cx3 cx4
          refine MixW.start (by kernel_rfl) ?_
          refine MixW.seg (C := fun w' => ∃ n, w' = V.drewN n) 0 6 2 (by kernel_rfl) ⟨1, rfl⟩ ?_
          simp only [Nat.reduceAdd, List.take_succ_cons, List.take_zero, List.drop_zero]
          repeat (go_big_quiet_step (fail))
          refine wpQuiet_nil ?_
          rintro _ ⟨q, rfl⟩
          refine MixW.loud 1 6 1 _ _ (by decide) (by kernel_rfl) ?_
          simp only [Nat.reduceAdd, List.drop_succ_cons, List.drop_zero, List.take_succ_cons, List.take_zero]
          go_wp2_with fail
          refine (unhide HST q).mono ?_
          intro e w5 hE
          obtain ⟨k, hk⟩ : ∃ k, (stepT T d).2 = k := ⟨_, rfl⟩
          have he := hE.1
          rw [← hst] at he hE
          obtain ⟨g1, g2, g3, g4, g5⟩ := unhide NEXT q w5 (by rw [← he]; exact hE)
          rw [hk] at he
          subst he
          have HG5 := hide g5
          have l5 : w5.cell? ⟨wr.heap.size, 0, none⟩ = some (.int .i64 d.no) := cellH g4 rfl
          have l5' : ∀ o, (w5.alloc o).cell? ⟨wr.heap.size, 0, none⟩ = some (.int .i64 d.no) := fun o => (World.cell?_alloc_lt _ _ ⟨wr.heap.size, 0, none⟩ (Array.getElem?_eq_some_iff.1 g4).1).trans l5
          clear hE g5 g4 hst kN0 kN1 kN2 kN3 v0 v1 v2 v3 v4
          go_wp2_with fail
          show wpAny _ _ _ _ 1 _ _ _
          refine MixW.last (C := fun w' => w' = w5) 7 1 (by decide) (by kernel_rfl) (by kernel_rfl) rfl ?_
          simp only [List.drop_succ_cons, List.drop_zero]
          repeat (go_big_quiet_step (fail))
          refine wpQuiet_nil ?_
          intro w6 hw6
          obtain rfl : w5 = w6 := hw6.symm
          simp only [Exit.then]
          by_cases hk0 : k = 0
          · subst hk0
            have HT2 := unhide HYES hk
            have hl2 : (stepT T d).1.ms.length ≤ i + 1 := by have := unhide HLN2; omega
            clear hk
            go_wp2
            go_roundw
            case rel => exact ⟨i + 1, (stepT T d).1, by go_num, by omega, hl2, HT2, unhide HG5, g2, g3⟩
            case measure => simp [RowKit.intOf]; omega
          · have dk : (k != 0) = true := by simpa using hk0
            have dk' : (k == 0) = false := by simpa using hk0
            have HF : Hid ((tabS s).2 = some (d.no, k)) := unhide HNO k hk hk0
            have FIN : Hid (∀ X : World, X.heap = (w5.alloc (.cells #[.string file, .int .i64 d.no, .int .i64 k] 58)).heap → X.os = w5.os → X.tape = w5.tape → X.output = w5.output → Q (.returned (.tuple #[.pointer none, .iface 56 (.pointer (some ⟨w5.heap.size, 0, none⟩))])) X) := fun X h1 h2 h3 h4 => by
              rw [← unhide HQ]
              have hA := g1.alloc g1.size (.cells #[.string file, .int .i64 d.no, .int .i64 k] 58)
              refine ReadPT.fault ⟨h2.trans g1.os, h3.trans g1.tape, h4.trans g1.output, by rw [h1]; exact hA.size, fun j hj => by rw [h1]; exact hA.block j hj⟩ (unhide HF) g1.size ?_
              unfold FaultAt
              rw [h1]
              exact heap_alloc_new w5 _
            clear g1 g2 g3 hk hk0
            go_wp2
            go_region
            all_goals go_wp2
            all_goals exact unhide FIN _ rfl rfl rfl rfl
        · -- the kind 2
          have hst : stepT T d = (T, 33) := by unfold stepT; rw [hkd]; rfl
          have HST := hide (fun q => takeOrder_any d (.slice fa d.fields.length fc) w1.heap.size bt bN bC vN vC vMs T (V.drewN q) (hTPV.below (hD q)) hszV)
          simp only [lineV, hkd] at HST
          rw [hkd] at v1 cx1 hV vM
          have HVM := hide vM
          clear hc hc' hx hdr HT HHT hVb vM hBV hBVw hB hBw hTK hTV htx hTP hTPV hNO hYES hln hmV htV hfs hD
          go_wp2_with fail
          clear hV cx0 cx1 cx2 cx3 cx4
          refine MixW.start (by kernel_rfl) ?_
          refine MixW.seg (C := fun w' => ∃ n, w' = V.drewN n) 0 6 2 (by kernel_rfl) ⟨1, rfl⟩ ?_
          simp only [Nat.reduceAdd, List.take_succ_cons, List.take_zero, List.drop_zero]
          repeat (go_big_quiet_step (fail))
          refine wpQuiet_nil ?_
          rintro _ ⟨q, rfl⟩
          refine MixW.loud 1 6 1 _ _ (by decide) (by kernel_rfl) ?_
          simp only [Nat.reduceAdd, List.drop_succ_cons, List.drop_zero, List.take_succ_cons, List.take_zero]
          go_wp2_with fail
          refine (unhide HST q).mono ?_
          intro e w5 hE
          obtain ⟨k, hk⟩ : ∃ k, (stepT T d).2 = k := ⟨_, rfl⟩
          have he := hE.1
          rw [← hst] at he hE
          obtain ⟨g1, g2, g3, g4, g5⟩ := unhide NEXT q w5 (by rw [← he]; exact hE)
          rw [hk] at he
          subst he
          have HG5 := hide g5
          have l5 : w5.cell? ⟨wr.heap.size, 0, none⟩ = some (.int .i64 d.no) := cellH g4 rfl
          have l5' : ∀ o, (w5.alloc o).cell? ⟨wr.heap.size, 0, none⟩ = some (.int .i64 d.no) := fun o => (World.cell?_alloc_lt _ _ ⟨wr.heap.size, 0, none⟩ (Array.getElem?_eq_some_iff.1 g4).1).trans l5
          clear hE g5 g4 hst kN0 kN1 kN2 kN3 v0 v1 v2 v3 v4
          go_wp2_with fail
          show wpAny _ _ _ _ 1 _ _ _
          refine MixW.last (C := fun w' => w' = w5) 7 1 (by decide) (by kernel_rfl) (by kernel_rfl) rfl ?_
          simp only [List.drop_succ_cons, List.drop_zero]
          repeat (go_big_quiet_step (fail))
          refine wpQuiet_nil ?_
          intro w6 hw6
          obtain rfl : w5 = w6 := hw6.symm
          simp only [Exit.then]
          by_cases hk0 : k = 0
          · subst hk0
            have HT2 := unhide HYES hk
            have hl2 : (stepT T d).1.ms.length ≤ i + 1 := by have := unhide HLN2; omega
            clear hk
            go_wp2
            go_roundw
            case rel => exact ⟨i + 1, (stepT T d).1, by go_num, by omega, hl2, HT2, unhide HG5, g2, g3⟩
            case measure => simp [RowKit.intOf]; omega
          · have dk : (k != 0) = true := by simpa using hk0
            have dk' : (k == 0) = false := by simpa using hk0
            have HF : Hid ((tabS s).2 = some (d.no, k)) := unhide HNO k hk hk0
            have FIN : Hid (∀ X : World, X.heap = (w5.alloc (.cells #[.string file, .int .i64 d.no, .int .i64 k] 58)).heap → X.os = w5.os → X.tape = w5.tape → X.output = w5.output → Q (.returned (.tuple #[.pointer none, .iface 56 (.pointer (some ⟨w5.heap.size, 0, none⟩))])) X) := fun X h1 h2 h3 h4 => by
              rw [← unhide HQ]
              have hA := g1.alloc g1.size (.cells #[.string file, .int .i64 d.no, .int .i64 k] 58)
              refine ReadPT.fault ⟨h2.trans g1.os, h3.trans g1.tape, h4.trans g1.output, by rw [h1]; exact hA.size, fun j hj => by rw [h1]; exact hA.block j hj⟩ (unhide HF) g1.size ?_
              unfold FaultAt
              rw [h1]
              exact heap_alloc_new w5 _
            clear g1 g2 g3 hk hk0
            go_wp2
            go_region
            all_goals go_wp2
            all_goals exact unhide FIN _ rfl rfl rfl rfl
        · -- the kind 3
          have hst : stepT T d = missT T (scanT d 71) := by unfold stepT; rw [hkd]; rfl
          have HST := hide (fun q => takeMissing_any d fa fc w1.heap.size bt bN bC vN vC vMs T (V.drewN q) (hTPV.below (hD q)) hszV (by omega) (hmV.below (hD q)) (htV.below (hD q)) hfs)
          simp only [lineV, hkd] at HST
          rw [hkd] at v1 cx1 hV vM
          have HVM := hide vM
          clear hc hc' hx hdr HT HHT hVb vM hBV hBVw hB hBw hTK hTV htx hTP hTPV hNO hYES hln hmV htV hfs hD
          go_wp2_with fail
          clear hV cx0 cx1 cx2 cx3 cx4
          refine MixW.start (by kernel_rfl) ?_
          refine MixW.seg (C := fun w' => ∃ n, w' = V.drewN n) 0 6 2 (by kernel_rfl) ⟨1, rfl⟩ ?_
          simp only [Nat.reduceAdd, List.take_succ_cons, List.take_zero, List.drop_zero]
          repeat (go_big_quiet_step (fail))
          refine wpQuiet_nil ?_
          rintro _ ⟨q, rfl⟩
          refine MixW.loud 1 6 1 _ _ (by decide) (by kernel_rfl) ?_
          simp only [Nat.reduceAdd, List.drop_succ_cons, List.drop_zero, List.take_succ_cons, List.take_zero]
          go_wp2_with fail
          refine (unhide HST q).mono ?_
          intro e w5 hE
          obtain ⟨k, hk⟩ : ∃ k, (stepT T d).2 = k := ⟨_, rfl⟩
          have he := hE.1
          rw [← hst] at he hE
          obtain ⟨g1, g2, g3, g4, g5⟩ := unhide NEXT q w5 (by rw [← he]; exact hE)
          rw [hk] at he
          subst he
          have HG5 := hide g5
          have l5 : w5.cell? ⟨wr.heap.size, 0, none⟩ = some (.int .i64 d.no) := cellH g4 rfl
          have l5' : ∀ o, (w5.alloc o).cell? ⟨wr.heap.size, 0, none⟩ = some (.int .i64 d.no) := fun o => (World.cell?_alloc_lt _ _ ⟨wr.heap.size, 0, none⟩ (Array.getElem?_eq_some_iff.1 g4).1).trans l5
          clear hE g5 g4 hst kN0 kN1 kN2 kN3 v0 v1 v2 v3 v4
          go_wp2_with fail
          show wpAny _ _ _ _ 1 _ _ _
          refine MixW.last (C := fun w' => w' = w5) 7 1 (by decide) (by kernel_rfl) (by kernel_rfl) rfl ?_
          simp only [List.drop_succ_cons, List.drop_zero]
          repeat (go_big_quiet_step (fail))
          refine wpQuiet_nil ?_
          intro w6 hw6
          obtain rfl : w5 = w6 := hw6.symm
          simp only [Exit.then]
          by_cases hk0 : k = 0
          · subst hk0
            have HT2 := unhide HYES hk
            have hl2 : (stepT T d).1.ms.length ≤ i + 1 := by have := unhide HLN2; omega
            clear hk
            go_wp2
            go_roundw
            case rel => exact ⟨i + 1, (stepT T d).1, by go_num, by omega, hl2, HT2, unhide HG5, g2, g3⟩
            case measure => simp [RowKit.intOf]; omega
          · have dk : (k != 0) = true := by simpa using hk0
            have dk' : (k == 0) = false := by simpa using hk0
            have HF : Hid ((tabS s).2 = some (d.no, k)) := unhide HNO k hk hk0
            have FIN : Hid (∀ X : World, X.heap = (w5.alloc (.cells #[.string file, .int .i64 d.no, .int .i64 k] 58)).heap → X.os = w5.os → X.tape = w5.tape → X.output = w5.output → Q (.returned (.tuple #[.pointer none, .iface 56 (.pointer (some ⟨w5.heap.size, 0, none⟩))])) X) := fun X h1 h2 h3 h4 => by
              rw [← unhide HQ]
              have hA := g1.alloc g1.size (.cells #[.string file, .int .i64 d.no, .int .i64 k] 58)
              refine ReadPT.fault ⟨h2.trans g1.os, h3.trans g1.tape, h4.trans g1.output, by rw [h1]; exact hA.size, fun j hj => by rw [h1]; exact hA.block j hj⟩ (unhide HF) g1.size ?_
              unfold FaultAt
              rw [h1]
              exact heap_alloc_new w5 _
            clear g1 g2 g3 hk hk0
            go_wp2
            go_region
            all_goals go_wp2
            all_goals exact unhide FIN _ rfl rfl rfl rfl
      · obtain rfl : i = n := by omega
        have FIN : Hid (Q (.returned (.tuple #[.pointer (some ⟨bt, 0, none⟩), .nilIface])) wr) := by
          show Q _ _
          rw [← unhide HQ]
          have HHT := unhide HT
          rw [← unhide HN, List.drop_length] at HHT
          have ht : tabS s = (T, none) := by
            unfold tabS
            rw [unhide HNONE, ← unhide HPS]
            exact HHT
          refine ⟨hBw, .inl ⟨by rw [ht], bt, rfl, ?_⟩⟩
          rw [ht]
          obtain ⟨x, y, z, h⟩ := unhide HTP
          exact ⟨bN, bC, x, y, z, h.base hs1⟩
        clear hBw hB hTK HT HTP hml
        go_wp2
        exact unhide FIN
  · have FIN : Hid (Q (.returned (.tuple #[.pointer none, .iface 56 (.pointer (some ⟨fb, 0, none⟩))])) w1) := by
      show Q _ _
      rw [← unhide HQ]
      exact ReadPT.fault hb1 (by unfold tabS; rw [hsome]) hfb hfc
    clear hb1 hsome hfb hfc HRD
    go_wp2
    exact unhide FIN
end Go.Proofs.YthgaadjkjnibaaaGreatDoor
