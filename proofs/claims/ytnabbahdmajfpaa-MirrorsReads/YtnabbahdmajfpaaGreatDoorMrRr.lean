/-
  The document's Read of mirrors, for every text.
-/
import Derived.Test.YtnabbahdmajfpaaGreatDoorMrR
import Derived.Test.YtnabbahdmajfpaaGreatDoorMrRs
import Derived.Test.YtnabbahdmajfpaaGreatDoorMrRc
import Derived.Test.YtnabbahdmajfpaaGreatDoorRq
namespace Go.Proofs.YtnabbahdmajfpaaGreatDoor
open Go.RowKit Go.PlainAid Go.Lib Go.PHexM Go.Shelf
set_option linter.unusedVariables false
set_option linter.unusedSimpArgs false

theorem rd_code (s : ByteArray) : ∀ (l : List (Nat × Nat × Nat)) (no : Nat) (code : Int), (rdS s l).2 = some (no, code) → code ≠ 0
  | [], no, code, h => by simp [rdS] at h
  | x :: l, no, code, h => by
    unfold rdS at h
    split at h
    · exact rd_code s l no code h
    · rename_i hne
      simp only [Option.some.injEq, Prod.mk.injEq] at h
      rw [← h.2]; exact hne
theorem readS_code {s : ByteArray} {no : Nat} {code : Int} (h : (readS s).2 = some (no, code)) : code ≠ 0 := rd_code s _ no code h
/-- what a call of the document's Read leaves -/
def RReadPM (s : ByteArray) (w : World) (e : Ending) (w' : World) : Prop := Below w.heap.size w w' ∧
  (((mirsS s).2 = none ∧ ∃ v, e = .returned (.tuple #[v, .int .i64 0, .int .i64 0]) ∧ MirsAt w' w.heap.size v (mirsS s).1) ∨
   (∃ no code, (mirsS s).2 = some (no, code) ∧ code ≠ 0 ∧ e = .returned (.tuple #[.slice none 0 0, .int .i64 no, .int .i64 code])))
theorem RReadPM.fault {s : ByteArray} {w w' : World} {no code : Int} (hb : Below w.heap.size w w') (h : (mirsS s).2 = some (no, code)) (hc : code ≠ 0) : RReadPM s w (.returned (.tuple #[.slice none 0 0, .int .i64 no, .int .i64 code])) w' :=
  ⟨hb, .inr ⟨no, code, h, hc, rfl⟩⟩

set_option maxRecDepth 100000 in
set_option maxHeartbeats 4000000 in
theorem refRead9_any (s : ByteArray) (w : World) (hs : s.size ≤ 1073741824) :
    Calls Tryz.prog 24 #[.string s] w (RReadPM s w) := by
  have HRD := hide (refRead_any s w hs)
  obtain ⟨i0, hi0, hz0, hz1, hz2⟩ := info_parts infoMir
  obtain ⟨Q, hQ⟩ : ∃ Q, RReadPM s w = Q := ⟨_, rfl⟩
  rw [hQ]
  have HQ := hide hQ
  clear hQ
  go_enter Tryz.func24, Tryz.ntmps24
  go_wp2_with fail
  refine (unhide HRD).mono ?_
  rintro e w1 ⟨hb1, (⟨hnone, va, rfl, ps, hps, hrl⟩ | ⟨no, code, hsome, rfl⟩)⟩
  · obtain ⟨a, c, rfl, hline⟩ := rowL_line hrl
    obtain ⟨n, hn⟩ : ∃ n, ps.length = n := ⟨_, rfl⟩
    have hnb : n ≤ 1073741825 := by
      have h1 := readS_len s
      rw [← hps, List.length_map, hn] at h1
      omega
    rw [hn]
    have HN := hide hn
    have HLN := hide hline
    have HPS := hide hps
    have HNONE := hide hnone
    have HB1 := hide hb1
    have hs1 := hb1.size
    clear hn hline hps hrl hnone HRD hb1
    go_wp2
    go_loopw [8, 9] (fun v8 v26 wr => ∃ (i : Nat) (pre : List MirD), v26 = .int .i64 i ∧ i ≤ n ∧ pre.length ≤ i ∧ wr.ownsRow w1.heap.size 27 4 v8 pre.length (mirsC pre) ∧ Hid ((tellM (ps.map (·.1))).1 = pre ++ (tellM ((ps.drop i).map (·.1))).1 ∧ (tellM (ps.map (·.1))).2 = (tellM ((ps.drop i).map (·.1))).2) ∧ Below w1.heap.size w1 wr) (fun _ v26 _ => n - (RowKit.intOf v26).toNat)
    case atStart => exact ⟨0, [], rfl, Nat.zero_le _, Nat.le_refl _, World.ownsRow_nil _ _ _ _, ⟨by simp, by simp⟩, Below.refl _ _⟩
    case round =>
      obtain ⟨i, pre, rfl, hi, hpl, hrow, HT, hB⟩ := hrel
      have hBw : Below w.heap.size w wr := (unhide HB1).trans (hB.mono hs1)
      by_cases hlt : i < n
      · obtain ⟨⟨d, v⟩, hx⟩ : ∃ x, ps[i]? = some x := ⟨_, List.getElem?_eq_getElem (by rw [unhide HN]; exact hlt)⟩
        obtain ⟨g, fa, fc, rfl, hv, htx, hc⟩ := unhide HLN i (d, v) hx
        simp only at hv htx hc
        subst hv
        have hc' : ∀ j u, [Value.int .i64 d.no, .int .u8 d.kind, .string (S d.name), .slice fa d.fields.length fc, .string (S d.note)][j]? = some u → wr.cell? ⟨g, i * 5 + j, none⟩ = some u := fun j u hu => (hB.cell (World.block_lt_of_cell? _ _ (hc j u hu))).trans (hc j u hu)
        have cx0 := hc' 0 _ rfl
        have cx1 := hc' 1 _ rfl
        have cx2 := hc' 2 _ rfl
        have cx3 := hc' 3 _ rfl
        have cx4 := hc' 4 _ rfl
        simp only [Nat.add_zero] at cx0
        have hlt' : (i : Int) < (n : Int) := by omega
        have hq1 : IntKind.i64.wrap ((i : Int) + 1) = (i : Int) + 1 := by rw [IntKind.wrap_i64]; omega
        have hdr : (ps.drop i).map (·.1) = d :: (ps.drop (i + 1)).map (·.1) := by
          have hil := (List.getElem?_eq_some_iff.1 hx).1
          rw [List.drop_eq_getElem_cons hil, (List.getElem?_eq_some_iff.1 hx).2]
          rfl
        have HHT := unhide HT
        rw [hdr] at HHT
        by_cases hsk : d.kind = 0 ∨ d.kind = 3
        · have HT2 : Hid ((tellM (ps.map (·.1))).1 = pre ++ (tellM ((ps.drop (i + 1)).map (·.1))).1 ∧ (tellM (ps.map (·.1))).2 = (tellM ((ps.drop (i + 1)).map (·.1))).2) := by
            rw [tell_skip _ hsk] at HHT; exact HHT
          have HR := hide (⟨hrow, hB⟩ : _ ∧ _)
          clear hc hc' hx hdr HT HHT hrow hB hBw htx
          rcases hsk with hk | hk
          · rw [hk] at cx1
            go_wp2
            go_roundw
            case rel => exact ⟨i + 1, pre, by go_num, by omega, by omega, (unhide HR).1, HT2, (unhide HR).2⟩
            case measure => simp [RowKit.intOf]; omega
          · rw [hk] at cx1
            go_wp2
            go_roundw
            case rel => exact ⟨i + 1, pre, by go_num, by omega, by omega, (unhide HR).1, HT2, (unhide HR).2⟩
            case measure => simp [RowKit.intOf]; omega
        · have dk0 : (d.kind == 0) = false := by simpa using fun e => hsk (.inl e)
          have dk3 : (d.kind == 3) = false := by simpa using fun e => hsk (.inr e)
          have HSC := hide (refScan9_any d fa fc wr (htx.below hB))
          obtain ⟨x, hxm⟩ : ∃ x, (scanM d).1 = x := ⟨_, rfl⟩
          obtain ⟨k, hk⟩ : ∃ k, (scanM d).2 = k := ⟨_, rfl⟩
          rw [hxm, hk] at HSC
          have HR2 : Hid (∀ w2, Below wr.heap.size wr w2 → ∃ V2, w2.alloc (.cells #[.int .i64 x.line, .int .i32 x.frm, .int .i32 x.to, .bool x.best] 27) = V2 ∧ V2.cell? ⟨g, i * 5, none⟩ = some (.int .i64 d.no) ∧ V2.cell? ⟨w2.heap.size, 0, none⟩ = some (.int .i64 x.line) ∧ V2.cell? ⟨w2.heap.size, 1, none⟩ = some (.int .i32 x.frm) ∧ V2.cell? ⟨w2.heap.size, 2, none⟩ = some (.int .i32 x.to) ∧ V2.cell? ⟨w2.heap.size, 3, none⟩ = some (.bool x.best) ∧
              V2.ownsRow w1.heap.size 27 4 u8 pre.length (mirsC pre) ∧ Below w1.heap.size w1 V2 ∧ Below w.heap.size w V2) := fun w2 hb2 => by
            have hA : Below w2.heap.size w2 (w2.alloc (.cells #[.int .i64 x.line, .int .i32 x.frm, .int .i32 x.to, .bool x.best] 27)) := (Below.refl _ w2).alloc (Nat.le_refl _) _
            obtain ⟨k0, k1, k2, k3⟩ := MBox.cells (x := x) (heap_alloc_new w2 _)
            have hb2' := hB.trans (hb2.mono hB.size)
            have hb2'' := hBw.trans (hb2.mono hBw.size)
            have hwr : Below wr.heap.size wr (w2.alloc (.cells #[.int .i64 x.line, .int .i32 x.frm, .int .i32 x.to, .bool x.best] 27)) := hb2.trans (hA.mono hb2.size)
            exact ⟨_, rfl, (hwr.cell (World.block_lt_of_cell? _ _ cx0)).trans cx0, k0, k1, k2, k3, rowB (rowB hrow hb2) hA, hb2'.trans (hA.mono hb2'.size), hb2''.trans (hA.mono hb2''.size)⟩
          by_cases hk0 : k = 0
          · subst hk0
            have HT2 : Hid ((tellM (ps.map (·.1))).1 = (pre ++ [x]) ++ (tellM ((ps.drop (i + 1)).map (·.1))).1 ∧ (tellM (ps.map (·.1))).2 = (tellM ((ps.drop (i + 1)).map (·.1))).2) := by
              rw [tell_yes _ hsk hk, hxm] at HHT
              exact ⟨by rw [HHT.1]; simp, HHT.2⟩
            clear hc hc' hx hdr HT HHT hB hBw htx hsk hxm hk hrow
            go_wp2_with fail
            refine (unhide HSC).mono ?_
            rintro e w2 ⟨rfl, hb2⟩
            obtain ⟨V2, hV2, y0, z0, z1, z2, z3, hr2, hB2, hBw2⟩ := unhide HR2 w2 hb2
            obtain ⟨fa', fc', rfl⟩ := row_slice2 hr2
            have hs12 := hB2.size
            go_wp2_with (at_builtin; refine wpList_append_own_at _ rfl _ _ 35 rfl w1.heap.size 27 i0 _ 4 24 Tryz.underlying35 hi0 hz0 hz1 hz2 rfl (by decide) _ _ _ rfl (hr2.alloc _) ⟨V2.heap.size, 0, none⟩ 1 1 (mirC x) rfl rfl (cells_newM V2 x _) (by simp [Value.oneCell']) (by unfold maxLen; omega) (by omega) (by simp; omega) ?_; intro v'' w5 hown5 hgrow5 _ _; replace hgrow5 : World.grownBy _ w5 (Value.slice fa' pre.length fc').ownBlock := hgrow5)
            have hB5 : Below w1.heap.size w1 w5 := belowG (hB2.alloc hB2.size _) (by simp; omega) (hr2.alloc _) hgrow5
            go_roundw
            case rel => exact ⟨i + 1, pre ++ [x], by go_num, by omega, by simp; omega, by rw [mirsC_snoc, List.length_append]; exact hown5, HT2, hB5⟩
            case measure => simp [RowKit.intOf]; omega
          · have dk : (k != 0) = true := by simpa using hk0
            have dk' : (k == 0) = false := by simpa using hk0
            have HF : Hid ((mirsS s).2 = some (d.no, k)) := by
              rw [tell_no _ hsk (by rw [hk]; exact hk0), hk] at HHT
              show _ = _
              unfold mirsS
              rw [unhide HNONE, ← unhide HPS, HHT.2]
            have HK0 := hide hk0
            clear hc hc' hx hdr HT HHT hB hBw htx hsk hxm hk hrow hk0
            go_wp2_with fail
            refine (unhide HSC).mono ?_
            rintro e w2 ⟨rfl, hb2⟩
            obtain ⟨V2, hV2, y0, z0, z1, z2, z3, hr2, hB2, hBw2⟩ := unhide HR2 w2 hb2
            have FIN : Hid (∀ m, Q (.returned (.tuple #[.slice none 0 0, .int .i64 d.no, .int .i64 k])) (V2.drewN m)) := fun m => by
              rw [← unhide HQ]
              exact RReadPM.fault (below_drewN hBw2 m) (unhide HF) (unhide HK0)
            clear hr2 hB2 hBw2 hb2
            go_wp2
            go_quiet (fail)
            go_wp2
            exact unhide FIN _
      · obtain rfl : i = n := by omega
        have hdr : (ps.drop i).map (·.1) = [] := by rw [List.drop_eq_nil_of_le (by rw [unhide HN]; exact Nat.le_refl _)]; rfl
        have HHT := unhide HT
        rw [hdr] at HHT
        have ht1 : (tellM (readS s).1).1 = pre := by rw [← unhide HPS, HHT.1]; simp [tellM]
        have ht2 : (tellM (readS s).1).2 = none := by rw [← unhide HPS, HHT.2]; rfl
        have hms : mirsS s = if (chkM pre).2 = 0 then (pre, none) else ([], some ((pre.getD (chkM pre).1 zeroM).line, (chkM pre).2)) := by
          unfold mirsS
          rw [unhide HNONE]
          simp only [ht2, ht1]
        have hok : ∀ x ∈ pre, MirOk x := by rw [← ht1]; exact tell_mirOk _
        have hrm : MirsAt wr w1.heap.size u8 pre := hrow
        obtain ⟨a8, c8, rfl, hc8, hmm⟩ := mirsAt_mem hrm
        obtain ⟨N, hN⟩ : ∃ N, pre.length = N := ⟨_, rfl⟩
        have HCK := hide (refCheck9_any pre a8 N c8 wr hN (by omega) hmm)
        rw [hN]
        obtain ⟨cp, hcp⟩ : ∃ cp, (chkM pre).1 = cp := ⟨_, rfl⟩
        obtain ⟨cc, hcc⟩ : ∃ cc, (chkM pre).2 = cc := ⟨_, rfl⟩
        rw [hcp, hcc] at HCK hms
        by_cases hc0 : cc = 0
        · subst hc0
          rw [if_pos rfl] at hms
          have FIN : Hid (∀ w2, Below wr.heap.size wr w2 → Q (.returned (.tuple #[.slice a8 N c8, .int .i64 0, .int .i64 0])) w2) := fun w2 hb2 => by
            rw [← unhide HQ]
            refine ⟨hBw.trans (hb2.mono hBw.size), .inl ⟨by rw [hms], _, rfl, ?_⟩⟩
            rw [hms]
            unfold MirsAt
            rw [← hN]
            exact row_base (rowB hrow hb2) hs1
          clear hms hok hrm hmm hrow HT HHT ht1 ht2 hcp hcc hN hdr hB hBw
          go_wp2_with (go_at_call 19; with_reducible refine (unhide HCK).mono ?_; rintro e w2 ⟨rfl, hb2⟩)
          exact unhide FIN _ hb2
        · rw [if_neg hc0] at hms
          have dk : (cc != 0) = true := by simpa using hc0
          have dk' : (cc == 0) = false := by simpa using hc0
          have hcl : cp < pre.length := by
            rw [← hcp]
            have : (chkM pre).2 ≠ 0 := by rw [hcc]; exact hc0
            unfold chkM at this ⊢
            cases h1 : firstM (wrongM pre) pre.length with
            | some q => rw [h1] at this; exact (first_some h1).1
            | none =>
              rw [h1] at this
              cases h2 : firstM (twistM pre) pre.length with
              | some q => rw [h2] at this; exact (first_some h2).1
              | none => rw [h2] at this; exact absurd rfl this
          obtain ⟨y, hy⟩ : ∃ y, pre[cp]? = some y := ⟨_, List.getElem?_eq_getElem hcl⟩
          rw [getD_at hy] at hms
          obtain ⟨g8, o8, rfl, hc9⟩ := hmm cp y hy
          have yc := hc9 0 _ rfl
          simp only [Nat.add_zero] at yc
          have hcn : cp < N := by rw [← hN]; exact hcl
          have hcn' : (cp : Int) < (N : Int) := by omega
          have FIN0 : Hid (∀ w2, Below wr.heap.size wr w2 → w2.cell? ⟨g8, o8 + cp * 4, none⟩ = some (.int .i64 y.line) ∧ ∀ m, Q (.returned (.tuple #[.slice none 0 0, .int .i64 y.line, .int .i64 cc])) (w2.drewN m)) := fun w2 hb2 => by
            have hl := World.block_lt_of_cell? _ _ yc
            refine ⟨(hb2.cell (p := ⟨g8, o8 + cp * 4, none⟩) hl).trans yc, fun m => ?_⟩
            rw [← unhide HQ]
            have hb := hBw.trans (hb2.mono hBw.size)
            exact RReadPM.fault (below_drewN hb m) (by rw [hms]) hc0
          clear hms hok hrm hmm hrow HT HHT ht1 ht2 hcp hcc hN hdr hB hBw hc9 hy hcl yc hc0
          go_wp2_with (go_at_call 19; with_reducible refine (unhide HCK).mono ?_; rintro e w2 ⟨rfl, hb2⟩)
          obtain ⟨q0, fin⟩ := unhide FIN0 _ hb2
          have FIN := hide fin
          clear fin hb2
          go_quiet (fail)
          go_wp2
          exact unhide FIN _
  · have hcn := readS_code hsome
    have FIN : Hid (Q (.returned (.tuple #[.slice none 0 0, .int .i64 (no : Nat), .int .i64 code])) w1) := by
      show Q _ _
      rw [← unhide HQ]
      exact RReadPM.fault hb1 (by unfold mirsS; rw [hsome]) hcn
    have dk : (code != 0) = true := by simpa using hcn
    have dk' : (code == 0) = false := by simpa using hcn
    clear hb1 hsome hcn HRD
    go_wp2
    exact unhide FIN
end Go.Proofs.YtnabbahdmajfpaaGreatDoor
