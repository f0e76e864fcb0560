/-
  The document's Read (furrowref06), for every text.
-/
import Derived.Test.YthjnkagepooeiaaGreatDoorRx
import Derived.Test.YthjnkagepooeiaaGreatDoorRwRs2
import Derived.Test.YthjnkagepooeiaaGreatDoorRq
import Derived.Test.YthjnkagepooeiaaGreatDoorRwG
import Derived.BigQuiet
namespace Go.Proofs.YthjnkagepooeiaaGreatDoor
open Go.RowKit Go.PlainAid Go.Lib Go.PHexM Go.Shelf
set_option linter.unusedVariables false
set_option linter.unusedSimpArgs false

theorem own_bel {W W' : World} {base k n : Nat} {T : TypeId} {v : Value} {xs : List Value} (h : W.ownsRow base T k v n xs) (hb : Below W.heap.size W W') : W'.ownsRow base T k v n xs := row_kept6 h fun g cur hh _ _ => hb.block g (Array.getElem?_eq_some_iff.1 hh).1
/-- a line in a list of its own, in memory -/
def LineOf (wr : World) (g : Nat) (d : LineD) (fv : Value) : Prop := ∃ cur, wr.heap[g]? = some (.cells cur 25 (0, 0)) ∧ ∀ (j : Nat) (u : Value), [Value.int .i64 d.no, .int .u8 d.kind, .string (S d.name), fv, .string (S d.note)][j]? = some u → cur[j]? = some u
theorem LineOf.cell {wr : World} {g : Nat} {d : LineD} {fv : Value} (h : LineOf wr g d fv) {j : Nat} {u : Value} (hj : [Value.int .i64 d.no, .int .u8 d.kind, .string (S d.name), fv, .string (S d.note)][j]? = some u) : wr.cell? ⟨g, j, none⟩ = some u := by
  obtain ⟨cur, hh, hc⟩ := h
  simpa [World.cell?, hh] using hc j u hj
theorem LineOf.below {w w' : World} {g : Nat} {d : LineD} {fv : Value} (h : LineOf w g d fv) (hb : Below w.heap.size w w') : LineOf w' g d fv := by
  obtain ⟨cur, hh, hc⟩ := h
  exact ⟨cur, (hb.block g (Array.getElem?_eq_some_iff.1 hh).1).trans hh, hc⟩
/-- the First that waits, in memory -/
def OverAt (w1 wr : World) (st : WalkD) (v : Value) : Prop := match st.held with
  | none => v = .slice none 0 0
  | some x => ∃ fa fc g c, x.1.fields.length = 15 ∧ TxG w1 fa x.1.fields ∧ (∀ y ∈ x.1.fields, y.length ≤ 1073741824) ∧ v = .slice (some ⟨g, 0, none⟩) 1 c ∧ 1 ≤ c ∧ LineOf wr g x.1 (.slice fa 15 fc)
theorem overAt_none {w1 wr : World} {st : WalkD} {v : Value} (h : st.held = none) (ho : OverAt w1 wr st v) : v = .slice none 0 0 := by unfold OverAt at ho; rw [h] at ho; exact ho
theorem overAt_some {w1 wr : World} {st : WalkD} {v : Value} {x : LineD × RowD} (h : st.held = some x) (ho : OverAt w1 wr st v) : ∃ fa fc g c, x.1.fields.length = 15 ∧ TxG w1 fa x.1.fields ∧ (∀ y ∈ x.1.fields, y.length ≤ 1073741824) ∧ v = .slice (some ⟨g, 0, none⟩) 1 c ∧ 1 ≤ c ∧ LineOf wr g x.1 (.slice fa 15 fc) := by unfold OverAt at ho; rw [h] at ho; exact ho
theorem OverAt.below {w1 w w' : World} {st : WalkD} {v : Value} (h : OverAt w1 w st v) (hb : Below w.heap.size w w') : OverAt w1 w' st v := by
  unfold OverAt at h ⊢
  split
  · rename_i e; rw [e] at h; exact h
  · rename_i x e
    rw [e] at h
    obtain ⟨fa, fc, g, c, h1, h2, h3, h4, h5, h6⟩ := h
    exact ⟨fa, fc, g, c, h1, h2, h3, h4, h5, h6.below hb⟩
theorem OverAt.grown {w1 w w' : World} {st : WalkD} {v v8 : Value} {n base : Nat} {xs : List Value} (h : OverAt w1 w st v) (hr : w.ownsRow base 29 9 v8 n xs) (hg : w.grownBy w' v8.ownBlock) : OverAt w1 w' st v := by
  unfold OverAt at h ⊢
  split
  · rename_i e; rw [e] at h; exact h
  · rename_i x e
    rw [e] at h
    obtain ⟨fa, fc, g, c, h1, h2, h3, h4, h5, cur, hh, hc⟩ := h
    refine ⟨fa, fc, g, c, h1, h2, h3, h4, h5, cur, (hg.block g (Array.getElem?_eq_some_iff.1 hh).1 fun e2 => ?_).trans hh, hc⟩
    rcases hr.2 with ⟨rfl, _⟩ | ⟨g', cap, cur', rfl, _, hh', _⟩
    · cases e2
    · have : g = g' := Option.some.inj e2
      subst this
      rw [hh'] at hh
      cases hh
set_option maxRecDepth 100000 in
theorem rread_results {tmps : Array Value} {w : World} {a b c : Value} (h2 : tmps.getD 2 undef = a) (h3 : tmps.getD 3 undef = b) (h4 : tmps.getD 4 undef = c) : (results Tryz.f18 tmps).run Tryz.prog w = .ok (.tuple #[a, b, c]) w := by
  have h2' : tmps[2]?.getD undef = a := by simpa using h2
  have h3' : tmps[3]?.getD undef = b := by simpa using h3
  have h4' : tmps[4]?.getD undef = c := by simpa using h4
  simp [results, Tryz.results18, go_sem, h2', h3', h4']
/-- what the document's Read answers -/
def ReadPost6 (s : ByteArray) (w : World) (e : Ending) (w' : World) : Prop := Below w.heap.size w w' ∧
  (((rowsS s).2 = none ∧ ∃ v, e = .returned (.tuple #[v, .int .i64 0, .int .i64 0]) ∧ RowsAt w' w.heap.size v (rowsS s).1) ∨
   (∃ no code, (rowsS s).2 = some (no, code) ∧ code ≠ 0 ∧ e = .returned (.tuple #[.slice none 0 0, .int .i64 no, .int .i64 code])))
theorem rd_code (s : ByteArray) : ∀ (l : List (Nat × Nat × Nat)) (no : Nat) (c : Int), (rdS s l).2 = some (no, c) → c ≠ 0
  | [], no, c, h => by cases h
  | x :: l, no, c, h => by
    unfold rdS at h
    split at h
    · exact rd_code s l no c h
    · rename_i hn
      have := congrArg Prod.snd (Option.some.inj h)
      simp only at this
      rw [← this]; exact hn
theorem row_last {w : World} {base g cap n : Nat} {out : List RowD} {r : RowD} (h : w.ownsRow base 29 9 (.slice (some ⟨g, 0, none⟩) n cap) n (rowsC out)) (hn : out.length = n) (hr : out.getLast? = some r) : w.cell? ⟨g, (n - 1) * 9 + 2, none⟩ = some (.int .i32 r.last) := by
  have hra : RowsAt w base (.slice (some ⟨g, 0, none⟩) n cap) out := by unfold RowsAt; rw [hn]; exact h
  obtain ⟨a, c, e, _, hm⟩ := rowsAt_mem hra
  simp only [Value.slice.injEq] at e
  obtain ⟨rfl, _, _⟩ := e
  rw [List.getLast?_eq_getElem?, hn] at hr
  obtain ⟨g', o', e, hc⟩ := hm (n - 1) r hr
  simp only [Option.some.injEq, Addr.mk.injEq] at e
  obtain ⟨rfl, rfl, _⟩ := e
  have := hc 2 _ rfl
  rwa [Nat.zero_add] at this

set_option maxRecDepth 100000 in
set_option maxHeartbeats 8000000 in
theorem refRead6_any (s : ByteArray) (w : World) (hs : s.size ≤ 1073741824) : Calls Tryz.prog 18 #[.string s] w (ReadPost6 s w) := by
  obtain ⟨i0, hi0, hz0, hz1, hz2⟩ := info_parts infoRow
  obtain ⟨j0, hj0, hy0, hy1, hy2⟩ := info_parts infoLine
  have HRD := hide (refRead_any s w hs)
  go_enter Tryz.func18, Tryz.ntmps18
  go_wp2_with fail
  refine (unhide HRD).mono ?_
  rintro e w1 ⟨hb1, (⟨hnone, va, rfl, ps, hps, hrl⟩ | ⟨no, code, hsome, rfl⟩)⟩
  rotate_left
  · have hc0 := rd_code s _ no code hsome
    have hc1 : (code != 0) = true := by simpa using hc0
    have HS : Hid ((rowsS s).2 = some ((no : Int), code)) := by
      show _ = _
      unfold rowsS; rw [hsome]
    have HC := hide hc0
    clear hsome hc0
    go_wp2
    refine bodyPost_ret (rread_results rfl rfl rfl) rfl ⟨hb1, .inr ⟨_, _, unhide HS, unhide HC, rfl⟩⟩
  have hrS : rowsS s = tellR (eachR startW (readS s).1) := by unfold rowsS; rw [hnone]
  have hfl : ∀ p ∈ ps, ∀ x ∈ p.1.fields, x.length ≤ 1073741824 := fun p hp x hx => Nat.le_trans (read_field_le (s := s) (d := p.1) (by rw [← hps]; exact List.mem_map_of_mem hp) hx) hs
  have hpl : ps.length ≤ s.size + 2 := by
    have e : ps.length = (readS s).1.length := by rw [← hps]; simp
    have h3 : ∀ l : List (Nat × Nat × Nat), (rdS s l).1.length ≤ l.length := by
      intro l
      induction l with
      | nil => simp [rdS]
      | cons x l ih => unfold rdS; split <;> simp <;> omega
    have h4 := h3 (linesL s)
    have h5 : (linesL s).length ≤ (extsL s).length := (List.takeWhile_sublist _).length_le
    have h6 := exts_len s
    have h7 : (readS s).1.length = (rdS s (linesL s)).1.length := rfl
    omega
  obtain ⟨ra, rc, rfl, hrow⟩ := rowL_at hrl
  rw [← hps] at hrS
  obtain ⟨N, hN⟩ : ∃ N, ps.length = N := ⟨_, rfl⟩
  rw [hN] at hpl ⊢
  have HRW := hide hrow
  have HR := hide hrl
  have HFL := hide hfl
  have HN := hide hN
  have HRS := hide hrS
  have HB1 := hide hb1
  clear hnone hps hrl hrow hfl hN hrS hb1 HRD
  go_wp2
  go_loopw [8, 9, 10] (fun v8 v9 v10 wr => ∃ (i : Nat) (out : List RowD) (st : WalkD), v10 = .int .i64 i ∧ i ≤ N ∧ out.length ≤ i ∧ Hid (out.map (fun r => (r, (0 : Int))) ++ eachR st ((ps.map (·.1)).drop i) = eachR startW (ps.map (·.1))) ∧ Hid (StD st out) ∧ wr.ownsRow w1.heap.size 29 9 v8 out.length (rowsC out) ∧ Hid (OverAt w1 wr st v9) ∧ Below w1.heap.size w1 wr) (fun _ _ v10 _ => N - (RowKit.intOf v10).toNat)
  case atStart => exact ⟨0, [], startW, rfl, Nat.zero_le _, Nat.le_refl _, rfl, stD_start, World.ownsRow_nil _ _ _ _, rfl, Below.refl _ _⟩
  case round =>
    obtain ⟨i, out, st, rfl, hi, hoi, HE, HSD, hown, HOV, hbw⟩ := hrel
    obtain ⟨M, hM⟩ : ∃ M, out.length = M := ⟨_, rfl⟩
    rw [hM] at hown hoi
    obtain ⟨oa, oc, rfl⟩ := row_slice2 hown
    have hMb : M ≤ 1099511627776 := by omega
    have HM := hide hM
    have HOWN := hide hown
    have HBW := hide hbw
    clear hM hown hbw
    by_cases hlt : i < N
    · have hlt' : (i : Int) < (N : Int) := by omega
      obtain ⟨⟨d, fv⟩, hp⟩ : ∃ p, ps[i]? = some p := ⟨_, List.getElem?_eq_getElem (by rw [unhide HN]; exact hlt)⟩
      obtain ⟨g, rfl, hgl, hcl⟩ := unhide HRW i _ hp
      have hfv := texts_tx ((unhide HR).2 _ (List.mem_of_getElem? hp))
      simp only at hfv
      obtain ⟨fa, fc, rfl, hfc, hTx⟩ := hfv
      have L0 : Hid (∀ V, Below w1.heap.size w1 V → V.cell? ⟨g, i * 5, none⟩ = some (.int .i64 d.no)) := fun V hV => (hV.cell (p := ⟨g, i * 5, none⟩) hgl).trans (hcl 0 _ (by omega) rfl)
      have L1 : Hid (∀ V, Below w1.heap.size w1 V → V.cell? ⟨g, i * 5 + 1, none⟩ = some (.int .u8 d.kind)) := fun V hV => (hV.cell (p := ⟨g, i * 5 + 1, none⟩) hgl).trans (hcl 1 _ (by omega) rfl)
      have L2 : Hid (∀ V, Below w1.heap.size w1 V → V.cell? ⟨g, i * 5 + 2, none⟩ = some (.string (S d.name))) := fun V hV => (hV.cell (p := ⟨g, i * 5 + 2, none⟩) hgl).trans (hcl 2 _ (by omega) rfl)
      have L3 : Hid (∀ V, Below w1.heap.size w1 V → V.cell? ⟨g, i * 5 + 3, none⟩ = some (.slice fa d.fields.length fc)) := fun V hV => (hV.cell (p := ⟨g, i * 5 + 3, none⟩) hgl).trans (hcl 3 _ (by omega) rfl)
      have L4 : Hid (∀ V, Below w1.heap.size w1 V → V.cell? ⟨g, i * 5 + 4, none⟩ = some (.string (S d.note))) := fun V hV => (hV.cell (p := ⟨g, i * 5 + 4, none⟩) hgl).trans (hcl 4 _ (by omega) rfl)
      have hdr : (ps.map (·.1)).drop i = d :: (ps.map (·.1)).drop (i + 1) := by
        have hil : i < (ps.map (·.1)).length := by rw [List.length_map, unhide HN]; exact hlt
        rw [List.drop_eq_getElem_cons hil]
        congr 1
        rw [List.getElem_map]
        have := (List.getElem?_eq_some_iff.1 hp).2
        rw [this]
      have hfs := unhide HFL _ (List.mem_of_getElem? hp)
      simp only at hfs
      have HE' := unhide HE
      rw [hdr, show eachR st (d :: (ps.map (·.1)).drop (i + 1)) = (stepR st d).1 ++ eachR (stepR st d).2 ((ps.map (·.1)).drop (i + 1)) from rfl] at HE'
      have HEE := hide HE'
      have HTX := hide hTx
      have HFS := hide hfs
      have hq1 : IntKind.i64.wrap ((i : Int) + 1) = (i : Int) + 1 := by rw [IntKind.wrap_i64]; omega
      have l0 := unhide L0 wr (unhide HBW)
      have l1 := unhide L1 wr (unhide HBW)
      have l2 := unhide L2 wr (unhide HBW)
      have l3 := unhide L3 wr (unhide HBW)
      have l4 := unhide L4 wr (unhide HBW)
      clear hdr HE HE' hcl hp hTx hfs
      by_cases hsk : d.kind = 0 ∨ d.kind = 3
      · have hst := step_blank (st := st) hsk
        have HST := hide hst
        clear hst
        have hsk' : ((d.kind == 0) = true) ∨ ((d.kind == 0) = false ∧ (d.kind == 3) = true) := by
          rcases hsk with h | h
          · left; simp [h]
          · right; simp [h]
        clear hsk
        rcases hsk' with k0 | ⟨k0, k3⟩
        · go_wp2
          go_roundw
          case rel =>
            have he := unhide HEE
            rw [unhide HST] at he
            exact ⟨i + 1, out, st, by go_num, by omega, by have := unhide HM; omega, he, unhide HSD, by rw [unhide HM]; exact unhide HOWN, unhide HOV, unhide HBW⟩
          case measure => simp [RowKit.intOf]; omega
        · go_wp2
          go_roundw
          case rel =>
            have he := unhide HEE
            rw [unhide HST] at he
            exact ⟨i + 1, out, st, by go_num, by omega, by have := unhide HM; omega, he, unhide HSD, by rw [unhide HM]; exact unhide HOWN, unhide HOV, unhide HBW⟩
          case measure => simp [RowKit.intOf]; omega
      have k0 : (d.kind == 0) = false := by simp only [beq_eq_false_iff_ne]; intro h; exact hsk (.inl h)
      have k3 : (d.kind == 3) = false := by simp only [beq_eq_false_iff_ne]; intro h; exact hsk (.inr h)
      have HSK := hide hsk
      have HSC := hide (refScan_any d fa fc wr ((unhide HTX).below (unhide HBW)) (unhide HFS))
      obtain ⟨R, hR⟩ : ∃ R, (scanR d).1 = R := ⟨_, rfl⟩
      obtain ⟨E, hE⟩ : ∃ E, (scanR d).2 = E := ⟨_, rfl⟩
      rw [hR, hE] at HSC
      have HRR := hide hR
      have HEQ := hide hE
      clear hR hE hsk
      go_wp2_with fail
      refine (unhide HSC).mono ?_
      rintro e w2 ⟨rfl, hb2⟩
      obtain ⟨W3, hW3⟩ : ∃ W3, w2.alloc (.cells #[.int .i64 R.line, .int .i32 R.first, .int .i32 R.last, .string (S R.name), .string (S R.cat), .int .u8 R.comb, .int .u8 R.cls, .int .i32 R.twin, .bool R.mir] 29) = W3 := ⟨_, rfl⟩
      have b23 : Below w2.heap.size w2 W3 := by rw [← hW3]; exact (Below.refl _ w2).alloc (Nat.le_refl _) _
      have r3 : RowAt W3 w2.heap.size R := by rw [← hW3]; exact heap_alloc_new w2 _
      have s3 : W3.heap.size = w2.heap.size + 1 := by rw [← hW3]; simp
      have bw3 : Below wr.heap.size wr W3 := hb2.trans (b23.mono hb2.size)
      have b13 : Below w1.heap.size w1 W3 := (unhide HBW).trans (bw3.mono (unhide HBW).size)
      have s2 := hb2.size
      have R3 := hide r3
      have BW3 := hide bw3
      have B13 := hide b13
      have rc3 := r3.cell (j := 3) rfl
      clear hb2 b23 r3 bw3 b13 l0 l1 l2 l3 l4 HSC
      by_cases hE0 : E = 0
      case neg =>
        have hE1 : (E != 0) = true := by simpa using hE0
        have l0 := unhide L0 W3 (unhide B13)
        have HT : Hid ((rowsS s).2 = some (d.no, E)) := by
          show _ = _
          have he := unhide HEE
          rw [step_scan (st := st) (unhide HSK) (by rw [unhide HEQ]; exact hE0), unhide HEQ] at he
          rw [unhide HRS]
          exact tell_at he hE0
        have HE0 := hide hE0
        clear hE0 rc3
        go_wp2
        clear hW3
        go_quiet (fail)
        go_wp2
        refine bodyPost_ret (rread_results rfl rfl rfl) rfl ⟨?_, .inr ⟨_, _, unhide HT, unhide HE0, rfl⟩⟩
        exact (unhide HB1).trans ((below_drewN (unhide B13) nq).mono (unhide HB1).size)
      subst hE0
      have hnm : R.name.length ≤ 1073741824 := by rw [← unhide HRR]; exact scan_name d _ (unhide HFS)
      have HHF := hide (refHalf_any (S R.name) W3 (by have := S_size R.name; omega))
      have hLS : L (S R.name) = R.name := rfl
      rw [hLS] at HHF
      have hwd : whichR d = (halfP R.name).2 := by rw [← unhide HRR]; rfl
      have hpn : (plainR d).name = (halfP R.name).1 := by rw [← unhide HRR]; rfl
      obtain ⟨nf, hnf1, hnf2, hnf3⟩ := scan_first (unhide HEQ)
      rw [unhide HRR] at hnf2 hnf3
      have HLO : Hid (0 ≤ R.first ∧ R.first ≤ 1114111) := by show _ ∧ _; omega
      have HLF : Hid (R.last = R.first) := by show _ = _; omega
      clear hnf1 hnf2 hnf3
      go_wp2_with fail
      clear hW3
      refine (unhide HHF).mono ?_
      rintro e w4 ⟨rfl, hb4⟩
      have b14 := (unhide B13).trans (hb4.mono (unhide B13).size)
      have bw4 := (unhide BW3).trans (hb4.mono (unhide BW3).size)
      have r4 := (unhide R3).below hb4
      have rc1 := r4.cell (j := 1) rfl
      have HOW4 := hide (own_bel (unhide HOWN) bw4)
      have HOV4 := hide ((unhide HOV).below bw4)
      have R4 := hide r4
      have B14 := hide b14
      have BW4 := hide bw4
      have s4 := hb4.size
      clear hb4 b14 bw4 r4 HHF rc3 hLS
      cases hh : st.held with
      | none =>
        have hv9 := overAt_none hh (unhide HOV4)
        subst hv9
        rcases which_cases d with hw | hw | hw
        · have hhv : halfV R.name = .tuple #[.string ⟨#[]⟩, .bool false, .bool false] := by unfold halfV; rw [← hwd, hw]; rfl
          rw [hhv]
          have HPR : Hid (plainR d = R) := by show _ = _; rw [plain_row hw, unhide HRR]
          clear hwd hpn hhv
          have hn1 : stepE st d 1 = 0 := (name_free hh).2 (by omega)
          have HN1 := hide hn1
          have hab := (unhide HSD).ab hh
          have hpf : (plainR d).first = R.first := by rw [← unhide HRR]; rfl
          clear hn1
          by_cases hM0 : M = 0
          · subst hM0
            have hon : out = [] := List.eq_nil_of_length_eq_zero (unhide HM)
            have HRI : Hid (st.above < (plainR d).first) := by
              show _ < _
              rw [hpf, hab, hon]
              have := unhide HLO
              show -1 < R.first
              omega
            clear hon hab
            go_wp2
            go_quiet (fail)
            have BX := hide (below_drewN (unhide B14) nq)
            have RX : Hid (RowAt (w4.drewN nq) w2.heap.size R) := unhide R4
            have OX : (w4.drewN nq).ownsRow w1.heap.size 29 9 (.slice oa 0 oc) 0 (rowsC out) := unhide HOW4
            have OXH := hide OX
            clear rc1 OX
            generalize w4.drewN nq = X at *
            have HNEW : Hid (stepR st d = ([(R, 0)], ⟨R.first, none⟩)) := by
              show _ = _
              have h := step_row (st := st) (unhide HSK) (unhide HEQ) (unhide HN1) (Int.not_le.2 (unhide HRI)) (by omega) (by omega)
              rw [h, unhide HPR, hh]
            have HOX : Hid (X.ownsRow w1.heap.size 29 9 (.slice oa 0 oc) 0 (rowsC out)) := unhide OXH
            have rx := unhide RX
            have rx0 := rx.cell (j := 0) rfl
            have rx1 := rx.cell (j := 1) rfl
            have rx2 := rx.cell (j := 2) rfl
            have rx3 := rx.cell (j := 3) rfl
            have rx4 := rx.cell (j := 4) rfl
            have rx5 := rx.cell (j := 5) rfl
            have rx6 := rx.cell (j := 6) rfl
            have rx7 := rx.cell (j := 7) rfl
            have rx8 := rx.cell (j := 8) rfl
            clear rx
            have hsX : w1.heap.size ≤ X.heap.size := (unhide BX).size
            go_wp2_with (at_builtin; refine wpList_append_own_at _ rfl _ _ 37 rfl w1.heap.size 29 i0 _ 9 64 Tryz.underlying37 hi0 hz0 hz1 hz2 rfl (by decide) _ _ _ rfl ((unhide HOX).alloc _) ⟨X.heap.size, 0, none⟩ 1 1 (rowC R) rfl rfl (cells_new _ _ _) (by simp [Value.oneCell']) (by unfold maxLen; omega) (by omega) (by simp; omega) ?_; intro v8 w8 hown8 hgrow8 _ _; obtain ⟨g8, c8, rfl⟩ := ownsRow_succ hown8)
            have b8 : Below w1.heap.size w1 w8 := belowG ((unhide BX).alloc hsX _) (by simp; omega) ((unhide HOX).alloc _) hgrow8
            go_roundw
            case rel =>
              have he := unhide HEE
              rw [unhide HNEW] at he
              refine ⟨i + 1, out ++ [R], ⟨R.first, none⟩, by go_num, by omega, by have := unhide HM; simp; omega, snoc_front he, stD_put (unhide HLF), ?_, rfl, b8⟩
              rw [List.length_append, unhide HM, rowsC_snoc]
              exact hown8
            case measure => simp [RowKit.intOf]; omega
          · obtain ⟨r0, hr0⟩ : ∃ r, out.getLast? = some r := by
              cases hg : out.getLast? with
              | none => rw [List.getLast?_eq_none_iff] at hg; exact absurd (by rw [← unhide HM, hg]; rfl) hM0
              | some r => exact ⟨r, rfl⟩
            have habv : st.above = r0.last := by rw [hab]; unfold aboveOf; rw [hr0]
            obtain ⟨og, oc', he8, q1, q2, q3, q4⟩ := row_form (unhide HOW4) (by omega)
            obtain ⟨rfl, rfl⟩ : oa = some ⟨og, 0, none⟩ ∧ oc = oc' := by simpa using he8
            have hcl := row_last (unhide HOW4) (unhide HM) hr0
            have tn : ((M : Int) - 1).toNat = M - 1 := by omega
            have hw1 : IntKind.i64.wrap ((M : Int) - 1) = (M : Int) - 1 := by rw [IntKind.wrap_i64]; omega
            have hMp : (0 : Int) < (M : Int) := by omega
            have hMd : decide ((0 : Int) < (M : Int)) = true := decide_eq_true hMp
            have hMd2 : decide (0 < M) = true := decide_eq_true (by omega)
            have hMq : 0 < M := by omega
            have hm2 : maxLen = 9223372036854775807 := rfl
            rw [hm2] at q2
            clear he8 hab
            by_cases hle : R.first ≤ r0.last
            · have hd : decide (R.first ≤ r0.last) = true := decide_eq_true hle
              have HRI : Hid ((plainR d).first ≤ st.above) := by
                show _ ≤ _
                rw [hpf, habv]; exact hle
              clear habv hpf
              go_wp2
              go_quiet (fail)
              have BX := hide (below_drewN (unhide B14) nq)
              clear rc1 hcl
              generalize w4.drewN nq = X at *
              have l0 := unhide L0 X (unhide BX)
              have HT : Hid ((rowsS s).2 = some (d.no, 62)) := by
                show _ = _
                have he := unhide HEE
                rw [step_rising (st := st) (unhide HSK) (unhide HEQ) (unhide HN1) (unhide HRI)] at he
                rw [unhide HRS]
                exact tell_at he (by show (62 : Int) ≠ 0; decide)
              go_wp2
              go_quiet (fail)
              go_wp2
              refine bodyPost_ret (rread_results rfl rfl rfl) rfl ⟨?_, .inr ⟨_, _, unhide HT, by decide, rfl⟩⟩
              exact (unhide HB1).trans ((below_drewN (unhide BX) nq).mono (unhide HB1).size)
            · have hd : decide (R.first ≤ r0.last) = false := decide_eq_false hle
              have HRI : Hid (st.above < (plainR d).first) := by
                show _ < _
                rw [hpf, habv]; omega
              clear habv
              go_wp2
              go_quiet (fail)
              have BX := hide (below_drewN (unhide B14) nq)
              have RX : Hid (RowAt (w4.drewN nq) w2.heap.size R) := unhide R4
              have OX : (w4.drewN nq).ownsRow w1.heap.size 29 9 (.slice (some ⟨og, 0, none⟩) M oc) M (rowsC out) := unhide HOW4
              have OXH := hide OX
              clear rc1 hcl OX
              generalize w4.drewN nq = X at *
              have HNEW : Hid (stepR st d = ([(R, 0)], ⟨R.first, none⟩)) := by
                show _ = _
                have h := step_row (st := st) (unhide HSK) (unhide HEQ) (unhide HN1) (Int.not_le.2 (unhide HRI)) (by omega) (by omega)
                rw [h, unhide HPR, hh]
              have HOX : Hid (X.ownsRow w1.heap.size 29 9 (.slice (some ⟨og, 0, none⟩) M oc) M (rowsC out)) := unhide OXH
              have rx := unhide RX
              have rx0 := rx.cell (j := 0) rfl
              have rx1 := rx.cell (j := 1) rfl
              have rx2 := rx.cell (j := 2) rfl
              have rx3 := rx.cell (j := 3) rfl
              have rx4 := rx.cell (j := 4) rfl
              have rx5 := rx.cell (j := 5) rfl
              have rx6 := rx.cell (j := 6) rfl
              have rx7 := rx.cell (j := 7) rfl
              have rx8 := rx.cell (j := 8) rfl
              clear rx
              have hsX : w1.heap.size ≤ X.heap.size := (unhide BX).size
              go_wp2_with (at_builtin; refine wpList_append_own_at _ rfl _ _ 37 rfl w1.heap.size 29 i0 _ 9 64 Tryz.underlying37 hi0 hz0 hz1 hz2 rfl (by decide) _ _ _ rfl ((unhide HOX).alloc _) ⟨X.heap.size, 0, none⟩ 1 1 (rowC R) rfl rfl (cells_new _ _ _) (by simp [Value.oneCell']) (by unfold maxLen; omega) (by omega) (by simp; omega) ?_; intro v8 w8 hown8 hgrow8 _ _; obtain ⟨g8, c8, rfl⟩ := ownsRow_succ hown8)
              have b8 : Below w1.heap.size w1 w8 := belowG ((unhide BX).alloc hsX _) (by simp; omega) ((unhide HOX).alloc _) hgrow8
              go_roundw
              case rel =>
                have he := unhide HEE
                rw [unhide HNEW] at he
                refine ⟨i + 1, out ++ [R], ⟨R.first, none⟩, by go_num, by omega, by have := unhide HM; simp; omega, snoc_front he, stD_put (unhide HLF), ?_, rfl, b8⟩
                rw [List.length_append, unhide HM, rowsC_snoc]
                exact hown8
              case measure => simp [RowKit.intOf]; omega
        · obtain ⟨P, hP⟩ : ∃ P, (halfP R.name).1 = P := ⟨_, rfl⟩
          have hhv : halfV R.name = .tuple #[.string (S P), .bool true, .bool true] := by unfold halfV; rw [← hwd, hw, hP]; rfl
          rw [hhv]
          clear hwd hpn hhv hP
          have hn1 : stepE st d 1 = 0 := (name_free hh).2 (by omega)
          have HN1 := hide hn1
          have hab := (unhide HSD).ab hh
          have hpf : (plainR d).first = R.first := by rw [← unhide HRR]; rfl
          clear hn1
          by_cases hM0 : M = 0
          · subst hM0
            have hon : out = [] := List.eq_nil_of_length_eq_zero (unhide HM)
            have HRI : Hid (st.above < (plainR d).first) := by
              show _ < _
              rw [hpf, hab, hon]
              have := unhide HLO
              show -1 < R.first
              omega
            clear hon hab
            go_wp2
            go_quiet (fail)
            have BX := hide (below_drewN (unhide B14) nq)
            have RX : Hid (RowAt (w4.drewN nq) w2.heap.size R) := unhide R4
            have OX : (w4.drewN nq).ownsRow w1.heap.size 29 9 (.slice oa 0 oc) 0 (rowsC out) := unhide HOW4
            have OXH := hide OX
            clear rc1 OX
            generalize w4.drewN nq = X at *
            have HNEW : Hid (stepR st d = ([], ⟨(plainR d).first, some (d, plainR d)⟩)) := step_first (st := st) (unhide HSK) (unhide HEQ) (unhide HN1) (Int.not_le.2 (unhide HRI)) hw
            have HOX : Hid (X.ownsRow w1.heap.size 29 9 (.slice oa 0 oc) 0 (rowsC out)) := unhide OXH
            have l0 := unhide L0 X (unhide BX)
            have l1 := unhide L1 X (unhide BX)
            have l2 := unhide L2 X (unhide BX)
            have l3 := unhide L3 X (unhide BX)
            have l4 := unhide L4 X (unhide BX)
            have hsX : w1.heap.size ≤ X.heap.size := (unhide BX).size
            go_wp2_with (at_builtin; refine wpList_append_own_at _ rfl _ _ 85 rfl X.heap.size 25 j0 _ 5 72 Tryz.underlying85 hj0 hy0 hy1 hy2 rfl (by decide) _ _ _ rfl (World.ownsRow_nil _ _ _ _) ⟨X.heap.size, 0, none⟩ 1 1 [.int .i64 d.no, .int .u8 d.kind, .string (S d.name), .slice fa d.fields.length fc, .string (S d.note)] rfl rfl (cells_new _ _ _) (by simp [Value.oneCell']) (by unfold maxLen; omega) (by omega) (by simp) ?_; intro v9' w8 hown8 hgrow8 _ _; obtain ⟨g8, c8, rfl⟩ := ownsRow_succ hown8)
            have b88 : Below X.heap.size X w8 := belowG ((Below.refl _ X).alloc (Nat.le_refl _) _) (by simp) ((World.ownsRow_nil X X.heap.size 25 5).alloc _) hgrow8
            have b8 : Below w1.heap.size w1 w8 := (unhide BX).trans (b88.mono (unhide BX).size)
            go_roundw
            case rel =>
              have he := unhide HEE
              rw [unhide HNEW] at he
              refine ⟨i + 1, out, ⟨(plainR d).first, some (d, plainR d)⟩, by go_num, by omega, by have := unhide HM; omega, he, stD_first (st := st) (unhide HEQ) hw, by rw [unhide HM]; exact own_bel (unhide HOX) b88, ?_, b8⟩
              have h15 := scan_fields (unhide HEQ)
              rcases hown8.2 with ⟨e, _⟩ | ⟨g', cap, cur, e, _, hh', q1, q2, q3, q4⟩
              · cases e
              · simp at e
                obtain ⟨rfl, rfl⟩ := e
                refine ⟨fa, fc, g8, c8, h15, unhide HTX, unhide HFS, rfl, q1, cur, hh', fun j u hu => ?_⟩
                have hj := (List.getElem?_eq_some_iff.1 hu).1
                simp only [List.length_cons, List.length_nil] at hj
                rw [h15] at q4
                have := congrArg (fun l => l[j]?) q4
                simp only [List.getElem?_take, show j < (0 + 1) * 5 by omega, if_true, List.nil_append] at this
                rw [hu] at this
                simpa using this
            case measure => simp [RowKit.intOf]; omega
          · obtain ⟨r0, hr0⟩ : ∃ r, out.getLast? = some r := by
              cases hg : out.getLast? with
              | none => rw [List.getLast?_eq_none_iff] at hg; exact absurd (by rw [← unhide HM, hg]; rfl) hM0
              | some r => exact ⟨r, rfl⟩
            have habv : st.above = r0.last := by rw [hab]; unfold aboveOf; rw [hr0]
            obtain ⟨og, oc', he8, q1, q2, q3, q4⟩ := row_form (unhide HOW4) (by omega)
            obtain ⟨rfl, rfl⟩ : oa = some ⟨og, 0, none⟩ ∧ oc = oc' := by simpa using he8
            have hcl := row_last (unhide HOW4) (unhide HM) hr0
            have tn : ((M : Int) - 1).toNat = M - 1 := by omega
            have hw1 : IntKind.i64.wrap ((M : Int) - 1) = (M : Int) - 1 := by rw [IntKind.wrap_i64]; omega
            have hMp : (0 : Int) < (M : Int) := by omega
            have hMd : decide ((0 : Int) < (M : Int)) = true := decide_eq_true hMp
            have hMd2 : decide (0 < M) = true := decide_eq_true (by omega)
            have hMq : 0 < M := by omega
            have hm2 : maxLen = 9223372036854775807 := rfl
            rw [hm2] at q2
            clear he8 hab
            by_cases hle : R.first ≤ r0.last
            · have hd : decide (R.first ≤ r0.last) = true := decide_eq_true hle
              have HRI : Hid ((plainR d).first ≤ st.above) := by
                show _ ≤ _
                rw [hpf, habv]; exact hle
              clear habv hpf
              go_wp2
              go_quiet (fail)
              have BX := hide (below_drewN (unhide B14) nq)
              clear rc1 hcl
              generalize w4.drewN nq = X at *
              have l0 := unhide L0 X (unhide BX)
              have HT : Hid ((rowsS s).2 = some (d.no, 62)) := by
                show _ = _
                have he := unhide HEE
                rw [step_rising (st := st) (unhide HSK) (unhide HEQ) (unhide HN1) (unhide HRI)] at he
                rw [unhide HRS]
                exact tell_at he (by show (62 : Int) ≠ 0; decide)
              go_wp2
              go_quiet (fail)
              go_wp2
              refine bodyPost_ret (rread_results rfl rfl rfl) rfl ⟨?_, .inr ⟨_, _, unhide HT, by decide, rfl⟩⟩
              exact (unhide HB1).trans ((below_drewN (unhide BX) nq).mono (unhide HB1).size)
            · have hd : decide (R.first ≤ r0.last) = false := decide_eq_false hle
              have HRI : Hid (st.above < (plainR d).first) := by
                show _ < _
                rw [hpf, habv]; omega
              clear habv
              go_wp2
              go_quiet (fail)
              have BX := hide (below_drewN (unhide B14) nq)
              have RX : Hid (RowAt (w4.drewN nq) w2.heap.size R) := unhide R4
              have OX : (w4.drewN nq).ownsRow w1.heap.size 29 9 (.slice (some ⟨og, 0, none⟩) M oc) M (rowsC out) := unhide HOW4
              have OXH := hide OX
              clear rc1 hcl OX
              generalize w4.drewN nq = X at *
              have HNEW : Hid (stepR st d = ([], ⟨(plainR d).first, some (d, plainR d)⟩)) := step_first (st := st) (unhide HSK) (unhide HEQ) (unhide HN1) (Int.not_le.2 (unhide HRI)) hw
              have HOX : Hid (X.ownsRow w1.heap.size 29 9 (.slice (some ⟨og, 0, none⟩) M oc) M (rowsC out)) := unhide OXH
              have l0 := unhide L0 X (unhide BX)
              have l1 := unhide L1 X (unhide BX)
              have l2 := unhide L2 X (unhide BX)
              have l3 := unhide L3 X (unhide BX)
              have l4 := unhide L4 X (unhide BX)
              have hsX : w1.heap.size ≤ X.heap.size := (unhide BX).size
              go_wp2_with (at_builtin; refine wpList_append_own_at _ rfl _ _ 85 rfl X.heap.size 25 j0 _ 5 72 Tryz.underlying85 hj0 hy0 hy1 hy2 rfl (by decide) _ _ _ rfl (World.ownsRow_nil _ _ _ _) ⟨X.heap.size, 0, none⟩ 1 1 [.int .i64 d.no, .int .u8 d.kind, .string (S d.name), .slice fa d.fields.length fc, .string (S d.note)] rfl rfl (cells_new _ _ _) (by simp [Value.oneCell']) (by unfold maxLen; omega) (by omega) (by simp) ?_; intro v9' w8 hown8 hgrow8 _ _; obtain ⟨g8, c8, rfl⟩ := ownsRow_succ hown8)
              have b88 : Below X.heap.size X w8 := belowG ((Below.refl _ X).alloc (Nat.le_refl _) _) (by simp) ((World.ownsRow_nil X X.heap.size 25 5).alloc _) hgrow8
              have b8 : Below w1.heap.size w1 w8 := (unhide BX).trans (b88.mono (unhide BX).size)
              go_roundw
              case rel =>
                have he := unhide HEE
                rw [unhide HNEW] at he
                refine ⟨i + 1, out, ⟨(plainR d).first, some (d, plainR d)⟩, by go_num, by omega, by have := unhide HM; omega, he, stD_first (st := st) (unhide HEQ) hw, by rw [unhide HM]; exact own_bel (unhide HOX) b88, ?_, b8⟩
                have h15 := scan_fields (unhide HEQ)
                rcases hown8.2 with ⟨e, _⟩ | ⟨g', cap, cur, e, _, hh', q1, q2, q3, q4⟩
                · cases e
                · simp at e
                  obtain ⟨rfl, rfl⟩ := e
                  refine ⟨fa, fc, g8, c8, h15, unhide HTX, unhide HFS, rfl, q1, cur, hh', fun j u hu => ?_⟩
                  have hj := (List.getElem?_eq_some_iff.1 hu).1
                  simp only [List.length_cons, List.length_nil] at hj
                  rw [h15] at q4
                  have := congrArg (fun l => l[j]?) q4
                  simp only [List.getElem?_take, show j < (0 + 1) * 5 by omega, if_true, List.nil_append] at this
                  rw [hu] at this
                  simpa using this
              case measure => simp [RowKit.intOf]; omega
        · obtain ⟨P, hP⟩ : ∃ P, (halfP R.name).1 = P := ⟨_, rfl⟩
          have hhv : halfV R.name = .tuple #[.string (S P), .bool false, .bool true] := by unfold halfV; rw [← hwd, hw, hP]; rfl
          rw [hhv]
          have hn1 : stepE st d 1 ≠ 0 := fun h => (name_free hh).1 h hw
          have HN1 := hide hn1
          clear hwd hpn hhv hP hn1 rc1
          have l0 := unhide L0 w4 (unhide B14)
          have HT : Hid ((rowsS s).2 = some (d.no, 61)) := by
            show _ = _
            have he := unhide HEE
            rw [step_name (st := st) (unhide HSK) (unhide HEQ) (unhide HN1)] at he
            rw [unhide HRS]
            exact tell_at he (by show (61 : Int) ≠ 0; decide)
          go_wp2
          go_quiet (fail)
          go_wp2
          refine bodyPost_ret (rread_results rfl rfl rfl) rfl ⟨?_, .inr ⟨_, _, unhide HT, by decide, rfl⟩⟩
          exact (unhide HB1).trans ((below_drewN (unhide B14) nq).mono (unhide HB1).size)
      | some o =>
        obtain ⟨od, orow⟩ := o
        obtain ⟨hd1, hd2, hd3, hd4⟩ := (unhide HSD).hd _ hh
        simp only at hd1 hd2 hd3 hd4
        obtain ⟨fa2, fc2, g2, c2, h15, hT2, hF2, hv9, hc2, hlo⟩ := overAt_some hh (unhide HOV4)
        simp only at h15 hT2 hF2 hlo
        subst hv9
        obtain ⟨pv, ff, hf, hhv, hwc⟩ : ∃ pv ff hf, halfV R.name = .tuple #[.string pv, .bool ff, .bool hf] ∧ ((whichR d = 0 ∧ hf = false) ∨ (whichR d = 1 ∧ ff = true ∧ hf = true) ∨ (whichR d = 2 ∧ ff = false ∧ hf = true ∧ pv = S (plainR d).name)) := by
          rcases which_cases d with hw | hw | hw
          · exact ⟨_, _, _, by unfold halfV; rw [← hwd, hw]; rfl, .inl ⟨hw, rfl⟩⟩
          · exact ⟨_, _, _, by unfold halfV; rw [← hwd, hw]; rfl, .inr (.inl ⟨hw, rfl, rfl⟩)⟩
          · exact ⟨_, _, _, by unfold halfV; rw [← hwd, hw]; rfl, .inr (.inr ⟨hw, rfl, rfl, by rw [hpn]⟩)⟩
        rw [hhv]
        have hso := refScan_any od fa2 fc2 w4 (hT2.below (unhide B14)) hF2
        rw [h15] at hso
        obtain ⟨Ro, hRo⟩ : ∃ Ro, (scanR od).1 = Ro := ⟨_, rfl⟩
        rw [hRo, hd2] at hso
        have hno : Ro.name.length ≤ 1073741824 := by rw [← hRo]; exact scan_name od _ hF2
        have hwo : (halfP Ro.name).2 = 1 := by rw [← hRo]; exact hd3
        obtain ⟨Q, hQ⟩ : ∃ Q, (halfP Ro.name).1 = Q := ⟨_, rfl⟩
        have hho : halfV Ro.name = .tuple #[.string (S Q), .bool true, .bool true] := by unfold halfV; rw [hwo, hQ]; rfl
        have horow : orow = { Ro with name := Q } := by rw [hd1, ← hQ, ← hRo]; rfl
        have habv : st.above = Ro.first := by rw [hd4, ← hRo]; rfl
        have hpf : (plainR d).first = R.first := by rw [← unhide HRR]; rfl
        have hpl2 : (plainR d).last = R.last := by rw [← unhide HRR]; rfl
        have HSO := hide hso
        have HORW := hide horow
        have HABV := hide habv
        have HPF := hide hpf
        have HPL := hide hpl2
        have HHH := hide hh
        have HT2 := hide hT2
        have H15 := hide h15
        have HLO9 := hide hlo
        have c0 := hlo.cell (j := 0) rfl
        have c1 := hlo.cell (j := 1) rfl
        have c2' := hlo.cell (j := 2) rfl
        have c3 := hlo.cell (j := 3) rfl
        have c4 := hlo.cell (j := 4) rfl
        clear hd1 hd2 hd3 hd4 hso hRo hwo hQ horow habv hpf hpl2 hh hlo hT2 hF2 h15 hhv hwd hpn rc1
        go_wp2_with fail
        refine (unhide HSO).mono ?_
        rintro e w5 ⟨rfl, hb5⟩
        obtain ⟨W6, hW6⟩ : ∃ W6, w5.alloc (.cells #[.int .i64 Ro.line, .int .i32 Ro.first, .int .i32 Ro.last, .string (S Ro.name), .string (S Ro.cat), .int .u8 Ro.comb, .int .u8 Ro.cls, .int .i32 Ro.twin, .bool Ro.mir] 29) = W6 := ⟨_, rfl⟩
        have b56 : Below w5.heap.size w5 W6 := by rw [← hW6]; exact (Below.refl _ w5).alloc (Nat.le_refl _) _
        have r6 : RowAt W6 w5.heap.size Ro := by rw [← hW6]; exact heap_alloc_new w5 _
        have b46 : Below w4.heap.size w4 W6 := hb5.trans (b56.mono hb5.size)
        have s5 := hb5.size
        have s6 : W6.heap.size = w5.heap.size + 1 := by rw [← hW6]; simp
        have qn := r6.cell (j := 3) rfl
        have hhf := refHalf_any (S Ro.name) W6 (by have := S_size Ro.name; omega)
        have hLS : L (S Ro.name) = Ro.name := rfl
        rw [hLS, hho] at hhf
        have HHF := hide hhf
        have R6 := hide r6
        have B46 := hide b46
        clear hb5 b56 r6 b46 hhf hLS hho c0 c1 c2' c3 c4 HSO
        go_wp2_with fail
        clear hW6 qn
        refine (unhide HHF).mono ?_
        rintro e w7 ⟨rfl, hb7⟩
        have b47 := (unhide B46).trans (hb7.mono (unhide B46).size)
        have b17 := (unhide B14).trans (b47.mono (unhide B14).size)
        have r7 := (unhide R6).below hb7
        have t7 := (unhide R4).below b47
        have s7 := hb7.size
        have bwr7 : Below wr.heap.size wr w7 := (unhide BW4).trans (b47.mono (unhide BW4).size)
        have RO7 := hide r7
        have RD7 := hide t7
        have B17 := hide b17
        have BWR7 := hide bwr7
        have LO7 := hide ((unhide HLO9).below b47)
        have x1 := t7.cell (j := 1) rfl
        have x2 := r7.cell (j := 1) rfl
        clear b47 b17 r7 t7 bwr7 hb7 HHF HOV4 HOW4
        rcases hwc with ⟨hw, rfl⟩ | ⟨hw, rfl, rfl⟩ | ⟨hw, rfl, rfl, rfl⟩
        · have HN1 : Hid (stepE st d 1 ≠ 0) := fun h => by have := (name_held (unhide HHH)).1 h; omega
          clear x1 x2
          have l0 := unhide L0 w7 (unhide B17)
          have HT : Hid ((rowsS s).2 = some (d.no, 61)) := by
            show _ = _
            have he := unhide HEE
            rw [step_name (st := st) (unhide HSK) (unhide HEQ) (unhide HN1)] at he
            rw [unhide HRS]
            exact tell_at he (by show (61 : Int) ≠ 0; decide)
          go_wp2
          go_quiet (fail)
          go_wp2
          refine bodyPost_ret (rread_results rfl rfl rfl) rfl ⟨?_, .inr ⟨_, _, unhide HT, by decide, rfl⟩⟩
          exact (unhide HB1).trans ((below_drewN (unhide B17) nq).mono (unhide HB1).size)
        · have HN1 : Hid (stepE st d 1 ≠ 0) := fun h => by have := (name_held (unhide HHH)).1 h; omega
          clear x1 x2
          have l0 := unhide L0 w7 (unhide B17)
          have HT : Hid ((rowsS s).2 = some (d.no, 61)) := by
            show _ = _
            have he := unhide HEE
            rw [step_name (st := st) (unhide HSK) (unhide HEQ) (unhide HN1)] at he
            rw [unhide HRS]
            exact tell_at he (by show (61 : Int) ≠ 0; decide)
          go_wp2
          go_quiet (fail)
          go_wp2
          refine bodyPost_ret (rread_results rfl rfl rfl) rfl ⟨?_, .inr ⟨_, _, unhide HT, by decide, rfl⟩⟩
          exact (unhide HB1).trans ((below_drewN (unhide B17) nq).mono (unhide HB1).size)
        obtain ⟨P, hP⟩ : ∃ P, (plainR d).name = P := ⟨_, rfl⟩
        have HP := hide hP
        rw [hP]
        clear hP
        by_cases hnq : P = Q
        case neg =>
          have HN1 : Hid (stepE st d 1 ≠ 0) := fun h => by
            have h2 := ((name_held (unhide HHH)).1 h).2
            simp only at h2
            rw [unhide HP, unhide HORW] at h2
            exact hnq h2
          have hne : (P == Q) = false := by simpa using hnq
          have hne2 : (P != Q) = true := by simpa using hnq
          clear x1 x2 hnq
          have l0 := unhide L0 w7 (unhide B17)
          have HT : Hid ((rowsS s).2 = some (d.no, 61)) := by
            show _ = _
            have he := unhide HEE
            rw [step_name (st := st) (unhide HSK) (unhide HEQ) (unhide HN1)] at he
            rw [unhide HRS]
            exact tell_at he (by show (61 : Int) ≠ 0; decide)
          go_wp2
          go_quiet (fail)
          go_wp2
          refine bodyPost_ret (rread_results rfl rfl rfl) rfl ⟨?_, .inr ⟨_, _, unhide HT, by decide, rfl⟩⟩
          exact (unhide HB1).trans ((below_drewN (unhide B17) nq).mono (unhide HB1).size)
        subst hnq
        have HN1 : Hid (stepE st d 1 = 0) := (name_held (unhide HHH)).2 ⟨hw, by rw [unhide HORW]; exact unhide HP⟩
        by_cases hle : R.first ≤ Ro.first
        · have hd : decide (R.first ≤ Ro.first) = true := decide_eq_true hle
          have HRI : Hid ((plainR d).first ≤ st.above) := by
            show _ ≤ _
            rw [unhide HPF, unhide HABV]; exact hle
          have l0 := unhide L0 w7 (unhide B17)
          have HT : Hid ((rowsS s).2 = some (d.no, 62)) := by
            show _ = _
            have he := unhide HEE
            rw [step_rising (st := st) (unhide HSK) (unhide HEQ) (unhide HN1) (unhide HRI)] at he
            rw [unhide HRS]
            exact tell_at he (by show (62 : Int) ≠ 0; decide)
          go_wp2
          go_quiet (fail)
          go_wp2
          refine bodyPost_ret (rread_results rfl rfl rfl) rfl ⟨?_, .inr ⟨_, _, unhide HT, by decide, rfl⟩⟩
          exact (unhide HB1).trans ((below_drewN (unhide B17) nq).mono (unhide HB1).size)
        have HRI : Hid (st.above < (plainR d).first) := by
          show _ < _
          rw [unhide HPF, unhide HABV]; omega
        have hle' : Ro.first < R.first := by omega
        have h15d := scan_fields (unhide HEQ)
        have H15D := hide h15d
        obtain ⟨ga, oa2, hfa⟩ : ∃ ga oa2, fa = some ⟨ga, oa2, none⟩ := by
          obtain ⟨g', o', e, _⟩ := (unhide HTX) 0 _ (List.getElem?_eq_getElem (by omega))
          exact ⟨g', o', e⟩
        obtain ⟨gb, ob2, hfb⟩ : ∃ gb ob2, fa2 = some ⟨gb, ob2, none⟩ := by
          obtain ⟨g', o', e, _⟩ := (unhide HT2) 0 _ (List.getElem?_eq_getElem (by have := unhide H15; omega))
          exact ⟨g', o', e⟩
        subst hfa hfb
        clear h15d hle
        go_wp2
        go_loopw [21] (fun v21 wq => ∃ k m : Nat, v21 = .int .i64 k ∧ 2 ≤ k ∧ k ≤ 15 ∧ Hid (∀ j, 2 ≤ j → j < k → d.fields[j]? = od.fields[j]?) ∧ wq = w7.drewN m) (fun v21 _ => 15 - (RowKit.intOf v21).toNat)
        case atStart => exact ⟨2, 0, rfl, by omega, by omega, fun j h1 h2 => by omega, rfl⟩
        case round =>
          obtain ⟨k, m, rfl, hk2, hk15, HK, rfl⟩ := hrel
          obtain ⟨X, hX⟩ : ∃ X, w7.drewN m = X := ⟨_, rfl⟩
          have bX : Below w7.heap.size w7 X := by rw [← hX]; exact below_drewN (Below.refl _ _) m
          have b1X := (unhide B17).trans (bX.mono (unhide B17).size)
          have BX := hide b1X
          have lo3 := ((unhide LO7).below bX).cell (j := 3) rfl
          have l3 := unhide L3 X b1X
          rw [unhide H15D] at l3
          by_cases hk : k < 15
          · have hk' : (k : Int) < 15 := by omega
            obtain ⟨x, hx⟩ : ∃ x, d.fields[k]? = some x := ⟨_, List.getElem?_eq_getElem (by have := unhide H15D; omega)⟩
            obtain ⟨y, hy⟩ : ∃ y, od.fields[k]? = some y := ⟨_, List.getElem?_eq_getElem (by have := unhide H15; omega)⟩
            obtain ⟨g3, o3, e3, cx⟩ := ((unhide HTX).below b1X) k x hx
            obtain ⟨g4, o4, e4, cy⟩ := ((unhide HT2).below b1X) k y hy
            simp only [Option.some.injEq, Addr.mk.injEq] at e3 e4
            obtain ⟨rfl, rfl, _⟩ := e3
            obtain ⟨rfl, rfl, _⟩ := e4
            have hq3 : IntKind.i64.wrap ((k : Int) + 1) = (k : Int) + 1 := by rw [IntKind.wrap_i64]; omega
            have HXE := hide hx
            have HYE := hide hy
            rw [hX]
            have HX := hide hX
            clear hX hx hy bX b1X
            by_cases hxy : x = y
            · subst hxy
              go_wp2
              go_quiet (fail)
              go_wp2
              go_roundw
              case rel => exact ⟨k + 1, m + nq, by go_num, by omega, by omega, fun j h1 h2 => by
                  by_cases hj : j < k
                  · exact unhide HK j h1 hj
                  · obtain rfl : j = k := by omega
                    rw [unhide HXE, unhide HYE], by rw [← unhide HX]; exact World.drewN_drewN _ _ _⟩
              case measure => simp [RowKit.intOf]; omega
            · have hne : (x == y) = false := by simpa using hxy
              have hne2 : (x != y) = true := by simpa using hxy
              have HPA : Hid (whichR d = 2 ∧ d.fields.drop 2 ≠ (heldL st).fields.drop 2) := by
                refine ⟨hw, ?_⟩
                have e : heldL st = od := by unfold heldL; rw [unhide HHH]
                rw [e]
                exact drop2_ne hk2 (unhide HXE) (unhide HYE) hxy
              clear hxy
              go_wp2
              go_quiet (fail)
              have BX2 := hide (below_drewN (unhide BX) nq)
              clear lo3 l3 cx cy
              generalize X.drewN nq = X3 at *
              have l0 := unhide L0 X3 (unhide BX2)
              have HT : Hid ((rowsS s).2 = some (d.no, 67)) := by
                show _ = _
                have he := unhide HEE
                rw [step_pair (st := st) (unhide HSK) (unhide HEQ) (unhide HN1) (Int.not_le.2 (unhide HRI)) (unhide HPA)] at he
                rw [unhide HRS]
                exact tell_at he (by show (67 : Int) ≠ 0; decide)
              go_wp2
              go_quiet (fail)
              go_wp2
              refine bodyPost_ret (rread_results rfl rfl rfl) rfl ⟨?_, .inr ⟨_, _, unhide HT, by decide, rfl⟩⟩
              exact (unhide HB1).trans ((below_drewN (unhide BX2) nq).mono (unhide HB1).size)
          · obtain rfl : k = 15 := by omega
            have hdr2 : d.fields.drop 2 = (heldL st).fields.drop 2 := by
              have e : heldL st = od := by unfold heldL; rw [unhide HHH]
              rw [e]
              exact drop2_eq (unhide H15D) (unhide H15) (unhide HK)
            have HNEW : Hid (stepR st d = ([({ Ro with last := R.first, name := P }, 0)], ⟨(plainR d).first, none⟩)) := by
              show _ = _
              have h := step_last (st := st) (unhide HSK) (unhide HEQ) (unhide HN1) (Int.not_le.2 (unhide HRI)) hw hdr2
              rw [h]
              have e : heldRow st = { Ro with name := P } := by unfold heldRow; rw [unhide HHH]; exact unhide HORW
              rw [e, unhide HPL, unhide HLF]
            have rX := (unhide RO7).below bX
            have tX := (unhide RD7).below bX
            have rc2 := rX.cell (j := 2) rfl
            have rf2 := rX.frozen 2
            have tc1 := tX.cell (j := 1) rfl
            obtain ⟨Xa, hXa⟩ : ∃ Xa, X.setCell ⟨w5.heap.size, 2, none⟩ (.int .i32 R.first) = Xa := ⟨_, rfl⟩
            have ra : RowAt Xa w5.heap.size { Ro with last := R.first } := by rw [← hXa]; exact rX.set (r' := { Ro with last := R.first }) 2 _ rfl
            have rc3 := ra.cell (j := 3) rfl
            have rf3 := ra.frozen 3
            obtain ⟨Xb, hXb⟩ : ∃ Xb, Xa.setCell ⟨w5.heap.size, 3, none⟩ (.string (S P)) = Xb := ⟨_, rfl⟩
            have rb : RowAt Xb w5.heap.size { Ro with last := R.first, name := P } := by rw [← hXb]; exact ra.set (r' := { Ro with last := R.first, name := P }) 3 _ rfl
            have hs1 := (unhide HBW).size
            have bXb : Below w1.heap.size w1 Xb := by
              rw [← hXb, ← hXa]
              exact (b1X.setCell (by show w1.heap.size ≤ w5.heap.size; omega) _).setCell (by show w1.heap.size ≤ w5.heap.size; omega) _
            have HOX : Hid (Xb.ownsRow w1.heap.size 29 9 (.slice oa M oc) M (rowsC out)) := row_kept6 (unhide HOWN) fun g' cur hh' _ _ => by
              have hl' := (Array.getElem?_eq_some_iff.1 hh').1
              rw [← hXb, ← hXa]
              refine (Below.heap_setCell _ _ _ _ (by show g' ≠ w5.heap.size; omega)).trans ((Below.heap_setCell _ _ _ _ (by show g' ≠ w5.heap.size; omega)).trans ?_)
              exact (bX.block g' (by have := (unhide BWR7).size; omega)).trans ((unhide BWR7).block g' hl')
            have BXB := hide bXb
            obtain ⟨nr, hnr⟩ : ∃ nr : RowD, nr = { Ro with last := R.first, name := P } := ⟨_, rfl⟩
            rw [← hnr] at rb HNEW
            have hnl : nr.last = (plainR d).first := by rw [hnr, unhide HPF]
            have HNL := hide hnl
            have rx0 := rb.cell (j := 0) rfl
            have rx1 := rb.cell (j := 1) rfl
            have rx2 := rb.cell (j := 2) rfl
            have rx3 := rb.cell (j := 3) rfl
            have rx4 := rb.cell (j := 4) rfl
            have rx5 := rb.cell (j := 5) rfl
            have rx6 := rb.cell (j := 6) rfl
            have rx7 := rb.cell (j := 7) rfl
            have rx8 := rb.cell (j := 8) rfl
            have hsX : w1.heap.size ≤ Xb.heap.size := (unhide BXB).size
            rw [hX]
            clear hX bX b1X rX tX ra rb bXb lo3 l3 hnl hdr2 hnr
            go_wp2_with (at_builtin; refine wpList_append_own_at _ rfl _ _ 37 rfl w1.heap.size 29 i0 _ 9 64 Tryz.underlying37 hi0 hz0 hz1 hz2 rfl (by decide) _ _ _ rfl ((unhide HOX).alloc _) ⟨Xb.heap.size, 0, none⟩ 1 1 (rowC nr) rfl rfl (cells_new _ _ _) (by simp [Value.oneCell']) (by unfold maxLen; omega) (by omega) (by simp; omega) ?_; intro v8 w8 hown8 hgrow8 _ _; obtain ⟨g8, c8, rfl⟩ := ownsRow_succ hown8)
            have b8 : Below w1.heap.size w1 w8 := belowG ((unhide BXB).alloc hsX _) (by simp; omega) ((unhide HOX).alloc _) hgrow8
            have he := unhide HEE
            rw [unhide HNEW] at he
            refine ⟨⟨i + 1, out ++ [nr], ⟨(plainR d).first, none⟩, by go_num, by omega, by have := unhide HM; simp; omega, snoc_front he, stD_put (unhide HNL), ?_, rfl, b8⟩, by simp [RowKit.intOf]; omega⟩
            rw [List.length_append, unhide HM, rowsC_snoc]
            exact hown8
    · obtain rfl : i = N := by omega
      have hdr : (ps.map (·.1)).drop i = [] := List.drop_eq_nil_of_le (by rw [List.length_map, unhide HN]; exact Nat.le_refl _)
      have he := unhide HE
      rw [hdr] at he
      have he2 : out.map (fun r => (r, (0 : Int))) ++ lastR st = eachR startW (ps.map (·.1)) := he
      cases hh : st.held with
      | none =>
        have hv9 := overAt_none hh (unhide HOV)
        subst hv9
        have hl : lastR st = [] := by unfold lastR; rw [hh]
        rw [hl, List.append_nil] at he2
        have ht := tell_done he2
        rw [← unhide HRS] at ht
        have HT := hide ht
        clear he he2 hdr hl ht
        go_wp2
        refine bodyPost_ret (rread_results rfl rfl rfl) rfl ⟨(unhide HB1).trans ((unhide HBW).mono (unhide HB1).size), .inl ⟨by rw [unhide HT], _, rfl, ?_⟩⟩
        rw [unhide HT]
        unfold RowsAt
        rw [unhide HM]
        exact row_base (unhide HOWN) (unhide HB1).size
      | some o =>
        obtain ⟨fa, fc, g, c, h15, hT, hF, rfl, hc1, hlo⟩ := overAt_some hh (unhide HOV)
        have hl : lastR st = [({ zeroR with line := o.1.no }, 61)] := by unfold lastR; rw [hh]
        rw [hl] at he2
        have ht := tell_at he2 (by show (61 : Int) ≠ 0; decide)
        rw [← unhide HRS] at ht
        have HT := hide ht
        have c0 := hlo.cell (j := 0) rfl
        clear he he2 hdr hl ht hlo
        go_wp2
        go_quiet (fail)
        go_wp2
        refine bodyPost_ret (rread_results rfl rfl rfl) rfl ⟨?_, .inr ⟨_, _, unhide HT, by decide, rfl⟩⟩
        exact (unhide HB1).trans ((below_drewN (unhide HBW) nq).mono (unhide HB1).size)
end Go.Proofs.YthjnkagepooeiaaGreatDoor
