/-
  Read of package mirrors, for every text.
-/
import Derived.Test.YtnabbahdmajfpaaGreatDoorMrS
namespace Go.Proofs.YtnabbahdmajfpaaGreatDoor
open Go.RowKit Go.PlainAid Go.Lib Go.PHexM Go.Shelf
set_option linter.unusedVariables false
set_option linter.unusedSimpArgs false

/-- the mirrors that lines tell, and the first fault -/
def tellM : List LineD → List MirD × Option (Int × Int)
  | [] => ([], none)
  | d :: ds => if d.kind = 0 ∨ d.kind = 3 then tellM ds else if (scanM d).2 = 0 then ((scanM d).1 :: (tellM ds).1, (tellM ds).2) else ([], some (d.no, (scanM d).2))
theorem tell_skip {d : LineD} (ds : List LineD) (h : d.kind = 0 ∨ d.kind = 3) : tellM (d :: ds) = tellM ds := by
  show (if _ then _ else _) = _
  rw [if_pos h]
theorem tell_yes {d : LineD} (ds : List LineD) (h : ¬ (d.kind = 0 ∨ d.kind = 3)) (h0 : (scanM d).2 = 0) : tellM (d :: ds) = ((scanM d).1 :: (tellM ds).1, (tellM ds).2) := by
  show (if _ then _ else _) = _
  rw [if_neg h, if_pos h0]
theorem tell_no {d : LineD} (ds : List LineD) (h : ¬ (d.kind = 0 ∨ d.kind = 3)) (h0 : (scanM d).2 ≠ 0) : tellM (d :: ds) = ([], some (d.no, (scanM d).2)) := by
  show (if _ then _ else _) = _
  rw [if_neg h, if_neg h0]
theorem tell_mirOk (ds : List LineD) : ∀ x ∈ (tellM ds).1, MirOk x := by
  induction ds with
  | nil => intro x hx; cases hx
  | cons d ds ih =>
    intro x hx
    by_cases h : d.kind = 0 ∨ d.kind = 3
    · rw [tell_skip ds h] at hx; exact ih x hx
    · by_cases h0 : (scanM d).2 = 0
      · rw [tell_yes ds h h0] at hx
        rcases List.mem_cons.1 hx with rfl | hx
        · exact scanM_ok d
        · exact ih x hx
      · rw [tell_no ds h h0] at hx; cases hx
theorem tell_len (ds : List LineD) : (tellM ds).1.length ≤ ds.length := by
  induction ds with
  | nil => exact Nat.le_refl _
  | cons d ds ih =>
    by_cases h : d.kind = 0 ∨ d.kind = 3
    · rw [tell_skip ds h]; simp; omega
    · by_cases h0 : (scanM d).2 = 0
      · rw [tell_yes ds h h0]; simp; omega
      · rw [tell_no ds h h0]; simp
/-- what Read says of a text: the mirrors, and the fault -/
def mirsS (s : ByteArray) : List MirD × Option (Int × Int) := match (readS s).2 with
  | some (no, code) => ([], some ((no : Int), code))
  | none => match (tellM (readS s).1).2 with
    | some x => ([], some x)
    | none => if (chkM (tellM (readS s).1).1).2 = 0 then ((tellM (readS s).1).1, none) else ([], some (((tellM (readS s).1).1.getD (chkM (tellM (readS s).1).1).1 zeroM).line, (chkM (tellM (readS s).1).1).2))
theorem readS_len (s : ByteArray) : (readS s).1.length ≤ s.size + 1 := by
  have h3 : ∀ l : List (Nat × Nat × Nat), (rdS s l).1.length ≤ l.length := by
    intro l
    induction l with
    | nil => simp [rdS]
    | cons x l ih => unfold rdS; split <;> simp <;> omega
  have h4 := h3 (linesL s)
  have h5 : (linesL s).length ≤ (extsL s).length := (List.takeWhile_sublist _).length_le
  have h6 := exts_len s
  unfold readS
  omega
theorem lineCells_atM {ps : List (LineD × Value)} {i : Nat} {p : LineD × Value} (h : ps[i]? = some p) (j : Nat) (hj : j < 5) : (lineCells ps)[i * 5 + j]? = [Value.int .i64 p.1.no, .int .u8 p.1.kind, .string (S p.1.name), p.2, .string (S p.1.note)][j]? := by
  induction ps generalizing i with
  | nil => simp at h
  | cons a ps ih =>
    have e : lineCells (a :: ps) = [Value.int .i64 a.1.no, .int .u8 a.1.kind, .string (S a.1.name), a.2, .string (S a.1.note)] ++ lineCells ps := rfl
    rw [e]
    cases i with
    | zero =>
      simp at h; subst h
      rw [List.getElem?_append_left (by simp; omega)]
      simp
    | succ i =>
      rw [List.getElem?_append_right (by simp; omega), ← ih (by simpa using h)]
      congr 1
      simp
      omega
theorem texts_txM {w : World} {base : Nat} {v : Value} {l : List (List UInt8)} (h : TextsAt w base v l) : ∃ a c, v = .slice a l.length c ∧ l.length ≤ c ∧ TxM w a l := by
  rcases h.2 with ⟨rfl, h0⟩ | ⟨g, cap, cur, rfl, hb, hh, h3, h4, h5, h6⟩
  · exact ⟨none, 0, by rw [h0], by omega, fun i x hx => by rw [List.length_eq_zero_iff.1 h0] at hx; simp at hx⟩
  · refine ⟨_, cap, rfl, h3, fun i x hx => ⟨g, 0, rfl, ?_⟩⟩
    have e1 : (strVs (l.map S))[i]? = some (.string (S x)) := by simp [strVs, hx]
    rw [← h6, List.getElem?_take] at e1
    split at e1
    · rw [Nat.zero_add]; simpa [World.cell?, hh] using e1
    · cases e1
/-- a line of those that were read, in memory -/
theorem rowL_line {w : World} {base : Nat} {va : Value} {ps : List (LineD × Value)} (h : RowL w base va ps) : ∃ a c, va = .slice a ps.length c ∧ ∀ (i : Nat) (p : LineD × Value), ps[i]? = some p → ∃ g fa fc, a = some ⟨g, 0, none⟩ ∧ p.2 = .slice fa p.1.fields.length fc ∧ TxM w fa p.1.fields ∧
    ∀ j u, [Value.int .i64 p.1.no, .int .u8 p.1.kind, .string (S p.1.name), p.2, .string (S p.1.note)][j]? = some u → w.cell? ⟨g, i * 5 + j, none⟩ = some u := by
  rcases h.1.2 with ⟨rfl, h0⟩ | ⟨g, cap, cur, rfl, hb, hh, h3, h4, h5, h6⟩
  · exact ⟨none, 0, by rw [h0], fun i p hp => by rw [List.length_eq_zero_iff.1 h0] at hp; simp at hp⟩
  · refine ⟨_, cap, rfl, fun i p hp => ?_⟩
    obtain ⟨fa, fc, e, _, ht⟩ := texts_txM (h.2 p (List.mem_of_getElem? hp))
    refine ⟨g, fa, fc, rfl, e, ht, fun j u hu => ?_⟩
    have hl := (List.getElem?_eq_some_iff.1 hp).1
    have hj : j < 5 := by have := (List.getElem?_eq_some_iff.1 hu).1; simpa using this
    have e := lineCells_atM hp j hj
    rw [hu, ← h6, List.getElem?_take, if_pos (by omega)] at e
    simpa [World.cell?, hh] using e
def FaultAt (w : World) (fb : Nat) (file : ByteArray) (no code : Int) : Prop := w.heap[fb]? = some (.cells #[.string file, .int .i64 no, .int .i64 code] 57 (0, 0))
/-- what a call of Read leaves -/
def ReadPM (file s : ByteArray) (w : World) (e : Ending) (w' : World) : Prop := Below w.heap.size w w' ∧
  (((mirsS s).2 = none ∧ ∃ v, e = .returned (.tuple #[v, .nilIface]) ∧ MirsAt w' w.heap.size v (mirsS s).1) ∨
   (∃ no code fb, (mirsS s).2 = some (no, code) ∧ e = .returned (.tuple #[.slice none 0 0, .iface 53 (.pointer (some ⟨fb, 0, none⟩))]) ∧ w.heap.size ≤ fb ∧ FaultAt w' fb file no code))
theorem ReadPM.fault {file s : ByteArray} {w w' : World} {fb : Nat} {no code : Int} (hb : Below w.heap.size w w') (h : (mirsS s).2 = some (no, code)) (hf : w.heap.size ≤ fb) (hc : FaultAt w' fb file no code) : ReadPM file s w (.returned (.tuple #[.slice none 0 0, .iface 53 (.pointer (some ⟨fb, 0, none⟩))])) w' :=
  ⟨hb, .inr ⟨no, code, fb, h, rfl, hf, hc⟩⟩

set_option maxRecDepth 100000 in
set_option maxHeartbeats 4000000 in
theorem read9_any (file s : ByteArray) (w : World) (hs : s.size ≤ 1073741824) :
    Calls Tryz.prog 23 #[.string file, .string s] w (ReadPM file s w) := by
  have HRD := hide (read_any file s w hs)
  obtain ⟨i0, hi0, hz0, hz1, hz2⟩ := info_parts infoMir
  obtain ⟨Q, hQ⟩ : ∃ Q, ReadPM file s w = Q := ⟨_, rfl⟩
  rw [hQ]
  have HQ := hide hQ
  clear hQ
  go_enter Tryz.func23, Tryz.ntmps23
  go_wp2_with fail
  refine (unhide HRD).mono ?_
  rintro e w1 ⟨hb1, (⟨hnone, va, rfl, ps, hps, hrl⟩ | ⟨no, code, fb, hsome, rfl, hfb, hfc⟩)⟩
  · obtain ⟨a, c, rfl, hline⟩ := rowL_line hrl
    obtain ⟨n, hn⟩ : ∃ n, ps.length = n := ⟨_, rfl⟩
    have hnb : n ≤ 1073741825 := by
      have h1 := readS_len s
      rw [← hps, List.length_map, hn] at h1
      omega
    rw [hn]
    have HN := hide hn
    have HLN := hide hline
    have HPS := hide hps
    have HNONE := hide hnone
    have HB1 := hide hb1
    have hs1 := hb1.size
    clear hn hline hps hrl hnone HRD hb1
    go_wp2
    go_loopw [8, 26] (fun v8 v26 wr => ∃ (i : Nat) (pre : List MirD), v26 = .int .i64 i ∧ i ≤ n ∧ pre.length ≤ i ∧ wr.ownsRow w1.heap.size 27 4 v8 pre.length (mirsC pre) ∧ Hid ((tellM (ps.map (·.1))).1 = pre ++ (tellM ((ps.drop i).map (·.1))).1 ∧ (tellM (ps.map (·.1))).2 = (tellM ((ps.drop i).map (·.1))).2) ∧ Below w1.heap.size w1 wr) (fun _ v26 _ => n - (RowKit.intOf v26).toNat)
    case atStart => exact ⟨0, [], rfl, Nat.zero_le _, Nat.le_refl _, World.ownsRow_nil _ _ _ _, ⟨by simp, by simp⟩, Below.refl _ _⟩
    case round =>
      obtain ⟨i, pre, rfl, hi, hpl, hrow, HT, hB⟩ := hrel
      have hBw : Below w.heap.size w wr := (unhide HB1).trans (hB.mono hs1)
      by_cases hlt : i < n
      · obtain ⟨⟨d, v⟩, hx⟩ : ∃ x, ps[i]? = some x := ⟨_, List.getElem?_eq_getElem (by rw [unhide HN]; exact hlt)⟩
        obtain ⟨g, fa, fc, rfl, hv, htx, hc⟩ := unhide HLN i (d, v) hx
        simp only at hv htx hc
        subst hv
        have hc' : ∀ j u, [Value.int .i64 d.no, .int .u8 d.kind, .string (S d.name), .slice fa d.fields.length fc, .string (S d.note)][j]? = some u → wr.cell? ⟨g, i * 5 + j, none⟩ = some u := fun j u hu => (hB.cell (World.block_lt_of_cell? _ _ (hc j u hu))).trans (hc j u hu)
        have cx0 := hc' 0 _ rfl
        have cx1 := hc' 1 _ rfl
        have cx2 := hc' 2 _ rfl
        have cx3 := hc' 3 _ rfl
        have cx4 := hc' 4 _ rfl
        simp only [Nat.add_zero] at cx0
        have hlt' : (i : Int) < (n : Int) := by omega
        have hq1 : IntKind.i64.wrap ((i : Int) + 1) = (i : Int) + 1 := by rw [IntKind.wrap_i64]; omega
        have hdr : (ps.drop i).map (·.1) = d :: (ps.drop (i + 1)).map (·.1) := by
          have hil := (List.getElem?_eq_some_iff.1 hx).1
          rw [List.drop_eq_getElem_cons hil, (List.getElem?_eq_some_iff.1 hx).2]
          rfl
        obtain ⟨V, hV⟩ : ∃ V, wr.alloc (.cells #[.int .i64 d.no, .int .u8 d.kind, .string (S d.name), .slice fa d.fields.length fc, .string (S d.note)] 25) = V := ⟨_, rfl⟩
        have hVb : Below wr.heap.size wr V := by rw [← hV]; exact (Below.refl _ wr).alloc (Nat.le_refl _) _
        have vM : V.heap[wr.heap.size]? = some (.cells #[.int .i64 d.no, .int .u8 d.kind, .string (S d.name), .slice fa d.fields.length fc, .string (S d.note)] 25 (0, 0)) := by rw [← hV]; exact heap_alloc_new wr _
        obtain ⟨v0, v1, v2, v3, v4, -, -, -, -, -⟩ := box5 vM
        have hBV : Below w1.heap.size w1 V := hB.trans (hVb.mono hB.size)
        have hBVw : Below w.heap.size w V := hBw.trans (hVb.mono hBw.size)
        have hrV := rowB hrow hVb
        have HHT := unhide HT
        rw [hdr] at HHT
        by_cases hsk : d.kind = 0 ∨ d.kind = 3
        · have HT2 : Hid ((tellM (ps.map (·.1))).1 = pre ++ (tellM ((ps.drop (i + 1)).map (·.1))).1 ∧ (tellM (ps.map (·.1))).2 = (tellM ((ps.drop (i + 1)).map (·.1))).2) := by
            rw [tell_skip _ hsk] at HHT; exact HHT
          have HR := hide (⟨hrV, hBV⟩ : _ ∧ _)
          clear hc hc' hx hdr HT HHT hVb vM hrV hBV hrow hB hBw hBVw htx
          rcases hsk with hk | hk
          · rw [hk] at v1 cx1 hV
            go_wp2
            go_roundw
            case rel => exact ⟨i + 1, pre, by go_num, by omega, by omega, (unhide HR).1, HT2, (unhide HR).2⟩
            case measure => simp [RowKit.intOf]; omega
          · rw [hk] at v1 cx1 hV
            go_wp2
            go_roundw
            case rel => exact ⟨i + 1, pre, by go_num, by omega, by omega, (unhide HR).1, HT2, (unhide HR).2⟩
            case measure => simp [RowKit.intOf]; omega
        · have dk0 : (d.kind == 0) = false := by simpa using fun e => hsk (.inl e)
          have dk3 : (d.kind == 3) = false := by simpa using fun e => hsk (.inr e)
          have HSC := hide (scan9_any d fa fc V ((htx.below hB).below hVb))
          obtain ⟨x, hxm⟩ : ∃ x, (scanM d).1 = x := ⟨_, rfl⟩
          obtain ⟨k, hk⟩ : ∃ k, (scanM d).2 = k := ⟨_, rfl⟩
          rw [hxm, hk] at HSC
          have HR2 : Hid (∀ w2, Below V.heap.size V w2 → ∃ V2, w2.alloc (.cells #[.int .i64 x.line, .int .i32 x.frm, .int .i32 x.to, .bool x.best] 27) = V2 ∧ w2.heap.size < V2.heap.size ∧ V2.cell? ⟨wr.heap.size, 0, none⟩ = some (.int .i64 d.no) ∧ V2.cell? ⟨w2.heap.size, 0, none⟩ = some (.int .i64 x.line) ∧ V2.cell? ⟨w2.heap.size, 1, none⟩ = some (.int .i32 x.frm) ∧ V2.cell? ⟨w2.heap.size, 2, none⟩ = some (.int .i32 x.to) ∧ V2.cell? ⟨w2.heap.size, 3, none⟩ = some (.bool x.best) ∧ wr.heap.size < V2.heap.size ∧
              V2.ownsRow w1.heap.size 27 4 u8 pre.length (mirsC pre) ∧ Below w1.heap.size w1 V2 ∧ Below w.heap.size w V2) := fun w2 hb2 => by
            have hA : Below w2.heap.size w2 (w2.alloc (.cells #[.int .i64 x.line, .int .i32 x.frm, .int .i32 x.to, .bool x.best] 27)) := (Below.refl _ w2).alloc (Nat.le_refl _) _
            have e2 := (hb2.block _ (Array.getElem?_eq_some_iff.1 vM).1).trans vM
            have e3 := (hA.block _ (Array.getElem?_eq_some_iff.1 e2).1).trans e2
            obtain ⟨k0, k1, k2, k3⟩ := MBox.cells (x := x) (heap_alloc_new w2 _)
            have hb2' := hBV.trans (hb2.mono hBV.size)
            have hb2'' := hBVw.trans (hb2.mono hBVw.size)
            exact ⟨_, rfl, by simp, (box5 e3).1, k0, k1, k2, k3, (Array.getElem?_eq_some_iff.1 e3).1, rowB (rowB hrV hb2) hA, hb2'.trans (hA.mono hb2'.size), hb2''.trans (hA.mono hb2''.size)⟩
          by_cases hk0 : k = 0
          · subst hk0
            have HT2 : Hid ((tellM (ps.map (·.1))).1 = (pre ++ [x]) ++ (tellM ((ps.drop (i + 1)).map (·.1))).1 ∧ (tellM (ps.map (·.1))).2 = (tellM ((ps.drop (i + 1)).map (·.1))).2) := by
              rw [tell_yes _ hsk hk, hxm] at HHT
              exact ⟨by rw [HHT.1]; simp, HHT.2⟩
            clear hc hc' hx hdr HT HHT hVb vM hrV hBV hBVw hB hBw htx hsk hxm hk hrow
            go_wp2_with fail
            refine (unhide HSC).mono ?_
            rintro e w2 ⟨rfl, hb2⟩
            obtain ⟨V2, hV2, hs2, y0, z0, z1, z2, z3, l2, hr2, hB2, hBw2⟩ := unhide HR2 w2 hb2
            obtain ⟨fa', fc', rfl⟩ := row_slice2 hr2
            have hs12 := hB2.size
            go_wp2_with (at_builtin; refine wpList_append_own_at _ rfl _ _ 35 rfl w1.heap.size 27 i0 _ 4 24 Tryz.underlying35 hi0 hz0 hz1 hz2 rfl (by decide) _ _ _ rfl (hr2.alloc _) ⟨V2.heap.size, 0, none⟩ 1 1 (mirC x) rfl rfl (cells_newM V2 x _) (by simp [Value.oneCell']) (by unfold maxLen; omega) (by omega) (by simp; omega) ?_; intro v'' w5 hown5 hgrow5 _ _; replace hgrow5 : World.grownBy _ w5 (Value.slice fa' pre.length fc').ownBlock := hgrow5)
            have hB5 : Below w1.heap.size w1 w5 := belowG (hB2.alloc hB2.size _) (by simp; omega) (hr2.alloc _) hgrow5
            go_roundw
            case rel => exact ⟨i + 1, pre ++ [x], by go_num, by omega, by simp; omega, by rw [mirsC_snoc, List.length_append]; exact hown5, HT2, hB5⟩
            case measure => simp [RowKit.intOf]; omega
          · have dk : (k != 0) = true := by simpa using hk0
            have dk' : (k == 0) = false := by simpa using hk0
            have HF : Hid ((mirsS s).2 = some (d.no, k)) := by
              rw [tell_no _ hsk (by rw [hk]; exact hk0), hk] at HHT
              show _ = _
              unfold mirsS
              rw [unhide HNONE, ← unhide HPS, HHT.2]
            clear hc hc' hx hdr HT HHT hVb vM hrV hBV hBVw hB hBw htx hsk hxm hk hrow hk0
            go_wp2_with fail
            refine (unhide HSC).mono ?_
            rintro e w2 ⟨rfl, hb2⟩
            obtain ⟨V2, hV2, hs2, y0, z0, z1, z2, z3, l2, hr2, hB2, hBw2⟩ := unhide HR2 w2 hb2
            have y0' : ∀ o, (V2.alloc o).cell? ⟨wr.heap.size, 0, none⟩ = some (.int .i64 d.no) := fun o => (World.cell?_alloc_lt _ _ ⟨wr.heap.size, 0, none⟩ l2).trans y0
            have FIN : Hid (∀ X : World, X.heap = (V2.alloc (.cells #[.string file, .int .i64 d.no, .int .i64 k] 57)).heap → X.os = V2.os → X.tape = V2.tape → X.output = V2.output → Q (.returned (.tuple #[.slice none 0 0, .iface 53 (.pointer (some ⟨V2.heap.size, 0, none⟩))])) X) := fun X h1 h2 h3 h4 => by
              rw [← unhide HQ]
              have hA := hBw2.alloc hBw2.size (.cells #[.string file, .int .i64 d.no, .int .i64 k] 57)
              refine ReadPM.fault ⟨h2.trans hBw2.os, h3.trans hBw2.tape, h4.trans hBw2.output, by rw [h1]; exact hA.size, fun j hj => by rw [h1]; exact hA.block j hj⟩ (unhide HF) hBw2.size ?_
              unfold FaultAt
              rw [h1]
              exact heap_alloc_new V2 _
            clear hr2 hB2 hBw2 hb2
            go_wp2
            go_region
            all_goals go_wp2
            all_goals exact unhide FIN _ rfl rfl rfl rfl
      · obtain rfl : i = n := by omega
        have hdr : (ps.drop i).map (·.1) = [] := by rw [List.drop_eq_nil_of_le (by rw [unhide HN]; exact Nat.le_refl _)]; rfl
        have HHT := unhide HT
        rw [hdr] at HHT
        have ht1 : (tellM (readS s).1).1 = pre := by rw [← unhide HPS, HHT.1]; simp [tellM]
        have ht2 : (tellM (readS s).1).2 = none := by rw [← unhide HPS, HHT.2]; rfl
        have hms : mirsS s = if (chkM pre).2 = 0 then (pre, none) else ([], some ((pre.getD (chkM pre).1 zeroM).line, (chkM pre).2)) := by
          unfold mirsS
          rw [unhide HNONE]
          simp only [ht2, ht1]
        have hok : ∀ x ∈ pre, MirOk x := by rw [← ht1]; exact tell_mirOk _
        have hrm : MirsAt wr w1.heap.size u8 pre := hrow
        obtain ⟨a8, c8, rfl, hc8, hmm⟩ := mirsAt_mem hrm
        obtain ⟨N, hN⟩ : ∃ N, pre.length = N := ⟨_, rfl⟩
        have HCK := hide (check9_any pre a8 N c8 wr hN (by omega) hok hmm)
        rw [hN]
        obtain ⟨cp, hcp⟩ : ∃ cp, (chkM pre).1 = cp := ⟨_, rfl⟩
        obtain ⟨cc, hcc⟩ : ∃ cc, (chkM pre).2 = cc := ⟨_, rfl⟩
        rw [hcp, hcc] at HCK hms
        by_cases hc0 : cc = 0
        · subst hc0
          rw [if_pos rfl] at hms
          have FIN : Hid (∀ w2, Below wr.heap.size wr w2 → Q (.returned (.tuple #[.slice a8 N c8, .nilIface])) w2) := fun w2 hb2 => by
            rw [← unhide HQ]
            refine ⟨hBw.trans (hb2.mono hBw.size), .inl ⟨by rw [hms], _, rfl, ?_⟩⟩
            rw [hms]
            unfold MirsAt
            rw [← hN]
            exact row_base (rowB hrow hb2) hs1
          clear hms hok hrm hmm hrow HT HHT ht1 ht2 hcp hcc hN hdr hB hBw
          go_wp2_with (go_at_call 18; with_reducible refine (unhide HCK).mono ?_; rintro e w2 ⟨rfl, hb2⟩)
          exact unhide FIN _ hb2
        · rw [if_neg hc0] at hms
          have dk : (cc != 0) = true := by simpa using hc0
          have dk' : (cc == 0) = false := by simpa using hc0
          have hcl : cp < pre.length := by
            rw [← hcp]
            have : (chkM pre).2 ≠ 0 := by rw [hcc]; exact hc0
            unfold chkM at this ⊢
            cases h1 : firstM (wrongM pre) pre.length with
            | some q => rw [h1] at this; exact (first_some h1).1
            | none =>
              rw [h1] at this
              cases h2 : firstM (twistM pre) pre.length with
              | some q => rw [h2] at this; exact (first_some h2).1
              | none => rw [h2] at this; exact absurd rfl this
          obtain ⟨y, hy⟩ : ∃ y, pre[cp]? = some y := ⟨_, List.getElem?_eq_getElem hcl⟩
          rw [getD_at hy] at hms
          obtain ⟨g8, o8, rfl, hc9⟩ := hmm cp y hy
          have yc := hc9 0 _ rfl
          simp only [Nat.add_zero] at yc
          have hcn : cp < N := by rw [← hN]; exact hcl
          have hcn' : (cp : Int) < (N : Int) := by omega
          have FIN0 : Hid (∀ w2, Below wr.heap.size wr w2 → w2.cell? ⟨g8, o8 + cp * 4, none⟩ = some (.int .i64 y.line) ∧ g8 < w2.heap.size ∧ ∀ X : World, X.heap = (w2.alloc (.cells #[.string file, .int .i64 y.line, .int .i64 cc] 57)).heap → X.os = w2.os → X.tape = w2.tape → X.output = w2.output → Q (.returned (.tuple #[.slice none 0 0, .iface 53 (.pointer (some ⟨w2.heap.size, 0, none⟩))])) X) := fun w2 hb2 => by
            have hl := World.block_lt_of_cell? _ _ yc
            refine ⟨(hb2.cell (p := ⟨g8, o8 + cp * 4, none⟩) hl).trans yc, Nat.lt_of_lt_of_le hl hb2.size, fun X h1 h2 h3 h4 => ?_⟩
            rw [← unhide HQ]
            have hb := hBw.trans (hb2.mono hBw.size)
            have hA := hb.alloc hb.size (.cells #[.string file, .int .i64 y.line, .int .i64 cc] 57)
            refine ReadPM.fault ⟨h2.trans hb.os, h3.trans hb.tape, h4.trans hb.output, by rw [h1]; exact hA.size, fun j hj => by rw [h1]; exact hA.block j hj⟩ (by rw [hms]) hb.size ?_
            unfold FaultAt
            rw [h1]
            exact heap_alloc_new w2 _
          clear hms hok hrm hmm hrow HT HHT ht1 ht2 hcp hcc hN hdr hB hBw hc9 hy hcl yc hc0
          go_wp2_with (go_at_call 18; with_reducible refine (unhide HCK).mono ?_; rintro e w2 ⟨rfl, hb2⟩)
          obtain ⟨q0, q1, fin⟩ := unhide FIN0 _ hb2
          have FIN := hide fin
          have q0' : ∀ o, (w2.alloc o).cell? ⟨g8, o8 + cp * 4, none⟩ = some (.int .i64 y.line) := fun o => (World.cell?_alloc_lt _ _ ⟨g8, o8 + cp * 4, none⟩ q1).trans q0
          clear fin hb2
          go_region
          all_goals go_wp2
          all_goals exact unhide FIN _ rfl rfl rfl rfl
  · have FIN : Hid (Q (.returned (.tuple #[.slice none 0 0, .iface 53 (.pointer (some ⟨fb, 0, none⟩))])) w1) := by
      show Q _ _
      rw [← unhide HQ]
      exact ReadPM.fault hb1 (by unfold mirsS; rw [hsome]) hfb hfc
    clear hb1 hsome hfb hfc HRD
    go_wp2
    exact unhide FIN
end Go.Proofs.YtnabbahdmajfpaaGreatDoor
