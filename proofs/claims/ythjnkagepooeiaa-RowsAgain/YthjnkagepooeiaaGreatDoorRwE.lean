/-
  The rows of lines, told one by one.
-/
import Derived.Test.YthjnkagepooeiaaGreatDoorRwN
namespace Go.Proofs.YthjnkagepooeiaaGreatDoor
open Go.RowKit Go.PlainAid Go.Lib Go.PHexM Go.Shelf Go.Seq4
attribute [local go_sem] Oper.semAt_some
set_option linter.unusedVariables false
set_option linter.unusedSimpArgs false

theorem lineCells_at {ps : List (LineD × Value)} {i : Nat} {p : LineD × Value} (h : ps[i]? = some p) (j : Nat) (hj : j < 5) : (lineCells ps)[i * 5 + j]? = [Value.int .i64 p.1.no, .int .u8 p.1.kind, .string (S p.1.name), p.2, .string (S p.1.note)][j]? := by
  induction ps generalizing i with
  | nil => simp at h
  | cons a ps ih =>
    have e : lineCells (a :: ps) = [Value.int .i64 a.1.no, .int .u8 a.1.kind, .string (S a.1.name), a.2, .string (S a.1.note)] ++ lineCells ps := rfl
    rw [e]
    cases i with
    | zero =>
      simp at h; subst h
      rw [List.getElem?_append_left (by simp; omega)]
      simp
    | succ i =>
      rw [List.getElem?_append_right (by simp; omega), ← ih (by simpa using h)]
      congr 1
      simp
      omega
theorem rowL_at {w : World} {base : Nat} {va : Value} {ps : List (LineD × Value)} (h : RowL w base va ps) : ∃ a c, va = .slice a ps.length c ∧ ∀ (i : Nat) (p : LineD × Value), ps[i]? = some p → ∃ g, a = some ⟨g, 0, none⟩ ∧ g < w.heap.size ∧ ∀ j v, j < 5 → [Value.int .i64 p.1.no, .int .u8 p.1.kind, .string (S p.1.name), p.2, .string (S p.1.note)][j]? = some v → w.cell? ⟨g, i * 5 + j, none⟩ = some v := by
  rcases h.1.2 with ⟨rfl, h0⟩ | ⟨g, cap, cur, rfl, hb, hh, h3, h4, h5, h6⟩
  · exact ⟨none, 0, by rw [h0], fun i p hp => by rw [List.length_eq_zero_iff.1 h0] at hp; simp at hp⟩
  · refine ⟨_, cap, rfl, fun i p hp => ⟨g, rfl, (Array.getElem?_eq_some_iff.1 hh).1, fun j v hj hv => ?_⟩⟩
    have hl := (List.getElem?_eq_some_iff.1 hp).1
    have := lineCells_at hp j hj
    rw [hv, ← h6, List.getElem?_take, if_pos (by omega)] at this
    simpa [World.cell?, hh] using this
theorem rowL_len {w : World} {base : Nat} {va : Value} {ps : List (LineD × Value)} (h : RowL w base va ps) : ps.length ≤ 9223372036854775807 := by
  rcases h.1.2 with ⟨rfl, h0⟩ | ⟨g, cap, cur, rfl, hb, hh, h3, h4, h5, h6⟩
  · omega
  · have : maxLen = 9223372036854775807 := rfl
    omega
theorem texts_tx {w : World} {base : Nat} {v : Value} {l : List (List UInt8)} (h : TextsAt w base v l) : ∃ a c, v = .slice a l.length c ∧ l.length ≤ c ∧ TxG w a l := by
  rcases h.2 with ⟨rfl, h0⟩ | ⟨g, cap, cur, rfl, hb, hh, h3, h4, h5, h6⟩
  · exact ⟨none, 0, by rw [h0], by omega, fun i x hx => by rw [List.length_eq_zero_iff.1 h0] at hx; simp at hx⟩
  · refine ⟨_, cap, rfl, h3, fun i x hx => ⟨g, 0, rfl, ?_⟩⟩
    have hl := (List.getElem?_eq_some_iff.1 hx).1
    have e : (strVs (l.map S))[i]? = some (.string (S x)) := by simp [strVs, hx]
    rw [← h6, List.getElem?_take, if_pos (by omega)] at e
    simpa [World.cell?, hh] using e

theorem Held.kept {w0 W : World} {st : WalkD} {fvh : Value} (h : Held w0 st fvh) (hk : KeptC w0.heap.size w0 W) : Held W st fvh := by
  unfold Held at h ⊢
  split
  · rename_i e; rw [e] at h; exact h
  · rename_i x e
    rw [e] at h
    obtain ⟨h1, a, c, h2, h3, h4⟩ := h
    exact ⟨h1, a, c, h2, h3, h4.kept hk rfl⟩
theorem ask_of {st : WalkD} {d : LineD} {j : Nat} (hj : j < 4) (hz : ∀ m, m < j → stepE st d m = 0) (h : stepE st d j ≠ 0) : askE st d = stepE st d j := by
  unfold askE
  match j, hj with
  | 0, _ => rw [if_pos h]
  | 1, _ => rw [if_neg (by simpa using hz 0 (by omega)), if_pos h]
  | 2, _ => rw [if_neg (by simpa using hz 0 (by omega)), if_neg (by simpa using hz 1 (by omega)), if_pos h]
  | 3, _ => rw [if_neg (by simpa using hz 0 (by omega)), if_neg (by simpa using hz 1 (by omega)), if_neg (by simpa using hz 2 (by omega))]
theorem ask_zero {st : WalkD} {d : LineD} (hz : ∀ m, m < 4 → stepE st d m = 0) : askE st d = 0 := by
  unfold askE
  rw [if_neg (by simpa using hz 0 (by omega)), if_neg (by simpa using hz 1 (by omega)), if_neg (by simpa using hz 2 (by omega))]
  exact hz 3 (by omega)
/-- a scope that nothing jumps in -/
theorem wpIn_scope_calm {P : Program} {n : Nat} {c : Code} {Q : Exit → Act → World → Prop} {a : Act} {w : World} (h : ∀ Q' : Exit → Act → World → Prop, (∀ a w, Q .ret a w → Q' .ret a w) → (∀ a w, Q .normal a w → Q' .normal a w) → c.wpIn Fence.wide n P Q' a w) : (Code.scope c).wpIn Fence.wide n P Q a w := by
  refine wpIn_wide.2 (wp_scope_many (fun _ _ _ => False) (fun _ _ _ => 0) ?_ (fun _ _ _ h => h.elim))
  exact wpIn_wide.1 (h (Exit.jumps (fun _ _ _ => False) Q) (fun _ _ h => h) (fun _ _ h => h))
abbrev rowE (x : RowD × Int) : Array Value := #[rowV x.1, .int .i64 x.2]
/-- the blocks that a round must leave -/
abbrev keepK (N Bs : Nat) : Nat → Prop := fun k => k < N ∨ k = Bs

set_option maxRecDepth 100000 in
set_option maxHeartbeats 4000000 in
theorem each6_in (ps : List (LineD × Value)) (w0 : World) (base : Nat) (va : Value) (Bs : Nat) (hg : Glob w0) (hr : RowL w0 base va ps) (hs : ∀ p ∈ ps, ∀ x ∈ p.1.fields, x.length ≤ 1073741824) (n l : Nat) (hn : 4 ≤ n) (J Jx : List (RowD × Int) → World → Prop) (W : World)
    (hY : ∀ pre x W1, J pre W1 → (pre ++ [x]) <+: eachR startW (ps.map (·.1)) → W.heap.size + 2 ≤ W1.heap.size → YieldAt Fence.wide (n - 1) Tryz.prog l (rowE x) W1 fun e W' =>
      (e = .returned (.bool true) ∧ J (pre ++ [x]) W' ∧ Kp4 2 (keepK w0.heap.size Bs) W.heap.size W1 W') ∨ (e = .returned (.bool false) ∧ Jx (pre ++ [x]) W' ∧ KeepsFrom W.heap.size W1 W'))
    (hJ : OwnFrom W.heap.size J) (hJx : OwnFrom W.heap.size Jx) (hcalm : CalmR W.heap.size 0 1 J) (hk0 : KeptC w0.heap.size w0 W) (hsW : w0.heap.size ≤ W.heap.size) (hBs : Boxed W Bs 85 va) (h0 : J [] W) :
    CallsIn Fence.wide n Tryz.prog 68 #[.func (.yield l) #[] #[], .pointer (some ⟨Bs, 0, none⟩)] W fun e W' => (∃ v, e = .returned v) ∧
      ((∃ xs, xs = eachR startW (ps.map (·.1)) ∧ J xs W') ∨ (∃ pre, pre <+: eachR startW (ps.map (·.1)) ∧ Jx pre W')) := by
  have hn1 : 1 ≤ n := by omega
  have hn2 : 1 ≤ n - 1 := by omega
  obtain ⟨ra, rc, rfl, hrow⟩ := rowL_at hr
  have hNl := rowL_len hr
  have HYY := hide hY
  have HRW := hide hrow
  have HR := hide hr
  have HS := hide hs
  have HG := hide hg
  have HK0 := hide hk0
  clear hY hrow hr hs hg hk0
  obtain ⟨W1, hW1⟩ : ∃ W1, (W.alloc (.cells (walkC (-1) zeroD (.slice none 0 0) zeroR 0).toArray 135)).alloc (.cells (stepsC W.heap.size).toArray 136) = W1 := ⟨_, rfl⟩
  have hb1 : Below W.heap.size W W1 := by rw [← hW1]; exact ((Below.refl _ W).alloc (Nat.le_refl _) _).alloc (by simp) _
  have hs1 : W1.heap.size = W.heap.size + 2 := by rw [← hW1]; simp
  have bW : Blk W1 W.heap.size (walkC (-1) zeroD (.slice none 0 0) zeroR 0) 135 := by rw [← hW1]; exact (Blk.new W _ _).alloc _
  have bS : Blk W1 (W.heap.size + 1) (stepsC W.heap.size) 136 := by
    rw [← hW1]
    have h := Blk.new (W.alloc (.cells (walkC (-1) zeroD (.slice none 0 0) zeroR 0).toArray 135)) (stepsC W.heap.size) 136
    rw [World.size_alloc] at h
    exact h
  have hbs1 : Boxed W1 Bs 85 (.slice ra ps.length rc) := (hb1.block _ hBs.lt).trans hBs
  have hJ1 : J [] W1 := own_grow hJ [] W W1 hb1 h0
  obtain ⟨N, hN⟩ : ∃ N, ps.length = N := ⟨_, rfl⟩
  rw [hN] at hbs1 hBs hNl
  have HN := hide hN
  clear hN h0
  refine callsIn_of_wp Tryz.func68 rfl trivial ?_ rfl
  simp only [Tryz.ntmps68, List.size_toArray, List.length_cons, List.length_nil, Nat.reduceAdd, Nat.reduceSub, Array.replicate_succ, Array.replicate_zero, List.push_toArray, List.append_toArray, List.nil_append, List.cons_append]
  have hF : ∀ f, Fence.wide.fn f := fun _ => trivial
  have c0 := hbs1.cell
  refine wpIn_scope_calm fun Q' hQr hQn => ?_
  have hW2 : (W.alloc (Obj.cells #[Value.int IntKind.i32 (-1), Value.int IntKind.i64 0, Value.int IntKind.u8 0, Value.string ⟨#[]⟩, Value.slice none 0 0, Value.string ⟨#[]⟩, Value.int IntKind.i64 0, Value.int IntKind.i32 0, Value.int IntKind.i32 0, Value.string ⟨#[]⟩, Value.string ⟨#[]⟩, Value.int IntKind.u8 0, Value.int IntKind.u8 0, Value.int IntKind.i32 0, Value.bool false, Value.int IntKind.u8 0] 135)).alloc (Obj.cells #[Value.func (Fn.func 69) #[Value.pointer (some ⟨W.heap.size, 0, none⟩)] #[], Value.func (Fn.func 70) #[Value.pointer (some ⟨W.heap.size, 0, none⟩)] #[], Value.func (Fn.func 71) #[Value.pointer (some ⟨W.heap.size, 0, none⟩)] #[], Value.func (Fn.func 72) #[Value.pointer (some ⟨W.heap.size, 0, none⟩)] #[]] 136) = W1 := hW1
  clear hW1
  gi_wp2
  refine wpIn_label ?_
  clear hW2
  gi_wp2
  have hBl := hBs.lt
  have HIN : Hid (Held w0 startW (.slice none 0 0)) := rfl
  gi_loopw [21] (fun v21 wr => ∃ (i : Nat) (pre : List (RowD × Int)) (st : WalkD) (fvh : Value), v21 = .int .i64 i ∧ i ≤ N ∧ Hid (pre ++ eachR st ((ps.map (·.1)).drop i) = eachR startW (ps.map (·.1))) ∧ Held w0 st fvh ∧ Blk wr W.heap.size (walkC st.above (heldL st) fvh (heldRow st) (heldK st)) 135 ∧ Blk wr (W.heap.size + 1) (stepsC W.heap.size) 136 ∧ KeptC w0.heap.size w0 wr ∧ Boxed wr Bs 85 (.slice ra N rc) ∧ J pre wr ∧ W.heap.size + 2 ≤ wr.heap.size) (fun v21 _ => N - (RowKit.intOf v21).toNat)
  case atStart => exact ⟨0, [], startW, .slice none 0 0, rfl, Nat.zero_le _, rfl, unhide HIN, bW, bS, (unhide HK0).below hb1, hbs1, hJ1, by omega⟩
  case round =>
    obtain ⟨i, pre, st, fvh, rfl, hi, HE, hh, bWr, bSr, hkr, hbr, hJr, hsr⟩ := hrel
    clear bW bS hbs1 hJ1 c0 hBs
    by_cases hlt : i < N
    · have hlt' : (i : Int) < (N : Int) := by omega
      obtain ⟨⟨d, fv⟩, hp⟩ : ∃ p, ps[i]? = some p := ⟨_, List.getElem?_eq_getElem (by rw [unhide HN]; exact hlt)⟩
      obtain ⟨g, rfl, hgl, hcl⟩ := unhide HRW i _ hp
      have l0 := hkr.cell (hcl 0 _ (by omega) rfl) hgl
      have l1 := hkr.cell (hcl 1 _ (by omega) rfl) hgl
      have l2 := hkr.cell (hcl 2 _ (by omega) rfl) hgl
      have l3 := hkr.cell (hcl 3 _ (by omega) rfl) hgl
      have l4 := hkr.cell (hcl 4 _ (by omega) rfl) hgl
      simp only [Nat.add_zero] at l0 l1 l2 l3 l4
      have hfv := texts_tx ((unhide HR).2 _ (List.mem_of_getElem? hp))
      simp only at hfv
      obtain ⟨fa, fc, rfl, hfc, hTx⟩ := hfv
      have hdr : (ps.map (·.1)).drop i = d :: (ps.map (·.1)).drop (i + 1) := by
        have hil : i < (ps.map (·.1)).length := by rw [List.length_map, unhide HN]; exact hlt
        rw [List.drop_eq_getElem_cons hil]
        congr 1
        rw [List.getElem_map]
        have := (List.getElem?_eq_some_iff.1 hp).2
        rw [this]
      have hstep : eachR st (d :: (ps.map (·.1)).drop (i + 1)) = (stepR st d).1 ++ eachR (stepR st d).2 ((ps.map (·.1)).drop (i + 1)) := rfl
      have hfs := unhide HS _ (List.mem_of_getElem? hp)
      simp only at hfs
      have HE' := unhide HE
      rw [hdr, hstep] at HE'
      have HEE := hide HE'
      clear hdr hstep HE HE' hcl hp
      obtain ⟨V, hV⟩ : ∃ V, wr.alloc (.cells #[.int .i64 d.no, .int .u8 d.kind, .string (S d.name), .slice fa d.fields.length fc, .string (S d.note)] 25) = V := ⟨_, rfl⟩
      have hVb : Below wr.heap.size wr V := by rw [← hV]; exact (Below.refl _ wr).alloc (Nat.le_refl _) _
      have hVs : V.heap.size = wr.heap.size + 1 := by rw [← hV]; simp
      have hVl : Blk V wr.heap.size [.int .i64 d.no, .int .u8 d.kind, .string (S d.name), .slice fa d.fields.length fc, .string (S d.note)] 25 := by rw [← hV]; exact Blk.new wr _ _
      have v0 := hVl.cell (j := 0) rfl
      have v1 := hVl.cell (j := 1) rfl
      have v2 := hVl.cell (j := 2) rfl
      have v3 := hVl.cell (j := 3) rfl
      have v4 := hVl.cell (j := 4) rfl
      have bWV := bWr.below hVb
      have bSV := bSr.below hVb
      have hkV := hkr.below hVb
      have hbV : Boxed V Bs 85 (.slice (some ⟨g, 0, none⟩) N rc) := (hVb.block _ hbr.lt).trans hbr
      have hJV := own_grow hJ pre wr V hVb hJr
      have HV0 := hide (⟨bWV, bSV, hkV, hbV, hJV⟩ : _ ∧ _ ∧ _ ∧ _ ∧ _)
      have hq1 : IntKind.i64.wrap ((i : Int) + 1) = (i : Int) + 1 := by rw [IntKind.wrap_i64]; omega
      clear bWV bSV hkV hbV hJV bWr bSr hkr hbr hJr
      by_cases hsk : d.kind = 0 ∨ d.kind = 3
      · have hst : stepR st d = ([], st) := by unfold stepR; rw [if_pos hsk]
        have HST := hide hst
        clear hst
        have hsk' : ((d.kind == 0) = true) ∨ ((d.kind == 0) = false ∧ (d.kind == 3) = true) := by
          rcases hsk with h | h
          · left; simp [h]
          · right; simp [h]
        clear hsk
        rcases hsk' with k0 | ⟨k0, k3⟩
        · gi_wp2
          go_roundw
          case rel =>
            obtain ⟨b1, b2, b3, b4, b5⟩ := unhide HV0
            have he := unhide HEE
            rw [unhide HST] at he
            exact ⟨i + 1, pre, st, fvh, by go_num, by omega, he, hh, b1, b2, b3, b4, b5, by omega⟩
          case measure => simp [RowKit.intOf]; omega
        · gi_wp2
          go_roundw
          case rel =>
            obtain ⟨b1, b2, b3, b4, b5⟩ := unhide HV0
            have he := unhide HEE
            rw [unhide HST] at he
            exact ⟨i + 1, pre, st, fvh, by go_num, by omega, he, hh, b1, b2, b3, b4, b5, by omega⟩
          case measure => simp [RowKit.intOf]; omega
      · have k0 : (d.kind == 0) = false := by simp only [beq_eq_false_iff_ne]; intro h; exact hsk (.inl h)
        have k3 : (d.kind == 3) = false := by simp only [beq_eq_false_iff_ne]; intro h; exact hsk (.inr h)
        obtain ⟨V2, hV2⟩ : ∃ V2, V.alloc (.cells (entC d (.slice fa d.fields.length fc) zeroR 0).toArray 133) = V2 := ⟨_, rfl⟩
        have hV3 : V.alloc (.cells #[.int .i64 d.no, .int .u8 d.kind, .string (S d.name), .slice fa d.fields.length fc, .string (S d.note), .int .i64 0, .int .i32 0, .int .i32 0, .string ⟨#[]⟩, .string ⟨#[]⟩, .int .u8 0, .int .u8 0, .int .i32 0, .bool false, .int .u8 0] 133) = V2 := hV2
        have hV2b : Below V.heap.size V V2 := by rw [← hV2]; exact (Below.refl _ V).alloc (Nat.le_refl _) _
        have hV2s : V2.heap.size = V.heap.size + 1 := by rw [← hV2]; simp
        have bE : Blk V2 V.heap.size (entJ 0 d (.slice fa d.fields.length fc)) 133 := by rw [← hV2]; exact Blk.new V _ _
        have HSK := hide hsk
        have HV3 := hide hV3
        clear hV2 hsk hV3
        gi_wp2
        rw [unhide HV3]
        clear HV3 hV
        rw [← hVs]
        generalize heb : V.heap.size = eb at *
        have hebN : 10 ≤ eb := by have := (unhide HG).size; omega
        have hwrs : W.heap.size + 2 ≤ wr.heap.size := hsr
        have HTX := hide hTx
        have HFS := hide hfs
        have HH := hide hh
        clear l0 l1 l2 l3 l4 v1 v2 v3 v4 hTx hfs hh hsr hVb
        have VL := hide v0
        clear v0 hVl
        generalize hlb : wr.heap.size = lb at *
        clear hlb
        have hlb1 : lb < eb := by omega
        have hlb2 : eb ≤ lb + 1 := by omega
        clear hVs
        gi_loopw [37] (fun v37 wq => ∃ j : Nat, v37 = .int .i64 j ∧ j ≤ 4 ∧ Hid (∀ m, m < j → stepE st d m = 0) ∧ Blk wq eb (entJ j d (.slice fa d.fields.length fc)) 133 ∧ But eb V2 wq) (fun v37 _ => 4 - (RowKit.intOf v37).toNat)
        case atStart => exact ⟨0, rfl, by omega, fun m hm => by omega, bE, But.of_below (Below.refl _ _)⟩
        case round =>
          obtain ⟨j, rfl, hj, HZ, bEq, hbt⟩ := hrel
          obtain ⟨b1, b2, b3, b4, b5⟩ := unhide HV0
          have hBV : Below V.heap.size V wr := by rw [heb]; exact hbt.below hV2b (Nat.le_refl _) (by omega)
          have bWq := b1.below hBV
          have bSq := b2.below hBV
          have hkq := b3.below hBV
          have hgq := (unhide HG).kept hkq rfl (by have := hBV.size; omega)
          have hTq := (unhide HTX).kept hkq rfl
          have hhq := (unhide HH).kept hkq
          by_cases hj4 : j < 4
          · have hj4' : (j : Int) < 4 := by omega
            obtain ⟨F, hF⟩ : ∃ F, stepF[j]? = some F := ⟨_, List.getElem?_eq_getElem (by simpa [stepF] using hj4)⟩
            have eF := step_enters hF
            have HSTEP := hide (callsIn_wide (n := n - 1) |>.2 (step_any hF W.heap.size eb st fvh d fa fc wr hgq hTq (unhide HFS) hfc hhq bWq bEq (unhide HZ)))
            have cS := bSq.cell (stepsC_at (wb := W.heap.size) hF)
            obtain ⟨E, hE⟩ : ∃ E, stepE st d j = E := ⟨_, rfl⟩
            rw [hE] at HSTEP
            have HEq := hide hE
            have hq2 : IntKind.i64.wrap ((j : Int) + 1) = (j : Int) + 1 := by rw [IntKind.wrap_i64]; omega
            clear b1 b2 b3 b4 b5 bWq bSq hkq hgq hTq hhq hE hBV hF bEq
            gi_wp2_with fail
            refine (unhide HSTEP).mono ?_
            rintro e w5 ⟨rfl, bE5, hbt5⟩
            have hbt' := hbt.trans hbt5
            have hB5 : Below V.heap.size V w5 := by rw [heb]; exact hbt'.below hV2b (Nat.le_refl _) (by omega)
            have c5 := (hB5.cell (World.block_lt_of_cell? _ _ (unhide VL))).trans (unhide VL)
            have BE5 := hide bE5
            have HBT := hide hbt'
            have HB5 := hide hB5
            clear bE5 hbt' hB5 hbt hbt5 HSTEP cS
            by_cases hE0 : E = 0
            · subst hE0
              gi_wp2
              go_roundw
              case rel =>
                refine ⟨j + 1, by go_num, by omega, fun m hm => ?_, unhide BE5, unhide HBT⟩
                by_cases hmj : m < j
                · exact unhide HZ m hmj
                · obtain rfl : m = j := by omega
                  exact unhide HEq
              case measure => simp [RowKit.intOf]; omega
            · have hE1 : (E != 0) = true := by simpa using hE0
              have hE2 : (E == 0) = false := by simpa using hE0
              have hask : askE st d = E := (ask_of hj4 (unhide HZ) (by rw [unhide HEq]; exact hE0)).trans (unhide HEq)
              have hst : stepR st d = ([({ zeroR with line := d.no }, E)], st) := by unfold stepR; rw [if_neg (unhide HSK), hask, if_pos hE0]
              have he := unhide HEE
              rw [hst] at he
              simp only at he
              obtain ⟨b1, b2, b3, b4, b5⟩ := unhide HV0
              have hJ5 := own_grow hJ pre V w5 (unhide HB5) b5
              have hsz5 := (unhide HB5).size
              obtain ⟨fn, tmps, assign, body, hy, hR⟩ := unhide HYY pre ({ zeroR with line := d.no }, E) w5 hJ5 ⟨_, by rw [List.append_assoc]; exact he⟩ (by omega)
              dsimp only [rowE, rowV, zeroR] at hy
              have hw5 : Blk w5 W.heap.size (walkC st.above (heldL st) fvh (heldRow st) (heldK st)) 135 ∧ Blk w5 (W.heap.size + 1) (stepsC W.heap.size) 136 ∧ KeptC w0.heap.size w0 w5 ∧ Boxed w5 Bs 85 (.slice (some ⟨g, 0, none⟩) N rc) := ⟨b1.below (unhide HB5), b2.below (unhide HB5), b3.below (unhide HB5), ((unhide HB5).block _ b4.lt).trans b4⟩
              have HW5 := hide hw5
              have HE5 := hide he
              clear hw5 he hst hask b1 b2 b3 b4 b5 hE0 hJ5
              gi_wp2
              refine hR.mono ?_
              rintro e W5 (⟨rfl, hJ6, hk5⟩ | ⟨rfl, hJx5, hk5⟩)
              · gi_wp2
                obtain ⟨w1, w2, w3, w4⟩ := unhide HW5
                refine ⟨⟨i + 1, _, st, fvh, by go_num, by omega, (by rw [List.append_assoc]; exact unhide HE5 : _ = _), unhide HH, hk5.2.2 _ _ (.inl ⟨Nat.le_refl _, by omega⟩) rfl w1, hk5.2.2 _ _ (.inl ⟨by omega, by omega⟩) rfl w2, fun k o hk ho hx => hk5.2.2 k o (.inr (.inl hk)) ho (w3 k o hk ho hx), hk5.2.2 Bs _ (.inr (.inr rfl)) rfl w4, hJ6, ?_⟩, by simp [RowKit.intOf]; omega⟩
                have := hk5.1.size
                omega
              · gi_wp2
                refine hQr _ _ ?_
                refine bodyPost_ret (results_none rfl _ _ _) rfl ?_
                exact ⟨⟨_, rfl⟩, .inr ⟨_, ⟨_, by rw [List.append_assoc]; exact unhide HE5⟩, hJx5⟩⟩
          · obtain rfl : j = 4 := by omega
            have hask := ask_zero (unhide HZ)
            have H15 := hide (scan_fields (unhide HZ 0 (by omega)))
            have bEq' : Blk wr eb (entC d (.slice fa d.fields.length fc) (plainR d) (whichR d)) 133 := bEq
            have hbq : Boxed wr Bs 85 (.slice (some ⟨g, 0, none⟩) N rc) := (hBV.block _ b4.lt).trans b4
            have hJq := own_grow hJ pre V wr hBV b5
            have hszq := hBV.size
            have hstE : stepR st d = if whichR d = 1 then ([], ⟨(plainR d).first, some (d, plainR d)⟩) else if whichR d = 2 then ([({ heldRow st with last := (plainR d).last }, 0)], ⟨(plainR d).first, none⟩) else ([(plainR d, 0)], ⟨(plainR d).first, st.held⟩) := by
              unfold stepR; rw [if_neg (unhide HSK), hask]; simp
            have ce0 := bEq'.cell (j := 0) rfl
            have ce1 := bEq'.cell (j := 1) rfl
            have ce2 := bEq'.cell (j := 2) rfl
            have ce3 := bEq'.cell (j := 3) rfl
            have ce4 := bEq'.cell (j := 4) rfl
            have ce5 := bEq'.cell (j := 5) rfl
            have ce6 := bEq'.cell (j := 6) rfl
            have ce7 := bEq'.cell (j := 7) rfl
            have ce8 := bEq'.cell (j := 8) rfl
            have ce9 := bEq'.cell (j := 9) rfl
            have ce10 := bEq'.cell (j := 10) rfl
            have ce11 := bEq'.cell (j := 11) rfl
            have ce12 := bEq'.cell (j := 12) rfl
            have ce13 := bEq'.cell (j := 13) rfl
            have ce14 := bEq'.cell (j := 14) rfl
            have hmem : ∀ (w6 : World) (c2 : List Value), Blk w6 W.heap.size c2 135 → c2.length = 16 → But W.heap.size wr w6 → Blk w6 (W.heap.size + 1) (stepsC W.heap.size) 136 ∧ KeptC w0.heap.size w0 w6 ∧ Boxed w6 Bs 85 (.slice (some ⟨g, 0, none⟩) N rc) ∧ J pre w6 := fun w6 c2 h1 h2 h3 =>
              ⟨bSq.but h3 (by omega), hkq.but h3 (by omega), (h3.block Bs hbq.lt (by omega)).trans hbq, calm_but (J := J pre) (fun U o v hU => hcalm pre U W.heap.size o v (Nat.le_refl _) (by omega) hU) (fun U X hUX hU => own_grow hJ pre U X hUX hU) bWq h1 (by rw [h2]; rfl) h3 hJq⟩
            have HMEM := hide hmem
            have hsl := hhq.slice
            clear hmem bEq bEq' bSq hkq hgq hTq hhq hbq hJq b1 b2 b3 b4 b5
            by_cases hw1 : whichR d = 1
            · rw [hw1] at ce14
              rw [if_pos hw1] at hstE
              have HTK := hide (callsIn_wide (n := n - 1) |>.2 (take_first W.heap.size st.above d (heldL st) (.slice fa d.fields.length fc) fvh (plainR d) (heldRow st) (heldK st) wr bWq ⟨_, _, _, rfl⟩ hsl))
              have he := unhide HEE
              rw [hstE] at he
              have HE6 := hide he
              clear he hstE bWq hw1
              generalize plainR d = pr at *
              gi_wp2_with fail
              refine (unhide HTK).mono ?_
              rintro e w6 ⟨rfl, bW6, hbt6⟩
              obtain ⟨m1, m2, m3, m4⟩ := unhide HMEM w6 _ bW6 rfl hbt6
              have M := hide (⟨bW6, m1, m2, m3, m4⟩ : _ ∧ _ ∧ _ ∧ _ ∧ _)
              have hsz6 := hbt6.size
              clear bW6 m1 m2 m3 m4 hbt6 HTK ce0 ce1 ce2 ce3 ce4 ce5 ce6 ce7 ce8 ce9 ce10 ce11 ce12 ce13 ce14
              gi_wp2
              obtain ⟨w1, w2, w3, w4, w5⟩ := unhide M
              have hb7 : Below w6.heap.size w6 (w6.alloc (.cells (rowC zeroR).toArray 29)) := (Below.refl _ w6).alloc (Nat.le_refl _) _
              refine ⟨⟨i + 1, pre, ⟨pr.first, some (d, pr)⟩, .slice fa d.fields.length fc, by go_num, by omega, unhide HE6, ⟨unhide H15, fa, fc, by rw [unhide H15], by rw [← unhide H15]; exact hfc, unhide HTX⟩, w1.below hb7, w2.below hb7, w3.below hb7, (hb7.block _ w4.lt).trans w4, own_grow hJ pre _ _ hb7 w5, ?_⟩, by simp [RowKit.intOf]; omega⟩
              rw [World.size_alloc]
              omega
            · rw [if_neg hw1] at hstE
              have hw1' : (whichR d == 1) = false := by simpa using hw1
              by_cases hw2 : whichR d = 2
              · rw [hw2] at ce14
                rw [if_pos hw2] at hstE
                have HTK := hide (callsIn_wide (n := n - 1) |>.2 (take_last W.heap.size st.above d (heldL st) (.slice fa d.fields.length fc) fvh (plainR d) (heldRow st) (heldK st) wr bWq ⟨_, _, _, rfl⟩ hsl))
                have he := unhide HEE
                rw [hstE] at he
                have HE6 := hide he
                clear he hstE bWq hw1 hw2 hw1'
                generalize plainR d = pr at *
                gi_wp2_with fail
                refine (unhide HTK).mono ?_
                rintro e w6 ⟨rfl, bW6, hbt6⟩
                obtain ⟨m1, m2, m3, m4⟩ := unhide HMEM w6 _ bW6 rfl hbt6
                have hsz6 := hbt6.size
                obtain ⟨V6, hV6⟩ : ∃ V6, w6.alloc (.cells (rowC { heldRow st with last := pr.last }).toArray 29) = V6 := ⟨_, rfl⟩
                have hb6 : Below w6.heap.size w6 V6 := by rw [← hV6]; exact (Below.refl _ w6).alloc (Nat.le_refl _) _
                have bR6 : Blk V6 w6.heap.size (rowC { heldRow st with last := pr.last }) 29 := by rw [← hV6]; exact Blk.new w6 _ _
                have cr0 := bR6.cell (j := 0) rfl
                have cr1 := bR6.cell (j := 1) rfl
                have cr2 := bR6.cell (j := 2) rfl
                have cr3 := bR6.cell (j := 3) rfl
                have cr4 := bR6.cell (j := 4) rfl
                have cr5 := bR6.cell (j := 5) rfl
                have cr6 := bR6.cell (j := 6) rfl
                have cr7 := bR6.cell (j := 7) rfl
                have cr8 := bR6.cell (j := 8) rfl
                have hJ6 := own_grow hJ pre w6 V6 hb6 m4
                have hs66 := hb6.size
                obtain ⟨fn, tmps, assign, body, hy, hR⟩ := unhide HYY pre ({ heldRow st with last := pr.last }, 0) V6 hJ6 ⟨_, by rw [List.append_assoc]; exact unhide HE6⟩ (by omega)
                dsimp only [rowE, rowV] at hy
                have M := hide (⟨bW6.below hb6, m1.below hb6, m2.below hb6, (hb6.block _ m3.lt).trans m3⟩ : _ ∧ _ ∧ _ ∧ _)
                clear bW6 m1 m2 m3 m4 hbt6 HTK bR6 hb6 hJ6 ce0 ce1 ce2 ce3 ce4 ce5 ce6 ce7 ce8 ce9 ce10 ce11 ce12 ce13 ce14
                gi_wp2
                refine hR.mono ?_
                rintro e W5 (⟨rfl, hJ7, hk5⟩ | ⟨rfl, hJx5, hk5⟩)
                · clear cr0 cr1 cr2 cr3 cr4 cr5 cr6 cr7 cr8 hV6
                  gi_wp2
                  obtain ⟨w1, w2, w3, w4⟩ := unhide M
                  refine ⟨⟨i + 1, _, ⟨pr.first, none⟩, .slice none 0 0, by go_num, by omega, (by rw [List.append_assoc]; exact unhide HE6 : _ = _), rfl, hk5.2.2 _ _ (.inl ⟨Nat.le_refl _, by omega⟩) rfl w1, hk5.2.2 _ _ (.inl ⟨by omega, by omega⟩) rfl w2, fun k o hk ho hx => hk5.2.2 k o (.inr (.inl hk)) ho (w3 k o hk ho hx), hk5.2.2 Bs _ (.inr (.inr rfl)) rfl w4, hJ7, ?_⟩, by simp [RowKit.intOf]; omega⟩
                  have := hk5.1.size
                  omega
                · gi_wp2
                  refine hQr _ _ ?_
                  refine bodyPost_ret (results_none rfl _ _ _) rfl ?_
                  exact ⟨⟨_, rfl⟩, .inr ⟨_, ⟨_, by rw [List.append_assoc]; exact unhide HE6⟩, hJx5⟩⟩
              · rw [if_neg hw2] at hstE
                have hw2' : (whichR d == 2) = false := by simpa using hw2
                have HTK := hide (callsIn_wide (n := n - 1) |>.2 (take_row W.heap.size st.above d (heldL st) (.slice fa d.fields.length fc) fvh (plainR d) (heldRow st) (whichR d) (heldK st) wr bWq ⟨_, _, _, rfl⟩ hsl hw1' hw2'))
                have he := unhide HEE
                rw [hstE] at he
                have HE6 := hide he
                clear he hstE bWq hw1 hw2 hw1' hw2'
                generalize plainR d = pr at *
                generalize whichR d = kk at *
                gi_wp2_with fail
                refine (unhide HTK).mono ?_
                rintro e w6 ⟨rfl, bW6, hbt6⟩
                obtain ⟨m1, m2, m3, m4⟩ := unhide HMEM w6 _ bW6 rfl hbt6
                have hsz6 := hbt6.size
                obtain ⟨V6, hV6⟩ : ∃ V6, w6.alloc (.cells (rowC pr).toArray 29) = V6 := ⟨_, rfl⟩
                have hb6 : Below w6.heap.size w6 V6 := by rw [← hV6]; exact (Below.refl _ w6).alloc (Nat.le_refl _) _
                have bR6 : Blk V6 w6.heap.size (rowC pr) 29 := by rw [← hV6]; exact Blk.new w6 _ _
                have cr0 := bR6.cell (j := 0) rfl
                have cr1 := bR6.cell (j := 1) rfl
                have cr2 := bR6.cell (j := 2) rfl
                have cr3 := bR6.cell (j := 3) rfl
                have cr4 := bR6.cell (j := 4) rfl
                have cr5 := bR6.cell (j := 5) rfl
                have cr6 := bR6.cell (j := 6) rfl
                have cr7 := bR6.cell (j := 7) rfl
                have cr8 := bR6.cell (j := 8) rfl
                have hJ6 := own_grow hJ pre w6 V6 hb6 m4
                have hs66 := hb6.size
                obtain ⟨fn, tmps, assign, body, hy, hR⟩ := unhide HYY pre (pr, 0) V6 hJ6 ⟨_, by rw [List.append_assoc]; exact unhide HE6⟩ (by omega)
                dsimp only [rowE, rowV] at hy
                have M := hide (⟨bW6.below hb6, m1.below hb6, m2.below hb6, (hb6.block _ m3.lt).trans m3⟩ : _ ∧ _ ∧ _ ∧ _)
                clear bW6 m1 m2 m3 m4 hbt6 HTK bR6 hb6 hJ6 ce0 ce1 ce2 ce3 ce4 ce5 ce6 ce7 ce8 ce9 ce10 ce11 ce12 ce13 ce14
                gi_wp2
                refine hR.mono ?_
                rintro e W5 (⟨rfl, hJ7, hk5⟩ | ⟨rfl, hJx5, hk5⟩)
                · clear cr0 cr1 cr2 cr3 cr4 cr5 cr6 cr7 cr8 hV6
                  gi_wp2
                  obtain ⟨w1, w2, w3, w4⟩ := unhide M
                  refine ⟨⟨i + 1, _, ⟨pr.first, st.held⟩, fvh, by go_num, by omega, (by rw [List.append_assoc]; exact unhide HE6 : _ = _), unhide HH, hk5.2.2 _ _ (.inl ⟨Nat.le_refl _, by omega⟩) rfl w1, hk5.2.2 _ _ (.inl ⟨by omega, by omega⟩) rfl w2, fun k o hk ho hx => hk5.2.2 k o (.inr (.inl hk)) ho (w3 k o hk ho hx), hk5.2.2 Bs _ (.inr (.inr rfl)) rfl w4, hJ7, ?_⟩, by simp [RowKit.intOf]; omega⟩
                  have := hk5.1.size
                  omega
                · gi_wp2
                  refine hQr _ _ ?_
                  refine bodyPost_ret (results_none rfl _ _ _) rfl ?_
                  exact ⟨⟨_, rfl⟩, .inr ⟨_, ⟨_, by rw [List.append_assoc]; exact unhide HE6⟩, hJx5⟩⟩
    · obtain rfl : i = N := by omega
      have hdr : (ps.map (·.1)).drop i = [] := List.drop_eq_nil_of_le (by rw [List.length_map, unhide HN]; exact Nat.le_refl _)
      have he := unhide HE
      rw [hdr] at he
      have he2 : pre ++ lastR st = eachR startW (ps.map (·.1)) := he
      have c15 := bWr.cell (j := 15) rfl
      have c1 := bWr.cell (j := 1) rfl
      cases hst : st.held with
      | none =>
        have hl : lastR st = [] := by unfold lastR; rw [hst]
        have hk : heldK st = 0 := by unfold heldK; rw [hst]
        rw [hl, List.append_nil] at he2
        rw [hk] at c15
        have HE2 := hide he2
        clear he he2 hdr hl hk hst HE c1
        gi_wp2
        go_end0
        exact ⟨⟨_, rfl⟩, .inl ⟨_, unhide HE2, hJr⟩⟩
      | some x =>
        have hl : lastR st = [({ zeroR with line := x.1.no }, 61)] := by unfold lastR; rw [hst]
        have hk : heldK st = 1 := by unfold heldK; rw [hst]
        have hL : heldL st = x.1 := by unfold heldL; rw [hst]
        rw [hl] at he2
        rw [hk] at c15
        rw [hL] at c1
        obtain ⟨fn, tmps, assign, body, hy, hR⟩ := unhide HYY pre ({ zeroR with line := x.1.no }, 61) wr hJr ⟨[], by rw [List.append_nil]; exact he2⟩ hsr
        dsimp only [rowE, rowV, zeroR] at hy
        have HE2 := hide he2
        clear he he2 hdr hl hk hst HE hL
        gi_wp2
        refine hR.mono ?_
        rintro e W5 (⟨rfl, hJ7, hk5⟩ | ⟨rfl, hJx5, hk5⟩)
        · gi_wp2
          go_end0
          exact ⟨⟨_, rfl⟩, .inl ⟨_, unhide HE2, hJ7⟩⟩
        · gi_wp2
          go_end0
          exact ⟨⟨_, rfl⟩, .inr ⟨_, ⟨[], by rw [List.append_nil]; exact unhide HE2⟩, hJx5⟩⟩
end Go.Proofs.YthjnkagepooeiaaGreatDoor
