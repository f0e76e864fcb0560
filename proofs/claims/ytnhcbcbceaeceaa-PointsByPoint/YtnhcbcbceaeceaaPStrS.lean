/-
  stretches: an iterator that tells the stretches of pieces, whatever the loop's body does with them.
-/
import Derived.Test.YtnhcbcbceaeceaaPoQb
import Derived.Test.YtnhcbcbceaeceaaPoQc
import Derived.Test.YtnhcbcbceaeceaaPStep
import Derived.Test.YtnhcbcbceaeceaaPoQd
import Derived.LoopIn
import Derived.Lib.QuietBelow
namespace Go.Proofs.Ytnhcbcbceaeceaa.VS
open Go.RowKit Go.PlainAid Go.Lib Go.PRow Go.Shelf Go.Seq4
set_option linter.unusedVariables false
set_option linter.unusedSimpArgs false

abbrev strV (x : Pc ByteArray) : Array Value := #[.agg #[.int .i32 x.lo, .int .i32 x.hi], Value.string x.val]

theorem str_in (a : Option Addr) (k c : Nat) (w : World) :
    Calls Try.prog 38 #[.slice a k c] w fun e w' => e = .returned (.func (.func 53) #[] #[.pointer (some ⟨w.heap.size, 0, none⟩)]) ∧ w' = w.alloc (.cells #[.slice a k c] 71) := by
  have hmf : ∀ (fn : Fn) (first cap : Array Value) (w : World), (Instr.makeFunc fn first cap).run Try.prog w = .ok (.func fn first cap) w := fun _ _ _ _ => rfl
  go_enter Try.func38, Try.ntmps38
  go_wp2
  go_ret
  exact ⟨rfl, rfl⟩

/-- where the walk over the pieces stands: fr: where the stretch began, i: the piece that is next; pre: what was told -/
def Stands (ps : List (Pc ByteArray)) (pre : List (Pc ByteArray)) (fr i : Nat) : Prop :=
  (i = ps.length ∧ pre = strsP eqv ps) ∨ ∃ p q, ps[fr]? = some p ∧ ps[i]? = some q ∧ fr ≤ i ∧ pre ++ strsGo eqv ⟨p.lo, q.hi, p.val⟩ q.val (ps.drop (i + 1)) = strsP eqv ps
theorem stands_start (ps : List (Pc ByteArray)) : Stands ps [] 0 0 := by
  cases ps with
  | nil => exact .inl ⟨rfl, rfl⟩
  | cons p ps => exact .inr ⟨p, p, rfl, rfl, Nat.le_refl _, by simp [strsP]⟩
theorem stands_join {ps pre : List (Pc ByteArray)} {fr i : Nat} {p q r : Pc ByteArray} (h : pre ++ strsGo eqv ⟨p.lo, q.hi, p.val⟩ q.val (ps.drop (i + 1)) = strsP eqv ps) (hp : ps[fr]? = some p) (hr : ps[i + 1]? = some r) (hf : fr ≤ i) (hj : q.hi + 1 = r.lo ∧ eqv q.val r.val = true) : Stands ps pre fr (i + 1) := by
  refine .inr ⟨p, r, hp, hr, by omega, ?_⟩
  rw [List.drop_eq_getElem_cons (List.getElem?_eq_some_iff.1 hr).1, (List.getElem?_eq_some_iff.1 hr).2, strsGo, if_pos hj] at h
  exact h
theorem stands_next {ps pre : List (Pc ByteArray)} {fr i : Nat} {p q r : Pc ByteArray} (h : pre ++ strsGo eqv ⟨p.lo, q.hi, p.val⟩ q.val (ps.drop (i + 1)) = strsP eqv ps) (hr : ps[i + 1]? = some r) (hj : ¬ (q.hi + 1 = r.lo ∧ eqv q.val r.val = true)) : Stands ps (pre ++ [⟨p.lo, q.hi, p.val⟩]) (i + 1) (i + 1) ∧ (pre ++ [⟨p.lo, q.hi, p.val⟩]) <+: strsP eqv ps := by
  rw [List.drop_eq_getElem_cons (List.getElem?_eq_some_iff.1 hr).1, (List.getElem?_eq_some_iff.1 hr).2, strsGo, if_neg hj] at h
  exact ⟨.inr ⟨r, r, hr, hr, Nat.le_refl _, by rw [← h]; simp⟩, ⟨_, by rw [← h]; simp; rfl⟩⟩
theorem stands_last {ps pre : List (Pc ByteArray)} {fr i : Nat} {p q : Pc ByteArray} (h : pre ++ strsGo eqv ⟨p.lo, q.hi, p.val⟩ q.val (ps.drop (i + 1)) = strsP eqv ps) (hi : i + 1 = ps.length) : Stands ps (pre ++ [⟨p.lo, q.hi, p.val⟩]) (i + 1) (i + 1) ∧ (pre ++ [⟨p.lo, q.hi, p.val⟩]) <+: strsP eqv ps := by
  rw [hi, List.drop_length, strsGo] at h
  exact ⟨.inl ⟨hi, h⟩, ⟨[], by rw [← h]; simp⟩⟩

set_option maxRecDepth 100000 in
set_option maxHeartbeats 4000000 in
theorem str1_in (ps : List (Pc ByteArray)) (o : OkP ps) (n l Bs g : Nat) (v : Value) (hn : 3 ≤ n) (J Jx : List (Pc ByteArray) → World → Prop) (W : World)
    (hY : ∀ pre x W1, J pre W1 → (pre ++ [x]) <+: strsP eqv ps → W.heap.size + 0 ≤ W1.heap.size → YieldAt Fence.wide (n - 1) Try.prog l (strV x) W1 fun e W' =>
      (e = .returned (.bool true) ∧ J (pre ++ [x]) W' ∧ Kp4 0 (fun k => k = Bs ∨ blk v = some k) W.heap.size W1 W') ∨ (e = .returned (.bool false) ∧ Jx (pre ++ [x]) W' ∧ KeepsFrom W.heap.size W1 W'))
    (hJ : OwnFrom W.heap.size J) (hBs : W.heap[Bs]? = some (.cells #[v] 71 (0, 0))) (hr : RowP W 0 v ps) (h0 : J [] W) :
    CallsIn Fence.wide n Try.prog 53 #[.func (.yield l) #[] #[], .pointer (some ⟨Bs, 0, none⟩)] W fun e W' => (∃ v, e = .returned v) ∧
      ((∃ xs, xs = strsP eqv ps ∧ J xs W') ∨ (∃ pre, pre <+: strsP eqv ps ∧ Jx pre W')) := by
  have hlen := okP_len o
  obtain ⟨a, cap, rfl, hc1, hc2, -, hg⟩ := hr.form
  -- what the walk keeps: the box and the row
  obtain ⟨Kc, hKc⟩ : ∃ Kc : World → Prop, Kc = fun V => V.heap[Bs]? = W.heap[Bs]? ∧ ∀ k, blk (.slice a ps.length cap) = some k → V.heap[k]? = W.heap[k]? := ⟨_, rfl⟩
  have KK : ∀ V, Kc V → V.cell? ⟨Bs, 0, none⟩ = some (.slice a ps.length cap) ∧ ∀ (i : Nat) (p : Pc ByteArray), ps[i]? = some p → ∃ g, a = some ⟨g, 0, none⟩ ∧ V.cell? ⟨g, i * 3, none⟩ = some (.int .i32 p.lo) ∧ V.cell? ⟨g, i * 3 + 1, none⟩ = some (.int .i32 p.hi) ∧ V.cell? ⟨g, i * 3 + 2, none⟩ = some (Value.string p.val) := by
    intro V hV
    rw [hKc] at hV
    refine ⟨?_, fun i p hp => ?_⟩
    · have := hV.1.trans hBs
      simp [World.cell?, this]
    · obtain ⟨g, rfl, hb, _, hgl, hcell⟩ := hg (by intro e; subst e; simp at hp)
      obtain ⟨c1, c2, c3⟩ := hcell _ _ hp
      have e : ∀ j, V.cell? ⟨g, j, none⟩ = W.cell? ⟨g, j, none⟩ := fun j => World.cell?_of_block (hV.2 g hb)
      exact ⟨g, rfl, (e _).trans c1, (e _).trans c2, (e _).trans c3⟩
  have hK0 : Kc W := by rw [hKc]; exact ⟨rfl, fun _ _ => rfl⟩
  have hKb : ∀ V V', Kc V → Below V.heap.size V V' → W.heap.size ≤ V.heap.size → Kc V' := fun V V' h hb hs => by
    rw [hKc] at h ⊢
    exact ⟨(hb.block _ (Nat.lt_of_lt_of_le (Array.getElem?_eq_some_iff.1 hBs).1 hs)).trans h.1, fun k hk => (hb.block k (Nat.lt_of_lt_of_le (RowV.lt hr k hk).2 hs)).trans (h.2 k hk)⟩
  have hKr : ∀ V V', Kc V → KpR 0 (fun k => k = Bs ∨ blk (.slice a ps.length cap) = some k) W.heap.size V V' → Kc V' := fun V V' h hk => by
    rw [hKc] at h ⊢
    refine ⟨?_, fun k hb => ?_⟩
    · have e := h.1.trans hBs
      rw [hk.2 Bs _ (.inr (.inl rfl)) rfl e, ← hBs]
    · obtain ⟨_, hlt⟩ := RowV.lt hr k hb
      rcases hr.2 with ⟨a', e, _⟩ | ⟨g, cp, cur, e, _, hh, _⟩
      · injection e with e1 e2 e3
        rw [e3, blk_zero] at hb; cases hb
      · have hgk : k = g := by
          injection e with e1 e2 e3
          subst e1
          cases cap with
          | zero => rw [blk_zero] at hb; cases hb
          | succ c => cases hb; rfl
        subst hgk
        have e' := (h.2 k hb).trans hh
        rw [hk.2 k _ (.inr (.inr hb)) rfl e', ← hh]
  have KKH := hide KK
  have HKB := hide hKb
  have HKR := hide hKr
  have HYY := hide hY
  have HJ := hide hJ
  have HO := hide o
  clear KK hKb hKr hY hJ hKc hg hr hBs o
  refine callsIn_of_wp Try.func53 rfl trivial ?_ rfl
  simp only [Try.ntmps53, List.size_toArray, List.length_cons, List.length_nil, Nat.reduceAdd, Nat.reduceSub, Array.replicate_succ, Array.replicate_zero, List.push_toArray, List.append_toArray, List.nil_append, List.cons_append]
  have hF : ∀ f, Fence.wide.fn f := fun _ => trivial
  have hn1 : 1 ≤ n := by omega
  have c0 := (unhide KKH W hK0).1
  gi_wp2
  gi_loopw [3, 8] (fun v3 v8 wr => ∃ (fr i : Nat) (pre : List (Pc ByteArray)), v3 = .int .i64 (fr : Nat) ∧ v8 = .int .i64 (i : Nat) ∧ i ≤ ps.length ∧ Hid (Stands ps pre fr i) ∧ Kc wr ∧ J pre wr ∧ W.heap.size ≤ wr.heap.size)
      (fun _ v8 _ => ps.length - (RowKit.intOf v8).toNat)
  case atStart => exact ⟨0, 0, [], rfl, rfl, Nat.zero_le _, hide (stands_start ps), hK0, h0, Nat.le_refl _⟩
  case round =>
    obtain ⟨fr, i, pre, rfl, rfl, hi, HS, hK, hJ, hsz⟩ := hrel
    by_cases hlt : i < ps.length
    · obtain ⟨⟨pl, ph, pv⟩, ⟨ql, qh, qv⟩, hp, hq, hfi, HE⟩ : ∃ p q, ps[fr]? = some p ∧ ps[i]? = some q ∧ fr ≤ i ∧ Hid (pre ++ strsGo eqv ⟨p.lo, q.hi, p.val⟩ q.val (ps.drop (i + 1)) = strsP eqv ps) := by
        rcases unhide HS with ⟨h, _⟩ | h
        · omega
        · exact h
      clear HS
      have oq := (unhide HO).2 _ (List.mem_of_getElem? hq)
      obtain ⟨k0, kc⟩ := unhide KKH wr hK
      obtain ⟨g, rfl, e1, e2, e3⟩ := kc i _ hq
      obtain ⟨g', eg, p1, p2, p3⟩ := kc fr _ hp
      cases eg
      simp only at *
      have hfn := (List.getElem?_eq_some_iff.1 hp).1
      have HP := hide hp
      have HQ := hide hq
      clear kc hp hq
      have q1 : (i : Int) < (ps.length : Int) := by omega
      have q2 : (fr : Int) < (ps.length : Int) := by omega
      have q6 : IntKind.i64.wrap ((i : Int) + 1) = (i : Int) + 1 := by rw [IntKind.wrap_i64]; omega
      refine PStep.wpIn_named fun Q0 HQ => ?_
      gi_wp2
      obtain ⟨W3, hW3⟩ : ∃ W3, wr.alloc (.cells #[.int .i32 ql, .int .i32 qh, Value.string qv] 77) = W3 := ⟨_, rfl⟩
      have hb3 : Below wr.heap.size wr W3 := by rw [← hW3]; exact (Below.refl _ wr).alloc (Nat.le_refl _) _
      have hK3 := unhide HKB wr W3 hK hb3 hsz
      have hJ3 : J pre W3 := unhide HJ pre wr W3 none hJ ⟨hb3.os, hb3.tape, hb3.output, hb3.size, fun k hk _ => hb3.block k hk⟩ (fun r e => by cases e)
      have bx : W3.heap[wr.heap.size]? = some (.cells #[.int .i32 ql, .int .i32 qh, Value.string qv] 77 (0, 0)) := by rw [← hW3]; exact heap_alloc_new wr _
      have hsz3 : W3.heap.size = wr.heap.size + 1 := by rw [← hW3]; simp
      rw [hW3]
      clear hW3
      -- whether the stretch goes on
      refine wpIn_wide.2 (wp_mono (Q := PStep.only (fun a' V4 => ∃ (j : Bool) (x13 x14 x15 x16 x17 x18 x19 x20 x21 x22 x23 x24 x25 : Value), a' = { tmps := #[.func (.yield l) #[] #[], .pointer (some ⟨Bs, 0, none⟩), undef, .int .i64 fr, .int .i64 i, .pointer (some ⟨wr.heap.size, 0, none⟩), .slice (some ⟨g, 0, none⟩) ps.length cap, .int .i64 ps.length, .int .i64 i, .bool true, .int .i64 i, .pointer (some ⟨g, i * 3, none⟩), .agg #[.int .i32 ql, .int .i32 qh, Value.string qv], x13, x14, x15, x16, x17, x18, x19, x20, x21, x22, x23, x24, x25, .bool j, u27, u28, u29, u30, u31, u32, u33, u34, u35, u36, u37, u38, u39, u40, u41, u42, u43, u44, u45], defers := [] } ∧ Below W3.heap.size W3 V4 ∧ Hid (if j = true then Stands ps pre fr (i + 1) ∧ i + 1 < ps.length else Stands ps (pre ++ [⟨pl, qh, pv⟩]) (i + 1) (i + 1) ∧ (pre ++ [⟨pl, qh, pv⟩]) <+: strsP eqv ps))) ?region ?rest)
      case region =>
        by_cases hlast : i + 1 < ps.length
        · obtain ⟨⟨rl, rh, rv⟩, hr⟩ : ∃ r, ps[i + 1]? = some r := ⟨_, List.getElem?_eq_getElem hlast⟩
          have HJN : Hid (∀ V : World, Calls Try.prog 54 #[.agg #[.int .i32 ql, .int .i32 qh, Value.string qv], .agg #[.int .i32 rl, .int .i32 rh, Value.string rv]] V fun e w' => e = .returned (.bool (decide (qh + 1 = rl) && eqv qv rv)) ∧ Below V.heap.size V w') := hide (fun V => join_any ⟨ql, qh, qv⟩ ⟨rl, rh, rv⟩ (by show 0 ≤ qh ∧ qh ≤ 1114111; omega) V)
          have qq1 : IntKind.i64.wrap ((i : Int) + 1) = (i : Int) + 1 := q6
          have qq2 : (i : Int) + 1 < (ps.length : Int) := by omega
          have qq3 : (0 : Int) ≤ (i : Int) + 1 := by omega
          have qq4 : ((i : Int) + 1).toNat = i + 1 := by omega
          have qq5 : decide ((i : Int) + 1 < (ps.length : Int)) = true := by simpa using qq2
          obtain ⟨k3, kc3⟩ := unhide KKH W3 hK3
          obtain ⟨g', eg, r1, r2, r3⟩ := kc3 (i + 1) _ hr
          cases eg
          simp only at r1 r2 r3
          have y0 := fun d os => cell_regrown k3 d os
          have y1 := fun d os => cell_regrown (show W3.cell? ⟨wr.heap.size, 0, none⟩ = some (.int .i32 ql) by simp [World.cell?, bx]) d os
          have y2 := fun d os => cell_regrown (show W3.cell? ⟨wr.heap.size, 1, none⟩ = some (.int .i32 qh) by simp [World.cell?, bx]) d os
          have y3 := fun d os => cell_regrown (show W3.cell? ⟨wr.heap.size, 2, none⟩ = some (Value.string qv) by simp [World.cell?, bx]) d os
          have y4 := fun d os => cell_regrown r1 d os
          have y5 := fun d os => cell_regrown r2 d os
          have y6 := fun d os => cell_regrown r3 d os
          clear r1 r2 r3 kc3
          refine wp_region_quiet_below (by kernel_rfl) (by kernel_rfl) ?_
          repeat (go_big_quiet_step ((go_at_call 54; exact Calls.regrown_of (unhide HJN _))))
          refine wpQuiet_nil ?_
          intro _ hw'
          obtain ⟨⟨dq, osq⟩, hw''⟩ := hw'
          subst hw''
          have hb4 : Below W3.heap.size W3 (Sort.grow (redrawn W3 dq) osq) := below_regrown W3 dq osq
          generalize Sort.grow (redrawn W3 dq) osq = V4 at hb4 ⊢
          clear y0 y1 y2 y3 y4 y5 y6
          simp only [PStep.only]
          refine ⟨decide (qh + 1 = rl) && eqv qv rv, _, _, _, _, _, _, _, _, _, _, _, _, _, rfl, hb4, ?_⟩
          cases hj : (decide (qh + 1 = rl) && eqv qv rv)
          · rw [if_neg (by simp)]
            exact hide (stands_next (fr := fr) (p := ⟨pl, ph, pv⟩) (q := ⟨ql, qh, qv⟩) (unhide HE) hr (by
              rintro ⟨h1, h2⟩
              simp only at h1 h2
              rw [decide_eq_true h1, h2] at hj
              cases hj))
          · rw [if_pos rfl]
            exact hide ⟨stands_join (p := ⟨pl, ph, pv⟩) (q := ⟨ql, qh, qv⟩) (unhide HE) (unhide HP) hr hfi (by simpa using hj), hlast⟩
        · have hle : i + 1 = ps.length := by omega
          have HN := hide (stands_last (fr := fr) (p := ⟨pl, ph, pv⟩) (q := ⟨ql, qh, qv⟩) (unhide HE) hle)
          have qq2 : ¬ ((i : Int) + 1 < (ps.length : Int)) := by omega
          obtain ⟨k3, -⟩ := unhide KKH W3 hK3
          go_quiet (fail)
          have hb4 : Below W3.heap.size W3 (W3.drewN nq) := ⟨rfl, rfl, rfl, Nat.le_refl _, fun _ _ => rfl⟩
          simp only [PStep.only]
          refine ⟨false, _, _, _, _, _, _, _, _, _, _, _, _, _, rfl, hb4, ?_⟩
          rw [if_neg (by simp)]
          exact hide (unhide HN)
      case rest =>
        rintro e a' V4 h
        cases e
        case normal =>
          obtain ⟨j, x13, x14, x15, x16, x17, x18, x19, x20, x21, x22, x23, x24, x25, rfl, hb4, HJN⟩ := h
          have hs4 := hb4.size
          simp only [Exit.then]
          cases j
          · rw [if_neg (by simp)] at HJN
            have HN := HJN
            clear HJN
            go_at_K
            -- a stretch is told
            have hK4 := unhide HKB W3 V4 hK3 hb4 (by omega)
            have hJ4 : J pre V4 := unhide HJ pre W3 V4 none hJ3 ⟨hb4.os, hb4.tape, hb4.output, hb4.size, fun k hk _ => hb4.block k hk⟩ (fun r e => by cases e)
            have hs4 := hb4.size
            obtain ⟨k0', kc'⟩ := unhide KKH V4 hK4
            obtain ⟨g', eg, t1, t2, t3⟩ := kc' fr _ (unhide HP)
            cases eg
            simp only at t1 t2 t3
            have bq : V4.cell? ⟨wr.heap.size, 1, none⟩ = some (.int .i32 qh) := by
              have hb : V4.heap[wr.heap.size]? = _ := (hb4.block wr.heap.size (by omega)).trans bx
              simp [World.cell?, hb]
            clear kc'
            gi_wp2
            refine ReadsD.wpIn_region_reads 14 ReadsD.ds5 (by kernel_rfl) (by kernel_rfl) (by kernel_rfl) ?_
            simp only [List.take_succ_cons, List.take_zero, List.drop_succ_cons, List.drop_zero]
            repeat (go_big_quiet_step (fail))
            refine wpQuiet_nil ?_
            intro _ hw'
            obtain ⟨nr, hw''⟩ := hw'
            subst hw''
            obtain ⟨fn, tmps, assign, body, hy, hR⟩ := unhide HYY pre ⟨pl, qh, pv⟩ (V4.drewN nr) (unhide HJ pre V4 _ none hJ4 ⟨rfl, rfl, rfl, Nat.le_refl _, fun _ _ _ => rfl⟩ (fun r e => by cases e)) (unhide HN).2 (by show W.heap.size + 0 ≤ V4.heap.size; omega)
            dsimp only [strV] at hy
            gi_wp2
            refine hR.mono ?_
            rintro e V5 (⟨rfl, hJ5, hk5⟩ | ⟨rfl, hJx5, hk5⟩)
            · have hK5 := unhide HKR (V4.drewN nr) V5 (unhide HKB V4 _ hK4 ⟨rfl, rfl, rfl, Nat.le_refl _, fun _ _ => rfl⟩ (by omega)) hk5.2
              have hs5 : V4.heap.size ≤ V5.heap.size := hk5.1.size
              gi_wp2
              have hq := unhide HQ
              subst hq
              simp only [Exit.then]
              go_roundw
              case rel => exact ⟨i + 1, i + 1, _, by go_num, by go_num, by omega, hide (unhide HN).1, hK5, hJ5, by omega⟩
              case measure => simp [RowKit.intOf]; omega
            · gi_wp2
              have hq := unhide HQ
              subst hq
              simp only [Exit.then, Exit.inBlock]
              refine bodyPost_ret (results_none rfl _ _ _) rfl ?_
              exact ⟨⟨_, rfl⟩, .inr ⟨_, (unhide HN).2, hJx5⟩⟩
          · rw [if_pos rfl] at HJN
            have hK4 := unhide HKB W3 V4 hK3 hb4 (by omega)
            have hJ4 : J pre V4 := unhide HJ pre W3 V4 none hJ3 ⟨hb4.os, hb4.tape, hb4.output, hb4.size, fun k hk _ => hb4.block k hk⟩ (fun r e => by cases e)
            have hla := (unhide HJN).2
            go_at_K
            gi_wp2
            have hq := unhide HQ
            subst hq
            simp only [Exit.then]
            go_roundw
            case rel => exact ⟨fr, i + 1, pre, rfl, by go_num, by omega, hide (unhide HJN).1, hK4, hJ4, by omega⟩
            case measure => simp [RowKit.intOf]; omega
        all_goals exact h.elim
    · obtain rfl : i = ps.length := by omega
      have HP : Hid (pre = strsP eqv ps) := by
        rcases unhide HS with ⟨_, h⟩ | ⟨p, q, _, hq, _⟩
        · exact h
        · simp at hq
      gi_wp2
      go_end0
      exact ⟨⟨_, rfl⟩, .inl ⟨_, unhide HP, hJ⟩⟩
end Go.Proofs.Ytnhcbcbceaeceaa.VS
