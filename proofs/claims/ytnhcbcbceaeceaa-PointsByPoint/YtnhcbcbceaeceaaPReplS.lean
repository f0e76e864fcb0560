/-
  replaced: the pieces with what is new in a range.
-/
import Derived.Test.YtnhcbcbceaeceaaPoQf
namespace Go.Proofs.Ytnhcbcbceaeceaa.VS
open Go.RowKit Go.PlainAid Go.Lib Go.PRow Go.Shelf
set_option linter.unusedVariables false

set_option maxHeartbeats 4000000 in
set_option maxRecDepth 100000 in
theorem rep_00 (B : Nat) (v : Value) (ps : List (Pc ByteArray)) (o : OkP ps) (lo hi : Int) (hm : 0 ≤ lo ∧ lo ≤ hi ∧ hi ≤ 1114111) (Bw : Nat) (u : Value) (ws : List (Pc ByteArray)) (hf : ws.length ≤ 1) (w : World) (hB : B ≤ w.heap.size) (hr : RowP w B v ps) (hu : RowP w Bw u ws) (hFU : frI ps lo < upI ps hi) (p q : Pc ByteArray) (hp : ps[frI ps lo]? = some p) (hq : ps[upI ps hi - 1]? = some q) (hlo : ¬ p.lo < lo) (hhi : ¬ hi < q.hi) :
    Calls Try.prog 32 #[v, .agg #[.int .i32 lo, .int .i32 hi], u] w fun e w' => ∃ s', e = .returned s' ∧ Turned w w' B v s' (ps.take (frI ps lo) ++ (ws) ++ ps.drop (upI ps hi)) := by
  have hB1 : Below w.heap.size w (w.alloc (.cells #[.int .i32 lo, .int .i32 hi] 28)) := (Below.refl _ w).alloc (Nat.le_refl _) _
  have H := hide (reach_any B v ps o lo hi _ (hr.below hB1))
  have hlen := okP_len o
  have hw1 : IntKind.i32.wrap (lo - 1) = lo - 1 := by rw [IntKind.wrap_i32]; omega
  have hw2 : IntKind.i32.wrap (hi + 1) = hi + 1 := by rw [IntKind.wrap_i32]; omega
  have hU := upI_le ps hi
  have HU := hide (fun V (hV : Below w.heap.size w V) => hu.below hV)
  have HR := hide (fun V s rs (hV : Below (w.alloc (.cells #[.int .i32 lo, .int .i32 hi] 28)).heap.size (w.alloc (.cells #[.int .i32 lo, .int .i32 hi] 28)) V) (h : RowP V (w.alloc (.cells #[.int .i32 lo, .int .i32 hi] 28)).heap.size s rs) (hl : rs.length ≤ 3) => (replace_any B (w.alloc (.cells #[.int .i32 lo, .int .i32 hi] 28)).heap.size v s ps rs (frI ps lo) (upI ps hi) V (Nat.le_trans hB (hB1.trans (hV.mono (by simp))).size) (hr.below (hB1.trans (hV.mono (by simp)))) h (fun g h1 h2 => by
      have e1 := (RowV.lt h g h1).1
      have e2 := (RowV.lt hr g h2).2
      simp at e1
      omega) (by omega) hU (by omega)).mono fun e w' h => (show ∃ s', e = .returned s' ∧ Turned w w' B v s' (ps.take (frI ps lo) ++ rs ++ ps.drop (upI ps hi)) from by
        obtain ⟨s', h1, h2⟩ := h
        exact ⟨s', h1, h2.after (hB1.trans (hV.mono (by simp)))⟩))
  have HAPP := hide (fun V s rs (h : St (w.alloc (.cells #[.int .i32 lo, .int .i32 hi] 28)) V s rs) (hl : rs.length ≤ 2) => h.app (hu.below (hB1.trans (h.1.mono (by simp)))) (by omega))
  obtain ⟨a, cap, rfl, hc1, hc2, hn, hg⟩ := hr.form
  obtain ⟨g, rfl, hgb, hgB, hgl, hcell⟩ := hg (by intro e; subst e; simp at hp)
  have c1 := hcell _ _ hp
  have c2 := hcell _ _ hq
  obtain ⟨pl, ph, pv⟩ := p
  obtain ⟨ql, qh, qv⟩ := q
  simp only at c1 c2 hlo hhi
  have KK := hide (fun V (hV : Below (w.alloc (.cells #[.int .i32 lo, .int .i32 hi] 28)).heap.size (w.alloc (.cells #[.int .i32 lo, .int .i32 hi] 28)) V) => (by
    have hbw := hB1.trans (hV.mono (by simp))
    refine ⟨?_, ?_, (hbw.cell hgl).trans c1.1, (hbw.cell hgl).trans c1.2.1, (hbw.cell hgl).trans c1.2.2, (hbw.cell hgl).trans c2.1, (hbw.cell hgl).trans c2.2.1, (hbw.cell hgl).trans c2.2.2⟩
    · rw [hV.cell (by simp), World.cell?_alloc_at _ _ _ _ rfl]; rfl
    · rw [hV.cell (by simp), World.cell?_alloc_at _ _ _ _ rfl]; rfl :
    V.cell? ⟨w.heap.size, 0, none⟩ = some (.int .i32 lo) ∧ V.cell? ⟨w.heap.size, 1, none⟩ = some (.int .i32 hi) ∧
      V.cell? ⟨g, frI ps lo * 3, none⟩ = some (.int .i32 pl) ∧ V.cell? ⟨g, frI ps lo * 3 + 1, none⟩ = some (.int .i32 ph) ∧ V.cell? ⟨g, frI ps lo * 3 + 2, none⟩ = some (Value.string pv) ∧
      V.cell? ⟨g, (upI ps hi - 1) * 3, none⟩ = some (.int .i32 ql) ∧ V.cell? ⟨g, (upI ps hi - 1) * 3 + 1, none⟩ = some (.int .i32 qh) ∧ V.cell? ⟨g, (upI ps hi - 1) * 3 + 2, none⟩ = some (Value.string qv)))
  clear hcell c1 c2 hn hg hr hp hq
  clear hu
  generalize frI ps lo = F at *
  generalize upI ps hi = U at *
  generalize ps.take F = PA at *
  generalize ps.drop U = PB at *
  generalize ps.length = n at *
  have q1 : (F : Int) < (U : Int) := by omega
  have q2 : (F : Int) < (n : Int) := by omega
  have q3 : (U : Int) - 1 < (n : Int) := by omega
  have q4 : (0 : Int) ≤ (U : Int) - 1 := by omega
  have q5 : ((U : Int) - 1).toNat = U - 1 := by omega
  have q6 : IntKind.i64.wrap ((U : Int) - 1) = (U : Int) - 1 := by rw [IntKind.wrap_i64]; omega
  have hpost : ∀ e w', (∃ s', e = Ending.returned s' ∧ Turned w w' B (.slice (some ⟨g, 0, none⟩) n cap) s' (PA ++ (ws) ++ PB)) → Hid (∃ s', e = Ending.returned s' ∧ Turned w w' B (.slice (some ⟨g, 0, none⟩) n cap) s' (PA ++ (ws) ++ PB)) := fun _ _ h => h
  refine Calls.mono (R := fun e w' => Hid (∃ s', e = .returned s' ∧ Turned w w' B (.slice (some ⟨g, 0, none⟩) n cap) s' (PA ++ (ws) ++ PB))) ?_ (fun e w' h => unhide h)
  have HP := hide hpost
  clear hpost
  go_enter Try.func32, Try.ntmps32
  go_wp2_with (go_at_call 49; refine (unhide H).mono ?_; rintro e w2 ⟨rfl, hb⟩)
  obtain ⟨d1, d2, d3, d4, d5, d6, d7, d8⟩ := unhide KK _ hb
  go_quiet (fail)
  have hb3 : Below (w.alloc (.cells #[.int .i32 lo, .int .i32 hi] 28)).heap.size (w.alloc (.cells #[.int .i32 lo, .int .i32 hi] 28)) (w2.drewN nq) := ⟨hb.os, hb.tape, hb.output, hb.size, hb.block⟩
  generalize w2.drewN nq = w3 at hb3 ⊢
  clear d1 d2 d3 d4 d5 d6 d7 d8
  clear hb
  have s3 : St (w.alloc (.cells #[.int .i32 lo, .int .i32 hi] 28)) w3 (.slice none 0 0) [] := ⟨hb3, RowV.nil _ _ _ _ _⟩
  have S3 := hide s3
  clear s3
  obtain ⟨d1, d2, d3, d4, d5, d6, d7, d8⟩ := unhide KK _ hb3
  clear hb3
  go_wp2_with (at_builtin; refine wpList_append_ex rfl _ _ _ _ rfl _ _ rfl rfl (unhide HAPP w3 _ _ (unhide S3) (by simp)) ?_; rintro v5 w5 s5)
  clear d1 d2 d3 d4 d5 d6 d7 d8
  obtain ⟨d1, d2, d3, d4, d5, d6, d7, d8⟩ := unhide KK _ s5.1
  have S5 := hide s5
  clear s5
  go_quiet (fail)
  have s6 := (unhide S5).drewN nq
  generalize w5.drewN nq = w6 at s6 ⊢
  clear d1 d2 d3 d4 d5 d6 d7 d8
  obtain ⟨d1, d2, d3, d4, d5, d6, d7, d8⟩ := unhide KK _ s6.1
  have S6 := hide s6
  clear s6
  go_wp2_with (go_at_call 50; refine (unhide HR w6 v5 _ (unhide S6).1 (unhide S6).2 (by simp; omega)).mono ?_; rintro e w8 ⟨s8, rfl, h8⟩)
  go_ret
  exact unhide HP _ _ ⟨_, rfl, by simpa [List.append_assoc] using h8⟩

set_option maxHeartbeats 4000000 in
set_option maxRecDepth 100000 in
theorem rep_01 (B : Nat) (v : Value) (ps : List (Pc ByteArray)) (o : OkP ps) (lo hi : Int) (hm : 0 ≤ lo ∧ lo ≤ hi ∧ hi ≤ 1114111) (Bw : Nat) (u : Value) (ws : List (Pc ByteArray)) (hf : ws.length ≤ 1) (w : World) (hB : B ≤ w.heap.size) (hr : RowP w B v ps) (hu : RowP w Bw u ws) (hFU : frI ps lo < upI ps hi) (p q : Pc ByteArray) (hp : ps[frI ps lo]? = some p) (hq : ps[upI ps hi - 1]? = some q) (hlo : ¬ p.lo < lo) (hhi : hi < q.hi) :
    Calls Try.prog 32 #[v, .agg #[.int .i32 lo, .int .i32 hi], u] w fun e w' => ∃ s', e = .returned s' ∧ Turned w w' B v s' (ps.take (frI ps lo) ++ (ws ++ [⟨hi + 1, q.hi, q.val⟩]) ++ ps.drop (upI ps hi)) := by
  have hB1 : Below w.heap.size w (w.alloc (.cells #[.int .i32 lo, .int .i32 hi] 28)) := (Below.refl _ w).alloc (Nat.le_refl _) _
  have H := hide (reach_any B v ps o lo hi _ (hr.below hB1))
  have hlen := okP_len o
  have hw1 : IntKind.i32.wrap (lo - 1) = lo - 1 := by rw [IntKind.wrap_i32]; omega
  have hw2 : IntKind.i32.wrap (hi + 1) = hi + 1 := by rw [IntKind.wrap_i32]; omega
  have hU := upI_le ps hi
  have HU := hide (fun V (hV : Below w.heap.size w V) => hu.below hV)
  have HR := hide (fun V s rs (hV : Below (w.alloc (.cells #[.int .i32 lo, .int .i32 hi] 28)).heap.size (w.alloc (.cells #[.int .i32 lo, .int .i32 hi] 28)) V) (h : RowP V (w.alloc (.cells #[.int .i32 lo, .int .i32 hi] 28)).heap.size s rs) (hl : rs.length ≤ 3) => (replace_any B (w.alloc (.cells #[.int .i32 lo, .int .i32 hi] 28)).heap.size v s ps rs (frI ps lo) (upI ps hi) V (Nat.le_trans hB (hB1.trans (hV.mono (by simp))).size) (hr.below (hB1.trans (hV.mono (by simp)))) h (fun g h1 h2 => by
      have e1 := (RowV.lt h g h1).1
      have e2 := (RowV.lt hr g h2).2
      simp at e1
      omega) (by omega) hU (by omega)).mono fun e w' h => (show ∃ s', e = .returned s' ∧ Turned w w' B v s' (ps.take (frI ps lo) ++ rs ++ ps.drop (upI ps hi)) from by
        obtain ⟨s', h1, h2⟩ := h
        exact ⟨s', h1, h2.after (hB1.trans (hV.mono (by simp)))⟩))
  have HAPP := hide (fun V s rs (h : St (w.alloc (.cells #[.int .i32 lo, .int .i32 hi] 28)) V s rs) (hl : rs.length ≤ 2) => h.app (hu.below (hB1.trans (h.1.mono (by simp)))) (by omega))
  obtain ⟨a, cap, rfl, hc1, hc2, hn, hg⟩ := hr.form
  obtain ⟨g, rfl, hgb, hgB, hgl, hcell⟩ := hg (by intro e; subst e; simp at hp)
  have c1 := hcell _ _ hp
  have c2 := hcell _ _ hq
  obtain ⟨pl, ph, pv⟩ := p
  obtain ⟨ql, qh, qv⟩ := q
  simp only at c1 c2 hlo hhi
  have KK := hide (fun V (hV : Below (w.alloc (.cells #[.int .i32 lo, .int .i32 hi] 28)).heap.size (w.alloc (.cells #[.int .i32 lo, .int .i32 hi] 28)) V) => (by
    have hbw := hB1.trans (hV.mono (by simp))
    refine ⟨?_, ?_, (hbw.cell hgl).trans c1.1, (hbw.cell hgl).trans c1.2.1, (hbw.cell hgl).trans c1.2.2, (hbw.cell hgl).trans c2.1, (hbw.cell hgl).trans c2.2.1, (hbw.cell hgl).trans c2.2.2⟩
    · rw [hV.cell (by simp), World.cell?_alloc_at _ _ _ _ rfl]; rfl
    · rw [hV.cell (by simp), World.cell?_alloc_at _ _ _ _ rfl]; rfl :
    V.cell? ⟨w.heap.size, 0, none⟩ = some (.int .i32 lo) ∧ V.cell? ⟨w.heap.size, 1, none⟩ = some (.int .i32 hi) ∧
      V.cell? ⟨g, frI ps lo * 3, none⟩ = some (.int .i32 pl) ∧ V.cell? ⟨g, frI ps lo * 3 + 1, none⟩ = some (.int .i32 ph) ∧ V.cell? ⟨g, frI ps lo * 3 + 2, none⟩ = some (Value.string pv) ∧
      V.cell? ⟨g, (upI ps hi - 1) * 3, none⟩ = some (.int .i32 ql) ∧ V.cell? ⟨g, (upI ps hi - 1) * 3 + 1, none⟩ = some (.int .i32 qh) ∧ V.cell? ⟨g, (upI ps hi - 1) * 3 + 2, none⟩ = some (Value.string qv)))
  clear hcell c1 c2 hn hg hr hp hq
  clear hu
  generalize frI ps lo = F at *
  generalize upI ps hi = U at *
  generalize ps.take F = PA at *
  generalize ps.drop U = PB at *
  generalize ps.length = n at *
  have q1 : (F : Int) < (U : Int) := by omega
  have q2 : (F : Int) < (n : Int) := by omega
  have q3 : (U : Int) - 1 < (n : Int) := by omega
  have q4 : (0 : Int) ≤ (U : Int) - 1 := by omega
  have q5 : ((U : Int) - 1).toNat = U - 1 := by omega
  have q6 : IntKind.i64.wrap ((U : Int) - 1) = (U : Int) - 1 := by rw [IntKind.wrap_i64]; omega
  have hpost : ∀ e w', (∃ s', e = Ending.returned s' ∧ Turned w w' B (.slice (some ⟨g, 0, none⟩) n cap) s' (PA ++ (ws ++ [⟨hi + 1, qh, qv⟩]) ++ PB)) → Hid (∃ s', e = Ending.returned s' ∧ Turned w w' B (.slice (some ⟨g, 0, none⟩) n cap) s' (PA ++ (ws ++ [⟨hi + 1, qh, qv⟩]) ++ PB)) := fun _ _ h => h
  refine Calls.mono (R := fun e w' => Hid (∃ s', e = .returned s' ∧ Turned w w' B (.slice (some ⟨g, 0, none⟩) n cap) s' (PA ++ (ws ++ [⟨hi + 1, qh, qv⟩]) ++ PB))) ?_ (fun e w' h => unhide h)
  have HP := hide hpost
  clear hpost
  go_enter Try.func32, Try.ntmps32
  go_wp2_with (go_at_call 49; refine (unhide H).mono ?_; rintro e w2 ⟨rfl, hb⟩)
  obtain ⟨d1, d2, d3, d4, d5, d6, d7, d8⟩ := unhide KK _ hb
  go_quiet (fail)
  have hb3 : Below (w.alloc (.cells #[.int .i32 lo, .int .i32 hi] 28)).heap.size (w.alloc (.cells #[.int .i32 lo, .int .i32 hi] 28)) (w2.drewN nq) := ⟨hb.os, hb.tape, hb.output, hb.size, hb.block⟩
  generalize w2.drewN nq = w3 at hb3 ⊢
  clear d1 d2 d3 d4 d5 d6 d7 d8
  clear hb
  have s3 : St (w.alloc (.cells #[.int .i32 lo, .int .i32 hi] 28)) w3 (.slice none 0 0) [] := ⟨hb3, RowV.nil _ _ _ _ _⟩
  have S3 := hide s3
  clear s3
  obtain ⟨d1, d2, d3, d4, d5, d6, d7, d8⟩ := unhide KK _ hb3
  clear hb3
  go_wp2_with (at_builtin; refine wpList_append_ex rfl _ _ _ _ rfl _ _ rfl rfl (unhide HAPP w3 _ _ (unhide S3) (by simp)) ?_; rintro v5 w5 s5)
  clear d1 d2 d3 d4 d5 d6 d7 d8
  obtain ⟨d1, d2, d3, d4, d5, d6, d7, d8⟩ := unhide KK _ s5.1
  have S5 := hide s5
  clear s5
  go_quiet (fail)
  have s6 := (unhide S5).drewN nq
  generalize w5.drewN nq = w6 at s6 ⊢
  clear d1 d2 d3 d4 d5 d6 d7 d8
  obtain ⟨d1, d2, d3, d4, d5, d6, d7, d8⟩ := unhide KK _ s6.1
  have E2 := fun o => (unhide KK _ (s6.1.alloc s6.1.size o)).2.1
  have HAP3 := hide (fun k (hk : k = (w6.alloc (.cells #[.int .i32 (hi + 1), .int .i32 qh, Value.string qv] 77)).heap.size) => (s6.alloc (.cells #[.int .i32 (hi + 1), .int .i32 qh, Value.string qv] 77)).one k hk (hi + 1) qh qv (by simp; omega))
  clear s6
  go_wp2_with (first
    | (at_builtin; refine wpList_append_ex rfl _ _ _ _ rfl _ _ rfl rfl (unhide HAP3 _ (by simp)) ?_; rintro v7 w7 s7)
    | (go_at_call 50; refine (unhide HR w7 v7 _ s7.1 s7.2 (by simp; omega)).mono ?_; rintro e w8 ⟨s8, rfl, h8⟩))
  go_ret
  exact unhide HP _ _ ⟨_, rfl, by simpa [List.append_assoc] using h8⟩

set_option maxHeartbeats 4000000 in
set_option maxRecDepth 100000 in
theorem rep_10 (B : Nat) (v : Value) (ps : List (Pc ByteArray)) (o : OkP ps) (lo hi : Int) (hm : 0 ≤ lo ∧ lo ≤ hi ∧ hi ≤ 1114111) (Bw : Nat) (u : Value) (ws : List (Pc ByteArray)) (hf : ws.length ≤ 1) (w : World) (hB : B ≤ w.heap.size) (hr : RowP w B v ps) (hu : RowP w Bw u ws) (hFU : frI ps lo < upI ps hi) (p q : Pc ByteArray) (hp : ps[frI ps lo]? = some p) (hq : ps[upI ps hi - 1]? = some q) (hlo : p.lo < lo) (hhi : ¬ hi < q.hi) :
    Calls Try.prog 32 #[v, .agg #[.int .i32 lo, .int .i32 hi], u] w fun e w' => ∃ s', e = .returned s' ∧ Turned w w' B v s' (ps.take (frI ps lo) ++ ([⟨p.lo, lo - 1, p.val⟩] ++ ws) ++ ps.drop (upI ps hi)) := by
  have hB1 : Below w.heap.size w (w.alloc (.cells #[.int .i32 lo, .int .i32 hi] 28)) := (Below.refl _ w).alloc (Nat.le_refl _) _
  have H := hide (reach_any B v ps o lo hi _ (hr.below hB1))
  have hlen := okP_len o
  have hw1 : IntKind.i32.wrap (lo - 1) = lo - 1 := by rw [IntKind.wrap_i32]; omega
  have hw2 : IntKind.i32.wrap (hi + 1) = hi + 1 := by rw [IntKind.wrap_i32]; omega
  have hU := upI_le ps hi
  have HU := hide (fun V (hV : Below w.heap.size w V) => hu.below hV)
  have HR := hide (fun V s rs (hV : Below (w.alloc (.cells #[.int .i32 lo, .int .i32 hi] 28)).heap.size (w.alloc (.cells #[.int .i32 lo, .int .i32 hi] 28)) V) (h : RowP V (w.alloc (.cells #[.int .i32 lo, .int .i32 hi] 28)).heap.size s rs) (hl : rs.length ≤ 3) => (replace_any B (w.alloc (.cells #[.int .i32 lo, .int .i32 hi] 28)).heap.size v s ps rs (frI ps lo) (upI ps hi) V (Nat.le_trans hB (hB1.trans (hV.mono (by simp))).size) (hr.below (hB1.trans (hV.mono (by simp)))) h (fun g h1 h2 => by
      have e1 := (RowV.lt h g h1).1
      have e2 := (RowV.lt hr g h2).2
      simp at e1
      omega) (by omega) hU (by omega)).mono fun e w' h => (show ∃ s', e = .returned s' ∧ Turned w w' B v s' (ps.take (frI ps lo) ++ rs ++ ps.drop (upI ps hi)) from by
        obtain ⟨s', h1, h2⟩ := h
        exact ⟨s', h1, h2.after (hB1.trans (hV.mono (by simp)))⟩))
  have HAPP := hide (fun V s rs (h : St (w.alloc (.cells #[.int .i32 lo, .int .i32 hi] 28)) V s rs) (hl : rs.length ≤ 2) => h.app (hu.below (hB1.trans (h.1.mono (by simp)))) (by omega))
  obtain ⟨a, cap, rfl, hc1, hc2, hn, hg⟩ := hr.form
  obtain ⟨g, rfl, hgb, hgB, hgl, hcell⟩ := hg (by intro e; subst e; simp at hp)
  have c1 := hcell _ _ hp
  have c2 := hcell _ _ hq
  obtain ⟨pl, ph, pv⟩ := p
  obtain ⟨ql, qh, qv⟩ := q
  simp only at c1 c2 hlo hhi
  have KK := hide (fun V (hV : Below (w.alloc (.cells #[.int .i32 lo, .int .i32 hi] 28)).heap.size (w.alloc (.cells #[.int .i32 lo, .int .i32 hi] 28)) V) => (by
    have hbw := hB1.trans (hV.mono (by simp))
    refine ⟨?_, ?_, (hbw.cell hgl).trans c1.1, (hbw.cell hgl).trans c1.2.1, (hbw.cell hgl).trans c1.2.2, (hbw.cell hgl).trans c2.1, (hbw.cell hgl).trans c2.2.1, (hbw.cell hgl).trans c2.2.2⟩
    · rw [hV.cell (by simp), World.cell?_alloc_at _ _ _ _ rfl]; rfl
    · rw [hV.cell (by simp), World.cell?_alloc_at _ _ _ _ rfl]; rfl :
    V.cell? ⟨w.heap.size, 0, none⟩ = some (.int .i32 lo) ∧ V.cell? ⟨w.heap.size, 1, none⟩ = some (.int .i32 hi) ∧
      V.cell? ⟨g, frI ps lo * 3, none⟩ = some (.int .i32 pl) ∧ V.cell? ⟨g, frI ps lo * 3 + 1, none⟩ = some (.int .i32 ph) ∧ V.cell? ⟨g, frI ps lo * 3 + 2, none⟩ = some (Value.string pv) ∧
      V.cell? ⟨g, (upI ps hi - 1) * 3, none⟩ = some (.int .i32 ql) ∧ V.cell? ⟨g, (upI ps hi - 1) * 3 + 1, none⟩ = some (.int .i32 qh) ∧ V.cell? ⟨g, (upI ps hi - 1) * 3 + 2, none⟩ = some (Value.string qv)))
  clear hcell c1 c2 hn hg hr hp hq
  clear hu
  generalize frI ps lo = F at *
  generalize upI ps hi = U at *
  generalize ps.take F = PA at *
  generalize ps.drop U = PB at *
  generalize ps.length = n at *
  have q1 : (F : Int) < (U : Int) := by omega
  have q2 : (F : Int) < (n : Int) := by omega
  have q3 : (U : Int) - 1 < (n : Int) := by omega
  have q4 : (0 : Int) ≤ (U : Int) - 1 := by omega
  have q5 : ((U : Int) - 1).toNat = U - 1 := by omega
  have q6 : IntKind.i64.wrap ((U : Int) - 1) = (U : Int) - 1 := by rw [IntKind.wrap_i64]; omega
  have hpost : ∀ e w', (∃ s', e = Ending.returned s' ∧ Turned w w' B (.slice (some ⟨g, 0, none⟩) n cap) s' (PA ++ ([⟨pl, lo - 1, pv⟩] ++ ws) ++ PB)) → Hid (∃ s', e = Ending.returned s' ∧ Turned w w' B (.slice (some ⟨g, 0, none⟩) n cap) s' (PA ++ ([⟨pl, lo - 1, pv⟩] ++ ws) ++ PB)) := fun _ _ h => h
  refine Calls.mono (R := fun e w' => Hid (∃ s', e = .returned s' ∧ Turned w w' B (.slice (some ⟨g, 0, none⟩) n cap) s' (PA ++ ([⟨pl, lo - 1, pv⟩] ++ ws) ++ PB))) ?_ (fun e w' h => unhide h)
  have HP := hide hpost
  clear hpost
  go_enter Try.func32, Try.ntmps32
  go_wp2_with (go_at_call 49; refine (unhide H).mono ?_; rintro e w2 ⟨rfl, hb⟩)
  obtain ⟨d1, d2, d3, d4, d5, d6, d7, d8⟩ := unhide KK _ hb
  go_quiet (fail)
  have hb3 : Below (w.alloc (.cells #[.int .i32 lo, .int .i32 hi] 28)).heap.size (w.alloc (.cells #[.int .i32 lo, .int .i32 hi] 28)) (w2.drewN nq) := ⟨hb.os, hb.tape, hb.output, hb.size, hb.block⟩
  generalize w2.drewN nq = w3 at hb3 ⊢
  clear d1 d2 d3 d4 d5 d6 d7 d8
  clear hb
  have s3 : St (w.alloc (.cells #[.int .i32 lo, .int .i32 hi] 28)) w3 (.slice none 0 0) [] := ⟨hb3, RowV.nil _ _ _ _ _⟩
  have S3 := hide s3
  clear s3
  obtain ⟨d1, d2, d3, d4, d5, d6, d7, d8⟩ := unhide KK _ hb3
  have E1 := fun o => (unhide KK _ (hb3.alloc hb3.size o)).1
  have HAP1 := hide (fun k (hk : k = (w3.alloc (.cells #[.int .i32 pl, .int .i32 (lo - 1), Value.string pv] 77)).heap.size) => ((unhide S3).alloc (.cells #[.int .i32 pl, .int .i32 (lo - 1), Value.string pv] 77)).one k hk pl (lo - 1) pv (by simp))
  clear hb3
  go_wp2_with (first
    | (at_builtin; refine wpList_append_ex rfl _ _ _ _ rfl _ _ rfl rfl (unhide HAP1 _ (by simp)) ?_; rintro v4 w4 s4)
    | (at_builtin; refine wpList_append_ex rfl _ _ _ _ rfl _ _ rfl rfl (unhide HAPP w4 v4 _ s4 (by simp)) ?_; rintro v5 w5 s5))
  clear d1 d2 d3 d4 d5 d6 d7 d8
  obtain ⟨d1, d2, d3, d4, d5, d6, d7, d8⟩ := unhide KK _ s5.1
  have S5 := hide s5
  clear s5
  go_quiet (fail)
  have s6 := (unhide S5).drewN nq
  generalize w5.drewN nq = w6 at s6 ⊢
  clear d1 d2 d3 d4 d5 d6 d7 d8
  obtain ⟨d1, d2, d3, d4, d5, d6, d7, d8⟩ := unhide KK _ s6.1
  have S6 := hide s6
  clear s6
  go_wp2_with (go_at_call 50; refine (unhide HR w6 v5 _ (unhide S6).1 (unhide S6).2 (by simp; omega)).mono ?_; rintro e w8 ⟨s8, rfl, h8⟩)
  go_ret
  exact unhide HP _ _ ⟨_, rfl, by simpa [List.append_assoc] using h8⟩

set_option maxHeartbeats 4000000 in
set_option maxRecDepth 100000 in
theorem rep_11 (B : Nat) (v : Value) (ps : List (Pc ByteArray)) (o : OkP ps) (lo hi : Int) (hm : 0 ≤ lo ∧ lo ≤ hi ∧ hi ≤ 1114111) (Bw : Nat) (u : Value) (ws : List (Pc ByteArray)) (hf : ws.length ≤ 1) (w : World) (hB : B ≤ w.heap.size) (hr : RowP w B v ps) (hu : RowP w Bw u ws) (hFU : frI ps lo < upI ps hi) (p q : Pc ByteArray) (hp : ps[frI ps lo]? = some p) (hq : ps[upI ps hi - 1]? = some q) (hlo : p.lo < lo) (hhi : hi < q.hi) :
    Calls Try.prog 32 #[v, .agg #[.int .i32 lo, .int .i32 hi], u] w fun e w' => ∃ s', e = .returned s' ∧ Turned w w' B v s' (ps.take (frI ps lo) ++ ([⟨p.lo, lo - 1, p.val⟩] ++ ws ++ [⟨hi + 1, q.hi, q.val⟩]) ++ ps.drop (upI ps hi)) := by
  have hB1 : Below w.heap.size w (w.alloc (.cells #[.int .i32 lo, .int .i32 hi] 28)) := (Below.refl _ w).alloc (Nat.le_refl _) _
  have H := hide (reach_any B v ps o lo hi _ (hr.below hB1))
  have hlen := okP_len o
  have hw1 : IntKind.i32.wrap (lo - 1) = lo - 1 := by rw [IntKind.wrap_i32]; omega
  have hw2 : IntKind.i32.wrap (hi + 1) = hi + 1 := by rw [IntKind.wrap_i32]; omega
  have hU := upI_le ps hi
  have HU := hide (fun V (hV : Below w.heap.size w V) => hu.below hV)
  have HR := hide (fun V s rs (hV : Below (w.alloc (.cells #[.int .i32 lo, .int .i32 hi] 28)).heap.size (w.alloc (.cells #[.int .i32 lo, .int .i32 hi] 28)) V) (h : RowP V (w.alloc (.cells #[.int .i32 lo, .int .i32 hi] 28)).heap.size s rs) (hl : rs.length ≤ 3) => (replace_any B (w.alloc (.cells #[.int .i32 lo, .int .i32 hi] 28)).heap.size v s ps rs (frI ps lo) (upI ps hi) V (Nat.le_trans hB (hB1.trans (hV.mono (by simp))).size) (hr.below (hB1.trans (hV.mono (by simp)))) h (fun g h1 h2 => by
      have e1 := (RowV.lt h g h1).1
      have e2 := (RowV.lt hr g h2).2
      simp at e1
      omega) (by omega) hU (by omega)).mono fun e w' h => (show ∃ s', e = .returned s' ∧ Turned w w' B v s' (ps.take (frI ps lo) ++ rs ++ ps.drop (upI ps hi)) from by
        obtain ⟨s', h1, h2⟩ := h
        exact ⟨s', h1, h2.after (hB1.trans (hV.mono (by simp)))⟩))
  have HAPP := hide (fun V s rs (h : St (w.alloc (.cells #[.int .i32 lo, .int .i32 hi] 28)) V s rs) (hl : rs.length ≤ 2) => h.app (hu.below (hB1.trans (h.1.mono (by simp)))) (by omega))
  obtain ⟨a, cap, rfl, hc1, hc2, hn, hg⟩ := hr.form
  obtain ⟨g, rfl, hgb, hgB, hgl, hcell⟩ := hg (by intro e; subst e; simp at hp)
  have c1 := hcell _ _ hp
  have c2 := hcell _ _ hq
  obtain ⟨pl, ph, pv⟩ := p
  obtain ⟨ql, qh, qv⟩ := q
  simp only at c1 c2 hlo hhi
  have KK := hide (fun V (hV : Below (w.alloc (.cells #[.int .i32 lo, .int .i32 hi] 28)).heap.size (w.alloc (.cells #[.int .i32 lo, .int .i32 hi] 28)) V) => (by
    have hbw := hB1.trans (hV.mono (by simp))
    refine ⟨?_, ?_, (hbw.cell hgl).trans c1.1, (hbw.cell hgl).trans c1.2.1, (hbw.cell hgl).trans c1.2.2, (hbw.cell hgl).trans c2.1, (hbw.cell hgl).trans c2.2.1, (hbw.cell hgl).trans c2.2.2⟩
    · rw [hV.cell (by simp), World.cell?_alloc_at _ _ _ _ rfl]; rfl
    · rw [hV.cell (by simp), World.cell?_alloc_at _ _ _ _ rfl]; rfl :
    V.cell? ⟨w.heap.size, 0, none⟩ = some (.int .i32 lo) ∧ V.cell? ⟨w.heap.size, 1, none⟩ = some (.int .i32 hi) ∧
      V.cell? ⟨g, frI ps lo * 3, none⟩ = some (.int .i32 pl) ∧ V.cell? ⟨g, frI ps lo * 3 + 1, none⟩ = some (.int .i32 ph) ∧ V.cell? ⟨g, frI ps lo * 3 + 2, none⟩ = some (Value.string pv) ∧
      V.cell? ⟨g, (upI ps hi - 1) * 3, none⟩ = some (.int .i32 ql) ∧ V.cell? ⟨g, (upI ps hi - 1) * 3 + 1, none⟩ = some (.int .i32 qh) ∧ V.cell? ⟨g, (upI ps hi - 1) * 3 + 2, none⟩ = some (Value.string qv)))
  clear hcell c1 c2 hn hg hr hp hq
  clear hu
  generalize frI ps lo = F at *
  generalize upI ps hi = U at *
  generalize ps.take F = PA at *
  generalize ps.drop U = PB at *
  generalize ps.length = n at *
  have q1 : (F : Int) < (U : Int) := by omega
  have q2 : (F : Int) < (n : Int) := by omega
  have q3 : (U : Int) - 1 < (n : Int) := by omega
  have q4 : (0 : Int) ≤ (U : Int) - 1 := by omega
  have q5 : ((U : Int) - 1).toNat = U - 1 := by omega
  have q6 : IntKind.i64.wrap ((U : Int) - 1) = (U : Int) - 1 := by rw [IntKind.wrap_i64]; omega
  have hpost : ∀ e w', (∃ s', e = Ending.returned s' ∧ Turned w w' B (.slice (some ⟨g, 0, none⟩) n cap) s' (PA ++ ([⟨pl, lo - 1, pv⟩] ++ ws ++ [⟨hi + 1, qh, qv⟩]) ++ PB)) → Hid (∃ s', e = Ending.returned s' ∧ Turned w w' B (.slice (some ⟨g, 0, none⟩) n cap) s' (PA ++ ([⟨pl, lo - 1, pv⟩] ++ ws ++ [⟨hi + 1, qh, qv⟩]) ++ PB)) := fun _ _ h => h
  refine Calls.mono (R := fun e w' => Hid (∃ s', e = .returned s' ∧ Turned w w' B (.slice (some ⟨g, 0, none⟩) n cap) s' (PA ++ ([⟨pl, lo - 1, pv⟩] ++ ws ++ [⟨hi + 1, qh, qv⟩]) ++ PB))) ?_ (fun e w' h => unhide h)
  have HP := hide hpost
  clear hpost
  go_enter Try.func32, Try.ntmps32
  go_wp2_with (go_at_call 49; refine (unhide H).mono ?_; rintro e w2 ⟨rfl, hb⟩)
  obtain ⟨d1, d2, d3, d4, d5, d6, d7, d8⟩ := unhide KK _ hb
  go_quiet (fail)
  have hb3 : Below (w.alloc (.cells #[.int .i32 lo, .int .i32 hi] 28)).heap.size (w.alloc (.cells #[.int .i32 lo, .int .i32 hi] 28)) (w2.drewN nq) := ⟨hb.os, hb.tape, hb.output, hb.size, hb.block⟩
  generalize w2.drewN nq = w3 at hb3 ⊢
  clear d1 d2 d3 d4 d5 d6 d7 d8
  clear hb
  have s3 : St (w.alloc (.cells #[.int .i32 lo, .int .i32 hi] 28)) w3 (.slice none 0 0) [] := ⟨hb3, RowV.nil _ _ _ _ _⟩
  have S3 := hide s3
  clear s3
  obtain ⟨d1, d2, d3, d4, d5, d6, d7, d8⟩ := unhide KK _ hb3
  have E1 := fun o => (unhide KK _ (hb3.alloc hb3.size o)).1
  have HAP1 := hide (fun k (hk : k = (w3.alloc (.cells #[.int .i32 pl, .int .i32 (lo - 1), Value.string pv] 77)).heap.size) => ((unhide S3).alloc (.cells #[.int .i32 pl, .int .i32 (lo - 1), Value.string pv] 77)).one k hk pl (lo - 1) pv (by simp))
  clear hb3
  go_wp2_with (first
    | (at_builtin; refine wpList_append_ex rfl _ _ _ _ rfl _ _ rfl rfl (unhide HAP1 _ (by simp)) ?_; rintro v4 w4 s4)
    | (at_builtin; refine wpList_append_ex rfl _ _ _ _ rfl _ _ rfl rfl (unhide HAPP w4 v4 _ s4 (by simp)) ?_; rintro v5 w5 s5))
  clear d1 d2 d3 d4 d5 d6 d7 d8
  obtain ⟨d1, d2, d3, d4, d5, d6, d7, d8⟩ := unhide KK _ s5.1
  have S5 := hide s5
  clear s5
  go_quiet (fail)
  have s6 := (unhide S5).drewN nq
  generalize w5.drewN nq = w6 at s6 ⊢
  clear d1 d2 d3 d4 d5 d6 d7 d8
  obtain ⟨d1, d2, d3, d4, d5, d6, d7, d8⟩ := unhide KK _ s6.1
  have E2 := fun o => (unhide KK _ (s6.1.alloc s6.1.size o)).2.1
  have HAP3 := hide (fun k (hk : k = (w6.alloc (.cells #[.int .i32 (hi + 1), .int .i32 qh, Value.string qv] 77)).heap.size) => (s6.alloc (.cells #[.int .i32 (hi + 1), .int .i32 qh, Value.string qv] 77)).one k hk (hi + 1) qh qv (by simp; omega))
  clear s6
  go_wp2_with (first
    | (at_builtin; refine wpList_append_ex rfl _ _ _ _ rfl _ _ rfl rfl (unhide HAP3 _ (by simp)) ?_; rintro v7 w7 s7)
    | (go_at_call 50; refine (unhide HR w7 v7 _ s7.1 s7.2 (by simp; omega)).mono ?_; rintro e w8 ⟨s8, rfl, h8⟩))
  go_ret
  exact unhide HP _ _ ⟨_, rfl, by simpa [List.append_assoc] using h8⟩

theorem replaced_any (B : Nat) (v : Value) (ps : List (Pc ByteArray)) (o : OkP ps) (lo hi : Int) (hm : 0 ≤ lo ∧ lo ≤ hi ∧ hi ≤ 1114111) (Bw : Nat) (u : Value) (ws : List (Pc ByteArray)) (hf : ws.length ≤ 1) (w : World) (hB : B ≤ w.heap.size) (hr : RowP w B v ps) (hu : RowP w Bw u ws) :
    Calls Try.prog 32 #[v, .agg #[.int .i32 lo, .int .i32 hi], u] w fun e w' => ∃ s', e = .returned s' ∧ Turned w w' B v s' (repP ps lo hi ws) := by
  obtain ⟨A, M, C, c⟩ := cut3 o hm.2.1
  have eF := c.fr
  have eU := c.up
  unfold repP
  rw [c.mid]
  have e := c.eq
  cases M with
  | nil =>
    have := rep_no B v ps o lo hi hm Bw u ws hf w hB hr hu (by rw [eF, eU]; rfl)
    simpa [aheadP, behindP] using this
  | cons p M' =>
    have hF : frI ps lo < upI ps hi := by rw [eF, eU]; simp
    have hp : ps[frI ps lo]? = some p := by rw [eF, e, List.append_assoc, List.getElem?_append_right (Nat.le_refl _)]; simp
    obtain ⟨q, hq⟩ : ∃ q, (p :: M').getLast? = some q := by
      cases h : (p :: M').getLast? with
      | none => simp at h
      | some q => exact ⟨q, rfl⟩
    have hq' : ps[upI ps hi - 1]? = some q := by
      rw [eU, e, List.append_assoc, List.getElem?_append_right (by simp only [List.length_cons]; omega), List.getElem?_append_left (by simp only [List.length_cons]; omega)]
      rw [List.getLast?_eq_getElem?] at hq
      rw [← hq]
      congr 1
      simp only [List.length_cons]
      omega
    unfold aheadP behindP
    rw [hq]
    simp only
    by_cases h1 : p.lo < lo <;> by_cases h2 : hi < q.hi
    · rw [if_pos h1, if_pos h2]; exact rep_11 B v ps o lo hi hm Bw u ws hf w hB hr hu hF p q hp hq' h1 h2
    · rw [if_pos h1, if_neg h2, List.append_nil]; exact rep_10 B v ps o lo hi hm Bw u ws hf w hB hr hu hF p q hp hq' h1 h2
    · rw [if_neg h1, if_pos h2, List.nil_append]; exact rep_01 B v ps o lo hi hm Bw u ws hf w hB hr hu hF p q hp hq' h1 h2
    · rw [if_neg h1, if_neg h2, List.nil_append, List.append_nil]; exact rep_00 B v ps o lo hi hm Bw u ws hf w hB hr hu hF p q hp hq' h1 h2
end Go.Proofs.Ytnhcbcbceaeceaa.VS
