/-
  replaced: the pieces with what is new in a range.
-/
import Derived.Test.YtebppdcnfbflkaaPRepAllF
import Derived.Test.YtebppdcnfbflkaaPAppF
import Derived.Test.YtebppdcnfbflkaaPReachF
namespace Go.Proofs.Ytebppdcnfbflkaa.VF
open Go.RowKit Go.PlainAid Go.Lib Go.PRow Go.Shelf
set_option linter.unusedVariables false

theorem one_row (W : World) (k : Nat) (hk : k = W.heap.size) (a b : Int) (v : Nat) (B : Nat) (hB : B ≤ W.heap.size) : RowP (W.alloc (.cells #[.int .i32 a, .int .i32 b, Value.float .f64 v] 115)) B (.slice (some ⟨k, 0, none⟩) 1 1) [⟨a, b, v⟩] := by
  subst hk
  exact RowP.of hB (heap_alloc_new W _) rfl (Nat.le_refl _) (by unfold maxLen; omega) rfl rfl

/-- behind W1: what lay there lies, and s has the pieces rs in memory of its own -/
def St (W1 W : World) (s : Value) (rs : List (Pc Nat)) : Prop := Below W1.heap.size W1 W ∧ RowP W W1.heap.size s rs
theorem St.alloc {W1 W : World} {s : Value} {rs : List (Pc Nat)} (h : St W1 W s rs) (o : Obj) : St W1 (W.alloc o) s rs :=
  ⟨h.1.alloc h.1.size o, h.2.below ((Below.refl _ W).alloc (Nat.le_refl _) o)⟩
theorem St.drewN {W1 W : World} {s : Value} {rs : List (Pc Nat)} (h : St W1 W s rs) (q : Nat) : St W1 (W.drewN q) s rs :=
  ⟨⟨h.1.os, h.1.tape, h.1.output, h.1.size, h.1.block⟩, h.2.below ⟨rfl, rfl, rfl, Nat.le_refl _, fun _ _ => rfl⟩⟩
theorem St.app {W1 W : World} {s u : Value} {rs qs : List (Pc Nat)} {Bv : Nat} (h : St W1 W s rs) (hu : RowP W Bv u qs) (hbig : (rs.length + qs.length) * 16 ≤ 140737488355328) :
    ∃ s' w', (∀ ty, (Builtin.append_ #[109, 109] ty #[s, u]).run Try.prog W = .ok s' w') ∧ St W1 w' s' (rs ++ qs) := by
  obtain ⟨s', w', h1, h2, _⟩ := append_ps W1.heap.size Bv s u rs qs W h.1.size h.2 hu hbig
  exact ⟨s', w', h1, h2.below h.1 h.1.size (fun g hg => (RowV.lt h.2 g hg).1), h2.1⟩
theorem St.one {W1 W : World} {s : Value} {rs : List (Pc Nat)} (h : St W1 W s rs) (k : Nat) (hk : k = W.heap.size) (a b : Int) (v : Nat) (hbig : rs.length ≤ 100) :
    ∃ s' w', (∀ ty, (Builtin.append_ #[109, 109] ty #[s, .slice (some ⟨k, 0, none⟩) 1 1]).run Try.prog (W.alloc (.cells #[.int .i32 a, .int .i32 b, Value.float .f64 v] 115)) = .ok s' w') ∧ St W1 w' s' (rs ++ [⟨a, b, v⟩]) :=
  (h.alloc _).app (one_row W k hk a b v 0 (Nat.zero_le _)) (by simp; omega)

theorem Turned.after {w W w' : World} {B : Nat} {s s' : Value} {ps' : List (Pc Nat)} (h : Turned W w' B s s' ps') (hb : Below w.heap.size w W) : Turned w w' B s s' ps' :=
  ⟨h.1, ⟨h.2.1.os.trans hb.os, h.2.1.tape.trans hb.tape, h.2.1.output.trans hb.output, Nat.le_trans hb.size h.2.1.size, fun k hk hne => (h.2.1.block k (Nat.lt_of_lt_of_le hk hb.size) hne).trans (hb.block k hk)⟩,
    h.2.2.imp id fun h g hg => Nat.le_trans hb.size (h g hg)⟩

set_option maxHeartbeats 4000000 in
set_option maxRecDepth 100000 in
theorem rep_no (B : Nat) (v : Value) (ps : List (Pc Nat)) (o : OkP ps) (lo hi : Int) (hm : 0 ≤ lo ∧ lo ≤ hi ∧ hi ≤ 1114111) (Bw : Nat) (u : Value) (ws : List (Pc Nat)) (hf : ws.length ≤ 1) (w : World) (hB : B ≤ w.heap.size) (hr : RowP w B v ps) (hu : RowP w Bw u ws) (hFU : frI ps lo = upI ps hi) :
    Calls Try.prog 94 #[v, .agg #[.int .i32 lo, .int .i32 hi], u] w fun e w' => ∃ s', e = .returned s' ∧ Turned w w' B v s' (ps.take (frI ps lo) ++ (ws) ++ ps.drop (upI ps hi)) := by
  have hB1 : Below w.heap.size w (w.alloc (.cells #[.int .i32 lo, .int .i32 hi] 28)) := (Below.refl _ w).alloc (Nat.le_refl _) _
  have H := hide (reach_any B v ps o lo hi _ (hr.below hB1))
  have hlen := okP_len o
  have hw1 : IntKind.i32.wrap (lo - 1) = lo - 1 := by rw [IntKind.wrap_i32]; omega
  have hw2 : IntKind.i32.wrap (hi + 1) = hi + 1 := by rw [IntKind.wrap_i32]; omega
  have hU := upI_le ps hi
  have HU := hide (fun V (hV : Below w.heap.size w V) => hu.below hV)
  have HR := hide (fun V s rs (hV : Below (w.alloc (.cells #[.int .i32 lo, .int .i32 hi] 28)).heap.size (w.alloc (.cells #[.int .i32 lo, .int .i32 hi] 28)) V) (h : RowP V (w.alloc (.cells #[.int .i32 lo, .int .i32 hi] 28)).heap.size s rs) (hl : rs.length ≤ 3) => (replace_any B (w.alloc (.cells #[.int .i32 lo, .int .i32 hi] 28)).heap.size v s ps rs (frI ps lo) (upI ps hi) V (Nat.le_trans hB (hB1.trans (hV.mono (by simp))).size) (hr.below (hB1.trans (hV.mono (by simp)))) h (fun g h1 h2 => by
      have e1 := (RowV.lt h g h1).1
      have e2 := (RowV.lt hr g h2).2
      simp at e1
      omega) (by omega) hU (by omega)).mono fun e w' h => (show ∃ s', e = .returned s' ∧ Turned w w' B v s' (ps.take (frI ps lo) ++ rs ++ ps.drop (upI ps hi)) from by
        obtain ⟨s', h1, h2⟩ := h
        exact ⟨s', h1, h2.after (hB1.trans (hV.mono (by simp)))⟩))
  have HAPP := hide (fun V s rs (h : St (w.alloc (.cells #[.int .i32 lo, .int .i32 hi] 28)) V s rs) (hl : rs.length ≤ 2) => h.app (hu.below (hB1.trans (h.1.mono (by simp)))) (by omega))
  obtain ⟨a, cap, rfl, hc1, hc2, hn, hg⟩ := hr.form
  clear hn hg hr
  clear hu
  generalize frI ps lo = F at *
  generalize upI ps hi = U at *
  subst hFU
  generalize ps.take F = PA at *
  generalize ps.drop F = PB at *
  generalize ps.length = n at *
  have hpost : ∀ e w', (∃ s', e = Ending.returned s' ∧ Turned w w' B (.slice a n cap) s' (PA ++ (ws) ++ PB)) → Hid (∃ s', e = Ending.returned s' ∧ Turned w w' B (.slice a n cap) s' (PA ++ (ws) ++ PB)) := fun _ _ h => h
  refine Calls.mono (R := fun e w' => Hid (∃ s', e = .returned s' ∧ Turned w w' B (.slice a n cap) s' (PA ++ (ws) ++ PB))) ?_ (fun e w' h => unhide h)
  have HP := hide hpost
  clear hpost
  go_enter Try.func94, Try.ntmps94
  go_wp2_with (go_at_call 93; refine (unhide H).mono ?_; rintro e w2 ⟨rfl, hb⟩)
  go_quiet (fail)
  have hb3 : Below (w.alloc (.cells #[.int .i32 lo, .int .i32 hi] 28)).heap.size (w.alloc (.cells #[.int .i32 lo, .int .i32 hi] 28)) (w2.drewN nq) := ⟨hb.os, hb.tape, hb.output, hb.size, hb.block⟩
  generalize w2.drewN nq = w3 at hb3 ⊢
  clear hb
  have s3 : St (w.alloc (.cells #[.int .i32 lo, .int .i32 hi] 28)) w3 (.slice none 0 0) [] := ⟨hb3, RowV.nil _ _ _ _ _⟩
  have S3 := hide s3
  clear s3
  clear hb3
  go_wp2_with (at_builtin; refine wpList_append_ex rfl _ _ _ _ rfl _ _ rfl rfl (unhide HAPP w3 _ _ (unhide S3) (by simp)) ?_; rintro v5 w5 s5)
  have S5 := hide s5
  clear s5
  go_quiet (fail)
  have s6 := (unhide S5).drewN nq
  generalize w5.drewN nq = w6 at s6 ⊢
  have S6 := hide s6
  clear s6
  go_wp2_with (go_at_call 121; refine (unhide HR w6 v5 _ (unhide S6).1 (unhide S6).2 (by simp; omega)).mono ?_; rintro e w8 ⟨s8, rfl, h8⟩)
  go_ret
  exact unhide HP _ _ ⟨_, rfl, by simpa [List.append_assoc] using h8⟩

end Go.Proofs.Ytebppdcnfbflkaa.VF
