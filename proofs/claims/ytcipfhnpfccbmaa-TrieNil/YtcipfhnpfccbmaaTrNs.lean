/-
  No trie: Parts, Spans and Where.
-/
import Derived.Test.YtcipfhnpfccbmaaTrNil
import Derived.Test.YtcipfhnpfccbmaaTrPaU
import Derived.Test.YtcipfhnpfccbmaaTrMi
namespace Go.Proofs.Ytcipfhnpfccbmaa.VU
open Go.RowKit Go.PlainAid Go.Lib Go.PRow Go.Maps Go.TrM Go.SeqM
attribute [local go_sem] Oper.semAt_some
set_option linter.unusedVariables false
set_option linter.unusedSimpArgs false
set_option maxRecDepth 100000 in
set_option maxHeartbeats 4000000 in
theorem parts_nil (w : World) : Calls Try.prog 13 #[.pointer none] w fun e w' => e = .returned (.agg #[.slice none 0 0, .slice none 0 0, .slice none 0 0]) ∧ Below w.heap.size w w' := by
  have hbd : ∀ W : World, (Instr.build 27 #[]).run Try.prog W = .ok (.agg #[.slice none 0 0, .slice none 0 0, .slice none 0 0]) W := fun W => by kernel_rfl
  have hb : ∀ o : Obj, Below w.heap.size w (w.alloc o) := fun o => (Below.refl _ w).alloc (Nat.le_refl _) o
  go_enter Try.func13, Try.ntmps13
  go_wp2_with fail
  refine (absent_nil _).mono ?_
  rintro e w1 ⟨rfl, rfl⟩
  have hbx : (w.alloc (.cells #[.slice none 0 0, .slice none 0 0, .slice none 0 0] 27)).heap[w.heap.size]? = some (.cells #[.slice none 0 0, .slice none 0 0, .slice none 0 0] 27 (0, 0)) := World.alloc_heap_new w _
  go_wp2
  obtain ⟨W1, hW1⟩ : ∃ W1, W1 = w.alloc (.cells #[.slice none 0 0, .slice none 0 0, .slice none 0 0] 27) := ⟨_, rfl⟩
  have hB := hb (.cells #[.slice none 0 0, .slice none 0 0, .slice none 0 0] 27)
  rw [← hW1] at hbx hB ⊢
  have g0 : W1.cell? ⟨w.heap.size, 0, none⟩ = some (.slice none 0 0) := by simp [World.cell?, hbx]
  have g1 : W1.cell? ⟨w.heap.size, 1, none⟩ = some (.slice none 0 0) := by simp [World.cell?, hbx]
  have g2 : W1.cell? ⟨w.heap.size, 2, none⟩ = some (.slice none 0 0) := by simp [World.cell?, hbx]
  refine bodyPost_ret (v := .agg #[.slice none 0 0, .slice none 0 0, .slice none 0 0]) (by simp [results, g0, g1, g2, go_sem]) rfl ?_
  exact ⟨rfl, hB⟩
set_option maxRecDepth 100000 in
theorem spans_nil (w : World) : Calls Try.prog 22 #[.pointer none] w fun e w' => e = .returned (.func (.func 62) #[] #[.pointer (some ⟨w.heap.size, 0, none⟩)]) ∧ w' = w.alloc (.cells #[.pointer none] 29) := by
  have hmf : ∀ (fn : Fn) (first cap : Array Value) (w : World), (Instr.makeFunc fn first cap).run Try.prog w = .ok (.func fn first cap) w := fun _ _ _ _ => rfl
  go_enter Try.func22, Try.ntmps22
  go_wp2
  go_ret
  exact ⟨rfl, rfl⟩
set_option maxRecDepth 100000 in
theorem where_nil (w : World) (v : Int) : Calls Try.prog 23 #[.pointer none, .int .u8 v] w fun e w' => e = .returned (.func (.func 64) #[] #[.pointer (some ⟨w.heap.size, 0, none⟩), .pointer (some ⟨w.heap.size + 1, 0, none⟩)]) ∧ w' = (w.alloc (.cells #[.pointer none] 29)).alloc (.cells #[.int .u8 v] 5) := by
  have hmf : ∀ (fn : Fn) (first cap : Array Value) (w : World), (Instr.makeFunc fn first cap).run Try.prog w = .ok (.func fn first cap) w := fun _ _ _ _ => rfl
  go_enter Try.func23, Try.ntmps23
  go_wp2
  go_ret
  exact ⟨rfl, rfl⟩
set_option maxRecDepth 100000 in
set_option maxHeartbeats 4000000 in
theorem spans1_nil (w : World) (y : Value) (Bm : Nat) (hBm : w.heap[Bm]? = some (.cells #[.pointer none] 29 (0, 0))) : Calls Try.prog 62 #[y, .pointer (some ⟨Bm, 0, none⟩)] w fun e w' => (∃ v, e = .returned v) ∧ w' = w := by
  have g0 : w.cell? ⟨Bm, 0, none⟩ = some (.pointer none) := by simp [World.cell?, hBm]
  clear hBm
  go_enter Try.func62, Try.ntmps62
  go_wp2_with fail
  refine (absent_nil _).mono ?_
  rintro e w1 ⟨rfl, rfl⟩
  go_wp2
  refine bodyPost_ret (results_none rfl _ _ _) rfl ?_
  exact ⟨⟨_, rfl⟩, rfl⟩
theorem spans_gives (n Bm : Nat) (w : World) (hBm : w.heap[Bm]? = some (.cells #[.pointer none] 29 (0, 0))) :
    Gives4 n Try.prog 62 #[.pointer (some ⟨Bm, 0, none⟩)] (fun _ : Empty => #[]) 0 (fun _ => False) 0 0 (fun xs => xs = []) (fun _ => False) w :=
  fun l J Jx W hW hJ hJx hcalm hY h0 => (callsIn_wide.2 (spans1_nil W (.func (.yield l) #[] #[]) Bm ((hW.block Bm (Array.getElem?_eq_some_iff.1 hBm).1).trans hBm))).mono (by
    rintro e w' ⟨h, rfl⟩
    exact ⟨h, .inl ⟨[], rfl, h0⟩⟩)
set_option maxRecDepth 100000 in
set_option maxHeartbeats 4000000 in
theorem where1_nil (n l Bm Bv : Nat) (v : Int) (hn : 3 ≤ n) (J : List Empty → World → Prop) (W : World) (hJ : OwnFrom W.heap.size J) (hBm : W.heap[Bm]? = some (.cells #[.pointer none] 29 (0, 0))) (h0 : J [] W) :
    CallsIn Fence.wide n Try.prog 64 #[.func (.yield l) #[] #[], .pointer (some ⟨Bm, 0, none⟩), .pointer (some ⟨Bv, 0, none⟩)] W fun e W' => (∃ v, e = .returned v) ∧ J [] W' := by
  have hF : ∀ f, Fence.wide.fn f := fun _ => trivial
  have hn1 : 1 ≤ n := by omega
  obtain ⟨W1, hW1⟩ : ∃ W1, W1 = W.alloc (.cells #[.func (.yield l) #[] #[]] 119) := ⟨_, rfl⟩
  have hB1 : Below W.heap.size W W1 := by rw [hW1]; exact (Below.refl _ W).alloc (Nat.le_refl _) _
  have hbm1 := (hB1.block Bm (Array.getElem?_eq_some_iff.1 hBm).1).trans hBm
  have g0 : W1.cell? ⟨Bm, 0, none⟩ = some (.pointer none) := by simp [World.cell?, hbm1]
  have HB := hideA (And.intro hB1 (And.intro hJ h0))
  clear hbm1 hBm hB1 hJ h0
  rw [hW1] at g0
  refine callsIn_of_wp_marks Try.func64 rfl trivial ?_ rfl
  simp only [Try.ntmps64, List.size_toArray, List.length_cons, List.length_nil, Nat.reduceAdd, Nat.reduceSub, Array.replicate_succ, Array.replicate_zero, List.push_toArray, List.append_toArray, List.nil_append, List.cons_append]
  gi_wp2_with fail
  rw [← hW1]
  rw [← hW1] at g0
  clear hW1
  refine (callsIn_wide.2 (spans_nil W1)).mono ?_
  rintro e W2 ⟨rfl, hW2⟩
  have HW2 := hideA hW2
  clear hW2
  gi_wp2
  have hW2 := unhideA HW2
  obtain ⟨hB1, hJ, h0⟩ := unhideA HB
  have hB2 : Below W1.heap.size W1 W2 := by rw [hW2]; exact (Below.refl _ W1).alloc (Nat.le_refl _) _
  have hbx : W2.heap[W1.heap.size]? = some (.cells #[.pointer none] 29 (0, 0)) := by rw [hW2]; exact World.alloc_heap_new W1 _
  have hs1 := hB1.size
  have hs2 := hB2.size
  have hB : Below W.heap.size W W2 := hB1.trans (hB2.mono hs1)
  have hJ2 : J [] W2 := hJ [] W W2 none h0 ⟨hB.os, hB.tape, hB.output, hB.size, fun k hk _ => hB.block k hk⟩ (fun r e => by cases e)
  refine range4G (by omega) (gf := 62) (lb := #[.pointer (some ⟨W1.heap.size, 0, none⟩)]) rfl (enters_of Try.func62 (by kernel_rfl) rfl)
    (spans_gives _ W1.heap.size W2 hbx) (Below.refl _ _) (fun x => nomatch x)
    (fun pre V => J pre V) (fun c pre V => False) (OwnFrom.le hJ (by omega)) (fun c => own_pure _ _) (CalmR.none _ _ _) hJ2 (fun x => nomatch x) ?assign ?body ?done ?stop
  case assign => intro l2 x; exact nomatch x
  case body => intro l2 pre x; exact nomatch x
  case done =>
    rintro D xs V hD rfl hx hK
    gi_wp2
    refine ⟨by simp, .inl ⟨_, _, rfl, run_takeDeferred hK, ?_⟩⟩
    refine ⟨_, results_none rfl _ _ _, ⟨_, rfl⟩, ?_⟩
    exact hJ _ V _ (some D) hx (grownBy_putObj' V D _) (fun r e => by cases e; exact ⟨by omega, _, hK, rfl⟩)
  case stop =>
    rintro D c pre V hD hSp
    exact hSp.elim
theorem where_gives (n Bm Bv : Nat) (v : Int) (hn : 3 ≤ n) (w : World) (hBm : w.heap[Bm]? = some (.cells #[.pointer none] 29 (0, 0))) :
    Gives4 n Try.prog 64 #[.pointer (some ⟨Bm, 0, none⟩), .pointer (some ⟨Bv, 0, none⟩)] (fun _ : Empty => #[]) 0 (fun _ => False) 0 0 (fun xs => xs = []) (fun _ => False) w :=
  fun l J Jx W hW hJ hJx hcalm hY h0 => (where1_nil n l Bm Bv v hn J W hJ ((hW.block Bm (Array.getElem?_eq_some_iff.1 hBm).1).trans hBm) h0).mono (by
    rintro e w' ⟨h, h2⟩
    exact ⟨h, .inl ⟨[], rfl, h2⟩⟩)
end Go.Proofs.Ytcipfhnpfccbmaa.VU
