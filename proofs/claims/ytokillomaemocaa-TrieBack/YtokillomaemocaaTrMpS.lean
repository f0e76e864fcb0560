/-
  Map of a trie by a function.
-/
import Derived.Test.YtokillomaemocaaTrTuS
namespace Go.Proofs.Ytokillomaemocaa.VS
open Go.RowKit Go.PlainAid Go.Lib Go.PRow Go.Maps Go.TrM Go.SeqM
set_option linter.unusedVariables false
set_option linter.unusedSimpArgs false
theorem fn_nilX (f : Nat) (cap : Array Value) (w : World) : Sem.run Try.prog (binOp BinOp.eql 64 (.func (.func f) #[] cap) .nilFunc) w = .ok (.bool false) w := by
  have he : Sem.run Try.prog (Op.equal 64 (.func (.func f) #[] cap) .nilFunc) w = .ok false w := by
    kernel_rfl
  simp only [binOp, Sem.run_bind, he, Result.andThen]
  rfl
theorem FnOk.below {w w' : World} {k : Nat} {caps : Array Value} {φ : VU.El → El} {vs : List VU.El} (h : FnOk w k caps φ vs) (hb : Below w.heap.size w w') : FnOk w' k caps φ vs :=
  ⟨h.1, fun x hx => ⟨(h.2 x hx).1, fun W hW => (h.2 x hx).2 W (hb.trans (hW.mono hb.size))⟩⟩
set_option maxRecDepth 100000 in
set_option maxHeartbeats 4000000 in
theorem map_any (Q : Ending → World → Prop) (w : World) (B bt : Nat) (vt vm vl : Value) (vs : List VU.El) (hT : VU.TrAt w B bt vt vm vl vs) (k : Nat) (caps : Array Value) (φ : VU.El → El) (hf : FnOk w k caps φ vs)
    (hQ : Hid (∀ w' bt' ut um ul, TrAt w' w.heap.size bt' ut um ul (vs.map φ) → Below w.heap.size w w' → w.heap.size ≤ bt' → Q (.returned (.pointer (some ⟨bt', 0, none⟩))) w')) :
    Calls Try.prog 25 #[.pointer (some ⟨bt, 0, none⟩), .func (.func k) #[] caps] w Q := by
  have HAB := VU.hideA (VU.absent_any w B bt vt vm vl vs hT)
  have hfn := fn_nilX k caps
  obtain ⟨c0, c1, c2⟩ := VU.cellT hT.ht
  have HT := hide (And.intro hT hf)
  clear hT hf
  go_enter Try.func25, Try.ntmps25
  go_wp2_with fail
  refine (VU.unhideA HAB).mono ?_
  rintro e w1 ⟨rfl, rfl⟩
  go_wp2_with fail
  refine turned_any _ w1 B vt vm vl vs (unhide HT).1.pa k caps φ (unhide HT).2 (hide fun w' bt' ut um ul h1 h2 h3 => ?_)
  have HF := hide (And.intro h1 (And.intro h2 h3))
  clear h1 h2 h3
  go_wp2
  exact unhide hQ _ bt' ut um ul (unhide HF).1 (unhide HF).2.1 (unhide HF).2.2
theorem map_ex (w : World) (B bt : Nat) (vt vm vl : Value) (vs : List VU.El) (hT : VU.TrAt w B bt vt vm vl vs) (k : Nat) (caps : Array Value) (φ : VU.El → El) (hf : FnOk w k caps φ vs) :
    Calls Try.prog 25 #[.pointer (some ⟨bt, 0, none⟩), .func (.func k) #[] caps] w fun e w' => ∃ bt' ut um ul, e = .returned (.pointer (some ⟨bt', 0, none⟩)) ∧ TrAt w' w.heap.size bt' ut um ul (vs.map φ) ∧ Below w.heap.size w w' :=
  map_any _ w B bt vt vm vl vs hT k caps φ hf (hide fun w' bt' ut um ul h1 h2 _ => ⟨_, _, _, _, rfl, h1, h2⟩)
end Go.Proofs.Ytokillomaemocaa.VS
