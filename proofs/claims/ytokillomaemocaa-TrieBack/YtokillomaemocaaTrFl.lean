/-
  Fill by a trie's At.
-/
import Derived.Test.YtokillomaemocaaTrTrU
import Derived.Test.YtokillomaemocaaTrQt
import Derived.Deep.LoopGhost
namespace Go.Proofs.Ytokillomaemocaa.VU
open Go.RowKit Go.PlainAid Go.Lib Go.PRow Go.Maps Go.TrM
set_option linter.unusedVariables false
set_option linter.unusedSimpArgs false
theorem fn_nilF (f : Nat) (first cap : Array Value) (w : World) : Sem.run Try.prog (binOp BinOp.eql 67 (.func (.func f) first cap) .nilFunc) w = .ok (.bool false) w := by
  have he : Sem.run Try.prog (Op.equal 67 (.func (.func f) first cap) .nilFunc) w = .ok false w := by
    kernel_rfl
  simp only [binOp, Sem.run_bind, he, Result.andThen]
  rfl
set_option maxRecDepth 100000 in
set_option maxHeartbeats 4000000 in
theorem fill_at (w : World) (B bt : Nat) (vt vm vl : Value) (vs : List El) (h : TrAt w B bt vt vm vl vs) (hv : ∀ x ∈ vs, okE x) : Calls Try.prog 28 #[.func (.func 29) #[.pointer (some ⟨bt, 0, none⟩)] #[]] w fun e w' => ∃ bt' ut um ul, e = .returned (.pointer (some ⟨bt', 0, none⟩)) ∧ TrAt w' w.heap.size bt' ut um ul vs ∧ Below w.heap.size w w' := by
  have hfn := fn_nilF
  have HAT := hideA (fun W (hW : Below w.heap.size w W) (r : Nat) (hr : r < 1114112) x (hx : vs[r]? = some x) => at_any W B bt vt vm vl vs (h.below hW) (r : Int) x (by rw [atN_nat r hr]; exact hx))
  have HV := hideA hv
  have HLEN := hideA h.len
  clear h hv
  go_enter Try.func28, Try.ntmps28
  go_wp2_with fail
  refine newMaker_any _ w (hideA fun w1 mk o hM hb1 => ?_)
  have HM := hideA (show ∃ o, MakV w1 w.heap.size mk o (vs.take 0) ∧ Below w.heap.size w w1 from ⟨o, by rw [List.take_zero]; exact hM, hb1⟩)
  clear hM hb1
  go_wp2_with fail
  go_loopg [8] 1114112 (fun kx v8 wr => ∃ r : Nat, v8 = .int .i32 (r : Int) ∧ r ≤ 1114112 ∧ kx = 1114112 - r ∧ Hid (∃ o, MakV wr w.heap.size mk o (vs.take r) ∧ Below w.heap.size w wr))
  case atStart => exact ⟨0, rfl, Nat.zero_le _, rfl, HM⟩
  case round =>
    obtain ⟨r, rfl, hr, rfl, HR⟩ := hrel
    by_cases hlt : r < 1114112
    · obtain ⟨x, hx⟩ : ∃ x, vs[r]? = some x := ⟨_, List.getElem?_eq_getElem (by rw [unhideA HLEN]; exact hlt)⟩
      have q1 : (r : Int) < 1114112 := by omega
      have q2 : IntKind.i32.wrap ((r : Int) + 1) = (r : Int) + 1 := by rw [IntKind.wrap_i32]; omega
      have HX := hideA hx
      clear hx
      go_wp2_with fail
      refine (unhideA HAT wr (by obtain ⟨_, _, h⟩ := unhideA HR; exact h) r hlt x (unhideA HX)).mono ?_
      rintro e w4 ⟨rfl, hb4⟩
      have HR4 := hideA (show ∃ o, MakV w4 w.heap.size mk o (vs.take r) ∧ Below w.heap.size w w4 by
        obtain ⟨o, ⟨bn, m, v, ul, vb, e, hA, hok⟩, hb⟩ := unhideA HR
        exact ⟨o, ⟨bn, m, v, ul, vb, e, hA.below hb4, hok⟩, hb.trans (hb4.mono hb.size)⟩)
      clear hb4
      go_wp2_with fail
      obtain ⟨o, hMo, hbo⟩ := unhideA HR4
      refine add_any _ w4 w.heap.size mk o (vs.take r) x hMo (unhideA HV x (List.mem_of_getElem? (unhideA HX))) (by rw [List.length_take, unhideA HLEN]; omega) (hideA fun w5 o' hM5 _ hb5 => ?_)
      have HR5 := hideA (show ∃ o, MakV w5 w.heap.size mk o (vs.take (r + 1)) ∧ Below w.heap.size w w5 from ⟨o', by rw [List.take_add_one, unhideA HX]; exact hM5, hbo.trans hb5⟩)
      clear hM5 hb5 hMo hbo
      go_wp2
      go_roundg (1114112 - (r + 1))
      case measure => omega
      case rel => exact ⟨r + 1, by simp, by omega, rfl, HR5⟩
    · obtain rfl : r = 1114112 := by omega
      obtain ⟨o, hMo, hbo⟩ := unhideA HR
      rw [List.take_of_length_le (by rw [unhideA HLEN]; exact Nat.le_refl _)] at hMo
      have HM2 := hideA (And.intro hMo hbo)
      clear hMo hbo
      go_wp2_with fail
      refine trie_any _ wr w.heap.size mk o vs (unhideA HM2).1 (unhideA HLEN) (hideA fun w5 bt' ut um ul hT hb5 _ => ?_)
      have HF := hideA (And.intro hT ((unhideA HM2).2.trans (hb5.mono (unhideA HM2).2.size)))
      clear hT hb5
      go_wp2
      go_ret
      exact ⟨bt', ut, um, ul, rfl, (unhideA HF).1, (unhideA HF).2⟩
end Go.Proofs.Ytokillomaemocaa.VU
