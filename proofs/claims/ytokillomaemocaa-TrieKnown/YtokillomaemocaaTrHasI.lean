/-
  Whether a block was met.
-/
import Derived.Test.YtokillomaemocaaTrNumI
namespace Go.Proofs.Ytokillomaemocaa.VI
open Go.RowKit Go.PlainAid Go.Lib Go.PRow Go.Maps Go.TrM
set_option linter.unusedVariables false
set_option linter.unusedSimpArgs false
set_option maxRecDepth 100000 in
set_option maxHeartbeats 2000000 in
theorem has_any (w : World) (B bn m : Nat) (v : Value) (bs : List (List El)) (h : NumAt w B bn m v bs) (g o c : Nat) (b : List El) (hb : OkB b) (hc : ∀ j x, b[j]? = some x → w.cell? ⟨g, o + j, none⟩ = some (enc x)) :
    Calls Try.prog 131 #[.pointer (some ⟨bn, 0, none⟩), .slice (some ⟨g, o, none⟩) 64 c] w fun e w' => e = .returned (.bool (decide (b ∈ bs))) ∧ w' = w.drew := by
  have HLD := hide (load64 w.drew g o b hb.1 hc)
  have HAR := hide (arrayAt64 w.drew (some ⟨g, o, none⟩) c)
  have hlook := (h.hm.same (w' := w.drew) rfl).look hb
  obtain ⟨c0, c1⟩ := cell2 h.hn
  generalize hK : (b.map enc).toArray = K at *
  generalize decide (b ∈ bs) = D at *
  generalize (if b ∈ bs then ((numS bs b).2 : Int) else 0) = N at *
  clear hK hc hb h
  go_enter Try.func131, Try.ntmps131
  go_wp2
  refine TrSt.region_still (by kernel_rfl) (by kernel_rfl) ?_
  still_step
  still_step
  still_step
  still_step
  still_step
  refine TrSt.wpStill_arr rfl (some 13) rfl _ _ rfl _ rfl (unhide HAR) ?_
  refine TrSt.wpStill_ld rfl (some 14) rfl 112 _ rfl _ rfl (unhide HLD) ?_
  repeat still_step
  refine wpStill_nil ?_
  go_wp2
  go_ret
  exact ⟨rfl, rfl⟩
end Go.Proofs.Ytokillomaemocaa.VI
