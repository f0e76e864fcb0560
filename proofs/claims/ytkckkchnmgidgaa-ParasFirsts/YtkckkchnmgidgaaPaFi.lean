/-
  ParasFirsts: the first strong one of a piece of any classes is the document's, and the list is left as it was. The condition: the arguments hold together at most 1048576 values (a bulk of at most 1048576).
-/
import Derived.Test.YtkckkchnmgidgaaBulk
import Derived.Test.YtkckkchnmgidgaaPaAw
import Derived.Test.YtkckkchnmgidgaaPaL3
import Derived.Test.YtkckkchnmgidgaaPaOp
import Derived.ProofKit
import Derived.OpenShut
import Derived.ShutString
import Derived.ChangeOld
namespace Go.Proofs.Ytkckkchnmgidgaa.parasFirsts
open Go.ChangeShapes Go.WideShapes Go.ChangeAt Go.RowKit Go.PlainAid Go.Lib Go.ChangeMaps
set_option linter.unusedVariables false

def w0 (W : World) (f t : Int) : World := W.alloc (.cells #[.int .i64 f, .int .i64 t] 46)
set_option maxRecDepth 100000 in
set_option maxHeartbeats 2000000 in
theorem walk (a : Option Addr) (cs : List Int) (cap : Nat) (f t : Int) (W : World) (hr : ReadsB W a cs) (hf : FitsB cs) (hlc : cs.length ≤ cap) (hc : cap ≤ 1048576) :
    Calls Try.prog 7 #[.slice a cs.length cap, .agg #[.int .i64 f, .int .i64 t]] W fun e w' => e = .returned (.bool true) ∧ Below W.heap.size W w' := by
  have HLT := hide (fun (w : World) (h : ReadsB w a cs) => lent_any w a cs.length cap cs rfl h (by omega))
  have HPF := hide (fun (w : World) (g c : Nat) (hc1 : cs.length + 1 ≤ c) (hc2 : c ≤ 9223372036854775807) (h : ReadsB w (some ⟨g, 0, none⟩) cs) =>
    (show Calls Try.prog 31 #[.slice (some ⟨g, 0, none⟩) cs.length c, pieceV f t] w fun e w' => e = .returned (firstV cs f t) ∧ Below w.heap.size w w' from by
      by_cases hno : f < 0 ∨ t < f ∨ (cs.length : Int) < t
      · exact first_no _ _ _ cs f t w rfl (by omega) hno
      · obtain ⟨f', rfl⟩ : ∃ f' : Nat, f = f' := ⟨f.toNat, by omega⟩
        obtain ⟨t', rfl⟩ : ∃ t' : Nat, t = t' := ⟨t.toNat, by omega⟩
        exact first_in g 0 cs.length c cs f' t' w rfl h (by omega) (by omega) hc2 (by omega) (by omega)))
  have HRF := hide (fun (w : World) (h : ReadsB w a cs) =>
    (show Calls Try.prog 32 #[.slice a cs.length cap, pieceV f t] w fun e w' => e = .returned (firstV cs f t) ∧ Below w.heap.size w w' from by
      by_cases hno : f < 0 ∨ t < f ∨ (cs.length : Int) < t
      · exact rFirst_no _ _ _ cs f t w rfl (by omega) hno
      · obtain ⟨f', rfl⟩ : ∃ f' : Nat, f = f' := ⟨f.toNat, by omega⟩
        obtain ⟨t', rfl⟩ : ∃ t' : Nat, t = t' := ⟨t.toNat, by omega⟩
        exact rFirst_in a cs.length cap cs f' t' w rfl h (by omega) (by omega) (by omega)))
  have HKT := hide (fun (w : World) (B g c : Nat) (h : Lent w B g c cs) (h2 : ReadsB w a cs) => kept_any w B g c a cs.length cap cs rfl h h2 (by omega))
  have HAW := hide (fun w => awake_any w)
  have HR := hide hr
  have HV : Hid (∃ (x : Int) (b : Bool) (y : Int), firstV cs f t = .tuple #[.int .i64 x, .bool b, .int .i64 y]) := by
    show ∃ _, _
    unfold firstV
    split
    · exact ⟨_, _, _, rfl⟩
    · cases ansF cs t.toNat 0 f.toNat <;> exact ⟨_, _, _, rfl⟩
  obtain ⟨x, bb, y, hv⟩ := unhide HV
  rw [hv] at HPF HRF
  generalize cs.length = n at *
  clear hr hv HV
  unfold pieceV at HPF HRF
  obtain ⟨W1, hW1⟩ : ∃ W1, w0 W f t = W1 := ⟨_, rfl⟩
  have hb0 : Below W.heap.size W W1 := by rw [← hW1]; exact (Below.refl _ _).alloc (Nat.le_refl _) _
  have hx1 : Blk W1 W.heap.size [.int .i64 f, .int .i64 t] 46 := by rw [← hW1]; exact Blk.new W [.int .i64 f, .int .i64 t] 46
  have HB0 := hide hb0
  have HX := hide hx1
  clear hb0
  unfold w0 at hW1
  go_enter Try.func7, Try.ntmps7
  go_wp2_with fail
  refine (unhide HLT _ ((unhide HR).below (unhide HB0))).mono ?_
  rintro e w1 ⟨g, c1, rfl, hc1, hc2, hl1, hb1⟩
  have hx1 := (unhide HX).below hb1
  have q0 := hx1.cell (j := 0) rfl
  have q1 := hx1.cell (j := 1) rfl
  have HX1 := hide hx1
  have HL1 := hide hl1
  have HB1 := hide ((unhide HB0).trans (hb1.mono (unhide HB0).size))
  clear hl1 hb1 hx1
  go_wp2_with fail
  refine (unhide HPF _ _ _ hc1 hc2 (unhide HL1).reads).mono ?_
  rintro e w2 ⟨rfl, hb2⟩
  have hx2 := (unhide HX1).below hb2
  have p0 := hx2.cell (j := 0) rfl
  have p1 := hx2.cell (j := 1) rfl
  have HB2 := hide ((unhide HB1).trans (hb2.mono (unhide HB1).size))
  have HL2 := hide ((unhide HL1).below hb2)
  clear hb2 hx2
  go_wp2_with fail
  refine (unhide HRF _ ((unhide HR).below (unhide HB2))).mono ?_
  rintro e w3 ⟨rfl, hb3⟩
  have HB3 := hide ((unhide HB2).trans (hb3.mono (unhide HB2).size))
  have HL3 := hide ((unhide HL2).below hb3)
  clear hb3
  cases bb
  all_goals
    go_wp2_with fail
    refine (unhide HKT _ _ _ _ (unhide HL3) ((unhide HR).below (unhide HB3))).mono ?_
    rintro e w4 ⟨rfl, hb4⟩
    have HB4 := hide ((unhide HB3).trans (hb4.mono (unhide HB3).size))
    clear hb4
    go_wp2_with fail
    refine (unhide HAW _).mono ?_
    rintro e w5 ⟨rfl, hb5⟩
    have HB5 := hide ((unhide HB4).trans (hb5.mono (unhide HB4).size))
    clear hb5
    go_wp2
    go_ret
    exact ⟨rfl, unhide HB5⟩

theorem own : ownKnob Try.prog.godebug = none := by kernel_rfl
theorem laidOut : laidOutB Try.prog = true := by kernel_rfl

set_option maxRecDepth 100000 in
theorem contract (H : Type) (enc : TypeId × Value → H) (W : World) (base : Nat) (args : Array Value) (ds gs : List (DataW H)) (before : List MemPlace)
    (hval : ∀ (j : Nat) t v, Try.f7.params[j]? = some t → args[j]? = some v → Value.okWide Try.prog W .any base t v)
    (hW : DataW.Whole enc Try.prog Try.f7.params.toList Rows.parasFirstsSpec.vars false W args.toList ds gs before) (hk : Rows.uptoSmall H (ds ++ gs) = true) :
    Calls Try.prog 7 args W fun e W' => ∃ v, e = .returned v ∧ Rows.parasFirstsSpec.post enc Try.prog Try.f7 false true false false W args v W' := by
  have hW' := hW
  obtain ⟨p, q, hA0, hV, rfl, hfz, hnd⟩ := hW
  have hA : DataW.TrodAll enc Try.prog W 0 (fun _ => true) true Try.f7.params.toList args.toList ds p := hA0
  rw [Try.params7] at hA hval
  obtain ⟨v0, vs0, d0, ds0, p0, q0, hargs, rfl, rfl, h0, r0⟩ := trodAll_cons hA
  obtain ⟨v1, vs1, d1, ds1, p1, q1, rfl, rfl, rfl, h1, r1⟩ := trodAll_cons r0
  obtain ⟨rfl, rfl, rfl⟩ := trodAll_nil r1
  obtain rfl : args = #[v0, v1] := by cases args; simp_all
  obtain ⟨rfl, rfl⟩ := trodVars_none hV
  obtain ⟨a0, len0, cap0, rfl⟩ := okWide_slice Try.underlying29 (hval 0 29 v0 rfl rfl)
  have k0 := h0
  have lt0 : ∀ x ∈ p0, x.block < W.heap.size := by obtain ⟨m, hm⟩ := k0; exact DataW.trod_lt m _ _ _ hm
  obtain ⟨cs1, rfl, _⟩ := okWide_struct Try.underlying46 (hval 1 46 v1 rfl rfl)
  have k1 := h1
  have lt1 : ∀ x ∈ p1, x.block < W.heap.size := by obtain ⟨m, hm⟩ := k1; exact DataW.trod_lt m _ _ _ hm
  obtain ⟨f1, t1, rfl⟩ : ∃ f t : Int, cs1 = #[.int .i64 f, .int .i64 t] := by obtain ⟨fuel, hf⟩ := h1; exact open_piece hf
  have hk' : Rows.uptoSmall H [d0, d1] = true := hk
  have hb := bulk_bound hk'
  simp only [Rows.uptoBulkAll] at hb
  obtain ⟨z0, w0, c0, wf0⟩ : ∃ zs : List Int, ((a0 = none ∧ len0 = 0 ∧ cap0 = 0 ∧ zs = []) ∨ ∃ x, a0 = some x ∧ len0 ≤ cap0 ∧ cap0 ≤ maxLen ∧ zs.length = cap0 ∧ (∀ i, i < zs.length → W.cell? (x.add i) = some (.int .u8 (zs.getD i 0)))) ∧ cap0 ≤ 1048576 ∧ (∀ n ∈ zs, (Lit.int .u8 n).wf = true) := by
    obtain ⟨fuel, hf⟩ := h0
    rcases open_ints Try.underlying29 Try.underlying22 (by kernel_rfl) hf with ⟨hcs, _⟩ | ⟨x, l, c, zs, hcs, _, hl, hm, hz, hx, hcell, hwz⟩
    · simp [Value.cells] at hcs
      obtain ⟨rfl, rfl, rfl⟩ := hcs
      exact ⟨[], .inl ⟨rfl, rfl, rfl, rfl⟩, by omega, by simp⟩
    · simp [Value.cells] at hcs
      obtain ⟨rfl, rfl, rfl⟩ := hcs
      have hz' : zs.length = cap0 := by simpa using hz
      refine ⟨zs, .inr ⟨_, rfl, hl, hm, hz', hcell⟩, ?_, hwz⟩
      have hd : d0 = .slice (lits .u8 (zs.take len0)) (lits .u8 (zs.drop len0)) := by simp only [Prod.mk.injEq] at hx; exact hx.1
      rw [hd] at hb
      have h2 := bulk_slice (H := H) (lits .u8 (zs.take len0)) (lits .u8 (zs.drop len0))
      have e1 : (lits (H := H) .u8 (zs.take len0)).length = (zs.take len0).length := by simp [lits]
      have e2 : (lits (H := H) .u8 (zs.drop len0)).length = (zs.drop len0).length := by simp [lits]
      rw [e1, e2, List.length_take, List.length_drop] at h2
      omega
  have hlc0 : len0 ≤ cap0 := by rcases w0 with ⟨_, h, h', _⟩ | ⟨_, _, h, _⟩ <;> omega
  have hzc0 : z0.length = cap0 := w0.elim (fun ⟨_, _, h, h'⟩ => by rw [h', h]; rfl) (fun ⟨_, _, _, _, h, _⟩ => h)
  have hle0 : (z0.take len0).length = len0 := by rw [List.length_take]; omega
  have hrd0 : ReadsB W a0 (z0.take len0) := by
    intro i hi
    rw [hle0] at hi
    rcases w0 with ⟨_, h, _⟩ | ⟨x, h1, h2, h3, h4, h5⟩
    · omega
    · obtain ⟨b, off, rfl, hc⟩ := ints_at h5 (by omega)
      refine ⟨b, off, h1, (hc i (by omega)).trans ?_⟩
      simp [cA, List.getD, hi]
  have hfi0 : FitsB (z0.take len0) := by
    intro x hx
    exact wf_u8 (wf0 x (List.mem_of_mem_take hx))
  clear hA0
  have hwk := walk a0 (z0.take len0) cap0 f1 t1 W hrd0 hfi0 (by rw [hle0]; omega) c0
  rw [hle0] at hwk
  refine hwk.mono fun e W' ⟨he, bel⟩ => ?_
  subst he
  exact ⟨_, rfl, _, _, _, [], _, [], hW', trodAll_mk1 (shut_bool Try.underlying4 _), (trodAll_cons_mk (Below.trod laidOut (by kernel_rfl) (of_decide_eq_true (by kernel_rfl)) k0 bel lt0) (trodAll_cons_mk (Below.trod laidOut (by kernel_rfl) (of_decide_eq_true (by kernel_rfl)) k1 bel lt1) trodAll_mk0)), rfl, bel.frame _, fun h => by cases h⟩

set_option maxRecDepth 100000 in
theorem lifted (os : Os) (started : os.Started) (H : Type) (enc : TypeId × Value → H) (F : Stop.Interp) :
    ReturnsInHanded {} Try.checked os 7 .any ((Rows.OpenSpec.upto Rows.parasFirstsSpec).pre6 enc Try.prog Try.f7 Rows.parasFirstsUptoRow.domain false) (((Rows.OpenSpec.upto Rows.parasFirstsSpec).at F).post enc Try.prog Try.f7 false true false false) := by
  refine returnsInHanded_of_cond (C := Try.checked) (s := Rows.OpenSpec.upto Rows.parasFirstsSpec) (k := Rows.uptoSmall) rfl own started (by kernel_rfl) Try.func7
    (OpenSpec.witness (enc := enc) (C := Try.checked) (s := Rows.OpenSpec.upto Rows.parasFirstsSpec) (k := Rows.uptoSmall) rfl false ⟨#[], #[.slice none 0 0, .agg #[.int .i64 0, .int .i64 0]], []⟩ 8 (by kernel_rfl) (by kernel_rfl) (by kernel_rfl)
      (x := ([.nil, .agg [.lit (.int .i64 0), .lit (.int .i64 0)]], [], [])) (by kernel_rfl) rfl (by kernel_rfl)) ?_
  intro W base args ds gs before hval hW _ hk _
  exact contract H enc W base args ds gs before hval hW hk

theorem over : Rows.parasFirstsUptoRow.holds Try.pinned (Rows.OpenSpec.upto Rows.parasFirstsSpec) :=
  OpenClaim.holds_of_cond 7 Try.f7 rfl rfl rfl rfl rfl rfl rfl ⟨rfl, rfl, rfl, rfl, rfl⟩ rfl rfl rfl rfl rfl (by kernel_rfl) Try.func7 (by kernel_rfl)
    (of_decide_eq_true (by kernel_rfl)) (by unfold Func.isWrapper; first | (rw [if_pos (by decide +kernel)]; kernel_rfl) | (rw [if_neg (by decide +kernel)]; exact ⟨rfl, rfl⟩))
    (fun os started H enc _ F => lifted os started H enc F)

end Go.Proofs.Ytkckkchnmgidgaa.parasFirsts
namespace Go.Proofs.Ytkckkchnmgidgaa
theorem parasFirsts_upto : Rows.ParasFirstsUptoSaid := parasFirsts.over
end Go.Proofs.Ytkckkchnmgidgaa

