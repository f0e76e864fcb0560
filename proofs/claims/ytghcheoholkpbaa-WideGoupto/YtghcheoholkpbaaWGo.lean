/-
  WideGo: units and places are those that Go's own range over the bytes tells: for every text of at most 1048576 letters.
-/
import Derived.Test.YtghcheoholkpbaaWAdd
import Derived.Test.YtghcheoholkpbaaBulk
import Derived.ProofKit
import Derived.OpenShut
import Derived.ShutString
import Derived.ChangeOld
import Derived.JoinedCond
namespace Go.Proofs.Ytghcheoholkpbaa.wideGo
open Go.ChangeShapes Go.WideShapes Go.ChangeAt Go.RowKit Go.PlainAid Go.Lib
open Go.ChangeMaps (open_string shut_string)
attribute [local go_sem] World.iter
set_option linter.unusedVariables false

theorem vals_nums (s : ByteArray) : runeVals s = (nums s 0).map (Value.int .i32) := by unfold runeVals nums; rw [List.map_map]; rfl

set_option maxRecDepth 100000 in
set_option maxHeartbeats 4000000 in
theorem walk (s : ByteArray) (w : World) (hs : s.size ≤ 1048576) : Calls Try.prog 8 #[.string s] w fun e w' => e = .returned (.bool true) ∧ Below w.heap.size w w' := by
  have hcl := chars_length s 0
  go_enter Try.func8, Try.ntmps8
  go_wp2
  go_loopw [3] (fun v3 wr => ∃ (pos : Nat) (zs : List Int) (pre : List (Nat × Nat)), pos ≤ s.size ∧ Hid (zs ++ nums s pos = nums s 0) ∧ zs.length ≤ pos ∧ Hid (pre ++ ustL s.size (chars s pos) (units zs).length = ust s) ∧ wr.heap[w.heap.size]? = some (.stringIter s pos) ∧ wr.ownsRow (w.heap.size + 1) 22 1 v3 (units zs).length (u16s (units zs)) ∧ Below w.heap.size w wr ∧ w.heap.size + 1 ≤ wr.heap.size) (fun _ wr => s.size - wr.iterPos w.heap.size)
  case atStart => exact ⟨0, [], [], Nat.zero_le _, rfl, Nat.le_refl _, rfl, heap_alloc_new w _, by simpa [units] using World.ownsRow_nil _ _ _ _, (Below.refl _ _).alloc (Nat.le_refl _) _, Nat.le_of_eq (World.size_alloc w _).symm⟩
  case round =>
    obtain ⟨pos, zs, pre, hps, HZ, hzl, HU, hit, hrow, hB, hsz⟩ := hrel
    have hun : (units zs).length ≤ 2097152 := by
      have h1 := units_len zs; omega
    by_cases hlt : pos < s.size
    · have hnx := fun ty => run_next_any_at (P := Try.prog) wr w.heap.size s pos ty hit hlt
      have hb := dec_bounds s pos hlt
      have hsc := dec_scalar s pos hlt
      have hit2 := iterAt_heap wr w.heap.size s pos (pos + (Utf8.decode s pos).2) hit
      have hc := chars_step s pos hlt
      have hu := HU.out
      rw [ust_step s pos _ hlt] at hu
      have HUY := hide (unit_yes s pre _ (pos, (units zs).length) hu.symm)
      have HBY := hide (byte_yes s pre _ (pos, (units zs).length) hu.symm)
      have HU2 : Hid (pre ++ [(pos, (units zs).length)] ++ ustL s.size (chars s (pos + (Utf8.decode s pos).2)) (units (zs ++ [((Utf8.decode s pos).1 : Int)])).length = ust s) := by
        show _ = _
        rw [← hu, units_append, List.length_append, List.append_assoc]
        simp [units, wNn]
      have HZ2 : Hid (zs ++ [((Utf8.decode s pos).1 : Int)] ++ nums s (pos + (Utf8.decode s pos).2) = nums s 0) := by
        show _ = _
        rw [← HZ.out]; unfold nums; rw [hc]; simp
      have HUL : Hid ((units (zs ++ [((Utf8.decode s pos).1 : Int)])) = units zs ++ unitsOf ((Utf8.decode s pos).1 : Int)) := by
        show _ = _
        rw [units_append]; simp [units]
      have hmeas : s.size - (pos + (Utf8.decode s pos).2) < s.size - wr.iterPos w.heap.size := by rw [iterPos_of hit]; omega
      have hB2 : Below w.heap.size w (wr.iterAt w.heap.size s (pos + (Utf8.decode s pos).2)) := hB.grown (grownBy_iterAt wr w.heap.size s _) hB.size (fun k e => by cases e; exact Nat.le_refl _)
      have hrow2 : (wr.iterAt w.heap.size s (pos + (Utf8.decode s pos).2)).ownsRow (w.heap.size + 1) 22 1 u3 (units zs).length (u16s (units zs)) := hrow.kept (grownBy_iterAt wr w.heap.size s _) (.inr (fun e => by have := (hrow.lt _ e).1; omega))
      have hsz2 : w.heap.size + 1 ≤ (wr.iterAt w.heap.size s (pos + (Utf8.decode s pos).2)).heap.size := Nat.le_trans hsz (grownBy_iterAt wr w.heap.size s _).size
      have hzl2 : (zs ++ [((Utf8.decode s pos).1 : Int)]).length ≤ pos + (Utf8.decode s pos).2 := by simp; omega
      obtain ⟨a3, c3, rfl⟩ := row_is hrow2
      clear hc hB hrow HZ HU hu hsz
      generalize hW3 : wr.iterAt w.heap.size s (pos + (Utf8.decode s pos).2) = W3 at *
      clear hW3
      have HRW := hide hrow2
      clear hrow2
      generalize hK : (units zs).length = K at *
      generalize hR : (((Utf8.decode s pos).1 : Nat) : Int) = R at *
      have HSC := hide hsc
      clear hsc hR
      have HKK := hide hK
      clear hK
      go_wp2_with fail
      refine (unitAt_in s pos _ (by omega) (by omega) (by omega)).mono ?_
      rintro e w1 ⟨rfl, hb1⟩
      rw [unhide HUY]
      go_wp2_with fail
      refine (byteAt_in s K _ (by omega) (by omega)).mono ?_
      rintro e w2 ⟨rfl, hb2⟩
      rw [unhide HBY]
      have hB3 : Below W3.heap.size W3 w2 := hb1.trans (hb2.mono hb1.size)
      have hrow4 := rowBelow (unhide HRW) hB3
      have hz4 := hB3.size
      have hit4 : w2.heap[w.heap.size]? = some (.stringIter s (pos + (Utf8.decode s pos).2)) := (hB3.block w.heap.size (by omega)).trans hit2
      clear hb1 hb2 HRW hit2
      go_wp2_with (go_at_call 48; refine (add_any _ _ _ _ (units zs) _ (unhide HSC) hrow4 (by omega) (by omega)).mono ?_; rintro e w5 ⟨v', rfl, hrow5, hb5⟩)
      have hit5 : w5.heap[w.heap.size]? = some (.stringIter s (pos + (Utf8.decode s pos).2)) := (hb5.block w.heap.size (by omega)).trans hit4
      go_roundw
      case rel => exact ⟨_, _, _, by omega, HZ2, hzl2, HU2, hit5, by rw [unhide HUL, List.length_append, unhide HKK]; exact hrow5, (hB2.trans (hB3.mono (by omega))).trans (hb5.mono (by omega)), by have := hb5.size; omega⟩
      case measure => rw [iterPos_of hit5]; exact hmeas
    · have hnx := fun ty => run_next_end_at (P := Try.prog) wr w.heap.size s pos ty hit hlt
      have hze : zs = nums s 0 := by
        have := HZ.out
        unfold nums at this
        rw [chars_end s pos hlt] at this; simpa using this
      have hu := HU.out
      rw [ust_end s pos _ hlt] at hu
      have HUY := hide (unit_yes s pre _ (s.size, (units zs).length) hu.symm)
      have HBY := hide (byte_yes s pre _ (s.size, (units zs).length) hu.symm)
      subst hze
      clear HZ HU hu
      obtain ⟨a3, c3, rfl⟩ := row_is hrow
      have HRW := hide hrow
      clear hrow
      have HFT := hide (fun w => fromText_any s w (by omega))
      have HFR := hide (fun (w : World) (a : Option Addr) (c : Nat) (h : Reads w a (nums s 0)) => fromRunes_any a c (nums s 0) w h (by have := chars_length s 0; simp; omega))
      have hnl : (nums s 0).length = (chars s 0).length := List.length_map _
      rw [hnl] at HFR
      have HS := hide (fun (w : World) (x y : Option Addr) (c c' : Nat) (h : ReadsU w x (units (nums s 0))) (h' : ReadsU w y (units (nums s 0))) => sameU_any x y c c' (units (nums s 0)) (units (nums s 0)) w h h' (by omega))
      have hdt : decide (units (nums s 0) = units (nums s 0)) = true := by simp
      rw [hdt] at HS
      have HV := hide (vals_nums s)
      clear hdt hnl
      generalize hK : (units (nums s 0)).length = K at *
      clear hK
      go_wp2_with fail
      refine (unitAt_in s s.size _ (by omega) (by omega) (by omega)).mono ?_
      rintro e w1 ⟨rfl, hb1⟩
      rw [unhide HUY]
      have hB1 : Below w.heap.size w w1 := hB.trans (hb1.mono hB.size)
      have hR1 := hide (rowBelow (unhide HRW) hb1)
      clear hb1 hB HRW
      go_wp2_with fail
      refine (byteAt_in s K _ (by omega) (by omega)).mono ?_
      rintro e w2 ⟨rfl, hb2⟩
      rw [unhide HBY]
      have hB2 : Below w.heap.size w w2 := hB1.trans (hb2.mono hB1.size)
      have hR2 := hide (rowBelow (unhide hR1) hb2)
      clear hb2 hB1 hR1
      go_wp2_with fail
      refine (unhide HFT _).mono ?_
      rintro e w3 ⟨v3, rfl, hrow3, hb3⟩
      obtain ⟨a4, c4, rfl⟩ := row_is hrow3
      have hB3 : Below w.heap.size w w3 := hB2.trans (hb3.mono hB2.size)
      have hR3 := hide (rowBelow (unhide hR2) hb3)
      have HQ3 := hide (readsU_own hrow3)
      clear hb3 hB2 hR2 hrow3
      go_wp2_with fail
      refine (unhide HS _ _ _ _ _ (unhide HQ3) (readsU_own (unhide hR3))).mono ?_
      rintro e w4 ⟨rfl, hb4⟩
      have hB4 : Below w.heap.size w w4 := hB3.trans (hb4.mono hB3.size)
      have hR4 := hide (rowBelow (unhide hR3) hb4)
      clear hb4 hB3 hR3 HQ3
      obtain ⟨cap5, w5, hconv, hrow5, hb5⟩ := conv_runes s w4 (by omega)
      rw [unhide HV] at hrow5
      have hB5 : Below w.heap.size w w5 := hB4.trans (hb5.mono hB4.size)
      have hR5 := hide (rowBelow (unhide hR4) hb5)
      have HQ5 := hide (reads_own hrow5)
      clear hb5 hB4 hR4 hrow5
      go_wp2_with fail
      refine (unhide HFR _ _ _ (unhide HQ5)).mono ?_
      rintro e w6 ⟨v6, rfl, hrow6, hb6⟩
      obtain ⟨a6, c6, rfl⟩ := row_is hrow6
      have hB6 : Below w.heap.size w w6 := hB5.trans (hb6.mono hB5.size)
      have hR6 := hide (rowBelow (unhide hR5) hb6)
      have HQ6 := hide (readsU_own hrow6)
      clear hb6 hB5 hR5 hrow6
      go_wp2_with fail
      refine (unhide HS _ _ _ _ _ (unhide HQ6) (readsU_own (unhide hR6))).mono ?_
      rintro e w7 ⟨rfl, hb7⟩
      have hB7 : Below w.heap.size w w7 := hB6.trans (hb7.mono hB6.size)
      clear hb7 hB6 hR6 HQ6
      go_wp2_with fail
      refine (awake_any _).mono ?_
      rintro e w8 ⟨rfl, hb8⟩
      go_wp2
      go_ret
      exact ⟨rfl, hB7.trans (hb8.mono hB7.size)⟩

theorem own : ownKnob Try.prog.godebug = none := by kernel_rfl
theorem laidOut : laidOutB Try.prog = true := by kernel_rfl

set_option maxRecDepth 100000 in
theorem contract (H : Type) (enc : TypeId × Value → H) (W : World) (base : Nat) (args : Array Value) (ds gs : List (DataW H)) (before : List MemPlace)
    (hval : ∀ (j : Nat) t v, Try.f8.params[j]? = some t → args[j]? = some v → Value.okWide Try.prog W .any base t v)
    (hW : DataW.Whole enc Try.prog Try.f8.params.toList Rows.wideGoSpec.vars false W args.toList ds gs before) (hk : Rows.uptoSmall H (ds ++ gs) = true) :
    Calls Try.prog 8 args W fun e W' => ∃ v, e = .returned v ∧ Rows.wideGoSpec.post enc Try.prog Try.f8 false true false false W args v W' := by
  have hW' := hW
  obtain ⟨p, q, hA0, hV, rfl, hfz, hnd⟩ := hW
  have hA : DataW.TrodAll enc Try.prog W 0 (fun _ => true) true Try.f8.params.toList args.toList ds p := hA0
  rw [Try.params8] at hA hval
  obtain ⟨v0, vs0, d0, ds0, p0, q0, hargs, rfl, rfl, h0, r0⟩ := trodAll_cons hA
  obtain ⟨rfl, rfl, rfl⟩ := trodAll_nil r0
  obtain rfl : args = #[v0] := by cases args; simp_all
  obtain ⟨rfl, rfl⟩ := trodVars_none hV
  obtain ⟨a0, rfl, rfl, rfl, w0⟩ := open_string Try.underlying9 (hval 0 9 v0 rfl rfl) h0
  have hk' : Rows.uptoSmall H [.lit (.string a0.data.toList)] = true := hk
  have hb := bulk_bound hk'
  simp only [Rows.uptoBulkAll] at hb
  rw [bulk_string a0] at hb
  have c0 : a0.size ≤ 1048576 := by omega
  clear hA0
  have hwk := walk a0 W c0
  refine hwk.mono fun e W' ⟨he, bel⟩ => ?_
  subst he
  exact ⟨_, rfl, _, _, _, [], _, [], hW', trodAll_mk1 (shut_bool Try.underlying4 _), (trodAll_cons_mk (shut_string Try.underlying9 w0) trodAll_mk0), rfl, bel.frame _, fun h => by cases h⟩

set_option maxRecDepth 100000 in
theorem lifted (os : Os) (started : os.Started) (H : Type) (enc : TypeId × Value → H) (F : Stop.Interp) :
    ReturnsInHanded {} Try.checked os 8 .any ((Rows.OpenSpec.upto Rows.wideGoSpec).pre6 enc Try.prog Try.f8 Rows.wideGoUptoRow.domain false) (((Rows.OpenSpec.upto Rows.wideGoSpec).at F).post enc Try.prog Try.f8 false true false false) := by
  refine returnsInHanded_of_cond (C := Try.checked) (s := Rows.OpenSpec.upto Rows.wideGoSpec) (k := Rows.uptoSmall) rfl own started (by kernel_rfl) Try.func8
    (OpenSpec.witness (enc := enc) (C := Try.checked) (s := Rows.OpenSpec.upto Rows.wideGoSpec) (k := Rows.uptoSmall) rfl false ⟨#[], #[.string ByteArray.empty], []⟩ 8 (by kernel_rfl) (by kernel_rfl) (by kernel_rfl)
      (x := ([.lit (.string [])], [], [])) (by kernel_rfl) rfl (by kernel_rfl)) ?_
  intro W base args ds gs before hval hW _ hk _
  exact contract H enc W base args ds gs before hval hW hk

theorem over : Rows.wideGoUptoRow.holds Try.pinned (Rows.OpenSpec.upto Rows.wideGoSpec) :=
  OpenClaim.holds_of_cond 8 Try.f8 rfl rfl rfl rfl rfl rfl rfl ⟨rfl, rfl, rfl, rfl, rfl⟩ rfl rfl rfl rfl rfl (by kernel_rfl) Try.func8 (by kernel_rfl)
    (of_decide_eq_true (by kernel_rfl)) (by unfold Func.isWrapper; first | (rw [if_pos (by decide +kernel)]; kernel_rfl) | (rw [if_neg (by decide +kernel)]; exact ⟨rfl, rfl⟩))
    (fun os started H enc _ F => lifted os started H enc F)

end Go.Proofs.Ytghcheoholkpbaa.wideGo
namespace Go.Proofs.Ytghcheoholkpbaa
theorem wideGo_upto : Rows.WideGoUptoSaid := wideGo.over
end Go.Proofs.Ytghcheoholkpbaa

