/-
  WordsGo: Loose is what Go's own range over the text tells; the loose form of a loose form is itself; where a character begins at a seam the loose forms are joined. The condition: the texts have together at most 1048576 bytes (a bulk of at most 1048576).
-/
import Derived.Test.YtkpmcojoiijonaaBulk
import Derived.Test.YtkpmcojoiijonaaWoGo1
import Derived.ProofKit
import Derived.OpenShut
import Derived.ShutString
import Derived.ChangeOld
namespace Go.Proofs.Ytkpmcojoiijonaa.wordsGo
open Go.ChangeShapes Go.WideShapes Go.ChangeAt Go.RowKit Go.PlainAid Go.Lib Go.ChangeMaps
set_option linter.unusedVariables false

attribute [local go_sem] World.iter
set_option maxRecDepth 100000 in
set_option maxHeartbeats 2000000 in
theorem walk (a b : ByteArray) (w : World) (ha : a.size ≤ 1048576) (hb : b.size ≤ 1048576) : Calls Try.prog 9 #[.string a, .string b] w fun e w' => e = .returned (.bool true) ∧ Below w.heap.size w w' := by
  have hls := loose_size a
  have hlt := loose_size b
  have hap : (a ++ b).size = a.size + b.size := ByteArray.size_append
  have HL := hide (fun w => loose_any a w (by omega))
  have HLB := hide (fun w => loose_any b w (by omega))
  have HLA := hide (fun w => loose_any (a ++ b) w (by omega))
  have hLL := fun w => loose_any (looseB a) w (by omega)
  rw [loose_loose] at hLL
  have HLL := hide hLL
  have HW := hide (fun w => lawLoose_any a w (by omega))
  have HA := hide (fun w => alike_any2 a b w (by omega) (by omega))
  have hA' := fun w => alike_any2 b a w (by omega) (by omega)
  have hsy : decide (looseB b = looseB a) = decide (looseB a = looseB b) := by simp [eq_comm]
  rw [hsy] at hA'
  have HA' := hide hA'
  have hAA := fun w => alike_any2 a (looseB a) w (by omega) (by omega)
  rw [loose_loose, decide_eq_true rfl] at hAA
  have HAA := hide hAA
  have HSM : Hid (a.size ∈ places (a ++ b) → looseB (a ++ b) = looseB a ++ looseB b) := loose_seam a b
  have hxs : (looseB a ++ looseB b).size = (looseB a).size + (looseB b).size := ByteArray.size_append
  clear hLL hA' hAA hsy
  generalize looseB a = x at *
  generalize looseB b = y at *
  generalize decide (x = y) = p at *
  have q1 : (x.toList != x.toList) = false := by simp
  have q2 : (p != p) = false := by cases p <;> rfl
  go_enter Try.func9, Try.ntmps9
  go_wp2_with fail
  refine (unhide HL _).mono ?_
  rintro e w1 ⟨rfl, hb1⟩
  go_wp2_with fail
  refine (unhide HW _).mono ?_
  rintro e w2 ⟨rfl, hb2⟩
  go_wp2_with fail
  refine (unhide HL _).mono ?_
  rintro e w3 ⟨rfl, hb3⟩
  go_wp2_with fail
  refine (unhide HLL _).mono ?_
  rintro e w4 ⟨rfl, hb4⟩
  go_wp2_with fail
  refine (unhide HL _).mono ?_
  rintro e w5 ⟨rfl, hb5⟩
  go_wp2_with fail
  refine (unhide HA _).mono ?_
  rintro e w6 ⟨rfl, hb6⟩
  go_wp2_with fail
  refine (unhide HA' _).mono ?_
  rintro e w7 ⟨rfl, hb7⟩
  go_wp2_with fail
  refine (unhide HL _).mono ?_
  rintro e w8 ⟨rfl, hb8⟩
  go_wp2_with fail
  refine (unhide HAA _).mono ?_
  rintro e w9 ⟨rfl, hb9⟩
  have hB : Below w.heap.size w w9 := below2 (below2 (below2 (below2 (below2 (below2 (below2 (below2 hb1 hb2) hb3) hb4) hb5) hb6) hb7) hb8) hb9
  clear hb1 hb2 hb3 hb4 hb5 hb6 hb7 hb8 hb9
  have q3 : ((x ++ y).toList != (x ++ y).toList) = false := by simp
  generalize hT : a ++ b = t at *
  have HT := hide hT
  clear hT
  go_wp2_with fail
  rw [unhide HT]
  go_loopw [5] (fun _ wr => ∃ (pos : Nat) (pre : List (Nat × Nat)), Hid (pre ++ chars t pos = chars t 0) ∧ wr.heap[w9.heap.size]? = some (.stringIter t pos) ∧ Below w.heap.size w wr) (fun _ wr => t.size - wr.iterPos w9.heap.size)
  case atStart => exact ⟨0, [], rfl, heap_alloc_new w9 _, hB.alloc hB.size _⟩
  case round =>
    obtain ⟨pos, pre, HP, hit, hB1⟩ := hrel
    by_cases hlt : pos < t.size
    · have hnx := fun ty => run_next_any_at (P := Try.prog) wr w9.heap.size t pos ty hit hlt
      have hbd := dec_bounds t pos hlt
      have HP2 : Hid (pre ++ [(pos, (Utf8.decode t pos).1)] ++ chars t (pos + (Utf8.decode t pos).2) = chars t 0) := by
        show _ = _
        rw [← HP.out, chars_step t pos hlt]; simp
      have hit2 := iterAt_heap wr w9.heap.size t pos (pos + (Utf8.decode t pos).2) hit
      have hB2 : Below w.heap.size w (wr.iterAt w9.heap.size t (pos + (Utf8.decode t pos).2)) := below_iterAt hB1 hB.size t _
      have hmeas : t.size - (pos + (Utf8.decode t pos).2) < t.size - wr.iterPos w9.heap.size := by rw [iterPos_of hit]; omega
      generalize hW3 : wr.iterAt w9.heap.size t (pos + (Utf8.decode t pos).2) = W3 at *
      clear hW3
      by_cases hpa : pos = a.size
      · have hmem : a.size ∈ places t := by
          rw [← hpa]
          unfold places
          rw [← HP.out, chars_step t pos hlt]
          simp
        have hpe : ((pos : Int) == (a.size : Int)) = true := by simp [hpa]
        have HE := hide (unhide HSM hmem)
        clear hmem hpa
        go_wp2_with fail
        rw [unhide HT]
        refine (unhide HLA _).mono ?_
        rintro e w10 ⟨rfl, hb10⟩
        rw [unhide HE]
        go_wp2_with fail
        refine (unhide HL _).mono ?_
        rintro e w11 ⟨rfl, hb11⟩
        go_wp2_with fail
        refine (unhide HLB _).mono ?_
        rintro e w12 ⟨rfl, hb12⟩
        have hbb := below2 (below2 hb10 hb11) hb12
        have hit5 : w12.heap[w9.heap.size]? = some (.stringIter t (pos + (Utf8.decode t pos).2)) := (hbb.block _ (Array.getElem?_eq_some_iff.1 hit2).1).trans hit2
        have hB5 : Below w.heap.size w w12 := hB2.trans (hbb.mono hB2.size)
        clear hb10 hb11 hb12
        go_wp2
        go_roundw
        case rel => exact ⟨_, _, HP2, hit5, hB5⟩
        case measure => rw [iterPos_of hit5]; exact hmeas
      · have hpe : ((pos : Int) == (a.size : Int)) = false := by simp; omega
        clear hpa
        go_wp2
        go_roundw
        case rel => exact ⟨_, _, HP2, hit2, hB2⟩
        case measure => rw [iterPos_of hit2]; exact hmeas
    · have hnx := fun ty => run_next_end_at (P := Try.prog) wr w9.heap.size t pos ty hit hlt
      go_wp2_with fail
      refine (awake_any _).mono ?_
      rintro e w10 ⟨rfl, hb10⟩
      go_wp2
      go_ret
      exact ⟨rfl, below2 hB1 hb10⟩

theorem own : ownKnob Try.prog.godebug = none := by kernel_rfl
theorem laidOut : laidOutB Try.prog = true := by kernel_rfl

set_option maxRecDepth 100000 in
theorem contract (H : Type) (enc : TypeId × Value → H) (W : World) (base : Nat) (args : Array Value) (ds gs : List (DataW H)) (before : List MemPlace)
    (hval : ∀ (j : Nat) t v, Try.f9.params[j]? = some t → args[j]? = some v → Value.okWide Try.prog W .any base t v)
    (hW : DataW.Whole enc Try.prog Try.f9.params.toList Rows.wordsGoSpec.vars false W args.toList ds gs before) (hk : Rows.uptoSmall H (ds ++ gs) = true) :
    Calls Try.prog 9 args W fun e W' => ∃ v, e = .returned v ∧ Rows.wordsGoSpec.post enc Try.prog Try.f9 false true false false W args v W' := by
  have hW' := hW
  obtain ⟨p, q, hA0, hV, rfl, hfz, hnd⟩ := hW
  have hA : DataW.TrodAll enc Try.prog W 0 (fun _ => true) true Try.f9.params.toList args.toList ds p := hA0
  rw [Try.params9] at hA hval
  obtain ⟨v0, vs0, d0, ds0, p0, q0, hargs, rfl, rfl, h0, r0⟩ := trodAll_cons hA
  obtain ⟨v1, vs1, d1, ds1, p1, q1, rfl, rfl, rfl, h1, r1⟩ := trodAll_cons r0
  obtain ⟨rfl, rfl, rfl⟩ := trodAll_nil r1
  obtain rfl : args = #[v0, v1] := by cases args; simp_all
  obtain ⟨rfl, rfl⟩ := trodVars_none hV
  obtain ⟨a0, rfl, rfl, rfl, w0⟩ := open_string Try.underlying9 (hval 0 9 v0 rfl rfl) h0
  obtain ⟨a1, rfl, rfl, rfl, w1⟩ := open_string Try.underlying9 (hval 1 9 v1 rfl rfl) h1
  have hk' : Rows.uptoSmall H [.lit (.string a0.data.toList), .lit (.string a1.data.toList)] = true := hk
  have hb := bulk_bound hk'
  simp only [Rows.uptoBulkAll] at hb
  rw [bulk_string a0] at hb
  rw [bulk_string a1] at hb
  have c0 : a0.size ≤ 1048576 := by omega
  have c1 : a1.size ≤ 1048576 := by omega
  clear hA0
  have hwk := walk a0 a1 W c0 c1
  refine hwk.mono fun e W' ⟨he, bel⟩ => ?_
  subst he
  exact ⟨_, rfl, _, _, _, [], _, [], hW', trodAll_mk1 (shut_bool Try.underlying4 _), (trodAll_cons_mk (shut_string Try.underlying9 w0) (trodAll_cons_mk (shut_string Try.underlying9 w1) trodAll_mk0)), rfl, bel.frame _, fun h => by cases h⟩

set_option maxRecDepth 100000 in
theorem lifted (os : Os) (started : os.Started) (H : Type) (enc : TypeId × Value → H) (F : Stop.Interp) :
    ReturnsInHanded {} Try.checked os 9 .any ((Rows.OpenSpec.upto Rows.wordsGoSpec).pre6 enc Try.prog Try.f9 Rows.wordsGoUptoRow.domain false) (((Rows.OpenSpec.upto Rows.wordsGoSpec).at F).post enc Try.prog Try.f9 false true false false) := by
  refine returnsInHanded_of_cond (C := Try.checked) (s := Rows.OpenSpec.upto Rows.wordsGoSpec) (k := Rows.uptoSmall) rfl own started (by kernel_rfl) Try.func9
    (OpenSpec.witness (enc := enc) (C := Try.checked) (s := Rows.OpenSpec.upto Rows.wordsGoSpec) (k := Rows.uptoSmall) rfl false ⟨#[], #[.string ByteArray.empty, .string ByteArray.empty], []⟩ 8 (by kernel_rfl) (by kernel_rfl) (by kernel_rfl)
      (x := ([.lit (.string []), .lit (.string [])], [], [])) (by kernel_rfl) rfl (by kernel_rfl)) ?_
  intro W base args ds gs before hval hW _ hk _
  exact contract H enc W base args ds gs before hval hW hk

theorem over : Rows.wordsGoUptoRow.holds Try.pinned (Rows.OpenSpec.upto Rows.wordsGoSpec) :=
  OpenClaim.holds_of_cond 9 Try.f9 rfl rfl rfl rfl rfl rfl rfl ⟨rfl, rfl, rfl, rfl, rfl⟩ rfl rfl rfl rfl rfl (by kernel_rfl) Try.func9 (by kernel_rfl)
    (of_decide_eq_true (by kernel_rfl)) (by unfold Func.isWrapper; first | (rw [if_pos (by decide +kernel)]; kernel_rfl) | (rw [if_neg (by decide +kernel)]; exact ⟨rfl, rfl⟩))
    (fun os started H enc _ F => lifted os started H enc F)

end Go.Proofs.Ytkpmcojoiijonaa.wordsGo
namespace Go.Proofs.Ytkpmcojoiijonaa
theorem wordsGo_upto : Rows.WordsGoUptoSaid := wordsGo.over
end Go.Proofs.Ytkpmcojoiijonaa

