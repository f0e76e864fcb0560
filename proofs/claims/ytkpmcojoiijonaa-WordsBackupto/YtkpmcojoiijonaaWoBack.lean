/-
  WordsBack: each class and side by its names, however they are written, leads back; lists there and back. The condition: the lists have together at most 1048576 places (a bulk of at most 1048576).
-/
import Derived.Test.YtkpmcojoiijonaaBulk
import Derived.Test.YtkpmcojoiijonaaWoSp
import Derived.Test.YtkpmcojoiijonaaWoM2
import Derived.ProofKit
import Derived.OpenShut
import Derived.ShutString
import Derived.ChangeOld
namespace Go.Proofs.Ytkpmcojoiijonaa.wordsBack
open Go.ChangeShapes Go.WideShapes Go.ChangeAt Go.RowKit Go.PlainAid Go.Lib Go.ChangeMaps
set_option linter.unusedVariables false

def plainOk (s : ByteArray) : Bool := (List.range s.size).all fun k => letterB (bt s k)
theorem plain_of (s : ByteArray) (h : plainOk s = true) : plainB s := by
  intro k hk
  exact List.all_eq_true.1 h k (List.mem_range.2 hk)
theorem names_ok : ∀ k : Fin 23, (plainOk (shortS ((k.1 + 1 : Nat) : Int)) = true ∧ plainOk (longS ((k.1 + 1 : Nat) : Int)) = true) ∧ (argE (shortS ((k.1 + 1 : Nat) : Int)) = 0 ∧ argE (longS ((k.1 + 1 : Nat) : Int)) = 0) ∧
    (classN (runesBytes (looseL (bytesI (shortS ((k.1 + 1 : Nat) : Int))))) = ((k.1 + 1 : Nat) : Int) ∧ classN (runesBytes (looseL (bytesI (longS ((k.1 + 1 : Nat) : Int))))) = ((k.1 + 1 : Nat) : Int)) ∧ (shortS ((k.1 + 1 : Nat) : Int)).size ≤ 64 ∧ (longS ((k.1 + 1 : Nat) : Int)).size ≤ 64 := by decide +kernel
theorem sides_ok : ∀ k : Fin 3, plainOk (letterS ((k.1 : Nat) : Int)) = true ∧ letterE ((k.1 : Nat) : Int) = 0 ∧ sideN (runesBytes (looseL (bytesI (letterS ((k.1 : Nat) : Int))))) = ((k.1 : Nat) : Int) ∧ sideE (runesBytes (looseL (bytesI (letterS ((k.1 : Nat) : Int))))) = 0 ∧ (letterS ((k.1 : Nat) : Int)).size ≤ 64 := by decide +kernel
/-- Class of a name that is written otherwise -/
theorem class_as (s t : ByteArray) (c : Int) (w : World) (hz : t.size ≤ 512) (ht : looseL (nums t 0) = looseL (bytesI s)) (hc : classN (runesBytes (looseL (bytesI s))) = c) (h0 : c ≠ 0) :
    Calls Try.prog 21 #[.string t] w fun e w' => e = .returned (.tuple #[.int .u8 c, .int .i64 0]) ∧ Below w.heap.size w w' := by
  have h := class_any t w (by omega)
  have e : looseB t = runesBytes (looseL (bytesI s)) := by unfold looseB; rw [ht]
  have e2 : noneE c = 0 := by unfold noneE; rw [if_neg h0]
  rw [e, hc, e2] at h
  exact h
theorem side_as (s t : ByteArray) (c : Int) (w : World) (hz : t.size ≤ 512) (ht : looseL (nums t 0) = looseL (bytesI s)) (hc : sideN (runesBytes (looseL (bytesI s))) = c) (he : sideE (runesBytes (looseL (bytesI s))) = 0) :
    Calls Try.prog 23 #[.string t] w fun e w' => e = .returned (.tuple #[.int .u8 c, .int .i64 0]) ∧ Below w.heap.size w w' := by
  have h := side_any t w (by omega)
  have e : looseB t = runesBytes (looseL (bytesI s)) := by unfold looseB; rw [ht]
  rw [e, hc, he] at h
  exact h
theorem all_or (zs : List Int) : (∀ c ∈ zs, okB c = true) ∨ (wrS zs = ⟨#[]⟩ ∧ wrE zs = 2) := by
  by_cases h : ∀ c ∈ zs, okB c = true
  · exact .inl h
  · right
    have : ∃ c ∈ zs, okB c = false := by
      apply Classical.byContradiction
      intro hn
      apply h
      intro c hc
      cases hk : okB c
      · exact absurd ⟨c, hc, hk⟩ hn
      · rfl
    obtain ⟨c, hc, hk⟩ := this
    exact wr_no zs c hc hk
set_option maxRecDepth 100000 in
set_option maxHeartbeats 4000000 in
theorem walk (a : Option Addr) (zs : List Int) (cap : Nat) (b : Option Addr) (ks : List Int) (cap2 : Nat) (w : World) (hrd : ReadsB w a zs) (hfi : FitsB zs) (hlc : zs.length ≤ cap) (hcap : cap ≤ 1048576) (hrk : ReadsB w b ks) (hfk : FitsB ks) (hlk : ks.length ≤ cap2) (hcap2 : cap2 ≤ 1048576) :
    Calls Try.prog 10 #[.slice a zs.length cap, .slice b ks.length cap2] w fun e w' => e = .returned (.bool true) ∧ Below w.heap.size w w' := by
  have HRD := hide hrd
  have HRK := hide hrk
  have HSP := hide (fun (s : ByteArray) (w : World) (hs : s.size ≤ 64) (hp : plainB s) (h : ReadsB w b ks) => spoilt_any s b cap2 ks w hs hp h hfk (by omega))
  have HWR := hide (fun (w : World) (h : ReadsB w a zs) => write_any a cap zs w h hfi (by omega))
  have HSZ := hide (fun (w : World) (x : Option Addr) (c : Nat) (h : ReadsB w x zs) (h' : ReadsB w a zs) => sameC_yes x a c cap zs.length zs w rfl h h' (by omega))
  have HWB := hide (wr_back zs hfi)
  have hwz := wrT_size zs hfi
  clear hrd hrk hfi hfk
  generalize hm : zs.length = m at *
  have HM := hide hm
  clear hm
  generalize hn : ks.length = n at *
  clear hn
  go_enter Try.func10, Try.ntmps10
  go_wp2
  go_loopw [5] (fun v5 wr => ∃ k : Nat, 1 ≤ k ∧ k ≤ 24 ∧ v5 = .int .u8 k ∧ Below w.heap.size w wr) (fun v5 _ => 24 - (RowKit.intOf v5).toNat)
  case atStart => exact ⟨1, by omega, by omega, rfl, Below.refl _ _⟩
  case round =>
    obtain ⟨k, hk1, hk2, rfl, hB⟩ := hrel
    by_cases hlt : k ≤ 23
    · have hnm := names_ok ⟨k - 1, by omega⟩
      rw [show k - 1 + 1 = k by omega] at hnm
      obtain ⟨⟨p1, p2⟩, ⟨a1, a2⟩, ⟨c1, c2⟩, z1, z2⟩ := hnm
      have HA1 := hide a1
      have HA2 := hide a2
      have HP1 := hide (plain_of _ p1)
      have HP2 := hide (plain_of _ p2)
      have HC1 := hide c1
      have HC2 := hide c2
      have hw8 : IntKind.u8.wrap ((k : Int) + 1) = (k : Int) + 1 := by rw [IntKind.wrap_u8]; omega
      have HK0 : Hid ((k : Int) ≠ 0) := by show _ ≠ _; omega
      have q1 : ((k : Int) != (k : Int)) = false := by simp
      have HSH := hide (fun w => shortW_any (k : Int) w)
      have HLO := hide (fun w => longW_any (k : Int) w)
      clear p1 p2 a1 a2 c1 c2
      generalize shortS (k : Int) = sh at *
      generalize longS (k : Int) = lo at *
      go_wp2_with (first
        | (go_at_call 25; refine (unhide HSH wr).mono ?_; rintro e w' ⟨rfl, hw⟩; obtain rfl : wr = w' := hw.symm; rw [unhide HA1])
        | (go_at_call 26; refine (unhide HLO wr).mono ?_; rintro e w' ⟨rfl, hw⟩; obtain rfl : wr = w' := hw.symm; rw [unhide HA2])
        | fail)
      refine (unhide HSP sh wr z1 (unhide HP1) ((unhide HRK).below hB)).mono ?_
      rintro e w2 ⟨t1, rfl, ht1, hz1, hb2⟩
      have hB2 := below2 hB hb2
      have HT1 := hide ht1
      clear ht1
      go_wp2_with fail
      refine (class_as sh t1 (k : Int) w2 hz1 (unhide HT1) (unhide HC1) (unhide HK0)).mono ?_
      rintro e w3 ⟨rfl, hb3⟩
      have hB3 := below2 hB2 hb3
      go_wp2_with fail
      refine (unhide HSP lo w3 z2 (unhide HP2) ((unhide HRK).below hB3)).mono ?_
      rintro e w4 ⟨t2, rfl, ht2, hz2, hb4⟩
      have hB4 := below2 hB3 hb4
      have HT2 := hide ht2
      clear ht2
      go_wp2_with fail
      refine (class_as lo t2 (k : Int) w4 hz2 (unhide HT2) (unhide HC2) (unhide HK0)).mono ?_
      rintro e w5 ⟨rfl, hb5⟩
      have hB5 := below2 hB4 hb5
      clear hb2 hb3 hb4 hb5 hB2 hB3 hB4
      go_wp2
      go_roundw
      case rel => exact ⟨k + 1, by omega, by omega, by go_num, hB5⟩
      case measure => simp [RowKit.intOf]; omega
    · have hlt' : (23 : Int) < k := by omega
      go_wp2
      go_loopw [14] (fun v14 wr2 => ∃ j : Nat, j ≤ 3 ∧ v14 = .int .u8 j ∧ Below w.heap.size w wr2) (fun v14 _ => 3 - (RowKit.intOf v14).toNat)
      case atStart => exact ⟨0, by omega, rfl, hB⟩
      case round =>
        clear hB
        obtain ⟨j, hj, rfl, hB⟩ := hrel
        by_cases hlt2 : j ≤ 2
        · have hnm := sides_ok ⟨j, by omega⟩
          obtain ⟨p1, a1, c1, c2, z1⟩ := hnm
          dsimp only at p1 a1 c1 c2 z1
          have HA1 := hide a1
          have HP1 := hide (plain_of _ p1)
          have HC1 := hide c1
          have HC2 := hide c2
          have hw8 : IntKind.u8.wrap ((j : Int) + 1) = (j : Int) + 1 := by rw [IntKind.wrap_u8]; omega
          have q1 : ((j : Int) != (j : Int)) = false := by simp
          have HLE := hide (fun w => letter_any (j : Int) w)
          clear p1 a1 c1 c2
          generalize letterS (j : Int) = sh at *
          go_wp2_with (first
            | (go_at_call 27; refine (unhide HLE wr).mono ?_; rintro e w' ⟨rfl, hw⟩; obtain rfl : wr = w' := hw.symm; rw [unhide HA1])
            | fail)
          refine (unhide HSP sh wr z1 (unhide HP1) ((unhide HRK).below hB)).mono ?_
          rintro e w2 ⟨t1, rfl, ht1, hz1, hb2⟩
          have hB2 := below2 hB hb2
          have HT1 := hide ht1
          clear ht1
          go_wp2_with fail
          refine (side_as sh t1 (j : Int) w2 hz1 (unhide HT1) (unhide HC1) (unhide HC2)).mono ?_
          rintro e w3 ⟨rfl, hb3⟩
          have hB3 := below2 hB2 hb3
          clear hb2 hb3 hB2
          go_wp2
          go_roundw
          case rel => exact ⟨j + 1, by omega, by go_num, hB3⟩
          case measure => simp [RowKit.intOf]; omega
        · have hlt3 : (2 : Int) < j := by omega
          go_wp2_with fail
          refine (unhide HWR wr ((unhide HRD).below hB)).mono ?_
          rintro e w2 ⟨rfl, hb2⟩
          have hB2 := below2 hB hb2
          rcases all_or zs with ho | ⟨e1, e2⟩
          · obtain ⟨e1, e2⟩ := wr_yes zs ho
            obtain ⟨l1, l2, l3⟩ := unhide HWB ho
            rw [e1, e2]
            have hCL := classes_any (wrT zs) w2 (by omega)
            rw [l1, l2, l3] at hCL
            have HCL := hide hCL
            clear l1 l2 l3 e1 e2 hCL ho
            generalize wrT zs = tx at *
            go_wp2_with fail
            refine (unhide HCL).mono ?_
            rintro e w3 ⟨v3, rfl, hr3, hb3⟩
            rw [unhide HM] at hr3
            obtain ⟨ga, gc, rfl⟩ := row_sliceC hr3
            have hB3 := below2 hB2 hb3
            have HRG := hide (readsB_own hr3)
            clear hr3
            go_wp2_with fail
            refine (unhide HSZ w3 ga gc (unhide HRG) ((unhide HRD).below hB3)).mono ?_
            rintro e w4 ⟨rfl, hb4⟩
            have hB4 := below2 hB3 hb4
            go_wp2_with fail
            refine (awake_any w4).mono ?_
            rintro e w5 ⟨rfl, hb5⟩
            go_wp2
            go_ret
            exact ⟨rfl, below2 hB4 hb5⟩
          · rw [e1, e2]
            clear e1 e2
            go_wp2_with fail
            refine (awake_any w2).mono ?_
            rintro e w5 ⟨rfl, hb5⟩
            go_wp2
            go_ret
            exact ⟨rfl, below2 hB2 hb5⟩

theorem own : ownKnob Try.prog.godebug = none := by kernel_rfl
theorem laidOut : laidOutB Try.prog = true := by kernel_rfl

set_option maxRecDepth 100000 in
theorem contract (H : Type) (enc : TypeId × Value → H) (W : World) (base : Nat) (args : Array Value) (ds gs : List (DataW H)) (before : List MemPlace)
    (hval : ∀ (j : Nat) t v, Try.f10.params[j]? = some t → args[j]? = some v → Value.okWide Try.prog W .any base t v)
    (hW : DataW.Whole enc Try.prog Try.f10.params.toList Rows.wordsBackSpec.vars false W args.toList ds gs before) (hk : Rows.uptoSmall H (ds ++ gs) = true) :
    Calls Try.prog 10 args W fun e W' => ∃ v, e = .returned v ∧ Rows.wordsBackSpec.post enc Try.prog Try.f10 false true false false W args v W' := by
  have hW' := hW
  obtain ⟨p, q, hA0, hV, rfl, hfz, hnd⟩ := hW
  have hA : DataW.TrodAll enc Try.prog W 0 (fun _ => true) true Try.f10.params.toList args.toList ds p := hA0
  rw [Try.params10] at hA hval
  obtain ⟨v0, vs0, d0, ds0, p0, q0, hargs, rfl, rfl, h0, r0⟩ := trodAll_cons hA
  obtain ⟨v1, vs1, d1, ds1, p1, q1, rfl, rfl, rfl, h1, r1⟩ := trodAll_cons r0
  obtain ⟨rfl, rfl, rfl⟩ := trodAll_nil r1
  obtain rfl : args = #[v0, v1] := by cases args; simp_all
  obtain ⟨rfl, rfl⟩ := trodVars_none hV
  obtain ⟨a0, len0, cap0, rfl⟩ := okWide_slice Try.underlying48 (hval 0 48 v0 rfl rfl)
  have k0 := h0
  have lt0 : ∀ x ∈ p0, x.block < W.heap.size := by obtain ⟨m, hm⟩ := k0; exact DataW.trod_lt m _ _ _ hm
  obtain ⟨a1, len1, cap1, rfl⟩ := okWide_slice Try.underlying55 (hval 1 55 v1 rfl rfl)
  have k1 := h1
  have lt1 : ∀ x ∈ p1, x.block < W.heap.size := by obtain ⟨m, hm⟩ := k1; exact DataW.trod_lt m _ _ _ hm
  have hk' : Rows.uptoSmall H [d0, d1] = true := hk
  have hb := bulk_bound hk'
  simp only [Rows.uptoBulkAll] at hb
  obtain ⟨z0, w0, c0, wf0⟩ : ∃ zs : List Int, ((a0 = none ∧ len0 = 0 ∧ cap0 = 0 ∧ zs = []) ∨ ∃ x, a0 = some x ∧ len0 ≤ cap0 ∧ cap0 ≤ maxLen ∧ zs.length = cap0 ∧ (∀ i, i < zs.length → W.cell? (x.add i) = some (.int .u8 (zs.getD i 0)))) ∧ cap0 ≤ 1048576 ∧ (∀ n ∈ zs, (Lit.int .u8 n).wf = true) := by
    obtain ⟨fuel, hf⟩ := h0
    rcases open_ints Try.underlying48 Try.underlying34 (by kernel_rfl) hf with ⟨hcs, _⟩ | ⟨x, l, c, zs, hcs, _, hl, hm, hz, hx, hcell, hwz⟩
    · simp [Value.cells] at hcs
      obtain ⟨rfl, rfl, rfl⟩ := hcs
      exact ⟨[], .inl ⟨rfl, rfl, rfl, rfl⟩, by omega, by simp⟩
    · simp [Value.cells] at hcs
      obtain ⟨rfl, rfl, rfl⟩ := hcs
      have hz' : zs.length = cap0 := by simpa using hz
      refine ⟨zs, .inr ⟨_, rfl, hl, hm, hz', hcell⟩, ?_, hwz⟩
      have hd : d0 = .slice (lits .u8 (zs.take len0)) (lits .u8 (zs.drop len0)) := by simp only [Prod.mk.injEq] at hx; exact hx.1
      rw [hd] at hb
      have h2 := bulk_slice (H := H) (lits .u8 (zs.take len0)) (lits .u8 (zs.drop len0))
      have e1 : (lits (H := H) .u8 (zs.take len0)).length = (zs.take len0).length := by simp [lits]
      have e2 : (lits (H := H) .u8 (zs.drop len0)).length = (zs.drop len0).length := by simp [lits]
      rw [e1, e2, List.length_take, List.length_drop] at h2
      omega
  have hlc0 : len0 ≤ cap0 := by rcases w0 with ⟨_, h, h', _⟩ | ⟨_, _, h, _⟩ <;> omega
  have hzc0 : z0.length = cap0 := w0.elim (fun ⟨_, _, h, h'⟩ => by rw [h', h]; rfl) (fun ⟨_, _, _, _, h, _⟩ => h)
  have hle0 : (z0.take len0).length = len0 := by rw [List.length_take]; omega
  have hrd0 : ReadsB W a0 (z0.take len0) := by
    intro i hi
    rw [hle0] at hi
    rcases w0 with ⟨_, h, _⟩ | ⟨x, h1, h2, h3, h4, h5⟩
    · omega
    · obtain ⟨b, off, rfl, hc⟩ := ints_at h5 (by omega)
      refine ⟨b, off, h1, (hc i (by omega)).trans ?_⟩
      simp [List.getD, hi]
  have hfi0 : FitsB (z0.take len0) := by
    intro x hx
    exact wf_u8 (wf0 x (List.mem_of_mem_take hx))
  obtain ⟨z1, w1, c1, wf1⟩ : ∃ zs : List Int, ((a1 = none ∧ len1 = 0 ∧ cap1 = 0 ∧ zs = []) ∨ ∃ x, a1 = some x ∧ len1 ≤ cap1 ∧ cap1 ≤ maxLen ∧ zs.length = cap1 ∧ (∀ i, i < zs.length → W.cell? (x.add i) = some (.int .u8 (zs.getD i 0)))) ∧ cap1 ≤ 1048576 ∧ (∀ n ∈ zs, (Lit.int .u8 n).wf = true) := by
    obtain ⟨fuel, hf⟩ := h1
    rcases open_ints Try.underlying55 Try.underlying5 (by kernel_rfl) hf with ⟨hcs, _⟩ | ⟨x, l, c, zs, hcs, _, hl, hm, hz, hx, hcell, hwz⟩
    · simp [Value.cells] at hcs
      obtain ⟨rfl, rfl, rfl⟩ := hcs
      exact ⟨[], .inl ⟨rfl, rfl, rfl, rfl⟩, by omega, by simp⟩
    · simp [Value.cells] at hcs
      obtain ⟨rfl, rfl, rfl⟩ := hcs
      have hz' : zs.length = cap1 := by simpa using hz
      refine ⟨zs, .inr ⟨_, rfl, hl, hm, hz', hcell⟩, ?_, hwz⟩
      have hd : d1 = .slice (lits .u8 (zs.take len1)) (lits .u8 (zs.drop len1)) := by simp only [Prod.mk.injEq] at hx; exact hx.1
      rw [hd] at hb
      have h2 := bulk_slice (H := H) (lits .u8 (zs.take len1)) (lits .u8 (zs.drop len1))
      have e1 : (lits (H := H) .u8 (zs.take len1)).length = (zs.take len1).length := by simp [lits]
      have e2 : (lits (H := H) .u8 (zs.drop len1)).length = (zs.drop len1).length := by simp [lits]
      rw [e1, e2, List.length_take, List.length_drop] at h2
      omega
  have hlc1 : len1 ≤ cap1 := by rcases w1 with ⟨_, h, h', _⟩ | ⟨_, _, h, _⟩ <;> omega
  have hzc1 : z1.length = cap1 := w1.elim (fun ⟨_, _, h, h'⟩ => by rw [h', h]; rfl) (fun ⟨_, _, _, _, h, _⟩ => h)
  have hle1 : (z1.take len1).length = len1 := by rw [List.length_take]; omega
  have hrd1 : ReadsB W a1 (z1.take len1) := by
    intro i hi
    rw [hle1] at hi
    rcases w1 with ⟨_, h, _⟩ | ⟨x, h1, h2, h3, h4, h5⟩
    · omega
    · obtain ⟨b, off, rfl, hc⟩ := ints_at h5 (by omega)
      refine ⟨b, off, h1, (hc i (by omega)).trans ?_⟩
      simp [List.getD, hi]
  have hfi1 : FitsB (z1.take len1) := by
    intro x hx
    exact wf_u8 (wf1 x (List.mem_of_mem_take hx))
  clear hA0
  have hwk := walk a0 (z0.take len0) cap0 a1 (z1.take len1) cap1 W hrd0 hfi0 (by rw [hle0]; omega) c0 hrd1 hfi1 (by rw [hle1]; omega) c1
  rw [hle0] at hwk
  rw [hle1] at hwk
  refine hwk.mono fun e W' ⟨he, bel⟩ => ?_
  subst he
  exact ⟨_, rfl, _, _, _, [], _, [], hW', trodAll_mk1 (shut_bool Try.underlying4 _), (trodAll_cons_mk (Below.trod laidOut (by kernel_rfl) (of_decide_eq_true (by kernel_rfl)) k0 bel lt0) (trodAll_cons_mk (Below.trod laidOut (by kernel_rfl) (of_decide_eq_true (by kernel_rfl)) k1 bel lt1) trodAll_mk0)), rfl, bel.frame _, fun h => by cases h⟩

set_option maxRecDepth 100000 in
theorem lifted (os : Os) (started : os.Started) (H : Type) (enc : TypeId × Value → H) (F : Stop.Interp) :
    ReturnsInHanded {} Try.checked os 10 .any ((Rows.OpenSpec.upto Rows.wordsBackSpec).pre6 enc Try.prog Try.f10 Rows.wordsBackUptoRow.domain false) (((Rows.OpenSpec.upto Rows.wordsBackSpec).at F).post enc Try.prog Try.f10 false true false false) := by
  refine returnsInHanded_of_cond (C := Try.checked) (s := Rows.OpenSpec.upto Rows.wordsBackSpec) (k := Rows.uptoSmall) rfl own started (by kernel_rfl) Try.func10
    (OpenSpec.witness (enc := enc) (C := Try.checked) (s := Rows.OpenSpec.upto Rows.wordsBackSpec) (k := Rows.uptoSmall) rfl false ⟨#[], #[.slice none 0 0, .slice none 0 0], []⟩ 8 (by kernel_rfl) (by kernel_rfl) (by kernel_rfl)
      (x := ([.nil, .nil], [], [])) (by kernel_rfl) rfl (by kernel_rfl)) ?_
  intro W base args ds gs before hval hW _ hk _
  exact contract H enc W base args ds gs before hval hW hk

theorem over : Rows.wordsBackUptoRow.holds Try.pinned (Rows.OpenSpec.upto Rows.wordsBackSpec) :=
  OpenClaim.holds_of_cond 10 Try.f10 rfl rfl rfl rfl rfl rfl rfl ⟨rfl, rfl, rfl, rfl, rfl⟩ rfl rfl rfl rfl rfl (by kernel_rfl) Try.func10 (by kernel_rfl)
    (of_decide_eq_true (by kernel_rfl)) (by unfold Func.isWrapper; first | (rw [if_pos (by decide +kernel)]; kernel_rfl) | (rw [if_neg (by decide +kernel)]; exact ⟨rfl, rfl⟩))
    (fun os started H enc _ F => lifted os started H enc F)

end Go.Proofs.Ytkpmcojoiijonaa.wordsBack
namespace Go.Proofs.Ytkpmcojoiijonaa
theorem wordsBack_upto : Rows.WordsBackUptoSaid := wordsBack.over
end Go.Proofs.Ytkpmcojoiijonaa

