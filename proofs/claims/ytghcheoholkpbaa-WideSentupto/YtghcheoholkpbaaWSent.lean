/-
  WideSent: what Lay lays, Read reads, of every orders and units: for arguments of at most 1048576 values in all.
-/
import Derived.Test.YtghcheoholkpbaaWSame
import Derived.Test.YtghcheoholkpbaaBulk
import Derived.ProofKit
import Derived.OpenShut
import Derived.ShutString
import Derived.ChangeOld
import Derived.JoinedCond
namespace Go.Proofs.Ytghcheoholkpbaa.wideSent
open Go.ChangeShapes Go.WideShapes Go.ChangeAt Go.RowKit Go.PlainAid Go.Lib
open Go.ChangeMaps (open_string shut_string)
set_option linter.unusedVariables false

set_option maxRecDepth 100000 in
set_option maxHeartbeats 2000000 in
theorem walk_bad (o p : Int) (a : Option Addr) (us : List Int) (cap : Nat) (w : World) (ho : 0 ≤ o) (hp : 0 ≤ p) (hbad : 1 < o ∨ 1 < p) :
    Calls Try.prog 11 #[.int .u8 o, .int .u8 p, .slice a us.length cap] w fun e w' => e = .returned (.bool true) ∧ Below w.heap.size w w' := by
  have hm : ¬ (max o p = 0 ∨ max o p = 1) := by omega
  have HM := hide hm
  clear hm
  have hd : (decide (1 < o) = true) ∨ (decide (1 < o) = false ∧ decide (1 < p) = true) := by
    by_cases h : 1 < o
    · left; simpa using h
    · right; exact ⟨by simpa using h, by simp; omega⟩
  have h3 : (o < p ∧ max o p = p) ∨ (¬ o < p ∧ max o p = o) := by
    by_cases h : o < p
    · left; omega
    · right; omega
  rcases hd with d1 | ⟨d1, d2⟩ <;> rcases h3 with ⟨h3, h4⟩ | ⟨h3, h4⟩
  all_goals
    rw [h4] at HM
    clear h4
    go_enter Try.func11, Try.ntmps11
    go_wp2_with (first
      | (go_at_call 44; refine (lay_bad _ _ _ _ (unhide HM)).mono ?_; rintro e w' ⟨rfl, rfl⟩)
      | (go_at_call 46; refine (read_bad _ _ _ (unhide HM)).mono ?_; rintro e w' ⟨rfl, rfl⟩)
      | (go_at_call 20; refine (awake_any _).mono ?_; rintro e w' ⟨rfl, hb⟩))
    go_ret
    exact ⟨rfl, hb⟩

set_option maxRecDepth 100000 in
set_option maxHeartbeats 2000000 in
theorem walk_ok (o p : Int) (a : Option Addr) (us : List Int) (cap : Nat) (w : World) (ho : o = 0 ∨ o = 1) (hp : p = 0 ∨ p = 1) (hrd : ReadsU w a us) (hf : Fits us) (hc : us.length ≤ cap) (hc2 : cap ≤ 1048576) :
    Calls Try.prog 11 #[.int .u8 o, .int .u8 p, .slice a us.length cap] w fun e w' => e = .returned (.bool true) ∧ Below w.heap.size w w' := by
  have d1 : decide (1 < o) = false := by rcases ho with rfl | rfl <;> rfl
  have d2 : decide (1 < p) = false := by rcases hp with rfl | rfl <;> rfl
  have HO := hide ho
  have HP := hide hp
  obtain ⟨m1, m2⟩ := read_marked o p hp us hf
  have hs1 : (⟨(layU p true us).toArray⟩ : ByteArray).size = 2 * us.length + 2 := by rw [size_list, layU_len]; rfl
  have hs2 : (⟨(layU o false us).toArray⟩ : ByteArray).size = 2 * us.length := by rw [size_list, layU_len]; rfl
  have HL1 := hide (fun w (h : ReadsU w a us) => lay_any a cap us p true w hp hf h (by omega))
  have HL2 := hide (fun w (h : ReadsU w a us) => lay_any a cap us o false w ho hf h (by omega))
  have HR1 := hide (fun w => read_any o ⟨(layU p true us).toArray⟩ w ho (by omega) (by omega))
  have HR2 := hide (fun w => read_any o ⟨(layU o false us).toArray⟩ w ho (by omega) (by omega))
  rw [m1, m2] at HR1
  have HS := hide (fun (w : World) (x : Option Addr) (c : Nat) (h : ReadsU w x us) (h' : ReadsU w a us) => sameU_any x a c cap us us w h h' (by omega))
  have hdt : decide (us = us) = true := by simp
  rw [hdt] at HS
  clear hdt m1 m2
  have HRD := hide hrd
  have hq : ((2 * (us.length : Int) + 2) != (2 * (us.length : Int) + 2)) = false := by simp
  have hqp : (p != p) = false := by simp
  have hqo : (o == o) = true := by simp
  have HX : Hid ((us = [] ∨ ¬ (uA us 0 = 65279 ∨ uA us 0 = 65534)) ∨ (us ≠ [] ∧ uA us 0 = 65279) ∨ (us ≠ [] ∧ uA us 0 = 65534)) := by
    by_cases h1 : us = []
    · exact .inl (.inl h1)
    · by_cases h2 : uA us 0 = 65279
      · exact .inr (.inl ⟨h1, h2⟩)
      · by_cases h3 : uA us 0 = 65534
        · exact .inr (.inr ⟨h1, h3⟩)
        · exact .inl (.inr (by omega))
  have HM2 := hide (fun h => read_bare o ho us hf h)
  have HC2 := hide (fun h1 h2 => read_cut o ho us hf h1 h2)
  have hul : us.length ≤ 1048576 := by omega
  clear hrd hf ho hp
  generalize hS1 : (⟨(layU p true us).toArray⟩ : ByteArray) = S1 at *
  generalize hS2 : (⟨(layU o false us).toArray⟩ : ByteArray) = S2 at *
  clear hS1 hS2
  go_enter Try.func11, Try.ntmps11
  go_wp2_with fail
  refine (unhide HL1 _ (unhide HRD)).mono ?_
  rintro e w1 ⟨rfl, hb1⟩
  go_wp2_with fail
  refine (unhide HR1 _).mono ?_
  rintro e w2 ⟨v2, rfl, hrow2, hb2⟩
  obtain ⟨a2, c2, rfl⟩ := row_is hrow2
  have hB2 : Below w.heap.size w w2 := hb1.trans (hb2.mono hb1.size)
  have HRO := hide (readsU_own hrow2)
  clear hb1 hb2 hrow2 HL1 HR1
  go_wp2_with fail
  refine (unhide HS _ _ _ (unhide HRO) ((unhide HRD).below hB2)).mono ?_
  rintro e w3 ⟨rfl, hb3⟩
  have hB3 : Below w.heap.size w w3 := hB2.trans (hb3.mono hB2.size)
  clear hb3 hB2 HRO
  go_wp2_with fail
  refine (unhide HL2 _ ((unhide HRD).below hB3)).mono ?_
  rintro e w4 ⟨rfl, hb4⟩
  have hB4 : Below w.heap.size w w4 := hB3.trans (hb4.mono hB3.size)
  clear hb4 hB3 HL2
  go_wp2_with fail
  refine (unhide HR2 _).mono ?_
  rintro e w5 ⟨v5, rfl, hrow5, hb5⟩
  have hB5 : Below w.heap.size w w5 := hB4.trans (hb5.mono hB4.size)
  clear hb5 hB4 HR2
  rcases unhide HX with hx | ⟨hne, hx⟩ | ⟨hne, hx⟩
  · obtain ⟨m1, m2⟩ := unhide HM2 hx
    rw [m1] at hrow5 ⊢
    rw [m2] at hrow5
    obtain ⟨a5, c5, rfl⟩ := row_is hrow5
    have HRO := hide (readsU_own hrow5)
    clear m1 m2 hrow5 HC2 HM2
    by_cases he : us = []
    · subst he
      clear hx
      go_wp2_with fail
      refine (unhide HS _ _ _ (unhide HRO) ((unhide HRD).below hB5)).mono ?_
      rintro e w6 ⟨rfl, hb6⟩
      go_wp2_with fail
      refine (awake_any _).mono ?_
      rintro e w7 ⟨rfl, hb7⟩
      go_wp2
      go_ret
      exact ⟨rfl, (hB5.trans (hb6.mono hB5.size)).trans (hb7.mono (Nat.le_trans hB5.size hb6.size))⟩
    · have h0 : 0 < us.length := List.length_pos_iff.2 he
      obtain ⟨b, off, rfl, hcell⟩ := ((unhide HRD).below hB5) 0 h0
      rw [Nat.add_zero] at hcell
      have hx' : ¬ (uA us 0 = 65279 ∨ uA us 0 = 65534) := by rcases hx with hx | hx; exact absurd hx he; exact hx
      have q1 : (uA us 0 == 65279) = false := by simp; omega
      have q2 : (uA us 0 == 65534) = false := by simp; omega
      have hli : (0 : Int) < us.length := by omega
      clear hx hx' he
      generalize uA us 0 = u at *
      go_wp2_with fail
      refine (unhide HS _ _ _ (unhide HRO) ((unhide HRD).below hB5)).mono ?_
      rintro e w6 ⟨rfl, hb6⟩
      go_wp2_with fail
      refine (awake_any _).mono ?_
      rintro e w7 ⟨rfl, hb7⟩
      go_wp2
      go_ret
      exact ⟨rfl, (hB5.trans (hb6.mono hB5.size)).trans (hb7.mono (Nat.le_trans hB5.size hb6.size))⟩
  all_goals
    have h0 : 0 < us.length := List.length_pos_iff.2 hne
    obtain ⟨b, off, rfl, hcell⟩ := ((unhide HRD).below hB5) 0 h0
    have hcl := unhide HC2 hne (by first | exact .inl hx | exact .inr hx) (ordR o S2)
    obtain ⟨a5, c5, rfl⟩ := row_is hrow5
    rw [hcl]
    have hqq : (((us.length - 1 : Nat) : Int) == (us.length : Int) - 1) = true := by simp; omega
    have hqz : ((us.length - 1 : Nat) : Int) = (us.length : Int) - 1 := by omega
    rw [Nat.add_zero, hx] at hcell
    have hli : (0 : Int) < us.length := by omega
    clear hrow5 HC2 HM2 hcl hne HX
    have HX2 := hide hx
    clear hx
    go_wp2_with fail
    refine (awake_any _).mono ?_
    rintro e w7 ⟨rfl, hb7⟩
    go_wp2
    go_ret
    exact ⟨rfl, hB5.trans (hb7.mono hB5.size)⟩

theorem walk (o p : Int) (a : Option Addr) (us : List Int) (cap : Nat) (w : World) (ho : 0 ≤ o) (_ : o ≤ 255) (hp : 0 ≤ p) (_ : p ≤ 255) (hrd : ReadsU w a us) (hf : Fits us) (hc : us.length ≤ cap) (hc2 : cap ≤ 1048576) :
    Calls Try.prog 11 #[.int .u8 o, .int .u8 p, .slice a us.length cap] w fun e w' => e = .returned (.bool true) ∧ Below w.heap.size w w' := by
  by_cases h : 1 < o ∨ 1 < p
  · exact walk_bad o p a us cap w ho hp h
  · exact walk_ok o p a us cap w (by omega) (by omega) hrd hf hc hc2

theorem own : ownKnob Try.prog.godebug = none := by kernel_rfl
theorem laidOut : laidOutB Try.prog = true := by kernel_rfl

set_option maxRecDepth 100000 in
theorem contract (H : Type) (enc : TypeId × Value → H) (W : World) (base : Nat) (args : Array Value) (ds gs : List (DataW H)) (before : List MemPlace)
    (hval : ∀ (j : Nat) t v, Try.f11.params[j]? = some t → args[j]? = some v → Value.okWide Try.prog W .any base t v)
    (hW : DataW.Whole enc Try.prog Try.f11.params.toList Rows.wideSentSpec.vars false W args.toList ds gs before) (hk : Rows.uptoSmall H (ds ++ gs) = true) :
    Calls Try.prog 11 args W fun e W' => ∃ v, e = .returned v ∧ Rows.wideSentSpec.post enc Try.prog Try.f11 false true false false W args v W' := by
  have hW' := hW
  obtain ⟨p, q, hA0, hV, rfl, hfz, hnd⟩ := hW
  have hA : DataW.TrodAll enc Try.prog W 0 (fun _ => true) true Try.f11.params.toList args.toList ds p := hA0
  rw [Try.params11] at hA hval
  obtain ⟨v0, vs0, d0, ds0, p0, q0, hargs, rfl, rfl, h0, r0⟩ := trodAll_cons hA
  obtain ⟨v1, vs1, d1, ds1, p1, q1, rfl, rfl, rfl, h1, r1⟩ := trodAll_cons r0
  obtain ⟨v2, vs2, d2, ds2, p2, q2, rfl, rfl, rfl, h2, r2⟩ := trodAll_cons r1
  obtain ⟨rfl, rfl, rfl⟩ := trodAll_nil r2
  obtain rfl : args = #[v0, v1, v2] := by cases args; simp_all
  obtain ⟨rfl, rfl⟩ := trodVars_none hV
  obtain ⟨a0, rfl, hd0, rfl, w0⟩ := open_int Try.underlying56 (hval 0 56 v0 rfl rfl) h0
  have x0 : 0 ≤ a0 ∧ a0 ≤ 255 := wf_u8 w0
  obtain ⟨a1, rfl, hd1, rfl, w1⟩ := open_int Try.underlying56 (hval 1 56 v1 rfl rfl) h1
  have x1 : 0 ≤ a1 ∧ a1 ≤ 255 := wf_u8 w1
  obtain ⟨a2, len2, cap2, rfl⟩ := okWide_slice Try.underlying31 (hval 2 31 v2 rfl rfl)
  have k2 := h2
  have lt2 : ∀ x ∈ p2, x.block < W.heap.size := by obtain ⟨m, hm⟩ := k2; exact DataW.trod_lt m _ _ _ hm
  have hk' : Rows.uptoSmall H [d0, d1, d2] = true := hk
  have hb := bulk_bound hk'
  simp only [Rows.uptoBulkAll] at hb
  obtain ⟨z2, w2, c2, wf2⟩ : ∃ zs : List Int, ((a2 = none ∧ len2 = 0 ∧ cap2 = 0 ∧ zs = []) ∨ ∃ x, a2 = some x ∧ len2 ≤ cap2 ∧ cap2 ≤ maxLen ∧ zs.length = cap2 ∧ (∀ i, i < zs.length → W.cell? (x.add i) = some (.int .u16 (zs.getD i 0)))) ∧ cap2 ≤ 1048576 ∧ (∀ n ∈ zs, (Lit.int .u16 n).wf = true) := by
    obtain ⟨fuel, hf⟩ := h2
    rcases open_ints Try.underlying31 Try.underlying22 (by kernel_rfl) hf with ⟨hcs, _⟩ | ⟨x, l, c, zs, hcs, _, hl, hm, hz, hx, hcell, hwz⟩
    · simp [Value.cells] at hcs
      obtain ⟨rfl, rfl, rfl⟩ := hcs
      exact ⟨[], .inl ⟨rfl, rfl, rfl, rfl⟩, by omega, by simp⟩
    · simp [Value.cells] at hcs
      obtain ⟨rfl, rfl, rfl⟩ := hcs
      have hz' : zs.length = cap2 := by simpa using hz
      refine ⟨zs, .inr ⟨_, rfl, hl, hm, hz', hcell⟩, ?_, hwz⟩
      have hd : d2 = .slice (lits .u16 (zs.take len2)) (lits .u16 (zs.drop len2)) := by simp only [Prod.mk.injEq] at hx; exact hx.1
      rw [hd] at hb
      have h2 := bulk_slice (H := H) (lits .u16 (zs.take len2)) (lits .u16 (zs.drop len2))
      have e1 : (lits (H := H) .u16 (zs.take len2)).length = (zs.take len2).length := by simp [lits]
      have e2 : (lits (H := H) .u16 (zs.drop len2)).length = (zs.drop len2).length := by simp [lits]
      rw [e1, e2, List.length_take, List.length_drop] at h2
      omega
  have hlc2 : len2 ≤ cap2 := by rcases w2 with ⟨_, h, h', _⟩ | ⟨_, _, h, _⟩ <;> omega
  have hzc2 : z2.length = cap2 := w2.elim (fun ⟨_, _, h, h'⟩ => by rw [h', h]; rfl) (fun ⟨_, _, _, _, h, _⟩ => h)
  have hle2 : (z2.take len2).length = len2 := by rw [List.length_take]; omega
  have hrd2 : ReadsU W a2 (z2.take len2) := by
    intro i hi
    rw [hle2] at hi
    rcases w2 with ⟨_, h, _⟩ | ⟨x, h1, h2, h3, h4, h5⟩
    · omega
    · obtain ⟨b, off, rfl, hc⟩ := ints_at h5 (by omega)
      refine ⟨b, off, h1, (hc i (by omega)).trans ?_⟩
      simp [uA, List.getD, hi]
  have hfi2 : Fits (z2.take len2) := by
    intro x hx
    exact wf_u16 (wf2 x (List.mem_of_mem_take hx))
  clear hA0
  have hwk := walk a0 a1 a2 (z2.take len2) cap2 W x0.1 x0.2 x1.1 x1.2 hrd2 hfi2 (by rw [hle2]; omega) c2
  rw [hle2] at hwk
  subst hd0
  subst hd1
  refine hwk.mono fun e W' ⟨he, bel⟩ => ?_
  subst he
  exact ⟨_, rfl, _, _, _, [], _, [], hW', trodAll_mk1 (shut_bool Try.underlying4 _), (trodAll_cons_mk (shut_int Try.underlying56 w0) (trodAll_cons_mk (shut_int Try.underlying56 w1) (trodAll_cons_mk (Below.trod laidOut (by kernel_rfl) (of_decide_eq_true (by kernel_rfl)) k2 bel lt2) trodAll_mk0))), rfl, bel.frame _, fun h => by cases h⟩

set_option maxRecDepth 100000 in
theorem lifted (os : Os) (started : os.Started) (H : Type) (enc : TypeId × Value → H) (F : Stop.Interp) :
    ReturnsInHanded {} Try.checked os 11 .any ((Rows.OpenSpec.upto Rows.wideSentSpec).pre6 enc Try.prog Try.f11 Rows.wideSentUptoRow.domain false) (((Rows.OpenSpec.upto Rows.wideSentSpec).at F).post enc Try.prog Try.f11 false true false false) := by
  refine returnsInHanded_of_cond (C := Try.checked) (s := Rows.OpenSpec.upto Rows.wideSentSpec) (k := Rows.uptoSmall) rfl own started (by kernel_rfl) Try.func11
    (OpenSpec.witness (enc := enc) (C := Try.checked) (s := Rows.OpenSpec.upto Rows.wideSentSpec) (k := Rows.uptoSmall) rfl false ⟨#[], #[.int .u8 0, .int .u8 0, .slice none 0 0], []⟩ 8 (by kernel_rfl) (by kernel_rfl) (by kernel_rfl)
      (x := ([.lit (.int .u8 0), .lit (.int .u8 0), .nil], [], [])) (by kernel_rfl) rfl (by kernel_rfl)) ?_
  intro W base args ds gs before hval hW _ hk _
  exact contract H enc W base args ds gs before hval hW hk

theorem over : Rows.wideSentUptoRow.holds Try.pinned (Rows.OpenSpec.upto Rows.wideSentSpec) :=
  OpenClaim.holds_of_cond 11 Try.f11 rfl rfl rfl rfl rfl rfl rfl ⟨rfl, rfl, rfl, rfl, rfl⟩ rfl rfl rfl rfl rfl (by kernel_rfl) Try.func11 (by kernel_rfl)
    (of_decide_eq_true (by kernel_rfl)) (by unfold Func.isWrapper; first | (rw [if_pos (by decide +kernel)]; kernel_rfl) | (rw [if_neg (by decide +kernel)]; exact ⟨rfl, rfl⟩))
    (fun os started H enc _ F => lifted os started H enc F)

end Go.Proofs.Ytghcheoholkpbaa.wideSent
namespace Go.Proofs.Ytghcheoholkpbaa
theorem wideSent_upto : Rows.WideSentUptoSaid := wideSent.over
end Go.Proofs.Ytghcheoholkpbaa

