/-
  WideFrom: FromRunes of every runes and FromText of every bytes are the document's, and new memory: for arguments of at most 1048576 values and letters in all.
-/
import Derived.Test.YtghcheoholkpbaaWLent
import Derived.Test.YtghcheoholkpbaaRefRunes
import Derived.Test.YtghcheoholkpbaaBulk
import Derived.ProofKit
import Derived.OpenShut
import Derived.ShutString
import Derived.ChangeOld
import Derived.JoinedCond
namespace Go.Proofs.Ytghcheoholkpbaa
open Go.RowKit Go.PlainAid Go.Lib
theorem sameRunes_yes (a b : Option Addr) (ca cb : Nat) (zs : List Int) (w : World) (ha : Reads w a zs) (hb : Reads w b zs) (hn : zs.length ≤ 1099511627776) :
    Calls Try.prog 24 #[.slice a zs.length ca, .slice b zs.length cb] w fun e w' => e = .returned (.bool true) ∧ Below w.heap.size w w' := by
  have HS := hide (same_yes a b ca cb zs w ha hb hn)
  go_enter Try.func24, Try.ntmps24
  go_wp2_with fail
  refine (unhide HS).mono ?_
  rintro e w1 ⟨rfl, hb1⟩
  go_wp2
  go_ret
  exact ⟨rfl, hb1⟩
theorem runeInts_nums (s : ByteArray) : runeInts s = nums s 0 := by unfold runeInts nums; rfl
end Go.Proofs.Ytghcheoholkpbaa
namespace Go.Proofs.Ytghcheoholkpbaa.wideFrom
open Go.ChangeShapes Go.WideShapes Go.ChangeAt Go.RowKit Go.PlainAid Go.Lib
open Go.ChangeMaps (open_string shut_string)
set_option linter.unusedVariables false

set_option maxRecDepth 100000 in
set_option maxHeartbeats 4000000 in
theorem walk (a : Option Addr) (zs : List Int) (cap : Nat) (s : ByteArray) (w : World) (hrd : Reads w a zs) (hc : zs.length ≤ cap) (hc2 : cap ≤ 1048576) (hs : s.size ≤ 1048576) :
    Calls Try.prog 4 #[.slice a zs.length cap, .string s] w fun e w' => e = .returned (.bool true) ∧ Below w.heap.size w w' := by
  obtain ⟨i0, hi, hz0, hz1, hz2⟩ := info_parts infoRune
  obtain ⟨v1, w1, hap, hown1, hgrow1, _⟩ := appI w w.heap.size (.slice none 0 0) 0 [] zs a cap (World.ownsRow_nil _ _ _ _) hrd (by omega) (Nat.le_refl _)
  have hB1 : Below w.heap.size w w1 := (Below.refl _ _).grown hgrow1 (Nat.le_refl _) (fun k e => by simp [Value.ownBlock] at e)
  rw [Nat.zero_add, List.nil_append] at hown1
  obtain ⟨a1, c1, rfl⟩ := row_is hown1
  have hle1 := hB1.size
  have HAP := hide hap
  have HRD := hide hrd
  have HF1 := hide (fun (w : World) (x : Option Addr) (c : Nat) (h : Reads w x zs) => fromRunes_any x c zs w h (by omega))
  have HF2 := hide (fun (w : World) (h : Reads w a zs) => rFromRunes_any a cap zs w h (by omega))
  have HSU := hide (fun (w : World) (x y : Option Addr) (c c' : Nat) (us : List Int) (h : ReadsU w x us) (h' : ReadsU w y us) (hn : us.length ≤ 1099511627776) => rSame_yes x y c c' us w h h' hn)
  have HSR := hide (fun (w : World) (x : Option Addr) (c : Nat) (h : Reads w x zs) (h' : Reads w a zs) => sameRunes_yes x a c cap zs w h h' (by omega))
  have HM : Hid (∀ (w' : World) (g c : Nat), w'.ownsRow w.heap.size 21 1 (.slice (some ⟨g, 0, none⟩) (zs.length + 2) c) (zs.length + 2) (i32l zs ++ [.int .i32 (-7), .int .i32 (-8)]) → Reads w' (some ⟨g, 0, none⟩) zs ∧ w'.cell? ⟨g, zs.length, none⟩ = some (.int .i32 (-7)) ∧ w'.cell? ⟨g, zs.length + 1, none⟩ = some (.int .i32 (-8)) ∧ g < w'.heap.size ∧ zs.length + 2 ≤ c ∧ c ≤ maxLen) := by
    intro w' g c h
    have h0 := h.cellAt zs.length (by omega)
    have h1 := h.cellAt (zs.length + 1) (by omega)
    have h' : w'.ownsRow w.heap.size 21 1 (.slice (some ⟨g, 0, none⟩) (zs.length + 2) c) (zs.length + 2) ((zs ++ [-7, -8]).map (Value.int .i32)) := by simpa using h
    have hcp := row_caps h
    exact ⟨(reads_own h').front, h0.trans (by simp), h1.trans (by simp), (h.lt g rfl).2, hcp.1, hcp.2⟩
  have hul := units_len zs
  have hUL : (units zs).length ≤ 1099511627776 := by omega
  have hnl : (nums s 0).length ≤ s.size := by have := chars_length s 0; simp; omega
  have hul2 := units_len (nums s 0)
  have hUL2 : (units (nums s 0)).length ≤ 1099511627776 := by omega
  generalize hn : zs.length = n at *
  have HN := hide hn
  clear hn hgrow1 hrd hap
  go_enter Try.func4, Try.ntmps4
  go_wp2_with (first
    | (at_builtin; refine wpList_append_run w rfl _ _ 30 rfl _ _ rfl rfl _ _ (unhide HAP) ?_)
    | (at_builtin; refine wpList_append_own_at _ rfl _ _ 30 rfl w.heap.size 21 i0 (.int .i32 0) 1 4 Try.underlying30 hi hz0 hz1 hz2 rfl (by decide) _ _ _ rfl (hown1.alloc _) ⟨w1.heap.size, 0, none⟩ 2 2 [.int .i32 (-7), .int .i32 (-8)] rfl rfl (cell_two_new _ _ _ _) (by simp [Value.oneCell']) (by unfold maxLen; omega) (by omega) (by simp; omega) ?_; intro v2 w2 hown2 hgrow2 _ _; obtain ⟨g2, cap2, rfl⟩ := ownsRow_succ hown2; have hB2 : Below w.heap.size w w2 := belowGrown (hB1.alloc hle1 _) (by simp; omega) (hown1.alloc _) hgrow2; obtain ⟨rF, cF1, cF2, gF, hcp, hcm⟩ := unhide HM _ _ _ hown2; have HRF := hide rF; have HC1 := hide cF1; have HC2 := hide cF2; unfold maxLen at hcm; clear rF cF1 cF2 hown2 hgrow2 hown1))
  have hle2 := hB2.size
  refine (unhide HF1 _ _ _ (unhide HRF)).mono ?_
  rintro e w3 ⟨v3, rfl, hrow3, hb3⟩
  obtain ⟨a3, c3, rfl⟩ := row_is hrow3
  have hB3 : Below w.heap.size w w3 := hB2.trans (hb3.mono hB2.size)
  have HR3 := hide hrow3
  have L3 := hide (fun g e => (hrow3.lt g e).2)
  clear hrow3
  go_wp2_with fail
  refine (unhide HF1 _ _ _ ((unhide HRD).below hB3)).mono ?_
  rintro e w4 ⟨v4, rfl, hrow4, hb4⟩
  obtain ⟨a4, c4, rfl⟩ := row_is hrow4
  have hB4 : Below w.heap.size w w4 := hB3.trans (hb4.mono hB3.size)
  have HR4 := hide hrow4
  clear hrow4
  go_wp2_with fail
  refine (unhide HF2 _ ((unhide HRD).below hB4)).mono ?_
  rintro e w5 ⟨v5, rfl, hrow5, hb5⟩
  obtain ⟨a5, c5, rfl⟩ := row_is hrow5
  have hB5 : Below w.heap.size w w5 := hB4.trans (hb5.mono hB4.size)
  have hb45 : Below w3.heap.size w3 w5 := hb4.trans (hb5.mono hb4.size)
  have HR35 := hide (rowBelow (unhide HR3) hb45)
  have HR45 := hide (rowBelow (unhide HR4) hb5)
  have HR5 := hide hrow5
  have HC15 : Hid (w5.cell? ⟨g2, n, none⟩ = some (.int .i32 (-7))) := hide (((hb3.trans (hb45.mono hb3.size)).cell (p := ⟨g2, n, none⟩) gF).trans (unhide HC1))
  have HC25 : Hid (w5.cell? ⟨g2, n + 1, none⟩ = some (.int .i32 (-8))) := hide (((hb3.trans (hb45.mono hb3.size)).cell (p := ⟨g2, n + 1, none⟩) gF).trans (unhide HC2))
  have HRF5 := hide ((unhide HRF).below (hb3.trans (hb45.mono hb3.size)))
  have hgz5 : g2 < w5.heap.size := by have := hb3.size; have := hb4.size; have := hb5.size; omega
  have hz23 := hb3.size
  have hz34 := hb4.size
  have hz45 := hb5.size
  clear hrow5 hb3 hb4 hb5 hb45 HC1 HC2 HRF HR3 HR4 hB4 hB3 hB2
  go_wp2_with fail
  refine (unhide HSU _ _ _ _ _ _ (readsU_own (unhide HR35)) (readsU_own (unhide HR5)) hUL).mono ?_
  rintro e w6 ⟨rfl, hb6⟩
  go_wp2_with fail
  refine (unhide HSU _ _ _ _ _ _ ((readsU_own (unhide HR45)).below hb6) ((readsU_own (unhide HR5)).below hb6) hUL).mono ?_
  rintro e w7 ⟨rfl, hb7⟩
  have hb57 : Below w5.heap.size w5 w7 := hb6.trans (hb7.mono hb6.size)
  clear hb6 hb7
  go_wp2_with fail
  refine (unhide HSR _ _ _ ((unhide HRF5).below hb57) ((unhide HRD).below (hB5.trans (hb57.mono hB5.size)))).mono ?_
  rintro e w8 ⟨rfl, hb8⟩
  have hb58 : Below w5.heap.size w5 w8 := hb57.trans (hb8.mono hb57.size)
  have k1 := (hb58.cell (p := ⟨g2, n, none⟩) hgz5).trans (unhide HC15)
  have k2 := (hb58.cell (p := ⟨g2, n + 1, none⟩) hgz5).trans (unhide HC25)
  have hB8 : Below w.heap.size w w8 := hB5.trans (hb58.mono hB5.size)
  have HR38 := hide (rowBelow (unhide HR35) hb58)
  have HR48 := hide (rowBelow (unhide HR45) hb58)
  have HR58 := hide (rowBelow (unhide HR5) hb58)
  have hz58 := hb58.size
  clear hb8 hb57 hb58 HC15 HC25 HRF5 HR35 HR45 HR5 hB5 HF1
  go_wp2_with fail
  refine (fromText_any s _ (by omega)).mono ?_
  rintro e w9 ⟨v9, rfl, hrow9, hb9⟩
  obtain ⟨a9, c9, rfl⟩ := row_is hrow9
  have HR9 := hide hrow9
  have L9 := hide (fun g e => (hrow9.lt g e).2)
  clear hrow9 k1 k2
  go_wp2_with fail
  refine (fromText_any s _ (by omega)).mono ?_
  rintro e w10 ⟨v10, rfl, hrow10, hb10⟩
  obtain ⟨a10, c10, rfl⟩ := row_is hrow10
  have HR10 := hide hrow10
  clear hrow10
  go_wp2_with fail
  refine (refRunes_any s _ (by omega)).mono ?_
  rintro e w11 ⟨v11, rfl, hrow11, hb11⟩
  rw [runeInts_nums] at hrow11
  obtain ⟨a11, c11, rfl⟩ := row_is hrow11
  have HF3 := hide (fun (w : World) (h : Reads w a11 (nums s 0)) => rFromRunes_any a11 c11 (nums s 0) w h (by omega))
  have hcl : (nums s 0).length = (chars s 0).length := List.length_map _
  rw [hcl] at HF3
  have HQ11 := hide (reads_own hrow11)
  clear hrow11
  go_wp2_with fail
  refine (unhide HF3 _ (unhide HQ11)).mono ?_
  rintro e w12 ⟨v12, rfl, hrow12, hb12⟩
  obtain ⟨a12, c12, rfl⟩ := row_is hrow12
  have h910 := hb9.size
  have h1011 := hb10.size
  have h1112 := hb11.size
  have h1213 := hb12.size
  have hbA : Below w10.heap.size w10 w12 := hb11.trans (hb12.mono hb11.size)
  have hbB : Below w9.heap.size w9 w12 := hb10.trans (hbA.mono hb10.size)
  have hbC : Below w8.heap.size w8 w12 := hb9.trans (hbB.mono hb9.size)
  have HR3c := hide (rowBelow (unhide HR38) hbC)
  have HR4c := hide (rowBelow (unhide HR48) hbC)
  have HR5c := hide (rowBelow (unhide HR58) hbC)
  have HR9c := hide (rowBelow (unhide HR9) hbB)
  have HR10c := hide (rowBelow (unhide HR10) hbA)
  have HR12 := hide hrow12
  have hB12 : Below w.heap.size w w12 := hB8.trans (hbC.mono hB8.size)
  clear hb9 hb10 hb11 hb12 hbA hbB hbC HR38 HR48 HR58 HR9 HR10 hrow12 HF3 HQ11 hB8
  go_wp2_with fail
  refine (unhide HSU _ _ _ _ _ _ (readsU_own (unhide HR9c)) (readsU_own (unhide HR12)) hUL2).mono ?_
  rintro e w13 ⟨rfl, hb13⟩
  have hB13 : Below w.heap.size w w13 := hB12.trans (hb13.mono hB12.size)
  have q3 := rowBelow (unhide HR3c) hb13
  have q4 := rowBelow (unhide HR4c) hb13
  have q5 := rowBelow (unhide HR5c) hb13
  have q9 := rowBelow (unhide HR9c) hb13
  have q10 := rowBelow (unhide HR10c) hb13
  have q12 := rowBelow (unhide HR12) hb13
  have hz13 := hb13.size
  clear hb13 HR3c HR4c HR5c HR9c HR10c HR12 hB12
  have hap1 := hide (apart_any w13 w2.heap.size _ _ (units zs) a4 a5 c4 c5 (units zs) q3 rfl hUL (by omega) (readsU_own q4) (readsU_own q5) (away_rows q4 (unhide L3)) (away_rows q5 (fun g e => by have := unhide L3 g e; omega)))
  have K9 := hide (fun W (hg : w13.grownBy W (Value.slice a3 (units zs).length c3).ownBlock) => q9.kept hg (rows_ne q9 (fun g e => by have := unhide L3 g e; omega)))
  have K10 := hide (fun W (hg : w13.grownBy W (Value.slice a3 (units zs).length c3).ownBlock) => q10.kept hg (rows_ne q10 (fun g e => by have := unhide L3 g e; omega)))
  have K12 := hide (fun W (hg : w13.grownBy W (Value.slice a3 (units zs).length c3).ownBlock) => q12.kept hg (rows_ne q12 (fun g e => by have := unhide L3 g e; omega)))
  clear q3 q4 q5 q9 q10 q12
  go_wp2_with fail
  refine (unhide hap1).mono ?_
  rintro e w14 ⟨rfl, hb14, hg14⟩
  have q9 := unhide K9 _ hg14
  have q10 := unhide K10 _ hg14
  have q12 := unhide K12 _ hg14
  have hz14 := hg14.size
  have hB14 : Below w.heap.size w w14 := hB13.trans (hb14.mono (by omega))
  clear hap1 K9 K10 K12 hb14 hg14 hB13
  have hap2 := hide (apart_any w14 w8.heap.size _ _ (units (nums s 0)) a10 a12 c10 c12 (units (nums s 0)) q9 rfl hUL2 (by omega) (readsU_own q10) (readsU_own q12) (away_rows q10 (unhide L9)) (away_rows q12 (fun g e => by have := unhide L9 g e; omega)))
  clear q9 q10 q12
  go_wp2_with fail
  refine (unhide hap2).mono ?_
  rintro e w15 ⟨rfl, hb15, hg15⟩
  have hB15 : Below w.heap.size w w15 := hB14.trans (hb15.mono (by omega))
  clear hap2 hb15 hg15 hB14
  go_wp2_with fail
  refine (awake_any _).mono ?_
  rintro e w16 ⟨rfl, hb16⟩
  go_wp2
  go_ret
  exact ⟨rfl, hB15.trans (hb16.mono hB15.size)⟩

theorem own : ownKnob Try.prog.godebug = none := by kernel_rfl
theorem laidOut : laidOutB Try.prog = true := by kernel_rfl

set_option maxRecDepth 100000 in
theorem contract (H : Type) (enc : TypeId × Value → H) (W : World) (base : Nat) (args : Array Value) (ds gs : List (DataW H)) (before : List MemPlace)
    (hval : ∀ (j : Nat) t v, Try.f4.params[j]? = some t → args[j]? = some v → Value.okWide Try.prog W .any base t v)
    (hW : DataW.Whole enc Try.prog Try.f4.params.toList Rows.wideFromSpec.vars false W args.toList ds gs before) (hk : Rows.uptoSmall H (ds ++ gs) = true) :
    Calls Try.prog 4 args W fun e W' => ∃ v, e = .returned v ∧ Rows.wideFromSpec.post enc Try.prog Try.f4 false true false false W args v W' := by
  have hW' := hW
  obtain ⟨p, q, hA0, hV, rfl, hfz, hnd⟩ := hW
  have hA : DataW.TrodAll enc Try.prog W 0 (fun _ => true) true Try.f4.params.toList args.toList ds p := hA0
  rw [Try.params4] at hA hval
  obtain ⟨v0, vs0, d0, ds0, p0, q0, hargs, rfl, rfl, h0, r0⟩ := trodAll_cons hA
  obtain ⟨v1, vs1, d1, ds1, p1, q1, rfl, rfl, rfl, h1, r1⟩ := trodAll_cons r0
  obtain ⟨rfl, rfl, rfl⟩ := trodAll_nil r1
  obtain rfl : args = #[v0, v1] := by cases args; simp_all
  obtain ⟨rfl, rfl⟩ := trodVars_none hV
  obtain ⟨a0, len0, cap0, rfl⟩ := okWide_slice Try.underlying30 (hval 0 30 v0 rfl rfl)
  have k0 := h0
  have lt0 : ∀ x ∈ p0, x.block < W.heap.size := by obtain ⟨m, hm⟩ := k0; exact DataW.trod_lt m _ _ _ hm
  obtain ⟨a1, rfl, rfl, rfl, w1⟩ := open_string Try.underlying9 (hval 1 9 v1 rfl rfl) h1
  have hk' : Rows.uptoSmall H [d0, .lit (.string a1.data.toList)] = true := hk
  have hb := bulk_bound hk'
  simp only [Rows.uptoBulkAll] at hb
  rw [bulk_string a1] at hb
  have c1 : a1.size ≤ 1048576 := by omega
  obtain ⟨z0, w0, c0, wf0⟩ : ∃ zs : List Int, ((a0 = none ∧ len0 = 0 ∧ cap0 = 0 ∧ zs = []) ∨ ∃ x, a0 = some x ∧ len0 ≤ cap0 ∧ cap0 ≤ maxLen ∧ zs.length = cap0 ∧ (∀ i, i < zs.length → W.cell? (x.add i) = some (.int .i32 (zs.getD i 0)))) ∧ cap0 ≤ 1048576 ∧ (∀ n ∈ zs, (Lit.int .i32 n).wf = true) := by
    obtain ⟨fuel, hf⟩ := h0
    rcases open_ints Try.underlying30 Try.underlying21 (by kernel_rfl) hf with ⟨hcs, _⟩ | ⟨x, l, c, zs, hcs, _, hl, hm, hz, hx, hcell, hwz⟩
    · simp [Value.cells] at hcs
      obtain ⟨rfl, rfl, rfl⟩ := hcs
      exact ⟨[], .inl ⟨rfl, rfl, rfl, rfl⟩, by omega, by simp⟩
    · simp [Value.cells] at hcs
      obtain ⟨rfl, rfl, rfl⟩ := hcs
      have hz' : zs.length = cap0 := by simpa using hz
      refine ⟨zs, .inr ⟨_, rfl, hl, hm, hz', hcell⟩, ?_, hwz⟩
      have hd : d0 = .slice (lits .i32 (zs.take len0)) (lits .i32 (zs.drop len0)) := by simp only [Prod.mk.injEq] at hx; exact hx.1
      rw [hd] at hb
      have h2 := bulk_slice (H := H) (lits .i32 (zs.take len0)) (lits .i32 (zs.drop len0))
      have e1 : (lits (H := H) .i32 (zs.take len0)).length = (zs.take len0).length := by simp [lits]
      have e2 : (lits (H := H) .i32 (zs.drop len0)).length = (zs.drop len0).length := by simp [lits]
      rw [e1, e2, List.length_take, List.length_drop] at h2
      omega
  have hlc0 : len0 ≤ cap0 := by rcases w0 with ⟨_, h, h', _⟩ | ⟨_, _, h, _⟩ <;> omega
  have hzc0 : z0.length = cap0 := w0.elim (fun ⟨_, _, h, h'⟩ => by rw [h', h]; rfl) (fun ⟨_, _, _, _, h, _⟩ => h)
  have hle0 : (z0.take len0).length = len0 := by rw [List.length_take]; omega
  have hrd0 : Reads W a0 (z0.take len0) := by
    intro i hi
    rw [hle0] at hi
    rcases w0 with ⟨_, h, _⟩ | ⟨x, h1, h2, h3, h4, h5⟩
    · omega
    · obtain ⟨b, off, rfl, hc⟩ := ints_at h5 (by omega)
      refine ⟨b, off, h1, (hc i (by omega)).trans ?_⟩
      simp [List.getD, hi]
  clear hA0
  have hwk := walk a0 (z0.take len0) cap0 a1 W hrd0 (by rw [hle0]; omega) c0 c1
  rw [hle0] at hwk
  refine hwk.mono fun e W' ⟨he, bel⟩ => ?_
  subst he
  exact ⟨_, rfl, _, _, _, [], _, [], hW', trodAll_mk1 (shut_bool Try.underlying4 _), (trodAll_cons_mk (Below.trod laidOut (by kernel_rfl) (of_decide_eq_true (by kernel_rfl)) k0 bel lt0) (trodAll_cons_mk (shut_string Try.underlying9 w1) trodAll_mk0)), rfl, bel.frame _, fun h => by cases h⟩

set_option maxRecDepth 100000 in
theorem lifted (os : Os) (started : os.Started) (H : Type) (enc : TypeId × Value → H) (F : Stop.Interp) :
    ReturnsInHanded {} Try.checked os 4 .any ((Rows.OpenSpec.upto Rows.wideFromSpec).pre6 enc Try.prog Try.f4 Rows.wideFromUptoRow.domain false) (((Rows.OpenSpec.upto Rows.wideFromSpec).at F).post enc Try.prog Try.f4 false true false false) := by
  refine returnsInHanded_of_cond (C := Try.checked) (s := Rows.OpenSpec.upto Rows.wideFromSpec) (k := Rows.uptoSmall) rfl own started (by kernel_rfl) Try.func4
    (OpenSpec.witness (enc := enc) (C := Try.checked) (s := Rows.OpenSpec.upto Rows.wideFromSpec) (k := Rows.uptoSmall) rfl false ⟨#[], #[.slice none 0 0, .string ByteArray.empty], []⟩ 8 (by kernel_rfl) (by kernel_rfl) (by kernel_rfl)
      (x := ([.nil, .lit (.string [])], [], [])) (by kernel_rfl) rfl (by kernel_rfl)) ?_
  intro W base args ds gs before hval hW _ hk _
  exact contract H enc W base args ds gs before hval hW hk

theorem over : Rows.wideFromUptoRow.holds Try.pinned (Rows.OpenSpec.upto Rows.wideFromSpec) :=
  OpenClaim.holds_of_cond 4 Try.f4 rfl rfl rfl rfl rfl rfl rfl ⟨rfl, rfl, rfl, rfl, rfl⟩ rfl rfl rfl rfl rfl (by kernel_rfl) Try.func4 (by kernel_rfl)
    (of_decide_eq_true (by kernel_rfl)) (by unfold Func.isWrapper; first | (rw [if_pos (by decide +kernel)]; kernel_rfl) | (rw [if_neg (by decide +kernel)]; exact ⟨rfl, rfl⟩))
    (fun os started H enc _ F => lifted os started H enc F)

end Go.Proofs.Ytghcheoholkpbaa.wideFrom
namespace Go.Proofs.Ytghcheoholkpbaa
theorem wideFrom_upto : Rows.WideFromUptoSaid := wideFrom.over
end Go.Proofs.Ytghcheoholkpbaa

