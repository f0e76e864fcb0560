/-
  WideBytes: Lay and Read of every order, units and bytes are the document's, and new memory: for arguments of at most 1048576 values and letters in all.
-/
import Derived.Test.YtghcheoholkpbaaWRefE
import Derived.Test.YtghcheoholkpbaaBulk
import Derived.ProofKit
import Derived.OpenShut
import Derived.ShutString
import Derived.ChangeOld
import Derived.JoinedCond
namespace Go.Proofs.Ytghcheoholkpbaa
open Go.RowKit Go.PlainAid Go.Lib
set_option linter.unusedVariables false
def layS (o : Int) (mark : Bool) (us : List Int) : ByteArray := if o = 0 ∨ o = 1 then ⟨(layU o mark us).toArray⟩ else ⟨#[]⟩
def layE (o : Int) : Int := if o = 0 ∨ o = 1 then 0 else 2
theorem lay_all (a : Option Addr) (cap : Nat) (us : List Int) (o : Int) (mark : Bool) (w : World) (ho : 0 ≤ o) (hf : Fits us) (h : ReadsU w a us) (hc : us.length ≤ 1099511627776) :
    Calls Try.prog 44 #[.int .u8 o, .bool mark, .slice a us.length cap] w fun e w' => e = .returned (.tuple #[.string (layS o mark us), .int .i64 (layE o)]) ∧ Below w.heap.size w w' := by
  unfold layS layE
  by_cases h' : o = 0 ∨ o = 1
  · rw [if_pos h', if_pos h']; exact lay_any a cap us o mark w h' hf h hc
  · rw [if_neg h', if_neg h']
    refine (lay_bad _ o mark w h').mono ?_
    rintro e w' ⟨rfl, rfl⟩
    exact ⟨rfl, Below.refl _ _⟩
theorem rLay_all (a : Option Addr) (cap : Nat) (us : List Int) (o : Int) (mark : Bool) (w : World) (ho : 0 ≤ o) (hf : Fits us) (h : ReadsU w a us) (hc : us.length ≤ 1099511627776) :
    Calls Try.prog 45 #[.int .u8 o, .bool mark, .slice a us.length cap] w fun e w' => e = .returned (.tuple #[.string (layS o mark us), .int .i64 (layE o)]) ∧ Below w.heap.size w w' := by
  unfold layS layE
  by_cases h' : o = 0 ∨ o = 1
  · rw [if_pos h', if_pos h']; exact rLay_any a cap us o mark w h' hf h hc
  · rw [if_neg h', if_neg h']
    refine (rLay_bad _ o mark w (by omega)).mono ?_
    rintro e w' ⟨rfl, rfl⟩
    exact ⟨rfl, Below.refl _ _⟩
def rdO (o : Int) (s : ByteArray) : Int := if (o = 0 ∨ o = 1) ∧ s.size % 2 = 0 then ordR o s else 0
def rdE (o : Int) (s : ByteArray) : Int := if o = 0 ∨ o = 1 then (if s.size % 2 = 0 then 0 else 22) else 2
def rdL (o : Int) (s : ByteArray) : List Int := if (o = 0 ∨ o = 1) ∧ s.size % 2 = 0 then rdU (ordR o s) (restR s) else []
theorem read_all (o : Int) (s : ByteArray) (w : World) (ho : 0 ≤ o) (hs : s.size ≤ 1099511627776) :
    Calls Try.prog 46 #[.int .u8 o, .string s] w fun e w' => ∃ v, e = .returned (.tuple #[v, .int .u8 (rdO o s), .int .i64 (rdE o s)]) ∧ w'.ownsRow w.heap.size 22 1 v (rdL o s).length (u16s (rdL o s)) ∧ Below w.heap.size w w' := by
  unfold rdO rdE rdL
  by_cases h' : o = 0 ∨ o = 1
  · by_cases h2 : s.size % 2 = 0
    · rw [if_pos ⟨h', h2⟩, if_pos h', if_pos h2, if_pos ⟨h', h2⟩]; exact read_any o s w h' hs h2
    · rw [if_neg (fun h => h2 h.2), if_pos h', if_neg h2, if_neg (fun h => h2 h.2)]
      refine (read_odd o s w h' (by unfold maxLen; omega) h2).mono ?_
      rintro e w' ⟨rfl, rfl⟩
      exact ⟨_, rfl, World.ownsRow_nil _ _ _ _, Below.refl _ _⟩
  · rw [if_neg (fun h => h' h.1), if_neg h', if_neg (fun h => h' h.1)]
    refine (read_bad o s w h').mono ?_
    rintro e w' ⟨rfl, rfl⟩
    exact ⟨_, rfl, World.ownsRow_nil _ _ _ _, Below.refl _ _⟩
theorem rRead_all (o : Int) (s : ByteArray) (w : World) (ho : 0 ≤ o) (hs : s.size ≤ 1099511627776) :
    Calls Try.prog 47 #[.int .u8 o, .string s] w fun e w' => ∃ v, e = .returned (.tuple #[v, .int .u8 (rdO o s), .int .i64 (rdE o s)]) ∧ w'.ownsRow w.heap.size 22 1 v (rdL o s).length (u16s (rdL o s)) ∧ Below w.heap.size w w' := by
  unfold rdO rdE rdL
  by_cases h' : o = 0 ∨ o = 1
  · by_cases h2 : s.size % 2 = 0
    · rw [if_pos ⟨h', h2⟩, if_pos h', if_pos h2, if_pos ⟨h', h2⟩]; exact rRead_any o s w h' hs h2
    · rw [if_neg (fun h => h2 h.2), if_pos h', if_neg h2, if_neg (fun h => h2 h.2)]
      refine (rRead_odd o s w h' (by unfold maxLen; omega) h2).mono ?_
      rintro e w' ⟨rfl, rfl⟩
      exact ⟨_, rfl, World.ownsRow_nil _ _ _ _, Below.refl _ _⟩
  · rw [if_neg (fun h => h' h.1), if_neg h', if_neg (fun h => h' h.1)]
    refine (rRead_bad o s w (by omega)).mono ?_
    rintro e w' ⟨rfl, rfl⟩
    exact ⟨_, rfl, World.ownsRow_nil _ _ _ _, Below.refl _ _⟩
theorem rdL_len (o : Int) (s : ByteArray) : (rdL o s).length ≤ s.size := by
  unfold rdL
  split
  · unfold rdU; rw [rdK_len]; have := (rest_size s).1; omega
  · simp
end Go.Proofs.Ytghcheoholkpbaa
namespace Go.Proofs.Ytghcheoholkpbaa.wideBytes
open Go.ChangeShapes Go.WideShapes Go.ChangeAt Go.RowKit Go.PlainAid Go.Lib
open Go.ChangeMaps (open_string shut_string)
set_option linter.unusedVariables false

set_option maxRecDepth 100000 in
set_option maxHeartbeats 4000000 in
theorem walk (o : Int) (a : Option Addr) (us : List Int) (cap : Nat) (s : ByteArray) (w : World) (ho : 0 ≤ o) (_ : o ≤ 255) (hrd : ReadsU w a us) (hf : Fits us) (hc : us.length ≤ cap) (hc2 : cap ≤ 1048576) (hs : s.size ≤ 1048576) :
    Calls Try.prog 7 #[.int .u8 o, .slice a us.length cap, .string s] w fun e w' => e = .returned (.bool true) ∧ Below w.heap.size w w' := by
  have HLN := hide (lent_any w a cap us hrd (by omega))
  have HL1 := hide (fun (w : World) (g c : Nat) (m : Bool) (h : ReadsU w (some ⟨g, 0, none⟩) us) => lay_all (some ⟨g, 0, none⟩) c us o m w ho hf h (by omega))
  have HL2 := hide (fun (w : World) (m : Bool) (h : ReadsU w a us) => rLay_all a cap us o m w ho hf h (by omega))
  have HKP := hide (fun (w : World) (B g c : Nat) (hl : Lent w B g c us) (h : ReadsU w a us) => kept_any w B g c a cap us hl h (by omega))
  have HR1 := hide (fun (w : World) => read_all o s w ho (by omega))
  have HR2 := hide (fun (w : World) => rRead_all o s w ho (by omega))
  have hdl := rdL_len o s
  have HSM := hide (fun (w : World) (x y : Option Addr) (c c' : Nat) (h : ReadsU w x (rdL o s)) (h' : ReadsU w y (rdL o s)) => rSame_yes x y c c' (rdL o s) w h h' (by omega))
  have hRL : (rdL o s).length ≤ 1099511627776 := by omega
  have HRD := hide hrd
  have qE : (layE o != layE o) = false := by simp
  have qO : (rdO o s == rdO o s) = true := by simp
  have qF : (rdE o s == rdE o s) = true := by simp
  have qS : ∀ m, ((layS o m us).toList != (layS o m us).toList) = false := by intro m; simp
  clear hrd hf
  generalize hn : us.length = n at *
  have HN := hide hn
  clear hn
  go_enter Try.func7, Try.ntmps7
  go_wp2_with fail
  refine (unhide HLN).mono ?_
  rintro e w1 ⟨g, cl, rfl, hl1, hb1⟩
  have HLE := hide hl1
  clear hl1 HLN
  go_wp2
  go_loopw [27] (fun v27 wr => ∃ k : Nat, k ≤ 2 ∧ v27 = .int .i64 k ∧ Lent wr w.heap.size g cl us ∧ wr.heap[w1.heap.size]? = some (.cells #[.bool false, .bool true] 4) ∧ Below w.heap.size w wr ∧ w1.heap.size < wr.heap.size) (fun v27 _ => 2 - (intOf v27).toNat)
  case atStart => exact ⟨0, by omega, rfl, (unhide HLE).below (by go_grown), heap_alloc_new w1 _, hb1.alloc hb1.size _, by simp⟩
  case round =>
    clear hb1 HLE
    obtain ⟨k, hk, rfl, hle, hbl, hB, hz⟩ := hrel
    by_cases hlt : k < 2
    · obtain ⟨mk, hmk⟩ : ∃ mk : Bool, wr.cell? ⟨w1.heap.size, k, none⟩ = some (.bool mk) := by
        have : k = 0 ∨ k = 1 := by omega
        rcases this with rfl | rfl
        · exact ⟨false, by simp [World.cell?, hbl]⟩
        · exact ⟨true, by simp [World.cell?, hbl]⟩
      have H1 := hide (unhide HL1 wr g cl mk hle.reads)
      have H2 := hide (fun (w : World) (h : ReadsU w a us) => unhide HL2 w mk h)
      have HLE := hide hle
      have HBL := hide hbl
      clear hle hbl
      have qs := qS mk
      generalize layS o mk us = L at *
      go_wp2_with fail
      refine (unhide H1).mono ?_
      rintro e w2 ⟨rfl, hb2⟩
      go_wp2_with fail
      refine (unhide H2 _ ((unhide HRD).below (hB.trans (hb2.mono hB.size)))).mono ?_
      rintro e w3 ⟨rfl, hb3⟩
      have hb23 : Below wr.heap.size wr w3 := hb2.trans (hb3.mono hb2.size)
      have hB3 : Below w.heap.size w w3 := hB.trans (hb23.mono hB.size)
      have H3 := hide (unhide HKP _ _ _ _ ((unhide HLE).below hb23) ((unhide HRD).below hB3))
      clear hb2 hb3 H1 H2
      go_wp2_with fail
      refine (unhide H3).mono ?_
      rintro e w4 ⟨rfl, hb4⟩
      have hb24 : Below wr.heap.size wr w4 := hb23.trans (hb4.mono hb23.size)
      have hle4 := (unhide HLE).below hb24
      have hbl4 := (hb24.block w1.heap.size (by omega)).trans (unhide HBL)
      have hz4 := hb24.size
      clear hb23 hb4 H3
      go_wp2
      go_roundw
      case rel => exact ⟨k + 1, by omega, by go_num, hle4, hbl4, hB.trans (hb24.mono hB.size), by omega⟩
      case measure => simp [intOf]; omega
    · obtain rfl : k = 2 := by omega
      clear hle hbl hlt hk HL1 HL2 HKP
      go_wp2_with fail
      refine (unhide HR1 _).mono ?_
      rintro e w2 ⟨v2, rfl, hrow2, hb2⟩
      obtain ⟨a2, c2, rfl⟩ := row_is hrow2
      have hB2 : Below w.heap.size w w2 := hB.trans (hb2.mono hB.size)
      have L2 := hide (fun g e => (hrow2.lt g e).2)
      have Q2 := hide hrow2
      have z2 := hb2.size
      have zw := hB.size
      clear hrow2 hb2 hB
      go_wp2_with fail
      refine (unhide HR1 _).mono ?_
      rintro e w3 ⟨v3, rfl, hrow3, hb3⟩
      obtain ⟨a3, c3, rfl⟩ := row_is hrow3
      have hB3 : Below w.heap.size w w3 := hB2.trans (hb3.mono hB2.size)
      have Q23 := hide (rowBelow (unhide Q2) hb3)
      have Q3 := hide hrow3
      have z3 := hb3.size
      clear hrow3 hb3 hB2 Q2
      go_wp2_with fail
      refine (unhide HR2 _).mono ?_
      rintro e w4 ⟨v4, rfl, hrow4, hb4⟩
      obtain ⟨a4, c4, rfl⟩ := row_is hrow4
      have hB4 : Below w.heap.size w w4 := hB3.trans (hb4.mono hB3.size)
      have Q24 := hide (rowBelow (unhide Q23) hb4)
      have Q34 := hide (rowBelow (unhide Q3) hb4)
      have Q4 := hide hrow4
      have z4 := hb4.size
      clear hrow4 hb4 hB3 Q23 Q3 HR1 HR2
      go_wp2_with fail
      refine (unhide HSM _ _ _ _ _ (readsU_own (unhide Q24)) (readsU_own (unhide Q4))).mono ?_
      rintro e w5 ⟨rfl, hb5⟩
      have hB5 : Below w.heap.size w w5 := hB4.trans (hb5.mono hB4.size)
      have q2 := rowBelow (unhide Q24) hb5
      have q3 := rowBelow (unhide Q34) hb5
      have q4 := rowBelow (unhide Q4) hb5
      have z5 := hb5.size
      have hap := hide (apart_any w5 wr.heap.size _ _ (rdL o s) a3 a4 c3 c4 (rdL o s) q2 rfl hRL (by omega) (readsU_own q3) (readsU_own q4) (away_rows q3 (unhide L2)) (away_rows q4 (fun g e => by have := unhide L2 g e; omega)))
      clear q2 q3 q4 hb5 hB4 Q24 Q34 Q4
      go_wp2_with fail
      refine (unhide hap).mono ?_
      rintro e w6 ⟨rfl, hb6, _⟩
      have hB6 : Below w.heap.size w w6 := hB5.trans (hb6.mono (by omega))
      clear hb6 hB5 hap
      go_wp2_with fail
      refine (awake_any _).mono ?_
      rintro e w7 ⟨rfl, hb7⟩
      go_wp2
      go_ret
      exact ⟨rfl, hB6.trans (hb7.mono hB6.size)⟩

theorem own : ownKnob Try.prog.godebug = none := by kernel_rfl
theorem laidOut : laidOutB Try.prog = true := by kernel_rfl

set_option maxRecDepth 100000 in
theorem contract (H : Type) (enc : TypeId × Value → H) (W : World) (base : Nat) (args : Array Value) (ds gs : List (DataW H)) (before : List MemPlace)
    (hval : ∀ (j : Nat) t v, Try.f7.params[j]? = some t → args[j]? = some v → Value.okWide Try.prog W .any base t v)
    (hW : DataW.Whole enc Try.prog Try.f7.params.toList Rows.wideBytesSpec.vars false W args.toList ds gs before) (hk : Rows.uptoSmall H (ds ++ gs) = true) :
    Calls Try.prog 7 args W fun e W' => ∃ v, e = .returned v ∧ Rows.wideBytesSpec.post enc Try.prog Try.f7 false true false false W args v W' := by
  have hW' := hW
  obtain ⟨p, q, hA0, hV, rfl, hfz, hnd⟩ := hW
  have hA : DataW.TrodAll enc Try.prog W 0 (fun _ => true) true Try.f7.params.toList args.toList ds p := hA0
  rw [Try.params7] at hA hval
  obtain ⟨v0, vs0, d0, ds0, p0, q0, hargs, rfl, rfl, h0, r0⟩ := trodAll_cons hA
  obtain ⟨v1, vs1, d1, ds1, p1, q1, rfl, rfl, rfl, h1, r1⟩ := trodAll_cons r0
  obtain ⟨v2, vs2, d2, ds2, p2, q2, rfl, rfl, rfl, h2, r2⟩ := trodAll_cons r1
  obtain ⟨rfl, rfl, rfl⟩ := trodAll_nil r2
  obtain rfl : args = #[v0, v1, v2] := by cases args; simp_all
  obtain ⟨rfl, rfl⟩ := trodVars_none hV
  obtain ⟨a0, rfl, hd0, rfl, w0⟩ := open_int Try.underlying56 (hval 0 56 v0 rfl rfl) h0
  have x0 : 0 ≤ a0 ∧ a0 ≤ 255 := wf_u8 w0
  obtain ⟨a1, len1, cap1, rfl⟩ := okWide_slice Try.underlying31 (hval 1 31 v1 rfl rfl)
  have k1 := h1
  have lt1 : ∀ x ∈ p1, x.block < W.heap.size := by obtain ⟨m, hm⟩ := k1; exact DataW.trod_lt m _ _ _ hm
  obtain ⟨a2, rfl, rfl, rfl, w2⟩ := open_string Try.underlying9 (hval 2 9 v2 rfl rfl) h2
  have hk' : Rows.uptoSmall H [d0, d1, .lit (.string a2.data.toList)] = true := hk
  have hb := bulk_bound hk'
  simp only [Rows.uptoBulkAll] at hb
  rw [bulk_string a2] at hb
  have c2 : a2.size ≤ 1048576 := by omega
  obtain ⟨z1, w1, c1, wf1⟩ : ∃ zs : List Int, ((a1 = none ∧ len1 = 0 ∧ cap1 = 0 ∧ zs = []) ∨ ∃ x, a1 = some x ∧ len1 ≤ cap1 ∧ cap1 ≤ maxLen ∧ zs.length = cap1 ∧ (∀ i, i < zs.length → W.cell? (x.add i) = some (.int .u16 (zs.getD i 0)))) ∧ cap1 ≤ 1048576 ∧ (∀ n ∈ zs, (Lit.int .u16 n).wf = true) := by
    obtain ⟨fuel, hf⟩ := h1
    rcases open_ints Try.underlying31 Try.underlying22 (by kernel_rfl) hf with ⟨hcs, _⟩ | ⟨x, l, c, zs, hcs, _, hl, hm, hz, hx, hcell, hwz⟩
    · simp [Value.cells] at hcs
      obtain ⟨rfl, rfl, rfl⟩ := hcs
      exact ⟨[], .inl ⟨rfl, rfl, rfl, rfl⟩, by omega, by simp⟩
    · simp [Value.cells] at hcs
      obtain ⟨rfl, rfl, rfl⟩ := hcs
      have hz' : zs.length = cap1 := by simpa using hz
      refine ⟨zs, .inr ⟨_, rfl, hl, hm, hz', hcell⟩, ?_, hwz⟩
      have hd : d1 = .slice (lits .u16 (zs.take len1)) (lits .u16 (zs.drop len1)) := by simp only [Prod.mk.injEq] at hx; exact hx.1
      rw [hd] at hb
      have h2 := bulk_slice (H := H) (lits .u16 (zs.take len1)) (lits .u16 (zs.drop len1))
      have e1 : (lits (H := H) .u16 (zs.take len1)).length = (zs.take len1).length := by simp [lits]
      have e2 : (lits (H := H) .u16 (zs.drop len1)).length = (zs.drop len1).length := by simp [lits]
      rw [e1, e2, List.length_take, List.length_drop] at h2
      omega
  have hlc1 : len1 ≤ cap1 := by rcases w1 with ⟨_, h, h', _⟩ | ⟨_, _, h, _⟩ <;> omega
  have hzc1 : z1.length = cap1 := w1.elim (fun ⟨_, _, h, h'⟩ => by rw [h', h]; rfl) (fun ⟨_, _, _, _, h, _⟩ => h)
  have hle1 : (z1.take len1).length = len1 := by rw [List.length_take]; omega
  have hrd1 : ReadsU W a1 (z1.take len1) := by
    intro i hi
    rw [hle1] at hi
    rcases w1 with ⟨_, h, _⟩ | ⟨x, h1, h2, h3, h4, h5⟩
    · omega
    · obtain ⟨b, off, rfl, hc⟩ := ints_at h5 (by omega)
      refine ⟨b, off, h1, (hc i (by omega)).trans ?_⟩
      simp [uA, List.getD, hi]
  have hfi1 : Fits (z1.take len1) := by
    intro x hx
    exact wf_u16 (wf1 x (List.mem_of_mem_take hx))
  clear hA0
  have hwk := walk a0 a1 (z1.take len1) cap1 a2 W x0.1 x0.2 hrd1 hfi1 (by rw [hle1]; omega) c1 c2
  rw [hle1] at hwk
  subst hd0
  refine hwk.mono fun e W' ⟨he, bel⟩ => ?_
  subst he
  exact ⟨_, rfl, _, _, _, [], _, [], hW', trodAll_mk1 (shut_bool Try.underlying4 _), (trodAll_cons_mk (shut_int Try.underlying56 w0) (trodAll_cons_mk (Below.trod laidOut (by kernel_rfl) (of_decide_eq_true (by kernel_rfl)) k1 bel lt1) (trodAll_cons_mk (shut_string Try.underlying9 w2) trodAll_mk0))), rfl, bel.frame _, fun h => by cases h⟩

set_option maxRecDepth 100000 in
theorem lifted (os : Os) (started : os.Started) (H : Type) (enc : TypeId × Value → H) (F : Stop.Interp) :
    ReturnsInHanded {} Try.checked os 7 .any ((Rows.OpenSpec.upto Rows.wideBytesSpec).pre6 enc Try.prog Try.f7 Rows.wideBytesUptoRow.domain false) (((Rows.OpenSpec.upto Rows.wideBytesSpec).at F).post enc Try.prog Try.f7 false true false false) := by
  refine returnsInHanded_of_cond (C := Try.checked) (s := Rows.OpenSpec.upto Rows.wideBytesSpec) (k := Rows.uptoSmall) rfl own started (by kernel_rfl) Try.func7
    (OpenSpec.witness (enc := enc) (C := Try.checked) (s := Rows.OpenSpec.upto Rows.wideBytesSpec) (k := Rows.uptoSmall) rfl false ⟨#[], #[.int .u8 0, .slice none 0 0, .string ByteArray.empty], []⟩ 8 (by kernel_rfl) (by kernel_rfl) (by kernel_rfl)
      (x := ([.lit (.int .u8 0), .nil, .lit (.string [])], [], [])) (by kernel_rfl) rfl (by kernel_rfl)) ?_
  intro W base args ds gs before hval hW _ hk _
  exact contract H enc W base args ds gs before hval hW hk

theorem over : Rows.wideBytesUptoRow.holds Try.pinned (Rows.OpenSpec.upto Rows.wideBytesSpec) :=
  OpenClaim.holds_of_cond 7 Try.f7 rfl rfl rfl rfl rfl rfl rfl ⟨rfl, rfl, rfl, rfl, rfl⟩ rfl rfl rfl rfl rfl (by kernel_rfl) Try.func7 (by kernel_rfl)
    (of_decide_eq_true (by kernel_rfl)) (by unfold Func.isWrapper; first | (rw [if_pos (by decide +kernel)]; kernel_rfl) | (rw [if_neg (by decide +kernel)]; exact ⟨rfl, rfl⟩))
    (fun os started H enc _ F => lifted os started H enc F)

end Go.Proofs.Ytghcheoholkpbaa.wideBytes
namespace Go.Proofs.Ytghcheoholkpbaa
theorem wideBytes_upto : Rows.WideBytesUptoSaid := wideBytes.over
end Go.Proofs.Ytghcheoholkpbaa

