/-
  Text of package mirrors, for every list and every bytes.
-/
import Derived.Test.YtnabbahdmajfpaaGreatDoorMrC
import Derived.Test.YtnabbahdmajfpaaGreatDoorMrT
import Derived.Test.YtnabbahdmajfpaaGreatDoorMrK
import Derived.WalkSmall
namespace Go.Proofs.YtnabbahdmajfpaaGreatDoor
open Go.RowKit Go.PlainAid Go.Lib Go.Shelf
attribute [local go_sem] World.iter
set_option linter.unusedVariables false
set_option linter.unusedSimpArgs false

theorem field_width (a b c d : Int) (W : World) : (Instr.field 141 (.agg #[.int .i64 a, .int .i64 b, .int .i32 c, .int .i64 d]) 1).run Tryz.prog W = .ok (.int .i64 b) W := by kernel_rfl
set_option maxRecDepth 100000 in
theorem isWrong9_any (s : ByteArray) (i : Nat) (w : World) (hs : s.size ≤ 1099511627776) (hi : i < s.size) :
    Calls Tryz.prog 49 #[.string s, .int .i64 i, .int .i32 ((Utf8.decode s i).1 : Nat)] w fun e w' => e = .returned (.bool (decide (Utf8.decode s i = (65533, 1)))) ∧ Below w.heap.size w w' := by
  have hfs : (s.extract i s.size).size ≤ maxLen := by rw [extract_size]; unfold maxLen; omega
  have h0 : 0 < (s.extract i s.size).size := by rw [extract_size]; omega
  have hF := fun w => first_any (s.extract i s.size) w hfs h0
  unfold spotOf at hF
  rw [dec_ext s i hi] at hF
  have HF := hideM hF
  clear hF hfs h0
  have hi' : ¬ (s.size : Int) < (i : Int) := by omega
  have hi2 : (i : Int) ≤ (s.size : Int) := by omega
  obtain ⟨B, hB⟩ : ∃ B, decide (Utf8.decode s i = (65533, 1)) = B := ⟨_, rfl⟩
  rw [hB]
  obtain ⟨R, hR⟩ : ∃ R, (Utf8.decode s i).1 = R := ⟨_, rfl⟩
  obtain ⟨D, hD⟩ : ∃ D, (Utf8.decode s i).2 = D := ⟨_, rfl⟩
  have e : Utf8.decode s i = (R, D) := by rw [← hR, ← hD]
  rw [hR, hD] at HF
  rw [hR]
  rw [e] at hB
  have HB := hideM hB
  clear hB hR hD e
  by_cases hr : R = 65533
  · subst hr
    have e2 : B = ((D : Int) == 1) := by
      rw [← unhideM HB]
      cases h : decide (D = 1)
      · simp at h; simp [h]; omega
      · simp at h; simp [h]
    have HE := hideM e2
    clear e2 HB
    have hfl := field_width
    go_enter Tryz.func49, Tryz.ntmps49
    go_wp2_with (go_at_call 69; with_reducible refine (unhideM HF _).mono ?_; rintro e w1 ⟨rfl, hb⟩)
    all_goals go_ret
    all_goals exact ⟨by rw [unhideM HE]; rfl, hb⟩
  · have d1 : ((R : Int) == 65533) = false := by simpa using fun e => hr (by omega)
    have e2 : B = false := by rw [← unhideM HB]; simp [hr]
    subst e2
    clear HB HF
    go_enter Tryz.func49, Tryz.ntmps49
    go_wp2
    all_goals go_ret
    all_goals exact ⟨rfl, Below.refl _ _⟩

theorem isBF_keptM {T e : TypeId} {B b : Nat} {bs : List Value} {V V' : World} (h : Lib.IsBuilderF T e B b bs V) (hk : ∀ k o, V.heap[k]? = some o → o.isCells = true → B ≤ k → V'.heap[k]? = some o) : Lib.IsBuilderF T e B b bs V' := by
  have one : ∀ p, Lib.BuilderAtF T e B b p bs V → Lib.BuilderAtF T e B b p bs V' := by
    rintro p ⟨hB, v, hb, ho, hne⟩
    refine ⟨hB, v, hk b _ hb rfl hB, ⟨ho.1, ho.2.imp id ?_⟩, hne⟩
    rintro ⟨g, cap, cur, fz, rfl, hb', hg, hr⟩
    exact ⟨g, cap, cur, fz, rfl, hb', hk g _ hg rfl hb', hr⟩
  exact h.imp (one _) (one _)
theorem isBF_belowM {T e : TypeId} {B b : Nat} {bs : List Value} {V V' : World} (h : Lib.IsBuilderF T e B b bs V) (hb : Below V.heap.size V V') : Lib.IsBuilderF T e B b bs V' :=
  isBF_keptM h fun k o ho _ _ => (hb.block k (Array.getElem?_eq_some_iff.1 ho).1).trans ho
theorem strCells_appM (a b : ByteArray) : Lib.strCells (a ++ b) = Lib.strCells a ++ Lib.strCells b := by
  simp [Lib.strCells, ByteArray.data_append]
theorem runesBytes_one (z : Int) : runesBytes [z] = Utf8.encode z := by
  rw [runesBytes_cons]
  show Utf8.encode z ++ runesBytes [] = _
  simp [runesBytes]
theorem extract_mid (s : ByteArray) (a b c : Nat) (h1 : a ≤ b) (h2 : b ≤ c) (h3 : c ≤ s.size) : s.extract a b ++ s.extract b c = s.extract a c := by
  refine bytes_ext (by simp [ByteArray.size_extract]; omega) (fun k hk => ?_)
  have hx : ∀ (s : ByteArray) (a b j : Nat), a + j < b → b ≤ s.size → bN (s.extract a b) j = bN s (a + j) := by
    intro s a b j h1 h2
    unfold bN
    rw [get_in _ _ (by simp [ByteArray.size_extract]; omega), get_in s (a + j) (by omega)]
    simp [ByteArray.getElem_extract]
  have e1 : (s.extract a b).size = b - a := by simp [ByteArray.size_extract]; omega
  have hk' : k < c - a := by simp [ByteArray.size_extract] at hk; omega
  rw [bN_append, e1, hx s a c k (by omega) h3]
  split
  · rw [hx s a b k (by omega) (by omega)]
  · rw [hx s b c _ (by omega) h3]; congr 1; omega
/-- where Text stands: what is written, what is done, how many -/
def TextI (l : List MirD) (s : ByteArray) (pos done cnt : Nat) (Bt : ByteArray) : Prop := Bt ++ s.extract done pos ++ (outR l s pos).1 = (outR l s 0).1 ∧ cnt + (outR l s pos).2 = (outR l s 0).2 ∧ done ≤ pos ∧ pos ≤ s.size
theorem TextI.size {l : List MirD} {s : ByteArray} {pos done cnt : Nat} {Bt : ByteArray} (h : TextI l s pos done cnt Bt) : Bt.size ≤ 4 * s.size ∧ cnt ≤ s.size := by
  have h1 := congrArg ByteArray.size h.1
  have h2 := outR_size l s s.size 0 (by omega)
  have h3 := h.2.1
  simp only [ByteArray.size_append] at h1
  omega
theorem TextI.stay {l : List MirD} {s : ByteArray} {pos done cnt : Nat} {Bt : ByteArray} (h : TextI l s pos done cnt Bt) (hp : pos < s.size) (hn : hasM l (Utf8.decode s pos) = none) : TextI l s (pos + (Utf8.decode s pos).2) done cnt Bt := by
  obtain ⟨h1, h2, h3, h4⟩ := h
  have hb := dec_bounds s pos hp
  rw [outR_step l s pos hp, hn] at h1 h2
  refine ⟨?_, h2, by omega, hb.2.2⟩
  rw [← h1]
  simp only
  rw [← extract_mid s done pos (pos + (Utf8.decode s pos).2) h3 (by omega) hb.2.2]
  simp only [app_assoc]
theorem TextI.turn {l : List MirD} {s : ByteArray} {pos done cnt : Nat} {Bt : ByteArray} {t : Int} (h : TextI l s pos done cnt Bt) (hp : pos < s.size) (hn : hasM l (Utf8.decode s pos) = some t) : TextI l s (pos + (Utf8.decode s pos).2) (pos + (Utf8.decode s pos).2) (cnt + 1) (Bt ++ s.extract done pos ++ Utf8.encode t) := by
  obtain ⟨h1, h2, h3, h4⟩ := h
  have hb := dec_bounds s pos hp
  rw [outR_step l s pos hp, hn] at h1 h2
  simp only at h1 h2
  refine ⟨?_, by omega, Nat.le_refl _, hb.2.2⟩
  rw [← h1, show s.extract (pos + (Utf8.decode s pos).2) (pos + (Utf8.decode s pos).2) = ByteArray.empty from bytes_ext (by simp) (fun k hk => absurd hk (by simp))]
  rw [app_nil]
  simp only [app_assoc]

set_option maxRecDepth 100000 in
set_option maxHeartbeats 4000000 in
theorem text9_any (l : List MirD) (a : Option Addr) (n c : Nat) (s : ByteArray) (w : World) (hn : l.length = n) (hnb : n ≤ 1099511627776) (hok : ∀ x ∈ l, MirOk x) (hm : MrMem w a l) (hs : s.size ≤ 1099511627776) :
    Calls Tryz.prog 29 #[.slice a n c, .string s] w fun e w' => e = .returned (.tuple #[.string (outR l s 0).1, .int .i64 ((outR l s 0).2 : Nat)]) ∧ Below w.heap.size w w' := by
  have HN := hideM hn
  have HM := hideM hm
  have HFI := hideM (finder_any l a n c w hn hnb (fun x hx => (hok x hx).1) hm)
  clear hn hm hok
  obtain ⟨OT, hOT⟩ : ∃ OT, (outR l s 0).1 = OT := ⟨_, rfl⟩
  obtain ⟨ON, hON⟩ : ∃ ON, (outR l s 0).2 = ON := ⟨_, rfl⟩
  rw [hOT, hON]
  have HOT := hideM hOT
  have HON := hideM hON
  clear hOT hON
  go_enter Tryz.func29, Tryz.ntmps29
  go_wp2_with fail
  refine (unhideM HFI).mono ?_
  rintro e w1 ⟨pb, rfl, hfa, hpb, hb1⟩
  clear HFI
  have HFD := hideM (fun (V : World) (hb : Below w1.heap.size w1 V) (r : Int) (hr : i32OkM r) => find1_any l pb r hr V (hfa.below hb))
  have HB1 := hideM hb1
  have hs1 := hb1.size
  clear hfa hb1
  obtain ⟨W3, hW3⟩ : ∃ W3, (w1.alloc (.cells #[.pointer none, .slice none 0 0] 78)).alloc (.stringIter s 0) = W3 := ⟨_, rfl⟩
  have hB3 : Below w1.heap.size w1 W3 := by rw [← hW3]; exact ((Below.refl _ w1).alloc (Nat.le_refl _) _).alloc (by simp) _
  have hs3 : W3.heap.size = w1.heap.size + 2 := by rw [← hW3]; simp
  have hbb : W3.heap[w1.heap.size]? = some (.cells #[.pointer none, .slice none 0 0] 78 (0, 0)) := by rw [← hW3]; exact (Below.heap_alloc _ _ _ (by simp)).trans (heap_alloc_new w1 _)
  have hit0 : W3.heap[w1.heap.size + 1]? = some (.stringIter s 0) := by
    rw [← hW3]
    have h := heap_alloc_new (w1.alloc (.cells #[.pointer none, .slice none 0 0] 78)) (.stringIter s 0)
    rw [World.size_alloc] at h; exact h
  have hbd0 : Lib.IsBuilderF 78 5 w1.heap.size w1.heap.size (Lib.strCells ByteArray.empty) W3 := .inl ⟨Nat.le_refl _, .slice none 0 0, hbb, ⟨rfl, .inl ⟨rfl, rfl⟩⟩, by simp [Value.ownBlock]⟩
  have HI0 : Hid (TextI l s 0 0 0 ByteArray.empty) := ⟨by rw [show s.extract 0 0 = ByteArray.empty from bytes_ext (by simp) (fun k hk => absurd hk (by simp))]; simp, by omega, Nat.le_refl _, Nat.zero_le _⟩
  go_wp2
  clear hW3
  go_loopw [8, 9] (fun v8 v9 wr => ∃ (pos done cnt : Nat) (Bt : ByteArray), v8 = .int .i64 (done : Nat) ∧ v9 = .int .i64 (cnt : Nat) ∧ Hid (TextI l s pos done cnt Bt) ∧ wr.heap[w1.heap.size + 1]? = some (.stringIter s pos) ∧ Hid (Lib.IsBuilderF 78 5 w1.heap.size w1.heap.size (Lib.strCells Bt) wr) ∧ Below w1.heap.size w1 wr) (fun _ _ wr => s.size - wr.iterPos (w1.heap.size + 1))
  case atStart => exact ⟨0, 0, 0, ByteArray.empty, rfl, rfl, HI0, hit0, hbd0, hB3⟩
  case round =>
    clear hbd0 hit0 hbb hB3 hs3 HI0
    obtain ⟨pos, done, cnt, Bt, rfl, rfl, HI, hit, HBD, hB⟩ := hrel
    have hdp := (unhideM HI).2.2.1
    have hps := (unhideM HI).2.2.2
    have hsz := (unhideM HI).size
    by_cases hlt : pos < s.size
    · have hnx := fun ty => run_next_any_at (P := Tryz.prog) wr (w1.heap.size + 1) s pos ty hit hlt
      have hbd := dec_bounds s pos hlt
      have hsc := dec_scalar s pos hlt
      have hit2 := iterAt_heap wr (w1.heap.size + 1) s pos (pos + (Utf8.decode s pos).2) hit
      have hB2 : Below w1.heap.size w1 (wr.iterAt (w1.heap.size + 1) s (pos + (Utf8.decode s pos).2)) := hB.grown (grownBy_iterAt wr (w1.heap.size + 1) s _) hB.size (fun k e => by cases e; omega)
      have HBD2 : Hid (Lib.IsBuilderF 78 5 w1.heap.size w1.heap.size (Lib.strCells Bt) (wr.iterAt (w1.heap.size + 1) s (pos + (Utf8.decode s pos).2))) := isBF_keptM (unhideM HBD) fun k o ho hc hk => by
        have hne : k ≠ w1.heap.size + 1 := by
          rintro rfl
          rw [hit] at ho
          cases ho
          cases hc
        exact ((grownBy_iterAt wr (w1.heap.size + 1) s _).block k (Array.getElem?_eq_some_iff.1 ho).1 (fun e => hne (Option.some.inj e))).trans ho
      have hmeas : s.size - (pos + (Utf8.decode s pos).2) < s.size - wr.iterPos (w1.heap.size + 1) := by rw [iterPos_of hit]; omega
      have hrok : i32OkM ((Utf8.decode s pos).1 : Nat) := by
        unfold scalarB at hsc
        simp only [Bool.and_eq_true, decide_eq_true_eq] at hsc
        exact ⟨by omega, by omega⟩
      generalize hW4 : wr.iterAt (w1.heap.size + 1) s (pos + (Utf8.decode s pos).2) = W4 at *
      have hfd := unhideM HFD W4 hB2 ((Utf8.decode s pos).1 : Nat) hrok
      have hof := of_idx l ((Utf8.decode s pos).1 : Nat)
      cases hk : idxM l ((Utf8.decode s pos).1 : Nat) with
      | none =>
        rw [hk] at hfd hof
        have hno : hasM l (Utf8.decode s pos) = none := by
          unfold hasM
          split
          · rfl
          · exact hof
        have HI2 := hideM ((unhideM HI).stay hlt hno)
        simp only [Option.getD_none, Option.isSome_none] at hfd
        have HFX := hideM hfd
        clear hfd hof hno hW4 HI HBD hB hsc hrok hk
        generalize (Utf8.decode s pos).1 = R at *
        generalize (Utf8.decode s pos).2 = D at *
        go_wp2_with (with_reducible refine (unhideM HFX).mono ?_; rintro e w5 ⟨rfl, h5⟩; obtain rfl : W4 = w5 := h5.symm)
        go_roundw
        case rel => exact ⟨pos + D, done, cnt, Bt, rfl, rfl, HI2, hit2, HBD2, hB2⟩
        case measure => rw [iterPos_of hit2]; exact hmeas
      | some k =>
        rw [hk] at hfd hof
        obtain ⟨z, hz, _, _⟩ := idx_some hk
        have hkl := idx_lt hk
        have hof' : ofM l ((Utf8.decode s pos).1 : Nat) = some z.to := by
          rw [hof]
          show (l[k]?).map (·.to) = _
          rw [hz]; rfl
        simp only [Option.getD_some, Option.isSome_some] at hfd
        have HFX := hideM hfd
        have hwr := fun V => isWrong9_any s pos V hs hlt
        by_cases hwg : Utf8.decode s pos = (65533, 1)
        · have hno : hasM l (Utf8.decode s pos) = none := by
            unfold hasM
            rw [if_pos hwg]
          have HI2 := hideM ((unhideM HI).stay hlt hno)
          rw [decide_eq_true hwg] at hwr
          have HWR := hideM hwr
          have HR5 : Hid (∀ w5, Below W4.heap.size W4 w5 → w5.heap[w1.heap.size + 1]? = some (.stringIter s (pos + (Utf8.decode s pos).2)) ∧ Hid (Lib.IsBuilderF 78 5 w1.heap.size w1.heap.size (Lib.strCells Bt) w5) ∧ Below w1.heap.size w1 w5) := fun w5 hb5 =>
            ⟨(hb5.block _ (Array.getElem?_eq_some_iff.1 hit2).1).trans hit2, isBF_belowM (unhideM HBD2) hb5, hB2.trans (hb5.mono hB2.size)⟩
          clear hfd hof hof' hno hW4 HI HBD hB hsc hrok hk hwr hwg hz hkl HBD2 hB2 hit2
          generalize (Utf8.decode s pos).1 = R at *
          generalize (Utf8.decode s pos).2 = D at *
          go_wp2_with (first | (with_reducible refine (unhideM HFX).mono ?_; rintro e w5 ⟨rfl, h5⟩; obtain rfl : W4 = w5 := h5.symm) | (go_at_call 49; with_reducible refine (unhideM HWR _).mono ?_; rintro e w5 ⟨rfl, hb5⟩; obtain ⟨k1, k2, k3⟩ := unhideM HR5 _ hb5))
          go_roundw
          case rel => exact ⟨pos + D, done, cnt, Bt, rfl, rfl, HI2, k1, k2, k3⟩
          case measure => rw [iterPos_of k1]; exact hmeas
        · have hyes : hasM l (Utf8.decode s pos) = some z.to := by
            unfold hasM
            rw [if_neg hwg, hof']
          have HI2 := hideM ((unhideM HI).turn hlt hyes)
          rw [decide_eq_false hwg] at hwr
          have HWR := hideM hwr
          have hwd : widthN ((Utf8.decode s pos).1 : Nat) = ((Utf8.decode s pos).2 : Nat) := by
            rcases dec_why s pos hlt with ⟨_, x, n', g1, g2, g3, g4⟩ | ⟨_, g1⟩
            · rw [g1]; unfold widthN; rw [if_pos g2]; exact g3
            · exact absurd g1 hwg
          have HWD := hideM (fun V => width_any ((Utf8.decode s pos).1 : Nat) V)
          rw [hwd] at HWD
          have HR5 : Hid (∀ w5, Below W4.heap.size W4 w5 → w5.heap[w1.heap.size + 1]? = some (.stringIter s (pos + (Utf8.decode s pos).2)) ∧ Hid (Lib.IsBuilderF 78 5 w1.heap.size w1.heap.size (Lib.strCells Bt) w5) ∧ Below w1.heap.size w1 w5) := fun w5 hb5 =>
            ⟨(hb5.block _ (Array.getElem?_eq_some_iff.1 hit2).1).trans hit2, isBF_belowM (unhideM HBD2) hb5, hB2.trans (hb5.mono hB2.size)⟩
          obtain ⟨g, off, rfl, hcz⟩ := (unhideM HM) k z hz
          have HCZ : Hid (∀ V, Below w1.heap.size w1 V → V.cell? ⟨g, off + k * 4 + 2, none⟩ = some (.int .i32 z.to)) := fun V hb => by
            have h1 := hcz 2 _ rfl
            have hbV : Below w.heap.size w V := (unhideM HB1).trans (hb.mono hs1)
            exact (hbV.cell (World.block_lt_of_cell? _ _ h1)).trans h1
          have hkn : k < n := by rw [← unhideM HN]; exact hkl
          have hkn' : (k : Int) < (n : Int) := by omega
          have hq1 : IntKind.i64.wrap ((cnt : Int) + 1) = (cnt : Int) + 1 := by rw [IntKind.wrap_i64]; omega
          have hq2 : IntKind.i64.wrap ((pos : Int) + ((Utf8.decode s pos).2 : Int)) = (pos : Int) + ((Utf8.decode s pos).2 : Int) := by rw [IntKind.wrap_i64]; omega
          have hes := encode_size_le z.to
          have hcat : Lib.strCells (Bt ++ s.extract done pos ++ Utf8.encode z.to) = (Lib.strCells Bt ++ Lib.strCells (s.extract done pos)) ++ Lib.strCells (Utf8.encode z.to) := by rw [strCells_appM, strCells_appM]
          have HCAT := hideM hcat
          have hxs : (s.extract done pos).size = pos - done := by simp [ByteArray.size_extract]; omega
          have HXS := hideM hxs
          have e1 : (done : Int) ≤ (pos : Int) := by omega
          have e2 : (pos : Int) ≤ (s.size : Int) := by omega
          have e3 : ¬ (pos : Int) < (done : Int) := by omega
          have e4 : ¬ (s.size : Int) < (pos : Int) := by omega
          clear hfd hof hof' hyes hW4 HI HBD hB hsc hrok hk hwr hwg hz hkl HBD2 hB2 hit2 hcz hwd hcat hxs
          generalize (Utf8.decode s pos).1 = R at *
          generalize (Utf8.decode s pos).2 = D at *
          have tok : True := trivial
          go_wp2_with (first | (with_reducible refine (unhideM HFX).mono ?_; rintro e w5 ⟨rfl, h5⟩; obtain rfl : W4 = w5 := h5.symm) | (go_at_call 49; with_reducible refine (unhideM HWR _).mono ?_; rintro e w5 ⟨rfl, hb5⟩; obtain ⟨k1, k2, k3⟩ := unhideM HR5 _ hb5; have HK1 := hideM k1; have HK3 := hideM k3; have hz5 := k3.size; have HWS := hideM (Tryz.Builder_WriteString_k w1.heap.size w1.heap.size _ (s.extract done pos) w5 (unhideM k2) (by rw [Lib.strCells_length, unhideM HXS]; omega) k3.size); clear hb5 k1 k3))
          clear HFX HWR HR5
          refine (unhideM HWS).mono ?_
          rintro e w6 ⟨rfl, hbd6, hb6, hok6⟩
          have hB6 : Below w1.heap.size w1 w6 := (unhideM HK3).trans hb6
          have hit6 : w6.heap[w1.heap.size + 1]? = some (.stringIter s (pos + D)) := hok6 _ _ (unhideM HK1) (by simp) (by intro c fz e; cases e)
          have hc6 := unhideM HCZ w6 hB6
          obtain ⟨V6, hV6⟩ : ∃ V6, w6.alloc (.cells #[.int .i32 z.to] 21) = V6 := ⟨_, rfl⟩
          have hbV6 : Below w6.heap.size w6 V6 := by rw [← hV6]; exact (Below.refl _ w6).alloc (Nat.le_refl _) _
          have hvc : V6.cell? ⟨w6.heap.size, 0, none⟩ = some (.int .i32 z.to) := by rw [← hV6]; simp
          have hBV6 : Below w1.heap.size w1 V6 := hB6.trans (hbV6.mono hB6.size)
          have hitV6 := (hbV6.block _ (Array.getElem?_eq_some_iff.1 hit6).1).trans hit6
          have HEN := hideM (encode_any V6 ⟨w6.heap.size, 0, none⟩ 1 1 [z.to] rfl (fun j hj => by
            have : j = 0 := by simpa using hj
            subst this
            simpa [Addr.add] using hvc))
          rw [runesBytes_one] at HEN
          have HWS2 := hideM (Tryz.Builder_WriteString_k w1.heap.size w1.heap.size _ (Utf8.encode z.to) V6 (isBF_belowM (.inr hbd6) hbV6) (by rw [List.length_append, Lib.strCells_length, Lib.strCells_length, unhideM HXS]; omega) hBV6.size)
          have HITV := hideM hitV6
          have HBV := hideM hBV6
          clear hbd6 hb6 hok6 hB6 hit6 hbV6 hBV6 hitV6 HWS HCZ HK1 HK3
          go_wp2_with (go_at_call 50; with_reducible refine (unhideM HEN).mono ?_; rintro e w7 ⟨rfl, h7⟩; obtain rfl : V6 = w7 := h7.symm)
          refine (unhideM HWS2).mono ?_
          rintro e w8 ⟨rfl, hbd8, hb8, hok8⟩
          have hB8 : Below w1.heap.size w1 w8 := (unhideM HBV).trans hb8
          have hit8 : w8.heap[w1.heap.size + 1]? = some (.stringIter s (pos + D)) := hok8 _ _ (unhideM HITV) (by simp) (by intro c fz e; cases e)
          have HBD8 : Hid (Lib.IsBuilderF 78 5 w1.heap.size w1.heap.size (Lib.strCells (Bt ++ s.extract done pos ++ Utf8.encode z.to)) w8) := by show Lib.IsBuilderF _ _ _ _ _ _; rw [unhideM HCAT]; exact .inr hbd8
          clear hbd8 hb8 hok8
          go_wp2_with (go_at_call 51; with_reducible refine (unhideM HWD _).mono ?_; rintro e w9 ⟨rfl, h9⟩; obtain rfl : w8 = w9 := h9.symm)
          go_roundw
          case rel => exact ⟨pos + D, pos + D, cnt + 1, _, by go_num, by go_num, HI2, hit8, HBD8, hB8⟩
          case measure => rw [iterPos_of hit8]; exact hmeas
    · have hnx := fun ty => run_next_end_at (P := Tryz.prog) wr (w1.heap.size + 1) s pos ty hit hlt
      obtain rfl : pos = s.size := by omega
      have hfin := (unhideM HI).1
      have hcf := (unhideM HI).2.1
      rw [outR_end l s s.size (by omega), unhideM HOT, app_nil] at hfin
      rw [outR_end l s s.size (by omega), unhideM HON] at hcf
      have hxs : (s.extract done s.size).size = s.size - done := by simp [ByteArray.size_extract]
      have HWS := hideM (Tryz.Builder_WriteString_k w1.heap.size w1.heap.size _ (s.extract done s.size) wr (unhideM HBD) (by rw [Lib.strCells_length, hxs]; omega) hB.size)
      rw [← strCells_appM, hfin] at HWS
      obtain rfl : cnt = ON := by simpa using hcf
      have HSS : Hid (∀ V, Lib.IsBuilderF 78 5 w1.heap.size w1.heap.size (Lib.strCells OT) V → w1.heap.size ≤ V.heap.size → Calls Tryz.prog 41 #[.pointer (some ⟨w1.heap.size, 0, none⟩)] V fun e w' => e = .returned (.string OT) ∧ Below w1.heap.size V w') := fun V hV hsV => by
        refine (Tryz.Builder_String_any_k w1.heap.size w1.heap.size OT.data.toList V hV hsV).mono ?_
        rintro e w' ⟨rfl, _, hb, _⟩
        exact ⟨by simp, hb⟩
      have e1 : (done : Int) ≤ (s.size : Int) := by omega
      have e2 : ¬ (s.size : Int) < (done : Int) := by omega
      clear hfin hcf hxs HBD HI
      go_wp2_with fail
      refine (unhideM HWS).mono ?_
      rintro e w8 ⟨rfl, hbd8, hb8, hok8⟩
      have hB8 : Below w1.heap.size w1 w8 := hB.trans hb8
      have HSX := hideM (unhideM HSS w8 (.inr hbd8) hB8.size)
      clear hbd8 hb8 hok8
      go_wp2_with fail
      refine (unhideM HSX).mono ?_
      rintro e w9 ⟨rfl, hb9⟩
      go_wp2
      go_ret2
      exact ⟨rfl, (unhideM HB1).trans ((hB8.trans hb9).mono hs1)⟩
end Go.Proofs.YtnabbahdmajfpaaGreatDoor
