/-
  The document's Text, for every list and every bytes; the law MirrorsTexts, walked.
-/
import Derived.Test.YtnabbahdmajfpaaGreatDoorMrOfW
import Derived.Test.YtnabbahdmajfpaaGreatDoorRChars
import Derived.Test.YtnabbahdmajfpaaGreatDoorRefB
namespace Go.Proofs.YtnabbahdmajfpaaGreatDoor
open Go.RowKit Go.PlainAid Go.Lib Go.PHexM Go.Shelf
set_option linter.unusedVariables false
set_option linter.unusedSimpArgs false

theorem isB_right (s : ByteArray) (i : Nat) (hi : i < s.size) : isB s i = !decide (Utf8.decode s i = (65533, 1)) := by
  unfold isB
  rcases dec_why s i hi with ⟨_, x, n, g1, g2, g3, g4⟩ | ⟨_, g1⟩
  · rw [g1, decide_eq_false (ne_wrong g3)]
    by_cases h : x = 65533
    · subst h
      have : n = 3 := by have h3 : bytesN ((65533 : Nat) : Int) = 3 := by decide
                         omega
      subst this
      simp
    · simp [h]
  · rw [g1]; decide
theorem charCs_atM (s : ByteArray) {ps : List Nat} {i p : Nat} (h : ps[i]? = some p) (j : Nat) (hj : j < 4) : (charCs s ps)[i * 4 + j]? = (charC s p)[j]? := by
  induction ps generalizing i with
  | nil => simp at h
  | cons a ps ih =>
    have e : charCs s (a :: ps) = charC s a ++ charCs s ps := rfl
    have hl : (charC s a).length = 4 := rfl
    rw [e]
    cases i with
    | zero =>
      simp at h; subst h
      rw [List.getElem?_append_left (by rw [hl]; omega)]
      simp
    | succ i =>
      rw [List.getElem?_append_right (by rw [hl]; omega), ← ih (by simpa using h), hl]
      congr 1
      omega
theorem setCell_sameM {W : World} {b j : Nat} {cs : Array Value} {t : TypeId} {fz : Nat × Nat} {v : Value} (hb : W.heap[b]? = some (.cells cs t fz)) (hv : cs[j]? = some v) : W.setCell ⟨b, j, none⟩ v = W := by
  rw [setCell_eq_setRow W b j _ _ _ v hb]
  have e : cs.setIfInBounds j v = cs := by
    apply Array.ext_getElem?
    intro i
    rw [Array.getElem?_setIfInBounds]
    split
    · rename_i e; subst e
      rw [hv, if_pos (Array.getElem?_eq_some_iff.1 hv).1]
    · rfl
  rw [e]
  have key : ∀ f : Obj → Obj, f (.cells cs t fz) = .cells cs t fz → W.heap.modify b f = W.heap := by
    intro f hf
    apply Array.ext_getElem?
    intro i
    rw [Array.getElem?_modify]
    split
    · rename_i e; subst e; rw [hb]; simp [hf]
    · rfl
  unfold World.setRow
  rw [key _ rfl]
def RTextI (l : List MirD) (s : ByteArray) (pos cnt : Nat) (X : ByteArray) : Prop := X ++ (outR l s pos).1 = (outR l s 0).1 ∧ cnt + (outR l s pos).2 = (outR l s 0).2 ∧ pos ≤ s.size
theorem RTextI.size {l : List MirD} {s : ByteArray} {pos cnt : Nat} {X : ByteArray} (h : RTextI l s pos cnt X) : X.size ≤ 4 * s.size ∧ cnt ≤ s.size := by
  have h1 := congrArg ByteArray.size h.1
  have h2 := outR_size l s s.size 0 (by omega)
  have h3 := h.2.1
  simp only [ByteArray.size_append] at h1
  omega
theorem RTextI.stay {l : List MirD} {s : ByteArray} {pos cnt : Nat} {X : ByteArray} (h : RTextI l s pos cnt X) (hp : pos < s.size) (hn : hasM l (Utf8.decode s pos) = none) : RTextI l s (pos + (Utf8.decode s pos).2) cnt (X ++ s.extract pos (pos + (Utf8.decode s pos).2)) := by
  obtain ⟨h1, h2, h3⟩ := h
  have hb := dec_bounds s pos hp
  rw [outR_step l s pos hp, hn] at h1 h2
  exact ⟨by rw [← h1, app_assoc], h2, hb.2.2⟩
theorem RTextI.turn {l : List MirD} {s : ByteArray} {pos cnt : Nat} {X : ByteArray} {t : Int} (h : RTextI l s pos cnt X) (hp : pos < s.size) (hn : hasM l (Utf8.decode s pos) = some t) : RTextI l s (pos + (Utf8.decode s pos).2) (cnt + 1) (X ++ Utf8.encode t) := by
  obtain ⟨h1, h2, h3⟩ := h
  have hb := dec_bounds s pos hp
  rw [outR_step l s pos hp, hn] at h1 h2
  simp only at h1 h2
  exact ⟨by rw [← h1, app_assoc], by omega, hb.2.2⟩

set_option maxRecDepth 100000 in
set_option maxHeartbeats 4000000 in
theorem refText_any (l : List MirD) (a : Option Addr) (n c : Nat) (s : ByteArray) (w : World) (hn : l.length = n) (hnb : n ≤ 1099511627776) (hm : MrMem w a l) (hs : s.size ≤ 1073741824) :
    Calls Tryz.prog 30 #[.slice a n c, .string s] w fun e w' => e = .returned (.tuple #[.string (outR l s 0).1, .int .i64 ((outR l s 0).2 : Nat)]) ∧ Below w.heap.size w w' := by
  have HCH := hide (refChars_any s w (by omega))
  have HOF := hide (fun r V (hb : Below w.heap.size w V) => refOf_any l a n c r V hn hnb (hm.below hb))
  have HI0 : Hid (RTextI l s 0 0 ByteArray.empty) := ⟨by simp, by omega, Nat.zero_le _⟩
  obtain ⟨OT, hOT⟩ : ∃ OT, (outR l s 0).1 = OT := ⟨_, rfl⟩
  obtain ⟨ON, hON⟩ : ∃ ON, (outR l s 0).2 = ON := ⟨_, rfl⟩
  rw [hOT, hON]
  have HOT := hide hOT
  have HON := hide hON
  have hpl := plF_len s
  clear hOT hON hn hm
  go_enter Tryz.func30, Tryz.ntmps30
  go_wp2_with fail
  refine (unhide HCH).mono ?_
  rintro e w1 ⟨v, rfl, hrow, hb1⟩
  obtain ⟨m, hm⟩ : ∃ m, (plF s 0).length = m := ⟨_, rfl⟩
  rw [hm] at hrow hpl
  obtain ⟨fa, fc, rfl⟩ := row_slice2 hrow
  have HROW := hide hrow
  have HM := hide hm
  have HB1 := hide hb1
  have hs1 := hb1.size
  clear hrow hm hb1 HCH
  go_wp2
  go_loopw [6, 7, 16] (fun v6 v7 v16 wr => ∃ (i pos cnt : Nat) (X : ByteArray), i ≤ m ∧ v16 = .int .i64 (i : Nat) ∧ v6 = .string X ∧ v7 = .int .i64 (cnt : Nat) ∧ Hid (RTextI l s pos cnt X) ∧ Hid ((plF s 0).drop i = plF s pos) ∧ Below w1.heap.size w1 wr) (fun _ _ v16 _ => m - (RowKit.intOf v16).toNat)
  case atStart => exact ⟨0, 0, 0, ByteArray.empty, Nat.zero_le _, rfl, rfl, rfl, HI0, rfl, Below.refl _ _⟩
  case round =>
    clear HI0
    obtain ⟨i, pos, cnt, X, hi, rfl, rfl, rfl, HI, HP, hB⟩ := hrel
    have hBw : Below w.heap.size w wr := (unhide HB1).trans (hB.mono hs1)
    have hsz := (unhide HI).size
    by_cases hlt : i < m
    · have hps : pos < s.size := by
        rcases Nat.lt_or_ge pos s.size with h | h
        · exact h
        · have h1 := congrArg List.length (unhide HP)
          rw [plF_end s pos (by omega), List.length_drop, unhide HM] at h1
          simp at h1; omega
      have hp0 : (plF s 0)[i]? = some pos := by
        have h1 := congrArg (fun q => q[0]?) (unhide HP)
        simp only [List.getElem?_drop, Nat.add_zero] at h1
        rw [h1, plF_step s pos hps]; rfl
      have HP2 : Hid ((plF s 0).drop (i + 1) = plF s (pos + (Utf8.decode s pos).2)) := by
        have h1 := unhide HP
        rw [plF_step s pos hps] at h1
        show _ = _
        rw [← List.drop_drop, h1]; rfl
      obtain ⟨g, hcell⟩ : ∃ g, fa = some ⟨g, 0, none⟩ ∧ ∀ j, j < m * 4 → wr.cell? ⟨g, j, none⟩ = (charCs s (plF s 0))[j]? := by
        obtain ⟨g, c', e, _⟩ := row_form (rowB (unhide HROW) hB) (by omega)
        obtain ⟨rfl, _⟩ : fa = some ⟨g, 0, none⟩ ∧ fc = c' := by simpa using e
        exact ⟨g, rfl, fun j hj => (rowB (unhide HROW) hB).cellAt j hj⟩
      obtain ⟨rfl, hcell⟩ := hcell
      have hc : ∀ j, j < 4 → wr.cell? ⟨g, i * 4 + j, none⟩ = (charC s pos)[j]? := fun j hj => (hcell (i * 4 + j) (by omega)).trans (charCs_atM s hp0 j hj)
      have cx0 : wr.cell? ⟨g, i * 4, none⟩ = some (.int .i64 (pos : Nat)) := hc 0 (by omega)
      have cx1 : wr.cell? ⟨g, i * 4 + 1, none⟩ = some (.int .i64 ((Utf8.decode s pos).2 : Nat)) := hc 1 (by omega)
      have cx2 : wr.cell? ⟨g, i * 4 + 2, none⟩ = some (.int .i32 ((Utf8.decode s pos).1 : Nat)) := hc 2 (by omega)
      have cx3 : wr.cell? ⟨g, i * 4 + 3, none⟩ = some (.bool (isB s pos)) := hc 3 (by omega)
      rw [isB_right s pos hps] at cx3
      have hbd := dec_bounds s pos hps
      have hlt' : (i : Int) < (m : Int) := by omega
      have hq1 : IntKind.i64.wrap ((i : Int) + 1) = (i : Int) + 1 := by rw [IntKind.wrap_i64]; omega
      have hq2 : IntKind.i64.wrap ((pos : Int) + ((Utf8.decode s pos).2 : Int)) = (pos : Int) + ((Utf8.decode s pos).2 : Int) := by rw [IntKind.wrap_i64]; omega
      have hq3 : IntKind.i64.wrap ((cnt : Int) + 1) = (cnt : Int) + 1 := by rw [IntKind.wrap_i64]; omega
      have hes : (s.extract pos (pos + (Utf8.decode s pos).2)).size = (Utf8.decode s pos).2 := by simp [ByteArray.size_extract]; omega
      obtain ⟨V, hV⟩ : ∃ V, wr.alloc (.cells #[.int .i64 (pos : Nat), .int .i64 ((Utf8.decode s pos).2 : Nat), .int .i32 ((Utf8.decode s pos).1 : Nat), .bool (!decide (Utf8.decode s pos = (65533, 1)))] 107) = V := ⟨_, rfl⟩
      have hVb : Below wr.heap.size wr V := by rw [← hV]; exact (Below.refl _ wr).alloc (Nat.le_refl _) _
      have vM : V.heap[wr.heap.size]? = some (.cells #[.int .i64 (pos : Nat), .int .i64 ((Utf8.decode s pos).2 : Nat), .int .i32 ((Utf8.decode s pos).1 : Nat), .bool (!decide (Utf8.decode s pos = (65533, 1)))] 107 (0, 0)) := by rw [← hV]; exact heap_alloc_new wr _
      have v0 : V.cell? ⟨wr.heap.size, 0, none⟩ = some (.int .i64 (pos : Nat)) := by simp [World.cell?, vM]
      have v1 : V.cell? ⟨wr.heap.size, 1, none⟩ = some (.int .i64 ((Utf8.decode s pos).2 : Nat)) := by simp [World.cell?, vM]
      have v2 : V.cell? ⟨wr.heap.size, 2, none⟩ = some (.int .i32 ((Utf8.decode s pos).1 : Nat)) := by simp [World.cell?, vM]
      have v3 : V.cell? ⟨wr.heap.size, 3, none⟩ = some (.bool (!decide (Utf8.decode s pos = (65533, 1)))) := by simp [World.cell?, vM]
      have hBV : Below w1.heap.size w1 V := hB.trans (hVb.mono hB.size)
      have hBVw : Below w.heap.size w V := hBw.trans (hVb.mono hBw.size)
      have hof := unhide HOF ((Utf8.decode s pos).1 : Nat) V hBVw
      have hxsz : X.size ≤ 4294967296 := by omega
      cases hh : hasM l (Utf8.decode s pos) with
      | none =>
        have HI2 := hide ((unhide HI).stay hps hh)
        have hor : Utf8.decode s pos = (65533, 1) ∨ ofM l ((Utf8.decode s pos).1 : Nat) = none := by
          unfold hasM at hh
          by_cases hw : Utf8.decode s pos = (65533, 1)
          · exact .inl hw
          · rw [if_neg hw] at hh; exact .inr hh
        have hsum : ¬ 9223372036854775807 < X.size + (s.extract pos (pos + (Utf8.decode s pos).2)).size := by rw [hes]; omega
        have e1 : (pos : Int) ≤ (pos : Int) + ((Utf8.decode s pos).2 : Int) := by omega
        have e2 : ¬ (s.size : Int) < (pos : Int) + ((Utf8.decode s pos).2 : Int) := by omega
        have e3 : (pos : Int) + ((Utf8.decode s pos).2 : Int) ≤ (s.size : Int) := by omega
        have e4 : ((pos : Int) + ((Utf8.decode s pos).2 : Int)).toNat = pos + (Utf8.decode s pos).2 := by omega
        by_cases hw : Utf8.decode s pos = (65533, 1)
        · rw [decide_eq_true hw] at v3 cx3 hV
          simp only [Bool.not_true] at v3 cx3 hV
          have hst : V.setCell ⟨wr.heap.size, 3, none⟩ (.bool false) = V := setCell_sameM vM (by rw [decide_eq_true hw]; rfl)
          have hfz : V.frozen? ⟨wr.heap.size, 3, none⟩ = false := by simp [World.frozen?, vM]
          obtain ⟨x, hx⟩ : ∃ x, (ofM l ((Utf8.decode s pos).1 : Nat)).getD ((Utf8.decode s pos).1 : Nat) = x := ⟨_, rfl⟩
          obtain ⟨k, hk⟩ : ∃ k, (ofM l ((Utf8.decode s pos).1 : Nat)).isSome = k := ⟨_, rfl⟩
          rw [hx, hk] at hof
          have HOFX := hide hof
          have HBV := hide hBV
          clear hof hw hh hor hx hk hc hcell hp0 HI HP hVb vM hBV hBVw hB hBw hes
          generalize (Utf8.decode s pos).1 = R at *
          generalize (Utf8.decode s pos).2 = D at *
          go_wp2_with (go_at_call 28; with_reducible refine (unhide HOFX).mono ?_; rintro e w5 ⟨rfl, h5⟩; obtain rfl : V = w5 := h5.symm)
          go_roundw
          case rel => exact ⟨i + 1, pos + D, cnt, _, by omega, by go_num, rfl, rfl, HI2, HP2, unhide HBV⟩
          case measure => simp [RowKit.intOf]; omega
        · have ho : ofM l ((Utf8.decode s pos).1 : Nat) = none := hor.resolve_left hw
          rw [decide_eq_false hw] at v3 cx3 hV
          simp only [Bool.not_false] at v3 cx3 hV
          rw [ho] at hof
          simp only [Option.getD_none, Option.isSome_none] at hof
          have HOFX := hide hof
          have HBV := hide hBV
          clear hof hw hh hor ho hc hcell hp0 HI HP hVb vM hBV hBVw hB hBw hes
          generalize (Utf8.decode s pos).1 = R at *
          generalize (Utf8.decode s pos).2 = D at *
          go_wp2_with (go_at_call 28; with_reducible refine (unhide HOFX).mono ?_; rintro e w5 ⟨rfl, h5⟩; obtain rfl : V = w5 := h5.symm)
          go_roundw
          case rel => exact ⟨i + 1, pos + D, cnt, _, by omega, by go_num, rfl, rfl, HI2, HP2, unhide HBV⟩
          case measure => simp [RowKit.intOf]; omega
      | some t =>
        have HI2 := hide ((unhide HI).turn hps hh)
        have hne : ¬ Utf8.decode s pos = (65533, 1) := by
          intro hw
          unfold hasM at hh
          rw [if_pos hw] at hh; cases hh
        have ho : ofM l ((Utf8.decode s pos).1 : Nat) = some t := by
          unfold hasM at hh
          rw [if_neg hne] at hh; exact hh
        rw [decide_eq_false hne] at v3 cx3 hV
        simp only [Bool.not_false] at v3 cx3 hV
        rw [ho] at hof
        simp only [Option.getD_some, Option.isSome_some] at hof
        have HOFX := hide hof
        have hez := encode_size_le t
        have hsum : ¬ 9223372036854775807 < X.size + (Utf8.encode t).size := by omega
        obtain ⟨V2, hV2⟩ : ∃ V2, V.alloc (.cells #[.int .i32 t] 21) = V2 := ⟨_, rfl⟩
        have hV2b : Below V.heap.size V V2 := by rw [← hV2]; exact (Below.refl _ V).alloc (Nat.le_refl _) _
        have hvc : V2.cell? ⟨V.heap.size, 0, none⟩ = some (.int .i32 t) := by rw [← hV2]; simp
        have hen : Calls Tryz.prog 53 #[.slice (some ⟨V.heap.size, 0, none⟩) 1 1] V2 fun e w' => e = .returned (.string (runesBytes [t])) ∧ Below V2.heap.size V2 w' := refEncode_any (some ⟨V.heap.size, 0, none⟩) 1 [t] V2 (fun k hk => by
          have : k = 0 := by simpa using hk
          subst this
          exact ⟨V.heap.size, 0, rfl, hvc⟩) (by simp)
        rw [runesBytes_one] at hen
        have HEN := hide hen
        clear hen
        have HBV2 : Hid (Below w1.heap.size w1 V2) := hBV.trans (hV2b.mono hBV.size)
        have e1 : (pos : Int) ≤ (pos : Int) + ((Utf8.decode s pos).2 : Int) := by omega
        have e2 : ¬ (s.size : Int) < (pos : Int) + ((Utf8.decode s pos).2 : Int) := by omega
        have e3 : (pos : Int) + ((Utf8.decode s pos).2 : Int) ≤ (s.size : Int) := by omega
        have e4 : ((pos : Int) + ((Utf8.decode s pos).2 : Int)).toNat = pos + (Utf8.decode s pos).2 := by omega
        clear hof hne hh ho hc hcell hp0 HI HP hVb vM hBV hBVw hB hBw hes hV2b
        generalize (Utf8.decode s pos).1 = R at *
        generalize (Utf8.decode s pos).2 = D at *
        go_wp2_with (first | (go_at_call 28; with_reducible refine (unhide HOFX).mono ?_; rintro e w5 ⟨rfl, h5⟩; obtain rfl : V = w5 := h5.symm) | (go_at_call 53; with_reducible refine (unhide HEN).mono ?_; rintro e w6 ⟨rfl, hb6⟩))
        go_roundw
        case rel => exact ⟨i + 1, pos + D, cnt + 1, _, by omega, by go_num, rfl, by go_num, HI2, HP2, (unhide HBV2).trans (hb6.mono (unhide HBV2).size)⟩
        case measure => simp [RowKit.intOf]; omega
    · obtain rfl : i = m := by omega
      have hnil : plF s pos = [] := by rw [← unhide HP, List.drop_eq_nil_of_le (by rw [unhide HM]; exact Nat.le_refl _)]
      have hpe : ¬ pos < s.size := by
        intro h
        rw [plF_step s pos h] at hnil
        cases hnil
      have hfin := (unhide HI).1
      have hcf := (unhide HI).2.1
      rw [outR_end l s pos hpe, unhide HOT, app_nil] at hfin
      rw [outR_end l s pos hpe, unhide HON] at hcf
      have hXO : X = OT := hfin
      subst hXO
      obtain rfl : cnt = ON := by simpa using hcf
      clear hcf HI hnil hB
      go_wp2
      go_ret2
      exact ⟨rfl, hBw⟩
end Go.Proofs.YtnabbahdmajfpaaGreatDoor
