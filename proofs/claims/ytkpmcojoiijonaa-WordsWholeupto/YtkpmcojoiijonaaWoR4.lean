/-
  The document's answer for layer 5: Words.
-/
import Derived.Test.YtkpmcojoiijonaaWoG
import Derived.Test.YtkpmcojoiijonaaRefRunes
namespace Go.Proofs.Ytkpmcojoiijonaa
open Go.RowKit Go.PlainAid Go.Lib
set_option linter.unusedVariables false

theorem infoWord : (Try.prog.info? 30).map (fun i => (i.zero, i.size, i.bytes)) = some (some (.agg #[.int .i64 0, .string ⟨#[]⟩]), 2, 24) := by kernel_rfl
def wordCs (s : ByteArray) (l : List (Nat × Nat)) : List Value := l.flatMap fun x => [.int .i64 (x.1 : Nat), .string (s.extract x.1 x.2)]
theorem wordCs_snoc (s : ByteArray) (l : List (Nat × Nat)) (x : Nat × Nat) : wordCs s (l ++ [x]) = wordCs s l ++ [.int .i64 (x.1 : Nat), .string (s.extract x.1 x.2)] := by simp [wordCs]
theorem wordCs_len (s : ByteArray) (l : List (Nat × Nat)) : (wordCs s l).length = l.length * 2 := by
  induction l with
  | nil => rfl
  | cons x l ih => simp only [wordCs, List.flatMap_cons, List.length_append, List.length_cons, List.length_nil] at ih ⊢; omega
theorem extract_join (s : ByteArray) (a b c : Nat) (h1 : a ≤ b) (h2 : b ≤ c) (h3 : c ≤ s.size) : s.extract a b ++ s.extract b c = s.extract a c := by
  have hx : ∀ a b j, a + j < b → b ≤ s.size → bN (s.extract a b) j = bN s (a + j) := by
    intro a b j h1 h2
    unfold bN
    rw [get_in _ _ (by simp [ByteArray.size_extract]; omega), get_in s (a + j) (by omega)]
    simp [ByteArray.getElem_extract]
  have e1 : (s.extract a b).size = b - a := by simp [ByteArray.size_extract]; omega
  have e2 : (s.extract b c).size = c - b := by simp [ByteArray.size_extract]; omega
  have e3 : (s.extract a c).size = c - a := by simp [ByteArray.size_extract]; omega
  refine bytes_ext (by rw [ByteArray.size_append]; omega) (fun k hk => ?_)
  rw [ByteArray.size_append] at hk
  rw [bN_append, e1, hx a c k (by omega) h3]
  split
  · rw [hx a b k (by omega) (by omega)]
  · rw [hx b c _ (by omega) h3]; congr 1; omega

set_option maxRecDepth 100000 in
set_option maxHeartbeats 4000000 in
theorem rWords_any (s : ByteArray) (w : World) (hs : s.size ≤ 1099511627776) :
    Calls Try.prog 16 #[.string s] w fun e w' => ∃ v, e = .returned v ∧ w'.ownsRow w.heap.size 30 2 v (wordsL s).length (wordCs s (wordsL s)) ∧ Below w.heap.size w w' := by
  obtain ⟨i0, hi, hz0, hz1, hz2⟩ := info_parts infoWord
  have hcl := chars_length s 0
  have hpl := places_length s
  go_enter Try.func16, Try.ntmps16
  go_wp2_with fail
  refine (refSpots_any s w hs).mono ?_
  rintro e w1 ⟨v, rfl, hrow, hb1⟩
  obtain ⟨l, c, rfl, hx1, hx2⟩ := sc_row hrow
  clear hx1 hx2
  rw [hpl]
  rw [hpl] at hrow
  have HPL := hide hpl
  clear hpl
  generalize hL : (chars s 0).length = L at *
  have HL := hide hL
  clear hL
  go_wp2
  go_loopw [4, 5, 6] (fun v4 v5 v6 wr => ∃ (k pos f : Nat) (b : Bool) (pre don : List (Nat × Nat)), k ≤ L ∧ v6 = .int .i64 k ∧ v5 = .bool b ∧ f ≤ pos ∧ pos ≤ s.size ∧ Hid (pre ++ chars s pos = chars s 0 ∧ pre.length = k) ∧ Hid (don ++ wordsG s (chars s pos) f b = wordsL s) ∧ don.length ≤ k ∧ (b = true → don.length < k) ∧
      wr.ownsRow w.heap.size 30 2 v4 (don ++ (if b then [(f, pos)] else [])).length (wordCs s (don ++ (if b then [(f, pos)] else []))) ∧ Below w.heap.size w wr ∧ wr.ownsRow w.heap.size 62 4 (.slice l L c) L (spotCs s (places s))) (fun _ _ v6 _ => L - (intOf v6).toNat)
  case atStart => exact ⟨0, 0, 0, false, [], [], Nat.zero_le _, rfl, rfl, Nat.le_refl _, Nat.zero_le _, ⟨rfl, rfl⟩, rfl, Nat.le_refl _, (fun h => by cases h), by simpa [wordCs] using World.ownsRow_nil w1 _ _ _, hb1, hrow⟩
  case round =>
    clear hrow hb1
    obtain ⟨k, pos, f, b, pre, don, hk, rfl, rfl, hfp, hps, HP, HD, hdk, hdb, hrow, hB, hsr⟩ := hrel
    by_cases hlt : k < L
    · have hpos : pos < s.size := by
        rcases Nat.lt_or_ge pos s.size with h | h
        · exact h
        · have h1 := congrArg List.length HP.out.1
          rw [chars_end s pos (by omega), List.append_nil, HP.out.2, unhide HL] at h1; omega
      have hpk : (places s)[k]? = some pos := by
        unfold places
        rw [← HP.out.1, chars_step s pos hpos, List.map_append, List.getElem?_append_right (by rw [List.length_map, HP.out.2]; exact Nat.le_refl _), List.length_map, HP.out.2, Nat.sub_self]
        rfl
      have hbd := dec_bounds s pos hpos
      have HP2 : Hid (pre ++ [(pos, (Utf8.decode s pos).1)] ++ chars s (pos + (Utf8.decode s pos).2) = chars s 0 ∧ (pre ++ [(pos, (Utf8.decode s pos).1)]).length = k + 1) := by
        refine ⟨?_, by rw [List.length_append, HP.out.2]; rfl⟩
        rw [← HP.out.1, chars_step s pos hpos]; simp
      obtain ⟨l', c'', he, hy1, hsp⟩ := sc_row hsr
      clear hy1
      obtain ⟨rfl, rfl⟩ : l = l' ∧ c = c'' := by simpa using he
      obtain ⟨g, rfl, y0, y1, y2, _⟩ := hsp k pos hpk
      clear hsp he
      have hstep := wordsG_step s pos f b hpos
      have hBs := hB.size
      cases hbl : blankB (((Utf8.decode s pos).1 : Nat) : Int) with
      | true =>
        rw [hbl] at hstep
        simp only [if_true] at hstep
        have HD2 : Hid (don ++ (if b then [(f, pos)] else []) ++ wordsG s (chars s (pos + (Utf8.decode s pos).2)) f false = wordsL s) := by
          show _ = _
          rw [← HD.out, hstep]
          cases b <;> simp
        have HB := hide hbl
        have hdl : (don ++ (if b then [(f, pos)] else [])).length ≤ k + 1 := by cases b <;> simp <;> omega
        clear hstep hbl hdb
        generalize (don ++ (if b then [(f, pos)] else [])) = don2 at *
        go_wp2_with (go_at_call 14; refine (rBlank_any _ wr).mono ?_; rintro e w' ⟨rfl, hw⟩; obtain rfl : wr = w' := hw.symm; rw [unhide HB])
        go_roundw
        case rel => exact ⟨k + 1, pos + (Utf8.decode s pos).2, f, false, _, don2, by omega, by go_num, rfl, by omega, hbd.2.2, HP2, HD2, hdl, (fun h => by cases h), by simpa using hrow, hB, hsr⟩
        case measure => simp [intOf]; omega
      | false =>
        rw [hbl] at hstep
        simp only [Bool.false_eq_true, if_false] at hstep
        have HB := hide hbl
        clear hbl
        generalize hR : (Utf8.decode s pos).1 = R at *
        generalize hDD : (Utf8.decode s pos).2 = D at *
        clear hR hDD hpk
        obtain ⟨d1, d2, d3⟩ := hbd
        have z1 : (pos : Int) ≤ (pos : Int) + (D : Int) := by omega
        have z2 : (pos : Int) + (D : Int) ≤ (s.size : Int) := by omega
        have z3 : ((pos : Int) + (D : Int)).toNat = pos + D := by omega
        cases b with
        | true =>
          simp only [if_true] at hstep hrow
          have hdl := hdb rfl
          have HD2 : Hid (don ++ wordsG s (chars s (pos + D)) f true = wordsL s) := by show _ = _; rw [← HD.out, hstep]
          have HJ := hide (extract_join s f pos (pos + D) hfp (by omega) d3)
          go_wp2_with (go_at_call 14; refine (rBlank_any _ wr).mono ?_; rintro e w' ⟨rfl, hw⟩; obtain rfl : wr = w' := hw.symm; rw [unhide HB])
          go_quiet (fail)
          have hrowD : (wr.drewN nq).ownsRow w.heap.size 30 2 u4 (don.length + 1) (wordCs s (don ++ [(f, pos)])) := by rw [List.length_append] at hrow; exact hrow
          have hsrD : (wr.drewN nq).ownsRow w.heap.size 62 4 (.slice (some ⟨g, 0, none⟩) L c) L (spotCs s (places s)) := hsr
          have hBD : Below w.heap.size w (wr.drewN nq) := below_drewN hB nq
          clear hrow hsr hB y0 y1 y2
          generalize wr.drewN nq = WD at *
          obtain ⟨go, cap, rfl⟩ := ownsRow_succ hrowD
          have c1 : WD.cell? ⟨go, don.length * 2 + 1, none⟩ = some (.string (s.extract f pos)) := by
            rw [hrowD.cellAt (don.length * 2 + 1) (by omega), wordCs_snoc, List.getElem?_append_right (by rw [wordCs_len]; omega), wordCs_len, show don.length * 2 + 1 - don.length * 2 = 1 by omega]
            rfl
          have f1 := hrowD.frozenAt (don.length * 2 + 1)
          have e1 : (s.extract f pos).size = pos - f := by simp [ByteArray.size_extract]; omega
          have e2 : (s.extract pos (pos + D)).size = D := by simp [ByteArray.size_extract]; omega
          have hcap : don.length + 1 ≤ cap ∧ cap ≤ 9223372036854775807 ∧ w.heap.size ≤ go := by
            rcases hrowD.2 with ⟨h, _⟩ | ⟨g', cap', cur, h, h0, _, h1, h2, _⟩
            · simp at h
            · simp only [Value.slice.injEq, Option.some.injEq, Addr.mk.injEq, and_true, true_and] at h
              unfold maxLen at h2
              omega
          obtain ⟨k1, k2, k3⟩ := hcap
          have hset : Hid ((wordCs s (don ++ [(f, pos)])).set (don.length * 2 + 1) (.string (s.extract f (pos + D))) = wordCs s (don ++ [(f, pos + D)])) := by
            show _ = _
            rw [wordCs_snoc, wordCs_snoc, List.set_append_right _ _ (by rw [wordCs_len]; omega), wordCs_len, show don.length * 2 + 1 - don.length * 2 = 1 by omega]
            rfl
          have hst := hrowD.stored (don.length * 2 + 1) (.string (s.extract f (pos + D)))
          rw [hset.out] at hst
          have hsr5 := hsrD.kept hst.2 (rows_apart hsrD hrowD (by decide))
          have HST := hide hst.1
          have HSR := hide hsr5
          have HBS := hide (hBD.setCell (p := ⟨go, don.length * 2 + 1, none⟩) k3 (.string (s.extract f (pos + D))))
          have HLN : Hid ((don ++ [(f, pos + D)]).length = don.length + 1) := by show _ = _; simp
          clear hst hsr5 hrowD hsrD hBD hset hstep HD HP
          generalize hm : don.length = m at *
          have z4 : ((m + 1 : Nat) : Int) - 1 = m := by omega
          go_wp2
          go_roundw
          case rel => exact ⟨k + 1, pos + D, f, true, _, don, by omega, by go_num, rfl, by omega, d3, HP2, HD2, by omega, fun _ => by omega, by simp only [if_true]; rw [HLN.out]; exact unhide HST, unhide HBS, unhide HSR⟩
          case measure => simp [intOf]; omega
        | false =>
          simp only [Bool.false_eq_true, if_false, List.append_nil] at hstep hrow
          have HD2 : Hid (don ++ wordsG s (chars s (pos + D)) pos true = wordsL s) := by show _ = _; rw [← HD.out, hstep]
          go_wp2_with (go_at_call 14; refine (rBlank_any _ wr).mono ?_; rintro e w' ⟨rfl, hw⟩; obtain rfl : wr = w' := hw.symm; rw [unhide HB])
          go_quiet (fail)
          have hrowD : (wr.drewN nq).ownsRow w.heap.size 30 2 u4 don.length (wordCs s don) := hrow
          have hsrD : (wr.drewN nq).ownsRow w.heap.size 62 4 (.slice (some ⟨g, 0, none⟩) L c) L (spotCs s (places s)) := hsr
          have hBD : Below w.heap.size w (wr.drewN nq) := below_drewN hB nq
          have x0 : (wr.drewN nq).cell? ⟨g, k * 4, none⟩ = some (.int .i64 (pos : Nat)) := y0
          clear hrow hsr hB y0 y1 y2 hdb
          generalize wr.drewN nq = WD at *
          have hBs2 := hBD.size
          obtain ⟨va, vc, rfl⟩ := row_sliceC hrowD
          have HW := hide (wordCs_snoc s don (pos, pos + D))
          have HLN : Hid ((don ++ [(pos, pos + D)]).length = don.length + 1) := by show _ = _; simp
          clear hstep HD HP
          go_wp2_with (at_builtin; refine wpList_append_own _ rfl _ _ 24 rfl w.heap.size 30 i0 (.agg #[.int .i64 0, .string ⟨#[]⟩]) 2 24 Try.underlying24 hi hz0 hz1 hz2 rfl (by decide) _ _ _ rfl (hrowD.alloc _) ⟨WD.heap.size, 0, none⟩ 1 1 [.int .i64 (pos : Nat), .string (s.extract pos (pos + D))] rfl rfl (cell_two_new _ _ _ _) (by simp [Value.oneCell']) (by unfold maxLen; omega) (by omega) (by simp; omega) ?_; intro v' w4 hown' hgrow _)
          have hsr2 := (hsrD.alloc (.cells #[.int .i64 (pos : Nat), .string (s.extract pos (pos + D))] 30)).kept hgrow (rows_apart hsrD hrowD (by decide))
          have hB2 := below_grown2 (hBD.alloc hBs2 _) (by simp; omega) (hrowD.alloc _) hgrow
          clear hsrD hrowD hBD hgrow
          go_roundw
          case rel => exact ⟨k + 1, pos + D, pos, true, _, don, by omega, by go_num, rfl, by omega, d3, HP2, HD2, by omega, fun _ => by omega, by simp only [if_true]; rw [HLN.out, unhide HW]; exact hown', hB2, hsr2⟩
          case measure => simp [intOf]; omega
    · obtain rfl : k = L := by omega
      have hpe : pos = s.size := by
        rcases Nat.lt_or_ge pos s.size with h | h
        · have h1 := congrArg List.length HP.out.1
          rw [chars_step s pos h, List.length_append, HP.out.2, unhide HL] at h1; simp at h1
        · omega
      have hwe : don ++ (if b then [(f, pos)] else []) = wordsL s := by
        have h1 := wordsG_end s pos f b (by omega)
        rw [← HD.out, h1, hpe]
      rw [hwe] at hrow
      clear hwe hpe HP HD hdb
      go_wp2
      go_ret
      exact ⟨_, rfl, hrow, hB⟩
end Go.Proofs.Ytkpmcojoiijonaa
