/-
  The document's Place (furrowref03), for every text, line and column.
-/
import Derived.Test.YtlaennakglhmjaaDoorLPlace
import Derived.Test.YtlaennakglhmjaaDoorRWhere
namespace Go.Proofs.YtlaennakglhmjaaDoor
open Go.RowKit Go.PlainAid Go.Lib Go.Shelf
set_option linter.unusedVariables false

theorem place_bad (s : ByteArray) (l c : Int) (h : l < 1 ∨ ((extsL s).length : Int) < l ∨ c < 1) : placeR s l c = (0, 2) := by
  unfold placeR
  cases hx : lineAt s l with
  | none => rfl
  | some x =>
    simp only []
    have h0 := hx
    unfold lineAt at h0
    split at h0
    · have := (List.getElem?_eq_some_iff.1 h0).1
      cases hy : colAt s x c with
      | none => rfl
      | some y =>
        unfold colAt at hy
        split at hy
        · omega
        · cases hy
    · cases h0
theorem place_at (s : ByteArray) (m k : Nat) (x : Nat × Nat × Nat) (hx : (extsL s)[m]? = some x) :
    placeR s ((m : Int) + 1) ((k : Int) + 1) = (if h : k < (plF (s.extract x.2.1 x.2.2) 0).length then (((x.2.1 : Int) + (((plF (s.extract x.2.1 x.2.2) 0)[k] : Nat) : Int)), 0) else if k = (plF (s.extract x.2.1 x.2.2) 0).length then ((x.2.2 : Int), 0) else (0, 2)) := by
  unfold placeR
  have h1 : lineAt s ((m : Int) + 1) = some x := by unfold lineAt; rw [if_pos (by omega), show ((m : Int) + 1 - 1).toNat = m by omega]; exact hx
  rw [h1]
  simp only []
  have h2 : colAt s x ((k : Int) + 1) = (colsL s x.2.1 x.2.2)[k]? := by unfold colAt; rw [if_pos (by omega), show ((k : Int) + 1 - 1).toNat = k by omega]
  rw [h2]
  unfold colsL
  rw [cols_at]
  split
  · rename_i h; split at h
    · cases h
    · split at h
      · cases h
      · rw [dif_neg (by assumption), if_neg (by assumption)]
  · rename_i y h; split at h
    · rw [dif_pos (by assumption)]
      rw [← Option.some.inj h]
      simp
    · split at h
      · rw [dif_neg (by assumption), if_pos (by assumption), ← Option.some.inj h]
      · cases h

set_option maxRecDepth 100000 in
set_option maxHeartbeats 4000000 in
theorem refPlace_any (s : ByteArray) (l c : Int) (w : World) (hs : s.size ≤ 1099511627776) :
    Calls Tryd.prog 30 #[.string s, .int .i64 l, .int .i64 c] w fun e w' => e = .returned (.tuple #[.int .i64 (placeR s l c).1, .int .i64 (placeR s l c).2]) ∧ Below w.heap.size w w' := by
  have HEN := hide (fun w => refEnds_any s w hs)
  have hxl := exts_len s
  by_cases hbad : l < 1 ∨ ((extsL s).length : Int) < l ∨ c < 1
  · rw [place_bad s l c hbad]
    obtain ⟨N, hN⟩ : ∃ N, (extsL s).length = N := ⟨_, rfl⟩
    rw [hN] at hbad hxl
    have HN := hide hN
    clear hN
    by_cases h1 : l < 1
    · have d1 : decide (l < 1) = true := decide_eq_true h1
      go_enter Tryd.func30, Tryd.ntmps30
      go_wp2_with fail
      refine (unhide HEN _).mono ?_
      rintro e w1 ⟨v, rfl, hrow, hb1⟩
      obtain ⟨a, ca, rfl, -⟩ := pi_row hrow
      clear hrow
      go_wp2
      go_ret2
      exact ⟨rfl, hb1⟩
    · have d1 : decide (l < 1) = false := decide_eq_false h1
      have d1' : ¬ l < 1 := h1
      by_cases h2 : (N : Int) < l
      · have d2 : decide ((N : Int) < l) = true := decide_eq_true h2
        go_enter Tryd.func30, Tryd.ntmps30
        go_wp2_with fail
        refine (unhide HEN _).mono ?_
        rintro e w1 ⟨v, rfl, hrow, hb1⟩
        obtain ⟨a, ca, rfl, -⟩ := pi_row hrow
        rw [unhide HN]
        clear hrow
        go_wp2
        go_ret2
        exact ⟨rfl, hb1⟩
      · have d2 : decide ((N : Int) < l) = false := decide_eq_false h2
        have d2' : ¬ (N : Int) < l := h2
        have d3 : decide (c < 1) = true := decide_eq_true (by omega)
        go_enter Tryd.func30, Tryd.ntmps30
        go_wp2_with fail
        refine (unhide HEN _).mono ?_
        rintro e w1 ⟨v, rfl, hrow, hb1⟩
        obtain ⟨a, ca, rfl, -⟩ := pi_row hrow
        rw [unhide HN]
        clear hrow
        go_wp2
        go_ret2
        exact ⟨rfl, hb1⟩
  · obtain ⟨m, rfl⟩ : ∃ m : Nat, l = (m : Int) + 1 := ⟨(l - 1).toNat, by omega⟩
    obtain ⟨k, rfl⟩ : ∃ k : Nat, c = (k : Int) + 1 := ⟨(c - 1).toNat, by omega⟩
    obtain ⟨x, hx⟩ : ∃ x, (extsL s)[m]? = some x := ⟨_, List.getElem?_eq_getElem (by omega)⟩
    obtain ⟨R, hR⟩ : ∃ R, placeR s ((m : Int) + 1) ((k : Int) + 1) = R := ⟨_, rfl⟩
    have HR := hide (hR.symm.trans (place_at s m k x hx))
    rw [hR]
    clear hR
    have hme := exts_mem s x (List.mem_of_getElem? hx)
    obtain ⟨N, hN⟩ : ∃ N, (extsL s).length = N := ⟨_, rfl⟩
    rw [hN] at hbad hxl
    have HX := hide hx
    have HN := hide hN
    clear hN hx
    obtain ⟨EX, EF, ET⟩ := x
    simp only [] at hme HR
    have hxs : (s.extract EF ET).size = ET - EF := by rw [← L_len, L_extract, List.length_take, List.length_drop, L_len]; omega
    obtain ⟨X, hX⟩ : ∃ X, s.extract EF ET = X := ⟨_, rfl⟩
    rw [hX] at hxs HR
    have hpl := plF_len X
    have HCH := hide (fun w => refChars_any X w (by omega))
    have hd1 : decide ((m : Int) + 1 < 1) = false := decide_eq_false (by omega)
    have hd1' : ¬ (m : Int) + 1 < 1 := by omega
    have hd2 : decide ((N : Int) < (m : Int) + 1) = false := decide_eq_false (by omega)
    have hd2' : ¬ (N : Int) < (m : Int) + 1 := by omega
    have hd3 : decide ((k : Int) + 1 < 1) = false := decide_eq_false (by omega)
    have hd3' : ¬ (k : Int) + 1 < 1 := by omega
    have hm1 : (m : Int) + 1 - 1 = (m : Int) := by omega
    have hk1 : (k : Int) + 1 - 1 = (k : Int) := by omega
    have hmN : m < N := by omega
    have hEl : (EF : Int) ≤ (ET : Int) := by omega
    have hEs : (ET : Int) ≤ (s.size : Int) := by omega
    go_enter Tryd.func30, Tryd.ntmps30
    go_wp2_with fail
    refine (unhide HEN _).mono ?_
    rintro e w1 ⟨v, rfl, hrow, hb1⟩
    obtain ⟨a, ca, rfl, hat⟩ := pi_row hrow
    rw [unhide HN]
    obtain ⟨g, rfl, p0, p1, p2⟩ := hat m _ (unhide HX)
    simp only [] at p0 p1 p2
    generalize endNext s EF = NX at *
    clear hrow hat
    go_wp2_with fail
    refine (unhide HCH _).mono ?_
    rintro e w2 ⟨vc, rfl, hrowc, hb2⟩
    have hbx : w2.heap[w1.heap.size]? = some (.cells #[.int .i64 (EF : Nat), .int .i64 (ET : Nat), .int .i64 (NX : Nat)] 61) := (hb2.block _ (by simp)).trans (heap_alloc_new w1 _)
    have hBw : Below w.heap.size w w2 := (hb1.alloc hb1.size _).trans (hb2.mono (by have := hb1.size; simp; omega))
    obtain ⟨cca, cc, rfl, -, hcat⟩ := cc_row hrowc
    obtain ⟨z0, z1, z2⟩ := box3 hbx
    clear hbx hb2 hb1 p0 p1 p2 hrowc
    generalize w1.heap.size = b9 at *
    obtain ⟨n, hn⟩ : ∃ n, (plF X 0).length = n := ⟨_, rfl⟩
    rw [hn] at hpl
    rw [hn]
    by_cases q1 : k < n
    · obtain ⟨y, hy⟩ : ∃ y, (plF X 0)[k]? = some y := ⟨_, List.getElem?_eq_getElem (by rw [hn]; exact q1)⟩
      obtain ⟨g', rfl, y0, y1, y2, y3⟩ := hcat k y hy
      have hyl := plF_up X k y hy
      have e1 : (plF X 0)[k]'(by rw [hn]; exact q1) = y := (List.getElem?_eq_some_iff.1 hy).2
      have HE1 : Hid (R = ((EF : Int) + (y : Int), 0)) := by show _ = _; rw [unhide HR, dif_pos (by rw [hn]; exact q1), e1]
      have d4 : decide ((k : Int) + 1 ≤ (n : Int)) = true := decide_eq_true (by omega)
      have d4' : (k : Int) + 1 ≤ (n : Int) := by omega
      clear hcat hy e1
      go_wp2
      go_quiet (fail)
      go_wp2
      go_ret2
      exact ⟨by rw [HE1.out]; rfl, below_drewN hBw _⟩
    · have d4 : decide ((k : Int) + 1 ≤ (n : Int)) = false := decide_eq_false (by omega)
      have d4' : ¬ (k : Int) + 1 ≤ (n : Int) := by omega
      by_cases q2 : k = n
      · have HE1 : Hid (R = ((ET : Int), 0)) := by show _ = _; rw [unhide HR, dif_neg (by omega), if_pos (by omega)]
        have d5 : ((k : Int) + 1 == (n : Int) + 1) = true := by simp; omega
        clear hcat hn q2
        go_wp2
        go_ret2
        exact ⟨by rw [HE1.out]; rfl, hBw⟩
      · have HE1 : Hid (R = (0, 2)) := by show _ = _; rw [unhide HR, dif_neg (by omega), if_neg (by omega)]
        have d5 : ((k : Int) + 1 == (n : Int) + 1) = false := by simp; omega
        clear hcat hn
        go_wp2
        go_ret2
        exact ⟨by rw [HE1.out]; rfl, hBw⟩
end Go.Proofs.YtlaennakglhmjaaDoor
