/-
  The document's Chars (furrowref03): what the bytes of a text stand for, for every text.
-/
import Derived.Test.YtnabbahdmajfpaaGreatDoorLCheck
namespace Go.Proofs.YtnabbahdmajfpaaGreatDoor
open Go.RowKit Go.PlainAid Go.Lib Go.Shelf
attribute [local go_sem] World.iter
set_option linter.unusedVariables false

theorem infoChar : (Tryz.prog.info? 107).map (fun i => (i.zero, i.size, i.bytes)) = some (some (.agg #[.int .i64 0, .int .i64 0, .int .i32 0, .bool false]), 4, 24) := by kernel_rfl
/-- do the bytes at a place stand for a character? -/
def isB (s : ByteArray) (i : Nat) : Bool := decide ((Utf8.decode s i).1 ≠ 65533) || decide ((Utf8.decode s i).2 = 3)
def charC (s : ByteArray) (i : Nat) : List Value := [.int .i64 (i : Nat), .int .i64 ((Utf8.decode s i).2 : Nat), .int .i32 ((Utf8.decode s i).1 : Nat), .bool (isB s i)]
def rawC (s : ByteArray) (i : Nat) : List Value := [.int .i64 (i : Nat), .int .i64 0, .int .i32 ((Utf8.decode s i).1 : Nat), .bool false]
/-- the cells of the Chars at the places l; and ahead of their widths -/
def charCs (s : ByteArray) (l : List Nat) : List Value := l.flatMap (charC s)
def rawCs (s : ByteArray) (l : List Nat) : List Value := l.flatMap (rawC s)
theorem charCs_snoc (s : ByteArray) (l : List Nat) (i : Nat) : charCs s (l ++ [i]) = charCs s l ++ charC s i := by simp [charCs]
theorem rawCs_snoc (s : ByteArray) (l : List Nat) (i : Nat) : rawCs s (l ++ [i]) = rawCs s l ++ rawC s i := by simp [rawCs]
theorem rawCs_cons (s : ByteArray) (i : Nat) (l : List Nat) : rawCs s (i :: l) = rawC s i ++ rawCs s l := rfl
theorem charCs_len (s : ByteArray) (l : List Nat) : (charCs s l).length = l.length * 4 := by
  induction l with
  | nil => rfl
  | cons x l ih => simp only [charCs, charC, List.flatMap_cons, List.length_append, List.length_cons, List.length_nil] at ih ⊢; omega
theorem cell4_new (w : World) (a b c d : Value) (t : TypeId) : ∀ j u, [a, b, c, d][j]? = some u → (w.alloc (.cells #[a, b, c, d] t)).cell? ((⟨w.heap.size, 0, none⟩ : Addr).add j) = some u := by
  intro j u hj
  match j, hj with
  | 0, hj => simp at hj; subst hj; simp [Addr.add]
  | 1, hj => simp at hj; subst hj; simp [Addr.add]
  | 2, hj => simp at hj; subst hj; simp [Addr.add]
  | 3, hj => simp at hj; subst hj; simp [Addr.add]
  | j + 4, hj => simp at hj
/-- the places of the characters from byte i on -/
def plF (s : ByteArray) (i : Nat) : List Nat := (chars s i).map (·.1)
theorem plF_step (s : ByteArray) (i : Nat) (h : i < s.size) : plF s i = i :: plF s (i + (Utf8.decode s i).2) := by unfold plF; rw [chars_step s i h]; rfl
theorem plF_end (s : ByteArray) (i : Nat) (h : ¬ i < s.size) : plF s i = [] := by unfold plF; rw [chars_end s i h]; rfl
theorem plF_len (s : ByteArray) : (plF s 0).length ≤ s.size := by have := chars_length s 0; unfold plF; simp; omega
theorem rowLe {w : World} {b b' : Nat} {e : TypeId} {size : Nat} {v : Value} {n : Nat} {xs : List Value} (h : w.ownsRow b e size v n xs) (hb : b' ≤ b) : w.ownsRow b' e size v n xs := by
  refine ⟨h.1, ?_⟩
  rcases h.2 with h | ⟨g, cap, cur, h1, h2, h3⟩
  · exact .inl h
  · exact .inr ⟨g, cap, cur, h1, Nat.le_trans hb h2, h3⟩
theorem row_form {w : World} {base : Nat} {e : TypeId} {size : Nat} {v : Value} {n : Nat} {xs : List Value} (h : w.ownsRow base e size v n xs) (h0 : 0 < n) : ∃ g c, v = .slice (some ⟨g, 0, none⟩) n c ∧ n ≤ c ∧ c ≤ maxLen ∧ base ≤ g ∧ g < w.heap.size := by
  rcases h.2 with ⟨_, h1⟩ | ⟨g, cap, cur, rfl, hb, hg, h3, h4, h5⟩
  · omega
  · exact ⟨g, cap, rfl, h3, h4, hb, (Array.getElem?_eq_some_iff.1 hg).1⟩

set_option maxRecDepth 100000 in
set_option maxHeartbeats 2000000 in
theorem refChars_any (s : ByteArray) (w : World) (hs : s.size ≤ 1099511627776) :
    Calls Tryz.prog 52 #[.string s] w fun e w' => ∃ v, e = .returned v ∧ w'.ownsRow w.heap.size 107 4 v (plF s 0).length (charCs s (plF s 0)) ∧ Below w.heap.size w w' := by
  obtain ⟨i0, hi, hz0, hz1, hz2⟩ := info_parts infoChar
  have hcl := plF_len s
  go_enter Tryz.func52, Tryz.ntmps52
  go_wp2
  go_loopw [3] (fun v3 wr => ∃ (pos : Nat) (pre : List Nat), Hid (pre ++ plF s pos = plF s 0) ∧ wr.heap[w.heap.size]? = some (.stringIter s pos) ∧ wr.ownsRow (w.heap.size + 1) 107 4 v3 pre.length (rawCs s pre) ∧ Below w.heap.size w wr) (fun _ wr => s.size - wr.iterPos w.heap.size)
  case atStart => exact ⟨0, [], rfl, heap_alloc_new w _, by simpa [rawCs] using World.ownsRow_nil _ _ _ _, (Below.refl _ _).alloc (Nat.le_refl _) _⟩
  case round =>
    obtain ⟨pos, pre, HP, hit, hrow, hB⟩ := hrel
    by_cases hlt : pos < s.size
    · have hnx := fun ty => run_next_any_at (P := Tryz.prog) wr w.heap.size s pos ty hit hlt
      have hb := dec_bounds s pos hlt
      have hit2 := iterAt_heap wr w.heap.size s pos (pos + (Utf8.decode s pos).2) hit
      have hB2 : Below w.heap.size w (wr.iterAt w.heap.size s (pos + (Utf8.decode s pos).2)) := hB.grown (grownBy_iterAt wr w.heap.size s _) hB.size (fun k e => by cases e; exact Nat.le_refl _)
      have hrow2 := ownsRow_iterAt hrow (Nat.lt_succ_self w.heap.size) s (pos + (Utf8.decode s pos).2)
      have hmeas : s.size - (pos + (Utf8.decode s pos).2) < s.size - wr.iterPos w.heap.size := by rw [iterPos_of hit]; omega
      have HP2 : Hid (pre ++ [pos] ++ plF s (pos + (Utf8.decode s pos).2) = plF s 0) := by
        show _ = _
        rw [← HP.out, plF_step s pos hlt]; simp
      have hpl : pre.length + 1 ≤ s.size := by
        have := congrArg List.length HP2.out
        simp at this; omega
      have hsz : w.heap.size < (wr.iterAt w.heap.size s (pos + (Utf8.decode s pos).2)).heap.size := (Array.getElem?_eq_some_iff.1 hit2).1
      have HSN := hide (rawCs_snoc s pre pos)
      unfold rawC at HSN
      generalize hW3 : wr.iterAt w.heap.size s (pos + (Utf8.decode s pos).2) = W3 at *
      clear hW3 hrow HP hB
      generalize (Utf8.decode s pos).1 = R at *
      generalize (Utf8.decode s pos).2 = D at *
      obtain ⟨a, n', c, rfl⟩ := row_slice hrow2
      go_wp2_with (at_builtin; refine wpList_append_own _ rfl _ _ 104 rfl (w.heap.size + 1) 107 i0 (.agg #[.int .i64 0, .int .i64 0, .int .i32 0, .bool false]) 4 24 Tryz.underlying104 hi hz0 hz1 hz2 rfl (by decide) _ _ _ rfl (hrow2.alloc _) ⟨W3.heap.size, 0, none⟩ 1 1 [.int .i64 (pos : Nat), .int .i64 0, .int .i32 (R : Nat), .bool false] rfl rfl (by simpa using cell4_new W3 (.int .i64 (pos : Nat)) (.int .i64 0) (.int .i32 (R : Nat)) (.bool false) 107) (by simp [Value.oneCell']) (by unfold maxLen; omega) (by omega) (by simp; omega) ?_; intro v' w4 hown' hgrow _)
      have hit4 : w4.heap[w.heap.size]? = some (.stringIter s (pos + D)) := (hgrow.block w.heap.size (by simp; omega) (fun e => by have := (hrow2.lt _ e.symm).1; omega)).trans ((Below.heap_alloc _ _ _ (by omega)).trans hit2)
      go_roundw
      case rel => exact ⟨pos + D, pre ++ [pos], HP2, hit4, by rw [unhide HSN, List.length_append]; exact hown', (hB2.alloc (by omega) _).grown hgrow (by simp; omega) (fun k e1 => by have := (hrow2.lt k e1).1; omega)⟩
      case measure => rw [iterPos_of hit4]; exact hmeas
    · have hnx := fun ty => run_next_end_at (P := Tryz.prog) wr w.heap.size s pos ty hit hlt
      have hpe : pre = plF s 0 := by have := HP.out; rw [plF_end s pos hlt] at this; simpa using this
      rw [hpe] at hrow
      clear hpe HP
      obtain ⟨N, hN⟩ : ∃ N, (plF s 0).length = N := ⟨_, rfl⟩
      rw [hN] at hrow hcl
      have HN := hide hN
      clear hN
      have hrow0 := rowLe hrow (Nat.le_succ w.heap.size)
      clear hrow
      go_wp2
      go_loopw [6] (fun v6 wr2 => ∃ (p2 : Nat) (pre : List Nat), v6 = .int .i64 (pre.length : Nat) ∧ Hid (pre ++ plF s p2 = plF s 0) ∧ Hid (p2 ≤ s.size) ∧ wr2.ownsRow w.heap.size 107 4 u3 N (charCs s pre ++ rawCs s (plF s p2)) ∧ Below w.heap.size w wr2) (fun v6 _ => N - (RowKit.intOf v6).toNat)
      case atStart => exact ⟨0, [], rfl, rfl, Nat.zero_le _, hrow0, hB⟩
      case round =>
        obtain ⟨p2, pre, rfl, HP, Hp, hrow, hB⟩ := hrel
        obtain ⟨k, hk⟩ : ∃ k, pre.length = k := ⟨_, rfl⟩
        rw [hk]
        by_cases hkn : k < N
        · have hlt2 : p2 < s.size := by
            rcases Nat.lt_or_ge p2 s.size with h | h
            · exact h
            · have := congrArg List.length HP.out
              rw [plF_end s p2 (by omega)] at this
              have := unhide HN
              simp at *; omega
          have hb := dec_bounds s p2 hlt2
          have hst := plF_step s p2 hlt2
          have hnx2 : Hid ((k + 1 < N → plF s (p2 + (Utf8.decode s p2).2) = (p2 + (Utf8.decode s p2).2) :: plF s ((p2 + (Utf8.decode s p2).2) + (Utf8.decode s (p2 + (Utf8.decode s p2).2)).2)) ∧ (¬ k + 1 < N → p2 + (Utf8.decode s p2).2 = s.size)) := by
            have h1 := congrArg List.length HP.out
            have h2 := unhide HN
            rw [hst, List.length_append, hk, List.length_cons] at h1
            refine ⟨fun h => plF_step s _ ?_, fun h => ?_⟩
            · rcases Nat.lt_or_ge (p2 + (Utf8.decode s p2).2) s.size with h' | h'
              · exact h'
              · rw [plF_end s _ (by omega)] at h1; simp at h1; omega
            · rcases Nat.lt_or_ge (p2 + (Utf8.decode s p2).2) s.size with h' | h'
              · rw [plF_step s _ h'] at h1; simp at h1; omega
              · omega
          obtain ⟨g, c, rfl, hc1, hc2, hgb, hgl⟩ := row_form hrow (by omega)
          have hcells := fun j (hj : j < N * 4) => hrow.cellAt j hj
          have hm : ∀ j, (charCs s pre ++ rawCs s (plF s p2))[k * 4 + j]? = (rawCs s (plF s p2))[j]? := by
            intro j
            rw [List.getElem?_append_right (by rw [charCs_len, hk]; omega), charCs_len, hk]
            congr 1; omega
          rw [hst] at hm hrow hcells
          have y0 : wr.cell? ⟨g, k * 4, none⟩ = some (.int .i64 (p2 : Nat)) := (hcells (k * 4) (by omega)).trans (hm 0)
          have y2 : wr.cell? ⟨g, k * 4 + 2, none⟩ = some (.int .i32 ((Utf8.decode s p2).1 : Nat)) := (hcells (k * 4 + 2) (by omega)).trans (hm 2)
          have y1 : wr.cell? ⟨g, k * 4 + 1, none⟩ = some (.int .i64 0) := (hcells (k * 4 + 1) (by omega)).trans (hm 1)
          have y3 : wr.cell? ⟨g, k * 4 + 3, none⟩ = some (.bool false) := (hcells (k * 4 + 3) (by omega)).trans (hm 3)
          have f1 := hrow.frozenAt (k * 4 + 1)
          have f3 := hrow.frozenAt (k * 4 + 3)
          have hset : Hid (∀ v1 v3, v1 = Value.int .i64 ((Utf8.decode s p2).2 : Nat) → v3 = Value.bool (isB s p2) → ((charCs s pre ++ rawCs s (p2 :: plF s (p2 + (Utf8.decode s p2).2))).set (k * 4 + 1) v1).set (k * 4 + 3) v3 = charCs s (pre ++ [p2]) ++ rawCs s (plF s (p2 + (Utf8.decode s p2).2))) := by
            rintro v1 v3 rfl rfl
            have hl : (charCs s pre).length = k * 4 := by rw [charCs_len, hk]
            rw [List.set_append_right _ _ (by omega), List.set_append_right _ _ (by omega), hl, show k * 4 + 1 - k * 4 = 1 by omega, show k * 4 + 3 - k * 4 = 3 by omega, charCs_snoc, rawCs_cons, List.append_assoc]
            rfl
          have hlen : Hid ((pre ++ [p2]).length = k + 1) := by show _ = _; simp [hk]
          have HP2 : Hid (pre ++ [p2] ++ plF s (p2 + (Utf8.decode s p2).2) = plF s 0) := by
            show _ = _
            rw [← HP.out, hst]; simp
          have y4 : Hid (k + 1 < N → wr.cell? ⟨g, (k + 1) * 4, none⟩ = some (.int .i64 (((p2 + (Utf8.decode s p2).2 : Nat) : Int)))) := by
            intro h
            refine (hcells ((k + 1) * 4) (by omega)).trans ?_
            have := hm 4
            rw [show k * 4 + 4 = (k + 1) * 4 by omega] at this
            rw [this, rawCs_cons, hnx2.out.1 h]; rfl
          clear hcells hm
          have hm1 : maxLen = 9223372036854775807 := rfl
          rw [hm1] at hc2
          have z1 : ∀ v, (wr.setCell ⟨g, k * 4 + 1, none⟩ v).cell? ⟨g, k * 4 + 1, none⟩ = some v := fun v => ((hrow.stored (k * 4 + 1) v).1.cellAt (k * 4 + 1) (by omega)).trans (by rw [List.getElem?_set_self (by rw [hrow.1]; omega)])
          have z2 : ∀ v, (wr.setCell ⟨g, k * 4 + 1, none⟩ v).cell? ⟨g, k * 4 + 2, none⟩ = some (.int .i32 ((Utf8.decode s p2).1 : Nat)) := fun v => ((hrow.stored (k * 4 + 1) v).1.cellAt (k * 4 + 2) (by omega)).trans (by rw [List.getElem?_set_ne (by omega)]; exact (hrow.cellAt (k * 4 + 2) (by omega)).symm.trans y2)
          have z3 : ∀ v, (wr.setCell ⟨g, k * 4 + 1, none⟩ v).frozen? ⟨g, k * 4 + 3, none⟩ = false := fun v => (hrow.stored (k * 4 + 1) v).1.frozenAt (k * 4 + 3)
          have HR := hide (fun v u => ((hrow.stored (k * 4 + 1) v).1.stored (k * 4 + 3) u).1)
          have HBB := hide (fun v u => ((hB.setCell (p := ⟨g, k * 4 + 1, none⟩) hgb v).setCell (p := ⟨g, k * 4 + 3, none⟩) hgb u))
          have HI : Hid (isB s p2 = (decide ((Utf8.decode s p2).1 ≠ 65533) || decide ((Utf8.decode s p2).2 = 3))) := rfl
          clear hrow hB hst HP hk
          generalize (Utf8.decode s p2).1 = R at *
          generalize (Utf8.decode s p2).2 = D at *
          have fin : ∀ (W : World) (v1 v3 : Value), W = (wr.setCell ⟨g, k * 4 + 1, none⟩ v1).setCell ⟨g, k * 4 + 3, none⟩ v3 → v1 = Value.int .i64 (D : Nat) → v3 = Value.bool (isB s p2) → ∃ (p2 : Nat) (pre : List Nat), Value.int .i64 ((k : Int) + 1) = .int .i64 (pre.length : Nat) ∧ Hid (pre ++ plF s p2 = plF s 0) ∧ Hid (p2 ≤ s.size) ∧ W.ownsRow w.heap.size 107 4 (.slice (some ⟨g, 0, none⟩) N c) N (charCs s pre ++ rawCs s (plF s p2)) ∧ Below w.heap.size w W := by
            rintro W v1 v3 rfl e1 e3
            refine ⟨p2 + D, pre ++ [p2], by rw [hlen.out]; rfl, HP2.out, hb.2.2, ?_, unhide HBB _ _⟩
            rw [← hset.out v1 v3 e1 e3]; exact unhide HR v1 v3
          have FIN := hide fin
          clear fin hset HP2 HBB HR hlen
          by_cases hn1 : k + 1 < N
          · have d1 : decide ((k : Int) + 1 < (N : Int)) = true := decide_eq_true (by omega)
            have d1' : (k : Int) + 1 < (N : Int) := by omega
            have y4' := y4.out hn1
            have hsub : ((p2 + D : Nat) : Int) - (p2 : Int) = (D : Int) := by omega
            obtain ⟨Q, hQ⟩ : ∃ Q : Int, ((p2 + D : Nat) : Int) = Q := ⟨_, rfl⟩
            have hq0 : 0 ≤ Q := by omega
            have hq1 : Q ≤ (s.size : Int) := by omega
            rw [hQ] at y4' hsub
            clear hQ y4
            by_cases hR : R = 65533
            · have d2 : ((R : Int) != 65533) = false := by simp; omega
              by_cases hD : D = 3
              · have d3 : ((D : Int) == 3) = true := by simp; omega
                go_wp2
                go_roundw
                case rel => exact unhide FIN _ _ _ rfl (by first | rfl | simp_all) (by rw [HI.out]; simp_all)
                case measure => simp [RowKit.intOf]; omega
              · have d3 : ((D : Int) == 3) = false := by simp; omega
                go_wp2
                go_roundw
                case rel => exact unhide FIN _ _ _ rfl (by first | rfl | simp_all) (by rw [HI.out]; simp_all)
                case measure => simp [RowKit.intOf]; omega
            · have d2 : ((R : Int) != 65533) = true := by simp; omega
              go_wp2
              go_roundw
              case rel => exact unhide FIN _ _ _ rfl (by first | rfl | simp_all) (by rw [HI.out]; simp_all)
              case measure => simp [RowKit.intOf]; omega
          · have d1 : decide ((k : Int) + 1 < (N : Int)) = false := decide_eq_false (by omega)
            have d1' : ¬ (k : Int) + 1 < (N : Int) := by omega
            have hsub : (s.size : Int) - (p2 : Int) = (D : Int) := by have := hnx2.out.2 hn1; omega
            clear y4
            by_cases hR : R = 65533
            · have d2 : ((R : Int) != 65533) = false := by simp; omega
              by_cases hD : D = 3
              · have d3 : ((D : Int) == 3) = true := by simp; omega
                go_wp2
                go_roundw
                case rel => exact unhide FIN _ _ _ rfl (by first | rfl | simp_all) (by rw [HI.out]; simp_all)
                case measure => simp [RowKit.intOf]; omega
              · have d3 : ((D : Int) == 3) = false := by simp; omega
                go_wp2
                go_roundw
                case rel => exact unhide FIN _ _ _ rfl (by first | rfl | simp_all) (by rw [HI.out]; simp_all)
                case measure => simp [RowKit.intOf]; omega
            · have d2 : ((R : Int) != 65533) = true := by simp; omega
              go_wp2
              go_roundw
              case rel => exact unhide FIN _ _ _ rfl (by first | rfl | simp_all) (by rw [HI.out]; simp_all)
              case measure => simp [RowKit.intOf]; omega
        · have hpe : pre = plF s 0 := by
            have h1 := congrArg List.length HP.out
            have h2 := unhide HN
            have h3 : plF s p2 = [] := List.length_eq_zero_iff.1 (by rw [List.length_append, hk] at h1; omega)
            have := HP.out
            rw [h3, List.append_nil] at this; exact this
          have hkN : k = N := by have h2 := unhide HN; rw [← hk, hpe]; exact h2
          have hend : plF s p2 = [] := by
            have := HP.out
            rw [hpe] at this; simpa using this
          rw [hend, hpe] at hrow
          have hrow' : wr.ownsRow w.heap.size 107 4 u3 (plF s 0).length (charCs s (plF s 0)) := by rw [unhide HN]; simpa [rawCs] using hrow
          clear hpe hend hk HP
          obtain ⟨a3, c3, rfl⟩ := row_slice2 hrow
          subst hkN
          go_wp2
          go_ret
          exact ⟨_, rfl, hrow', hB⟩
/-- a Char of a list of places, in memory -/
def CharsAt (w : World) (s : ByteArray) (a : Option Addr) (l : List Nat) : Prop :=
  ∀ (i x : Nat), l[i]? = some x → ∃ g, a = some ⟨g, 0, none⟩ ∧ w.cell? ⟨g, i * 4, none⟩ = some (.int .i64 (x : Nat)) ∧ w.cell? ⟨g, i * 4 + 1, none⟩ = some (.int .i64 ((Utf8.decode s x).2 : Nat)) ∧ w.cell? ⟨g, i * 4 + 2, none⟩ = some (.int .i32 ((Utf8.decode s x).1 : Nat)) ∧ w.cell? ⟨g, i * 4 + 3, none⟩ = some (.bool (isB s x))
theorem cc_at (s : ByteArray) : ∀ (l : List Nat) (i x : Nat), l[i]? = some x → (charCs s l)[i * 4]? = some (.int .i64 (x : Nat)) ∧ (charCs s l)[i * 4 + 1]? = some (.int .i64 ((Utf8.decode s x).2 : Nat)) ∧ (charCs s l)[i * 4 + 2]? = some (.int .i32 ((Utf8.decode s x).1 : Nat)) ∧ (charCs s l)[i * 4 + 3]? = some (.bool (isB s x)) := by
  intro l
  induction l with
  | nil => intro i x h; simp at h
  | cons y l ih =>
    intro i x h
    cases i with
    | zero =>
      obtain rfl : y = x := by simpa using h
      exact ⟨rfl, rfl, rfl, rfl⟩
    | succ i =>
      have := ih i x (by simpa using h)
      have e1 : (i + 1) * 4 = i * 4 + 1 + 1 + 1 + 1 := by omega
      rw [e1]
      exact this
theorem cc_row {w1 : World} {base : Nat} {s : ByteArray} {v : Value} {n : Nat} {l : List Nat} (h : w1.ownsRow base 107 4 v n (charCs s l)) :
    ∃ a c, v = .slice a n c ∧ n = l.length ∧ CharsAt w1 s a l := by
  have hn : l.length = n := by have := h.1; rw [charCs_len] at this; omega
  rcases h.2 with ⟨rfl, h0⟩ | ⟨g, cap, cur, rfl, _, hg, _⟩
  · refine ⟨none, 0, by rw [h0], hn.symm, fun i x hx => ?_⟩
    have := (List.getElem?_eq_some_iff.1 hx).1
    omega
  · refine ⟨_, _, rfl, hn.symm, fun i x hx => ⟨g, rfl, ?_, ?_, ?_, ?_⟩⟩ <;> have hi := (List.getElem?_eq_some_iff.1 hx).1
    · exact (h.cellAt _ (by omega)).trans (cc_at s l i x hx).1
    · exact (h.cellAt _ (by omega)).trans (cc_at s l i x hx).2.1
    · exact (h.cellAt _ (by omega)).trans (cc_at s l i x hx).2.2.1
    · exact (h.cellAt _ (by omega)).trans (cc_at s l i x hx).2.2.2

end Go.Proofs.YtnabbahdmajfpaaGreatDoor
