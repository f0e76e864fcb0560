/-
  The law's took: Take of numbers of type uint32, twice.
-/
import Derived.Test.YtdbfpmelhokeoaaDoorSuRt
import Derived.Test.YtdbfpmelhokeoaaDoorSuND
import Derived.Test.YtdbfpmelhokeoaaDoorSuGr
namespace Go.Proofs.YtdbfpmelhokeoaaDoor.ND
open Go.RowKit Go.PlainAid Go.Lib Go.SuM
set_option linter.unusedVariables false
set_option linter.unusedSimpArgs false
set_option maxRecDepth 20000 in
set_option maxHeartbeats 2000000 in
theorem took_fail (c : Int) (hc : c = 2 ∨ c = 120) (s : ByteArray) (a n : Int) (w : World) (h1 : ∀ W, Calls Tryd.prog 62 #[.string s, .int .i64 a, .int .i64 n] W fun e w' => e = .returned (.tuple #[.slice none 0 0, .int .i64 c]) ∧ Below W.heap.size W w') (h2 : ∀ W, Calls Tryd.prog 61 #[.string s, .int .i64 a, .int .i64 n, .int .i64 4] W fun e w' => e = .returned (.tuple #[.slice none 0 0, .int .i64 c]) ∧ w' = W) : Calls Tryd.prog 34 #[.string s, .int .i64 a, .int .i64 n, .int .i64 4] w fun e w' => e = .returned (.bool true) ∧ Below w.heap.size w w' := by
  have H1 := hide h1
  have H2 := hide h2
  have hc2 : ¬ c = 0 := by omega
  clear h1 h2
  go_enter Tryd.func34, Tryd.ntmps34
  go_wp2_with fail
  with_reducible refine (unhide H1 w).mono ?_
  rintro e w1 ⟨rfl, hb1⟩
  have HB1 := hide hb1
  clear hb1
  go_wp2_with fail
  with_reducible refine (unhide H1 w1).mono ?_
  rintro e w2 ⟨rfl, hb2⟩
  have HB2 := hide ((unhide HB1).trans (hb2.mono (unhide HB1).size))
  clear hb2
  go_wp2_with fail
  with_reducible refine (unhide H2 w2).mono ?_
  rintro e w3 ⟨rfl, rfl⟩
  generalize w3 = W2 at *
  go_wp2
  go_loopw [15] (fun v15 wr => v15 = .int .i64 0 ∧ Hid (wr = W2)) (fun _ _ => 0)
  case atStart => exact ⟨rfl, rfl⟩
  case round =>
    obtain ⟨rfl, HE⟩ := hrel
    obtain rfl : wr = W2 := unhide HE
    generalize wr = W3 at *
    go_wp2
    go_loopw [9, 82] (fun v9 v83 wx => ∃ (k2 : Nat) (l2 : List Nat), k2 ≤ 9 ∧ v83 = .int .i64 (k2 : Int) ∧ Hid (l2.length = k2 ∧ OwnN wx w.heap.size v9 l2 ∧ Below w.heap.size w wx)) (fun _ v83 _ => 9 - (intOf v83).toNat)
    case atStart => exact ⟨0, [], by decide, rfl, rfl, ⟨rfl, .inl ⟨rfl, rfl⟩⟩, unhide HB2⟩
    case round =>
      obtain ⟨k2, l2, hk2, rfl, HX⟩ := hrel
      by_cases hlt2 : k2 < 9
      · obtain ⟨v', w5, hap0, hO5, hb5, _⟩ := append_num wr w.heap.size _ l2 5 (unhide HX).2.1 (unhide HX).2.2.size (by rw [(unhide HX).1]; omega) 34
        have hap : (Builtin.append_ #[34, 34] 34 #[u9, .slice (some ⟨wr.heap.size, 0, none⟩) 1 1]).run Tryd.prog (wr.alloc (.cells #[.int .u32 5] 23)) = .ok v' w5 := hap0
        have HN : Hid ((l2 ++ [5]).length = k2 + 1 ∧ OwnN w5 w.heap.size v' (l2 ++ [5]) ∧ Below w.heap.size w w5) := ⟨by rw [List.length_append, (unhide HX).1]; rfl, hO5, (unhide HX).2.2.trans hb5⟩
        clear hap0 hO5 hb5 HX
        go_wp2_with (at_builtin; refine wpList_append_run _ rfl _ _ _ _ rfl _ _ rfl rfl v' w5 hap ?_)
        exact ⟨⟨k2 + 1, _, by omega, by go_num, unhide HN⟩, by simp [intOf]; omega⟩
      · obtain rfl : k2 = 9 := by omega
        obtain ⟨a9, c9, rfl, hcl9, hcm9⟩ := (unhide HX).2.1.form
        rw [(unhide HX).1] at hcl9 ⊢
        unfold maxLen at hcm9
        have HB9 := hide (unhide HX).2.2
        clear HX
        generalize wr = W9 at *
        go_wp2
        go_loopw [16] (fun v16 wy => v16 = .int .i64 0 ∧ Hid (wy = W9)) (fun _ _ => 0)
        case atStart => exact ⟨rfl, rfl⟩
        case round =>
          obtain ⟨rfl, HE9⟩ := hrel
          obtain rfl : wr = W9 := unhide HE9
          go_wp2
          go_ret
          exact ⟨rfl, unhide HB9⟩
/-- one number more, and where the row lies then -/
theorem append_num2 (w : World) (B : Nat) (v : Value) (l : List Nat) (x : Nat) (h : OwnN w B v l) (hB : B ≤ w.heap.size) (hbig : (l.length + 1) * 4 ≤ 140737488355328) (ty : TypeId) :
    ∃ v' w', (Builtin.append_ #[34, 34] ty #[v, .slice (some ⟨w.heap.size, 0, none⟩) 1 1]).run Tryd.prog (w.alloc (.cells #[.int .u32 (x : Int)] 23)) = .ok v' w' ∧ OwnN w' B v' (l ++ [x]) ∧ (w.alloc (.cells #[.int .u32 (x : Int)] 23)).grownBy w' v.ownBlock ∧ (v'.ownBlock = v.ownBlock ∨ v'.ownBlock = some (w.alloc (.cells #[.int .u32 (x : Int)] 23)).heap.size) := by
  obtain ⟨i0, hi0, hz0, hzs, hzb⟩ := info_parts infoN
  obtain ⟨v', w', r1, r2, r3, _, r5⟩ := run_append_own_at (P := Tryd.prog) (w := w.alloc (.cells #[.int .u32 (x : Int)] 23)) B 34 ty 23 i0 _ 1 4 Tryd.underlying34 hi0 hz0 hzs hzb rfl (by decide) v l.length (nV l) (World.ownsRow.alloc h _) ⟨w.heap.size, 0, none⟩ 1 1 [.int .u32 (x : Int)] (by simp) (cell_one_new w _ _) (nV_one [x]) (by unfold maxLen; omega) hbig (Nat.le_trans hB (by simp))
  refine ⟨v', w', r1, ?_, r3, r5⟩
  unfold OwnN
  rw [show nV (l ++ [x]) = nV l ++ [.int .u32 (x : Int)] by unfold nV; rw [List.map_append]; rfl, List.length_append]
  exact r2
set_option maxRecDepth 20000 in
set_option maxHeartbeats 4000000 in
theorem took_ok (s : ByteArray) (hs : s.size ≤ 1048576) (a n : Nat) (ha : a ≤ s.size) (hn : 4 * n ≤ s.size - a) (w : World) : Calls Tryd.prog 34 #[.string s, .int .i64 (a : Int), .int .i64 (n : Int), .int .i64 4] w fun e w' => e = .returned (.bool true) ∧ Below w.heap.size w w' := by
  have HT := hide (take_ok s (by omega) a n ha hn)
  have HR : Hid (∀ W : World, Calls Tryd.prog 61 #[.string s, .int .i64 (a : Int), .int .i64 (n : Int), .int .i64 4] W fun e w' => ∃ v, e = .returned (.tuple #[v, .int .i64 0]) ∧ ND.OwnN w' W.heap.size v (numsL s a n) ∧ Below W.heap.size W w') := fun W => rtake_ok 4 (by decide) (by decide) s (by unfold maxLen; omega) a n ha hn (by omega) W
  have hLL : (numsL s a n).length = n := by simp [numsL]
  have hsm := numsL_lt s a n
  have HLL := hide hLL
  have HSM := hide hsm
  have hn20 : n ≤ 1048576 := by omega
  clear hLL hsm ha hn
  generalize numsL s a n = L at *
  go_enter Tryd.func34, Tryd.ntmps34
  go_wp2_with fail
  with_reducible refine (unhide HT w).mono ?_
  rintro e w1 ⟨rfl, hO1, hb1⟩
  have HO1 := hide hO1
  have HB1 := hide hb1
  clear hO1 hb1
  go_wp2_with fail
  with_reducible refine (unhide HT w1).mono ?_
  rintro e w2 ⟨rfl, hO2, hb2⟩
  have HO10 := HO1
  have HO1 := hide ((unhide HO1).below hb2)
  have HB2 := hide ((unhide HB1).trans (hb2.mono (unhide HB1).size))
  have HO2 := hide hO2
  have hlt1 := (World.ownsRow.lt (unhide HO1) w.heap.size rfl).2
  have HS12 := hide hb2.size
  clear hO2 hb2
  go_wp2_with fail
  with_reducible refine (unhide HR w2).mono ?_
  rintro e w3 ⟨v3, rfl, hO3, hb3⟩
  obtain ⟨ad, cd, rfl, hcl, hcm⟩ := hO3.form
  have HB3 := hide ((unhide HB2).trans (hb3.mono (unhide HB2).size))
  have HO1' := hide ((unhide HO1).below (hb3.mono (Nat.le_refl _)))
  have HO2' := hide ((unhide HO2).below hb3)
  have HS23 := hide hb3.size
  have hlt2 := (World.ownsRow.lt (unhide HO2) w1.heap.size rfl).2
  have hlt1' : w.heap.size < w1.heap.size := by have := (World.ownsRow.lt (unhide HO10) w.heap.size rfl).2; exact this
  rw [unhide HLL] at hO3 hcl ⊢
  have HO3 := hide hO3
  unfold maxLen at hcm
  clear hO3 hb3 HO1 HO2 HO10
  go_wp2
  go_loopw [15] (fun v15 wr => ∃ (k : Nat) (l' : List Nat), k ≤ n ∧ v15 = .int .i64 (k : Int) ∧ Hid (l'.length = n ∧ l'.drop k = L.drop k) ∧ Hid (OwnN wr w.heap.size (.slice (some ⟨w.heap.size, 0, none⟩) n n) l' ∧ Beside w.heap.size w3 wr (.slice (some ⟨w.heap.size, 0, none⟩) n n))) (fun v15 _ => n - (intOf v15).toNat)
  case atStart => exact ⟨0, L, Nat.zero_le _, rfl, ⟨unhide HLL, rfl⟩, unhide HO1', Beside.start _ _ _⟩
  case round =>
    obtain ⟨k, l', hk, rfl, HL', HW⟩ := hrel
    by_cases hlt : k < n
    · have hkl : k < L.length := by rw [unhide HLL]; exact hlt
      have hkl' : k < l'.length := by rw [(unhide HL').1]; exact hlt
      have hel : l'[k] = L[k] := by
        have h := (unhide HL').2
        rw [List.drop_eq_getElem_cons hkl, List.drop_eq_getElem_cons hkl'] at h
        exact (List.cons.inj h).1
      have hxs := unhide HSM _ (List.getElem_mem hkl)
      have hO3r : ND.OwnN wr w2.heap.size (.slice ad n cd) L := (unhide HW).2.kept (unhide HO3) (by omega)
      have hO3r' := hO3r
      rw [← unhide HLL] at hO3r'
      obtain ⟨g1, o1, rfl, _, hc1, _⟩ := (hO3r'.nums (fun x hx => Nat.lt_of_lt_of_le (unhide HSM x hx) (by decide))).get hkl
      have hown : wr.ownsRow w.heap.size 23 1 (.slice (some ⟨w.heap.size, 0, none⟩) n n) n (nV l') := by have := (unhide HW).1; unfold OwnN at this; rwa [(unhide HL').1] at this
      have hc0 : wr.cell? ⟨w.heap.size, k, none⟩ = some (.int .u32 (L[k] : Int)) := by
        rw [World.ownsRow.cellAt hown k (by omega)]
        unfold nV
        rw [List.getElem?_map, List.getElem?_eq_getElem hkl', hel]
        rfl
      have hfz := World.ownsRow.frozenAt hown k
      have hstep : ∀ q : Nat, Hid (OwnN ((wr.drewN q).setCell ⟨w.heap.size, k, none⟩ (.int .u32 (((L[k] : Int) + 1) % 4294967296))) w.heap.size (.slice (some ⟨w.heap.size, 0, none⟩) n n) (l'.set k ((L[k] + 1) % 4294967296)) ∧ Beside w.heap.size w3 ((wr.drewN q).setCell ⟨w.heap.size, k, none⟩ (.int .u32 (((L[k] : Int) + 1) % 4294967296))) (.slice (some ⟨w.heap.size, 0, none⟩) n n)) := fun q => by
        have hownq : (wr.drewN q).ownsRow w.heap.size 23 1 (.slice (some ⟨w.heap.size, 0, none⟩) n n) n (nV l') := hown
        have h := hownq.stored k (.int .u32 (((L[k] : Int) + 1) % 4294967296))
        refine ⟨?_, ((unhide HW).2.drew q).grown h.2 (.inl rfl)⟩
        unfold OwnN
        rw [List.length_set, (unhide HL').1]
        have e : nV (l'.set k ((L[k] + 1) % 4294967296)) = (nV l').set k (.int .u32 (((L[k] : Int) + 1) % 4294967296)) := by
          rw [nV_set]
          rfl
        rw [e]
        exact h.1
      have HST := hide hstep
      have HLN : Hid ((l'.set k ((L[k] + 1) % 4294967296)).length = n ∧ (l'.set k ((L[k] + 1) % 4294967296)).drop (k + 1) = L.drop (k + 1)) := by
        refine ⟨by rw [List.length_set]; exact (unhide HL').1, ?_⟩
        rw [List.drop_set_of_lt (by omega)]
        have h := (unhide HL').2
        have h2 := congrArg (List.drop 1) h
        rw [List.drop_drop, List.drop_drop] at h2
        exact h2
      generalize L[k] = x at *
      have hx32 : (x : Int) % 4294967296 = (x : Int) := by omega
      clear hown hO3r hO3r' hstep HL' HW hel hkl hkl'
      go_wp2
      go_quiet (fail)
      go_wp2
      exact ⟨⟨k + 1, _, by omega, by go_num, unhide HLN, unhide (unhide HST nq)⟩, by simp [intOf]; omega⟩
    · have HA0 : Hid (∃ l2 : List Nat, l2.length = n ∧ OwnN wr w.heap.size (.slice (some ⟨w.heap.size, 0, none⟩) n n) l2 ∧ Beside w.heap.size w3 wr (.slice (some ⟨w.heap.size, 0, none⟩) n n)) := ⟨l', (unhide HL').1, unhide HW⟩
      clear HL' HW
      generalize wr = W4 at *
      go_wp2
      go_loopw [9, 82] (fun v9 v83 wx => ∃ (k2 : Nat) (l2 : List Nat), k2 ≤ 9 ∧ v83 = .int .i64 (k2 : Int) ∧ Hid (l2.length = n + k2 ∧ OwnN wx w.heap.size v9 l2 ∧ Beside w.heap.size w3 wx v9)) (fun _ v83 _ => 9 - (intOf v83).toNat)
      case atStart =>
        obtain ⟨l2, h1, h2, h3⟩ := unhide HA0
        exact ⟨0, l2, by decide, rfl, h1, h2, h3⟩
      case round =>
        obtain ⟨k2, l2, hk2, rfl, HX⟩ := hrel
        by_cases hlt2 : k2 < 9
        · have hbs : w.heap.size ≤ wr.heap.size := Nat.le_trans (unhide HB3).size (unhide HX).2.2.1.size
          obtain ⟨v', w5, hap0, hO5, hg5, hv5⟩ := append_num2 wr w.heap.size _ l2 5 (unhide HX).2.1 hbs (by rw [(unhide HX).1]; omega) 34
          have hap : (Builtin.append_ #[34, 34] 34 #[u9, .slice (some ⟨wr.heap.size, 0, none⟩) 1 1]).run Tryd.prog (wr.alloc (.cells #[.int .u32 5] 23)) = .ok v' w5 := hap0
          have HN : Hid ((l2 ++ [5]).length = n + (k2 + 1) ∧ OwnN w5 w.heap.size v' (l2 ++ [5]) ∧ Beside w.heap.size w3 w5 v') := ⟨by rw [List.length_append, (unhide HX).1]; rfl, hO5, ((unhide HX).2.2.alloc _).grown hg5 hv5⟩
          clear hap0 hO5 hg5 hv5 hbs HX
          go_wp2_with (at_builtin; refine wpList_append_run _ rfl _ _ _ _ rfl _ _ rfl rfl v' w5 hap ?_)
          exact ⟨⟨k2 + 1, _, by omega, by go_num, unhide HN⟩, by simp [intOf]; omega⟩
        · obtain rfl : k2 = 9 := by omega
          obtain ⟨a9, c9, rfl, hcl9, hcm9⟩ := (unhide HX).2.1.form
          rw [(unhide HX).1] at hcl9 ⊢
          unfold maxLen at hcm9
          have hB9 := hide ((unhide HX).2.2.below (unhide HB3) (Nat.le_refl _) (Nat.le_refl _))
          have hO2r : OwnN wr w1.heap.size (.slice (some ⟨w1.heap.size, 0, none⟩) n n) L := (unhide HX).2.2.kept (unhide HO2') hlt1'
          have hO3r : ND.OwnN wr w2.heap.size (.slice ad n cd) L := (unhide HX).2.2.kept (unhide HO3) hlt1
          have HO2r := hide hO2r
          have HO3r := hide hO3r
          clear hO2r hO3r HX HA0
          generalize wr = W9 at *
          go_wp2
          go_loopw [16] (fun v16 wy => ∃ k3 : Nat, k3 ≤ n ∧ v16 = .int .i64 (k3 : Int) ∧ Hid (∃ q, wy = W9.drewN q)) (fun v16 _ => n - (intOf v16).toNat)
          case atStart => exact ⟨0, Nat.zero_le _, rfl, ⟨0, rfl⟩⟩
          case round =>
            obtain ⟨k3, hk3, rfl, HQ⟩ := hrel
            obtain ⟨q, rfl⟩ := unhide HQ
            clear HQ
            by_cases hlt3 : k3 < n
            · have hkl : k3 < L.length := by rw [unhide HLL]; exact hlt3
              have hxs := unhide HSM _ (List.getElem_mem hkl)
              have hO3q : ND.OwnN (W9.drewN q) w2.heap.size (.slice ad n cd) L := unhide HO3r
              rw [← unhide HLL] at hO3q
              obtain ⟨g1, o1, rfl, _, hc1, _⟩ := (hO3q.nums (fun x hx => Nat.lt_of_lt_of_le (unhide HSM x hx) (by decide))).get hkl
              have hown : (W9.drewN q).ownsRow w1.heap.size 23 1 (.slice (some ⟨w1.heap.size, 0, none⟩) n n) n (nV L) := by have := unhide HO2r; unfold OwnN at this; rwa [unhide HLL] at this
              have hc0 : (W9.drewN q).cell? ⟨w1.heap.size, k3, none⟩ = some (.int .u32 (L[k3] : Int)) := by
                rw [World.ownsRow.cellAt hown k3 (by omega)]
                unfold nV
                rw [List.getElem?_map, List.getElem?_eq_getElem hkl]
                rfl
              generalize L[k3] = x at *
              have hx32 : (x : Int) % 4294967296 = (x : Int) := by omega
              clear hown hO3q hkl
              generalize hW : W9.drewN q = W at *
              have HW := hide hW
              clear hW
              go_wp2
              go_quiet (fail)
              go_wp2
              exact ⟨⟨k3 + 1, by omega, by go_num, ⟨q + nq, by rw [← unhide HW, World.drewN_drewN]⟩⟩, by simp [intOf]; omega⟩
            · have HBq := hide ((unhide hB9).trans (below_drewN w.heap.size W9 q))
              generalize W9.drewN q = W at *
              go_wp2
              go_ret
              exact ⟨rfl, unhide HBq⟩
theorem took_any (s : ByteArray) (hs : s.size ≤ 1048576) (a n : Int) (hn : n ≤ 9223372036854775807) (w : World) : Calls Tryd.prog 34 #[.string s, .int .i64 a, .int .i64 n, .int .i64 4] w fun e w' => e = .returned (.bool true) ∧ Below w.heap.size w w' := by
  by_cases h : a < 0 ∨ n < 0 ∨ (s.size : Int) < a
  · exact took_fail 2 (.inl rfl) s a n w (fun W => (take_arg s a n h W).mono fun e w' h => ⟨h.1, by rw [h.2]; exact Below.refl _ _⟩) (fun W => rtake_arg 4 s a n h W)
  · obtain ⟨a, rfl⟩ : ∃ k : Nat, a = (k : Int) := ⟨a.toNat, by omega⟩
    obtain ⟨n, rfl⟩ : ∃ k : Nat, n = (k : Int) := ⟨n.toNat, by omega⟩
    by_cases h2 : (s.size - a) / 4 < n
    · exact took_fail 120 (.inr rfl) s a n w (fun W => take_short s (by unfold maxLen; omega) a n (by omega) h2 (by omega) W) (fun W => rtake_short 4 (by decide) (by decide) s (by unfold maxLen; omega) a n (by omega) h2 (by omega) W)
    · exact took_ok s hs a n (by omega) (by omega) w
end Go.Proofs.YtdbfpmelhokeoaaDoor.ND
