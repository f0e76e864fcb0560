/-
  Match of paras.
-/
import Derived.Test.YtkckkchnmgidgaaPaA
namespace Go.Proofs.Ytkckkchnmgidgaa
open Go.RowKit Go.PlainAid Go.Lib
set_option linter.unusedVariables false
set_option maxRecDepth 100000
set_option maxHeartbeats 2000000

abbrev natL (l : List Nat) : List Value := l.map fun p => Value.int .i64 (p : Nat)
theorem i64l_len (l : List Int) : (i64l l).length = l.length := by simp
theorem made_int (n : Nat) (w : World) (hn : n ≤ 1099511627776) : (Instr.makeSlice 48 (.int .i64 (n : Int)) (.int .i64 (n : Int))).run Try.prog w = .ok (.slice (some ⟨w.heap.size, 0, none⟩) n n) (w.alloc (.cells (i64l (List.replicate n 0)).toArray 3)) := by
  obtain ⟨i0, hi, hz0, hz1, hz2⟩ := info_parts infoInt
  have := run_make (P := Try.prog) w 48 3 i0 (.int .i64 0) Try.underlying48 hi hz0 .i64 .i64 (n : Int) (n : Int) (by omega) (Int.le_refl _) (by rw [hz2]; omega) (by omega)
  rw [this]
  simp only [Int.toNat_natCast, hz1, Nat.mul_one]
  congr 3
  apply Array.ext'
  rw [show (Value.int .i64 0).cells = #[.int .i64 0] from rfl, toList_madeCells_one]
  simp
theorem at_i64 {l : List Int} {k : Nat} (h : k < l.length) : (i64l l)[k]? = some (.int .i64 (l.getD k 0)) := by
  simp [List.getD, List.getElem?_eq_getElem h]
theorem set_i64 (l : List Int) (k : Nat) (v : Int) : (i64l l).set k (.int .i64 v) = i64l (l.set k v) := by simp

theorem match_any (a : Option Addr) (n c : Nat) (cs : List Int) (w : World) (hl : cs.length = n) (h : ReadsB w a cs) (hn : n ≤ 1099511627776) :
    Calls Try.prog 29 #[.slice a n c] w fun e w' => e = .returned (.slice (some ⟨w.heap.size, 0, none⟩) n n) ∧ Blk w' w.heap.size (i64l (matchL cs)) 3 ∧ Below w.heap.size w w' := by
  obtain ⟨i0, hi, hz0, hz1, hz2⟩ := info_parts infoInt
  have HA := hide h
  have HLEN := hide hl
  have hmk := made_int n w hn
  obtain ⟨W1, hW1⟩ : ∃ W1, w.alloc (.cells (i64l (List.replicate n 0)).toArray 3) = W1 := ⟨_, rfl⟩
  have hB1 : Below w.heap.size w W1 := by rw [← hW1]; exact (Below.refl _ _).alloc (Nat.le_refl _) _
  have hs1 : W1.heap.size = w.heap.size + 1 := by rw [← hW1]; simp
  have hK1 : Blk W1 w.heap.size (i64l (stM cs 0).1) 3 := by
    rw [← hW1]
    have := Blk.new w (i64l (List.replicate n 0)) 3
    rw [stM, hl]; exact this
  rw [hW1] at hmk
  clear h hW1
  go_enter Try.func29, Try.ntmps29
  go_wp2
  go_loopw [4, 13] (fun v4 v13 wr => ∃ k : Nat, k ≤ n ∧ v13 = .int .i64 k ∧ Blk wr w.heap.size (i64l (stM cs k).1) 3 ∧ wr.ownsRow (w.heap.size + 1) 3 1 v4 (stM cs k).2.length (natL (stM cs k).2) ∧ Below w.heap.size w wr ∧ w.heap.size + 1 ≤ wr.heap.size) (fun _ v13 _ => n - (intOf v13).toNat)
  case atStart => exact ⟨0, Nat.zero_le _, rfl, hK1, World.ownsRow_nil _ _ _ _, hB1, by omega⟩
  case round =>
    obtain ⟨k, hk, rfl, hK, hP, hB, hsz⟩ := hrel
    by_cases hlt : k < n
    · obtain ⟨b, off, rfl, c1⟩ := (unhide HA).below hB k (by rw [unhide HLEN]; exact hlt)
      have hst : stM cs (k + 1) = stepM n k (cA cs k) (stM cs k) := by rw [stM, unhide HLEN]
      have hol : (stM cs k).1.length = n := by rw [stM_len]; exact unhide HLEN
      have hpl := pile_len cs k
      have hplt := pile_lt cs k
      generalize hx : cA cs k = x at *
      generalize hout : stM cs k = st at *
      obtain ⟨out, pl⟩ := st
      dsimp only at *
      have HST := hide hst
      have HLT := hide hplt
      have hk0 : (i64l out)[k]? = some (.int .i64 (out.getD k 0)) := at_i64 (by omega)
      have cK := hK.cell hk0
      have fK := hK.frozen k
      -- the first store
      have hK2 := hK.set k (.int .i64 (-1)) (set_i64 out k (-1))
      have hP2 := row_other hP (c := w.heap.size) (by omega) k (.int .i64 (-1))
      have hB2 : Below w.heap.size w (wr.setCell ⟨w.heap.size, k, none⟩ (.int .i64 (-1))) := hB.setCell (p := ⟨w.heap.size, k, none⟩) (Nat.le_refl _) _
      have hsz2 : (wr.setCell ⟨w.heap.size, k, none⟩ (.int .i64 (-1))).heap.size = wr.heap.size := by simp [World.setCell]
      obtain ⟨pa, pc, rfl⟩ := row_is hP
      have HGP : Hid (∀ y, (Value.slice pa pl.length pc).ownBlock = some y → w.heap.size + 1 ≤ y) := fun y e => (hP.lt y e).1
      by_cases hb : begC x = true
      · have hST : stM cs (k + 1) = (out.set k n, pl ++ [k]) := by rw [unhide HST, stepM, if_pos hb]
        have hK3 := hK2.set k (.int .i64 n) (l' := i64l (out.set k n)) (by rw [set_i64, List.set_set])
        have hP3 := row_other hP2 (c := w.heap.size) (by omega) k (.int .i64 n)
        have hB3 := hB2.setCell (p := ⟨w.heap.size, k, none⟩) (Nat.le_refl _) (.int .i64 n)
        have hsz3 : ((wr.setCell ⟨w.heap.size, k, none⟩ (.int .i64 (-1))).setCell ⟨w.heap.size, k, none⟩ (.int .i64 n)).heap.size = wr.heap.size := by simp [World.setCell]
        have HS := hide hST
        have HB3 := hide hB3
        have HK3 := hide hK3
        have HSZ := hide hsz3
        have HP3 := hide hP3
        have hppl : pl.length + 1 ≤ 1099511627776 := by omega
        clear hST hst hplt hout hK hK2 hK3 hP hP2 hP3 hB hB2 hB3 hsz2 hsz3
        go_wp2_with (first
          | (go_at_call 51; refine (begins_any _ _).mono ?_; rintro e w' ⟨rfl, rfl⟩; rw [hb])
          | (at_builtin; refine wpList_append_own_at _ rfl _ _ 48 rfl (w.heap.size + 1) 3 i0 (.int .i64 0) 1 8 Try.underlying48 hi hz0 hz1 hz2 rfl (by decide) _ _ _ rfl ((unhide HP3).alloc _) ⟨_, 0, none⟩ 1 1 [.int .i64 (k : Nat)] rfl rfl (cells_newH _ _ _ _ (unhide HSZ)) (by simp [Value.oneCell']) (by unfold maxLen; omega) (by omega) (by rw [World.size_alloc, unhide HSZ]; omega) ?_; intro v5 w5 hown5 hgrow5 _ _; obtain ⟨g5, c5, rfl⟩ := ownsRow_succ hown5))
        have hsz3 := unhide HSZ
        have hg1 := hgrow5.size
        rw [World.size_alloc, hsz3] at hg1
        go_roundw
        case rel =>
          refine ⟨k + 1, by omega, by go_num, ?_, ?_, ?_, by omega⟩
          · rw [unhide HS]
            exact ((unhide HK3).alloc _).grown hgrow5 (fun e => by have := unhide HGP _ e.symm; omega)
          · rw [unhide HS]
            have : (natL (pl ++ [k])) = natL pl ++ [Value.int .i64 (k : Nat)] := by simp
            rw [List.length_append, List.length_singleton, this]
            exact hown5
          · exact ((unhide HB3).alloc (by omega) _).grown hgrow5 (by rw [World.size_alloc]; omega) (fun y e => by have := unhide HGP y e; omega)
        case measure => simp [intOf]; omega
      · have hb' : begC x = false := by simpa using hb
        by_cases hp : x = 23 ∧ pl ≠ []
        · obtain ⟨rfl, hne⟩ := hp
          obtain ⟨l, q, rfl⟩ : ∃ l q, pl = l ++ [q] := ⟨_, _, (List.dropLast_concat_getLast hne).symm⟩
          have hST : stM cs (k + 1) = ((out.set k (q : Int)).set q k, l) := by
            rw [unhide HST, stepM, if_neg hb, if_pos ⟨rfl, hne⟩]
            simp
          have hqk : q < k := hplt q (by simp)
          have hll : (l ++ [q]).length = l.length + 1 := by simp
          have hgt := row_at hP (by rw [hll]; omega)
          obtain ⟨gp, rfl⟩ := hgt
          have hgp := unhide HGP gp rfl
          have hcp := row_caps hP
          unfold maxLen at hcp
          have c4 := hP2.cellAt l.length (by rw [hll]; omega)
          rw [show (natL (l ++ [q]))[l.length]? = some (.int .i64 (q : Nat)) by simp] at c4
          have hcut := row_cut hP2 l.length (by rw [hll]; omega)
          rw [show (natL (l ++ [q])).take l.length = natL l by simp] at hcut
          have d1 := hK2.cell (j := k) (at_i64 (by rw [List.length_set]; omega))
          have d2 := hK2.cell (j := q) (at_i64 (by rw [List.length_set]; omega))
          have e1 := hK2.frozen k
          have e2 := hK2.frozen q
          have hK3 := hK2.set k (.int .i64 (q : Nat)) (l' := i64l (out.set k (q : Int))) (by rw [set_i64, List.set_set])
          have hK4 := hK3.set q (.int .i64 (k : Nat)) (set_i64 _ q k)
          have hP3 := row_other hcut (c := w.heap.size) (by omega) k (.int .i64 (q : Nat))
          have hP4 := row_other hP3 (c := w.heap.size) (by omega) q (.int .i64 (k : Nat))
          have hB4 := (hB2.setCell (p := ⟨w.heap.size, k, none⟩) (Nat.le_refl _) (.int .i64 (q : Nat))).setCell (p := ⟨w.heap.size, q, none⟩) (Nat.le_refl _) (.int .i64 (k : Nat))
          have HS := hide hST
          have HB4 := hide hB4
          have HK4 := hide hK4
          rw [hll] at hcp
          obtain ⟨m, hm⟩ : ∃ m, (l ++ [q]).length = m := ⟨_, rfl⟩
          have hm1 : l.length = m - 1 := by omega
          rw [hm1] at c4
          have HP4 : Hid (_ ∧ _) := hide (And.intro hm1 hP4)
          rw [hm]
          rw [hll] at hm
          have hm2 : 1 ≤ (m : Int) := by omega
          clear hm1
          clear hST hst hplt hout hK hK2 hK3 hK4 hP hP2 hP3 hP4 hB hB2 hB4 hcut
          go_wp2_with (first
            | (go_at_call 51; refine (begins_any _ _).mono ?_; rintro e w' ⟨rfl, rfl⟩; rw [hb']))
          go_region
          go_wp2
          go_roundw
          case rel =>
            obtain ⟨hm1, hP4⟩ := unhide HP4
            refine ⟨k + 1, by omega, by go_num, ?_, ?_, ?_, ?_⟩
            · rw [unhide HS]; exact unhide HK4
            · rw [unhide HS, ← hm1]; exact hP4
            · have := unhide HB4
              exact ⟨this.os, this.tape, this.output, this.size, this.block⟩
            · show _ ≤ (World.setCell _ _ _).heap.size
              simp [World.setCell]; omega
          case measure => simp [intOf]; omega
        · have hST : stM cs (k + 1) = (out.set k (-1), if x = 11 then [] else pl) := by
            rw [unhide HST, stepM, if_neg hb, if_neg hp]
            split <;> rfl
          have HS := hide hST
          have HK2 := hide hK2
          have HP2 := hide hP2
          have HB2 := hide hB2
          by_cases h11 : x = 11
          · subst h11
            have hcut := row_cut hP2 0 (Nat.zero_le _)
            have HC2 := hide hcut
            have hcp := row_caps hP
            unfold maxLen at hcp
            clear hcut hST hst hplt hout hK hK2 hP hP2 hB hB2
            generalize pl.length = m at *
            go_wp2_with (first
              | (go_at_call 51; refine (begins_any _ _).mono ?_; rintro e w' ⟨rfl, rfl⟩; rw [hb']))
            go_roundw
            case rel =>
              refine ⟨k + 1, by omega, by go_num, ?_, ?_, unhide HB2, by rw [hsz2]; omega⟩
              · rw [unhide HS]; exact unhide HK2
              · rw [unhide HS, if_pos trivial]; exact unhide HC2
            case measure => simp [intOf]; omega
          · rw [if_neg h11] at hST
            have HS2 := hide hST
            have hqp : x = 23 → ¬ (0 : Int) < (pl.length : Int) := fun e h => hp ⟨e, fun e2 => by rw [e2] at h; simp at h⟩
            clear HS
            clear hST hst hplt hout hK hK2 hP hP2 hB hB2
            by_cases h23 : x = 23
            · subst h23
              have hq0 := hqp rfl
              have hpl0 : pl = [] := List.length_eq_zero_iff.1 (by omega)
              subst hpl0
              go_wp2_with (first
                | (go_at_call 51; refine (begins_any _ _).mono ?_; rintro e w' ⟨rfl, rfl⟩; rw [hb']))
              go_roundw
              case rel =>
                refine ⟨k + 1, by omega, by go_num, ?_, ?_, unhide HB2, by rw [hsz2]; omega⟩
                · rw [unhide HS2]; exact unhide HK2
                · rw [unhide HS2]; exact unhide HP2
              case measure => simp [intOf]; omega
            · go_wp2_with (first
                | (go_at_call 51; refine (begins_any _ _).mono ?_; rintro e w' ⟨rfl, rfl⟩; rw [hb']))
              go_roundw
              case rel =>
                refine ⟨k + 1, by omega, by go_num, ?_, ?_, unhide HB2, by rw [hsz2]; omega⟩
                · rw [unhide HS2]; exact unhide HK2
                · rw [unhide HS2]; exact unhide HP2
              case measure => simp [intOf]; omega
    · obtain rfl : k = n := by omega
      go_wp2
      go_ret
      exact ⟨rfl, by rw [matchL, unhide HLEN]; exact hK, hB⟩
end Go.Proofs.Ytkckkchnmgidgaa
