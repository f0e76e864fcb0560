/-
  The law's same (furrowlaw05), and the document's Write and Classes.
-/
import Derived.Test.YtkpmcojoiijonaaWoW
import Derived.Test.YtkpmcojoiijonaaWoR3
import Derived.Test.YtkpmcojoiijonaaWoR4
import Derived.Test.YtkpmcojoiijonaaWoEach1
namespace Go.Proofs.Ytkpmcojoiijonaa
open Go.RowKit Go.PlainAid Go.Lib
set_option linter.unusedVariables false

set_option maxRecDepth 100000 in
set_option maxHeartbeats 1000000 in
/-- two lists that hold the same are told the same -/
theorem sameC_yes (a b : Option Addr) (ca cb n : Nat) (zs : List Int) (w : World) (hl : zs.length = n) (ha : ReadsB w a zs) (hb : ReadsB w b zs) (hn : n ≤ 1099511627776) :
    Calls Try.prog 33 #[.slice a n ca, .slice b n cb] w fun e w' => e = .returned (.bool true) ∧ Below w.heap.size w w' := by
  have HA := hide ha
  have HB := hide hb
  have HLEN := hide hl
  clear ha hb hl
  have hnn : ((n : Int) != (n : Int)) = false := by simp
  go_enter Try.func33, Try.ntmps33
  go_wp2
  go_loopw [5] (fun v5 wr => ∃ k m : Nat, k ≤ n ∧ v5 = .int .i64 k ∧ wr = w.drewN m) (fun v5 _ => n - (RowKit.intOf v5).toNat)
  case atStart => exact ⟨0, 0, Nat.zero_le _, rfl, rfl⟩
  case round =>
    obtain ⟨k, m, hk, rfl, rfl⟩ := hrel
    by_cases hlt : k < n
    · obtain ⟨b1, o1, rfl, c1⟩ := unhide HA k (by rw [unhide HLEN]; exact hlt)
      obtain ⟨b2, o2, rfl, c2⟩ := unhide HB k (by rw [unhide HLEN]; exact hlt)
      simp only [List.getD_eq_getElem?_getD] at c1 c2
      generalize zs[k]?.getD 0 = r at *
      go_wp2
      go_quiet (fail)
      go_wp2
      go_roundw
      case rel => exact ⟨k + 1, _, by omega, by go_num, rfl⟩
      case measure => simp [RowKit.intOf]; omega
    · go_wp2
      go_ret
      exact ⟨rfl, below_drewN (Below.refl _ _) m⟩
theorem wrT_nil : wrT [] = ⟨#[]⟩ := by simp [wrT, wrL, Lib.join, List.intercalate]
theorem parts2 (t : ByteArray) : ((t.toList == []) = true ∧ t.toList.isEmpty = true ∧ argE t = 2) ∨ ((t.toList == []) = false ∧ t.toList.isEmpty = false ∧ argE t = 0) := by
  by_cases he : t = ⟨#[]⟩
  · subst he
    left
    refine ⟨by rw [Go.Lib.toList_data]; rfl, by rw [Go.Lib.toList_data]; rfl, by unfold argE; rw [if_pos rfl]⟩
  · right
    have h1 : (t.toList == []) = false := by
      have := Go.Switch.str_test t ⟨#[]⟩
      rw [decide_eq_false he, Go.Lib.toList_data ⟨#[]⟩] at this; exact this
    exact ⟨h1, by rw [← h1]; cases t.toList <;> rfl, by unfold argE; rw [if_neg he]⟩

set_option maxRecDepth 100000 in
set_option maxHeartbeats 2000000 in
theorem rWrite_any (a : Option Addr) (cap : Nat) (zs : List Int) (w : World) (hr : ReadsB w a zs) (hf : FitsB zs) (hn : zs.length ≤ 1099511627776) :
    Calls Try.prog 35 #[.slice a zs.length cap] w fun e w' => e = .returned (.tuple #[.string (wrS zs), .int .i64 (wrE zs)]) ∧ Below w.heap.size w w' := by
  have HR := hide hr
  have HF := hide hf
  clear hr hf
  generalize hL : zs.length = L at *
  have HL := hide hL
  clear hL
  go_enter Try.func35, Try.ntmps35
  go_wp2
  go_loopw [4, 5] (fun v4 v5 wr => ∃ k : Nat, k ≤ L ∧ v5 = .int .i64 k ∧ Hid (∀ c ∈ zs.take k, okB c = true) ∧ v4 = .string (wrT (zs.take k)) ∧ Below w.heap.size w wr) (fun _ v5 _ => L - (RowKit.intOf v5).toNat)
  case atStart => exact ⟨0, Nat.zero_le _, rfl, (by intro c hc; simp at hc), by rw [List.take_zero, wrT_nil], Below.refl _ _⟩
  case round =>
    obtain ⟨k, hk, rfl, HO, rfl, hB⟩ := hrel
    by_cases hlt : k < L
    · have hkz : k < zs.length := by rw [unhide HL]; exact hlt
      obtain ⟨g, off, rfl, hcell⟩ := (unhide HR).below hB k hkz
      have hft := (unhide HF).at k
      have hts2 : zs.take (k + 1) = zs.take k ++ [zs.getD k 0] := take_snoc' zs k hkz
      have hmem : zs.getD k 0 ∈ zs := by rw [List.getD_eq_getElem?_getD, List.getElem?_eq_getElem hkz]; exact List.getElem_mem hkz
      have hsz := wrT_size (zs.take k) (fun x hx => unhide HF x (List.mem_of_mem_take hx))
      have hlk : (zs.take k).length = k := by rw [List.length_take]; omega
      simp only [List.getD_eq_getElem?_getD] at hcell hft hts2 hmem
      generalize hc : zs[k]?.getD 0 = c at *
      obtain ⟨hf0, hf1⟩ := hft
      have hss := short_size c hf0
      rw [hlk] at hsz
      rcases parts2 (shortS c) with ⟨h1, h2, ha⟩ | ⟨h1, h2, ha⟩
      · have HW := hide (wr_no zs c hmem (okB_no c ha))
        have HS := hide (fun w => rShort_any c w hf0 hf1)
        clear ha hts2 hc hmem hlk
        generalize shortS c = sh at *
        generalize wrT (zs.take k) = tt at *
        go_wp2_with (go_at_call 29; refine (unhide HS _).mono ?_; rintro e w2 ⟨rfl, hb2⟩)
        go_ret2
        exact ⟨ret_str2 (unhide HW).1.symm (unhide HW).2.symm, hB.trans (hb2.mono hB.size)⟩
      · have HO2 : Hid (∀ c ∈ zs.take (k + 1), okB c = true) := by
          intro x hx
          rw [hts2] at hx
          rcases List.mem_append.1 hx with h | h
          · exact HO.out x h
          · rw [List.mem_singleton.1 h]; exact okB_yes c ha
        have hwn := wrT_snoc (zs.take k) c
        rw [← hts2] at hwn
        have HS := hide (fun w => rShort_any c w hf0 hf1)
        by_cases hk0 : k = 0
        · subst hk0
          rw [List.take_zero, if_pos rfl] at hwn
          have HWN := hide hwn
          have h0 : wrT (zs.take 0) = ⟨#[]⟩ := by rw [List.take_zero, wrT_nil]
          rw [h0]
          have hee : (⟨#[]⟩ : ByteArray) ++ shortS c = shortS c := by
            have e0 : (⟨#[]⟩ : ByteArray).size = 0 := rfl
            refine bytes_ext ?_ ?_
            · rw [ByteArray.size_append, e0]; omega
            · intro j hj; rw [bN_append, e0, if_neg (by omega)]; rfl
          have HEE := hide hee
          have hcell0 : wr.cell? ⟨g, off, none⟩ = some (.int .u8 c) := hcell
          clear ha hts2 hc hmem hlk hwn h0 hee
          generalize shortS c = sh at *
          go_wp2_with (go_at_call 29; refine (unhide HS _).mono ?_; rintro e w2 ⟨rfl, hb2⟩)
          go_roundw
          case rel => exact ⟨1, by omega, by go_num, HO2, by rw [show (0 + 1 : Nat) = 1 from rfl] at HWN; rw [unhide HWN]; first | rfl | (rw [unhide HEE]) | simp [unhide HEE], hB.trans (hb2.mono hB.size)⟩
          case measure => simp [RowKit.intOf]; omega
        · rw [if_neg (by intro h; have := congrArg List.length h; rw [hlk] at this; simp at this; omega)] at hwn
          have HWN := hide hwn
          have hkp : (0 : Int) < k := by omega
          have s1 : (wrT (zs.take k) ++ ⟨#[32]⟩).size = (wrT (zs.take k)).size + 1 := by rw [ByteArray.size_append]; rfl
          clear ha hts2 hc hmem hlk hwn
          generalize shortS c = sh at *
          generalize wrT (zs.take k) = tt at *
          go_wp2_with (go_at_call 29; refine (unhide HS _).mono ?_; rintro e w2 ⟨rfl, hb2⟩)
          go_roundw
          case rel => exact ⟨k + 1, by omega, by go_num, HO2, by rw [unhide HWN], hB.trans (hb2.mono hB.size)⟩
          case measure => simp [RowKit.intOf]; omega
    · obtain rfl : k = L := by omega
      have hte : zs.take k = zs := List.take_of_length_le (by rw [unhide HL]; exact Nat.le_refl _)
      rw [hte] at HO
      rw [hte]
      have HW := hide (wr_yes zs HO.out)
      clear hte
      go_wp2
      go_ret2
      exact ⟨ret_str2 (unhide HW).1.symm (unhide HW).2.symm, hB⟩

theorem wcls_r (s : ByteArray) (x : Nat × Nat) : wcls s x = classN (looseB (s.extract x.1 x.2)) := rfl
set_option maxRecDepth 100000 in
set_option maxHeartbeats 2000000 in
theorem rClasses_any (s : ByteArray) (w : World) (hs : s.size ≤ 1099511627776) :
    Calls Try.prog 32 #[.string s] w fun e w' => ∃ v, e = .returned (.tuple #[v, .int .i64 (clsP s : Nat), .int .i64 (clsE s)]) ∧ w'.ownsRow w.heap.size 34 1 v (clsL s).length ((clsL s).map (Value.int .u8)) ∧ Below w.heap.size w w' := by
  obtain ⟨i0, hi, hz0, hz1, hz2⟩ := info_parts infoClass
  have hwl := words_len s
  go_enter Try.func32, Try.ntmps32
  go_wp2_with fail
  refine (rWords_any s w hs).mono ?_
  rintro e w1 ⟨v, rfl, hrow, hb1⟩
  obtain ⟨pa, pc, rfl⟩ := row_sliceC hrow
  have HW1 := hide hrow
  clear hrow
  generalize hN : (wordsL s).length = N at *
  have HN := hide hN
  clear hN
  have HS1 : Hid (w.heap.size ≤ w1.heap.size) := hb1.size
  go_wp2
  go_loopw [6, 7] (fun v6 v7 wr => ∃ k : Nat, k ≤ N ∧ v7 = .int .i64 k ∧ Hid (∀ x ∈ (wordsL s).take k, wcls s x ≠ 0) ∧ wr.ownsRow w1.heap.size 34 1 v6 k (clsVs s ((wordsL s).take k)) ∧ Below w1.heap.size w1 wr) (fun _ v7 _ => N - (RowKit.intOf v7).toNat)
  case atStart => exact ⟨0, Nat.zero_le _, rfl, (by intro c hc; simp at hc), by simpa [clsVs] using World.ownsRow_nil w1 _ _ _, Below.refl _ _⟩
  case round =>
    obtain ⟨k, hk, rfl, HO, hrow, hB⟩ := hrel
    by_cases hlt : k < N
    · have hkz : k < (wordsL s).length := by rw [unhide HN]; exact hlt
      obtain ⟨x, hx⟩ : ∃ x, (wordsL s)[k]? = some x := ⟨_, List.getElem?_eq_getElem hkz⟩
      have hrw := row_belowC (unhide HW1) hB
      obtain ⟨g, hpa, hpc1, hpc2⟩ : ∃ g, pa = some ⟨g, 0, none⟩ ∧ N ≤ pc ∧ pc ≤ 9223372036854775807 := by
        rcases hrw.2 with ⟨_, h⟩ | ⟨g', cap', cur, h, h0, _, h1, h2, _⟩
        · omega
        · simp only [Value.slice.injEq] at h
          unfold maxLen at h2
          exact ⟨g', h.1, by rw [h.2.2]; exact h1, by rw [h.2.2]; exact h2⟩
      subst hpa
      have y0 : wr.cell? ⟨g, k * 2, none⟩ = some (.int .i64 (x.1 : Nat)) := (hrw.cellAt _ (by omega)).trans (wordCs_at s _ _ _ hx).1
      have y1 : wr.cell? ⟨g, k * 2 + 1, none⟩ = some (.string (s.extract x.1 x.2)) := (hrw.cellAt _ (by omega)).trans (wordCs_at s _ _ _ hx).2
      have hwm := words_mem s x (List.mem_of_getElem? hx)
      have hts : (wordsL s).take (k + 1) = (wordsL s).take k ++ [x] := by rw [List.take_add_one, hx]; rfl
      have hCC := fun w => rClass_any (s.extract x.1 x.2) w (by simp [ByteArray.size_extract]; omega)
      rw [← wcls_r s x] at hCC
      have HCC := hide hCC
      obtain ⟨va, vc, rfl⟩ := row_sliceC hrow
      clear hCC hrw
      by_cases hC : wcls s x = 0
      · have hbad : badW s = some x := bad_some s ((wordsL s).take k) ((wordsL s).drop (k + 1)) x (by rw [← hts, List.take_append_drop]) HO.out hC
        have hL : clsL s = [] := by unfold clsL; rw [hbad]
        have hP : clsP s = x.1 := by unfold clsP; rw [hbad]
        have hE : clsE s = 50 := by unfold clsE; rw [hbad]
        have HLP := hide (And.intro hL (And.intro hP hE))
        have HC0 := hide hC
        clear hL hP hE hbad hC hts hx
        generalize s.extract x.1 x.2 = T at *
        go_wp2_with (go_at_call 22; refine (unhide HCC _).mono ?_; rintro e w2 ⟨rfl, hb2⟩; rw [unhide HC0]; have z0 := (hb2.cell (p := ⟨g, k * 2, none⟩) (World.block_lt_of_cell? _ _ y0)).trans y0)
        go_quiet (fail)
        go_wp2
        have hB1 : Below w.heap.size w (w2.drewN nq) := below_drewN (below2 (hb1.trans (hB.mono hb1.size)) hb2) nq
        obtain ⟨q1, q2, q3⟩ := unhide HLP
        rw [q1, q2, q3]
        exact bodyPost_ret (v := .tuple #[.slice none 0 0, .int .i64 (x.1 : Nat), .int .i64 50]) (by simp [results, Try.f32, go_sem]) rfl ⟨_, rfl, World.ownsRow_nil _ _ _ _, hB1⟩
      · have HO2 : Hid (∀ y ∈ (wordsL s).take (k + 1), wcls s y ≠ 0) := by
          intro y hy
          rw [hts] at hy
          rcases List.mem_append.1 hy with h | h
          · exact HO.out y h
          · rw [List.mem_singleton.1 h]; exact hC
        have HV : Hid (clsVs s ((wordsL s).take (k + 1)) = clsVs s ((wordsL s).take k) ++ [.int .u8 (wcls s x)]) := by show _ = _; rw [hts, clsVs_snoc]
        have hC' : (wcls s x == 0) = false := by simp [hC]
        clear hts hC hx
        generalize s.extract x.1 x.2 = T at *
        generalize wcls s x = cl at *
        go_wp2_with (first | (go_at_call 22; refine (unhide HCC _).mono ?_; rintro e w2 ⟨rfl, hb2⟩; have hr2 := row_belowC hrow hb2; have hB2 := hB.trans (hb2.mono hB.size); have hs2 := hB2.size) | (at_builtin; refine wpList_append_own _ rfl _ _ 48 rfl w1.heap.size 34 i0 (.int .u8 0) 1 1 Try.underlying48 hi hz0 hz1 hz2 rfl (by decide) _ _ _ rfl (hr2.alloc _) ⟨w2.heap.size, 0, none⟩ 1 1 [.int .u8 cl] rfl rfl (cell_one_new _ _ _) (by simp [Value.oneCell']) (by unfold maxLen; omega) (by omega) (by simp; omega) ?_; intro v' w4 hown' hgrow _))
        have hB4 := (hB2.alloc hs2 _).grown hgrow (by simp; omega) (own_base hr2)
        go_roundw
        case rel => exact ⟨k + 1, by omega, by go_num, HO2, by rw [unhide HV]; exact hown', hB4⟩
        case measure => simp [RowKit.intOf]; omega
    · obtain rfl : k = N := by omega
      have hte : (wordsL s).take k = wordsL s := List.take_of_length_le (by rw [unhide HN]; exact Nat.le_refl _)
      rw [hte] at HO hrow
      have hbn := bad_none s HO.out
      have hL : clsL s = (wordsL s).map (wcls s) := by unfold clsL; rw [hbn]
      have hP : clsP s = 0 := by unfold clsP; rw [hbn]
      have hE : clsE s = 0 := by unfold clsE; rw [hbn]
      have HLP := hide (And.intro hL (And.intro hP hE))
      obtain ⟨va, vc, rfl⟩ := row_sliceC hrow
      clear hL hP hE hbn hte
      go_wp2
      obtain ⟨q1, q2, q3⟩ := unhide HLP
      rw [q1, q2, q3]
      exact bodyPost_ret (v := .tuple #[.slice va k vc, .int .i64 0, .int .i64 0]) (by simp [results, Try.f32, go_sem]) rfl ⟨_, rfl, by rw [List.length_map, unhide HN]; exact row_baseC hrow (unhide HS1), hb1.trans (hB.mono hb1.size)⟩
end Go.Proofs.Ytkpmcojoiijonaa
