/-
  The document's Same (furrowref03): two lines that hold the same are told so.
-/
import Derived.Test.YtlaennakglhmjaaGreatDoorLSame
namespace Go.Proofs.YtlaennakglhmjaaGreatDoor
open Go.RowKit Go.PlainAid Go.Lib Go.Shelf
set_option linter.unusedVariables false

theorem mach_len : ∀ (l : List UInt8) (n : Nat) (cur pend : List UInt8), (mach n cur pend l).1.length ≤ l.length + 1
  | [], n, cur, pend => by simp only [mach, lastF]; split <;> simp
  | b :: l, n, cur, pend => by
    unfold mach
    have h1 := mach_len l n [] []
    have h2 := mach_len l n cur (pend ++ [b])
    have h3 := mach_len l (n + 1) [] []
    have h4 := mach_len l n (cur ++ pend ++ [b]) []
    have h5 : (lastF n cur).length ≤ 1 := by unfold lastF; split <;> simp
    (repeat' split) <;> simp only [List.length_cons] <;> omega
theorem cut_len (s : ByteArray) : (cutS s).1.length ≤ s.size + 1 := by
  have := mach_len (L s) 0 [] []
  rw [L_len] at this; exact this
theorem scan_len (no : Int) (s : ByteArray) : (scanS no s).1.fields.length ≤ s.size + 1 := by
  unfold scanS
  have hl := L_len s
  by_cases h1 : (chkS s).2 ≠ 0
  · rw [if_pos h1]; simp [zeroD]
  · rw [if_neg h1]
    by_cases h2 : hasPrefix (trimB (L s)) [64] = true
    · rw [if_pos h2]
      unfold orderS
      split
      · have k1 := cut_len (S (untilB 58 ((trimB (L s)).drop 1)).2.1)
        rw [S_size] at k1
        have k2 := (until_le 58 ((trimB (L s)).drop 1)).2
        have k3 := trimB_le (L s)
        rw [List.length_drop] at k2
        simp only []; omega
      · simp [zeroD]
    · rw [if_neg h2]
      unfold plainS
      split
      · exact cut_len s
      · split
        · have k1 := cut_len (S ((cutS s).2.drop 9))
          rw [S_size, List.length_drop] at k1
          have k2 := mach_note_le (L s) 0 [] []
          have k3 : (cutS s).2.length ≤ s.size := by rw [← hl]; exact k2
          simp only []; omega
        · simp
theorem TxAt.grown {w w' : World} {a : Option Addr} {l : List (List UInt8)} (h : TxAt w a l) (hb : ∀ k, k < w.heap.size → w'.heap[k]? = w.heap[k]?) : TxAt w' a l := by
  intro i x hx
  obtain ⟨g, h1, h2⟩ := h i x hx
  have hlt : g < w.heap.size := by
    refine Decidable.byContradiction fun hn => ?_
    have : w.heap[g]? = none := Array.getElem?_eq_none (by omega)
    simp [World.cell?, this] at h2
  exact ⟨g, h1, by simpa [World.cell?, hb g hlt] using h2⟩

set_option maxRecDepth 100000 in
set_option maxHeartbeats 2000000 in
theorem refSame_yes (d : LineD) (a b : Option Addr) (ca cb : Nat) (w : World) (hnb : d.fields.length ≤ 1099511627776) (ha : TxAt w a d.fields) (hb : TxAt w b d.fields) :
    Calls Tryz.prog 15 #[lineV d (.slice a d.fields.length ca), lineV d (.slice b d.fields.length cb)] w fun e w' => e = .returned (.bool true) ∧ Below w.heap.size w w' := by
  obtain ⟨no, kind, name, fields, note⟩ := d
  dsimp only [lineV] at *
  obtain ⟨N, hN⟩ : ∃ N, fields.length = N := ⟨_, rfl⟩
  rw [hN] at hnb
  rw [hN]
  obtain ⟨W, hW⟩ : ∃ W, (w.alloc (.cells #[.int .i64 no, .int .u8 kind, .string (S name), .slice a N ca, .string (S note)] 41)).alloc (.cells #[.int .i64 no, .int .u8 kind, .string (S name), .slice b N cb, .string (S note)] 41) = W := ⟨_, rfl⟩
  have hold : ∀ k, k < w.heap.size → W.heap[k]? = w.heap[k]? := fun k hk => by
    rw [← hW, Below.heap_alloc _ _ _ (by simp; omega), Below.heap_alloc _ _ _ hk]
  have g1 : W.heap[w.heap.size]? = some (.cells #[.int .i64 no, .int .u8 kind, .string (S name), .slice a N ca, .string (S note)] 41) := by
    rw [← hW, Below.heap_alloc _ _ _ (by simp)]; exact heap_alloc_new _ _
  have g2 : W.heap[w.heap.size + 1]? = some (.cells #[.int .i64 no, .int .u8 kind, .string (S name), .slice b N cb, .string (S note)] 41) := by
    have := heap_alloc_new (w.alloc (.cells #[.int .i64 no, .int .u8 kind, .string (S name), .slice a N ca, .string (S note)] 41)) (.cells #[.int .i64 no, .int .u8 kind, .string (S name), .slice b N cb, .string (S note)] 41)
    rw [hW] at this; simpa using this
  have hBW : Below w.heap.size w W := by rw [← hW]; exact ((Below.refl _ w).alloc (Nat.le_refl _) _).alloc (by simp) _
  have HA := hide (ha.grown hold)
  have HB := hide (hb.grown hold)
  have HN := hide hN
  have HW := hide hW
  obtain ⟨c0, c1, c2, c3, c4, -, -, -, -, -⟩ := box5 g1
  obtain ⟨e0, e1, e2, e3, e4, -, -, -, -, -⟩ := box5 g2
  clear ha hb hN hold hW g1 g2
  go_enter Tryz.func15, Tryz.ntmps15
  go_wp2
  rw [unhide HW]
  go_loopw [5] (fun v5 wr => ∃ i m : Nat, i ≤ N ∧ v5 = .int .i64 i ∧ wr = W.drewN m) (fun v5 _ => N - (RowKit.intOf v5).toNat)
  case atStart => exact ⟨0, 0, Nat.zero_le _, rfl, rfl⟩
  case round =>
    obtain ⟨i, m, hi, rfl, rfl⟩ := hrel
    obtain ⟨WX, hWX⟩ : ∃ WX, W.drewN m = WX := ⟨_, rfl⟩
    have k3 : WX.cell? ⟨w.heap.size, 3, none⟩ = some (.slice a N ca) := by rw [← hWX]; exact c3
    have m3 : WX.cell? ⟨w.heap.size + 1, 3, none⟩ = some (.slice b N cb) := by rw [← hWX]; exact e3
    by_cases hlt : i < N
    · obtain ⟨x, hx⟩ : ∃ x, fields[i]? = some x := ⟨_, List.getElem?_eq_getElem (by rw [unhide HN]; exact hlt)⟩
      obtain ⟨g, rfl, p0⟩ := unhide HA i x hx
      obtain ⟨g', rfl, p2⟩ := unhide HB i x hx
      have q0 : WX.cell? ⟨g, i, none⟩ = some (.string (S x)) := by rw [← hWX]; exact p0
      have q2 : WX.cell? ⟨g', i, none⟩ = some (.string (S x)) := by rw [← hWX]; exact p2
      rw [hWX]
      have HWX := hide hWX
      clear hWX p0 p2 hx c0 c1 c2 c3 c4 e0 e1 e2 e3 e4
      go_wp2
      go_quiet (fail)
      go_wp2
      go_roundw
      case rel => exact ⟨i + 1, m + nq, by omega, by go_num, by rw [← unhide HWX]; exact World.drewN_drewN _ _ _⟩
      case measure => simp [RowKit.intOf]; omega
    · rw [hWX]
      have HWX := hide hWX
      clear hWX
      obtain rfl : i = N := by omega
      go_wp2
      go_ret
      exact ⟨rfl, by rw [← unhide HWX]; exact below_drewN hBW m⟩

end Go.Proofs.YtlaennakglhmjaaGreatDoor
