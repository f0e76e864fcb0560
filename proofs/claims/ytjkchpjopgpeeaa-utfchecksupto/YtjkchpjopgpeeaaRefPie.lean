/-
  The document's Longest and Pieces (furrowref01), for every text.
-/
import Derived.Test.YtjkchpjopgpeeaaRefBeg
import Derived.Test.YtjkchpjopgpeeaaPieM
import Derived.Test.YtjkchpjopgpeeaaCutW
import Derived.Test.YtjkchpjopgpeeaaRefSpots
namespace Go.Proofs.Ytjkchpjopgpeeaa
open Go.RowKit Go.PlainAid Go.Lib Go.Shelf
set_option linter.unusedVariables false

theorem beg_front (s : ByteArray) (i k : Nat) (h : i + k + 1 ≤ s.size) (h1 : 1 ≤ k) : BegU (s.extract i (i + k + 1)) ↔ BegT (s.extract i s.size) k := by
  have hsz : (s.extract i (i + k + 1)).size = k + 1 := by rw [ByteArray.size_extract]; omega
  have hbt : ∀ j, j < k + 1 → bt (s.extract i (i + k + 1)) j = bt (s.extract i s.size) j := fun j hj => by
    rw [bt_front s i (i + k + 1) j h (by omega), bt_extract]
  unfold BegU BegT TailsU
  rw [hsz, hbt 0 (by omega), hbt 1 (by omega)]
  constructor
  · rintro ⟨a, b, c⟩
    exact ⟨a, fun j j1 j2 => by rw [← hbt j j2]; exact b j j1 j2, c⟩
  · rintro ⟨a, b, c⟩
    exact ⟨a, fun j j1 j2 => by rw [hbt j j2]; exact b j j1 j2, c⟩

set_option maxRecDepth 100000 in
set_option maxHeartbeats 2000000 in
theorem longest_any (s : ByteArray) (i : Nat) (w : World) (hs : s.size ≤ 1099511627776) (hi : i < s.size) :
    Calls Try.prog 36 #[.string s, .int .i64 (i : Nat)] w fun e w' => e = .returned (.int .i64 (partN (s.extract i s.size) : Nat)) ∧ Below w.heap.size w w' := by
  have hes : (s.extract i s.size).size = s.size - i := extract_size s i
  go_enter Try.func36, Try.ntmps36
  go_wp2
  go_loopw [5] (fun v5 wr => ∃ k : Nat, 1 ≤ k ∧ k ≤ 4 ∧ i + k ≤ s.size ∧ v5 = .int .i64 (k : Nat) ∧ Hid (∀ j, 1 ≤ j → j < k → BegT (s.extract i s.size) j) ∧ Below w.heap.size w wr) (fun v5 _ => 4 - (intOf v5).toNat)
  case atStart => exact ⟨1, by omega, by omega, by omega, rfl, by show ∀ j, _; intro j h1 h2; omega, Below.refl _ _⟩
  case round =>
    obtain ⟨k, hk1, hk4, hks, rfl, HT, hB⟩ := hrel
    have HEND : Hid (k = 4 ∨ k = s.size - i ∨ ¬ BegT (s.extract i s.size) k → partN (s.extract i s.size) = k) := fun h => part_long _ k hk1 hk4 (by omega) HT.out (by rw [hes]; exact h)
    by_cases h4 : k < 4
    · have d4 : decide ((k : Int) < 4) = true := decide_eq_true (by omega)
      by_cases hsz : i + k < s.size
      · have dsz : decide ((i : Int) + (k : Int) < (s.size : Int)) = true := decide_eq_true (by omega)
        have hsz' : (i : Int) + (k : Int) < (s.size : Int) := by omega
        have HBG := hide (fun W => begins_any (s.extract i (i + k + 1)) W (by rw [ByteArray.size_extract]; omega) (by rw [ByteArray.size_extract]; omega))
        have HIF := hide (beg_front s i k (by omega) hk1)
        have tn : ((i : Int) + (k : Int) + 1).toNat = i + k + 1 := by omega
        have le1 : (i : Int) ≤ (i : Int) + (k : Int) + 1 := by omega
        have le2 : (i : Int) + (k : Int) + 1 ≤ (s.size : Int) := by omega
        have HNX : Hid (BegT (s.extract i s.size) k → ∀ j, 1 ≤ j → j < k + 1 → BegT (s.extract i s.size) j) := fun h j h1 h2 => by
          by_cases hj : j < k
          · exact HT.out j h1 hj
          · obtain rfl : j = k := by omega
            exact h
        clear HT
        generalize hU : s.extract i (i + k + 1) = U at *
        go_wp2_with fail
        refine (unhide HBG _).mono ?_
        rintro e w2 ⟨t, rfl, ht, hb2⟩
        have hB2 : Below w.heap.size w w2 := hB.trans (hb2.mono hB.size)
        cases t with
        | true =>
          have HBT := hide (HNX.out ((unhide HIF).1 (ht.1 rfl)))
          clear ht HNX HEND
          go_wp2
          go_roundw
          case rel => exact ⟨k + 1, by omega, by omega, by omega, by go_num, unhide HBT, hB2⟩
          case measure => simp [intOf]; omega
        | false =>
          have HP : Hid (partN (s.extract i s.size) = k) := HEND.out (.inr (.inr (fun h => by have := ht.2 ((unhide HIF).2 h); cases this)))
          clear ht HNX HEND
          go_wp2
          go_ret
          exact ⟨ret_int (by rw [HP.out]), hB2⟩
      · have dsz : decide ((i : Int) + (k : Int) < (s.size : Int)) = false := decide_eq_false (by omega)
        have hsz' : ¬ (i : Int) + (k : Int) < (s.size : Int) := by omega
        have HP : Hid (partN (s.extract i s.size) = k) := HEND.out (.inr (.inl (by omega)))
        clear HEND HT
        go_wp2
        go_ret
        exact ⟨ret_int (by rw [HP.out]), hB⟩
    · obtain rfl : k = 4 := by omega
      have HP : Hid (partN (s.extract i s.size) = 4) := HEND.out (.inl rfl)
      clear HEND HT
      go_wp2
      go_ret
      exact ⟨ret_int (by rw [HP.out]), hB⟩

theorem infoPie : (Try.prog.info? 51).map (fun i => (i.zero, i.size, i.bytes)) = some (some (.agg #[.string ⟨#[]⟩, .int .i32 0]), 2, 24) := by kernel_rfl
/-- the cells of the document's pieces -/
def pieCs (s : ByteArray) (l : List Nat) : List Value := l.flatMap fun i => [.string (s.extract i (pieceEnd s i)), .int .i32 ((Utf8.decode s i).1 : Nat)]
theorem pieCs_snoc (s : ByteArray) (l : List Nat) (i : Nat) : pieCs s (l ++ [i]) = pieCs s l ++ [.string (s.extract i (pieceEnd s i)), .int .i32 ((Utf8.decode s i).1 : Nat)] := by simp [pieCs]
theorem pieces_len (s : ByteArray) : ∀ (k i : Nat), s.size - i ≤ k → (fromP s i).length ≤ s.size - i := by
  intro k
  induction k with
  | zero => intro i h; rw [from_end s i (by omega)]; simp
  | succ k ih =>
    intro i h
    by_cases hi : i < s.size
    · rw [from_step s i hi, List.length_cons]
      have hp := pieceEnd_le s i hi
      have := ih (pieceEnd s i) (by omega)
      omega
    · rw [from_end s i (by omega)]; simp

set_option maxRecDepth 100000 in
set_option maxHeartbeats 4000000 in
theorem refPieces01_any (s : ByteArray) (w : World) (hs : s.size ≤ 1099511627776) :
    Calls Try.prog 20 #[.string s] w fun e w' => ∃ v, e = .returned v ∧ w'.ownsRow w.heap.size 51 2 v (pieces s).length (pieCs s (pieces s)) ∧ Below w.heap.size w w' := by
  obtain ⟨i0, hi0, hz0, hz1, hz2⟩ := info_parts infoPie
  rw [pieces_from]
  have HLEN := hide (pieces_len s)
  go_enter Try.func20, Try.ntmps20
  go_wp2
  go_loopw [3, 4] (fun v3 v4 wr => ∃ (p : Nat) (pre : List Nat), p ≤ s.size ∧ pre.length ≤ p ∧ v4 = .int .i64 (p : Nat) ∧ Hid (pre ++ fromP s p = fromP s 0) ∧ wr.ownsRow w.heap.size 51 2 v3 pre.length (pieCs s pre) ∧ Below w.heap.size w wr) (fun _ v4 _ => s.size - (intOf v4).toNat)
  case atStart => exact ⟨0, [], Nat.zero_le _, Nat.le_refl _, rfl, rfl, by simpa [pieCs] using World.ownsRow_nil w _ _ _, Below.refl _ _⟩
  case round =>
    obtain ⟨p, pre, hp, hpl, rfl, HP, hrow, hB⟩ := hrel
    by_cases hlt : p < s.size
    · have hpe := pieceEnd_le s p hlt
      have hst := from_step s p hlt
      have HNX : Hid ((pre ++ [p]) ++ fromP s (pieceEnd s p) = fromP s 0) := by show _ = _; rw [← HP.out, hst]; simp
      have HLO := hide (fun W => longest_any s p W hs hlt)
      have hdw := dec_why s p hlt
      have HPE : Hid (pieceEnd s p = if why s p = 0 then p + (Utf8.decode s p).2 else p + partN (s.extract p s.size)) := rfl
      have hdb := dec_bounds s p hlt
      obtain ⟨va, vc, rfl⟩ : ∃ a c, u3 = .slice a pre.length c := by
        rcases hrow.2 with ⟨rfl, h0⟩ | ⟨g, cap, cur, rfl, _⟩
        · exact ⟨none, 0, by rw [h0]⟩
        · exact ⟨_, _, rfl⟩
      have HCS0 := hide (pieCs_snoc s pre p)
      have HAT : Hid (∀ W, Calls Try.prog 19 #[.string s, .int .i64 (p : Nat)] W fun e w' => e = .returned (.agg #[.int .i64 (p : Nat), .int .i64 ((Utf8.decode s p).2 : Nat), .int .i32 ((Utf8.decode s p).1 : Nat), .int .i64 (why s p)]) ∧ Below W.heap.size W w') := fun W => refAt_any s p W (by omega) hlt
      clear HP hst
      rcases hdw with ⟨hw, -⟩ | ⟨hw, hd⟩
      · replace hw : why s p = 0 := hw
        have hE : pieceEnd s p = p + (Utf8.decode s p).2 := by rw [HPE.out, if_pos hw]
        rw [hE] at hpe
        have HNX2 : Hid ((pre ++ [p]) ++ fromP s (p + (Utf8.decode s p).2) = fromP s 0) := by show _ = _; rw [← hE]; exact HNX.out
        obtain ⟨X, hX⟩ : ∃ X, s.extract p (p + (Utf8.decode s p).2) = X := ⟨_, rfl⟩
        have HCS : Hid (pieCs s (pre ++ [p]) = pieCs s pre ++ [.string X, .int .i32 ((Utf8.decode s p).1 : Nat)]) := by show _ = _; rw [unhide HCS0, hE, hX]
        have dw : (why s p != 0) = false := by simpa using hw
        clear HPE HNX hE HCS0 HLO hw
        generalize (Utf8.decode s p).1 = R at *
        generalize (Utf8.decode s p).2 = D0 at *
        generalize why s p = Y at *
        have le1 : (p : Int) ≤ (p : Int) + (D0 : Int) := by omega
        have le2 : (p : Int) + (D0 : Int) ≤ (s.size : Int) := by omega
        have tn : ((p : Int) + (D0 : Int)).toNat = p + D0 := by omega
        have hwr : IntKind.i64.wrap ((p : Int) + (D0 : Int)) = (p : Int) + (D0 : Int) := by rw [IntKind.wrap_i64]; omega
        have le0 : 0 ≤ (p : Int) + (D0 : Int) := by omega
        go_wp2_with fail
        refine (unhide HAT _).mono ?_
        rintro e w2 ⟨rfl, hb2⟩
        have hB2 : Below w.heap.size w w2 := hB.trans (hb2.mono hB.size)
        have hr2 := row_below2 hrow hb2
        obtain ⟨Wb, hWb⟩ : ∃ Wb, w2.alloc (.cells #[.int .i64 (p : Nat), .int .i64 (D0 : Nat), .int .i32 (R : Nat), .int .i64 Y] 27) = Wb := ⟨_, rfl⟩
        have hBb : Below w.heap.size w Wb := by rw [← hWb]; exact hB2.alloc hB2.size _
        have hrb : Wb.ownsRow w.heap.size 51 2 (.slice va pre.length vc) pre.length (pieCs s pre) := by rw [← hWb]; exact hr2.alloc _
        have gB : Wb.heap[w2.heap.size]? = some (.cells #[.int .i64 (p : Nat), .int .i64 (D0 : Nat), .int .i32 (R : Nat), .int .i64 Y] 27) := by rw [← hWb]; exact heap_alloc_new w2 _
        have hlb : w2.heap.size < Wb.heap.size := by rw [← hWb]; simp
        obtain ⟨z0, z1, z2, z3⟩ := cell_four Wb w2.heap.size _ _ _ _ _ gB
        have HGB := hide gB
        clear gB hr2 hB2 hb2 hrow hB
        go_wp2
        have hbs1 : w.heap.size ≤ Wb.heap.size := hBb.size
        refine wp_cutC ?F1 (fun v' w5 => w5.ownsRow w.heap.size 51 2 v' (pre.length + 1) (pieCs s (pre ++ [p])) ∧ Below w.heap.size w w5) ?h1 ?k1
        case h1 =>
          go_region_law (refine step_append_ownC rfl (.tmp 22) (.tmp 32) 48 rfl w.heap.size 51 i0 (.agg #[.string ⟨#[]⟩, .int .i32 0]) 2 24 Try.underlying48 hi0 hz0 hz1 hz2 rfl (by decide) (.slice va pre.length vc) pre.length _ (by simp [Act.eval]) ((show Wb.drew.ownsRow _ _ _ _ _ _ from hrb).alloc _) ⟨Wb.heap.size, 0, none⟩ 1 1 [.string X, .int .i32 (R : Nat)] (by simp [Act.eval]) rfl (cell_two_newC Wb.drew _ _ _) (by simp [Value.oneCell']) (by unfold maxLen; omega) (by omega) (by simp; omega) ?_; intro v' w4 hown' hgrow)
          all_goals
            refine onlyC_mk ⟨v', ⟨by rw [HCS.out]; exact hown', below_grown2 ((hBb.drew).alloc (by have := hBb.size; exact this) _) (by have := hBb.size; simp; omega) ((show Wb.drew.ownsRow _ _ _ _ _ _ from hrb).alloc _) hgrow⟩, ?_⟩
            rfl
        case k1 =>
          rintro v' w5 ⟨hr5, hB5⟩
          go_wp2
          go_roundw
          case rel => exact ⟨p + D0, pre ++ [p], by omega, by simp; omega, by go_num, HNX2.out, by rw [List.length_append]; exact hr5, hB5⟩
          case measure => simp [intOf]; omega
      · replace hw : why s p ≠ 0 := hw
        have hE : pieceEnd s p = p + partN (s.extract p s.size) := by rw [HPE.out, if_neg hw]
        rw [hE] at hpe
        have HNX2 : Hid ((pre ++ [p]) ++ fromP s (p + partN (s.extract p s.size)) = fromP s 0) := by show _ = _; rw [← hE]; exact HNX.out
        obtain ⟨X, hX⟩ : ∃ X, s.extract p (p + partN (s.extract p s.size)) = X := ⟨_, rfl⟩
        have HCS : Hid (pieCs s (pre ++ [p]) = pieCs s pre ++ [.string X, .int .i32 ((Utf8.decode s p).1 : Nat)]) := by show _ = _; rw [unhide HCS0, hE, hX]
        have dw : (why s p != 0) = true := by simpa using hw
        clear HPE HNX hE HCS0 hw hd
        generalize (Utf8.decode s p).1 = R at *
        generalize (Utf8.decode s p).2 = D0 at *
        generalize why s p = Y at *
        generalize partN (s.extract p s.size) = D at *
        have le1 : (p : Int) ≤ (p : Int) + (D : Int) := by omega
        have le2 : (p : Int) + (D : Int) ≤ (s.size : Int) := by omega
        have tn : ((p : Int) + (D : Int)).toNat = p + D := by omega
        have hwr : IntKind.i64.wrap ((p : Int) + (D : Int)) = (p : Int) + (D : Int) := by rw [IntKind.wrap_i64]; omega
        have le0 : 0 ≤ (p : Int) + (D : Int) := by omega
        go_wp2_with fail
        refine (unhide HAT _).mono ?_
        rintro e w2 ⟨rfl, hb2⟩
        have hB2 : Below w.heap.size w w2 := hB.trans (hb2.mono hB.size)
        have hr2 := row_below2 hrow hb2
        obtain ⟨Wb, hWb⟩ : ∃ Wb, w2.alloc (.cells #[.int .i64 (p : Nat), .int .i64 (D0 : Nat), .int .i32 (R : Nat), .int .i64 Y] 27) = Wb := ⟨_, rfl⟩
        have hBb : Below w.heap.size w Wb := by rw [← hWb]; exact hB2.alloc hB2.size _
        have hrb : Wb.ownsRow w.heap.size 51 2 (.slice va pre.length vc) pre.length (pieCs s pre) := by rw [← hWb]; exact hr2.alloc _
        have gB : Wb.heap[w2.heap.size]? = some (.cells #[.int .i64 (p : Nat), .int .i64 (D0 : Nat), .int .i32 (R : Nat), .int .i64 Y] 27) := by rw [← hWb]; exact heap_alloc_new w2 _
        have hlb : w2.heap.size < Wb.heap.size := by rw [← hWb]; simp
        obtain ⟨z0, z1, z2, z3⟩ := cell_four Wb w2.heap.size _ _ _ _ _ gB
        have HGB := hide gB
        clear gB hr2 hB2 hb2 hrow hB
        go_wp2_with fail
        refine (unhide HLO _).mono ?_
        rintro e w3 ⟨rfl, hb3⟩
        have hB3 : Below w.heap.size w w3 := hBb.trans (hb3.mono hBb.size)
        have hr3 := row_below2 hrb hb3
        obtain ⟨y0, y1, y2, y3⟩ := cell_four w3 w2.heap.size _ _ _ _ _ ((hb3.block _ hlb).trans (unhide HGB))
        clear z0 z1 z2 z3 hrb hBb hb3 hWb
        go_wp2
        have hbs2 : w.heap.size ≤ w3.heap.size := hB3.size
        refine wp_cutC ?F2 (fun v' w5 => w5.ownsRow w.heap.size 51 2 v' (pre.length + 1) (pieCs s (pre ++ [p])) ∧ Below w.heap.size w w5) ?h2 ?k2
        case h2 =>
          go_region_law (refine step_append_ownC rfl (.tmp 22) (.tmp 32) 48 rfl w.heap.size 51 i0 (.agg #[.string ⟨#[]⟩, .int .i32 0]) 2 24 Try.underlying48 hi0 hz0 hz1 hz2 rfl (by decide) (.slice va pre.length vc) pre.length _ (by simp [Act.eval]) ((show w3.drew.ownsRow _ _ _ _ _ _ from hr3).alloc _) ⟨w3.heap.size, 0, none⟩ 1 1 [.string X, .int .i32 (R : Nat)] (by simp [Act.eval]) rfl (cell_two_newC w3.drew _ _ _) (by simp [Value.oneCell']) (by unfold maxLen; omega) (by omega) (by simp; omega) ?_; intro v' w4 hown' hgrow)
          all_goals
            refine onlyC_mk ⟨v', ⟨by rw [HCS.out]; exact hown', below_grown2 ((hB3.drew).alloc (by have := hB3.size; exact this) _) (by have := hB3.size; simp; omega) ((show w3.drew.ownsRow _ _ _ _ _ _ from hr3).alloc _) hgrow⟩, ?_⟩
            rfl
        case k2 =>
          rintro v' w5 ⟨hr5, hB5⟩
          go_wp2
          go_roundw
          case rel => exact ⟨p + D, pre ++ [p], by omega, by simp; omega, by go_num, HNX2.out, by rw [List.length_append]; exact hr5, hB5⟩
          case measure => simp [intOf]; omega
    · obtain rfl : p = s.size := by omega
      have he : Hid (pre = fromP s 0) := by
        have := HP.out
        rw [from_end s _ (Nat.le_refl _), List.append_nil] at this
        exact this
      obtain ⟨va, vc, rfl⟩ : ∃ a c, u3 = .slice a pre.length c := by
        rcases hrow.2 with ⟨rfl, h0⟩ | ⟨g, cap, cur, rfl, _⟩
        · exact ⟨none, 0, by rw [h0]⟩
        · exact ⟨_, _, rfl⟩
      have HR := hide hrow
      clear hrow HP
      go_wp2
      go_ret
      exact ⟨_, rfl, by rw [← he.out]; exact unhide HR, hB⟩
end Go.Proofs.Ytjkchpjopgpeeaa
