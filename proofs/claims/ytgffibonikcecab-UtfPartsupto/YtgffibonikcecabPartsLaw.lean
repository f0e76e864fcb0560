/-
  UtfParts: by parts there are no more characters, the same but for FFFD, and each part at a wrong byte has one to three bytes: for every text that holds at most 1048576 letters.
-/
import Derived.Test.YtgffibonikcecabPartsMath
import Derived.Test.YtgffibonikcecabLives
import Derived.Test.YtgffibonikcecabBulk
import Derived.Deep.QuietTactic
import Derived.BigQuiet
import Derived.ProofKit
import Derived.OpenShut
import Derived.ShutString
import Derived.ChangeOld
import Derived.JoinedCond
namespace Go.Proofs.Ytgffibonikcecab.utfParts
open Go.ChangeShapes Go.WideShapes Go.ChangeAt Go.RowKit Go.PlainAid Go.Lib Go.Shelf Go.Seq2
open Go.ChangeMaps (open_string shut_string)
attribute [local go_sem] Oper.semAt_some
set_option linter.unusedVariables false

theorem below2 {a b c : World} (h : Below a.heap.size a b) (k : Below b.heap.size b c) : Below a.heap.size a c := h.trans (k.mono h.size)
theorem boxed_below {W W' : World} {B : Nat} {t : TypeId} {v : Value} (h : Boxed W B t v) (hb : Below W.heap.size W W') : Boxed W' B t v := (hb.block B h.lt).trans h
theorem pieces_some (f : Nat) (x : Value) (w : World) (h : f = 34) : (binOp .eql 43 (.func (.func f) #[] #[x]) .nilFunc).run Try.prog w = .ok (.bool false) w := by subst h; kernel_rfl
theorem fil_drop (l : List Nat) (k x : Nat) (h : l[k]? = some x) : l.drop k = x :: l.drop (k + 1) := by
  obtain ⟨h1, rfl⟩ := List.getElem?_eq_some_iff.1 h
  exact List.drop_eq_getElem_cons h1

set_option maxRecDepth 100000 in
set_option maxHeartbeats 8000000 in
theorem walk (s : ByteArray) (w : World) (hs : s.size ≤ 1048576) :
    Calls Try.prog 7 #[.string s] w fun e w' => e = .returned (.bool true) ∧ Below w.heap.size w w' := by
  refine (callsIn_wide (n := 12)).1 ?_
  refine callsIn_of_wp_marks Try.func7 rfl trivial ?_ rfl
  simp only [Try.ntmps7, List.size_toArray, List.length_cons, List.length_nil, Nat.reduceAdd, Nat.reduceSub, Array.replicate_succ, Array.replicate_zero, List.push_toArray, List.append_toArray, List.nil_append, List.cons_append]
  have hF : ∀ f, Fence.wide.fn f := fun _ => trivial
  refine wpIn_wide.2 ?_
  go_wp2_with fail
  refine (lives_any _).mono ?_
  rintro e w1 ⟨rfl, hb1⟩
  have x1 := boxed_below (Boxed.new w 4 (.bool false)) hb1
  have hB1 : Below w.heap.size w w1 := below_after _ hb1 rfl
  clear hb1
  have hl1 := chars_length s 0
  go_wp2_with fail
  refine (runes_any s _ (by omega)).mono ?_
  rintro e w2 ⟨cap2, rfl, hown2, hb2⟩
  have x2 := boxed_below x1 hb2
  have hB2 := below2 hB1 hb2
  have HR2 := hide (own_zero hown2)
  clear hb2 hB1 x1 hown2
  have hpl : (pieces s).length ≤ (chars s 0).length := by
    have := pcs_sublist s (places s) 0
    rw [places_length] at this; exact this
  go_wp2_with fail
  refine (parts_any s _ (by omega)).mono ?_
  rintro e w3 ⟨v3, rfl, hown3, hb3⟩
  have x3 := boxed_below x2 hb3
  have hB3 := below2 hB2 hb3
  have HR2' := hide (row_below (unhide HR2) hb3)
  have HR3 := hide (own_zero hown3)
  clear hb3 hB2 x2 HR2
  obtain ⟨a3, n3, c3, rfl, hn3, hc3⟩ : ∃ a n' c, v3 = .slice a n' c ∧ n' = (pieces s).length ∧ ∀ k x, (runesAt s (pieces s))[k]? = some x → ∃ g, a = some ⟨g, 0, none⟩ ∧ w3.cell? ⟨g, k, none⟩ = some (.int .i32 (x : Nat)) := by
    have hcell : ∀ k x, (runesAt s (pieces s))[k]? = some x → (partVals s (pieces s))[k]? = some (.int .i32 (x : Nat)) ∧ k < (pieces s).length := by
      intro k x hx
      obtain ⟨h1, h2⟩ := List.getElem?_eq_some_iff.1 hx
      have h1' : k < (pieces s).length := by simpa [runesAt] using h1
      subst h2
      exact ⟨by simp [partVals, runesAt, List.getElem?_eq_getElem h1'], h1'⟩
    by_cases hz : (pieces s).length = 0
    · rcases hown3.2 with ⟨rfl, h⟩ | ⟨g, cap, cur, rfl, _⟩
      · exact ⟨_, _, _, rfl, hz.symm, fun k x hx => by have := (hcell k x hx).2; omega⟩
      · exact ⟨_, _, _, rfl, rfl, fun k x hx => by have := (hcell k x hx).2; omega⟩
    · obtain ⟨j, hj⟩ : ∃ j, (pieces s).length = j + 1 := ⟨(pieces s).length - 1, by omega⟩
      rw [hj] at hown3
      obtain ⟨g, cap, rfl⟩ := ownsRow_succ hown3
      refine ⟨_, _, _, rfl, hj.symm, fun k x hx => ⟨g, rfl, ?_⟩⟩
      have h8 := hcell k x hx
      exact (hown3.cellAt k (by omega)).trans h8.1
  subst hn3
  clear hown3 HR3
  have hchk : ∀ (a : Nat) (c : Int), checkV s a c → c = 0 → (pieces s).length = (chars s 0).length := by
    intro a c hv hc
    rcases hv with ⟨h, _, _⟩ | ⟨pre, rest, _, _, h3, h4⟩
    · have := pcs_right s s.size 0 0 (by omega) (Nat.le_refl _) h
      rw [← places_length]; exact congrArg List.length this
    · exact absurd (h4.symm.trans hc) h3
  have hfil : fil (runesAt s (places s)) = fil (runesAt s (pieces s)) := (fil_pcs s s.size 0 0 (by omega) (fun j _ h _ => by omega)).symm
  have hca : ∀ k x, (runesAt s (places s))[k]? = some x → w3.cell? ⟨w1.heap.size, k, none⟩ = some (.int .i32 (x : Nat)) := by
    intro k x hx
    have e1 : runeVals s = (runesAt s (places s)).map fun x => .int .i32 ((x : Nat) : Int) := by
      rw [show runesAt s (places s) = (chars s 0).map (·.2) from (chars_snd s s.size 0 (by omega)).symm]
      unfold runeVals; rw [List.map_map]; rfl
    have hk := (List.getElem?_eq_some_iff.1 hx).1
    have hk' : k < (chars s 0).length := by simpa [runesAt, places] using hk
    refine ((unhide HR2').cellAt k (by omega)).trans ?_
    rw [e1, List.getElem?_map, hx]; rfl
  have hla : (runesAt s (places s)).length = (chars s 0).length := by simp [runesAt, places]
  have hlb : (runesAt s (pieces s)).length = (pieces s).length := by simp [runesAt]
  generalize runesAt s (places s) = A at *
  generalize runesAt s (pieces s) = B at *
  generalize (chars s 0).length = n1 at *
  generalize (pieces s).length = n2 at *
  have HC3 := hide hc3
  have HCA := hide hca
  have HFIL := hide hfil
  have HCHK := hide hchk
  clear HR2' hc3 hca hfil hchk
  go_wp2_with fail
  refine (check_any s _ (by unfold maxLen; omega)).mono ?_
  rintro e w4 ⟨ac, c, hcv, rfl, hb4⟩
  have hk0 := unhide HCHK _ _ hcv
  have x4 := boxed_below x3 hb4
  have hB4 := below2 hB3 hb4
  have HC4 : Hid (∀ k x, B[k]? = some x → ∃ g, a3 = some ⟨g, 0, none⟩ ∧ w4.cell? ⟨g, k, none⟩ = some (.int .i32 (x : Nat))) := by
    intro k x hx
    obtain ⟨g, hg, hc⟩ := unhide HC3 k x hx
    refine ⟨g, hg, ?_⟩
    have hlt : g < w3.heap.size := by
      refine Decidable.byContradiction fun hn => ?_
      have : w3.heap[g]? = none := Array.getElem?_eq_none (by omega)
      simp [World.cell?, this] at hc
    exact (hb4.cell (p := ⟨g, k, none⟩) hlt).trans hc
  have HCA4 : Hid (∀ k x, A[k]? = some x → w4.cell? ⟨w1.heap.size, k, none⟩ = some (.int .i32 (x : Nat))) := by
    intro k x hx
    have hc := unhide HCA k x hx
    have hlt : w1.heap.size < w3.heap.size := by
      refine Decidable.byContradiction fun hn => ?_
      have : w3.heap[w1.heap.size]? = none := Array.getElem?_eq_none (by omega)
      simp [World.cell?, this] at hc
    exact (hb4.cell (p := ⟨w1.heap.size, k, none⟩) hlt).trans hc
  clear hb4 hB3 x3 HC3 HCA HCHK hcv
  have hcs : (c == 0) = true ∧ ((n2 : Int) != (n1 : Int)) = false ∨ (c == 0) = false := by
    by_cases hc : c = 0
    · left; exact ⟨by simp [hc], by simp [hk0 hc]⟩
    · right; simp [hc]
  clear hk0
  have d1 : decide ((n1 : Int) < (n2 : Int)) = false := by simp; omega
  have d1N : decide (n1 < n2) = false := by simp; omega
  rcases hcs with ⟨q1, q2⟩ | q1
  · go_wp2
    clear d1 d1N q1
    clear q2
    go_loopw [7, 8] (fun v7 v8 wr => ∃ i k m : Nat, i ≤ n1 ∧ k ≤ n2 ∧ Hid (fil (A.drop i) = fil (B.drop k)) ∧ v8 = .int .i64 i ∧ v7 = .int .i64 k ∧ wr = w4.drewN m) (fun _ v8 _ => n1 - (intOf v8).toNat)
    case atStart => exact ⟨0, 0, 0, Nat.zero_le _, Nat.zero_le _, HFIL, rfl, rfl, rfl⟩
    case round =>
      obtain ⟨i, k, m, hi1, hk1, HF1, rfl, rfl, rfl⟩ := hrel
      obtain ⟨WX, hWX⟩ : ∃ WX, w4.drewN m = WX := ⟨_, rfl⟩
      have xX : Boxed WX w.heap.size 4 (.bool false) := by rw [← hWX]; exact x4
      have hBX : Below w.heap.size w WX := by rw [← hWX]; exact below_drewN hB4 m
      have HCX : Hid (∀ k x, B[k]? = some x → ∃ g, a3 = some ⟨g, 0, none⟩ ∧ WX.cell? ⟨g, k, none⟩ = some (.int .i32 (x : Nat))) := by rw [← hWX]; exact HC4
      have HCAX : Hid (∀ k x, A[k]? = some x → WX.cell? ⟨w1.heap.size, k, none⟩ = some (.int .i32 (x : Nat))) := by rw [← hWX]; exact HCA4
      rw [hWX]
      have HWX := hide hWX
      clear hWX
      by_cases hlt : i < n1
      · obtain ⟨x, hx⟩ : ∃ x, A[i]? = some x := ⟨_, List.getElem?_eq_getElem (by omega)⟩
        have ca := unhide HCAX i x hx
        have hdr := fil_drop A i x hx
        by_cases hxf : x = 65533
        · have hxb : (((x : Nat) : Int) == 65533) = true := by simp [hxf]
          have HF2 : Hid (fil (A.drop (i + 1)) = fil (B.drop k)) := by
            show _ = _
            rw [← HF1.out, hdr, fil_skip _ _ hxf]
          clear hx hdr hxf
          generalize ((x : Nat) : Int) = r at *
          go_wp2
          go_roundw
          case rel => exact ⟨i + 1, k, m, by omega, by omega, HF2, by go_num, rfl, (unhide HWX).symm⟩
          case measure => simp [intOf]; omega
        · have hxb : (((x : Nat) : Int) == 65533) = false := by simp; omega
          have HF2 : Hid (x :: fil (A.drop (i + 1)) = fil (B.drop k)) := by
            show _ = _
            rw [← HF1.out, hdr, fil_take _ _ hxf]
          clear hx hdr hxf
          go_wp2
          go_loop [7] (fun v7 => ∃ k' : Nat, k' ≤ n2 ∧ Hid (x :: fil (A.drop (i + 1)) = fil (B.drop k')) ∧ v7 = .int .i64 k') (fun v7 => n2 - (intOf v7).toNat)
          case atStart => exact ⟨k, hk1, HF2, rfl⟩
          case round =>
            obtain ⟨k', hk2, HF3, rfl⟩ := hrel
            by_cases hk3 : k' < n2
            · obtain ⟨y, hy⟩ : ∃ y, B[k']? = some y := ⟨_, List.getElem?_eq_getElem (by omega)⟩
              obtain ⟨g, rfl, cb⟩ := unhide HCX k' y hy
              have hdr := fil_drop B k' y hy
              by_cases hyf : y = 65533
              · have hyb : (((y : Nat) : Int) == 65533) = true := by simp [hyf]
                have HF4 : Hid (x :: fil (A.drop (i + 1)) = fil (B.drop (k' + 1))) := by
                  show _ = _
                  rw [HF3.out, hdr, fil_skip _ _ hyf]
                clear hy hdr hyf
                generalize ((y : Nat) : Int) = r at *
                go_wp2
                go_round
                case rel => exact ⟨k' + 1, by omega, HF4, by go_num⟩
                case measure => simp [intOf]; omega
              · have hyb : (((y : Nat) : Int) == 65533) = false := by simp; omega
                have h9 := HF3.out
                rw [hdr, fil_take _ _ hyf] at h9
                obtain ⟨h10, h11⟩ : x = y ∧ fil (A.drop (i + 1)) = fil (B.drop (k' + 1)) := by simpa using h9
                subst h10
                have HF4 := hide h11
                have hrr : (((x : Nat) : Int) != ((x : Nat) : Int)) = false := by simp
                have hd : decide ((n2 : Int) ≤ (k' : Int)) = false := by simp; omega
                have hdN : decide (n2 ≤ k') = false := by simp; omega
                clear hy hdr hyf h9 h11 HF3
                generalize ((x : Nat) : Int) = r at *
                go_wp2
                go_quiet (fail)
                go_wp2
                go_roundw
                case rel => exact ⟨i + 1, k' + 1, m + nq, by omega, by omega, HF4, by go_num, by go_num, by rw [← unhide HWX]; exact World.drewN_drewN _ _ _⟩
                case measure => simp [intOf]; omega
            · exfalso
              have h9 := HF3.out
              rw [List.drop_of_length_le (l := B) (i := k') (by omega), fil_nil] at h9
              cases h9
      · have h9 := HF1.out
        rw [List.drop_of_length_le (l := A) (i := i) (by omega), fil_nil] at h9
        have HF5 : Hid (fil (B.drop k) = []) := h9.symm
        clear h9 HF1
        go_wp2
        go_loop [7] (fun v7 => ∃ k' : Nat, k' ≤ n2 ∧ Hid (fil (B.drop k') = []) ∧ v7 = .int .i64 k') (fun v7 => n2 - (intOf v7).toNat)
        case atStart => exact ⟨k, hk1, HF5, rfl⟩
        case round =>
          obtain ⟨k', hk2, HF3, rfl⟩ := hrel
          by_cases hk3 : k' < n2
          · obtain ⟨y, hy⟩ : ∃ y, B[k']? = some y := ⟨_, List.getElem?_eq_getElem (by omega)⟩
            obtain ⟨g, rfl, cb⟩ := unhide HCX k' y hy
            have hdr := fil_drop B k' y hy
            have hyf : y = 65533 := by
              refine Decidable.byContradiction fun hn => ?_
              have h9 := HF3.out
              rw [hdr, fil_take _ _ hn] at h9; cases h9
            have hyb : (((y : Nat) : Int) != 65533) = false := by simp [hyf]
            have HF4 : Hid (fil (B.drop (k' + 1)) = []) := by
              have h9 := HF3.out
              rw [hdr, fil_skip _ _ hyf] at h9; exact h9
            clear hy hdr hyf
            generalize ((y : Nat) : Int) = r at *
            go_wp2
            go_round
            case rel => exact ⟨k' + 1, by omega, HF4, by go_num⟩
            case measure => simp [intOf]; omega
          · have hws := fun x w => pieces_some _ x w rfl
            clear HF3 HF5 HC4 HCA4 HFIL HCX HCAX HWX
            go_wp2_with (go_at_call 19; refine (piecesIt_in s _).mono ?_; rintro e w' ⟨rfl, rfl⟩)
            obtain ⟨W0, hW0⟩ : ∃ W0, (WX.alloc (Obj.cells #[Value.string s] 9)).alloc (Obj.cells #[Value.string s] 9) = W0 := ⟨_, rfl⟩
            have hB0 : Below w.heap.size w W0 := by rw [← hW0]; exact (hBX.alloc hBX.size _).alloc (by have := hBX.size; simp; omega) _
            have b0 : Boxed W0 w.heap.size 4 (.bool false) := by rw [← hW0]; exact (xX.alloc _).alloc _
            have b1 : Boxed W0 (WX.heap.size + 1) 9 (.string s) := by rw [← hW0]; simpa using Boxed.new (WX.alloc (Obj.cells #[Value.string s] 9)) 9 (.string s)
            have hszX : W0.heap.size = WX.heap.size + 2 := by rw [← hW0]; simp
            have hlx := xX.lt
            rw [hW0]
            clear hW0
            refine (wpIn_wide (n := 12)).1 ?_
            refine range2G (by omega) (gf := 34) (lb := #[.pointer (some ⟨WX.heap.size + 1, 0, none⟩)]) rfl (enters_of Try.func34 (by kernel_rfl) rfl)
              (pieces_gives s (by unfold maxLen; omega) _ (WX.heap.size + 1) (by omega) W0 b1) (Below.refl _ _) (fun _ => rfl)
              (fun pre W => W.heap[w.heap.size]? = some (.cells #[.bool false] 4) ∧ Below w.heap.size w W)
              (fun _ _ _ => False)
              ((own_block _ _ _ rfl).and (ownFrom_below (Nat.le_refl _) (by omega)))
              (fun c _ _ _ _ h _ _ => h)
              ((calm_block _ _ _ _ _ (by omega)).and (calm_below _ (by omega)))
              ⟨b0, hB0⟩
              ?a1 ?assign ?body ?done ?stop
            case assign =>
              intro l x W K hK
              gi_wp2
              exact hK
            case body =>
              rintro l pre x W hl hle hrec ⟨h1, hB⟩ hlen
              have h3 : (((Utf8.decode s x.1).1 : Int) == 65533) = false ∨ ((((Utf8.decode s x.1).1 : Int) == 65533) = true ∧ (((s.extract x.1 (pieceEnd s x.1)).toList = [239, 191, 189] ∧ ((s.extract x.1 (pieceEnd s x.1)).toList != [239, 191, 189]) = false) ∨ ((s.extract x.1 (pieceEnd s x.1)).toList ≠ [239, 191, 189] ∧ ((s.extract x.1 (pieceEnd s x.1)).toList != [239, 191, 189]) = true ∧ 1 ≤ (s.extract x.1 (pieceEnd s x.1)).size ∧ (s.extract x.1 (pieceEnd s x.1)).size ≤ 3 ∧ decide (((s.extract x.1 (pieceEnd s x.1)).size : Int) < 1) = false ∧ decide ((s.extract x.1 (pieceEnd s x.1)).size < 1) = false ∧ decide (3 < ((s.extract x.1 (pieceEnd s x.1)).size : Int)) = false ∧ decide (3 < (s.extract x.1 (pieceEnd s x.1)).size) = false))) := by
                by_cases hf : (Utf8.decode s x.1).1 = 65533
                · right
                  refine ⟨by simp [hf], ?_⟩
                  by_cases hq : (s.extract x.1 (pieceEnd s x.1)).toList = [239, 191, 189]
                  · exact .inl ⟨hq, by simp [hq]⟩
                  · right
                    rcases fffd_piece s x.1 x.2 hf with h | ⟨h, h', h''⟩
                    · rw [h] at hq; exact absurd (by decide +kernel) hq
                    · exact ⟨hq, by simpa using hq, by omega, by omega, by simp; omega, by simp; omega, by simp; omega, by simp; omega⟩
                · left; simp; omega
              generalize (Utf8.decode s x.1).1 = r at *
              generalize s.extract x.1 (pieceEnd s x.1) = T at *
              clear hws hrec
              rcases h3 with q1 | ⟨q1, ⟨p2, q2⟩ | ⟨p2, q2, p3, p4, q3, q4, q5, q6⟩⟩
              all_goals
                gi_wp2
                all_goals first
                  | exact ⟨KeepsFrom.refl _ _, KpB.refl _, h1, hB⟩
                  | (exfalso; contradiction)
                  | (exfalso; omega)
                  | (exfalso; simp_all [undef])
            case done =>
              rintro D ys W hD hS ⟨h1, hB⟩ hK
              have x7 : Boxed W w.heap.size 4 (.bool false) := h1
              have c0 := x7.cell
              have f0 := x7.frozen
              gi_wp2
              go_wp2_with fail
              refine (lives_any _).mono ?_
              rintro e w8 ⟨rfl, hb8⟩
              have hK' := (hb8.block D (Array.getElem?_eq_some_iff.1 hK).1).trans hK
              have x8 := boxed_below x7 hb8
              have c8 := x8.cell
              have f8 := x8.frozen
              have hB8 : Below w.heap.size w w8 := hB.trans (hb8.mono hB.size)
              go_wp2
              have hK2 := (KeepsOthers.setCell w8 ⟨w.heap.size, 0, none⟩ (.bool true)).same D _ hK' rfl
              have hB9 := hB8.setCell (p := ⟨w.heap.size, 0, none⟩) (Nat.le_refl _) (.bool true)
              have d8 := x8.set (.bool true)
              refine ⟨by simp, .inl ⟨_, _, rfl, run_takeDeferred hK2, ?_⟩⟩
              have hc5 := cell_kept d8.cell (grownBy_putObj' _ D (.deferred none)) (fun r e => by cases e; exact ⟨_, hK2, rfl⟩)
              exact ⟨.bool true, by simp [results, Try.f7, go_sem, hc5], rfl, hB9.trans (belowK_b (w := w) (Nat.le_refl _) _ D _ _ (by omega) hK2 rfl rfl)⟩
            case stop =>
              rintro D c pre W _ _ h _
              exact h.elim
  · go_wp2
    clear d1 d1N q1
    go_loopw [7, 8] (fun v7 v8 wr => ∃ i k m : Nat, i ≤ n1 ∧ k ≤ n2 ∧ Hid (fil (A.drop i) = fil (B.drop k)) ∧ v8 = .int .i64 i ∧ v7 = .int .i64 k ∧ wr = w4.drewN m) (fun _ v8 _ => n1 - (intOf v8).toNat)
    case atStart => exact ⟨0, 0, 0, Nat.zero_le _, Nat.zero_le _, HFIL, rfl, rfl, rfl⟩
    case round =>
      obtain ⟨i, k, m, hi1, hk1, HF1, rfl, rfl, rfl⟩ := hrel
      obtain ⟨WX, hWX⟩ : ∃ WX, w4.drewN m = WX := ⟨_, rfl⟩
      have xX : Boxed WX w.heap.size 4 (.bool false) := by rw [← hWX]; exact x4
      have hBX : Below w.heap.size w WX := by rw [← hWX]; exact below_drewN hB4 m
      have HCX : Hid (∀ k x, B[k]? = some x → ∃ g, a3 = some ⟨g, 0, none⟩ ∧ WX.cell? ⟨g, k, none⟩ = some (.int .i32 (x : Nat))) := by rw [← hWX]; exact HC4
      have HCAX : Hid (∀ k x, A[k]? = some x → WX.cell? ⟨w1.heap.size, k, none⟩ = some (.int .i32 (x : Nat))) := by rw [← hWX]; exact HCA4
      rw [hWX]
      have HWX := hide hWX
      clear hWX
      by_cases hlt : i < n1
      · obtain ⟨x, hx⟩ : ∃ x, A[i]? = some x := ⟨_, List.getElem?_eq_getElem (by omega)⟩
        have ca := unhide HCAX i x hx
        have hdr := fil_drop A i x hx
        by_cases hxf : x = 65533
        · have hxb : (((x : Nat) : Int) == 65533) = true := by simp [hxf]
          have HF2 : Hid (fil (A.drop (i + 1)) = fil (B.drop k)) := by
            show _ = _
            rw [← HF1.out, hdr, fil_skip _ _ hxf]
          clear hx hdr hxf
          generalize ((x : Nat) : Int) = r at *
          go_wp2
          go_roundw
          case rel => exact ⟨i + 1, k, m, by omega, by omega, HF2, by go_num, rfl, (unhide HWX).symm⟩
          case measure => simp [intOf]; omega
        · have hxb : (((x : Nat) : Int) == 65533) = false := by simp; omega
          have HF2 : Hid (x :: fil (A.drop (i + 1)) = fil (B.drop k)) := by
            show _ = _
            rw [← HF1.out, hdr, fil_take _ _ hxf]
          clear hx hdr hxf
          go_wp2
          go_loop [7] (fun v7 => ∃ k' : Nat, k' ≤ n2 ∧ Hid (x :: fil (A.drop (i + 1)) = fil (B.drop k')) ∧ v7 = .int .i64 k') (fun v7 => n2 - (intOf v7).toNat)
          case atStart => exact ⟨k, hk1, HF2, rfl⟩
          case round =>
            obtain ⟨k', hk2, HF3, rfl⟩ := hrel
            by_cases hk3 : k' < n2
            · obtain ⟨y, hy⟩ : ∃ y, B[k']? = some y := ⟨_, List.getElem?_eq_getElem (by omega)⟩
              obtain ⟨g, rfl, cb⟩ := unhide HCX k' y hy
              have hdr := fil_drop B k' y hy
              by_cases hyf : y = 65533
              · have hyb : (((y : Nat) : Int) == 65533) = true := by simp [hyf]
                have HF4 : Hid (x :: fil (A.drop (i + 1)) = fil (B.drop (k' + 1))) := by
                  show _ = _
                  rw [HF3.out, hdr, fil_skip _ _ hyf]
                clear hy hdr hyf
                generalize ((y : Nat) : Int) = r at *
                go_wp2
                go_round
                case rel => exact ⟨k' + 1, by omega, HF4, by go_num⟩
                case measure => simp [intOf]; omega
              · have hyb : (((y : Nat) : Int) == 65533) = false := by simp; omega
                have h9 := HF3.out
                rw [hdr, fil_take _ _ hyf] at h9
                obtain ⟨h10, h11⟩ : x = y ∧ fil (A.drop (i + 1)) = fil (B.drop (k' + 1)) := by simpa using h9
                subst h10
                have HF4 := hide h11
                have hrr : (((x : Nat) : Int) != ((x : Nat) : Int)) = false := by simp
                have hd : decide ((n2 : Int) ≤ (k' : Int)) = false := by simp; omega
                have hdN : decide (n2 ≤ k') = false := by simp; omega
                clear hy hdr hyf h9 h11 HF3
                generalize ((x : Nat) : Int) = r at *
                go_wp2
                go_quiet (fail)
                go_wp2
                go_roundw
                case rel => exact ⟨i + 1, k' + 1, m + nq, by omega, by omega, HF4, by go_num, by go_num, by rw [← unhide HWX]; exact World.drewN_drewN _ _ _⟩
                case measure => simp [intOf]; omega
            · exfalso
              have h9 := HF3.out
              rw [List.drop_of_length_le (l := B) (i := k') (by omega), fil_nil] at h9
              cases h9
      · have h9 := HF1.out
        rw [List.drop_of_length_le (l := A) (i := i) (by omega), fil_nil] at h9
        have HF5 : Hid (fil (B.drop k) = []) := h9.symm
        clear h9 HF1
        go_wp2
        go_loop [7] (fun v7 => ∃ k' : Nat, k' ≤ n2 ∧ Hid (fil (B.drop k') = []) ∧ v7 = .int .i64 k') (fun v7 => n2 - (intOf v7).toNat)
        case atStart => exact ⟨k, hk1, HF5, rfl⟩
        case round =>
          obtain ⟨k', hk2, HF3, rfl⟩ := hrel
          by_cases hk3 : k' < n2
          · obtain ⟨y, hy⟩ : ∃ y, B[k']? = some y := ⟨_, List.getElem?_eq_getElem (by omega)⟩
            obtain ⟨g, rfl, cb⟩ := unhide HCX k' y hy
            have hdr := fil_drop B k' y hy
            have hyf : y = 65533 := by
              refine Decidable.byContradiction fun hn => ?_
              have h9 := HF3.out
              rw [hdr, fil_take _ _ hn] at h9; cases h9
            have hyb : (((y : Nat) : Int) != 65533) = false := by simp [hyf]
            have HF4 : Hid (fil (B.drop (k' + 1)) = []) := by
              have h9 := HF3.out
              rw [hdr, fil_skip _ _ hyf] at h9; exact h9
            clear hy hdr hyf
            generalize ((y : Nat) : Int) = r at *
            go_wp2
            go_round
            case rel => exact ⟨k' + 1, by omega, HF4, by go_num⟩
            case measure => simp [intOf]; omega
          · have hws := fun x w => pieces_some _ x w rfl
            clear HF3 HF5 HC4 HCA4 HFIL HCX HCAX HWX
            go_wp2_with (go_at_call 19; refine (piecesIt_in s _).mono ?_; rintro e w' ⟨rfl, rfl⟩)
            obtain ⟨W0, hW0⟩ : ∃ W0, (WX.alloc (Obj.cells #[Value.string s] 9)).alloc (Obj.cells #[Value.string s] 9) = W0 := ⟨_, rfl⟩
            have hB0 : Below w.heap.size w W0 := by rw [← hW0]; exact (hBX.alloc hBX.size _).alloc (by have := hBX.size; simp; omega) _
            have b0 : Boxed W0 w.heap.size 4 (.bool false) := by rw [← hW0]; exact (xX.alloc _).alloc _
            have b1 : Boxed W0 (WX.heap.size + 1) 9 (.string s) := by rw [← hW0]; simpa using Boxed.new (WX.alloc (Obj.cells #[Value.string s] 9)) 9 (.string s)
            have hszX : W0.heap.size = WX.heap.size + 2 := by rw [← hW0]; simp
            have hlx := xX.lt
            rw [hW0]
            clear hW0
            refine (wpIn_wide (n := 12)).1 ?_
            refine range2G (by omega) (gf := 34) (lb := #[.pointer (some ⟨WX.heap.size + 1, 0, none⟩)]) rfl (enters_of Try.func34 (by kernel_rfl) rfl)
              (pieces_gives s (by unfold maxLen; omega) _ (WX.heap.size + 1) (by omega) W0 b1) (Below.refl _ _) (fun _ => rfl)
              (fun pre W => W.heap[w.heap.size]? = some (.cells #[.bool false] 4) ∧ Below w.heap.size w W)
              (fun _ _ _ => False)
              ((own_block _ _ _ rfl).and (ownFrom_below (Nat.le_refl _) (by omega)))
              (fun c _ _ _ _ h _ _ => h)
              ((calm_block _ _ _ _ _ (by omega)).and (calm_below _ (by omega)))
              ⟨b0, hB0⟩
              ?a12 ?assign2 ?body2 ?done2 ?stop2
            case assign2 =>
              intro l x W K hK
              gi_wp2
              exact hK
            case body2 =>
              rintro l pre x W hl hle hrec ⟨h1, hB⟩ hlen
              have h3 : (((Utf8.decode s x.1).1 : Int) == 65533) = false ∨ ((((Utf8.decode s x.1).1 : Int) == 65533) = true ∧ (((s.extract x.1 (pieceEnd s x.1)).toList = [239, 191, 189] ∧ ((s.extract x.1 (pieceEnd s x.1)).toList != [239, 191, 189]) = false) ∨ ((s.extract x.1 (pieceEnd s x.1)).toList ≠ [239, 191, 189] ∧ ((s.extract x.1 (pieceEnd s x.1)).toList != [239, 191, 189]) = true ∧ 1 ≤ (s.extract x.1 (pieceEnd s x.1)).size ∧ (s.extract x.1 (pieceEnd s x.1)).size ≤ 3 ∧ decide (((s.extract x.1 (pieceEnd s x.1)).size : Int) < 1) = false ∧ decide ((s.extract x.1 (pieceEnd s x.1)).size < 1) = false ∧ decide (3 < ((s.extract x.1 (pieceEnd s x.1)).size : Int)) = false ∧ decide (3 < (s.extract x.1 (pieceEnd s x.1)).size) = false))) := by
                by_cases hf : (Utf8.decode s x.1).1 = 65533
                · right
                  refine ⟨by simp [hf], ?_⟩
                  by_cases hq : (s.extract x.1 (pieceEnd s x.1)).toList = [239, 191, 189]
                  · exact .inl ⟨hq, by simp [hq]⟩
                  · right
                    rcases fffd_piece s x.1 x.2 hf with h | ⟨h, h', h''⟩
                    · rw [h] at hq; exact absurd (by decide +kernel) hq
                    · exact ⟨hq, by simpa using hq, by omega, by omega, by simp; omega, by simp; omega, by simp; omega, by simp; omega⟩
                · left; simp; omega
              generalize (Utf8.decode s x.1).1 = r at *
              generalize s.extract x.1 (pieceEnd s x.1) = T at *
              clear hws hrec
              rcases h3 with q1 | ⟨q1, ⟨p2, q2⟩ | ⟨p2, q2, p3, p4, q3, q4, q5, q6⟩⟩
              all_goals
                gi_wp2
                all_goals first
                  | exact ⟨KeepsFrom.refl _ _, KpB.refl _, h1, hB⟩
                  | (exfalso; contradiction)
                  | (exfalso; omega)
                  | (exfalso; simp_all [undef])
            case done2 =>
              rintro D ys W hD hS ⟨h1, hB⟩ hK
              have x7 : Boxed W w.heap.size 4 (.bool false) := h1
              have c0 := x7.cell
              have f0 := x7.frozen
              gi_wp2
              go_wp2_with fail
              refine (lives_any _).mono ?_
              rintro e w8 ⟨rfl, hb8⟩
              have hK' := (hb8.block D (Array.getElem?_eq_some_iff.1 hK).1).trans hK
              have x8 := boxed_below x7 hb8
              have c8 := x8.cell
              have f8 := x8.frozen
              have hB8 : Below w.heap.size w w8 := hB.trans (hb8.mono hB.size)
              go_wp2
              have hK2 := (KeepsOthers.setCell w8 ⟨w.heap.size, 0, none⟩ (.bool true)).same D _ hK' rfl
              have hB9 := hB8.setCell (p := ⟨w.heap.size, 0, none⟩) (Nat.le_refl _) (.bool true)
              have d8 := x8.set (.bool true)
              refine ⟨by simp, .inl ⟨_, _, rfl, run_takeDeferred hK2, ?_⟩⟩
              have hc5 := cell_kept d8.cell (grownBy_putObj' _ D (.deferred none)) (fun r e => by cases e; exact ⟨_, hK2, rfl⟩)
              exact ⟨.bool true, by simp [results, Try.f7, go_sem, hc5], rfl, hB9.trans (belowK_b (w := w) (Nat.le_refl _) _ D _ _ (by omega) hK2 rfl rfl)⟩
            case stop2 =>
              rintro D c pre W _ _ h _
              exact h.elim

theorem own : ownKnob Try.prog.godebug = none := by kernel_rfl
theorem laidOut : laidOutB Try.prog = true := by kernel_rfl

set_option maxRecDepth 100000 in
theorem contract (H : Type) (enc : TypeId × Value → H) (W : World) (base : Nat) (args : Array Value) (ds gs : List (DataW H)) (before : List MemPlace)
    (hval : ∀ (j : Nat) t v, Try.f7.params[j]? = some t → args[j]? = some v → Value.okWide Try.prog W .any base t v)
    (hW : DataW.Whole enc Try.prog Try.f7.params.toList Rows.utfPartsSpec.vars false W args.toList ds gs before) (hk : Rows.uptoSmall H (ds ++ gs) = true) :
    Calls Try.prog 7 args W fun e W' => ∃ v, e = .returned v ∧ Rows.utfPartsSpec.post enc Try.prog Try.f7 false true false false W args v W' := by
  have hW' := hW
  obtain ⟨p, q, hA0, hV, rfl, hfz, hnd⟩ := hW
  have hA : DataW.TrodAll enc Try.prog W 0 (fun _ => true) true Try.f7.params.toList args.toList ds p := hA0
  rw [Try.params7] at hA hval
  obtain ⟨v0, vs0, d0, ds0, p0, q0, hargs, rfl, rfl, h0, r0⟩ := trodAll_cons hA
  obtain ⟨rfl, rfl, rfl⟩ := trodAll_nil r0
  obtain rfl : args = #[v0] := by cases args; simp_all
  obtain ⟨rfl, rfl⟩ := trodVars_none hV
  obtain ⟨a0, rfl, rfl, rfl, w0⟩ := open_string Try.underlying9 (hval 0 9 v0 rfl rfl) h0
  have hk' : Rows.uptoSmall H [.lit (.string a0.data.toList)] = true := hk
  have hb := bulk_bound hk'
  simp only [Rows.uptoBulkAll] at hb
  rw [bulk_string a0] at hb
  have c0 : a0.size ≤ 1048576 := by omega
  clear hA0
  have hwk := walk a0 W c0
  refine hwk.mono fun e W' ⟨he, bel⟩ => ?_
  subst he
  exact ⟨_, rfl, _, _, _, [], _, [], hW', trodAll_mk1 (shut_bool Try.underlying4 _), (trodAll_cons_mk (shut_string Try.underlying9 w0) trodAll_mk0), rfl, bel.frame _, fun h => by cases h⟩

set_option maxRecDepth 100000 in
theorem lifted (os : Os) (started : os.Started) (H : Type) (enc : TypeId × Value → H) (F : Stop.Interp) :
    ReturnsInHanded {} Try.checked os 7 .any ((Rows.OpenSpec.upto Rows.utfPartsSpec).pre6 enc Try.prog Try.f7 Rows.utfPartsUptoRow.domain false) (((Rows.OpenSpec.upto Rows.utfPartsSpec).at F).post enc Try.prog Try.f7 false true false false) := by
  refine returnsInHanded_of_cond (C := Try.checked) (s := Rows.OpenSpec.upto Rows.utfPartsSpec) (k := Rows.uptoSmall) rfl own started (by kernel_rfl) Try.func7
    (OpenSpec.witness (enc := enc) (C := Try.checked) (s := Rows.OpenSpec.upto Rows.utfPartsSpec) (k := Rows.uptoSmall) rfl false ⟨#[], #[.string ByteArray.empty], []⟩ 8 (by kernel_rfl) (by kernel_rfl) (by kernel_rfl)
      (x := ([.lit (.string [])], [], [])) (by kernel_rfl) rfl (by kernel_rfl)) ?_
  intro W base args ds gs before hval hW _ hk _
  exact contract H enc W base args ds gs before hval hW hk

theorem over : Rows.utfPartsUptoRow.holds Try.pinned (Rows.OpenSpec.upto Rows.utfPartsSpec) :=
  OpenClaim.holds_of_cond 7 Try.f7 rfl rfl rfl rfl rfl rfl rfl ⟨rfl, rfl, rfl, rfl, rfl⟩ rfl rfl rfl rfl rfl (by kernel_rfl) Try.func7 (by kernel_rfl)
    (of_decide_eq_true (by kernel_rfl)) (by unfold Func.isWrapper; first | (rw [if_pos (by decide +kernel)]; kernel_rfl) | (rw [if_neg (by decide +kernel)]; exact ⟨rfl, rfl⟩))
    (fun os started H enc _ F => lifted os started H enc F)

end Go.Proofs.Ytgffibonikcecab.utfParts
namespace Go.Proofs.Ytgffibonikcecab
theorem utfParts_upto : Rows.UtfPartsUptoSaid := utfParts.over
end Go.Proofs.Ytgffibonikcecab
