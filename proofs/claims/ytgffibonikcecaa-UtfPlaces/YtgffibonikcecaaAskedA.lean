/-
  asked of furrowlaw01: the questions Byte, At, Begins, Rune, Slice, and Text with Len.
-/
import Derived.Test.YtgffibonikcecaaWalks
import Derived.Test.YtgffibonikcecaaRefPlaces
import Derived.Deep.RegionWith
import Derived.RangeFuncLeaves
namespace Go.Proofs.Ytgffibonikcecaa
open Go.RowKit Go.PlainAid Go.Lib
attribute [local go_sem] Oper.semAt_some
set_option linter.unusedVariables false

theorem box_below {W W' : World} {B : Nat} {t : TypeId} {v : Value} (h : Boxed W B t v) (hb : Below W.heap.size W W') : Boxed W' B t v := (hb.block B h.lt).trans h
theorem cells3 {w : World} {b : Nat} {x y z : Value} {t : TypeId} (h : w.heap[b]? = some (.cells #[x, y, z] t)) : w.cell? ⟨b, 0, none⟩ = some x ∧ w.cell? ⟨b, 1, none⟩ = some y ∧ w.cell? ⟨b, 2, none⟩ = some z := by
  refine ⟨?_, ?_, ?_⟩ <;> simp [World.cell?, h]
theorem below3 {a b c : World} {B : Nat} (h : Below B a b) (k : Below b.heap.size b c) (hB : B ≤ b.heap.size) : Below B a c := h.trans (k.mono hB)
abbrev askV (d a b : Int) : Value := .agg #[.int .i64 d, .int .i64 a, .int .i64 b]
/-- what is asked of a world behind the list of Spots -/
structure AskSt (w W : World) (p : Value) (s : ByteArray) (d a b : Int) (l : Option Addr) (c : Nat) : Prop where
  ask : W.heap[w.heap.size]? = some (.cells #[.int .i64 d, .int .i64 a, .int .i64 b] 68)
  res : Boxed W (w.heap.size + 1) 4 (.bool false)
  pl : IsPlaces W p s
  sp : SpotsAt W s l (places s)
  bel : Below w.heap.size w W
theorem AskSt.below {w W W' : World} {p : Value} {s : ByteArray} {d a b : Int} {l : Option Addr} {c : Nat} (h : AskSt w W p s d a b l c) (hb : Below W.heap.size W W') : AskSt w W' p s d a b l c :=
  ⟨(hb.block _ (Array.getElem?_eq_some_iff.1 h.ask).1).trans h.ask, box_below h.res hb, h.pl.below hb, h.sp.below hb, below3 h.bel hb h.bel.size⟩
theorem AskSt.done {w W : World} {p : Value} {s : ByteArray} {d a b : Int} {l : Option Addr} {c : Nat} (h : AskSt w W p s d a b l c) : (W.setCell ⟨w.heap.size + 1, 0, none⟩ (.bool true)).cell? ⟨w.heap.size + 1, 0, none⟩ = some (.bool true) ∧ Below w.heap.size w (W.setCell ⟨w.heap.size + 1, 0, none⟩ (.bool true)) :=
  ⟨(h.res.set _).cell, h.bel.setCell (p := ⟨w.heap.size + 1, 0, none⟩) (by simp) _⟩

set_option maxRecDepth 100000 in
set_option maxHeartbeats 4000000 in
theorem asked0 (w : World) (p : Value) (s : ByteArray) (hs : s.size ≤ 65536) (hP : IsPlaces w p s) (a b : Int) :
    Calls Try.prog 37 #[p, .string s, askV 0 a b] w fun e w' => e = .returned (.bool true) ∧ Below w.heap.size w w' := by
  refine (callsIn_wide (n := 12)).1 ?_
  refine callsIn_of_wp_marks Try.func37 rfl trivial ?_ rfl
  simp only [Try.ntmps37, List.size_toArray, List.length_cons, List.length_nil, Nat.reduceAdd, Nat.reduceSub, Array.replicate_succ, Array.replicate_zero, List.push_toArray, List.append_toArray, List.nil_append, List.cons_append]
  have hF : ∀ f, Fence.wide.fn f := fun _ => trivial
  refine wpIn_wide.2 ?_
  have hcl := chars_length s 0
  have hpl := places_length s
  unfold askV
  go_wp2_with fail
  refine (refSpots_any s _ (by omega)).mono ?_
  rintro e w1 ⟨v, rfl, hrow, hb1⟩
  obtain ⟨l, c, rfl, _, hsp⟩ := sc_row hrow
  rw [hpl]
  have hst1 : AskSt w w1 p s 0 a b l c := by
    have g0 : Below w.heap.size w ((w.alloc (.cells #[.int .i64 0, .int .i64 a, .int .i64 b] 68)).alloc (.cells #[.bool false] 4)) := ((Below.refl _ _).alloc (Nat.le_refl _) _).alloc (by simp) _
    have g1 := g0.trans (hb1.mono g0.size)
    exact ⟨(hb1.block _ (by simp; omega)).trans ((Below.heap_alloc _ _ _ (by simp)).trans (heap_alloc_new w _)), (hb1.block _ (by simp)).trans (by have := heap_alloc_new (w.alloc (.cells #[.int .i64 0, .int .i64 a, .int .i64 b] 68)) (.cells #[.bool false] 4); rwa [World.size_alloc] at this), hP.below g1, hsp, g1⟩
  clear hrow hb1 hsp
  obtain ⟨W, hW⟩ : ∃ W, w1.alloc (.cells #[.slice l (chars s 0).length c] 22) = W := ⟨_, rfl⟩
  have hst : AskSt w W p s 0 a b l c := by rw [← hW]; exact hst1.below ((Below.refl _ _).alloc (Nat.le_refl _) _)
  have bl : Boxed W w1.heap.size 22 (.slice l (chars s 0).length c) := by rw [← hW]; exact Boxed.new w1 _ _
  have q9 := (cells3 hst.ask).1
  clear hst1
  have cl := bl.cell
  obtain ⟨q0, q1, q2⟩ := cells3 hst.ask
  by_cases hin : 0 ≤ a ∧ a ≤ ((chars s 0).length : Int)
  · obtain ⟨k, rfl⟩ : ∃ k : Nat, a = k := ⟨a.toNat, by omega⟩
    have HB1 := hide (byte_any W p s (by unfold maxLen; omega) hst.pl k (by omega))
    have HB2 := hide (fun W' => refByte_any s k W' (by omega) (by omega))
    generalize startN s k = A at *
    go_wp2_with fail
    refine (unhide HB1).mono ?_
    rintro e w' ⟨rfl, hw'⟩
    rw [hw']
    clear hw'
    go_wp2_with fail
    refine (unhide HB2 _).mono ?_
    rintro e W3 ⟨rfl, hb3⟩
    have hst3 := hst.below hb3
    have c3 := hst3.res.cell
    have f3 := hst3.res.frozen
    have t1 : ((A : Int) == (A : Int)) = true := by simp
    go_wp2
    exact ⟨.bool true, by simp [results, Try.f37, go_sem, hst3.done.1], rfl, hst3.done.2⟩
  · have ho : a < 0 ∨ ((chars s 0).length : Int) < a := by omega
    have HB1 := hide (byte_out W p s (by unfold maxLen; omega) hst.pl a ho)
    have HB2 := hide (fun W' => refByte_out s a W' (by omega) ho)
    go_wp2_with fail
    refine (unhide HB1).mono ?_
    rintro e w' ⟨rfl, hw'⟩
    rw [hw']
    clear hw'
    go_wp2_with fail
    refine (unhide HB2 _).mono ?_
    rintro e W3 ⟨rfl, hb3⟩
    have hst3 := hst.below hb3
    have c3 := hst3.res.cell
    have f3 := hst3.res.frozen
    go_wp2
    exact ⟨.bool true, by simp [results, Try.f37, go_sem, hst3.done.1], rfl, hst3.done.2⟩

set_option maxRecDepth 100000 in
set_option maxHeartbeats 4000000 in
theorem asked1 (w : World) (p : Value) (s : ByteArray) (hs : s.size ≤ 65536) (hP : IsPlaces w p s) (a b : Int) :
    Calls Try.prog 37 #[p, .string s, askV 1 a b] w fun e w' => e = .returned (.bool true) ∧ Below w.heap.size w w' := by
  refine (callsIn_wide (n := 12)).1 ?_
  refine callsIn_of_wp_marks Try.func37 rfl trivial ?_ rfl
  simp only [Try.ntmps37, List.size_toArray, List.length_cons, List.length_nil, Nat.reduceAdd, Nat.reduceSub, Array.replicate_succ, Array.replicate_zero, List.push_toArray, List.append_toArray, List.nil_append, List.cons_append]
  have hF : ∀ f, Fence.wide.fn f := fun _ => trivial
  refine wpIn_wide.2 ?_
  have hcl := chars_length s 0
  have hpl := places_length s
  unfold askV
  go_wp2_with fail
  refine (refSpots_any s _ (by omega)).mono ?_
  rintro e w1 ⟨v, rfl, hrow, hb1⟩
  obtain ⟨l, c, rfl, _, hsp⟩ := sc_row hrow
  rw [hpl]
  have hst1 : AskSt w w1 p s 1 a b l c := by
    have g0 : Below w.heap.size w ((w.alloc (.cells #[.int .i64 1, .int .i64 a, .int .i64 b] 68)).alloc (.cells #[.bool false] 4)) := ((Below.refl _ _).alloc (Nat.le_refl _) _).alloc (by simp) _
    have g1 := g0.trans (hb1.mono g0.size)
    exact ⟨(hb1.block _ (by simp; omega)).trans ((Below.heap_alloc _ _ _ (by simp)).trans (heap_alloc_new w _)), (hb1.block _ (by simp)).trans (by have := heap_alloc_new (w.alloc (.cells #[.int .i64 1, .int .i64 a, .int .i64 b] 68)) (.cells #[.bool false] 4); rwa [World.size_alloc] at this), hP.below g1, hsp, g1⟩
  clear hrow hb1 hsp
  obtain ⟨W, hW⟩ : ∃ W, w1.alloc (.cells #[.slice l (chars s 0).length c] 22) = W := ⟨_, rfl⟩
  have hst : AskSt w W p s 1 a b l c := by rw [← hW]; exact hst1.below ((Below.refl _ _).alloc (Nat.le_refl _) _)
  have bl : Boxed W w1.heap.size 22 (.slice l (chars s 0).length c) := by rw [← hW]; exact Boxed.new w1 _ _
  have q9 := (cells3 hst.ask).1
  clear hst1
  have cl := bl.cell
  obtain ⟨q0, q1, q2⟩ := cells3 hst.ask
  by_cases hin : 0 ≤ a ∧ a ≤ (s.size : Int)
  · obtain ⟨k, rfl⟩ : ∃ k : Nat, a = k := ⟨a.toNat, by omega⟩
    obtain ⟨j, hj, e1, e2⟩ : ∃ j, j ≤ (chars s 0).length ∧ startN s j ≤ k ∧ (j < (chars s 0).length → k < startN s (j + 1)) := by
      by_cases he : k = s.size
      · exact ⟨(chars s 0).length, Nat.le_refl _, by rw [start_len]; omega, fun h => by omega⟩
      · obtain ⟨j, h1, h2, h3⟩ := start_find s k (chars s 0).length (Nat.le_refl _) (by rw [start_len]; omega)
        exact ⟨j, by omega, h2, fun _ => h3⟩
    have HB1 := hide (at_any W p s (by omega) hst.pl k j (by omega) hj e1 e2)
    have HB2 := hide (fun W' => refHas_any s k j W' (by omega) (by omega) hj e1 e2)
    clear e1 e2
    go_wp2_with fail
    refine (unhide HB1).mono ?_
    rintro e w' ⟨rfl, hw'⟩
    rw [hw']
    clear hw'
    go_wp2_with fail
    refine (unhide HB2 _).mono ?_
    rintro e W3 ⟨rfl, hb3⟩
    have hst3 := hst.below hb3
    have c3 := hst3.res.cell
    have f3 := hst3.res.frozen
    have t1 : ((j : Int) == (j : Int)) = true := by simp
    go_wp2
    exact ⟨.bool true, by simp [results, Try.f37, go_sem, hst3.done.1], rfl, hst3.done.2⟩
  · have ho : a < 0 ∨ (s.size : Int) < a := by omega
    have HB1 := hide (at_out W p s (by omega) hst.pl a ho)
    have HB2 := hide (fun W' => refHas_out s a W' (by omega) ho)
    go_wp2_with fail
    refine (unhide HB1).mono ?_
    rintro e w' ⟨rfl, hw'⟩
    rw [hw']
    clear hw'
    go_wp2_with fail
    refine (unhide HB2 _).mono ?_
    rintro e W3 ⟨rfl, hb3⟩
    have hst3 := hst.below hb3
    have c3 := hst3.res.cell
    have f3 := hst3.res.frozen
    go_wp2
    exact ⟨.bool true, by simp [results, Try.f37, go_sem, hst3.done.1], rfl, hst3.done.2⟩

/-- is a the place of one of the first i characters, or the text's end? -/
def isN (s : ByteArray) (a : Int) (i : Nat) : Bool := decide (a = (s.size : Int)) || ((places s).take i).any fun x => decide ((x : Int) = a)
theorem isN_zero (s : ByteArray) (a : Int) : isN s a 0 = decide (a = (s.size : Int)) := by simp [isN]
theorem isN_succ (s : ByteArray) (a : Int) (i x : Nat) (h : (places s)[i]? = some x) : isN s a (i + 1) = (isN s a i || decide ((x : Int) = a)) := by
  unfold isN
  rw [List.take_add_one, h, List.any_append, Bool.or_assoc]; simp
theorem isN_all (s : ByteArray) (a : Int) : isN s a (chars s 0).length = beginsB s a := by
  unfold isN beginsB starts
  rw [List.take_of_length_le (by rw [places_length]; exact Nat.le_refl _), List.any_append, Bool.or_comm]
  congr 1
  simp [eq_comm]

set_option maxRecDepth 100000 in
set_option maxHeartbeats 4000000 in
theorem asked2 (w : World) (p : Value) (s : ByteArray) (hs : s.size ≤ 65536) (hP : IsPlaces w p s) (a b : Int) :
    Calls Try.prog 37 #[p, .string s, askV 2 a b] w fun e w' => e = .returned (.bool true) ∧ Below w.heap.size w w' := by
  refine (callsIn_wide (n := 12)).1 ?_
  refine callsIn_of_wp_marks Try.func37 rfl trivial ?_ rfl
  simp only [Try.ntmps37, List.size_toArray, List.length_cons, List.length_nil, Nat.reduceAdd, Nat.reduceSub, Array.replicate_succ, Array.replicate_zero, List.push_toArray, List.append_toArray, List.nil_append, List.cons_append]
  have hF : ∀ f, Fence.wide.fn f := fun _ => trivial
  refine wpIn_wide.2 ?_
  have hcl := chars_length s 0
  have hpl := places_length s
  unfold askV
  go_wp2_with fail
  refine (refSpots_any s _ (by omega)).mono ?_
  rintro e w1 ⟨v, rfl, hrow, hb1⟩
  obtain ⟨l, c, rfl, _, hsp⟩ := sc_row hrow
  rw [hpl]
  have hst1 : AskSt w w1 p s 2 a b l c := by
    have g0 : Below w.heap.size w ((w.alloc (.cells #[.int .i64 2, .int .i64 a, .int .i64 b] 68)).alloc (.cells #[.bool false] 4)) := ((Below.refl _ _).alloc (Nat.le_refl _) _).alloc (by simp) _
    have g1 := g0.trans (hb1.mono g0.size)
    exact ⟨(hb1.block _ (by simp; omega)).trans ((Below.heap_alloc _ _ _ (by simp)).trans (heap_alloc_new w _)), (hb1.block _ (by simp)).trans (by have := heap_alloc_new (w.alloc (.cells #[.int .i64 2, .int .i64 a, .int .i64 b] 68)) (.cells #[.bool false] 4); rwa [World.size_alloc] at this), hP.below g1, hsp, g1⟩
  clear hrow hb1 hsp
  obtain ⟨W, hW⟩ : ∃ W, w1.alloc (.cells #[.slice l (chars s 0).length c] 22) = W := ⟨_, rfl⟩
  have hst : AskSt w W p s 2 a b l c := by rw [← hW]; exact hst1.below ((Below.refl _ _).alloc (Nat.le_refl _) _)
  have bl : Boxed W w1.heap.size 22 (.slice l (chars s 0).length c) := by rw [← hW]; exact Boxed.new w1 _ _
  have q9 := (cells3 hst.ask).1
  clear hst1
  have cl := bl.cell
  obtain ⟨q0, q1, q2⟩ := cells3 hst.ask
  have HI0 := hide (isN_zero s a)
  have HIA := hide (isN_all s a)
  have HIS : Hid (∀ i, i < (chars s 0).length → ∃ x g, (l = some ⟨g, 0, none⟩) ∧ W.cell? ⟨g, i * 4, none⟩ = some (.int .i64 (x : Nat)) ∧ isN s a (i + 1) = (isN s a i || decide ((x : Int) = a))) := by
    intro i hi
    have h1 := place_start s i hi
    obtain ⟨g, e1, e2, _⟩ := hst.sp i _ h1
    exact ⟨_, g, e1, e2, isN_succ s a i _ h1⟩
  have h00 : ((a == (s.size : Int)) = true ∧ isN s a 0 = true) ∨ ((a == (s.size : Int)) = false ∧ isN s a 0 = false) := by
    rw [unhide HI0]
    by_cases h : a = (s.size : Int)
    · left; exact ⟨by simpa using h, by simpa using h⟩
    · right; exact ⟨by simpa using h, by simpa using h⟩
  have HBG := hide (fun W' h => begins_any W' p s (by omega) h a)
  rw [← unhide HIA] at HBG
  generalize hL : (chars s 0).length = L at *
  clear hL HIA hpl
  rcases h00 with ⟨z1, z2⟩ | ⟨z1, z2⟩
  all_goals
    have HZ2 := hide z2
    clear z2
    go_wp2
    clear z1
    go_loopw [16, 17] (fun v16 v17 wr => ∃ i m : Nat, i ≤ L ∧ v17 = .int .i64 i ∧ v16 = .bool (isN s a i) ∧ wr = W.drewN m) (fun _ v17 _ => L - (intOf v17).toNat)
    case atStart => exact ⟨0, 0, Nat.zero_le _, rfl, by rw [unhide HZ2], by first | exact hW | rfl⟩
    case round =>
      obtain ⟨i, m, hi, rfl, rfl, rfl⟩ := hrel
      obtain ⟨WX, hWX⟩ : ∃ WX, W.drewN m = WX := ⟨_, rfl⟩
      have lX : WX.cell? ⟨w1.heap.size, 0, none⟩ = some (.slice l L c) := by rw [← hWX]; exact cl
      have aX : WX.cell? ⟨w.heap.size, 1, none⟩ = some (.int .i64 a) := by rw [← hWX]; exact q1
      by_cases hlt : i < L
      · obtain ⟨x, g, rfl, cx, hnx⟩ := unhide HIS i hlt
        have xX : WX.cell? ⟨g, i * 4, none⟩ = some (.int .i64 (x : Nat)) := by rw [← hWX]; exact cx
        rw [hWX]
        have HWX := hide hWX
        clear hWX
        cases hcur : isN s a i
        · rw [hcur, Bool.false_or] at hnx
          have hxa : ((x : Int) == a) = isN s a (i + 1) := by rw [hnx]; rfl
          cases hn1 : isN s a (i + 1)
          all_goals
            rw [hn1] at hxa
            have HN1 := hide hn1
            clear hnx hn1 hcur
            go_wp2
            go_quiet (fail)
            go_wp2
            go_roundw
            case rel => exact ⟨i + 1, m + nq, by omega, by go_num, by rw [unhide HN1], by rw [← unhide HWX]; exact World.drewN_drewN _ _ _⟩
            case measure => simp [intOf]; omega
        · rw [hcur, Bool.true_or] at hnx
          have HN1 := hide hnx
          clear hnx hcur
          go_wp2
          go_quiet (fail)
          go_wp2
          go_roundw
          case rel => exact ⟨i + 1, m + nq, by omega, by go_num, by rw [unhide HN1], by rw [← unhide HWX]; exact World.drewN_drewN _ _ _⟩
          case measure => simp [intOf]; omega
      · obtain rfl : i = L := by omega
        have hst3 : AskSt w WX p s 2 a b l c := by rw [← hWX]; exact hst.below ⟨rfl, rfl, rfl, Nat.le_refl _, fun _ _ => rfl⟩
        rw [hWX]
        clear hWX
        have HBX := hide (unhide HBG WX hst3.pl)
        generalize isN s a i = r at *
        have hrr : (r == r) = true := by simp
        have c3 := hst3.res.cell
        have f3 := hst3.res.frozen
        go_wp2_with fail
        refine (unhide HBX).mono ?_
        rintro e w' ⟨rfl, hw'⟩
        rw [hw']
        clear hw'
        go_wp2
        exact ⟨.bool true, by simp [results, Try.f37, go_sem, hst3.done.1], rfl, hst3.done.2⟩

end Go.Proofs.Ytgffibonikcecaa
