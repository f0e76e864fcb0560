/-
  UtfLost: nothing of the bytes is lost: the widths of the characters add up to the text, each begins where the one ahead ends; places in bytes and in characters lead to one another; from behind it is the same; the pieces are the text: for every text.
-/
import Derived.Test.YtgffibonikcecabLostMath
import Derived.Test.YtgffibonikcecabSearch
import Derived.Test.YtgffibonikcecabGather2
import Derived.Test.YtgffibonikcecabQuietIn
import Derived.Test.YtgffibonikcecabRangeB
import Derived.Test.YtgffibonikcecabPairRow
import Derived.Test.YtgffibonikcecabLives
import Derived.Deep.QuietTactic
import Derived.Lib.QuietBelow
import Derived.BigQuiet
import Derived.ProofKit
import Derived.OpenShut
import Derived.ShutString
import Derived.ChangeOld
import Derived.JoinedCond
namespace Go.Proofs.Ytgffibonikcecab.utfLost
open Go.ChangeShapes Go.WideShapes Go.ChangeAt Go.RowKit Go.PlainAid Go.Lib Go.Shelf Go.Seq2
open Go.ChangeMaps (open_string shut_string)
attribute [local go_sem] Oper.semAt_some
set_option linter.unusedVariables false

theorem below2 {a b c : World} (h : Below a.heap.size a b) (k : Below b.heap.size b c) : Below a.heap.size a c := h.trans (k.mono h.size)
theorem boxed_below {W W' : World} {B : Nat} {t : TypeId} {v : Value} (h : Boxed W B t v) (hb : Below W.heap.size W W') : Boxed W' B t v := (hb.block B h.lt).trans h
theorem spots_some (f : Nat) (x : Value) (w : World) (h : f = 27) : (binOp .eql 27 (.func (.func f) #[] #[x]) .nilFunc).run Try.prog w = .ok (.bool false) w := by subst h; kernel_rfl
theorem pieces_some (f : Nat) (x : Value) (w : World) (h : f = 34) : (binOp .eql 43 (.func (.func f) #[] #[x]) .nilFunc).run Try.prog w = .ok (.bool false) w := by subst h; kernel_rfl

theorem at_new {W : World} {n : Nat} {o : Obj} (h : n = W.heap.size) : (W.alloc o).heap[n]? = some o := by subst h; exact heap_alloc_new W _
theorem at_old {W : World} {n : Nat} {o o' : Obj} (h : W.heap[n]? = some o) : (W.alloc o').heap[n]? = some o := (Below.heap_alloc W o' n (Array.getElem?_eq_some_iff.1 h).1).trans h
theorem kept_row {W W' : World} {r n m : Nat} {t : TypeId} (hr : ∃ cs : Array Value, cs.size = m ∧ W.heap[n]? = some (.cells cs t)) (h : W'.heap[n]? = W.heap[n]?) : ∃ cs : Array Value, cs.size = m ∧ W'.heap[n]? = some (.cells cs t) := by
  obtain ⟨cs, h1, h2⟩ := hr
  exact ⟨cs, h1, h.trans h2⟩

set_option maxRecDepth 100000 in
set_option maxHeartbeats 8000000 in
theorem walk (s : ByteArray) (w : World) (hs : s.size ≤ maxLen) :
    Calls Try.prog 3 #[.string s] w fun e w' => e = .returned (.bool true) ∧ Below w.heap.size w w' := by
  refine (callsIn_wide (n := 12)).1 ?_
  refine callsIn_of_wp_marks Try.func3 rfl trivial ?_ rfl
  simp only [Try.ntmps3, List.size_toArray, List.length_cons, List.length_nil, Nat.reduceAdd, Nat.reduceSub, Array.replicate_succ, Array.replicate_zero, List.push_toArray, List.append_toArray, List.nil_append, List.cons_append]
  have hF : ∀ f, Fence.wide.fn f := fun _ => trivial
  refine wpIn_wide.2 ?_
  unfold maxLen at hs
  have hcs : (decide ((65536 : Int) < (s.size : Int)) = true) ∨ (s.size ≤ 65536 ∧ decide ((65536 : Int) < (s.size : Int)) = false) := by
    by_cases h : s.size ≤ 65536
    · right; exact ⟨h, by simp; omega⟩
    · left; simp; omega
  have bs0 : Boxed ((w.alloc (Obj.cells #[Value.string s] 9)).alloc (Obj.cells #[Value.bool false] 4)) w.heap.size 9 (.string s) := (Boxed.new w _ _).alloc _
  have br0 : Boxed ((w.alloc (Obj.cells #[Value.string s] 9)).alloc (Obj.cells #[Value.bool false] 4)) (w.heap.size + 1) 4 (.bool false) := by simpa using Boxed.new (w.alloc (Obj.cells #[Value.string s] 9)) 4 (.bool false)
  have hB0 : Below w.heap.size w ((w.alloc (Obj.cells #[Value.string s] 9)).alloc (Obj.cells #[Value.bool false] 4)) := by go_grown
  rcases hcs with d1 | ⟨hsz, d1⟩
  · go_wp2_with fail
    refine (lives_any _).mono ?_
    rintro e w1 ⟨rfl, hb1⟩
    have br1 := boxed_below br0 hb1
    have hB1 : Below w.heap.size w w1 := hB0.trans (hb1.mono hB0.size)
    have c1 := br1.cell
    have f1 := br1.frozen
    go_wp2
    have r2 := br1.set (.bool true)
    have c2 := r2.cell
    have hB2 := hB1.setCell (p := ⟨w.heap.size + 1, 0, none⟩) (by simp) (.bool true)
    exact ⟨.bool true, by simp [results, Try.f3, go_sem, c2], rfl, hB2⟩
  · go_wp2_with fail
    refine (lives_any _).mono ?_
    rintro e w1 ⟨rfl, hb1⟩
    have bs1 := boxed_below bs0 hb1
    have br1 := boxed_below br0 hb1
    have hB1 : Below w.heap.size w w1 := hB0.trans (hb1.mono hB0.size)
    have cs1 := bs1.cell
    clear hb1 bs0 br0 hB0
    go_wp2_with fail
    refine (new_places s _ (by omega)).mono ?_
    rintro e w2 ⟨bp, rfl, hP, hb2⟩
    have bs2 := boxed_below bs1 hb2
    have br2 := boxed_below br1 hb2
    have hB2 := hB1.trans (hb2.mono hB1.size)
    have cs2 := bs2.cell
    clear hb2 bs1 br1 hB1 cs1
    have hws := fun x w => spots_some _ x w rfl
    obtain ⟨MC, hMC, hmk⟩ : ∃ MC : Array Value, MC.size = s.size + 1 ∧ ∀ W : World, (Instr.makeSlice 25 (.int .i64 ((s.size : Int) + 1)) (.int .i64 ((s.size : Int) + 1))).run Try.prog W = .ok (.slice (some ⟨W.heap.size, 0, none⟩) (s.size + 1) (s.size + 1)) (W.alloc (.cells MC 3)) := by
      obtain ⟨i0, hi, hz0, hz1, hz2⟩ := info_parts infoInt
      refine ⟨madeCells (Value.int .i64 0).cells ((s.size + 1) * 1), by rw [size_madeCells, Nat.mul_one], fun W => ?_⟩
      have := run_make (P := Try.prog) W 25 3 i0 (.int .i64 0) Try.underlying25 hi hz0 .i64 .i64 ((s.size : Int) + 1) ((s.size : Int) + 1) (by omega) (Int.le_refl _) (by rw [hz2]; omega) (by omega)
      rw [hz1, show ((s.size : Int) + 1).toNat = s.size + 1 by omega] at this
      exact this
    have t1 := fun o => (bs2.alloc o).cell
    have t2 := fun o o1 => ((bs2.alloc o).alloc o1).cell
    have t3 := fun o o1 o2 => (((bs2.alloc o).alloc o1).alloc o2).cell
    have t4 := fun o o1 o2 o3 => ((((bs2.alloc o).alloc o1).alloc o2).alloc o3).cell
    have t5 := fun o o1 o2 o3 o4 => (((((bs2.alloc o).alloc o1).alloc o2).alloc o3).alloc o4).cell
    have t6 := fun o o1 o2 o3 o4 o5 => ((((((bs2.alloc o).alloc o1).alloc o2).alloc o3).alloc o4).alloc o5).cell
    go_wp2_with (go_at_call 11; refine (spots_in s _).mono ?_; rintro e w' ⟨rfl, rfl⟩)
    clear t1 t2 t3 t4 t5 t6 hws hmk cs2
    obtain ⟨p, hp⟩ : ∃ p, Value.pointer (some { block := bp, off := 0 }) = p := ⟨_, rfl⟩
    rw [hp] at hP ⊢
    obtain ⟨W0, hW0⟩ : ∃ W0, (((((((w2.alloc (Obj.cells #[p] 23)).alloc (Obj.cells #[Value.int IntKind.i64 0] 3)).alloc (Obj.cells #[Value.int IntKind.i64 0] 3)).alloc (Obj.cells MC 3)).alloc (Obj.cells #[Value.slice (some ⟨w2.heap.size + 1 + 1 + 1, 0, none⟩) (s.size + 1) (s.size + 1)] 25)).alloc (Obj.cells #[Value.string s] 9)).alloc (Obj.cells #[Value.string s] 9)) = W0 := ⟨_, rfl⟩
    have hsz0 : W0.heap.size = w2.heap.size + 7 := by rw [← hW0]; simp
    have gr0 : w2.grownBy W0 none := by
      rw [← hW0]
      exact ((((((World.grownBy_alloc w2 _ none).trans (World.grownBy_alloc _ _ none)).trans (World.grownBy_alloc _ _ none)).trans (World.grownBy_alloc _ _ none)).trans (World.grownBy_alloc _ _ none)).trans (World.grownBy_alloc _ _ none)).trans (World.grownBy_alloc _ _ none)
    have bp0 : W0.heap[w2.heap.size]? = some (.cells #[p] 23) := by rw [← hW0]; exact at_old (at_old (at_old (at_old (at_old (at_old (at_new rfl))))))
    have ba0 : W0.heap[w2.heap.size + 1]? = some (.cells #[.int .i64 0] 3) := by rw [← hW0]; exact at_old (at_old (at_old (at_old (at_old (at_new (by simp))))))
    have bn0 : W0.heap[w2.heap.size + 1 + 1]? = some (.cells #[.int .i64 0] 3) := by rw [← hW0]; exact at_old (at_old (at_old (at_old (at_new (by simp)))))
    have bg0 : W0.heap[w2.heap.size + 1 + 1 + 1]? = some (.cells MC 3) := by rw [← hW0]; exact at_old (at_old (at_old (at_new (by simp))))
    have bb0 : W0.heap[w2.heap.size + 1 + 1 + 1 + 1]? = some (.cells #[Value.slice (some ⟨w2.heap.size + 1 + 1 + 1, 0, none⟩) (s.size + 1) (s.size + 1)] 25) := by rw [← hW0]; exact at_old (at_old (at_new (by simp)))
    have bq0 : Boxed W0 (w2.heap.size + 1 + 1 + 1 + 1 + 1 + 1) 9 (.string s) := by rw [← hW0]; exact at_new (by simp)
    rw [hW0]
    clear hW0
    have hlr := br2.lt
    have hlr2 := bs2.lt
    have hPl : ∀ V, Below (w2.heap.size + 1) W0 V → IsPlaces V p s ∧ Boxed V w.heap.size 9 (.string s) ∧ Boxed V w2.heap.size 23 p ∧ Boxed V (w.heap.size + 1) 4 (.bool false) ∧ Below w.heap.size w V := by
      intro V hV
      have g2 : Below w2.heap.size w2 W0 := ⟨gr0.os, gr0.tape, gr0.output, gr0.size, fun k hk => gr0.block k hk (by simp)⟩
      have h2 : Below w2.heap.size w2 V := g2.trans (hV.mono (by omega))
      exact ⟨hP.below h2, boxed_below bs2 h2, (hV.block _ (by omega)).trans bp0, boxed_below br2 h2, hB2.trans (h2.mono hB2.size)⟩
    generalize hN : w2.heap.size = N2 at *
    have hcl := chars_length s 0
    refine (wpIn_wide (n := 12)).1 ?_
    refine rangeB (by omega) (gf := 27) (lb := #[.pointer (some ⟨N2 + 1 + 1 + 1 + 1 + 1 + 1, 0, none⟩)]) rfl (enters_of Try.func27 (by kernel_rfl) rfl)
      (spots_stops s (by unfold maxLen; omega) _ (N2 + 1 + 1 + 1 + 1 + 1 + 1) (by omega) W0 bq0) kpS_t kpS_b (Below.refl _ _) (fun _ => rfl)
      (fun pre V => Hid (pre.map (·.1) = (places s).take pre.length) ∧ Boxed V (N2 + 1) 3 (.int .i64 (startN s pre.length : Nat)) ∧ Boxed V (N2 + 1 + 1) 3 (.int .i64 (pre.length : Nat)) ∧ (∃ cs : Array Value, cs.size = s.size + 1 ∧ V.heap[N2 + 1 + 1 + 1]? = some (.cells cs 3)) ∧ V.heap[N2 + 1 + 1 + 1 + 1]? = some (.cells #[Value.slice (some ⟨N2 + 1 + 1 + 1, 0, none⟩) (s.size + 1) (s.size + 1)] 25) ∧ Below (N2 + 1) W0 V)
      (fun c pre V => ¬ pre.map (·.1) = (places s).take pre.length)
      ((own_pure _ _).and ((Own.from (boxed_own _ _ _) _).and ((Own.from (boxed_own _ _ _) _).and (OwnFrom.and (fun st A B row hx hg hr => by
          obtain ⟨cs, e1, e2⟩ := hx
          exact ⟨cs, e1, own_block (β := Unit) _ _ _ rfl () A B row e2 hg hr⟩) ((own_block _ _ _ rfl).and (ownFrom_below (by omega) (by omega)))))))
      (fun c => own_pure _ _)
      ⟨rfl, by rw [show startN s ([] : List (Pl s)).length = 0 from start_zero s]; exact ba0, bn0, ⟨MC, hMC, bg0⟩, bb0, Below.refl _ _⟩
      (fun x => spotBlk s x.1) (fun _ => rfl)
      ?a1 ?assign ?body ?done ?stop
    case assign =>
      rintro l pre x V K ⟨h1, h2, h3, h4, h5, h6⟩ hK
      have hsz6 := h6.size
      have hK2 := hK V.heap.size (V.alloc (spotBlk s x.1)) ((KeepsOthers.alloc _ _).from _) ⟨KeepsWalks.alloc _ _, fun h => h.alloc _⟩ ⟨h1, h2.alloc _, h3.alloc _, kept_row (r := 0) h4 (Below.heap_alloc V _ _ (by omega)), at_old h5, h6.alloc (by omega) _⟩ (heap_alloc_new V _) (by omega)
      gi_wp2
      generalize V.heap.size = B at hK2 ⊢
      exact hK2
    case body =>
      rintro l pre x Bx V hl ⟨r, hr⟩ ⟨HPR, hat, hn, hrow, hbb, hbel⟩ hx hBx hlen
      have hsz6 := hbel.size
      have hpl := hPl V hbel
      obtain ⟨x0, x1, x2, x3⟩ := spot_cells hx
      have ca := hat.cell
      have fa := hat.frozen
      have cn := hn.cell
      have cs := hpl.2.1.cell
      have cr := hpl.2.2.2.1.cell
      have fr := hpl.2.2.2.1.frozen
      have hk : pre.length ≤ (chars s 0).length := by
        have h8 := congrArg List.length HPR.out
        rw [List.length_map, List.length_take, places_length] at h8; omega
      by_cases hxk : x.1 = startN s pre.length
      · have hkn : pre.length < (chars s 0).length := by
          refine Decidable.byContradiction fun hn => ?_
          have h8 : pre.length = (chars s 0).length := by omega
          have h9 := x.2
          rw [hxk, h8, start_len] at h9; omega
        obtain ⟨A, hA⟩ := x
        have hxk2 : startN s pre.length = A := hxk.symm
        dsimp only at x0 x1 x2 x3 hx
        have HSP : Hid ((pre ++ [(⟨A, hA⟩ : Pl s)]).map (fun x : Pl s => x.1) = (places s).take (pre ++ [(⟨A, hA⟩ : Pl s)]).length) := by
          show _ = _
          have h5 := place_start s _ hkn
          rw [hxk2] at h5
          rw [List.map_append, HPR.out, List.length_append, List.length_singleton, List.take_add_one, h5]; rfl
        have hnx := start_next s pre.length hkn
        rw [hxk2] at hnx hat ca
        have hd := dec_bounds s A hA
        have hw := width_says s A hA
        have HBY : Hid (∀ W, IsPlaces W p s → Calls Try.prog 13 #[p, .int .i64 (pre.length : Nat)] W fun e w' => e = .returned (.tuple #[.int .i64 (A : Nat), .int .i64 0]) ∧ W = w') := by
          intro W hW
          have := byte_any W p s (by unfold maxLen; omega) hW pre.length hk
          rw [hxk2] at this
          exact this.mono fun e w' h => ⟨h.1, h.2.symm⟩
        have HBG : Hid (∀ W, IsPlaces W p s → Calls Try.prog 14 #[p, .int .i64 (A : Nat)] W fun e w' => e = .returned (.bool true) ∧ W = w') := by
          intro W hW
          have := begins_any W p s (by omega) hW A
          rw [(begins_iff s A).2 ⟨pre.length, by omega, by rw [hxk2]⟩] at this
          exact this.mono fun e w' h => ⟨h.1, h.2.symm⟩
        have HAT : Hid (∀ W (j : Nat), IsPlaces W p s → j < (Utf8.decode s A).2 → Calls Try.prog 15 #[p, .int .i64 ((A : Int) + (j : Int))] W fun e w' => e = .returned (.tuple #[.int .i64 (pre.length : Nat), .int .i64 0]) ∧ W = w') := by
          intro W j hW hj
          have := at_any W p s (by omega) hW (A + j) pre.length (by omega) hk (by omega) (fun _ => by omega)
          rw [Int.natCast_add] at this
          exact this.mono fun e w' h => ⟨h.1, h.2.symm⟩
        have HWD : Hid (∀ W, Calls Try.prog 12 #[.int .i32 ((Utf8.decode s A).1 : Nat)] W fun e w' => e = .returned (.int .i64 (widthN ((Utf8.decode s A).1 : Nat))) ∧ ∃ m, w' = W.drewN m) := fun W => (width_any _ W).mono (by rintro e w' ⟨rfl, rfl⟩; exact ⟨rfl, 0, rfl⟩)
        have HNX : Hid (startN s (pre.length + 1) = A + (Utf8.decode s A).2) := hnx
        clear hnx hxk hxk2 HPR
        unfold spotBlk at hx
        generalize hD : (Utf8.decode s A).2 = D at *
        generalize hR : (Utf8.decode s A).1 = R at *
        generalize hC : why s A = C at *
        clear hD hR hC
        have d2 : decide ((D : Int) < 1) = false := by simp; omega
        have d2N : decide (D < 1) = false := by simp; omega
        have d3 : decide ((4 : Int) < (D : Int)) = false := by simp; omega
        have d3N : decide (4 < D) = false := by simp; omega
        have d4 : decide ((s.size : Int) < (A : Int) + (D : Int)) = false := by simp; omega
        have hw2 : ((C != 0) = false ∧ (C == 0) = true ∧ widthN (R : Nat) = (D : Nat)) ∨ ((C != 0) = true ∧ (C == 0) = false ∧ ((D : Int) != 1) = false ∧ ((R : Int) != 65533) = false) := by
          rcases hw with ⟨q1, q2⟩ | ⟨q1, q2, q3⟩
          · left; exact ⟨by simp [q1], by simp [q1], q2⟩
          · right; exact ⟨by simp [q1], by simp [q1], by simp [q2], by simp [q3]⟩
        clear hw
        rcases hw2 with ⟨q1, q2, q3⟩ | ⟨q1, q2, q3, q4⟩
        · rw [q3] at HWD
          have q4 : ((D : Int) != (D : Int)) = false := by simp
          gi_wp2
          refine Reads.wpIn_region_quiet (by kernel_rfl) (by kernel_rfl) (by kernel_rfl) ?_
          repeat (go_big_quiet_step ((go_at_call 12; exact Calls.quiet_of (HWD.out _))))
          refine wpQuiet_nil ?_
          intro _ hw'
          obtain ⟨nq, hw''⟩ := hw'
          subst hw''
          obtain ⟨V1, hV1⟩ : ∃ V1, V.drewN nq = V1 := ⟨_, rfl⟩
          have hat1 : Boxed V1 (N2 + 1) 3 (.int .i64 (A : Nat)) := by rw [← hV1]; exact hat
          have hn1 : Boxed V1 (N2 + 1 + 1) 3 (.int .i64 (pre.length : Nat)) := by rw [← hV1]; exact hn
          have hrow1 : ∃ cs : Array Value, cs.size = s.size + 1 ∧ V1.heap[N2 + 1 + 1 + 1]? = some (.cells cs 3) := by rw [← hV1]; exact hrow
          have hbb1 : V1.heap[N2 + 1 + 1 + 1 + 1]? = some (.cells #[Value.slice (some ⟨N2 + 1 + 1 + 1, 0, none⟩) (s.size + 1) (s.size + 1)] 25) := by rw [← hV1]; exact hbb
          have hbel1 : Below (N2 + 1) W0 V1 := by rw [← hV1]; exact below_drewN hbel nq
          have hx1 : V1.heap[Bx]? = some (spotCells A D R C) := by rw [← hV1]; exact hx
          have hk1 : KeepsOthers V V1 := by rw [← hV1]; exact ⟨Nat.le_refl _, fun _ _ h _ => h⟩
          have hkp1 : KpS (N2 + 1 + 1 + 1 + 1 + 1 + 1) s V V1 := by rw [← hV1]; exact ⟨⟨Nat.le_refl _, fun _ _ h _ => h⟩, fun h => h⟩
          rw [hV1]
          clear hV1 hat hn hrow hbb hbel hx x0 x1 x2 x3 ca fa cn cs cr fr hpl hsz6 hr q1 q2 q3 q4 d2 d2N d3 d3N d4 HWD
          have hpl1 := hPl V1 hbel1
          have ca := hat1.cell
          have cn := hn1.cell
          have cp := hpl1.2.2.1.cell
          gi_wp2_with fail
          refine (CallsIn.inRound l (callsIn_wide.2 (HBY.out V1 hpl1.1))).mono ?_
          rintro e w' ⟨rfl, rfl⟩
          gi_wp2_with fail
          refine (CallsIn.inRound l (callsIn_wide.2 (HBG.out V1 hpl1.1))).mono ?_
          rintro e w' ⟨rfl, rfl⟩
          gi_wp2
          clear ca cn cp hpl1 HBY HBG
          gi_loopw [10] (fun v10 wr => ∃ j : Nat, j ≤ D ∧ v10 = .int .i64 j ∧ Boxed wr (N2 + 1) 3 (.int .i64 (A : Nat)) ∧ Boxed wr (N2 + 1 + 1) 3 (.int .i64 (pre.length : Nat)) ∧ (∃ cs : Array Value, cs.size = s.size + 1 ∧ wr.heap[N2 + 1 + 1 + 1]? = some (.cells cs 3)) ∧ wr.heap[N2 + 1 + 1 + 1 + 1]? = some (.cells #[Value.slice (some ⟨N2 + 1 + 1 + 1, 0, none⟩) (s.size + 1) (s.size + 1)] 25) ∧ Below (N2 + 1) W0 wr ∧ wr.heap[Bx]? = some (spotCells A D R C) ∧ KeepsOthers V wr ∧ KpS (N2 + 1 + 1 + 1 + 1 + 1 + 1) s V wr) (fun v10 _ => D - (intOf v10).toNat)
          case atStart => exact ⟨0, Nat.zero_le _, rfl, hat1, hn1, hrow1, hbb1, hbel1, hx1, hk1, hkp1⟩
          case round =>
            clear hat1 hn1 hrow1 hbb1 hbel1 hx1 hk1 hkp1
            obtain ⟨j, hj, rfl, a1, n1, ⟨cs, hcs, hrw⟩, b1, bel1, x1, k1, kp1⟩ := hrel
            have ca := a1.cell
            have fa := a1.frozen
            have cn := n1.cell
            have fn := n1.frozen
            have cb := (show Boxed wr (N2 + 1 + 1 + 1 + 1) 25 _ from b1).cell
            have hpl := hPl wr bel1
            have cp := hpl.2.2.1.cell
            obtain ⟨x0, x1', x2, x3⟩ := spot_cells x1
            by_cases hjd : j < D
            · have hlt : A + j < cs.size := by omega
              have cc : wr.cell? ⟨N2 + 1 + 1 + 1, A + j, none⟩ = some cs[A + j] := by simp [World.cell?, hrw, Array.getElem?_eq_getElem hlt]
              have cf : wr.frozen? ⟨N2 + 1 + 1 + 1, A + j, none⟩ = false := by simp [World.frozen?, hrw]
              gi_wp2_with fail
              have bel2 : Below (N2 + 1) W0 (wr.setCell ⟨N2 + 1 + 1 + 1, A + j, none⟩ (.int .i64 (A : Nat))) := bel1.setCell (p := ⟨N2 + 1 + 1 + 1, A + j, none⟩) (by simp <;> omega) _
              refine (CallsIn.inRound l (callsIn_wide.2 (HAT.out _ j (hPl _ bel2).1 hjd))).mono ?_
              rintro e w' ⟨rfl, rfl⟩
              obtain ⟨U, hU⟩ : ∃ U, wr.setCell ⟨N2 + 1 + 1 + 1, A + j, none⟩ (.int .i64 (A : Nat)) = U := ⟨_, rfl⟩
              have a2 : Boxed U (N2 + 1) 3 (.int .i64 (A : Nat)) := by rw [← hU]; exact (Below.heap_setCell _ _ _ _ (by simp)).trans a1
              have n2 : Boxed U (N2 + 1 + 1) 3 (.int .i64 (pre.length : Nat)) := by rw [← hU]; exact (Below.heap_setCell _ _ _ _ (by simp)).trans n1
              have g2 : ∃ cs : Array Value, cs.size = s.size + 1 ∧ U.heap[N2 + 1 + 1 + 1]? = some (.cells cs 3) := by rw [← hU]; exact ⟨_, by rw [Array.size_setIfInBounds]; exact hcs, blk_set _ hrw⟩
              have b2 : U.heap[N2 + 1 + 1 + 1 + 1]? = some (.cells #[Value.slice (some ⟨N2 + 1 + 1 + 1, 0, none⟩) (s.size + 1) (s.size + 1)] 25) := by rw [← hU]; exact (Below.heap_setCell _ _ _ _ (by simp)).trans b1
              have y2 : U.heap[Bx]? = some (spotCells A D R C) := by rw [← hU]; exact (Below.heap_setCell _ _ _ _ (by simp <;> omega)).trans x1
              have k2 : KeepsOthers V U := by rw [← hU]; exact k1.trans (KeepsOthers.setCell _ _ _)
              have p2 : KpS (N2 + 1 + 1 + 1 + 1 + 1 + 1) s V U := by rw [← hU]; exact ⟨kp1.1.trans (KeepsOthers.setCell _ _ _).walks, fun h => (Below.heap_setCell _ _ _ _ (by simp; omega)).trans (kp1.2 h)⟩
              rw [hU] at bel2 ⊢
              clear hU ca fa cn fn cb hpl cp x0 x1' x2 x3 cc cf a1 n1 hrw b1 bel1 x1 k1 kp1
              have cn := n2.cell
              gi_wp2
              go_roundw
              case rel => exact ⟨j + 1, by omega, by go_num, a2, n2, g2, b2, bel2, y2, k2, p2⟩
              case measure => simp [intOf]; omega
            · obtain rfl : j = D := by omega
              have hn2 : (wr.setCell ⟨N2 + 1, 0, none⟩ (.int .i64 ((A : Int) + (j : Int)))).cell? ⟨N2 + 1 + 1, 0, none⟩ = some (.int .i64 (pre.length : Nat)) := (n1.other (by omega) _).cell
              have fn2 : (wr.setCell ⟨N2 + 1, 0, none⟩ (.int .i64 ((A : Int) + (j : Int)))).frozen? ⟨N2 + 1 + 1, 0, none⟩ = false := (n1.other (by omega) _).frozen
              gi_wp2
              refine ⟨(k1.trans ((KeepsOthers.setCell _ _ _).trans (KeepsOthers.setCell _ _ _))).from _, ⟨kp1.1.trans ((KeepsOthers.setCell _ _ _).trans (KeepsOthers.setCell _ _ _)).walks, fun h => ((show Boxed wr _ _ _ from kp1.2 h).other (by omega) _).other (by omega) _⟩, HSP, ?_, ?_, kept_row (r := 0) ⟨cs, hcs, hrw⟩ ?_, ((show Boxed wr (N2 + 1 + 1 + 1 + 1) 25 _ from b1).other (by omega) _).other (by omega) _, (bel1.setCell (p := ⟨N2 + 1, 0, none⟩) (Nat.le_refl _) _).setCell (p := ⟨N2 + 1 + 1, 0, none⟩) (by simp) _⟩
              · rw [List.length_append, List.length_singleton, unhide HNX, Int.natCast_add]
                exact (a1.set _).other (by omega) _
              · rw [List.length_append, List.length_singleton, Int.natCast_add]
                exact (n1.other (by omega) _).set _
              · exact (Below.heap_setCell _ _ _ _ (by simp)).trans (Below.heap_setCell _ _ _ _ (by simp; omega))
        · gi_wp2
          refine Reads.wpIn_region_quiet (by kernel_rfl) (by kernel_rfl) (by kernel_rfl) ?_
          repeat (go_big_quiet_step ((go_at_call 12; exact Calls.quiet_of (HWD.out _))))
          refine wpQuiet_nil ?_
          intro _ hw'
          obtain ⟨nq, hw''⟩ := hw'
          subst hw''
          obtain ⟨V1, hV1⟩ : ∃ V1, V.drewN nq = V1 := ⟨_, rfl⟩
          have hat1 : Boxed V1 (N2 + 1) 3 (.int .i64 (A : Nat)) := by rw [← hV1]; exact hat
          have hn1 : Boxed V1 (N2 + 1 + 1) 3 (.int .i64 (pre.length : Nat)) := by rw [← hV1]; exact hn
          have hrow1 : ∃ cs : Array Value, cs.size = s.size + 1 ∧ V1.heap[N2 + 1 + 1 + 1]? = some (.cells cs 3) := by rw [← hV1]; exact hrow
          have hbb1 : V1.heap[N2 + 1 + 1 + 1 + 1]? = some (.cells #[Value.slice (some ⟨N2 + 1 + 1 + 1, 0, none⟩) (s.size + 1) (s.size + 1)] 25) := by rw [← hV1]; exact hbb
          have hbel1 : Below (N2 + 1) W0 V1 := by rw [← hV1]; exact below_drewN hbel nq
          have hx1 : V1.heap[Bx]? = some (spotCells A D R C) := by rw [← hV1]; exact hx
          have hk1 : KeepsOthers V V1 := by rw [← hV1]; exact ⟨Nat.le_refl _, fun _ _ h _ => h⟩
          have hkp1 : KpS (N2 + 1 + 1 + 1 + 1 + 1 + 1) s V V1 := by rw [← hV1]; exact ⟨⟨Nat.le_refl _, fun _ _ h _ => h⟩, fun h => h⟩
          rw [hV1]
          clear hV1 hat hn hrow hbb hbel hx x0 x1 x2 x3 ca fa cn cs cr fr hpl hsz6 hr q1 q2 q3 q4 d2 d2N d3 d3N d4 HWD
          have hpl1 := hPl V1 hbel1
          have ca := hat1.cell
          have cn := hn1.cell
          have cp := hpl1.2.2.1.cell
          gi_wp2_with fail
          refine (CallsIn.inRound l (callsIn_wide.2 (HBY.out V1 hpl1.1))).mono ?_
          rintro e w' ⟨rfl, rfl⟩
          gi_wp2_with fail
          refine (CallsIn.inRound l (callsIn_wide.2 (HBG.out V1 hpl1.1))).mono ?_
          rintro e w' ⟨rfl, rfl⟩
          gi_wp2
          clear ca cn cp hpl1 HBY HBG
          gi_loopw [10] (fun v10 wr => ∃ j : Nat, j ≤ D ∧ v10 = .int .i64 j ∧ Boxed wr (N2 + 1) 3 (.int .i64 (A : Nat)) ∧ Boxed wr (N2 + 1 + 1) 3 (.int .i64 (pre.length : Nat)) ∧ (∃ cs : Array Value, cs.size = s.size + 1 ∧ wr.heap[N2 + 1 + 1 + 1]? = some (.cells cs 3)) ∧ wr.heap[N2 + 1 + 1 + 1 + 1]? = some (.cells #[Value.slice (some ⟨N2 + 1 + 1 + 1, 0, none⟩) (s.size + 1) (s.size + 1)] 25) ∧ Below (N2 + 1) W0 wr ∧ wr.heap[Bx]? = some (spotCells A D R C) ∧ KeepsOthers V wr ∧ KpS (N2 + 1 + 1 + 1 + 1 + 1 + 1) s V wr) (fun v10 _ => D - (intOf v10).toNat)
          case atStart => exact ⟨0, Nat.zero_le _, rfl, hat1, hn1, hrow1, hbb1, hbel1, hx1, hk1, hkp1⟩
          case round =>
            clear hat1 hn1 hrow1 hbb1 hbel1 hx1 hk1 hkp1
            obtain ⟨j, hj, rfl, a1, n1, ⟨cs, hcs, hrw⟩, b1, bel1, x1, k1, kp1⟩ := hrel
            have ca := a1.cell
            have fa := a1.frozen
            have cn := n1.cell
            have fn := n1.frozen
            have cb := (show Boxed wr (N2 + 1 + 1 + 1 + 1) 25 _ from b1).cell
            have hpl := hPl wr bel1
            have cp := hpl.2.2.1.cell
            obtain ⟨x0, x1', x2, x3⟩ := spot_cells x1
            by_cases hjd : j < D
            · have hlt : A + j < cs.size := by omega
              have cc : wr.cell? ⟨N2 + 1 + 1 + 1, A + j, none⟩ = some cs[A + j] := by simp [World.cell?, hrw, Array.getElem?_eq_getElem hlt]
              have cf : wr.frozen? ⟨N2 + 1 + 1 + 1, A + j, none⟩ = false := by simp [World.frozen?, hrw]
              gi_wp2_with fail
              have bel2 : Below (N2 + 1) W0 (wr.setCell ⟨N2 + 1 + 1 + 1, A + j, none⟩ (.int .i64 (A : Nat))) := bel1.setCell (p := ⟨N2 + 1 + 1 + 1, A + j, none⟩) (by simp <;> omega) _
              refine (CallsIn.inRound l (callsIn_wide.2 (HAT.out _ j (hPl _ bel2).1 hjd))).mono ?_
              rintro e w' ⟨rfl, rfl⟩
              obtain ⟨U, hU⟩ : ∃ U, wr.setCell ⟨N2 + 1 + 1 + 1, A + j, none⟩ (.int .i64 (A : Nat)) = U := ⟨_, rfl⟩
              have a2 : Boxed U (N2 + 1) 3 (.int .i64 (A : Nat)) := by rw [← hU]; exact (Below.heap_setCell _ _ _ _ (by simp)).trans a1
              have n2 : Boxed U (N2 + 1 + 1) 3 (.int .i64 (pre.length : Nat)) := by rw [← hU]; exact (Below.heap_setCell _ _ _ _ (by simp)).trans n1
              have g2 : ∃ cs : Array Value, cs.size = s.size + 1 ∧ U.heap[N2 + 1 + 1 + 1]? = some (.cells cs 3) := by rw [← hU]; exact ⟨_, by rw [Array.size_setIfInBounds]; exact hcs, blk_set _ hrw⟩
              have b2 : U.heap[N2 + 1 + 1 + 1 + 1]? = some (.cells #[Value.slice (some ⟨N2 + 1 + 1 + 1, 0, none⟩) (s.size + 1) (s.size + 1)] 25) := by rw [← hU]; exact (Below.heap_setCell _ _ _ _ (by simp)).trans b1
              have y2 : U.heap[Bx]? = some (spotCells A D R C) := by rw [← hU]; exact (Below.heap_setCell _ _ _ _ (by simp <;> omega)).trans x1
              have k2 : KeepsOthers V U := by rw [← hU]; exact k1.trans (KeepsOthers.setCell _ _ _)
              have p2 : KpS (N2 + 1 + 1 + 1 + 1 + 1 + 1) s V U := by rw [← hU]; exact ⟨kp1.1.trans (KeepsOthers.setCell _ _ _).walks, fun h => (Below.heap_setCell _ _ _ _ (by simp; omega)).trans (kp1.2 h)⟩
              rw [hU] at bel2 ⊢
              clear hU ca fa cn fn cb hpl cp x0 x1' x2 x3 cc cf a1 n1 hrw b1 bel1 x1 k1 kp1
              have cn := n2.cell
              gi_wp2
              go_roundw
              case rel => exact ⟨j + 1, by omega, by go_num, a2, n2, g2, b2, bel2, y2, k2, p2⟩
              case measure => simp [intOf]; omega
            · obtain rfl : j = D := by omega
              have hn2 : (wr.setCell ⟨N2 + 1, 0, none⟩ (.int .i64 ((A : Int) + (j : Int)))).cell? ⟨N2 + 1 + 1, 0, none⟩ = some (.int .i64 (pre.length : Nat)) := (n1.other (by omega) _).cell
              have fn2 : (wr.setCell ⟨N2 + 1, 0, none⟩ (.int .i64 ((A : Int) + (j : Int)))).frozen? ⟨N2 + 1 + 1, 0, none⟩ = false := (n1.other (by omega) _).frozen
              gi_wp2
              refine ⟨(k1.trans ((KeepsOthers.setCell _ _ _).trans (KeepsOthers.setCell _ _ _))).from _, ⟨kp1.1.trans ((KeepsOthers.setCell _ _ _).trans (KeepsOthers.setCell _ _ _)).walks, fun h => ((show Boxed wr _ _ _ from kp1.2 h).other (by omega) _).other (by omega) _⟩, HSP, ?_, ?_, kept_row (r := 0) ⟨cs, hcs, hrw⟩ ?_, ((show Boxed wr (N2 + 1 + 1 + 1 + 1) 25 _ from b1).other (by omega) _).other (by omega) _, (bel1.setCell (p := ⟨N2 + 1, 0, none⟩) (Nat.le_refl _) _).setCell (p := ⟨N2 + 1 + 1, 0, none⟩) (by simp) _⟩
              · rw [List.length_append, List.length_singleton, unhide HNX, Int.natCast_add]
                exact (a1.set _).other (by omega) _
              · rw [List.length_append, List.length_singleton, Int.natCast_add]
                exact (n1.other (by omega) _).set _
              · exact (Below.heap_setCell _ _ _ _ (by simp)).trans (Below.heap_setCell _ _ _ _ (by simp; omega))
      · have hne : ((x.1 : Int) != (startN s pre.length : Int)) = true := by simp; omega
        have HNP : Hid (¬ (pre ++ [x]).map (·.1) = (places s).take (pre ++ [x]).length) := by
          intro h9
          have h8 := congrArg List.length h9
          rw [List.length_map, List.length_take, places_length, List.length_append, List.length_singleton] at h8
          have e1 : ((pre ++ [x]).map (fun x : Pl s => x.1))[pre.length]? = some x.1 := by simp
          have e2 : ((places s).take (pre ++ [x]).length)[pre.length]? = some (startN s pre.length) := by rw [List.getElem?_take, if_pos (by simp), place_start s _ (by omega)]
          rw [h9, e2] at e1
          exact hxk (Option.some.inj e1).symm
        gi_wp2
        exact ⟨(KeepsOthers.setCell _ _ _).from _, unhide HNP⟩
    case done =>
      rintro D1 ys V hD hS ⟨HPR, hat, hn, hrow, hbb, hbel⟩ hK
      have hys : ys.length = (chars s 0).length := by
        have h8 := congrArg List.length (show ys.map (·.1) = places s from hS)
        rw [List.length_map, places_length] at h8; exact h8
      rw [hys] at hat hn
      rw [start_len] at hat
      clear HPR hrow hbb hS hys ys hlr2
      have hsz6 := hbel.size
      have hpl := hPl V hbel
      have ca := hat.cell
      have cn := hn.cell
      have cs := hpl.2.1.cell
      have cp := hpl.2.2.1.cell
      have HBY := hide (byte_any V p s (by unfold maxLen; omega) hpl.1 (chars s 0).length (Nat.le_refl _))
      rw [start_len] at HBY
      have hn1 : (((chars s 0).length : Int) != ((chars s 0).length : Int)) = false := by simp
      have hn2 : ((s.size : Int) != (s.size : Int)) = false := by simp
      have HLN : Hid (∀ W, IsPlaces W p s → Calls Try.prog 16 #[p] W fun e w' => e = .returned (.int .i64 ((chars s 0).length : Nat)) ∧ Below W.heap.size W w') := fun W hW => (len_any W p s (by unfold maxLen; omega) hW).mono (by rintro e w' ⟨rfl, rfl⟩; exact ⟨rfl, Below.refl _ _⟩)
      have HCT : Hid (∀ W, Calls Try.prog 17 #[.string s] W fun e w' => e = .returned (.int .i64 ((chars s 0).length : Nat)) ∧ Below W.heap.size W w') := fun W => count_any s W (by unfold maxLen; omega)
      have HGO : Hid (∀ W, Calls Try.prog 18 #[.string s, .bool false, .int .i64 (-1)] W fun e w' => ∃ v, e = .returned v ∧ w'.ownsRow W.heap.size 41 2 v (fewOf (-1) (places s)).length (pairCells s (fewOf (-1) (places s))) ∧ Below W.heap.size W w') := fun W => gather_on s (-1) W (by omega) (by omega)
      have HGB : Hid (∀ W, Calls Try.prog 18 #[.string s, .bool true, .int .i64 (-1)] W fun e w' => ∃ v, e = .returned v ∧ w'.ownsRow W.heap.size 41 2 v (fewOf (-1) (places s).reverse).length (pairCells s (fewOf (-1) (places s).reverse)) ∧ Below W.heap.size W w') := fun W => gather_back s (-1) W (by omega) (by omega)
      rw [show fewOf (-1) (places s) = places s from rfl] at HGO
      rw [show fewOf (-1) (places s).reverse = (places s).reverse from rfl, List.length_reverse] at HGB
      rw [places_length] at HGO HGB
      generalize hL : (chars s 0).length = L at *
      have HL := hide hL
      clear hL
      gi_wp2
      go_wp2_with fail
      refine (unhide HBY).mono ?_
      rintro e w' ⟨rfl, hw'⟩
      rw [hw']
      clear hw' HBY
      have rs := fun d os => cell_regrown cs d os
      have rn := fun d os => cell_regrown cn d os
      have ra := fun d os => cell_regrown ca d os
      have rp := fun d os => cell_regrown cp d os
      go_wp2
      refine wp_region_quiet_below (by kernel_rfl) (by kernel_rfl) ?_
      repeat (go_big_quiet_step (first
        | (go_at_call 16; exact Calls.regrown_of (unhide HLN _ (hpl.1.below (below_regrown _ _ _))))
        | (go_at_call 17; exact Calls.regrown_of (unhide HCT _))))
      refine wpQuiet_nil ?_
      intro _ hw'
      obtain ⟨⟨dq, osq⟩, hw''⟩ := hw'
      subst hw''
      obtain ⟨V2, hV2⟩ : ∃ V2, Sort.grow (redrawn V dq) osq = V2 := ⟨_, rfl⟩
      have hb2 : Below V.heap.size V V2 := by rw [← hV2]; exact below_regrown V dq osq
      rw [hV2]
      have s2 := boxed_below hpl.2.1 hb2
      have r2 := boxed_below hpl.2.2.2.1 hb2
      have n2 := boxed_below hn hb2
      have hK2 : V2.heap[D1]? = some (Obj.deferred (some [])) := (hb2.block D1 (Array.getElem?_eq_some_iff.1 hK).1).trans hK
      have hB3 : Below w.heap.size w V2 := hpl.2.2.2.2.trans (hb2.mono hpl.2.2.2.2.size)
      have cs2 := s2.cell
      clear hV2 hb2 rs rn ra rp ca cn cs cp hpl hat hn hbel hK hn2 HLN HCT hPl gr0 bp0 ba0 bn0 bg0 bb0 bq0 hMC MC hP hB2 bs2 br2 hsz6
      go_wp2_with fail
      refine (unhide HGO _).mono ?_
      rintro e V3 ⟨v3, rfl, hown3, hb3⟩
      obtain ⟨a3, c3, rfl, hl3, HP3⟩ := pr_row hown3
      have HL3 := hide hl3
      clear hl3
      have s3 := boxed_below s2 hb3
      have r3 := boxed_below r2 hb3
      have n3 := boxed_below n2 hb3
      have hK3 : V3.heap[D1]? = some (Obj.deferred (some [])) := (hb3.block D1 (Array.getElem?_eq_some_iff.1 hK2).1).trans hK2
      have hB4 : Below w.heap.size w V3 := hB3.trans (hb3.mono hB3.size)
      have cs3 := s3.cell
      clear hown3 hb3 s2 r2 n2 hK2 hB3 cs2 HGO
      go_wp2_with fail
      refine (unhide HGB _).mono ?_
      rintro e V4 ⟨v4, rfl, hown4, hb4⟩
      obtain ⟨a4, c4, rfl, hl4, HP4⟩ := pr_row hown4
      clear hl4
      have HPA := hide (HP3.below hb4)
      have HPB := hide HP4
      have s4 := boxed_below s3 hb4
      have r4 := boxed_below r3 hb4
      have n4 := boxed_below n3 hb4
      have hK4 : V4.heap[D1]? = some (Obj.deferred (some [])) := (hb4.block D1 (Array.getElem?_eq_some_iff.1 hK3).1).trans hK3
      have hB5 : Below w.heap.size w V4 := hB4.trans (hb4.mono hB4.size)
      have cn4 := n4.cell
      clear hown4 hb4 s3 r3 n3 hK3 hB4 cs3 HGB HP3 HP4
      go_wp2
      go_loopw [17] (fun v17 wr => ∃ i m : Nat, i ≤ L ∧ v17 = .int .i64 i ∧ wr = V4.drewN m) (fun v17 _ => L - (intOf v17).toNat)
      case atStart => exact ⟨0, 0, Nat.zero_le _, rfl, rfl⟩
      case round =>
        obtain ⟨i, m, hi1, rfl, rfl⟩ := hrel
        obtain ⟨WX, hWX⟩ : ∃ WX, V4.drewN m = WX := ⟨_, rfl⟩
        have cnX : WX.cell? ⟨N2 + 1 + 1, 0, none⟩ = some (.int .i64 (L : Nat)) := by rw [← hWX]; exact cn4
        by_cases hlt : i < L
        · obtain ⟨x, hx⟩ : ∃ x, (places s)[i]? = some x := ⟨_, List.getElem?_eq_getElem (by rw [← unhide HL3]; exact hlt)⟩
          have hx2 : (places s).reverse[L - 1 - i]? = some x := by
            rw [List.getElem?_reverse (by rw [← unhide HL3]; omega), ← unhide HL3, show L - 1 - (L - 1 - i) = i by omega]; exact hx
          obtain ⟨g3, rfl, p0, p1⟩ := unhide HPA i x hx
          obtain ⟨g4, rfl, p2, p3⟩ := unhide HPB _ x hx2
          have q0 : WX.cell? ⟨g3, i * 2, none⟩ = some (.int .i64 (x : Nat)) := by rw [← hWX]; exact p0
          have q1 : WX.cell? ⟨g3, i * 2 + 1, none⟩ = some (.int .i32 ((Utf8.decode s x).1 : Nat)) := by rw [← hWX]; exact p1
          have q2 : WX.cell? ⟨g4, (L - 1 - i) * 2, none⟩ = some (.int .i64 (x : Nat)) := by rw [← hWX]; exact p2
          have q3 : WX.cell? ⟨g4, (L - 1 - i) * 2 + 1, none⟩ = some (.int .i32 ((Utf8.decode s x).1 : Nat)) := by rw [← hWX]; exact p3
          rw [hWX]
          have HWX := hide hWX
          clear hWX p0 p1 p2 p3 hx hx2
          have hti : ((L : Int) - 1 - (i : Int)).toNat = L - 1 - i := by omega
          go_wp2
          go_quiet (fail)
          go_wp2
          go_roundw
          case rel => exact ⟨i + 1, m + nq, by omega, by go_num, by rw [← unhide HWX]; exact World.drewN_drewN _ _ _⟩
          case measure => simp [intOf]; omega
        · have sX : Boxed WX w.heap.size 9 (.string s) := by rw [← hWX]; exact s4
          have rX : Boxed WX (w.heap.size + 1) 4 (.bool false) := by rw [← hWX]; exact r4
          have hKX : WX.heap[D1]? = some (Obj.deferred (some [])) := by rw [← hWX]; exact hK4
          have hBX : Below w.heap.size w WX := by rw [← hWX]; exact below_drewN hB5 m
          rw [hWX]
          clear hWX HPA HPB cn4 s4 r4 n4 hK4 hB5
          have hws := fun x w => pieces_some _ x w rfl
          have t0 := sX.cell
          have t1 := fun o => (sX.alloc o).cell
          have t2 := fun o o1 => ((sX.alloc o).alloc o1).cell
          have t3 := fun o o1 o2 => (((sX.alloc o).alloc o1).alloc o2).cell
          go_wp2_with (go_at_call 19; refine (piecesIt_in s _).mono ?_; rintro e w' ⟨rfl, rfl⟩)
          clear t0 t1 t2 t3 hws
          obtain ⟨W6, hW6⟩ : ∃ W6, ((WX.alloc (Obj.cells #[Value.string { data := #[] }] 9)).alloc (Obj.cells #[Value.string s] 9)).alloc (Obj.cells #[Value.string s] 9) = W6 := ⟨_, rfl⟩
          have hsz6 : W6.heap.size = WX.heap.size + 3 := by rw [← hW6]; simp
          have tb0 : W6.heap[WX.heap.size]? = some (.cells #[.string { data := #[] }] 9) := by rw [← hW6]; exact at_old (at_old (at_new rfl))
          have tq0 : Boxed W6 (WX.heap.size + 1 + 1) 9 (.string s) := by rw [← hW6]; exact at_new (by simp)
          have g6 : Below WX.heap.size WX W6 := by
            rw [← hW6]; exact (((Below.refl _ _).alloc (Nat.le_refl _) _).alloc (by simp) _).alloc (by simp; omega) _
          rw [hW6]
          clear hW6
          have s6 := boxed_below sX g6
          have r6 := boxed_below rX g6
          have hK6 : W6.heap[D1]? = some (Obj.deferred (some [])) := (g6.block D1 (Array.getElem?_eq_some_iff.1 hKX).1).trans hKX
          have hB6 : Below w.heap.size w W6 := hBX.trans (g6.mono hBX.size)
          have ltD := (Array.getElem?_eq_some_iff.1 hKX).1
          have ltr := rX.lt
          have lts := sX.lt
          clear sX rX hKX hBX g6 cnX
          generalize hTB : WX.heap.size = TB at *
          clear hTB
          refine (wpIn_wide (n := 12)).1 ?_
          refine range2G (by omega) (gf := 34) (lb := #[.pointer (some ⟨TB + 1 + 1, 0, none⟩)]) rfl (enters_of Try.func34 (by kernel_rfl) rfl)
            (pieces_gives s (by unfold maxLen; omega) _ (TB + 1 + 1) (by omega) W6 tq0) (Below.refl _ _) (fun _ => rfl)
            (fun pre W => pre.length ≤ s.size ∧ Boxed W TB 9 (.string (joinP s (vals pre))) ∧ Below TB W6 W)
            (fun _ _ _ => False)
            ((own_pure _ _).and ((Own.from (boxed_own _ _ _) _).and (ownFrom_below (by omega) (by omega))))
            (fun c _ _ _ _ h _ _ => h)
            ((calm_pure _ _ _ _).and ((calm_boxed _ _ _ _ _ _ (by omega)).and (calm_below _ (by omega))))
            ⟨Nat.zero_le _, tb0, Below.refl _ _⟩
            ?a2 ?assign2 ?body2 ?done2 ?stop2
          case assign2 =>
            intro l x W K hK
            gi_wp2
            exact hK
          case body2 =>
            rintro l pre x W hl hle hrec ⟨hpl, ht, hbel⟩ hlen
            have ct := ht.cell
            have ft := ht.frozen
            have hjs := joinP_size s (vals pre)
            rw [vals_length] at hjs
            have hjs2 : pre.length * s.size ≤ 65536 * 65536 := Nat.mul_le_mul (by omega) hsz
            have hxs : (s.extract x.1 (pieceEnd s x.1)).size ≤ s.size := by simp [ByteArray.size_extract]; omega
            have HJ : Hid (joinP s (vals (pre ++ [x])) = joinP s (vals pre) ++ s.extract x.1 (pieceEnd s x.1)) := by
              show _ = _
              rw [vals_snoc, joinP_snoc]
            have hneg : (((Utf8.decode s x.1).1 : Int) == -1) = false := by simp
            generalize (Utf8.decode s x.1).1 = R at *
            generalize joinP s (vals pre) = J at *
            generalize s.extract x.1 (pieceEnd s x.1) = X at *
            gi_wp2
            exact ⟨(KeepsOthers.setCell _ _ _).from _, ⟨(KeepsOthers.setCell _ _ _).walks, fun k t v hk ht' hb => hb.other (by rcases hk with hk | hk <;> omega) _⟩, by simp; omega, by rw [unhide HJ]; exact ht.set _, hbel.setCell (p := ⟨TB, 0, none⟩) (Nat.le_refl _) _⟩
          case done2 =>
            rintro D2 ys W hD2 hS ⟨hpl, ht, hbel⟩ hK
            rw [show vals ys = pieces s from hS, joinP_all] at ht
            have ct := ht.cell
            have hK1 : W.heap[D1]? = some (Obj.deferred (some [])) := (hbel.block D1 ltD).trans hK6
            have s7 : Boxed W w.heap.size 9 (.string s) := (hbel.block _ lts).trans s6
            have r7 : Boxed W (w.heap.size + 1) 4 (.bool false) := (hbel.block _ ltr).trans r6
            have hB7 : Below w.heap.size w W := hB6.trans (hbel.mono (by omega))
            have cs7 := s7.cell
            have cr7 := r7.cell
            have fr7 := r7.frozen
            have hss : (s.toList == s.toList) = true := by simp
            gi_wp2
            go_wp2
            have k2 := (KeepsOthers.setCell W ⟨w.heap.size + 1, 0, none⟩ (.bool true)).same D2 _ hK rfl
            have k1 := (KeepsOthers.setCell W ⟨w.heap.size + 1, 0, none⟩ (.bool true)).same D1 _ hK1 rfl
            have d8 := r7.set (.bool true)
            have hB8 := hB7.setCell (p := ⟨w.heap.size + 1, 0, none⟩) (by simp) (.bool true)
            have k1' := (World.putObj_heap_other (o := .deferred none) (show D1 ≠ D2 by omega)).trans k1
            have e1 := cell_kept d8.cell (grownBy_putObj' _ D2 (.deferred none)) (fun r e => by cases e; exact ⟨_, k2, rfl⟩)
            have e2 := cell_kept e1 (grownBy_putObj' _ D1 (.deferred none)) (fun r e => by cases e; exact ⟨_, k1', rfl⟩)
            refine ⟨by simp, .inl ⟨_, _, rfl, run_takeDeferred k2, by simp, .inl ⟨_, _, rfl, run_takeDeferred k1', ?_⟩⟩⟩
            exact ⟨.bool true, by simp [results, Try.f3, go_sem, e2], rfl, (hB8.trans (belowK_b (w := w) (Nat.le_refl _) _ D2 _ _ (by omega) k2 rfl rfl)).trans (belowK_b (w := w) (Nat.le_refl _) _ D1 _ _ (by omega) k1' rfl rfl)⟩
          case stop2 =>
            rintro D c pre W _ _ h _
            exact h.elim
    case stop =>
      rintro D c pre V _ hSp h _
      exact absurd (List.prefix_iff_eq_take.1 hSp) (by simpa using h)

theorem own : ownKnob Try.prog.godebug = none := by kernel_rfl

set_option maxRecDepth 100000 in
theorem lifted (os : Os) (started : os.Started) (H : Type) (enc : TypeId × Value → H) :
    ReturnsInHanded {} Try.checked os 3 .any (Rows.utfLostSpec.pre6 enc Try.prog Try.f3 Rows.utfLostRow.domain false) (Rows.utfLostSpec.post enc Try.prog Try.f3 false true false false) := by
  refine returnsInHanded_of_change (C := Try.checked) own started (by kernel_rfl) Try.func3
    (ChangeSpec.witness6 (enc := enc) (C := Try.checked) false ⟨#[], #[.string ByteArray.empty], []⟩ 8 (by kernel_rfl) (by kernel_rfl) (by kernel_rfl) (by kernel_rfl)) ?_
  intro W base args ds gs before hval0 hW hcnd _
  have hval : ∀ (j : Nat) t v, Try.f3.params[j]? = some t → args[j]? = some v → Value.okWide Try.prog W .any base t v := hval0
  have hW' := hW
  obtain ⟨p, q, hA0, hV, rfl, hfz, hnd⟩ := hW
  have hA : DataW.TrodAll enc Try.prog W 0 (fun _ => true) true Try.f3.params.toList args.toList ds p := hA0
  rw [Try.params3] at hA hval
  obtain ⟨v0, vs0, d0, ds0, p0, q0, hargs, rfl, rfl, h0, r0⟩ := trodAll_cons hA
  obtain ⟨rfl, rfl, rfl⟩ := trodAll_nil r0
  obtain rfl : args = #[v0] := by cases args; simp_all
  obtain ⟨rfl, rfl⟩ := trodVars_none hV
  obtain ⟨a0, rfl, rfl, rfl, w0⟩ := open_string Try.underlying9 (hval 0 9 v0 rfl rfl) h0
  clear hA0 hval0
  refine (walk a0 W w0).mono fun e W' ⟨he, bel⟩ => ?_
  subst he
  exact ⟨_, rfl, _, _, _, [], _, [], hW', trodAll_mk1 (shut_bool Try.underlying4 _), (trodAll_cons_mk (shut_string Try.underlying9 w0) trodAll_mk0), rfl, bel.frame _, fun h => by cases h⟩

theorem over : Rows.utfLostRow.holds Try.pinned (OpenSpec.ofChange Rows.utfLostSpec) :=
  OpenClaim.holds_of_wide 3 Try.f3 rfl rfl rfl rfl rfl rfl rfl ⟨rfl, rfl, rfl, rfl, rfl⟩ rfl rfl rfl rfl rfl (by kernel_rfl) Try.func3 (by kernel_rfl)
    (of_decide_eq_true (by kernel_rfl)) (by unfold Func.isWrapper; first | (rw [if_pos (by decide +kernel)]; kernel_rfl) | (rw [if_neg (by decide +kernel)]; exact ⟨rfl, rfl⟩))
    (fun os started H enc _ => lifted os started H enc)

end Go.Proofs.Ytgffibonikcecab.utfLost
namespace Go.Proofs.Ytgffibonikcecab
theorem utfLost_holds : Rows.UtfLostSaid := utfLost.over
end Go.Proofs.Ytgffibonikcecab
