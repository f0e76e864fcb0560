/-
  Back of package utf: the iterator that tells the characters of a text from the last one on.
-/
import Derived.Test.YtjkchpjopgpeeaaAll
import Derived.Test.YtjkchpjopgpeeaaStart
import Derived.Test.YtjkchpjopgpeeaaCheck
namespace Go.Proofs.Ytjkchpjopgpeeaa
open Go.RowKit Go.PlainAid Go.Lib
set_option linter.unusedVariables false

theorem backIt_in (s : ByteArray) (w : World) :
    Calls Try.prog 26 #[.string s] w fun e w' => e = .returned (.func (.func 41) #[] #[.pointer (some ⟨w.heap.size, 0, none⟩)]) ∧ w' = w.alloc (.cells #[.string s] 9) := by
  go_enter Try.func26, Try.ntmps26
  go_wp2
  go_ret
  exact ⟨rfl, rfl⟩

theorem grown_below {W W' : World} (h : Below W.heap.size W W') : W.grownBy W' none := ⟨h.os, h.tape, h.output, h.size, fun k hk _ => h.block k hk⟩
/-- the last character of what is ahead of the end of character k -/
theorem last_ahead (s : ByteArray) (k : Nat) (w : World) (hs : s.size ≤ maxLen) (hk : k < (chars s 0).length) :
    Calls Try.prog 11 #[.string (s.extract 0 (startN s (k + 1)))] w fun e w' => (∃ n c : Int, e = .returned (spotV (startN s k : Nat) n ((Utf8.decode s (startN s k)).1 : Nat) c)) ∧ Below w.heap.size w w' := by
  obtain ⟨h1, h2, h3⟩ := last_start s k hk
  have hu := start_up s k hk
  have hz := start_size s (k + 1) hk
  refine (last_any _ w (by omega) (by omega)).mono ?_
  rintro e w' ⟨rfl, hb⟩
  refine ⟨⟨((Utf8.decode s (startN s k)).2 : Nat), whyN ((s.extract 0 (startN s (k + 1))).extract (startN s k) (s.extract 0 (startN s (k + 1))).size), ?_⟩, hb⟩
  show Ending.returned (spotV _ _ _ _) = _
  rw [h1, h2]

/-- what a round keeps besides: every Spot that lies in memory -/
def KpT (Bs : Nat) (s : ByteArray) (W W' : World) : Prop := KpS Bs s W W' ∧ ∀ (k : Nat) (x y z u : Int), W.heap[k]? = some (spotCells x y z u) → W'.heap[k]? = some (spotCells x y z u)
theorem kpT_t {Bs : Nat} {s : ByteArray} {A B C : World} (h : KpT Bs s A B) (k : KpT Bs s B C) : KpT Bs s A C := ⟨kpS_t h.1 k.1, fun i x y z u e => k.2 i x y z u (h.2 i x y z u e)⟩
theorem kpT_b {Bs : Nat} {s : ByteArray} {w : World} (W : World) (l : Nat) (o o' : Obj) (hl : w.heap.size ≤ l) (h : W.heap[l]? = some o) (hc : o.isCells = false) (hw : o.isWalk = false) : KpT Bs s W (W.putObj l o') := by
  refine ⟨kpS_b (w := w) W l o o' hl h hc hw, fun k x y z u e => ?_⟩
  have hne : k ≠ l := by
    intro e'; subst e'
    rw [h] at e; cases e; simp [Obj.isCells] at hc
  exact (World.putObj_heap_other hne).trans e

set_option maxRecDepth 100000 in
set_option maxHeartbeats 2000000 in
theorem back1_in (s : ByteArray) (hs : s.size ≤ maxLen) (n l Bs : Nat) (hn : 1 ≤ n) (J Jx : List (Pl s) → World → Prop)
    (hY : ∀ pre x W, J pre W → pre.length < s.size → YieldAt Fence.wide (n - 1) Try.prog l (pairVals s x) W fun e W' =>
      (e = .returned (.bool true) ∧ J (pre ++ [x]) W' ∧ KpT Bs s W W') ∨ (e = .returned (.bool false) ∧ Jx (pre ++ [x]) W'))
    (W : World) (hJ : AbidesFrom W.heap.size J) (hBs : Boxed W Bs 9 (.string s)) (h0 : J [] W) :
    CallsIn Fence.wide n Try.prog 41 #[.func (.yield l) #[] #[], .pointer (some ⟨Bs, 0, none⟩)] W fun e W' => (∃ v, e = .returned v) ∧
      ((∃ xs : List (Pl s), xs.map (·.1) = (places s).reverse ∧ J xs W') ∨ (∃ pre : List (Pl s), pre.map (·.1) <+: (places s).reverse ∧ Jx pre W')) := by
  refine callsIn_of_wp Try.func41 rfl trivial ?_ rfl
  simp only [Try.ntmps41, List.size_toArray, List.length_cons, List.length_nil, Nat.reduceAdd, Nat.reduceSub, Array.replicate_succ, Array.replicate_zero, List.push_toArray, List.append_toArray, List.nil_append, List.cons_append]
  have hc := hBs.cell
  have hF : ∀ f, Fence.wide.fn f := fun _ => trivial
  have hs' := hs
  unfold maxLen at hs'
  gi_wp2
  gi_loopw [3] (fun v3 wr => ∃ (k e : Nat) (pre : List (Pl s)), k ≤ (chars s 0).length ∧ Hid (e = startN s k) ∧ e ≤ s.size ∧ v3 = .int .i64 e ∧ Hid (pre.map (·.1) = ((places s).drop k).reverse) ∧ Boxed wr Bs 9 (.string s) ∧ J pre wr)
    (fun v3 _ => (intOf v3).toNat)
  case atStart =>
    exact ⟨(chars s 0).length, s.size, [], Nat.le_refl _, hide (start_len s).symm, Nat.le_refl _, rfl, hide (by rw [List.drop_of_length_le (by rw [places_length]; exact Nat.le_refl _)]; rfl), hBs, h0⟩
  case round =>
    obtain ⟨k, e, pre, hk, HE, hes, rfl, HP, hbx, hJs⟩ := hrel
    have hc2 := hbx.cell
    by_cases hlt : 0 < e
    · obtain ⟨k, rfl⟩ : ∃ j, k = j + 1 := ⟨k - 1, by
        have : k ≠ 0 := by
          intro h0; subst h0
          have := unhide HE; rw [start_zero] at this; omega
        omega⟩
      have hlk := start_lt s k hk
      have hup := start_up s k hk
      have HP2 : Hid ((pre ++ [(⟨startN s k, hlk⟩ : Pl s)]).map (fun x : Pl s => x.1) = ((places s).drop k).reverse) := by
        show _ = _
        have h5 := place_start s k hk
        obtain ⟨h6, h7⟩ := List.getElem?_eq_some_iff.1 h5
        rw [List.map_append, HP.out, List.drop_eq_getElem_cons h6, List.reverse_cons, h7]; rfl
      have hpl : pre.length < s.size := by
        have := congrArg List.length HP2.out
        have h2 := chars_length s 0
        rw [List.length_reverse, List.length_drop, places_length] at this; simp at this; omega
      have HL := hide (fun w' => last_ahead s k w' hs hk)
      rw [← unhide HE] at HL
      have HE2 : Hid (e = startN s (k + 1)) := HE
      have hltk : startN s k < e := by rw [unhide HE]; exact hup
      clear HE HP
      gi_wp2_with fail
      refine (callsIn_wide.2 (unhide HL wr)).mono ?_
      rintro e1 w1 ⟨⟨nn, cc, rfl⟩, hb1⟩
      have hJ1 : J pre w1 := hJ _ _ _ none hJs (grown_below hb1) (fun r e => by cases e)
      have hbx1 : Boxed w1 Bs 9 (.string s) := (hb1.block Bs hbx.lt).trans hbx
      clear hb1 HL hJs hbx hc2
      have hJ4 : J pre (w1.alloc (spotCells (startN s k : Nat) nn ((Utf8.decode s (startN s k)).1 : Nat) cc)) := hJ _ _ _ none hJ1 (World.grownBy_alloc w1 _ none) (fun r e => by cases e)
      have hbx4 := hbx1.alloc (spotCells (startN s k : Nat) nn ((Utf8.decode s (startN s k)).1 : Nat) cc)
      have hnew : (w1.alloc (spotCells (startN s k : Nat) nn ((Utf8.decode s (startN s k)).1 : Nat) cc)).heap[w1.heap.size]? = some (spotCells (startN s k : Nat) nn ((Utf8.decode s (startN s k)).1 : Nat) cc) := heap_alloc_new w1 _
      obtain ⟨fn, tmps, assign, body, hy, hR⟩ := hY pre ⟨startN s k, hlk⟩ _ hJ4 hpl
      dsimp only [pairVals] at hy
      gi_wp2
      refine hR.mono ?_
      rintro e5 W5 (⟨rfl, hJ5, hk5⟩ | ⟨rfl, hJx5⟩)
      · have hn5 := hk5.2 _ _ _ _ _ hnew
        obtain ⟨r0, _, _, _⟩ := spot_cells hn5
        have hbx5 := hk5.1.2 hbx4
        gi_wp2
        go_roundw
        case rel => exact ⟨k, startN s k, _, by omega, hide rfl, by omega, rfl, HP2, hbx5, hJ5⟩
        case measure => simp [intOf]; omega
      · gi_wp2
        refine bodyPost_ret (results_none rfl _ _ _) rfl ?_
        exact ⟨⟨_, rfl⟩, .inr ⟨_, ⟨((places s).take k).reverse, by rw [HP2.out, ← List.reverse_append, List.take_append_drop]⟩, hJx5⟩⟩
    · have hk0 : k = 0 := by
        have := start_mono s 0 k (by omega)
        rw [start_zero, Nat.zero_add, ← unhide HE] at this; omega
      have HE2 : Hid (pre.map (·.1) = (places s).reverse) := by
        have := HP.out
        rw [hk0] at this; exact this
      gi_wp2
      go_end0
      exact ⟨⟨_, rfl⟩, .inl ⟨pre, HE2.out, hJs⟩⟩

theorem backIt_stops (s : ByteArray) (hs : s.size ≤ maxLen) (n Bs : Nat) (hn : 1 ≤ n) (w : World) (hBs : Boxed w Bs 9 (.string s)) :
    SeqStopsK Fence.wide n Try.prog 41 #[.pointer (some ⟨Bs, 0, none⟩)] (pairVals s) (KpT Bs s) (fun xs => xs.map (·.1) = (places s).reverse) (fun pre => pre.map (·.1) <+: (places s).reverse) s.size w :=
  fun l J Jx W hW hJ _ hY h0 => back1_in s hs n l Bs hn J Jx hY W hJ ((hW.block Bs hBs.lt).trans hBs) h0

end Go.Proofs.Ytjkchpjopgpeeaa
