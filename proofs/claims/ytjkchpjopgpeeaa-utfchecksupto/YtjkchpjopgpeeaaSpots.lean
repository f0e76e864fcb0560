/-
  Spots of package utf: an iterator that tells each character of a text as a Spot, whatever the loop's body does with it.
-/
import Derived.Test.YtjkchpjopgpeeaaPlace
import Derived.RangeFuncNested
import Derived.RangeFuncBound
import Derived.RangeFuncCalls
import Derived.RangeFuncLeaves
import Derived.Shelf.Abstract
import Derived.Shelf.RegionOpen
import Derived.OwnWalkIn
import Derived.TacticsInMore
import Derived.LoopNIn
import Derived.LoopIn
namespace Go.Proofs.Ytjkchpjopgpeeaa
open Go.RowKit Go.PlainAid Go.Lib Go.Shelf
attribute [local go_sem] World.iter
attribute [local go_sem] Oper.semAt_some

/-- a place of a byte of the text -/
abbrev Pl (s : ByteArray) : Type := { i : Nat // i < s.size }
/-- the places at which characters begin -/
def places (s : ByteArray) : List Nat := (chars s 0).map (·.1)
theorem places_length (s : ByteArray) : (places s).length = (chars s 0).length := by simp [places]

/-- what a round keeps: iterators, maps; and the box that holds the text -/
def KpS (Bs : Nat) (s : ByteArray) (W W' : World) : Prop := KeepsWalks W W' ∧ (Boxed W Bs 9 (.string s) → Boxed W' Bs 9 (.string s))
theorem kpS_t {Bs : Nat} {s : ByteArray} {A B C : World} (h : KpS Bs s A B) (k : KpS Bs s B C) : KpS Bs s A C := ⟨h.1.trans k.1, fun x => k.2 (h.2 x)⟩
theorem kpS_b {Bs : Nat} {s : ByteArray} {w : World} (W : World) (l : Nat) (o o' : Obj) (_ : w.heap.size ≤ l) (h : W.heap[l]? = some o) (hc : o.isCells = false) (hw : o.isWalk = false) : KpS Bs s W (W.putObj l o') := by
  refine ⟨KeepsWalks.putObj _ h hw, fun x => ?_⟩
  have hne : Bs ≠ l := by
    intro e; subst e
    have hx : W.heap[Bs]? = _ := x
    rw [h] at hx; cases hx; simp [Obj.isCells] at hc
  exact (World.putObj_heap_other hne).trans x

set_option maxHeartbeats 400000 in
theorem spots_in (s : ByteArray) (w : World) :
    Calls Try.prog 9 #[.string s] w fun e w' => e = .returned (.func (.func 27) #[] #[.pointer (some ⟨w.heap.size, 0, none⟩)]) ∧ w' = w.alloc (.cells #[.string s] 9) := by
  go_enter Try.func9, Try.ntmps9
  go_wp2
  go_ret
  exact ⟨rfl, rfl⟩

/-- spotAt at what a range tells -/
theorem spotAt_dec (s : ByteArray) (i : Nat) (w : World) (hs : s.size ≤ maxLen) (hi : i < s.size) :
    Calls Try.prog 28 #[.string s, .int .i64 i, .int .i32 ((Utf8.decode s i).1 : Nat)] w fun e w' => e = .returned (spotOf s i) ∧ w' = w.alloc (spotCells i ((Utf8.decode s i).2 : Nat) ((Utf8.decode s i).1 : Nat) (whyN (s.extract i s.size))) := by
  refine (spotAt_any s i _ w hs hi).mono ?_
  rintro e w' ⟨rfl, rfl⟩
  have hd := spot_dec s i hi
  rw [hd.1, hd.2]
  exact ⟨rfl, rfl⟩

theorem iterAt_boxed {W : World} {k : Nat} {s : ByteArray} {p p' : Nat} (hk : W.heap[k]? = some (.stringIter s p)) {B : Nat} {t : TypeId} {v : Value} (h : Boxed W B t v) : Boxed (W.iterAt k s p') B t v := by
  refine h.kept (grownBy_iterAt W k s p') ?_
  intro e
  have e2 : B = k := by simpa using e
  subst e2
  have hx : W.heap[B]? = _ := h
  rw [hk] at hx; cases hx
theorem walks_iter {W W' : World} (h : KeepsWalks W W') {k : Nat} {s : ByteArray} {p : Nat} (hk : W.heap[k]? = some (.stringIter s p)) : W'.heap[k]? = some (.stringIter s p) := h.same k _ hk rfl

set_option maxRecDepth 100000 in
set_option maxHeartbeats 2000000 in
theorem spots1_in (s : ByteArray) (hs : s.size ≤ maxLen) (n l Bs : Nat) (hn : 1 ≤ n) (J Jx : List (Pl s) → World → Prop)
    (hY : ∀ pre x W, J pre W → pre.length < s.size → YieldAt Fence.wide (n - 1) Try.prog l #[spotOf s x.1] W fun e W' =>
      (e = .returned (.bool true) ∧ J (pre ++ [x]) W' ∧ KpS Bs s W W') ∨ (e = .returned (.bool false) ∧ Jx (pre ++ [x]) W'))
    (W : World) (hJ : AbidesFrom W.heap.size J) (hBs : Boxed W Bs 9 (.string s)) (h0 : J [] W) :
    CallsIn Fence.wide n Try.prog 27 #[.func (.yield l) #[] #[], .pointer (some ⟨Bs, 0, none⟩)] W fun e W' => (∃ v, e = .returned v) ∧
      ((∃ xs : List (Pl s), xs.map (·.1) = places s ∧ J xs W') ∨ (∃ pre : List (Pl s), pre.map (·.1) <+: places s ∧ Jx pre W')) := by
  refine callsIn_of_wp Try.func27 rfl trivial ?_ rfl
  simp only [Try.ntmps27, List.size_toArray, List.length_cons, List.length_nil, Nat.reduceAdd, Nat.reduceSub, Array.replicate_succ, Array.replicate_zero, List.push_toArray, List.append_toArray, List.nil_append, List.cons_append]
  have hc := hBs.cell
  have hF : ∀ f, Fence.wide.fn f := fun _ => trivial
  gi_wp2
  gi_loopw [3] (fun _ wr => ∃ (pos : Nat) (pre : List (Pl s)), Hid (pre.map (·.1) ++ (chars s pos).map (·.1) = places s) ∧ wr.heap[W.heap.size]? = some (.stringIter s pos) ∧ Boxed wr Bs 9 (.string s) ∧ J pre wr)
    (fun _ wr => s.size - wr.iterPos W.heap.size)
  case atStart =>
    exact ⟨0, [], rfl, heap_alloc_new W _, hBs.alloc _, hJ _ _ _ none h0 (World.grownBy_alloc W _ none) (fun r e => by cases e)⟩
  case round =>
    obtain ⟨pos, pre, HP, hit, hbx, hJs⟩ := hrel
    have hkw := (Array.getElem?_eq_some_iff.1 hit).1
    by_cases hlt : pos < s.size
    · have hnx := fun ty => run_next_any_at (P := Try.prog) wr W.heap.size s pos ty hit hlt
      have hb := dec_bounds s pos hlt
      have hit2 := iterAt_heap wr W.heap.size s pos (pos + (Utf8.decode s pos).2) hit
      have hbx2 := iterAt_boxed (p' := pos + (Utf8.decode s pos).2) hit hbx
      have hc2 := hbx2.cell
      have hJ2 : J pre (wr.iterAt W.heap.size s (pos + (Utf8.decode s pos).2)) := hJ _ _ _ (some W.heap.size) hJs (grownBy_iterAt wr W.heap.size s _) (fun r e => by cases e; exact ⟨Nat.le_refl _, _, hit, rfl⟩)
      have HP2 : Hid ((pre ++ [(⟨pos, hlt⟩ : Pl s)]).map (fun x : Pl s => x.1) ++ (chars s (pos + (Utf8.decode s pos).2)).map (·.1) = places s) := by
        show _ = _
        rw [← HP.out, chars_step s pos hlt, List.map_append, List.append_assoc]; rfl
      have hpl : pre.length < s.size := by
        have := congrArg List.length HP2.out
        have h2 := chars_length s 0
        rw [places_length] at this; simp at this; omega
      have hmeas : s.size - (pos + (Utf8.decode s pos).2) < s.size - wr.iterPos W.heap.size := by rw [iterPos_of hit]; omega
      generalize hW3 : wr.iterAt W.heap.size s (pos + (Utf8.decode s pos).2) = W3 at *
      clear hW3
      have hJ4 : J pre (W3.alloc (spotCells pos ((Utf8.decode s pos).2 : Nat) ((Utf8.decode s pos).1 : Nat) (whyN (s.extract pos s.size)))) := hJ _ _ _ none hJ2 (World.grownBy_alloc W3 _ none) (fun r e => by cases e)
      obtain ⟨fn, tmps, assign, body, hy, hR⟩ := hY pre ⟨pos, hlt⟩ _ hJ4 hpl
      dsimp only at hy
      gi_wp2_with (gi_at_call 28; refine (callsIn_wide.2 (spotAt_dec s pos _ hs hlt)).mono ?_; rintro e w' ⟨rfl, rfl⟩)
      refine hR.mono ?_
      rintro e W5 (⟨rfl, hJ5, hk5⟩ | ⟨rfl, hJx5⟩)
      · have hit5 := walks_iter hk5.1 ((Below.heap_alloc W3 _ W.heap.size (Array.getElem?_eq_some_iff.1 hit2).1).trans hit2)
        have hbx5 := hk5.2 (hbx2.alloc _)
        gi_wp2
        go_roundw
        case rel => exact ⟨_, _, HP2, hit5, hbx5, hJ5⟩
        case measure => rw [iterPos_of hit5]; exact hmeas
      · gi_wp2
        refine bodyPost_ret (results_none rfl _ _ _) rfl ?_
        exact ⟨⟨_, rfl⟩, .inr ⟨_, ⟨_, HP2.out⟩, hJx5⟩⟩
    · have hnx := fun ty => run_next_end_at (P := Try.prog) wr W.heap.size s pos ty hit hlt
      have HE : Hid (pre.map (·.1) = places s) := by
        show _ = _
        have := HP.out
        rw [chars_end s pos hlt] at this; simpa using this
      gi_wp2
      go_end0
      exact ⟨⟨_, rfl⟩, .inl ⟨pre, HE.out, hJs⟩⟩

theorem spots_stops (s : ByteArray) (hs : s.size ≤ maxLen) (n Bs : Nat) (hn : 1 ≤ n) (w : World) (hBs : Boxed w Bs 9 (.string s)) :
    SeqStopsK Fence.wide n Try.prog 27 #[.pointer (some ⟨Bs, 0, none⟩)] (fun x : Pl s => #[spotOf s x.1]) (KpS Bs s) (fun xs => xs.map (·.1) = places s) (fun pre => pre.map (·.1) <+: places s) s.size w :=
  fun l J Jx W hW hJ _ hY h0 => spots1_in s hs n l Bs hn J Jx hY W hJ ((hW.block Bs hBs.lt).trans hBs) h0

end Go.Proofs.Ytjkchpjopgpeeaa
