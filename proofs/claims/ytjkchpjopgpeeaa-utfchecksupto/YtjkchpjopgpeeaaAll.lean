/-
  All of package utf: an iterator that tells each character of a text with its place; and the law's function all, which gathers what is told.
-/
import Derived.Test.YtjkchpjopgpeeaaCheck
namespace Go.Proofs.Ytjkchpjopgpeeaa
open Go.RowKit Go.PlainAid Go.Lib Go.Shelf
attribute [local go_sem] World.iter
attribute [local go_sem] Oper.semAt_some

theorem allIt_in (s : ByteArray) (w : World) :
    Calls Try.prog 25 #[.string s] w fun e w' => e = .returned (.func (.func 40) #[] #[.pointer (some ⟨w.heap.size, 0, none⟩)]) ∧ w' = w.alloc (.cells #[.string s] 9) := by
  go_enter Try.func25, Try.ntmps25
  go_wp2
  go_ret
  exact ⟨rfl, rfl⟩

/-- what an iterator over characters hands to the loop's body -/
abbrev pairVals (s : ByteArray) (x : Pl s) : Array Value := #[.int .i64 (x.1 : Nat), .int .i32 ((Utf8.decode s x.1).1 : Nat)]

set_option maxRecDepth 100000 in
set_option maxHeartbeats 2000000 in
theorem all1_in (s : ByteArray) (n l Bs : Nat) (hn : 1 ≤ n) (J Jx : List (Pl s) → World → Prop)
    (hY : ∀ pre x W, J pre W → pre.length < s.size → YieldAt Fence.wide (n - 1) Try.prog l (pairVals s x) W fun e W' =>
      (e = .returned (.bool true) ∧ J (pre ++ [x]) W' ∧ KpS Bs s W W') ∨ (e = .returned (.bool false) ∧ Jx (pre ++ [x]) W'))
    (W : World) (hJ : AbidesFrom W.heap.size J) (hBs : Boxed W Bs 9 (.string s)) (h0 : J [] W) :
    CallsIn Fence.wide n Try.prog 40 #[.func (.yield l) #[] #[], .pointer (some ⟨Bs, 0, none⟩)] W fun e W' => (∃ v, e = .returned v) ∧
      ((∃ xs : List (Pl s), xs.map (·.1) = places s ∧ J xs W') ∨ (∃ pre : List (Pl s), pre.map (·.1) <+: places s ∧ Jx pre W')) := by
  refine callsIn_of_wp Try.func40 rfl trivial ?_ rfl
  simp only [Try.ntmps40, List.size_toArray, List.length_cons, List.length_nil, Nat.reduceAdd, Nat.reduceSub, Array.replicate_succ, Array.replicate_zero, List.push_toArray, List.append_toArray, List.nil_append, List.cons_append]
  have hc := hBs.cell
  have hF : ∀ f, Fence.wide.fn f := fun _ => trivial
  gi_wp2
  gi_loopw [3] (fun _ wr => ∃ (pos : Nat) (pre : List (Pl s)), Hid (pre.map (·.1) ++ (chars s pos).map (·.1) = places s) ∧ wr.heap[W.heap.size]? = some (.stringIter s pos) ∧ J pre wr)
    (fun _ wr => s.size - wr.iterPos W.heap.size)
  case atStart =>
    exact ⟨0, [], rfl, heap_alloc_new W _, hJ _ _ _ none h0 (World.grownBy_alloc W _ none) (fun r e => by cases e)⟩
  case round =>
    obtain ⟨pos, pre, HP, hit, hJs⟩ := hrel
    by_cases hlt : pos < s.size
    · have hnx := fun ty => run_next_any_at (P := Try.prog) wr W.heap.size s pos ty hit hlt
      have hb := dec_bounds s pos hlt
      have hit2 := iterAt_heap wr W.heap.size s pos (pos + (Utf8.decode s pos).2) hit
      have hJ2 : J pre (wr.iterAt W.heap.size s (pos + (Utf8.decode s pos).2)) := hJ _ _ _ (some W.heap.size) hJs (grownBy_iterAt wr W.heap.size s _) (fun r e => by cases e; exact ⟨Nat.le_refl _, _, hit, rfl⟩)
      have HP2 : Hid ((pre ++ [(⟨pos, hlt⟩ : Pl s)]).map (fun x : Pl s => x.1) ++ (chars s (pos + (Utf8.decode s pos).2)).map (·.1) = places s) := by
        show _ = _
        rw [← HP.out, chars_step s pos hlt, List.map_append, List.append_assoc]; rfl
      have hpl : pre.length < s.size := by
        have := congrArg List.length HP2.out
        have h2 := chars_length s 0
        rw [places_length] at this; simp at this; omega
      have hmeas : s.size - (pos + (Utf8.decode s pos).2) < s.size - wr.iterPos W.heap.size := by rw [iterPos_of hit]; omega
      generalize hW3 : wr.iterAt W.heap.size s (pos + (Utf8.decode s pos).2) = W3 at *
      clear hW3
      obtain ⟨fn, tmps, assign, body, hy, hR⟩ := hY pre ⟨pos, hlt⟩ _ hJ2 hpl
      dsimp only [pairVals] at hy
      gi_wp2
      refine hR.mono ?_
      rintro e W5 (⟨rfl, hJ5, hk5⟩ | ⟨rfl, hJx5⟩)
      · have hit5 := walks_iter hk5.1 hit2
        gi_wp2
        go_roundw
        case rel => exact ⟨_, _, HP2, hit5, hJ5⟩
        case measure => rw [iterPos_of hit5]; exact hmeas
      · gi_wp2
        refine bodyPost_ret (results_none rfl _ _ _) rfl ?_
        exact ⟨⟨_, rfl⟩, .inr ⟨_, ⟨_, HP2.out⟩, hJx5⟩⟩
    · have hnx := fun ty => run_next_end_at (P := Try.prog) wr W.heap.size s pos ty hit hlt
      have HE : Hid (pre.map (·.1) = places s) := by
        show _ = _
        have := HP.out
        rw [chars_end s pos hlt] at this; simpa using this
      gi_wp2
      go_end0
      exact ⟨⟨_, rfl⟩, .inl ⟨pre, HE.out, hJs⟩⟩

theorem allIt_stops (s : ByteArray) (n Bs : Nat) (hn : 1 ≤ n) (w : World) (hBs : Boxed w Bs 9 (.string s)) :
    SeqStopsK Fence.wide n Try.prog 40 #[.pointer (some ⟨Bs, 0, none⟩)] (pairVals s) (KpS Bs s) (fun xs => xs.map (·.1) = places s) (fun pre => pre.map (·.1) <+: places s) s.size w :=
  fun l J Jx W hW hJ _ hY h0 => all1_in s n l Bs hn J Jx hY W hJ ((hW.block Bs hBs.lt).trans hBs) h0

end Go.Proofs.Ytjkchpjopgpeeaa
