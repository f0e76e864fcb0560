/-
  The iterators forward and backward of package wide, whatever the loop's body does.
-/
import Derived.Test.YtghcheoholkpbaaWIter
import Derived.Test.YtghcheoholkpbaaSpots
import Derived.Test.YtghcheoholkpbaaCheck
namespace Go.Proofs.Ytghcheoholkpbaa
open Go.RowKit Go.PlainAid Go.Lib Go.Shelf
attribute [local go_sem] World.iter
attribute [local go_sem] Oper.semAt_some
set_option linter.unusedVariables false

/-- a place of a unit -/
abbrev Up (us : List Int) : Type := { i : Nat // i < us.length }
/-- what the iterators hand to the loop's body -/
abbrev upVals (us : List Int) (x : Up us) : Array Value := #[.int .i64 (x.1 : Nat), .int .i32 (rA us x.1)]
/-- what a round keeps: iterators, maps; the box that holds the list, and the list's units -/
def KpU (Bs : Nat) (a : Option Addr) (c : Nat) (us : List Int) (W W' : World) : Prop :=
  KeepsWalks W W' ∧ (Boxed W Bs 31 (.slice a us.length c) → Boxed W' Bs 31 (.slice a us.length c)) ∧ (ReadsU W a us → ReadsU W' a us)
theorem kpU_t {Bs : Nat} {a : Option Addr} {c : Nat} {us : List Int} {A B C : World} (h : KpU Bs a c us A B) (k : KpU Bs a c us B C) : KpU Bs a c us A C := ⟨h.1.trans k.1, fun x => k.2.1 (h.2.1 x), fun x => k.2.2 (h.2.2 x)⟩
theorem cell_put {W : World} {l : Nat} {o o' : Obj} (hl : W.heap[l]? = some o) (ho : o.isCells = false) {b k : Nat} {v : Value} (h : W.cell? ⟨b, k, none⟩ = some v) : (W.putObj l o').cell? ⟨b, k, none⟩ = some v := by
  have hne : b ≠ l := by
    intro e; subst e
    simp only [World.cell?, hl] at h
    cases o <;> simp [Obj.isCells] at ho h
  rw [← h]
  unfold World.cell?
  rw [World.putObj_heap_other hne]
theorem kpU_b {Bs : Nat} {a : Option Addr} {c : Nat} {us : List Int} {w : World} (W : World) (l : Nat) (o o' : Obj) (_ : w.heap.size ≤ l) (h : W.heap[l]? = some o) (hc : o.isCells = false) (hw : o.isWalk = false) : KpU Bs a c us W (W.putObj l o') := by
  refine ⟨KeepsWalks.putObj _ h hw, fun x => ?_, fun x k hk => ?_⟩
  · have hne : Bs ≠ l := by
      intro e; subst e
      have hx : W.heap[Bs]? = _ := x
      rw [h] at hx; cases hx; simp [Obj.isCells] at hc
    exact (World.putObj_heap_other hne).trans x
  · obtain ⟨b, off, h1, h2⟩ := x k hk
    exact ⟨b, off, h1, cell_put h hc h2⟩
theorem grownDrewN (w : World) (n : Nat) (row : Option Nat) : w.grownBy (w.drewN n) row := ⟨rfl, rfl, rfl, Nat.le_refl _, fun _ _ _ => rfl⟩
theorem ReadsU.drewN {w : World} {a : Option Addr} {zs : List Int} (h : ReadsU w a zs) (n : Nat) : ReadsU (w.drewN n) a zs := h.below ⟨rfl, rfl, rfl, Nat.le_refl _, fun _ _ => rfl⟩

theorem forward_any (a : Option Addr) (n c : Nat) (w : World) :
    Calls Try.prog 60 #[.slice a n c] w fun e w' => e = .returned (.func (.func 74) #[] #[.pointer (some ⟨w.heap.size, 0, none⟩)]) ∧ w' = w.alloc (.cells #[.slice a n c] 31) := by
  go_enter Try.func60, Try.ntmps60
  go_wp2
  go_ret
  exact ⟨rfl, rfl⟩
theorem backward_any (a : Option Addr) (n c : Nat) (w : World) :
    Calls Try.prog 64 #[.slice a n c] w fun e w' => e = .returned (.func (.func 78) #[] #[.pointer (some ⟨w.heap.size, 0, none⟩)]) ∧ w' = w.alloc (.cells #[.slice a n c] 31) := by
  go_enter Try.func64, Try.ntmps64
  go_wp2
  go_ret
  exact ⟨rfl, rfl⟩

set_option maxRecDepth 100000 in
set_option maxHeartbeats 2000000 in
theorem forward1_in (us : List Int) (a : Option Addr) (c n l Bs : Nat) (hn : 1 ≤ n) (hf : Fits us) (hl : us.length ≤ 1099511627776) (hcap : us.length ≤ c) (hcap2 : c ≤ maxLen) (J Jx : List (Up us) → World → Prop)
    (hY : ∀ pre x W, J pre W → pre.length < us.length → YieldAt Fence.wide (n - 1) Try.prog l (upVals us x) W fun e W' =>
      (e = .returned (.bool true) ∧ J (pre ++ [x]) W' ∧ KpU Bs a c us W W') ∨ (e = .returned (.bool false) ∧ Jx (pre ++ [x]) W'))
    (W : World) (hJ : AbidesFrom W.heap.size J) (hBs : Boxed W Bs 31 (.slice a us.length c)) (hrd : ReadsU W a us) (h0 : J [] W) :
    CallsIn Fence.wide n Try.prog 74 #[.func (.yield l) #[] #[], .pointer (some ⟨Bs, 0, none⟩)] W fun e W' => (∃ v, e = .returned v) ∧
      ((∃ xs : List (Up us), xs.map (·.1) = wplaces us 0 ∧ J xs W') ∨ (∃ pre : List (Up us), pre.map (·.1) <+: wplaces us 0 ∧ Jx pre W')) := by
  unfold maxLen at hcap2
  refine callsIn_of_wp Try.func74 rfl trivial ?_ rfl
  simp only [Try.ntmps74, List.size_toArray, List.length_cons, List.length_nil, Nat.reduceAdd, Nat.reduceSub, Array.replicate_succ, Array.replicate_zero, List.push_toArray, List.append_toArray, List.nil_append, List.cons_append]
  have hF : ∀ f, Fence.wide.fn f := fun _ => trivial
  gi_wp2
  gi_loopw [3] (fun v3 wr => ∃ (pos : Nat) (pre : List (Up us)), pos ≤ us.length ∧ v3 = .int .i64 pos ∧ Hid (pre.map (·.1) ++ wplaces us pos = wplaces us 0) ∧ Boxed wr Bs 31 (.slice a us.length c) ∧ ReadsU wr a us ∧ J pre wr)
    (fun v3 wr => us.length - (intOf v3).toNat)
  case atStart =>
    exact ⟨0, [], Nat.zero_le _, rfl, rfl, hBs, hrd, h0⟩
  case round =>
    clear hBs hrd h0
    obtain ⟨pos, pre, hpos, rfl, HP, hbx, hrd, hJs⟩ := hrel
    have hc := hbx.cell
    by_cases hlt : pos < us.length
    · obtain ⟨b, off, rfl, _⟩ := hrd pos hlt
      have hb := nA_bounds us pos hlt
      have hw := wN_rA hf pos
      have hrb := rA_bounds hf pos
      have HP2 : Hid ((pre ++ [(⟨pos, hlt⟩ : Up us)]).map (fun x : Up us => x.1) ++ wplaces us (pos + nA us pos) = wplaces us 0) := by
        show _ = _
        rw [← HP.out, wplaces_step us pos hlt, List.map_append, List.append_assoc]; rfl
      have hpl : pre.length < us.length := by
        have := congrArg List.length HP2.out
        have h2 := wplaces_length us 0
        simp at this; omega
      have HF := hide (fun m => wfirst_any wr b off us pos m hf hrd hlt (by omega))
      have HJ2 := hide (fun m => hJ _ _ _ none hJs (grownDrewN wr m none) (fun r e => by cases e))
      have HB2 := hide (fun m => hbx.kept (grownDrewN wr m none) (by simp))
      have HD2 := hide (fun m => hrd.drewN m)
      have HY := hide hY
      clear hY hJ hrd hbx hJs
      gi_wp2_with (gi_at_call 75; refine (callsIn_wide.2 (unhide HF _)).mono ?_; rintro e w' ⟨rfl, m, rfl⟩; obtain ⟨fn, tmps, assign, body, hy, hR⟩ := unhide HY pre ⟨pos, hlt⟩ _ (unhide HJ2 m) hpl; dsimp only [upVals] at hy)
      have HB3 := unhide HB2 m
      have HD3 := unhide HD2 m
      clear HB2 HD2 HJ2 HF hc
      generalize wr.drewN m = W3 at *
      refine hR.mono ?_
      rintro e W5 (⟨rfl, hJ5, hk5⟩ | ⟨rfl, hJx5⟩)
      · have hbx5 := hk5.2.1 HB3
        have hrd5 := hk5.2.2 HD3
        clear HB3 HD3 hk5 hR hy
        gi_wp2_with (gi_at_call 18; refine (callsIn_wide.2 (wWidth_any _ _)).mono ?_; rintro e w' ⟨rfl, rfl⟩; rw [hw])
        go_roundw
        case rel => exact ⟨pos + nA us pos, _, by omega, by go_num, HP2, hbx5, hrd5, hJ5⟩
        case measure => simp [intOf]; omega
      · gi_wp2
        refine bodyPost_ret (results_none rfl _ _ _) rfl ?_
        exact ⟨⟨_, rfl⟩, .inr ⟨_, ⟨_, HP2.out⟩, hJx5⟩⟩
    · have HE : Hid (pre.map (·.1) = wplaces us 0) := by
        show _ = _
        have := HP.out
        rw [wplaces_end us pos hlt] at this; simpa using this
      have hple : pos = us.length := by omega
      gi_wp2
      go_end0
      exact ⟨⟨_, rfl⟩, .inl ⟨pre, HE.out, hJs⟩⟩

theorem forward_stops (us : List Int) (a : Option Addr) (c n Bs : Nat) (hn : 1 ≤ n) (hf : Fits us) (hl : us.length ≤ 1099511627776) (hcap : us.length ≤ c) (hcap2 : c ≤ maxLen) (w : World) (hBs : Boxed w Bs 31 (.slice a us.length c)) (hrd : ReadsU w a us) :
    SeqStopsK Fence.wide n Try.prog 74 #[.pointer (some ⟨Bs, 0, none⟩)] (upVals us) (KpU Bs a c us) (fun xs => xs.map (·.1) = wplaces us 0) (fun pre => pre.map (·.1) <+: wplaces us 0) us.length w :=
  fun l J Jx W hW hJ _ hY h0 => forward1_in us a c n l Bs hn hf hl hcap hcap2 J Jx hY W hJ ((hW.block Bs hBs.lt).trans hBs) (hrd.below hW) h0

set_option maxRecDepth 100000 in
set_option maxHeartbeats 2000000 in
theorem backward1_in (us : List Int) (a : Option Addr) (c n l Bs : Nat) (hn : 1 ≤ n) (hf : Fits us) (hl : us.length ≤ 1099511627776) (hcap : us.length ≤ c) (hcap2 : c ≤ maxLen) (J Jx : List (Up us) → World → Prop)
    (hY : ∀ pre x W, J pre W → pre.length < us.length → YieldAt Fence.wide (n - 1) Try.prog l (upVals us x) W fun e W' =>
      (e = .returned (.bool true) ∧ J (pre ++ [x]) W' ∧ KpU Bs a c us W W') ∨ (e = .returned (.bool false) ∧ Jx (pre ++ [x]) W'))
    (W : World) (hJ : AbidesFrom W.heap.size J) (hBs : Boxed W Bs 31 (.slice a us.length c)) (hrd : ReadsU W a us) (h0 : J [] W) :
    CallsIn Fence.wide n Try.prog 78 #[.func (.yield l) #[] #[], .pointer (some ⟨Bs, 0, none⟩)] W fun e W' => (∃ v, e = .returned v) ∧
      ((∃ xs : List (Up us), xs.map (·.1) = (wplaces us 0).reverse ∧ J xs W') ∨ (∃ pre : List (Up us), pre.map (·.1) <+: (wplaces us 0).reverse ∧ Jx pre W')) := by
  unfold maxLen at hcap2
  refine callsIn_of_wp Try.func78 rfl trivial ?_ rfl
  simp only [Try.ntmps78, List.size_toArray, List.length_cons, List.length_nil, Nat.reduceAdd, Nat.reduceSub, Array.replicate_succ, Array.replicate_zero, List.push_toArray, List.append_toArray, List.nil_append, List.cons_append]
  have hF : ∀ f, Fence.wide.fn f := fun _ => trivial
  have hc := hBs.cell
  gi_wp2
  gi_loopw [3] (fun v3 wr => ∃ (pos : Nat) (front : List Nat) (pre : List (Up us)), pos ≤ us.length ∧ v3 = .int .i64 pos ∧ Hid (wplaces us 0 = front ++ (pre.map (·.1)).reverse) ∧ Hid (Bnd us front pos) ∧ Boxed wr Bs 31 (.slice a us.length c) ∧ ReadsU wr a us ∧ J pre wr)
    (fun v3 wr => (intOf v3).toNat)
  case atStart =>
    exact ⟨us.length, wplaces us 0, [], Nat.le_refl _, rfl, show _ = _ by simp, hide (bnd_start us), hBs, hrd, h0⟩
  case round =>
    clear hBs hrd h0 hc
    obtain ⟨pos, front, pre, hpos, rfl, HP, HN, hbx, hrd, hJs⟩ := hrel
    have hc := hbx.cell
    by_cases hlt : 0 < pos
    · obtain ⟨b, off, rfl, _⟩ := hrd (pos - 1) (by omega)
      obtain ⟨f', q, rfl, hq, hqp⟩ := bnd_last (unhide HN) hlt
      have hsp : wplaces us 0 = f' ++ q :: (pre.map (·.1)).reverse := by rw [HP.out, List.append_assoc]; rfl
      obtain ⟨hN2, hlr⟩ := bnd_step us f' _ q hsp
      rw [hqp] at hlr
      have hb := nA_bounds us q hq
      have hw := wN_rA hf q
      have hrb := rA_bounds hf q
      have HP2 : Hid (wplaces us 0 = f' ++ ((pre ++ [(⟨q, hq⟩ : Up us)]).map (fun x : Up us => x.1)).reverse) := by
        show _ = _
        rw [hsp]; simp
      have hpl : pre.length < us.length := by
        have := congrArg List.length HP2.out
        have h2 := wplaces_length us 0
        simp at this; omega
      have HF := hide (fun m => wlast_any wr b off us pos m hf hrd hlt hpos (by omega))
      rw [hlr] at HF
      have HJ2 := hide (fun m => hJ _ _ _ none hJs (grownDrewN wr m none) (fun r e => by cases e))
      have HB2 := hide (fun m => hbx.kept (grownDrewN wr m none) (by simp))
      have HD2 := hide (fun m => hrd.drewN m)
      have HY := hide hY
      have HN2 := hide hN2
      have HW := hide hw
      have hsub : (pos : Int) - (nA us q : Int) = (q : Nat) := by omega
      have hQP := hide hqp
      clear hY hJ hrd hbx hJs hlr hsp hN2 hw hqp HP HN
      gi_wp2_with (first
        | (gi_at_call 79; refine (callsIn_wide.2 (unhide HF _)).mono ?_; rintro e w' ⟨rfl, m, rfl⟩; obtain ⟨fn, tmps, assign, body, hy, hR⟩ := unhide HY pre ⟨q, hq⟩ _ (unhide HJ2 m) hpl; dsimp only [upVals] at hy)
        | (gi_at_call 18; refine (callsIn_wide.2 (wWidth_any _ _)).mono ?_; rintro e w' ⟨rfl, rfl⟩; rw [unhide HW]))
      have HB3 := unhide HB2 m
      have HD3 := unhide HD2 m
      clear HB2 HD2 HJ2 HF hc
      generalize wr.drewN m = W3 at *
      refine hR.mono ?_
      rintro e W5 (⟨rfl, hJ5, hk5⟩ | ⟨rfl, hJx5⟩)
      · have hbx5 := hk5.2.1 HB3
        have hrd5 := hk5.2.2 HD3
        clear HB3 HD3 hk5 hR hy
        gi_wp2
        go_roundw
        case rel => exact ⟨q, f', _, by omega, rfl, HP2, HN2, hbx5, hrd5, hJ5⟩
        case measure => have := unhide hQP; simp [intOf]; omega
      · gi_wp2
        refine bodyPost_ret (results_none rfl _ _ _) rfl ?_
        refine ⟨⟨_, rfl⟩, .inr ⟨_, ?_, hJx5⟩⟩
        rw [HP2.out, List.reverse_append, List.reverse_reverse]
        exact ⟨_, rfl⟩
    · have HE : Hid (pre.map (·.1) = (wplaces us 0).reverse) := by
        show _ = _
        have hfe : front = [] := by
          refine Decidable.byContradiction fun hne => ?_
          obtain ⟨h1, h2⟩ := (unhide HN).2 _ _ (List.dropLast_concat_getLast hne).symm
          have hb := nA_bounds us _ h1
          omega
        rw [HP.out, hfe]; simp
      obtain rfl : pos = 0 := by omega
      gi_wp2
      go_end0
      exact ⟨⟨_, rfl⟩, .inl ⟨pre, HE.out, hJs⟩⟩

theorem backward_stops (us : List Int) (a : Option Addr) (c n Bs : Nat) (hn : 1 ≤ n) (hf : Fits us) (hl : us.length ≤ 1099511627776) (hcap : us.length ≤ c) (hcap2 : c ≤ maxLen) (w : World) (hBs : Boxed w Bs 31 (.slice a us.length c)) (hrd : ReadsU w a us) :
    SeqStopsK Fence.wide n Try.prog 78 #[.pointer (some ⟨Bs, 0, none⟩)] (upVals us) (KpU Bs a c us) (fun xs => xs.map (·.1) = (wplaces us 0).reverse) (fun pre => pre.map (·.1) <+: (wplaces us 0).reverse) us.length w :=
  fun l J Jx W hW hJ _ hY h0 => backward1_in us a c n l Bs hn hf hl hcap hcap2 J Jx hY W hJ ((hW.block Bs hBs.lt).trans hBs) (hrd.below hW) h0

end Go.Proofs.Ytghcheoholkpbaa
