/-
  Pieces of package utf: an iterator that tells what a text stands for by parts, whatever the loop's body does with it.
-/
import Derived.Test.YtjkchpjopgpeeaaPart
import Derived.Test.YtjkchpjopgpeeaaReads
import Derived.Test.YtjkchpjopgpeeaaSeq2
namespace Go.Proofs.Ytjkchpjopgpeeaa
open Go.RowKit Go.PlainAid Go.Lib Go.Shelf Go.Seq2
attribute [local go_sem] World.iter
attribute [local go_sem] Oper.semAt_some

/-- where the piece that begins at i ends -/
def pieceEnd (s : ByteArray) (i : Nat) : Nat := if why s i = 0 then i + (Utf8.decode s i).2 else i + partN (s.extract i s.size)
/-- the pieces among the characters' places l, the bytes ahead of e being through -/
def pcs (s : ByteArray) : Nat → List Nat → List Nat
  | _, [] => []
  | e, i :: l => if i < e then pcs s e l else i :: pcs s (pieceEnd s i) l
/-- how far the pieces go -/
def pcsEnd (s : ByteArray) : Nat → List Nat → Nat
  | e, [] => e
  | e, i :: l => if i < e then pcsEnd s e l else pcsEnd s (pieceEnd s i) l
/-- where the pieces of a text begin -/
def pieces (s : ByteArray) : List Nat := pcs s 0 (places s)
theorem pcs_append (s : ByteArray) (l l' : List Nat) : ∀ e, pcs s e (l ++ l') = pcs s e l ++ pcs s (pcsEnd s e l) l' := by
  induction l with
  | nil => intro e; rfl
  | cons i l ih =>
    intro e
    simp only [List.cons_append, pcs, pcsEnd]
    split
    · exact ih e
    · rw [ih, List.cons_append]
theorem pcsEnd_append (s : ByteArray) (l l' : List Nat) : ∀ e, pcsEnd s e (l ++ l') = pcsEnd s (pcsEnd s e l) l' := by
  induction l with
  | nil => intro e; rfl
  | cons i l ih =>
    intro e
    simp only [List.cons_append, pcsEnd]
    split
    · exact ih e
    · exact ih _
theorem pcs_prefix (s : ByteArray) (l l' : List Nat) (h : l <+: l') : pcs s 0 l <+: pcs s 0 l' := by
  obtain ⟨r, rfl⟩ := h
  rw [pcs_append]; exact List.prefix_append _ _
theorem pcs_sublist (s : ByteArray) (l : List Nat) : ∀ e, (pcs s e l).length ≤ l.length := by
  induction l with
  | nil => intro e; simp [pcs]
  | cons i l ih =>
    intro e
    simp only [pcs]
    split
    · have := ih e; simp; omega
    · have := ih (pieceEnd s i); simp; omega

theorem partGo_le (t : ByteArray) (n : Int) : ∀ f i, i ≤ t.size → i ≤ partGo t n f i ∧ partGo t n f i ≤ t.size ∧ partGo t n f i ≤ i + f := by
  intro f
  induction f with
  | zero => intro i h; exact ⟨Nat.le_refl _, h, Nat.le_refl _⟩
  | succ f ih =>
    intro i h
    unfold partGo
    split
    · rename_i hc
      have := ih (i + 1) (by omega)
      omega
    · exact ⟨Nat.le_refl _, h, by omega⟩
theorem partN_le (t : ByteArray) (h : 0 < t.size) : 1 ≤ partN t ∧ partN t ≤ t.size ∧ partN t ≤ 4 := by
  unfold partN
  split
  · rename_i hc
    have := partGo_le t (leadN (bt t 0)) 2 2 hc.1
    omega
  · omega
theorem pieceEnd_le (s : ByteArray) (i : Nat) (h : i < s.size) : i < pieceEnd s i ∧ pieceEnd s i ≤ s.size := by
  have hb := dec_bounds s i h
  have hx := extract_size s i
  have hp := partN_le (s.extract i s.size) (by omega)
  unfold pieceEnd
  split <;> omega

/-- the places themselves -/
def vals {s : ByteArray} (l : List (Pl s)) : List Nat := l.map (·.1)
theorem vals_snoc {s : ByteArray} (l : List (Pl s)) (x : Pl s) : vals (l ++ [x]) = vals l ++ [x.1] := by simp [vals]
theorem vals_length {s : ByteArray} (l : List (Pl s)) : (vals l).length = l.length := by simp [vals]

/-- what the iterator hands to the loop's body -/
abbrev pieceVals (s : ByteArray) (x : Pl s) : Array Value := #[.string (s.extract x.1 (pieceEnd s x.1)), .int .i32 ((Utf8.decode s x.1).1 : Nat)]
/-- the types of the boxes that must not be touched -/
abbrev notRune (t : TypeId) : Prop := t ≠ 21

theorem piecesIt_in (s : ByteArray) (w : World) :
    Calls Try.prog 21 #[.string s] w fun e w' => e = .returned (.func (.func 37) #[] #[.pointer (some ⟨w.heap.size, 0, none⟩)]) ∧ w' = w.alloc (.cells #[.string s] 9) := by
  go_enter Try.func21, Try.ntmps21
  go_wp2
  go_ret
  exact ⟨rfl, rfl⟩

set_option maxRecDepth 100000 in
set_option maxHeartbeats 2000000 in
theorem pieces1_in (s : ByteArray) (hs : s.size ≤ maxLen) (n l Bs : Nat) (hn : 3 ≤ n) (J Jx : List (Pl s) → World → Prop) (W : World)
    (hY : ∀ pre x W1, J pre W1 → pre.length < s.size → YieldAt Fence.wide (n - 1) Try.prog l (pieceVals s x) W1 fun e W' =>
      (e = .returned (.bool true) ∧ J (pre ++ [x]) W' ∧ Kp2 3 (fun k => k = Bs) notRune W.heap.size W1 W') ∨ (e = .returned (.bool false) ∧ Jx (pre ++ [x]) W' ∧ KeepsFrom W.heap.size W1 W'))
    (hJ : OwnFrom W.heap.size J) (hJx : OwnFrom W.heap.size Jx) (hJc : Calm2 W.heap.size 3 notRune J) (hBs : Boxed W Bs 9 (.string s)) (h0 : J [] W) :
    CallsIn Fence.wide n Try.prog 37 #[.func (.yield l) #[] #[], .pointer (some ⟨Bs, 0, none⟩)] W fun e W' => (∃ v, e = .returned v) ∧
      ((∃ xs : List (Pl s), vals xs = pieces s ∧ J xs W') ∨ (∃ pre : List (Pl s), vals pre <+: pieces s ∧ Jx pre W')) := by
  refine callsIn_of_wp_marks Try.func37 rfl trivial ?_ rfl
  simp only [Try.ntmps37, List.size_toArray, List.length_cons, List.length_nil, Nat.reduceAdd, Nat.reduceSub, Array.replicate_succ, Array.replicate_zero, List.push_toArray, List.append_toArray, List.nil_append, List.cons_append]
  have hn1 : 1 ≤ n := by omega
  have hn2 : 1 ≤ n - 1 - 1 := by omega
  have hc := hBs.cell
  have hc2 := ((hBs.alloc (Obj.cells #[Value.func (Fn.yield l) #[] #[]] 73)).alloc (Obj.cells #[Value.int .i64 0] 3)).cell
  have hF : ∀ f, Fence.wide.fn f := fun _ => trivial
  gi_wp2_with (gi_at_call 9; refine (callsIn_wide.2 (spots_in s _)).mono ?_; rintro e w' ⟨rfl, rfl⟩)
  obtain ⟨W0, hW0⟩ : ∃ W0, ((W.alloc (Obj.cells #[Value.func (Fn.yield l) #[] #[]] 73)).alloc (Obj.cells #[Value.int .i64 0] 3)).alloc (Obj.cells #[Value.string s] 9) = W0 := ⟨_, rfl⟩
  have by0 : Boxed W0 W.heap.size 73 (.func (.yield l) #[] #[]) := by rw [← hW0]; exact ((Boxed.new W _ _).alloc _).alloc _
  have be0 : Boxed W0 (W.heap.size + 1) 3 (.int .i64 0) := by rw [← hW0]; simpa using (Boxed.new (W.alloc (Obj.cells #[Value.func (Fn.yield l) #[] #[]] 73)) 3 (.int .i64 0)).alloc (Obj.cells #[Value.string s] 9)
  have bq0 : Boxed W0 (W.heap.size + 1 + 1) 9 (.string s) := by rw [← hW0]; simpa using Boxed.new ((W.alloc (Obj.cells #[Value.func (Fn.yield l) #[] #[]] 73)).alloc (Obj.cells #[Value.int .i64 0] 3)) 9 (.string s)
  have bs0 : Boxed W0 Bs 9 (.string s) := by rw [← hW0]; exact ((hBs.alloc _).alloc _).alloc _
  have hJ0 : J [] W0 := by rw [← hW0]; exact hJ.alloc _ (hJ.alloc _ (hJ.alloc _ h0))
  have hsz : W0.heap.size = W.heap.size + 3 := by rw [← hW0]; simp
  have hlt := hBs.lt
  rw [hW0]
  clear hW0 hc hc2
  refine wpIn_rangeFunc_ownH rfl (by omega) (gf := 27) (lb := #[.pointer (some ⟨W.heap.size + 1 + 1, 0, none⟩)]) rfl trivial (enters_of Try.func27 (by kernel_rfl) rfl)
    (spots_stops s hs _ (W.heap.size + 1 + 1) (by omega) W0 bq0) kpS_t kpS_b (Below.refl _ _) (fun _ => rfl)
    (fun pre V => (∃ qs : List (Pl s), vals qs = pcs s 0 (vals pre) ∧ J qs V) ∧ V.heap[W.heap.size]? = some (.cells #[.func (.yield l) #[] #[]] 73) ∧ Boxed V (W.heap.size + 1) 3 (.int .i64 (pcsEnd s 0 (vals pre) : Nat)) ∧ V.heap[Bs]? = some (.cells #[.string s] 9) ∧ W0.heap.size ≤ V.heap.size)
    (fun c pre V => c = .ret ∧ ∃ qs : List (Pl s), vals qs = pcs s 0 (vals pre) ∧ Jx qs V)
    (OwnFrom.and (fun st A B row hx hg hr => by
        obtain ⟨qs, e1, e2⟩ := hx
        exact ⟨qs, e1, OwnFrom.le hJ (by omega) qs A B row e2 hg hr⟩) ((own_block _ _ _ rfl).and (OwnFrom.and (Own.from (boxed_own _ _ _) _) ((own_block _ _ _ rfl).and (fun _ _ _ _ hs hg _ => Nat.le_trans hs hg.size)))))
    (fun c st A B row hx hg hr => by
        obtain ⟨hc, qs, e1, e2⟩ := hx
        exact ⟨hc, qs, e1, OwnFrom.le hJx (by omega) qs A B row e2 hg hr⟩)
    ⟨⟨[], rfl, hJ0⟩, by0, be0, bs0, Nat.le_refl _⟩
    (fun x a' V => ∃ Bx, V.heap[Bx]? = some (spotBlk s x.1) ∧ W.heap.size + 2 < Bx ∧ a' = { tmps := #[.func (.yield l) #[] #[], .pointer (some ⟨Bs, 0, none⟩), .pointer (some ⟨W.heap.size, 0, none⟩), .pointer (some ⟨W.heap.size + 1, 0, none⟩), .pointer (some ⟨Bx, 0, none⟩), .string s, .func (.func 27) #[] #[.pointer (some ⟨W.heap.size + 1 + 1, 0, none⟩)], spotOf s x.1, undef, undef, undef, undef, undef, undef, undef, undef, undef, undef, undef, undef, undef, undef, undef, undef, undef, undef, undef, undef, undef, undef, undef, undef, undef, undef, undef, undef, undef, undef], defers := [] })
    (fun x a' st A B row hx hg hr => by
        obtain ⟨Bx, h1, h2, h3⟩ := hx
        exact ⟨Bx, own_block (β := Unit) _ _ _ rfl () A B row h1 hg hr, h2, h3⟩) ?assign ?body ?done ?stop
  case assign =>
    rintro l2 pre x V K ⟨h1, h2, h3, h4, h5⟩ hK
    gi_wp2
    refine hK _ _ ((KeepsOthers.alloc _ _).from _) ⟨KeepsWalks.alloc _ _, fun h => h.alloc _⟩ ⟨?_, (Below.heap_alloc V _ _ (by omega)).trans h2, h3.alloc _, (Below.heap_alloc V _ _ (Array.getElem?_eq_some_iff.1 h4).1).trans h4, by simp; omega⟩ ⟨V.heap.size, heap_alloc_new V _, by omega, rfl⟩
    obtain ⟨qs, e1, e2⟩ := h1
    exact ⟨qs, e1, hJ.alloc _ e2⟩
  case body =>
    rintro l2 pre x a' V hl ⟨r, hr⟩ ⟨⟨qs, hq1, hq2⟩, h2, h3, h4, h5⟩ ⟨Bx, hx1, hx2, rfl⟩ hlen
    obtain ⟨c0, c1, c2, c3⟩ := spot_cells hx1
    have e0 := h3.cell
    have e1 := h3.frozen
    have y0 := (show Boxed V W.heap.size 73 (.func (.yield l) #[] #[]) from h2).cell
    have s0 := (show Boxed V Bs 9 (.string s) from h4).cell
    have hxlt := x.2
    have hb := dec_bounds s x.1 x.2
    generalize hE : pcsEnd s 0 (vals pre) = E at *
    have HE := hide hE
    clear hE
    unfold maxLen at hs
    have hpe := pieceEnd_le s x.1 x.2
    have hqlen : qs.length < s.size := by
      have h8 := congrArg List.length hq1
      have h9 := pcs_sublist s (vals pre) 0
      rw [vals_length] at h8 h9; omega
    have HQL : Hid (qs.length < s.size) := hqlen
    by_cases k1 : x.1 < E
    · gi_wp2
      refine ⟨KeepsFrom.refl _ _, ⟨KeepsWalks.refl _, fun h => h⟩, ⟨qs, ?_, hq2⟩, h2, ?_, h4, by omega⟩
      · rw [hq1, vals_snoc, pcs_append, unhide HE]; simp [pcs, k1]
      · rw [vals_snoc, pcsEnd_append, unhide HE]
        have e9 : pcsEnd s E [x.1] = E := by simp [pcsEnd, k1]
        rw [e9]; exact h3
    have uy := (show Boxed V W.heap.size 73 (.func (.yield l) #[] #[]) from h2)
    have us := (show Boxed V Bs 9 (.string s) from h4)
    by_cases hz : why s x.1 = 0
    · have hz' : (why s x.1 != 0) = false := by simp [hz]
      have hPE : pieceEnd s x.1 = x.1 + (Utf8.decode s x.1).2 := by unfold pieceEnd; rw [if_pos hz]
      generalize hPX : pieceEnd s x.1 = PE at *
      have HPX := hide hPX
      have HPE : Hid (((PE : Nat) : Int) = (x.1 : Int) + ((Utf8.decode s x.1).2 : Int)) := by show _ = _; omega
      clear hPX hPE hz
      gi_wp2
      have u3 := h3
      have ux := hx1
      have uj := hq2
      have uk := KeepsOthers.refl V
      have ub : ∀ {k t v}, Boxed V k t v → k ≠ W.heap.size + 1 → Boxed V k t v := fun h _ => h
      obtain ⟨V1, hV1⟩ : ∃ V1, V.setCell ⟨W.heap.size + 1, 0, none⟩ (.int .i64 ((x.1 : Int) + ((Utf8.decode s x.1).2 : Int))) = V1 := ⟨_, rfl⟩
      have ve : Boxed V1 (W.heap.size + 1) 3 (.int .i64 (PE : Nat)) := by rw [← hV1, unhide HPE]; exact u3.set _
      have vy : Boxed V1 W.heap.size 73 (.func (.yield l) #[] #[]) := by rw [← hV1]; exact uy.other (by omega) _
      have vs : Boxed V1 Bs 9 (.string s) := by rw [← hV1]; exact us.other (by omega) _
      have vx : V1.heap[Bx]? = some (spotBlk s x.1) := by rw [← hV1]; exact (Below.heap_setCell _ _ _ _ (by simp; omega)).trans ux
      have vj : J qs V1 := by rw [← hV1]; exact hJc qs _ _ _ _ _ (by omega) (by omega) (by decide) u3 uj
      have vk : KeepsOthers V V1 := by rw [← hV1]; exact uk.trans (KeepsOthers.setCell _ _ _)
      have vb : ∀ {k t v}, Boxed V k t v → k ≠ W.heap.size + 1 → Boxed V1 k t v := fun h hne => by rw [← hV1]; exact (ub h hne).other hne _
      rw [hV1]
      clear hV1
      obtain ⟨g0, g1, g2, g3⟩ := spot_cells vx
      have g4 := ve.cell
      have g5 := vy.cell
      have g6 := vs.cell
      refine Reads.wpIn_region_reads 8 (by kernel_rfl) (by kernel_rfl) (by kernel_rfl) ?_
      simp only [List.take_succ_cons, List.take_zero, List.drop_succ_cons, List.drop_zero]
      repeat (go_big_quiet_step (fail))
      refine wpQuiet_nil ?_
      intro _ hw'
      obtain ⟨nr, hw''⟩ := hw'
      subst hw''
      obtain ⟨fn, tmps, assign, body, hy, hR⟩ := yieldIn (m := n - 1 - 1 - 1) (lr := l2) (hY qs x (V1.drewN nr) (OwnFrom.le hJ (Nat.le_refl _) qs V1 _ none vj (grown_drewN _ _ _) (fun r e => by cases e)) HQL.out)
      dsimp only [pieceVals] at hy
      rw [unhide HPX] at hy
      gi_wp2
      refine hR.mono ?_
      rintro e V5 (⟨rfl, hJ5, hk5⟩ | ⟨rfl, hJx5, hk5⟩)
      · gi_wp2
        have hKF : KeepsFrom W.heap.size V V5 := (vk.from _).trans (KeepsFrom.trans (⟨Nat.le_refl _, fun _ _ _ h _ => h⟩ : KeepsFrom W.heap.size V1 (V1.drewN nr)) hk5.1)
        refine ⟨⟨hKF.size, fun k o hB => hKF.same k o (by omega)⟩, ⟨?_, fun hq => ?_⟩, ⟨qs ++ [x], ?_, hJ5⟩, ?_, ?_, ?_, ?_⟩
        · exact vk.walks.trans (KeepsWalks.trans (⟨Nat.le_refl _, fun _ _ h _ => h⟩ : KeepsWalks V1 (V1.drewN nr)) hk5.2.1)
        · exact hk5.2.2 _ _ _ (.inl ⟨by omega, by omega⟩) (by decide) (vb hq (by omega))
        · rw [vals_snoc, vals_snoc, hq1, pcs_append, unhide HE]; simp [pcs, k1]
        · exact hk5.2.2 _ _ _ (.inl ⟨by omega, by omega⟩) (by decide) vy
        · rw [vals_snoc, pcsEnd_append, unhide HE]
          have e9 : pcsEnd s E [x.1] = PE := by simp [pcsEnd, k1, unhide HPX]
          rw [e9]; exact hk5.2.2 _ _ _ (.inl ⟨by omega, by omega⟩) (by decide) ve
        · exact hk5.2.2 _ _ _ (.inr rfl) (by decide) vs
        · have := hKF.size; omega
      · gi_wp2
        have hKF : KeepsFrom W.heap.size V V5 := (vk.from _).trans (KeepsFrom.trans (⟨Nat.le_refl _, fun _ _ _ h _ => h⟩ : KeepsFrom W.heap.size V1 (V1.drewN nr)) hk5)
        refine ⟨⟨hKF.size, fun k o hB => hKF.same k o (by omega)⟩, rfl, qs ++ [x], ?_, hJx5⟩
        rw [vals_snoc, vals_snoc, hq1, pcs_append, unhide HE]; simp [pcs, k1]
    · have hz' : (why s x.1 != 0) = true := by simp [hz]
      have hPE : pieceEnd s x.1 = x.1 + partN (s.extract x.1 s.size) := by unfold pieceEnd; rw [if_neg hz]
      generalize hPX : pieceEnd s x.1 = PE at *
      have HPX := hide hPX
      have HPE : Hid (((PE : Nat) : Int) = (x.1 : Int) + ((partN (s.extract x.1 s.size) : Nat) : Int)) := by show _ = _; omega
      have hex := extract_size s x.1
      have HLP : Hid (∀ w, Calls Try.prog 38 #[.string (s.extract x.1 s.size)] w fun e w' => e = .returned (.int .i64 (partN (s.extract x.1 s.size) : Nat)) ∧ ∃ m, w' = w.drewN m) := fun w => longestPart_any _ w (by unfold maxLen; omega) (by omega)
      have hpn : x.1 + partN (s.extract x.1 s.size) ≤ s.size := by omega
      clear hPX hPE hz hex
      generalize hPN : partN (s.extract x.1 s.size) = PN at *
      clear hPN
      gi_wp2
      obtain ⟨V0, hV0⟩ : ∃ V0, V.setCell ⟨W.heap.size + 1, 0, none⟩ (.int .i64 ((x.1 : Int) + ((Utf8.decode s x.1).2 : Int))) = V0 := ⟨_, rfl⟩
      have t3 : Boxed V0 (W.heap.size + 1) 3 (.int .i64 ((x.1 : Int) + ((Utf8.decode s x.1).2 : Int))) := by rw [← hV0]; exact h3.set _
      have ty : Boxed V0 W.heap.size 73 (.func (.yield l) #[] #[]) := by rw [← hV0]; exact uy.other (by omega) _
      have ts : Boxed V0 Bs 9 (.string s) := by rw [← hV0]; exact us.other (by omega) _
      have tx : V0.heap[Bx]? = some (spotBlk s x.1) := by rw [← hV0]; exact (Below.heap_setCell _ _ _ _ (by simp; omega)).trans hx1
      have tj : J qs V0 := by rw [← hV0]; exact hJc qs _ _ _ _ _ (by omega) (by omega) (by decide) h3 hq2
      have tk : KeepsOthers V V0 := by rw [← hV0]; exact KeepsOthers.setCell _ _ _
      have tb : ∀ {k t v}, Boxed V k t v → k ≠ W.heap.size + 1 → Boxed V0 k t v := fun h hne => by rw [← hV0]; exact h.other hne _
      rw [hV0]
      clear hV0
      obtain ⟨f0, f1, f2, f3⟩ := spot_cells tx
      have f4 := t3.cell
      have f5 := t3.frozen
      have f6 := ts.cell
      refine Reads.wpIn_region_reads 8 (by kernel_rfl) (by kernel_rfl) (by kernel_rfl) ?_
      simp only [List.take_succ_cons, List.take_zero, List.drop_succ_cons, List.drop_zero]
      repeat (go_big_quiet_step ((go_at_call 38; exact Calls.quiet_of (HLP.out _))))
      refine wpQuiet_nil ?_
      intro _ hw'
      obtain ⟨nq, hw''⟩ := hw'
      subst hw''
      gi_wp2
      obtain ⟨U, hU⟩ : ∃ U, V0.drewN nq = U := ⟨_, rfl⟩
      have u3 : Boxed U (W.heap.size + 1) 3 (.int .i64 ((x.1 : Int) + ((Utf8.decode s x.1).2 : Int))) := by rw [← hU]; exact t3
      have uy : Boxed U W.heap.size 73 (.func (.yield l) #[] #[]) := by rw [← hU]; exact ty
      have us : Boxed U Bs 9 (.string s) := by rw [← hU]; exact ts
      have ux : U.heap[Bx]? = some (spotBlk s x.1) := by rw [← hU]; exact tx
      have uj : J qs U := by rw [← hU]; exact hJ qs _ _ none tj (grown_drewN _ _ _) (fun r e => by cases e)
      have uk : KeepsOthers V U := by rw [← hU]; exact tk.trans ⟨Nat.le_refl _, fun _ _ h _ => h⟩
      have ub : ∀ {k t v}, Boxed V k t v → k ≠ W.heap.size + 1 → Boxed U k t v := fun h hne => by rw [← hU]; exact tb h hne
      rw [hU]
      clear hU t3 ty ts tx tj tk tb f0 f1 f2 f3 f4 f5 f6
      obtain ⟨V1, hV1⟩ : ∃ V1, U.setCell ⟨W.heap.size + 1, 0, none⟩ (.int .i64 ((x.1 : Int) + ((PN : Nat) : Int))) = V1 := ⟨_, rfl⟩
      have ve : Boxed V1 (W.heap.size + 1) 3 (.int .i64 (PE : Nat)) := by rw [← hV1, unhide HPE]; exact u3.set _
      have vy : Boxed V1 W.heap.size 73 (.func (.yield l) #[] #[]) := by rw [← hV1]; exact uy.other (by omega) _
      have vs : Boxed V1 Bs 9 (.string s) := by rw [← hV1]; exact us.other (by omega) _
      have vx : V1.heap[Bx]? = some (spotBlk s x.1) := by rw [← hV1]; exact (Below.heap_setCell _ _ _ _ (by simp; omega)).trans ux
      have vj : J qs V1 := by rw [← hV1]; exact hJc qs _ _ _ _ _ (by omega) (by omega) (by decide) u3 uj
      have vk : KeepsOthers V V1 := by rw [← hV1]; exact uk.trans (KeepsOthers.setCell _ _ _)
      have vb : ∀ {k t v}, Boxed V k t v → k ≠ W.heap.size + 1 → Boxed V1 k t v := fun h hne => by rw [← hV1]; exact (ub h hne).other hne _
      rw [hV1]
      clear hV1
      obtain ⟨g0, g1, g2, g3⟩ := spot_cells vx
      have g4 := ve.cell
      have g5 := vy.cell
      have g6 := vs.cell
      refine Reads.wpIn_region_reads 8 (by kernel_rfl) (by kernel_rfl) (by kernel_rfl) ?_
      simp only [List.take_succ_cons, List.take_zero, List.drop_succ_cons, List.drop_zero]
      repeat (go_big_quiet_step (fail))
      refine wpQuiet_nil ?_
      intro _ hw'
      obtain ⟨nr, hw''⟩ := hw'
      subst hw''
      obtain ⟨fn, tmps, assign, body, hy, hR⟩ := yieldIn (m := n - 1 - 1 - 1) (lr := l2) (hY qs x (V1.drewN nr) (OwnFrom.le hJ (Nat.le_refl _) qs V1 _ none vj (grown_drewN _ _ _) (fun r e => by cases e)) HQL.out)
      dsimp only [pieceVals] at hy
      rw [unhide HPX] at hy
      gi_wp2
      refine hR.mono ?_
      rintro e V5 (⟨rfl, hJ5, hk5⟩ | ⟨rfl, hJx5, hk5⟩)
      · gi_wp2
        have hKF : KeepsFrom W.heap.size V V5 := (vk.from _).trans (KeepsFrom.trans (⟨Nat.le_refl _, fun _ _ _ h _ => h⟩ : KeepsFrom W.heap.size V1 (V1.drewN nr)) hk5.1)
        refine ⟨⟨hKF.size, fun k o hB => hKF.same k o (by omega)⟩, ⟨?_, fun hq => ?_⟩, ⟨qs ++ [x], ?_, hJ5⟩, ?_, ?_, ?_, ?_⟩
        · exact vk.walks.trans (KeepsWalks.trans (⟨Nat.le_refl _, fun _ _ h _ => h⟩ : KeepsWalks V1 (V1.drewN nr)) hk5.2.1)
        · exact hk5.2.2 _ _ _ (.inl ⟨by omega, by omega⟩) (by decide) (vb hq (by omega))
        · rw [vals_snoc, vals_snoc, hq1, pcs_append, unhide HE]; simp [pcs, k1]
        · exact hk5.2.2 _ _ _ (.inl ⟨by omega, by omega⟩) (by decide) vy
        · rw [vals_snoc, pcsEnd_append, unhide HE]
          have e9 : pcsEnd s E [x.1] = PE := by simp [pcsEnd, k1, unhide HPX]
          rw [e9]; exact hk5.2.2 _ _ _ (.inl ⟨by omega, by omega⟩) (by decide) ve
        · exact hk5.2.2 _ _ _ (.inr rfl) (by decide) vs
        · have := hKF.size; omega
      · gi_wp2
        have hKF : KeepsFrom W.heap.size V V5 := (vk.from _).trans (KeepsFrom.trans (⟨Nat.le_refl _, fun _ _ _ h _ => h⟩ : KeepsFrom W.heap.size V1 (V1.drewN nr)) hk5)
        refine ⟨⟨hKF.size, fun k o hB => hKF.same k o (by omega)⟩, rfl, qs ++ [x], ?_, hJx5⟩
        rw [vals_snoc, vals_snoc, hq1, pcs_append, unhide HE]; simp [pcs, k1]
  case done =>
    rintro D ys V hD hS ⟨⟨qs, hq1, hq2⟩, h2, h3, h4, h5⟩ hK
    gi_wp2
    refine ⟨by simp, .inl ⟨_, _, rfl, run_takeDeferred hK, ?_⟩⟩
    refine ⟨_, results_none rfl _ _ _, ⟨_, rfl⟩, .inl ⟨qs, ?_, ?_⟩⟩
    · rw [hq1, show vals ys = places s from hS]; rfl
    · exact hJ qs V _ (some D) hq2 (grownBy_putObj' V D _) (fun r e => by cases e; exact ⟨by omega, _, hK, rfl⟩)
  case stop =>
    rintro D c pre V hD hSp ⟨rfl, qs, hq1, hq2⟩ hK
    gi_wp2
    refine ⟨by simp, .inl ⟨_, _, rfl, run_takeDeferred hK, ?_⟩⟩
    refine ⟨_, results_none rfl _ _ _, ⟨_, rfl⟩, .inr ⟨qs, ?_, ?_⟩⟩
    · rw [hq1]; exact pcs_prefix s _ _ hSp
    · exact hJx qs V _ (some D) hq2 (grownBy_putObj' V D _) (fun r e => by cases e; exact ⟨by omega, _, hK, rfl⟩)

theorem pieces_gives (s : ByteArray) (hs : s.size ≤ maxLen) (n Bs : Nat) (hn : 3 ≤ n) (w : World) (hBs : Boxed w Bs 9 (.string s)) :
    Gives2 n Try.prog 37 #[.pointer (some ⟨Bs, 0, none⟩)] (pieceVals s) 3 (fun k => k = Bs) notRune (fun xs => vals xs = pieces s) (fun pre => vals pre <+: pieces s) s.size w :=
  fun l J Jx W hW hJ hJx hJc hY h0 => pieces1_in s hs n l Bs hn J Jx W hY hJ hJx hJc ((hW.block Bs hBs.lt).trans hBs) h0

end Go.Proofs.Ytjkchpjopgpeeaa
