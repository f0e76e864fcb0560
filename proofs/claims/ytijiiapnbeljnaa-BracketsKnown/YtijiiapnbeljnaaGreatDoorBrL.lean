/-
  lined of package brackets: an iterator that tells the rows of a text's lines.
-/
import Derived.Test.YtijiiapnbeljnaaGreatDoorBrS
namespace Go.Proofs.YtijiiapnbeljnaaGreatDoor
open Go.RowKit Go.PlainAid Go.Lib Go.Shelf Go.Seq4
open Go.Seq3 (range3G)
attribute [local go_sem] Oper.semAt_some
set_option linter.unusedVariables false
set_option linter.unusedSimpArgs false

/-- what a line tells -/
def itemX (s : ByteArray) (x : Nat × Nat × Nat) : Option ItD :=
  if (scanS x.1 (s.extract x.2.1 x.2.2)).2 = 0 then
    (if (scanS x.1 (s.extract x.2.1 x.2.2)).1.kind = 0 ∨ (scanS x.1 (s.extract x.2.1 x.2.2)).1.kind = 3 then none
     else some ⟨(x.1 : Nat), (scanB (scanS x.1 (s.extract x.2.1 x.2.2)).1).1, (scanB (scanS x.1 (s.extract x.2.1 x.2.2)).1).2⟩)
  else some ⟨(x.1 : Nat), zeroB, (scanS x.1 (s.extract x.2.1 x.2.2)).2⟩
def linedL (s : ByteArray) : List ItD := (linesL s).filterMap (itemX s)
theorem lined_front {s : ByteArray} {pre : List (Nat × Nat × Nat)} (h : pre <+: linesL s) : pre.filterMap (itemX s) <+: linedL s := by
  obtain ⟨r, hr⟩ := h
  exact ⟨r.filterMap (itemX s), by rw [← List.filterMap_append, hr]; rfl⟩
theorem lined_some {s : ByteArray} {pre : List (Nat × Nat × Nat)} {x : Nat × Nat × Nat} {t : ItD} (h : itemX s x = some t) : (pre ++ [x]).filterMap (itemX s) = pre.filterMap (itemX s) ++ [t] := by
  simp [List.filterMap_append, h]
theorem lined_none {s : ByteArray} {pre : List (Nat × Nat × Nat)} {x : Nat × Nat × Nat} (h : itemX s x = none) : (pre ++ [x]).filterMap (itemX s) = pre.filterMap (itemX s) := by
  simp [List.filterMap_append, h]
theorem zero_ok : BrOk zeroB := ⟨⟨by decide, by decide⟩, ⟨by decide, by decide⟩, ⟨by decide, by decide⟩⟩
theorem lined_ok (s : ByteArray) : ∀ t ∈ linedL s, BrOk t.row := by
  intro t ht
  obtain ⟨x, _, hx⟩ := List.mem_filterMap.1 ht
  unfold itemX at hx
  split at hx
  · split at hx
    · cases hx
    · cases hx; exact scanB_ok _
  · cases hx
    exact zero_ok
theorem below_grown8 {w w' : World} (h : Below w.heap.size w w') (row : Option Nat) : w.grownBy w' row := ⟨h.os, h.tape, h.output, h.size, fun k hk _ => h.block k hk⟩
theorem own_below {β : Type} {B : Nat} {J : β → World → Prop} (hJ : OwnFrom B J) {s : β} {V V' : World} (h : J s V) (hb : Below V.heap.size V V') : J s V' := hJ s V V' none h (below_grown8 hb none) (fun r e => by cases e)
theorem texts_below {w w' : World} {base : Nat} {v : Value} {l : List (List UInt8)} (h : TextsAt w base v l) (hb : Below w.heap.size w w') : TextsAt w' base v l := row_keptB h fun g cur hh _ _ => hb.block g (Array.getElem?_eq_some_iff.1 hh).1

theorem blk_same {w : World} {b j : Nat} {l : List Value} {T : TypeId} {v : Value} (h : Blk w b l T) (hv : l[j]? = some v) : w.setCell ⟨b, j, none⟩ v = w := by
  have h' : w.heap[b]? = some (.cells l.toArray T (0, 0)) := h
  rw [setCell_eq_setRow w b j _ _ _ v h']
  have e : l.toArray.setIfInBounds j v = l.toArray := by
    apply Array.ext_getElem?
    intro i
    rw [Array.getElem?_setIfInBounds]
    split
    · rename_i e; subst e
      split
      · simpa using hv.symm
      · rename_i hn
        have := (List.getElem?_eq_some_iff.1 hv).1
        simp at hn; omega
    · rfl
  rw [e]
  exact setRow_self w b _ _ _ h'
theorem laid3 {V w1 W3 : World} {xn : Nat} {dno dkind : Int} {dname dnote : List UInt8} {v : Value} (hb1 : Below V.heap.size V w1) (hW3 : (w1.alloc (.cells #[.int .i64 dno, .int .u8 dkind, .string (S dname), v, .string (S dnote)] 100)).alloc (.cells #[.int .i64 (xn : Nat), .int .i32 0, .int .i32 0, .int .u8 0] 124) = W3) :
    Below V.heap.size V W3 ∧ V.heap.size + 2 ≤ W3.heap.size ∧ Blk W3 w1.heap.size [.int .i64 dno, .int .u8 dkind, .string (S dname), v, .string (S dnote)] 100 ∧ Blk W3 (w1.heap.size + 1) [.int .i64 (xn : Nat), .int .i32 0, .int .i32 0, .int .u8 0] 124 := by
  rw [← hW3]
  refine ⟨(hb1.alloc hb1.size _).alloc (by have := hb1.size; simp; omega) _, by have := hb1.size; simp; omega, (Blk.new w1 [.int .i64 dno, .int .u8 dkind, .string (S dname), v, .string (S dnote)] _).alloc _, ?_⟩
  simpa using Blk.new (w1.alloc (.cells #[.int .i64 dno, .int .u8 dkind, .string (S dname), v, .string (S dnote)] 100)) [.int .i64 (xn : Nat), .int .i32 0, .int .i32 0, .int .u8 0] 124
theorem laid3b {w1 W3 : World} {o1 o2 : Obj} (hW3 : (w1.alloc o1).alloc o2 = W3) : Below w1.heap.size w1 W3 := by
  rw [← hW3]; exact ((Below.refl _ w1).alloc (Nat.le_refl _) _).alloc (by simp) _
theorem laid5 {V W3 w4 W5 : World} {nb xn : Nat} {ya yo yd : Int} (hb3 : Below V.heap.size V W3) (hb4 : Below W3.heap.size W3 w4) (bM : Blk w4 nb [.int .i64 (xn : Nat), .int .i32 0, .int .i32 0, .int .u8 0] 124) (hs3 : V.heap.size + 2 ≤ W3.heap.size)
    (hW5 : ((w4.setCell ⟨nb, 1, none⟩ (.int .i32 ya)).setCell ⟨nb, 2, none⟩ (.int .i32 yo)).setCell ⟨nb, 3, none⟩ (.int .u8 yd) = W5) (hnb : V.heap.size ≤ nb) :
    Below V.heap.size V W5 ∧ Blk W5 nb [.int .i64 (xn : Nat), .int .i32 ya, .int .i32 yo, .int .u8 yd] 124 ∧ V.heap.size + 2 ≤ W5.heap.size := by
  have hb := hb3.trans (hb4.mono hb3.size)
  rw [← hW5]
  refine ⟨((hb.setCell (by exact hnb) _).setCell (by exact hnb) _).setCell (by exact hnb) _, ?_, by have := hb4.size; simp; omega⟩
  exact ((bM.set (l' := [.int .i64 (xn : Nat), .int .i32 ya, .int .i32 0, .int .u8 0]) 1 _ rfl).set (l' := [.int .i64 (xn : Nat), .int .i32 ya, .int .i32 yo, .int .u8 0]) 2 _ rfl).set 3 _ rfl
/-- what a round keeps of the loop over the lines -/
abbrev KpB8 (W W0 V X : World) : Prop := Seq2.KpB 2 (fun k => k = W.heap.size + 1) eachT (W0.heap.size + 2) V X
set_option maxRecDepth 100000 in
set_option maxHeartbeats 4000000 in
theorem lined1_in (s : ByteArray) (hs : s.size ≤ 1073741824) (n l Bs : Nat) (hn : 8 ≤ n) (J Jx : List ItD → World → Prop) (W : World)
    (hY : ∀ pre x W1, J pre W1 → (pre ++ [x]) <+: linedL s → W.heap.size + 6 ≤ W1.heap.size → YieldAt Fence.wide (n - 1) Tryz.prog l (itE x) W1 fun e W' =>
      (e = .returned (.bool true) ∧ J (pre ++ [x]) W' ∧ Kp4 6 (fun _ => False) W.heap.size W1 W') ∨ (e = .returned (.bool false) ∧ Jx (pre ++ [x]) W' ∧ KeepsFrom W.heap.size W1 W'))
    (hJ : OwnFrom W.heap.size J) (hJx : OwnFrom W.heap.size Jx) (hBs : Boxed W Bs 9 (.string s)) (h0 : J [] W) :
    CallsIn Fence.wide n Tryz.prog 67 #[.func (.yield l) #[] #[], .pointer (some ⟨Bs, 0, none⟩)] W fun e W' => (∃ v, e = .returned v) ∧
      ((∃ xs, xs = linedL s ∧ J xs W') ∨ (∃ pre, pre <+: linedL s ∧ Jx pre W')) := by
  refine callsIn_of_wp_marks Tryz.func67 rfl trivial ?_ rfl
  simp only [Tryz.ntmps67, List.size_toArray, List.length_cons, List.length_nil, Nat.reduceAdd, Nat.reduceSub, Array.replicate_succ, Array.replicate_zero, List.push_toArray, List.append_toArray, List.nil_append, List.cons_append]
  have hn1 : 1 ≤ n := by omega
  have hn2 : 1 ≤ n - 1 - 1 := by omega
  have hc2 := (hBs.alloc (Obj.cells #[Value.func (Fn.yield l) #[] #[]] 127)).cell
  have hF : ∀ f, Fence.wide.fn f := fun _ => trivial
  have HYY := hide hY
  clear hY
  gi_wp2_with (gi_at_call 68; refine (callsIn_wide.2 (each_in s _)).mono ?_; rintro e w' ⟨rfl, rfl⟩)
  obtain ⟨W0, hW0⟩ : ∃ W0, (W.alloc (Obj.cells #[Value.func (Fn.yield l) #[] #[]] 127)).alloc (Obj.cells #[Value.string s] 9) = W0 := ⟨_, rfl⟩
  have by0 : Boxed W0 W.heap.size 127 (.func (.yield l) #[] #[]) := by rw [← hW0]; exact (Boxed.new W _ _).alloc _
  have bq0 : Boxed W0 (W.heap.size + 1) 9 (.string s) := by rw [← hW0]; simpa using Boxed.new (W.alloc (Obj.cells #[Value.func (Fn.yield l) #[] #[]] 127)) 9 (.string s)
  have hJ0 : J [] W0 := by rw [← hW0]; exact hJ.alloc _ (hJ.alloc _ h0)
  have hsz : W0.heap.size = W.heap.size + 2 := by rw [← hW0]; simp
  rw [hW0]
  clear hW0 hc2
  refine range3G (by omega) (gf := 93) (lb := #[.pointer (some ⟨W.heap.size + 1, 0, none⟩)]) rfl (enters_of Tryz.func93 (by kernel_rfl) rfl)
    (each_gives s (by omega) _ (W.heap.size + 1) (by omega) W0 bq0) (Below.refl _ _) (fun _ => rfl)
    (fun pre V => J (pre.filterMap (itemX s)) V ∧ V.heap[W.heap.size]? = some (.cells #[.func (.yield l) #[] #[]] 127 (0, 0)) ∧ W0.heap.size ≤ V.heap.size)
    (fun c pre V => c = .ret ∧ ∃ qs, qs <+: linedL s ∧ Jx qs V)
    (OwnFrom.and (fun st A B row hx hg hr => Seq4.OwnFrom.le hJ (by omega) _ A B row hx hg hr) ((own_block _ _ _ rfl).and (fun _ _ _ _ hs hg _ => Nat.le_trans hs hg.size)))
    (fun c st A B row hx hg hr => by
        obtain ⟨hc, qs, e1, e2⟩ := hx
        exact ⟨hc, qs, e1, Seq4.OwnFrom.le hJx (by omega) qs A B row e2 hg hr⟩)
    ⟨hJ0, by0, Nat.le_refl _⟩ ?fr ?assign ?body ?done ?stop
  case assign =>
    intro l2 x V K hK
    gi_wp2
    exact hK
  case body =>
    rintro l2 pre x V hl hsz2 ⟨r, hr⟩ ⟨h1, h2, h3⟩ hSp
    have hfr := lined_front hSp
    obtain ⟨xn, xf, xt⟩ := x
    have hLs : (s.extract xf xt).size ≤ s.size := by rw [ByteArray.size_extract]; omega
    have HSC := hide (scan_any (xn : Nat) (s.extract xf xt) V (by omega))
    have hfl : ∀ f ∈ (scanS (xn : Nat) (s.extract xf xt)).1.fields, f.length ≤ 1073741824 := fun f hf => Nat.le_trans (scan_field_le8 hf) (by omega)
    have hIT : itemX s (xn, xf, xt) = if (scanS (xn : Nat) (s.extract xf xt)).2 = 0 then (if (scanS (xn : Nat) (s.extract xf xt)).1.kind = 0 ∨ (scanS (xn : Nat) (s.extract xf xt)).1.kind = 3 then none else some ⟨(xn : Nat), (scanB (scanS (xn : Nat) (s.extract xf xt)).1).1, (scanB (scanS (xn : Nat) (s.extract xf xt)).1).2⟩) else some ⟨(xn : Nat), zeroB, (scanS (xn : Nat) (s.extract xf xt)).2⟩ := rfl
    generalize scanS (xn : Nat) (s.extract xf xt) = sc at *
    obtain ⟨⟨dno, dkind, dname, dfields, dnote⟩, dwhy⟩ := sc
    simp only at HSC hfl hIT
    have HFL := hide hfl
    have lyb : W.heap.size < V.heap.size := by omega
    have YB : Hid (∀ X, Below V.heap.size V X → X.heap[W.heap.size]? = some (.cells #[.func (.yield l) #[] #[]] 127 (0, 0)) ∧ J (pre.filterMap (itemX s)) X) := fun X hb => ⟨(hb.block _ lyb).trans h2, own_below hJ h1 hb⟩
    -- what is to be shown behind the loop's body has been asked
    have FIN : Hid (∀ (t : ItD) X e X', itemX s (xn, xf, xt) = some t → Below V.heap.size V X → ((e = Ending.returned (.bool true) ∧ J (pre.filterMap (itemX s) ++ [t]) X' ∧ Kp4 6 (fun _ => False) W.heap.size X X') → KeepsFrom W0.heap.size V X' ∧ KpB8 W W0 V X' ∧ J ((pre ++ [(xn, xf, xt)]).filterMap (itemX s)) X' ∧ X'.heap[W.heap.size]? = some (.cells #[.func (.yield l) #[] #[]] 127 (0, 0)) ∧ W0.heap.size ≤ X'.heap.size) ∧
        ((e = Ending.returned (.bool false) ∧ Jx (pre.filterMap (itemX s) ++ [t]) X' ∧ KeepsFrom W.heap.size X X') → KeepsFrom W0.heap.size V X' ∧ ∃ qs, qs <+: linedL s ∧ Jx qs X')) := fun t X e X' ht hb => by
      have hyb := (unhide YB X hb).1
      refine ⟨fun ⟨_, hj, hk⟩ => ⟨?_, ?_, by rw [lined_some ht]; exact hj, hk.2.2 _ _ (.inl ⟨Nat.le_refl _, by omega⟩) rfl hyb, by have := hb.size; have := hk.1.size; omega⟩, fun ⟨_, hj, hk⟩ => ⟨?_, _, by rw [← lined_some ht]; exact hfr, hj⟩⟩
      · exact ⟨Nat.le_trans hb.size hk.1.size, fun k o hk' ho hc => hk.1.same k o (by omega) ((hb.block k (Array.getElem?_eq_some_iff.1 ho).1).trans ho) hc⟩
      · refine ⟨⟨Nat.le_trans hb.size hk.1.size⟩, fun k tt v hk' _ hbx => ?_⟩
        exact hk.2.2 k _ (.inl (by omega)) rfl ((hb.block k hbx.lt).trans hbx)
      · exact ⟨Nat.le_trans hb.size hk.size, fun k o hk' ho hc => hk.same k o (by omega) ((hb.block k (Array.getElem?_eq_some_iff.1 ho).1).trans ho) hc⟩
    have hq3 : ∀ t X, itemX s (xn, xf, xt) = some t → Below V.heap.size V X → V.heap.size + 2 ≤ X.heap.size → YieldAt (Fence.wide.inRound l2) (n - 1 - 1 - 1) Tryz.prog l (itE t) X fun e W' =>
        (e = .returned (.bool true) ∧ J (pre.filterMap (itemX s) ++ [t]) W' ∧ Kp4 6 (fun _ => False) W.heap.size X W') ∨ (e = .returned (.bool false) ∧ Jx (pre.filterMap (itemX s) ++ [t]) W' ∧ KeepsFrom W.heap.size X W') := fun t X ht hb hsz3 =>
      Seq4.yieldIn (unhide HYY (pre.filterMap (itemX s)) t X (unhide YB X hb).2 (by rw [← lined_some ht]; exact hfr) (by omega))
    have HQ3 := hide hq3
    clear hq3
    have HIT := hide hIT
    have H1 := hide h1
    clear hIT hfl h1
    by_cases hw : dwhy = 0
    · by_cases hk : dkind = 0 ∨ dkind = 3
      · have hno : itemX s (xn, xf, xt) = none := by rw [unhide HIT, if_pos hw, if_pos hk]
        have END : Hid (∀ X, Below V.heap.size V X → KeepsFrom W0.heap.size V X ∧ KpB8 W W0 V X ∧ J ((pre ++ [(xn, xf, xt)]).filterMap (itemX s)) X ∧ X.heap[W.heap.size]? = some (.cells #[.func (.yield l) #[] #[]] 127 (0, 0)) ∧ W0.heap.size ≤ X.heap.size) := fun X hb =>
          ⟨⟨hb.size, fun k o _ ho _ => (hb.block k (Array.getElem?_eq_some_iff.1 ho).1).trans ho⟩, ⟨⟨hb.size⟩, fun k tt v _ _ hbx => (hb.block k hbx.lt).trans hbx⟩, by rw [lined_none hno]; exact (unhide YB X hb).2, (unhide YB X hb).1, by have := hb.size; omega⟩
        subst hw
        clear hno hfr HQ3 FIN HYY
        rcases hk with hk | hk
        · subst hk
          gi_wp2_with (gi_at_call 69; with_reducible refine CallsIn.mono (CallsIn.inRound _ (callsIn_wide.2 (unhide HSC))) ?_; rintro e w1 ⟨v, rfl, htx, hb1⟩; obtain ⟨va, vc, rfl⟩ := texts_len htx)
          exact unhide END _ (hb1.alloc hb1.size _)
        · subst hk
          gi_wp2_with (gi_at_call 69; with_reducible refine CallsIn.mono (CallsIn.inRound _ (callsIn_wide.2 (unhide HSC))) ?_; rintro e w1 ⟨v, rfl, htx, hb1⟩; obtain ⟨va, vc, rfl⟩ := texts_len htx)
          exact unhide END _ (hb1.alloc hb1.size _)
      · have hk0 : ¬ dkind = 0 := fun e => hk (.inl e)
        have hk3 : ¬ dkind = 3 := fun e => hk (.inr e)
        obtain ⟨by_, hby⟩ : ∃ y, scanB ⟨dno, dkind, dname, dfields, dnote⟩ = y := ⟨_, rfl⟩
        have hit : itemX s (xn, xf, xt) = some ⟨(xn : Nat), by_.1, by_.2⟩ := by rw [unhide HIT, if_pos hw, if_neg hk, hby]
        have HI := hide hit
        have HS8 : Hid (∀ W3 v, TextsAt W3 V.heap.size v dfields → Calls Tryz.prog 70 #[lineV ⟨dno, dkind, dname, dfields, dnote⟩ v] W3 fun e w' => e = .returned (.tuple #[brV by_.1, .int .i64 by_.2]) ∧ Below W3.heap.size W3 w') := fun W3 v h => by
          have := scan8_any ⟨dno, dkind, dname, dfields, dnote⟩ v V.heap.size W3 h (unhide HFL)
          rw [hby] at this
          exact this
        obtain ⟨⟨ya, yo, yd⟩, yw⟩ := by_
        simp only at HI HS8
        have dk0 : (dkind == 0) = false := by simpa using hk0
        have dk3 : (dkind == 3) = false := by simpa using hk3
        subst hw
        clear hit hfr hk hk0 hk3 hby
        gi_wp2_with (first | (gi_at_call 69; with_reducible refine CallsIn.mono (CallsIn.inRound _ (callsIn_wide.2 (unhide HSC))) ?_; rintro e w1 ⟨v, rfl, htx, hb1⟩; obtain ⟨va, vc, rfl⟩ := texts_len htx; obtain ⟨W3, hW3⟩ : (∃ W3, (w1.alloc (.cells #[.int .i64 dno, .int .u8 dkind, .string (S dname), .slice va dfields.length vc, .string (S dnote)] 100)).alloc (.cells #[.int .i64 (xn : Nat), .int .i32 0, .int .i32 0, .int .u8 0] 124) = W3) := ⟨_, rfl⟩; obtain ⟨hb3, hs3, bL, bN⟩ := laid3 hb1 hW3; have HTX := hide (texts_below htx (laid3b hW3)); clear htx; have n0 := bN.cell (j := 0) rfl; have n1 := bN.cell (j := 1) rfl; have n2 := bN.cell (j := 2) rfl; have n3 := bN.cell (j := 3) rfl; have g0 := bN.frozen 0; have g1 := bN.frozen 1; have g2 := bN.frozen 2; have g3 := bN.frozen 3; have m1 := blk_same (j := 1) bN rfl; have m2 := blk_same (j := 2) bN rfl; have m3 := blk_same (j := 3) bN rfl; have i0 := bL.cell (j := 0) rfl; have i1 := bL.cell (j := 1) rfl; have i2 := bL.cell (j := 2) rfl; have i3 := bL.cell (j := 3) rfl; have i4 := bL.cell (j := 4) rfl; have HB3 := hide hb3; have HBN := hide bN; have hb1s := hb1.size; clear hb3 bL bN hb1) | (gi_at_call 70; with_reducible refine CallsIn.mono (CallsIn.inRound _ (callsIn_wide.2 (unhide HS8 _ _ (unhide HTX)))) ?_; rintro e w4 ⟨rfl, hb4⟩; have bM := (unhide HBN).below hb4; have q1 := bM.cell (j := 1) rfl; have q2 := bM.cell (j := 2) rfl; have q3 := bM.cell (j := 3) rfl; have p1 := bM.frozen 1; have p2 := bM.frozen 2; have p3 := bM.frozen 3; obtain ⟨W5, hW5⟩ : (∃ W5, ((w4.setCell ⟨w1.heap.size + 1, 1, none⟩ (.int .i32 ya)).setCell ⟨w1.heap.size + 1, 2, none⟩ (.int .i32 yo)).setCell ⟨w1.heap.size + 1, 3, none⟩ (.int .u8 yd) = W5) := ⟨_, rfl⟩; obtain ⟨hb5, bP, hs5⟩ := laid5 (unhide HB3) hb4 bM hs3 hW5 (by have := hb1s; omega); have yb := (unhide YB W5 hb5).1; have cy : W5.cell? ⟨W.heap.size, 0, none⟩ = some (.func (.yield l) #[] #[]) := (by simp [World.cell?, yb]); have r0 := bP.cell (j := 0) rfl; have r1 := bP.cell (j := 1) rfl; have r2 := bP.cell (j := 2) rfl; have r3 := bP.cell (j := 3) rfl; have hYA := unhide HQ3 ⟨(xn : Nat), ⟨ya, yo, yd⟩, yw⟩ W5 (unhide HI) hb5 hs5; unfold YieldAt at hYA; obtain ⟨fn, tmps, assign, body, hy, hR⟩ := hYA; dsimp only [itE] at hy; have HB5 := hide hb5; clear hb5 bP bM yb hb4))
        refine hR.mono ?_
        rintro e X' hX'
        have HFI := hide (unhide FIN _ W5 e X' (unhide HI) (unhide HB5))
        rcases hX' with ⟨rfl, hj, hk⟩ | ⟨rfl, hj, hk⟩
        · gi_wp2
          exact (unhide HFI).1 ⟨trivial, hj, hk⟩
        · gi_wp2
          obtain ⟨q1, q2⟩ := (unhide HFI).2 ⟨trivial, hj, hk⟩
          exact ⟨q1, rfl, q2⟩
    · have hit : itemX s (xn, xf, xt) = some ⟨(xn : Nat), zeroB, dwhy⟩ := by rw [unhide HIT, if_neg hw]
      have HI := hide hit
      have dw : (dwhy == 0) = false := by simpa using hw
      have dw2 : (dwhy != 0) = true := by simpa using hw
      clear hit hfr hw
      gi_wp2_with (gi_at_call 69; with_reducible refine CallsIn.mono (CallsIn.inRound _ (callsIn_wide.2 (unhide HSC))) ?_; rintro e w1 ⟨v, rfl, htx, hb1⟩; obtain ⟨va, vc, rfl⟩ := texts_len htx; clear htx; obtain ⟨W3, hW3⟩ : (∃ W3, (w1.alloc (.cells #[.int .i64 dno, .int .u8 dkind, .string (S dname), .slice va dfields.length vc, .string (S dnote)] 100)).alloc (.cells #[.int .i64 (xn : Nat), .int .i32 0, .int .i32 0, .int .u8 0] 124) = W3) := ⟨_, rfl⟩; obtain ⟨hb3, hs3, bL, bN⟩ := laid3 hb1 hW3; have yb := (unhide YB W3 hb3).1; have cy : W3.cell? ⟨W.heap.size, 0, none⟩ = some (.func (.yield l) #[] #[]) := (by simp [World.cell?, yb]); have n0 := bN.cell (j := 0) rfl; have n1 := bN.cell (j := 1) rfl; have n2 := bN.cell (j := 2) rfl; have n3 := bN.cell (j := 3) rfl; have g0 := bN.frozen 0; have g1 := bN.frozen 1; have g2 := bN.frozen 2; have g3 := bN.frozen 3; have m1 := blk_same (j := 1) bN rfl; have m2 := blk_same (j := 2) bN rfl; have m3 := blk_same (j := 3) bN rfl; have hYA := unhide HQ3 ⟨(xn : Nat), zeroB, dwhy⟩ W3 (unhide HI) hb3 hs3; unfold YieldAt at hYA; obtain ⟨fn, tmps, assign, body, hy, hR⟩ := hYA; dsimp only [itE, zeroB] at hy; have HB3 := hide hb3; clear hb3 bL bN yb hb1)
      refine hR.mono ?_
      rintro e X' hX'
      have HFI := hide (unhide FIN _ W3 e X' (unhide HI) (unhide HB3))
      rcases hX' with ⟨rfl, hj, hk⟩ | ⟨rfl, hj, hk⟩
      · gi_wp2
        exact (unhide HFI).1 ⟨trivial, hj, hk⟩
      · gi_wp2
        obtain ⟨q1, q2⟩ := (unhide HFI).2 ⟨trivial, hj, hk⟩
        exact ⟨q1, rfl, q2⟩
  case done =>
    rintro D xs V hD hS ⟨h1, h2, h3⟩ hK
    subst hS
    gi_wp2
    refine ⟨by simp, .inl ⟨_, _, rfl, run_takeDeferred hK, ?_⟩⟩
    refine ⟨_, results_none rfl _ _ _, ⟨_, rfl⟩, .inl ⟨linedL s, rfl, ?_⟩⟩
    exact hJ _ V _ (some D) h1 (grownBy_putObj' V D _) (fun r e => by cases e; exact ⟨by omega, _, hK, rfl⟩)
  case stop =>
    rintro D c pre V hD hSp ⟨rfl, qs, e1, e2⟩ hK
    gi_wp2
    refine ⟨by simp, .inl ⟨_, _, rfl, run_takeDeferred hK, ?_⟩⟩
    refine ⟨_, results_none rfl _ _ _, ⟨_, rfl⟩, .inr ⟨qs, e1, ?_⟩⟩
    exact hJx _ V _ (some D) e2 (grownBy_putObj' V D _) (fun r e => by cases e; exact ⟨by omega, _, hK, rfl⟩)
theorem lined_gives (s : ByteArray) (hs : s.size ≤ 1073741824) (Bs : Nat) (w : World) (hBs : Boxed w Bs 9 (.string s)) (n : Nat) (hn : 8 ≤ n) :
    Gives4 n Tryz.prog 67 #[.pointer (some ⟨Bs, 0, none⟩)] itE 6 (fun _ => False) 0 0 (fun xs => xs = linedL s) (fun pre => pre <+: linedL s) w :=
  fun l J Jx W hW hJ hJx hcalm hY h0 => lined1_in s hs n l Bs hn J Jx W hY hJ hJx ((hW.block Bs hBs.lt).trans hBs) h0
theorem lined_any (s : ByteArray) (w : World) : Calls Tryz.prog 43 #[.string s] w fun e w' => e = .returned (.func (.func 67) #[] #[.pointer (some ⟨w.heap.size, 0, none⟩)]) ∧ w' = w.alloc (.cells #[.string s] 9) := by
  go_enter Tryz.func43, Tryz.ntmps43
  go_wp2
  go_ret
  exact ⟨rfl, rfl⟩
theorem lined_len (s : ByteArray) : (linedL s).length ≤ s.size + 1 := by
  have h1 : (linedL s).length ≤ (linesL s).length := List.length_filterMap_le _ _
  have h2 : (linesL s).length ≤ (extsL s).length := (List.takeWhile_sublist _).length_le
  have h3 := exts_len s
  omega
end Go.Proofs.YtijiiapnbeljnaaGreatDoor
