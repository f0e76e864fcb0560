/-
  These texts, one behind the other: Seq2, Seq3, Reads.
-/
import Derived.RangeFuncNested
import Derived.RangeFuncBound
import Derived.RangeFuncCalls
import Derived.RangeFuncLeaves
import Derived.Deep.Draws
import Derived.Deep.Quiet
import Derived.Deep.QuietTactic
import Derived.BigQuiet
import Derived.OrdersIn
/-
  A loop over an iterator that goes itself over another one: what a round must keep for it, what such an iterator promises, and the law of the statement that goes over it.
-/
namespace Go.Seq2
open Go Go.RowKit

/-- what a round keeps: iterators, maps; (Kp2:) from block B on all that is no cells; and the boxes (of the types that T tells) of the m first blocks from B on, and those that bs names -/
def KpB (m : Nat) (bs : Nat → Prop) (T : TypeId → Prop) (B : Nat) (W W' : World) : Prop :=
  KeepsWalks W W' ∧ ∀ k t v, (B ≤ k ∧ k < B + m ∨ bs k) → T t → Boxed W k t v → Boxed W' k t v
def Kp2 (m : Nat) (bs : Nat → Prop) (T : TypeId → Prop) (B : Nat) (W W' : World) : Prop := KeepsFrom B W W' ∧ KpB m bs T B W W'
theorem KpB.refl {m : Nat} {bs : Nat → Prop} {T : TypeId → Prop} {B : Nat} (W : World) : KpB m bs T B W W := ⟨KeepsWalks.refl _, fun _ _ _ _ _ h => h⟩
theorem KpB.trans {m : Nat} {bs : Nat → Prop} {T : TypeId → Prop} {B : Nat} {X Y Z : World} (h : KpB m bs T B X Y) (k : KpB m bs T B Y Z) : KpB m bs T B X Z := ⟨h.1.trans k.1, fun i t v hi ht hx => k.2 i t v hi ht (h.2 i t v hi ht hx)⟩
theorem KpB.put {m : Nat} {bs : Nat → Prop} {T : TypeId → Prop} {B : Nat} {W : World} {l : Nat} {o : Obj} (o' : Obj) (hl : W.heap[l]? = some o) (ho : o.isCells = false) (hw : o.isWalk = false) : KpB m bs T B W (W.putObj l o') := by
  refine ⟨KeepsWalks.putObj _ hl hw, ?_⟩
  intro k t v _ _ hx
  have hne : k ≠ l := by
    intro e; subst e
    have hx' : W.heap[k]? = _ := hx
    rw [hl] at hx'; cases hx'; cases ho
  exact (World.putObj_heap_other hne).trans hx

/-- a store into one of the boxes of the m first blocks from B on fells nothing of it -/
def Calm2 {β : Type} (B m : Nat) (T : TypeId → Prop) (J : β → World → Prop) : Prop :=
  ∀ s W k t u v, B ≤ k → k < B + m → T t → Boxed W k t u → J s W → J s (W.setCell ⟨k, 0, none⟩ v)
theorem Calm2.and {β : Type} {B m : Nat} {T : TypeId → Prop} {I J : β → World → Prop} (h : Calm2 B m T I) (k : Calm2 B m T J) : Calm2 B m T (fun s W => I s W ∧ J s W) :=
  fun s W i t u v h1 h2 h3 h4 h5 => ⟨h s W i t u v h1 h2 h3 h4 h5.1, k s W i t u v h1 h2 h3 h4 h5.2⟩
theorem calm_pure {β : Type} (B m : Nat) (T : TypeId → Prop) (p : β → Prop) : Calm2 B m T (fun s (_ : World) => p s) := fun _ _ _ _ _ _ _ _ _ _ h => h
theorem calm_block {β : Type} (B m : Nat) (T : TypeId → Prop) (b : Nat) (o : β → Obj) (hb : b < B) : Calm2 B m T (fun s W => W.heap[b]? = some (o s)) :=
  fun _ _ k _ _ _ h1 _ _ _ h => (Below.heap_setCell _ _ _ _ (by simp; omega)).trans h
theorem calm_below {β : Type} {B m : Nat} (T : TypeId → Prop) {b : Nat} {w : World} (hb : b ≤ B) : Calm2 B m T (fun (_ : β) W => Below b w W) :=
  fun _ _ _ _ _ _ h1 _ _ _ h => h.setCell (by simp; omega) _
theorem calm_boxed {β : Type} (B m : Nat) (T : TypeId → Prop) (b : Nat) (t : TypeId) (f : β → Value) (hb : b < B) : Calm2 B m T (fun s W => Boxed W b t (f s)) :=
  fun _ _ _ _ _ _ h1 _ _ _ h => h.other (by omega) _

theorem yieldIn {n m lr : Nat} {P : Program} {l : Nat} {args : Array Value} {W : World} {R : Ending → World → Prop} (h : YieldAt Fence.wide n P l args W R) : YieldAt (Fence.wide.inRound lr) m P l args W R := by
  obtain ⟨fn, tmps, assign, body, hy, hR⟩ := h
  exact ⟨fn, tmps, assign, body, hy, trivial, fun c cs _ => hR.2 c cs (room_wide _)⟩
theorem grown_drewN (w : World) (n : Nat) (row : Option Nat) : w.grownBy (w.drewN n) row := ⟨rfl, rfl, rfl, Nat.le_refl _, fun _ _ _ => rfl⟩

/-- what the iterator promises to every loop over it -/
def Gives2 {α : Type} (n : Nat) (P : Program) (g : Nat) (lb : Array Value) (encs : α → Array Value) (m : Nat) (bs : Nat → Prop) (T : TypeId → Prop) (S Sp : List α → Prop) (N : Nat) (w : World) : Prop :=
  ∀ (l : Nat) (J Jx : List α → World → Prop) (W : World), Below w.heap.size w W → OwnFrom W.heap.size J → OwnFrom W.heap.size Jx → Calm2 W.heap.size m T J →
    (∀ pre x W1, J pre W1 → pre.length < N → YieldAt Fence.wide (n - 1) P l (encs x) W1 fun e W' =>
      (e = .returned (.bool true) ∧ J (pre ++ [x]) W' ∧ Kp2 m bs T W.heap.size W1 W') ∨ (e = .returned (.bool false) ∧ Jx (pre ++ [x]) W' ∧ KeepsFrom W.heap.size W1 W')) →
    J [] W →
    CallsIn Fence.wide n P g (#[.func (.yield l) #[] #[]] ++ lb) W fun e W' => (∃ v, e = .returned v) ∧ ((∃ xs, S xs ∧ J xs W') ∨ (∃ pre, Sp pre ∧ Jx pre W'))

theorem OwnFrom.le {β : Type} {B B' : Nat} {I : β → World → Prop} (h : OwnFrom B I) (hle : B ≤ B') : OwnFrom B' I :=
  fun s W W' row hs hg hr => h s W W' row hs hg fun r e => ⟨Nat.le_trans hle (hr r e).1, (hr r e).2⟩
theorem keep_below {W W' : World} {row : Option Nat} {B k : Nat} {o : Obj} (hk : k < B) (h : W.heap[k]? = some o) (hg : W.grownBy W' row) (hr : ∀ r, row = some r → B ≤ r) : W'.heap[k]? = some o :=
  (hg.block k (Array.getElem?_eq_some_iff.1 h).1 (fun e => by have := hr k e.symm; omega)).trans h

theorem range2 {α : Type} {n : Nat} {P : Program} {g : Operand} {ps : Array Tmp} {assign body : Code} {Q : Exit → Act → World → Prop} {a : Act} {w : World}
    (h1 : 1 ≤ n) {gf : Nat} {lb : Array Value} (hg : a.eval g = .func (.func gf) #[] lb) (eg : ∀ args w, (callFunc gf args).run P w = .ok (.enter gf args) w)
    {encs : α → Array Value} {m : Nat} {bs : Nat → Prop} {T : TypeId → Prop} {S Sp : List α → Prop} {N : Nat} {w0 : World} (hseq : Gives2 (n - 1) P gf lb encs m bs T S Sp N w0)
    (hb0 : Below w0.heap.size w0 w) (hps : ∀ x, (encs x).size = ps.size)
    (I : List α → World → Prop) (Ix : Code → List α → World → Prop) (hI : OwnFrom w.heap.size I) (hIx : ∀ c, OwnFrom w.heap.size (Ix c)) (hIc : Calm2 (w.heap.size + 2) m T I) (h0 : I [] w) (Ax : α → Act → World → Prop) (hAx : ∀ x a', OwnFrom w.heap.size (fun (_ : Unit) W => Ax x a' W))
    (hassign : ∀ (l : Nat) (pre : List α) (x : α) (W : World) (K : Act → World → Prop), w.heap.size + 2 ≤ W.heap.size → I pre W → (∀ a' W', KeepsFrom w.heap.size W W' → KpB m bs T (w.heap.size + 2) W W' → I pre W' → Ax x a' W' → K a' W') →
      assign.wpIn (Fence.wide.inRound l) (n - 1 - 1) P (Exit.then K (fun _ _ _ => False)) { tmps := (ps.zip (encs x)).foldl (fun t (p, v) => t.setIfInBounds p v) a.tmps, defers := [] } W)
    (hbody : ∀ (l : Nat) (pre : List α) (x : α) (a' : Act) (W : World), w.heap.size ≤ l → w.heap.size + 2 ≤ W.heap.size → (∃ r, W.heap[l]? = some (.loop r)) → I pre W → Ax x a' W → pre.length < N →
      body.wpIn (Fence.wide.inRound l) (n - 1 - 1) P (ownPostG w.heap.size (KpB m bs T (w.heap.size + 2)) I Ix (pre ++ [x]) W) a' W)
    (hdone : ∀ (D : Nat) (xs : List α) (W : World), w.heap.size ≤ D → S xs → I xs W → W.heap[D]? = some (.deferred (some [])) → Q .normal { a with defers := { target := .collected D, args := #[] } :: a.defers } W)
    (hstop : ∀ (D : Nat) (c : Code) (pre : List α) (W : World), w.heap.size ≤ D → Sp pre → Ix c pre W → W.heap[D]? = some (.deferred (some [])) → c.wpIn Fence.wide n P Q { a with defers := { target := .collected D, args := #[] } :: a.defers } W) :
    (Code.rangeFunc g ps assign body).wpIn Fence.wide n P Q a w := by
  refine wpIn_rangeFunc fun fn hfn => ?_
  obtain ⟨R, hR⟩ : ∃ R : LoopState → Option Code → Loop, R = fun st pe => { state := st, pending := pe, fn, tmps := a.tmps, params := ps, assign, body, defers := w.heap.size } := ⟨_, rfl⟩
  obtain ⟨V, hV⟩ : ∃ V, (w.alloc (.deferred (some []))).alloc (.loop (R .ready none)) = V := ⟨_, rfl⟩
  have hVs : V.heap.size = w.heap.size + 2 := by rw [← hV]; simp
  have hVL : V.heap[w.heap.size + 1]? = some (.loop (R .ready none)) := by
    have := World.alloc_heap_new (w.alloc (.deferred (some []))) (.loop (R .ready none))
    rw [World.size_alloc] at this; rw [← hV]; exact this
  have hVD : V.heap[w.heap.size]? = some (.deferred (some [])) := by
    rw [← hV]; exact (Below.heap_alloc _ _ _ (by simp)).trans (World.alloc_heap_new w _)
  have hVb : Below w0.heap.size w0 V := by
    rw [← hV]; exact hb0.trans ((((Below.refl _ w).alloc (Nat.le_refl _) _).alloc (by simp) _).mono hb0.size)
  have hVI : I [] V := by rw [← hV]; exact hI.alloc _ (hI.alloc _ h0)
  have ge : ∀ {row : Option Nat} {A : World}, (∀ r, row = some r → V.heap.size ≤ r ∧ ∃ o : Obj, A.heap[r]? = some o ∧ o.isCells = false) → ∀ r, row = some r → w.heap.size + 2 ≤ r := fun hr r e => by have := (hr r e).1; omega
  refine ⟨w.heap.size + 1, [{ target := .collected w.heap.size, args := #[] }], V, { target := .fn (.func gf) lb, args := #[.func (.yield (w.heap.size + 1)) #[] #[]] }, V, gf,
    #[.func (.yield (w.heap.size + 1)) #[] #[]] ++ lb, V, ?_, ?_, fun _ _ => trivial, ?_, fun _ => h1, ?_⟩
  · rw [← hV, hR]; exact run_enterLoop_outer _ _ _ _ _
  · simp only [resolve, hg]
    simp [go_sem]
  · simp [invoke, go_sem, eg]
  refine (hseq (w.heap.size + 1)
    (fun pre W => I pre W ∧ W.heap[w.heap.size + 1]? = some (.loop (R .ready none)) ∧ W.heap[w.heap.size]? = some (.deferred (some [])))
    (fun pre W => ∃ c, Ix c pre W ∧ W.heap[w.heap.size + 1]? = some (.loop (R .done (some c))) ∧ W.heap[w.heap.size]? = some (.deferred (some [])))
    V hVb ?_ ?_ ?_ ?_ ⟨hVI, hVL, hVD⟩).mono ?_
  · rintro s A B row ⟨x1, x2, x3⟩ hgr hr
    exact ⟨OwnFrom.le hI (by omega) s A B row x1 hgr hr, keep_below (by omega) x2 hgr (ge hr), keep_below (by omega) x3 hgr (ge hr)⟩
  · rintro s A B row ⟨c, x1, x2, x3⟩ hgr hr
    exact ⟨c, OwnFrom.le (hIx c) (by omega) s A B row x1 hgr hr, keep_below (by omega) x2 hgr (ge hr), keep_below (by omega) x3 hgr (ge hr)⟩
  · rintro s A k t u v q1 q2 q3 q4 ⟨x1, x2, x3⟩
    rw [hVs] at q1 q2
    exact ⟨hIc s A k t u v q1 q2 q3 q4 x1, (Below.heap_setCell _ _ _ _ (by simp; omega)).trans x2, (Below.heap_setCell _ _ _ _ (by simp; omega)).trans x3⟩
  · rintro pre x W ⟨x1, x2, x3⟩ hlen
    have hy := run_yield (P := P) (args := encs x) x2 (by rw [hR]; exact hps x)
    rw [hR] at hy
    have hlt : w.heap.size + 1 < W.heap.size := (Array.getElem?_eq_some_iff.1 x2).1
    refine ⟨fn, _, assign, body, hy, roundIn_of_wpIn hfn (hassign _ pre x W _ (by omega) x1 ?_)⟩
    intro a' X kf kb xi xa
    have y2 := kf.same _ _ (by omega) x2 rfl
    have y3 := kf.same _ _ (Nat.le_refl _) x3 rfl
    have hltX : w.heap.size + 1 < X.heap.size := (Array.getElem?_eq_some_iff.1 y2).1
    refine ⟨_, run_beginRound y2 (by rw [hR]), ?_⟩
    obtain ⟨Y, hY⟩ : ∃ Y, X.putObj (w.heap.size + 1) (.loop { R .ready none with state := .busy }) = Y := ⟨_, rfl⟩
    have z2 : Y.heap[w.heap.size + 1]? = some (.loop { R .ready none with state := .busy }) := by rw [← hY]; exact World.putObj_heap_same hltX
    have z3 : Y.heap[w.heap.size]? = some (.deferred (some [])) := by rw [← hY]; exact (World.putObj_heap_other (by omega)).trans y3
    have zi : I pre Y := by rw [← hY]; exact hI.putObj _ xi (by omega) y2 rfl
    have za : Ax x a' Y := by rw [← hY]; exact (hAx x a').putObj (s := ()) _ xa (by omega) y2 rfl
    have zb : KpB m bs T (w.heap.size + 2) W Y := kb.trans (by rw [← hY]; exact KpB.put _ y2 rfl rfl)
    have zk : KeepsFrom (w.heap.size + 2) W Y := ⟨by rw [← hY]; simpa using kf.size, fun k o hB hk ho => by
      rw [← hY]; exact (World.putObj_heap_other (by omega)).trans (kf.same k o (by omega) hk ho)⟩
    have zl : w.heap.size + 2 ≤ Y.heap.size := by rw [← hY]; simp; omega
    rw [hY]
    refine wpIn_mono (hbody _ pre x a' Y (by omega) zl ⟨_, z2⟩ zi za hlen) ?_
    -- the end of a round
    have fin : ∀ (jump : Option Code) (Z : World), KeepsFrom w.heap.size Y Z → ∃ Z', (Instr.endRound (w.heap.size + 1) jump).run P Z = .ok (.bool jump.isNone) Z' ∧
        Z'.heap[w.heap.size + 1]? = some (.loop (R (if jump.isNone then .ready else .done) jump)) ∧ Z'.heap[w.heap.size]? = some (.deferred (some [])) ∧
        (∀ xs, I xs Z → I xs Z') ∧ (∀ c xs, Ix c xs Z → Ix c xs Z') ∧ KpB m bs T (w.heap.size + 2) Z Z' ∧ KeepsFrom (w.heap.size + 2) Z Z' := by
      intro jump Z hk
      have q2 := hk.same _ _ (by omega) z2 rfl
      have q3 := hk.same _ _ (Nat.le_refl _) z3 rfl
      refine ⟨_, run_endRound (P := P) jump q2, ?_, (World.putObj_heap_other (by omega)).trans q3, fun xs hx => hI.putObj _ hx (by omega) q2 rfl, fun c xs hx => (hIx c).putObj _ hx (by omega) q2 rfl, KpB.put _ q2 rfl rfl, ?_⟩
      · rw [World.putObj_heap_same (Array.getElem?_eq_some_iff.1 q2).1, hR]
      · exact ⟨by simp, fun k o hB hk ho => (World.putObj_heap_other (by omega)).trans hk⟩
    rintro e a3 Z hp
    cases e with
    | normal =>
      obtain ⟨k1, k2, k3⟩ := hp
      obtain ⟨Z', e1, e2, e3, e4, _, e6, e7⟩ := fin none Z k1
      refine ⟨_, _, e1, .inl ⟨rfl, ⟨e4 _ k3, e2, e3⟩, ?_⟩⟩
      rw [hVs]
      exact ⟨(zk.trans ⟨k1.size, fun k o hB => k1.same k o (by omega)⟩).trans e7, (zb.trans k2).trans e6⟩
    | ret =>
      obtain ⟨k1, k3⟩ := hp
      obtain ⟨Z', e1, e2, e3, _, e5, _, e7⟩ := fin (some .ret) Z k1
      exact ⟨_, _, e1, .inr ⟨rfl, ⟨.ret, e5 _ _ k3, e2, e3⟩, by rw [hVs]; exact (zk.trans ⟨k1.size, fun k o hB => k1.same k o (by omega)⟩).trans e7⟩⟩
    | exit id =>
      obtain ⟨k1, k3⟩ := hp
      obtain ⟨Z', e1, e2, e3, _, e5, _, e7⟩ := fin (some (.exit id)) Z k1
      exact ⟨_, _, e1, .inr ⟨rfl, ⟨.exit id, e5 _ _ k3, e2, e3⟩, by rw [hVs]; exact (zk.trans ⟨k1.size, fun k o hB => k1.same k o (by omega)⟩).trans e7⟩⟩
    | goto t =>
      obtain ⟨k1, k3⟩ := hp
      obtain ⟨Z', e1, e2, e3, _, e5, _, e7⟩ := fin (some (.goto t)) Z k1
      exact ⟨_, _, e1, .inr ⟨rfl, ⟨.goto t, e5 _ _ k3, e2, e3⟩, by rw [hVs]; exact (zk.trans ⟨k1.size, fun k o hB => k1.same k o (by omega)⟩).trans e7⟩⟩
    | panic ch => exact hp.elim
    | outgrown => exact hp.elim
  · rintro e Z ⟨⟨v, rfl⟩, (⟨xs, hS, x1, x2, x3⟩ | ⟨pre, hSp, c, x1, x2, x3⟩)⟩
    · refine ⟨none, _, by have := run_endLoop (P := P) x2 (by rw [hR]; simp); rw [hR] at this; exact this, ?_⟩
      exact hdone _ xs _ (Nat.le_refl _) hS (hI.putObj _ x1 (by omega) x2 rfl) ((World.putObj_heap_other (by omega)).trans x3)
    · refine ⟨some c, _, by have := run_endLoop (P := P) x2 (by rw [hR]; simp); rw [hR] at this; exact this, ?_⟩
      exact hstop _ c pre _ (Nat.le_refl _) hSp ((hIx c).putObj _ x1 (by omega) x2 rfl) ((World.putObj_heap_other (by omega)).trans x3)

/-- the same, where the loop's variables are no boxes -/
theorem range2G {α : Type} {n : Nat} {P : Program} {g : Operand} {ps : Array Tmp} {assign body : Code} {Q : Exit → Act → World → Prop} {a : Act} {w : World}
    (h1 : 1 ≤ n) {gf : Nat} {lb : Array Value} (hg : a.eval g = .func (.func gf) #[] lb) (eg : ∀ args w, (callFunc gf args).run P w = .ok (.enter gf args) w)
    {encs : α → Array Value} {m : Nat} {bs : Nat → Prop} {T : TypeId → Prop} {S Sp : List α → Prop} {N : Nat} {w0 : World} (hseq : Gives2 (n - 1) P gf lb encs m bs T S Sp N w0)
    (hb0 : Below w0.heap.size w0 w) (hps : ∀ x, (encs x).size = ps.size)
    (I : List α → World → Prop) (Ix : Code → List α → World → Prop) (hI : OwnFrom w.heap.size I) (hIx : ∀ c, OwnFrom w.heap.size (Ix c)) (hIc : Calm2 (w.heap.size + 2) m T I) (h0 : I [] w) (a₁ : α → Act)
    (hassign : ∀ (l : Nat) (x : α) (W : World) (K : Act → World → Prop), K (a₁ x) W →
      assign.wpIn (Fence.wide.inRound l) (n - 1 - 1) P (Exit.then K (fun _ _ _ => False)) { tmps := (ps.zip (encs x)).foldl (fun t (p, v) => t.setIfInBounds p v) a.tmps, defers := [] } W)
    (hbody : ∀ (l : Nat) (pre : List α) (x : α) (W : World), w.heap.size ≤ l → w.heap.size + 2 ≤ W.heap.size → (∃ r, W.heap[l]? = some (.loop r)) → I pre W → pre.length < N →
      body.wpIn (Fence.wide.inRound l) (n - 1 - 1) P (ownPostG w.heap.size (KpB m bs T (w.heap.size + 2)) I Ix (pre ++ [x]) W) (a₁ x) W)
    (hdone : ∀ (D : Nat) (xs : List α) (W : World), w.heap.size ≤ D → S xs → I xs W → W.heap[D]? = some (.deferred (some [])) → Q .normal { a with defers := { target := .collected D, args := #[] } :: a.defers } W)
    (hstop : ∀ (D : Nat) (c : Code) (pre : List α) (W : World), w.heap.size ≤ D → Sp pre → Ix c pre W → W.heap[D]? = some (.deferred (some [])) → c.wpIn Fence.wide n P Q { a with defers := { target := .collected D, args := #[] } :: a.defers } W) :
    (Code.rangeFunc g ps assign body).wpIn Fence.wide n P Q a w :=
  range2 h1 hg eg hseq hb0 hps I Ix hI hIx hIc h0 (fun x a' _ => a' = a₁ x) (fun _ _ _ _ _ _ h _ _ => h)
    (fun l pre x W K _ hi hK => hassign l x W K (hK _ _ (KeepsFrom.refl _ _) (KpB.refl _) hi rfl)) (fun l pre x a' W hl hw hr hi e hlen => by subst e; exact hbody l pre x W hl hw hr hi hlen) hdone hstop

end Go.Seq2
/-
  A loop over an iterator that goes itself over another one, the body of which knows that what has come is a front of what comes.
-/
namespace Go.Seq3
open Go Go.RowKit Go.Seq2

/-- what the iterator promises to every loop over it -/
def Gives3 {α : Type} (n : Nat) (P : Program) (g : Nat) (lb : Array Value) (encs : α → Array Value) (m : Nat) (bs : Nat → Prop) (T : TypeId → Prop) (S Sp : List α → Prop) (w : World) : Prop :=
  ∀ (l : Nat) (J Jx : List α → World → Prop) (W : World), Below w.heap.size w W → OwnFrom W.heap.size J → OwnFrom W.heap.size Jx →
    (∀ pre x W1, J pre W1 → Sp (pre ++ [x]) → YieldAt Fence.wide (n - 1) P l (encs x) W1 fun e W' =>
      (e = .returned (.bool true) ∧ J (pre ++ [x]) W' ∧ Kp2 m bs T W.heap.size W1 W') ∨ (e = .returned (.bool false) ∧ Jx (pre ++ [x]) W' ∧ KeepsFrom W.heap.size W1 W')) →
    J [] W →
    CallsIn Fence.wide n P g (#[.func (.yield l) #[] #[]] ++ lb) W fun e W' => (∃ v, e = .returned v) ∧ ((∃ xs, S xs ∧ J xs W') ∨ (∃ pre, Sp pre ∧ Jx pre W'))

theorem range3 {α : Type} {n : Nat} {P : Program} {g : Operand} {ps : Array Tmp} {assign body : Code} {Q : Exit → Act → World → Prop} {a : Act} {w : World}
    (h1 : 1 ≤ n) {gf : Nat} {lb : Array Value} (hg : a.eval g = .func (.func gf) #[] lb) (eg : ∀ args w, (callFunc gf args).run P w = .ok (.enter gf args) w)
    {encs : α → Array Value} {m : Nat} {bs : Nat → Prop} {T : TypeId → Prop} {S Sp : List α → Prop} {w0 : World} (hseq : Gives3 (n - 1) P gf lb encs m bs T S Sp w0)
    (hb0 : Below w0.heap.size w0 w) (hps : ∀ x, (encs x).size = ps.size)
    (I : List α → World → Prop) (Ix : Code → List α → World → Prop) (hI : OwnFrom w.heap.size I) (hIx : ∀ c, OwnFrom w.heap.size (Ix c)) (h0 : I [] w) (Ax : α → Act → World → Prop) (hAx : ∀ x a', OwnFrom w.heap.size (fun (_ : Unit) W => Ax x a' W))
    (hassign : ∀ (l : Nat) (pre : List α) (x : α) (W : World) (K : Act → World → Prop), w.heap.size + 2 ≤ W.heap.size → I pre W → (∀ a' W', KeepsFrom w.heap.size W W' → KpB m bs T (w.heap.size + 2) W W' → I pre W' → Ax x a' W' → K a' W') →
      assign.wpIn (Fence.wide.inRound l) (n - 1 - 1) P (Exit.then K (fun _ _ _ => False)) { tmps := (ps.zip (encs x)).foldl (fun t (p, v) => t.setIfInBounds p v) a.tmps, defers := [] } W)
    (hbody : ∀ (l : Nat) (pre : List α) (x : α) (a' : Act) (W : World), w.heap.size ≤ l → w.heap.size + 2 ≤ W.heap.size → (∃ r, W.heap[l]? = some (.loop r)) → I pre W → Ax x a' W → Sp (pre ++ [x]) →
      body.wpIn (Fence.wide.inRound l) (n - 1 - 1) P (ownPostG w.heap.size (KpB m bs T (w.heap.size + 2)) I Ix (pre ++ [x]) W) a' W)
    (hdone : ∀ (D : Nat) (xs : List α) (W : World), w.heap.size ≤ D → S xs → I xs W → W.heap[D]? = some (.deferred (some [])) → Q .normal { a with defers := { target := .collected D, args := #[] } :: a.defers } W)
    (hstop : ∀ (D : Nat) (c : Code) (pre : List α) (W : World), w.heap.size ≤ D → Sp pre → Ix c pre W → W.heap[D]? = some (.deferred (some [])) → c.wpIn Fence.wide n P Q { a with defers := { target := .collected D, args := #[] } :: a.defers } W) :
    (Code.rangeFunc g ps assign body).wpIn Fence.wide n P Q a w := by
  refine wpIn_rangeFunc fun fn hfn => ?_
  obtain ⟨R, hR⟩ : ∃ R : LoopState → Option Code → Loop, R = fun st pe => { state := st, pending := pe, fn, tmps := a.tmps, params := ps, assign, body, defers := w.heap.size } := ⟨_, rfl⟩
  obtain ⟨V, hV⟩ : ∃ V, (w.alloc (.deferred (some []))).alloc (.loop (R .ready none)) = V := ⟨_, rfl⟩
  have hVs : V.heap.size = w.heap.size + 2 := by rw [← hV]; simp
  have hVL : V.heap[w.heap.size + 1]? = some (.loop (R .ready none)) := by
    have := World.alloc_heap_new (w.alloc (.deferred (some []))) (.loop (R .ready none))
    rw [World.size_alloc] at this; rw [← hV]; exact this
  have hVD : V.heap[w.heap.size]? = some (.deferred (some [])) := by
    rw [← hV]; exact (Below.heap_alloc _ _ _ (by simp)).trans (World.alloc_heap_new w _)
  have hVb : Below w0.heap.size w0 V := by
    rw [← hV]; exact hb0.trans ((((Below.refl _ w).alloc (Nat.le_refl _) _).alloc (by simp) _).mono hb0.size)
  have hVI : I [] V := by rw [← hV]; exact hI.alloc _ (hI.alloc _ h0)
  have ge : ∀ {row : Option Nat} {A : World}, (∀ r, row = some r → V.heap.size ≤ r ∧ ∃ o : Obj, A.heap[r]? = some o ∧ o.isCells = false) → ∀ r, row = some r → w.heap.size + 2 ≤ r := fun hr r e => by have := (hr r e).1; omega
  refine ⟨w.heap.size + 1, [{ target := .collected w.heap.size, args := #[] }], V, { target := .fn (.func gf) lb, args := #[.func (.yield (w.heap.size + 1)) #[] #[]] }, V, gf,
    #[.func (.yield (w.heap.size + 1)) #[] #[]] ++ lb, V, ?_, ?_, fun _ _ => trivial, ?_, fun _ => h1, ?_⟩
  · rw [← hV, hR]; exact run_enterLoop_outer _ _ _ _ _
  · simp only [resolve, hg]
    simp [go_sem]
  · simp [invoke, go_sem, eg]
  refine (hseq (w.heap.size + 1)
    (fun pre W => I pre W ∧ W.heap[w.heap.size + 1]? = some (.loop (R .ready none)) ∧ W.heap[w.heap.size]? = some (.deferred (some [])))
    (fun pre W => ∃ c, Ix c pre W ∧ W.heap[w.heap.size + 1]? = some (.loop (R .done (some c))) ∧ W.heap[w.heap.size]? = some (.deferred (some [])))
    V hVb ?_ ?_ ?_ ⟨hVI, hVL, hVD⟩).mono ?_
  · rintro s A B row ⟨x1, x2, x3⟩ hgr hr
    exact ⟨OwnFrom.le hI (by omega) s A B row x1 hgr hr, keep_below (by omega) x2 hgr (ge hr), keep_below (by omega) x3 hgr (ge hr)⟩
  · rintro s A B row ⟨c, x1, x2, x3⟩ hgr hr
    exact ⟨c, OwnFrom.le (hIx c) (by omega) s A B row x1 hgr hr, keep_below (by omega) x2 hgr (ge hr), keep_below (by omega) x3 hgr (ge hr)⟩
  · rintro pre x W ⟨x1, x2, x3⟩ hlen
    have hy := run_yield (P := P) (args := encs x) x2 (by rw [hR]; exact hps x)
    rw [hR] at hy
    have hlt : w.heap.size + 1 < W.heap.size := (Array.getElem?_eq_some_iff.1 x2).1
    refine ⟨fn, _, assign, body, hy, roundIn_of_wpIn hfn (hassign _ pre x W _ (by omega) x1 ?_)⟩
    intro a' X kf kb xi xa
    have y2 := kf.same _ _ (by omega) x2 rfl
    have y3 := kf.same _ _ (Nat.le_refl _) x3 rfl
    have hltX : w.heap.size + 1 < X.heap.size := (Array.getElem?_eq_some_iff.1 y2).1
    refine ⟨_, run_beginRound y2 (by rw [hR]), ?_⟩
    obtain ⟨Y, hY⟩ : ∃ Y, X.putObj (w.heap.size + 1) (.loop { R .ready none with state := .busy }) = Y := ⟨_, rfl⟩
    have z2 : Y.heap[w.heap.size + 1]? = some (.loop { R .ready none with state := .busy }) := by rw [← hY]; exact World.putObj_heap_same hltX
    have z3 : Y.heap[w.heap.size]? = some (.deferred (some [])) := by rw [← hY]; exact (World.putObj_heap_other (by omega)).trans y3
    have zi : I pre Y := by rw [← hY]; exact hI.putObj _ xi (by omega) y2 rfl
    have za : Ax x a' Y := by rw [← hY]; exact (hAx x a').putObj (s := ()) _ xa (by omega) y2 rfl
    have zb : KpB m bs T (w.heap.size + 2) W Y := kb.trans (by rw [← hY]; exact KpB.put _ y2 rfl rfl)
    have zk : KeepsFrom (w.heap.size + 2) W Y := ⟨by rw [← hY]; simpa using kf.size, fun k o hB hk ho => by
      rw [← hY]; exact (World.putObj_heap_other (by omega)).trans (kf.same k o (by omega) hk ho)⟩
    have zl : w.heap.size + 2 ≤ Y.heap.size := by rw [← hY]; simp; omega
    rw [hY]
    refine wpIn_mono (hbody _ pre x a' Y (by omega) zl ⟨_, z2⟩ zi za hlen) ?_
    -- the end of a round
    have fin : ∀ (jump : Option Code) (Z : World), KeepsFrom w.heap.size Y Z → ∃ Z', (Instr.endRound (w.heap.size + 1) jump).run P Z = .ok (.bool jump.isNone) Z' ∧
        Z'.heap[w.heap.size + 1]? = some (.loop (R (if jump.isNone then .ready else .done) jump)) ∧ Z'.heap[w.heap.size]? = some (.deferred (some [])) ∧
        (∀ xs, I xs Z → I xs Z') ∧ (∀ c xs, Ix c xs Z → Ix c xs Z') ∧ KpB m bs T (w.heap.size + 2) Z Z' ∧ KeepsFrom (w.heap.size + 2) Z Z' := by
      intro jump Z hk
      have q2 := hk.same _ _ (by omega) z2 rfl
      have q3 := hk.same _ _ (Nat.le_refl _) z3 rfl
      refine ⟨_, run_endRound (P := P) jump q2, ?_, (World.putObj_heap_other (by omega)).trans q3, fun xs hx => hI.putObj _ hx (by omega) q2 rfl, fun c xs hx => (hIx c).putObj _ hx (by omega) q2 rfl, KpB.put _ q2 rfl rfl, ?_⟩
      · rw [World.putObj_heap_same (Array.getElem?_eq_some_iff.1 q2).1, hR]
      · exact ⟨by simp, fun k o hB hk ho => (World.putObj_heap_other (by omega)).trans hk⟩
    rintro e a3 Z hp
    cases e with
    | normal =>
      obtain ⟨k1, k2, k3⟩ := hp
      obtain ⟨Z', e1, e2, e3, e4, _, e6, e7⟩ := fin none Z k1
      refine ⟨_, _, e1, .inl ⟨rfl, ⟨e4 _ k3, e2, e3⟩, ?_⟩⟩
      rw [hVs]
      exact ⟨(zk.trans ⟨k1.size, fun k o hB => k1.same k o (by omega)⟩).trans e7, (zb.trans k2).trans e6⟩
    | ret =>
      obtain ⟨k1, k3⟩ := hp
      obtain ⟨Z', e1, e2, e3, _, e5, _, e7⟩ := fin (some .ret) Z k1
      exact ⟨_, _, e1, .inr ⟨rfl, ⟨.ret, e5 _ _ k3, e2, e3⟩, by rw [hVs]; exact (zk.trans ⟨k1.size, fun k o hB => k1.same k o (by omega)⟩).trans e7⟩⟩
    | exit id =>
      obtain ⟨k1, k3⟩ := hp
      obtain ⟨Z', e1, e2, e3, _, e5, _, e7⟩ := fin (some (.exit id)) Z k1
      exact ⟨_, _, e1, .inr ⟨rfl, ⟨.exit id, e5 _ _ k3, e2, e3⟩, by rw [hVs]; exact (zk.trans ⟨k1.size, fun k o hB => k1.same k o (by omega)⟩).trans e7⟩⟩
    | goto t =>
      obtain ⟨k1, k3⟩ := hp
      obtain ⟨Z', e1, e2, e3, _, e5, _, e7⟩ := fin (some (.goto t)) Z k1
      exact ⟨_, _, e1, .inr ⟨rfl, ⟨.goto t, e5 _ _ k3, e2, e3⟩, by rw [hVs]; exact (zk.trans ⟨k1.size, fun k o hB => k1.same k o (by omega)⟩).trans e7⟩⟩
    | panic ch => exact hp.elim
    | outgrown => exact hp.elim
  · rintro e Z ⟨⟨v, rfl⟩, (⟨xs, hS, x1, x2, x3⟩ | ⟨pre, hSp, c, x1, x2, x3⟩)⟩
    · refine ⟨none, _, by have := run_endLoop (P := P) x2 (by rw [hR]; simp); rw [hR] at this; exact this, ?_⟩
      exact hdone _ xs _ (Nat.le_refl _) hS (hI.putObj _ x1 (by omega) x2 rfl) ((World.putObj_heap_other (by omega)).trans x3)
    · refine ⟨some c, _, by have := run_endLoop (P := P) x2 (by rw [hR]; simp); rw [hR] at this; exact this, ?_⟩
      exact hstop _ c pre _ (Nat.le_refl _) hSp ((hIx c).putObj _ x1 (by omega) x2 rfl) ((World.putObj_heap_other (by omega)).trans x3)

/-- the same, where the loop's variables are no boxes -/
theorem range3G {α : Type} {n : Nat} {P : Program} {g : Operand} {ps : Array Tmp} {assign body : Code} {Q : Exit → Act → World → Prop} {a : Act} {w : World}
    (h1 : 1 ≤ n) {gf : Nat} {lb : Array Value} (hg : a.eval g = .func (.func gf) #[] lb) (eg : ∀ args w, (callFunc gf args).run P w = .ok (.enter gf args) w)
    {encs : α → Array Value} {m : Nat} {bs : Nat → Prop} {T : TypeId → Prop} {S Sp : List α → Prop} {w0 : World} (hseq : Gives3 (n - 1) P gf lb encs m bs T S Sp w0)
    (hb0 : Below w0.heap.size w0 w) (hps : ∀ x, (encs x).size = ps.size)
    (I : List α → World → Prop) (Ix : Code → List α → World → Prop) (hI : OwnFrom w.heap.size I) (hIx : ∀ c, OwnFrom w.heap.size (Ix c)) (h0 : I [] w) (a₁ : α → Act)
    (hassign : ∀ (l : Nat) (x : α) (W : World) (K : Act → World → Prop), K (a₁ x) W →
      assign.wpIn (Fence.wide.inRound l) (n - 1 - 1) P (Exit.then K (fun _ _ _ => False)) { tmps := (ps.zip (encs x)).foldl (fun t (p, v) => t.setIfInBounds p v) a.tmps, defers := [] } W)
    (hbody : ∀ (l : Nat) (pre : List α) (x : α) (W : World), w.heap.size ≤ l → w.heap.size + 2 ≤ W.heap.size → (∃ r, W.heap[l]? = some (.loop r)) → I pre W → Sp (pre ++ [x]) →
      body.wpIn (Fence.wide.inRound l) (n - 1 - 1) P (ownPostG w.heap.size (KpB m bs T (w.heap.size + 2)) I Ix (pre ++ [x]) W) (a₁ x) W)
    (hdone : ∀ (D : Nat) (xs : List α) (W : World), w.heap.size ≤ D → S xs → I xs W → W.heap[D]? = some (.deferred (some [])) → Q .normal { a with defers := { target := .collected D, args := #[] } :: a.defers } W)
    (hstop : ∀ (D : Nat) (c : Code) (pre : List α) (W : World), w.heap.size ≤ D → Sp pre → Ix c pre W → W.heap[D]? = some (.deferred (some [])) → c.wpIn Fence.wide n P Q { a with defers := { target := .collected D, args := #[] } :: a.defers } W) :
    (Code.rangeFunc g ps assign body).wpIn Fence.wide n P Q a w :=
  range3 h1 hg eg hseq hb0 hps I Ix hI hIx h0 (fun x a' _ => a' = a₁ x) (fun _ _ _ _ _ _ h _ _ => h)
    (fun l pre x W K _ hi hK => hassign l x W K (hK _ _ (KeepsFrom.refl _ _) (KpB.refl _) hi rfl)) (fun l pre x a' W hl hw hr hi e hlen => by subst e; exact hbody l pre x W hl hw hr hi hlen) hdone hstop

end Go.Seq3
/-
  A region that draws its order, within a round of a loop over an iterator: its first k operations only read, each of the others waits for all ahead of it. One walk of the text's order serves every order.
-/
namespace Go.Reads
open Go

def allB : Nat → List (List Bool)
  | 0 => [[]]
  | k + 1 => (allB k).flatMap fun l => [false :: l, true :: l]
theorem mem_allB : ∀ (l : List Bool), l ∈ allB l.length
  | [] => by simp [allB]
  | b :: l => by
    rw [List.length_cons, allB, List.mem_flatMap]
    refine ⟨l, mem_allB l, ?_⟩
    cases b <;> simp

def fullB (b : List Bool) : Bool := b.all fun x => x
def downB (ops : Array Oper) (L : Array Bool) : Bool :=
  (List.range ops.size).all fun i => !L.getD i false || ((ops[i]?).map (·.after.all fun e => !Region.binds .any e || L.getD e.on false)).getD false
/-- what is asked of the region: the operations ahead of k, whatever of them is through, are the ready ones as long as one is left; then the others come one by one; no defer statement, no guard ahead of k -/
def okB (l : List Oper) (k : Nat) : Bool :=
  ((allB k).all fun b =>
    !downB (l.take k).toArray b.toArray ||
      (if fullB b then (Region.ready .any (l.take k).toArray b.toArray).isEmpty
       else !(Region.ready .any (l.take k).toArray b.toArray).isEmpty &&
         (Region.ready .any l.toArray (b.toArray ++ Array.replicate (l.length - k) false) == Region.ready .any (l.take k).toArray b.toArray) &&
         (Region.ready .any (l.take k).toArray b.toArray).all fun i => downB (l.take k).toArray (b.toArray.setIfInBounds i true)))
  && downB (l.take k).toArray (Array.replicate k false)
  && (List.range (l.length - k)).all (fun j => Region.ready .any l.toArray (Array.replicate (k + j) true ++ Array.replicate (l.length - k - j) false) == [k + j])
  && (Region.ready .any l.toArray (Array.replicate l.length true)).isEmpty
  && (l.take k).all (fun o => o.guard.isNone && (match o.op with | .defer _ => false | _ => true))
  && decide (k ≤ l.length)

variable {n : Nat} {P : Program} {Q : Exit → Act → World → Prop} {C : World → Prop} {lr : Nat}

theorem op_quiet {o : Oper} {a : Act} {K : Act → Prop} {K' : Act → World → Prop} {w : World} (hd : ∀ c, o.op ≠ .defer c) (hw : C w) (h : ∀ a w', C w' → K a → K' a w') (hh : o.quiet P a C K) :
    o.wpIn (Fence.wide.inRound lr) n P a w K' Q := by
  obtain ⟨v, h1, h2⟩ := hh
  have h3 := h1 w hw
  unfold Oper.quietAt at h3
  unfold Oper.wpIn
  refine ⟨fun _ _ => trivial, ?_⟩
  show o.uponIn _ n P a K' Q ((o.semAt (some lr) a.eval).run P w)
  rw [Oper.semAt_some lr a.eval o hd]
  generalize (execOp a.eval o).run P w = r at *
  cases r with
  | ok x w' =>
    cases x <;> simp only [Oper.quietUpon] at h3 <;> simp only [Oper.uponIn]
    case value u =>
      obtain ⟨e1, e2⟩ := h3
      rw [e1, e2]
      exact h _ _ hw h2
    case skip =>
      obtain ⟨e1, e2⟩ := h3
      rw [e1, ← e2]
      exact h _ _ hw h2
    case enter f args =>
      obtain ⟨e1, hc⟩ := h3
      rw [e1]
      refine ⟨fun h => by simp [Fence.wide, Fence.inRound] at h, ?_⟩
      refine CallsIn.mono (CallsIn.inRound lr (callsIn_wide.2 hc)) fun e w'' hx => ?_
      obtain ⟨he, hw''⟩ := hx
      subst he; exact h _ _ hw'' h2
  | halt x w' => simp only [Oper.quietUpon] at h3

theorem tail_in {l : List Oper} : ∀ (m j : Nat) (a : Act) (w : World), j + m = l.length →
    (∀ i, j ≤ i → i < l.length → Region.ready .any l.toArray (Array.replicate i true ++ Array.replicate (l.length - i) false) = [i]) → Region.ready .any l.toArray (Array.replicate l.length true) = [] →
    wpListIn (Fence.wide.inRound lr) n P l.toArray Q (l.drop j) a w → ∀ g, wpAnyIn (Fence.wide.inRound lr) n P .any l.toArray Q (g + m) (Array.replicate j true ++ Array.replicate m false) a w := by
  intro m
  induction m with
  | zero =>
    intro j a w hj _ he h g
    have hj' : j = l.length := by omega
    subst hj'
    rw [List.drop_length] at h
    have e : Array.replicate l.length true ++ Array.replicate 0 false = Array.replicate l.length true := by simp
    rw [e]
    cases g with
    | zero => exact ⟨he, h⟩
    | succ g => exact ⟨fun _ => h, fun i hi => by rw [he] at hi; simp at hi⟩
  | succ m ih =>
    intro j a w hj hr he h g
    have hlt : j < l.length := by omega
    have hrj := hr j (Nat.le_refl _) hlt
    rw [show l.length - j = m + 1 by omega] at hrj
    refine ⟨fun h0 => by rw [hrj] at h0; simp at h0, ?_⟩
    intro i hi
    rw [hrj] at hi
    obtain rfl : i = j := by simpa using hi
    rw [List.drop_eq_getElem_cons hlt] at h
    have ho : l.toArray[i]? = some l[i] := by simp [List.getElem?_eq_getElem hlt]
    unfold wpOpIn
    simp only [ho]
    simp only [wpListIn] at h
    have es : (Array.replicate i true ++ Array.replicate (m + 1) false).setIfInBounds i true = Array.replicate (i + 1) true ++ Array.replicate m false := by
      apply Array.ext
      · simp; omega
      · intro k h1 h2
        rw [Array.getElem_setIfInBounds (by simpa using h1)]
        by_cases hk : i = k
        · subst hk; simp
        · simp only [hk, if_false]
          rw [Array.getElem_append, Array.getElem_append]
          simp only [Array.size_replicate, Array.getElem_replicate]
          by_cases h3 : k < i
          · simp [h3, show k < i + 1 by omega]
          · simp [h3, show ¬ k < i + 1 by omega]
    have hk : ∀ a w, wpListIn (Fence.wide.inRound lr) n P l.toArray Q (l.drop (i + 1)) a w → wpAnyIn (Fence.wide.inRound lr) n P .any l.toArray Q (g + m) ((Array.replicate i true ++ Array.replicate (m + 1) false).setIfInBounds i true) a w := by
      intro a w h
      rw [es]
      exact ih (i + 1) a w (by omega) (fun k h1 h2 => hr k (by omega) h2) he h g
    split
    · rename_i hw
      rw [if_pos hw] at h
      exact Oper.wpIn_mono hk h
    · rename_i hw
      rw [if_neg hw] at h
      exact ⟨h.1, hk _ _ h.2⟩

theorem wpIn_region_reads (k : Nat) {rid : Nat} {a : Act} {w : World} {l : List Oper} (hm : P.follows .mixedOrders = true) (hB : Region.lexB .any (l.take k).toArray = true) (hok : okB l k = true)
    (h : wpQuiet P (l.take k).toArray (fun w' => ∃ n, w' = w.drewN n) (fun a' => ∀ w', (∃ n, w' = w.drewN n) → wpListIn (Fence.wide.inRound lr) n P l.toArray Q (l.drop k) a' w') (l.take k) a) :
    (Code.region rid l.toArray true).wpIn (Fence.wide.inRound lr) n P Q a w := by
  simp only [Region.lexB, Bool.and_eq_true] at hB
  simp only [okB, Bool.and_eq_true, List.all_eq_true, decide_eq_true_eq, Bool.or_eq_true, Bool.not_eq_true'] at hok
  obtain ⟨⟨⟨⟨⟨hall, hd0⟩, htl⟩, hend⟩, hng⟩, hkl⟩ := hok
  have hlen : (l.take k).length = k := by simp [hkl]
  have hq := wpAnyQ_lex (md := .any) hB.1 (l.take k) 0 (Array.replicate (l.take k).toArray.size false) a (by simp) (by simpa using hB.2) h
  have main : ∀ (fuel : Nat) (b : List Bool) (a : Act) (w' : World), b.length = k → downB (l.take k).toArray b.toArray = true → (∃ n, w' = w.drewN n) →
      wpAnyQ P .any (l.take k).toArray (fun w' => ∃ n, w' = w.drewN n) (fun a' => ∀ w', (∃ n, w' = w.drewN n) → wpListIn (Fence.wide.inRound lr) n P l.toArray Q (l.drop k) a' w') fuel b.toArray a →
      wpAnyIn (Fence.wide.inRound lr) n P .any l.toArray Q (fuel + (l.length - k)) (b.toArray ++ Array.replicate (l.length - k) false) a w' := by
    intro fuel
    induction fuel with
    | zero =>
      intro b a w' hb hdn hw' hq
      have hb1 := hall b (by rw [← hb]; exact mem_allB b)
      rw [hdn] at hb1
      simp only [Bool.true_eq_false, false_or] at hb1
      by_cases ht : fullB b = true
      · have hbt : b.toArray = Array.replicate k true := by
          apply Array.ext
          · simp [hb]
          · intro i h1 h2
            have := List.all_eq_true.1 ht (b[i]'(by simpa using h1)) (by simp)
            simpa using this
        rw [hbt]
        refine tail_in _ k a w' (by omega) (fun i h1 h2 => ?_) (by simpa using hend) (hq.2 w' hw') 0
        have := htl (i - k) (by simp; omega)
        rw [show k + (i - k) = i by omega, show l.length - k - (i - k) = l.length - i by omega] at this
        simpa using this
      · rw [if_neg ht] at hb1
        have h0 := hq.1
        simp only [Bool.and_eq_true] at hb1
        rw [h0] at hb1
        simp at hb1
    | succ fuel ih =>
      intro b a w' hb hdn hw' hq
      have hb1 := hall b (by rw [← hb]; exact mem_allB b)
      rw [hdn] at hb1
      simp only [Bool.true_eq_false, false_or] at hb1
      by_cases ht : fullB b = true
      · rw [if_pos ht] at hb1
        have hbt : b.toArray = Array.replicate k true := by
          apply Array.ext
          · simp [hb]
          · intro i h1 h2
            have := List.all_eq_true.1 ht (b[i]'(by simpa using h1)) (by simp)
            simpa using this
        have hQ := hq.1 (by simpa using hb1)
        rw [hbt]
        refine tail_in _ k a w' (by omega) (fun i h1 h2 => ?_) (by simpa using hend) (hQ w' hw') (fuel + 1)
        have := htl (i - k) (by simp; omega)
        rw [show k + (i - k) = i by omega, show l.length - k - (i - k) = l.length - i by omega] at this
        simpa using this
      · rw [if_neg ht] at hb1
        simp only [Bool.and_eq_true, Bool.not_eq_true', beq_iff_eq, List.all_eq_true] at hb1
        obtain ⟨⟨hne, heq⟩, hdown⟩ := hb1
        rw [show fuel + 1 + (l.length - k) = (fuel + (l.length - k)) + 1 by omega]
        refine ⟨fun h0 => ?_, fun i hi => ?_⟩
        · rw [heq] at h0; rw [h0] at hne; simp at hne
        · rw [heq] at hi
          have hqi := hq.2 i hi
          obtain ⟨o, ho, _⟩ := (mem_ready.1 hi).2
          have hik : i < k := by
            have := (Array.getElem?_eq_some_iff.1 ho).1
            rw [List.size_toArray, hlen] at this; exact this
          have hmem : o ∈ l.take k := by
            have : (l.take k)[i]? = some o := by simpa using ho
            exact List.mem_of_getElem? this
          have hgo := hng o hmem
          have ho' : l.toArray[i]? = some o := by
            have h1 : (l.take k)[i]? = some o := by simpa using ho
            rw [List.getElem?_take, if_pos hik] at h1
            simpa using h1
          have hdf : ∀ c, o.op ≠ .defer c := by
            intro c e
            rw [e] at hgo; simp at hgo
          have hgd : o.guard = none := by
            have := hgo.1
            simpa using this
          have hwant : ∀ (ops : Array Oper) (a : Act), Region.wanted o (yielded ops a.tmps) = true := by
            intro ops a; unfold Region.wanted; rw [hgd]
          unfold qOp at hqi
          simp only [ho] at hqi
          rw [if_pos (hwant _ _)] at hqi
          unfold wpOpIn
          simp only [ho']
          rw [if_pos (hwant _ _)]
          refine op_quiet hdf hw' (fun a'' w'' hw'' hK => ?_) hqi
          have es : (b.toArray ++ Array.replicate (l.length - k) false).setIfInBounds i true = (b.set i true).toArray ++ Array.replicate (l.length - k) false := by
            apply Array.ext
            · simp
            · intro j h1 h2
              rw [Array.getElem_setIfInBounds (by simpa using h1)]
              by_cases hj : i = j
              · subst hj
                rw [Array.getElem_append]
                simp [hb, hik]
              · simp only [hj, if_false]
                rw [Array.getElem_append, Array.getElem_append]
                by_cases h3 : j < b.length
                · simp [h3, hj]
                · simp [h3]
          rw [es]
          refine ih (b.set i true) a'' w'' (by simp [hb]) ?_ hw'' ?_
          · have := hdown i hi
            rw [show (b.set i true).toArray = b.toArray.setIfInBounds i true by simp]; exact this
          · rw [show (b.set i true).toArray = b.toArray.setIfInBounds i true by simp]; exact hK
  have hfin := main k (List.replicate k false) a { w with drawn := w.drawn + 1 } (by simp) (by simpa using hd0) ⟨1, rfl⟩ (by
    have := hq
    rw [List.size_toArray, hlen] at this
    simpa using this)
  refine wpIn_region_any hm ?_
  have e1 : k + (l.length - k) = l.toArray.size := by simp; omega
  have e2 : (List.replicate k false).toArray ++ Array.replicate (l.length - k) false = Array.replicate l.toArray.size false := by
    rw [← e1]; simp
  rw [← e1]
  rw [← e1] at e2
  rw [← e2]
  exact hfin

end Go.Reads
