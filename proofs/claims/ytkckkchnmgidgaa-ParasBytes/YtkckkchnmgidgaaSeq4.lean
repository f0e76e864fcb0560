/-
  A loop over an iterator that goes itself over another one, whose own blocks (the first m from where it began, and those that bs names) the loop leaves as they are.
-/
import Derived.RangeFuncNested
import Derived.RangeFuncBound
import Derived.RangeFuncCalls
import Derived.RangeFuncLeaves
import Derived.Deep.Draws
namespace Go.Seq4
open Go Go.RowKit

/-- the objects that a loop's round keeps -/
abbrev keepO (o : Obj) : Bool := o.isCells
/-- what a round keeps: iterators, maps; the cells of the m first blocks from B on, and of those that bs names; (Kp4:) from block B on all that is no cells -/
def KpR (m : Nat) (bs : Nat → Prop) (B : Nat) (W W' : World) : Prop :=
  KeepsWalks W W' ∧ ∀ k (o : Obj), (B ≤ k ∧ k < B + m ∨ bs k) → keepO o = true → W.heap[k]? = some o → W'.heap[k]? = some o
def Kp4 (m : Nat) (bs : Nat → Prop) (B : Nat) (W W' : World) : Prop := KeepsFrom B W W' ∧ KpR m bs B W W'
theorem KpR.refl {m : Nat} {bs : Nat → Prop} {B : Nat} (W : World) : KpR m bs B W W := ⟨KeepsWalks.refl _, fun _ _ _ _ h => h⟩
theorem KpR.trans {m : Nat} {bs : Nat → Prop} {B : Nat} {X Y Z : World} (h : KpR m bs B X Y) (k : KpR m bs B Y Z) : KpR m bs B X Z := ⟨h.1.trans k.1, fun i o hi ho hx => k.2 i o hi ho (h.2 i o hi ho hx)⟩
theorem KpR.put {m : Nat} {bs : Nat → Prop} {B : Nat} {W : World} {l : Nat} {o : Obj} (o' : Obj) (hl : W.heap[l]? = some o) (ho : o.isCells = false) (hw : o.isWalk = false) : KpR m bs B W (W.putObj l o') := by
  refine ⟨KeepsWalks.putObj _ hl hw, ?_⟩
  intro k ob _ hc hx
  have hne : k ≠ l := by
    intro e; subst e
    rw [hl] at hx; cases hx
    exact absurd hc (by simp [keepO, ho])
  exact (World.putObj_heap_other hne).trans hx

/-- a store into the blocks from B + a up to B + b fells nothing of it -/
def CalmR {β : Type} (B a b : Nat) (J : β → World → Prop) : Prop :=
  ∀ s W k o v, B + a ≤ k → k < B + b → J s W → J s (W.setCell ⟨k, o, none⟩ v)
theorem CalmR.none {β : Type} (B a : Nat) (J : β → World → Prop) : CalmR B a a J := fun _ _ _ _ _ h1 h2 _ => by omega
theorem CalmR.and {β : Type} {B a b : Nat} {I J : β → World → Prop} (h : CalmR B a b I) (k : CalmR B a b J) : CalmR B a b (fun s W => I s W ∧ J s W) :=
  fun s W i o v h1 h2 h3 => ⟨h s W i o v h1 h2 h3.1, k s W i o v h1 h2 h3.2⟩

theorem yieldIn {n m lr : Nat} {P : Program} {l : Nat} {args : Array Value} {W : World} {R : Ending → World → Prop} (h : YieldAt Fence.wide n P l args W R) : YieldAt (Fence.wide.inRound lr) m P l args W R := by
  obtain ⟨fn, tmps, assign, body, hy, hR⟩ := h
  exact ⟨fn, tmps, assign, body, hy, trivial, fun c cs _ => hR.2 c cs (room_wide _)⟩
theorem grown_drewN (w : World) (n : Nat) (row : Option Nat) : w.grownBy (w.drewN n) row := ⟨rfl, rfl, rfl, Nat.le_refl _, fun _ _ _ => rfl⟩

theorem OwnFrom.le {β : Type} {B B' : Nat} {I : β → World → Prop} (h : OwnFrom B I) (hle : B ≤ B') : OwnFrom B' I :=
  fun s W W' row hs hg hr => h s W W' row hs hg fun r e => ⟨Nat.le_trans hle (hr r e).1, (hr r e).2⟩
theorem keep_below {W W' : World} {row : Option Nat} {B k : Nat} {o : Obj} (hk : k < B) (h : W.heap[k]? = some o) (hg : W.grownBy W' row) (hr : ∀ r, row = some r → B ≤ r) : W'.heap[k]? = some o :=
  (hg.block k (Array.getElem?_eq_some_iff.1 h).1 (fun e => by have := hr k e.symm; omega)).trans h

/-- what the iterator promises to every loop over it -/
def Gives4 {α : Type} (n : Nat) (P : Program) (g : Nat) (lb : Array Value) (encs : α → Array Value) (m : Nat) (bs : Nat → Prop) (ca cb : Nat) (S Sp : List α → Prop) (w : World) : Prop :=
  ∀ (l : Nat) (J Jx : List α → World → Prop) (W : World), Below w.heap.size w W → OwnFrom W.heap.size J → OwnFrom W.heap.size Jx → CalmR W.heap.size ca cb J →
    (∀ pre x W1, J pre W1 → Sp (pre ++ [x]) → W.heap.size + m ≤ W1.heap.size → YieldAt Fence.wide (n - 1) P l (encs x) W1 fun e W' =>
      (e = .returned (.bool true) ∧ J (pre ++ [x]) W' ∧ Kp4 m bs W.heap.size W1 W') ∨ (e = .returned (.bool false) ∧ Jx (pre ++ [x]) W' ∧ KeepsFrom W.heap.size W1 W')) →
    J [] W →
    CallsIn Fence.wide n P g (#[.func (.yield l) #[] #[]] ++ lb) W fun e W' => (∃ v, e = .returned v) ∧ ((∃ xs, S xs ∧ J xs W') ∨ (∃ pre, Sp pre ∧ Jx pre W'))

theorem range4 {α : Type} {n : Nat} {P : Program} {g : Operand} {ps : Array Tmp} {assign body : Code} {Q : Exit → Act → World → Prop} {a : Act} {w : World}
    (h1 : 1 ≤ n) {gf : Nat} {lb : Array Value} (hg : a.eval g = .func (.func gf) #[] lb) (eg : ∀ args w, (callFunc gf args).run P w = .ok (.enter gf args) w)
    {encs : α → Array Value} {m : Nat} {bs : Nat → Prop} {ca cb : Nat} {S Sp : List α → Prop} {w0 : World} (hseq : Gives4 (n - 1) P gf lb encs m bs ca cb S Sp w0)
    (hb0 : Below w0.heap.size w0 w) (hps : ∀ x, (encs x).size = ps.size)
    (I : List α → World → Prop) (Ix : Code → List α → World → Prop) (hI : OwnFrom w.heap.size I) (hIx : ∀ c, OwnFrom w.heap.size (Ix c)) (hIc : CalmR (w.heap.size + 2) ca cb I) (h0 : I [] w) (Ax : α → Act → World → Prop) (hAx : ∀ x a', OwnFrom w.heap.size (fun (_ : Unit) W => Ax x a' W))
    (hassign : ∀ (l : Nat) (pre : List α) (x : α) (W : World) (K : Act → World → Prop), w.heap.size + 2 + m ≤ W.heap.size → I pre W → (∀ a' W', KeepsFrom w.heap.size W W' → KpR m bs (w.heap.size + 2) W W' → I pre W' → Ax x a' W' → K a' W') →
      assign.wpIn (Fence.wide.inRound l) (n - 1 - 1) P (Exit.then K (fun _ _ _ => False)) { tmps := (ps.zip (encs x)).foldl (fun t (p, v) => t.setIfInBounds p v) a.tmps, defers := [] } W)
    (hbody : ∀ (l : Nat) (pre : List α) (x : α) (a' : Act) (W : World), w.heap.size ≤ l → w.heap.size + 2 + m ≤ W.heap.size → (∃ r, W.heap[l]? = some (.loop r)) → I pre W → Ax x a' W → Sp (pre ++ [x]) →
      body.wpIn (Fence.wide.inRound l) (n - 1 - 1) P (ownPostG w.heap.size (KpR m bs (w.heap.size + 2)) I Ix (pre ++ [x]) W) a' W)
    (hdone : ∀ (D : Nat) (xs : List α) (W : World), w.heap.size ≤ D → S xs → I xs W → W.heap[D]? = some (.deferred (some [])) → Q .normal { a with defers := { target := .collected D, args := #[] } :: a.defers } W)
    (hstop : ∀ (D : Nat) (c : Code) (pre : List α) (W : World), w.heap.size ≤ D → Sp pre → Ix c pre W → W.heap[D]? = some (.deferred (some [])) → c.wpIn Fence.wide n P Q { a with defers := { target := .collected D, args := #[] } :: a.defers } W) :
    (Code.rangeFunc g ps assign body).wpIn Fence.wide n P Q a w := by
  refine wpIn_rangeFunc fun fn hfn => ?_
  obtain ⟨R, hR⟩ : ∃ R : LoopState → Option Code → Loop, R = fun st pe => { state := st, pending := pe, fn, tmps := a.tmps, params := ps, assign, body, defers := w.heap.size } := ⟨_, rfl⟩
  obtain ⟨V, hV⟩ : ∃ V, (w.alloc (.deferred (some []))).alloc (.loop (R .ready none)) = V := ⟨_, rfl⟩
  have hVs : V.heap.size = w.heap.size + 2 := by rw [← hV]; simp
  have hVL : V.heap[w.heap.size + 1]? = some (.loop (R .ready none)) := by
    have := World.alloc_heap_new (w.alloc (.deferred (some []))) (.loop (R .ready none))
    rw [World.size_alloc] at this; rw [← hV]; exact this
  have hVD : V.heap[w.heap.size]? = some (.deferred (some [])) := by
    rw [← hV]; exact (Below.heap_alloc _ _ _ (by simp)).trans (World.alloc_heap_new w _)
  have hVb : Below w0.heap.size w0 V := by
    rw [← hV]; exact hb0.trans ((((Below.refl _ w).alloc (Nat.le_refl _) _).alloc (by simp) _).mono hb0.size)
  have hVI : I [] V := by rw [← hV]; exact hI.alloc _ (hI.alloc _ h0)
  have ge : ∀ {row : Option Nat} {A : World}, (∀ r, row = some r → V.heap.size ≤ r ∧ ∃ o : Obj, A.heap[r]? = some o ∧ o.isCells = false) → ∀ r, row = some r → w.heap.size + 2 ≤ r := fun hr r e => by have := (hr r e).1; omega
  refine ⟨w.heap.size + 1, [{ target := .collected w.heap.size, args := #[] }], V, { target := .fn (.func gf) lb, args := #[.func (.yield (w.heap.size + 1)) #[] #[]] }, V, gf,
    #[.func (.yield (w.heap.size + 1)) #[] #[]] ++ lb, V, ?_, ?_, fun _ _ => trivial, ?_, fun _ => h1, ?_⟩
  · rw [← hV, hR]; exact run_enterLoop_outer _ _ _ _ _
  · simp only [resolve, hg]
    simp [go_sem]
  · simp [invoke, go_sem, eg]
  refine (hseq (w.heap.size + 1)
    (fun pre W => I pre W ∧ W.heap[w.heap.size + 1]? = some (.loop (R .ready none)) ∧ W.heap[w.heap.size]? = some (.deferred (some [])))
    (fun pre W => ∃ c, Ix c pre W ∧ W.heap[w.heap.size + 1]? = some (.loop (R .done (some c))) ∧ W.heap[w.heap.size]? = some (.deferred (some [])))
    V hVb ?_ ?_ ?_ ?_ ⟨hVI, hVL, hVD⟩).mono ?_
  · rintro s A B row ⟨x1, x2, x3⟩ hgr hr
    exact ⟨OwnFrom.le hI (by omega) s A B row x1 hgr hr, keep_below (by omega) x2 hgr (ge hr), keep_below (by omega) x3 hgr (ge hr)⟩
  · rintro s A B row ⟨c, x1, x2, x3⟩ hgr hr
    exact ⟨c, OwnFrom.le (hIx c) (by omega) s A B row x1 hgr hr, keep_below (by omega) x2 hgr (ge hr), keep_below (by omega) x3 hgr (ge hr)⟩
  · rintro s A k o v q1 q2 ⟨x1, x2, x3⟩
    rw [hVs] at q1 q2
    exact ⟨hIc s A k o v q1 q2 x1, (Below.heap_setCell _ _ _ _ (by simp; omega)).trans x2, (Below.heap_setCell _ _ _ _ (by simp; omega)).trans x3⟩
  · rintro pre x W ⟨x1, x2, x3⟩ hlen hmm
    rw [hVs] at hmm
    have hy := run_yield (P := P) (args := encs x) x2 (by rw [hR]; exact hps x)
    rw [hR] at hy
    have hlt : w.heap.size + 1 < W.heap.size := (Array.getElem?_eq_some_iff.1 x2).1
    refine ⟨fn, _, assign, body, hy, roundIn_of_wpIn hfn (hassign _ pre x W _ hmm x1 ?_)⟩
    intro a' X kf kb xi xa
    have y2 := kf.same _ _ (by omega) x2 rfl
    have y3 := kf.same _ _ (Nat.le_refl _) x3 rfl
    have hltX : w.heap.size + 1 < X.heap.size := (Array.getElem?_eq_some_iff.1 y2).1
    refine ⟨_, run_beginRound y2 (by rw [hR]), ?_⟩
    obtain ⟨Y, hY⟩ : ∃ Y, X.putObj (w.heap.size + 1) (.loop { R .ready none with state := .busy }) = Y := ⟨_, rfl⟩
    have z2 : Y.heap[w.heap.size + 1]? = some (.loop { R .ready none with state := .busy }) := by rw [← hY]; exact World.putObj_heap_same hltX
    have z3 : Y.heap[w.heap.size]? = some (.deferred (some [])) := by rw [← hY]; exact (World.putObj_heap_other (by omega)).trans y3
    have zi : I pre Y := by rw [← hY]; exact hI.putObj _ xi (by omega) y2 rfl
    have za : Ax x a' Y := by rw [← hY]; exact (hAx x a').putObj (s := ()) _ xa (by omega) y2 rfl
    have zb : KpR m bs (w.heap.size + 2) W Y := kb.trans (by rw [← hY]; exact KpR.put _ y2 rfl rfl)
    have zk : KeepsFrom (w.heap.size + 2) W Y := ⟨by rw [← hY]; simpa using kf.size, fun k o hB hk ho => by
      rw [← hY]; exact (World.putObj_heap_other (by omega)).trans (kf.same k o (by omega) hk ho)⟩
    have zl : w.heap.size + 2 + m ≤ Y.heap.size := by
      rw [← hY]; simp
      have := kf.size
      omega
    rw [hY]
    refine wpIn_mono (hbody _ pre x a' Y (by omega) zl ⟨_, z2⟩ zi za hlen) ?_
    -- the end of a round
    have fin : ∀ (jump : Option Code) (Z : World), KeepsFrom w.heap.size Y Z → ∃ Z', (Instr.endRound (w.heap.size + 1) jump).run P Z = .ok (.bool jump.isNone) Z' ∧
        Z'.heap[w.heap.size + 1]? = some (.loop (R (if jump.isNone then .ready else .done) jump)) ∧ Z'.heap[w.heap.size]? = some (.deferred (some [])) ∧
        (∀ xs, I xs Z → I xs Z') ∧ (∀ c xs, Ix c xs Z → Ix c xs Z') ∧ KpR m bs (w.heap.size + 2) Z Z' ∧ KeepsFrom (w.heap.size + 2) Z Z' := by
      intro jump Z hk
      have q2 := hk.same _ _ (by omega) z2 rfl
      have q3 := hk.same _ _ (Nat.le_refl _) z3 rfl
      refine ⟨_, run_endRound (P := P) jump q2, ?_, (World.putObj_heap_other (by omega)).trans q3, fun xs hx => hI.putObj _ hx (by omega) q2 rfl, fun c xs hx => (hIx c).putObj _ hx (by omega) q2 rfl, KpR.put _ q2 rfl rfl, ?_⟩
      · rw [World.putObj_heap_same (Array.getElem?_eq_some_iff.1 q2).1, hR]
      · exact ⟨by simp, fun k o hB hk ho => (World.putObj_heap_other (by omega)).trans hk⟩
    rintro e a3 Z hp
    cases e with
    | normal =>
      obtain ⟨k1, k2, k3⟩ := hp
      obtain ⟨Z', e1, e2, e3, e4, _, e6, e7⟩ := fin none Z k1
      refine ⟨_, _, e1, .inl ⟨rfl, ⟨e4 _ k3, e2, e3⟩, ?_⟩⟩
      rw [hVs]
      exact ⟨(zk.trans ⟨k1.size, fun k o hB => k1.same k o (by omega)⟩).trans e7, (zb.trans k2).trans e6⟩
    | ret =>
      obtain ⟨k1, k3⟩ := hp
      obtain ⟨Z', e1, e2, e3, _, e5, _, e7⟩ := fin (some .ret) Z k1
      exact ⟨_, _, e1, .inr ⟨rfl, ⟨.ret, e5 _ _ k3, e2, e3⟩, by rw [hVs]; exact (zk.trans ⟨k1.size, fun k o hB => k1.same k o (by omega)⟩).trans e7⟩⟩
    | exit id =>
      obtain ⟨k1, k3⟩ := hp
      obtain ⟨Z', e1, e2, e3, _, e5, _, e7⟩ := fin (some (.exit id)) Z k1
      exact ⟨_, _, e1, .inr ⟨rfl, ⟨.exit id, e5 _ _ k3, e2, e3⟩, by rw [hVs]; exact (zk.trans ⟨k1.size, fun k o hB => k1.same k o (by omega)⟩).trans e7⟩⟩
    | goto t =>
      obtain ⟨k1, k3⟩ := hp
      obtain ⟨Z', e1, e2, e3, _, e5, _, e7⟩ := fin (some (.goto t)) Z k1
      exact ⟨_, _, e1, .inr ⟨rfl, ⟨.goto t, e5 _ _ k3, e2, e3⟩, by rw [hVs]; exact (zk.trans ⟨k1.size, fun k o hB => k1.same k o (by omega)⟩).trans e7⟩⟩
    | panic ch => exact hp.elim
    | outgrown => exact hp.elim
  · rintro e Z ⟨⟨v, rfl⟩, (⟨xs, hS, x1, x2, x3⟩ | ⟨pre, hSp, c, x1, x2, x3⟩)⟩
    · refine ⟨none, _, by have := run_endLoop (P := P) x2 (by rw [hR]; simp); rw [hR] at this; exact this, ?_⟩
      exact hdone _ xs _ (Nat.le_refl _) hS (hI.putObj _ x1 (by omega) x2 rfl) ((World.putObj_heap_other (by omega)).trans x3)
    · refine ⟨some c, _, by have := run_endLoop (P := P) x2 (by rw [hR]; simp); rw [hR] at this; exact this, ?_⟩
      exact hstop _ c pre _ (Nat.le_refl _) hSp ((hIx c).putObj _ x1 (by omega) x2 rfl) ((World.putObj_heap_other (by omega)).trans x3)

/-- the same, where the loop's variables are no boxes -/
theorem range4G {α : Type} {n : Nat} {P : Program} {g : Operand} {ps : Array Tmp} {assign body : Code} {Q : Exit → Act → World → Prop} {a : Act} {w : World}
    (h1 : 1 ≤ n) {gf : Nat} {lb : Array Value} (hg : a.eval g = .func (.func gf) #[] lb) (eg : ∀ args w, (callFunc gf args).run P w = .ok (.enter gf args) w)
    {encs : α → Array Value} {m : Nat} {bs : Nat → Prop} {ca cb : Nat} {S Sp : List α → Prop} {w0 : World} (hseq : Gives4 (n - 1) P gf lb encs m bs ca cb S Sp w0)
    (hb0 : Below w0.heap.size w0 w) (hps : ∀ x, (encs x).size = ps.size)
    (I : List α → World → Prop) (Ix : Code → List α → World → Prop) (hI : OwnFrom w.heap.size I) (hIx : ∀ c, OwnFrom w.heap.size (Ix c)) (hIc : CalmR (w.heap.size + 2) ca cb I) (h0 : I [] w) (a₁ : α → Act)
    (hassign : ∀ (l : Nat) (x : α) (W : World) (K : Act → World → Prop), K (a₁ x) W →
      assign.wpIn (Fence.wide.inRound l) (n - 1 - 1) P (Exit.then K (fun _ _ _ => False)) { tmps := (ps.zip (encs x)).foldl (fun t (p, v) => t.setIfInBounds p v) a.tmps, defers := [] } W)
    (hbody : ∀ (l : Nat) (pre : List α) (x : α) (W : World), w.heap.size ≤ l → w.heap.size + 2 + m ≤ W.heap.size → (∃ r, W.heap[l]? = some (.loop r)) → I pre W → Sp (pre ++ [x]) →
      body.wpIn (Fence.wide.inRound l) (n - 1 - 1) P (ownPostG w.heap.size (KpR m bs (w.heap.size + 2)) I Ix (pre ++ [x]) W) (a₁ x) W)
    (hdone : ∀ (D : Nat) (xs : List α) (W : World), w.heap.size ≤ D → S xs → I xs W → W.heap[D]? = some (.deferred (some [])) → Q .normal { a with defers := { target := .collected D, args := #[] } :: a.defers } W)
    (hstop : ∀ (D : Nat) (c : Code) (pre : List α) (W : World), w.heap.size ≤ D → Sp pre → Ix c pre W → W.heap[D]? = some (.deferred (some [])) → c.wpIn Fence.wide n P Q { a with defers := { target := .collected D, args := #[] } :: a.defers } W) :
    (Code.rangeFunc g ps assign body).wpIn Fence.wide n P Q a w :=
  range4 h1 hg eg hseq hb0 hps I Ix hI hIx hIc h0 (fun x a' _ => a' = a₁ x) (fun _ _ _ _ _ _ h _ _ => h)
    (fun l pre x W K _ hi hK => hassign l x W K (hK _ _ (KeepsFrom.refl _ _) (KpR.refl _) hi rfl)) (fun l pre x a' W hl hw hr hi e hlen => by subst e; exact hbody l pre x W hl hw hr hi hlen) hdone hstop

/-- the same, where the loop's variable lies in a box of its own -/
theorem range4B {α : Type} {n : Nat} {P : Program} {g : Operand} {ps : Array Tmp} {assign body : Code} {Q : Exit → Act → World → Prop} {a : Act} {w : World}
    (h1 : 1 ≤ n) {gf : Nat} {lb : Array Value} (hg : a.eval g = .func (.func gf) #[] lb) (eg : ∀ args w, (callFunc gf args).run P w = .ok (.enter gf args) w)
    {encs : α → Array Value} {m : Nat} {bs : Nat → Prop} {ca cb : Nat} {S Sp : List α → Prop} {w0 : World} (hseq : Gives4 (n - 1) P gf lb encs m bs ca cb S Sp w0)
    (hb0 : Below w0.heap.size w0 w) (hps : ∀ x, (encs x).size = ps.size)
    (I : List α → World → Prop) (Ix : Code → List α → World → Prop) (hI : OwnFrom w.heap.size I) (hIx : ∀ c, OwnFrom w.heap.size (Ix c)) (hIc : CalmR (w.heap.size + 2) ca cb I) (h0 : I [] w) (o : α → Obj) (ho : ∀ x, (o x).isCells = true) (F : α → Nat → Act)
    (hassign : ∀ (l : Nat) (x : α) (W : World) (K : Act → World → Prop), (∀ Bx, Bx = W.heap.size → K (F x Bx) (W.alloc (o x))) →
      assign.wpIn (Fence.wide.inRound l) (n - 1 - 1) P (Exit.then K (fun _ _ _ => False)) { tmps := (ps.zip (encs x)).foldl (fun t (p, v) => t.setIfInBounds p v) a.tmps, defers := [] } W)
    (hbody : ∀ (l : Nat) (pre : List α) (x : α) (Bx : Nat) (W : World), w.heap.size ≤ l → w.heap.size + 2 + m ≤ W.heap.size → (∃ r, W.heap[l]? = some (.loop r)) → I pre W → W.heap[Bx]? = some (o x) → w.heap.size + 2 + m ≤ Bx → Sp (pre ++ [x]) →
      body.wpIn (Fence.wide.inRound l) (n - 1 - 1) P (ownPostG w.heap.size (KpR m bs (w.heap.size + 2)) I Ix (pre ++ [x]) W) (F x Bx) W)
    (hdone : ∀ (D : Nat) (xs : List α) (W : World), w.heap.size ≤ D → S xs → I xs W → W.heap[D]? = some (.deferred (some [])) → Q .normal { a with defers := { target := .collected D, args := #[] } :: a.defers } W)
    (hstop : ∀ (D : Nat) (c : Code) (pre : List α) (W : World), w.heap.size ≤ D → Sp pre → Ix c pre W → W.heap[D]? = some (.deferred (some [])) → c.wpIn Fence.wide n P Q { a with defers := { target := .collected D, args := #[] } :: a.defers } W) :
    (Code.rangeFunc g ps assign body).wpIn Fence.wide n P Q a w :=
  range4 h1 hg eg hseq hb0 hps I Ix hI hIx hIc h0 (fun x a' W => ∃ Bx, W.heap[Bx]? = some (o x) ∧ w.heap.size + 2 + m ≤ Bx ∧ a' = F x Bx)
    (fun x a' st A B row hx hg hr => by
      obtain ⟨Bx, h1, h2, h3⟩ := hx
      exact ⟨Bx, (grownBy_keeps_cells hg (fun r e => (hr r e).2) h1 (ho x)).trans h1, h2, h3⟩)
    (fun l pre x W K hs hi hK => hassign l x W K fun Bx hBx => hK _ _ ((KeepsOthers.alloc _ _).from _) ⟨KeepsWalks.alloc _ _, fun k ob _ _ h => (Below.heap_alloc W _ _ (Array.getElem?_eq_some_iff.1 h).1).trans h⟩ (hI.alloc _ hi) ⟨Bx, by rw [hBx]; exact World.alloc_heap_new W _, by omega, rfl⟩)
    (fun l pre x a' W hl hw hr hi hx hlen => by
      obtain ⟨Bx, q1, q2, rfl⟩ := hx
      exact hbody l pre x Bx W hl hw hr hi q1 q2 hlen) hdone hstop
theorem own_block {β : Type} (B b : Nat) (o : Obj) (ho : o.isCells = true) : OwnFrom B (fun (_ : β) W => W.heap[b]? = some o) :=
  fun _ _ _ _ hs hg hr => (grownBy_keeps_cells hg (fun r e => (hr r e).2) hs ho).trans hs
theorem own_blockF {β : Type} (B b : Nat) (o : β → Obj) (ho : ∀ x, (o x).isCells = true) : OwnFrom B (fun x W => W.heap[b]? = some (o x)) :=
  fun x _ _ _ hs hg hr => (grownBy_keeps_cells hg (fun r e => (hr r e).2) hs (ho x)).trans hs
theorem own_pure {β : Type} (B : Nat) (p : β → Prop) : OwnFrom B (fun b (_ : World) => p b) := fun _ _ _ _ hs _ _ => hs
theorem own_size {β : Type} (B n : Nat) : OwnFrom B (fun (_ : β) (W : World) => n ≤ W.heap.size) := fun _ _ _ _ hs hg _ => Nat.le_trans hs hg.size
theorem below_put {B D : Nat} {w V : World} (h : Below B w V) (hD : B ≤ D) (o : Obj) : Below B w (V.putObj D o) :=
  h.trans ⟨rfl, rfl, rfl, by simp, fun k hk => World.putObj_heap_other (by omega)⟩
end Go.Seq4
