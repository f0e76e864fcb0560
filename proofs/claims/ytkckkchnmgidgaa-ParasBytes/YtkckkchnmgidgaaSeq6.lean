/-
  A loop over an iterator that makes memory of its own before it tells anything, of which nobody knows how much: the loop's promise is given for every number m of blocks that it must leave as they are.
-/
import Derived.Test.YtkckkchnmgidgaaSeq4
namespace Go.Seq6
open Go Go.RowKit Go.Seq4

/-- what the iterator promises to every loop over it -/
def Gives6 {α : Type} (n : Nat) (P : Program) (g : Nat) (lb : Array Value) (encs : α → Array Value) (S Sp : List α → Prop) (w : World) : Prop :=
  ∀ (l : Nat) (J : Nat → List α → World → Prop) (Jx : List α → World → Prop) (W : World), Below w.heap.size w W → (∀ m, OwnFrom W.heap.size (J m)) → OwnFrom W.heap.size Jx →
    (∀ m pre x W1, J m pre W1 → Sp (pre ++ [x]) → W.heap.size + m ≤ W1.heap.size → YieldAt Fence.wide (n - 1) P l (encs x) W1 fun e W' =>
      (e = .returned (.bool true) ∧ J m (pre ++ [x]) W' ∧ Kp4 m (fun _ => False) W.heap.size W1 W') ∨ (e = .returned (.bool false) ∧ Jx (pre ++ [x]) W' ∧ KeepsFrom W.heap.size W1 W')) →
    (∀ m, J m [] W) →
    CallsIn Fence.wide n P g (#[.func (.yield l) #[] #[]] ++ lb) W fun e W' => (∃ v, e = .returned v) ∧ ((∃ m xs, S xs ∧ J m xs W') ∨ (∃ pre, Sp pre ∧ Jx pre W'))

theorem range6 {α : Type} {n : Nat} {P : Program} {g : Operand} {ps : Array Tmp} {assign body : Code} {Q : Exit → Act → World → Prop} {a : Act} {w : World}
    (h1 : 1 ≤ n) {gf : Nat} {lb : Array Value} (hg : a.eval g = .func (.func gf) #[] lb) (eg : ∀ args w, (callFunc gf args).run P w = .ok (.enter gf args) w)
    {encs : α → Array Value} {S Sp : List α → Prop} {w0 : World} (hseq : Gives6 (n - 1) P gf lb encs S Sp w0)
    (hb0 : Below w0.heap.size w0 w) (hps : ∀ x, (encs x).size = ps.size)
    (I : Nat → List α → World → Prop) (Ix : Code → List α → World → Prop) (hI : ∀ m, OwnFrom w.heap.size (I m)) (hIx : ∀ c, OwnFrom w.heap.size (Ix c)) (h0 : ∀ m, I m [] w) (Ax : Nat → α → Act → World → Prop) (hAx : ∀ m x a', OwnFrom w.heap.size (fun (_ : Unit) W => Ax m x a' W))
    (hassign : ∀ (m l : Nat) (pre : List α) (x : α) (W : World) (K : Act → World → Prop), w.heap.size + 2 + m ≤ W.heap.size → I m pre W → (∀ a' W', KeepsFrom w.heap.size W W' → KpR m (fun _ => False) (w.heap.size + 2) W W' → I m pre W' → Ax m x a' W' → K a' W') →
      assign.wpIn (Fence.wide.inRound l) (n - 1 - 1) P (Exit.then K (fun _ _ _ => False)) { tmps := (ps.zip (encs x)).foldl (fun t (p, v) => t.setIfInBounds p v) a.tmps, defers := [] } W)
    (hbody : ∀ (m l : Nat) (pre : List α) (x : α) (a' : Act) (W : World), w.heap.size ≤ l → w.heap.size + 2 + m ≤ W.heap.size → (∃ r, W.heap[l]? = some (.loop r)) → I m pre W → Ax m x a' W → Sp (pre ++ [x]) →
      body.wpIn (Fence.wide.inRound l) (n - 1 - 1) P (ownPostG w.heap.size (KpR m (fun _ => False) (w.heap.size + 2)) (I m) Ix (pre ++ [x]) W) a' W)
    (hdone : ∀ (D m : Nat) (xs : List α) (W : World), w.heap.size ≤ D → S xs → I m xs W → W.heap[D]? = some (.deferred (some [])) → Q .normal { a with defers := { target := .collected D, args := #[] } :: a.defers } W)
    (hstop : ∀ (D : Nat) (c : Code) (pre : List α) (W : World), w.heap.size ≤ D → Sp pre → Ix c pre W → W.heap[D]? = some (.deferred (some [])) → c.wpIn Fence.wide n P Q { a with defers := { target := .collected D, args := #[] } :: a.defers } W) :
    (Code.rangeFunc g ps assign body).wpIn Fence.wide n P Q a w := by
  refine wpIn_rangeFunc fun fn hfn => ?_
  obtain ⟨R, hR⟩ : ∃ R : LoopState → Option Code → Loop, R = fun st pe => { state := st, pending := pe, fn, tmps := a.tmps, params := ps, assign, body, defers := w.heap.size } := ⟨_, rfl⟩
  obtain ⟨V, hV⟩ : ∃ V, (w.alloc (.deferred (some []))).alloc (.loop (R .ready none)) = V := ⟨_, rfl⟩
  have hVs : V.heap.size = w.heap.size + 2 := by rw [← hV]; simp
  have hVL : V.heap[w.heap.size + 1]? = some (.loop (R .ready none)) := by
    have := World.alloc_heap_new (w.alloc (.deferred (some []))) (.loop (R .ready none))
    rw [World.size_alloc] at this; rw [← hV]; exact this
  have hVD : V.heap[w.heap.size]? = some (.deferred (some [])) := by
    rw [← hV]; exact (Below.heap_alloc _ _ _ (by simp)).trans (World.alloc_heap_new w _)
  have hVb : Below w0.heap.size w0 V := by
    rw [← hV]; exact hb0.trans ((((Below.refl _ w).alloc (Nat.le_refl _) _).alloc (by simp) _).mono hb0.size)
  have hVI : ∀ m, I m [] V := fun m => by rw [← hV]; exact (hI m).alloc _ ((hI m).alloc _ (h0 m))
  have ge : ∀ {row : Option Nat} {A : World}, (∀ r, row = some r → V.heap.size ≤ r ∧ ∃ o : Obj, A.heap[r]? = some o ∧ o.isCells = false) → ∀ r, row = some r → w.heap.size + 2 ≤ r := fun hr r e => by have := (hr r e).1; omega
  refine ⟨w.heap.size + 1, [{ target := .collected w.heap.size, args := #[] }], V, { target := .fn (.func gf) lb, args := #[.func (.yield (w.heap.size + 1)) #[] #[]] }, V, gf,
    #[.func (.yield (w.heap.size + 1)) #[] #[]] ++ lb, V, ?_, ?_, fun _ _ => trivial, ?_, fun _ => h1, ?_⟩
  · rw [← hV, hR]; exact run_enterLoop_outer _ _ _ _ _
  · simp only [resolve, hg]
    simp [go_sem]
  · simp [invoke, go_sem, eg]
  refine (hseq (w.heap.size + 1)
    (fun m pre W => I m pre W ∧ W.heap[w.heap.size + 1]? = some (.loop (R .ready none)) ∧ W.heap[w.heap.size]? = some (.deferred (some [])))
    (fun pre W => ∃ c, Ix c pre W ∧ W.heap[w.heap.size + 1]? = some (.loop (R .done (some c))) ∧ W.heap[w.heap.size]? = some (.deferred (some [])))
    V hVb ?_ ?_ ?_ (fun m => ⟨hVI m, hVL, hVD⟩)).mono ?_
  · rintro m s A B row ⟨x1, x2, x3⟩ hgr hr
    exact ⟨OwnFrom.le (hI m) (by omega) s A B row x1 hgr hr, keep_below (by omega) x2 hgr (ge hr), keep_below (by omega) x3 hgr (ge hr)⟩
  · rintro s A B row ⟨c, x1, x2, x3⟩ hgr hr
    exact ⟨c, OwnFrom.le (hIx c) (by omega) s A B row x1 hgr hr, keep_below (by omega) x2 hgr (ge hr), keep_below (by omega) x3 hgr (ge hr)⟩
  · rintro m pre x W ⟨x1, x2, x3⟩ hlen hmm
    rw [hVs] at hmm
    have hy := run_yield (P := P) (args := encs x) x2 (by rw [hR]; exact hps x)
    rw [hR] at hy
    have hlt : w.heap.size + 1 < W.heap.size := (Array.getElem?_eq_some_iff.1 x2).1
    refine ⟨fn, _, assign, body, hy, roundIn_of_wpIn hfn (hassign m _ pre x W _ hmm x1 ?_)⟩
    intro a' X kf kb xi xa
    have y2 := kf.same _ _ (by omega) x2 rfl
    have y3 := kf.same _ _ (Nat.le_refl _) x3 rfl
    have hltX : w.heap.size + 1 < X.heap.size := (Array.getElem?_eq_some_iff.1 y2).1
    refine ⟨_, run_beginRound y2 (by rw [hR]), ?_⟩
    obtain ⟨Y, hY⟩ : ∃ Y, X.putObj (w.heap.size + 1) (.loop { R .ready none with state := .busy }) = Y := ⟨_, rfl⟩
    have z2 : Y.heap[w.heap.size + 1]? = some (.loop { R .ready none with state := .busy }) := by rw [← hY]; exact World.putObj_heap_same hltX
    have z3 : Y.heap[w.heap.size]? = some (.deferred (some [])) := by rw [← hY]; exact (World.putObj_heap_other (by omega)).trans y3
    have zi : I m pre Y := by rw [← hY]; exact (hI m).putObj _ xi (by omega) y2 rfl
    have za : Ax m x a' Y := by rw [← hY]; exact (hAx m x a').putObj (s := ()) _ xa (by omega) y2 rfl
    have zb : KpR m (fun _ => False) (w.heap.size + 2) W Y := kb.trans (by rw [← hY]; exact KpR.put _ y2 rfl rfl)
    have zk : KeepsFrom (w.heap.size + 2) W Y := ⟨by rw [← hY]; simpa using kf.size, fun k o hB hk ho => by
      rw [← hY]; exact (World.putObj_heap_other (by omega)).trans (kf.same k o (by omega) hk ho)⟩
    have zl : w.heap.size + 2 + m ≤ Y.heap.size := by
      rw [← hY]; simp
      have := kf.size
      omega
    rw [hY]
    refine wpIn_mono (hbody m _ pre x a' Y (by omega) zl ⟨_, z2⟩ zi za hlen) ?_
    -- the end of a round
    have fin : ∀ (jump : Option Code) (Z : World), KeepsFrom w.heap.size Y Z → ∃ Z', (Instr.endRound (w.heap.size + 1) jump).run P Z = .ok (.bool jump.isNone) Z' ∧
        Z'.heap[w.heap.size + 1]? = some (.loop (R (if jump.isNone then .ready else .done) jump)) ∧ Z'.heap[w.heap.size]? = some (.deferred (some [])) ∧
        (∀ xs, I m xs Z → I m xs Z') ∧ (∀ c xs, Ix c xs Z → Ix c xs Z') ∧ KpR m (fun _ => False) (w.heap.size + 2) Z Z' ∧ KeepsFrom (w.heap.size + 2) Z Z' := by
      intro jump Z hk
      have q2 := hk.same _ _ (by omega) z2 rfl
      have q3 := hk.same _ _ (Nat.le_refl _) z3 rfl
      refine ⟨_, run_endRound (P := P) jump q2, ?_, (World.putObj_heap_other (by omega)).trans q3, fun xs hx => (hI m).putObj _ hx (by omega) q2 rfl, fun c xs hx => (hIx c).putObj _ hx (by omega) q2 rfl, KpR.put _ q2 rfl rfl, ?_⟩
      · rw [World.putObj_heap_same (Array.getElem?_eq_some_iff.1 q2).1, hR]
      · exact ⟨by simp, fun k o hB hk ho => (World.putObj_heap_other (by omega)).trans hk⟩
    rintro e a3 Z hp
    cases e with
    | normal =>
      obtain ⟨k1, k2, k3⟩ := hp
      obtain ⟨Z', e1, e2, e3, e4, _, e6, e7⟩ := fin none Z k1
      refine ⟨_, _, e1, .inl ⟨rfl, ⟨e4 _ k3, e2, e3⟩, ?_⟩⟩
      rw [hVs]
      exact ⟨(zk.trans ⟨k1.size, fun k o hB => k1.same k o (by omega)⟩).trans e7, (zb.trans k2).trans e6⟩
    | ret =>
      obtain ⟨k1, k3⟩ := hp
      obtain ⟨Z', e1, e2, e3, _, e5, _, e7⟩ := fin (some .ret) Z k1
      exact ⟨_, _, e1, .inr ⟨rfl, ⟨.ret, e5 _ _ k3, e2, e3⟩, by rw [hVs]; exact (zk.trans ⟨k1.size, fun k o hB => k1.same k o (by omega)⟩).trans e7⟩⟩
    | exit id =>
      obtain ⟨k1, k3⟩ := hp
      obtain ⟨Z', e1, e2, e3, _, e5, _, e7⟩ := fin (some (.exit id)) Z k1
      exact ⟨_, _, e1, .inr ⟨rfl, ⟨.exit id, e5 _ _ k3, e2, e3⟩, by rw [hVs]; exact (zk.trans ⟨k1.size, fun k o hB => k1.same k o (by omega)⟩).trans e7⟩⟩
    | goto t =>
      obtain ⟨k1, k3⟩ := hp
      obtain ⟨Z', e1, e2, e3, _, e5, _, e7⟩ := fin (some (.goto t)) Z k1
      exact ⟨_, _, e1, .inr ⟨rfl, ⟨.goto t, e5 _ _ k3, e2, e3⟩, by rw [hVs]; exact (zk.trans ⟨k1.size, fun k o hB => k1.same k o (by omega)⟩).trans e7⟩⟩
    | panic ch => exact hp.elim
    | outgrown => exact hp.elim
  · rintro e Z ⟨⟨v, rfl⟩, (⟨m, xs, hS, x1, x2, x3⟩ | ⟨pre, hSp, c, x1, x2, x3⟩)⟩
    · refine ⟨none, _, by have := run_endLoop (P := P) x2 (by rw [hR]; simp); rw [hR] at this; exact this, ?_⟩
      exact hdone _ m xs _ (Nat.le_refl _) hS ((hI m).putObj _ x1 (by omega) x2 rfl) ((World.putObj_heap_other (by omega)).trans x3)
    · refine ⟨some c, _, by have := run_endLoop (P := P) x2 (by rw [hR]; simp); rw [hR] at this; exact this, ?_⟩
      exact hstop _ c pre _ (Nat.le_refl _) hSp ((hIx c).putObj _ x1 (by omega) x2 rfl) ((World.putObj_heap_other (by omega)).trans x3)

/-- the same, where the loop's variable lies in a box of its own -/
theorem range6B {α : Type} {n : Nat} {P : Program} {g : Operand} {ps : Array Tmp} {assign body : Code} {Q : Exit → Act → World → Prop} {a : Act} {w : World}
    (h1 : 1 ≤ n) {gf : Nat} {lb : Array Value} (hg : a.eval g = .func (.func gf) #[] lb) (eg : ∀ args w, (callFunc gf args).run P w = .ok (.enter gf args) w)
    {encs : α → Array Value} {S Sp : List α → Prop} {w0 : World} (hseq : Gives6 (n - 1) P gf lb encs S Sp w0)
    (hb0 : Below w0.heap.size w0 w) (hps : ∀ x, (encs x).size = ps.size)
    (I : Nat → List α → World → Prop) (Ix : Code → List α → World → Prop) (hI : ∀ m, OwnFrom w.heap.size (I m)) (hIx : ∀ c, OwnFrom w.heap.size (Ix c)) (h0 : ∀ m, I m [] w) (o : α → Obj) (ho : ∀ x, (o x).isCells = true) (F : α → Nat → Act)
    (hassign : ∀ (l : Nat) (x : α) (W : World) (K : Act → World → Prop), (∀ Bx, Bx = W.heap.size → K (F x Bx) (W.alloc (o x))) →
      assign.wpIn (Fence.wide.inRound l) (n - 1 - 1) P (Exit.then K (fun _ _ _ => False)) { tmps := (ps.zip (encs x)).foldl (fun t (p, v) => t.setIfInBounds p v) a.tmps, defers := [] } W)
    (hbody : ∀ (m l : Nat) (pre : List α) (x : α) (Bx : Nat) (W : World), w.heap.size ≤ l → w.heap.size + 2 + m ≤ W.heap.size → (∃ r, W.heap[l]? = some (.loop r)) → I m pre W → W.heap[Bx]? = some (o x) → w.heap.size + 2 + m ≤ Bx → Sp (pre ++ [x]) →
      body.wpIn (Fence.wide.inRound l) (n - 1 - 1) P (ownPostG w.heap.size (KpR m (fun _ => False) (w.heap.size + 2)) (I m) Ix (pre ++ [x]) W) (F x Bx) W)
    (hdone : ∀ (D m : Nat) (xs : List α) (W : World), w.heap.size ≤ D → S xs → I m xs W → W.heap[D]? = some (.deferred (some [])) → Q .normal { a with defers := { target := .collected D, args := #[] } :: a.defers } W)
    (hstop : ∀ (D : Nat) (c : Code) (pre : List α) (W : World), w.heap.size ≤ D → Sp pre → Ix c pre W → W.heap[D]? = some (.deferred (some [])) → c.wpIn Fence.wide n P Q { a with defers := { target := .collected D, args := #[] } :: a.defers } W) :
    (Code.rangeFunc g ps assign body).wpIn Fence.wide n P Q a w :=
  range6 h1 hg eg hseq hb0 hps I Ix hI hIx h0 (fun m x a' W => ∃ Bx, W.heap[Bx]? = some (o x) ∧ w.heap.size + 2 + m ≤ Bx ∧ a' = F x Bx)
    (fun m x a' st A B row hx hg hr => by
      obtain ⟨Bx, h1, h2, h3⟩ := hx
      exact ⟨Bx, (grownBy_keeps_cells hg (fun r e => (hr r e).2) h1 (ho x)).trans h1, h2, h3⟩)
    (fun m l pre x W K hs hi hK => hassign l x W K fun Bx hBx => hK _ _ ((KeepsOthers.alloc _ _).from _) ⟨KeepsWalks.alloc _ _, fun k ob _ _ h => (Below.heap_alloc W _ _ (Array.getElem?_eq_some_iff.1 h).1).trans h⟩ ((hI m).alloc _ hi) ⟨Bx, by rw [hBx]; exact World.alloc_heap_new W _, by omega, rfl⟩)
    (fun m l pre x a' W hl hw hr hi hx hlen => by
      obtain ⟨Bx, q1, q2, rfl⟩ := hx
      exact hbody m l pre x Bx W hl hw hr hi q1 q2 hlen) hdone hstop
end Go.Seq6
