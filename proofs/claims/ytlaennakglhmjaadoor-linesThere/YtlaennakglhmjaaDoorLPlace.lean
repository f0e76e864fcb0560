/-
  Place of package lines, for every text, line and column.
-/
import Derived.Test.YtlaennakglhmjaaDoorRWhM
import Derived.RangeFuncNested
namespace Go.Proofs.YtlaennakglhmjaaDoor
open Go.RowKit Go.PlainAid Go.Lib Go.Shelf Go.Seq2 Go.Seq3
attribute [local go_sem] Oper.semAt_some
set_option linter.unusedVariables false

def lineAt (s : ByteArray) (l : Int) : Option (Nat × Nat × Nat) := if 1 ≤ l then (extsL s)[(l - 1).toNat]? else none
def colAt (s : ByteArray) (x : Nat × Nat × Nat) (c : Int) : Option (Nat × Nat) := if 1 ≤ c then (colsL s x.2.1 x.2.2)[(c - 1).toNat]? else none
/-- the place of a line and a column, or that there is none -/
def placeR (s : ByteArray) (l c : Int) : Int × Int := match lineAt s l with
  | none => (0, 2)
  | some x => match colAt s x c with
    | none => (0, 2)
    | some y => (((y.2 : Nat) : Int), 0)
theorem exts_no (s : ByteArray) (m : Nat) (x : Nat × Nat × Nat) (h : (extsL s)[m]? = some x) : x.1 = m + 1 := by
  have := extsI_no s _ 1 (markN s) (Nat.le_refl _) (mark_le s) m x h; omega
theorem lineAt_iff (s : ByteArray) (l : Int) (x : Nat × Nat × Nat) : lineAt s l = some x ↔ x ∈ extsL s ∧ (x.1 : Int) = l := by
  unfold lineAt
  constructor
  · intro h
    split at h
    · have := exts_no s _ x h
      exact ⟨List.mem_of_getElem? h, by omega⟩
    · cases h
  · rintro ⟨h1, h2⟩
    obtain ⟨m, hm⟩ := List.mem_iff_getElem?.1 h1
    have := exts_no s m x hm
    rw [if_pos (by omega), show (l - 1).toNat = m by omega]; exact hm
theorem colAt_iff (s : ByteArray) (x : Nat × Nat × Nat) (c : Int) (y : Nat × Nat) : colAt s x c = some y ↔ y ∈ colsL s x.2.1 x.2.2 ∧ (y.1 : Int) = c := by
  unfold colAt
  constructor
  · intro h
    split at h
    · have := cols_no s _ _ _ y h
      exact ⟨List.mem_of_getElem? h, by omega⟩
    · cases h
  · rintro ⟨h1, h2⟩
    obtain ⟨m, hm⟩ := List.mem_iff_getElem?.1 h1
    have := cols_no s _ _ m y hm
    rw [if_pos (by omega), show (c - 1).toNat = m by omega]; exact hm
theorem place_found (s : ByteArray) (l c : Int) (x : Nat × Nat × Nat) (y : Nat × Nat) (h1 : x ∈ extsL s) (h2 : (x.1 : Int) = l) (h3 : y ∈ colsL s x.2.1 x.2.2) (h4 : (y.1 : Int) = c) : placeR s l c = (((y.2 : Nat) : Int), 0) := by
  unfold placeR
  rw [(lineAt_iff s l x).2 ⟨h1, h2⟩]
  simp only []
  rw [(colAt_iff s x c y).2 ⟨h3, h4⟩]
theorem place_none (s : ByteArray) (l c : Int) (h : ∀ x ∈ extsL s, (x.1 : Int) = l → ∀ y ∈ colsL s x.2.1 x.2.2, (y.1 : Int) ≠ c) : placeR s l c = (0, 2) := by
  unfold placeR
  cases hx : lineAt s l with
  | none => rfl
  | some x =>
    have h1 := (lineAt_iff s l x).1 hx
    simp only []
    cases hy : colAt s x c with
    | none => rfl
    | some y =>
      have h2 := (colAt_iff s x c y).1 hy
      exact absurd h2.2 (h x h1.1 h1.2 y h2.1)

structure PBox (w : World) (V : World) (s : ByteArray) (l c r e : Int) : Prop where
  b0 : Boxed V w.heap.size 9 (.string s)
  b1 : Boxed V (w.heap.size + 1) 3 (.int .i64 l)
  b2 : Boxed V (w.heap.size + 1 + 1) 3 (.int .i64 c)
  b3 : Boxed V (w.heap.size + 1 + 1 + 1) 3 (.int .i64 r)
  b4 : Boxed V (w.heap.size + 1 + 1 + 1 + 1) 34 (.int .i64 e)
  bl : Below w.heap.size w V
theorem PBox.own {w : World} {s : ByteArray} {l c r e : Int} {T : Nat} (hT : w.heap.size + 4 < T) : OwnFrom (β := Unit) T (fun _ V => PBox w V s l c r e) := by
  intro st A B row hx hg hr
  exact ⟨own_block (β := Unit) _ _ _ rfl () A B row hx.b0 hg hr, own_block (β := Unit) _ _ _ rfl () A B row hx.b1 hg hr, own_block (β := Unit) _ _ _ rfl () A B row hx.b2 hg hr, own_block (β := Unit) _ _ _ rfl () A B row hx.b3 hg hr, own_block (β := Unit) _ _ _ rfl () A B row hx.b4 hg hr, ownFrom_below (β := Unit) (Nat.le_refl _) (by omega) () A B row hx.bl hg hr⟩
theorem PBox.below {w V V' : World} {s : ByteArray} {l c r e : Int} (h : PBox w V s l c r e) (hb : Below V.heap.size V V') : PBox w V' s l c r e :=
  ⟨boxed_below2 h.b0 hb, boxed_below2 h.b1 hb, boxed_below2 h.b2 hb, boxed_below2 h.b3 hb, boxed_below2 h.b4 hb, h.bl.trans (hb.mono h.bl.size)⟩
theorem PBox.set {w V : World} {s : ByteArray} {l c r e : Int} (h : PBox w V s l c r e) (r' e' : Int) :
    PBox w ((V.setCell ⟨w.heap.size + 1 + 1 + 1, 0, none⟩ (.int .i64 r')).setCell ⟨w.heap.size + 1 + 1 + 1 + 1, 0, none⟩ (.int .i64 e')) s l c r' e' :=
  ⟨(h.b0.other (by omega) _).other (by omega) _, (h.b1.other (by omega) _).other (by omega) _, (h.b2.other (by omega) _).other (by omega) _, (h.b3.set _).other (by omega) _, (h.b4.other (by omega) _).set _,
    (h.bl.setCell (p := ⟨w.heap.size + 1 + 1 + 1, 0, none⟩) (by show _ ≤ w.heap.size + 1 + 1 + 1; omega) _).setCell (p := ⟨w.heap.size + 1 + 1 + 1 + 1, 0, none⟩) (by show _ ≤ w.heap.size + 1 + 1 + 1 + 1; omega) _⟩

/-- nothing was found among these lines -/
def NoneIn (s : ByteArray) (l c : Int) (pre : List (Nat × Nat × Nat)) : Prop := ∀ x ∈ pre, (x.1 : Int) = l → ∀ y ∈ colsL s x.2.1 x.2.2, (y.1 : Int) ≠ c
def Found (w V : World) (s : ByteArray) (l c : Int) : Prop := ∃ x y, x ∈ extsL s ∧ (x.1 : Int) = l ∧ y ∈ colsL s x.2.1 x.2.2 ∧ (y.1 : Int) = c ∧ PBox w V s l c (y.2 : Nat) 0
def PlI (w : World) (s : ByteArray) (l c : Int) (pre : List (Nat × Nat × Nat)) (V : World) : Prop := NoneIn s l c pre ∧ PBox w V s l c 0 0
def PlX (w : World) (s : ByteArray) (l c : Int) (k : Code) (pre : List (Nat × Nat × Nat)) (V : World) : Prop :=
  (k = .exit 0 ∧ PBox w V s l c 0 0 ∧ ∃ qs x, pre = qs ++ [x] ∧ NoneIn s l c qs ∧ l < (x.1 : Int)) ∨ (k = .ret ∧ Found w V s l c)

theorem ownNG {α : Type} {F : Fence} {n : Nat} {P : Program} {g : Operand} {ps : Array Tmp} {assign body : Code} {Q : Exit → Act → World → Prop} {a : Act} {w : World}
    {l₀ : Nat} {r₀ : Loop} (hro : F.round = some l₀) (hl₀ : w.heap[l₀]? = some (.loop r₀)) (h1 : 1 ≤ n) {gf : Nat} {lb : Array Value} (hg : a.eval g = .func (.func gf) #[] lb) (hFg : F.fn gf) (eg : ∀ args w, (callFunc gf args).run P w = .ok (.enter gf args) w)
    {encs : α → Array Value} {Kp : World → World → Prop} {S Sp : List α → Prop} {N : Nat} {w0 : World} (hseq : SeqStopsK F (n - 1) P gf lb encs Kp S Sp N w0)
    (hKt : ∀ {A B C : World}, Kp A B → Kp B C → Kp A C) (hKb : ∀ (W : World) (l : Nat) (o o' : Obj), w.heap.size ≤ l → W.heap[l]? = some o → o.isCells = false → o.isWalk = false → Kp W (W.putObj l o')) (hb0 : Below w0.heap.size w0 w) (hps : ∀ x, (encs x).size = ps.size)
    (I : List α → World → Prop) (Ix : Code → List α → World → Prop) (hI : OwnFrom w.heap.size I) (hIx : ∀ c, OwnFrom w.heap.size (Ix c)) (h0 : I [] w) (a₁ : α → Act)
    (hassign : ∀ (l : Nat) (x : α) (W : World) (K : Act → World → Prop), K (a₁ x) W →
      assign.wpIn (F.inRound l) (n - 1 - 1) P (Exit.then K (fun _ _ _ => False)) { tmps := (ps.zip (encs x)).foldl (fun t (p, v) => t.setIfInBounds p v) a.tmps, defers := [] } W)
    (hbody : ∀ (l : Nat) (pre : List α) (x : α) (W : World), I pre W → pre.length < N → body.wpIn (F.inRound l) (n - 1 - 1) P (ownPostG w.heap.size Kp I Ix (pre ++ [x]) W) (a₁ x) W)
    (hdone : ∀ (xs : List α) (W : World), S xs → I xs W → Q .normal a W)
    (hstop : ∀ (c : Code) (pre : List α) (W : World), Sp pre → Ix c pre W → c.wpIn F n P Q a W) (hKr : ∀ W, Kp W W) :
    (Code.rangeFunc g ps assign body).wpIn F n P Q a w :=
  wpIn_rangeFunc_ownN hro hl₀ h1 hg hFg eg hseq (fun h k => hKt h k) hKb hb0 hps I Ix hI hIx h0 (fun x a' _ => a' = a₁ x) (fun _ _ _ _ _ _ hs _ _ => hs)
    (fun l pre x W K hi hK => hassign l x W K (hK _ _ (KeepsFrom.refl _ _) (hKr W) hi rfl)) (fun l pre x a' W _ _ hi e => by subst e; exact hbody l pre x W hi) hdone hstop
def PcI (V : World) (c : Int) (pre : List (Nat × Nat)) (U : World) : Prop := (∀ y ∈ pre, (y.1 : Int) ≠ c) ∧ Below V.heap.size V U
def PcX (w V : World) (s : ByteArray) (l c : Int) (k : Code) (pre : List (Nat × Nat)) (U : World) : Prop := k = .ret ∧ KeepsOthers V U ∧ ∃ qs y, pre = qs ++ [y] ∧ (y.1 : Int) = c ∧ PBox w U s l c (y.2 : Nat) 0
theorem kpC_r {Bs Be f t : Nat} {s : ByteArray} (W : World) : KpC Bs Be f t s W W := ⟨KeepsWalks.refl _, fun h => h, fun h => h⟩

set_option maxRecDepth 100000 in
set_option maxHeartbeats 4000000 in
theorem place_any3 (s : ByteArray) (l c : Int) (w : World) (hs : s.size ≤ 1099511627776) :
    Calls Tryd.prog 29 #[.string s, .int .i64 l, .int .i64 c] w fun e w' => e = .returned (.tuple #[.int .i64 (placeR s l c).1, .int .i64 (placeR s l c).2]) ∧ Below w.heap.size w w' := by
  refine (callsIn_wide (n := 14)).1 ?_
  refine callsIn_of_wp_marks Tryd.func29 rfl trivial ?_ rfl
  simp only [Tryd.ntmps29, List.size_toArray, List.length_cons, List.length_nil, Nat.reduceAdd, Nat.reduceSub, Array.replicate_succ, Array.replicate_zero, List.push_toArray, List.append_toArray, List.nil_append, List.cons_append]
  have hF : ∀ f, Fence.wide.fn f := fun _ => trivial
  have HEX := hide (fun w => callsIn_wide (n := 13) |>.2 (extents_in s w))
  gi_wp2_with (gi_at_call 37; refine (unhide HEX _).mono ?_; rintro e w' ⟨rfl, rfl⟩)
  have HCO := hide (fun f t w => callsIn_wide (n := 14 - 1 - 1 - 1) |>.2 (columns_in s f t w))
  obtain ⟨W0, hW0⟩ : ∃ W0, (((((w.alloc (Obj.cells #[Value.string s] 9)).alloc (Obj.cells #[Value.int IntKind.i64 l] 3)).alloc (Obj.cells #[Value.int IntKind.i64 c] 3)).alloc (Obj.cells #[Value.int IntKind.i64 0] 3)).alloc (Obj.cells #[Value.int IntKind.i64 0] 34)).alloc (Obj.cells #[Value.string s] 9) = W0 := ⟨_, rfl⟩
  have hsz : W0.heap.size = w.heap.size + 6 := by rw [← hW0]; simp
  have hpb : PBox w W0 s l c 0 0 := by
    rw [← hW0]
    refine ⟨(((((Boxed.new w _ _).alloc _).alloc _).alloc _).alloc _).alloc _, ?_, ?_, ?_, ?_, ?_⟩
    · simpa [Boxed] using ((((Boxed.new (w.alloc (Obj.cells #[Value.string s] 9)) 3 (.int .i64 l)).alloc (Obj.cells #[Value.int IntKind.i64 c] 3)).alloc (Obj.cells #[Value.int IntKind.i64 0] 3)).alloc (Obj.cells #[Value.int IntKind.i64 0] 34)).alloc (Obj.cells #[Value.string s] 9)
    · simpa [Boxed] using (((Boxed.new ((w.alloc (Obj.cells #[Value.string s] 9)).alloc (Obj.cells #[Value.int IntKind.i64 l] 3)) 3 (.int .i64 c)).alloc (Obj.cells #[Value.int IntKind.i64 0] 3)).alloc (Obj.cells #[Value.int IntKind.i64 0] 34)).alloc (Obj.cells #[Value.string s] 9)
    · simpa [Boxed] using ((Boxed.new (((w.alloc (Obj.cells #[Value.string s] 9)).alloc (Obj.cells #[Value.int IntKind.i64 l] 3)).alloc (Obj.cells #[Value.int IntKind.i64 c] 3)) 3 (.int .i64 0)).alloc (Obj.cells #[Value.int IntKind.i64 0] 34)).alloc (Obj.cells #[Value.string s] 9)
    · simpa [Boxed] using (Boxed.new ((((w.alloc (Obj.cells #[Value.string s] 9)).alloc (Obj.cells #[Value.int IntKind.i64 l] 3)).alloc (Obj.cells #[Value.int IntKind.i64 c] 3)).alloc (Obj.cells #[Value.int IntKind.i64 0] 3)) 34 (.int .i64 0)).alloc (Obj.cells #[Value.string s] 9)
    · go_grown
  have b5 : Boxed W0 (w.heap.size + 1 + 1 + 1 + 1 + 1) 9 (.string s) := by
    rw [← hW0]; simpa [Boxed] using Boxed.new (((((w.alloc (Obj.cells #[Value.string s] 9)).alloc (Obj.cells #[Value.int IntKind.i64 l] 3)).alloc (Obj.cells #[Value.int IntKind.i64 c] 3)).alloc (Obj.cells #[Value.int IntKind.i64 0] 3)).alloc (Obj.cells #[Value.int IntKind.i64 0] 34)) 9 (.string s)
  rw [hW0]
  clear hW0
  refine range3 (by omega) (gf := 54) (lb := #[.pointer (some ⟨w.heap.size + 1 + 1 + 1 + 1 + 1, 0, none⟩)]) rfl (enters_of Tryd.func54 (by kernel_rfl) rfl)
    (ext_gives s (by omega) _ (w.heap.size + 1 + 1 + 1 + 1 + 1) (by omega) W0 b5) (Below.refl _ _) (fun _ => rfl)
    (PlI w s l c) (PlX w s l c)
    (fun st A B row hx hg hr => ⟨hx.1, PBox.own (by omega) () A B row hx.2 hg hr⟩)
    (fun k st A B row hx hg hr => by
        rcases hx with ⟨e1, e2, e3⟩ | ⟨e1, x, y, e2, e3, e4, e5, e6⟩
        · exact .inl ⟨e1, PBox.own (by omega) () A B row e2 hg hr, e3⟩
        · exact .inr ⟨e1, x, y, e2, e3, e4, e5, PBox.own (by omega) () A B row e6 hg hr⟩)
    ⟨(by intro x hx; cases hx), hpb⟩
    (fun x a' V => ∃ Bx, V.heap[Bx]? = some (extBlk x.2.1 x.2.2) ∧ w.heap.size + 5 < Bx ∧ a' = { tmps := #[.string s, .int .i64 l, .int .i64 c, .pointer (some ⟨w.heap.size, 0, none⟩), .pointer (some ⟨w.heap.size + 1, 0, none⟩), .pointer (some ⟨w.heap.size + 1 + 1, 0, none⟩), .pointer (some ⟨w.heap.size + 1 + 1 + 1, 0, none⟩), .pointer (some ⟨w.heap.size + 1 + 1 + 1 + 1, 0, none⟩), .int .i64 (x.1 : Nat), .pointer (some ⟨Bx, 0, none⟩), undef, undef, .string s, .func (.func 54) #[] #[.pointer (some ⟨w.heap.size + 1 + 1 + 1 + 1 + 1, 0, none⟩)], .int .i64 (x.1 : Nat), .agg #[.int .i64 (x.2.1 : Nat), .int .i64 (x.2.2 : Nat)], undef, undef, undef, undef, undef, undef, undef, undef, undef, undef, undef, undef, undef, undef, undef], defers := [] })
    (fun x a' st A B row hx hg hr => by
        obtain ⟨Bx, h1, h2, h3⟩ := hx
        exact ⟨Bx, own_block (β := Unit) _ _ _ rfl () A B row h1 hg hr, h2, h3⟩) ?assign ?body ?done ?stop
  case assign =>
    rintro l2 pre x V K hsz2 ⟨h1, h2⟩ hK
    gi_wp2
    exact hK _ _ ((KeepsOthers.alloc _ _).from _) ⟨KeepsWalks.alloc _ _, fun k t v _ _ h => h.alloc _⟩ ⟨h1, h2.below ((Below.refl _ V).alloc (Nat.le_refl _) _)⟩ ⟨V.heap.size, heap_alloc_new V _, by omega, rfl⟩
  case body =>
    rintro l2 pre x a' V hl hsz2 ⟨r, hr⟩ ⟨h1, h2⟩ ⟨Bx, hx1, hx2, rfl⟩ hSp
    have hmem : x ∈ extsL s := hSp.subset (by simp)
    have hm := exts_mem s x hmem
    obtain ⟨X, F, T⟩ := x
    simp only [] at hx1 hm
    obtain ⟨m1, m2, m3, m4⟩ := hm
    obtain ⟨z5, z6⟩ := ext2 hx1
    have z0 := h2.b0.cell
    have z1 := h2.b1.cell
    have HPB := hide h2
    have H1 := hide h1
    have HM := hide hmem
    clear hSp h1 h2 hmem
    have skip : (X : Int) ≠ l → NoneIn s l c (pre ++ [(X, F, T)]) := fun hne y hy hyl => by
      rcases List.mem_append.1 hy with h | h
      · exact unhide H1 y h hyl
      · rw [List.mem_singleton.1 h] at hyl; exact absurd hyl hne
    have HSK := hide skip
    clear skip
    by_cases q1 : (X : Int) < l
    · have d1 : decide ((X : Int) < l) = true := decide_eq_true q1
      gi_wp2
      exact ⟨KeepsFrom.refl _ _, KpB.refl _, unhide HSK (by omega), unhide HPB⟩
    · have d1 : decide ((X : Int) < l) = false := decide_eq_false q1
      have d1' : ¬ (X : Int) < l := q1
      by_cases q2 : l < (X : Int)
      · have d2 : decide (l < (X : Int)) = true := decide_eq_true q2
        gi_wp2
        exact ⟨KeepsFrom.refl _ _, .inl ⟨rfl, unhide HPB, pre, (X, F, T), rfl, unhide H1, q2⟩⟩
      · have d2 : decide (l < (X : Int)) = false := decide_eq_false q2
        have d2' : ¬ l < (X : Int) := q2
        obtain rfl : l = (X : Int) := by omega
        gi_wp2_with (gi_at_call 48; refine (unhide HCO _ _ _).mono ?_; rintro e w' ⟨rfl, rfl⟩)
        obtain ⟨W1, hW1⟩ : ∃ W1, (V.alloc (.cells #[.string s] 9)).alloc (extBlk F T) = W1 := ⟨_, rfl⟩
        have hB1 : Below V.heap.size V W1 := by rw [← hW1]; exact ((Below.refl _ V).alloc (Nat.le_refl _) _).alloc (by simp) _
        have q0 : Boxed W1 V.heap.size 9 (.string s) := by rw [← hW1]; exact (Boxed.new V _ _).alloc _
        have q5 : W1.heap[V.heap.size + 1]? = some (extBlk F T) := by rw [← hW1]; simpa using heap_alloc_new (V.alloc (.cells #[.string s] 9)) (extBlk F T)
        have hs1 : W1.heap.size = V.heap.size + 2 := by rw [← hW1]; simp
        have hr1 : W1.heap[l2]? = some (.loop r) := (hB1.block l2 (Array.getElem?_eq_some_iff.1 hr).1).trans hr
        rw [hW1]
        clear hW1
        refine ownNG rfl hr1 (by omega) (gf := 63) (lb := #[.pointer (some ⟨V.heap.size, 0, none⟩), .pointer (some ⟨V.heap.size + 1, 0, none⟩)]) rfl trivial (enters_of Tryd.func63 (by kernel_rfl) rfl)
          (SeqStopsK.inRound l2 (cols_stops s F T (by omega) (by omega) (by omega) _ V.heap.size (V.heap.size + 1) (by omega) W1 q0 q5)) kpC_t kpC_b (Below.refl _ _) (fun _ => rfl)
          (PcI V c) (PcX w V s (X : Int) c)
          (fun st A B row hx hg hr => ⟨hx.1, ownFrom_below (β := Unit) (Nat.le_refl _) (by omega) () A B row hx.2 hg hr⟩)
          (fun k st A B row hx hg hr => by
            obtain ⟨e1, e2, qs, y, e3, e4, e5⟩ := hx
            refine ⟨e1, ⟨Nat.le_trans e2.size hg.size, fun k o hk ho => ?_⟩, qs, y, e3, e4, PBox.own (by omega) () A B row e5 hg hr⟩
            have h3 := e2.same k o hk ho
            exact (hg.block k (Array.getElem?_eq_some_iff.1 h3).1 (fun e => by have := (hr k e.symm).1; have := (Array.getElem?_eq_some_iff.1 hk).1; omega)).trans h3)
          ⟨by simp, hB1⟩
          ?a1 ?assign2 ?body2 ?done2 ?stop2 kpC_r
        case assign2 =>
          intro l x W K hK
          gi_wp2
          exact hK
        case body2 =>
          clear hs1
          rintro l3 pre2 y U ⟨g1, g2⟩ hlen
          obtain ⟨C, Bg⟩ := y
          have hpu := (unhide HPB).below g2
          have z2 := hpu.b2.cell
          have z3 := hpu.b3.cell
          have y3 := hpu.b3.frozen
          have z4 := hpu.b4.cell
          have y4 := hpu.b4.frozen
          have HPU := hide hpu
          have HG := hide g2
          have HG1 := hide g1
          clear hpu g2 g1
          have hq3 : ∀ v, Boxed (U.setCell ⟨w.heap.size + 1 + 1 + 1, 0, none⟩ v) (w.heap.size + 1 + 1 + 1 + 1) 34 (.int .i64 0) := fun v => (unhide HPU).b4.other (by omega) _
          have z4' := fun v => (hq3 v).cell
          have y4' := fun v => (hq3 v).frozen
          have hse := fun v => set_same (hq3 v)
          clear hq3
          by_cases q : (C : Int) = c
          · have d3 : ((C : Int) == c) = true := by simpa using q
            have hps := (unhide HPU).set (Bg : Nat) 0
            have hko : KeepsOthers V ((U.setCell ⟨w.heap.size + 1 + 1 + 1, 0, none⟩ (.int .i64 (Bg : Nat))).setCell ⟨w.heap.size + 1 + 1 + 1 + 1, 0, none⟩ (.int .i64 0)) := ((keeps_below (unhide HG)).trans (KeepsOthers.setCell _ _ _)).trans (KeepsOthers.setCell _ _ _)
            have hkU : KeepsOthers U ((U.setCell ⟨w.heap.size + 1 + 1 + 1, 0, none⟩ (.int .i64 (Bg : Nat))).setCell ⟨w.heap.size + 1 + 1 + 1 + 1, 0, none⟩ (.int .i64 0)) := (KeepsOthers.setCell _ _ _).trans (KeepsOthers.setCell _ _ _)
            rw [hse] at hps hko hkU
            have HPS := hide hps
            have HKO := hide hko
            have HKU := hide hkU
            have HQ := hide q
            clear hps hko hkU q
            gi_wp2
            exact ⟨(unhide HKU).from _, rfl, unhide HKO, pre2, (C, Bg), rfl, unhide HQ, unhide HPS⟩
          · have d3 : ((C : Int) == c) = false := by simpa using q
            have HALL : Hid (∀ y ∈ pre2 ++ [(C, Bg)], (y.1 : Int) ≠ c) := by
              intro y hy
              rcases List.mem_append.1 hy with h | h
              · exact unhide HG1 y h
              · rw [List.mem_singleton.1 h]; exact q
            clear q
            gi_wp2
            exact ⟨KeepsFrom.refl _ _, kpC_r _, HALL.out, unhide HG⟩
        case done2 =>
          rintro xs U hS ⟨g1, g2⟩
          subst hS
          have hpu := (unhide HPB).below g2
          gi_wp2
          refine ⟨⟨g2.size, fun k o _ hk _ => (g2.block k (Array.getElem?_eq_some_iff.1 hk).1).trans hk⟩, ⟨(keeps_below g2).walks, fun k t v hk1 ht hb => boxed_below2 hb g2⟩, ?_, hpu⟩
          intro y hy hyl
          rcases List.mem_append.1 hy with h | h
          · exact unhide H1 y h hyl
          · rw [List.mem_singleton.1 h]; exact g1
        case stop2 =>
          rintro k pre2 U hSp2 ⟨rfl, hko, qs, y, rfl, hyc, hpu⟩
          gi_wp2
          exact ⟨hko.from _, .inr ⟨rfl, (X, F, T), y, unhide HM, rfl, hSp2.subset (by simp), hyc, hpu⟩⟩
  case done =>
    rintro D xs V hD hS ⟨h1, h2⟩ hK
    subst hS
    have HR := hide (place_none s l c h1)
    clear h1
    have z3 := h2.b3.cell
    have y3 := h2.b3.frozen
    have z4 := h2.b4.cell
    have y4 := h2.b4.frozen
    have e3 := set_same h2.b3
    have HPV := hide h2
    gi_wp2
    have k2 : (V.setCell ⟨w.heap.size + 1 + 1 + 1 + 1, 0, none⟩ (.int .i64 2)).heap[D]? = some (.deferred (some [])) := (KeepsOthers.setCell V ⟨w.heap.size + 1 + 1 + 1 + 1, 0, none⟩ (.int .i64 2)).same D _ hK rfl
    have hps := (unhide HPV).set 0 2
    rw [e3] at hps
    refine ⟨by simp, .inl ⟨_, _, rfl, run_takeDeferred k2, ?_⟩⟩
    have r1 : Boxed ((V.setCell ⟨w.heap.size + 1 + 1 + 1 + 1, 0, none⟩ (.int .i64 2)).putObj D (.deferred none)) (w.heap.size + 1 + 1 + 1) 3 (.int .i64 0) := (World.putObj_heap_other (by omega)).trans hps.b3
    have r2 : Boxed ((V.setCell ⟨w.heap.size + 1 + 1 + 1 + 1, 0, none⟩ (.int .i64 2)).putObj D (.deferred none)) (w.heap.size + 1 + 1 + 1 + 1) 34 (.int .i64 2) := (World.putObj_heap_other (by omega)).trans hps.b4
    have r1c := r1.cell
    have r2c := r2.cell
    exact ⟨.tuple #[.int .i64 0, .int .i64 2], by simp [results, Tryd.f29, go_sem, r1c, r2c], by rw [unhide HR], hps.bl.trans (belowK_b (w := w) (Nat.le_refl _) _ D _ _ (by omega) k2 rfl rfl)⟩
  case stop =>
    rintro D k pre V hD hSp hx hK
    rcases hx with ⟨rfl, h2, qs, x, rfl, h3, h4⟩ | ⟨rfl, x, y, f1, f2, f3, f4, f5⟩
    · have hnone : ∀ z ∈ extsL s, (z.1 : Int) = l → ∀ y ∈ colsL s z.2.1 z.2.2, (y.1 : Int) ≠ c := by
        intro z hz hzl
        obtain ⟨rr, hrr⟩ := hSp
        obtain ⟨m, hm⟩ := List.mem_iff_getElem?.1 hz
        have hzn := exts_no s m z hm
        have hx' : (extsL s)[qs.length]? = some x := by rw [← hrr, List.append_assoc, List.getElem?_append_right (Nat.le_refl _), Nat.sub_self]; rfl
        have hxn := exts_no s _ x hx'
        have hlt : m < qs.length := by omega
        refine h3 z ?_ hzl
        rw [← hrr, List.append_assoc, List.getElem?_append_left hlt] at hm
        exact List.mem_of_getElem? hm
      have HR := hide (place_none s l c hnone)
      clear hnone h3 h4 hSp
      have z3 := h2.b3.cell
      have y3 := h2.b3.frozen
      have z4 := h2.b4.cell
      have y4 := h2.b4.frozen
      have e3 := set_same h2.b3
      have HPV := hide h2
      gi_wp2
      have k2 : (V.setCell ⟨w.heap.size + 1 + 1 + 1 + 1, 0, none⟩ (.int .i64 2)).heap[D]? = some (.deferred (some [])) := (KeepsOthers.setCell V ⟨w.heap.size + 1 + 1 + 1 + 1, 0, none⟩ (.int .i64 2)).same D _ hK rfl
      have hps := (unhide HPV).set 0 2
      rw [e3] at hps
      refine ⟨by simp, .inl ⟨_, _, rfl, run_takeDeferred k2, ?_⟩⟩
      have r1 : Boxed ((V.setCell ⟨w.heap.size + 1 + 1 + 1 + 1, 0, none⟩ (.int .i64 2)).putObj D (.deferred none)) (w.heap.size + 1 + 1 + 1) 3 (.int .i64 0) := (World.putObj_heap_other (by omega)).trans hps.b3
      have r2 : Boxed ((V.setCell ⟨w.heap.size + 1 + 1 + 1 + 1, 0, none⟩ (.int .i64 2)).putObj D (.deferred none)) (w.heap.size + 1 + 1 + 1 + 1) 34 (.int .i64 2) := (World.putObj_heap_other (by omega)).trans hps.b4
      have r1c := r1.cell
      have r2c := r2.cell
      exact ⟨.tuple #[.int .i64 0, .int .i64 2], by simp [results, Tryd.f29, go_sem, r1c, r2c], by rw [unhide HR], hps.bl.trans (belowK_b (w := w) (Nat.le_refl _) _ D _ _ (by omega) k2 rfl rfl)⟩
    · have HR := hide (place_found s l c x y f1 f2 f3 f4)
      gi_wp2
      refine ⟨by simp, .inl ⟨_, _, rfl, run_takeDeferred hK, ?_⟩⟩
      have r1 : Boxed (V.putObj D (.deferred none)) (w.heap.size + 1 + 1 + 1) 3 (.int .i64 (y.2 : Nat)) := (World.putObj_heap_other (by omega)).trans f5.b3
      have r2 : Boxed (V.putObj D (.deferred none)) (w.heap.size + 1 + 1 + 1 + 1) 34 (.int .i64 0) := (World.putObj_heap_other (by omega)).trans f5.b4
      have r1c := r1.cell
      have r2c := r2.cell
      exact ⟨.tuple #[.int .i64 (y.2 : Nat), .int .i64 0], by simp [results, Tryd.f29, go_sem, r1c, r2c], by rw [unhide HR], f5.bl.trans (belowK_b (w := w) (Nat.le_refl _) _ D _ _ (by omega) hK rfl rfl)⟩
end Go.Proofs.YtlaennakglhmjaaDoor
