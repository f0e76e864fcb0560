/-
  Classes of package words: the classes that the words of every text name, or the place of the first word that names none.
-/
import Derived.Test.YtkpmcojoiijonaaWoE
namespace Go.Proofs.Ytkpmcojoiijonaa
open Go.RowKit Go.PlainAid Go.Lib Go.Shelf Go.Seq2 Go.Seq3
attribute [local go_sem] Oper.semAt_some
set_option linter.unusedVariables false

theorem infoClass : (Try.prog.info? 34).map (fun i => (i.zero, i.size, i.bytes)) = some (some (.int .u8 0), 1, 1) := by kernel_rfl
/-- the class that a word names -/
def wcls (s : ByteArray) (x : Nat × Nat) : Int := classN (looseB (s.extract x.1 x.2))
def badW (s : ByteArray) : Option (Nat × Nat) := (wordsL s).find? fun x => wcls s x == 0
def clsL (s : ByteArray) : List Int := match badW s with | some _ => [] | none => (wordsL s).map (wcls s)
def clsP (s : ByteArray) : Nat := match badW s with | some x => x.1 | none => 0
def clsE (s : ByteArray) : Int := match badW s with | some _ => 50 | none => 0
theorem bad_none (s : ByteArray) (h : ∀ x ∈ wordsL s, wcls s x ≠ 0) : badW s = none := by
  unfold badW; rw [List.find?_eq_none]; intro x hx; simpa using h x hx
theorem bad_some (s : ByteArray) (qs r : List (Nat × Nat)) (x : Nat × Nat) (h : qs ++ [x] ++ r = wordsL s) (hq : ∀ y ∈ qs, wcls s y ≠ 0) (hx : wcls s x = 0) : badW s = some x := by
  unfold badW
  rw [← h, List.append_assoc, List.find?_append, List.find?_eq_none.2 (fun y hy => by simpa using hq y hy)]
  simp [hx]
theorem wordsG_len (s : ByteArray) : ∀ (l : List (Nat × Nat)) (f : Nat), (wordsG s l f false).length ≤ l.length ∧ (wordsG s l f true).length ≤ l.length + 1 := by
  intro l
  induction l with
  | nil => intro f; exact ⟨by simp [wordsG], by simp [wordsG]⟩
  | cons x l ih =>
    intro f
    obtain ⟨p, r⟩ := x
    have h1 := ih f
    have h2 := ih p
    constructor
    · rw [wordsG]
      split
      · simp only [List.length_cons]; omega
      · simp only [List.length_cons]; omega
    · rw [wordsG]
      split
      · simp only [List.length_cons]; omega
      · simp only [List.length_cons]; omega
theorem words_len (s : ByteArray) : (wordsL s).length ≤ s.size := by
  have h1 := (wordsG_len s (chars s 0) 0).1
  have h2 := chars_length s 0
  unfold wordsL; omega
abbrev clsVs (s : ByteArray) (l : List (Nat × Nat)) : List Value := (l.map (wcls s)).map (Value.int .u8)
theorem clsVs_snoc (s : ByteArray) (l : List (Nat × Nat)) (x : Nat × Nat) : clsVs s (l ++ [x]) = clsVs s l ++ [.int .u8 (wcls s x)] := by simp [clsVs]
theorem row_grownC {A B : World} {row : Option Nat} {base : Nat} {e : TypeId} {size : Nat} {v : Value} {n : Nat} {xs : List Value} (h : A.ownsRow base e size v n xs) (hg : A.grownBy B row) (hr : ∀ r, row = some r → ∃ o : Obj, A.heap[r]? = some o ∧ o.isCells = false) : B.ownsRow base e size v n xs := by
  refine ⟨h.1, ?_⟩
  rcases h.2 with h | ⟨g, cap, cur, h1, h2, h3, h4⟩
  · exact .inl h
  · exact .inr ⟨g, cap, cur, h1, h2, (grownBy_keeps_cells hg hr h3 rfl).trans h3, h4⟩
theorem keeps_belowC {V W : World} (h : Below V.heap.size V W) : KeepsOthers V W := ⟨h.size, fun k o hk _ => (h.block k (Array.getElem?_eq_some_iff.1 hk).1).trans hk⟩
theorem boxed_belowC {V W : World} {b : Nat} {t : TypeId} {v : Value} (h : Boxed V b t v) (hb : Below V.heap.size V W) : Boxed W b t v := (hb.block b h.lt).trans h
theorem row_sliceC {V : World} {base : Nat} {e : TypeId} {size : Nat} {v : Value} {n : Nat} {xs : List Value} (h : V.ownsRow base e size v n xs) : ∃ a c, v = .slice a n c := by
  rcases h.2 with ⟨rfl, h0⟩ | ⟨g, cap, cur, rfl, _⟩
  · exact ⟨none, 0, by rw [h0]⟩
  · exact ⟨_, _, rfl⟩
theorem row_belowC {w w' : World} {base : Nat} {e : TypeId} {size : Nat} {v : Value} {n : Nat} {xs : List Value} (h : w.ownsRow base e size v n xs) (hb : Below w.heap.size w w') : w'.ownsRow base e size v n xs := by
  refine ⟨h.1, ?_⟩
  rcases h.2 with h | ⟨g, cap, cur, h1, h2, h3, h4⟩
  · exact .inl h
  · exact .inr ⟨g, cap, cur, h1, h2, (hb.block g (Array.getElem?_eq_some_iff.1 h3).1).trans h3, h4⟩

/-- what holds between two words of the loop -/
def ClsI (s : ByteArray) (w : World) (pre : List (Nat × Nat)) (V : World) : Prop :=
  (∀ x ∈ pre, wcls s x ≠ 0) ∧ pre.length ≤ s.size ∧ (∃ v, Boxed V (w.heap.size + 1 + 1 + 1) 48 v ∧ V.ownsRow w.heap.size 34 1 v pre.length (clsVs s pre)) ∧ Boxed V w.heap.size 48 (.slice none 0 0) ∧ Boxed V (w.heap.size + 1) 3 (.int .i64 0) ∧ Boxed V (w.heap.size + 1 + 1) 35 (.int .i64 0) ∧ Below w.heap.size w V
/-- what holds where the loop is left -/
def ClsX (s : ByteArray) (w : World) (c : Code) (pre : List (Nat × Nat)) (V : World) : Prop :=
  c = .ret ∧ ∃ x qs, pre = qs ++ [x] ∧ (∀ y ∈ qs, wcls s y ≠ 0) ∧ wcls s x = 0 ∧ Boxed V w.heap.size 48 (.slice none 0 0) ∧ Boxed V (w.heap.size + 1) 3 (.int .i64 (x.1 : Nat)) ∧ Boxed V (w.heap.size + 1 + 1) 35 (.int .i64 50) ∧ Below w.heap.size w V

theorem wordsG_mem (s : ByteArray) : ∀ (k pos f : Nat) (b : Bool), s.size - pos ≤ k → f ≤ pos → pos ≤ s.size → (b = true → f < pos) → ∀ x ∈ wordsG s (chars s pos) f b, x.1 < x.2 ∧ x.2 ≤ s.size ∧ f ≤ x.1 := by
  intro k
  induction k with
  | zero =>
    intro pos f b hk hf hp hb x hx
    rw [wordsG_end s pos f b (by omega)] at hx
    cases b with
    | true => obtain rfl : x = (f, s.size) := by simpa using hx
              have := hb rfl
              exact ⟨by show f < s.size; omega, Nat.le_refl _, Nat.le_refl _⟩
    | false => simp at hx
  | succ k ih =>
    intro pos f b hk hf hp hb x hx
    by_cases hlt : pos < s.size
    · have hd := dec_bounds s pos hlt
      rw [wordsG_step s pos f b hlt] at hx
      have i1 := ih (pos + (Utf8.decode s pos).2) f false (by omega) (by omega) (by omega) (fun h => by cases h) x
      have i2 := ih (pos + (Utf8.decode s pos).2) f true (by omega) (by omega) (by omega) (fun h => by omega) x
      have i3 := ih (pos + (Utf8.decode s pos).2) pos true (by omega) (by omega) (by omega) (fun h => by omega) x
      split at hx
      · split at hx
        · rcases List.mem_cons.1 hx with rfl | hx
          · rename_i hbt
            have := hb hbt
            exact ⟨this, by show pos ≤ s.size; omega, Nat.le_refl _⟩
          · exact i1 hx
        · exact i1 hx
      · split at hx
        · exact i2 hx
        · have := i3 hx
          exact ⟨this.1, this.2.1, by omega⟩
    · rw [wordsG_end s pos f b hlt] at hx
      cases b with
      | true => obtain rfl : x = (f, s.size) := by simpa using hx
                have := hb rfl
                exact ⟨by show f < s.size; omega, Nat.le_refl _, Nat.le_refl _⟩
      | false => simp at hx
theorem words_mem (s : ByteArray) (x : Nat × Nat) (hx : x ∈ wordsL s) : x.1 < x.2 ∧ x.2 ≤ s.size := by
  have := wordsG_mem s s.size 0 0 false (by omega) (by omega) (by omega) (fun h => by cases h) x hx
  exact ⟨this.1, this.2.1⟩

set_option maxRecDepth 100000 in
set_option maxHeartbeats 4000000 in
theorem classes_any (s : ByteArray) (w : World) (hs : s.size ≤ 35184372088832) :
    Calls Try.prog 31 #[.string s] w fun e w' => ∃ v, e = .returned (.tuple #[v, .int .i64 (clsP s : Nat), .int .i64 (clsE s)]) ∧ w'.ownsRow w.heap.size 34 1 v (clsL s).length ((clsL s).map (Value.int .u8)) ∧ Below w.heap.size w w' := by
  refine (callsIn_wide (n := 9)).1 ?_
  refine callsIn_of_wp_marks Try.func31 rfl trivial ?_ rfl
  simp only [Try.ntmps31, List.size_toArray, List.length_cons, List.length_nil, Nat.reduceAdd, Nat.reduceSub, Array.replicate_succ, Array.replicate_zero, List.push_toArray, List.append_toArray, List.nil_append, List.cons_append]
  have hF : ∀ f, Fence.wide.fn f := fun _ => trivial
  obtain ⟨i0, hi0, hz0, hz1, hz2⟩ := info_parts infoClass
  gi_wp2_with (gi_at_call 17; refine (callsIn_wide.2 (weach_in s _)).mono ?_; rintro e w' ⟨rfl, rfl⟩)
  obtain ⟨W0, hW0⟩ : ∃ W0, ((((w.alloc (Obj.cells #[Value.slice none 0 0] 48)).alloc (Obj.cells #[Value.int .i64 0] 3)).alloc (Obj.cells #[Value.int .i64 0] 35)).alloc (Obj.cells #[Value.slice none 0 0] 48)).alloc (Obj.cells #[Value.string s] 9) = W0 := ⟨_, rfl⟩
  have hB0 : Below w.heap.size w W0 := by rw [← hW0]; go_grown
  have hsz : W0.heap.size = w.heap.size + 5 := by rw [← hW0]; simp
  have b0 : Boxed W0 w.heap.size 48 (.slice none 0 0) := by rw [← hW0]; exact ((((Boxed.new w _ _).alloc _).alloc _).alloc _).alloc _
  have b1 : Boxed W0 (w.heap.size + 1) 3 (.int .i64 0) := by
    rw [← hW0]; simpa [Boxed] using (((Boxed.new (w.alloc (Obj.cells #[Value.slice none 0 0] 48)) 3 (.int .i64 0)).alloc (Obj.cells #[Value.int .i64 0] 35)).alloc (Obj.cells #[Value.slice none 0 0] 48)).alloc (Obj.cells #[Value.string s] 9)
  have b2 : Boxed W0 (w.heap.size + 1 + 1) 35 (.int .i64 0) := by
    rw [← hW0]; simpa [Boxed] using ((Boxed.new ((w.alloc (Obj.cells #[Value.slice none 0 0] 48)).alloc (Obj.cells #[Value.int .i64 0] 3)) 35 (.int .i64 0)).alloc (Obj.cells #[Value.slice none 0 0] 48)).alloc (Obj.cells #[Value.string s] 9)
  have b3 : Boxed W0 (w.heap.size + 1 + 1 + 1) 48 (.slice none 0 0) := by
    rw [← hW0]; simpa [Boxed] using (Boxed.new (((w.alloc (Obj.cells #[Value.slice none 0 0] 48)).alloc (Obj.cells #[Value.int .i64 0] 3)).alloc (Obj.cells #[Value.int .i64 0] 35)) 48 (.slice none 0 0)).alloc (Obj.cells #[Value.string s] 9)
  have b4 : Boxed W0 (w.heap.size + 1 + 1 + 1 + 1) 9 (.string s) := by
    rw [← hW0]; simpa [Boxed] using Boxed.new ((((w.alloc (Obj.cells #[Value.slice none 0 0] 48)).alloc (Obj.cells #[Value.int .i64 0] 3)).alloc (Obj.cells #[Value.int .i64 0] 35)).alloc (Obj.cells #[Value.slice none 0 0] 48)) 9 (.string s)
  rw [hW0]
  clear hW0
  refine range3G (by omega) (gf := 40) (lb := #[.pointer (some ⟨w.heap.size + 1 + 1 + 1 + 1, 0, none⟩)]) rfl (enters_of Try.func40 (by kernel_rfl) rfl)
    (weach_gives s (by omega) _ (w.heap.size + 1 + 1 + 1 + 1) (by omega) W0 b4) (Below.refl _ _) (fun _ => rfl)
    (ClsI s w) (ClsX s w)
    (fun st A B row hx hg hr => by
        obtain ⟨e1, e2, ⟨v, e4, e5⟩, e6, e7, e8, e9⟩ := hx
        exact ⟨e1, e2, ⟨v, own_block (β := Unit) _ _ _ rfl () A B row e4 hg hr, row_grownC e5 hg (fun r e => (hr r e).2)⟩, own_block (β := Unit) _ _ _ rfl () A B row e6 hg hr, own_block (β := Unit) _ _ _ rfl () A B row e7 hg hr, own_block (β := Unit) _ _ _ rfl () A B row e8 hg hr, ownFrom_below (β := Unit) (Nat.le_refl _) (by omega) () A B row e9 hg hr⟩)
    (fun c st A B row hx hg hr => by
        obtain ⟨hc, x, qs, e1, e2, e3, e4, e5, e6, e8⟩ := hx
        exact ⟨hc, x, qs, e1, e2, e3, own_block (β := Unit) _ _ _ rfl () A B row e4 hg hr, own_block (β := Unit) _ _ _ rfl () A B row e5 hg hr, own_block (β := Unit) _ _ _ rfl () A B row e6 hg hr, ownFrom_below (β := Unit) (Nat.le_refl _) (by omega) () A B row e8 hg hr⟩)
    ⟨by simp, by simp, ⟨.slice none 0 0, b3, by simpa [clsVs] using World.ownsRow_nil W0 _ _ _⟩, b0, b1, b2, hB0⟩
    ?a1 ?assign ?body ?done ?stop
  case assign =>
    intro l x W K hK
    gi_wp2
    exact hK
  case body =>
    have HSZ := hide hsz
    clear hsz
    rintro l pre x V hl hsz2 ⟨r, hr⟩ ⟨hok, hlen, ⟨v, hv, hrow⟩, f0, f1, f2, hB⟩ hSp
    have hm := words_mem s x (hSp.subset (by simp))
    have hSC := fun W => callsIn_wide (n := 9 - 1 - 1 - 1) |>.2 (class_any (s.extract x.1 x.2) W (by simp [ByteArray.size_extract]; omega))
    have hSX : wcls s x = classN (looseB (s.extract x.1 x.2)) := rfl
    rw [← hSX] at hSC
    obtain ⟨va, vc, rfl⟩ := row_sliceC hrow
    have hpb : (pre ++ [x]).length ≤ s.size := by have h1 := hSp.length_le; have h2 := words_len s; omega
    have hpb' : pre.length + 1 ≤ s.size := by simpa using hpb
    have HRL := hide hrow
    have HOK := hide hok
    have HSP := hide hSp
    have hCV := clsVs_snoc s pre x
    have HCV := hide hCV
    clear hSX hrow hok hSp hCV
    generalize s.extract x.1 x.2 = T at *
    by_cases hC : wcls s x = 0
    · have HC := hide hC
      rw [hC] at hSC
      have hSC' : ∀ W, CallsIn Fence.wide (9 - 1 - 1 - 1) Try.prog 21 #[.string T] W fun e w' => e = .returned (.tuple #[.int .u8 0, .int .i64 50]) ∧ Below W.heap.size W w' := hSC
      have HSC := hide hSC'
      clear hSC hSC' hC
      gi_wp2_with (gi_at_call 21; refine (unhide HSC _).mono ?_; rintro e w5 ⟨rfl, hb5⟩; have q0 := boxed_belowC f0 hb5; have q1 := boxed_belowC f1 hb5; have q2 := boxed_belowC f2 hb5; have l0 := q0.lt; have l1 := q1.lt; have l2 := q2.lt; have g0 := q0.cell; have k0 := q0.frozen; have m1 := fun v => (q1.other (B' := w.heap.size) (by omega) v).cell; have n1 := fun v => (q1.other (B' := w.heap.size) (by omega) v).frozen; have m2 := fun v u => ((q2.other (B' := w.heap.size) (by omega) v).other (B' := w.heap.size + 1) (by omega) u).cell; have n2 := fun v u => ((q2.other (B' := w.heap.size) (by omega) v).other (B' := w.heap.size + 1) (by omega) u).frozen)
      have hb : Below w.heap.size w w5 := hB.trans (hb5.mono hB.size)
      have hk := (((keeps_belowC hb5).trans (KeepsOthers.setCell w5 ⟨w.heap.size, 0, none⟩ (.slice none 0 0))).trans (KeepsOthers.setCell _ ⟨w.heap.size + 1, 0, none⟩ (.int .i64 (x.1 : Nat)))).trans (KeepsOthers.setCell _ ⟨w.heap.size + 1 + 1, 0, none⟩ (.int .i64 50))
      exact ⟨hk.from _, rfl, x, pre, rfl, unhide HOK, unhide HC, ((q0.set _).other (by omega) _).other (by omega) _, (((q1.other (B' := w.heap.size) (by omega) _).set _)).other (by omega) _, ((q2.other (B' := w.heap.size) (by omega) _).other (B' := w.heap.size + 1) (by omega) _).set _, ((hb.setCell (by simp) _).setCell (by simp) _).setCell (by simp; omega) _⟩
    · have HC := hide hC
      have hnE : noneE (wcls s x) = 0 := by unfold noneE; rw [if_neg hC]
      rw [hnE] at hSC
      have HSC := hide hSC
      have hsz := unhide HSZ
      clear hSC hnE hC
      generalize hcl : wcls s x = cl at *
      have HCL := hide hcl
      clear hcl
      gi_wp2_with (first | (gi_at_call 21; refine (unhide HSC _).mono ?_; rintro e w5 ⟨rfl, hb5⟩; have q0 := boxed_belowC f0 hb5; have q1 := boxed_belowC f1 hb5; have q2 := boxed_belowC f2 hb5; have q3 := boxed_belowC hv hb5; have g5 := q3.cell; have hr5 := row_belowC (unhide HRL) hb5; have hB5 := hB.trans (hb5.mono hB.size); have hs5 := hB5.size) | (gi_at_builtin; refine wpListIn_append_own _ rfl _ _ 48 rfl w.heap.size 34 i0 (.int .u8 0) 1 1 Try.underlying48 hi0 hz0 hz1 hz2 rfl (by decide) _ _ _ rfl (hr5.alloc _) ⟨w5.heap.size, 0, none⟩ 1 1 [.int .u8 cl] rfl rfl (cell_one_new _ _ _) (by simp [Value.oneCell']) (by unfold maxLen; omega) (by omega) (by simp; omega) ?_; intro v' w6 hown hgrow _; obtain ⟨g', cap', rfl⟩ := ownsRow_succ hown; obtain ⟨u1, u2, u3, u4, u5⟩ := q3.appended (by decide) hr5 (by omega) (by omega) hown hgrow; have t1 := u1.cell; have t2 := u1.frozen))
      replace hgrow : World.grownBy _ w6 (Value.slice va pre.length vc).ownBlock := hgrow
      have bump : ∀ {k : Nat} {t : TypeId} {y : Value}, Boxed w5 k t y → t ≠ 34 → k ≠ w.heap.size + 1 + 1 + 1 → Boxed (w6.setCell ⟨w.heap.size + 1 + 1 + 1, 0, none⟩ (.slice (some ⟨g', 0, none⟩) (pre.length + 1) cap')) k t y := fun h ht hk =>
        ((h.alloc _).kept hgrow (h.not_row ht hr5)).other hk _
      have hk : KeepsOthers V (w6.setCell ⟨w.heap.size + 1 + 1 + 1, 0, none⟩ (.slice (some ⟨g', 0, none⟩) (pre.length + 1) cap')) := (keeps_belowC hb5).trans u4
      refine ⟨hk.from _, ⟨hk.walks, fun k t y hk1 ht hb => bump (boxed_belowC hb hb5) (by rw [ht]; decide) (by omega)⟩, ?_, hpb, ⟨_, u2, ?_⟩, bump q0 (by decide) (by omega), bump q1 (by decide) (by omega), bump q2 (by decide) (by omega), hB5.trans u5⟩
      · intro y hy
        rcases List.mem_append.1 hy with h | h
        · exact unhide HOK y h
        · rw [List.mem_singleton.1 h, unhide HCL]; exact unhide HC
      · rw [unhide HCV, List.length_append]; exact u3
  case done =>
    rintro D xs V hD hS ⟨e1, e2, ⟨v, e4, e5⟩, e6, e7, e8, e9⟩ hK
    obtain ⟨va, vc, rfl⟩ := row_sliceC e5
    subst hS
    have hbn := bad_none s e1
    have hL : clsL s = (wordsL s).map (wcls s) := by unfold clsL; rw [hbn]
    have hP : clsP s = 0 := by unfold clsP; rw [hbn]
    have hE : clsE s = 0 := by unfold clsE; rw [hbn]
    have HL := hide hL
    have HP := hide hP
    have HE := hide hE
    have l0 := e6.lt
    have l1 := e7.lt
    have l2 := e8.lt
    have c0 := e6.cell
    have k0 := e6.frozen
    have c3 := e4.cell
    have m1 := fun v => (e7.other (B' := w.heap.size) (by omega) v).cell
    have n1 := fun v => (e7.other (B' := w.heap.size) (by omega) v).frozen
    have m2 := fun v u => ((e8.other (B' := w.heap.size) (by omega) v).other (B' := w.heap.size + 1) (by omega) u).cell
    have n2 := fun v u => ((e8.other (B' := w.heap.size) (by omega) v).other (B' := w.heap.size + 1) (by omega) u).frozen
    obtain ⟨X, hX⟩ : ∃ X, ((V.setCell ⟨w.heap.size, 0, none⟩ (.slice va (wordsL s).length vc)).setCell ⟨w.heap.size + 1, 0, none⟩ (.int .i64 0)).setCell ⟨w.heap.size + 1 + 1, 0, none⟩ (.int .i64 0) = X := ⟨_, rfl⟩
    have x0 : Boxed X w.heap.size 48 (.slice va (wordsL s).length vc) := by rw [← hX]; exact ((e6.set _).other (by omega) _).other (by omega) _
    have x1 : Boxed X (w.heap.size + 1) 3 (.int .i64 0) := by rw [← hX]; exact (((e7.other (B' := w.heap.size) (by omega) _).set _)).other (by omega) _
    have x2 : Boxed X (w.heap.size + 1 + 1) 35 (.int .i64 0) := by rw [← hX]; exact ((e8.other (B' := w.heap.size) (by omega) _).other (B' := w.heap.size + 1) (by omega) _).set _
    have x3 : X.heap[D]? = some (.deferred (some [])) := by rw [← hX]; exact (Below.heap_setCell _ _ _ _ (by simp; omega)).trans ((Below.heap_setCell _ _ _ _ (by simp; omega)).trans ((Below.heap_setCell _ _ _ _ (by simp; omega)).trans hK))
    have x4 : X.ownsRow w.heap.size 34 1 (.slice va (wordsL s).length vc) (wordsL s).length (clsVs s (wordsL s)) := by
      rw [← hX]
      have z1 := e5.kept (grownBy_setCell' V w.heap.size (.slice va (wordsL s).length vc)) (.inr ((e6.not_row (by decide) e5).symm))
      have z2 := z1.kept (grownBy_setCell' _ (w.heap.size + 1) (.int .i64 0)) (.inr (((e7.other (B' := w.heap.size) (by omega) _).not_row (by decide) z1).symm))
      exact z2.kept (grownBy_setCell' _ (w.heap.size + 1 + 1) (.int .i64 0)) (.inr ((((e8.other (B' := w.heap.size) (by omega) _).other (B' := w.heap.size + 1) (by omega) _).not_row (by decide) z2).symm))
    have x5 : Below w.heap.size w X := by rw [← hX]; exact ((e9.setCell (by simp) _).setCell (by simp) _).setCell (by simp; omega) _
    have HX := hide hX
    have X0 := hide x0
    have X1 := hide x1
    have X2 := hide x2
    have X3 := hide x3
    have X4 := hide x4
    have X5 := hide x5
    clear x0 x1 x2 x3 x4 x5 hX hbn hL hP hE e1 e2 e5
    gi_wp2
    rw [unhide HX]
    refine ⟨by simp, .inl ⟨_, _, rfl, run_takeDeferred (unhide X3), ?_⟩⟩
    have y0 : Boxed (X.putObj D (.deferred none)) w.heap.size _ _ := (World.putObj_heap_other (by omega)).trans (unhide X0)
    have y1 : Boxed (X.putObj D (.deferred none)) (w.heap.size + 1) _ _ := (World.putObj_heap_other (by omega)).trans (unhide X1)
    have y2 : Boxed (X.putObj D (.deferred none)) (w.heap.size + 1 + 1) _ _ := (World.putObj_heap_other (by omega)).trans (unhide X2)
    have q0 := y0.cell
    have q1 := y1.cell
    have q2 := y2.cell
    rw [unhide HP, unhide HE]
    refine ⟨.tuple #[.slice va (wordsL s).length vc, .int .i64 0, .int .i64 0], by simp [results, Try.f31, go_sem, q0, q1, q2], _, rfl, ?_, (unhide X5).grown (grownBy_putObj' X D _) (unhide X5).size (fun k e => by cases e; omega)⟩
    rw [unhide HL, List.length_map]
    exact row_grownC (unhide X4) (grownBy_putObj' X D _) (fun r e => by cases e; exact ⟨_, unhide X3, rfl⟩)
  case stop =>
    rintro D c pre V hD hSp ⟨rfl, x, qs, e1, e2, e3, e4, e5, e6, e8⟩ hK
    gi_wp2
    refine ⟨by simp, .inl ⟨_, _, rfl, run_takeDeferred hK, ?_⟩⟩
    have y0 : Boxed (V.putObj D (.deferred none)) w.heap.size _ _ := (World.putObj_heap_other (by omega)).trans e4
    have y1 : Boxed (V.putObj D (.deferred none)) (w.heap.size + 1) _ _ := (World.putObj_heap_other (by omega)).trans e5
    have y2 : Boxed (V.putObj D (.deferred none)) (w.heap.size + 1 + 1) _ _ := (World.putObj_heap_other (by omega)).trans e6
    have q0 := y0.cell
    have q1 := y1.cell
    have q2 := y2.cell
    obtain ⟨r, hr⟩ := hSp
    rw [e1] at hr
    have hbad := bad_some s qs r x hr e2 e3
    have hL : clsL s = [] := by unfold clsL; rw [hbad]
    have hP : clsP s = x.1 := by unfold clsP; rw [hbad]
    have hE : clsE s = 50 := by unfold clsE; rw [hbad]
    rw [hL, hP, hE]
    exact ⟨.tuple #[.slice none 0 0, .int .i64 (x.1 : Nat), .int .i64 50], by simp [results, Try.f31, go_sem, q0, q1, q2], _, rfl, World.ownsRow_nil _ _ _ _, e8.grown (grownBy_putObj' V D _) e8.size (fun k e => by cases e; omega)⟩
end Go.Proofs.Ytkpmcojoiijonaa
