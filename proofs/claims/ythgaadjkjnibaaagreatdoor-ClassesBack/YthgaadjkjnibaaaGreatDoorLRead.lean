/-
  Read of package lines, for every text: its lines, or the first fault.
-/
import Derived.Test.YthgaadjkjnibaaaGreatDoorLe
import Derived.Shelf.RegionOpen
namespace Go.Proofs.YthgaadjkjnibaaaGreatDoor
open Go.RowKit Go.PlainAid Go.Lib Go.Shelf Go.Seq2 Go.Seq3
attribute [local go_sem] Oper.semAt_some
set_option linter.unusedVariables false

/-- what a line of a text is -/
def scanX (s : ByteArray) (x : Nat × Nat × Nat) : LineD × Int := scanS (x.1 : Nat) (s.extract x.2.1 x.2.2)
/-- the lines, and the first fault -/
def rdS (s : ByteArray) : List (Nat × Nat × Nat) → List LineD × Option (Nat × Int)
  | [] => ([], none)
  | x :: l => if (scanX s x).2 = 0 then ((scanX s x).1 :: (rdS s l).1, (rdS s l).2) else ([], some (x.1, (scanX s x).2))
def readS (s : ByteArray) : List LineD × Option (Nat × Int) := rdS s (linesL s)
theorem rd_ok (s : ByteArray) (l : List (Nat × Nat × Nat)) (h : ∀ x ∈ l, (scanX s x).2 = 0) : rdS s l = (l.map fun x => (scanX s x).1, none) := by
  induction l with
  | nil => rfl
  | cons a l ih => unfold rdS; rw [if_pos (h a (by simp)), ih (fun x hx => h x (by simp [hx]))]; rfl
theorem rd_bad (s : ByteArray) (l r : List (Nat × Nat × Nat)) (x : Nat × Nat × Nat) (h : ∀ y ∈ l, (scanX s y).2 = 0) (hx : (scanX s x).2 ≠ 0) : (rdS s (l ++ x :: r)).2 = some (x.1, (scanX s x).2) := by
  induction l with
  | nil => show (rdS s (x :: r)).2 = _; unfold rdS; rw [if_neg hx]
  | cons a l ih => rw [List.cons_append]; unfold rdS; rw [if_pos (h a (by simp))]; exact ih (fun y hy => h y (by simp [hy]))

def lineCells (ps : List (LineD × Value)) : List Value := ps.flatMap fun p => [.int .i64 p.1.no, .int .u8 p.1.kind, .string (S p.1.name), p.2, .string (S p.1.note)]
theorem lineCells_snoc (ps : List (LineD × Value)) (p : LineD × Value) : lineCells (ps ++ [p]) = lineCells ps ++ [.int .i64 p.1.no, .int .u8 p.1.kind, .string (S p.1.name), p.2, .string (S p.1.note)] := by simp [lineCells]
/-- lines in memory of the call's own -/
def RowL (V : World) (base : Nat) (v : Value) (ps : List (LineD × Value)) : Prop := V.ownsRow base 53 5 v ps.length (lineCells ps) ∧ ∀ p ∈ ps, TextsAt V base p.2 p.1.fields
def LinesAt (V : World) (base : Nat) (v : Value) (ds : List LineD) : Prop := ∃ ps : List (LineD × Value), ps.map (·.1) = ds ∧ RowL V base v ps
theorem row_grown {A B : World} {row : Option Nat} {base : Nat} {e : TypeId} {size : Nat} {v : Value} {n : Nat} {xs : List Value} (h : A.ownsRow base e size v n xs) (hg : A.grownBy B row) (hr : ∀ r, row = some r → ∃ o : Obj, A.heap[r]? = some o ∧ o.isCells = false) : B.ownsRow base e size v n xs := by
  refine ⟨h.1, ?_⟩
  rcases h.2 with h | ⟨g, cap, cur, h1, h2, h3, h4⟩
  · exact .inl h
  · exact .inr ⟨g, cap, cur, h1, h2, (grownBy_keeps_cells hg hr h3 rfl).trans h3, h4⟩
theorem RowL.grown {A B : World} {row : Option Nat} {base : Nat} {v : Value} {ps : List (LineD × Value)} (h : RowL A base v ps) (hg : A.grownBy B row) (hr : ∀ r, row = some r → ∃ o : Obj, A.heap[r]? = some o ∧ o.isCells = false) : RowL B base v ps :=
  ⟨row_grown h.1 hg hr, fun p hp => row_grown (h.2 p hp) hg hr⟩
theorem RowL.below {A B : World} {base : Nat} {v : Value} {ps : List (LineD × Value)} (h : RowL A base v ps) (hb : Below A.heap.size A B) : RowL B base v ps := ⟨rowB h.1 hb, fun p hp => rowB (h.2 p hp) hb⟩
theorem rows_apart {w : World} {b b' : Nat} {e e' : TypeId} {k k' : Nat} {v v' : Value} {n n' : Nat} {xs xs' : List Value} (h : w.ownsRow b e k v n xs) (h' : w.ownsRow b' e' k' v' n' xs') (hne : e ≠ e') : v.ownBlock = none ∨ v.ownBlock ≠ v'.ownBlock := by
  rcases h.2 with ⟨rfl, _⟩ | ⟨g, cap, cur, rfl, _, hg, _⟩
  · exact .inl rfl
  · rcases h'.2 with ⟨rfl, _⟩ | ⟨g', cap', cur', rfl, _, hg', _⟩
    · exact .inr (by simp [Value.ownBlock])
    · refine .inr fun e1 => ?_
      have e2 : g = g' := by simpa [Value.ownBlock] using e1
      subst e2
      rw [hg] at hg'
      simp only [Option.some.injEq, Obj.cells.injEq] at hg'
      exact hne hg'.2.1
theorem keeps_below {V W : World} (h : Below V.heap.size V W) : KeepsOthers V W := ⟨h.size, fun k o hk _ => (h.block k (Array.getElem?_eq_some_iff.1 hk).1).trans hk⟩
theorem boxed_below2 {V W : World} {b : Nat} {t : TypeId} {v : Value} (h : Boxed V b t v) (hb : Below V.heap.size V W) : Boxed W b t v := (hb.block b h.lt).trans h
theorem set_same {W : World} {b : Nat} {t : TypeId} {v : Value} (h : Boxed W b t v) : W.setCell ⟨b, 0, none⟩ v = W := by
  have hb : W.heap[b]? = some (.cells #[v] t) := h
  have key : ∀ f : Obj → Obj, f (.cells #[v] t) = .cells #[v] t → W.heap.modify b f = W.heap := by
    intro f hf
    apply Array.ext_getElem?
    intro i
    rw [Array.getElem?_modify]
    split
    · rename_i e; subst e; rw [hb]; simp [hf]
    · rfl
  unfold World.setCell
  rw [key _ (by simp)]
theorem infoLine : (Tryz.prog.info? 53).map (fun i => (i.zero, i.size, i.bytes)) = some (some (.agg #[.int .i64 0, .int .u8 0, .string ⟨#[]⟩, .slice none 0 0, .string ⟨#[]⟩]), 5, 72) := by kernel_rfl
theorem cell_five_new (w : World) (a b c d f : Value) (t : TypeId) : ∀ j u, [a, b, c, d, f][j]? = some u → (w.alloc (.cells #[a, b, c, d, f] t)).cell? ((⟨w.heap.size, 0, none⟩ : Addr).add j) = some u := by
  intro j u hj
  match j, hj with
  | 0, hj => simp at hj; subst hj; simp [Addr.add]
  | 1, hj => simp at hj; subst hj; simp [Addr.add]
  | 2, hj => simp at hj; subst hj; simp [Addr.add]
  | 3, hj => simp at hj; subst hj; simp [Addr.add]
  | 4, hj => simp at hj; subst hj; simp [Addr.add]
  | j + 5, hj => simp at hj

/-- what holds between two lines of the loop -/
def ReadI (s file : ByteArray) (w : World) (pre : List (Nat × Nat × Nat)) (V : World) : Prop :=
  (∀ x ∈ pre, (scanX s x).2 = 0) ∧ pre.length ≤ s.size + 1 ∧ (∃ ps v, ps.map (·.1) = pre.map (fun x => (scanX s x).1) ∧ Boxed V (w.heap.size + 1 + 1 + 1) 44 v ∧ RowL V w.heap.size v ps) ∧ Boxed V w.heap.size 9 (.string file) ∧ Boxed V (w.heap.size + 1) 44 (.slice none 0 0) ∧ Boxed V (w.heap.size + 1 + 1) 25 .nilIface ∧ Below w.heap.size w V
/-- what holds where the loop is left -/
def ReadX (s file : ByteArray) (w : World) (c : Code) (pre : List (Nat × Nat × Nat)) (V : World) : Prop :=
  c = .ret ∧ ∃ x qs fb, pre = qs ++ [x] ∧ (∀ y ∈ qs, (scanX s y).2 = 0) ∧ (scanX s x).2 ≠ 0 ∧ Boxed V (w.heap.size + 1) 44 (.slice none 0 0) ∧ Boxed V (w.heap.size + 1 + 1) 25 (.iface 56 (.pointer (some ⟨fb, 0, none⟩))) ∧ w.heap.size ≤ fb ∧ V.heap[fb]? = some (.cells #[.string file, .int .i64 (x.1 : Nat), .int .i64 (scanX s x).2] 58) ∧ Below w.heap.size w V

set_option maxRecDepth 100000 in
set_option maxHeartbeats 4000000 in
theorem read_any (file s : ByteArray) (w : World) (hs : s.size ≤ 1073741824) :
    Calls Tryz.prog 13 #[.string file, .string s] w fun e w' => Below w.heap.size w w' ∧
      (((readS s).2 = none ∧ ∃ v, e = .returned (.tuple #[v, .nilIface]) ∧ LinesAt w' w.heap.size v (readS s).1) ∨
       (∃ no code fb, (readS s).2 = some (no, code) ∧ e = .returned (.tuple #[.slice none 0 0, .iface 56 (.pointer (some ⟨fb, 0, none⟩))]) ∧ w.heap.size ≤ fb ∧ w'.heap[fb]? = some (.cells #[.string file, .int .i64 (no : Nat), .int .i64 code] 58))) := by
  refine (callsIn_wide (n := 9)).1 ?_
  refine callsIn_of_wp_marks Tryz.func13 rfl trivial ?_ rfl
  simp only [Tryz.ntmps13, List.size_toArray, List.length_cons, List.length_nil, Nat.reduceAdd, Nat.reduceSub, Array.replicate_succ, Array.replicate_zero, List.push_toArray, List.append_toArray, List.nil_append, List.cons_append]
  have hF : ∀ f, Fence.wide.fn f := fun _ => trivial
  obtain ⟨i0, hi0, hz0, hz1, hz2⟩ := info_parts infoLine
  gi_wp2_with (gi_at_call 28; refine (callsIn_wide.2 (each_in s _)).mono ?_; rintro e w' ⟨rfl, rfl⟩)
  obtain ⟨W0, hW0⟩ : ∃ W0, ((((w.alloc (Obj.cells #[Value.string file] 9)).alloc (Obj.cells #[Value.slice none 0 0] 44)).alloc (Obj.cells #[Value.nilIface] 25)).alloc (Obj.cells #[Value.slice none 0 0] 44)).alloc (Obj.cells #[Value.string s] 9) = W0 := ⟨_, rfl⟩
  have hB0 : Below w.heap.size w W0 := by rw [← hW0]; go_grown
  have hsz : W0.heap.size = w.heap.size + 5 := by rw [← hW0]; simp
  have b0 : Boxed W0 w.heap.size 9 (.string file) := by rw [← hW0]; exact ((((Boxed.new w _ _).alloc _).alloc _).alloc _).alloc _
  have b1 : Boxed W0 (w.heap.size + 1) 44 (.slice none 0 0) := by
    rw [← hW0]; simpa [Boxed] using (((Boxed.new (w.alloc (Obj.cells #[Value.string file] 9)) 44 (.slice none 0 0)).alloc (Obj.cells #[Value.nilIface] 25)).alloc (Obj.cells #[Value.slice none 0 0] 44)).alloc (Obj.cells #[Value.string s] 9)
  have b2 : Boxed W0 (w.heap.size + 1 + 1) 25 .nilIface := by
    rw [← hW0]; simpa [Boxed] using ((Boxed.new ((w.alloc (Obj.cells #[Value.string file] 9)).alloc (Obj.cells #[Value.slice none 0 0] 44)) 25 .nilIface).alloc (Obj.cells #[Value.slice none 0 0] 44)).alloc (Obj.cells #[Value.string s] 9)
  have b3 : Boxed W0 (w.heap.size + 1 + 1 + 1) 44 (.slice none 0 0) := by
    rw [← hW0]; simpa [Boxed] using (Boxed.new (((w.alloc (Obj.cells #[Value.string file] 9)).alloc (Obj.cells #[Value.slice none 0 0] 44)).alloc (Obj.cells #[Value.nilIface] 25)) 44 (.slice none 0 0)).alloc (Obj.cells #[Value.string s] 9)
  have b4 : Boxed W0 (w.heap.size + 1 + 1 + 1 + 1) 9 (.string s) := by
    rw [← hW0]; simpa [Boxed] using Boxed.new ((((w.alloc (Obj.cells #[Value.string file] 9)).alloc (Obj.cells #[Value.slice none 0 0] 44)).alloc (Obj.cells #[Value.nilIface] 25)).alloc (Obj.cells #[Value.slice none 0 0] 44)) 9 (.string s)
  rw [hW0]
  clear hW0
  refine range3G (by omega) (gf := 50) (lb := #[.pointer (some ⟨w.heap.size + 1 + 1 + 1 + 1, 0, none⟩)]) rfl (enters_of Tryz.func50 (by kernel_rfl) rfl)
    (each_gives s (by omega) _ (w.heap.size + 1 + 1 + 1 + 1) (by omega) W0 b4) (Below.refl _ _) (fun _ => rfl)
    (ReadI s file w) (ReadX s file w)
    (fun st A B row hx hg hr => by
        obtain ⟨e1, e2, ⟨ps, v, e3, e4, e5⟩, e6, e7, e8, e9⟩ := hx
        exact ⟨e1, e2, ⟨ps, v, e3, own_block (β := Unit) _ _ _ rfl () A B row e4 hg hr, e5.grown hg (fun r e => (hr r e).2)⟩, own_block (β := Unit) _ _ _ rfl () A B row e6 hg hr, own_block (β := Unit) _ _ _ rfl () A B row e7 hg hr, own_block (β := Unit) _ _ _ rfl () A B row e8 hg hr, ownFrom_below (β := Unit) (Nat.le_refl _) (by omega) () A B row e9 hg hr⟩)
    (fun c st A B row hx hg hr => by
        obtain ⟨hc, x, qs, fb, e1, e2, e3, e4, e5, e6, e7, e8⟩ := hx
        exact ⟨hc, x, qs, fb, e1, e2, e3, own_block (β := Unit) _ _ _ rfl () A B row e4 hg hr, own_block (β := Unit) _ _ _ rfl () A B row e5 hg hr, e6, own_block (β := Unit) _ _ _ rfl () A B row e7 hg hr, ownFrom_below (β := Unit) (Nat.le_refl _) (by omega) () A B row e8 hg hr⟩)
    ⟨by simp, by simp, ⟨[], .slice none 0 0, rfl, b3, by simpa [lineCells] using World.ownsRow_nil W0 _ _ _, by simp⟩, b0, b1, b2, hB0⟩
    ?a1 ?assign ?body ?done ?stop
  case assign =>
    intro l x W K hK
    gi_wp2
    exact hK
  case body =>
    have HSZ := hide hsz
    clear hsz
    rintro l pre x V hl hsz2 ⟨r, hr⟩ ⟨hok, hlen, ⟨ps, v, hps, hv, hrow⟩, f0, f1, f2, hB⟩ hSp
    have hm := exts_mem s x ((List.takeWhile_sublist _).subset (hSp.subset (by simp)))
    have hSC := fun W => callsIn_wide (n := 9 - 1 - 1 - 1) |>.2 (scan_any (x.1 : Nat) (s.extract x.2.1 x.2.2) W (by simp; omega))
    have hSX : scanX s x = scanS (x.1 : Nat) (s.extract x.2.1 x.2.2) := rfl
    obtain ⟨D, C, hDC⟩ : ∃ D C, scanX s x = (D, C) := ⟨_, _, rfl⟩
    rw [← hSX, hDC] at hSC
    dsimp only at hSC
    have HSC := hide hSC
    have hvs : ∃ a c, v = .slice a ps.length c := row_slice2 hrow.1
    obtain ⟨va, vc, rfl⟩ := hvs
    have hpb : ps.length ≤ s.size + 1 := by have := congrArg List.length hps; simp at this; omega
    have HRL := hide hrow
    have HPS := hide hps
    have HOK := hide hok
    have HSP := hide hSp
    have HDC := hide hDC
    clear hSC hSX hrow hps hok hSp hDC
    generalize s.extract x.2.1 x.2.2 = T at *
    by_cases hC : C = 0
    · subst hC
      have hsz := unhide HSZ
      gi_wp2_with (first | (gi_at_call 29; refine (unhide HSC _).mono ?_; rintro e w5 ⟨fv, rfl, hfr, hb5⟩; obtain ⟨fa, fc, rfl⟩ := row_slice2 hfr; have q0 := boxed_below2 f0 hb5; have q1 := boxed_below2 f1 hb5; have q2 := boxed_below2 f2 hb5; have q3 := boxed_below2 hv hb5; have g5 := fun o => (q3.alloc o).cell; have hR5 := (unhide HRL).below hb5; have HR5 := hide hR5; have hr5 := hR5.1; clear hR5; have hB5 := hB.trans (hb5.mono hB.size); have hs5 := hB5.size; have HFR := hide hfr; clear hfr) | (gi_at_builtin; refine wpListIn_append_own _ rfl _ _ 44 rfl w.heap.size 53 i0 (.agg #[.int .i64 0, .int .u8 0, .string ⟨#[]⟩, .slice none 0 0, .string ⟨#[]⟩]) 5 72 Tryz.underlying44 hi0 hz0 hz1 hz2 rfl (by decide) _ _ _ rfl ((hr5.alloc _).alloc _) ⟨w5.heap.size + 1, 0, none⟩ 1 1 [.int .i64 D.no, .int .u8 D.kind, .string (S D.name), .slice fa D.fields.length fc, .string (S D.note)] rfl rfl (by simpa using cell_five_new (w5.alloc (.cells #[.int .i64 D.no, .int .u8 D.kind, .string (S D.name), .slice fa D.fields.length fc, .string (S D.note)] 53)) (.int .i64 D.no) (.int .u8 D.kind) (.string (S D.name)) (.slice fa D.fields.length fc) (.string (S D.note)) 53) (by simp [Value.oneCell']) (by unfold maxLen; omega) (by omega) (by simp; omega) ?_; intro v' w6 hown hgrow _; obtain ⟨g', cap', rfl⟩ := ownsRow_succ hown; obtain ⟨u1, u2, u3, u4, u5⟩ := (q3.alloc _).appended (by decide) (hr5.alloc _) (by simp; omega) (by omega) hown hgrow; have t1 := u1.cell; have t2 := u1.frozen))
      replace hgrow : World.grownBy _ w6 (Value.slice va ps.length vc).ownBlock := hgrow
      have hFR := unhide HFR
      have hSZ : V.heap.size ≤ w5.heap.size := hb5.size
      have hP5 := unhide HR5
      have bump : ∀ {k : Nat} {t : TypeId} {y : Value}, Boxed w5 k t y → t ≠ 53 → k ≠ w.heap.size + 1 + 1 + 1 → Boxed (w6.setCell ⟨w.heap.size + 1 + 1 + 1, 0, none⟩ (.slice (some ⟨g', 0, none⟩) (ps.length + 1) cap')) k t y := fun h ht hk =>
        (((h.alloc _).alloc _).kept hgrow (h.not_row ht hr5)).other hk _
      have texts : ∀ {b : Nat} {y : Value} {l : List (List UInt8)}, TextsAt w5 b y l → TextsAt (w6.setCell ⟨w.heap.size + 1 + 1 + 1, 0, none⟩ (.slice (some ⟨g', 0, none⟩) (ps.length + 1) cap')) b y l := fun h =>
        (((h.alloc _).alloc _).kept hgrow (rows_apart h hr5 (by decide))).kept (grownBy_setCell' _ _ _) (.inr ((u1.not_row (by decide) (((h.alloc _).alloc _).kept hgrow (rows_apart h hr5 (by decide)))).symm))
      have hk : KeepsOthers V (w6.setCell ⟨w.heap.size + 1 + 1 + 1, 0, none⟩ (.slice (some ⟨g', 0, none⟩) (ps.length + 1) cap')) := ((keeps_below hb5).trans (KeepsOthers.alloc _ _)).trans u4
      refine ⟨hk.from _, ⟨hk.walks, fun k t y hk1 ht hb => bump (boxed_below2 hb hb5) (by rcases ht with rfl | rfl <;> decide) (by omega)⟩, ?_, ?_, ⟨ps ++ [(D, .slice fa D.fields.length fc)], _, ?_, u2, ?_, ?_⟩, bump q0 (by decide) (by omega), bump q1 (by decide) (by omega), bump q2 (by decide) (by omega), ?_⟩
      · intro y hy
        rcases List.mem_append.1 hy with h | h
        · exact unhide HOK y h
        · rw [List.mem_singleton.1 h, unhide HDC]
      · have h1 := (unhide HSP).length_le
        have h2 : (linesL s).length ≤ (extsL s).length := (List.takeWhile_sublist _).length_le
        have h3 := exts_len s
        omega
      · rw [List.map_append, List.map_append, unhide HPS]; simp [unhide HDC]
      · rw [lineCells_snoc, List.length_append]; exact u3
      · intro p hp
        rcases List.mem_append.1 hp with h | h
        · exact texts (hP5.2 p h)
        · rw [List.mem_singleton.1 h]; exact texts (row_base hFR (Nat.le_trans hB.size (Nat.le_refl _)))
      · exact (hB5.alloc hs5 _).trans u5
    · have dC : (C != 0) = true := by simpa using hC
      gi_wp2_with (gi_at_call 29; refine (unhide HSC _).mono ?_; rintro e w5 ⟨fv, rfl, hfr, hb5⟩; obtain ⟨fa, fc, rfl⟩ := row_slice2 hfr; have q0 := boxed_below2 f0 hb5; have q1 := boxed_below2 f1 hb5; have q2 := boxed_below2 f2 hb5; have hse := set_same q1; have hse1 := fun o => set_same (q1.alloc o); have hse2 := fun o o' => set_same ((q1.alloc o).alloc o'); have l1 := q1.lt; have l2 := q2.lt; have g0 := fun o => (q0.alloc o).cell; have g1 := fun o => (q1.alloc o).cell; have g2 := fun o => (q2.alloc o).cell; have k1 := fun o => (q1.alloc o).frozen; have k2 := fun o => (q2.alloc o).frozen; have g3 := fun o o' => ((q1.alloc o).alloc o').cell; have g4 := fun o o' => ((q2.alloc o).alloc o').cell; have k3 := fun o o' => ((q1.alloc o).alloc o').frozen; have k4 := fun o o' => ((q2.alloc o).alloc o').frozen; have HFR := hide hfr; clear hfr)
      have hW5 : ∃ A, w5.setCell ⟨w.heap.size + 1 + 1, 0, none⟩ (.iface 56 (.pointer (some ⟨w5.heap.size + 1, 0, none⟩))) = A ∧ A.heap.size = w5.heap.size ∧ KeepsOthers V A ∧ Boxed A (w.heap.size + 1) 44 (.slice none 0 0) ∧ Boxed A (w.heap.size + 1 + 1) 25 (.iface 56 (.pointer (some ⟨w5.heap.size + 1, 0, none⟩))) ∧ Below w.heap.size w A :=
        ⟨_, rfl, by simp, (keeps_below hb5).trans (KeepsOthers.setCell _ _ _), q1.other (by omega) _, q2.set _, (hB.trans (hb5.mono hB.size)).setCell (by simp; omega) _⟩
      obtain ⟨A, hA, hA0, hA1, hA2, hA3, hA4⟩ := hW5
      have hlw : w.heap.size ≤ w5.heap.size := by omega
      have fin : ∀ o1 : Obj, KeepsFrom W0.heap.size V ((A.alloc o1).alloc (.cells #[.string file, .int .i64 (x.1 : Nat), .int .i64 C] 58)).drew ∧ ReadX s file w .ret (pre ++ [x]) ((A.alloc o1).alloc (.cells #[.string file, .int .i64 (x.1 : Nat), .int .i64 C] 58)).drew := by
        intro o1
        have hk := (hA1.trans (KeepsOthers.alloc A o1)).trans (KeepsOthers.alloc (A.alloc o1) (.cells #[.string file, .int .i64 (x.1 : Nat), .int .i64 C] 58))
        have hnew := heap_alloc_new (A.alloc o1) (.cells #[.string file, .int .i64 (x.1 : Nat), .int .i64 C] 58)
        rw [World.size_alloc, hA0] at hnew
        refine ⟨⟨hk.size, fun k o _ => hk.same k o⟩, rfl, x, pre, w5.heap.size + 1, rfl, unhide HOK, by rw [unhide HDC]; exact hC, (hA2.alloc _).alloc _, (hA3.alloc _).alloc _, by omega, ?_, (((hA4.alloc hA4.size _).alloc (by simp; have := hA4.size; omega) _)).trans ⟨rfl, rfl, rfl, Nat.le_refl _, fun _ _ => rfl⟩⟩
        rw [unhide HDC]; exact hnew
      have FIN := hide fin
      have HA := hide hA
      clear fin hA hA0 hA1 hA2 hA3 hA4 hlw
      gi_region
      all_goals gi_wp2
      all_goals (rw [unhide HA]; exact unhide FIN _)
  case done =>
    rintro D xs V hD hS ⟨e1, e2, ⟨ps, v, e3, e4, e5⟩, e6, e7, e8, e9⟩ hK
    obtain ⟨va, vc, rfl⟩ := row_slice2 e5.1
    subst hS
    have c1 := e7.cell
    have f1 := e7.frozen
    have c3 := e4.cell
    have g8 := e8.other (B' := w.heap.size + 1) (by omega) (.slice va ps.length vc)
    have c2 := g8.cell
    have f2 := g8.frozen
    have x1 : Boxed ((V.setCell ⟨w.heap.size + 1, 0, none⟩ (.slice va ps.length vc)).setCell ⟨w.heap.size + 1 + 1, 0, none⟩ .nilIface) (w.heap.size + 1) 44 (.slice va ps.length vc) := (e7.set _).other (by omega) _
    have x2 : Boxed ((V.setCell ⟨w.heap.size + 1, 0, none⟩ (.slice va ps.length vc)).setCell ⟨w.heap.size + 1 + 1, 0, none⟩ .nilIface) (w.heap.size + 1 + 1) 25 .nilIface := g8.set _
    have x3 : ((V.setCell ⟨w.heap.size + 1, 0, none⟩ (.slice va ps.length vc)).setCell ⟨w.heap.size + 1 + 1, 0, none⟩ .nilIface).heap[D]? = some (.deferred (some [])) := (Below.heap_setCell _ _ _ _ (by simp; omega)).trans ((Below.heap_setCell _ _ _ _ (by simp; omega)).trans hK)
    have x4 : RowL ((V.setCell ⟨w.heap.size + 1, 0, none⟩ (.slice va ps.length vc)).setCell ⟨w.heap.size + 1 + 1, 0, none⟩ .nilIface) w.heap.size (.slice va ps.length vc) ps := by
      have z1 := e5.1.kept (grownBy_setCell' V (w.heap.size + 1) (.slice va ps.length vc)) (.inr ((e7.not_row (by decide) e5.1).symm))
      refine ⟨z1.kept (grownBy_setCell' _ _ _) (.inr ((g8.not_row (by decide) z1).symm)), fun p hp => ?_⟩
      have z2 := (e5.2 p hp).kept (grownBy_setCell' V (w.heap.size + 1) (.slice va ps.length vc)) (.inr ((e7.not_row (by decide) (e5.2 p hp)).symm))
      exact z2.kept (grownBy_setCell' _ _ _) (.inr ((g8.not_row (by decide) z2).symm))
    have x5 : Below w.heap.size w ((V.setCell ⟨w.heap.size + 1, 0, none⟩ (.slice va ps.length vc)).setCell ⟨w.heap.size + 1 + 1, 0, none⟩ .nilIface) := (e9.setCell (by simp) _).setCell (by simp; omega) _
    have X1 := hide x1
    have X2 := hide x2
    have X3 := hide x3
    have X4 := hide x4
    have X5 := hide x5
    clear x1 x2 x3 x4 x5
    gi_wp2
    generalize hX : (V.setCell ⟨w.heap.size + 1, 0, none⟩ (.slice va ps.length vc)).setCell ⟨w.heap.size + 1 + 1, 0, none⟩ .nilIface = X at *
    refine ⟨by simp, .inl ⟨_, _, rfl, run_takeDeferred (unhide X3), ?_⟩⟩
    have y1 : Boxed (X.putObj D (.deferred none)) (w.heap.size + 1) _ _ := (World.putObj_heap_other (by omega)).trans (unhide X1)
    have y2 : Boxed (X.putObj D (.deferred none)) (w.heap.size + 1 + 1) _ _ := (World.putObj_heap_other (by omega)).trans (unhide X2)
    have q1 := y1.cell
    have q2 := y2.cell
    have hrd := rd_ok s (linesL s) e1
    refine ⟨.tuple #[.slice va ps.length vc, .nilIface], by simp [results, Tryz.f13, go_sem, q1, q2], (unhide X5).grown (grownBy_putObj' X D _) (unhide X5).size (fun k e => by cases e; omega), .inl ⟨by unfold readS; rw [hrd], _, rfl, ps, by unfold readS; rw [e3, hrd], ?_⟩⟩
    exact (unhide X4).grown (grownBy_putObj' X D _) (fun r e => by cases e; exact ⟨_, unhide X3, rfl⟩)
  case stop =>
    rintro D c pre V hD hSp ⟨rfl, x, qs, fb, e1, e2, e3, e4, e5, e6, e7, e8⟩ hK
    gi_wp2
    refine ⟨by simp, .inl ⟨_, _, rfl, run_takeDeferred hK, ?_⟩⟩
    have y1 : Boxed (V.putObj D (.deferred none)) (w.heap.size + 1) _ _ := (World.putObj_heap_other (by omega)).trans e4
    have y2 : Boxed (V.putObj D (.deferred none)) (w.heap.size + 1 + 1) _ _ := (World.putObj_heap_other (by omega)).trans e5
    have hne : fb ≠ D := by
      intro e
      rw [e, hK] at e7; cases e7
    have y3 : (V.putObj D (.deferred none)).heap[fb]? = _ := (World.putObj_heap_other hne).trans e7
    have q1 := y1.cell
    have q2 := y2.cell
    obtain ⟨r, hr⟩ := hSp
    have hbad : (readS s).2 = some (x.1, (scanX s x).2) := by
      unfold readS
      rw [← hr, e1, List.append_assoc]; exact rd_bad s qs r x e2 e3
    exact ⟨.tuple #[.slice none 0 0, .iface 56 (.pointer (some ⟨fb, 0, none⟩))], by simp [results, Tryz.f13, go_sem, q1, q2], e8.grown (grownBy_putObj' V D _) e8.size (fun k e => by cases e; omega), .inr ⟨_, _, fb, hbad, rfl, e6, y3⟩⟩
end Go.Proofs.YthgaadjkjnibaaaGreatDoor
