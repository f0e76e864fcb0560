/-
  PointsNot: its arguments, and what memory a map has beside others.
-/
import Derived.Test.YtebppdcnfbflkaaPPutF
import Derived.Test.YtebppdcnfbflkaaPAtF
import Derived.Test.YtebppdcnfbflkaaPSizeF
import Derived.Test.YtebppdcnfbflkaaPStr2F
import Derived.Test.YtebppdcnfbflkaaPNotM
import Derived.Test.YtebppdcnfbflkaaPLives
import Derived.Deep.SlicePairs
import Derived.Deep.Grids
import Derived.OpenShut
namespace Go.Proofs.Ytebppdcnfbflkaa
open Go.RowKit Go.PlainAid Go.Lib Go.PRow Go.Shelf Go.Seq4 VF
set_option linter.unusedVariables false
set_option linter.unusedSimpArgs false

theorem eqv_symm {a b : Nat} (h : eqv a b = true) : eqv b a = true := by
  unfold eqv at h ⊢
  exact beq_iff_eq.2 (dat_symm (beq_iff_eq.1 h))
theorem eqv_trans (a b c : Nat) (h : eqv a b = true) (k : eqv b c = true) : eqv a c = true := by
  unfold eqv at h k ⊢
  exact beq_iff_eq.2 (dat_trans (beq_iff_eq.1 h) (beq_iff_eq.1 k))
/-- what the law asks of two values: alike, or none of them like itself -/
def notB (u v : Nat) : Bool := !eqv u v && (eqv u u || eqv v v)
theorem notB_same (v : Nat) : notB v v = false := by
  unfold notB
  cases eqv v v <;> rfl
theorem notB_alike {u v : Nat} (h : eqv v u = true) : notB u v = false := by
  unfold notB
  rw [eqv_symm h]
  rfl
theorem blk_someF {v : Value} {W : World} {B : Nat} {ps : List (Pc Nat)} (h : RowP W B v ps) {j : Nat} (hj : blk v = some j) : B ≤ j ∧ ∃ cur, W.heap[j]? = some (.cells cur 115 (0, 0)) := by
  rcases h.2 with ⟨a, rfl, hn⟩ | ⟨g', cap, cur, rfl, hb, hh, hc, hm, hs, ht⟩
  · rw [blk_zero] at hj; cases hj
  · by_cases hc0 : cap = 0
    · subst hc0; rw [blk_zero] at hj; cases hj
    · rw [blk_pos (by omega)] at hj
      obtain rfl := Option.some.inj hj
      exact ⟨hb, cur, hh⟩
theorem chgF_step {S T : Nat → Prop} {a w w' : World} (h : VF.Chg S a w) (k : VF.Chg T w w') (hT : ∀ j, T j → S j ∨ a.heap.size ≤ j) : VF.Chg S a w' :=
  ⟨k.os.trans h.os, k.tape.trans h.tape, k.output.trans h.output, Nat.le_trans h.size k.size, fun j hj hS => (k.block j (Nat.lt_of_lt_of_le hj h.size) (fun t => by rcases hT j t with h' | h'; exact hS h'; omega)).trans (h.block j hj hS)⟩
theorem chgF_refl (S : Nat → Prop) (a : World) : VF.Chg S a a := ⟨rfl, rfl, rfl, Nat.le_refl _, fun _ _ _ => rfl⟩
theorem chgF_below {S : Nat → Prop} {a w w' : World} (h : VF.Chg S a w) (k : Below w.heap.size w w') : VF.Chg S a w' := chgF_step h (Below.chg k (fun _ => False)) (fun _ e => e.elim)
/-- how Put ends, in one form -/
theorem put_anyF (b : Nat) (v : Value) (B : Nat) (ps : List (Pc Nat)) (o : OkP ps) (lo hi : Int) (x : Nat) (w : World) (h : IsMap w b v) (hB : B ≤ w.heap.size) (hr : RowP w B v ps) :
    Calls Try.prog 23 #[(.pointer (some ⟨b, 0, none⟩)), .agg #[.int .i32 lo, .int .i32 hi], .float .f64 x] w fun e w' => ∃ z : Int, e = .returned (.int .i64 z) ∧
      ((z = 0 ∧ mayB lo hi = true ∧ (¬ frI ps lo < upI ps hi) ∧ ∃ v', RowP w' B v' (repP ps lo hi [⟨lo, hi, x⟩]) ∧ Moved w w' b v v') ∨ (¬ z = 0 ∧ Below w.heap.size w w')) := by
  cases hm : mayB lo hi with
  | false => exact (put_no b v lo hi hm x w h).mono fun e w' ⟨h1, h2⟩ => ⟨41, h1, .inr ⟨by decide, h2⟩⟩
  | true =>
    refine (put_may b v B ps o lo hi hm x w h hB hr).mono fun e w' hp => ?_
    unfold PutEnd at hp
    split at hp
    · exact ⟨42, hp.1, .inr ⟨by decide, hp.2⟩⟩
    · rename_i hmt
      exact ⟨0, hp.1, .inl ⟨rfl, rfl, by simpa [meetsP] using hmt, hp.2⟩⟩
/-- a list of ranges that came in -/
def ReadsG (w : World) (a : Option Addr) (L : List (Int × Int)) : Prop := ∀ (i : Nat) (lo hi : Int), L[i]? = some (lo, hi) → ∃ g off, a = some ⟨g, off, none⟩ ∧ w.cell? ⟨g, off + i * 2, none⟩ = some (.int .i32 lo) ∧ w.cell? ⟨g, off + i * 2 + 1, none⟩ = some (.int .i32 hi)
theorem ReadsG.below {w W : World} {a : Option Addr} {L : List (Int × Int)} (h : ReadsG w a L) (hb : Below w.heap.size w W) : ReadsG W a L := fun i lo hi e => by
  obtain ⟨g, off, rfl, h1, h2⟩ := h i lo hi e
  exact ⟨g, off, rfl, (hb.cell (World.block_lt_of_cell? _ _ h1)).trans h1, (hb.cell (World.block_lt_of_cell? _ _ h2)).trans h2⟩
/-- a list of floats that came in -/
def ReadsF (w : World) (a : Option Addr) (L : List Nat) : Prop := ∀ (i : Nat) (b : Nat), L[i]? = some b → ∃ g off, a = some ⟨g, off, none⟩ ∧ w.cell? ⟨g, off + i, none⟩ = some (.float .f64 b)
theorem ReadsF.below {w W : World} {a : Option Addr} {L : List Nat} (h : ReadsF w a L) (hb : Below w.heap.size w W) : ReadsF W a L := fun i b e => by
  obtain ⟨g, off, rfl, h1⟩ := h i b e
  exact ⟨g, off, rfl, (hb.cell (World.block_lt_of_cell? _ _ h1)).trans h1⟩
theorem open_rangesN {H : Type} {enc : TypeId × Value → H} {W : World} {base : Nat} {held : Bool} {fuel : Nat} {a : Option Addr} {len cap : Nat} {x : DataW H × List MemPlace}
    (h : DataW.trod enc Try.prog W base (fun _ => true) held fuel 41 (Value.slice a len cap).cells.toList = some x) : ∃ L : List (Int × Int), L.length = len ∧ ReadsG W a L := by
  rcases Go.Deep.open_slice_pairs Try.underlying41 Try.underlying28 (by kernel_rfl) rfl rfl (by kernel_rfl) (by kernel_rfl) h with ⟨hcs, _⟩ | ⟨b, l, c, m, n, V0, V1, D0, D1, P0, P1, hcs, hb, hl, hm, hmm, hx, hcell⟩
  · simp [Value.cells] at hcs
    obtain ⟨rfl, rfl, rfl⟩ := hcs
    exact ⟨[], rfl, fun i lo hi e => by simp at e⟩
  · simp [Value.cells] at hcs
    obtain ⟨rfl, rfl, rfl⟩ := hcs
    have hmm' : m = cap := by simpa using hmm
    subst hmm'
    have hint : ∀ i, i < m → V0 i = .int .i32 (RowKit.intOf (V0 i)) ∧ V1 i = .int .i32 (RowKit.intOf (V1 i)) := by
      intro i hi
      obtain ⟨_, _, h0, h1⟩ := hcell i hi
      obtain ⟨n0, e0, _, _⟩ := DataW.trod_int Try.underlying21 h0
      obtain ⟨n1, e1, _, _⟩ := DataW.trod_int Try.underlying21 h1
      have e0 : V0 i = .int .i32 n0 := by simpa using e0
      have e1 : V1 i = .int .i32 n1 := by simpa using e1
      rw [e0, e1]
      exact ⟨rfl, rfl⟩
    refine ⟨(List.range len).map fun i => (RowKit.intOf (V0 i), RowKit.intOf (V1 i)), by simp, fun i lo hi e => ?_⟩
    rw [List.getElem?_map] at e
    obtain ⟨i', hi', e⟩ := Option.map_eq_some_iff.1 e
    obtain ⟨hil, rfl⟩ := List.getElem?_eq_some_iff.1 hi'
    simp only [List.length_range, List.getElem_range, Prod.mk.injEq] at hil e
    obtain ⟨rfl, rfl⟩ := e
    obtain ⟨g, off, spot⟩ := b
    have hspot : spot = none := by simpa [Addr.add] using World.cell?_spot (hcell 0 (by omega)).1
    subst hspot
    refine ⟨g, off, rfl, ?_, ?_⟩
    · rw [← (hint i (by omega)).1, ← Go.WideShapes.add_plain]; exact (hcell i (by omega)).1
    · rw [← (hint i (by omega)).2, Nat.add_assoc, ← Go.WideShapes.add_plain]; exact (hcell i (by omega)).2.1
theorem trod_f64 {H : Type} {enc : TypeId × Value → H} {P : Program} {w : World} {base : Nat} {spare : Nat → Bool} {held : Bool} {fuel : Nat} {t : TypeId} {cs : List Value} {x : DataW H × List MemPlace} (ht : P.underlying t = some (.float .f64)) (h : DataW.trod enc P w base spare held fuel t cs = some x) : ∃ b, cs = [.float .f64 b] := by
  cases fuel with
  | zero => simp [DataW.trod] at h
  | succ n =>
    unfold DataW.trod at h
    rw [ht] at h
    split at h <;> simp_all
theorem open_floats {H : Type} {enc : TypeId × Value → H} {W : World} {base : Nat} {held : Bool} {fuel : Nat} {a : Option Addr} {len cap : Nat} {x : DataW H × List MemPlace}
    (h : DataW.trod enc Try.prog W base (fun _ => true) held fuel 53 (Value.slice a len cap).cells.toList = some x) : ∃ L : List Nat, L.length = len ∧ ReadsF W a L := by
  rcases Go.Deep.open_slice1 Try.underlying53 (by kernel_rfl) h with ⟨hcs, _⟩ | ⟨b, l, c, m, n, V, D, Pl, hcs, hb, hl, hm, hmm, hx, hcell⟩
  · simp [Value.cells] at hcs
    obtain ⟨rfl, rfl, rfl⟩ := hcs
    exact ⟨[], rfl, fun i b e => by simp at e⟩
  · simp [Value.cells] at hcs
    obtain ⟨rfl, rfl, rfl⟩ := hcs
    have hmm' : m = cap := by simpa using hmm
    subst hmm'
    have hf : ∀ i, i < m → ∃ b, V i = .float .f64 b := fun i hi => by
      obtain ⟨b, hb⟩ := trod_f64 Try.underlying56 (hcell i hi).2
      exact ⟨b, by simpa using hb⟩
    refine ⟨(List.range len).map fun i => match V i with | .float _ b => b | _ => 0, by simp, fun i b' e => ?_⟩
    rw [List.getElem?_map] at e
    obtain ⟨i', hi', e⟩ := Option.map_eq_some_iff.1 e
    obtain ⟨hil, rfl⟩ := List.getElem?_eq_some_iff.1 hi'
    simp only [List.length_range, List.getElem_range] at hil e
    obtain ⟨q, hq⟩ := hf i (by omega)
    rw [hq] at e
    simp only at e
    subst e
    obtain ⟨g, off, spot⟩ := b
    have hspot : spot = none := by simpa [Addr.add] using World.cell?_spot (hcell 0 (by omega)).1
    subst hspot
    refine ⟨g, off, rfl, ?_⟩
    rw [← Go.WideShapes.add_plain, ← hq]; exact (hcell i (by omega)).1
theorem fn_nilF (f : Nat) (cap : Array Value) (w : World) : Sem.run Try.prog (binOp BinOp.eql 61 (.func (.func f) #[] cap) .nilFunc) w = .ok (.bool false) w := by
  have he : Sem.run Try.prog (Op.equal 61 (.func (.func f) #[] cap) .nilFunc) w = .ok false w := by
    unfold Op.equal Op.maxDepth
    rw [show (10000 : Nat) = 9999 + 1 from rfl]
    unfold Op.equalIn
    simp [go_sem]
  simp [binOp, go_sem, he]
/-- Put of the law's range, which lies in a box of its own -/
theorem not_put {ba : Nat} {va : Value} {W2 wr : World} {pa : List (Pc Nat)} (hok : OkP pa) (hma : IsMap wr ba va) (hra : RowP wr W2.heap.size va pa) (hch : VF.Chg (fun k => k = ba) W2 wr) (hba : ba + 2 = W2.heap.size) (hbx : W2.heap[ba + 1]? = some (.cells #[.pointer (some ⟨ba, 0, none⟩)] 54 (0, 0))) (lo h2 : Int) (x : Nat) :
    Calls Try.prog 23 #[(.pointer (some ⟨ba, 0, none⟩)), .agg #[.int .i32 lo, .int .i32 h2], .float .f64 x] (wr.alloc (.cells #[.int .i32 lo, .int .i32 h2] 28)) fun e w' => ∃ z : Int, e = .returned (.int .i64 z) ∧
      ((z = 0 ∧ ∃ (hx : Int) (va' : Value) (pa' : List (Pc Nat)) (q : Bool), 0 ≤ lo ∧ lo ≤ hx ∧ hx ≤ 1114111 ∧ w'.heap[wr.heap.size]? = some (.cells #[.int .i32 lo, .int .i32 hx] 28 (0, 0)) ∧ IsMap w' ba va' ∧ RowP w' W2.heap.size va' pa' ∧ OkP pa' ∧
          sizeP pa + (hx - lo) + 1 = sizeP pa' ∧ Hid (∀ y, lo ≤ y → y ≤ hx → atP pa' y = some x) ∧ VF.Chg (fun k => k = ba) W2 w' ∧ (FloatKind.f64.format.order x x == some Ordering.eq) = q ∧ (FloatKind.f64.format.order x x != some Ordering.eq) = !q ∧ w'.cell? ⟨wr.heap.size, 0, none⟩ = some (.int .i32 lo) ∧ w'.cell? ⟨wr.heap.size, 1, none⟩ = some (.int .i32 hx) ∧ w'.cell? ⟨ba + 1, 0, none⟩ = some (.pointer (some ⟨ba, 0, none⟩)) ∧ IntKind.i32.wrap (hx - lo) = hx - lo ∧ IntKind.i64.wrap (hx - lo) = hx - lo ∧ IntKind.i64.wrap (sizeP pa + (hx - lo)) = sizeP pa + (hx - lo) ∧ IntKind.i64.wrap (sizeP pa + (hx - lo) + 1) = sizeP pa + (hx - lo) + 1) ∨
       (¬ z = 0 ∧ IsMap w' ba va ∧ RowP w' W2.heap.size va pa ∧ VF.Chg (fun k => k = ba) W2 w')) := by
  obtain ⟨W3, hW3⟩ : ∃ W3, wr.alloc (.cells #[.int .i32 lo, .int .i32 h2] 28) = W3 := ⟨_, rfl⟩
  have hb3 : Below wr.heap.size wr W3 := by rw [← hW3]; exact (Below.refl _ wr).alloc (Nat.le_refl _) _
  have hx3 : W3.heap[wr.heap.size]? = some (.cells #[.int .i32 lo, .int .i32 h2] 28 (0, 0)) := by rw [← hW3]; exact heap_alloc_new wr _
  have hs3 : W3.heap.size = wr.heap.size + 1 := by rw [← hW3]; simp
  have hsz := hch.size
  rw [hW3]
  refine (put_anyF ba va W2.heap.size pa hok lo h2 x W3 (hma.below hb3) (by omega) (hra.below hb3)).mono ?_
  rintro e w5 ⟨z, rfl, hz⟩
  refine ⟨z, rfl, ?_⟩
  rcases hz with ⟨rfl, hmy, hfr, va', hra', hmv⟩ | ⟨hz, hb5⟩
  · have hle := mayB_iff.1 hmy
    have hbl : ∀ j, blk va = some j → j < wr.heap.size ∧ W2.heap.size ≤ j := fun j e => ⟨(RowV.lt hra j e).2, (RowV.lt hra j e).1⟩
    have hbd := size_bd hok
    have hbg : w5.heap[wr.heap.size]? = some (.cells #[.int .i32 lo, .int .i32 h2] 28 (0, 0)) := by
      refine (hmv.2.1.block _ (by omega) ?_).trans hx3
      rintro (e | e)
      · omega
      · have := hbl _ e; omega
    have hb1 : w5.heap[ba + 1]? = some (.cells #[.pointer (some ⟨ba, 0, none⟩)] 54 (0, 0)) := by
      refine ((hmv.2.1.block _ (by omega) ?_).trans (hb3.block _ (by omega))).trans ((hch.block _ (by omega) (by omega)).trans hbx)
      rintro (e | e)
      · omega
      · have := hbl _ e; omega
    refine .inl ⟨rfl, h2, va', _, _, hle.1, hle.2.1, hle.2.2, hbg, hmv.1, hra', rep_ok hok hle.1 hle.2.1 hle.2.2 (.inr ⟨x, rfl⟩), ?_, ?_, ?_, rfl, rfl, by simp [World.cell?, hbg], by simp [World.cell?, hbg], by simp [World.cell?, hb1], by rw [IntKind.wrap_i32]; omega, by rw [IntKind.wrap_i64]; omega, by rw [IntKind.wrap_i64]; omega, by rw [IntKind.wrap_i64]; omega⟩
    · rw [size_put hok hle.2.1 hfr]; omega
    · intro y h1 h3
      rw [at_rep hok hle.2.1 (.inr ⟨x, rfl⟩), if_pos ⟨h1, h3⟩]
      rfl
    · exact chgF_step (chgF_below hch hb3) hmv.2.1 (fun j hj => hj.imp id fun e => (hbl j e).2)
  · exact .inr ⟨hz, (hma.below hb3).below hb5, (hra.below hb3).below hb5, chgF_below (chgF_below hch hb3) hb5⟩
/-- two values of the law, and what it finds of them -/
theorem not_pair {u v : Nat} (h : u = v ∨ eqv v u = true) : (FloatKind.f64.format.order u v != some Ordering.eq) = false ∨ (u = v ∧ (FloatKind.f64.format.order v v != some Ordering.eq) = true ∧ (FloatKind.f64.format.order v v == some Ordering.eq) = false) := by
  cases hq : eqv u v with
  | true =>
    refine .inl ?_
    unfold eqv at hq
    rw [bne, hq]; rfl
  | false =>
    rcases h with rfl | h
    · refine .inr ⟨rfl, ?_, ?_⟩
      · unfold eqv at hq
        rw [bne, hq]; rfl
      · unfold eqv at hq
        exact hq
    · rw [eqv_symm h] at hq; cases hq
theorem cell_set_far {V : World} {k b o : Nat} {v : Value} (h : b ≠ k) : (V.setCell ⟨k, 0, none⟩ v).cell? ⟨b, o, none⟩ = V.cell? ⟨b, o, none⟩ := by
  have e : (V.setCell ⟨k, 0, none⟩ v).heap[b]? = V.heap[b]? := Below.heap_setCell _ _ _ _ h
  simp only [World.cell?, e]
theorem okP_pre {A B : List (Pc Nat)} (o : OkP (A ++ B)) : OkP A := ⟨(List.pairwise_append.1 o.1).1, fun p hp => o.2 p (List.mem_append_left _ hp)⟩
/-- what the law finds at a stretch that is told -/
theorem not_told {pa : List (Pc Nat)} (hok : OkP pa) {pre : List (Pc Nat)} {xl xh : Int} {xv : Nat} (hSp : pre ++ [⟨xl, xh, xv⟩] <+: strsP eqv pa) : 0 ≤ xl ∧ xl ≤ xh ∧ xh ≤ 1114111 ∧ endP 0 pre ≤ xl ∧ 0 ≤ endP 0 pre ∧ 0 ≤ sizeP pre ∧ sizeP pre ≤ 1114112 ∧ ∃ u, (u = xv ∨ eqv xv u = true) ∧ atP pa xh = some u := by
  have ok := strs_ok eqv hok
  have hmem : (⟨xl, xh, xv⟩ : Pc Nat) ∈ strsP eqv pa := hSp.subset (by simp)
  obtain ⟨t, ht⟩ := hSp
  have o : OkP (pre ++ ⟨xl, xh, xv⟩ :: t) := by
    rw [← ht, List.append_assoc] at ok
    exact ok
  have k := ok.2 _ hmem
  have e := endP_le o 0 k.1 (Int.le_refl _)
  have b := size_bd (okP_pre o)
  exact ⟨k.1, k.2.1, k.2.2, e.1, e.2, b.1, b.2, strs_hi eqv eqv_trans hok hmem⟩
end Go.Proofs.Ytebppdcnfbflkaa
